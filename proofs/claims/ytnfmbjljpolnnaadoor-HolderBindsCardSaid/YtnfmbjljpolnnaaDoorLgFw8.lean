/- A typed reading of memory, an evaluator over the translated operations, and its laws (own work, in one text). -/
import Derived.Test.YtnfmbjljpolnnaaDoorLgFw7
import Derived.RangeFuncRecord
/- Ranges over functions: the rounds of such a loop, each from the temporaries at the loop's entry; what the boxes hold goes on from round to round. -/
set_option linter.all false
namespace Go.Lift
section
variable {P : Program} {E : Env} {c : Ctx} {st st' : List A} {fp fp' : FP} {a : Act} {w w' : World} {S : Hp} {ob : Nat → List Nat}

theorem seqC_bind {β : Type} {all : Array Oper} : ∀ (l : List Oper) (st : List A) (K : List A → Option β), seqC E all l st K = (seqC E all l st some).bind K
  | [], st, K => rfl
  | o :: l, st, K => by
    simp only [seqC]
    rw [cps_eq, cps_eq (K := fun _ st' _ => seqC E all l st' some), Option.bind_assoc]
    congr 1
    funext r
    exact seqC_bind l _ K

theorem drawC_bind {β : Type} {all : Array Oper} : ∀ (l : List Oper) (fps : List FP) (st : List A) (K : List A → Option β), drawC E all l fps st K = (drawC E all l fps st some).bind K
  | [], fps, st, K => by
    simp only [drawC]
    split <;> rfl
  | o :: l, fps, st, K => by
    simp only [drawC]
    rw [cps_eq, cps_eq (K := fun _ st' fp => drawC E all l (fps.append [fp]) st' some), Option.bind_assoc]
    congr 1
    funext r
    exact drawC_bind l _ _ K

def pairK : Ex → List A → Option (Ex × List A) := fun e s => some (e, s)

theorem loopC_bind {β : Type} {f : List A → (Ex → List A → Option β) → Option β} {f2 : List A → (Ex → List A → Option (Ex × List A)) → Option (Ex × List A)} (hf : ∀ st K, f st K = (f2 st pairK).bind fun p => K p.1 p.2)
    (hf2 : ∀ st K, f2 st K = (f2 st pairK).bind fun p => K p.1 p.2) (live : List Nat) : ∀ (n : Nat) (st : List A) (K : Ex → List A → Option β), loopC live f n st K = (loopC live f2 n st pairK).bind fun p => K p.1 p.2
  | 0, st, K => rfl
  | n + 1, st, K => by
    simp only [loopC]
    rw [hf]
    conv => rhs; rw [hf2]
    rw [Option.bind_assoc]
    congr 1
    funext p
    obtain ⟨e, s⟩ := p
    cases e with
    | normal => exact loopC_bind hf hf2 live n _ K
    | exit id => rfl
    | ret => rfl

theorem evC_bind {β : Type} (N : Nat) : ∀ (k : Code) (st : List A) (K : Ex → List A → Option β), evC E N k st K = (evC E N k st pairK).bind fun p => K p.1 p.2
  | .skip, st, K => rfl
  | .region id ops draw, st, K => by
    simp only [evC]
    cases draw with
    | false =>
      simp only
      rw [seqC_bind, seqC_bind (K := fun st => pairK .normal st), Option.bind_assoc]
      rfl
    | true =>
      simp only
      rw [drawC_bind, drawC_bind (K := fun st => pairK .normal st), Option.bind_assoc]
      rfl
  | .seq x z, st, K => by
    simp only [evC]
    rw [evC_bind N x]
    conv => rhs; rw [evC_bind N x]
    rw [Option.bind_assoc]
    congr 1
    funext p
    obtain ⟨e, s⟩ := p
    cases e with
    | normal => exact evC_bind N z _ K
    | exit id => rfl
    | ret => rfl
  | .cond x t e, st, K => by
    simp only [evC]
    rw [cps_eq, cps_eq (β := Ex × List A), Option.bind_assoc]
    congr 1
    funext p
    obtain ⟨v, s, fp⟩ := p
    dsimp only
    split
    · rename_i b
      cases b with
      | true =>
        simp only [cond]
        rw [evC_bind N t, evC_bind N t st (fun e st => pairK e (restr E.live 0 st)), Option.bind_assoc]
        rfl
      | false =>
        simp only [cond]
        rw [evC_bind N e, evC_bind N e st (fun e st => pairK e (restr E.live 0 st)), Option.bind_assoc]
        rfl
    · rfl
  | .block id x, st, K => by
    simp only [evC]
    rw [evC_bind N x]
    conv => rhs; rw [evC_bind N x]
    rw [Option.bind_assoc]
    congr 1
    funext p
    obtain ⟨e, s⟩ := p
    cases e with
    | normal => rfl
    | exit j => dsimp only; split <;> rfl
    | ret => rfl
  | .loop x, st, K => by
    simp only [evC]
    exact loopC_bind (fun st K => evC_bind N x st K) (fun st K => evC_bind N x st K) _ _ _ K
  | .exit id, st, K => rfl
  | .ret, st, K => rfl
  | .rangeFunc .., st, K => rfl
  | .scope .., st, K => rfl
  | .label .., st, K => rfl
  | .goto .., st, K => rfl
  | .refuse .., st, K => rfl


/-! ## the function that is ranged over -/

def gK (E : Env) (g : Operand) : Cmd Dat := rdK E g fun A => match A with
  | .v .opq (.func (.func f) first captured) => (match and' first.isEmpty captured.isEmpty with
    | true => .ret ⟨.fn f .unit, ()⟩
    | false => .fail)
  | A => datK A fun d => .ret d

theorem gK_inv {g : Operand} {d : Dat} (h : exec E (gK E g) st fp = some (d, st', fp')) (hs : SimD c st a w S ob) (hg : GlobOk E.glob S) :
    ∃ S' ob', SimD c st' a w S' ob' ∧ Sub S S' ∧ VR S' d.1 d.2 (a.eval g) := by
  obtain ⟨A, fp1, h1, hA, _⟩ := rdK_inv h hs hg
  split at h1
  · rename_i f first captured _
    split at h1
    · rename_i hck
      obtain ⟨h2, h3⟩ := and'_true hck
      have e1 : first = #[] := by simpa using h2
      have e2 : captured = #[] := by simpa using h3
      subst e1; subst e2
      have := exec_ret h1
      simp only [Prod.mk.injEq] at this
      obtain ⟨rfl, rfl, rfl⟩ := this
      exact ⟨S, ob, hs, Sub.refl _, VR.of_one rfl ⟨#[], by rw [hA.1.opq_inv], rfl⟩⟩
    · exact (exec_fail h1).elim
  · obtain ⟨d', st1, fp2, S', ob', h2, hs', hS, hv, _⟩ := datK_inv h1 hs hA
    have := exec_ret h2
    simp only [Prod.mk.injEq] at this
    obtain ⟨rfl, rfl, rfl⟩ := this
    exact ⟨S', ob', hs', hS, hv⟩

/-! ## the rounds -/

def prepA (x : A) : Bool := match x with
  | .row .. | .iter .. | .cel .. | .yld | .ov .. | .otup .. | .pel .. | .psl .. => false
  | _ => true

def prepOk : List A → Bool
  | [] => true
  | x :: l => and' (prepA x) (prepOk l)

def boxIds : Nat → List A → List Nat
  | _, [] => []
  | i, x :: l => match x with
    | .box .. => i :: boxIds (i + 1) l
    | _ => boxIds (i + 1) l

def psK : List Nat → List Dat → Cmd Unit
  | [], [] => .ret ()
  | p :: ps, d :: l => .set p (.v d.1 d.2) (psK ps l)
  | _, _ => .fail

/-- the temporaries behind a round: those at the loop's entry, the boxes with what they hold now -/
def backS : List A → List A → Option (List A)
  | [], [] => some []
  | x :: l, y :: m => match x with
    | .box .. => (match y with
      | .box t z => (match backS l m with
        | some r => some (.box t z :: r)
        | none => none)
      | _ => none)
    | x => match backS l m with
      | some r => some (x :: r)
      | none => none
  | _, _ => none

def rndE (E : Env) (st : List A) : Env := { E with lent := boxIds 0 st, live := List.range st.length }

def rndC {β : Type} (E : Env) (N : Nat) (ps : List Nat) (assign body : Code) (l : List Dat) (st : List A) (K : Ex → List A → Option β) : Option β :=
  (psK ps l).cps (rndE E st) st fp0 fun _ st0 _ => evC (rndE E st) N assign st0 fun e st1 => match e with
    | .normal => evC (rndE E st) N body st1 fun e st2 => (backS st st2).bind fun st3 => K e st3
    | _ => none

def rfC {β : Type} {ts : List T} (f : denL ts → List A → (Ex → List A → Option β) → Option β) : List (denL ts) → List A → (Ex → List A → Option β) → Option β
  | [], st, K => K .normal st
  | y :: ys, st, K => f y st fun e st' => match e with
    | .normal => rfC f ys st' K
    | e => K e st'

def rfEv {β : Type} (E : Env) (N : Nat) (live : List Nat) (g : Operand) (ps : Array Tmp) (assign body : Code) (st : List A) (K : Ex → List A → Option β) : Option β :=
  (gK E g).cps E st fp0 fun d st1 _ => match d with
    | ⟨.fn f t, x⟩ => (match prepOk (restr live 0 st1) with
      | true => (E.it f ⟨t, x⟩).val.bind fun xs => rfC (fun y => rndC E N ps.toList assign body (mkL (E.it f ⟨t, x⟩).ts y)) xs (restr live 0 st1) K
      | false => none)
    | _ => none

def rndOk (E : Env) (N : Nat) (ps : List Nat) (assign body : Code) (l : List Dat) (st : List A) (e : Ex) (st' : List A) : Prop :=
  ∃ st0 fp st1 st2, exec (rndE E st) (psK ps l) st fp0 = some ((), st0, fp) ∧ evC (rndE E st) N assign st0 pairK = some (.normal, st1) ∧
    evC (rndE E st) N body st1 pairK = some (e, st2) ∧ backS st st2 = some st'

theorem rndC_inv {β : Type} {N : Nat} {ps : List Nat} {assign body : Code} {l : List Dat} {K : Ex → List A → Option β} {y : β} (h : rndC E N ps assign body l st K = some y) :
    ∃ e st', rndOk E N ps assign body l st e st' ∧ K e st' = some y := by
  unfold rndC at h
  obtain ⟨_, st0, fp, h1, h2⟩ := exec_of_cps h
  rw [evC_bind] at h2
  cases ha : evC (rndE E st) N assign st0 pairK with
  | none => rw [ha] at h2; cases h2
  | some p =>
    obtain ⟨e, st1⟩ := p
    rw [ha] at h2
    simp only [Option.bind_some] at h2
    cases e with
    | exit id => cases h2
    | ret => cases h2
    | normal =>
      dsimp only at h2
      rw [evC_bind] at h2
      cases hb : evC (rndE E st) N body st1 pairK with
      | none => rw [hb] at h2; cases h2
      | some p =>
        obtain ⟨e, st2⟩ := p
        rw [hb] at h2
        simp only [Option.bind_some] at h2
        cases hk : backS st st2 with
        | none => rw [hk] at h2; cases h2
        | some st3 =>
          rw [hk] at h2
          exact ⟨e, st3, ⟨st0, fp, st1, st2, h1, ha, hb, hk⟩, h2⟩

/-- the rounds, one behind the other -/
inductive Path {α : Type} (ok : α → List A → Ex → List A → Prop) : List α → List A → Ex → List A → Prop
  | nil {st : List A} : Path ok [] st .normal st
  | more {y : α} {ys : List α} {st st1 : List A} {e : Ex} {st2 : List A} (h : ok y st .normal st1) (hp : Path ok ys st1 e st2) : Path ok (y :: ys) st e st2
  | out {y : α} {ys : List α} {st st1 : List A} {e : Ex} (h : ok y st e st1) (he : e ≠ .normal) : Path ok (y :: ys) st e st1

theorem rfC_path {β : Type} {ts : List T} {f : denL ts → List A → (Ex → List A → Option β) → Option β} {ok : denL ts → List A → Ex → List A → Prop}
    (hf : ∀ y st K r, f y st K = some r → ∃ e st', ok y st e st' ∧ K e st' = some r) : ∀ (xs : List (denL ts)) (st : List A) (K : Ex → List A → Option β) (r : β), rfC f xs st K = some r →
    ∃ e st', Path ok xs st e st' ∧ K e st' = some r
  | [], st, K, r, h => ⟨.normal, st, .nil, h⟩
  | y :: ys, st, K, r, h => by
    simp only [rfC] at h
    obtain ⟨e, st1, h1, h2⟩ := hf _ _ _ _ h
    cases e with
    | normal =>
      obtain ⟨e2, st2, h3, h4⟩ := rfC_path hf ys st1 K r h2
      exact ⟨e2, st2, .more h1 h3, h4⟩
    | exit id => exact ⟨_, st1, .out h1 (by simp), h2⟩
    | ret => exact ⟨_, st1, .out h1 (by simp), h2⟩

theorem prepOk_at : ∀ {l : List A}, prepOk l = true → ∀ (i : Nat) (x : A), l[i]? = some x → prepA x = true
  | [], _, i, x, hx => by simp at hx
  | y :: l, h, i, x, hx => by
    obtain ⟨h1, h2⟩ := and'_true h
    cases i with
    | zero => simp at hx; subst hx; exact h1
    | succ i => exact prepOk_at h2 i x (by simpa using hx)

theorem mem_boxIds : ∀ {l : List A} {k j : Nat}, j ∈ boxIds k l ↔ ∃ i t x, j = k + i ∧ l[i]? = some (.box t x)
  | [], k, j => by simp [boxIds]
  | y :: l, k, j => by
    have ih := mem_boxIds (l := l) (k := k + 1) (j := j)
    have tail : (∃ i t x, j = k + 1 + i ∧ l[i]? = some (.box t x)) ↔ ∃ i t x, j = k + (i + 1) ∧ (y :: l)[i + 1]? = some (.box t x) := by
      constructor
      · rintro ⟨i, t, x, e, h⟩; exact ⟨i, t, x, by omega, by simpa using h⟩
      · rintro ⟨i, t, x, e, h⟩; exact ⟨i, t, x, by omega, by simpa using h⟩
    have split : (∃ i t x, j = k + i ∧ (y :: l)[i]? = some (.box t x)) ↔ (∃ t x, j = k ∧ y = .box t x) ∨ ∃ i t x, j = k + (i + 1) ∧ (y :: l)[i + 1]? = some (.box t x) := by
      constructor
      · rintro ⟨i, t, x, e, h⟩
        cases i with
        | zero => simp at h; exact .inl ⟨t, x, by omega, h⟩
        | succ i => exact .inr ⟨i, t, x, e, h⟩
      · rintro (⟨t, x, e, h⟩ | ⟨i, t, x, e, h⟩)
        · exact ⟨0, t, x, by omega, by simp [h]⟩
        · exact ⟨i + 1, t, x, e, h⟩
    rw [split, ← tail]
    cases y <;> simp only [boxIds] <;> first
      | (rw [List.mem_cons, ih]; simp)
      | (rw [ih]; simp)

theorem backS_length : ∀ {l m r : List A}, backS l m = some r → r.length = l.length
  | [], [], r, h => by simp [backS] at h; subst h; rfl
  | [], _ :: _, r, h => by simp [backS] at h
  | _ :: _, [], r, h => by simp [backS] at h
  | x :: l, y :: m, r, h => by
    cases x <;> simp only [backS] at h
    case box =>
      cases y <;> simp only [reduceCtorEq] at h
      split at h
      · rename_i r' hr
        cases h
        simp [backS_length hr]
      · cases h
    all_goals
      split at h
      · rename_i r' hr
        cases h
        simp [backS_length hr]
      · cases h

theorem backS_at : ∀ {l m r : List A}, backS l m = some r → ∀ (i : Nat) (x : A), l[i]? = some x →
    (isBoxA x = true ∧ ∃ t z, m[i]? = some (.box t z) ∧ r[i]? = some (.box t z)) ∨ (isBoxA x = false ∧ r[i]? = some x)
  | [], [], r, h, i, x, hx => by simp at hx
  | [], _ :: _, r, h, i, x, hx => by simp [backS] at h
  | _ :: _, [], r, h, i, x, hx => by simp [backS] at h
  | u :: l, y :: m, r, h, i, x, hx => by
    cases u <;> simp only [backS] at h
    case box =>
      cases y <;> simp only [reduceCtorEq] at h
      split at h
      · rename_i r' hr
        cases h
        cases i with
        | zero => simp at hx; subst hx; exact .inl ⟨rfl, _, _, rfl, rfl⟩
        | succ i => simpa using backS_at hr i x (by simpa using hx)
      · cases h
    all_goals
      split at h
      · rename_i r' hr
        cases h
        cases i with
        | zero => simp at hx; subst hx; exact .inr ⟨rfl, rfl⟩
        | succ i => simpa using backS_at hr i x (by simpa using hx)
      · cases h

theorem psK_inv (hb : Base P E c) : ∀ (ps : List Nat) (l : List Dat) (vs : List Value) (st : List A) (fp : FP) (a : Act) (ob : Nat → List Nat) (st' : List A) (fp' : FP), exec E (psK ps l) st fp = some ((), st', fp') → SimD c st a w S ob → TupRel S l vs →
    ps.length = vs.length ∧ ∃ ob', SimD c st' { a with tmps := (ps.zip vs).foldl (fun tmps p => tmps.setIfInBounds p.1 p.2) a.tmps } w S ob'
  | [], [], vs, st, fp, a, ob, st', fp', h, hs, ht => by
    cases ht
    have := exec_ret h
    simp only [Prod.mk.injEq] at this
    obtain ⟨_, rfl, _⟩ := this
    exact ⟨rfl, ob, hs⟩
  | [], _ :: _, vs, st, fp, a, ob, st', fp', h, hs, ht => (exec_fail h).elim
  | _ :: _, [], vs, st, fp, a, ob, st', fp', h, hs, ht => (exec_fail h).elim
  | p :: ps, d :: l, vs, st, fp, a, ob, st', fp', h, hs, ht => by
    cases ht with
    | cons hv ht =>
      rename_i v vs
      obtain ⟨fp1, h1, hs1⟩ := set_sim (o' := []) h hb hs (x := .v d.1 d.2) (v := v) ⟨hv, rfl⟩ (fun b hb => by cases hb)
      obtain ⟨hl, ob', hs2⟩ := psK_inv hb ps l vs _ _ _ _ _ _ h1 hs1 ht
      exact ⟨by simp [hl], ob', hs2⟩

/-! ## the same state, seen from elsewhere -/

/-- one block that nobody reads or owns may turn; the context may be another -/
theorem SimD.rebase {c' : Ctx} {a' : Act} {l : Nat} (h : SimD c st a w S ob) (hw : ∀ b, b ≠ l → hp w' b = hp w b) (hl : S l = none) (hol : ∀ i, l ∉ ob i) (hd : ∀ q, hp w l ≠ some (.deferred q))
    (hc : WF c'.w0 c'.B0 w') (hS : Sub c'.S0 S) (hf : ∀ i b, b ∈ ob i → c'.B0 b ∨ c'.w0.heap.size ≤ b) (hn : ∀ b, S b ≠ none → c'.S0 b ≠ none ∨ c'.B0 b ∨ c'.w0.heap.size ≤ b)
    (hda : (a'.defers = a.defers ∧ ∀ D, c.B0 D ∨ c.w0.heap.size ≤ D → c'.B0 D ∨ c'.w0.heap.size ≤ D) ∨ a'.defers = []) (hta : a'.tmps = a.tmps) (hlent : ∀ p ∈ c'.lent, tv a p.1 = p.2) : SimD c' st a' w' S ob := by
  have htv : tv a' = tv a := by funext i; simp only [tv, hta]
  have hob : ∀ {i b}, b ∈ ob i → b ≠ l := fun hb e => hol _ (by rw [← e]; exact hb)
  refine ⟨?_, by rw [hta]; exact h.size, ?_, h.refs, h.out, h.inj, h.nd, h.hid, ?_, hS, hf, hn, ?_, hc⟩
  · rcases hda with ⟨hda, hm⟩ | hda
    case inr => rw [hda]; exact ⟨[], rfl, .nil, fun D hD => by cases hD⟩
    rw [hda]
    obtain ⟨Ds, e, hnd, hD⟩ := h.defers
    refine ⟨Ds, e, hnd, fun D hDm => ?_⟩
    obtain ⟨h1, h2, h3, h4⟩ := hD D hDm
    refine ⟨?_, h2, h3, hm D h4⟩
    rw [hw D (fun e => hd _ (by rw [← e]; exact h1))]; exact h1
  · intro i x hx
    rw [htv]
    refine (h.rel i x hx).mono (Sub.refl _) (fun b hb => hw b (hob hb)) (fun _ _ => rfl) (fun r hr b hb => hw b (hob (h.main hx (A.cell_refs hr) hb)))
  · intro b o hbo
    rw [hw b (fun e => by subst e; rw [hl] at hbo; cases hbo)]
    exact h.sub b o hbo
  · intro p hp'
    rw [htv]; exact hlent p hp'

/-- what a round has left of the world in which it began -/
structure Left (W : World) (S : Hp) (ob : Nat → List Nat) (l : Nat) (W3 : World) (S3 : Hp) (ob3 : Nat → List Nat) : Prop where
  wf : WF W (fun b => b = l ∨ ∃ i, b ∈ ob i) W3
  sub : Sub S S3
  newS : ∀ b, S3 b ≠ none → S b ≠ none ∨ (∃ i, b ∈ ob i) ∨ W.heap.size ≤ b
  fresh : ∀ i b, b ∈ ob3 i → (∃ i, b ∈ ob i) ∨ W.heap.size ≤ b

theorem Left.outS {W W3 : World} {S S3 : Hp} {ob ob3 : Nat → List Nat} {l b : Nat} (h : Left W S ob l W3 S3 ob3) (hb : b < W.heap.size) (hS : S b = none) (ho : ∀ i, b ∉ ob i) : S3 b = none ∧ ∀ i, b ∉ ob3 i := by
  constructor
  · cases hx : S3 b with
    | none => rfl
    | some o =>
      exfalso
      rcases h.newS b (by rw [hx]; simp) with h1 | ⟨i, h1⟩ | h1
      · exact h1 hS
      · exact ho i h1
      · omega
  · intro i hi
    rcases h.fresh i b hi with ⟨j, h1⟩ | h1
    · exact ho j h1
    · omega

/-- the loop's entry, behind a round -/
theorem SimD.back {a0 a3 : Act} {c2 : Ctx} {W W3 W4 : World} {S3 : Hp} {ob3 : Nat → List Nat} {l : Nat} {st3 st' : List A} (h : SimD c st a0 W S ob) (hprep : prepOk st = true) (h3 : SimD c2 st3 a3 W3 S3 ob3) (hk : backS st st3 = some st') (hL : Left W S ob l W3 S3 ob3)
    (hl : l < W.heap.size) (hSl : S l = none) (hol : ∀ i, l ∉ ob i) (hdl : ∀ q, hp W l ≠ some (.deferred q)) (hcl : c.B0 l ∨ c.w0.heap.size ≤ l) (hw : ∀ b, b ≠ l → hp W4 b = hp W3 b) (hwf : WF W (fun b => b = l ∨ ∃ i, b ∈ ob i) W4)
    (htv : ∀ i t x, st[i]? = some (.box t x) → tv a3 i = tv a0 i) : ∃ ob4, SimD c st' a0 W4 S3 ob4 ∧ (∀ i, l ∉ ob4 i) ∧ ∀ {i b}, b ∈ ob4 i → b ∈ ob3 i := by
  classical
  obtain ⟨hSl3, hol3⟩ := hL.outS hl hSl hol
  let ob4 : Nat → List Nat := fun i => if (∃ t x, st[i]? = some (.box t x)) then ob3 i else []
  have hsub : ∀ {i b}, b ∈ ob4 i → b ∈ ob3 i := by
    intro i b hb
    simp only [ob4] at hb
    split at hb
    · exact hb
    · cases hb
  have hne : ∀ {i b}, b ∈ ob3 i → b ≠ l := fun hb e => hol3 _ (by rw [← e]; exact hb)
  have hlen := backS_length hk
  have at' : ∀ {i : Nat} {y : A}, st'[i]? = some y → ∃ x : A, st[i]? = some x := by
    intro i y hy
    have : i < st.length := by
      rcases Nat.lt_or_ge i st.length with h' | h'
      · exact h'
      · rw [List.getElem?_eq_none (by omega)] at hy; cases hy
    exact ⟨_, List.getElem?_eq_getElem this⟩
  refine ⟨ob4, ⟨?_, by rw [hlen]; exact h.size, ?_, ?_, ?_, ?_, ?_, ?_, ?_, h.mono.trans hL.sub, ?_, ?_, h.lent, ?_⟩, fun i hi => hol3 i (hsub hi), hsub⟩
  · obtain ⟨Ds, e, hnd, hD⟩ := h.defers
    refine ⟨Ds, e, hnd, fun D hDm => ?_⟩
    obtain ⟨h1, h2, h4, h5⟩ := hD D hDm
    have hDl : D ≠ l := fun e => hdl _ (by rw [← e]; exact h1)
    have hlt : D < W.heap.size := hp_lt h1
    obtain ⟨g1, g2⟩ := hL.outS hlt h2 h4
    refine ⟨?_, g1, fun i hi => g2 i (hsub hi), h5⟩
    have := hwf.same D hlt (by rintro (e | ⟨i, hi⟩); exact hDl e; exact h4 i hi)
    simp only [hp]; rw [this]; exact h1
  · intro i y hy
    obtain ⟨x, hx⟩ := at' hy
    rcases backS_at hk i x hx with ⟨hbx, t, z, hm, hr⟩ | ⟨hbx, hr⟩
    · rw [hr] at hy; cases hy
      have hbox : ∃ t x, st[i]? = some (.box t x) := by
        cases x <;> simp [isBoxA] at hbx
        exact ⟨_, _, hx⟩
      have e4 : ob4 i = ob3 i := by simp only [ob4]; rw [if_pos hbox]
      rw [e4]
      obtain ⟨t', x', hx'⟩ := hbox
      rw [← htv i t' x' hx']
      exact (h3.rel i _ hm).mono (Sub.refl _) (fun b hb => hw b (hne hb)) (fun _ _ => rfl)
    · rw [hr] at hy; cases hy
      have hnb : ¬ ∃ t x, st[i]? = some (.box t x) := by
        rintro ⟨t, z, hz⟩
        rw [hx] at hz; cases hz; simp [isBoxA] at hbx
      have e4 : ob4 i = [] := by simp only [ob4]; rw [if_neg hnb]
      rw [e4]
      have hpa := prepOk_at hprep i _ hx
      have hrel := h.rel i _ hx
      have hno : y.own = false := by cases y <;> simp [prepA] at hpa <;> simp [isBoxA] at hbx <;> rfl
      have hnc : y.cell = none := by cases y <;> simp [prepA] at hpa <;> rfl
      rw [hrel.nil_of_not_own hno] at hrel
      exact hrel.mono hL.sub (fun b hb => by cases hb) (fun _ _ => rfl) (fun r hr => by rw [hnc] at hr; cases hr)
  · intro i y r hy hyr
    obtain ⟨x, hx⟩ := at' hy
    rcases backS_at hk i x hx with ⟨hbx, t, z, hm, hr⟩ | ⟨hbx, hr⟩
    · rw [hr] at hy; cases hy; cases hyr
    · rw [hr] at hy; cases hy
      obtain ⟨u, hu, huo⟩ := h.refs i _ r hx hyr
      have hpa := prepOk_at hprep r _ hu
      rcases backS_at hk r u hu with ⟨_, t, z, _, hr'⟩ | ⟨hbu, hr'⟩
      · exact ⟨_, hr', rfl⟩
      · exfalso; cases u <;> simp [A.own] at huo <;> simp [prepA] at hpa <;> simp [isBoxA] at hbu
  · intro i hi
    rw [hlen] at hi
    simp only [ob4]
    rw [if_neg (by rintro ⟨t, x, hx⟩; rw [List.getElem?_eq_none hi] at hx; cases hx)]
  · exact fun i j b hi hj => h3.inj i j b (hsub hi) (hsub hj)
  · intro i
    simp only [ob4]
    split
    · exact h3.nd i
    · exact .nil
  · exact fun i b hi => h3.hid i b (hsub hi)
  · intro b o hbo
    rw [hw b (fun e => by subst e; rw [hSl3] at hbo; cases hbo)]
    exact h3.sub b o hbo
  · intro i b hi
    rcases hL.fresh i b (hsub hi) with ⟨j, hj⟩ | hge
    · exact h.fresh j b hj
    · exact .inr (Nat.le_trans h.frame.size hge)
  · intro b hb
    rcases hL.newS b hb with h1 | ⟨j, hj⟩ | hge
    · exact h.newS b h1
    · exact .inr (h.fresh j b hj)
    · exact .inr (.inr (Nat.le_trans h.frame.size hge))
  · refine h.frame.trans hwf ?_
    rintro b (rfl | ⟨i, hi⟩)
    · exact hcl
    · exact h.fresh i b hi

theorem backS_prep : ∀ {l m r : List A}, backS l m = some r → prepOk l = true → prepOk r = true
  | [], [], r, h, hp => by simp [backS] at h; subst h; rfl
  | [], _ :: _, r, h, hp => by simp [backS] at h
  | _ :: _, [], r, h, hp => by simp [backS] at h
  | x :: l, y :: m, r, h, hp => by
    obtain ⟨h1, h2⟩ := and'_true hp
    have fin : ∀ {z : A} {r' : List A}, prepA z = true → backS l m = some r' → prepOk (z :: r') = true := by
      intro z r' hz hr
      show and' (prepA z) (prepOk r') = true
      rw [backS_prep hr h2, hz]; rfl
    cases x <;> simp only [backS] at h
    case box =>
      cases y <;> simp only [reduceCtorEq] at h
      split at h
      · rename_i r' hr
        cases h
        exact fin rfl hr
      · cases h
    all_goals
      split at h
      · rename_i r' hr
        cases h
        exact fin h1 hr
      · cases h

theorem WF.putObj {w0 w : World} {B : Nat → Prop} (h : WF w0 B w) {b : Nat} (hb : B b ∨ w0.heap.size ≤ b) (o : Obj) : WF w0 B (w.putObj b o) :=
  ⟨by have := h.size; simpa using this, fun i hi hn => by
    have : i ≠ b := fun e => by subst e; exact hb.elim hn (fun h => by omega)
    rw [World.putObj_heap_other this]; exact h.same i hi hn, h.tape, h.os, h.output⟩

theorem WF.weaken {w0 w : World} {B B' : Nat → Prop} (h : WF w0 B w) (hB : ∀ b, B b → B' b) : WF w0 B' w :=
  ⟨h.size, fun b hb hn => h.same b hb (fun h' => hn (hB b h')), h.tape, h.os, h.output⟩

theorem WF.subHp {w w' : World} (h : WF w (fun _ => False) w') : Sub (hp w) (hp w') := fun b o hb => by
  have := h.same b (hp_lt hb) (fun h => h)
  simp only [hp] at hb ⊢
  rw [this]; exact hb

def exJ : Ex → Option Code
  | .normal => none
  | .exit id => some (.exit id)
  | .ret => some .ret

def loopRec (fn : FuncId) (tmps : Array Value) (ps : Array Tmp) (assign body : Code) (D : Nat) (s : LoopState) (j : Option Code) : Loop :=
  { state := s, pending := j, fn := fn, tmps := tmps, params := ps, assign := assign, body := body, defers := D }

theorem rnd_base (hb : Base P E c) (hS : Sub c.S0 S) {w0 : World} {B : Nat → Prop} {st : List A} {a0 : Act} : Base P (rndE E st) ⟨w0, S, B, (boxIds 0 st).map fun i => (i, tv a0 i)⟩ :=
  ⟨⟨hb.env.ty, hb.env.fn, hb.env.it, hb.env.mixed⟩, hb.glob.mono hS, by simp [rndE, Function.comp_def]⟩

/-- ONE ROUND -/
theorem round_at (hb : Base P E c) {N : Nat} {fn : FuncId} {ps : Array Tmp} {assign body : Code} {D l : Nat} {a0 : Act} {W : World} {ld : List Dat} {vals : Array Value} {e : Ex}
    (h : SimD c st a0 W S ob) (hprep : prepOk st = true) (hrec : hp W l = some (.loop (loopRec fn a0.tmps ps assign body D .ready none))) (hSl : S l = none) (hol : ∀ i, l ∉ ob i) (hcl : c.B0 l ∨ c.w0.heap.size ≤ l)
    (hr : rndOk E N ps.toList assign body ld st e st') (hvals : TupRel S ld vals.toList) :
    YieldAt Fence.wide 0 P l vals W fun en W4 => en = .returned (.bool (exJ e).isNone) ∧ ∃ S3 ob4, SimD c st' a0 W4 S3 ob4 ∧ Left W S ob l W4 S3 ob4 ∧
      hp W4 l = some (.loop (loopRec fn a0.tmps ps assign body D (if (exJ e).isNone then .ready else .done) (exJ e))) ∧ S3 l = none ∧ ∀ i, l ∉ ob4 i := by
  obtain ⟨st0, fp, st1, st2, h0, ha, hbody, hk⟩ := hr
  have hlt : l < W.heap.size := hp_lt hrec
  have hdl : ∀ q, hp W l ≠ some (.deferred q) := fun q hq => by rw [hrec] at hq; cases hq
  let L : List (Nat × Value) := (boxIds 0 st).map fun i => (i, tv a0 i)
  have hLm : ∀ p ∈ L, tv a0 p.1 = p.2 := by
    intro p hp'
    obtain ⟨i, _, rfl⟩ := List.mem_map.1 hp'
    rfl
  let c1 : Ctx := ⟨W, S, fun b => ∃ i, b ∈ ob i, L⟩
  let ar : Act := { tmps := a0.tmps, defers := [] }
  have hs1 : SimD c1 st ar W S ob := h.rebase (l := l) (fun _ _ => rfl) hSl hol hdl (WF.refl _ _) (Sub.refl _) (fun i b hi => .inl ⟨i, hi⟩) (fun b hb => .inl hb) (.inr rfl) rfl hLm
  have hb1 : Base P (rndE E st) c1 := rnd_base hb h.mono
  obtain ⟨hpl, ob0, hs2⟩ := psK_inv hb1 _ _ _ _ _ _ _ _ _ h0 hs1 hvals
  obtain ⟨e1, st1', hp1, hw1⟩ := evC_sound (β := Ex × List A) hb1 N assign _ _ _ ha
  simp only [pairK, Option.some.injEq, Prod.mk.injEq] at hp1
  obtain ⟨rfl, rfl⟩ := hp1
  have efold : ((ps.zip vals).foldl (fun tmps (t, a) => tmps.setIfInBounds t a) a0.tmps) = (ps.toList.zip vals.toList).foldl (fun tmps p => tmps.setIfInBounds p.1 p.2) a0.tmps := by
    rw [← Array.foldl_toList, Array.toList_zip]
  refine ⟨_, _, _, _, run_yield (r := loopRec fn a0.tmps ps assign body D .ready none) hrec (show vals.size = ps.size by simpa using hpl.symm), ?_⟩
  refine roundIn_of_wpIn (F := Fence.wide) trivial ?_
  have e0 : ({ tmps := ((loopRec fn a0.tmps ps assign body D .ready none).params.zip vals).foldl (fun tmps (t, a) => tmps.setIfInBounds t a) (loopRec fn a0.tmps ps assign body D .ready none).tmps, defers := [] } : Act) =
      { ar with tmps := (ps.toList.zip vals.toList).foldl (fun tmps p => tmps.setIfInBounds p.1 p.2) ar.tmps } := by
    show ({ tmps := _, defers := [] } : Act) = { tmps := _, defers := [] }
    rw [← efold]; rfl
  rw [e0]
  refine hw1 (some l) _ _ W ⟨S, ob0, hs2⟩ ?_
  rintro a1 W1 ⟨S1, ob1, hs3⟩
  have hL1 : Left W S ob l W1 S1 ob1 := ⟨hs3.frame.weaken (fun b hb => .inr hb), hs3.mono, hs3.newS, hs3.fresh⟩
  obtain ⟨hSl1, hol1⟩ := hL1.outS hlt hSl hol
  have hrec1 : hp W1 l = some (.loop (loopRec fn a0.tmps ps assign body D .ready none)) := by
    have := hs3.frame.same l hlt (by rintro ⟨i, hi⟩; exact hol i hi)
    simp only [hp] at hrec ⊢
    rw [this]; exact hrec
  refine ⟨_, run_beginRound hrec1 rfl, ?_⟩
  generalize hW2 : W1.putObj l (.loop { loopRec fn a0.tmps ps assign body D .ready none with state := .busy }) = W2
  have hsz2 : W2.heap.size = W1.heap.size := by rw [← hW2]; simp
  have hother2 : ∀ b, b ≠ l → hp W2 b = hp W1 b := fun b hbl => by rw [← hW2]; exact World.putObj_heap_other hbl
  have hrec2 : hp W2 l = some (.loop (loopRec fn a0.tmps ps assign body D .busy none)) := by
    rw [← hW2]; exact World.putObj_heap_same (hp_lt hrec1)
  let c2 : Ctx := ⟨W2, S1, fun b => b ≠ l ∧ ((∃ i, b ∈ ob1 i) ∨ (∃ i, b ∈ ob i) ∨ W.heap.size ≤ b), L⟩
  have hne1 : ∀ {i b}, b ∈ ob1 i → b ≠ l := fun hb e => hol1 _ (by rw [← e]; exact hb)
  have hs4 : SimD c2 st1' a1 W2 S1 ob1 := hs3.rebase (l := l) hother2 hSl1 hol1 (fun q hq => by rw [hrec1] at hq; cases hq) (WF.refl _ _) (Sub.refl _) (fun i b hi => .inl ⟨hne1 hi, .inl ⟨i, hi⟩⟩) (fun b hb => .inl hb)
    (.inl ⟨rfl, fun D hD => .inl (by
      rcases hD with ⟨i, hi⟩ | hge
      · exact ⟨fun e => hol i (by rw [← e]; exact hi), .inr (.inl ⟨i, hi⟩)⟩
      · exact ⟨fun e => by subst e; exact absurd hlt (Nat.not_lt.2 hge), .inr (.inr hge)⟩)⟩) rfl hs3.lent
  have hb2 : Base P (rndE E st) c2 := rnd_base hb (h.mono.trans hL1.sub)
  obtain ⟨e2, st2', hp2, hw2⟩ := evC_sound (β := Ex × List A) hb2 N body _ _ _ hbody
  simp only [pairK, Option.some.injEq, Prod.mk.injEq] at hp2
  obtain ⟨rfl, rfl⟩ := hp2
  refine hw2 (some l) _ a1 W2 ⟨S1, ob1, hs4⟩ ?_
  rintro a3 W3 ⟨S3, ob3, hs5⟩
  have hwf2 : WF W (fun b => b = l ∨ ∃ i, b ∈ ob i) W2 := by rw [← hW2]; exact hL1.wf.putObj (b := l) (.inl (.inl rfl)) _
  have hL3 : Left W S ob l W3 S3 ob3 := by
    have hin : ∀ b, c2.B0 b → (∃ i, b ∈ ob i) ∨ W.heap.size ≤ b := by
      rintro b ⟨_, ⟨i, hi⟩ | hi | hi⟩
      · exact hL1.fresh i b hi
      · exact .inl hi
      · exact .inr hi
    have hge : ∀ b, W2.heap.size ≤ b → W.heap.size ≤ b := fun b hb => Nat.le_trans hwf2.size hb
    refine ⟨hwf2.trans hs5.frame (fun b hb => (hin b hb).imp (fun h => .inr h) id), hL1.sub.trans hs5.mono, fun b hb => ?_, fun i b hi => ?_⟩
    · rcases hs5.newS b hb with h1 | h1 | h1
      · exact hL1.newS b h1
      · exact .inr (hin b h1)
      · exact .inr (.inr (hge b h1))
    · rcases hs5.fresh i b hi with h1 | h1
      · exact hin b h1
      · exact .inr (hge b h1)
  obtain ⟨hSl3, hol3⟩ := hL3.outS hlt hSl hol
  have hrec3 : hp W3 l = some (.loop (loopRec fn a0.tmps ps assign body D .busy none)) := by
    have := hs5.frame.same l (hp_lt hrec2) (fun hbl => hbl.1 rfl)
    simp only [hp] at hrec2 ⊢
    rw [this]; exact hrec2
  have hend := run_endRound (P := P) (exJ e2) hrec3
  generalize hW4 : W3.putObj l (.loop { loopRec fn a0.tmps ps assign body D .busy none with state := if (exJ e2).isNone then .ready else .done, pending := exJ e2 }) = W4 at hend
  have hother4 : ∀ b, b ≠ l → hp W4 b = hp W3 b := fun b hbl => by rw [← hW4]; exact World.putObj_heap_other hbl
  have hrec4 : hp W4 l = some (.loop (loopRec fn a0.tmps ps assign body D (if (exJ e2).isNone then .ready else .done) (exJ e2))) := by
    rw [← hW4]; exact World.putObj_heap_same (hp_lt hrec3)
  have hwf4 : WF W (fun b => b = l ∨ ∃ i, b ∈ ob i) W4 := by rw [← hW4]; exact hL3.wf.putObj (b := l) (.inl (.inl rfl)) _
  obtain ⟨ob4, hs6, hol4, hob4⟩ := h.back hprep hs5 hk hL3 hlt hSl hol hdl hcl hother4 hwf4 (fun i t x hi => by
    exact hs5.lent (i, tv a0 i) (List.mem_map.2 ⟨i, mem_boxIds.2 ⟨i, t, x, by omega, hi⟩, rfl⟩))
  have hfin : (Ending.returned (.bool (exJ e2).isNone)) = .returned (.bool (exJ e2).isNone) ∧ ∃ S3 ob4, SimD c st' a0 W4 S3 ob4 ∧ Left W S ob l W4 S3 ob4 ∧
      hp W4 l = some (.loop (loopRec fn a0.tmps ps assign body D (if (exJ e2).isNone then .ready else .done) (exJ e2))) ∧ S3 l = none ∧ ∀ i, l ∉ ob4 i :=
    ⟨rfl, S3, ob4, hs6, ⟨hwf4, hL3.sub, hL3.newS, fun i b hi => hL3.fresh i b (hob4 hi)⟩, hrec4, hSl3, hol4⟩
  cases e2 with
  | normal => exact ⟨_, _, hend, hfin⟩
  | exit id => exact ⟨_, _, hend, hfin⟩
  | ret => exact ⟨_, _, hend, hfin⟩

theorem fn_inv {f : Nat} {t : T} {x : t.den} {v : Value} (h : VR S (.fn f t) x v) : ∃ caps : Array Value, v = .func (.func f) #[] caps ∧ Rd S t x caps.toList := by
  unfold VR at h
  simp only [T.isAgg, Bool.false_eq_true, if_false] at h
  obtain ⟨caps, ev, hrd⟩ := h
  simp only [List.cons.injEq, and_true] at ev
  exact ⟨caps, ev, hrd⟩

/-- what is not read and not owned may turn -/
theorem SimD.away (h : SimD c st a w S ob) (hw : ∀ b, (S b ≠ none ∨ (∃ i, b ∈ ob i) ∨ markOf b ∈ a.defers) → hp w' b = hp w b) (hf : WF c.w0 c.B0 w') : SimD c st a w' S ob := by
  refine ⟨?_, h.size, fun i x hx => ?_, h.refs, h.out, h.inj, h.nd, h.hid, fun b o hb => ?_, h.mono, h.fresh, h.newS, h.lent, hf⟩
  · obtain ⟨Ds, e, hnd, hD⟩ := h.defers
    refine ⟨Ds, e, hnd, fun D hDm => ?_⟩
    obtain ⟨h1, h2⟩ := hD D hDm
    refine ⟨?_, h2⟩
    rw [hw D (.inr (.inr (by rw [e]; exact List.mem_map.2 ⟨D, hDm, rfl⟩)))]; exact h1
  · exact (h.rel i x hx).mono (Sub.refl _) (fun b hb => hw b (.inr (.inl ⟨i, hb⟩))) (fun _ _ => rfl) (fun r hr b hb => hw b (.inr (.inl ⟨r, h.main hx (A.cell_refs hr) hb⟩)))
  · rw [hw b (.inl (by rw [hb]; simp))]; exact h.sub b o hb

/-- more is read -/
theorem SimD.merge {S1 : Hp} (h : SimD c st a w S ob) (h1 : Sub S1 (hp w)) (h2 : ∀ b, S1 b ≠ none → S b = none → (∀ i, b ∉ ob i) ∧ markOf b ∉ a.defers ∧ (c.B0 b ∨ c.w0.heap.size ≤ b)) :
    ∃ S', SimD c st a w S' ob ∧ Sub S S' ∧ Sub S1 S' ∧ ∀ b, S' b ≠ none → S b ≠ none ∨ S1 b ≠ none := by
  let S' : Hp := fun b => match S b with
    | some o => some o
    | none => S1 b
  have e1 : ∀ {b o}, S b = some o → S' b = some o := fun hb => by simp only [S', hb]
  have e2 : ∀ {b}, S b = none → S' b = S1 b := fun hb => by simp only [S', hb]
  have hS : Sub S S' := fun b o hb => e1 hb
  have hmk : Marks c a.defers w S' ob := by
    obtain ⟨Ds, e, hnd, hDs⟩ := h.defers
    refine ⟨Ds, e, hnd, fun D hDm => ?_⟩
    obtain ⟨k1, k2, k3, k4⟩ := hDs D hDm
    refine ⟨k1, ?_, k3, k4⟩
    rw [e2 k2]
    cases hx : S1 D with
    | none => rfl
    | some o => exact absurd (by rw [e]; exact List.mem_map.2 ⟨D, hDm, rfl⟩) (h2 D (by rw [hx]; simp) k2).2.1
  refine ⟨S', ⟨hmk, h.size, fun i x hx => (h.rel i x hx).mono hS (fun _ _ => rfl) (fun _ _ => rfl) (fun _ _ _ _ => rfl), h.refs, h.out, h.inj, h.nd, fun i b hi => ?_, fun b o hb => ?_, h.mono.trans hS, h.fresh, fun b hb => ?_, h.lent, h.frame⟩, hS, fun b o hb => ?_, fun b hb => ?_⟩
  · have := h.hid i b hi
    rw [e2 this]
    cases hx : S1 b with
    | none => rfl
    | some o => exact absurd hi ((h2 b (by rw [hx]; simp) this).1 i)
  · cases hs : S b with
    | some o' => rw [e1 hs] at hb; cases hb; exact h.sub b _ hs
    | none => rw [e2 hs] at hb; exact h1 b o hb
  · cases hs : S b with
    | some o' => exact h.newS b (by rw [hs]; simp)
    | none => rw [e2 hs] at hb; exact .inr (h2 b hb hs).2.2
  · cases hs : S b with
    | some o' =>
      have := h.sub b _ hs
      rw [h1 b o hb] at this; cases this
      exact e1 hs
    | none => rw [e2 hs]; exact hb
  · cases hs : S b with
    | some o' => exact .inl (by simp)
    | none => rw [e2 hs] at hb; exact .inr hb

/-- A RANGE OVER A FUNCTION -/
theorem rf_sound {β : Type} (hb : Base P E c) (N : Nat) (live : List Nat) (g : Operand) (ps : Array Tmp) (assign body : Code) : CodeOk (β := β) P c (.rangeFunc g ps assign body) (rfEv E N live g ps assign body) := by
  intro st K y h
  unfold rfEv at h
  obtain ⟨d, st1, fp1, h1, h2⟩ := exec_of_cps h
  split at h2
  case h_2 => cases h2
  rename_i f t x
  split at h2
  case h_2 => cases h2
  rename_i hprep
  generalize hst2 : restr live 0 st1 = st2 at h2 hprep
  cases hxs : (E.it f ⟨t, x⟩).val with
  | none => rw [hxs] at h2; cases h2
  | some xs =>
  rw [hxs] at h2
  simp only [Option.bind_some] at h2
  obtain ⟨es, sts, hpath, hK⟩ := rfC_path (ok := fun y => rndOk E N ps.toList assign body (mkL (E.it f ⟨t, x⟩).ts y)) (fun y st K r hr => rndC_inv hr) _ _ _ _ h2
  refine ⟨es, sts, hK, fun Q a w hs hq => (wpIn_wide (n := 0)).1 ?_⟩
  obtain ⟨S, ob, hs⟩ := hs
  obtain ⟨S1, ob1, hs1, hS1, hv⟩ := gK_inv h1 hs (hb.globS hs)
  obtain ⟨caps, ev, hrd⟩ := fn_inv hv
  obtain ⟨ob2, hs2⟩ := hs1.restr live
  rw [hst2] at hs2
  rcases hb.env.it f with hno | ⟨⟨fn', hf, hbody', hname⟩, hit⟩
  · rw [hno] at hxs; cases hxs
  -- the loop's record
  let D := w.heap.size
  let l := w.heap.size + 1
  let a0 : Act := { a with defers := markOf D :: a.defers }
  obtain ⟨hs3, hD1, hD2, hD3⟩ := hs2.pushed (.deferred (some []))
  refine wpIn_rangeFunc fun fn _ => ?_
  let rc := loopRec fn a.tmps ps assign body D
  obtain ⟨hs4, hl1, hl2, hl3⟩ := hs3.pushed (.loop (rc .ready none))
  generalize hw1 : pushed (pushed w (.deferred (some []))) (.loop (rc .ready none)) = w1 at hs4
  have hsz : (pushed w (.deferred (some []))).heap.size = l := by simp [pushed, l]
  rw [hsz] at hl1 hl2 hl3
  have hrec : hp w1 l = some (.loop (rc .ready none)) := by rw [← hw1, ← hsz]; exact hp_pushed _ _
  have hDw : hp w1 D = some (.deferred (some [])) := by
    rw [← hw1]; exact sub_pushed _ _ _ _ (hp_pushed _ _)
  have hs5 : SimD c st2 a0 w1 S1 ob2 := by
    refine ⟨?_, hs4.size, hs4.rel, hs4.refs, hs4.out, hs4.inj, hs4.nd, hs4.hid, hs4.sub, hs4.mono, hs4.fresh, hs4.newS, hs4.lent, hs4.frame⟩
    obtain ⟨Ds, e, hnd, hDs⟩ := hs2.defers
    obtain ⟨Ds', e', _, hDs'⟩ := hs4.defers
    refine ⟨D :: Ds, by show markOf D :: a.defers = _; rw [e]; rfl, List.nodup_cons.2 ⟨fun hm => ?_, hnd⟩, fun B hB => ?_⟩
    · exact absurd (hp_lt (hDs D hm).1) (Nat.lt_irrefl _)
    · rcases List.mem_cons.1 hB with rfl | hB
      · exact ⟨hDw, hD2, hD1, hD3⟩
      · obtain ⟨k1, k2, k3, k4⟩ := hDs B hB
        refine ⟨?_, k2, k3, k4⟩
        rw [← hw1]; exact sub_pushed _ _ _ _ (sub_pushed _ _ _ _ k1)
  refine ⟨l, [markOf D], w1, { target := .fn (.func f) caps, args := #[.func (.yield l) #[] #[]] }, w1, f, #[.func (.yield l) #[] #[]] ++ caps, w1, ?_, ?_, fun _ _ => trivial, ?_, fun hd => by simp [Fence.wide] at hd, ?_⟩
  · rw [show Fence.wide.round = none from rfl, run_enterLoop_outer, ← hw1]; rfl
  · simp [resolve, rangeCall, ev, Deferred.ofValue]
    rfl
  · have hbn : fn'.body ≠ none := by intro e; rw [e] at hbody'; simp at hbody'
    simp [invoke, callFunc, hf, hbn, hname]
  · let ok := fun y : denL (E.it f ⟨t, x⟩).ts => rndOk E N ps.toList assign body (mkL (E.it f ⟨t, x⟩).ts y)
    let base : (Nat → Prop) → Hp → World → Hp → (Nat → List Nat) → Prop := fun O Sh W S' ob' => Sub Sh S' ∧ (∀ b, S' b ≠ none → O b ∨ Sh b ≠ none) ∧ (∀ i b, b ∈ ob' i → O b) ∧ (∀ b, b < w1.heap.size → O b) ∧ S' l = none ∧ (∀ i, l ∉ ob' i)
    let J : List (denL (E.it f ⟨t, x⟩).ts) → (Nat → Prop) → Hp → World → Prop := fun ys O Sh W => ∃ st S' ob', SimD c st a0 W S' ob' ∧ prepOk st = true ∧ base O Sh W S' ob' ∧ hp W l = some (.loop (rc .ready none)) ∧ Path ok ys st es sts
    let Jx : (Nat → Prop) → Hp → World → Prop := fun O Sh W => es ≠ .normal ∧ ∃ S' ob', SimD c sts a0 W S' ob' ∧ base O Sh W S' ob' ∧ hp W l = some (.loop (rc .done (exJ es)))
    have hcl : c.B0 l ∨ c.w0.heap.size ≤ l := hl3
    have hlw : l < w1.heap.size := hp_lt hrec
    have hmarks : ∀ D, markOf D ∈ a0.defers → D < w1.heap.size := by
      intro D' hD'
      obtain ⟨Ds, e, hnd, hDs⟩ := hs5.defers
      rw [e] at hD'
      obtain ⟨D2, hm2, e2⟩ := List.mem_map.1 hD'
      have : D2 = D' := by simpa [markOf] using e2
      subst this
      exact hp_lt (hDs D2 hm2).1
    have stable : ∀ {st : List A} {O : Nat → Prop} {Sh : Hp} {W W' : World} {S' : Hp} {ob' : Nat → List Nat}, SimD c st a0 W S' ob' → base O Sh W S' ob' → WF W (fun b => ¬ O b) W' → Sub Sh (hp W') → SimD c st a0 W' S' ob' := by
      rintro st O Sh W W' S' ob' hs ⟨b1, b2, b3, b4, b5, b6⟩ hw hsh
      have hO : ∀ b, O b → b < W.heap.size → hp W' b = hp W b := fun b hb hlt => hw.same b hlt (fun h => h hb)
      refine hs.away (fun b hb => ?_) (hs.frame.trans hw fun b hb => .inr ?_)
      · rcases hb with hb | ⟨i, hb⟩ | hb
        · cases hx : S' b with
          | none => exact absurd hx hb
          | some o =>
            have h1 := hs.sub b o hx
            rcases b2 b hb with h2 | h2
            · exact hO b h2 (hp_lt h1)
            · cases hy : Sh b with
              | none => exact absurd hy h2
              | some o' =>
                have := b1 b o' hy
                rw [hx] at this; cases this
                rw [h1, hsh b _ hy]
        · obtain ⟨_, _, o, ho⟩ := hs.ob_some hb
          exact hO b (b3 i b hb) (hp_lt ho)
        · have := hmarks b hb
          refine hO b (b4 b this) ?_
          obtain ⟨Ds, e, hnd, hDs⟩ := hs.defers
          rw [e] at hb
          obtain ⟨D2, hm2, e2⟩ := List.mem_map.1 hb
          have e3 : D2 = b := by simpa [markOf] using e2
          subst e3
          exact hp_lt (hDs D2 hm2).1
      · rcases Nat.lt_or_ge b w1.heap.size with h | h
        · exact absurd (b4 b h) hb
        · exact Nat.le_trans hs5.frame.size h
    have hrecS : ∀ {O : Nat → Prop} {Sh : Hp} {W W' : World} {S' : Hp} {ob' : Nat → List Nat} {r : Loop}, base O Sh W S' ob' → WF W (fun b => ¬ O b) W' → hp W l = some (.loop r) → hp W' l = some (.loop r) := by
      rintro O Sh W W' S' ob' r ⟨b1, b2, b3, b4, b5, b6⟩ hw hr
      have := hw.same l (hp_lt hr) (fun h => h (b4 l hlw))
      simp only [hp] at hr ⊢
      rw [this]; exact hr
    refine callsIn_wide.2 ((hit w1 S1 ⟨t, x⟩ caps hrd hs5.sub (hb.globS hs5) xs hxs l J Jx ?_ ?_ ?_ ?_).mono ?_)
    · rintro ys O Sh W W' ⟨st, S', ob', k1, k2, k3, k4, k7⟩ hw hsh
      exact ⟨st, S', ob', stable k1 k3 hw hsh, k2, k3, hrecS k3 hw k4, k7⟩
    · rintro O Sh W W' ⟨k0, S', ob', k1, k3, k4⟩ hw hsh
      exact ⟨k0, S', ob', stable k1 k3 hw hsh, k3, hrecS k3 hw k4⟩
    · rintro y ys O Sh S2 W1 vals ⟨st, S', ob', k1, k2, ⟨b1, b2, b3, b4, b5, b6⟩, k4, k7⟩ hsh hS2 hnew hvals
      have key : ∃ e st', ok y st e st' ∧ ((e = .normal ∧ Path ok ys st' es sts) ∨ (e ≠ .normal ∧ e = es ∧ st' = sts)) := by
        cases k7 with
        | more hy hp' => exact ⟨_, _, hy, .inl ⟨rfl, hp'⟩⟩
        | out hy he => exact ⟨_, _, hy, .inr ⟨he, rfl, rfl⟩⟩
      obtain ⟨e, st', hy, hcase⟩ := key
      have hn : ∀ b, S2 b ≠ none → S' b = none → ¬ O b := fun b hb hb' => (hnew b hb).elim (fun h => by
        cases hx : Sh b with
        | none => exact absurd hx h
        | some o => rw [b1 b o hx] at hb'; cases hb') id
      obtain ⟨S'', m1, m2, m3, m4⟩ := k1.merge hS2 (fun b hb hb' => ⟨fun i hi => hn b hb hb' (b3 i b hi), fun hm => hn b hb hb' (b4 b (hmarks b hm)), .inr (by
        rcases Nat.lt_or_ge b w1.heap.size with h | h
        · exact absurd (b4 b h) (hn b hb hb')
        · exact Nat.le_trans hs5.frame.size h)⟩)
      have b5' : S'' l = none := by
        cases hx : S'' l with
        | none => rfl
        | some o =>
          rcases m4 l (by rw [hx]; simp) with h | h
          · exact absurd b5 h
          · exact absurd (b4 l hlw) (hn l h b5)
      obtain ⟨fn1, tm1, as1, bo1, r1, r2⟩ := round_at hb m1 k2 k4 b5' b6 hcl hy (hvals.mono m3)
      refine ⟨fn1, tm1, as1, bo1, r1, r2.mono ?_⟩
      rintro en W4 ⟨rfl, S3, ob4, q1, q2, q3, q4, q5⟩
      have hin : ∀ b, (b = l ∨ ∃ i, b ∈ ob' i) → O b := by
        rintro b (rfl | ⟨i, hi⟩)
        · exact b4 _ hlw
        · exact b3 i b hi
      have hb' : base (fun b => O b ∨ (W1.heap.size ≤ b ∧ b < W4.heap.size)) S2 W4 S3 ob4 := by
        refine ⟨m3.trans q2.sub, fun b hb => ?_, fun i b hi => ?_, fun b hb => .inl (b4 b hb), q4, q5⟩
        · rcases q2.newS b hb with h | ⟨i, h⟩ | h
          · rcases m4 b h with h | h
            · rcases b2 b h with h | h
              · exact .inl (.inl h)
              · refine .inr ?_
                cases hx : Sh b with
                | none => exact absurd hx h
                | some o => rw [hsh b o hx]; simp
            · exact .inr h
          · exact .inl (.inl (b3 i b h))
          · refine .inl (.inr ⟨h, ?_⟩)
            cases hx : S3 b with
            | none => exact absurd hx hb
            | some o => exact hp_lt (q1.sub b o hx)
        · rcases q2.fresh i b hi with ⟨j, h⟩ | h
          · exact .inl (b3 j b h)
          · obtain ⟨_, _, o, ho⟩ := q1.ob_some hi
            exact .inr ⟨h, hp_lt ho⟩
      refine ⟨fun b => O b ∨ (W1.heap.size ≤ b ∧ b < W4.heap.size), fun b hb => .inl hb, fun b hb => hb, q2.wf.weaken hin, (m3.trans q2.sub).trans q1.sub, ?_⟩
      rcases hcase with ⟨rfl, hp'⟩ | ⟨he, rfl, rfl⟩
      · refine .inl ⟨rfl, st', S3, ob4, q1, ?_, hb', q3, hp'⟩
        obtain ⟨_, _, _, _, _, _, _, hk⟩ := hy
        exact backS_prep hk k2
      · refine .inr ⟨?_, he, S3, ob4, q1, hb', ?_⟩
        · cases e <;> first | exact absurd rfl he | rfl
        · cases e <;> first | exact absurd rfl he | exact q3
    · refine ⟨st2, S1, ob2, hs5, hprep, ⟨Sub.refl _, fun b hb => .inr hb, fun i b hi => ?_, fun b hb => hb, hl2, hl1⟩, hrec, hpath⟩
      obtain ⟨_, _, o, ho⟩ := hs5.ob_some hi
      exact hp_lt ho
    · rintro e W' ⟨⟨v, rfl⟩, O, Sh, hJ⟩
      have fin : ∀ {S' : Hp} {ob' : Nat → List Nat} {s : LoopState}, SimD c sts a0 W' S' ob' → hp W' l = some (.loop (rc s (exJ es))) → s ≠ .busy → S' l = none → (∀ i, l ∉ ob' i) →
          ∃ jump w4, (Instr.endLoop l).run P W' = .ok jump w4 ∧ (match jump with
            | none => Q .normal a0 w4
            | some c => c.wpIn Fence.wide 0 P Q a0 w4) := by
        intro S' ob' s k1 k4 hsb k5 k6
        refine ⟨_, _, run_endLoop k4 hsb, ?_⟩
        have hsim : Sim c sts a0 (W'.putObj l (.loop { rc s (exJ es) with state := .exhausted })) :=
          ⟨S', ob', k1.rebase (l := l) (fun b hb => World.putObj_heap_other hb) k5 k6 (fun q hq => by rw [k4] at hq; cases hq) (k1.frame.putObj hcl _) k1.mono k1.fresh k1.newS (.inl ⟨rfl, fun D hD => hD⟩) rfl k1.lent⟩
        have := hq _ _ hsim
        show (match exJ es with
            | none => Q .normal a0 _
            | some c => c.wpIn Fence.wide 0 P Q a0 _)
        cases es with
        | normal => exact this
        | exit id => exact wpIn_exit this
        | ret => exact wpIn_ret this
      rcases hJ with ⟨st, S', ob', k1, k2, ⟨_, _, _, _, k5, k6⟩, k4, k7⟩ | ⟨he, S', ob', k1, ⟨_, _, _, _, k5, k6⟩, k4⟩
      · cases k7
        exact fin k1 k4 (by simp) k5 k6
      · exact fin k1 k4 (by simp) k5 k6
end
end Go.Lift

/- Functions: the contract that a plain function's value earns. -/
set_option linter.all false
namespace Go.Lift
section
variable {P : Program} {E : Env} {c : Ctx} {st st' : List A} {fp fp' : FP} {a : Act} {w w' : World} {S : Hp} {ob : Nat → List Nat}

/-- what one result variable gives -/
def resSem (tmps : Array Value) : ResultVar → Sem Value
  | .tmp t => pure (tmps.getD t undef)
  | .cell a t => do loadVar t (← asAddr (tmps.getD a undef))

theorem results_eq (fn : Func) (tmps : Array Value) : results fn tmps = (do
    let vs ← fn.results.mapM (resSem tmps)
    pure (if h : vs.size = 1 then vs[0] else .tuple vs)) := by
  unfold results
  have : (fun (x : ResultVar) => match x with
      | .tmp t => (pure (tmps.getD t undef) : Sem Value)
      | .cell a t => do loadVar t (← asAddr (tmps.getD a undef))) = resSem tmps := by funext r; cases r <;> rfl
  rw [← this]
  rfl

theorem resK1_inv {α : Type} {r : α × List A × FP} {rv : ResultVar} {rt : TypeId} {k : Dat → Cmd α} (h : exec E (resK1 E rv rt k) st fp = some r) (hb : Base P E c) (hs : SimD c st a w S ob) :
    ∃ d v st' fp' S' ob', exec E (k d) st' fp' = some r ∧ SimD c st' a w S' ob' ∧ Sub S S' ∧ VR S' d.1 d.2 v ∧ (resSem a.tmps rv).run P w = .ok v w ∧ st'.length = st.length := by
  cases rv with
  | tmp t =>
    simp only [resK1] at h
    obtain ⟨e, he, h1⟩ := tyK_inv h
    obtain ⟨A, fp1, h2, hA, hAo, hAd, hAr⟩ := rdK_inv h1 hs (hb.globS hs)
    obtain ⟨x, st1, fp2, S1, ob1, h3, hs1, hS, hv, hl⟩ := asK_inv h2 hs hA
    exact ⟨⟨e.t, x⟩, _, st1, fp2, S1, ob1, h3, hs1, hS, hv, rfl, hl⟩
  | cell ad ty =>
    simp only [resK1] at h
    obtain ⟨e, he, h1⟩ := tyK_inv h
    obtain ⟨fp1, h2⟩ := exec_get h1
    clear h h1
    split at h2
    · rename_i t x hy
      split at h2
      · rename_i ht
        have := teq_eq ht
        subst this
        obtain ⟨b, cs, E', fr, bs, hob, hv, hcs, hfr, hrdo⟩ := hs.rel ad _ (getD_at hy (by simp))
        obtain ⟨_, hrd⟩ := hrdo.rd _ _ _ _ (hb.tyOk he).noOwn
        obtain ⟨v, hrun, hvr⟩ := run_loadVar (P := P) (w := w) (hb.tyOk he) (b := b) (off := 0) (c1 := cs.toList) ⟨cs, E', fr, [], [], hcs, by simp, rfl⟩ hrd
        refine ⟨⟨e.t, x⟩, v, st, fp1, S, ob, h2, hs, Sub.refl _, hvr, ?_, rfl⟩
        have hv' : a.tmps.getD ad undef = .pointer (some ⟨b, 0, none⟩) := hv
        simp only [resSem, hv', asAddr, Sem.run_bind, Sem.run_pure, Result.andThen_ok, hrun]
      · exact (exec_fail h2).elim
    · exact (exec_fail h2).elim

theorem resKs_inv {α : Type} {r : α × List A × FP} (hb : Base P E c) : ∀ (rs : List ResultVar) (rts : List TypeId) (k : List Dat → Cmd α) (st : List A) (fp : FP) (S : Hp) (ob : Nat → List Nat), exec E (resKs E rs rts k) st fp = some r → SimD c st a w S ob →
    ∃ l vs st' fp' S' ob', exec E (k l) st' fp' = some r ∧ SimD c st' a w S' ob' ∧ Sub S S' ∧ TupRel S' l vs ∧ (rs.mapM (resSem a.tmps)).run P w = .ok vs w ∧ st'.length = st.length
  | [], rts, k, st, fp, S, ob, h, hs => ⟨[], [], st, fp, S, ob, by cases rts <;> exact h, hs, Sub.refl _, .nil, by simp, rfl⟩
  | rv :: rs, [], k, st, fp, S, ob, h, hs => (exec_fail h).elim
  | rv :: rs, rt :: rts, k, st, fp, S, ob, h, hs => by
    simp only [resKs] at h
    obtain ⟨d, v, st1, fp1, S1, ob1, h1, hs1, hS, hv, hrun, hl⟩ := resK1_inv h hb hs
    obtain ⟨l, vs, st2, fp2, S2, ob2, h2, hs2, hS2, ht, hrun2, hl2⟩ := resKs_inv hb rs rts _ st1 fp1 S1 ob1 h1 hs1
    refine ⟨d :: l, v :: vs, st2, fp2, S2, ob2, h2, hs2, hS.trans hS2, .cons (hv.mono hS2) ht, ?_, by omega⟩
    simp only [List.mapM_cons, Sem.run_bind, hrun, Result.andThen_ok, hrun2, Sem.run_pure]

theorem results_one {fn : Func} {rv : ResultVar} {v : Value} (h : fn.results.toList = [rv]) (hr : (resSem a.tmps rv).run P w = .ok v w) : (results fn a.tmps).run P w = .ok v w := by
  have h' : fn.results = #[rv] := by apply Array.toList_inj.1; rw [h]
  rw [results_eq, h', Array.mapM_eq_mapM_toList]
  simp [hr]

theorem ownAt_vro {hh S : Hp} {tv : Nat → Value} {x : A} {v : Value} {o : List Nat} {u : T} {z : u.den} (hx : ARel hh S tv x v o) (h : ownAt x u = some z) : VRO hh S u z v o := by
  unfold ownAt at h
  split at h
  · obtain ⟨e, e'⟩ := cast_some h
    subst e; subst e'
    exact hx.2
  · split at h
    · obtain ⟨e, e'⟩ := cast_some h
      cases e; subst e'
      exact VRO.of_one rfl ⟨_, rfl, hx⟩
    · cases h
  · split at h
    · split at h
      · rename_i x' hx'
        cases h
        obtain ⟨e, e'⟩ := cast_some hx'
        subst e; subst e'
        obtain ⟨b, cs, E', fr, bs, hob, hv, hcs, hfr, hr⟩ := hx
        exact VRO.of_one rfl (.inr ⟨_, b, cs, E', fr, bs, rfl, by rw [hv], hob, hcs, hfr, hr⟩)
      · cases h
    · cases h
  · split at h
    · cases h
      rw [hx.1, hx.2]
      exact VRO.of_one rfl ⟨_, rfl, .inl ⟨rfl, ⟨_, rfl, fun _ _ => rfl⟩, rfl⟩⟩
    · cases h
  · split at h
    · cases h
      have := VR.opq_inv hx.1
      rw [this, hx.2]
      exact VRO.of_one rfl ⟨_, rfl, .inl ⟨rfl, rfl, rfl⟩⟩
    · cases h
      have := VR.opq_inv hx.1
      rw [this, hx.2]
      exact VRO.of_one rfl (.inl ⟨rfl, rfl, rfl⟩)
    · cases h
  · cases h

inductive ResP (P : Program) (S : Hp) (a : Act) (w : World) : List ResultVar → List (ResultVar × T × Option Dat) → Prop
  | nil : ResP P S a w [] []
  | dat {rv : ResultVar} {u : T} {d : Dat} {v : Value} {rs : List ResultVar} {l : List (ResultVar × T × Option Dat)} (hv : VR S d.1 d.2 v) (hr : (resSem a.tmps rv).run P w = .ok v w) (h : ResP P S a w rs l) : ResP P S a w (rv :: rs) ((rv, u, some d) :: l)
  | own {rv : ResultVar} {u : T} {rs : List ResultVar} {l : List (ResultVar × T × Option Dat)} (h : ResP P S a w rs l) : ResP P S a w (rv :: rs) ((rv, u, none) :: l)

theorem resO1_inv {α : Type} {r : α × List A × FP} (hb : Base P E c) : ∀ (rs : List ResultVar) (rts : List TypeId) (us : List T) (k : List (ResultVar × T × Option Dat) → Cmd α) (st : List A) (fp : FP) (S : Hp) (ob : Nat → List Nat), exec E (resO1 E rs rts us k) st fp = some r → SimD c st a w S ob →
    ∃ l st' fp' S' ob', exec E (k l) st' fp' = some r ∧ SimD c st' a w S' ob' ∧ Sub S S' ∧ ResP P S' a w rs l ∧ st'.length = st.length
  | [], rts, [], k, st, fp, S, ob, h, hs => ⟨[], st, fp, S, ob, by cases rts <;> exact h, hs, Sub.refl _, .nil, rfl⟩
  | [], rts, u :: us, k, st, fp, S, ob, h, hs => by cases rts <;> exact (exec_fail h).elim
  | rv :: rs, [], us, k, st, fp, S, ob, h, hs => by cases us <;> exact (exec_fail h).elim
  | rv :: rs, rt :: rts, [], k, st, fp, S, ob, h, hs => (exec_fail h).elim
  | rv :: rs, rt :: rts, u :: us, k, st, fp, S, ob, h, hs => by
    simp only [resO1] at h
    split at h
    · obtain ⟨d, v, st1, fp1, S1, ob1, h1, hs1, hS, hv, hrun, hl⟩ := resK1_inv h hb hs
      obtain ⟨l, st2, fp2, S2, ob2, h2, hs2, hS2, hp, hl2⟩ := resO1_inv hb rs rts us _ st1 fp1 S1 ob1 h1 hs1
      exact ⟨_, st2, fp2, S2, ob2, h2, hs2, hS.trans hS2, .dat (hv.mono hS2) hrun hp, by omega⟩
    · obtain ⟨l, st2, fp2, S2, ob2, h2, hs2, hS2, hp, hl2⟩ := resO1_inv hb rs rts us _ st fp S ob h hs
      exact ⟨_, st2, fp2, S2, ob2, h2, hs2, hS2, .own hp, hl2⟩

theorem resO2_inv {α : Type} {r : α × List A × FP} (hb : Base P E c) (hs : SimD c st a w S ob) {rs : List ResultVar} {l1 : List (ResultVar × T × Option Dat)} (hq : ResP P S a w rs l1) : ∀ (used : List Nat) (k : List Dat → Cmd α) (fp : FP), exec E (resO2 E l1 used k) st fp = some r →
    ∃ l vs o fp', exec E (k l) st fp' = some r ∧ OTup (hp w) S l vs o ∧ (rs.mapM (resSem a.tmps)).run P w = .ok vs w ∧ vs.length = rs.length ∧ o.Nodup ∧ ∀ b ∈ o, ∃ t, t ∉ E.lent ∧ t ∉ used ∧ b ∈ ob t := by
  induction hq with
  | nil => intro used k fp h; exact ⟨[], [], [], fp, h, ⟨rfl, rfl⟩, by simp, rfl, .nil, fun b hb => by cases hb⟩
  | @dat rv u d v rs l1 hv hr hp ih =>
    intro used k fp h
    simp only [resO2] at h
    obtain ⟨l, vs, o, fp', h1, h2, h3, h3l, h4, h5⟩ := ih used _ fp h
    refine ⟨_, v :: vs, o, fp', h1, ⟨v, vs, [], o, rfl, rfl, VRO.of_vr hv, h2⟩, ?_, by simp [h3l], h4, h5⟩
    simp only [List.mapM_cons, Sem.run_bind, hr, Result.andThen_ok, h3, Sem.run_pure]
  | @own rv u rs l1 hp ih =>
    intro used k fp h
    have fin : ∀ {t : Nat} {z : u.den} {v : Value} {o1 : List Nat} {fp1 : FP}, t ∉ E.lent → t ∉ used → VRO (Lift.hp w) S u z v o1 → (∀ b ∈ o1, b ∈ ob t) → o1.Nodup → (resSem a.tmps rv).run P w = .ok v w → exec E (resO2 E l1 (t :: used) fun l => k (⟨u, z⟩ :: l)) st fp1 = some r →
        ∃ l vs o fp', exec E (k l) st fp' = some r ∧ OTup (Lift.hp w) S l vs o ∧ ((rv :: rs).mapM (resSem a.tmps)).run P w = .ok vs w ∧ vs.length = (rv :: rs).length ∧ o.Nodup ∧ ∀ b ∈ o, ∃ t, t ∉ E.lent ∧ t ∉ used ∧ b ∈ ob t := by
      intro t z v o1 fp1 hl hu hv ho hn hr h1
      obtain ⟨l, vs, o, fp', h1, h2, h3, h3l, h4, h5⟩ := ih (t :: used) _ fp1 h1
      refine ⟨_, v :: vs, o1 ++ o, fp', h1, ⟨v, vs, o1, o, rfl, rfl, hv, h2⟩, ?_, by simp [h3l], List.nodup_append.2 ⟨hn, h4, fun x hx y hy e => ?_⟩, fun b hb' => ?_⟩
      · simp only [List.mapM_cons, Sem.run_bind, hr, Result.andThen_ok, h3, Sem.run_pure]
      · subst e
        obtain ⟨t', _, hu', hb'⟩ := h5 x hy
        exact hu' (by rw [hs.inj t' t x hb' (ho x hx)]; simp)
      · rcases List.mem_append.1 hb' with hb' | hb'
        · exact ⟨t, hl, hu, ho b hb'⟩
        · obtain ⟨t', h6, h7, h8⟩ := h5 b hb'
          exact ⟨t', h6, fun h9 => h7 (by simp [h9]), h8⟩
    simp only [resO2] at h
    split at h
    · rename_i t
      split at h
      · exact (exec_fail h).elim
      · rename_i hck
        simp only [Bool.or_eq_false_iff] at hck
        obtain ⟨fp1, h1⟩ := exec_get h
        split at h1
        · rename_i z hz
          have hne : st.getD t .dead ≠ .dead := fun e => by rw [e] at hz; simp [ownAt] at hz
          have hrel := hs.rel t _ (getD_at rfl hne)
          exact fin (by simpa using hck.1) (by simpa using hck.2) (ownAt_vro hrel hz) (fun b hb' => hb') (hs.nd t) rfl h1
        · exact (exec_fail h1).elim
    · rename_i t ty
      split at h
      · exact (exec_fail h).elim
      · rename_i hck
        simp only [Bool.or_eq_false_iff] at hck
        obtain ⟨e, he, h1⟩ := tyK_inv h
        obtain ⟨fp1, h2⟩ := exec_get h1
        split at h2
        · rename_i t' x hy
          split at h2
          · rename_i z hck2 hz
            obtain ⟨hsim, hck2⟩ := and'_true hck2
            obtain ⟨hag, hns⟩ := and'_true hck2
            obtain ⟨e1, e2⟩ := cast_some hz
            subst e1; subst e2
            obtain ⟨b, cs, E', fr, bs, hob, hv, hcs, hfr, hrd⟩ := hs.rel t _ (getD_at hy (by simp))
            have hnd := hs.nd t
            rw [hob] at hnd
            have hage : e.t.isAgg = true := by rw [← simT_agg hsim]; exact hag
            have hrun : (resSem a.tmps (.cell t ty)).run P w = .ok (.agg cs) w := by
              have hv' : a.tmps.getD t undef = .pointer (some ⟨b, 0, none⟩) := hv
              have hlen : cs.toList.length = e.size := by rw [hrd.length, simT_size hsim, (hb.tyOk he).size]
              have hl := run_loadCells_lies (P := P) (w := w) (b := b) (off := 0) (c1 := cs.toList) ⟨cs, E', fr, [], [], hcs, by simp, rfl⟩
              rw [hlen] at hl
              simp [resSem, hv', asAddr, loadVar, run_isAgg (hb.tyOk he), hage, run_sizeOf (hb.tyOk he), hl]
            exact fin (by simpa using hck.1) (by simpa using hck.2) (VRO.of_agg hag (RdO.move _ _ _ _ hns hrd)) (fun k hk => by rw [hob]; simp [hk]) (List.nodup_cons.1 hnd).2 hrun h2
          · exact (exec_fail h2).elim
        · exact (exec_fail h2).elim

/-- the results -/
theorem resCmd_inv {α : Type} {r : α × List A × FP} {fn : Func} {rts : List TypeId} {k : A → Cmd α} (h : exec E (resCmd E fn.results.toList rts k) st fp = some r) (hb : Base P E c) (hs : SimD c st a w S ob) :
    ∃ x v o st' fp' S' ob', exec E (k x) st' fp' = some r ∧ SimD c st' a w S' ob' ∧ Sub S S' ∧ (results fn a.tmps).run P w = .ok v w ∧ ARel (hp w) S' (tv a) x v o ∧ x.refs = [] ∧
      (∀ b ∈ o, ∃ t, t ∉ E.lent ∧ b ∈ ob' t) ∧ o.Nodup ∧ st'.length = st.length := by
  unfold resCmd at h
  split at h
  rotate_left
  · -- values that own what they have
    rename_i us hus
    obtain ⟨l1, st1, fp1, S1, ob1, h1, hs1, hS, hpp, hl1⟩ := resO1_inv hb _ _ _ _ _ _ _ _ h hs
    obtain ⟨l, vs, o, fp2, h2, hot, hrun, hlen, hnd, hown⟩ := resO2_inv hb hs1 hpp _ _ _ h1
    have hres : (results fn a.tmps).run P w = .ok (if h : vs.length = 1 then vs[0] else .tuple vs.toArray) w := by
      rw [results_eq, Array.mapM_eq_mapM_toList]
      simp only [Sem.run_bind, Sem.run_map, hrun, Result.andThen_ok, Sem.run_pure]
      simp
    have hown' : ∀ b ∈ o, ∃ t, t ∉ E.lent ∧ b ∈ ob1 t := fun b hb' => by obtain ⟨t, h3, _, h4⟩ := hown b hb'; exact ⟨t, h3, h4⟩
    split at h2
    · rename_i d
      split at h2
      · rename_i hov
        obtain ⟨v, vs', o1, o2, e1, e2, hvo, e3, e4⟩ := hot
        subst e3; subst e4; subst e1
        simp only [List.append_nil] at e2
        subst e2
        exact ⟨_, v, _, st1, fp2, S1, ob1, h2, hs1, hS, by simpa using hres, ⟨hov, hvo⟩, rfl, hown', hnd, hl1⟩
      · exact (exec_fail h2).elim
    · rename_i hne
      have hvl : vs.length ≠ 1 := by
        intro hvl
        have : ∀ {l : List Dat} {vs : List Value} {o : List Nat}, OTup (hp w) S1 l vs o → vs.length = l.length := by
          intro l
          induction l with
          | nil => rintro vs o ⟨rfl, _⟩; rfl
          | cons d l ih => rintro vs o ⟨_, vs', _, _, rfl, _, _, h3⟩; simp [ih h3]
        have h3 := this hot
        rw [hvl] at h3
        obtain ⟨d, rfl⟩ := List.length_eq_one_iff.1 h3.symm
        exact hne d rfl
      rw [dif_neg hvl] at hres
      exact ⟨_, .tuple vs.toArray, o, st1, fp2, S1, ob1, h2, hs1, hS, hres, ⟨_, rfl, by simpa using hot⟩, rfl, hown', hnd, hl1⟩
  split at h
  · rename_i rv hrv
    split at h
    · rename_i rt
      have plain : ∀ {st1 : List A} {fp1 : FP}, SimD c st1 a w S ob → st1.length = st.length → exec E (resK1 E rv rt fun d => k (.v d.1 d.2)) st1 fp1 = some r →
          ∃ x v o st' fp' S' ob', exec E (k x) st' fp' = some r ∧ SimD c st' a w S' ob' ∧ Sub S S' ∧ (results fn a.tmps).run P w = .ok v w ∧ ARel (hp w) S' (tv a) x v o ∧ x.refs = [] ∧
            (∀ b ∈ o, ∃ t, t ∉ E.lent ∧ b ∈ ob' t) ∧ o.Nodup ∧ st'.length = st.length := by
        intro st1 fp1 hs1 hl1 h1
        obtain ⟨d, v, st2, fp2, S2, ob2, h2, hs2, hS, hv, hrun, hl⟩ := resK1_inv h1 hb hs1
        exact ⟨_, v, [], st2, fp2, S2, ob2, h2, hs2, hS, results_one hrv hrun, ⟨hv, rfl⟩, rfl, (fun b e => by cases e), .nil, by omega⟩
      unfold resOne at h
      split at h
      · rename_i t
        obtain ⟨fp1, h1⟩ := exec_get h
        clear h
        have hrun : (resSem a.tmps (.tmp t)).run P w = .ok (tv a t) w := rfl
        split at h1
        · rename_i u xs hy
          split at h1
          · split at h1
            · exact (exec_fail h1).elim
            · rename_i hl
              exact ⟨_, tv a t, ob t, st, fp1, S, ob, h1, hs, Sub.refl _, results_one hrv hrun, hs.row_at hy, rfl, fun b e => ⟨t, by simpa using hl, e⟩, hs.nd t, rfl⟩
          · exact plain hs rfl h1
        · rename_i u x hy
          split at h1
          · exact (exec_fail h1).elim
          · rename_i hl
            exact ⟨_, tv a t, ob t, st, fp1, S, ob, h1, hs, Sub.refl _, results_one hrv hrun, hs.rel t _ (getD_at hy (by simp)), rfl, fun b e => ⟨t, by simpa using hl, e⟩, hs.nd t, rfl⟩
        · rename_i f rs hy
          have hA := hs.rel t _ (getD_at hy (by simp))
          have hno := hA.nil_of_not_own rfl
          rw [hno] at hA
          obtain ⟨d, st2, fp2, S2, ob2, h2, hs2, hS, hv, hl⟩ := datK_inv h1 hs hA
          exact ⟨_, tv a t, [], st2, fp2, S2, ob2, h2, hs2, hS, results_one hrv hrun, ⟨hv, rfl⟩, rfl, (fun b e => by cases e), .nil, hl⟩
        · rename_i f u x hy
          have hA := hs.rel t _ (getD_at hy (by simp))
          exact ⟨_, tv a t, [], st, fp1, S, ob, h1, hs, Sub.refl _, results_one hrv hrun, ⟨hA.1, rfl⟩, rfl, (fun b e => by cases e), .nil, rfl⟩
        · exact plain hs rfl h1
      · exact plain hs rfl h
    · exact (exec_fail h).elim
  · rename_i rs hne
    obtain ⟨l, vs, st1, fp1, S1, ob1, h1, hs1, hS, ht, hrun, hl⟩ := resKs_inv hb _ _ _ _ _ _ _ h hs
    refine ⟨_, .tuple vs.toArray, [], st1, fp1, S1, ob1, h1, hs1, hS, ?_, ⟨rfl, vs.toArray, rfl, by simpa using ht⟩, rfl, (fun b e => by cases e), .nil, hl⟩
    rw [results_eq, Array.mapM_eq_mapM_toList]
    simp only [Sem.run_bind, Sem.run_map, hrun, Result.andThen_ok, Sem.run_pure]
    have hlen : vs.length = fn.results.toList.length := by
      clear h h1 ht hs1 hne
      generalize fn.results.toList = rs at hrun
      induction rs generalizing vs with
      | nil => simp at hrun; subst hrun; rfl
      | cons x rs ih =>
        simp only [List.mapM_cons, Sem.run_bind] at hrun
        cases hx : (resSem a.tmps x).run P w with
        | halt q w1 => rw [hx] at hrun; simp at hrun
        | ok v w1 =>
          rw [hx] at hrun
          simp only [Result.andThen_ok] at hrun
          have hw1 : (List.mapM (resSem a.tmps) rs).run P w1 = (List.mapM (resSem a.tmps) rs).run P w1 := rfl
          cases hm : (List.mapM (resSem a.tmps) rs).run P w1 with
          | halt q w2 => rw [hm] at hrun; simp at hrun
          | ok us w2 =>
            rw [hm] at hrun
            simp only [Result.andThen_ok, Sem.run_pure, Result.ok.injEq] at hrun
            have : ∀ (rs : List ResultVar) (w1 w2 : World) (us : List Value), (List.mapM (resSem a.tmps) rs).run P w1 = .ok us w2 → us.length = rs.length := by
              intro rs
              induction rs with
              | nil => intro w1 w2 us h; simp at h; rw [h.1]; rfl
              | cons y rs ih2 =>
                intro w1 w2 us h
                simp only [List.mapM_cons, Sem.run_bind] at h
                cases hy : (resSem a.tmps y).run P w1 with
                | halt q w3 => rw [hy] at h; simp at h
                | ok v' w3 =>
                  rw [hy] at h
                  simp only [Result.andThen_ok] at h
                  cases hm' : (List.mapM (resSem a.tmps) rs).run P w3 with
                  | halt q w4 => rw [hm'] at h; simp at h
                  | ok us' w4 =>
                    rw [hm'] at h
                    simp only [Result.andThen_ok, Sem.run_pure, Result.ok.injEq] at h
                    rw [← h.1, List.length_cons, ih2 _ _ _ hm', List.length_cons]
            rw [← hrun.1, List.length_cons, this _ _ _ _ hm, List.length_cons]
    have h1' : ¬ vs.toArray.size = 1 := by
      rw [List.size_toArray, hlen]
      intro h1
      obtain ⟨x, hx⟩ := List.length_eq_one_iff.1 h1
      exact hne x hx
    rw [dif_neg h1']

theorem outsK_inv {α : Type} {r : α × List A × FP} : ∀ (n i : Nat) (k : List A → Cmd α) (fp : FP), exec E (outsK E n i k) st fp = some r →
    ∃ l fp', exec E (k l) st fp' = some r ∧ l.length = n ∧ ∀ j, j < n → (i + j ∈ E.lent → ∃ t x, st[i + j]? = some (.box t x) ∧ l[j]? = some (.box t x))
  | 0, i, k, fp, h => ⟨[], fp, h, rfl, fun j hj => by omega⟩
  | n + 1, i, k, fp, h => by
    simp only [outsK] at h
    split at h
    · rename_i hc
      obtain ⟨fp1, h1⟩ := exec_get h
      split at h1
      · rename_i t x hy
        obtain ⟨l, fp2, h2, hl, hall⟩ := outsK_inv n (i + 1) _ _ h1
        refine ⟨_, fp2, h2, by simp [hl], fun j hj hm => ?_⟩
        cases j with
        | zero => exact ⟨t, x, getD_at hy (by simp), rfl⟩
        | succ j =>
          obtain ⟨t', x', h3, h4⟩ := hall j (by omega) (by rw [show i + 1 + j = i + (j + 1) by omega]; exact hm)
          exact ⟨t', x', by rw [show i + (j + 1) = i + 1 + j by omega]; exact h3, by simpa using h4⟩
      · exact (exec_fail h1).elim
    · rename_i hc
      obtain ⟨l, fp2, h2, hl, hall⟩ := outsK_inv n (i + 1) _ _ h
      refine ⟨_, fp2, h2, by simp [hl], fun j hj hm => ?_⟩
      cases j with
      | zero => exact absurd hm (by simpa using hc)
      | succ j =>
        obtain ⟨t', x', h3, h4⟩ := hall j (by omega) (by rw [show i + 1 + j = i + (j + 1) by omega]; exact hm)
        exact ⟨t', x', by rw [show i + (j + 1) = i + 1 + j by omega]; exact h3, by simpa using h4⟩

theorem argsOk_spec {lent : List Nat} : ∀ {i : Nat} {l : List A}, argsOk lent i l = true → ∀ (j : Nat) (x : A), l[j]? = some x → argOk lent (i + j) x = true
  | _, [], _, j, x, hj => by simp at hj
  | i, y :: l, h, j, x, hj => by
    obtain ⟨h1, h2⟩ := and'_true h
    cases j with
    | zero => simp at hj; subst hj; exact h1
    | succ j =>
      have := argsOk_spec h2 j x (by simpa using hj)
      rw [show i + 1 + j = i + (j + 1) by omega] at this
      exact this

theorem argOk_lent {lent : List Nat} {i : Nat} {x : A} (h : argOk lent i x = true) : (i ∈ lent ↔ isBoxA x = true) ∧ x.refs = [] := by
  cases x <;> simp_all [argOk, isBoxA, A.refs]

theorem undefs_at : ∀ (n j : Nat), (undefs n)[j]? = if j < n then some (.tup []) else none
  | 0, j => by simp [undefs]
  | n + 1, 0 => by simp [undefs]
  | n + 1, j + 1 => by simp [undefs, undefs_at n j]

theorem undefs_length : ∀ n, (undefs n).length = n
  | 0 => rfl
  | n + 1 => by simp [undefs, undefs_length n]

theorem lentOk_spec {n : Nat} : ∀ {l : List Nat}, lentOk n l = true → ∀ i ∈ l, i < n
  | [], _, i, hi => by cases hi
  | f :: l, h, i, hi => by
    obtain ⟨h1, h2⟩ := and'_true h
    rcases List.mem_cons.1 hi with rfl | hi
    · simpa using h1
    · exact lentOk_spec h2 i hi

/-! ## the end of a function -/

/-- the first mark is come to -/
theorem SimD.unmark {D : Nat} {ds : List Deferred} (h : SimD c st a w S ob) (hd : a.defers = markOf D :: ds) : hp w D = some (.deferred (some [])) ∧ SimD c st { a with defers := ds } (w.putObj D (.deferred none)) S ob := by
  obtain ⟨Ds, e, hnd, hDs⟩ := h.defers
  rw [hd] at e
  cases Ds with
  | nil => cases e
  | cons D' Ds =>
    have e1 : D = D' := by have := (List.cons.inj e).1; simpa [markOf] using this
    subst e1
    obtain ⟨k1, k2, k3, k4⟩ := hDs D (by simp)
    obtain ⟨hnm, hnd'⟩ := List.nodup_cons.1 hnd
    have hne : ∀ {i b}, b ∈ ob i → b ≠ D := fun hb e => k3 _ (by rw [← e]; exact hb)
    have hw : ∀ b, b ≠ D → hp (w.putObj D (.deferred none)) b = hp w b := fun b hb => World.putObj_heap_other hb
    refine ⟨k1, ⟨Ds, (List.cons.inj e).2, hnd', fun B hB => ?_⟩, h.size, fun i x hx => ?_, h.refs, h.out, h.inj, h.nd, h.hid, fun b o hb => ?_, h.mono, h.fresh, h.newS, h.lent, h.frame.putObj k4 _⟩
    · obtain ⟨g1, g2, g3, g4⟩ := hDs B (by simp [hB])
      exact ⟨by rw [hw B (fun e => hnm (by rw [← e]; exact hB))]; exact g1, g2, g3, g4⟩
    · exact (h.rel i x hx).mono (Sub.refl _) (fun b hb => hw b (hne hb)) (fun _ _ => rfl) (fun r hr b hb => hw b (hne (h.main hx (A.cell_refs hr) hb)))
    · rw [hw b (fun e => by subst e; rw [k2] at hb; cases hb)]
      exact h.sub b o hb

theorem leaves_marks {fn : Func} {R : Ending → World → Prop} {tmps : Array Value} : ∀ (ds : List Deferred) (a : Act) (w : World), a.defers = ds → a.tmps = tmps → SimD c st a w S ob →
    (∀ a' w', a'.tmps = tmps → SimD c st a' w' S ob → ∃ v, (results fn tmps).run P w' = .ok v w' ∧ R (.returned v) w') → LeavesInM Fence.wide 0 P fn tmps R ds .returning w
  | [], a, w, hd, ht, hs, hR => hR a w ht hs
  | d :: ds, a, w, hd, ht, hs, hR => by
    obtain ⟨Ds, e, _⟩ := hs.defers
    rw [hd] at e
    cases Ds with
    | nil => cases e
    | cons D Ds =>
      have e1 := (List.cons.inj e).1
      subst e1
      obtain ⟨k1, hs'⟩ := hs.unmark hd
      exact ⟨by simp, .inl ⟨D, _, rfl, run_takeDeferred k1, leaves_marks ds { a with defers := ds } _ rfl ht hs' hR⟩⟩

def fnCtx (E : Env) (w : World) (S : Hp) (vals : List Value) (ob : Nat → List Nat) : Ctx := ⟨w, S, fun b => ∃ i, b ∈ ob i, E.lent.map (fun i => (i, vals.getD i undef))⟩

theorem fnCtx_base (hE : EnvOk P E) (hg : GlobOk E.glob S) {vals : List Value} : Base P E (fnCtx E w S vals ob) := ⟨hE, hg, by simp [fnCtx, Function.comp_def]⟩

def startAct (fn : Func) (vals : List Value) : Act := { tmps := vals.toArray ++ Array.replicate (fn.ntmps - vals.toArray.size) undef, defers := [] }

theorem start_sim {fn : Func} {args : List A} {vals : List Value} (hntmps : args.length ≤ fn.ntmps) (har : ArgsRel (hp w) S args vals ob) (hS : Sub S (hp w)) :
    Sim (fnCtx E w S vals ob) (args ++ undefs (fn.ntmps - args.length)) (startAct fn vals) w := by
  have hlen := har.len
  have htv : ∀ i, tv (startAct fn vals) i = vals.getD i undef := by
    intro i
    simp only [tv, startAct, Array.getD_eq_getD_getElem?, List.getD_eq_getElem?_getD]
    by_cases hi : i < vals.length
    · rw [Array.getElem?_append_left (by simpa using hi)]; simp
    · rw [Array.getElem?_append_right (by simpa using hi), List.getElem?_eq_none (by omega)]
      rw [Array.getElem?_replicate]
      split <;> rfl
  refine ⟨S, ob, ⟨[], rfl, .nil, fun D hD => by cases hD⟩, by simp [startAct, undefs_length, hlen], ?_, ?_, ?_, har.inj, har.nd, har.hid, hS, Sub.refl _, fun i b e => .inl ⟨i, e⟩, fun b e => .inl e, ?_, WF.refl _ _⟩
  · intro i x hx
    rw [htv]
    by_cases hi : i < args.length
    · rw [List.getElem?_append_left hi] at hx
      obtain ⟨⟨v, hv, hrel⟩, href⟩ := har.rel i x hx
      rw [show vals.getD i undef = v by simp [List.getD, hv]]
      exact hrel.mono (Sub.refl _) (fun _ _ => rfl) (fun r hr => by rw [href] at hr; cases hr) (fun r hr => by have := A.cell_refs hr; rw [href] at this; cases this)
    · rw [List.getElem?_append_right (by omega), undefs_at] at hx
      split at hx
      · simp only [Option.some.injEq] at hx
        subst hx
        rw [har.out i (by omega), show vals.getD i undef = undef by simp [List.getD, List.getElem?_eq_none (by omega : vals.length ≤ i)]]
        exact ⟨rfl, #[], rfl, .nil⟩
      · cases hx
  · intro i x r hx hr
    by_cases hi : i < args.length
    · rw [List.getElem?_append_left hi] at hx
      rw [(har.rel i x hx).2] at hr; cases hr
    · rw [List.getElem?_append_right (by omega), undefs_at] at hx
      split at hx
      · simp only [Option.some.injEq] at hx
        subst hx; cases hr
      · cases hx
  · intro i hi
    exact har.out i (by simp at hi; omega)
  · intro p hp'
    obtain ⟨i, _, rfl⟩ := List.mem_map.1 hp'
    exact htv i

/-- HOW A FUNCTION ENDS -/
theorem ends_of_sim {fn : Func} {args : List A} {st1 st2 : List A} {fp1 : FP} {r : A} {outs : List A} {vals : List Value} {S1 : Hp} {ob1 : Nat → List Nat} {a' : Act} {w' : World} (hE : EnvOk P E)
    (hargs : argsOk E.lent 0 args = true) (har : ArgsRel (hp w) S args vals ob) (hg : GlobOk E.glob S)
    (hx : exec E (resCmd E fn.results.toList fn.resultTypes.toList fun x => outsK E args.length 0 fun l => (.ret (x, l) : Cmd (A × List A))) st1 fp0 = some ((r, outs), st2, fp1))
    (hs1 : SimD (fnCtx E w S vals ob) st1 a' w' S1 ob1) : ∃ v, (results fn a'.tmps).run P w' = .ok v w' ∧ Ends w S args vals ob r outs (.returned v) w' := by
  have haok := fun j x hj => argOk_lent (by simpa using argsOk_spec hargs j x hj)
  have hb : Base P E (fnCtx E w S vals ob) := fnCtx_base hE hg
  obtain ⟨x, v, o, st3, fp3, S3, ob3, h3, hs3, hS13, hres, hrel, href, hfresh, hond, hl3⟩ := resCmd_inv hx hb hs1
  obtain ⟨l, fp4, h4, hll, hlall⟩ := outsK_inv _ _ _ _ h3
  have h5 := exec_ret h4
  simp only [Prod.mk.injEq] at h5
  obtain ⟨⟨rfl, rfl⟩, _⟩ := h5
  have hmemL : ∀ i, i ∈ E.lent → tv a' i = vals.getD i undef := fun i hi => hs3.lent (i, vals.getD i undef) (List.mem_map.2 ⟨i, hi, rfl⟩)
  have hbox : ∀ i, i ∈ E.lent → i < args.length → ∃ x' : A, args[i]? = some x' ∧ isBoxA x' = true := fun i hi hia => ⟨_, List.getElem?_eq_getElem hia, ((haok i _ (List.getElem?_eq_getElem hia)).1).1 hi⟩
  -- what the lent boxes own now
  let ob' : Nat → List Nat := fun i => if i ∈ E.lent ∧ i < args.length then ob3 i else []
  have hsub : ∀ {i b}, b ∈ ob' i → i ∈ E.lent ∧ b ∈ ob3 i := by
    intro i b hb'
    simp only [ob'] at hb'
    split at hb'
    · rename_i hc; exact ⟨hc.1, hb'⟩
    · cases hb'
  refine ⟨v, hres, v, S3, o, ob', rfl, hs3.frame, hs3.mono, hs3.sub, hs3.newS, ⟨hrel.mono (Sub.refl _) (fun _ _ => rfl) (fun r hr => by rw [href] at hr; cases hr) (fun r hr => by have := A.cell_refs hr; rw [href] at this; cases this), href⟩, ?_, hond, ?_, ?_, ?_, ?_, ?_⟩
  · intro b hbo
    obtain ⟨t, htl, hot⟩ := hfresh b hbo
    exact ⟨hs3.hid _ _ hot, hs3.fresh _ _ hot⟩
  · intro i x' hx' hbx
    have hia : i < args.length := by
      rcases Nat.lt_or_ge i args.length with h | h
      · exact h
      · simp [List.getElem?_eq_none h] at hx'
    have hmem : i ∈ E.lent := ((haok i _ hx').1).2 hbx
    obtain ⟨t, y', h6, h7⟩ := hlall i hia (by simpa using hmem)
    rw [Nat.zero_add] at h6
    obtain ⟨⟨v', hv', hrel'⟩, _⟩ := har.rel i _ hx'
    have htvi : tv a' i = v' := by rw [hmemL i hmem]; simp [List.getD, hv']
    refine ⟨_, v', h7, hv', rfl, ?_⟩
    have hr6 := hs3.rel i _ h6
    rw [htvi] at hr6
    have e : ob' i = ob3 i := by simp only [ob']; rw [if_pos ⟨hmem, hia⟩]
    rw [e]
    exact hr6.mono (Sub.refl _) (fun _ _ => rfl) (fun r hr => by cases hr)
  · intro i b hi
    obtain ⟨hil, hi3⟩ := hsub hi
    refine ⟨hs3.fresh _ _ hi3, hs3.hid _ _ hi3, fun hbo => ?_⟩
    obtain ⟨t, htl, hot⟩ := hfresh b hbo
    have := hs3.inj _ _ _ hot hi3
    subst this
    exact htl hil
  · exact fun i j b hi hj => hs3.inj i j b (hsub hi).2 (hsub hj).2
  · intro i
    simp only [ob']
    split
    · exact hs3.nd i
    · exact .nil
  · intro i hi
    simp only [ob']
    rw [if_neg]
    rintro ⟨hil, hia⟩
    obtain ⟨x', hx', hbx⟩ := hbox i hil hia
    obtain ⟨⟨v', hv', hrel'⟩, _⟩ := har.rel i _ hx'
    cases x' <;> simp [isBoxA] at hbx
    obtain ⟨b, cs, E', fr, bs, e1, _⟩ := hrel'
    rw [hi] at e1; cases e1

theorem fun_end {f : FuncId} {fn : Func} {body : Code} {args : List A} {e : Ex} {st1 st2 : List A} {fp1 : FP} {r : A} {outs : List A} {vals : List Value} (hE : EnvOk P E) (hf : P.funcs[f]? = some fn) (hbody : fn.body = some body)
    (hargs : argsOk E.lent 0 args = true) (hntmps : args.length ≤ fn.ntmps) (har : ArgsRel (hp w) S args vals ob) (hS : Sub S (hp w)) (hg : GlobOk E.glob S)
    (hwp : ∀ (Q : Exit → Act → World → Prop) (a : Act) (w1 : World), Sim (fnCtx E w S vals ob) (args ++ undefs (fn.ntmps - args.length)) a w1 → (∀ a' w', Sim (fnCtx E w S vals ob) st1 a' w' → Q e.exit' a' w') → body.wp P Q a w1)
    (hee : e = .normal ∨ e = .ret)
    (hx : exec E (resCmd E fn.results.toList fn.resultTypes.toList fun x => outsK E args.length 0 fun l => (.ret (x, l) : Cmd (A × List A))) st1 fp0 = some ((r, outs), st2, fp1)) :
    Calls P f vals.toArray w fun e w' => Ends w S args vals ob r outs e w' := by
  have hs0 := start_sim (E := E) (fn := fn) hntmps har hS
  refine callsIn_wide.1 (callsIn_of_wp_marks (n := 0) hf hbody trivial (wpIn_wide.2 (hwp _ _ _ hs0 ?_)))
  rintro a1 w1 ⟨S1, ob1, hs1⟩
  have key : LeavesInM Fence.wide 0 P fn a1.tmps (fun e w' => Ends w S args vals ob r outs e w') a1.defers .returning w1 := by
    refine leaves_marks a1.defers a1 w1 rfl rfl hs1 ?_
    intro a' w' hta hs1
    rw [← hta]
    exact ends_of_sim hE hargs har hg hx hs1
  rcases hee with rfl | rfl <;> exact key

/-! ## a function that is called as a deferred one -/

theorem going_marks {fn : Func} {R : Ending → World → Prop} {tmps : Array Value} : ∀ (ds : List Deferred) (a : Act) (w : World) (fr : Frame) (cs : List Frame), a.defers = ds → a.tmps = tmps → SimD c st a w S ob → fr.mode = .returning → fr.defers = ds → fr.tmps = tmps → P.funcs[fr.fn]? = some fn →
    (∀ a' w', a'.tmps = tmps → SimD c st a' w' S ob → ∃ v, (results fn tmps).run P w' = .ok v w' ∧ R (.returned v) w') →
    ∃ v w' fr', R (.returned v) w' ∧ Steps P (lone fr cs w) (lone fr' cs w') ∧ fr'.kind = fr.kind ∧ fr'.going P w' (.returned v)
  | [], a, w, fr, cs, hd, ht, hs, hm, hfd, hft, hf, hR => by
    obtain ⟨v, hr, hv⟩ := hR a w ht hs
    exact ⟨v, w, fr, hv, Steps.refl P _, rfl, hm, hfd, fn, hf, by rw [hft]; exact hr⟩
  | d :: ds, a, w, fr, cs, hd, ht, hs, hm, hfd, hft, hf, hR => by
    obtain ⟨Ds, e, _⟩ := hs.defers
    rw [hd] at e
    cases Ds with
    | nil => cases e
    | cons D Ds =>
      have e1 := (List.cons.inj e).1
      subst e1
      obtain ⟨k1, hs'⟩ := hs.unmark hd
      have h1 := step_collected (P := P) (cs := cs) (fr := fr) (by rw [hm]; simp) hfd rfl (run_takeDeferred k1)
      obtain ⟨v, w2, fr2, g1, g2, g3, g4⟩ := going_marks ds { a with defers := ds } _ { fr with defers := [] ++ ds } cs rfl ht hs' hm rfl hft hf hR
      exact ⟨v, w2, fr2, g1, .head h1 g2, g3, g4⟩

theorem fun_endD {f : FuncId} {fn : Func} {body : Code} {args : List A} {e : Ex} {st1 st2 : List A} {fp1 : FP} {r : A} {outs : List A} {vals : List Value} (hE : EnvOk P E) (hf : P.funcs[f]? = some fn) (hbody : fn.body = some body)
    (hargs : argsOk E.lent 0 args = true) (hntmps : args.length ≤ fn.ntmps) (har : ArgsRel (hp w) S args vals ob) (hS : Sub S (hp w)) (hg : GlobOk E.glob S)
    (hwp : ∀ (Q : Exit → Act → World → Prop) (a : Act) (w1 : World), Sim (fnCtx E w S vals ob) (args ++ undefs (fn.ntmps - args.length)) a w1 → (∀ a' w', Sim (fnCtx E w S vals ob) st1 a' w' → Q e.exit' a' w') → body.wp P Q a w1)
    (hee : e = .normal ∨ e = .ret)
    (hx : exec E (resCmd E fn.results.toList fn.resultTypes.toList fun x => outsK E args.length 0 fun l => (.ret (x, l) : Cmd (A × List A))) st1 fp0 = some ((r, outs), st2, fp1)) :
    CallsD P f vals.toArray .returning w fun e u' w' => u' = .returning ∧ Ends w S args vals ob r outs e w' := by
  have hs0 := start_sim (E := E) (fn := fn) hntmps har hS
  intro c₀ cs hu
  let b : Frame := { (default : Frame) with fn := f, kind := .deferred }
  have henter : Frame.enter P f vals.toArray .deferred = b.at (startAct fn vals) [.code body] := by
    simp [Frame.enter, Frame.at, hf, hbody, b, startAct]
  have hc : ({ c₀ with mode := .returning } : Frame) = c₀ := by rw [← hu]
  obtain ⟨e', a', w', hq, harr⟩ := hwp (fun ex a1 w1 => ex = e.exit' ∧ Sim (fnCtx E w S vals ob) st1 a1 w1) _ _ hs0 (fun a' w' h => ⟨rfl, h⟩) b [] (c₀ :: cs)
  rw [← henter] at harr
  obtain ⟨rfl, S1, ob1, hs1⟩ := hq
  rcases hee with rfl | rfl
  · obtain ⟨v, w2, fr2, g1, g2, g3, g4⟩ := going_marks (fn := fn) (R := fun e w' => Ends w S args vals ob r outs e w') a'.defers a' w' { b.at a' [] with mode := .returning } (c₀ :: cs) rfl rfl hs1 rfl rfl rfl hf (fun a2 w2 h2 hs2 => by rw [← h2]; exact ends_of_sim hE hargs har hg hx hs2)
    exact ⟨.returned v, .returning, w2, fr2, ⟨rfl, g1⟩, (by rw [hc]; exact Steps.trans (Steps.trans harr (.one step_end)) g2), g3, g4⟩
  · obtain ⟨todo, hs₀⟩ := harr
    obtain ⟨v, w2, fr2, g1, g2, g3, g4⟩ := going_marks (fn := fn) (R := fun e w' => Ends w S args vals ob r outs e w') a'.defers a' w' { b.at a' todo with mode := .returning } (c₀ :: cs) rfl rfl hs1 rfl rfl rfl hf (fun a2 w2 h2 hs2 => by rw [← h2]; exact ends_of_sim hE hargs har hg hx hs2)
    exact ⟨.returned v, .returning, w2, fr2, ⟨rfl, g1⟩, (by rw [hc]; exact Steps.trans hs₀ g2), g3, g4⟩
end
end Go.Lift

/- Functions in pieces: parts of a body are replaced by plain functions of what the temporaries hold; and the contract that follows. -/
set_option linter.all false
namespace Go.Lift

/-! ## shapes of states -/

inductive AS where
  | v (t : T) | row (t : T) | box (t : T) | nilsl | tup (ts : List T) | iter | nilp | fnc (f : Nat) | yld | ov (t : T) | otup (ts : List T) | clo (f : Nat) (rs : List Nat)
  deriving DecidableEq

@[reducible] def AS.den : AS → Type
  | .v t => t.den
  | .row t => List t.den
  | .box t => t.den
  | .nilsl => Unit
  | .tup ts => denL ts
  | .iter => List UInt8 × Nat
  | .nilp => Unit
  | .fnc _ => Unit
  | .yld => Unit
  | .ov t => t.den
  | .otup ts => denL ts
  | .clo _ _ => Unit

def AS.mk : (s : AS) → s.den → A
  | .v t, x => .v t x
  | .row t, x => .row t x
  | .box t, x => .box t x
  | .nilsl, _ => .nilsl
  | .tup ts, x => .tup (mkL ts x)
  | .iter, x => .iter x.1 x.2
  | .nilp, _ => .v .opq (.pointer none)
  | .fnc f, _ => .v .opq (.func (.func f) #[] #[])
  | .yld, _ => .yld
  | .ov t, x => .ov t x
  | .otup ts, x => .otup (mkL ts x)
  | .clo f rs, _ => .clo f rs

def unL : (ts : List T) → List Dat → Option (denL ts)
  | [], [] => some ()
  | t :: ts, d :: l => match cast d.1 t d.2 with
    | some x => (match unL ts l with
      | some y => some (x, y)
      | none => none)
    | none => none
  | _, _ => none

def eqNats : List Nat → List Nat → Bool
  | [], [] => true
  | x :: l, y :: m => and' (Nat.beq x y) (eqNats l m)
  | _, _ => false

theorem eqNats_eq : ∀ {l m : List Nat}, eqNats l m = true → l = m
  | [], [], _ => rfl
  | x :: l, y :: m, h => by rw [Nat.eq_of_beq_eq_true (and'_true h).1, eqNats_eq (and'_true h).2]
  | [], _ :: _, h => by simp [eqNats] at h
  | _ :: _, [], h => by simp [eqNats] at h

def AS.un : (s : AS) → A → Option s.den
  | .v t, .v u x => cast u t x
  | .row t, .row u x => cast (.sl u) (.sl t) x
  | .box t, .box u x => cast u t x
  | .nilsl, .nilsl => some ()
  | .tup ts, .tup l => unL ts l
  | .iter, .iter s p => some (s, p)
  | .yld, .yld => some ()
  | .ov t, .ov u x => cast u t x
  | .otup ts, .otup l => unL ts l
  | .clo f rs, .clo g rs' => (match and' (Nat.beq f g) (eqNats rs rs') with
    | true => some ()
    | false => none)
  | .nilp, .v .opq x => (match x with
    | .pointer none => some ()
    | _ => none)
  | .fnc f, .v .opq x => (match x with
    | .func (.func g) a b => (match and' (Nat.beq f g) (and' a.isEmpty b.isEmpty) with
      | true => some ()
      | false => none)
    | _ => none)
  | _, _ => none

/-- a state: some dead, then something, again and again; at last some dead -/
@[reducible] def denS : List (Nat × AS) → Type
  | [] => Unit
  | p :: r => p.2.den × denS r

def deads (n : Nat) (l : List A) : List A := match n with
  | 0 => l
  | n + 1 => .dead :: deads n l

def mkS : (s : List (Nat × AS)) → Nat → denS s → List A
  | [], m, _ => deads m []
  | p :: r, m, x => deads p.1 (p.2.mk x.1 :: mkS r m x.2)

def unDeads {α : Type} (n : Nat) (l : List A) (k : List A → Option α) : Option α := match n with
  | 0 => k l
  | n + 1 => match l with
    | .dead :: l => unDeads n l k
    | _ => none

def unS : (s : List (Nat × AS)) → Nat → List A → Option (denS s)
  | [], m, l => unDeads m l fun l => match l with
    | [] => some ()
    | _ => none
  | p :: r, m, l => unDeads p.1 l fun l => match l with
    | a :: l => (match p.2.un a with
      | some x => (match unS r m l with
        | some y => some (x, y)
        | none => none)
      | none => none)
    | [] => none

theorem unL_mk : ∀ {ts : List T} {l : List Dat} {x : denL ts}, unL ts l = some x → l = mkL ts x
  | [], [], _, _ => rfl
  | t :: ts, d :: l, x, h => by
    simp only [unL] at h
    split at h
    · rename_i y hy
      split at h
      · rename_i z hz
        cases h
        obtain ⟨e, e'⟩ := cast_some hy
        obtain ⟨u, d⟩ := d
        dsimp only at e; subst e; dsimp only at e'; subst e'
        simp only [mkL]
        rw [← unL_mk hz]
      · cases h
    · cases h
  | [], _ :: _, _, h => by simp [unL] at h
  | _ :: _, [], _, h => by simp [unL] at h

theorem AS.un_nilp {a : A} (h : AS.un .nilp a = some ()) : a = .v .opq (.pointer none) := by
  cases a <;> try (simp [AS.un] at h; done)
  case v t x =>
    cases t <;> try (simp [AS.un] at h; done)
    simp only [AS.un] at h
    split at h
    · rfl
    · cases h

theorem AS.un_fnc {f : Nat} {a : A} (h : AS.un (.fnc f) a = some ()) : a = .v .opq (.func (.func f) #[] #[]) := by
  cases a <;> try (simp [AS.un] at h; done)
  case v t x =>
    cases t <;> try (simp [AS.un] at h; done)
    simp only [AS.un] at h
    split at h
    · rename_i g a b
      split at h
      · rename_i hc
        obtain ⟨h1, h2⟩ := and'_true hc
        obtain ⟨h2, h3⟩ := and'_true h2
        have h1 := Nat.eq_of_beq_eq_true h1
        have h2 : a = #[] := by simpa using h2
        have h3 : b = #[] := by simpa using h3
        subst h1; subst h2; subst h3; rfl
      · cases h
    · cases h

theorem AS.un_mk {s : AS} {a : A} {x : s.den} (h : s.un a = some x) : a = s.mk x := by
  by_cases hn : s = .nilp
  · subst hn; exact AS.un_nilp h
  by_cases hf : ∃ f, s = .fnc f
  · obtain ⟨f, rfl⟩ := hf; exact AS.un_fnc h
  cases s <;> cases a <;> simp only [AS.un, reduceCtorEq] at h
  case v.v t u y => obtain ⟨e, e'⟩ := cast_some h; subst e; dsimp only at e'; subst e'; rfl
  case row.row t u y => obtain ⟨e, e'⟩ := cast_some h; cases e; dsimp only at e'; subst e'; rfl
  case box.box t u y => obtain ⟨e, e'⟩ := cast_some h; subst e; dsimp only at e'; subst e'; rfl
  case nilsl.nilsl => rfl
  case tup.tup ts l => rw [unL_mk h]; rfl
  case iter.iter s p => cases h; rfl
  case yld.yld => rfl
  case ov.ov t u y => obtain ⟨e, e'⟩ := cast_some h; subst e; dsimp only at e'; subst e'; rfl
  case otup.otup ts l => rw [unL_mk h]; rfl
  case clo.clo f rs g rs' =>
    split at h
    · rename_i hc
      obtain ⟨h1, h2⟩ := and'_true hc
      rw [← Nat.eq_of_beq_eq_true h1, ← eqNats_eq h2]; rfl
    · cases h
  all_goals first
    | (exact absurd rfl hn)
    | (exact absurd ⟨_, rfl⟩ hf)

theorem unDeads_some {α : Type} {k : List A → Option α} {y : α} : ∀ {n : Nat} {l : List A}, unDeads n l k = some y → ∃ l', l = deads n l' ∧ k l' = some y
  | 0, l, h => ⟨l, rfl, h⟩
  | n + 1, l, h => by
    simp only [unDeads] at h
    split at h
    · obtain ⟨l', e, hk⟩ := unDeads_some h
      exact ⟨l', by simp only [deads]; rw [e], hk⟩
    · cases h

theorem unS_mk : ∀ {s : List (Nat × AS)} {m : Nat} {l : List A} {x : denS s}, unS s m l = some x → l = mkS s m x
  | [], m, l, x, h => by
    simp only [unS] at h
    obtain ⟨l', e, hk⟩ := unDeads_some h
    split at hk
    · rw [e]; rfl
    · cases hk
  | p :: r, m, l, x, h => by
    simp only [unS] at h
    obtain ⟨l', e, hk⟩ := unDeads_some h
    split at hk
    · rename_i a l2
      split at hk
      · rename_i y hy
        split at hk
        · rename_i z hz
          cases hk
          rw [e, AS.un_mk hy, unS_mk hz]; rfl
        · cases hk
      · cases hk
    · cases hk

/-! ## bodies in pieces -/

abbrev Hd (β : Type) := List A → (Ex → List A → Option β) → Option β
abbrev Tab (β : Type) := List (List Nat × Hd β)

def eqL : List Nat → List Nat → Bool
  | [], [] => true
  | a :: l, b :: m => (match Nat.beq a b with
    | true => eqL l m
    | false => false)
  | _, _ => false

def look {β : Type} : Tab β → List Nat → Option (Hd β)
  | [], _ => none
  | e :: r, p => match eqL e.1 p with
    | true => some e.2
    | false => look r p

def lookL : List (List Nat × List Nat) → List Nat → List Nat
  | [], _ => []
  | e :: r, p => match eqL e.1 p with
    | true => e.2
    | false => lookL r p

def lookO : List (List Nat × List Nat) → List Nat → Option (List Nat)
  | [], _ => none
  | e :: r, p => match eqL e.1 p with
    | true => some e.2
    | false => lookO r p

/-- what is not needed at place p is forgotten -/
def rs (L : List (List Nat × List Nat)) (p : List Nat) (st : List A) : List A := match lookO L p with
  | some l => restr l 0 st
  | none => st

def via {β : Type} (o : Option (Hd β)) (f : Hd β) : Hd β := match o with
  | some h => h
  | none => f

/-- behind the arms of a test -/
def joinK {β : Type} (L : List (List Nat × List Nat)) (p : List Nat) (K : Ex → List A → Option β) : Ex → List A → Option β := fun e st => match e with
  | .normal => K .normal (rs L p st)
  | e => K e st

def evN {β : Type} (E : Env) (N : Nat) (H : Tab β) (L : List (List Nat × List Nat)) (p : List Nat) : Code → List A → (Ex → List A → Option β) → Option β
  | .skip, st, K => K .normal (rs L p st)
  | .region _ ops draw, st, K => match draw with
    | false => seqC E ops ops.toList st fun st => K .normal (rs L p st)
    | true => drawC E ops ops.toList [] st fun st => K .normal (rs L p st)
  | .seq a b, st, K => via (look H (0 :: p)) (evN E N H L (0 :: p) a) st fun e st => match e with
    | .normal => via (look H (1 :: p)) (evN E N H L (1 :: p) b) st K
    | e => K e st
  | .cond x a b, st, K => (rdK E x fun v => (.ret v : Cmd A)).cps E st fp0 fun v _ _ => match v with
    | .v .bool t => cond t (via (look H (0 :: p)) (evN E N H L (0 :: p) a) st (joinK L p K)) (via (look H (1 :: p)) (evN E N H L (1 :: p) b) st (joinK L p K))
    | _ => none
  | .block id a, st, K => via (look H (0 :: p)) (evN E N H L (0 :: p) a) st fun e st => match e with
    | .normal => K .normal (rs L p st)
    | .exit j => (match Nat.beq j id with
      | true => K .normal (rs L p st)
      | false => K (.exit j) st)
    | .ret => K .ret st
  | .loop a, st, K => loopC (lookL L p) (via (look H (0 :: p)) (evN E N H L (0 :: p) a)) N (restr (lookL L p) 0 st) K
  | .rangeFunc g ps assign body, st, K => rfEv E N (lookL L p) g ps assign body st K
  | .exit id, st, K => K (.exit id) (rs L p st)
  | .ret, st, K => K .ret (rs L p st)
  | _, _, _ => none

def child (i : Nat) : Code → Code
  | .seq a b => (match i with
    | 0 => a
    | _ => b)
  | .cond _ a b => (match i with
    | 0 => a
    | _ => b)
  | .block _ a => a
  | .loop a => a
  | c => c

def nodeAt (body : Code) : List Nat → Code
  | [] => body
  | i :: p => child i (nodeAt body p)

def TabOk {β : Type} (P : Program) (c : Ctx) (body : Code) (H : Tab β) : Prop := ∀ q h, look H q = some h → CodeOk P c (nodeAt body q) h

section
variable {P : Program} {E : Env} {c : Ctx} {st st' : List A} {fp fp' : FP} {a : Act} {w w' : World} {S : Hp} {ob : Nat → List Nat}

theorem Sim.rs (h : Sim c st a w) (L : List (List Nat × List Nat)) (p : List Nat) : Sim c (Lift.rs L p st) a w := by
  unfold Lift.rs
  split
  · exact h.restr _
  · exact h

theorem eqL_eq : ∀ {l m : List Nat}, eqL l m = true → l = m
  | [], [], _ => rfl
  | a :: l, b :: m, h => by
    simp only [eqL] at h
    split at h
    · rename_i hab
      rw [Nat.eq_of_beq_eq_true hab, eqL_eq h]
    · cases h
  | [], _ :: _, h => by simp [eqL] at h
  | _ :: _, [], h => by simp [eqL] at h

theorem TabOk.nil {β : Type} {body : Code} : TabOk (β := β) P c body [] := fun q h e => by cases e

theorem TabOk.cons {β : Type} {body : Code} {q : List Nat} {k : Hd β} {H : Tab β} (h : CodeOk P c (nodeAt body q) k) (ht : TabOk P c body H) : TabOk P c body ((q, k) :: H) := by
  intro q' h' e
  simp only [look] at e
  split at e
  · rename_i hq
    cases e
    rw [← eqL_eq hq]; exact h
  · exact ht q' h' e

theorem via_ok {β : Type} {body k : Code} {H : Tab β} {q : List Nat} {f : Hd β} (hH : TabOk P c body H) (hq : nodeAt body q = k) (hf : CodeOk P c k f) : CodeOk P c k (via (look H q) f) := by
  cases hl : look H q with
  | none => exact hf
  | some h => rw [← hq]; exact hH q h hl

theorem evN_sound {β : Type} (hb : Base P E c) (N : Nat) (H : Tab β) (L : List (List Nat × List Nat)) (body : Code) (hH : TabOk P c body H) (p : List Nat) : ∀ (k : Code), nodeAt body p = k → CodeOk (β := β) P c k (evN E N H L p k) := by
  intro k
  induction k generalizing p with
  | skip => exact fun _ st K y h => ⟨.normal, _, h, fun Q a w hs hq => wp_skip (hq a w (hs.rs _ _))⟩
  | region id ops draw =>
    intro _ st K y h
    obtain ⟨e, st', hK, hw⟩ := (evC_sound (β := β) hb N (.region id ops draw)).ok st (fun e st => match e with
      | .normal => K .normal (rs L p st)
      | e => K e st) y h
    cases e with
    | normal => exact ⟨.normal, _, hK, fun Q a w hs hq => hw Q a w hs fun a' w' hs' => hq a' w' (hs'.rs _ _)⟩
    | exit id => exact ⟨.exit id, _, hK, fun Q a w hs hq => hw Q a w hs hq⟩
    | ret => exact ⟨.ret, _, hK, fun Q a w hs hq => hw Q a w hs hq⟩
  | seq x z ihx ihz =>
    intro hp st K y h
    have hx := via_ok hH (q := 0 :: p) (by simp only [nodeAt, hp, child]) (ihx (0 :: p) (by simp only [nodeAt, hp, child]))
    have hz := via_ok hH (q := 1 :: p) (by simp only [nodeAt, hp, child]) (ihz (1 :: p) (by simp only [nodeAt, hp, child]))
    simp only [evN] at h
    obtain ⟨e, st1, hK, hw⟩ := hx st _ y h
    cases e with
    | normal =>
      obtain ⟨e2, st2, hK2, hw2⟩ := hz st1 K y hK
      exact ⟨e2, st2, hK2, fun Q a w hs hq => wp_seq (hw _ a w hs fun a' w' hs' => hw2 Q a' w' hs' hq)⟩
    | exit id => exact ⟨.exit id, st1, hK, fun Q a w hs hq => wp_seq (hw _ a w hs fun a' w' hs' => hq a' w' hs')⟩
    | ret => exact ⟨.ret, st1, hK, fun Q a w hs hq => wp_seq (hw _ a w hs fun a' w' hs' => hq a' w' hs')⟩
  | cond x t e iht ihe =>
    intro hp st K y h
    have ht := via_ok hH (q := 0 :: p) (by simp only [nodeAt, hp, child]) (iht (0 :: p) (by simp only [nodeAt, hp, child]))
    have he := via_ok hH (q := 1 :: p) (by simp only [nodeAt, hp, child]) (ihe (1 :: p) (by simp only [nodeAt, hp, child]))
    simp only [evN] at h
    obtain ⟨v, st1, fp1, h1, h2⟩ := exec_of_cps h
    split at h2
    · rename_i b
      have hev : ∀ a w, Sim c st a w → a.eval x = .bool b := by
        rintro a w ⟨S, ob, hs⟩
        obtain ⟨A, fp', h3, hA, _⟩ := rdK_inv h1 hs (hb.globS hs)
        have := exec_ret h3
        simp only [Prod.mk.injEq] at this
        rw [← this.1] at hA
        exact hA.1.bool_inv
      cases b with
      | true =>
        simp only [cond] at h2
        obtain ⟨ex, st2, hK, hw⟩ := ht st _ y h2
        cases ex with
        | normal => exact ⟨.normal, _, hK, fun Q a w hs hq => wp_cond_true (hev a w hs) (hw Q a w hs fun a' w' hs' => hq a' w' (hs'.rs _ _))⟩
        | exit id => exact ⟨.exit id, _, hK, fun Q a w hs hq => wp_cond_true (hev a w hs) (hw Q a w hs hq)⟩
        | ret => exact ⟨.ret, _, hK, fun Q a w hs hq => wp_cond_true (hev a w hs) (hw Q a w hs hq)⟩
      | false =>
        simp only [cond] at h2
        obtain ⟨ex, st2, hK, hw⟩ := he st _ y h2
        cases ex with
        | normal => exact ⟨.normal, _, hK, fun Q a w hs hq => wp_cond_false (hev a w hs) (hw Q a w hs fun a' w' hs' => hq a' w' (hs'.rs _ _))⟩
        | exit id => exact ⟨.exit id, _, hK, fun Q a w hs hq => wp_cond_false (hev a w hs) (hw Q a w hs hq)⟩
        | ret => exact ⟨.ret, _, hK, fun Q a w hs hq => wp_cond_false (hev a w hs) (hw Q a w hs hq)⟩
    · cases h2
  | block id x ihx =>
    intro hp st K y h
    have hx := via_ok hH (q := 0 :: p) (by simp only [nodeAt, hp, child]) (ihx (0 :: p) (by simp only [nodeAt, hp, child]))
    simp only [evN] at h
    obtain ⟨e, st1, hK, hw⟩ := hx st _ y h
    cases e with
    | normal => exact ⟨.normal, _, hK, fun Q a w hs hq => wp_block (hw _ a w hs fun a' w' hs' => hq a' w' (hs'.rs _ _))⟩
    | exit j =>
      dsimp only at hK
      split at hK
      · rename_i hj
        have hj := beq_nat hj
        subst hj
        refine ⟨.normal, _, hK, fun Q a w hs hq => wp_block (hw _ a w hs fun a' w' hs' => ?_)⟩
        simp only [Ex.exit', Exit.inBlock, if_true]
        exact hq a' w' (hs'.rs _ _)
      · rename_i hj
        have hj : j ≠ id := fun e => by subst e; simp [Nat.beq_refl] at hj
        refine ⟨.exit j, _, hK, fun Q a w hs hq => wp_block (hw _ a w hs fun a' w' hs' => ?_)⟩
        simp only [Ex.exit', Exit.inBlock, if_neg hj]
        exact hq a' w' hs'
    | ret => exact ⟨.ret, _, hK, fun Q a w hs hq => wp_block (hw _ a w hs fun a' w' hs' => hq a' w' hs')⟩
  | loop x ihx =>
    intro hp st K y h
    have hx := via_ok hH (q := 0 :: p) (by simp only [nodeAt, hp, child]) (ihx (0 :: p) (by simp only [nodeAt, hp, child]))
    simp only [evN] at h
    obtain ⟨e, st', hK, hw⟩ := loop_sound hx _ _ _ K y h
    exact ⟨e, st', hK, fun Q a w hs hq => loop_wp (hw Q a w (hs.restr _) hq)⟩
  | exit id => exact fun _ st K y h => ⟨.exit id, _, h, fun Q a w hs hq => wp_exit (hq a w (hs.rs _ _))⟩
  | ret => exact fun _ st K y h => ⟨.ret, _, h, fun Q a w hs hq => wp_ret (hq a w (hs.rs _ _))⟩
  | rangeFunc g ps assign body => exact fun _ st K y h => rf_sound hb N _ g ps assign body st K y h
  | _ => intro _ st K y h; simp [evN] at h

/-- a piece, as a plain function of what the temporaries hold -/
theorem piece_ok {β : Type} {k : Code} {f : Hd β} {s : List (Nat × AS)} {m : Nat} {g : denS s → (Ex → List A → Option β) → Option β} (live : List Nat) (hf : CodeOk P c k f) (h : ∀ x K, f (mkS s m x) K = g x K) :
    CodeOk P c k (fun st K => (unS s m (restr live 0 st)).bind fun x => g x K) := by
  intro st K y hy
  cases hu : unS s m (restr live 0 st) with
  | none => simp only [hu] at hy; cases hy
  | some x =>
    simp only [hu, Option.bind_some] at hy
    rw [← h, ← unS_mk hu] at hy
    obtain ⟨e, st', hK, hw⟩ := hf _ K y hy
    exact ⟨e, st', hK, fun Q a w hs hq => hw Q a w (hs.restr live) hq⟩

def iter {σ β : Type} (step : σ → (σ → Option β) → Option β) : Nat → σ → Option β
  | 0, _ => none
  | n + 1, x => step x (iter step n)

def brk {β : Type} (live : List Nat) (rec : List A → Option β) (K : Ex → List A → Option β) : Ex → List A → Option β := fun e st => match e with
  | .normal => rec (restr live 0 st)
  | e => K e st

theorem loopC_iter {β ι σ : Type} {live : List Nat} {f : Hd β} {mk : ι → σ → List A} {g : ι → σ → (σ → Option β) → (Ex → List A → Option β) → Option β} (h : ∀ i v rec K, f (mk i v) (brk live rec K) = g i v (fun v' => rec (mk i v')) K)
    (K : Ex → List A → Option β) (i : ι) : ∀ (n : Nat) (v : σ), loopC live f n (mk i v) K = iter (fun v r => g i v r K) n v
  | 0, v => rfl
  | n + 1, v => by
    have := h i v (fun st => loopC live f n st K) K
    simp only [loopC, iter]
    refine Eq.trans this ?_
    congr 1
    funext v'
    exact loopC_iter h K i n v'

/-- a loop, as a plain function: i does not turn in it, v does -/
theorem loop_ok {β ι σ : Type} {k : Code} {f : Hd β} {s : List (Nat × AS)} {m : Nat} (g : ι → σ → (σ → Option β) → (Ex → List A → Option β) → Option β) (live : List Nat) (N : Nat) (pi : denS s → ι) (pv : denS s → σ) (mk : ι → σ → denS s) (hmk : ∀ x, mk (pi x) (pv x) = x) (hf : CodeOk P c k f)
    (h : ∀ i v rec K, f (mkS s m (mk i v)) (brk live rec K) = g i v (fun v' => rec (mkS s m (mk i v'))) K) :
    CodeOk P c (.loop k) (fun st K => (unS s m (restr live 0 st)).bind fun x => iter (fun v r => g (pi x) v r K) N (pv x)) := by
  intro st K y hy
  cases hu : unS s m (restr live 0 st) with
  | none => simp only [hu] at hy; cases hy
  | some x =>
    simp only [hu, Option.bind_some] at hy
    rw [← loopC_iter (mk := fun i v => mkS s m (mk i v)) (live := live) (f := f) h, hmk] at hy
    obtain ⟨e, st', hK, hw⟩ := loop_sound hf live N _ K y hy
    refine ⟨e, st', hK, fun Q a w hs hq => loop_wp (hw Q a w ?_ hq)⟩
    rw [← unS_mk hu]
    exact hs.restr live

/-- the rounds of a range over a function, over what it gives -/
def iterL {α σ β : Type} (step : α → σ → (σ → Option β) → Option β) (fin : σ → Option β) : List α → σ → Option β
  | [], v => fin v
  | y :: ys, v => step y v (iterL step fin ys)

def brkR {β : Type} (rec : List A → Option β) (K : Ex → List A → Option β) : Ex → List A → Option β := fun e st => match e with
  | .normal => rec st
  | e => K e st

theorem rfC_iter {β ι σ : Type} {ts : List T} {f : denL ts → Hd β} {mk : ι → σ → List A} {g : denL ts → ι → σ → (σ → Option β) → (Ex → List A → Option β) → Option β}
    (h : ∀ y i v rec K, f y (mk i v) (brkR rec K) = g y i v (fun v' => rec (mk i v')) K) (K : Ex → List A → Option β) (i : ι) : ∀ (xs : List (denL ts)) (v : σ),
    rfC f xs (mk i v) K = iterL (fun y v r => g y i v r K) (fun v => K .normal (mk i v)) xs v
  | [], v => rfl
  | y :: ys, v => by
    have := h y i v (fun st => rfC f ys st K) K
    simp only [rfC, iterL]
    refine Eq.trans this ?_
    congr 1
    funext v'
    exact rfC_iter h K i ys v'

/-- the rounds of a range over a function -/
def rfF {β : Type} (E : Env) (N : Nat) (ts : List T) (k : Code) : denL ts → Hd β := match k with
  | .rangeFunc _ ps assign body => fun y => rndC E N ps.toList assign body (mkL ts y)
  | _ => fun _ _ _ => none

/-- a range over a function, as a plain function: i does not turn in it, v does -/
theorem rf_ok {β ι σ : Type} {ts : List T} {s s2 : List (Nat × AS)} {m m2 : Nat} {k : Code} {F : Hd β} (liveP : List Nat) (Fit : denS s → Option (List (denL ts))) (pi : denS s → ι) (pv : denS s → σ) (mk : ι → σ → denS s2)
    (f : denL ts → Hd β) (g : denL ts → ι → σ → (σ → Option β) → (Ex → List A → Option β) → Option β) (hf : CodeOk P c k F)
    (h0 : ∀ x K, F (mkS s m x) K = (Fit x).bind fun xs => rfC f xs (mkS s2 m2 (mk (pi x) (pv x))) K)
    (h : ∀ y i v rec K, f y (mkS s2 m2 (mk i v)) (brkR rec K) = g y i v (fun v' => rec (mkS s2 m2 (mk i v'))) K) :
    CodeOk P c k (fun st K => (unS s m (restr liveP 0 st)).bind fun x => (Fit x).bind fun xs => iterL (fun y v r => g y (pi x) v r K) (fun v => K .normal (mkS s2 m2 (mk (pi x) v))) xs (pv x)) := by
  intro st K y hy
  cases hu : unS s m (restr liveP 0 st) with
  | none => simp only [hu] at hy; cases hy
  | some x =>
    simp only [hu, Option.bind_some] at hy
    cases hF : Fit x with
    | none => rw [hF] at hy; cases hy
    | some xs =>
      rw [hF] at hy
      simp only [Option.bind_some] at hy
      rw [← rfC_iter (mk := fun i v => mkS s2 m2 (mk i v)) h] at hy
      have h1 := h0 x K
      rw [hF, Option.bind_some] at h1
      rw [← h1, ← unS_mk hu] at hy
      obtain ⟨e, st', hK, hw⟩ := hf _ K y hy
      exact ⟨e, st', hK, fun Q a w hs hq => hw Q a w (hs.restr liveP) hq⟩

def evFX {β : Type} (E : Env) (N : Nat) (H : Tab β) (L : List (List Nat × List Nat)) (fn : Func) (args : List A) (K : A → List A → Option β) : Option β :=
  match fn.body with
  | none => none
  | some body => match and' (and' (argsOk E.lent 0 args) (lentOk args.length E.lent)) (Nat.ble args.length fn.ntmps) with
    | true => evN E N H L [] body (args.append (undefs (fn.ntmps - args.length))) fun e st => match e with
      | .exit _ => none
      | _ => (resCmd E fn.results.toList fn.resultTypes.toList fun x => outsK E args.length 0 fun l => (.ret (x, l) : Cmd (A × List A))).cps E st fp0 fun r _ _ => K r.1 r.2
    | false => none

/-- THE CONTRACT OF A FUNCTION, with its cuts -/
theorem evFX_sound {β : Type} {N : Nat} {H : Tab β} {L : List (List Nat × List Nat)} {f : FuncId} {fn : Func} {body : Code} {args : List A} {K : A → List A → Option β} {y : β} (hE : EnvOk P E) (hf : P.funcs[f]? = some fn) (hbody : fn.body = some body)
    (hH : ∀ c, Base P E c → TabOk P c body H) (h : evFX E N H L fn args K = some y)
    (w : World) (S : Hp) (vals : List Value) (ob : Nat → List Nat) (har : ArgsRel (hp w) S args vals ob) (hS : Sub S (hp w)) (hg : GlobOk E.glob S) :
    ∃ r outs, K r outs = some y ∧ Calls P f vals.toArray w fun e w' => Ends w S args vals ob r outs e w' := by
  unfold evFX at h
  rw [hbody] at h
  dsimp only at h
  split at h
  case h_2 => cases h
  rename_i hck
  obtain ⟨hck1, hntmps⟩ := and'_true hck
  obtain ⟨hargs, hlent⟩ := and'_true hck1
  have hntmps : args.length ≤ fn.ntmps := by simpa using hntmps
  have happ : args.append (undefs (fn.ntmps - args.length)) = args ++ undefs (fn.ntmps - args.length) := rfl
  rw [happ] at h
  have hb : Base P E (fnCtx E w S vals ob) := fnCtx_base hE hg
  obtain ⟨e, st1, hrun, hwp⟩ := evN_sound hb N H L body (hH _ hb) [] body rfl _ _ _ h
  obtain ⟨hee, ⟨r, outs⟩, st2, fp1, hx, hK⟩ : (e = .normal ∨ e = .ret) ∧ ∃ (q : A × List A) (st2 : List A) (fp1 : FP),
      exec E (resCmd E fn.results.toList fn.resultTypes.toList fun x => outsK E args.length 0 fun l => (.ret (x, l) : Cmd (A × List A))) st1 fp0 = some (q, st2, fp1) ∧ K q.1 q.2 = some y := by
    cases e with
    | exit id => cases hrun
    | normal => obtain ⟨q, st2, fp1, h1, h2⟩ := exec_of_cps hrun; exact ⟨.inl rfl, q, st2, fp1, h1, h2⟩
    | ret => obtain ⟨q, st2, fp1, h1, h2⟩ := exec_of_cps hrun; exact ⟨.inr rfl, q, st2, fp1, h1, h2⟩
  exact ⟨r, outs, hK, fun_end hE hf hbody hargs hntmps har hS hg hwp hee hx⟩

/-! ## a function's plain result -/

/-- the plain result of a function whose arguments have the shapes ps and whose plain function is F -/
def resOf {β : Type} (ps : List (Nat × AS)) (F : denS ps → Option β) (out : β → A × List A) (args : List A) : Res :=
  match unS ps 0 args with
  | some x => ⟨β, F x, out⟩
  | none => ⟨Unit, none, fun _ => (.dead, [])⟩

/-- another shape of the arguments -/
def resAlt {β : Type} (ps : List (Nat × AS)) (F : denS ps → Option β) (out : β → A × List A) (other : List A → Res) (args : List A) : Res :=
  match unS ps 0 args with
  | some x => ⟨β, F x, out⟩
  | none => other args

theorem Contract.alt {β : Type} {P : Program} {glob : Nat → Option Dat} {f : FuncId} {ps : List (Nat × AS)} {F : denS ps → Option β} {out : β → A × List A} {other : List A → Res} (h1 : Contract P glob f (resOf ps F out)) (h2 : Contract P glob f other) :
    Contract P glob f (resAlt ps F out other) := by
  refine ⟨h1.1, ?_⟩
  intro w S args vals ob har hS hg
  have k1 := h1.2 w S args vals ob har hS hg
  have k2 := h2.2 w S args vals ob har hS hg
  have e : resAlt ps F out other args = (match unS ps 0 args with | some x => ⟨β, F x, out⟩ | none => other args) := rfl
  have e1 : resOf ps F out args = (match unS ps 0 args with | some x => ⟨β, F x, out⟩ | none => ⟨Unit, none, fun _ => (.dead, [])⟩) := rfl
  cases hu : unS ps 0 args with
  | none => rw [hu] at e; rw [e]; exact k2
  | some x => rw [hu] at e e1; rw [e1] at k1; rw [e]; exact k1

/-- a contract by hand -/
theorem Contract.hand {β : Type} {P : Program} {glob : Nat → Option Dat} {f : FuncId} {ps : List (Nat × AS)} {F : denS ps → Option β} {out : β → A × List A} (hf : ∃ fn, P.funcs[f]? = some fn ∧ fn.body.isSome = true ∧ fn.name ≠ "runtime.NumGoroutine")
    (h : ∀ (w : World) (S : Hp) (vals : List Value) (ob : Nat → List Nat) (x : denS ps) (y : β), ArgsRel (hp w) S (mkS ps 0 x) vals ob → Sub S (hp w) → GlobOk glob S → F x = some y → Calls P f vals.toArray w fun e w' => Ends w S (mkS ps 0 x) vals ob (out y).1 (out y).2 e w') :
    Contract P glob f (resOf ps F out) := by
  refine ⟨hf, ?_⟩
  intro w S args vals ob har hS hg
  unfold resOf
  cases hu : unS ps 0 args with
  | none => intro y hy; cases hy
  | some x =>
    dsimp only
    intro y hy
    rw [unS_mk hu] at har ⊢
    exact h w S vals ob x y har hS hg hy

/-- no steps, no answer -/
theorem Contract.zero {β : Type} {P : Program} {glob : Nat → Option Dat} {f : FuncId} {fn : Func} {body : Code} {ps : List (Nat × AS)} {F : denS ps → Option β} {out : β → A × List A}
    (hf : P.funcs[f]? = some fn) (hbody : fn.body = some body) (hname : fn.name ≠ "runtime.NumGoroutine") (hF : ∀ x, F x = none) : Contract P glob f (resOf ps F out) := by
  refine ⟨⟨fn, hf, by rw [hbody]; rfl, hname⟩, ?_⟩
  intro w S args vals ob har hS hg
  unfold resOf
  cases unS ps 0 args with
  | none => intro y hy; cases hy
  | some x => intro y hy; dsimp only at hy; rw [hF] at hy; cases hy

theorem Contract.of {β : Type} {P : Program} {E : Env} {f : FuncId} {fn : Func} {body : Code} {H : Tab β} {L : List (List Nat × List Nat)} {N : Nat} {ps : List (Nat × AS)} {F : denS ps → Option β} {out : β → A × List A} {K : A → List A → Option β}
    (hE : EnvOk P E) (hf : P.funcs[f]? = some fn) (hbody : fn.body = some body) (hname : fn.name ≠ "runtime.NumGoroutine")
    (hH : ∀ c, Base P E c → TabOk P c body H) (hF : ∀ x y, F x = some y → evFX E N H L fn (mkS ps 0 x) K = some y) (hK : ∀ r outs y, K r outs = some y → (r, outs) = out y) :
    Contract P E.glob f (resOf ps F out) := by
  refine ⟨⟨fn, hf, by rw [hbody]; rfl, hname⟩, ?_⟩
  intro w S args vals ob har hS hg
  unfold resOf
  cases hu : unS ps 0 args with
  | none => intro y hy; cases hy
  | some x =>
    dsimp only
    intro y hy
    have := hF x y hy
    rw [← unS_mk hu] at this
    obtain ⟨r, outs, hr, hc⟩ := evFX_sound hE hf hbody hH this w S vals ob har hS hg
    have hro := hK r outs y hr
    have e1 : r = (out y).1 := by rw [← hro]
    have e2 : outs = (out y).2 := by rw [← hro]
    rw [← e1, ← e2]
    exact hc

/-- what a call does that was deferred -/
def ContractD (P : Program) (glob : Nat → Option Dat) (f : FuncId) (g : List A → Res) : Prop :=
  ∀ (w : World) (S : Hp) (args : List A) (vals : List Value) (ob : Nat → List Nat), ArgsRel (hp w) S args vals ob → Sub S (hp w) → GlobOk glob S →
    ∀ y, (g args).val = some y → CallsD P f vals.toArray .returning w fun e u' w' => u' = .returning ∧ Ends w S args vals ob ((g args).out y).1 ((g args).out y).2 e w'

theorem evFX_soundD {β : Type} {N : Nat} {H : Tab β} {L : List (List Nat × List Nat)} {f : FuncId} {fn : Func} {body : Code} {args : List A} {K : A → List A → Option β} {y : β} (hE : EnvOk P E) (hf : P.funcs[f]? = some fn) (hbody : fn.body = some body)
    (hH : ∀ c, Base P E c → TabOk P c body H) (h : evFX E N H L fn args K = some y)
    (w : World) (S : Hp) (vals : List Value) (ob : Nat → List Nat) (har : ArgsRel (hp w) S args vals ob) (hS : Sub S (hp w)) (hg : GlobOk E.glob S) :
    ∃ r outs, K r outs = some y ∧ CallsD P f vals.toArray .returning w fun e u' w' => u' = .returning ∧ Ends w S args vals ob r outs e w' := by
  unfold evFX at h
  rw [hbody] at h
  dsimp only at h
  split at h
  case h_2 => cases h
  rename_i hck
  obtain ⟨hck1, hntmps⟩ := and'_true hck
  obtain ⟨hargs, hlent⟩ := and'_true hck1
  have hntmps : args.length ≤ fn.ntmps := by simpa using hntmps
  have happ : args.append (undefs (fn.ntmps - args.length)) = args ++ undefs (fn.ntmps - args.length) := rfl
  rw [happ] at h
  have hb : Base P E (fnCtx E w S vals ob) := fnCtx_base hE hg
  obtain ⟨e, st1, hrun, hwp⟩ := evN_sound hb N H L body (hH _ hb) [] body rfl _ _ _ h
  obtain ⟨hee, ⟨r, outs⟩, st2, fp1, hx, hK⟩ : (e = .normal ∨ e = .ret) ∧ ∃ (q : A × List A) (st2 : List A) (fp1 : FP),
      exec E (resCmd E fn.results.toList fn.resultTypes.toList fun x => outsK E args.length 0 fun l => (.ret (x, l) : Cmd (A × List A))) st1 fp0 = some (q, st2, fp1) ∧ K q.1 q.2 = some y := by
    cases e with
    | exit id => cases hrun
    | normal => obtain ⟨q, st2, fp1, h1, h2⟩ := exec_of_cps hrun; exact ⟨.inl rfl, q, st2, fp1, h1, h2⟩
    | ret => obtain ⟨q, st2, fp1, h1, h2⟩ := exec_of_cps hrun; exact ⟨.inr rfl, q, st2, fp1, h1, h2⟩
  exact ⟨r, outs, hK, fun_endD hE hf hbody hargs hntmps har hS hg hwp hee hx⟩

theorem ContractD.of {β : Type} {P : Program} {E : Env} {f : FuncId} {fn : Func} {body : Code} {H : Tab β} {L : List (List Nat × List Nat)} {N : Nat} {ps : List (Nat × AS)} {F : denS ps → Option β} {out : β → A × List A} {K : A → List A → Option β}
    (hE : EnvOk P E) (hf : P.funcs[f]? = some fn) (hbody : fn.body = some body) (hname : fn.name ≠ "runtime.NumGoroutine")
    (hH : ∀ c, Base P E c → TabOk P c body H) (hF : ∀ x y, F x = some y → evFX E N H L fn (mkS ps 0 x) K = some y) (hK : ∀ r outs y, K r outs = some y → (r, outs) = out y) :
    ContractD P E.glob f (resOf ps F out) := by
  intro w S args vals ob har hS hg
  unfold resOf
  cases hu : unS ps 0 args with
  | none => intro y hy; cases hy
  | some x =>
    dsimp only
    intro y hy
    have := hF x y hy
    rw [← unS_mk hu] at this
    obtain ⟨r, outs, hr, hc⟩ := evFX_soundD hE hf hbody hH this w S vals ob har hS hg
    have hro := hK r outs y hr
    have e1 : r = (out y).1 := by rw [← hro]
    have e2 : outs = (out y).2 := by rw [← hro]
    rw [← e1, ← e2]
    exact hc
end
end Go.Lift

