import Derived.Test.YtkipbccgnekoaaaGreatDoorLgPrPre4
import Derived.Test.YtkipbccgnekoaaaGreatDoorLgW
set_option linter.all false
set_option maxRecDepth 100000
namespace Go.Proofs.YtkipbccgnekoaaaGreatDoorLg
noncomputable section
open Go Go.Lift
theorem zrr {N:Nat} {key s:List UInt8} {e:Int} {w:World} {S:Hp} (hS:Sub S (hp w)) (hg:GlobOk glob S) (he:z7b N key s = some e) :
    Calls Tryz.prog 103 #[.string ⟨⟨key⟩⟩,.string ⟨⟨s⟩⟩] w fun r w'=>r = .returned (.int .i64 e) /\ Go.RowKit.Below w.heap.size w w' /\ ∃ S',Sub S S' /\ Sub S' (hp w') /\ ∀ b,S' b ≠ none -> S b ≠ none \/ w.heap.size <= b := by
  have h := (zwe N).2 w S (mkS SQ0 0 (key,s,())) [.string ⟨⟨key⟩⟩,.string ⟨⟨s⟩⟩] (fun _ => []) ⟨rfl,fun i x hx => ?_,fun _ _=>rfl,(fun i j b hb=>by cases hb),fun _ => .nil,(fun i b hb=>by cases hb)⟩ hS hg
  . have h2 := h e (by show z7b N key s = some e; exact he)
    refine h2.mono ?_
    rintro r w' ⟨v,S',o,ob',rfl,hwf,h3,h4,h5,⟨⟨hv,_⟩,_⟩,_⟩
    have hv' := VR.int_inv hv
    subst hv'
    refine ⟨rfl,⟨hwf.os,hwf.tape,hwf.output,hwf.size,fun k hk=>hwf.same k hk (by rintro ⟨i,hi⟩; cases hi)⟩,S',h3,h4,fun b hb => ?_⟩
    rcases h5 b hb with h | ⟨i,hi⟩ | h
    . exact .inl h
    . cases hi
    . exact .inr h
  . match i with
    | 0=>simp [mkS,z3o,AS.mk] at hx; subst hx; exact ⟨⟨_,rfl,VR.str,rfl⟩,rfl⟩
    | 1=>simp [mkS,z3o,AS.mk] at hx; subst hx; exact ⟨⟨_,rfl,VR.str,rfl⟩,rfl⟩
    | i + 2=>simp [mkS,z3o] at hx
theorem zde {h S:Hp} {tv:Nat -> Value} {b E:Nat} {t:T} {x:t.den} {v:Value} (ht:t.isAgg = false) (hb:h b = some (.cells #[v] E (0,0))) (hv:Rd S t x [v]) : ARel h S tv (.box t x) (.pointer (some ⟨b,0,none⟩)) [b] :=
  ⟨b, #[v],E,(0,0),[],rfl,rfl,hb,(fun i _ hq=>by have := hq.2; omega),RdO.of_rd t x _ hv⟩
theorem zll {h S:Hp} {tv:Nat -> Value} {t:T} {x:t.den} {b:Nat} {o:List Nat} (ht:noOwn t = true) (hs:t.size = 1) (hx:ARel h S tv (.box t x) (.pointer (some ⟨b,0,none⟩)) o) : ∃ v E fr,h b = some (.cells #[v] E fr) /\ Rd S t x [v] := by
  obtain ⟨b',cs,E,fr,bs,_,e,hb,_,hr⟩ := hx
  cases e
  obtain ⟨_,hr⟩ := RdO.rd t x _ _ ht hr
  have hl := hr.length
  rw [hs] at hl
  obtain ⟨v,hv⟩ := List.length_eq_one_iff.1 hl
  have : cs = #[v] := by apply Array.toList_inj.1; rw [hv]
  subst this
  exact ⟨v,E,fr,hb,hr⟩
theorem zqr (N:Nat) : Contract Tryz.prog glob 79 (zho N) := by
  refine Contract.hand ⟨_,Tryz.func79,by kernel_rfl,by decide⟩ ?_
  intro w S vals ob x y har hS hg hy
  obtain ⟨key,s,u⟩ := x
  cases u
  unfold z5o at hy
  dsimp only at hy
  cases he : z7b N key s with
  | none=>rw [he] at hy; cases hy
  | some e =>
  rw [he,Option.bind_some] at hy
  cases ho : zex N e key s [] with
  | none=>rw [ho] at hy; cases hy
  | some z =>
  rw [ho,Option.bind_some] at hy
  cases hy
  obtain ⟨⟨v0,hv0,hA0,ho0⟩,_⟩ := har.rel 0 _ rfl
  obtain ⟨⟨v1,hv1,hA1,ho1⟩,_⟩ := har.rel 1 _ rfl
  have hlen := har.len
  obtain ⟨u0,u1,rfl⟩ : ∃ u0 u1,vals = [u0,u1] := by
    have : vals.length = 2 := by simpa [mkS,z3o] using hlen.symm
    match vals,this with
    | [a,b],_=>exact ⟨a,b,rfl⟩
  simp at hv0 hv1
  subst hv0; subst hv1
  have e0 := hA0.str_inv
  have e1 := hA1.str_inv
  subst e0; subst e1
  have hnone : ∀ i,ob i = [] := by
    intro i
    match i with
    | 0=>exact ho0
    | 1=>exact ho1
    | i + 2=>exact har.out _ (by simp [mkS,z3o])
  have hmf : ∀ (fn:Fn) (first cap:Array Value) (w:World),(Instr.makeFunc fn first cap).run Tryz.prog w = .ok (.func fn first cap) w := fun _ _ _ _=>rfl
  obtain ⟨n,hn⟩ : ∃ n,n = w.heap.size := ⟨_,rfl⟩
  have hltS : ∀ b,S b ≠ none -> b < n := fun b hb=>by
    cases hs : S b with
    | none=>exact absurd hs hb
    | some o=>rw [hn]; exact z79 (hS b o hs)
  obtain ⟨W4,hW4⟩ : ∃ W4,W4 = (((w.alloc (.cells #[.string ⟨⟨key⟩⟩] 9)).alloc (.cells #[.string ⟨⟨s⟩⟩] 9)).alloc (.cells #[.string ⟨#[]⟩] 9)).alloc (.cells #[.int .i64 0] 31) := ⟨_,rfl⟩
  have hh : W4.heap = (((w.heap.push (.cells #[.string ⟨⟨key⟩⟩] 9 (0,0))).push (.cells #[.string ⟨⟨s⟩⟩] 9 (0,0))).push (.cells #[.string ⟨#[]⟩] 9 (0,0))).push (.cells #[.int .i64 0] 31 (0,0)) := by rw [hW4]; rfl
  have z4 : W4.heap.size = n + 4 := by rw [hh,hn]; simp only [Array.size_push]
  have k0 : W4.heap[n]? = some (.cells #[.string ⟨⟨key⟩⟩] 9 (0,0)) := by rw [hh,hn]; simp only [Array.getElem?_push,Array.size_push]; rw [if_neg (by omega),if_neg (by omega),if_neg (by omega),if_pos trivial]
  have k1 : W4.heap[n + 1]? = some (.cells #[.string ⟨⟨s⟩⟩] 9 (0,0)) := by rw [hh,hn]; simp only [Array.getElem?_push,Array.size_push]; rw [if_neg (by omega),if_neg (by omega),if_pos trivial]
  have k2 : W4.heap[n + 2]? = some (.cells #[.string ⟨#[]⟩] 9 (0,0)) := by rw [hh,hn]; simp only [Array.getElem?_push,Array.size_push]; rw [if_neg (by omega),if_pos (by first | omega | trivial)]
  have k3 : W4.heap[n + 3]? = some (.cells #[.int .i64 0] 31 (0,0)) := by rw [hh,hn]; simp only [Array.getElem?_push,Array.size_push]; rw [if_pos (by first | omega | trivial)]
  have kl : ∀ b,b < n -> W4.heap[b]? = w.heap[b]? := fun b hb=>by
    rw [hh]; simp only [Array.getElem?_push,Array.size_push]
    rw [if_neg (by omega),if_neg (by omega),if_neg (by omega),if_neg (by omega)]
  have hS4 : Sub S (hp W4) := fun b o hb=>by
    have h1 := hS b o hb
    simp only [hp] at h1 ⊢
    rw [kl b (hltS b (by rw [hb]; simp))]; exact h1
  have t4 : W4.tape = w.tape /\ W4.os = w.os /\ W4.output = w.output := by rw [hW4]; exact ⟨rfl,rfl,rfl⟩
  have hck := zrr (N := N) hS4 hg he
  have main : ∀ w5,Go.RowKit.Below W4.heap.size W4 w5 -> (∃ S',Sub S S' /\ Sub S' (hp w5) /\ ∀ b,S' b ≠ none -> S b ≠ none \/ W4.heap.size <= b) →
      CallsD Tryz.prog 101 #[.pointer (some ⟨n + 3,0,none⟩),.pointer (some ⟨n,0,none⟩),.pointer (some ⟨n + 1,0,none⟩),.pointer (some ⟨n + 2,0,none⟩)] .returning
        ((w5.setCell ⟨n + 2,0,none⟩ (.string ⟨#[]⟩)).setCell ⟨n + 3,0,none⟩ (.int .i64 e)) fun r u w7=>(∃ v,r = .returned v) /\ u = .returning /\ w7.cell? ⟨n + 2,0,none⟩ = some (.string ⟨⟨z.2.2.2.2.1⟩⟩) /\ w7.cell? ⟨n + 3,0,none⟩ = some (.int .i64 z.2.1) ∧
          Lift.Ends w S (mkS SQ0 0 (key,s,())) [.string ⟨⟨key⟩⟩,.string ⟨⟨s⟩⟩] ob (z2p (.tup [.str,.int .i64]) 2 (z.2.2.2.2.1,z.2.1,())).1 (z2p (.tup [.str,.int .i64]) 2 (z.2.2.2.2.1,z.2.1,())).2 (.returned (.tuple #[.string ⟨⟨z.2.2.2.2.1⟩⟩,.int .i64 z.2.1])) w7 := by
    rintro w5 hbel ⟨S5,hS5,hS5w,hnew⟩
    have b0 := hbel.block n (by omega)
    have b1 := hbel.block (n + 1) (by omega)
    have b2 := hbel.block (n + 2) (by omega)
    have b3 := hbel.block (n + 3) (by omega)
    rw [k0] at b0; rw [k1] at b1; rw [k2] at b2; rw [k3] at b3
    have hz5 := hbel.size
    obtain ⟨w6,hw6⟩ : ∃ w6,w6 = (w5.setCell ⟨n + 2,0,none⟩ (.string ⟨#[]⟩)).setCell ⟨n + 3,0,none⟩ (.int .i64 e) := ⟨_,rfl⟩
    rw [<- hw6]
    have e5 := zm3 (w := w5) (b := n + 2) (off := 0) (.string ⟨#[]⟩) b2
    have e6 := zm3 (w := w5.setCell ⟨n + 2,0,none⟩ (.string ⟨#[]⟩)) (b := n + 3) (off := 0) (.int .i64 e) (by rw [e5,zy (by omega)]; exact b3)
    rw [e6,e5] at hw6
    have m2 : hp w6 (n + 2) = some (.cells #[.string ⟨#[]⟩] 9 (0,0)) := by rw [hw6,zy (by omega)]; exact z2j b2
    have m3 : hp w6 (n + 3) = some (.cells #[.int .i64 e] 31 (0,0)) := by rw [hw6]; exact z2j (o' := .cells #[.int .i64 0] 31 (0,0)) (by rw [zy (by omega)]; exact b3)
    have mo : ∀ b,b ≠ n + 2 -> b ≠ n + 3 -> hp w6 b = hp w5 b := fun b h1 h2=>by rw [hw6,zy h2,zy h1]
    have m0 : hp w6 n = some (.cells #[.string ⟨⟨key⟩⟩] 9 (0,0)) := by rw [mo n (by omega) (by omega)]; exact b0
    have m1 : hp w6 (n + 1) = some (.cells #[.string ⟨⟨s⟩⟩] 9 (0,0)) := by rw [mo (n + 1) (by omega) (by omega)]; exact b1
    have mz : w6.heap.size = w5.heap.size := by rw [hw6]; simp [z1s]
    have mt : w6.tape = w5.tape /\ w6.os = w5.os /\ w6.output = w5.output := by rw [hw6]; exact ⟨rfl,rfl,rfl⟩
    have hS5none : ∀ b,n <= b -> b < n + 4 -> S5 b = none := fun b h1 h2=>by
      cases hs : S5 b with
      | none=>rfl
      | some o =>
        rcases hnew b (by rw [hs]; simp) with h | h
        . have := hltS b h; omega
        . omega
    have hS6 : Sub S5 (hp w6) := fun b o hb=>by
      rw [mo b (fun h=>by subst h; rw [hS5none (n + 2) (by omega) (by omega)] at hb; cases hb) (fun h=>by subst h; rw [hS5none (n + 3) (by omega) (by omega)] at hb; cases hb)]
      exact hS5w b o hb
    have hc := zu9 N w6 S5 (mkS SQ6 0 (e,key,s,[],())) [.pointer (some ⟨n + 3,0,none⟩),.pointer (some ⟨n,0,none⟩),.pointer (some ⟨n + 1,0,none⟩),.pointer (some ⟨n + 2,0,none⟩)]
      (fun i=>match i with | 0 => [n + 3] | 1 => [n] | 2 => [n + 1] | 3 => [n + 2] | _ => []) ⟨rfl,fun i x hx => ?_,fun i hi => ?_,fun i j b hi hj => ?_,fun i => ?_,fun i b hb => ?_⟩ hS6 (hg.mono hS5) z (by show zex N e key s [] = some z; exact ho)
    . refine CallsD.mono hc ?_
      rintro r u w7 ⟨rfl,v,S7,o,ob7,rfl,hwf,hS57,hS7,hnew7,_,_,_,houts,_⟩
      obtain ⟨x3,v3,hx3,hv3,_,hA3⟩ := houts 3 _ rfl rfl
      obtain ⟨x0,v0,hx0,hv0',_,hA0'⟩ := houts 0 _ rfl rfl
      have hx3' : x3 = .box .str z.2.2.2.2.1 := (Option.some.inj hx3).symm
      have hx0' : x0 = .box (.int .i64) z.2.1 := (Option.some.inj hx0).symm
      have hv3' : v3 = .pointer (some ⟨n + 2,0,none⟩) := (Option.some.inj hv3).symm
      have hv0'' : v0 = .pointer (some ⟨n + 3,0,none⟩) := (Option.some.inj hv0').symm
      subst hx3'; subst hx0'; subst hv3'; subst hv0''
      obtain ⟨q3,E3,f3,g3,h3⟩ := zll rfl rfl hA3
      obtain ⟨q0,E0,f0,g0,h0⟩ := zll rfl rfl hA0'
      have h3' : q3 = .string ⟨⟨z.2.2.2.2.1⟩⟩ := by simpa [Rd] using h3
      have h0' : q0 = .int .i64 z.2.1 := by simpa [Rd] using h0
      subst h3'; subst h0'
      refine ⟨⟨v,rfl⟩,rfl,by simp only [hp] at g3; simp [World.cell?,g3],by simp only [hp] at g0; simp [World.cell?,g0],_,S7,[],ob,rfl,⟨?_,fun b hb _ => ?_, ?_, ?_, ?_⟩,hS5.trans hS57,hS7,fun b hb => ?_,⟨⟨rfl,_,rfl,.cons VR.str (.cons VR.int .nil)⟩,rfl⟩,(fun k hk=>by cases hk),.nil, ?_, ?_,har.inj,har.nd,fun i hi=>hi⟩
      . have := hwf.size; omega
      . have h1 := hwf.same b (by omega) (by
          rintro ⟨i,hi⟩
          match i with
          | 0=>simp at hi; omega
          | 1=>simp at hi; omega
          | 2=>simp at hi; omega
          | 3=>simp at hi; omega
          | i + 4=>simp at hi)
        have h2 := mo b (by omega) (by omega)
        simp only [hp] at h2
        rw [h1,h2,hbel.block b (by omega),kl b (by omega)]
      . rw [hwf.tape,mt.1,hbel.tape,t4.1]
      . rw [hwf.os,mt.2.1,hbel.os,t4.2.1]
      . rw [hwf.output,mt.2.2,hbel.output,t4.2.2]
      . rcases hnew7 b hb with h | ⟨i,hi⟩ | h
        . rcases hnew b h with h | h
          . exact .inl h
          . exact .inr (.inr (by omega))
        . refine .inr (.inr ?_)
          match i with
          | 0=>simp at hi; omega
          | 1=>simp at hi; omega
          | 2=>simp at hi; omega
          | 3=>simp at hi; omega
          | i + 4=>simp at hi
        . exact .inr (.inr (by omega))
      . intro i x hx hbx
        match i with
        | 0=>simp [mkS,z3o,AS.mk] at hx; subst hx; cases hbx
        | 1=>simp [mkS,z3o,AS.mk] at hx; subst hx; cases hbx
        | i + 2=>simp [mkS,z3o] at hx
      . intro i k hk
        rw [hnone i] at hk; cases hk
    . match i with
      | 0=>simp [mkS,z3o,AS.mk] at hx; subst hx; exact ⟨⟨_,rfl,zde rfl m3 rfl⟩,rfl⟩
      | 1=>simp [mkS,z3o,AS.mk] at hx; subst hx; exact ⟨⟨_,rfl,zde rfl m0 rfl⟩,rfl⟩
      | 2=>simp [mkS,z3o,AS.mk] at hx; subst hx; exact ⟨⟨_,rfl,zde rfl m1 rfl⟩,rfl⟩
      | 3=>simp [mkS,z3o,AS.mk] at hx; subst hx; exact ⟨⟨_,rfl,zde rfl m2 rfl⟩,rfl⟩
      | i + 4=>simp [mkS,z3o] at hx
    . match i with
      | 0=>simp [mkS,z3o] at hi
      | 1=>simp [mkS,z3o] at hi
      | 2=>simp [mkS,z3o] at hi
      | 3=>simp [mkS,z3o] at hi
      | i + 4=>rfl
    . match i,j with
      | 0,0=>rfl
      | 1,1=>rfl
      | 2,2=>rfl
      | 3,3=>rfl
      | i + 4,_=>cases hi
      | 0,1=>simp at hi hj; omega
      | 0,2=>simp at hi hj; omega
      | 0,3=>simp at hi hj; omega
      | 1,0=>simp at hi hj; omega
      | 1,2=>simp at hi hj; omega
      | 1,3=>simp at hi hj; omega
      | 2,0=>simp at hi hj; omega
      | 2,1=>simp at hi hj; omega
      | 2,3=>simp at hi hj; omega
      | 3,0=>simp at hi hj; omega
      | 3,1=>simp at hi hj; omega
      | 3,2=>simp at hi hj; omega
      | 0,j + 4=>cases hj
      | 1,j + 4=>cases hj
      | 2,j + 4=>cases hj
      | 3,j + 4=>cases hj
    . match i with
      | 0=>simp
      | 1=>simp
      | 2=>simp
      | 3=>simp
      | i + 4=>exact .nil
    . match i with
      | 0=>simp at hb; subst hb; exact hS5none _ (by omega) (by omega)
      | 1=>simp at hb; subst hb; exact hS5none _ (by omega) (by omega)
      | 2=>simp at hb; subst hb; exact hS5none _ (by omega) (by omega)
      | 3=>simp at hb; subst hb; exact hS5none _ (by omega) (by omega)
      | i + 4=>cases hb
  have cells : ∀ w5,Go.RowKit.Below W4.heap.size W4 w5 -> w5.cell? ⟨n + 2,0,none⟩ = some (.string ⟨#[]⟩) /\ w5.frozen? ⟨n + 2,0,none⟩ = false /\ w5.cell? ⟨n + 3,0,none⟩ = some (.int .i64 0) /\ w5.frozen? ⟨n + 3,0,none⟩ = false := by
    intro w5 hbel
    have b2 := hbel.block (n + 2) (by omega)
    have b3 := hbel.block (n + 3) (by omega)
    rw [k2] at b2; rw [k3] at b3
    exact ⟨by simp [World.cell?,b2],by simp [World.frozen?,b2],by simp [World.cell?,b3],by simp [World.frozen?,b3]⟩
  clear k0 k1 k2 k3 kl z4 t4 hS4 hlen har hnone ho he hA0 hA1
  subst hW4; subst hn
  go_enter_defers Tryz.func79,Tryz.ntmps79
  go_wp2_with (go_at_call 103; refine hck.mono ?_; rintro r w5 ⟨rfl,hbel,hS5⟩; obtain ⟨d2,d2',d3,d3'⟩ := cells w5 hbel; have HM := Go.Lib.hid (main w5 hbel hS5); clear hck cells main hbel hS5)
  refine leaves_cons (f := 101) (args := #[.pointer (some ⟨w.heap.size + 1 + 1 + 1,0,none⟩),.pointer (some ⟨w.heap.size,0,none⟩),.pointer (some ⟨w.heap.size + 1,0,none⟩),.pointer (some ⟨w.heap.size + 1 + 1,0,none⟩)]) (by simp) (by simp [go_sem]) ?_
  refine (HM.out).mono ?_
  rintro r u w7 ⟨⟨v,rfl⟩,rfl,c2,c3,hend⟩
  refine ⟨_, ?_,hend⟩
  simp [results,Tryz.results79,go_sem,c2,c3]
def zqu : Code := (Tryz.f86.body).getD .skip
def L_68 : List (List Nat × List Nat) := [([0],[0,1]),([0,0,1],[13,12,11,1,0]),([0,1,0,1],[13,12,11,1,0]),([0,0,0,1,0,1],[14,13,11,1,0,12]),([0,1,0,0,1,0,1],[13,11,1,0,12]),([1,0,1,0,0,1,0,1],[0]),([0,0,0,1,1,0,0,1,0,1],[6,1,0,5,13,12,11]),(z1jz,[31,5,0,13,12,11,1]),([1,1,0,0,1,1,0,0,1,0,1],[13,12,11,1,0]),([0,0,1,1,0,0,1,1,0,0,1,0,1],[4,0]),([1,0,1,1,0,0,1,1,0,0,1,0,1],[4,0]),([0,1,1,0,0,1,0,1],[13,12,11,1,0]),([1,1,1,0,0,1,0,1],[13,12,11,1,0]),([1,0,1],[0]),([0,1,1],[4,0]),([1,1,1],[4,0])]
def z1wl (N:Nat) : Env := z16 tys glob [] [] [] [0] false [] [(123,zd N),(66,zb N),(98,z7 N)]
theorem z1v4 (N:Nat) : EnvOk Tryz.prog (z1wl N) := zk mixed zo (FnsOk.nil) (ItsOk.cons (zf N) (ItsOk.cons (ze N) (ItsOk.cons (z8 N) (ItsOk.nil))))
def z6o (N:Nat) (r_:DT2) (id_:(List UInt8)) (i:Int) (t:DT1) (x11:(List DT1)) (x12:Int) (x13:Int) (k0:Bool -> Option (Int × (DT2 × Unit))) : Option (Int × (DT2 × Unit)) :=
 cond (t.1 == id_)
 (cond (inR i (List.length r_.2.1))
 (cond (decide ((Int.toNat i) < (List.length r_.2.1)))
 (k0 (!(List.getD r_.2.1 (Int.toNat i) false)))
 (none))
 (none))
 (k0 false)
def z1rl (N:Nat) (x:z1h SQ19) (K:Ex -> List A -> Option (Int × (DT2 × Unit))) : Option (Int × (DT2 × Unit)) :=
 z6o N x.1 x.2.1 x.2.2.1 x.2.2.2.1 x.2.2.2.2.1 x.2.2.2.2.2.1 x.2.2.2.2.2.2.1 (fun a6=>(K .normal (mkS [(0,.box TT3),(0,.v .str),(3,.v (.int .i64)),(5,.v (.sl TT0)),(0,.v (.int .i64)),(0,.v (.int .i64)),(17,.v .bool)] 2 (x.1,x.2.1,x.2.2.1,x.2.2.2.2.1,x.2.2.2.2.2.1,x.2.2.2.2.2.2.1,a6,()))))
def z1pi (N:Nat) : Hd (Int × (DT2 × Unit)) := fun st K=>(unS SQ19 20 (restr [6,1,0,5,13,12,11] 0 st)).bind fun x=>z1rl N x K
def t2_68 (N:Nat) : Tab (Int × (DT2 × Unit)) := []
theorem z1n2 {N:Nat} {c:Ctx} (hb:Base Tryz.prog (z1wl N) c) : zq Tryz.prog c (zm zqu z1jz) (z1pi N) :=
  z17 (s := SQ19) (m := 20) (g := z1rl N) [6,1,0,5,13,12,11] (zi hb N (t2_68 N) L_68 zqu TabOk.nil z1jz _ rfl) (fun x K=>by kernel_rfl)
def z6n (N:Nat) (r_:DT2) (id_:(List UInt8)) (x11:(List DT1)) (x12:Int) (x13:Int) (rec:Int -> Option (Int × (DT2 × Unit))) (k0:Int -> Option (Int × (DT2 × Unit))) (k1:Option (Int × (DT2 × Unit))) : Option (Int × (DT2 × Unit)) :=
 cond (decide (x13 < x12))
 (cond (inR x13 (List.length x11))
 (z6o N r_ id_ x13 (List.getD x11 (Int.toNat x13) (([] : List UInt8),(([] : List DT8),(([] : List UInt8),())))) x11 x12 x13
 (fun x31=>cond x31
 (k0 x13)
 (rec (IntKind.wrap IntKind.i64 (x13 + (1 : Int))))))
 (none))
 (k1)
def zan (N:Nat) (r_:DT2) (id_:(List UInt8)) (x11:(List DT1)) (x12:Int) (x13:Int) (k0:Int -> Option (Int × (DT2 × Unit))) (k1:Option (Int × (DT2 × Unit))) : Option (Int × (DT2 × Unit)) :=
 iter (fun (v:Int) r=>z6n N r_ id_ x11 x12 v (fun x13=>(r x13)) k0 k1) N x13
def z1sc (N:Nat) (i:(DT2 × (List UInt8) × (List DT1) × Int)) (v:Int) (r:Int -> Option (Int × (DT2 × Unit))) (K:Ex -> List A -> Option (Int × (DT2 × Unit))) : Option (Int × (DT2 × Unit)) :=
 z6n N i.1 i.2.1 i.2.2.1 i.2.2.2 v (fun x13=>(r x13)) (fun a1=>(K .ret (mkS [(0,.box TT3),(3,.v (.int .i64))] 29 (i.1,a1,())))) (K (.exit 0) (mkS [(0,.box TT3)] 33 (i.1,())))
def z1q9 (N:Nat) : Hd (Int × (DT2 × Unit)) := fun st K=>(unS SQ97 20 (restr [13,12,11,1,0] 0 st)).bind fun x=>iter (fun v r=>z1sc N ((fun x=>(x.1,x.2.1,x.2.2.1,x.2.2.2.1)) x) v r K) N ((fun x=>x.2.2.2.2.1) x)
def t1_68 (N:Nat) : Tab (Int × (DT2 × Unit)) := [(z1jz,z1pi N)]
theorem z1nt {N:Nat} {c:Ctx} (hb:Base Tryz.prog (z1wl N) c) : zq Tryz.prog c (zm zqu [0,1,0,1]) (z1q9 N) :=
  z1k (s := SQ97) (m := 20) (z1sc N) [13,12,11,1,0] N (fun x=>(x.1,x.2.1,x.2.2.1,x.2.2.2.1)) (fun x=>x.2.2.2.2.1) (fun i v=>(i.1,i.2.1,i.2.2.1,i.2.2.2,v,())) (fun _=>rfl) (zi hb N (t1_68 N) L_68 zqu (TabOk.cons (z1n2 hb) TabOk.nil) [0,0,1,0,1] _ rfl) (fun i v r K=>by kernel_rfl)
def z4b (N:Nat) (r_:DT2) (id_:(List UInt8)) : Option (Int × (DT2 × Unit)) :=
 zan N r_ id_ r_.1.2.1 (((List.length r_.1.2.1) : Nat) : Int) (0 : Int)
 (fun x4=>some (x4,(r_,())))
 (some ((-(1 : Int)),(r_,())))
def t_68 (N:Nat) : Tab (Int × (DT2 × Unit)) := [([0,1,0,1],z1q9 N)]
theorem z1ey (N:Nat) (x:z1h z12j) : z2q (z1wl N) N (t_68 N) L_68 Tryz.f86 (mkS z12j 0 x) (zel (.v (.int .i64)) [(0,.box TT3)] 1) = z4b N x.1 x.2.1 := by kernel_rfl
def z9p (N:Nat) : List A -> Res := z10 z12j (fun x=>z4b N x.1 x.2.1) (zmg (.v (.int .i64)) [(0,.box TT3)] 1)
theorem zi8 (N:Nat) : Contract Tryz.prog glob 86 (z9p N) :=
  Contract.of (E := z1wl N) (H := t_68 N) (L := L_68) (N := N) (body := zqu) (K := (zel (.v (.int .i64)) [(0,.box TT3)] 1)) (z1v4 N) Tryz.func86 (by kernel_rfl) (by decide) (fun _ hb=>(TabOk.cons (z1nt hb) TabOk.nil)) (fun x y h=>by rw [z1ey]; exact h) (zb6 (s := (.v (.int .i64))) (os := [(0,.box TT3)]) (m := 1))
def z1h9 : Code := (Tryz.f53.body).getD .skip
def L_69 : List (List Nat × List Nat) := [([0],[0,1]),([0,1],[4]),([1,1],[4])]
def E_69 (N:Nat) : Env := z16 tys glob [(45,z3d N)] [] [] [] false [] [(123,zd N),(66,zb N),(98,z7 N)]
theorem z1v3 (N:Nat) : EnvOk Tryz.prog (E_69 N) := zk mixed zo (FnsOk.cons (z4y N) (FnsOk.nil)) (ItsOk.cons (zf N) (ItsOk.cons (ze N) (ItsOk.cons (z8 N) (ItsOk.nil))))
def zbk (N:Nat) (of:(List UInt8)) (other:(List UInt8)) : Option (List UInt8) :=
 (z2n N of ([([(98 : UInt8),(105 : UInt8),(110 : UInt8),(100 : UInt8)] : List UInt8),other] : List (List UInt8))).bind fun y =>
 some y
def t_69 (N:Nat) : Tab (List UInt8) := []
theorem z1ex (N:Nat) (x:z1h SQ0) : z2q (E_69 N) N (t_69 N) L_69 Tryz.f53 (mkS SQ0 0 x) (z1d (.v .str) 2) = zbk N x.1 x.2.1 := by kernel_rfl
def zdv (N:Nat) : List A -> Res := z10 SQ0 (fun x=>zbk N x.1 x.2.1) (z2p (.v .str) 2)
theorem zlj (N:Nat) : Contract Tryz.prog glob 53 (zdv N) :=
  Contract.of (E := E_69 N) (H := t_69 N) (L := L_69) (N := N) (body := z1h9) (K := (z1d (.v .str) 2)) (z1v3 N) Tryz.func53 (by kernel_rfl) (by decide) (fun _ hb=>TabOk.nil) (fun x y h=>by rw [z1ex]; exact h) (zn (s := (.v .str)) (m := 2))
def z1h8 : Code := (Tryz.f58.body).getD .skip
def L_70 : List (List Nat × List Nat) := [([0],[0,1,5]),([0,1],[1,5,0]),([0,1,1],[8,0,5,7]),([0,0,1,1,1],[29,0,5,7]),([1,0,1,1,1],[0,5,7]),(z1bu,[6,0]),([1,0,1,0,1,1,1],[6,0]),([0,1,1,1,1],[9,0,7]),(z1tm,[35,0,9,7]),(z166,[0,9,7]),(z168,[6,0]),([1,0,1,0,1,1,1,1,1],[6,0]),(z1tl,[0,9,7,10]),(z1il,[0,7,10]),([0,1,1,1,1,1,1,1,1],[0,10,12,11]),([0,1,1,1,1,1,1,1,1,1],[10,0,12,11]),([0,0,1,1,1,1,1,1,1,1,1,1],[75,0,10,11]),([1,0,1,1,1,1,1,1,1,1,1,1],[0,10,11]),([0,0,1,0,1,1,1,1,1,1,1,1,1,1],[6,0]),([1,0,1,0,1,1,1,1,1,1,1,1,1,1],[6,0]),([0,1,1,1,1,1,1,1,1,1,1,1],[0]),([0,1,1,1,1,1,1,1,1,1,1,1,1],[6,0]),([1,1,1,1,1,1,1,1,1,1,1,1,1],[6,0])]
def E_70 (N:Nat) : Env := z16 tys glob [(53,zdv N),(86,z9p N),(79,zho N),(50,zdu N),(57,zb9 N),(56,z7g N)] [(11,.str)] [] [0] false [] [(123,zd N),(66,zb N),(98,z7 N)]
theorem z1v2 (N:Nat) : EnvOk Tryz.prog (E_70 N) := zk mixed zo (FnsOk.cons (zlj N) (FnsOk.cons (zi8 N) (FnsOk.cons (zqr N) (FnsOk.cons (zli N) (FnsOk.cons (zhh N) (FnsOk.cons (zcz N) (FnsOk.nil))))))) (ItsOk.cons (zf N) (ItsOk.cons (ze N) (ItsOk.cons (z8 N) (ItsOk.nil))))
def z52 (N:Nat) (r_:DT2) (before:(List UInt8)) (l:DT8) : Option (Bool × (DT2 × Unit)) :=
 (zbj N before).bind fun y =>
 (z5o N y l.2.1).bind fun y1 =>
 cond (y1.2.1 != (0 : Int))
 (some (false,((r_.1,(r_.2.1,(r_.2.2.1,(r_.2.2.2.1,((IntKind.wrap IntKind.i64 (r_.2.2.2.2.1 + (1 : Int))),r_.2.2.2.2.2))))),())))
 ((z4b N (r_.1,(r_.2.1,(r_.2.2.1,(r_.2.2.2.1,((IntKind.wrap IntKind.i64 (r_.2.2.2.2.1 + (1 : Int))),r_.2.2.2.2.2))))) l.1).bind fun y2 =>
 cond (decide (y2.1 < (0 : Int)))
 (some (false,(y2.2.1,())))
 (cond (inR y2.1 (List.length y2.2.1.1.2.1))
 (cond (inR y2.1 (List.length y2.2.1.2.1))
 (cond (decide ((Int.toNat y2.1) < (List.length y2.2.1.2.1)))
 ((z4c N (y2.2.1.1,((List.set y2.2.1.2.1 (Int.toNat y2.1) true),y2.2.1.2.2)) y1.1 (List.getD y2.2.1.1.2.1 (Int.toNat y2.1) (([] : List UInt8),(([] : List DT8),(([] : List UInt8),()))))).bind fun y3 =>
 (zbk N y3.2.1.1.1.2.2.1 y3.1.2.1).bind fun y4 =>
 (zcn N (List.getD y2.2.1.1.2.1 (Int.toNat y2.1) (([] : List UInt8),(([] : List DT8),(([] : List UInt8),())))).2.2.1 y4).bind fun y5 =>
 cond (!y5)
 (some (false,((y3.2.1.1,(y3.2.1.2.1,(y3.2.1.2.2.1,(y3.2.1.2.2.2.1,((IntKind.wrap IntKind.i64 (y3.2.1.2.2.2.2.1 + (1 : Int))),y3.2.1.2.2.2.2.2))))),())))
 (cond (decide ((((List.length y3.2.1.2.2.1) + 1) * 48) <= 70368744177664))
 (some (true,((y3.2.1.1,(y3.2.1.2.1,((y3.2.1.2.2.1 ++ ([((List.getD y2.2.1.1.2.1 (Int.toNat y2.1) (([] : List UInt8),(([] : List DT8),(([] : List UInt8),())))).2.1,(y3.1.1,()))] : List ((List DT8) × ((List (List UInt8)) × Unit)))),(y3.2.1.2.2.2.1,((IntKind.wrap IntKind.i64 (y3.2.1.2.2.2.2.1 + (1 : Int))),y3.2.1.2.2.2.2.2))))),())))
 (none)))
 (none))
 (none))
 (none)))
def t_70 (N:Nat) : Tab (Bool × (DT2 × Unit)) := []
theorem z1ew (N:Nat) (x:z1h [(0,.box TT3),(0,.v .str),(0,.v zk3)]) : z2q (E_70 N) N (t_70 N) L_70 Tryz.f58 (mkS [(0,.box TT3),(0,.v .str),(0,.v zk3)] 0 x) (zel (.v .bool) [(0,.box TT3)] 2) = z52 N x.1 x.2.1 x.2.2.1 := by kernel_rfl
def zao (N:Nat) : List A -> Res := z10 [(0,.box TT3),(0,.v .str),(0,.v zk3)] (fun x=>z52 N x.1 x.2.1 x.2.2.1) (zmg (.v .bool) [(0,.box TT3)] 2)
theorem zj3 (N:Nat) : Contract Tryz.prog glob 58 (zao N) :=
  Contract.of (E := E_70 N) (H := t_70 N) (L := L_70) (N := N) (body := z1h8) (K := (zel (.v .bool) [(0,.box TT3)] 2)) (z1v2 N) Tryz.func58 (by kernel_rfl) (by decide) (fun _ hb=>TabOk.nil) (fun x y h=>by rw [z1ew]; exact h) (zb6 (s := (.v .bool)) (os := [(0,.box TT3)]) (m := 2))
def zyp : Code := (Tryz.f87.body).getD .skip
def L_71 : List (List Nat × List Nat) := [([0],[0,1]),([0,0,1],[8,7,1,0]),([0,1,0,1],[8,7,1,0]),([0,0,0,1,0,1],[9,8,1,0,7]),([0,1,0,0,1,0,1],[8,1,0,7]),([1,0,1,0,0,1,0,1],[]),([0,0,0,1,1,0,0,1,0,1],[1,0,5,8,7]),(z1jz,[16,5,8,7,1,0]),([1,1,0,0,1,1,0,0,1,0,1],[8,7,1,0]),([0,0,1,1,0,0,1,1,0,0,1,0,1],[4]),([1,0,1,1,0,0,1,1,0,0,1,0,1],[4]),([0,1,1,0,0,1,0,1],[8,7,1,0]),([1,1,1,0,0,1,0,1],[8,7,1,0]),([1,0,1],[]),([0,1,1],[4]),([1,1,1],[4])]
def E_71 (N:Nat) : Env := z16 tys glob [] [] [] [] false [] [(123,zd N),(66,zb N),(98,z7 N)]
theorem z1v1 (N:Nat) : EnvOk Tryz.prog (E_71 N) := zk mixed zo (FnsOk.nil) (ItsOk.cons (zf N) (ItsOk.cons (ze N) (ItsOk.cons (z8 N) (ItsOk.nil))))
def z3y (N:Nat) (s:(List Bool)) (v_:Bool) (x7:Int) (x8:Int) (rec:Int -> Option Int) (k0:Int -> Option Int) (k1:Option Int) : Option Int :=
 cond (decide (x8 < x7))
 (cond (inR x8 (List.length s))
 (cond (v_ == (List.getD s (Int.toNat x8) false))
 (k0 x8)
 (rec (IntKind.wrap IntKind.i64 (x8 + (1 : Int)))))
 (none))
 (k1)
def z6z (N:Nat) (s:(List Bool)) (v_:Bool) (x7:Int) (x8:Int) (k0:Int -> Option Int) (k1:Option Int) : Option Int :=
 iter (fun (v:Int) r=>z3y N s v_ x7 v (fun x8=>(r x8)) k0 k1) N x8
def z1sb (N:Nat) (i:((List Bool) × Bool × Int)) (v:Int) (r:Int -> Option Int) (K:Ex -> List A -> Option Int) : Option Int :=
 z3y N i.1 i.2.1 i.2.2 v (fun x8=>(r x8)) (fun a0=>(K .ret (mkS [(4,.v (.int .i64))] 14 (a0,())))) (K (.exit 0) (mkS [] 19 ()))
def z1q8 (N:Nat) : Hd Int := fun st K=>(unS [(0,.v (.sl .bool)),(0,.v .bool),(5,.v (.int .i64)),(0,.v (.int .i64))] 10 (restr [8,7,1,0] 0 st)).bind fun x=>iter (fun v r=>z1sb N ((fun x=>(x.1,x.2.1,x.2.2.1)) x) v r K) N ((fun x=>x.2.2.2.1) x)
def t1_71 (N:Nat) : Tab Int := []
theorem z1ns {N:Nat} {c:Ctx} (hb:Base Tryz.prog (E_71 N) c) : zq Tryz.prog c (zm zyp [0,1,0,1]) (z1q8 N) :=
  z1k (s := [(0,.v (.sl .bool)),(0,.v .bool),(5,.v (.int .i64)),(0,.v (.int .i64))]) (m := 10) (z1sb N) [8,7,1,0] N (fun x=>(x.1,x.2.1,x.2.2.1)) (fun x=>x.2.2.2.1) (fun i v=>(i.1,i.2.1,i.2.2,v,())) (fun _=>rfl) (zi hb N (t1_71 N) L_71 zyp TabOk.nil [0,0,1,0,1] _ rfl) (fun i v r K=>by kernel_rfl)
def z2r (N:Nat) (s:(List Bool)) (v_:Bool) : Option Int :=
 z6z N s v_ (((List.length s) : Nat) : Int) (0 : Int)
 (fun x4=>some x4)
 (some (-(1 : Int)))
def t_71 (N:Nat) : Tab Int := [([0,1,0,1],z1q8 N)]
theorem z1ev (N:Nat) (x:z1h z1jt) : z2q (E_71 N) N (t_71 N) L_71 Tryz.f87 (mkS z1jt 0 x) (z1d (.v (.int .i64)) 2) = z2r N x.1 x.2.1 := by kernel_rfl
def z6g (N:Nat) : List A -> Res := z10 z1jt (fun x=>z2r N x.1 x.2.1) (z2p (.v (.int .i64)) 2)
theorem zdk (N:Nat) : Contract Tryz.prog glob 87 (z6g N) :=
  Contract.of (E := E_71 N) (H := t_71 N) (L := L_71) (N := N) (body := zyp) (K := (z1d (.v (.int .i64)) 2)) (z1v1 N) Tryz.func87 (by kernel_rfl) (by decide) (fun _ hb=>(TabOk.cons (z1ns hb) TabOk.nil)) (fun x y h=>by rw [z1ev]; exact h) (zn (s := (.v (.int .i64))) (m := 2))
def z1h7 : Code := (Tryz.f59.body).getD .skip
def L_72 : List (List Nat × List Nat) := [([0],[0,1]),([0,1],[4]),([1,1],[4])]
def E_72 (N:Nat) : Env := z16 tys glob [(87,z6g N)] [] [] [] false [] [(123,zd N),(66,zb N),(98,z7 N)]
theorem z1v0 (N:Nat) : EnvOk Tryz.prog (E_72 N) := zk mixed zo (FnsOk.cons (zdk N) (FnsOk.nil)) (ItsOk.cons (zf N) (ItsOk.cons (ze N) (ItsOk.cons (z8 N) (ItsOk.nil))))
def z24 (N:Nat) (s:(List Bool)) (v_:Bool) : Option Bool :=
 (z2r N s v_).bind fun y =>
 some (decide ((0 : Int) <= y))
def t_72 (N:Nat) : Tab Bool := []
theorem z1eu (N:Nat) (x:z1h z1jt) : z2q (E_72 N) N (t_72 N) L_72 Tryz.f59 (mkS z1jt 0 x) (z1d (.v .bool) 2) = z24 N x.1 x.2.1 := by kernel_rfl
def z54 (N:Nat) : List A -> Res := z10 z1jt (fun x=>z24 N x.1 x.2.1) (z2p (.v .bool) 2)
theorem zb4 (N:Nat) : Contract Tryz.prog glob 59 (z54 N) :=
  Contract.of (E := E_72 N) (H := t_72 N) (L := L_72) (N := N) (body := z1h7) (K := (z1d (.v .bool) 2)) (z1v0 N) Tryz.func59 (by kernel_rfl) (by decide) (fun _ hb=>TabOk.nil) (fun x y h=>by rw [z1eu]; exact h) (zn (s := (.v .bool)) (m := 2))
def zg2 : Code := (Tryz.f28.body).getD .skip
def z1k6 : List (List Nat × List Nat) := [([0],[0,1]),([0,0,1],[0,6,5]),([0,0,1,0,1],[31,0,5]),([1,0,1,0,1],[0,5]),([0,0,1,0,1,0,1],[4,0]),([1,0,1,0,1,0,1],[4,0]),([0,1,1,0,1],[0]),([0,1,1,1,0,1],[0,7]),([0,0,1,1,1,1,1,0,1],[8,0,7]),(z1jy,[8,0,7]),([0,0,0,0,1,0,1,1,1,1,1,0,1],[50,0,8,7]),([1,0,0,0,1,0,1,1,1,1,1,0,1],[0,8,7]),([1,1,0,0,0,1,0,1,1,1,1,1,0,1],[7,0]),([0,0,0,1,0,0,1,0,1,1,1,1,1,0,1],[9,0,8,7]),([0,1,0,0,1,0,0,1,0,1,1,1,1,1,0,1],z19j),(z1im,z19j),([0,0,0,1,1,0,0,1,0,0,1,0,1,1,1,1,1,0,1],[64,63,61,0,62,9,8,7]),([0,1,0,0,1,1,0,0,1,0,0,1,0,1,1,1,1,1,0,1],[63,61,0,62,9,8,7]),([1,0,1,0,0,1,1,0,0,1,0,0,1,0,1,1,1,1,1,0,1],[8,0,7]),([0,0,0,1,1,0,0,1,1,0,0,1,0,0,1,0,1,1,1,1,1,0,1],[11,0,63,62,61,9,8,7,10]),([0,0,1,0,0,1,1,0,0,1,1,0,0,1,0,0,1,0,1,1,1,1,1,0,1],[69,0,11,63,62,61,9,8,7,10]),([1,0,1,0,0,1,1,0,0,1,1,0,0,1,0,0,1,0,1,1,1,1,1,0,1],[0,9,10,11,63,62,61,8,7]),([0,0,1,0,1,0,0,1,1,0,0,1,1,0,0,1,0,0,1,0,1,1,1,1,1,0,1],z19j),([1,0,1,0,1,0,0,1,1,0,0,1,1,0,0,1,0,0,1,0,1,1,1,1,1,0,1],z19j),([0,1,1,0,0,1,1,0,0,1,1,0,0,1,0,0,1,0,1,1,1,1,1,0,1],[89,0,63,62,61,9,8,7]),([1,1,1,0,0,1,1,0,0,1,1,0,0,1,0,0,1,0,1,1,1,1,1,0,1],z19j),([0,0,1,1,1,0,0,1,1,0,0,1,1,0,0,1,0,0,1,0,1,1,1,1,1,0,1],[7,0]),([1,0,1,1,1,0,0,1,1,0,0,1,1,0,0,1,0,0,1,0,1,1,1,1,1,0,1],[7,0]),([0,1,1,0,0,1,1,0,0,1,0,0,1,0,1,1,1,1,1,0,1],z19j),([1,1,1,0,0,1,1,0,0,1,0,0,1,0,1,1,1,1,1,0,1],z19j),([1,1,0,0,1,0,0,1,0,1,1,1,1,1,0,1],[8,0,7]),([0,1,0,0,1,0,1,1,1,1,1,0,1],[8,0,7]),([1,1,0,0,1,0,1,1,1,1,1,0,1],[8,0,7]),([1,0,1,1,1,1,1,0,1],[7,0]),(z19l,[99,0]),([1,0,1,1,1,1,1,1,0,1],[0]),([0,0,1,0,1,1,1,1,1,1,0,1],[4,0]),([1,0,1,0,1,1,1,1,1,1,0,1],[4,0]),([0,1,1,1,1,1,1,1,0,1],[4,0]),([1,1,1,1,1,1,1,1,0,1],[4,0]),([1],[4,0])]
def z1jc (N:Nat) : Env := z16 tys glob [(59,z54 N),(58,zao N),(39,zik N),(57,zb9 N),(56,z7g N)] [(5,.str)] [] [0] false [(98,.unit)] [(123,zd N),(66,zb N),(98,z7 N)]
theorem z1uz (N:Nat) : EnvOk Tryz.prog (z1jc N) := zk mixed zo (FnsOk.cons (zb4 N) (FnsOk.cons (zj3 N) (FnsOk.cons (zt0 N) (FnsOk.cons (zhh N) (FnsOk.cons (zcz N) (FnsOk.nil)))))) (ItsOk.cons (zf N) (ItsOk.cons (ze N) (ItsOk.cons (z8 N) (ItsOk.nil))))
def z6i (N:Nat) (complete:Bool) (i:Int) (t:((List DT8) × ((List (List UInt8)) × Unit))) (x61:(List DT8)) (x62:Int) (r_:DT2) (x63:Int) (rec:DT2 -> Int -> Option (Int × (DT2 × Unit))) (k0:DT2 -> Bool -> Option (Int × (DT2 × Unit))) (k1:DT2 -> Option (Int × (DT2 × Unit))) : Option (Int × (DT2 × Unit)) :=
 cond (decide (x63 < x62))
 (cond (inR x63 (List.length x61))
 (cond (eqD (T.pair T.str (T.pair T.str T.unit)) (List.getD x61 (Int.toNat x63) (([] : List UInt8),(([] : List UInt8),()))) ((List.getD x61 (Int.toNat x63) (([] : List UInt8),(([] : List UInt8),()))).1,(([] : List UInt8),())))
 (cond (decide ((((List.length r_.2.2.2.1) + 1) * 16) <= 70368744177664))
 (rec (r_.1,(r_.2.1,(r_.2.2.1,((r_.2.2.2.1 ++ ([(List.getD x61 (Int.toNat x63) (([] : List UInt8),(([] : List UInt8),()))).1] : List (List UInt8))),r_.2.2.2.2)))) (IntKind.wrap IntKind.i64 (x63 + (1 : Int))))
 (none))
 (cond (inR x63 (List.length t.2.1))
 ((z52 N r_ (List.getD t.2.1 (Int.toNat x63) ([] : List UInt8)) (List.getD x61 (Int.toNat x63) (([] : List UInt8),(([] : List UInt8),())))).bind fun y =>
 cond (!y.1)
 (k0 y.2.1 false)
 (rec y.2.1 (IntKind.wrap IntKind.i64 (x63 + (1 : Int)))))
 (none)))
 (none))
 (k1 r_)
def z45 (N:Nat) (r_:DT2) (complete:Bool) (i:Int) (t:((List DT8) × ((List (List UInt8)) × Unit))) (x61:(List DT8)) (x62:Int) (x63:Int) (k0:DT2 -> Bool -> Option (Int × (DT2 × Unit))) (k1:DT2 -> Option (Int × (DT2 × Unit))) : Option (Int × (DT2 × Unit)) :=
 iter (fun (v:(DT2 × Int)) r=>z6i N complete i t x61 x62 v.1 v.2 (fun r_ x63=>(r (r_,x63))) k0 k1) N (r_,x63)
def z1rd (N:Nat) (i:(Bool × Int × ((List DT8) × ((List (List UInt8)) × Unit)) × (List DT8) × Int)) (v:(DT2 × Int)) (r:(DT2 × Int) -> Option (Int × (DT2 × Unit))) (K:Ex -> List A -> Option (Int × (DT2 × Unit))) : Option (Int × (DT2 × Unit)) :=
 z6i N i.1 i.2.1 i.2.2.1 i.2.2.2.1 i.2.2.2.2 v.1 v.2 (fun r_ x63=>(r (r_,x63))) (fun a0 a1=>(K (.exit 0) (mkS z19f 92 (a0,a1,())))) (fun a0=>(K (.exit 2) (mkS z1i8 91 (a0,i.1,i.2.1,()))))
def z1pa (N:Nat) : Hd (Int × (DT2 × Unit)) := fun st K=>(unS SQ24 36 (restr z19j 0 st)).bind fun x=>iter (fun v r=>z1rd N ((fun x=>(x.2.1,x.2.2.1,x.2.2.2.1,x.2.2.2.2.1,x.2.2.2.2.2.1)) x) v r K) N ((fun x=>(x.1,x.2.2.2.2.2.2.1)) x)
def t3_73 (N:Nat) : Tab (Int × (DT2 × Unit)) := []
theorem z1mu {N:Nat} {c:Ctx} (hb:Base Tryz.prog (z1jc N) c) : zq Tryz.prog c (zm zg2 z1im) (z1pa N) :=
  z1k (s := SQ24) (m := 36) (z1rd N) z19j N (fun x=>(x.2.1,x.2.2.1,x.2.2.2.1,x.2.2.2.2.1,x.2.2.2.2.2.1)) (fun x=>(x.1,x.2.2.2.2.2.2.1)) (fun i v=>(v.1,i.1,i.2.1,i.2.2.1,i.2.2.2.1,i.2.2.2.2,v.2,())) (fun _=>rfl) (zi hb N (t3_73 N) z1k6 zg2 TabOk.nil [0,0,1,1,0,0,1,0,0,1,0,1,1,1,1,1,0,1] _ rfl) (fun i v r K=>by kernel_rfl)
def z6j (N:Nat) (complete:Bool) (r_:DT2) (i:Int) (rec:DT2 -> Int -> Option (Int × (DT2 × Unit))) (k0:DT2 -> Bool -> Option (Int × (DT2 × Unit))) : Option (Int × (DT2 × Unit)) :=
 cond (decide (i < (((List.length r_.2.2.1) : Nat) : Int)))
 (cond (inR i (List.length r_.2.2.1))
 (cond (decide ((Int.toNat i) < (List.length r_.2.2.1)))
 (z45 N r_ complete i (List.getD r_.2.2.1 (Int.toNat i) (([] : List DT8),(([] : List (List UInt8)),()))) (List.getD r_.2.2.1 (Int.toNat i) (([] : List DT8),(([] : List (List UInt8)),()))).1 (((List.length (List.getD r_.2.2.1 (Int.toNat i) (([] : List DT8),(([] : List (List UInt8)),()))).1) : Nat) : Int) (0 : Int)
 (fun r_1 complete1=>k0 r_1 complete1)
 (fun r_2=>rec r_2 (IntKind.wrap IntKind.i64 (i + (1 : Int)))))
 (none))
 (none))
 (k0 r_ complete)
def z6l (N:Nat) (r_:DT2) (complete:Bool) (i:Int) (k0:DT2 -> Bool -> Option (Int × (DT2 × Unit))) : Option (Int × (DT2 × Unit)) :=
 iter (fun (v:(DT2 × Int)) r=>z6j N complete v.1 v.2 (fun r_ i=>(r (r_,i))) k0) N (r_,i)
def z1rk (N:Nat) (i:Bool) (v:(DT2 × Int)) (r:(DT2 × Int) -> Option (Int × (DT2 × Unit))) (K:Ex -> List A -> Option (Int × (DT2 × Unit))) : Option (Int × (DT2 × Unit)) :=
 z6j N i v.1 v.2 (fun r_ i=>(r (r_,i))) (fun a0 a1=>(K (.exit 0) (mkS z19f 92 (a0,a1,()))))
def z1ph (N:Nat) : Hd (Int × (DT2 × Unit)) := fun st K=>(unS z1i8 91 (restr [8,0,7] 0 st)).bind fun x=>iter (fun v r=>z1rk N ((fun x=>x.2.1) x) v r K) N ((fun x=>(x.1,x.2.2.1)) x)
def t2_73 (N:Nat) : Tab (Int × (DT2 × Unit)) := [(z1im,z1pa N)]
theorem z1n1 {N:Nat} {c:Ctx} (hb:Base Tryz.prog (z1jc N) c) : zq Tryz.prog c (zm zg2 z1jy) (z1ph N) :=
  z1k (s := z1i8) (m := 91) (z1rk N) [8,0,7] N (fun x=>x.2.1) (fun x=>(x.1,x.2.2.1)) (fun i v=>(v.1,i,v.2,())) (fun _=>rfl) (zi hb N (t2_73 N) z1k6 zg2 (TabOk.cons (z1mu hb) TabOk.nil) [0,0,1,0,1,1,1,1,1,0,1] _ rfl) (fun i v r K=>by kernel_rfl)
def z6m (N:Nat) (r_:DT2) (complete:Bool) (k0:DT2 -> Bool -> Option (Int × (DT2 × Unit))) : Option (Int × (DT2 × Unit)) :=
 z6l N r_ complete (0 : Int)
 (fun r_1 complete1=>k0 r_1 complete1)
def z1sa (N:Nat) (x:z1h z19f) (K:Ex -> List A -> Option (Int × (DT2 × Unit))) : Option (Int × (DT2 × Unit)) :=
 z6m N x.1 x.2.1 (fun a0 a1=>(K .normal (mkS z19f 92 (a0,a1,()))))
def z1q7 (N:Nat) : Hd (Int × (DT2 × Unit)) := fun st K=>(unS z19f 92 (restr [0,7] 0 st)).bind fun x=>z1sa N x K
def t1_73 (N:Nat) : Tab (Int × (DT2 × Unit)) := [(z1jy,z1ph N)]
theorem z1nr {N:Nat} {c:Ctx} (hb:Base Tryz.prog (z1jc N) c) : zq Tryz.prog c (zm zg2 z12k) (z1q7 N) :=
  z17 (s := z19f) (m := 92) (g := z1sa N) [0,7] (zi hb N (t1_73 N) z1k6 zg2 (TabOk.cons (z1n1 hb) TabOk.nil) z12k _ rfl) (fun x K=>by kernel_rfl)
def z6k (N:Nat) (r_:DT2) (complete:Bool) (k0:Bool -> Option (Int × (DT2 × Unit))) : Option (Int × (DT2 × Unit)) :=
 cond (!complete)
 (k0 true)
 ((z24 N r_.2.1 false).bind fun y =>
 k0 y)
def z1r8 (N:Nat) (x:z1h z19f) (K:Ex -> List A -> Option (Int × (DT2 × Unit))) : Option (Int × (DT2 × Unit)) :=
 z6k N x.1 x.2.1 (fun a1=>(K .normal (mkS [(0,.box TT3),(98,.v .bool)] 0 (x.1,a1,()))))
def z1p5 (N:Nat) : Hd (Int × (DT2 × Unit)) := fun st K=>(unS z19f 92 (restr [7,0] 0 st)).bind fun x=>z1r8 N x K
def t4_73 (N:Nat) : Tab (Int × (DT2 × Unit)) := []
theorem z1mp {N:Nat} {c:Ctx} (hb:Base Tryz.prog (z1jc N) c) : zq Tryz.prog c (zm zg2 z19l) (z1p5 N) :=
  z17 (s := z19f) (m := 92) (g := z1r8 N) [7,0] (zi hb N (t4_73 N) z1k6 zg2 TabOk.nil z19l _ rfl) (fun x K=>by kernel_rfl)
def z3e (N:Nat) (r_:DT2) (key:(List UInt8)) : Option (Int × (DT2 × Unit)) :=
 (z4c N r_ key r_.1.1).bind fun y =>
 (zcn N y.2.1.1.1.2.2.1 y.1.2.1).bind fun y1 =>
 cond (!y1)
 (some ((8 : Int),(y.2.1,())))
 (z6m N (y.2.1.1,(y.2.1.2.1,(([(y.2.1.1.1.2.1,(y.1.1,()))] : List ((List DT8) × ((List (List UInt8)) × Unit))),y.2.1.2.2.2))) true
 (fun r_1 complete=>z6k N r_1 complete
 (fun x99=>cond x99
 (some ((11 : Int),(r_1,())))
 (some ((0 : Int),(r_1,()))))))
def t_73 (N:Nat) : Tab (Int × (DT2 × Unit)) := [(z12k,z1q7 N),(z19l,z1p5 N)]
theorem z1et (N:Nat) (x:z1h z12j) : z2q (z1jc N) N (t_73 N) z1k6 Tryz.f28 (mkS z12j 0 x) (zel (.v (.int .i64)) [(0,.box TT3)] 1) = z3e N x.1 x.2.1 := by kernel_rfl
def z9o (N:Nat) : List A -> Res := z10 z12j (fun x=>z3e N x.1 x.2.1) (zmg (.v (.int .i64)) [(0,.box TT3)] 1)
theorem zi7 (N:Nat) : Contract Tryz.prog glob 28 (z9o N) :=
  Contract.of (E := z1jc N) (H := t_73 N) (L := z1k6) (N := N) (body := zg2) (K := (zel (.v (.int .i64)) [(0,.box TT3)] 1)) (z1uz N) Tryz.func28 (by kernel_rfl) (by decide) (fun _ hb=>(TabOk.cons (z1nr hb) (TabOk.cons (z1mp hb) TabOk.nil))) (fun x y h=>by rw [z1et]; exact h) (zb6 (s := (.v (.int .i64))) (os := [(0,.box TT3)]) (m := 1))
def z1h6 : Code := (Tryz.f8.body).getD .skip
def L_74 : List (List Nat × List Nat) := [([0],[3,0]),([0,0,1],[10,3,0]),([1,0,1],[3,0]),([0,0,1,0,1],[4,5]),([1,0,1,0,1],[4,5]),([0,1,1],[6,0]),([0,0,1,1,1],[7,6]),([0,1,0,1,1,1],[17,7,6]),([1,1,0,1,1,1],[6]),([0,0,1,1,0,1,1,1],[4,5]),([1,0,1,1,0,1,1,1],[4,5]),([0,1,1,1,1],[4,5]),([1,1,1,1,1],[4,5])]
def E_74 (N:Nat) : Env := z16 tys glob [(28,z9o N),(27,ze1 N),(26,zdz N)] [] [] [] false [] [(123,zd N),(66,zb N),(98,z7 N)]
theorem z1uy (N:Nat) : EnvOk Tryz.prog (E_74 N) := zk mixed zo (FnsOk.cons (zi7 N) (FnsOk.cons (znv N) (FnsOk.cons (znt N) (FnsOk.nil)))) (ItsOk.cons (zf N) (ItsOk.cons (ze N) (ItsOk.cons (z8 N) (ItsOk.nil))))
def z2v (N:Nat) (key:(List UInt8)) (b:z1wu) : Option ((List (List UInt8)) × Int × Unit) :=
 (z63 N b).bind fun y =>
 cond (!y)
 (some (([] : List (List UInt8)),((3 : Int),())))
 ((z4r N b).bind fun y1 =>
 (z3e N y1 key).bind fun y2 =>
 cond (y2.1 != (0 : Int))
 (some (([] : List (List UInt8)),(y2.1,())))
 (some (y2.2.1.2.2.2.1,((0 : Int),()))))
def t_74 (N:Nat) : Tab ((List (List UInt8)) × Int × Unit) := []
theorem z1es (N:Nat) (x:z1h SQ28) : z2q (E_74 N) N (t_74 N) L_74 Tryz.f8 (mkS SQ28 0 x) (z1d (.tup [(.sl .str),(.int .i64)]) 2) = z2v N x.1 x.2.1 := by kernel_rfl
def z98 (N:Nat) : List A -> Res := z10 SQ28 (fun x=>z2v N x.1 x.2.1) (z2p (.tup [(.sl .str),(.int .i64)]) 2)
theorem zg3 (N:Nat) : Contract Tryz.prog glob 8 (z98 N) :=
  Contract.of (E := E_74 N) (H := t_74 N) (L := L_74) (N := N) (body := z1h6) (K := (z1d (.tup [(.sl .str),(.int .i64)]) 2)) (z1uy N) Tryz.func8 (by kernel_rfl) (by decide) (fun _ hb=>TabOk.nil) (fun x y h=>by rw [z1es]; exact h) (zn (s := (.tup [(.sl .str),(.int .i64)])) (m := 2))
def z1h5 : Code := (Tryz.f7.body).getD .skip
def L_75 : List (List Nat × List Nat) := [([0],[]),([0,1],[1]),([0,1,1],[1,4,3]),([0,1,1,1],[1,4,3]),([0,1,1,1,1],[4,3,6]),([0,1,1,1,1,1],[0]),([1,1,1,1,1,1],[0])]
def E_75 (N:Nat) : Env := z16 tys glob [(8,z98 N),(23,z7a N),(19,z5d N)] [(3,.str),(5,.str)] [] [] false [] [(123,zd N),(66,zb N),(98,z7 N)]
theorem z1ux (N:Nat) : EnvOk Tryz.prog (E_75 N) := zk mixed zo (FnsOk.cons (zg3 N) (FnsOk.cons (zb8 N) (FnsOk.cons (z92 N) (FnsOk.nil)))) (ItsOk.cons (zf N) (ItsOk.cons (ze N) (ItsOk.cons (z8 N) (ItsOk.nil))))
def z2c (N:Nat) : Option Bool :=
 (z5e N ([(107 : UInt8)] : List UInt8) ([(97 : UInt8)] : List UInt8)).bind fun y =>
 (z3u N (([(97 : UInt8)] : List UInt8),(([] : List DT8),(y,()))) ([(98 : UInt8),(101 : UInt8),(102 : UInt8),(111 : UInt8),(114 : UInt8),(101 : UInt8),(32 : UInt8),(57 : UInt8)] : List UInt8)).bind fun y1 =>
 (z2v N ([(107 : UInt8)] : List UInt8) (y1.1,(([] : List DT1),()))).bind fun y2 =>
 cond (decide (((0 : Int) <= (if ((((List.length y1.1.2.2.1) : Nat) : Int) < (1 : Int)) then (((List.length y1.1.2.2.1) : Nat) : Int) else (1 : Int))) /\ ((if ((((List.length y1.1.2.2.1) : Nat) : Int) < (1 : Int)) then (((List.length y1.1.2.2.1) : Nat) : Int) else (1 : Int)) <= (((List.length y1.1.2.2.1) : Nat) : Int))))
 (cond (decide ((1 + (List.length (cut y1.1.2.2.1 (Int.toNat (if ((((List.length y1.1.2.2.1) : Nat) : Int) < (1 : Int)) then (((List.length y1.1.2.2.1) : Nat) : Int) else (1 : Int))) (List.length y1.1.2.2.1)))) <= 9223372036854775807))
 ((z2v N ([(107 : UInt8)] : List UInt8) ((y1.1.1,(y1.1.2.1,((([(120 : UInt8)] : List UInt8) ++ (cut y1.1.2.2.1 (Int.toNat (if ((((List.length y1.1.2.2.1) : Nat) : Int) < (1 : Int)) then (((List.length y1.1.2.2.1) : Nat) : Int) else (1 : Int))) (List.length y1.1.2.2.1))),y1.1.2.2.2))),(([] : List DT1),()))).bind fun y3 =>
 cond (y2.2.1 == (0 : Int))
 (cond ((((List.length y2.1) : Nat) : Int) == (1 : Int))
 (cond (inR (0 : Int) (List.length y2.1))
 (cond ((List.getD y2.1 0 ([] : List UInt8)) == ([(98 : UInt8),(101 : UInt8),(102 : UInt8),(111 : UInt8),(114 : UInt8),(101 : UInt8),(32 : UInt8),(57 : UInt8)] : List UInt8))
 (some (y3.2.1 == (8 : Int)))
 (some false))
 (none))
 (some false))
 (some false))
 (none))
 (none)
def t_75 (N:Nat) : Tab Bool := []
theorem z1er (N:Nat) (x:z1h []) : z2q (E_75 N) N (t_75 N) L_75 Tryz.f7 (mkS [] 0 x) (z1d (.v .bool) 0) = z2c N := by kernel_rfl
def za9 (N:Nat) : List A -> Res := z10 [] (fun x=>z2c N) (z2p (.v .bool) 0)
theorem zij (N:Nat) : Contract Tryz.prog glob 7 (za9 N) :=
  Contract.of (E := E_75 N) (H := t_75 N) (L := L_75) (N := N) (body := z1h5) (K := (z1d (.v .bool) 0)) (z1ux N) Tryz.func7 (by kernel_rfl) (by decide) (fun _ hb=>TabOk.nil) (fun x y h=>by rw [z1er]; exact h) (zn (s := (.v .bool)) (m := 0))
def z1h4 : Code := (Tryz.f43.body).getD .skip
def L_76 : List (List Nat × List Nat) := [([0],[0]),([0,1],[2]),([1,1],[2])]
def E_76 (N:Nat) : Env := z16 tys glob [] [] [] [] false [] [(123,zd N),(66,zb N),(98,z7 N)]
theorem z1uw (N:Nat) : EnvOk Tryz.prog (E_76 N) := zk mixed zo (FnsOk.nil) (ItsOk.cons (zf N) (ItsOk.cons (ze N) (ItsOk.cons (z8 N) (ItsOk.nil))))
def za1 (N:Nat) (id_:(List UInt8)) : Option (List (List UInt8)) :=
 some ([([(114 : UInt8),(111 : UInt8),(111 : UInt8),(116 : UInt8)] : List UInt8),id_] : List (List UInt8))
def t_76 (N:Nat) : Tab (List (List UInt8)) := []
theorem z1eq (N:Nat) (x:z1h [(0,.v .str)]) : z2q (E_76 N) N (t_76 N) L_76 Tryz.f43 (mkS [(0,.v .str)] 0 x) (z1d (.v (.sl .str)) 1) = za1 N x.1 := by kernel_rfl
def z40 (N:Nat) : List A -> Res := z10 [(0,.v .str)] (fun x=>za1 N x.1) (z2p (.v (.sl .str)) 1)
theorem z81 (N:Nat) : Contract Tryz.prog glob 43 (z40 N) :=
  Contract.of (E := E_76 N) (H := t_76 N) (L := L_76) (N := N) (body := z1h4) (K := (z1d (.v (.sl .str)) 1)) (z1uw N) Tryz.func43 (by kernel_rfl) (by decide) (fun _ hb=>TabOk.nil) (fun x y h=>by rw [z1eq]; exact h) (zn (s := (.v (.sl .str))) (m := 1))
def z1h3 : Code := (Tryz.f88.body).getD .skip
def L_77 : List (List Nat × List Nat) := [([0],[0]),([0,1],[3]),([0,1,1],[2]),([1,1,1],[2])]
def E_77 (N:Nat) : Env := z16 tys glob [] [] [] [] false [] [(123,zd N),(66,zb N),(98,z7 N)]
theorem z1uv (N:Nat) : EnvOk Tryz.prog (E_77 N) := zk mixed zo (FnsOk.nil) (ItsOk.cons (zf N) (ItsOk.cons (ze N) (ItsOk.cons (z8 N) (ItsOk.nil))))
def zgd (N:Nat) (n:Int) : Option (List UInt8) :=
 some (z2f ([(IntKind.wrap IntKind.u8 n)] : List Int))
def t_77 (N:Nat) : Tab (List UInt8) := []
theorem z1ep (N:Nat) (x:z1h [(0,.v (.int .i64))]) : z2q (E_77 N) N (t_77 N) L_77 Tryz.f88 (mkS [(0,.v (.int .i64))] 0 x) (z1d (.v .str) 1) = zgd N x.1 := by kernel_rfl
def z3c (N:Nat) : List A -> Res := z10 [(0,.v (.int .i64))] (fun x=>zgd N x.1) (z2p (.v .str) 1)
theorem z4u (N:Nat) : Contract Tryz.prog glob 88 (z3c N) :=
  Contract.of (E := E_77 N) (H := t_77 N) (L := L_77) (N := N) (body := z1h3) (K := (z1d (.v .str) 1)) (z1uv N) Tryz.func88 (by kernel_rfl) (by decide) (fun _ hb=>TabOk.nil) (fun x y h=>by rw [z1ep]; exact h) (zn (s := (.v .str)) (m := 1))
def zyo : Code := (Tryz.f63.body).getD .skip
def L_78 : List (List Nat × List Nat) := [([0],[0]),([0,1],[0,3]),([0,0,1,1],[4,0,3]),([0,1,0,1,1],[4,0,3]),(z1ih,[6,0,3,4]),(z1ig,[0,3,4]),(z1ii,[3]),(z1ts,[0,4,3]),(PQ98,[4,0,3]),(PQ9,[4,0,3]),(z1if,[4,0,3]),([1,0,1,1],[3]),([0,1,1,1],[2]),([1,1,1,1],[2])]
def E_78 (N:Nat) : Env := z16 tys glob [(88,z3c N)] [] [] [] false [] [(123,zd N),(66,zb N),(98,z7 N)]
theorem z1uu (N:Nat) : EnvOk Tryz.prog (E_78 N) := zk mixed zo (FnsOk.cons (z4u N) (FnsOk.nil)) (ItsOk.cons (zf N) (ItsOk.cons (ze N) (ItsOk.cons (z8 N) (ItsOk.nil))))
def zc5 (N:Nat) (n:Int) (out:(List UInt8)) (i:Int) (rec:Int -> (List UInt8) -> Int -> Option (List UInt8)) (k0:(List UInt8) -> Option (List UInt8)) : Option (List UInt8) :=
 cond (decide (i < (8 : Int)))
 (cond (decide (((List.length (z2f ([(IntKind.wrap IntKind.u8 (Int.tmod n (256 : Int)))] : List Int))) + (List.length out)) <= 9223372036854775807))
 (rec (IntKind.wrap IntKind.i64 (Int.tdiv n (256 : Int))) ((z2f ([(IntKind.wrap IntKind.u8 (Int.tmod n (256 : Int)))] : List Int)) ++ out) (IntKind.wrap IntKind.i64 (i + (1 : Int))))
 (none))
 (k0 out)
def zjo (N:Nat) (n:Int) (out:(List UInt8)) (i:Int) (k0:(List UInt8) -> Option (List UInt8)) : Option (List UInt8) :=
 iter (fun (v:(Int × (List UInt8) × Int)) r=>zc5 N v.1 v.2.1 v.2.2 (fun n out i=>(r (n,out,i))) k0) N (n,out,i)
def z1s9 (N:Nat) (i:Unit) (v:(Int × (List UInt8) × Int)) (r:(Int × (List UInt8) × Int) -> Option (List UInt8)) (K:Ex -> List A -> Option (List UInt8)) : Option (List UInt8) :=
 zc5 N v.1 v.2.1 v.2.2 (fun n out i=>(r (n,out,i))) (fun a0=>(K (.exit 0) (mkS [(3,.v .str)] 13 (a0,()))))
def z1q6 (N:Nat) : Hd (List UInt8) := fun st K=>(unS SQ57 12 (restr [4,0,3] 0 st)).bind fun x=>iter (fun v r=>z1s9 N ((fun x=>()) x) v r K) N ((fun x=>(x.1,x.2.1,x.2.2.1)) x)
def t1_78 (N:Nat) : Tab (List UInt8) := []
theorem z1nq {N:Nat} {c:Ctx} (hb:Base Tryz.prog (E_78 N) c) : zq Tryz.prog c (zm zyo [0,1,0,1,1]) (z1q6 N) :=
  z1k (s := SQ57) (m := 12) (z1s9 N) [4,0,3] N (fun x=>()) (fun x=>(x.1,x.2.1,x.2.2.1)) (fun i v=>(v.1,v.2.1,v.2.2,())) (fun _=>rfl) (zi hb N (t1_78 N) L_78 zyo TabOk.nil [0,0,1,0,1,1] _ rfl) (fun i v r K=>by kernel_rfl)
def z3r (N:Nat) (n:Int) : Option (List UInt8) :=
 zjo N n ([] : List UInt8) (0 : Int)
 (fun out=>some out)
def t_78 (N:Nat) : Tab (List UInt8) := [([0,1,0,1,1],z1q6 N)]
theorem z1eo (N:Nat) (x:z1h [(0,.v (.int .i64))]) : z2q (E_78 N) N (t_78 N) L_78 Tryz.f63 (mkS [(0,.v (.int .i64))] 0 x) (z1d (.v .str) 1) = z3r N x.1 := by kernel_rfl
def zaw (N:Nat) : List A -> Res := z10 [(0,.v (.int .i64))] (fun x=>z3r N x.1) (z2p (.v .str) 1)
theorem zjp (N:Nat) : Contract Tryz.prog glob 63 (zaw N) :=
  Contract.of (E := E_78 N) (H := t_78 N) (L := L_78) (N := N) (body := zyo) (K := (z1d (.v .str) 1)) (z1uu N) Tryz.func63 (by kernel_rfl) (by decide) (fun _ hb=>(TabOk.cons (z1nq hb) TabOk.nil)) (fun x y h=>by rw [z1eo]; exact h) (zn (s := (.v .str)) (m := 1))
def zyn : Code := (Tryz.f34.body).getD .skip
def L_79 : List (List Nat × List Nat) := [([0],[0]),([0,1],[0,3]),([0,0,1,1],[4,0,3]),([0,1,0,1,1],[4,0,3]),(z1ih,[8,3,0,4]),(z1ig,[3,0,4]),(z1ii,[3]),([0,0,1,0,0,1,0,1,1],[4,0,3]),(PQ9,[4,0,3]),(z1if,[4,0,3]),([1,0,1,1],[3]),([0,1,1,1],[2]),([1,1,1,1],[2])]
def E_79 (N:Nat) : Env := z16 tys glob [(63,zaw N)] [] [] [] false [] [(123,zd N),(66,zb N),(98,z7 N)]
theorem z1ut (N:Nat) : EnvOk Tryz.prog (E_79 N) := zk mixed zo (FnsOk.cons (zjp N) (FnsOk.nil)) (ItsOk.cons (zf N) (ItsOk.cons (ze N) (ItsOk.cons (z8 N) (ItsOk.nil))))
def z48 (N:Nat) (l:(List (List UInt8))) (out:(List UInt8)) (i:Int) (rec:(List UInt8) -> Int -> Option (List UInt8)) (k0:(List UInt8) -> Option (List UInt8)) : Option (List UInt8) :=
 cond (decide (i < (((List.length l) : Nat) : Int)))
 (cond (inR i (List.length l))
 ((z3r N (((List.length (List.getD l (Int.toNat i) ([] : List UInt8))) : Nat) : Int)).bind fun y =>
 cond (decide (((List.length out) + (List.length y)) <= 9223372036854775807))
 (cond (inR i (List.length l))
 (cond (decide (((List.length (out ++ y)) + (List.length (List.getD l (Int.toNat i) ([] : List UInt8)))) <= 9223372036854775807))
 (rec ((out ++ y) ++ (List.getD l (Int.toNat i) ([] : List UInt8))) (IntKind.wrap IntKind.i64 (i + (1 : Int))))
 (none))
 (none))
 (none))
 (none))
 (k0 out)
def zif (N:Nat) (l:(List (List UInt8))) (out:(List UInt8)) (i:Int) (k0:(List UInt8) -> Option (List UInt8)) : Option (List UInt8) :=
 iter (fun (v:((List UInt8) × Int)) r=>z48 N l v.1 v.2 (fun out i=>(r (out,i))) k0) N (out,i)
def z1s8 (N:Nat) (i:(List (List UInt8))) (v:((List UInt8) × Int)) (r:((List UInt8) × Int) -> Option (List UInt8)) (K:Ex -> List A -> Option (List UInt8)) : Option (List UInt8) :=
 z48 N i v.1 v.2 (fun out i=>(r (out,i))) (fun a0=>(K (.exit 0) (mkS [(3,.v .str)] 21 (a0,()))))
def z1q5 (N:Nat) : Hd (List UInt8) := fun st K=>(unS [(0,.v (.sl .str)),(2,.v .str),(0,.v (.int .i64))] 20 (restr [4,0,3] 0 st)).bind fun x=>iter (fun v r=>z1s8 N ((fun x=>x.1) x) v r K) N ((fun x=>(x.2.1,x.2.2.1)) x)
def t1_79 (N:Nat) : Tab (List UInt8) := []
theorem z1np {N:Nat} {c:Ctx} (hb:Base Tryz.prog (E_79 N) c) : zq Tryz.prog c (zm zyn [0,1,0,1,1]) (z1q5 N) :=
  z1k (s := [(0,.v (.sl .str)),(2,.v .str),(0,.v (.int .i64))]) (m := 20) (z1s8 N) [4,0,3] N (fun x=>x.1) (fun x=>(x.2.1,x.2.2.1)) (fun i v=>(i,v.1,v.2,())) (fun _=>rfl) (zi hb N (t1_79 N) L_79 zyn TabOk.nil [0,0,1,0,1,1] _ rfl) (fun i v r K=>by kernel_rfl)
def z1f (N:Nat) (l:(List (List UInt8))) : Option (List UInt8) :=
 zif N l ([] : List UInt8) (0 : Int)
 (fun out=>some out)
def t_79 (N:Nat) : Tab (List UInt8) := [([0,1,0,1,1],z1q5 N)]
theorem z1en (N:Nat) (x:z1h [(0,.v (.sl .str))]) : z2q (E_79 N) N (t_79 N) L_79 Tryz.f34 (mkS [(0,.v (.sl .str))] 0 x) (z1d (.v .str) 1) = z1f N x.1 := by kernel_rfl
def z30 (N:Nat) : List A -> Res := z10 [(0,.v (.sl .str))] (fun x=>z1f N x.1) (z2p (.v .str) 1)
theorem z49 (N:Nat) : Contract Tryz.prog glob 34 (z30 N) :=
  Contract.of (E := E_79 N) (H := t_79 N) (L := L_79) (N := N) (body := zyn) (K := (z1d (.v .str) 1)) (z1ut N) Tryz.func34 (by kernel_rfl) (by decide) (fun _ hb=>(TabOk.cons (z1np hb) TabOk.nil)) (fun x y h=>by rw [z1en]; exact h) (zn (s := (.v .str)) (m := 1))
def zqt : Code := (Tryz.f67.body).getD .skip
def L_80 : List (List Nat × List Nat) := [([0],[0]),([0,1],[3,0]),([0,1,1],[3,0]),([0,0,1,1,1],[3,0]),([0,0,0,0,0,1,1,1],[14,3,0]),([1,0,0,0,0,1,1,1],[3,0]),([1,1,0,0,0,0,1,1,1],[0,3]),([0,1,0,0,0,1,1,1],[3,0]),([1,0,0,0,1,1,1],[3,0]),([0,1,1,1],[0,3]),([0,1,1,1,1],[3,4]),(z1tm,[5,3,4]),(z19k,[5,3,4]),([0,0,0,0,1,0,1,1,1,1,1],[23,3,4,5]),([1,0,0,0,1,0,1,1,1,1,1],[3,4,5]),([1,1,0,0,0,1,0,1,1,1,1,1],[3]),([0,0,1,0,0,1,0,1,1,1,1,1],[5,3,4]),([0,1,0,0,1,0,1,1,1,1,1],[5,3,4]),([1,1,0,0,1,0,1,1,1,1,1],[5,3,4]),(z166,[3]),(z1tl,[2]),([1,1,1,1,1,1,1],[2])]
def z1wk (N:Nat) : Env := z16 tys glob [] [(3,(.int .u8))] [] [] false [] [(123,zd N),(66,zb N),(98,z7 N)]
theorem z1us (N:Nat) : EnvOk Tryz.prog (z1wk N) := zk mixed zo (FnsOk.nil) (ItsOk.cons (zf N) (ItsOk.cons (ze N) (ItsOk.cons (z8 N) (ItsOk.nil))))
def z8j (N:Nat) (s:(List UInt8)) (b:(List Int)) (rec:(List Int) -> Option (List UInt8)) (k0:(List Int) -> Option (List UInt8)) : Option (List UInt8) :=
 cond ((Int.tmod (((List.length b) : Nat) : Int) (64 : Int)) != (56 : Int))
 (cond (decide ((((List.length b) + 1) * 1) <= 70368744177664))
 (rec (b ++ ([(0 : Int)] : List Int)))
 (none))
 (k0 b)
def z8l (N:Nat) (s:(List UInt8)) (b:(List Int)) (k0:(List Int) -> Option (List UInt8)) : Option (List UInt8) :=
 iter (fun (v:(List Int)) r=>z8j N s v (fun b=>(r b)) k0) N b
def z1s7 (N:Nat) (i:(List UInt8)) (v:(List Int)) (r:(List Int) -> Option (List UInt8)) (K:Ex -> List A -> Option (List UInt8)) : Option (List UInt8) :=
 z8j N i v (fun b=>(r b)) (fun a1=>(K (.exit 0) (mkS [(0,.v .str),(2,.row (.int .u8))] 33 (i,a1,()))))
def z1q4 (N:Nat) : Hd (List UInt8) := fun st K=>(unS [(0,.v .str),(2,.row (.int .u8))] 33 (restr [3,0] 0 st)).bind fun x=>iter (fun v r=>z1s7 N ((fun x=>x.1) x) v r K) N ((fun x=>x.2.1) x)
def t1_80 (N:Nat) : Tab (List UInt8) := []
theorem z1no {N:Nat} {c:Ctx} (hb:Base Tryz.prog (z1wk N) c) : zq Tryz.prog c (zm zqt [0,0,1,1,1]) (z1q4 N) :=
  z1k (s := [(0,.v .str),(2,.row (.int .u8))]) (m := 33) (z1s7 N) [3,0] N (fun x=>x.1) (fun x=>x.2.1) (fun i v=>(i,v,())) (fun _=>rfl) (zi hb N (t1_80 N) L_80 zqt TabOk.nil [0,0,0,1,1,1] _ rfl) (fun i v r K=>by kernel_rfl)
def z8i (N:Nat) (n:Int) (b:(List Int)) (i:Int) (rec:(List Int) -> Int -> Option (List UInt8)) (k0:(List Int) -> Option (List UInt8)) : Option (List UInt8) :=
 cond (decide ((0 : Int) <= i))
 (cond (decide ((0 : Int) <= (IntKind.wrap IntKind.u64 (IntKind.wrap IntKind.i64 ((8 : Int) * i)))))
 (cond (decide ((((List.length b) + 1) * 1) <= 70368744177664))
 (rec (b ++ ([(IntKind.wrap IntKind.u8 (z3i IntKind.u64 n (IntKind.wrap IntKind.u64 (IntKind.wrap IntKind.i64 ((8 : Int) * i)))))] : List Int)) (IntKind.wrap IntKind.i64 (i - (1 : Int))))
 (none))
 (none))
 (k0 b)
def z8k (N:Nat) (b:(List Int)) (n:Int) (i:Int) (k0:(List Int) -> Option (List UInt8)) : Option (List UInt8) :=
 iter (fun (v:((List Int) × Int)) r=>z8i N n v.1 v.2 (fun b i=>(r (b,i))) k0) N (b,i)
def z1rj (N:Nat) (i:Int) (v:((List Int) × Int)) (r:((List Int) × Int) -> Option (List UInt8)) (K:Ex -> List A -> Option (List UInt8)) : Option (List UInt8) :=
 z8i N i v.1 v.2 (fun b i=>(r (b,i))) (fun a0=>(K (.exit 2) (mkS [(3,.row (.int .u8))] 33 (a0,()))))
def z1pg (N:Nat) : Hd (List UInt8) := fun st K=>(unS [(3,.row (.int .u8)),(0,.v (.int .u64)),(0,.v (.int .i64))] 31 (restr [5,3,4] 0 st)).bind fun x=>iter (fun v r=>z1rj N ((fun x=>x.2.1) x) v r K) N ((fun x=>(x.1,x.2.2.1)) x)
def t2_80 (N:Nat) : Tab (List UInt8) := []
theorem z1n0 {N:Nat} {c:Ctx} (hb:Base Tryz.prog (z1wk N) c) : zq Tryz.prog c (zm zqt z19k) (z1pg N) :=
  z1k (s := [(3,.row (.int .u8)),(0,.v (.int .u64)),(0,.v (.int .i64))]) (m := 31) (z1rj N) [5,3,4] N (fun x=>x.2.1) (fun x=>(x.1,x.2.2.1)) (fun i v=>(v.1,i,v.2,())) (fun _=>rfl) (zi hb N (t2_80 N) L_80 zqt TabOk.nil z168 _ rfl) (fun i v r K=>by kernel_rfl)
def z4f (N:Nat) (s:(List UInt8)) : Option (List UInt8) :=
 cond (decide ((((List.length (z57 s)) + 1) * 1) <= 70368744177664))
 (z8l N s ((z57 s) ++ ([(128 : Int)] : List Int))
 (fun b=>z8k N b (IntKind.wrap IntKind.u64 ((8 : Int) * (IntKind.wrap IntKind.u64 (((List.length s) : Nat) : Int)))) (7 : Int)
 (fun b1=>some (z2f b1))))
 (none)
def t_80 (N:Nat) : Tab (List UInt8) := [([0,0,1,1,1],z1q4 N),(z19k,z1pg N)]
theorem z1em (N:Nat) (x:z1h [(0,.v .str)]) : z2q (z1wk N) N (t_80 N) L_80 Tryz.f67 (mkS [(0,.v .str)] 0 x) (z1d (.v .str) 1) = z4f N x.1 := by kernel_rfl
def zcb (N:Nat) : List A -> Res := z10 [(0,.v .str)] (fun x=>z4f N x.1) (z2p (.v .str) 1)
theorem zkt (N:Nat) : Contract Tryz.prog glob 67 (zcb N) :=
  Contract.of (E := z1wk N) (H := t_80 N) (L := L_80) (N := N) (body := zqt) (K := (z1d (.v .str) 1)) (z1us N) Tryz.func67 (by kernel_rfl) (by decide) (fun _ hb=>(TabOk.cons (z1no hb) (TabOk.cons (z1n0 hb) TabOk.nil))) (fun x y h=>by rw [z1em]; exact h) (zn (s := (.v .str)) (m := 1))
def z1h2 : Code := (Tryz.f68.body).getD .skip
def L_81 : List (List Nat × List Nat) := [([0],[]),([0,1],[0]),([1,1],[0])]
def E_81 (N:Nat) : Env := z16 tys glob [] [] [] [] false [] [(123,zd N),(66,zb N),(98,z7 N)]
theorem z1ur (N:Nat) : EnvOk Tryz.prog (E_81 N) := zk mixed zo (FnsOk.nil) (ItsOk.cons (zf N) (ItsOk.cons (ze N) (ItsOk.cons (z8 N) (ItsOk.nil))))
def zef (N:Nat) : Option (List Int) :=
 some (List.set (List.set (List.set (List.set (List.set (List.set (List.set (List.set (List.set (List.set (List.set (List.set (List.set (List.set (List.set (List.set (List.set (List.set (List.set (List.set (List.set (List.set (List.set (List.set (List.set (List.set (List.set (List.set (List.set (List.set (List.set (List.set (List.set (List.set (List.set (List.set (List.set (List.set (List.set (List.set (List.set (List.set (List.set (List.set (List.set (List.set (List.set (List.set (List.set (List.set (List.set (List.set (List.set (List.set (List.set (List.set (List.set (List.set (List.set (List.set (List.set (List.set (List.set (List.set (List.replicate 64 (0 : Int)) 0 (1116352408 : Int)) 1 (1899447441 : Int)) 2 (3049323471 : Int)) 3 (3921009573 : Int)) 4 (961987163 : Int)) 5 (1508970993 : Int)) 6 (2453635748 : Int)) 7 (2870763221 : Int)) 8 (3624381080 : Int)) 9 (310598401 : Int)) 10 (607225278 : Int)) 11 (1426881987 : Int)) 12 (1925078388 : Int)) 13 (2162078206 : Int)) 14 (2614888103 : Int)) 15 (3248222580 : Int)) 16 (3835390401 : Int)) 17 (4022224774 : Int)) 18 (264347078 : Int)) 19 (604807628 : Int)) 20 (770255983 : Int)) 21 (1249150122 : Int)) 22 (1555081692 : Int)) 23 (1996064986 : Int)) 24 (2554220882 : Int)) 25 (2821834349 : Int)) 26 (2952996808 : Int)) 27 (3210313671 : Int)) 28 (3336571891 : Int)) 29 (3584528711 : Int)) 30 (113926993 : Int)) 31 (338241895 : Int)) 32 (666307205 : Int)) 33 (773529912 : Int)) 34 (1294757372 : Int)) 35 (1396182291 : Int)) 36 (1695183700 : Int)) 37 (1986661051 : Int)) 38 (2177026350 : Int)) 39 (2456956037 : Int)) 40 (2730485921 : Int)) 41 (2820302411 : Int)) 42 (3259730800 : Int)) 43 (3345764771 : Int)) 44 (3516065817 : Int)) 45 (3600352804 : Int)) 46 (4094571909 : Int)) 47 (275423344 : Int)) 48 (430227734 : Int)) 49 (506948616 : Int)) 50 (659060556 : Int)) 51 (883997877 : Int)) 52 (958139571 : Int)) 53 (1322822218 : Int)) 54 (1537002063 : Int)) 55 (1747873779 : Int)) 56 (1955562222 : Int)) 57 (2024104815 : Int)) 58 (2227730452 : Int)) 59 (2361852424 : Int)) 60 (2428436474 : Int)) 61 (2756734187 : Int)) 62 (3204031479 : Int)) 63 (3329325298 : Int))
def t_81 (N:Nat) : Tab (List Int) := []
theorem z1el (N:Nat) (x:z1h []) : z2q (E_81 N) N (t_81 N) L_81 Tryz.f68 (mkS [] 0 x) (z1d (.v (.sl (.int .u32))) 0) = zef N := by kernel_rfl
def za6 (N:Nat) : List A -> Res := z10 [] (fun x=>zef N) (z2p (.v (.sl (.int .u32))) 0)
theorem zig (N:Nat) : Contract Tryz.prog glob 68 (za6 N) :=
  Contract.of (E := E_81 N) (H := t_81 N) (L := L_81) (N := N) (body := z1h2) (K := (z1d (.v (.sl (.int .u32))) 0)) (z1ur N) Tryz.func68 (by kernel_rfl) (by decide) (fun _ hb=>TabOk.nil) (fun x y h=>by rw [z1el]; exact h) (zn (s := (.v (.sl (.int .u32)))) (m := 0))
def z1h1 : Code := (Tryz.f69.body).getD .skip
def L_82 : List (List Nat × List Nat) := [([0],[0]),([0,1],[0]),([1,1],[0])]
def E_82 (N:Nat) : Env := z16 tys glob [] [] [] [] false [] [(123,zd N),(66,zb N),(98,z7 N)]
theorem z1uq (N:Nat) : EnvOk Tryz.prog (E_82 N) := zk mixed zo (FnsOk.nil) (ItsOk.cons (zf N) (ItsOk.cons (ze N) (ItsOk.cons (z8 N) (ItsOk.nil))))
def zeg (N:Nat) : Option (List Int) :=
 some ([(1779033703 : Int),(3144134277 : Int),(1013904242 : Int),(2773480762 : Int),(1359893119 : Int),(2600822924 : Int),(528734635 : Int),(1541459225 : Int)] : List Int)
def t_82 (N:Nat) : Tab (List Int) := []
theorem z1ek (N:Nat) (x:z1h []) : z2q (E_82 N) N (t_82 N) L_82 Tryz.f69 (mkS [] 0 x) (z1d (.v (.arr 8 (.int .u32))) 0) = zeg N := by kernel_rfl
def za7 (N:Nat) : List A -> Res := z10 [] (fun x=>zeg N) (z2p (.v (.arr 8 (.int .u32))) 0)
theorem zih (N:Nat) : Contract Tryz.prog glob 69 (za7 N) :=
  Contract.of (E := E_82 N) (H := t_82 N) (L := L_82) (N := N) (body := z1h1) (K := (z1d (.v (.arr 8 (.int .u32))) 0)) (z1uq N) Tryz.func69 (by kernel_rfl) (by decide) (fun _ hb=>TabOk.nil) (fun x y h=>by rw [z1ek]; exact h) (zn (s := (.v (.arr 8 (.int .u32)))) (m := 0))
def z1h0 : Code := (Tryz.f92.body).getD .skip
def L_83 : List (List Nat × List Nat) := [([0],[0,1]),([0,1],[4]),([1,1],[4])]
def E_83 (N:Nat) : Env := z16 tys glob [] [] [] [] false [] [(123,zd N),(66,zb N),(98,z7 N)]
theorem z1up (N:Nat) : EnvOk Tryz.prog (E_83 N) := zk mixed zo (FnsOk.nil) (ItsOk.cons (zf N) (ItsOk.cons (ze N) (ItsOk.cons (z8 N) (ItsOk.nil))))
def zh3 (N:Nat) (x0:Int) (n:Int) : Option Int :=
 cond (decide ((0 : Int) <= (IntKind.wrap IntKind.u64 n)))
 (cond (decide ((0 : Int) <= (IntKind.wrap IntKind.u64 (IntKind.wrap IntKind.i64 ((32 : Int) - n)))))
 (some (zj Go.BinOp.or IntKind.u32 (z3i IntKind.u32 x0 (IntKind.wrap IntKind.u64 n)) (z8a IntKind.u32 x0 (IntKind.wrap IntKind.u64 (IntKind.wrap IntKind.i64 ((32 : Int) - n))))))
 (none))
 (none)
def t_83 (N:Nat) : Tab Int := []
theorem z1ej (N:Nat) (x:z1h z19h) : z2q (E_83 N) N (t_83 N) L_83 Tryz.f92 (mkS z19h 0 x) (z1d (.v (.int .u32)) 2) = zh3 N x.1 x.2.1 := by kernel_rfl
def zc9 (N:Nat) : List A -> Res := z10 z19h (fun x=>zh3 N x.1 x.2.1) (z2p (.v (.int .u32)) 2)
theorem zks (N:Nat) : Contract Tryz.prog glob 92 (zc9 N) :=
  Contract.of (E := E_83 N) (H := t_83 N) (L := L_83) (N := N) (body := z1h0) (K := (z1d (.v (.int .u32)) 2)) (z1up N) Tryz.func92 (by kernel_rfl) (by decide) (fun _ hb=>TabOk.nil) (fun x y h=>by rw [z1ej]; exact h) (zn (s := (.v (.int .u32))) (m := 2))
def zg1 : Code := (Tryz.f70.body).getD .skip
def z1k5 : List (List Nat × List Nat) := [([0],[2,1,4,3,8]),([0,1],[2,9,1,4,3,8]),([0,0,1,1],zz7),([0,1,0,1,1],zz7),(z1ih,[26,2,10,9,1,4,3,8]),(z1ig,[2,10,9,1,4,3,8]),(z1ii,[9,4,3,8]),(z1ts,[9,1,11,10,2,4,3,8]),(PQ98,zz7),(PQ9,zz7),(z1if,zz7),([1,0,1,1],[9,4,3,8]),([0,0,1,1,1],[12,9,4,3,8]),([0,1,0,1,1,1],[12,9,4,3,8]),(z1tp,[62,9,12,4,3,8]),(z1to,[9,12,4,3,8]),(z1tr,[4,3,9,8]),(PQ54,[13,14,9,12,4,3,8]),([0,1,0,0,1,0,0,1,0,1,1,1],[14,9,12,15,4,3,8]),(PQ84,[9,16,12,15,4,3,8]),([1,1,1,0,0,1,0,0,1,0,1,1,1],[12,9,4,3,8]),(z1ij,[12,9,4,3,8]),(z1tn,[12,9,4,3,8]),([1,0,1,1,1],[4,3,9,8]),([0,1,1,1,1],[17,3,9,4,8]),(z1tm,zz5),(z19k,zz5),([0,0,0,0,1,0,1,1,1,1,1],[111,17,3,18,9,4,8]),([1,0,0,0,1,0,1,1,1,1,1],[17,3,18,9,4,8]),([1,1,0,0,0,1,0,1,1,1,1,1],[17,4,8]),([0,0,0,1,0,0,1,0,1,1,1,1,1],[17,19,3,18,9,4,8]),([0,1,0,0,1,0,0,1,0,1,1,1,1,1],[17,19,20,3,18,9,4,8]),([0,1,1,0,0,1,0,0,1,0,1,1,1,1,1],[17,21,18,3,9,4,8]),([0,1,1,1,0,0,1,0,0,1,0,1,1,1,1,1],[17,21,22,18,3,9,4,8]),([0,1,1,1,1,0,0,1,0,0,1,0,1,1,1,1,1],[21,22,23,17,18,3,9,4,8]),([1,1,1,1,1,0,0,1,0,0,1,0,1,1,1,1,1],zz5),([0,1,0,0,1,0,1,1,1,1,1],zz5),([1,1,0,0,1,0,1,1,1,1,1],zz5),(z166,[17,4,8]),([0,0,1,1,1,1,1,1],[24,17,4,8]),([0,1,0,1,1,1,1,1,1],[24,17,4,8]),([0,0,0,0,1,0,1,1,1,1,1,1],[204,24,17,4,8]),([1,0,0,0,1,0,1,1,1,1,1,1],[24,17,4,8]),([1,1,0,0,0,1,0,1,1,1,1,1,1],[17,8]),([0,0,1,0,0,1,0,1,1,1,1,1,1],[24,17,4,8]),([0,1,0,0,1,0,1,1,1,1,1,1],[24,17,4,8]),([1,1,0,0,1,0,1,1,1,1,1,1],[24,17,4,8]),([1,0,1,1,1,1,1,1],[17,8]),(z1il,[8]),([1,1,1,1,1,1,1,1],[8])]
def z1jb (N:Nat) : Env := z16 tys glob [(92,zc9 N)] [(9,(.int .u32))] [] [] false [] [(123,zd N),(66,zb N),(98,z7 N)]
theorem z1uo (N:Nat) : EnvOk Tryz.prog (z1jb N) := zk mixed zo (FnsOk.cons (zks N) (FnsOk.nil)) (ItsOk.cons (zf N) (ItsOk.cons (ze N) (ItsOk.cons (z8 N) (ItsOk.nil))))
def z7o (N:Nat) (s:(List UInt8)) (at_:Int) (k:(List Int)) (h:(List Int)) (x8:(List Int)) (w:(List Int)) (t:Int) (rec:(List Int) -> Int -> Option (List Int)) (k0:(List Int) -> Option (List Int)) : Option (List Int) :=
 cond (decide (t < (16 : Int)))
 (cond (inR (IntKind.wrap IntKind.i64 (at_ + (IntKind.wrap IntKind.i64 ((4 : Int) * t)))) (List.length s))
 (cond (inR (IntKind.wrap IntKind.i64 ((IntKind.wrap IntKind.i64 (at_ + (IntKind.wrap IntKind.i64 ((4 : Int) * t)))) + (1 : Int))) (List.length s))
 (cond (inR (IntKind.wrap IntKind.i64 ((IntKind.wrap IntKind.i64 (at_ + (IntKind.wrap IntKind.i64 ((4 : Int) * t)))) + (2 : Int))) (List.length s))
 (cond (inR (IntKind.wrap IntKind.i64 ((IntKind.wrap IntKind.i64 (at_ + (IntKind.wrap IntKind.i64 ((4 : Int) * t)))) + (3 : Int))) (List.length s))
 (cond (decide ((((List.length w) + 1) * 4) <= 70368744177664))
 (rec (w ++ ([(IntKind.wrap IntKind.u32 ((IntKind.wrap IntKind.u32 ((IntKind.wrap IntKind.u32 ((z8a IntKind.u32 (IntKind.wrap IntKind.u32 (((UInt8.toNat (List.getD s (Int.toNat (IntKind.wrap IntKind.i64 (at_ + (IntKind.wrap IntKind.i64 ((4 : Int) * t))))) (0 : UInt8))) : Nat) : Int)) (24 : Int)) + (z8a IntKind.u32 (IntKind.wrap IntKind.u32 (((UInt8.toNat (List.getD s (Int.toNat (IntKind.wrap IntKind.i64 ((IntKind.wrap IntKind.i64 (at_ + (IntKind.wrap IntKind.i64 ((4 : Int) * t)))) + (1 : Int)))) (0 : UInt8))) : Nat) : Int)) (16 : Int)))) + (z8a IntKind.u32 (IntKind.wrap IntKind.u32 (((UInt8.toNat (List.getD s (Int.toNat (IntKind.wrap IntKind.i64 ((IntKind.wrap IntKind.i64 (at_ + (IntKind.wrap IntKind.i64 ((4 : Int) * t)))) + (2 : Int)))) (0 : UInt8))) : Nat) : Int)) (8 : Int)))) + (IntKind.wrap IntKind.u32 (((UInt8.toNat (List.getD s (Int.toNat (IntKind.wrap IntKind.i64 ((IntKind.wrap IntKind.i64 (at_ + (IntKind.wrap IntKind.i64 ((4 : Int) * t)))) + (3 : Int)))) (0 : UInt8))) : Nat) : Int))))] : List Int)) (IntKind.wrap IntKind.i64 (t + (1 : Int))))
 (none))
 (none))
 (none))
 (none))
 (none))
 (k0 w)
def z7r (N:Nat) (s:(List UInt8)) (at_:Int) (k:(List Int)) (h:(List Int)) (x8:(List Int)) (w:(List Int)) (t:Int) (k0:(List Int) -> Option (List Int)) : Option (List Int) :=
 iter (fun (v:((List Int) × Int)) r=>z7o N s at_ k h x8 v.1 v.2 (fun w t=>(r (w,t))) k0) N (w,t)
def z1s6 (N:Nat) (i:((List UInt8) × Int × (List Int) × (List Int) × (List Int))) (v:((List Int) × Int)) (r:((List Int) × Int) -> Option (List Int)) (K:Ex -> List A -> Option (List Int)) : Option (List Int) :=
 z7o N i.1 i.2.1 i.2.2.1 i.2.2.2.1 i.2.2.2.2 v.1 v.2 (fun w t=>(r (w,t))) (fun a3=>(K (.exit 0) (mkS SQ56 207 (i.2.2.1,i.2.2.2.1,i.2.2.2.2,a3,()))))
def z1q3 (N:Nat) : Hd (List Int) := fun st K=>(unS SQ23 206 (restr zz7 0 st)).bind fun x=>iter (fun v r=>z1s6 N ((fun x=>(x.1,x.2.1,x.2.2.1,x.2.2.2.1,x.2.2.2.2.1)) x) v r K) N ((fun x=>(x.2.2.2.2.2.1,x.2.2.2.2.2.2.1)) x)
def t1_84 (N:Nat) : Tab (List Int) := []
theorem z1nn {N:Nat} {c:Ctx} (hb:Base Tryz.prog (z1jb N) c) : zq Tryz.prog c (zm zg1 [0,1,0,1,1]) (z1q3 N) :=
  z1k (s := SQ23) (m := 206) (z1s6 N) zz7 N (fun x=>(x.1,x.2.1,x.2.2.1,x.2.2.2.1,x.2.2.2.2.1)) (fun x=>(x.2.2.2.2.2.1,x.2.2.2.2.2.2.1)) (fun i v=>(i.1,i.2.1,i.2.2.1,i.2.2.2.1,i.2.2.2.2,v.1,v.2,())) (fun _=>rfl) (zi hb N (t1_84 N) z1k5 zg1 TabOk.nil [0,0,1,0,1,1] _ rfl) (fun i v r K=>by kernel_rfl)
def z7n (N:Nat) (k:(List Int)) (h:(List Int)) (x8:(List Int)) (w:(List Int)) (t:Int) (rec:(List Int) -> Int -> Option (List Int)) (k0:(List Int) -> Option (List Int)) : Option (List Int) :=
 cond (decide (t < (64 : Int)))
 (cond (inR (IntKind.wrap IntKind.i64 (t - (15 : Int))) (List.length w))
 (cond (decide ((Int.toNat (IntKind.wrap IntKind.i64 (t - (15 : Int)))) < (List.length w)))
 (cond (inR (IntKind.wrap IntKind.i64 (t - (2 : Int))) (List.length w))
 (cond (decide ((Int.toNat (IntKind.wrap IntKind.i64 (t - (2 : Int)))) < (List.length w)))
 (cond (inR (IntKind.wrap IntKind.i64 (t - (7 : Int))) (List.length w))
 (cond (decide ((Int.toNat (IntKind.wrap IntKind.i64 (t - (7 : Int)))) < (List.length w)))
 (cond (inR (IntKind.wrap IntKind.i64 (t - (16 : Int))) (List.length w))
 (cond (decide ((Int.toNat (IntKind.wrap IntKind.i64 (t - (16 : Int)))) < (List.length w)))
 (cond (decide ((((List.length w) + 1) * 4) <= 70368744177664))
 (rec (w ++ ([(IntKind.wrap IntKind.u32 ((IntKind.wrap IntKind.u32 ((IntKind.wrap IntKind.u32 ((zj Go.BinOp.xor IntKind.u32 (zj Go.BinOp.xor IntKind.u32 (zj Go.BinOp.or IntKind.u32 (z3i IntKind.u32 (List.getD w (Int.toNat (IntKind.wrap IntKind.i64 (t - (2 : Int)))) (0 : Int)) (IntKind.wrap IntKind.u64 (17 : Int))) (z8a IntKind.u32 (List.getD w (Int.toNat (IntKind.wrap IntKind.i64 (t - (2 : Int)))) (0 : Int)) (IntKind.wrap IntKind.u64 (IntKind.wrap IntKind.i64 ((32 : Int) - (17 : Int)))))) (zj Go.BinOp.or IntKind.u32 (z3i IntKind.u32 (List.getD w (Int.toNat (IntKind.wrap IntKind.i64 (t - (2 : Int)))) (0 : Int)) (IntKind.wrap IntKind.u64 (19 : Int))) (z8a IntKind.u32 (List.getD w (Int.toNat (IntKind.wrap IntKind.i64 (t - (2 : Int)))) (0 : Int)) (IntKind.wrap IntKind.u64 (IntKind.wrap IntKind.i64 ((32 : Int) - (19 : Int))))))) (z3i IntKind.u32 (List.getD w (Int.toNat (IntKind.wrap IntKind.i64 (t - (2 : Int)))) (0 : Int)) (10 : Int))) + (List.getD w (Int.toNat (IntKind.wrap IntKind.i64 (t - (7 : Int)))) (0 : Int)))) + (zj Go.BinOp.xor IntKind.u32 (zj Go.BinOp.xor IntKind.u32 (zj Go.BinOp.or IntKind.u32 (z3i IntKind.u32 (List.getD w (Int.toNat (IntKind.wrap IntKind.i64 (t - (15 : Int)))) (0 : Int)) (IntKind.wrap IntKind.u64 (7 : Int))) (z8a IntKind.u32 (List.getD w (Int.toNat (IntKind.wrap IntKind.i64 (t - (15 : Int)))) (0 : Int)) (IntKind.wrap IntKind.u64 (IntKind.wrap IntKind.i64 ((32 : Int) - (7 : Int)))))) (zj Go.BinOp.or IntKind.u32 (z3i IntKind.u32 (List.getD w (Int.toNat (IntKind.wrap IntKind.i64 (t - (15 : Int)))) (0 : Int)) (IntKind.wrap IntKind.u64 (18 : Int))) (z8a IntKind.u32 (List.getD w (Int.toNat (IntKind.wrap IntKind.i64 (t - (15 : Int)))) (0 : Int)) (IntKind.wrap IntKind.u64 (IntKind.wrap IntKind.i64 ((32 : Int) - (18 : Int))))))) (z3i IntKind.u32 (List.getD w (Int.toNat (IntKind.wrap IntKind.i64 (t - (15 : Int)))) (0 : Int)) (3 : Int))))) + (List.getD w (Int.toNat (IntKind.wrap IntKind.i64 (t - (16 : Int)))) (0 : Int))))] : List Int)) (IntKind.wrap IntKind.i64 (t + (1 : Int))))
 (none))
 (none))
 (none))
 (none))
 (none))
 (none))
 (none))
 (none))
 (none))
 (k0 w)
def z7q (N:Nat) (k:(List Int)) (h:(List Int)) (x8:(List Int)) (w:(List Int)) (t:Int) (k0:(List Int) -> Option (List Int)) : Option (List Int) :=
 iter (fun (v:((List Int) × Int)) r=>z7n N k h x8 v.1 v.2 (fun w t=>(r (w,t))) k0) N (w,t)
def z1ri (N:Nat) (i:((List Int) × (List Int) × (List Int))) (v:((List Int) × Int)) (r:((List Int) × Int) -> Option (List Int)) (K:Ex -> List A -> Option (List Int)) : Option (List Int) :=
 z7n N i.1 i.2.1 i.2.2 v.1 v.2 (fun w t=>(r (w,t))) (fun a3=>(K (.exit 2) (mkS SQ56 207 (i.1,i.2.1,i.2.2,a3,()))))
def z1pf (N:Nat) : Hd (List Int) := fun st K=>(unS SQ39 204 (restr [12,9,4,3,8] 0 st)).bind fun x=>iter (fun v r=>z1ri N ((fun x=>(x.1,x.2.1,x.2.2.1)) x) v r K) N ((fun x=>(x.2.2.2.1,x.2.2.2.2.1)) x)
def t2_84 (N:Nat) : Tab (List Int) := []
theorem z1mz {N:Nat} {c:Ctx} (hb:Base Tryz.prog (z1jb N) c) : zq Tryz.prog c (zm zg1 [0,1,0,1,1,1]) (z1pf N) :=
  z1k (s := SQ39) (m := 204) (z1ri N) [12,9,4,3,8] N (fun x=>(x.1,x.2.1,x.2.2.1)) (fun x=>(x.2.2.2.1,x.2.2.2.2.1)) (fun i v=>(i.1,i.2.1,i.2.2,v.1,v.2,())) (fun _=>rfl) (zi hb N (t2_84 N) z1k5 zg1 TabOk.nil z1bu _ rfl) (fun i v r K=>by kernel_rfl)
def z7m (N:Nat) (k:(List Int)) (h:(List Int)) (x8:(List Int)) (w:(List Int)) (v_:(List Int)) (t:Int) (rec:(List Int) -> Int -> Option (List Int)) (k0:(List Int) -> Option (List Int)) : Option (List Int) :=
 cond (decide (t < (64 : Int)))
 (cond (decide (4 < (List.length v_)))
 (cond (decide (4 < (List.length v_)))
 (cond (decide (4 < (List.length v_)))
 (cond (decide (4 < (List.length v_)))
 (cond (decide (5 < (List.length v_)))
 (cond (decide (4 < (List.length v_)))
 (cond (decide (6 < (List.length v_)))
 (cond (decide (7 < (List.length v_)))
 (cond (inR t (List.length k))
 (cond (inR t (List.length w))
 (cond (decide ((Int.toNat t) < (List.length w)))
 (cond (decide (0 < (List.length v_)))
 (cond (decide (0 < (List.length v_)))
 (cond (decide (0 < (List.length v_)))
 (cond (decide (0 < (List.length v_)))
 (cond (decide (1 < (List.length v_)))
 (cond (decide (0 < (List.length v_)))
 (cond (decide (2 < (List.length v_)))
 (cond (decide (1 < (List.length v_)))
 (cond (decide (2 < (List.length v_)))
 (cond (decide (0 < (List.length v_)))
 (cond (decide (1 < (List.length v_)))
 (cond (decide (2 < (List.length v_)))
 (cond (decide (3 < (List.length v_)))
 (cond (decide (4 < (List.length v_)))
 (cond (decide (5 < (List.length v_)))
 (cond (decide (6 < (List.length v_)))
 (rec ([(IntKind.wrap IntKind.u32 ((IntKind.wrap IntKind.u32 ((IntKind.wrap IntKind.u32 ((IntKind.wrap IntKind.u32 ((IntKind.wrap IntKind.u32 ((IntKind.wrap IntKind.u32 ((List.getD v_ 7 (0 : Int)) + (zj Go.BinOp.xor IntKind.u32 (zj Go.BinOp.xor IntKind.u32 (zj Go.BinOp.or IntKind.u32 (z3i IntKind.u32 (List.getD v_ 4 (0 : Int)) (IntKind.wrap IntKind.u64 (6 : Int))) (z8a IntKind.u32 (List.getD v_ 4 (0 : Int)) (IntKind.wrap IntKind.u64 (IntKind.wrap IntKind.i64 ((32 : Int) - (6 : Int)))))) (zj Go.BinOp.or IntKind.u32 (z3i IntKind.u32 (List.getD v_ 4 (0 : Int)) (IntKind.wrap IntKind.u64 (11 : Int))) (z8a IntKind.u32 (List.getD v_ 4 (0 : Int)) (IntKind.wrap IntKind.u64 (IntKind.wrap IntKind.i64 ((32 : Int) - (11 : Int))))))) (zj Go.BinOp.or IntKind.u32 (z3i IntKind.u32 (List.getD v_ 4 (0 : Int)) (IntKind.wrap IntKind.u64 (25 : Int))) (z8a IntKind.u32 (List.getD v_ 4 (0 : Int)) (IntKind.wrap IntKind.u64 (IntKind.wrap IntKind.i64 ((32 : Int) - (25 : Int))))))))) + (zj Go.BinOp.xor IntKind.u32 (zj Go.BinOp.and IntKind.u32 (List.getD v_ 4 (0 : Int)) (List.getD v_ 5 (0 : Int))) (zj Go.BinOp.and IntKind.u32 (zj Go.BinOp.xor IntKind.u32 (if ((IntKind.signed IntKind.u32) = true) then (-(1 : Int)) else (IntKind.max IntKind.u32)) (List.getD v_ 4 (0 : Int))) (List.getD v_ 6 (0 : Int)))))) + (List.getD k (Int.toNat t) (0 : Int)))) + (List.getD w (Int.toNat t) (0 : Int)))) + (zj Go.BinOp.xor IntKind.u32 (zj Go.BinOp.xor IntKind.u32 (zj Go.BinOp.or IntKind.u32 (z3i IntKind.u32 (List.getD v_ 0 (0 : Int)) (IntKind.wrap IntKind.u64 (2 : Int))) (z8a IntKind.u32 (List.getD v_ 0 (0 : Int)) (IntKind.wrap IntKind.u64 (IntKind.wrap IntKind.i64 ((32 : Int) - (2 : Int)))))) (zj Go.BinOp.or IntKind.u32 (z3i IntKind.u32 (List.getD v_ 0 (0 : Int)) (IntKind.wrap IntKind.u64 (13 : Int))) (z8a IntKind.u32 (List.getD v_ 0 (0 : Int)) (IntKind.wrap IntKind.u64 (IntKind.wrap IntKind.i64 ((32 : Int) - (13 : Int))))))) (zj Go.BinOp.or IntKind.u32 (z3i IntKind.u32 (List.getD v_ 0 (0 : Int)) (IntKind.wrap IntKind.u64 (22 : Int))) (z8a IntKind.u32 (List.getD v_ 0 (0 : Int)) (IntKind.wrap IntKind.u64 (IntKind.wrap IntKind.i64 ((32 : Int) - (22 : Int))))))))) + (zj Go.BinOp.xor IntKind.u32 (zj Go.BinOp.xor IntKind.u32 (zj Go.BinOp.and IntKind.u32 (List.getD v_ 0 (0 : Int)) (List.getD v_ 1 (0 : Int))) (zj Go.BinOp.and IntKind.u32 (List.getD v_ 0 (0 : Int)) (List.getD v_ 2 (0 : Int)))) (zj Go.BinOp.and IntKind.u32 (List.getD v_ 1 (0 : Int)) (List.getD v_ 2 (0 : Int)))))),(List.getD v_ 0 (0 : Int)),(List.getD v_ 1 (0 : Int)),(List.getD v_ 2 (0 : Int)),(IntKind.wrap IntKind.u32 ((List.getD v_ 3 (0 : Int)) + (IntKind.wrap IntKind.u32 ((IntKind.wrap IntKind.u32 ((IntKind.wrap IntKind.u32 ((IntKind.wrap IntKind.u32 ((List.getD v_ 7 (0 : Int)) + (zj Go.BinOp.xor IntKind.u32 (zj Go.BinOp.xor IntKind.u32 (zj Go.BinOp.or IntKind.u32 (z3i IntKind.u32 (List.getD v_ 4 (0 : Int)) (IntKind.wrap IntKind.u64 (6 : Int))) (z8a IntKind.u32 (List.getD v_ 4 (0 : Int)) (IntKind.wrap IntKind.u64 (IntKind.wrap IntKind.i64 ((32 : Int) - (6 : Int)))))) (zj Go.BinOp.or IntKind.u32 (z3i IntKind.u32 (List.getD v_ 4 (0 : Int)) (IntKind.wrap IntKind.u64 (11 : Int))) (z8a IntKind.u32 (List.getD v_ 4 (0 : Int)) (IntKind.wrap IntKind.u64 (IntKind.wrap IntKind.i64 ((32 : Int) - (11 : Int))))))) (zj Go.BinOp.or IntKind.u32 (z3i IntKind.u32 (List.getD v_ 4 (0 : Int)) (IntKind.wrap IntKind.u64 (25 : Int))) (z8a IntKind.u32 (List.getD v_ 4 (0 : Int)) (IntKind.wrap IntKind.u64 (IntKind.wrap IntKind.i64 ((32 : Int) - (25 : Int))))))))) + (zj Go.BinOp.xor IntKind.u32 (zj Go.BinOp.and IntKind.u32 (List.getD v_ 4 (0 : Int)) (List.getD v_ 5 (0 : Int))) (zj Go.BinOp.and IntKind.u32 (zj Go.BinOp.xor IntKind.u32 (if ((IntKind.signed IntKind.u32) = true) then (-(1 : Int)) else (IntKind.max IntKind.u32)) (List.getD v_ 4 (0 : Int))) (List.getD v_ 6 (0 : Int)))))) + (List.getD k (Int.toNat t) (0 : Int)))) + (List.getD w (Int.toNat t) (0 : Int)))))),(List.getD v_ 4 (0 : Int)),(List.getD v_ 5 (0 : Int)),(List.getD v_ 6 (0 : Int))] : List Int) (IntKind.wrap IntKind.i64 (t + (1 : Int))))
 (none))
 (none))
 (none))
 (none))
 (none))
 (none))
 (none))
 (none))
 (none))
 (none))
 (none))
 (none))
 (none))
 (none))
 (none))
 (none))
 (none))
 (none))
 (none))
 (none))
 (none))
 (none))
 (none))
 (none))
 (none))
 (none))
 (none))
 (k0 v_)
def z7p (N:Nat) (k:(List Int)) (h:(List Int)) (x8:(List Int)) (w:(List Int)) (v_:(List Int)) (t:Int) (k0:(List Int) -> Option (List Int)) : Option (List Int) :=
 iter (fun (v:((List Int) × Int)) r=>z7m N k h x8 w v.1 v.2 (fun v_ t=>(r (v_,t))) k0) N (v_,t)
def z1rc (N:Nat) (i:((List Int) × (List Int) × (List Int) × (List Int))) (v:((List Int) × Int)) (r:((List Int) × Int) -> Option (List Int)) (K:Ex -> List A -> Option (List Int)) : Option (List Int) :=
 z7m N i.1 i.2.1 i.2.2.1 i.2.2.2 v.1 v.2 (fun v_ t=>(r (v_,t))) (fun a2=>(K (.exit 4) (mkS [(4,.box (.arr 8 (.int .u32))),(3,.box (.arr 8 (.int .u32))),(8,.box (.arr 8 (.int .u32)))] 199 (i.2.1,i.2.2.1,a2,()))))
def z1p9 (N:Nat) : Hd (List Int) := fun st K=>(unS SQ25 198 (restr zz5 0 st)).bind fun x=>iter (fun v r=>z1rc N ((fun x=>(x.1,x.2.1,x.2.2.1,x.2.2.2.1)) x) v r K) N ((fun x=>(x.2.2.2.2.1,x.2.2.2.2.2.1)) x)
def t3_84 (N:Nat) : Tab (List Int) := []
theorem z1mt {N:Nat} {c:Ctx} (hb:Base Tryz.prog (z1jb N) c) : zq Tryz.prog c (zm zg1 z19k) (z1p9 N) :=
  z1k (s := SQ25) (m := 198) (z1rc N) zz5 N (fun x=>(x.1,x.2.1,x.2.2.1,x.2.2.2.1)) (fun x=>(x.2.2.2.2.1,x.2.2.2.2.2.1)) (fun i v=>(i.1,i.2.1,i.2.2.1,i.2.2.2,v.1,v.2,())) (fun _=>rfl) (zi hb N (t3_84 N) z1k5 zg1 TabOk.nil z168 _ rfl) (fun i v r K=>by kernel_rfl)
def zc7 (N:Nat) (h:(List Int)) (x8:(List Int)) (v_:(List Int)) (i:Int) (rec:(List Int) -> Int -> Option (List Int)) (k0:(List Int) -> Option (List Int)) : Option (List Int) :=
 cond (decide (i < (8 : Int)))
 (cond (inR i 8)
 (cond (decide ((Int.toNat i) < (List.length v_)))
 (cond (inR i 8)
 (cond (decide ((Int.toNat i) < (List.length h)))
 (cond (inR i 8)
 (cond (decide ((Int.toNat i) < (List.length v_)))
 (rec (List.set v_ (Int.toNat i) (IntKind.wrap IntKind.u32 ((List.getD v_ (Int.toNat i) (0 : Int)) + (List.getD h (Int.toNat i) (0 : Int))))) (IntKind.wrap IntKind.i64 (i + (1 : Int))))
 (none))
 (none))
 (none))
 (none))
 (none))
 (none))
 (k0 v_)
def zc8 (N:Nat) (h:(List Int)) (x8:(List Int)) (v_:(List Int)) (i:Int) (k0:(List Int) -> Option (List Int)) : Option (List Int) :=
 iter (fun (v:((List Int) × Int)) r=>zc7 N h x8 v.1 v.2 (fun v_ i=>(r (v_,i))) k0) N (v_,i)
def z1r7 (N:Nat) (i:((List Int) × (List Int))) (v:((List Int) × Int)) (r:((List Int) × Int) -> Option (List Int)) (K:Ex -> List A -> Option (List Int)) : Option (List Int) :=
 zc7 N i.1 i.2 v.1 v.2 (fun v_ i=>(r (v_,i))) (fun a1=>(K (.exit 6) (mkS [(8,.box (.arr 8 (.int .u32))),(8,.box (.arr 8 (.int .u32)))] 199 (i.2,a1,()))))
def z1p4 (N:Nat) : Hd (List Int) := fun st K=>(unS SQ53 192 (restr [24,17,4,8] 0 st)).bind fun x=>iter (fun v r=>z1r7 N ((fun x=>(x.1,x.2.1)) x) v r K) N ((fun x=>(x.2.2.1,x.2.2.2.1)) x)
def t4_84 (N:Nat) : Tab (List Int) := []
theorem z1mo {N:Nat} {c:Ctx} (hb:Base Tryz.prog (z1jb N) c) : zq Tryz.prog c (zm zg1 [0,1,0,1,1,1,1,1,1]) (z1p4 N) :=
  z1k (s := SQ53) (m := 192) (z1r7 N) [24,17,4,8] N (fun x=>(x.1,x.2.1)) (fun x=>(x.2.2.1,x.2.2.2.1)) (fun i v=>(i.1,i.2,v.1,v.2,())) (fun _=>rfl) (zi hb N (t4_84 N) z1k5 zg1 TabOk.nil [0,0,1,0,1,1,1,1,1,1] _ rfl) (fun i v r K=>by kernel_rfl)
def z56 (N:Nat) (h:(List Int)) (s:(List UInt8)) (at_:Int) (k:(List Int)) : Option (List Int) :=
 z7r N s at_ k h ([(0 : Int),(0 : Int),(0 : Int),(0 : Int),(0 : Int),(0 : Int),(0 : Int),(0 : Int)] : List Int) ([] : List Int) (0 : Int)
 (fun w=>z7q N k h ([(0 : Int),(0 : Int),(0 : Int),(0 : Int),(0 : Int),(0 : Int),(0 : Int),(0 : Int)] : List Int) w (16 : Int)
 (fun w1=>z7p N k h ([(0 : Int),(0 : Int),(0 : Int),(0 : Int),(0 : Int),(0 : Int),(0 : Int),(0 : Int)] : List Int) w1 h (0 : Int)
 (fun v_=>zc8 N h ([(0 : Int),(0 : Int),(0 : Int),(0 : Int),(0 : Int),(0 : Int),(0 : Int),(0 : Int)] : List Int) v_ (0 : Int)
 (fun v_1=>some v_1))))
def t_84 (N:Nat) : Tab (List Int) := [([0,1,0,1,1],z1q3 N),([0,1,0,1,1,1],z1pf N),(z19k,z1p9 N),([0,1,0,1,1,1,1,1,1],z1p4 N)]
theorem z1ei (N:Nat) (x:z1h SQ36) : z2q (z1jb N) N (t_84 N) z1k5 Tryz.f70 (mkS SQ36 0 x) (z1d (.v (.arr 8 (.int .u32))) 4) = z56 N x.1 x.2.1 x.2.2.1 x.2.2.2.1 := by kernel_rfl
def zax (N:Nat) : List A -> Res := z10 SQ36 (fun x=>z56 N x.1 x.2.1 x.2.2.1 x.2.2.2.1) (z2p (.v (.arr 8 (.int .u32))) 4)
theorem zjq (N:Nat) : Contract Tryz.prog glob 70 (zax N) :=
  Contract.of (E := z1jb N) (H := t_84 N) (L := z1k5) (N := N) (body := zg1) (K := (z1d (.v (.arr 8 (.int .u32))) 4)) (z1uo N) Tryz.func70 (by kernel_rfl) (by decide) (fun _ hb=>(TabOk.cons (z1nn hb) (TabOk.cons (z1mz hb) (TabOk.cons (z1mt hb) (TabOk.cons (z1mo hb) TabOk.nil))))) (fun x y h=>by rw [z1ei]; exact h) (zn (s := (.v (.arr 8 (.int .u32)))) (m := 4))
def zym : Code := (Tryz.f71.body).getD .skip
def L_85 : List (List Nat × List Nat) := [([0],[1]),([0,1],[3,1]),([0,0,1,1],[4,3,1]),([0,1,0,1,1],[4,3,1]),(z1ih,[6,3,4,1]),(z1ig,[3,4,1]),(z1ii,[3]),([0,0,1,0,0,1,0,1,1],[4,3,1]),(PQ9,[4,3,1]),(z1if,[4,3,1]),([1,0,1,1],[3]),([0,1,1,1],[2]),([1,1,1,1],[2])]
def E_85 (N:Nat) : Env := z16 tys glob [] [(3,(.int .u8))] [] [] false [] [(123,zd N),(66,zb N),(98,z7 N)]
theorem z1un (N:Nat) : EnvOk Tryz.prog (E_85 N) := zk mixed zo (FnsOk.nil) (ItsOk.cons (zf N) (ItsOk.cons (ze N) (ItsOk.cons (z8 N) (ItsOk.nil))))
def zca (N:Nat) (h:(List Int)) (b:(List Int)) (i:Int) (rec:(List Int) -> Int -> Option (List UInt8)) (k0:(List Int) -> Option (List UInt8)) : Option (List UInt8) :=
 cond (decide (i < (8 : Int)))
 (cond (inR i 8)
 (cond (decide ((Int.toNat i) < (List.length h)))
 (cond (inR i 8)
 (cond (decide ((Int.toNat i) < (List.length h)))
 (cond (inR i 8)
 (cond (decide ((Int.toNat i) < (List.length h)))
 (cond (inR i 8)
 (cond (decide ((Int.toNat i) < (List.length h)))
 (cond (decide ((((List.length b) + 4) * 1) <= 70368744177664))
 (rec (b ++ ([(IntKind.wrap IntKind.u8 (z3i IntKind.u32 (List.getD h (Int.toNat i) (0 : Int)) (24 : Int))),(IntKind.wrap IntKind.u8 (z3i IntKind.u32 (List.getD h (Int.toNat i) (0 : Int)) (16 : Int))),(IntKind.wrap IntKind.u8 (z3i IntKind.u32 (List.getD h (Int.toNat i) (0 : Int)) (8 : Int))),(IntKind.wrap IntKind.u8 (List.getD h (Int.toNat i) (0 : Int)))] : List Int)) (IntKind.wrap IntKind.i64 (i + (1 : Int))))
 (none))
 (none))
 (none))
 (none))
 (none))
 (none))
 (none))
 (none))
 (none))
 (k0 b)
def zjr (N:Nat) (h:(List Int)) (b:(List Int)) (i:Int) (k0:(List Int) -> Option (List UInt8)) : Option (List UInt8) :=
 iter (fun (v:((List Int) × Int)) r=>zca N h v.1 v.2 (fun b i=>(r (b,i))) k0) N (b,i)
def z1s5 (N:Nat) (i:(List Int)) (v:((List Int) × Int)) (r:((List Int) × Int) -> Option (List UInt8)) (K:Ex -> List A -> Option (List UInt8)) : Option (List UInt8) :=
 zca N i v.1 v.2 (fun b i=>(r (b,i))) (fun a0=>(K (.exit 0) (mkS [(3,.row (.int .u8))] 29 (a0,()))))
def z1q2 (N:Nat) : Hd (List UInt8) := fun st K=>(unS [(1,.box (.arr 8 (.int .u32))),(1,.row (.int .u8)),(0,.v (.int .i64))] 28 (restr [4,3,1] 0 st)).bind fun x=>iter (fun v r=>z1s5 N ((fun x=>x.1) x) v r K) N ((fun x=>(x.2.1,x.2.2.1)) x)
def t1_85 (N:Nat) : Tab (List UInt8) := []
theorem z1nm {N:Nat} {c:Ctx} (hb:Base Tryz.prog (E_85 N) c) : zq Tryz.prog c (zm zym [0,1,0,1,1]) (z1q2 N) :=
  z1k (s := [(1,.box (.arr 8 (.int .u32))),(1,.row (.int .u8)),(0,.v (.int .i64))]) (m := 28) (z1s5 N) [4,3,1] N (fun x=>x.1) (fun x=>(x.2.1,x.2.2.1)) (fun i v=>(i,v.1,v.2,())) (fun _=>rfl) (zi hb N (t1_85 N) L_85 zym TabOk.nil [0,0,1,0,1,1] _ rfl) (fun i v r K=>by kernel_rfl)
def z3s (N:Nat) (h:(List Int)) : Option (List UInt8) :=
 zjr N h ([] : List Int) (0 : Int)
 (fun b=>some (z2f b))
def t_85 (N:Nat) : Tab (List UInt8) := [([0,1,0,1,1],z1q2 N)]
theorem z1eh (N:Nat) (x:z1h z1jr) : z2q (E_85 N) N (t_85 N) L_85 Tryz.f71 (mkS z1jr 0 x) (z1d (.v .str) 1) = z3s N x.1 := by kernel_rfl
def zay (N:Nat) : List A -> Res := z10 z1jr (fun x=>z3s N x.1) (z2p (.v .str) 1)
theorem zjs (N:Nat) : Contract Tryz.prog glob 71 (zay N) :=
  Contract.of (E := E_85 N) (H := t_85 N) (L := L_85) (N := N) (body := zym) (K := (z1d (.v .str) 1)) (z1un N) Tryz.func71 (by kernel_rfl) (by decide) (fun _ hb=>(TabOk.cons (z1nm hb) TabOk.nil)) (fun x y h=>by rw [z1eh]; exact h) (zn (s := (.v .str)) (m := 1))
def zyl : Code := (Tryz.f42.body).getD .skip
def L_86 : List (List Nat × List Nat) := [([0],[0]),([0,1],[3]),([0,1,1],[3,4]),([0,1,1,1],[3,5,4]),([0,0,1,1,1,1],[6,3,5,4]),(z165,[6,3,5,4]),([0,0,0,0,1,0,1,1,1,1],[14,5,3,6,4]),([1,0,0,0,1,0,1,1,1,1],[5,3,6,4]),([1,1,0,0,0,1,0,1,1,1,1],[5]),([0,0,1,0,0,1,0,1,1,1,1],[6,3,5,4]),([0,1,0,0,1,0,1,1,1,1],[6,3,5,4]),([1,1,0,0,1,0,1,1,1,1],[6,3,5,4]),([1,0,1,1,1,1],[5]),([0,1,1,1,1,1],[2]),([1,1,1,1,1,1],[2])]
def E_86 (N:Nat) : Env := z16 tys glob [(71,zay N),(70,zax N),(69,za7 N),(68,za6 N),(67,zcb N)] [(4,(.int .u32))] [] [] false [] [(123,zd N),(66,zb N),(98,z7 N)]
theorem z1um (N:Nat) : EnvOk Tryz.prog (E_86 N) := zk mixed zo (FnsOk.cons (zjs N) (FnsOk.cons (zjq N) (FnsOk.cons (zih N) (FnsOk.cons (zig N) (FnsOk.cons (zkt N) (FnsOk.nil)))))) (ItsOk.cons (zf N) (ItsOk.cons (ze N) (ItsOk.cons (z8 N) (ItsOk.nil))))
def z8h (N:Nat) (p:(List UInt8)) (k:(List Int)) (h:(List Int)) (at_:Int) (rec:(List Int) -> Int -> Option (List UInt8)) (k0:(List Int) -> Option (List UInt8)) : Option (List UInt8) :=
 cond (decide (at_ < (((List.length p) : Nat) : Int)))
 ((z56 N h p at_ k).bind fun y =>
 rec y (IntKind.wrap IntKind.i64 (at_ + (64 : Int))))
 (k0 h)
def z5k (N:Nat) (p:(List UInt8)) (k:(List Int)) (h:(List Int)) (at_:Int) (k0:(List Int) -> Option (List UInt8)) : Option (List UInt8) :=
 iter (fun (v:((List Int) × Int)) r=>z8h N p k v.1 v.2 (fun h at_=>(r (h,at_))) k0) N (h,at_)
def z1s4 (N:Nat) (i:((List UInt8) × (List Int))) (v:((List Int) × Int)) (r:((List Int) × Int) -> Option (List UInt8)) (K:Ex -> List A -> Option (List UInt8)) : Option (List UInt8) :=
 z8h N i.1 i.2 v.1 v.2 (fun h at_=>(r (h,at_))) (fun a0=>(K (.exit 0) (mkS [(5,.box (.arr 8 (.int .u32)))] 18 (a0,()))))
def z1q1 (N:Nat) : Hd (List UInt8) := fun st K=>(unS SQ92 17 (restr [6,3,5,4] 0 st)).bind fun x=>iter (fun v r=>z1s4 N ((fun x=>(x.1,x.2.1)) x) v r K) N ((fun x=>(x.2.2.1,x.2.2.2.1)) x)
def t1_86 (N:Nat) : Tab (List UInt8) := []
theorem z1nl {N:Nat} {c:Ctx} (hb:Base Tryz.prog (E_86 N) c) : zq Tryz.prog c (zm zyl z165) (z1q1 N) :=
  z1k (s := SQ92) (m := 17) (z1s4 N) [6,3,5,4] N (fun x=>(x.1,x.2.1)) (fun x=>(x.2.2.1,x.2.2.2.1)) (fun i v=>(i.1,i.2,v.1,v.2,())) (fun _=>rfl) (zi hb N (t1_86 N) L_86 zyl TabOk.nil z1k0 _ rfl) (fun i v r K=>by kernel_rfl)
def z2i (N:Nat) (s:(List UInt8)) : Option (List UInt8) :=
 (z4f N s).bind fun y =>
 z5k N y (List.set (List.set (List.set (List.set (List.set (List.set (List.set (List.set (List.set (List.set (List.set (List.set (List.set (List.set (List.set (List.set (List.set (List.set (List.set (List.set (List.set (List.set (List.set (List.set (List.set (List.set (List.set (List.set (List.set (List.set (List.set (List.set (List.set (List.set (List.set (List.set (List.set (List.set (List.set (List.set (List.set (List.set (List.set (List.set (List.set (List.set (List.set (List.set (List.set (List.set (List.set (List.set (List.set (List.set (List.set (List.set (List.set (List.set (List.set (List.set (List.set (List.set (List.set (List.set (List.replicate 64 (0 : Int)) 0 (1116352408 : Int)) 1 (1899447441 : Int)) 2 (3049323471 : Int)) 3 (3921009573 : Int)) 4 (961987163 : Int)) 5 (1508970993 : Int)) 6 (2453635748 : Int)) 7 (2870763221 : Int)) 8 (3624381080 : Int)) 9 (310598401 : Int)) 10 (607225278 : Int)) 11 (1426881987 : Int)) 12 (1925078388 : Int)) 13 (2162078206 : Int)) 14 (2614888103 : Int)) 15 (3248222580 : Int)) 16 (3835390401 : Int)) 17 (4022224774 : Int)) 18 (264347078 : Int)) 19 (604807628 : Int)) 20 (770255983 : Int)) 21 (1249150122 : Int)) 22 (1555081692 : Int)) 23 (1996064986 : Int)) 24 (2554220882 : Int)) 25 (2821834349 : Int)) 26 (2952996808 : Int)) 27 (3210313671 : Int)) 28 (3336571891 : Int)) 29 (3584528711 : Int)) 30 (113926993 : Int)) 31 (338241895 : Int)) 32 (666307205 : Int)) 33 (773529912 : Int)) 34 (1294757372 : Int)) 35 (1396182291 : Int)) 36 (1695183700 : Int)) 37 (1986661051 : Int)) 38 (2177026350 : Int)) 39 (2456956037 : Int)) 40 (2730485921 : Int)) 41 (2820302411 : Int)) 42 (3259730800 : Int)) 43 (3345764771 : Int)) 44 (3516065817 : Int)) 45 (3600352804 : Int)) 46 (4094571909 : Int)) 47 (275423344 : Int)) 48 (430227734 : Int)) 49 (506948616 : Int)) 50 (659060556 : Int)) 51 (883997877 : Int)) 52 (958139571 : Int)) 53 (1322822218 : Int)) 54 (1537002063 : Int)) 55 (1747873779 : Int)) 56 (1955562222 : Int)) 57 (2024104815 : Int)) 58 (2227730452 : Int)) 59 (2361852424 : Int)) 60 (2428436474 : Int)) 61 (2756734187 : Int)) 62 (3204031479 : Int)) 63 (3329325298 : Int)) ([(1779033703 : Int),(3144134277 : Int),(1013904242 : Int),(2773480762 : Int),(1359893119 : Int),(2600822924 : Int),(528734635 : Int),(1541459225 : Int)] : List Int) (0 : Int)
 (fun h=>(z3s N h).bind fun y1 =>
 some y1)
def t_86 (N:Nat) : Tab (List UInt8) := [(z165,z1q1 N)]
theorem z1eg (N:Nat) (x:z1h [(0,.v .str)]) : z2q (E_86 N) N (t_86 N) L_86 Tryz.f42 (mkS [(0,.v .str)] 0 x) (z1d (.v .str) 1) = z2i N x.1 := by kernel_rfl
def z3l (N:Nat) : List A -> Res := z10 [(0,.v .str)] (fun x=>z2i N x.1) (z2p (.v .str) 1)
theorem z5l (N:Nat) : Contract Tryz.prog glob 42 (z3l N) :=
  Contract.of (E := E_86 N) (H := t_86 N) (L := L_86) (N := N) (body := zyl) (K := (z1d (.v .str) 1)) (z1um N) Tryz.func42 (by kernel_rfl) (by decide) (fun _ hb=>(TabOk.cons (z1nl hb) TabOk.nil)) (fun x y h=>by rw [z1eg]; exact h) (zn (s := (.v .str)) (m := 1))
def zyk : Code := (Tryz.f90.body).getD .skip
def L_87 : List (List Nat × List Nat) := [([0],[1,0]),([0,0,1],[7,0,1]),([1,0,1],[0,1]),([0,1,0,1],[0,1]),([0,0,1,1],[11,0,1]),([1,0,1,1],[1,0]),([0,0,1,0,1,1],[4]),([1,0,1,0,1,1],[4]),([0,1,1,1],[0,5]),([0,1,1,1,1],[4]),([1,1,1,1,1],[4])]
def E_87 (N:Nat) : Env := z16 tys glob [] [] [] [] false [] [(123,zd N),(66,zb N),(98,z7 N)]
theorem z1ul (N:Nat) : EnvOk Tryz.prog (E_87 N) := zk mixed zo (FnsOk.nil) (ItsOk.cons (zf N) (ItsOk.cons (ze N) (ItsOk.cons (z8 N) (ItsOk.nil))))
def z5m (N:Nat) (s:(List UInt8)) (n:Int) (k0:Int -> Option (List UInt8)) : Option (List UInt8) :=
 cond (decide ((65536 : Int) < n))
 (k0 (65536 : Int))
 (k0 n)
def z1s3 (N:Nat) (x:z1h z12h) (K:Ex -> List A -> Option (List UInt8)) : Option (List UInt8) :=
 z5m N x.1 x.2.1 (fun a1=>(K .normal (mkS z12h 20 (x.1,a1,()))))
def z1q0 (N:Nat) : Hd (List UInt8) := fun st K=>(unS z12h 20 (restr [1,0] 0 st)).bind fun x=>z1s3 N x K
def t1_87 (N:Nat) : Tab (List UInt8) := []
theorem z1nk {N:Nat} {c:Ctx} (hb:Base Tryz.prog (E_87 N) c) : zq Tryz.prog c (zm zyk [0,1]) (z1q0 N) :=
  z17 (s := z12h) (m := 20) (g := z1s3 N) [1,0] (zi hb N (t1_87 N) L_87 zyk TabOk.nil [0,1] _ rfl) (fun x K=>by kernel_rfl)
def z5t (N:Nat) (s:(List UInt8)) (n:Int) : Option (List UInt8) :=
 z5m N s n
 (fun n1=>cond (decide (n1 <= (((List.length s) : Nat) : Int)))
 (some s)
 (cond (decide (((0 : Int) <= (IntKind.wrap IntKind.i64 (n1 - (((List.length s) : Nat) : Int)))) /\ (((IntKind.wrap IntKind.i64 (n1 - (((List.length s) : Nat) : Int))) <= (IntKind.wrap IntKind.i64 (n1 - (((List.length s) : Nat) : Int)))) /\ ((((IntKind.wrap IntKind.i64 (n1 - (((List.length s) : Nat) : Int))) * (1 : Int)) <= (281474976710656 : Int)) /\ ((IntKind.wrap IntKind.i64 (n1 - (((List.length s) : Nat) : Int))) <= (9223372036854775807 : Int))))))
 (cond (decide (((List.length s) + (List.length (z2f (List.replicate (Int.toNat (IntKind.wrap IntKind.i64 (n1 - (((List.length s) : Nat) : Int)))) (0 : Int))))) <= 9223372036854775807))
 (some (s ++ (z2f (List.replicate (Int.toNat (IntKind.wrap IntKind.i64 (n1 - (((List.length s) : Nat) : Int)))) (0 : Int)))))
 (none))
 (none)))
def t_87 (N:Nat) : Tab (List UInt8) := [([0,1],z1q0 N)]
theorem z1ef (N:Nat) (x:z1h z12h) : z2q (E_87 N) N (t_87 N) L_87 Tryz.f90 (mkS z12h 0 x) (z1d (.v .str) 2) = z5t N x.1 x.2.1 := by kernel_rfl
def zcc (N:Nat) : List A -> Res := z10 z12h (fun x=>z5t N x.1 x.2.1) (z2p (.v .str) 2)
theorem zku (N:Nat) : Contract Tryz.prog glob 90 (zcc N) :=
  Contract.of (E := E_87 N) (H := t_87 N) (L := L_87) (N := N) (body := zyk) (K := (z1d (.v .str) 2)) (z1ul N) Tryz.func90 (by kernel_rfl) (by decide) (fun _ hb=>(TabOk.cons (z1nk hb) TabOk.nil)) (fun x y h=>by rw [z1ef]; exact h) (zn (s := (.v .str)) (m := 2))
def zyj : Code := (Tryz.f62.body).getD .skip
def L_88 : List (List Nat × List Nat) := [([0],[0]),([0,0,1],[5,0]),([1,0,1],[0]),([0,1,0,1],[0]),([0,1,1],[2]),([1,1,1],[2])]
def E_88 (N:Nat) : Env := z16 tys glob [(90,zcc N),(42,z3l N)] [] [] [] false [] [(123,zd N),(66,zb N),(98,z7 N)]
theorem z1uk (N:Nat) : EnvOk Tryz.prog (E_88 N) := zk mixed zo (FnsOk.cons (zku N) (FnsOk.cons (z5l N) (FnsOk.nil))) (ItsOk.cons (zf N) (ItsOk.cons (ze N) (ItsOk.cons (z8 N) (ItsOk.nil))))
def z5j (N:Nat) (k:(List UInt8)) (k0:(List UInt8) -> Option (List UInt8)) : Option (List UInt8) :=
 cond (decide ((64 : Int) < (((List.length k) : Nat) : Int)))
 ((z2i N k).bind fun y =>
 k0 y)
 (k0 k)
def z1s2 (N:Nat) (x:z1h [(0,.v .str)]) (K:Ex -> List A -> Option (List UInt8)) : Option (List UInt8) :=
 z5j N x.1 (fun a0=>(K .normal (mkS [(0,.v .str)] 9 (a0,()))))
def z1pz (N:Nat) : Hd (List UInt8) := fun st K=>(unS [(0,.v .str)] 9 (restr [0] 0 st)).bind fun x=>z1s2 N x K
def t1_88 (N:Nat) : Tab (List UInt8) := []
theorem z1nj {N:Nat} {c:Ctx} (hb:Base Tryz.prog (E_88 N) c) : zq Tryz.prog c (zm zyj [0,1]) (z1pz N) :=
  z17 (s := [(0,.v .str)]) (m := 9) (g := z1s2 N) [0] (zi hb N (t1_88 N) L_88 zyj TabOk.nil [0,1] _ rfl) (fun x K=>by kernel_rfl)
def z4e (N:Nat) (k:(List UInt8)) : Option (List UInt8) :=
 z5j N k
 (fun k1=>(z5t N k1 (64 : Int)).bind fun y =>
 some y)
def t_88 (N:Nat) : Tab (List UInt8) := [([0,1],z1pz N)]
theorem z1ee (N:Nat) (x:z1h [(0,.v .str)]) : z2q (E_88 N) N (t_88 N) L_88 Tryz.f62 (mkS [(0,.v .str)] 0 x) (z1d (.v .str) 1) = z4e N x.1 := by kernel_rfl
def zc6 (N:Nat) : List A -> Res := z10 [(0,.v .str)] (fun x=>z4e N x.1) (z2p (.v .str) 1)
theorem zkr (N:Nat) : Contract Tryz.prog glob 62 (zc6 N) :=
  Contract.of (E := E_88 N) (H := t_88 N) (L := L_88) (N := N) (body := zyj) (K := (z1d (.v .str) 1)) (z1uk N) Tryz.func62 (by kernel_rfl) (by decide) (fun _ hb=>(TabOk.cons (z1nj hb) TabOk.nil)) (fun x y h=>by rw [z1ee]; exact h) (zn (s := (.v .str)) (m := 1))
def zcu : Code := (Tryz.f89.body).getD .skip
def z1ip : List (List Nat × List Nat) := [([0],[0,1]),([0,1],[0,1,5]),([0,0,1,1],[6,0,1,5]),([0,1,0,1,1],[6,0,1,5]),(z1ih,[21,0,6,1,5]),(z1ig,[0,6,1,5]),(z1ii,[5]),(z1ts,[7,8,9,10,5,6,0,1]),(PQ122,z1ie),([0,1,0,1,0,0,1,0,0,1,0,1,1],z1ie),([0,0,0,0,1,0,1,0,0,1,0,0,1,0,1,1],[33,7,8,9,10,11,5,6,0,1]),([1,0,0,0,1,0,1,0,0,1,0,0,1,0,1,1],z167),([1,1,0,0,0,1,0,1,0,0,1,0,0,1,0,1,1],[5,9,6,0,1]),([0,0,0,0,1,0,0,1,0,1,0,0,1,0,0,1,0,1,1],[40,9,10,7,8,11,5,6,0,1]),([1,0,0,0,1,0,0,1,0,1,0,0,1,0,0,1,0,1,1],[7,8,10,11,9,5,6,0,1]),([0,1,0,0,0,1,0,0,1,0,1,0,0,1,0,0,1,0,1,1],[7,8,10,11,9,5,6,0,1]),([0,1,0,0,1,0,0,1,0,1,0,0,1,0,0,1,0,1,1],[8,10,11,7,9,5,6,0,1]),([0,1,1,0,0,1,0,0,1,0,1,0,0,1,0,0,1,0,1,1],[10,11,7,8,9,5,6,0,1]),([1,1,1,0,0,1,0,0,1,0,1,0,0,1,0,0,1,0,1,1],z1ie),(PQ85,z1ie),([1,1,0,0,1,0,1,0,0,1,0,0,1,0,1,1],z1ie),(PQ123,[5,9,6,0,1]),([1,1,0,0,1,0,0,1,0,1,1],[6,0,1,5]),(PQ9,[6,0,1,5]),(z1if,[6,0,1,5]),([1,0,1,1],[5]),([0,1,1,1],[4]),([1,1,1,1],[4])]
def z1bw (N:Nat) : Env := z16 tys glob [(88,z3c N)] [] [] [] false [] [(123,zd N),(66,zb N),(98,z7 N)]
theorem z1uj (N:Nat) : EnvOk Tryz.prog (z1bw N) := zk mixed zo (FnsOk.cons (z4u N) (FnsOk.nil)) (ItsOk.cons (zf N) (ItsOk.cons (ze N) (ItsOk.cons (z8 N) (ItsOk.nil))))
def z8r (N:Nat) (a:(List UInt8)) (b:(List UInt8)) (out:(List UInt8)) (i:Int) (k0:Option (List UInt8)) (k1:Option (List UInt8)) : Option (List UInt8) :=
 cond (decide (i < (((List.length a) : Nat) : Int)))
 (cond (decide (i < (((List.length b) : Nat) : Int)))
 (k0)
 (k1))
 (k1)
def z1rh (N:Nat) (x:z1h z1jw) (K:Ex -> List A -> Option (List UInt8)) : Option (List UInt8) :=
 z8r N x.1 x.2.1 x.2.2.1 x.2.2.2.1 (K .normal (mkS z1jw 48 (x.1,x.2.1,x.2.2.1,x.2.2.2.1,()))) (K (.exit 0) (mkS [(5,.v .str)] 49 (x.2.2.1,())))
def z1pe (N:Nat) : Hd (List UInt8) := fun st K=>(unS z1jw 48 (restr [6,0,1,5] 0 st)).bind fun x=>z1rh N x K
def t2_89 (N:Nat) : Tab (List UInt8) := []
theorem z1my {N:Nat} {c:Ctx} (hb:Base Tryz.prog (z1bw N) c) : zq Tryz.prog c (zm zcu z16h) (z1pe N) :=
  z17 (s := z1jw) (m := 48) (g := z1rh N) [6,0,1,5] (zi hb N (t2_89 N) z1ip zcu TabOk.nil z16h _ rfl) (fun x K=>by kernel_rfl)
def z8o (N:Nat) (a:(List UInt8)) (b:(List UInt8)) (out:(List UInt8)) (i:Int) (x7:Int) (y:Int) (n:Int) (bit:Int) (k:Int) (k0:Int -> Option (List UInt8)) : Option (List UInt8) :=
 cond ((Int.tmod x7 (2 : Int)) != (Int.tmod y (2 : Int)))
 (k0 (IntKind.wrap IntKind.i64 (n + bit)))
 (k0 n)
def z1r3 (N:Nat) (x:z1h SQ1) (K:Ex -> List A -> Option (List UInt8)) : Option (List UInt8) :=
 z8o N x.1 x.2.1 x.2.2.1 x.2.2.2.1 x.2.2.2.2.1 x.2.2.2.2.2.1 x.2.2.2.2.2.2.1 x.2.2.2.2.2.2.2.1 x.2.2.2.2.2.2.2.2.1 (fun a6=>(K .normal (mkS SQ1 43 (x.1,x.2.1,x.2.2.1,x.2.2.2.1,x.2.2.2.2.1,x.2.2.2.2.2.1,a6,x.2.2.2.2.2.2.2.1,x.2.2.2.2.2.2.2.2.1,()))))
def z1p0 (N:Nat) : Hd (List UInt8) := fun st K=>(unS SQ1 43 (restr z167 0 st)).bind fun x=>z1r3 N x K
def t5_89 (N:Nat) : Tab (List UInt8) := []
theorem z1mk {N:Nat} {c:Ctx} (hb:Base Tryz.prog (z1bw N) c) : zq Tryz.prog c (zm zcu z1in) (z1p0 N) :=
  z17 (s := SQ1) (m := 43) (g := z1r3 N) z167 (zi hb N (t5_89 N) z1ip zcu TabOk.nil z1in _ rfl) (fun x K=>by kernel_rfl)
def z8p (N:Nat) (a:(List UInt8)) (b:(List UInt8)) (out:(List UInt8)) (i:Int) (x7:Int) (y:Int) (n:Int) (bit:Int) (k:Int) (k0:Int -> Int -> Int -> Int -> Option (List UInt8)) : Option (List UInt8) :=
 z8o N a b out i x7 y n bit k
 (fun n1=>k0 (IntKind.wrap IntKind.i64 (Int.tdiv x7 (2 : Int))) (IntKind.wrap IntKind.i64 (Int.tdiv y (2 : Int))) n1 (IntKind.wrap IntKind.i64 (bit * (2 : Int))))
def z1r6 (N:Nat) (x:z1h SQ1) (K:Ex -> List A -> Option (List UInt8)) : Option (List UInt8) :=
 z8p N x.1 x.2.1 x.2.2.1 x.2.2.2.1 x.2.2.2.2.1 x.2.2.2.2.2.1 x.2.2.2.2.2.2.1 x.2.2.2.2.2.2.2.1 x.2.2.2.2.2.2.2.2.1 (fun a4 a5 a6 a7=>(K .normal (mkS SQ1 43 (x.1,x.2.1,x.2.2.1,x.2.2.2.1,a4,a5,a6,a7,x.2.2.2.2.2.2.2.2.1,()))))
def z1p3 (N:Nat) : Hd (List UInt8) := fun st K=>(unS SQ1 43 (restr z167 0 st)).bind fun x=>z1r6 N x K
def t4_89 (N:Nat) : Tab (List UInt8) := [(z1in,z1p0 N)]
theorem z1mn {N:Nat} {c:Ctx} (hb:Base Tryz.prog (z1bw N) c) : zq Tryz.prog c (zm zcu PQ85) (z1p3 N) :=
  z17 (s := SQ1) (m := 43) (g := z1r6 N) z167 (zi hb N (t4_89 N) z1ip zcu (TabOk.cons (z1mk hb) TabOk.nil) PQ85 _ rfl) (fun x K=>by kernel_rfl)
def z8m (N:Nat) (a:(List UInt8)) (b:(List UInt8)) (out:(List UInt8)) (i:Int) (x7:Int) (y:Int) (n:Int) (bit:Int) (k:Int) (rec:Int -> Int -> Int -> Int -> Int -> Option (List UInt8)) (k0:Int -> Option (List UInt8)) : Option (List UInt8) :=
 cond (decide (k < (8 : Int)))
 (z8p N a b out i x7 y n bit k
 (fun x71 y1 n1 bit1=>rec x71 y1 n1 bit1 (IntKind.wrap IntKind.i64 (k + (1 : Int)))))
 (k0 n)
def z8q (N:Nat) (a:(List UInt8)) (b:(List UInt8)) (out:(List UInt8)) (i:Int) (x7:Int) (y:Int) (n:Int) (bit:Int) (k:Int) (k0:Int -> Option (List UInt8)) : Option (List UInt8) :=
 iter (fun (v:(Int × Int × Int × Int × Int)) r=>z8m N a b out i v.1 v.2.1 v.2.2.1 v.2.2.2.1 v.2.2.2.2 (fun x7 y n bit k=>(r (x7,y,n,bit,k))) k0) N (x7,y,n,bit,k)
def z1rb (N:Nat) (i:((List UInt8) × (List UInt8) × (List UInt8) × Int)) (v:(Int × Int × Int × Int × Int)) (r:(Int × Int × Int × Int × Int) -> Option (List UInt8)) (K:Ex -> List A -> Option (List UInt8)) : Option (List UInt8) :=
 z8m N i.1 i.2.1 i.2.2.1 i.2.2.2 v.1 v.2.1 v.2.2.1 v.2.2.2.1 v.2.2.2.2 (fun x7 y n bit k=>(r (x7,y,n,bit,k))) (fun a4=>(K (.exit 2) (mkS [(0,.v .str),(0,.v .str),(3,.v .str),(0,.v (.int .i64)),(2,.v (.int .i64))] 45 (i.1,i.2.1,i.2.2.1,i.2.2.2,a4,()))))
def z1p8 (N:Nat) : Hd (List UInt8) := fun st K=>(unS SQ1 43 (restr z1ie 0 st)).bind fun x=>iter (fun v r=>z1rb N ((fun x=>(x.1,x.2.1,x.2.2.1,x.2.2.2.1)) x) v r K) N ((fun x=>(x.2.2.2.2.1,x.2.2.2.2.2.1,x.2.2.2.2.2.2.1,x.2.2.2.2.2.2.2.1,x.2.2.2.2.2.2.2.2.1)) x)
def t3_89 (N:Nat) : Tab (List UInt8) := [(PQ85,z1p3 N)]
theorem z1ms {N:Nat} {c:Ctx} (hb:Base Tryz.prog (z1bw N) c) : zq Tryz.prog c (zm zcu [0,1,0,1,0,0,1,0,0,1,0,1,1]) (z1p8 N) :=
  z1k (s := SQ1) (m := 43) (z1rb N) z1ie N (fun x=>(x.1,x.2.1,x.2.2.1,x.2.2.2.1)) (fun x=>(x.2.2.2.2.1,x.2.2.2.2.2.1,x.2.2.2.2.2.2.1,x.2.2.2.2.2.2.2.1,x.2.2.2.2.2.2.2.2.1)) (fun i v=>(i.1,i.2.1,i.2.2.1,i.2.2.2,v.1,v.2.1,v.2.2.1,v.2.2.2.1,v.2.2.2.2,())) (fun _=>rfl) (zi hb N (t3_89 N) z1ip zcu (TabOk.cons (z1mn hb) TabOk.nil) [0,0,1,0,1,0,0,1,0,0,1,0,1,1] _ rfl) (fun i v r K=>by kernel_rfl)
def z8n (N:Nat) (a:(List UInt8)) (b:(List UInt8)) (out:(List UInt8)) (i:Int) (rec:(List UInt8) -> Int -> Option (List UInt8)) (k0:(List UInt8) -> Option (List UInt8)) : Option (List UInt8) :=
 z8r N a b out i
 (cond (inR i (List.length a))
 (cond (inR i (List.length b))
 (z8q N a b out i (IntKind.wrap IntKind.i64 (((UInt8.toNat (List.getD a (Int.toNat i) (0 : UInt8))) : Nat) : Int)) (IntKind.wrap IntKind.i64 (((UInt8.toNat (List.getD b (Int.toNat i) (0 : UInt8))) : Nat) : Int)) (0 : Int) (1 : Int) (0 : Int)
 (fun n=>cond (decide (((List.length out) + (List.length (z2f ([(IntKind.wrap IntKind.u8 n)] : List Int)))) <= 9223372036854775807))
 (rec (out ++ (z2f ([(IntKind.wrap IntKind.u8 n)] : List Int))) (IntKind.wrap IntKind.i64 (i + (1 : Int))))
 (none)))
 (none))
 (none))
 (k0 out)
def zd8 (N:Nat) (a:(List UInt8)) (b:(List UInt8)) (out:(List UInt8)) (i:Int) (k0:(List UInt8) -> Option (List UInt8)) : Option (List UInt8) :=
 iter (fun (v:((List UInt8) × Int)) r=>z8n N a b v.1 v.2 (fun out i=>(r (out,i))) k0) N (out,i)
def z1s1 (N:Nat) (i:((List UInt8) × (List UInt8))) (v:((List UInt8) × Int)) (r:((List UInt8) × Int) -> Option (List UInt8)) (K:Ex -> List A -> Option (List UInt8)) : Option (List UInt8) :=
 z8n N i.1 i.2 v.1 v.2 (fun out i=>(r (out,i))) (fun a0=>(K (.exit 0) (mkS [(5,.v .str)] 49 (a0,()))))
def z1py (N:Nat) : Hd (List UInt8) := fun st K=>(unS z1jw 48 (restr [6,0,1,5] 0 st)).bind fun x=>iter (fun v r=>z1s1 N ((fun x=>(x.1,x.2.1)) x) v r K) N ((fun x=>(x.2.2.1,x.2.2.2.1)) x)
def t1_89 (N:Nat) : Tab (List UInt8) := [(z16h,z1pe N),([0,1,0,1,0,0,1,0,0,1,0,1,1],z1p8 N)]
theorem z1ni {N:Nat} {c:Ctx} (hb:Base Tryz.prog (z1bw N) c) : zq Tryz.prog c (zm zcu [0,1,0,1,1]) (z1py N) :=
  z1k (s := z1jw) (m := 48) (z1s1 N) [6,0,1,5] N (fun x=>(x.1,x.2.1)) (fun x=>(x.2.2.1,x.2.2.2.1)) (fun i v=>(i.1,i.2,v.1,v.2,())) (fun _=>rfl) (zi hb N (t1_89 N) z1ip zcu (TabOk.cons (z1my hb) (TabOk.cons (z1ms hb) TabOk.nil)) [0,0,1,0,1,1] _ rfl) (fun i v r K=>by kernel_rfl)
def z4g (N:Nat) (a:(List UInt8)) (b:(List UInt8)) : Option (List UInt8) :=
 zd8 N a b ([] : List UInt8) (0 : Int)
 (fun out=>some out)
def t_89 (N:Nat) : Tab (List UInt8) := [([0,1,0,1,1],z1py N)]
theorem z1ed (N:Nat) (x:z1h SQ0) : z2q (z1bw N) N (t_89 N) z1ip Tryz.f89 (mkS SQ0 0 x) (z1d (.v .str) 2) = z4g N x.1 x.2.1 := by kernel_rfl
def z7s (N:Nat) : List A -> Res := z10 SQ0 (fun x=>z4g N x.1 x.2.1) (z2p (.v .str) 2)
theorem zd9 (N:Nat) : Contract Tryz.prog glob 89 (z7s N) :=
  Contract.of (E := z1bw N) (H := t_89 N) (L := z1ip) (N := N) (body := zcu) (K := (z1d (.v .str) 2)) (z1uj N) Tryz.func89 (by kernel_rfl) (by decide) (fun _ hb=>(TabOk.cons (z1ni hb) TabOk.nil)) (fun x y h=>by rw [z1ed]; exact h) (zn (s := (.v .str)) (m := 2))
def zyi : Code := (Tryz.f61.body).getD .skip
def L_90 : List (List Nat × List Nat) := [([0],[1,0]),([0,1],[5,1,0]),([0,0,1,1],[5,1,0]),([0,0,0,0,0,1,1],[8,5,1,0]),([1,0,0,0,0,1,1],[5,1,0]),([1,1,0,0,0,0,1,1],[0,5]),([0,1,0,0,0,1,1],[5,1,0]),([1,0,0,0,1,1],[5,1,0]),([0,1,1],[0,5]),([0,1,1,1],[4]),([1,1,1,1],[4])]
def E_90 (N:Nat) : Env := z16 tys glob [(89,z7s N),(88,z3c N)] [] [] [] false [] [(123,zd N),(66,zb N),(98,z7 N)]
theorem z1ui (N:Nat) : EnvOk Tryz.prog (E_90 N) := zk mixed zo (FnsOk.cons (zd9 N) (FnsOk.cons (z4u N) (FnsOk.nil))) (ItsOk.cons (zf N) (ItsOk.cons (ze N) (ItsOk.cons (z8 N) (ItsOk.nil))))
def zc3 (N:Nat) (k:(List UInt8)) (n:Int) (p:(List UInt8)) (rec:(List UInt8) -> Option (List UInt8)) (k0:(List UInt8) -> Option (List UInt8)) : Option (List UInt8) :=
 cond (decide ((((List.length p) : Nat) : Int) < (64 : Int)))
 (cond (decide (((List.length p) + (List.length (z2f ([(IntKind.wrap IntKind.u8 n)] : List Int)))) <= 9223372036854775807))
 (rec (p ++ (z2f ([(IntKind.wrap IntKind.u8 n)] : List Int))))
 (none))
 (k0 p)
def zc4 (N:Nat) (k:(List UInt8)) (n:Int) (p:(List UInt8)) (k0:(List UInt8) -> Option (List UInt8)) : Option (List UInt8) :=
 iter (fun (v:(List UInt8)) r=>zc3 N k n v (fun p=>(r p)) k0) N p
def z1s0 (N:Nat) (i:((List UInt8) × Int)) (v:(List UInt8)) (r:(List UInt8) -> Option (List UInt8)) (K:Ex -> List A -> Option (List UInt8)) : Option (List UInt8) :=
 zc3 N i.1 i.2 v (fun p=>(r p)) (fun a1=>(K (.exit 0) (mkS [(0,.v .str),(4,.v .str)] 10 (i.1,a1,()))))
def z1px (N:Nat) : Hd (List UInt8) := fun st K=>(unS [(0,.v .str),(0,.v (.int .i64)),(3,.v .str)] 10 (restr [5,1,0] 0 st)).bind fun x=>iter (fun v r=>z1s0 N ((fun x=>(x.1,x.2.1)) x) v r K) N ((fun x=>x.2.2.1) x)
def t1_90 (N:Nat) : Tab (List UInt8) := []
theorem z1nh {N:Nat} {c:Ctx} (hb:Base Tryz.prog (E_90 N) c) : zq Tryz.prog c (zm zyi [0,0,1,1]) (z1px N) :=
  z1k (s := [(0,.v .str),(0,.v (.int .i64)),(3,.v .str)]) (m := 10) (z1s0 N) [5,1,0] N (fun x=>(x.1,x.2.1)) (fun x=>x.2.2.1) (fun i v=>(i.1,i.2,v,())) (fun _=>rfl) (zi hb N (t1_90 N) L_90 zyi TabOk.nil [0,0,0,1,1] _ rfl) (fun i v r K=>by kernel_rfl)
def z3q (N:Nat) (k:(List UInt8)) (n:Int) : Option (List UInt8) :=
 zc4 N k n ([] : List UInt8)
 (fun p=>(z4g N k p).bind fun y =>
 some y)
def t_90 (N:Nat) : Tab (List UInt8) := [([0,0,1,1],z1px N)]
theorem z1ec (N:Nat) (x:z1h z12h) : z2q (E_90 N) N (t_90 N) L_90 Tryz.f61 (mkS z12h 0 x) (z1d (.v .str) 2) = z3q N x.1 x.2.1 := by kernel_rfl
def zav (N:Nat) : List A -> Res := z10 z12h (fun x=>z3q N x.1 x.2.1) (z2p (.v .str) 2)
theorem zjn (N:Nat) : Contract Tryz.prog glob 61 (zav N) :=
  Contract.of (E := E_90 N) (H := t_90 N) (L := L_90) (N := N) (body := zyi) (K := (z1d (.v .str) 2)) (z1ui N) Tryz.func61 (by kernel_rfl) (by decide) (fun _ hb=>(TabOk.cons (z1nh hb) TabOk.nil)) (fun x y h=>by rw [z1ec]; exact h) (zn (s := (.v .str)) (m := 2))
def z1gz : Code := (Tryz.f33.body).getD .skip
def L_91 : List (List Nat × List Nat) := [([0],[0,1]),([0,1],[5,0]),([0,1,1],[4]),([1,1,1],[4])]
def E_91 (N:Nat) : Env := z16 tys glob [(61,zav N),(62,zc6 N),(42,z3l N)] [(4,.str)] [] [] true [] [(123,zd N),(66,zb N),(98,z7 N)]
theorem z1uh (N:Nat) : EnvOk Tryz.prog (E_91 N) := zk mixed zo (FnsOk.cons (zjn N) (FnsOk.cons (zkr N) (FnsOk.cons (z5l N) (FnsOk.nil)))) (ItsOk.cons (zf N) (ItsOk.cons (ze N) (ItsOk.cons (z8 N) (ItsOk.nil))))
def z1a (N:Nat) (k:(List UInt8)) (text:(List UInt8)) : Option (List (List UInt8)) :=
 (z4e N k).bind fun y =>
 (z3q N y (54 : Int)).bind fun y1 =>
 cond (decide (((List.length y1) + (List.length text)) <= 9223372036854775807))
 ((z4e N k).bind fun y2 =>
 (z3q N y2 (92 : Int)).bind fun y3 =>
 (z2i N (y1 ++ text)).bind fun y4 =>
 cond (decide (((List.length y3) + (List.length y4)) <= 9223372036854775807))
 (some ([(y1 ++ text),(y3 ++ y4)] : List (List UInt8)))
 (none))
 (none)
def t_91 (N:Nat) : Tab (List (List UInt8)) := []
theorem z1eb (N:Nat) (x:z1h SQ0) : z2q (E_91 N) N (t_91 N) L_91 Tryz.f33 (mkS SQ0 0 x) (z1d (.row .str) 2) = z1a N x.1 x.2.1 := by kernel_rfl
def z2z (N:Nat) : List A -> Res := z10 SQ0 (fun x=>z1a N x.1 x.2.1) (z2p (.row .str) 2)
theorem z47 (N:Nat) : Contract Tryz.prog glob 33 (z2z N) :=
  Contract.of (E := E_91 N) (H := t_91 N) (L := L_91) (N := N) (body := z1gz) (K := (z1d (.row .str) 2)) (z1uh N) Tryz.func33 (by kernel_rfl) (by decide) (fun _ hb=>TabOk.nil) (fun x y h=>by rw [z1eb]; exact h) (zn (s := (.row .str)) (m := 2))
def z1gy : Code := (Tryz.f60.body).getD .skip
def L_92 : List (List Nat × List Nat) := [([0],[0,1]),([0,1],[5]),([0,1,1],[4]),([1,1,1],[4])]
def E_92 (N:Nat) : Env := z16 tys glob [(33,z2z N),(42,z3l N)] [] [] [] false [] [(123,zd N),(66,zb N),(98,z7 N)]
theorem z1ug (N:Nat) : EnvOk Tryz.prog (E_92 N) := zk mixed zo (FnsOk.cons (z47 N) (FnsOk.cons (z5l N) (FnsOk.nil))) (ItsOk.cons (zf N) (ItsOk.cons (ze N) (ItsOk.cons (z8 N) (ItsOk.nil))))
def z3k (N:Nat) (k:(List UInt8)) (text:(List UInt8)) : Option (List UInt8) :=
 (z1a N k text).bind fun y =>
 cond (inR (1 : Int) (List.length y))
 ((z2i N (List.getD y 1 ([] : List UInt8))).bind fun y1 =>
 some y1)
 (none)
def t_92 (N:Nat) : Tab (List UInt8) := []
theorem z1ea (N:Nat) (x:z1h SQ0) : z2q (E_92 N) N (t_92 N) L_92 Tryz.f60 (mkS SQ0 0 x) (z1d (.v .str) 2) = z3k N x.1 x.2.1 := by kernel_rfl
def z7l (N:Nat) : List A -> Res := z10 SQ0 (fun x=>z3k N x.1 x.2.1) (z2p (.v .str) 2)
theorem zd7 (N:Nat) : Contract Tryz.prog glob 60 (z7l N) :=
  Contract.of (E := E_92 N) (H := t_92 N) (L := L_92) (N := N) (body := z1gy) (K := (z1d (.v .str) 2)) (z1ug N) Tryz.func60 (by kernel_rfl) (by decide) (fun _ hb=>TabOk.nil) (fun x y h=>by rw [z1ea]; exact h) (zn (s := (.v .str)) (m := 2))
def z1gx : Code := (Tryz.f31.body).getD .skip
def L_93 : List (List Nat × List Nat) := [([0],[0,1]),([0,1],[4]),([1,1],[4])]
def E_93 (N:Nat) : Env := z16 tys glob [(60,z7l N),(34,z30 N)] [] [] [] false [] [(123,zd N),(66,zb N),(98,z7 N)]
theorem z1uf (N:Nat) : EnvOk Tryz.prog (E_93 N) := zk mixed zo (FnsOk.cons (zd7 N) (FnsOk.cons (z49 N) (FnsOk.nil))) (ItsOk.cons (zf N) (ItsOk.cons (ze N) (ItsOk.cons (z8 N) (ItsOk.nil))))
def zz (N:Nat) (k:(List UInt8)) (l:(List (List UInt8))) : Option (List UInt8) :=
 (z1f N l).bind fun y =>
 (z3k N k y).bind fun y1 =>
 some y1
def t_93 (N:Nat) : Tab (List UInt8) := []
theorem z1e9 (N:Nat) (x:z1h z1js) : z2q (E_93 N) N (t_93 N) L_93 Tryz.f31 (mkS z1js 0 x) (z1d (.v .str) 2) = zz N x.1 x.2.1 := by kernel_rfl
def z1t (N:Nat) : List A -> Res := z10 z1js (fun x=>zz N x.1 x.2.1) (z2p (.v .str) 2)
theorem z2m (N:Nat) : Contract Tryz.prog glob 31 (z1t N) :=
  Contract.of (E := E_93 N) (H := t_93 N) (L := L_93) (N := N) (body := z1gx) (K := (z1d (.v .str) 2)) (z1uf N) Tryz.func31 (by kernel_rfl) (by decide) (fun _ hb=>TabOk.nil) (fun x y h=>by rw [z1e9]; exact h) (zn (s := (.v .str)) (m := 2))
def z1gw : Code := (Tryz.f44.body).getD .skip
def L_94 : List (List Nat × List Nat) := [([0],[1]),([0,0,1],[5,1]),([1,0,1],[1]),([0,0,1,0,1],[2]),([1,0,1,0,1],[2]),([0,1,1],[2]),([1,1,1],[2])]
def E_94 (N:Nat) : Env := z16 tys glob [] [] [] [] false [] [(123,zd N),(66,zb N),(98,z7 N)]
theorem z1ue (N:Nat) : EnvOk Tryz.prog (E_94 N) := zk mixed zo (FnsOk.nil) (ItsOk.cons (zf N) (ItsOk.cons (ze N) (ItsOk.cons (z8 N) (ItsOk.nil))))
def z2a (N:Nat) (l:DT8) : Option (List (List UInt8)) :=
 cond (l.2.1 == ([] : List UInt8))
 (some ([([(102 : UInt8),(105 : UInt8),(114 : UInt8),(115 : UInt8),(116 : UInt8)] : List UInt8),l.1] : List (List UInt8)))
 (some ([([(116 : UInt8),(104 : UInt8),(105 : UInt8),(114 : UInt8),(100 : UInt8)] : List UInt8),l.2.1,l.1] : List (List UInt8)))
def t_94 (N:Nat) : Tab (List (List UInt8)) := []
theorem z1e8 (N:Nat) (x:z1h [(0,.v zk3)]) : z2q (E_94 N) N (t_94 N) L_94 Tryz.f44 (mkS [(0,.v zk3)] 0 x) (z1d (.v (.sl .str)) 1) = z2a N x.1 := by kernel_rfl
def z41 (N:Nat) : List A -> Res := z10 [(0,.v zk3)] (fun x=>z2a N x.1) (z2p (.v (.sl .str)) 1)
theorem z82 (N:Nat) : Contract Tryz.prog glob 44 (z41 N) :=
  Contract.of (E := E_94 N) (H := t_94 N) (L := L_94) (N := N) (body := z1gw) (K := (z1d (.v (.sl .str)) 1)) (z1ue N) Tryz.func44 (by kernel_rfl) (by decide) (fun _ hb=>TabOk.nil) (fun x y h=>by rw [z1e8]; exact h) (zn (s := (.v (.sl .str))) (m := 1))
def zyh : Code := (Tryz.f29.body).getD .skip
def L_95 : List (List Nat × List Nat) := [([0],[0,3]),([0,1],[5,3]),([0,1,1],[3,5,6]),([0,0,1,1,1],[7,3,5,6]),([0,1,0,1,1,1],[7,3,5,6]),(z1tp,[19,5,3,7,6]),(z1to,[5,3,7,6]),(z1tr,[6]),(PQ54,[6,5,7,3]),([1,0,0,1,0,0,1,0,1,1,1],[7,3,5,6]),(z1ij,[7,3,5,6]),(z1tn,[7,3,5,6]),([1,0,1,1,1],[6]),([0,1,1,1,1],[4]),([1,1,1,1,1],[4])]
def E_95 (N:Nat) : Env := z16 tys glob [(44,z41 N),(31,z1t N),(43,z40 N)] [(6,.str),(4,.str)] [] [] false [] [(123,zd N),(66,zb N),(98,z7 N)]
theorem z1ud (N:Nat) : EnvOk Tryz.prog (E_95 N) := zk mixed zo (FnsOk.cons (z82 N) (FnsOk.cons (z2m N) (FnsOk.cons (z81 N) (FnsOk.nil)))) (ItsOk.cons (zf N) (ItsOk.cons (ze N) (ItsOk.cons (z8 N) (ItsOk.nil))))
def z7h (N:Nat) (t:DT1) (tag:(List UInt8)) (out:(List (List UInt8))) (i:Int) (rec:(List UInt8) -> (List (List UInt8)) -> Int -> Option (List (List UInt8))) (k0:(List (List UInt8)) -> Option (List (List UInt8))) : Option (List (List UInt8)) :=
 cond (decide (i < (((List.length t.2.1) : Nat) : Int)))
 (cond (inR i (List.length t.2.1))
 ((z2a N (List.getD t.2.1 (Int.toNat i) (([] : List UInt8),(([] : List UInt8),())))).bind fun y =>
 (zz N tag y).bind fun y1 =>
 cond (decide ((((List.length out) + 1) * 16) <= 70368744177664))
 (rec y1 (out ++ ([y1] : List (List UInt8))) (IntKind.wrap IntKind.i64 (i + (1 : Int))))
 (none))
 (none))
 (k0 out)
def zc0 (N:Nat) (t:DT1) (tag:(List UInt8)) (out:(List (List UInt8))) (i:Int) (k0:(List (List UInt8)) -> Option (List (List UInt8))) : Option (List (List UInt8)) :=
 iter (fun (v:((List UInt8) × (List (List UInt8)) × Int)) r=>z7h N t v.1 v.2.1 v.2.2 (fun tag out i=>(r (tag,out,i))) k0) N (tag,out,i)
def z1rz (N:Nat) (i:DT1) (v:((List UInt8) × (List (List UInt8)) × Int)) (r:((List UInt8) × (List (List UInt8)) × Int) -> Option (List (List UInt8))) (K:Ex -> List A -> Option (List (List UInt8))) : Option (List (List UInt8)) :=
 z7h N i v.1 v.2.1 v.2.2 (fun tag out i=>(r (tag,out,i))) (fun a0=>(K (.exit 0) (mkS [(6,.row .str)] 28 (a0,()))))
def z1pw (N:Nat) : Hd (List (List UInt8)) := fun st K=>(unS [(3,.box TT0),(1,.v .str),(0,.row .str),(0,.v (.int .i64))] 27 (restr [7,3,5,6] 0 st)).bind fun x=>iter (fun v r=>z1rz N ((fun x=>x.1) x) v r K) N ((fun x=>(x.2.1,x.2.2.1,x.2.2.2.1)) x)
def t1_95 (N:Nat) : Tab (List (List UInt8)) := []
theorem z1ng {N:Nat} {c:Ctx} (hb:Base Tryz.prog (E_95 N) c) : zq Tryz.prog c (zm zyh [0,1,0,1,1,1]) (z1pw N) :=
  z1k (s := [(3,.box TT0),(1,.v .str),(0,.row .str),(0,.v (.int .i64))]) (m := 27) (z1rz N) [7,3,5,6] N (fun x=>x.1) (fun x=>(x.2.1,x.2.2.1,x.2.2.2.1)) (fun i v=>(i,v.1,v.2.1,v.2.2,())) (fun _=>rfl) (zi hb N (t1_95 N) L_95 zyh TabOk.nil z1bu _ rfl) (fun i v r K=>by kernel_rfl)
def z39 (N:Nat) (key:(List UInt8)) (t:DT1) : Option (List (List UInt8)) :=
 (zz N key ([([(114 : UInt8),(111 : UInt8),(111 : UInt8),(116 : UInt8)] : List UInt8),t.1] : List (List UInt8))).bind fun y =>
 zc0 N t y ([y] : List (List UInt8)) (0 : Int)
 (fun out=>some out)
def t_95 (N:Nat) : Tab (List (List UInt8)) := [([0,1,0,1,1,1],z1pw N)]
theorem z1e7 (N:Nat) (x:z1h z19g) : z2q (E_95 N) N (t_95 N) L_95 Tryz.f29 (mkS z19g 0 x) (z1d (.v (.sl .str)) 2) = z39 N x.1 x.2.1 := by kernel_rfl
def z6r (N:Nat) : List A -> Res := z10 z19g (fun x=>z39 N x.1 x.2.1) (z2p (.v (.sl .str)) 2)
theorem zc1 (N:Nat) : Contract Tryz.prog glob 29 (z6r N) :=
  Contract.of (E := E_95 N) (H := t_95 N) (L := L_95) (N := N) (body := zyh) (K := (z1d (.v (.sl .str)) 2)) (z1ud N) Tryz.func29 (by kernel_rfl) (by decide) (fun _ hb=>(TabOk.cons (z1ng hb) TabOk.nil)) (fun x y h=>by rw [z1e7]; exact h) (zn (s := (.v (.sl .str))) (m := 2))
def zyg : Code := (Tryz.f18.body).getD .skip
def L_96 : List (List Nat × List Nat) := [([0],[0,3]),([0,1],[0,3,5]),([0,1,1],[3,6,5]),([0,0,1,1,1],[7,3,6,5]),([0,1,0,1,1,1],[7,3,6,5]),(z1tp,[21,6,5,7,3]),(z1to,[6,5,7,3]),(z1tr,[6]),([0,0,1,0,0,1,0,1,1,1],[7,3,6,5]),(z1ij,[7,3,6,5]),(z1tn,[7,3,6,5]),([1,0,1,1,1],[6]),([0,1,1,1,1],[4]),([1,1,1,1,1],[4])]
def E_96 (N:Nat) : Env := z16 tys glob [(29,z6r N),(44,z41 N),(33,z2z N),(34,z30 N),(43,z40 N)] [(5,.str),(6,.str),(4,.str)] [] [] true [] [(123,zd N),(66,zb N),(98,z7 N)]
theorem z1uc (N:Nat) : EnvOk Tryz.prog (E_96 N) := zk mixed zo (FnsOk.cons (zc1 N) (FnsOk.cons (z82 N) (FnsOk.cons (z47 N) (FnsOk.cons (z49 N) (FnsOk.cons (z81 N) (FnsOk.nil)))))) (ItsOk.cons (zf N) (ItsOk.cons (ze N) (ItsOk.cons (z8 N) (ItsOk.nil))))
def z6q (N:Nat) (t:DT1) (l:(List (List UInt8))) (out:(List (List UInt8))) (i:Int) (rec:(List (List UInt8)) -> Int -> Option (List (List UInt8))) (k0:(List (List UInt8)) -> Option (List (List UInt8))) : Option (List (List UInt8)) :=
 cond (decide (i < (((List.length t.2.1) : Nat) : Int)))
 (cond (inR i (List.length l))
 (cond (inR i (List.length t.2.1))
 ((z2a N (List.getD t.2.1 (Int.toNat i) (([] : List UInt8),(([] : List UInt8),())))).bind fun y =>
 (z1f N y).bind fun y1 =>
 (z1a N (List.getD l (Int.toNat i) ([] : List UInt8)) y1).bind fun y2 =>
 cond (decide ((((List.length out) + (List.length y2)) * 16) <= 70368744177664))
 (rec (out ++ y2) (IntKind.wrap IntKind.i64 (i + (1 : Int))))
 (none))
 (none))
 (none))
 (k0 out)
def zar (N:Nat) (t:DT1) (l:(List (List UInt8))) (out:(List (List UInt8))) (i:Int) (k0:(List (List UInt8)) -> Option (List (List UInt8))) : Option (List (List UInt8)) :=
 iter (fun (v:((List (List UInt8)) × Int)) r=>z6q N t l v.1 v.2 (fun out i=>(r (out,i))) k0) N (out,i)
def z1ry (N:Nat) (i:(DT1 × (List (List UInt8)))) (v:((List (List UInt8)) × Int)) (r:((List (List UInt8)) × Int) -> Option (List (List UInt8))) (K:Ex -> List A -> Option (List (List UInt8))) : Option (List (List UInt8)) :=
 z6q N i.1 i.2 v.1 v.2 (fun out i=>(r (out,i))) (fun a0=>(K (.exit 0) (mkS [(6,.row .str)] 32 (a0,()))))
def z1pv (N:Nat) : Hd (List (List UInt8)) := fun st K=>(unS [(3,.box TT0),(1,.v (.sl .str)),(0,.row .str),(0,.v (.int .i64))] 31 (restr [7,3,6,5] 0 st)).bind fun x=>iter (fun v r=>z1ry N ((fun x=>(x.1,x.2.1)) x) v r K) N ((fun x=>(x.2.2.1,x.2.2.2.1)) x)
def t1_96 (N:Nat) : Tab (List (List UInt8)) := []
theorem z1nf {N:Nat} {c:Ctx} (hb:Base Tryz.prog (E_96 N) c) : zq Tryz.prog c (zm zyg [0,1,0,1,1,1]) (z1pv N) :=
  z1k (s := [(3,.box TT0),(1,.v (.sl .str)),(0,.row .str),(0,.v (.int .i64))]) (m := 31) (z1ry N) [7,3,6,5] N (fun x=>(x.1,x.2.1)) (fun x=>(x.2.2.1,x.2.2.2.1)) (fun i v=>(i.1,i.2,v.1,v.2,())) (fun _=>rfl) (zi hb N (t1_96 N) L_96 zyg TabOk.nil z1bu _ rfl) (fun i v r K=>by kernel_rfl)
def z3f (N:Nat) (key:(List UInt8)) (t:DT1) : Option (List (List UInt8)) :=
 (z39 N key t).bind fun y =>
 (z1f N ([([(114 : UInt8),(111 : UInt8),(111 : UInt8),(116 : UInt8)] : List UInt8),t.1] : List (List UInt8))).bind fun y1 =>
 (z1a N key y1).bind fun y2 =>
 zar N t y y2 (0 : Int)
 (fun out=>some out)
def t_96 (N:Nat) : Tab (List (List UInt8)) := [([0,1,0,1,1,1],z1pv N)]
theorem z1e6 (N:Nat) (x:z1h z19g) : z2q (E_96 N) N (t_96 N) L_96 Tryz.f18 (mkS z19g 0 x) (z1d (.row .str) 2) = z3f N x.1 x.2.1 := by kernel_rfl
def z9z (N:Nat) : List A -> Res := z10 z19g (fun x=>z3f N x.1 x.2.1) (z2p (.row .str) 2)
theorem zic (N:Nat) : Contract Tryz.prog glob 18 (z9z N) :=
  Contract.of (E := E_96 N) (H := t_96 N) (L := L_96) (N := N) (body := zyg) (K := (z1d (.row .str) 2)) (z1uc N) Tryz.func18 (by kernel_rfl) (by decide) (fun _ hb=>(TabOk.cons (z1nf hb) TabOk.nil)) (fun x y h=>by rw [z1e6]; exact h) (zn (s := (.row .str)) (m := 2))
def z1gv : Code := (Tryz.f30.body).getD .skip
def L_97 : List (List Nat × List Nat) := [([0],[0]),([0,1],[2]),([1,1],[2])]
def E_97 (N:Nat) : Env := z16 tys glob [] [] [] [] false [] [(123,zd N),(66,zb N),(98,z7 N)]
theorem z1ub (N:Nat) : EnvOk Tryz.prog (E_97 N) := zk mixed zo (FnsOk.nil) (ItsOk.cons (zf N) (ItsOk.cons (ze N) (ItsOk.cons (z8 N) (ItsOk.nil))))
def z38 (N:Nat) (l:(List (List UInt8))) : Option (List UInt8) :=
 cond (inR (IntKind.wrap IntKind.i64 ((((List.length l) : Nat) : Int) - (1 : Int))) (List.length l))
 (some (List.getD l (Int.toNat (IntKind.wrap IntKind.i64 ((((List.length l) : Nat) : Int) - (1 : Int)))) ([] : List UInt8)))
 (none)
def t_97 (N:Nat) : Tab (List UInt8) := []
theorem z1e5 (N:Nat) (x:z1h [(0,.v (.sl .str))]) : z2q (E_97 N) N (t_97 N) L_97 Tryz.f30 (mkS [(0,.v (.sl .str))] 0 x) (z1d (.v .str) 1) = z38 N x.1 := by kernel_rfl
def zaq (N:Nat) : List A -> Res := z10 [(0,.v (.sl .str))] (fun x=>z38 N x.1) (z2p (.v .str) 1)
theorem zjj (N:Nat) : Contract Tryz.prog glob 30 (zaq N) :=
  Contract.of (E := E_97 N) (H := t_97 N) (L := L_97) (N := N) (body := z1gv) (K := (z1d (.v .str) 1)) (z1ub N) Tryz.func30 (by kernel_rfl) (by decide) (fun _ hb=>TabOk.nil) (fun x y h=>by rw [z1e5]; exact h) (zn (s := (.v .str)) (m := 1))
def z1gu : Code := (Tryz.f32.body).getD .skip
def L_98 : List (List Nat × List Nat) := [([0],[]),([0,1],[0]),([1,1],[0])]
def E_98 (N:Nat) : Env := z16 tys glob [] [] [] [] false [] [(123,zd N),(66,zb N),(98,z7 N)]
theorem z1ua (N:Nat) : EnvOk Tryz.prog (E_98 N) := zk mixed zo (FnsOk.nil) (ItsOk.cons (zf N) (ItsOk.cons (ze N) (ItsOk.cons (z8 N) (ItsOk.nil))))
def za0 (N:Nat) : Option (List (List UInt8)) :=
 some ([([(115 : UInt8),(101 : UInt8),(97 : UInt8),(108 : UInt8)] : List UInt8)] : List (List UInt8))
def t_98 (N:Nat) : Tab (List (List UInt8)) := []
theorem z1e4 (N:Nat) (x:z1h []) : z2q (E_98 N) N (t_98 N) L_98 Tryz.f32 (mkS [] 0 x) (z1d (.v (.sl .str)) 0) = za0 N := by kernel_rfl
def z74 (N:Nat) : List A -> Res := z10 [] (fun x=>za0 N) (z2p (.v (.sl .str)) 0)
theorem zed (N:Nat) : Contract Tryz.prog glob 32 (z74 N) :=
  Contract.of (E := E_98 N) (H := t_98 N) (L := L_98) (N := N) (body := z1gu) (K := (z1d (.v (.sl .str)) 0)) (z1ua N) Tryz.func32 (by kernel_rfl) (by decide) (fun _ hb=>TabOk.nil) (fun x y h=>by rw [z1e4]; exact h) (zn (s := (.v (.sl .str))) (m := 0))
def zqs : Code := (Tryz.f35.body).getD .skip
def L_99 : List (List Nat × List Nat) := [([0],[1,0]),([0,0,1],[13,0,1]),([1,0,1],[0,1]),([0,0,1,0,1],[4]),([1,0,1,0,1],[4]),([0,1,1],[5,0,1]),([0,1,1,1],[4]),([1,1,1,1],[4])]
def z1wj (N:Nat) : Env := z16 tys glob [(31,z1t N),(33,z2z N),(34,z30 N)] [(4,.str),(5,.str)] [] [] true [] [(123,zd N),(66,zb N),(98,z7 N)]
theorem z1u9 (N:Nat) : EnvOk Tryz.prog (z1wj N) := zk mixed zo (FnsOk.cons (z2m N) (FnsOk.cons (z47 N) (FnsOk.cons (z49 N) (FnsOk.nil)))) (ItsOk.cons (zf N) (ItsOk.cons (ze N) (ItsOk.cons (z8 N) (ItsOk.nil))))
def z3a (N:Nat) (key:(List UInt8)) (s:(List UInt8)) (k0:Bool -> Option (List (List UInt8))) : Option (List (List UInt8)) :=
 cond (decide ((((List.length s) : Nat) : Int) < (48 : Int)))
 (k0 true)
 (k0 (decide ((4144 : Int) < (((List.length s) : Nat) : Int))))
def z1rg (N:Nat) (x:z1h SQ0) (K:Ex -> List A -> Option (List (List UInt8))) : Option (List (List UInt8)) :=
 z3a N x.1 x.2.1 (fun a2=>(K .normal (mkS [(0,.v .str),(0,.v .str),(11,.v .bool)] 15 (x.1,x.2.1,a2,()))))
def z1pd (N:Nat) : Hd (List (List UInt8)) := fun st K=>(unS SQ0 27 (restr [1,0] 0 st)).bind fun x=>z1rg N x K
def t2_99 (N:Nat) : Tab (List (List UInt8)) := []
theorem z1mx {N:Nat} {c:Ctx} (hb:Base Tryz.prog (z1wj N) c) : zq Tryz.prog c (zm zqs [0,0,1]) (z1pd N) :=
  z17 (s := SQ0) (m := 27) (g := z1rg N) [1,0] (zi hb N (t2_99 N) L_99 zqs TabOk.nil [0,0,1] _ rfl) (fun x K=>by kernel_rfl)
def z3b (N:Nat) (key:(List UInt8)) (s:(List UInt8)) (k0:(List (List UInt8)) -> Option (List (List UInt8))) (k1:Option (List (List UInt8))) : Option (List (List UInt8)) :=
 z3a N key s
 (fun x13=>cond x13
 (k0 ([] : List (List UInt8)))
 (k1))
def z1rx (N:Nat) (x:z1h SQ0) (K:Ex -> List A -> Option (List (List UInt8))) : Option (List (List UInt8)) :=
 z3b N x.1 x.2.1 (fun a0=>(K .ret (mkS [(4,.row .str)] 24 (a0,())))) (K .normal (mkS SQ0 27 (x.1,x.2.1,())))
def z1pu (N:Nat) : Hd (List (List UInt8)) := fun st K=>(unS SQ0 27 (restr [1,0] 0 st)).bind fun x=>z1rx N x K
def t1_99 (N:Nat) : Tab (List (List UInt8)) := [([0,0,1],z1pd N)]
theorem z1ne {N:Nat} {c:Ctx} (hb:Base Tryz.prog (z1wj N) c) : zq Tryz.prog c (zm zqs [0,1]) (z1pu N) :=
  z17 (s := SQ0) (m := 27) (g := z1rx N) [1,0] (zi hb N (t1_99 N) L_99 zqs (TabOk.cons (z1mx hb) TabOk.nil) [0,1] _ rfl) (fun x K=>by kernel_rfl)
def z2b (N:Nat) (key:(List UInt8)) (s:(List UInt8)) : Option (List (List UInt8)) :=
 z3b N key s
 (fun x4=>some x4)
 ((z1f N ([([(116 : UInt8),(97 : UInt8),(103 : UInt8)] : List UInt8)] : List (List UInt8))).bind fun y =>
 (z1a N key y).bind fun y1 =>
 (zz N key ([([(116 : UInt8),(97 : UInt8),(103 : UInt8)] : List UInt8)] : List (List UInt8))).bind fun y2 =>
 cond (decide (((0 : Int) <= (IntKind.wrap IntKind.i64 ((((List.length s) : Nat) : Int) - (32 : Int)))) /\ ((IntKind.wrap IntKind.i64 ((((List.length s) : Nat) : Int) - (32 : Int))) <= (((List.length s) : Nat) : Int))))
 ((z1a N y2 (cut s 0 (Int.toNat (IntKind.wrap IntKind.i64 ((((List.length s) : Nat) : Int) - (32 : Int)))))).bind fun y3 =>
 cond (decide ((((List.length y1) + (List.length y3)) * 16) <= 70368744177664))
 (some (y1 ++ y3))
 (none))
 (none))
def t_99 (N:Nat) : Tab (List (List UInt8)) := [([0,1],z1pu N)]
theorem z1e3 (N:Nat) (x:z1h SQ0) : z2q (z1wj N) N (t_99 N) L_99 Tryz.f35 (mkS SQ0 0 x) (z1d (.row .str) 2) = z2b N x.1 x.2.1 := by kernel_rfl
def za3 (N:Nat) : List A -> Res := z10 SQ0 (fun x=>z2b N x.1 x.2.1) (z2p (.row .str) 2)
theorem zid (N:Nat) : Contract Tryz.prog glob 35 (za3 N) :=
  Contract.of (E := z1wj N) (H := t_99 N) (L := L_99) (N := N) (body := zqs) (K := (z1d (.row .str) 2)) (z1u9 N) Tryz.func35 (by kernel_rfl) (by decide) (fun _ hb=>(TabOk.cons (z1ne hb) TabOk.nil)) (fun x y h=>by rw [z1e3]; exact h) (zn (s := (.row .str)) (m := 2))
def zue : Code := (Tryz.f114.body).getD .skip
def z1it : List (List Nat × List Nat) := [([0],[0]),([0,1],[0,3]),([0,0,1,1],[4,0,3]),([0,1,0,1,1],[4,0,3]),(z1ih,[6,0,3,4]),(z1ig,[0,3,4]),(z1ii,[3]),(z1ts,[0,4,3]),(PQ98,[4,0,3]),(PQ9,[4,0,3]),(z1if,[4,0,3]),([1,0,1,1],[3]),([0,1,1,1],[2]),([1,1,1,1],[2])]
def z19u (N:Nat) : Env := z16 tys glob [(88,z3c N)] [] [] [] false [] [(123,zd N),(66,zb N),(98,z7 N)]
theorem z1ja (N:Nat) : EnvOk Tryz.prog (z19u N) := zk mixed zo (FnsOk.cons (z4u N) (FnsOk.nil)) (ItsOk.cons (zf N) (ItsOk.cons (ze N) (ItsOk.cons (z8 N) (ItsOk.nil))))
def za4 (N:Nat) (n:Int) (out:(List UInt8)) (i:Int) (rec:Int -> (List UInt8) -> Int -> Option (List UInt8)) (k0:(List UInt8) -> Option (List UInt8)) : Option (List UInt8) :=
 cond (decide (i < (8 : Int)))
 (cond (decide (((List.length (z2f ([(IntKind.wrap IntKind.u8 (Int.tmod n (256 : Int)))] : List Int))) + (List.length out)) <= 9223372036854775807))
 (rec (IntKind.wrap IntKind.i64 (Int.tdiv n (256 : Int))) ((z2f ([(IntKind.wrap IntKind.u8 (Int.tmod n (256 : Int)))] : List Int)) ++ out) (IntKind.wrap IntKind.i64 (i + (1 : Int))))
 (none))
 (k0 out)
def zh1 (N:Nat) (n:Int) (out:(List UInt8)) (i:Int) (k0:(List UInt8) -> Option (List UInt8)) : Option (List UInt8) :=
 iter (fun (v:(Int × (List UInt8) × Int)) r=>za4 N v.1 v.2.1 v.2.2 (fun n out i=>(r (n,out,i))) k0) N (n,out,i)
def z1bc (N:Nat) (i:Unit) (v:(Int × (List UInt8) × Int)) (r:(Int × (List UInt8) × Int) -> Option (List UInt8)) (K:Ex -> List A -> Option (List UInt8)) : Option (List UInt8) :=
 za4 N v.1 v.2.1 v.2.2 (fun n out i=>(r (n,out,i))) (fun a0=>(K (.exit 0) (mkS [(3,.v .str)] 13 (a0,()))))
def z1aq (N:Nat) : Hd (List UInt8) := fun st K=>(unS SQ57 12 (restr [4,0,3] 0 st)).bind fun x=>iter (fun v r=>z1bc N ((fun x=>()) x) v r K) N ((fun x=>(x.1,x.2.1,x.2.2.1)) x)
def z1lw (N:Nat) : Tab (List UInt8) := []
theorem z1dn {N:Nat} {c:Ctx} (hb:Base Tryz.prog (z19u N) c) : zq Tryz.prog c (zm zue [0,1,0,1,1]) (z1aq N) :=
  z1k (s := SQ57) (m := 12) (z1bc N) [4,0,3] N (fun x=>()) (fun x=>(x.1,x.2.1,x.2.2.1)) (fun i v=>(v.1,v.2.1,v.2.2,())) (fun _=>rfl) (zi hb N (z1lw N) z1it zue TabOk.nil [0,0,1,0,1,1] _ rfl) (fun i v r K=>by kernel_rfl)
def z35 (N:Nat) (n:Int) : Option (List UInt8) :=
 zh1 N n ([] : List UInt8) (0 : Int)
 (fun out=>some out)
def z1lh (N:Nat) : Tab (List UInt8) := [([0,1,0,1,1],z1aq N)]
theorem z18d (N:Nat) (x:z1h [(0,.v (.int .i64))]) : z2q (z19u N) N (z1lh N) z1it Tryz.f114 (mkS [(0,.v (.int .i64))] 0 x) (z1d (.v .str) 1) = z35 N x.1 := by kernel_rfl
def z97 (N:Nat) : List A -> Res := z10 [(0,.v (.int .i64))] (fun x=>z35 N x.1) (z2p (.v .str) 1)
theorem zh2 (N:Nat) : Contract Tryz.prog glob 114 (z97 N) :=
  Contract.of (E := z19u N) (H := z1lh N) (L := z1it) (N := N) (body := zue) (K := (z1d (.v .str) 1)) (z1ja N) Tryz.func114 (by kernel_rfl) (by decide) (fun _ hb=>(TabOk.cons (z1dn hb) TabOk.nil)) (fun x y h=>by rw [z18d]; exact h) (zn (s := (.v .str)) (m := 1))
def z194 : Code := (Tryz.f105.body).getD .skip
def z1u1 : List (List Nat × List Nat) := [([0],[2,0,1]),([0,0,1],[8,0,1,2]),([1,0,1],[0,1,2]),([0,0,1,0,1],[6]),([1,0,1,0,1],[6]),([0,1,1],[6]),([1,1,1],[6])]
def z1jl (N:Nat) : Env := z16 tys glob [(114,z97 N),(31,z1t N)] [] [] [] false [] [(123,zd N),(66,zb N),(98,z7 N)]
theorem z1j9 (N:Nat) : EnvOk Tryz.prog (z1jl N) := zk mixed zo (FnsOk.cons (zh2 N) (FnsOk.cons (z2m N) (FnsOk.nil))) (ItsOk.cons (zf N) (ItsOk.cons (ze N) (ItsOk.cons (z8 N) (ItsOk.nil))))
def z4d (N:Nat) (key:(List UInt8)) (nonce:(List UInt8)) (i:Int) : Option (List UInt8) :=
 cond (decide (i < (0 : Int)))
 (some ([] : List UInt8))
 ((z35 N i).bind fun y =>
 (zz N key ([([(115 : UInt8),(116 : UInt8),(114 : UInt8),(101 : UInt8),(97 : UInt8),(109 : UInt8)] : List UInt8),nonce,y] : List (List UInt8))).bind fun y1 =>
 some y1)
def z1lg (N:Nat) : Tab (List UInt8) := []
theorem z18c (N:Nat) (x:z1h SQ3) : z2q (z1jl N) N (z1lg N) z1u1 Tryz.f105 (mkS SQ3 0 x) (z1d (.v .str) 3) = z4d N x.1 x.2.1 x.2.2.1 := by kernel_rfl
def za5 (N:Nat) : List A -> Res := z10 SQ3 (fun x=>z4d N x.1 x.2.1 x.2.2.1) (z2p (.v .str) 3)
theorem zie (N:Nat) : Contract Tryz.prog glob 105 (za5 N) :=
  Contract.of (E := z1jl N) (H := z1lg N) (L := z1u1) (N := N) (body := z194) (K := (z1d (.v .str) 3)) (z1j9 N) Tryz.func105 (by kernel_rfl) (by decide) (fun _ hb=>TabOk.nil) (fun x y h=>by rw [z18c]; exact h) (zn (s := (.v .str)) (m := 3))
def zlo : Code := (Tryz.f91.body).getD .skip
def z19p : List (List Nat × List Nat) := [([0],[2,0,1]),([0,0,1],[10,0,1,2]),([1,0,1],[2,0,1]),([0,1,0,1],[2,0,1]),([0,1,1],[7,2,0,1]),([0,0,1,1,1],[7,2,0,1,8]),([0,1,0,1,1,1],[7,2,0,1,8]),(z1tp,[14,7,0,1,8,2]),(z1to,[7,0,1,8,2]),(z1tr,[2,7]),([0,0,1,0,0,1,0,1,1,1],[8,7,2,0,1]),(z1ij,[8,7,2,0,1]),(z1tn,[7,2,0,1,8]),([1,0,1,1,1],[2,7]),([0,0,1,1,1,1],[24,7,2]),([1,0,1,1,1,1],[7,2]),(z1k0,[6]),(z19m,[6]),([0,1,1,1,1,1],[6]),([1,1,1,1,1,1],[6])]
def z16b (N:Nat) : Env := z16 tys glob [(105,za5 N)] [] [] [] false [] [(123,zd N),(66,zb N),(98,z7 N)]
theorem z1j8 (N:Nat) : EnvOk Tryz.prog (z16b N) := zk mixed zo (FnsOk.cons (zie N) (FnsOk.nil)) (ItsOk.cons (zf N) (ItsOk.cons (ze N) (ItsOk.cons (z8 N) (ItsOk.nil))))
def z7j (N:Nat) (key:(List UInt8)) (nonce:(List UInt8)) (n:Int) (k0:Int -> Option (List UInt8)) : Option (List UInt8) :=
 cond (decide ((65536 : Int) < n))
 (k0 (65536 : Int))
 (k0 n)
def z1bb (N:Nat) (x:z1h SQ3) (K:Ex -> List A -> Option (List UInt8)) : Option (List UInt8) :=
 z7j N x.1 x.2.1 x.2.2.1 (fun a2=>(K .normal (mkS SQ3 25 (x.1,x.2.1,a2,()))))
def z1ap (N:Nat) : Hd (List UInt8) := fun st K=>(unS SQ3 25 (restr [2,0,1] 0 st)).bind fun x=>z1bb N x K
def z1lv (N:Nat) : Tab (List UInt8) := []
theorem z1dm {N:Nat} {c:Ctx} (hb:Base Tryz.prog (z16b N) c) : zq Tryz.prog c (zm zlo [0,1]) (z1ap N) :=
  z17 (s := SQ3) (m := 25) (g := z1bb N) [2,0,1] (zi hb N (z1lv N) z19p zlo TabOk.nil [0,1] _ rfl) (fun x K=>by kernel_rfl)
def z7i (N:Nat) (key:(List UInt8)) (nonce:(List UInt8)) (n:Int) (out:(List UInt8)) (i:Int) (rec:(List UInt8) -> Int -> Option (List UInt8)) (k0:(List UInt8) -> Option (List UInt8)) : Option (List UInt8) :=
 cond (decide ((((List.length out) : Nat) : Int) < n))
 ((z4d N key nonce i).bind fun y =>
 cond (decide (((List.length out) + (List.length y)) <= 9223372036854775807))
 (rec (out ++ y) (IntKind.wrap IntKind.i64 (i + (1 : Int))))
 (none))
 (k0 out)
def zc2 (N:Nat) (key:(List UInt8)) (nonce:(List UInt8)) (n:Int) (out:(List UInt8)) (i:Int) (k0:(List UInt8) -> Option (List UInt8)) : Option (List UInt8) :=
 iter (fun (v:((List UInt8) × Int)) r=>z7i N key nonce n v.1 v.2 (fun out i=>(r (out,i))) k0) N (out,i)
def z1b4 (N:Nat) (i:((List UInt8) × (List UInt8) × Int)) (v:((List UInt8) × Int)) (r:((List UInt8) × Int) -> Option (List UInt8)) (K:Ex -> List A -> Option (List UInt8)) : Option (List UInt8) :=
 z7i N i.1 i.2.1 i.2.2 v.1 v.2 (fun out i=>(r (out,i))) (fun a1=>(K (.exit 0) (mkS [(2,.v (.int .i64)),(4,.v .str)] 20 (i.2.2,a1,()))))
def z1ai (N:Nat) : Hd (List UInt8) := fun st K=>(unS [(0,.v .str),(0,.v .str),(0,.v (.int .i64)),(4,.v .str),(0,.v (.int .i64))] 19 (restr [7,2,0,1,8] 0 st)).bind fun x=>iter (fun v r=>z1b4 N ((fun x=>(x.1,x.2.1,x.2.2.1)) x) v r K) N ((fun x=>(x.2.2.2.1,x.2.2.2.2.1)) x)
def z1lp (N:Nat) : Tab (List UInt8) := []
theorem z1df {N:Nat} {c:Ctx} (hb:Base Tryz.prog (z16b N) c) : zq Tryz.prog c (zm zlo [0,1,0,1,1,1]) (z1ai N) :=
  z1k (s := [(0,.v .str),(0,.v .str),(0,.v (.int .i64)),(4,.v .str),(0,.v (.int .i64))]) (m := 19) (z1b4 N) [7,2,0,1,8] N (fun x=>(x.1,x.2.1,x.2.2.1)) (fun x=>(x.2.2.2.1,x.2.2.2.2.1)) (fun i v=>(i.1,i.2.1,i.2.2,v.1,v.2,())) (fun _=>rfl) (zi hb N (z1lp N) z19p zlo TabOk.nil z1bu _ rfl) (fun i v r K=>by kernel_rfl)
def z55 (N:Nat) (key:(List UInt8)) (nonce:(List UInt8)) (n:Int) : Option (List UInt8) :=
 z7j N key nonce n
 (fun n1=>zc2 N key nonce n1 ([] : List UInt8) (0 : Int)
 (fun out=>cond (decide (n1 < (1 : Int)))
 (some ([] : List UInt8))
 (cond (decide (((0 : Int) <= n1) /\ (n1 <= (((List.length out) : Nat) : Int))))
 (some (cut out 0 (Int.toNat n1)))
 (none))))
def z1lf (N:Nat) : Tab (List UInt8) := [([0,1],z1ap N),([0,1,0,1,1,1],z1ai N)]
theorem z18b (N:Nat) (x:z1h SQ3) : z2q (z16b N) N (z1lf N) z19p Tryz.f91 (mkS SQ3 0 x) (z1d (.v .str) 3) = z55 N x.1 x.2.1 x.2.2.1 := by kernel_rfl
def zau (N:Nat) : List A -> Res := z10 SQ3 (fun x=>z55 N x.1 x.2.1 x.2.2.1) (z2p (.v .str) 3)
theorem zjm (N:Nat) : Contract Tryz.prog glob 91 (zau N) :=
  Contract.of (E := z16b N) (H := z1lf N) (L := z19p) (N := N) (body := zlo) (K := (z1d (.v .str) 3)) (z1j8 N) Tryz.func91 (by kernel_rfl) (by decide) (fun _ hb=>(TabOk.cons (z1dm hb) (TabOk.cons (z1df hb) TabOk.nil))) (fun x y h=>by rw [z18b]; exact h) (zn (s := (.v .str)) (m := 3))
def z193 : Code := (Tryz.f64.body).getD .skip
def z1u0 : List (List Nat × List Nat) := [([0],[2,0,1]),([0,0,1],[9,2,0,1]),([1,0,1],[2,0,1]),([0,0,1,0,1],[6]),([1,0,1,0,1],[6]),([0,1,1],[6]),([1,1,1],[6])]
def z1jk (N:Nat) : Env := z16 tys glob [(91,zau N),(89,z7s N)] [] [] [] false [] [(123,zd N),(66,zb N),(98,z7 N)]
theorem z1j7 (N:Nat) : EnvOk Tryz.prog (z1jk N) := zk mixed zo (FnsOk.cons (zjm N) (FnsOk.cons (zd9 N) (FnsOk.nil))) (ItsOk.cons (zf N) (ItsOk.cons (ze N) (ItsOk.cons (z8 N) (ItsOk.nil))))
def z2y (N:Nat) (key:(List UInt8)) (nonce:(List UInt8)) (text:(List UInt8)) : Option (List UInt8) :=
 cond (decide ((65536 : Int) < (((List.length text) : Nat) : Int)))
 (some ([] : List UInt8))
 ((z55 N key nonce (((List.length text) : Nat) : Int)).bind fun y =>
 (z4g N text y).bind fun y1 =>
 some y1)
def z1le (N:Nat) : Tab (List UInt8) := []
theorem z18a (N:Nat) (x:z1h SQ2) : z2q (z1jk N) N (z1le N) z1u0 Tryz.f64 (mkS SQ2 0 x) (z1d (.v .str) 3) = z2y N x.1 x.2.1 x.2.2.1 := by kernel_rfl
def z7k (N:Nat) : List A -> Res := z10 SQ2 (fun x=>z2y N x.1 x.2.1 x.2.2.1) (z2p (.v .str) 3)
theorem zd6 (N:Nat) : Contract Tryz.prog glob 64 (z7k N) :=
  Contract.of (E := z1jk N) (H := z1le N) (L := z1u0) (N := N) (body := z193) (K := (z1d (.v .str) 3)) (z1j7 N) Tryz.func64 (by kernel_rfl) (by decide) (fun _ hb=>TabOk.nil) (fun x y h=>by rw [z18a]; exact h) (zn (s := (.v .str)) (m := 3))
def z192 : Code := (Tryz.f65.body).getD .skip
def z1tz : List (List Nat × List Nat) := [([0],[1,2,0]),([0,0,1],[11,2,1,0]),([1,0,1],[2,1,0]),([0,0,1,0,1],[6,7]),([1,0,1,0,1],[6,7]),([0,0,1,1],[14,1,0,2]),([1,0,1,1],[1,0,2]),([0,0,1,0,1,1],[6,7]),([1,0,1,0,1,1],[6,7]),([0,1,1,1],[8,0]),([0,1,1,1,1],[6,7]),([1,1,1,1,1],[6,7])]
def z1jj (N:Nat) : Env := z16 tys glob [(64,z7k N),(31,z1t N),(60,z7l N)] [] [] [] false [] [(123,zd N),(66,zb N),(98,z7 N)]
theorem z1j6 (N:Nat) : EnvOk Tryz.prog (z1jj N) := zk mixed zo (FnsOk.cons (zd6 N) (FnsOk.cons (z2m N) (FnsOk.cons (zd7 N) (FnsOk.nil)))) (ItsOk.cons (zf N) (ItsOk.cons (ze N) (ItsOk.cons (z8 N) (ItsOk.nil))))
def z3p (N:Nat) (key:(List UInt8)) (nonce:(List UInt8)) (text:(List UInt8)) : Option ((List UInt8) × Int × Unit) :=
 cond ((((List.length nonce) : Nat) : Int) != (16 : Int))
 (some (([] : List UInt8),((7 : Int),())))
 (cond (decide ((4096 : Int) < (((List.length text) : Nat) : Int)))
 (some (([] : List UInt8),((3 : Int),())))
 ((zz N key ([([(104 : UInt8),(105 : UInt8),(100 : UInt8),(101 : UInt8)] : List UInt8)] : List (List UInt8))).bind fun y =>
 (z2y N y nonce text).bind fun y1 =>
 cond (decide (((List.length nonce) + (List.length y1)) <= 9223372036854775807))
 ((zz N key ([([(116 : UInt8),(97 : UInt8),(103 : UInt8)] : List UInt8)] : List (List UInt8))).bind fun y2 =>
 (z3k N y2 (nonce ++ y1)).bind fun y3 =>
 cond (decide (((List.length (nonce ++ y1)) + (List.length y3)) <= 9223372036854775807))
 (some (((nonce ++ y1) ++ y3),((0 : Int),())))
 (none))
 (none)))
def z1ld (N:Nat) : Tab ((List UInt8) × Int × Unit) := []
theorem z189 (N:Nat) (x:z1h SQ2) : z2q (z1jj N) N (z1ld N) z1tz Tryz.f65 (mkS SQ2 0 x) (z1d (.tup [.str,(.int .i64)]) 3) = z3p N x.1 x.2.1 x.2.2.1 := by kernel_rfl
def zas (N:Nat) : List A -> Res := z10 SQ2 (fun x=>z3p N x.1 x.2.1 x.2.2.1) (z2p (.tup [.str,(.int .i64)]) 3)
theorem zjk (N:Nat) : Contract Tryz.prog glob 65 (zas N) :=
  Contract.of (E := z1jj N) (H := z1ld N) (L := z1tz) (N := N) (body := z192) (K := (z1d (.tup [.str,(.int .i64)]) 3)) (z1j6 N) Tryz.func65 (by kernel_rfl) (by decide) (fun _ hb=>TabOk.nil) (fun x y h=>by rw [z189]; exact h) (zn (s := (.tup [.str,(.int .i64)])) (m := 3))
def z191 : Code := (Tryz.f36.body).getD .skip
def z1ty : List (List Nat × List Nat) := [([0],[1,0]),([0,0,1],[12,1,0]),([1,0,1],[1,0]),([0,0,1,0,1],[4,5]),([1,0,1,0,1],[4,5]),([0,0,1,1],[15,1,0]),([1,0,1,1],[1,0]),([0,0,1,0,1,1],[4,5]),([1,0,1,0,1,1],[4,5]),([0,1,1,1],[0,1,6]),([0,1,1,1,1],[0,1,7]),([0,1,1,1,1,1],[8,1,7]),([0,0,1,1,1,1,1,1],[38,7]),([1,0,1,1,1,1,1,1],[7]),([0,0,1,0,1,1,1,1,1,1],[4,5]),([1,0,1,0,1,1,1,1,1,1],[4,5]),(z1il,[4,5]),([1,1,1,1,1,1,1,1],[4,5])]
def z1ji (N:Nat) : Env := z16 tys glob [(65,zas N),(64,z7k N),(31,z1t N)] [] [] [] false [] [(123,zd N),(66,zb N),(98,z7 N)]
theorem z1j5 (N:Nat) : EnvOk Tryz.prog (z1ji N) := zk mixed zo (FnsOk.cons (zjk N) (FnsOk.cons (zd6 N) (FnsOk.cons (z2m N) (FnsOk.nil)))) (ItsOk.cons (zf N) (ItsOk.cons (ze N) (ItsOk.cons (z8 N) (ItsOk.nil))))
def z1q (N:Nat) (key:(List UInt8)) (s:(List UInt8)) : Option ((List UInt8) × Int × Unit) :=
 cond (decide ((((List.length s) : Nat) : Int) < (48 : Int)))
 (some (([] : List UInt8),((1 : Int),())))
 (cond (decide ((4144 : Int) < (((List.length s) : Nat) : Int)))
 (some (([] : List UInt8),((3 : Int),())))
 ((zz N key ([([(104 : UInt8),(105 : UInt8),(100 : UInt8),(101 : UInt8)] : List UInt8)] : List (List UInt8))).bind fun y =>
 cond (decide (((0 : Int) <= (16 : Int)) /\ ((16 : Int) <= (((List.length s) : Nat) : Int))))
 (cond (decide (((0 : Int) <= (IntKind.wrap IntKind.i64 ((((List.length s) : Nat) : Int) - (32 : Int)))) /\ ((IntKind.wrap IntKind.i64 ((((List.length s) : Nat) : Int) - (32 : Int))) <= (((List.length s) : Nat) : Int))))
 (cond (decide (((0 : Int) <= (16 : Int)) /\ ((16 : Int) <= (IntKind.wrap IntKind.i64 ((((List.length s) : Nat) : Int) - (32 : Int))))))
 ((z2y N y (cut s 0 16) (cut s 16 (Int.toNat (IntKind.wrap IntKind.i64 ((((List.length s) : Nat) : Int) - (32 : Int)))))).bind fun y1 =>
 cond (decide (((0 : Int) <= (16 : Int)) /\ ((16 : Int) <= (((List.length s) : Nat) : Int))))
 ((z3p N key (cut s 0 16) y1).bind fun y2 =>
 cond (!(y2.1 == s))
 (some (([] : List UInt8),((8 : Int),())))
 (some (y1,((0 : Int),()))))
 (none))
 (none))
 (none))
 (none)))
def z1lc (N:Nat) : Tab ((List UInt8) × Int × Unit) := []
theorem z188 (N:Nat) (x:z1h SQ0) : z2q (z1ji N) N (z1lc N) z1ty Tryz.f36 (mkS SQ0 0 x) (z1d (.tup [.str,(.int .i64)]) 2) = z1q N x.1 x.2.1 := by kernel_rfl
def zat (N:Nat) : List A -> Res := z10 SQ0 (fun x=>z1q N x.1 x.2.1) (z2p (.tup [.str,(.int .i64)]) 2)
theorem zjl (N:Nat) : Contract Tryz.prog glob 36 (zat N) :=
  Contract.of (E := z1ji N) (H := z1lc N) (L := z1ty) (N := N) (body := z191) (K := (z1d (.tup [.str,(.int .i64)]) 2)) (z1j5 N) Tryz.func36 (by kernel_rfl) (by decide) (fun _ hb=>TabOk.nil) (fun x y h=>by rw [z188]; exact h) (zn (s := (.tup [.str,(.int .i64)])) (m := 2))
def z190 : Code := (Tryz.f37.body).getD .skip
def z1tx : List (List Nat × List Nat) := [([0],[0]),([0,1],[2]),([1,1],[2])]
def z1jh (N:Nat) : Env := z16 tys glob [] [] [] [] false [] [(123,zd N),(66,zb N),(98,z7 N)]
theorem z1j4 (N:Nat) : EnvOk Tryz.prog (z1jh N) := zk mixed zo (FnsOk.nil) (ItsOk.cons (zf N) (ItsOk.cons (ze N) (ItsOk.cons (z8 N) (ItsOk.nil))))
def za2 (N:Nat) (other:(List UInt8)) : Option (List (List UInt8)) :=
 some ([([(98 : UInt8),(105 : UInt8),(110 : UInt8),(100 : UInt8)] : List UInt8),other] : List (List UInt8))
def z1lb (N:Nat) : Tab (List (List UInt8)) := []
theorem z187 (N:Nat) (x:z1h [(0,.v .str)]) : z2q (z1jh N) N (z1lb N) z1tx Tryz.f37 (mkS [(0,.v .str)] 0 x) (z1d (.v (.sl .str)) 1) = za2 N x.1 := by kernel_rfl
def z77 (N:Nat) : List A -> Res := z10 [(0,.v .str)] (fun x=>za2 N x.1) (z2p (.v (.sl .str)) 1)
theorem zee (N:Nat) : Contract Tryz.prog glob 37 (z77 N) :=
  Contract.of (E := z1jh N) (H := z1lb N) (L := z1tx) (N := N) (body := z190) (K := (z1d (.v (.sl .str)) 1)) (z1j4 N) Tryz.func37 (by kernel_rfl) (by decide) (fun _ hb=>TabOk.nil) (fun x y h=>by rw [z187]; exact h) (zn (s := (.v (.sl .str))) (m := 1))
def zop (N:Nat) (key:(List UInt8)) (b:z1wu) : Option Int :=
 (z63 N b).bind fun y =>
 cond (!y)
 (some (0 : Int))
 ((z4r N b).bind fun y1 =>
 (z3e N y1 key).bind fun y2 =>
 some y2.2.1.2.2.2.2.1)
def zbd : Code := (Tryz.f17.body).getD .skip
def z12m : List (List Nat × List Nat) := [([0],[0]),([0,1],[0,3]),([0,0,1,1],[4,0,3]),([0,1,0,1,1],[4,0,3]),(z1ih,[9,3,0,4]),(z1ig,[3,0,4]),(z1ii,[]),(z1ts,[4,3,0]),([0,1,0,0,1,0,0,1,0,1,1],[5,4,3,0]),(z1ik,[5,4,3,0]),([0,0,0,0,1,1,0,0,1,0,0,1,0,1,1],[22,3,5,4,0]),([1,0,0,0,1,1,0,0,1,0,0,1,0,1,1],[3,5,4,0]),([1,1,0,0,0,1,1,0,0,1,0,0,1,0,1,1],[4,0,3]),(PQ75,[44,5,4,3,0]),([1,0,0,1,0,0,1,1,0,0,1,0,0,1,0,1,1],[5,4,3,0]),([0,0,1,0,0,1,0,0,1,1,0,0,1,0,0,1,0,1,1],[2]),([1,0,1,0,0,1,0,0,1,1,0,0,1,0,0,1,0,1,1],[2]),(z19n,[5,4,3,0]),([1,1,0,0,1,1,0,0,1,0,0,1,0,1,1],[5,4,3,0]),([1,1,0,0,1,0,0,1,0,1,1],[4,0,3]),(PQ9,[4,0,3]),(z1if,[4,0,3]),([1,0,1,1],[]),([0,1,1,1],[2]),([1,1,1,1],[2])]
def zz9 (N:Nat) : Env := z16 tys glob [(42,z3l N)] [(3,.str)] [] [] false [] [(123,zd N),(66,zb N),(98,z7 N)]
theorem z1j3 (N:Nat) : EnvOk Tryz.prog (zz9 N) := zk mixed zo (FnsOk.cons (z5l N) (FnsOk.nil)) (ItsOk.cons (zf N) (ItsOk.cons (ze N) (ItsOk.cons (z8 N) (ItsOk.nil))))
def z6t (N:Nat) (l:(List (List UInt8))) (sums:(List (List UInt8))) (i:Int) (k:Int) (k0:Bool -> Option Bool) : Option Bool :=
 cond (inR k (List.length sums))
 (cond (decide ((Int.toNat k) < (List.length sums)))
 (cond (inR i (List.length sums))
 (cond (decide ((Int.toNat i) < (List.length sums)))
 (cond ((List.getD sums (Int.toNat k) ([] : List UInt8)) == (List.getD sums (Int.toNat i) ([] : List UInt8)))
 (cond (inR k (List.length l))
 (cond (inR i (List.length l))
 (k0 (!((List.getD l (Int.toNat k) ([] : List UInt8)) == (List.getD l (Int.toNat i) ([] : List UInt8)))))
 (none))
 (none))
 (k0 false))
 (none))
 (none))
 (none))
 (none)
def z1ay (N:Nat) (x:z1h SQ7) (K:Ex -> List A -> Option Bool) : Option Bool :=
 z6t N x.1 x.2.1 x.2.2.1 x.2.2.2.1 (fun a4=>(K .normal (mkS [(0,.v (.sl .str)),(2,.row .str),(0,.v (.int .i64)),(0,.v (.int .i64)),(38,.v .bool)] 0 (x.1,x.2.1,x.2.2.1,x.2.2.2.1,a4,()))))
def z1ac (N:Nat) : Hd Bool := fun st K=>(unS SQ7 39 (restr [3,5,4,0] 0 st)).bind fun x=>z1ay N x K
def z1lj (N:Nat) : Tab Bool := []
theorem z1d9 {N:Nat} {c:Ctx} (hb:Base Tryz.prog (zz9 N) c) : zq Tryz.prog c (zm zbd PQ75) (z1ac N) :=
  z17 (s := SQ7) (m := 39) (g := z1ay N) [3,5,4,0] (zi hb N (z1lj N) z12m zbd TabOk.nil PQ75 _ rfl) (fun x K=>by kernel_rfl)
def z6u (N:Nat) (l:(List (List UInt8))) (sums:(List (List UInt8))) (i:Int) (k:Int) (k0:Bool -> Option Bool) (k1:Option Bool) : Option Bool :=
 z6t N l sums i k
 (fun x44=>cond x44
 (k0 true)
 (k1))
def z1b0 (N:Nat) (x:z1h SQ7) (K:Ex -> List A -> Option Bool) : Option Bool :=
 z6u N x.1 x.2.1 x.2.2.1 x.2.2.2.1 (fun a0=>(K .ret (mkS [(2,.v .bool)] 42 (a0,())))) (K .normal (mkS SQ7 39 (x.1,x.2.1,x.2.2.1,x.2.2.2.1,())))
def z1ae (N:Nat) : Hd Bool := fun st K=>(unS SQ7 39 (restr [3,5,4,0] 0 st)).bind fun x=>z1b0 N x K
def z1ll (N:Nat) : Tab Bool := [(PQ75,z1ac N)]
theorem z1db {N:Nat} {c:Ctx} (hb:Base Tryz.prog (zz9 N) c) : zq Tryz.prog c (zm zbd z19n) (z1ae N) :=
  z17 (s := SQ7) (m := 39) (g := z1b0 N) [3,5,4,0] (zi hb N (z1ll N) z12m zbd (TabOk.cons (z1d9 hb) TabOk.nil) z19n _ rfl) (fun x K=>by kernel_rfl)
def z1j (N:Nat) (l:(List (List UInt8))) (sums:(List (List UInt8))) (i:Int) (k:Int) (rec:Int -> Option Bool) (k0:Bool -> Option Bool) (k1:Option Bool) : Option Bool :=
 cond (decide (k < i))
 (z6u N l sums i k
 (fun x2=>k0 x2)
 (rec (IntKind.wrap IntKind.i64 (k + (1 : Int)))))
 (k1)
def z4a (N:Nat) (l:(List (List UInt8))) (sums:(List (List UInt8))) (i:Int) (k:Int) (k0:Bool -> Option Bool) (k1:Option Bool) : Option Bool :=
 iter (fun (v:Int) r=>z1j N l sums i v (fun k=>(r k)) k0 k1) N k
def z1b3 (N:Nat) (i:((List (List UInt8)) × (List (List UInt8)) × Int)) (v:Int) (r:Int -> Option Bool) (K:Ex -> List A -> Option Bool) : Option Bool :=
 z1j N i.1 i.2.1 i.2.2 v (fun k=>(r k)) (fun a0=>(K .ret (mkS [(2,.v .bool)] 42 (a0,())))) (K (.exit 2) (mkS z1id 40 (i.1,i.2.1,i.2.2,())))
def z1ah (N:Nat) : Hd Bool := fun st K=>(unS SQ7 39 (restr [5,4,3,0] 0 st)).bind fun x=>iter (fun v r=>z1b3 N ((fun x=>(x.1,x.2.1,x.2.2.1)) x) v r K) N ((fun x=>x.2.2.2.1) x)
def z1lo (N:Nat) : Tab Bool := [(z19n,z1ae N)]
theorem z1de {N:Nat} {c:Ctx} (hb:Base Tryz.prog (zz9 N) c) : zq Tryz.prog c (zm zbd z1ik) (z1ah N) :=
  z1k (s := SQ7) (m := 39) (z1b3 N) [5,4,3,0] N (fun x=>(x.1,x.2.1,x.2.2.1)) (fun x=>x.2.2.2.1) (fun i v=>(i.1,i.2.1,i.2.2,v,())) (fun _=>rfl) (zi hb N (z1lo N) z12m zbd (TabOk.cons (z1db hb) TabOk.nil) [0,0,1,1,0,0,1,0,0,1,0,1,1] _ rfl) (fun i v r K=>by kernel_rfl)
def z6s (N:Nat) (l:(List (List UInt8))) (sums:(List (List UInt8))) (i:Int) (rec:(List (List UInt8)) -> Int -> Option Bool) (k0:Bool -> Option Bool) (k1:Option Bool) : Option Bool :=
 cond (decide (i < (((List.length l) : Nat) : Int)))
 (cond (inR i (List.length l))
 ((z2i N (List.getD l (Int.toNat i) ([] : List UInt8))).bind fun y =>
 cond (decide ((((List.length sums) + 1) * 16) <= 70368744177664))
 (z4a N l (sums ++ ([y] : List (List UInt8))) i (0 : Int)
 (fun x2=>k0 x2)
 (rec (sums ++ ([y] : List (List UInt8))) (IntKind.wrap IntKind.i64 (i + (1 : Int)))))
 (none))
 (none))
 (k1)
def zaz (N:Nat) (l:(List (List UInt8))) (sums:(List (List UInt8))) (i:Int) (k0:Bool -> Option Bool) (k1:Option Bool) : Option Bool :=
 iter (fun (v:((List (List UInt8)) × Int)) r=>z6s N l v.1 v.2 (fun sums i=>(r (sums,i))) k0 k1) N (sums,i)
def z1ba (N:Nat) (i:(List (List UInt8))) (v:((List (List UInt8)) × Int)) (r:((List (List UInt8)) × Int) -> Option Bool) (K:Ex -> List A -> Option Bool) : Option Bool :=
 z6s N i v.1 v.2 (fun sums i=>(r (sums,i))) (fun a0=>(K .ret (mkS [(2,.v .bool)] 42 (a0,())))) (K (.exit 0) (mkS [] 45 ()))
def z1ao (N:Nat) : Hd Bool := fun st K=>(unS z1id 40 (restr [4,0,3] 0 st)).bind fun x=>iter (fun v r=>z1ba N ((fun x=>x.1) x) v r K) N ((fun x=>(x.2.1,x.2.2.1)) x)
def z1lu (N:Nat) : Tab Bool := [(z1ik,z1ah N)]
theorem z1dl {N:Nat} {c:Ctx} (hb:Base Tryz.prog (zz9 N) c) : zq Tryz.prog c (zm zbd [0,1,0,1,1]) (z1ao N) :=
  z1k (s := z1id) (m := 40) (z1ba N) [4,0,3] N (fun x=>x.1) (fun x=>(x.2.1,x.2.2.1)) (fun i v=>(i,v.1,v.2,())) (fun _=>rfl) (zi hb N (z1lu N) z12m zbd (TabOk.cons (z1de hb) TabOk.nil) [0,0,1,0,1,1] _ rfl) (fun i v r K=>by kernel_rfl)
def z1x (N:Nat) (l:(List (List UInt8))) : Option Bool :=
 zaz N l ([] : List (List UInt8)) (0 : Int)
 (fun x2=>some x2)
 (some false)
def z1la (N:Nat) : Tab Bool := [([0,1,0,1,1],z1ao N)]
theorem z186 (N:Nat) (x:z1h [(0,.v (.sl .str))]) : z2q (zz9 N) N (z1la N) z12m Tryz.f17 (mkS [(0,.v (.sl .str))] 0 x) (z1d (.v .bool) 1) = z1x N x.1 := by kernel_rfl
def za8 (N:Nat) : List A -> Res := z10 [(0,.v (.sl .str))] (fun x=>z1x N x.1) (z2p (.v .bool) 1)
theorem zii (N:Nat) : Contract Tryz.prog glob 17 (za8 N) :=
  Contract.of (E := zz9 N) (H := z1la N) (L := z12m) (N := N) (body := zbd) (K := (z1d (.v .bool) 1)) (z1j3 N) Tryz.func17 (by kernel_rfl) (by decide) (fun _ hb=>(TabOk.cons (z1dl hb) TabOk.nil)) (fun x y h=>by rw [z186]; exact h) (zn (s := (.v .bool)) (m := 1))
end
end Go.Proofs.YtkipbccgnekoaaaGreatDoorLg
set_option linter.all false
set_option maxRecDepth 100000
namespace Go.Proofs.YtkipbccgnekoaaaGreatDoorLg
noncomputable section
open Go Go.Lift
def z18z : Code := (Tryz.f46.body).getD .skip
def z1tw : List (List Nat × List Nat) := [([0],[1,2,0]),([0,0,1],[11,2,1,0]),([1,0,1],[2,1,0]),([0,0,1,0,1],[6,7]),([1,0,1,0,1],[6,7]),([0,0,1,1],[14,1,0,2]),([1,0,1,1],[1,0,2]),([0,0,1,0,1,1],[6,7]),([1,0,1,0,1,1],[6,7]),([0,1,1,1],[8,0]),([0,1,1,1,1],[6,7]),([1,1,1,1,1],[6,7])]
def z1jg (N:Nat) : Env := z16 tys glob [(75,zk1 N),(73,zdj N),(74,zct N)] [] [] [] false [] [(123,zd N),(66,zb N),(98,z7 N)]
theorem z1j2 (N:Nat) : EnvOk Tryz.prog (z1jg N) := zk mixed zo (FnsOk.cons (zsx N) (FnsOk.cons (zkb N) (FnsOk.cons (zj1 N) (FnsOk.nil)))) (ItsOk.cons (zf N) (ItsOk.cons (ze N) (ItsOk.cons (z8 N) (ItsOk.nil))))
def zfz (N:Nat) (key:(List UInt8)) (nonce:(List UInt8)) (text:(List UInt8)) : Option ((List UInt8) × Int × Unit) :=
 cond ((((List.length nonce) : Nat) : Int) != (16 : Int))
 (some (([] : List UInt8),((7 : Int),())))
 (cond (decide ((4096 : Int) < (((List.length text) : Nat) : Int)))
 (some (([] : List UInt8),((3 : Int),())))
 ((z9i N key).bind fun y =>
 (zbf N y nonce text).bind fun y1 =>
 cond (decide (((List.length nonce) + (List.length y1)) <= 9223372036854775807))
 ((zk2 N key (nonce ++ y1)).bind fun y2 =>
 cond (decide (((List.length (nonce ++ y1)) + (List.length y2)) <= 9223372036854775807))
 (some (((nonce ++ y1) ++ y2),((0 : Int),())))
 (none))
 (none)))
def z1l9 (N:Nat) : Tab ((List UInt8) × Int × Unit) := []
theorem z185 (N:Nat) (x:z1h SQ2) : z2q (z1jg N) N (z1l9 N) z1tw Tryz.f46 (mkS SQ2 0 x) (z1d (.tup [.str,(.int .i64)]) 3) = zfz N x.1 x.2.1 x.2.2.1 := by kernel_rfl
def zhn (N:Nat) : List A -> Res := z10 SQ2 (fun x=>zfz N x.1 x.2.1 x.2.2.1) (z2p (.tup [.str,(.int .i64)]) 3)
theorem zqq (N:Nat) : Contract Tryz.prog glob 46 (zhn N) :=
  Contract.of (E := z1jg N) (H := z1l9 N) (L := z1tw) (N := N) (body := z18z) (K := (z1d (.tup [.str,(.int .i64)]) 3)) (z1j2 N) Tryz.func46 (by kernel_rfl) (by decide) (fun _ hb=>TabOk.nil) (fun x y h=>by rw [z185]; exact h) (zn (s := (.tup [.str,(.int .i64)])) (m := 3))
def z18y : Code := (Tryz.f20.body).getD .skip
def z1tv : List (List Nat × List Nat) := [([0],[0,1,2,3]),([0,1],[8,9]),([1,1],[8,9])]
def z1jf (N:Nat) : Env := z16 tys glob [(46,zhn N),(47,zdt N)] [] [] [] false [] [(123,zd N),(66,zb N),(98,z7 N)]
theorem z1j1 (N:Nat) : EnvOk Tryz.prog (z1jf N) := zk mixed zo (FnsOk.cons (zqq N) (FnsOk.cons (zlb N) (FnsOk.nil))) (ItsOk.cons (zf N) (ItsOk.cons (ze N) (ItsOk.cons (z8 N) (ItsOk.nil))))
def z4w (N:Nat) (notary:(List UInt8)) (nonce:(List UInt8)) (key:(List UInt8)) (text:(List UInt8)) : Option ((List UInt8) × Int × Unit) :=
 (z87 N ([key,text] : List (List UInt8))).bind fun y =>
 (zfz N notary nonce y).bind fun y1 =>
 some (y1.1,(y1.2.1,()))
def z1l8 (N:Nat) : Tab ((List UInt8) × Int × Unit) := []
theorem z184 (N:Nat) (x:z1h z1ic) : z2q (z1jf N) N (z1l8 N) z1tv Tryz.f20 (mkS z1ic 0 x) (z1d (.tup [.str,(.int .i64)]) 4) = z4w N x.1 x.2.1 x.2.2.1 x.2.2.2.1 := by kernel_rfl
def zej (N:Nat) : List A -> Res := z10 z1ic (fun x=>z4w N x.1 x.2.1 x.2.2.1 x.2.2.2.1) (z2p (.tup [.str,(.int .i64)]) 4)
theorem zo2 (N:Nat) : Contract Tryz.prog glob 20 (zej N) :=
  Contract.of (E := z1jf N) (H := z1l8 N) (L := z1tv) (N := N) (body := z18y) (K := (z1d (.tup [.str,(.int .i64)]) 4)) (z1j1 N) Tryz.func20 (by kernel_rfl) (by decide) (fun _ hb=>TabOk.nil) (fun x y h=>by rw [z184]; exact h) (zn (s := (.tup [.str,(.int .i64)])) (m := 4))
def zud : Code := (Tryz.f113.body).getD .skip
def z1is : List (List Nat × List Nat) := [([0],[0]),([0,0,1],[9,0]),([1,0,1],[0]),([0,0,1,0,1],[2,3,4]),([1,0,1,0,1],[2,3,4]),([0,1,1],[5,0]),([0,0,1,1,1],[10,5,0]),([0,1,0,1,1,1],[10,5,0]),([0,0,0,1,0,1,1,1],[11,10,5,0]),(z1ij,[10,5,0]),([1,0,1,0,0,1,0,1,1,1],[0,5]),([0,0,0,1,1,0,0,1,0,1,1,1],[5,0,6,10]),([1,0,0,1,1,0,0,1,0,1,1,1],[10,5,0]),([0,1,1,0,0,1,0,1,1,1],[10,5,0]),([1,1,1,0,0,1,0,1,1,1],[10,5,0]),([1,0,1,1,1],[0,5]),([0,1,1,1,1],[5,0]),(z1tm,[27,0,5]),(z166,[0,5]),(z168,[2,3,4]),([1,0,1,0,1,1,1,1,1],[2,3,4]),(z1tl,[2,3,4]),([1,1,1,1,1,1,1],[2,3,4])]
def z19t (N:Nat) : Env := z16 tys glob [] [] [] [] false [] [(123,zd N),(66,zb N),(98,z7 N)]
theorem z1j0 (N:Nat) : EnvOk Tryz.prog (z19t N) := zk mixed zo (FnsOk.nil) (ItsOk.cons (zf N) (ItsOk.cons (ze N) (ItsOk.cons (z8 N) (ItsOk.nil))))
def zjx (N:Nat) (s:(List UInt8)) (n:Int) (x10:Int) (rec:Int -> Int -> Option ((List UInt8) × (List UInt8) × Bool × Unit)) (k0:Int -> Option ((List UInt8) × (List UInt8) × Bool × Unit)) : Option ((List UInt8) × (List UInt8) × Bool × Unit) :=
 cond (decide (x10 < (8 : Int)))
 (cond (inR x10 (List.length s))
 (rec (zj Go.BinOp.or IntKind.u64 (z8a IntKind.u64 n (8 : Int)) (IntKind.wrap IntKind.u64 (((UInt8.toNat (List.getD s (Int.toNat x10) (0 : UInt8))) : Nat) : Int))) (IntKind.wrap IntKind.i64 (x10 + (1 : Int))))
 (none))
 (k0 n)
def zjy (N:Nat) (s:(List UInt8)) (n:Int) (x10:Int) (k0:Int -> Option ((List UInt8) × (List UInt8) × Bool × Unit)) : Option ((List UInt8) × (List UInt8) × Bool × Unit) :=
 iter (fun (v:(Int × Int)) r=>zjx N s v.1 v.2 (fun n x10=>(r (n,x10))) k0) N (n,x10)
def z1b9 (N:Nat) (i:(List UInt8)) (v:(Int × Int)) (r:(Int × Int) -> Option ((List UInt8) × (List UInt8) × Bool × Unit)) (K:Ex -> List A -> Option ((List UInt8) × (List UInt8) × Bool × Unit)) : Option ((List UInt8) × (List UInt8) × Bool × Unit) :=
 zjx N i v.1 v.2 (fun n x10=>(r (n,x10))) (fun a1=>(K (.exit 0) (mkS [(0,.v .str),(4,.v (.int .u64))] 28 (i,a1,()))))
def z1an (N:Nat) : Hd ((List UInt8) × (List UInt8) × Bool × Unit) := fun st K=>(unS [(0,.v .str),(4,.v (.int .u64)),(4,.v (.int .i64))] 23 (restr [10,5,0] 0 st)).bind fun x=>iter (fun v r=>z1b9 N ((fun x=>x.1) x) v r K) N ((fun x=>(x.2.1,x.2.2.1)) x)
def z1lt (N:Nat) : Tab ((List UInt8) × (List UInt8) × Bool × Unit) := []
theorem z1dk {N:Nat} {c:Ctx} (hb:Base Tryz.prog (z19t N) c) : zq Tryz.prog c (zm zud [0,1,0,1,1,1]) (z1an N) :=
  z1k (s := [(0,.v .str),(4,.v (.int .u64)),(4,.v (.int .i64))]) (m := 23) (z1b9 N) [10,5,0] N (fun x=>x.1) (fun x=>(x.2.1,x.2.2.1)) (fun i v=>(i,v.1,v.2,())) (fun _=>rfl) (zi hb N (z1lt N) z1is zud TabOk.nil z1bu _ rfl) (fun i v r K=>by kernel_rfl)
def zl6 (N:Nat) (s:(List UInt8)) : Option ((List UInt8) × (List UInt8) × Bool × Unit) :=
 cond (decide ((((List.length s) : Nat) : Int) < (8 : Int)))
 (some (([] : List UInt8),(([] : List UInt8),(false,()))))
 (zjy N s (0 : Int) (0 : Int)
 (fun n=>cond (decide (((0 : Int) <= (8 : Int)) /\ ((8 : Int) <= (((List.length s) : Nat) : Int))))
 (cond (decide ((IntKind.wrap IntKind.u64 (((List.length (cut s 8 (List.length s))) : Nat) : Int)) < n))
 (some (([] : List UInt8),(([] : List UInt8),(false,()))))
 (cond (decide (((0 : Int) <= n) /\ (n <= (((List.length (cut s 8 (List.length s))) : Nat) : Int))))
 (cond (decide (((0 : Int) <= n) /\ (n <= (((List.length (cut s 8 (List.length s))) : Nat) : Int))))
 (some ((cut (cut s 8 (List.length s)) 0 (Int.toNat n)),((cut (cut s 8 (List.length s)) (Int.toNat n) (List.length (cut s 8 (List.length s)))),(true,()))))
 (none))
 (none)))
 (none)))
def z1l7 (N:Nat) : Tab ((List UInt8) × (List UInt8) × Bool × Unit) := [([0,1,0,1,1,1],z1an N)]
theorem z183 (N:Nat) (x:z1h [(0,.v .str)]) : z2q (z19t N) N (z1l7 N) z1is Tryz.f113 (mkS [(0,.v .str)] 0 x) (z1d (.tup [.str,.str,.bool]) 1) = zl6 N x.1 := by kernel_rfl
def zni (N:Nat) : List A -> Res := z10 [(0,.v .str)] (fun x=>zl6 N x.1) (z2p (.tup [.str,.str,.bool]) 1)
theorem zxx (N:Nat) : Contract Tryz.prog glob 113 (zni N) :=
  Contract.of (E := z19t N) (H := z1l7 N) (L := z1is) (N := N) (body := zud) (K := (z1d (.tup [.str,.str,.bool]) 1)) (z1j0 N) Tryz.func113 (by kernel_rfl) (by decide) (fun _ hb=>(TabOk.cons (z1dk hb) TabOk.nil)) (fun x y h=>by rw [z183]; exact h) (zn (s := (.tup [.str,.str,.bool])) (m := 1))
def zuc : Code := (Tryz.f112.body).getD .skip
def z1ir : List (List Nat × List Nat) := [([0],[3,0]),([0,1],[3,0]),([0,0,0,0,1],[9,3,0]),([1,0,0,0,1],[3,0]),([1,1,0,0,0,1],[0]),([0,0,1,0,0,1],[0,4,6,5]),([0,0,1,0,1,0,0,1],[24,0,5]),([1,0,1,0,1,0,0,1],[5,0]),([0,1,0,1,0,1,0,0,1],[0]),([1,1,0,1,0,0,1],[3,0]),([1,0,0,1],[3,0]),([1],[0])]
def z19s (N:Nat) : Env := z16 tys glob [(113,zni N)] [] [] [0] false [] []
theorem z1iz (N:Nat) : EnvOk Tryz.prog (z19s N) := zk mixed zo (FnsOk.cons (zxx N) (FnsOk.nil)) ItsOk.nil
def zds (N:Nat) (s:(List UInt8)) (rec:(List UInt8) -> Option (List ((List UInt8) × Bool × Unit))) (k0:Option (List ((List UInt8) × Bool × Unit))) (k1:Option (List ((List UInt8) × Bool × Unit))) : Option (List ((List UInt8) × Bool × Unit)) :=
 cond (!(s == ([] : List UInt8)))
 ((zl6 N s).bind fun y =>
 zu0 (y.1,(y.2.2.1,()))
 (cond (!y.2.2.1)
 (k0)
 (rec y.2.1))
 (k0))
 (k1)
def ziv (N:Nat) (s:(List UInt8)) (k0:Option (List ((List UInt8) × Bool × Unit))) (k1:Option (List ((List UInt8) × Bool × Unit))) : Option (List ((List UInt8) × Bool × Unit)) :=
 iter (fun (v:(List UInt8)) r=>zds N v (fun s=>(r s)) k0 k1) N s
def z1b8 (N:Nat) (i:Unit) (v:(List UInt8)) (r:(List UInt8) -> Option (List ((List UInt8) × Bool × Unit))) (K:Ex -> List A -> Option (List ((List UInt8) × Bool × Unit))) : Option (List ((List UInt8) × Bool × Unit)) :=
 zds N v (fun s=>(r s)) (K .ret (mkS [(0,.yld)] 25 ((),()))) (K (.exit 0) (mkS [(0,.yld)] 25 ((),())))
def z1am (N:Nat) : Hd (List ((List UInt8) × Bool × Unit)) := fun st K=>(unS [(0,.yld),(2,.v .str)] 22 (restr [3,0] 0 st)).bind fun x=>iter (fun v r=>z1b8 N ((fun x=>()) x) v r K) N ((fun x=>x.2.1) x)
def z1ls (N:Nat) : Tab (List ((List UInt8) × Bool × Unit)) := []
theorem z1dj {N:Nat} {G:GY [.str,.bool]} (hG:zht G) (hev:z1u3 G Tryz.prog (z19s N) N z1ir zuc) : YOk G Tryz.prog (zm zuc [0,1]) (z1am N) :=
  zob hG (s := [(0,.yld),(2,.v .str)]) (m := 22) (z1b8 N) [3,0] N (fun x=>()) (fun x=>x.2.1) (fun i v=>((),v,())) (fun _=>rfl) (hev (z1ls N) TabOkY.nil [0,0,1]) (fun i v r K=>by kernel_rfl)
def zcm (N:Nat) (x1:(List UInt8)) : Option (List ((List UInt8) × Bool × Unit)) :=
 ziv N x1
 (some ([] : List ((List UInt8) × (Bool × Unit))))
 (some ([] : List ((List UInt8) × (Bool × Unit))))
def z1l6 (N:Nat) : Tab (List ((List UInt8) × Bool × Unit)) := [([0,1],z1am N)]
theorem z182 (N:Nat) (x:T.den (.pair (.ptr .str) .unit)) : z1jp (z19s N) [.str,.bool] zu0 N (z1l6 N) z1ir Tryz.f112 [.v (.ptr .str) x.1] = zcm N x.1 := by kernel_rfl
def z1v (N:Nat) : Dat -> ItRes := z11t (ts := [.str,.bool]) (.pair (.ptr .str) .unit) (fun x=>zcm N x.1)
theorem z2g (N:Nat) : ItOk Tryz.prog glob 112 (z1v N) := ItOk.of (ts := [.str,.bool]) (E := z19s N) (H := z1l6 N) (L := z1ir) (N := N) (body := zuc) (z1iz N) rfl Tryz.func112 (by kernel_rfl) (by decide) (fun G hG hev=>(TabOkY.cons (z1dj hG hev) TabOkY.nil)) (fun x y h=>⟨_,rfl,by rw [z182]; exact h⟩)
def z18x : Code := (Tryz.f104.body).getD .skip
def z1tu : List (List Nat × List Nat) := [([0],[1]),([0,1],[2]),([1,1],[2])]
def z1je (N:Nat) : Env := z16 tys glob [] [] [] [] false [] [(112,z1v N),(123,zd N),(66,zb N),(98,z7 N)]
theorem z1iy (N:Nat) : EnvOk Tryz.prog (z1je N) := zk mixed zo (FnsOk.nil) (ItsOk.cons (z2g N) (ItsOk.cons (zf N) (ItsOk.cons (ze N) (ItsOk.cons (z8 N) (ItsOk.nil)))))
def zsj (N:Nat) (s:(List UInt8)) : Option z6w :=
 some (s,())
def z1l5 (N:Nat) : Tab z6w := []
theorem z181 (N:Nat) (x:z1h [(0,.v .str)]) : z2q (z1je N) N (z1l5 N) z1tu Tryz.f104 (mkS [(0,.v .str)] 0 x) (z1d (.v (.fn 112 (.pair (.ptr .str) .unit))) 1) = zsj N x.1 := by kernel_rfl
def ziu (N:Nat) : List A -> Res := z10 [(0,.v .str)] (fun x=>zsj N x.1) (z2p (.v (.fn 112 (.pair (.ptr .str) .unit))) 1)
theorem ztp (N:Nat) : Contract Tryz.prog glob 104 (ziu N) :=
  Contract.of (E := z1je N) (H := z1l5 N) (L := z1tu) (N := N) (body := z18x) (K := (z1d (.v (.fn 112 (.pair (.ptr .str) .unit))) 1)) (z1iy N) Tryz.func104 (by kernel_rfl) (by decide) (fun _ hb=>TabOk.nil) (fun x y h=>by rw [z181]; exact h) (zn (s := (.v (.fn 112 (.pair (.ptr .str) .unit)))) (m := 1))
def zoj : Code := (Tryz.f80.body).getD .skip
def z1iq : List (List Nat × List Nat) := [([0],[0,2,3]),([0,1],[0,4,2,3]),([0,0,1,1],[8,4,2,3]),([0,1,0,1,1],[4,2,3]),(z16h,[10,2,3,4,5]),([1,0,0,1,0,1,1],[6,2,3,4,5]),([0,0,0,1,0,1,0,1,1],[12,2,3,4,5]),([1,0,0,1,0,1,0,1,1],[4,5,2,3]),([0,0,1,0,0,1,0,1,0,1,1],[2,3]),([1,0,1,0,0,1,0,1,0,1,1],[2,3]),([1,0,1,0,1,0,1,1],[4,2,3]),([1,0,1,0,1,1],[4,2,3]),([1,0,1,1],[4,2,3]),([0,1,1,1],[2,3]),([1,1,1,1],[2,3])]
def z16a (N:Nat) : Env := z16 tys glob [(104,ziu N)] [] [] [] false [(4,(.own .str))] [(112,z1v N),(123,zd N),(66,zb N),(98,z7 N)]
theorem z1ix (N:Nat) : EnvOk Tryz.prog (z16a N) := zk mixed zo (FnsOk.cons (ztp N) (FnsOk.nil)) (ItsOk.cons (z2g N) (ItsOk.cons (zf N) (ItsOk.cons (ze N) (ItsOk.cons (z8 N) (ItsOk.nil)))))
def z8v (N:Nat) (x2_1:(List (List UInt8))) (x3_1:Bool) (parts_1:(List (List UInt8))) (y:((List UInt8) × Bool × Unit)) (rec:(List (List UInt8)) -> Option ((List (List UInt8)) × Bool × Unit)) (k0:(List (List UInt8)) -> Bool -> (List (List UInt8)) -> Option ((List (List UInt8)) × Bool × Unit)) (k1:(List (List UInt8)) -> Option ((List (List UInt8)) × Bool × Unit)) : Option ((List (List UInt8)) × Bool × Unit) :=
 cond (!y.2.1)
 (k0 ([] : List (List UInt8)) false parts_1)
 (cond (decide ((((List.length parts_1) + 1) * 16) <= 70368744177664))
 (rec (parts_1 ++ ([y.1] : List (List UInt8))))
 (none))
def z8w (N:Nat) (x2:(List (List UInt8))) (x3:Bool) (parts:(List (List UInt8))) (x8:z6w) : Option (List ((List UInt8) × Bool × Unit)) := (zcm N x8.1)
def zfq (N:Nat) (x2:(List (List UInt8))) (x3:Bool) (parts:(List (List UInt8))) (x8:z6w) : ((List (List UInt8)) × Bool) := (x2,x3)
def zl7 (N:Nat) (x2:(List (List UInt8))) (x3:Bool) (parts:(List (List UInt8))) (x8:z6w) : (List (List UInt8)) := parts
def zl8 (N:Nat) (x2:(List (List UInt8))) (x3:Bool) (parts:(List (List UInt8))) (x8:z6w) (k0:(List (List UInt8)) -> Bool -> (List (List UInt8)) -> Option ((List (List UInt8)) × Bool × Unit)) (k1:(List (List UInt8)) -> Option ((List (List UInt8)) × Bool × Unit)) : Option ((List (List UInt8)) × Bool × Unit) :=
 (z8w N x2 x3 parts x8).bind fun ys=>zem (fun (y:((List UInt8) × Bool × Unit)) (v:(List (List UInt8))) r=>z8v N x2 x3 v y (fun parts_1=>(r parts_1)) k0 k1) (fun (v:(List (List UInt8)))=>k1 v) ys parts
def z1b7 (N:Nat) (y:((List UInt8) × Bool × Unit)) (i:((List (List UInt8)) × Bool)) (v:(List (List UInt8))) (r:(List (List UInt8)) -> Option ((List (List UInt8)) × Bool × Unit)) (K:Ex -> List A -> Option ((List (List UInt8)) × Bool × Unit)) : Option ((List (List UInt8)) × Bool × Unit) :=
 z8v N i.1 i.2 v y (fun parts_1=>(r parts_1)) (fun a0 a1 a2=>(K .ret (mkS SQ49 13 (a0,a1,a2,())))) (fun a2=>(K .normal (mkS SQ49 13 (i.1,i.2,a2,()))))
def z1al (N:Nat) : Hd ((List (List UInt8)) × Bool × Unit) := fun st K=>(unS [(2,.box (.sl .str)),(0,.box .bool),(0,.box (.own .str)),(3,.v (.fn 112 (.pair (.ptr .str) .unit)))] 9 (restr [8,4,2,3] 0 st)).bind fun x=>((fun x=>z8w N x.1 x.2.1 x.2.2.1 x.2.2.2.1) x).bind fun xs=>zem (fun y v r=>z1b7 N y ((fun x=>zfq N x.1 x.2.1 x.2.2.1 x.2.2.2.1) x) v r K) (fun v=>K .normal (mkS SQ49 13 ((fun i v=>(i.1,i.2,v,())) ((fun x=>zfq N x.1 x.2.1 x.2.2.1 x.2.2.2.1) x) v))) xs ((fun x=>zl7 N x.1 x.2.1 x.2.2.1 x.2.2.2.1) x)
theorem z1di {N:Nat} {c:Ctx} (hb:Base Tryz.prog (z16a N) c) : zq Tryz.prog c (zm zoj [0,1,0,1,1]) (z1al N) :=
  z17h (ts := [.str,.bool]) (s := [(2,.box (.sl .str)),(0,.box .bool),(0,.box (.own .str)),(3,.v (.fn 112 (.pair (.ptr .str) .unit)))]) (m := 9) (s2 := SQ49) (m2 := 13) [8,4,2,3] (fun x=>z8w N x.1 x.2.1 x.2.2.1 x.2.2.2.1) (fun x=>zfq N x.1 x.2.1 x.2.2.1 x.2.2.2.1) (fun x=>zl7 N x.1 x.2.1 x.2.2.1 x.2.2.2.1) (fun i v=>(i.1,i.2,v,())) (rfF (z16a N) N [.str,.bool] (zm zoj [0,1,0,1,1])) (z1b7 N) (zi hb N [] z1iq zoj TabOk.nil [0,1,0,1,1] _ rfl) (fun x K=>by kernel_rfl) (fun y i v r K=>by kernel_rfl)
def zen (N:Nat) (s:(List UInt8)) : Option ((List (List UInt8)) × Bool × Unit) :=
 zl8 N ([] : List (List UInt8)) false ([] : List (List UInt8)) (s,())
 (fun x2 x3 parts=>some (x2,(x3,())))
 (fun parts_1=>some (parts_1,(true,())))
def z1l4 (N:Nat) : Tab ((List (List UInt8)) × Bool × Unit) := [([0,1,0,1,1],z1al N)]
theorem z180 (N:Nat) (x:z1h [(0,.v .str)]) : z2q (z16a N) N (z1l4 N) z1iq Tryz.f80 (mkS [(0,.v .str)] 0 x) (z1d (.tup [(.sl .str),.bool]) 1) = zen N x.1 := by kernel_rfl
def ziy (N:Nat) : List A -> Res := z10 [(0,.v .str)] (fun x=>zen N x.1) (z2p (.tup [(.sl .str),.bool]) 1)
theorem ztr (N:Nat) : Contract Tryz.prog glob 80 (ziy N) :=
  Contract.of (E := z16a N) (H := z1l4 N) (L := z1iq) (N := N) (body := zoj) (K := (z1d (.tup [(.sl .str),.bool]) 1)) (z1ix N) Tryz.func80 (by kernel_rfl) (by decide) (fun _ hb=>(TabOk.cons (z1di hb) TabOk.nil)) (fun x y h=>by rw [z180]; exact h) (zn (s := (.tup [(.sl .str),.bool])) (m := 1))
def zbc : Code := (Tryz.f48.body).getD .skip
def z12l : List (List Nat × List Nat) := [([0],[0,1,4,5]),([0,0,1],[6,7,4,5]),([0,0,1,0,1],[19,6,7,4,5]),([1,0,1,0,1],[7,4,5,6]),([0,0,1,0,1,0,1],[4,5,6]),([1,0,1,0,1,0,1],[4,5,6]),([0,1,1,0,1],[9,8,4,5,6]),([0,0,1,1,1,0,1],[32,8,4,5,6]),([1,0,1,1,1,0,1],[8,4,5,6]),([0,0,1,0,1,1,1,0,1],[4,5,6]),([1,0,1,0,1,1,1,0,1],[4,5,6]),([0,0,1,1,1,1,1,0,1],z163),(z1jy,z163),([0,0,0,1,0,1,1,1,1,1,0,1],[36,35,33,34,5,6,4]),([0,1,0,0,1,0,1,1,1,1,1,0,1],[35,33,34,5,6,4]),([1,0,1,0,0,1,0,1,1,1,1,1,0,1],[4,5,6]),([0,0,0,1,1,0,0,1,0,1,1,1,1,1,0,1],[10,11,35,34,33,5,6,4]),([0,1,0,0,1,1,0,0,1,0,1,1,1,1,1,0,1],[40,11,35,34,33,5,6,4]),([0,0,1,1,0,0,1,1,0,0,1,0,1,1,1,1,1,0,1],[41,11,35,34,33,5,6,40,4]),([1,0,1,1,0,0,1,1,0,0,1,0,1,1,1,1,1,0,1],z163),([0,1,1,0,1,1,0,0,1,1,0,0,1,0,1,1,1,1,1,0,1],[44,11,35,34,33,4,6]),([1,1,1,0,1,1,0,0,1,1,0,0,1,0,1,1,1,1,1,0,1],z163),([0,1,1,1,1,0,1,1,0,0,1,1,0,0,1,0,1,1,1,1,1,0,1],[4,5,6]),([1,1,1,1,1,0,1,1,0,0,1,1,0,0,1,0,1,1,1,1,1,0,1],[4,5,6]),([0,1,1,1,0,1,1,0,0,1,1,0,0,1,0,1,1,1,1,1,0,1],z163),([0,1,0,1,1,0,0,1,1,0,0,1,0,1,1,1,1,1,0,1],z163),([1,1,0,0,1,1,0,0,1,0,1,1,1,1,1,0,1],z163),([0,1,1,0,0,1,0,1,1,1,1,1,0,1],z163),([1,1,1,0,0,1,0,1,1,1,1,1,0,1],z163),([1,0,1,1,1,1,1,0,1],[4,5,6]),([0,1,1,1,1,1,1,0,1],[4,5,6]),([1,1,1,1,1,1,1,0,1],[4,5,6]),([1],[4,5,6])]
def zz8 (N:Nat) : Env := z16 tys glob [(80,ziy N),(79,zho N)] [] [] [] false [] [(112,z1v N),(123,zd N),(66,zb N),(98,z7 N)]
theorem z1iw (N:Nat) : EnvOk Tryz.prog (zz8 N) := zk mixed zo (FnsOk.cons (ztr N) (FnsOk.cons (zqr N) (FnsOk.nil))) (ItsOk.cons (z2g N) (ItsOk.cons (zf N) (ItsOk.cons (ze N) (ItsOk.cons (z8 N) (ItsOk.nil)))))
def zdp (N:Nat) (key:(List UInt8)) (text:(List UInt8)) (e:Int) (parts:(List (List UInt8))) (ok:Bool) (k0:Bool -> Option zk4) : Option zk4 :=
 cond (!ok)
 (k0 true)
 (k0 (decide ((((List.length parts) : Nat) : Int) < (2 : Int))))
def z1b2 (N:Nat) (x:z1h z1jx) (K:Ex -> List A -> Option zk4) : Option zk4 :=
 zdp N x.1 x.2.1 x.2.2.1 x.2.2.2.1 x.2.2.2.2.1 (fun a4=>(K .normal (mkS [(4,.v .str),(0,.v .str),(0,.v (.int .i64)),(1,.v (.sl .str)),(23,.v .bool)] 18 (x.1,x.2.1,x.2.2.1,x.2.2.2.1,a4,()))))
def z1ag (N:Nat) : Hd zk4 := fun st K=>(unS z1jx 41 (restr [9,8,4,5,6] 0 st)).bind fun x=>z1b2 N x K
def z1ln (N:Nat) : Tab zk4 := []
theorem z1dd {N:Nat} {c:Ctx} (hb:Base Tryz.prog (zz8 N) c) : zq Tryz.prog c (zm zbc [0,0,1,1,1,0,1]) (z1ag N) :=
  z17 (s := z1jx) (m := 41) (g := z1b2 N) [9,8,4,5,6] (zi hb N (z1ln N) z12l zbc TabOk.nil [0,0,1,1,1,0,1] _ rfl) (fun x K=>by kernel_rfl)
def zdq (N:Nat) (key:(List UInt8)) (text:(List UInt8)) (e:Int) (parts:(List (List UInt8))) (ok:Bool) (k0:(List UInt8) -> (List UInt8) -> Int -> Option zk4) (k1:Option zk4) : Option zk4 :=
 zdp N key text e parts ok
 (fun x32=>cond x32
 (k0 ([] : List UInt8) ([] : List UInt8) (2 : Int))
 (k1))
def z1b6 (N:Nat) (x:z1h z1jx) (K:Ex -> List A -> Option zk4) : Option zk4 :=
 zdq N x.1 x.2.1 x.2.2.1 x.2.2.2.1 x.2.2.2.2.1 (fun a0 a1 a2=>(K .ret (mkS z1i7 44 (a0,a1,a2,())))) (K .normal (mkS SQ37 42 (x.1,x.2.1,x.2.2.1,x.2.2.2.1,())))
def z1ak (N:Nat) : Hd zk4 := fun st K=>(unS z1jx 41 (restr [9,8,4,5,6] 0 st)).bind fun x=>z1b6 N x K
def z1lr (N:Nat) : Tab zk4 := [([0,0,1,1,1,0,1],z1ag N)]
theorem z1dh {N:Nat} {c:Ctx} (hb:Base Tryz.prog (zz8 N) c) : zq Tryz.prog c (zm zbc [0,1,1,1,0,1]) (z1ak N) :=
  z17 (s := z1jx) (m := 41) (g := z1b6 N) [9,8,4,5,6] (zi hb N (z1lr N) z12l zbc (TabOk.cons (z1dd hb) TabOk.nil) [0,1,1,1,0,1] _ rfl) (fun x K=>by kernel_rfl)
def z78 (N:Nat) (e:Int) (x33:(List (List UInt8))) (x34:Int) (key:(List UInt8)) (text:(List UInt8)) (x35:Int) (rec:(List UInt8) -> (List UInt8) -> Int -> Option zk4) (k0:(List UInt8) -> (List UInt8) -> Int -> Option zk4) : Option zk4 :=
 cond (decide (x35 < x34))
 (cond (inR x35 (List.length x33))
 (cond (x35 == (0 : Int))
 (rec (List.getD x33 (Int.toNat x35) ([] : List UInt8)) text (IntKind.wrap IntKind.i64 (x35 + (1 : Int))))
 (cond (x35 == (1 : Int))
 (rec key (List.getD x33 (Int.toNat x35) ([] : List UInt8)) (IntKind.wrap IntKind.i64 (x35 + (1 : Int))))
 (k0 ([] : List UInt8) ([] : List UInt8) (2 : Int))))
 (none))
 (k0 key text e)
def zdn (N:Nat) (key:(List UInt8)) (text:(List UInt8)) (e:Int) (x33:(List (List UInt8))) (x34:Int) (x35:Int) (k0:(List UInt8) -> (List UInt8) -> Int -> Option zk4) : Option zk4 :=
 iter (fun (v:((List UInt8) × (List UInt8) × Int)) r=>z78 N e x33 x34 v.1 v.2.1 v.2.2 (fun key text x35=>(r (key,text,x35))) k0) N (key,text,x35)
def z1ax (N:Nat) (i:(Int × (List (List UInt8)) × Int)) (v:((List UInt8) × (List UInt8) × Int)) (r:((List UInt8) × (List UInt8) × Int) -> Option zk4) (K:Ex -> List A -> Option zk4) : Option zk4 :=
 z78 N i.1 i.2.1 i.2.2 v.1 v.2.1 v.2.2 (fun key text x35=>(r (key,text,x35))) (fun a0 a1 a2=>(K (.exit 0) (mkS z1i7 44 (a0,a1,a2,()))))
def z1ab (N:Nat) : Hd zk4 := fun st K=>(unS SQ58 15 (restr z163 0 st)).bind fun x=>iter (fun v r=>z1ax N ((fun x=>(x.2.2.1,x.2.2.2.1,x.2.2.2.2.1)) x) v r K) N ((fun x=>(x.1,x.2.1,x.2.2.2.2.2.1)) x)
def z1li (N:Nat) : Tab zk4 := []
theorem z1d8 {N:Nat} {c:Ctx} (hb:Base Tryz.prog (zz8 N) c) : zq Tryz.prog c (zm zbc z1jy) (z1ab N) :=
  z1k (s := SQ58) (m := 15) (z1ax N) z163 N (fun x=>(x.2.2.1,x.2.2.2.1,x.2.2.2.2.1)) (fun x=>(x.1,x.2.1,x.2.2.2.2.2.1)) (fun i v=>(v.1,v.2.1,i.1,i.2.1,i.2.2,v.2.2,())) (fun _=>rfl) (zi hb N (z1li N) z12l zbc TabOk.nil [0,0,1,0,1,1,1,1,1,0,1] _ rfl) (fun i v r K=>by kernel_rfl)
def zdo (N:Nat) (key:(List UInt8)) (text:(List UInt8)) (e:Int) (parts:(List (List UInt8))) (k0:(List UInt8) -> (List UInt8) -> Int -> Option zk4) : Option zk4 :=
 zdn N key text e parts (((List.length parts) : Nat) : Int) (0 : Int)
 (fun zxs text1 e1=>k0 zxs text1 e1)
def z1az (N:Nat) (x:z1h SQ37) (K:Ex -> List A -> Option zk4) : Option zk4 :=
 zdo N x.1 x.2.1 x.2.2.1 x.2.2.2.1 (fun a0 a1 a2=>(K .normal (mkS z1i7 44 (a0,a1,a2,()))))
def z1ad (N:Nat) : Hd zk4 := fun st K=>(unS SQ37 42 (restr [8,4,5,6] 0 st)).bind fun x=>z1az N x K
def z1lk (N:Nat) : Tab zk4 := [(z1jy,z1ab N)]
theorem z1da {N:Nat} {c:Ctx} (hb:Base Tryz.prog (zz8 N) c) : zq Tryz.prog c (zm zbc z12k) (z1ad N) :=
  z17 (s := SQ37) (m := 42) (g := z1az N) [8,4,5,6] (zi hb N (z1lk N) z12l zbc (TabOk.cons (z1d8 hb) TabOk.nil) z12k _ rfl) (fun x K=>by kernel_rfl)
def z5u (N:Nat) (notary:(List UInt8)) (ticket:(List UInt8)) : Option zk4 :=
 (z5o N notary ticket).bind fun y =>
 cond (y.2.1 != (0 : Int))
 (some (([] : List UInt8),(([] : List UInt8),(y.2.1,()))))
 ((zen N y.1).bind fun y1 =>
 zdq N ([] : List UInt8) ([] : List UInt8) y.2.1 y1.1 y1.2.1
 (fun key text e=>some (key,(text,(e,()))))
 (zdo N ([] : List UInt8) ([] : List UInt8) y.2.1 y1.1
 (fun zxs text1 e1=>some (zxs,(text1,(e1,()))))))
def z1l3 (N:Nat) : Tab zk4 := [([0,1,1,1,0,1],z1ak N),(z12k,z1ad N)]
theorem z17z (N:Nat) (x:z1h SQ0) : z2q (zz8 N) N (z1l3 N) z12l Tryz.f48 (mkS SQ0 0 x) (z1d (.tup [.str,.str,(.int .i64)]) 2) = z5u N x.1 x.2.1 := by kernel_rfl
def zcf (N:Nat) : List A -> Res := z10 SQ0 (fun x=>z5u N x.1 x.2.1) (z2p (.tup [.str,.str,(.int .i64)]) 2)
theorem zis (N:Nat) : Contract Tryz.prog glob 48 (zcf N) :=
  Contract.of (E := zz8 N) (H := z1l3 N) (L := z12l) (N := N) (body := zbc) (K := (z1d (.tup [.str,.str,(.int .i64)]) 2)) (z1iw N) Tryz.func48 (by kernel_rfl) (by decide) (fun _ hb=>(TabOk.cons (z1dh hb) (TabOk.cons (z1da hb) TabOk.nil))) (fun x y h=>by rw [z17z]; exact h) (zn (s := (.tup [.str,.str,(.int .i64)])) (m := 2))
def zln : Code := (Tryz.f22.body).getD .skip
def z19o : List (List Nat × List Nat) := [([0],[4,1,8,3,2]),([0,1],[10,1,8,4,3,2]),([0,0,1,1],[21,8,4,3,2,1,10]),([1,0,1,1],[4,3,2,8,1,10]),([0,0,1,0,1,1],[8,9]),([1,0,1,0,1,1],[8,9]),([0,1,1,1],[12,8,1,11,10]),([0,0,1,1,1,1],[33,12,8,1,11,10]),([1,0,1,1,1,1],[1,11,10,8]),(z1k0,[8,9]),(z19m,[8,9]),([0,1,1,1,1,1],[10,8]),(z1tl,[8,9]),([1,1,1,1,1,1,1],[8,9])]
def z169 (N:Nat) : Env := z16 tys glob [(46,zhn N),(50,zdu N),(51,z42 N),(49,z4h N)] [] [] [] false [] [(112,z1v N),(123,zd N),(66,zb N),(98,z7 N)]
theorem z1iv (N:Nat) : EnvOk Tryz.prog (z169 N) := zk mixed zo (FnsOk.cons (zqq N) (FnsOk.cons (zli N) (FnsOk.cons (z86 N) (FnsOk.cons (z8t N) (FnsOk.nil))))) (ItsOk.cons (z2g N) (ItsOk.cons (zf N) (ItsOk.cons (ze N) (ItsOk.cons (z8 N) (ItsOk.nil)))))
def zcj (N:Nat) (cid:(List UInt8)) (key:(List UInt8)) (nonce:(List UInt8)) (t:DT1) (x8:DT1) (a:(DT8 × (DT1 × Unit))) (k0:Bool -> Option (DT1 × Int × Unit)) : Option (DT1 × Int × Unit) :=
 cond (decide ((64 : Int) <= (((List.length a.2.1.2.1) : Nat) : Int)))
 (k0 true)
 (k0 (decide ((4144 : Int) < (((List.length cid) : Nat) : Int))))
def z1b1 (N:Nat) (x:z1h SQ4) (K:Ex -> List A -> Option (DT1 × Int × Unit)) : Option (DT1 × Int × Unit) :=
 zcj N x.1 x.2.1 x.2.2.1 x.2.2.2.1 x.2.2.2.2.1 x.2.2.2.2.2.1 (fun a6=>(K .normal (mkS [(1,.v .str),(0,.v .str),(0,.v .str),(0,.box TT0),(3,.box TT0),(1,.box (.pair zk3 (.pair TT0 .unit))),(10,.v .bool)] 22 (x.1,x.2.1,x.2.2.1,x.2.2.2.1,x.2.2.2.2.1,x.2.2.2.2.2.1,a6,()))))
def z1af (N:Nat) : Hd (DT1 × Int × Unit) := fun st K=>(unS SQ4 33 (restr [10,1,8,4,3,2] 0 st)).bind fun x=>z1b1 N x K
def z1lm (N:Nat) : Tab (DT1 × Int × Unit) := []
theorem z1dc {N:Nat} {c:Ctx} (hb:Base Tryz.prog (z169 N) c) : zq Tryz.prog c (zm zln [0,0,1,1]) (z1af N) :=
  z17 (s := SQ4) (m := 33) (g := z1b1 N) [10,1,8,4,3,2] (zi hb N (z1lm N) z19o zln TabOk.nil [0,0,1,1] _ rfl) (fun x K=>by kernel_rfl)
def zck (N:Nat) (cid:(List UInt8)) (key:(List UInt8)) (nonce:(List UInt8)) (t:DT1) (x8:DT1) (a:(DT8 × (DT1 × Unit))) (k0:DT1 -> Int -> Option (DT1 × Int × Unit)) (k1:Option (DT1 × Int × Unit)) : Option (DT1 × Int × Unit) :=
 zcj N cid key nonce t x8 a
 (fun x21=>cond x21
 (k0 (([] : List UInt8),(([] : List DT8),(([] : List UInt8),()))) (3 : Int))
 (k1))
def z1b5 (N:Nat) (x:z1h SQ4) (K:Ex -> List A -> Option (DT1 × Int × Unit)) : Option (DT1 × Int × Unit) :=
 zck N x.1 x.2.1 x.2.2.1 x.2.2.2.1 x.2.2.2.2.1 x.2.2.2.2.2.1 (fun a0 a1=>(K .ret (mkS [(8,.box TT0),(0,.v (.int .i64))] 34 (a0,a1,())))) (K .normal (mkS SQ4 33 (x.1,x.2.1,x.2.2.1,x.2.2.2.1,x.2.2.2.2.1,x.2.2.2.2.2.1,())))
def z1aj (N:Nat) : Hd (DT1 × Int × Unit) := fun st K=>(unS SQ4 33 (restr [10,1,8,4,3,2] 0 st)).bind fun x=>z1b5 N x K
def z1lq (N:Nat) : Tab (DT1 × Int × Unit) := [([0,0,1,1],z1af N)]
theorem z1dg {N:Nat} {c:Ctx} (hb:Base Tryz.prog (z169 N) c) : zq Tryz.prog c (zm zln [0,1,1]) (z1aj N) :=
  z17 (s := SQ4) (m := 33) (g := z1b5 N) [10,1,8,4,3,2] (zi hb N (z1lq N) z19o zln (TabOk.cons (z1dc hb) TabOk.nil) [0,1,1] _ rfl) (fun x K=>by kernel_rfl)
def z5y (N:Nat) (t:DT1) (cid:(List UInt8)) (key:(List UInt8)) (nonce:(List UInt8)) : Option (DT1 × Int × Unit) :=
 zck N cid key nonce t (([] : List UInt8),(([] : List DT8),(([] : List UInt8),()))) ((([] : List UInt8),(([] : List UInt8),())),(t,()))
 (fun x8 x9=>some (x8,(x9,())))
 ((zbj N t.2.2.1).bind fun y =>
 (zfz N y nonce key).bind fun y1 =>
 cond (y1.2.1 != (0 : Int))
 (some ((([] : List UInt8),(([] : List DT8),(([] : List UInt8),()))),(y1.2.1,())))
 ((z1u N ((cid,(y1.1,())),(t,()))).bind fun y2 =>
 some (y2,((0 : Int),()))))
def z1l2 (N:Nat) : Tab (DT1 × Int × Unit) := [([0,1,1],z1aj N)]
theorem z17y (N:Nat) (x:z1h z1ib) : z2q (z169 N) N (z1l2 N) z19o Tryz.f22 (mkS z1ib 0 x) (z1d (.tup [TT0,(.int .i64)]) 4) = z5y N x.1 x.2.1 x.2.2.1 x.2.2.2.1 := by kernel_rfl
def zgg (N:Nat) : List A -> Res := z10 z1ib (fun x=>z5y N x.1 x.2.1 x.2.2.1 x.2.2.2.1) (z2p (.tup [TT0,(.int .i64)]) 4)
theorem zq7 (N:Nat) : Contract Tryz.prog glob 22 (zgg N) :=
  Contract.of (E := z169 N) (H := z1l2 N) (L := z19o) (N := N) (body := zln) (K := (z1d (.tup [TT0,(.int .i64)]) 4)) (z1iv N) Tryz.func22 (by kernel_rfl) (by decide) (fun _ hb=>(TabOk.cons (z1dg hb) TabOk.nil)) (fun x y h=>by rw [z17y]; exact h) (zn (s := (.tup [TT0,(.int .i64)])) (m := 4))
def z18w : Code := (Tryz.f24.body).getD .skip
def z1tt : List (List Nat × List Nat) := [([0],[3,2,4]),([0,1],[2,3,5,4]),([0,1,1],[5,4]),([0,1,1,1],[4]),([1,1,1,1],[4])]
def z1jd (N:Nat) : Env := z16 tys glob [(53,zdv N),(52,z7d N)] [] [] [] false [] [(112,z1v N),(123,zd N),(66,zb N),(98,z7 N)]
theorem z1iu (N:Nat) : EnvOk Tryz.prog (z1jd N) := zk mixed zo (FnsOk.cons (zlj N) (FnsOk.cons (zci N) (FnsOk.nil))) (ItsOk.cons (z2g N) (ItsOk.cons (zf N) (ItsOk.cons (ze N) (ItsOk.cons (z8 N) (ItsOk.nil)))))
def z7u (N:Nat) (t:DT1) (discharge:DT1) : Option DT1 :=
 (z5x N discharge).bind fun y =>
 (zbk N t.2.2.1 discharge.2.2.1).bind fun y1 =>
 some (y.1,(y.2.1,(y1,y.2.2.2)))
def z1l1 (N:Nat) : Tab DT1 := []
theorem z17x (N:Nat) (x:z1h z1ia) : z2q (z1jd N) N (z1l1 N) z1tt Tryz.f24 (mkS z1ia 0 x) (z1d (.v TT0) 2) = z7u N x.1 x.2.1 := by kernel_rfl
def zcl (N:Nat) : List A -> Res := z10 z1ia (fun x=>z7u N x.1 x.2.1) (z2p (.v TT0) 2)
theorem zit (N:Nat) : Contract Tryz.prog glob 24 (zcl N) :=
  Contract.of (E := z1jd N) (H := z1l1 N) (L := z1tt) (N := N) (body := z18w) (K := (z1d (.v TT0) 2)) (z1iu N) Tryz.func24 (by kernel_rfl) (by decide) (fun _ hb=>TabOk.nil) (fun x y h=>by rw [z17x]; exact h) (zn (s := (.v TT0)) (m := 2))
end
end Go.Proofs.YtkipbccgnekoaaaGreatDoorLg
set_option linter.all false
namespace Go.Proofs.YtkipbccgnekoaaaGreatDoorLg
noncomputable section
open Go Go.Lift
theorem zoe {α σ β : Type} {step : α -> σ -> (σ -> Option β) -> Option β} {fin : σ -> Option β} (I : σ -> List α -> Prop) (g : σ -> α -> σ)
    (h : ∀ y ys v r,I v (y :: ys) -> step y v r = r (g v y) /\ I (g v y) ys) : ∀ (xs:List α) (v : σ),I v xs -> zem step fin xs v = fin (xs.foldl g v)
  | [],v,_=>rfl
  | y :: ys,v,hI=>by
    obtain ⟨h1,h2⟩ := h y ys v (zem step fin ys) hI
    rw [zem,h1,zoe I g h ys _ h2]; rfl
theorem zeu {α : Type} (y : α) (l:List α) : zu0 y (some l) (some []) = some (y :: l) := rfl
theorem toStr_ofStr (s:List UInt8) : z2f (z57 s) = s := by
  induction s with
  | nil=>rfl
  | cons b s ih =>
    simp only [z2f,z57,List.map_cons,List.cons.injEq]
    refine ⟨?_,by simpa [z2f,z57] using ih⟩
    apply UInt8.toNat_inj.1
    simp
theorem zvg (s:List UInt8) : (z57 s).all (fun n=>decide (0 <= n) && decide (n < 256)) = true := by
  rw [List.all_eq_true]
  intro n hn
  obtain ⟨b,_,rfl⟩ := List.mem_map.1 hn
  have := b.toNat_lt
  simp only [Bool.and_eq_true,decide_eq_true_eq]
  omega
end
end Go.Proofs.YtkipbccgnekoaaaGreatDoorLg
set_option linter.all false
namespace Go.Proofs.YtkipbccgnekoaaaGreatDoorPx
noncomputable section
open Go Go.Lift
theorem z28 {σ β : Type} {step : σ -> (σ -> Option β) -> Option β} (I : σ -> Prop) (m : σ -> Nat) (R : σ -> Option β)
    (h : ∀ v r,I v -> (∀ v',I v' -> m v' < m v -> r v' = R v') -> step v r = R v) : ∀ (n:Nat) (v : σ),I v -> m v < n -> iter step n v = R v
  | 0,v,_,hm=>by omega
  | n + 1,v,hv,hm=>h v (iter step n) hv fun v' hv' hlt=>z28 I m R h n v' hv' (by omega)
theorem z1k8 (x:Int) : IntKind.wrap .i64 x = (x + 9223372036854775808) % 18446744073709551616 - 9223372036854775808 := by
  simp only [IntKind.wrap,IntKind.bits,IntKind.signed,Bool.true_and,decide_eq_true_eq,Nat.add_one_sub_one,Int.reducePow,ge_iff_le]
  split <;> omega
def I64 (x:Int) : Prop := -9223372036854775808 <= x /\ x <= 9223372036854775807
instance (x:Int) : Decidable (I64 x) := by unfold I64; infer_instance
theorem z1o {x:Int} (h:I64 x) : IntKind.wrap .i64 x = x := by
  rw [z1k8]; unfold I64 at h; omega
theorem zg {α : Type} {b:Bool} (h:b = true) (x y : α) : cond b x y = x := by rw [h]; rfl
theorem zu {α : Type} {b:Bool} (h:b = false) (x y : α) : cond b x y = y := by rw [h]; rfl
theorem z14 {n len:Nat} (h:n < len) : inR (n:Int) len = true := by simp only [inR,decide_eq_true_eq]; omega
theorem z10e {i:Int} {len:Nat} (h : 0 <= i) (h':i < len) : inR i len = true := by simp only [inR,decide_eq_true_eq]; omega
def ztx : T -> Bool
  | .int _=>true
  | .bool=>true
  | .str=>true
  | .unit=>true
  | .pair a b=>ztx a && ztx b
  | .arr _ t=>ztx t
  | _=>false
theorem ztw : ∀ (t:T) (x y:t.den),ztx t = true -> (eqD t x y = true ↔ x = y)
  | .int _,x,y,_=>by simp [eqD]
  | .bool,x,y,_=>by simp [eqD]
  | .str,x,y,_=>by simp [eqD]
  | .unit,x,y,_=>by simp [eqD]
  | .pair a b,x,y,h=>by
    simp only [ztx,Bool.and_eq_true] at h
    have h1 := ztw a x.1 y.1 h.1
    have h2 := ztw b x.2 y.2 h.2
    simp only [eqD]
    cases hq : eqD a x.1 y.1 with
    | false =>
      rw [hq] at h1
      simp only [cond_false,Bool.false_eq_true,false_iff]
      intro e; exact absurd (h1.2 (by rw [e])) (by simp)
    | true =>
      rw [cond_true,h2]
      constructor
      . intro e; exact Prod.ext (h1.1 hq) e
      . intro e; rw [e]
  | .arr n t,xs,ys,h=>by
    have h : ztx t = true := h
    simp only [eqD]
    induction xs generalizing ys with
    | nil=>cases ys <;> simp [z10m]
    | cons x xs ih =>
      cases ys with
      | nil=>simp [z10m]
      | cons y ys =>
        have h1 := ztw t x y h
        simp only [z10m]
        cases hq : eqD t x y with
        | false =>
          rw [hq] at h1
          simp only [cond_false,Bool.false_eq_true,false_iff]
          intro e
          exact absurd (h1.2 (List.cons.inj e).1) (by simp)
        | true =>
          rw [cond_true]
          have h2 : z10m (eqD t) xs ys = true ↔ xs = ys := ih ys
          constructor
          . intro e; rw [h1.1 hq,h2.1 e]
          . intro e; exact h2.2 (List.cons.inj e).2
  | .opq,x,y,h=>by simp [ztx] at h
  | .sl _,x,y,h=>by simp [ztx] at h
  | .ptr _,x,y,h=>by simp [ztx] at h
end
end Go.Proofs.YtkipbccgnekoaaaGreatDoorPx
set_option linter.all false
set_option maxRecDepth 100000
namespace Go.Proofs.YtkipbccgnekoaaaGreatDoorLg
noncomputable section
open Go Go.Lift Go.Proofs.YtkipbccgnekoaaaGreatDoorPx
def be8 (n:Nat) : List UInt8 := z2f (([56,48,40,32,24,16,8,0] : List Int).map fun j=>IntKind.wrap .u8 (z3i .u64 (IntKind.wrap .u64 ((n:Nat) : Int)) j))
theorem z14p (k:Nat) (s:List UInt8) : zfo (k + 9) s = some (be8 s.length) := by kernel_rfl
def zf9 (l:List (List UInt8)) : List (List UInt8 × Unit) := (l.map fun p => [(be8 p.length,()),(p,())]).flatten
theorem zkv (p:List UInt8) (l:List (List UInt8)) : zf9 (p :: l) = (be8 p.length,()) :: (p,()) :: zf9 l := rfl
theorem z151 (k:Nat) (l:List (List UInt8)) (hl:l.length < 1000000) (hk:l.length < k + 9) : zdc (k + 9) l = some (zf9 l) := by
  have key := z28 (step := fun (v:Int) r=>z8u (k + 9) l (((List.length l) : Nat) : Int) v (fun x7=>(r x7)) (some []) (some [])) (fun v=>0 <= v /\ v <= (l.length : Int)) (fun v=>l.length - v.toNat) (fun v=>some (zf9 (l.drop v.toNat))) (by
    rintro v r ⟨h0,h1⟩ ih
    unfold z8u
    by_cases hv : v < (l.length : Int)
    . have hn : v.toNat < l.length := by omega
      have hw : IntKind.wrap .i64 (v + 1) = v + 1 := z1o ⟨by omega,by omega⟩
      have hr := ih (v + 1) ⟨by omega,by omega⟩ (by omega)
      have hd : l.drop v.toNat = l[v.toNat] :: l.drop (v + 1).toNat := by
        rw [show (v + 1).toNat = v.toNat + 1 by omega,List.getElem_cons_drop]
      have hg : l.getD v.toNat ([] : List UInt8) = l[v.toNat] := by simp [List.getD,hn]
      rw [zg (by simpa using hv),zg (by simp [inR,h0,hv]),z14p,hg,Option.bind_some,hw]
      dsimp only
      rw [hr,zeu,zeu,hd,zkv]
    . have hn : v.toNat = l.length := by omega
      rw [zu (by simpa using hv),hn,List.drop_length]; rfl) (k + 9) 0 ⟨by omega,by omega⟩ (by simpa using hk)
  exact key
def z11 (l:List (List UInt8)) : List UInt8 := ((zf9 l).map (·.1)).flatten
theorem zvh (a b:List UInt8) : z57 (a ++ b) = z57 a ++ z57 b := by simp [z57]
theorem ofStr_length (a:List UInt8) : (z57 a).length = a.length := by simp [z57]
theorem z10i (ys:List (List UInt8 × Unit)) : ∀ a : List UInt8,ys.foldl (fun (v:Unit × (List Int × Unit)) (y:List UInt8 × Unit)=>((),(v.2.1 ++ z57 y.1,()))) ((),(z57 a,())) = ((),(z57 (a ++ (ys.map (·.1)).flatten),())) := by
  induction ys with
  | nil=>intro a; simp
  | cons y ys ih =>
    intro a
    rw [List.foldl_cons]
    dsimp only
    rw [<- zvh,ih]
    simp
theorem z18m (k:Nat) (l:List (List UInt8)) (hl:l.length < 1000000) (hk:l.length < k + 9) (hb:(z11 l).length <= 70368744177664) : z87 (k + 9) l = some (z11 l) := by
  unfold z87 zla z8x
  rw [z151 k l hl hk,Option.bind_some]
  rw [zoe (fun (v:Unit × (List Int × Unit)) (ys:List (List UInt8 × Unit))=>v.2.1.length + ((ys.map (·.1)).flatten).length <= 70368744177664) (fun v y=>((),(v.2.1 ++ z57 y.1,()))) (by
    rintro y ys ⟨u,xs,u'⟩ r hI
    cases u; cases u'
    simp only [List.map_cons,List.flatten_cons,List.length_append] at hI
    refine ⟨?_,by simp only [List.length_append,ofStr_length]; omega⟩
    unfold zfr z1g
    rw [zg (decide_eq_true (by rw [ofStr_length]; dsimp only; omega)),Option.bind_some]) _ _ (by simpa [z11] using hb)]
  have hf := z10i (zf9 l) []
  have h0 : z57 ([] : List UInt8) = [] := rfl
  rw [h0] at hf
  rw [hf]
  unfold zwy
  dsimp only
  rw [zg (by
    rw [Bool.and_eq_true]
    refine ⟨zvg _,decide_eq_true ?_⟩
    rw [ofStr_length]
    exact Nat.le_trans (show (z11 l).length <= _ from hb) (by decide))]
  rw [Option.bind_some]
  dsimp only
  rw [toStr_ofStr]; rfl
end
end Go.Proofs.YtkipbccgnekoaaaGreatDoorLg
set_option linter.all false
set_option maxRecDepth 100000
namespace Go.Proofs.YtkipbccgnekoaaaGreatDoorLg
noncomputable section
open Go Go.Lift Go.Proofs.YtkipbccgnekoaaaGreatDoorPx
def low (n:Int) : Nat -> Int
  | 0=>n
  | j + 1=>IntKind.wrap .i64 (Int.tdiv (low n j) 256)
def z16e (n:Int) (j:Nat) : List UInt8 := z2f [IntKind.wrap .u8 (Int.tmod (low n j) 256)]
theorem z17w (k:Nat) (n:Int) : z3r (k + 9) n = some (z16e n 7 ++ (z16e n 6 ++ (z16e n 5 ++ (z16e n 4 ++ (z16e n 3 ++ (z16e n 2 ++ (z16e n 1 ++ (z16e n 0 ++ [])))))))) := by kernel_rfl
theorem z1a6 (n:Nat) (hn:n < 9223372036854775808) : ∀ j,low (n:Int) j = ((n / 256 ^ j : Nat) : Int)
  | 0=>by simp [low]
  | j + 1=>by
    have h : n / 256 ^ j <= n := Nat.div_le_self _ _
    have h2 : Int.tdiv ((n / 256 ^ j : Nat) : Int) 256 = ((n / 256 ^ (j + 1) : Nat) : Int) := by
      rw [Nat.pow_succ, <- Nat.div_div_eq_div_mul]; rfl
    have h3 : n / 256 ^ (j + 1) <= n := Nat.div_le_self _ _
    rw [low,z1a6 n hn j,h2]
    generalize n / 256 ^ (j + 1) = m at h3
    exact z1o ⟨by omega,by omega⟩
theorem z1k7 (x:Int) : IntKind.wrap .u8 x = x % 256 := by
  simp [IntKind.wrap,IntKind.signed,IntKind.bits]
theorem z1dw (n:Nat) (hn:n < 9223372036854775808) (j:Nat) : z16e (n:Int) j = [UInt8.ofNat (n / 256 ^ j)] := by
  unfold z16e
  rw [z1a6 n hn j]
  generalize n / 256 ^ j = m
  have h1 : Int.tmod ((m:Nat) : Int) 256 = ((m % 256 : Nat) : Int) := rfl
  rw [h1,z1k7]
  simp only [z2f,List.map_cons,List.map_nil,List.cons.injEq,and_true]
  apply UInt8.toNat_inj.1
  rw [UInt8.toNat_ofNat',UInt8.toNat_ofNat']
  omega
theorem z1bp (n:Nat) (hn:n < 9223372036854775808) (i:Nat) (hi:i <= 7) : UInt8.ofNat (IntKind.wrap .u8 (z3i .u64 (IntKind.wrap .u64 ((n:Nat) : Int)) ((8 * i : Nat) : Int))).toNat = UInt8.ofNat (n / 256 ^ i) := by
  have h1 : IntKind.wrap .u64 ((n:Nat) : Int) = (n:Int) := by
    simp [IntKind.wrap,IntKind.signed,IntKind.bits]; omega
  have h2 : z3i .u64 (n:Int) ((8 * i : Nat) : Int) = ((n / 256 ^ i : Nat) : Int) := by
    unfold z3i
    have hm : min (Int.toNat ((8 * i : Nat) : Int)) (IntKind.u64).bits = 8 * i := by
      rw [Int.toNat_natCast]; exact Nat.min_eq_left (by show 8 * i <= 64; omega)
    rw [hm,Int.fdiv_eq_ediv_of_nonneg _ (Int.pow_nonneg (by decide))]
    have hp : (2 : Int) ^ (8 * i) = ((256 ^ i : Nat) : Int) := by
      rw [show (256 : Nat) = 2 ^ 8 by decide, <- Nat.pow_mul]; simp
    rw [hp]; rfl
  rw [h1,h2,z1k7]
  generalize n / 256 ^ i = m
  apply UInt8.toNat_inj.1
  rw [UInt8.toNat_ofNat',UInt8.toNat_ofNat']
  omega
theorem z14m (k n:Nat) (hn:n < 9223372036854775808) : z3r (k + 9) (n:Int) = some (be8 n) := by
  rw [z17w]
  simp only [z1dw n hn]
  have e := fun i hi=>z1bp n hn i hi
  simp only [be8,z2f,List.map_cons,List.map_nil,List.cons_append,List.nil_append,List.append_nil]
  have e7 := e 7 (by omega); have e6 := e 6 (by omega); have e5 := e 5 (by omega); have e4 := e 4 (by omega)
  have e3 := e 3 (by omega); have e2 := e 2 (by omega); have e1 := e 1 (by omega); have e0 := e 0 (by omega)
  simp only [Nat.reduceMul] at e7 e6 e5 e4 e3 e2 e1 e0
  rw [<- e7, <- e6, <- e5, <- e4, <- e3, <- e2, <- e1, <- e0]
  rfl
theorem z9g (p:List UInt8) (l:List (List UInt8)) : z11 (p :: l) = be8 p.length ++ (p ++ z11 l) := by
  simp [z11,zkv]
theorem zx8 (k:Nat) (l:List (List UInt8)) (hl:l.length < 1000000) (hk:l.length < k + 9) (hb:(z11 l).length <= 70368744177664) : z1f (k + 9) l = some (z11 l) := by
  have key := z28 (step := fun (v:List UInt8 × Int) r=>z48 (k + 9) l v.1 v.2 (fun out i=>(r (out,i))) (fun out=>some out)) (fun v=>0 <= v.2 /\ v.2 <= (l.length : Int) /\ v.1.length + (z11 (l.drop v.2.toNat)).length <= 70368744177664) (fun v=>l.length - v.2.toNat) (fun v=>some (v.1 ++ z11 (l.drop v.2.toNat))) (by
    rintro ⟨out,v⟩ r ⟨h0,h1,h2⟩ ih
    dsimp only at h0 h1 h2 ⊢
    unfold z48
    by_cases hv : v < (l.length : Int)
    . have hn : v.toNat < l.length := by omega
      have hw : IntKind.wrap .i64 (v + 1) = v + 1 := z1o ⟨by omega,by omega⟩
      have hd : l.drop v.toNat = l[v.toNat] :: l.drop (v + 1).toNat := by
        rw [show (v + 1).toNat = v.toNat + 1 by omega,List.getElem_cons_drop]
      have hg : l.getD v.toNat ([] : List UInt8) = l[v.toNat] := by simp [List.getD,hn]
      rw [hd,z9g] at h2 ⊢
      simp only [List.length_append] at h2
      have hin : inR v l.length = true := by simp [inR,h0,hv]
      have hr := ih (out ++ be8 l[v.toNat].length ++ l[v.toNat],v + 1) ⟨by dsimp only; omega,by dsimp only; omega,by dsimp only; simp only [List.length_append]; omega⟩ (by dsimp only; omega)
      rw [zg (by simpa using hv),zg hin,hg,z14m _ _ (by omega),Option.bind_some,zg (decide_eq_true (by omega)),zg hin,zg (decide_eq_true (by rw [List.length_append]; omega)),hw]
      dsimp only at hr ⊢
      rw [hr]
      simp
    . have hn : v.toNat = l.length := by omega
      rw [zu (by simpa using hv),hn,List.drop_length]; simp [z11,zf9]) (k + 9) ([],0) ⟨by dsimp only; omega,by dsimp only; omega,by simpa using hb⟩ (by simpa using hk)
  exact key
end
end Go.Proofs.YtkipbccgnekoaaaGreatDoorLg
set_option linter.all false
namespace Go.Proofs.YtkipbccgnekoaaaGreatDoorPx
noncomputable section
open Go Go.Lift
theorem zdg (x:Int) : IntKind.wrap .u8 x = x % 256 := by
  simp only [IntKind.wrap,IntKind.bits,IntKind.signed,Bool.false_and,Bool.false_eq_true,if_false]
  rfl
theorem z10u {x:Int} (h0 : 0 <= x) (h1:x < 256) : IntKind.wrap .u8 x = x := by rw [zdg]; omega
theorem zwu (u:UInt8) : u.toNat < 256 := u.toNat_lt
theorem zon (u:UInt8) : IntKind.wrap .i64 ((u.toNat : Nat) : Int) = ((u.toNat : Nat) : Int) := by
  have := zwu u
  exact z1o (by unfold I64; omega)
theorem z1n {i:Nat} (h:i < 9223372036854775807) : IntKind.wrap .i64 ((i:Int) + 1) = ((i + 1 : Nat) : Int) := by
  rw [z1o (by unfold I64; omega)]; omega
theorem zi3 (u:UInt8) : BitVec.ofInt 8 ((u.toNat : Nat) : Int) = u.toBitVec := by
  rw [BitVec.ofInt_natCast]
  apply BitVec.eq_of_toNat_eq
  have h1 : u.toBitVec.toNat = u.toNat := rfl
  have := zwu u
  rw [BitVec.toNat_ofNat,h1]
  omega
theorem zom (u:UInt8) : IntKind.wrap .u8 ((u.toNat : Nat) : Int) = ((u.toNat : Nat) : Int) := by
  have := zwu u
  exact z10u (by omega) (by omega)
theorem z19v (a b:UInt8) : zj .xor .u8 ((a.toNat : Nat) : Int) ((b.toNat : Nat) : Int) = (((a ^^^ b).toNat : Nat) : Int) := by
  have e : zj .xor .u8 ((a.toNat : Nat) : Int) ((b.toNat : Nat) : Int) = IntKind.wrap .u8 ((BitVec.ofInt 8 ((a.toNat : Nat) : Int) ^^^ BitVec.ofInt 8 ((b.toNat : Nat) : Int)).toNat : Int) := rfl
  rw [e,zi3,zi3]
  have h : (a.toBitVec ^^^ b.toBitVec).toNat = (a ^^^ b).toNat := rfl
  rw [h,zom]
theorem or_u8 (a b:UInt8) : zj .or .u8 ((a.toNat : Nat) : Int) ((b.toNat : Nat) : Int) = (((a ||| b).toNat : Nat) : Int) := by
  have e : zj .or .u8 ((a.toNat : Nat) : Int) ((b.toNat : Nat) : Int) = IntKind.wrap .u8 ((BitVec.ofInt 8 ((a.toNat : Nat) : Int) ||| BitVec.ofInt 8 ((b.toNat : Nat) : Int)).toNat : Int) := rfl
  rw [e,zi3,zi3]
  have h : (a.toBitVec ||| b.toBitVec).toNat = (a ||| b).toNat := rfl
  rw [h,zom]
theorem z9q (a b:List Int) : z2f (a ++ b) = z2f a ++ z2f b := by simp [z2f]
theorem zru (u:UInt8) : z2f [((u.toNat : Nat) : Int)] = [u] := by simp [z2f]
theorem toStr_ofStr (s:List UInt8) : z2f (z57 s) = s := by
  simp [z2f,z57,Function.comp_def]
theorem ofStr_length (s:List UInt8) : (z57 s).length = s.length := by simp [z57]
theorem z8d (n:Nat) : z2f (List.replicate n (0 : Int)) = List.replicate n (0 : UInt8) := by simp [z2f]
theorem zoi {α : Type} (l:List α) (d : α) (i:Nat) (h:i < l.length) : l.getD i d ∈ l := by
  rw [List.getD_eq_getElem?_getD,List.getElem?_eq_getElem h]; simp
theorem z1y {α : Type} (l:List α) (d : α) (i:Nat) (h:i < l.length) : l.drop i = l.getD i d :: l.drop (i + 1) := by
  rw [List.getD_eq_getElem?_getD,List.getElem?_eq_getElem h,Option.getD_some,List.drop_eq_getElem_cons h]
theorem z60 {α : Type} (l:List α) {i:Nat} (h:l.length <= i) : l.drop i = [] := List.drop_of_length_le h
theorem z15 {p:Prop} [Decidable p] (h:p) : decide p = true := decide_eq_true h
theorem z3n {p:Prop} [Decidable p] (h : ¬ p) : decide p = false := decide_eq_false h
theorem zk9 {α : Type} (l:List α) (d : α) (i:Nat) (h:i < l.length) : l.take (i + 1) = l.take i ++ [l.getD i d] := by
  rw [List.getD_eq_getElem?_getD,List.getElem?_eq_getElem h,Option.getD_some,List.take_succ_eq_append_getElem h]
theorem zt1 {α : Type} (l:List α) (x : α) (i:Nat) (h:i < l.length) : (l.set i x).take (i + 1) = l.take i ++ [x] := by
  rw [List.take_succ_eq_append_getElem (by simpa using h),List.getElem_set_self]
  congr 1
  apply List.ext_getElem?
  intro j
  rw [List.getElem?_take,List.getElem?_take]
  split
  . rw [List.getElem?_set_ne (by omega)]
  . rfl
theorem z10w (a b:UInt8) : (((a.toNat : Nat) : Int) = ((b.toNat : Nat) : Int)) ↔ a = b := by
  rw [<- UInt8.toNat_inj]; omega
theorem z1dv {α : Type} (a b:List α) : (if ((b.length : Nat) : Int) < ((a.length : Nat) : Int) then ((b.length : Nat) : Int) else ((a.length : Nat) : Int)) = ((min a.length b.length : Nat) : Int) := by
  split <;> omega
theorem zdd {α : Type} (l:List α) (n:Nat) : cut l 0 n = l.take n := by simp [cut]
theorem ztz {α : Type} (l:List α) (n:Nat) : cut l n l.length = l.drop n := by simp [cut]
theorem z15g {α : Type} (l:List α) (n k:Nat) : cut l n (n + k) = (l.drop n).take k := by
  unfold cut
  rw [List.drop_take]
  congr 1; omega
end
end Go.Proofs.YtkipbccgnekoaaaGreatDoorPx
set_option linter.all false
namespace Go.Proofs.YtkipbccgnekoaaaGreatDoorLg
noncomputable section
open Go Go.Lift Go.Proofs.YtkipbccgnekoaaaGreatDoorPx
abbrev w32 (x:Int) : Int := IntKind.wrap .u32 x
theorem zzc (x:Int) : IntKind.wrap .u32 x = x % 4294967296 := rfl
theorem z13y (a b:Int) : zj .or .u32 a b = zj .or .u32 b a := by
  unfold zj; dsimp only; rw [BitVec.or_comm]
def rrB (x n:Int) : Int := zj .or .u32 (z3i .u32 x (IntKind.wrap .u64 n)) (z8a .u32 x (IntKind.wrap .u64 (IntKind.wrap .i64 ((32 : Int) - n))))
theorem zr9 {x n:Int} (h1:zj .and .u64 (IntKind.wrap .u64 (IntKind.wrap .i64 ((0 : Int) - n))) (31 : Int) = IntKind.wrap .u64 (IntKind.wrap .i64 ((32 : Int) - n)))
    (h2:IntKind.wrap .u64 ((32 : Int) - zj .and .u64 (IntKind.wrap .u64 (IntKind.wrap .i64 ((0 : Int) - n))) (31 : Int)) = IntKind.wrap .u64 n) :
    zj .or .u32 (z8a .u32 x (zj .and .u64 (IntKind.wrap .u64 (IntKind.wrap .i64 ((0 : Int) - n))) (31 : Int))) (z3i .u32 x (IntKind.wrap .u64 ((32 : Int) - zj .and .u64 (IntKind.wrap .u64 (IntKind.wrap .i64 ((0 : Int) - n))) (31 : Int)))) = rrB x n := by
  rw [h2,h1,z13y]; rfl
theorem rr6 (x:Int) : zj .or .u32 (z8a .u32 x (zj .and .u64 (IntKind.wrap .u64 (IntKind.wrap .i64 ((0 : Int) - (6 : Int)))) (31 : Int))) (z3i .u32 x (IntKind.wrap .u64 ((32 : Int) - zj .and .u64 (IntKind.wrap .u64 (IntKind.wrap .i64 ((0 : Int) - (6 : Int)))) (31 : Int)))) = rrB x 6 := zr9 (x := x) (n := 6) (by kernel_rfl) (by kernel_rfl)
theorem rr11 (x:Int) : zj .or .u32 (z8a .u32 x (zj .and .u64 (IntKind.wrap .u64 (IntKind.wrap .i64 ((0 : Int) - (11 : Int)))) (31 : Int))) (z3i .u32 x (IntKind.wrap .u64 ((32 : Int) - zj .and .u64 (IntKind.wrap .u64 (IntKind.wrap .i64 ((0 : Int) - (11 : Int)))) (31 : Int)))) = rrB x 11 := zr9 (x := x) (n := 11) (by kernel_rfl) (by kernel_rfl)
theorem rr25 (x:Int) : zj .or .u32 (z8a .u32 x (zj .and .u64 (IntKind.wrap .u64 (IntKind.wrap .i64 ((0 : Int) - (25 : Int)))) (31 : Int))) (z3i .u32 x (IntKind.wrap .u64 ((32 : Int) - zj .and .u64 (IntKind.wrap .u64 (IntKind.wrap .i64 ((0 : Int) - (25 : Int)))) (31 : Int)))) = rrB x 25 := zr9 (x := x) (n := 25) (by kernel_rfl) (by kernel_rfl)
theorem rr2 (x:Int) : zj .or .u32 (z8a .u32 x (zj .and .u64 (IntKind.wrap .u64 (IntKind.wrap .i64 ((0 : Int) - (2 : Int)))) (31 : Int))) (z3i .u32 x (IntKind.wrap .u64 ((32 : Int) - zj .and .u64 (IntKind.wrap .u64 (IntKind.wrap .i64 ((0 : Int) - (2 : Int)))) (31 : Int)))) = rrB x 2 := zr9 (x := x) (n := 2) (by kernel_rfl) (by kernel_rfl)
theorem rr13 (x:Int) : zj .or .u32 (z8a .u32 x (zj .and .u64 (IntKind.wrap .u64 (IntKind.wrap .i64 ((0 : Int) - (13 : Int)))) (31 : Int))) (z3i .u32 x (IntKind.wrap .u64 ((32 : Int) - zj .and .u64 (IntKind.wrap .u64 (IntKind.wrap .i64 ((0 : Int) - (13 : Int)))) (31 : Int)))) = rrB x 13 := zr9 (x := x) (n := 13) (by kernel_rfl) (by kernel_rfl)
theorem rr22 (x:Int) : zj .or .u32 (z8a .u32 x (zj .and .u64 (IntKind.wrap .u64 (IntKind.wrap .i64 ((0 : Int) - (22 : Int)))) (31 : Int))) (z3i .u32 x (IntKind.wrap .u64 ((32 : Int) - zj .and .u64 (IntKind.wrap .u64 (IntKind.wrap .i64 ((0 : Int) - (22 : Int)))) (31 : Int)))) = rrB x 22 := zr9 (x := x) (n := 22) (by kernel_rfl) (by kernel_rfl)
theorem rr7 (x:Int) : zj .or .u32 (z8a .u32 x (zj .and .u64 (IntKind.wrap .u64 (IntKind.wrap .i64 ((0 : Int) - (7 : Int)))) (31 : Int))) (z3i .u32 x (IntKind.wrap .u64 ((32 : Int) - zj .and .u64 (IntKind.wrap .u64 (IntKind.wrap .i64 ((0 : Int) - (7 : Int)))) (31 : Int)))) = rrB x 7 := zr9 (x := x) (n := 7) (by kernel_rfl) (by kernel_rfl)
theorem rr18 (x:Int) : zj .or .u32 (z8a .u32 x (zj .and .u64 (IntKind.wrap .u64 (IntKind.wrap .i64 ((0 : Int) - (18 : Int)))) (31 : Int))) (z3i .u32 x (IntKind.wrap .u64 ((32 : Int) - zj .and .u64 (IntKind.wrap .u64 (IntKind.wrap .i64 ((0 : Int) - (18 : Int)))) (31 : Int)))) = rrB x 18 := zr9 (x := x) (n := 18) (by kernel_rfl) (by kernel_rfl)
theorem rr17 (x:Int) : zj .or .u32 (z8a .u32 x (zj .and .u64 (IntKind.wrap .u64 (IntKind.wrap .i64 ((0 : Int) - (17 : Int)))) (31 : Int))) (z3i .u32 x (IntKind.wrap .u64 ((32 : Int) - zj .and .u64 (IntKind.wrap .u64 (IntKind.wrap .i64 ((0 : Int) - (17 : Int)))) (31 : Int)))) = rrB x 17 := zr9 (x := x) (n := 17) (by kernel_rfl) (by kernel_rfl)
theorem rr19 (x:Int) : zj .or .u32 (z8a .u32 x (zj .and .u64 (IntKind.wrap .u64 (IntKind.wrap .i64 ((0 : Int) - (19 : Int)))) (31 : Int))) (z3i .u32 x (IntKind.wrap .u64 ((32 : Int) - zj .and .u64 (IntKind.wrap .u64 (IntKind.wrap .i64 ((0 : Int) - (19 : Int)))) (31 : Int)))) = rrB x 19 := zr9 (x := x) (n := 19) (by kernel_rfl) (by kernel_rfl)
def S1B (e:Int) : Int := zj .xor .u32 (zj .xor .u32 (rrB e 6) (rrB e 11)) (rrB e 25)
def S0B (a:Int) : Int := zj .xor .u32 (zj .xor .u32 (rrB a 2) (rrB a 13)) (rrB a 22)
def chB (e f g:Int) : Int := zj .xor .u32 (zj .and .u32 e f) (zj .and .u32 (zj .xor .u32 (if (IntKind.signed .u32) = true then (-(1 : Int)) else IntKind.max .u32) e) g)
def majB (a b c:Int) : Int := zj .xor .u32 (zj .xor .u32 (zj .and .u32 a b) (zj .and .u32 a c)) (zj .and .u32 b c)
def t1B (v:List Int) (K W:Int) : Int := w32 (w32 (w32 (w32 (v.getD 7 0 + S1B (v.getD 4 0)) + chB (v.getD 4 0) (v.getD 5 0) (v.getD 6 0)) + K) + W)
def zzw (v:List Int) (K W:Int) : List Int :=
 [w32 (w32 (t1B v K W + S0B (v.getD 0 0)) + majB (v.getD 0 0) (v.getD 1 0) (v.getD 2 0)),v.getD 0 0,v.getD 1 0,v.getD 2 0,w32 (v.getD 3 0 + t1B v K W),v.getD 4 0,v.getD 5 0,v.getD 6 0]
def s1B (y:Int) : Int := zj .xor .u32 (zj .xor .u32 (rrB y 17) (rrB y 19)) (z3i .u32 y 10)
def s0B (x:Int) : Int := zj .xor .u32 (zj .xor .u32 (rrB x 7) (rrB x 18)) (z3i .u32 x 3)
def z16d (w:List Int) (t:Nat) : Int := w32 (w32 (w32 (s1B (w.getD (t - 2) 0) + w.getD (t - 7) 0) + s0B (w.getD (t - 15) 0)) + w.getD (t - 16) 0)
theorem sum1 (a b c K W:Int) : w32 (w32 (w32 (a + b) + c) + w32 (K + W)) = w32 (w32 (w32 (w32 (a + b) + c) + K) + W) := by
  simp only [w32,zzc]; omega
theorem sum2 (t a b:Int) : w32 (t + w32 (a + b)) = w32 (w32 (t + a) + b) := by simp only [w32,zzc]; omega
theorem z17c (N:Nat) {v:List Int} (K W:Int) (hv:v.length = 8) : zgv N v (IntKind.wrap .u32 (K + W)) = some (zzw v K W) := by
  simp only [zgv]
  rw [zg (z15 (by omega)),zg (z15 (by omega)),zg (z15 (by omega)),zg (z15 (by omega)),zg (z15 (by omega)),zg (z15 (by omega)),zg (z15 (by omega)),zg (z15 (by omega))]
  simp only [rr6,rr11,rr25,rr2,rr13,rr22]
  have e1 := sum1 (v.getD 7 0) (S1B (v.getD 4 0)) (chB (v.getD 4 0) (v.getD 5 0) (v.getD 6 0)) K W
  have e2 := sum2 (t1B v K W) (S0B (v.getD 0 0)) (majB (v.getD 0 0) (v.getD 1 0) (v.getD 2 0))
  show some [w32 (w32 (w32 (w32 (v.getD 7 0 + S1B (v.getD 4 0)) + chB (v.getD 4 0) (v.getD 5 0) (v.getD 6 0)) + w32 (K + W)) + w32 (S0B (v.getD 0 0) + majB (v.getD 0 0) (v.getD 1 0) (v.getD 2 0))),v.getD 0 0,v.getD 1 0,v.getD 2 0,w32 (v.getD 3 0 + w32 (w32 (w32 (v.getD 7 0 + S1B (v.getD 4 0)) + chB (v.getD 4 0) (v.getD 5 0) (v.getD 6 0)) + w32 (K + W))),v.getD 4 0,v.getD 5 0,v.getD 6 0] = _
  rw [e1]
  show some [w32 (t1B v K W + w32 (S0B (v.getD 0 0) + majB (v.getD 0 0) (v.getD 1 0) (v.getD 2 0))),v.getD 0 0,v.getD 1 0,v.getD 2 0,w32 (v.getD 3 0 + t1B v K W),v.getD 4 0,v.getD 5 0,v.getD 6 0] = _
  rw [e2]; rfl
theorem zkl (v:List Int) (K W:Int) : (zzw v K W).length = 8 := rfl
def zp8 (K w:List Int) : Nat -> Nat -> List Int -> List Int
  | 0,_,v=>v
  | j + 1,t,v=>zp8 K w j (t + 1) (zzw v (K.getD t 0) (w.getD t 0))
theorem zvt : glob0.length = 64 := by kernel_rfl
theorem z13f (N:Nat) {h x4 w v:List Int} {k0:List Int -> Option (List Int)} (hv:v.length = 8) (hw:w.length = 64) (hN : 64 < N) : zjb N h x4 w v 0 k0 = k0 (zp8 glob0 w 64 0 v) := by
  simp only [zjb]
  rw [z28 (I := fun (v:List Int × Int) => ∃ t : Nat,v.2 = (t:Int) /\ t <= 64 /\ v.1.length = 8) (m := fun v=>64 - v.2.toNat) (R := fun v=>k0 (zp8 glob0 w (64 - v.2.toNat) v.2.toNat v.1)) ?_ N (v,0) ⟨0,rfl,by omega,hv⟩ (by simpa using hN)]
  . rfl
  rintro ⟨v,z⟩ r ⟨t,e,ht,hl⟩ hr
  dsimp only at e hl hr ⊢
  subst e
  rw [Int.toNat_natCast] at hr ⊢
  simp only [zja]
  by_cases hlt : t < 64
  . rw [zg (z15 (by omega)),zg (z14 hlt),zg (z14 hlt),Int.toNat_natCast,zg (z15 (by omega)),z17c N _ _ hl,Option.bind_some,z1n (by omega),hr _ ⟨t + 1,rfl,by omega,zkl _ _ _⟩ (by dsimp only; omega)]
    dsimp only
    rw [Int.toNat_natCast,show 64 - t = (64 - (t + 1)) + 1 by omega]; rfl
  . rw [zu (z3n (by omega)),show 64 - t = 0 by omega]; rfl
theorem zv7 (N:Nat) {k h x8 w v:List Int} {k0:List Int -> Option (List Int)} (hv:v.length = 8) (hw:w.length = 64) (hk:k.length = 64) (hN : 64 < N) : z7p N k h x8 w v 0 k0 = k0 (zp8 k w 64 0 v) := by
  simp only [z7p]
  rw [z28 (I := fun (v:List Int × Int) => ∃ t : Nat,v.2 = (t:Int) /\ t <= 64 /\ v.1.length = 8) (m := fun v=>64 - v.2.toNat) (R := fun v=>k0 (zp8 k w (64 - v.2.toNat) v.2.toNat v.1)) ?_ N (v,0) ⟨0,rfl,by omega,hv⟩ (by simpa using hN)]
  . rfl
  rintro ⟨v,z⟩ r ⟨t,e,ht,hl⟩ hr
  dsimp only at e hl hr ⊢
  subst e
  rw [Int.toNat_natCast] at hr ⊢
  simp only [z7m]
  by_cases hlt : t < 64
  . have c0 : decide (0 < v.length) = true := z15 (by omega)
    have c1 : decide (1 < v.length) = true := z15 (by omega)
    have c2 : decide (2 < v.length) = true := z15 (by omega)
    have c3 : decide (3 < v.length) = true := z15 (by omega)
    have c4 : decide (4 < v.length) = true := z15 (by omega)
    have c5 : decide (5 < v.length) = true := z15 (by omega)
    have c6 : decide (6 < v.length) = true := z15 (by omega)
    have c7 : decide (7 < v.length) = true := z15 (by omega)
    have c8 : inR (t:Int) k.length = true := z14 (by omega)
    have c9 : inR (t:Int) w.length = true := z14 (by omega)
    have c10 : decide (t < w.length) = true := z15 (by omega)
    have e2 := hr (zzw v (k.getD t 0) (w.getD t 0),((t + 1 : Nat) : Int)) ⟨t + 1,rfl,by omega,zkl _ _ _⟩ (by dsimp only; omega)
    simp only [c0,c1,c2,c3,c4,c5,c6,c7,c8,c9,Int.toNat_natCast,c10,cond_true]
    rw [zg (z15 (by omega)),z1n (by omega)]
    refine Eq.trans e2 ?_
    dsimp only
    rw [Int.toNat_natCast,show 64 - t = (64 - (t + 1)) + 1 by omega]; rfl
  . rw [zu (z3n (by omega)),show 64 - t = 0 by omega]; rfl
theorem z1t0 (N:Nat) (h x4 x8 v:List Int) (k0:List Int -> Option (List Int)) : zc8 N h x8 v 0 k0 = zp0 N h x4 v 0 k0 := rfl
def z16f : Nat -> List Int -> List Int
  | 0,w=>w
  | j + 1,w=>z16f j (w ++ [z16d w w.length])
theorem zqd : ∀ (j:Nat) (w:List Int),(z16f j w).length = w.length + j
  | 0,_=>rfl
  | j + 1,w=>by simp only [z16f,zqd j,List.length_append,List.length_cons,List.length_nil]; omega
theorem ix (t k:Nat) (h:k <= t) (ht:t <= 64) : IntKind.wrap .i64 ((t:Int) - (k:Int)) = ((t - k : Nat) : Int) := by rw [z1o (by unfold I64; omega)]; omega
theorem z11d (N:Nat) {k h x8 w:List Int} {k0:List Int -> Option (List Int)} (hw:w.length = 16) (hN : 64 < N) : z7q N k h x8 w 16 k0 = k0 (z16f 48 w) := by
  simp only [z7q]
  rw [z28 (I := fun (v:List Int × Int) => ∃ t : Nat,v.2 = (t:Int) /\ 16 <= t /\ t <= 64 /\ v.1.length = t) (m := fun v=>64 - v.2.toNat) (R := fun v=>k0 (z16f (64 - v.2.toNat) v.1)) ?_ N (w,16) ⟨16,rfl,by omega,by omega,hw⟩ (by dsimp only; omega)]
  . rfl
  rintro ⟨w,z⟩ r ⟨t,e,ht0,ht,hl⟩ hr
  dsimp only at e hl hr ⊢
  subst e
  rw [Int.toNat_natCast] at hr ⊢
  simp only [z7n]
  by_cases hlt : t < 64
  . have i2 : IntKind.wrap .i64 ((t:Int) - 2) = ((t - 2 : Nat) : Int) := ix t 2 (by omega) ht
    have i7 : IntKind.wrap .i64 ((t:Int) - 7) = ((t - 7 : Nat) : Int) := ix t 7 (by omega) ht
    have i15 : IntKind.wrap .i64 ((t:Int) - 15) = ((t - 15 : Nat) : Int) := ix t 15 (by omega) ht
    have i16 : IntKind.wrap .i64 ((t:Int) - 16) = ((t - 16 : Nat) : Int) := ix t 16 (by omega) ht
    have e2 := hr (w ++ [z16d w w.length],((t + 1 : Nat) : Int)) ⟨t + 1,rfl,by omega,by omega,by simp [hl]⟩ (by dsimp only; omega)
    rw [i2,i7,i15,i16,Int.toNat_natCast,Int.toNat_natCast,Int.toNat_natCast,Int.toNat_natCast]
    rw [zg (z15 (by omega)),zg (z14 (by omega)),zg (z15 (by omega)),zg (z14 (by omega)),zg (z15 (by omega)),zg (z14 (by omega)),zg (z15 (by omega)),zg (z14 (by omega)),zg (z15 (by omega)),zg (z15 (by omega)),z1n (by omega)]
    rw [hl] at e2
    refine Eq.trans e2 ?_
    dsimp only
    rw [Int.toNat_natCast,show 64 - t = (64 - (t + 1)) + 1 by omega]
    simp only [z16f,hl]
  . rw [zu (z3n (by omega)),show 64 - t = 0 by omega]; rfl
theorem ztt {α : Type} (a b:List α) (d : α) {i:Nat} (h:i < a.length) : (a ++ b).getD i d = a.getD i d := by
  rw [List.getD_eq_getElem?_getD,List.getElem?_append_left h, <- List.getD_eq_getElem?_getD]
theorem z13b {α : Type} (a b:List α) (x y : α) : (a ++ y :: b).set a.length x = a ++ x :: b := by
  rw [List.set_append_right _ _ (by omega),Nat.sub_self]; rfl
theorem z1gj (N:Nat) {x2 S Z:List Int} {k0:List Int -> Option (List Int)} (hS:S.length = 16) (hZ:Z.length = 48) (hN : 64 < N) : zbr N x2 (S ++ Z) 16 k0 = k0 (z16f 48 S) := by
  simp only [zbr]
  rw [z28 (I := fun (v:List Int × Int) => ∃ (t:Nat) (A B:List Int),v = (A ++ B,(t:Int)) /\ 16 <= t /\ t <= 64 /\ A.length = t /\ B.length = 64 - t) (m := fun v=>64 - v.2.toNat) (R := fun v=>k0 (z16f (64 - v.2.toNat) (v.1.take v.2.toNat))) ?_ N (S ++ Z,16) ⟨16,S,Z,rfl,by omega,by omega,hS,hZ⟩ (by dsimp only; omega)]
  . dsimp only
    rw [show (16 : Int).toNat = 16 from rfl,List.take_append_of_le_length (by omega),List.take_of_length_le (by omega)]
  rintro v r ⟨t,A,B,rfl,ht0,ht,hA,hB⟩ hr
  dsimp only at hr ⊢
  rw [Int.toNat_natCast] at hr ⊢
  have hAt : (A ++ B).take t = A := by rw [List.take_append_of_le_length (by omega),List.take_of_length_le (by omega)]
  rw [hAt]
  simp only [zbp]
  by_cases hlt : t < 64
  . have i2 : IntKind.wrap .i64 ((t:Int) - 2) = ((t - 2 : Nat) : Int) := ix t 2 (by omega) ht
    have i7 : IntKind.wrap .i64 ((t:Int) - 7) = ((t - 7 : Nat) : Int) := ix t 7 (by omega) ht
    have i15 : IntKind.wrap .i64 ((t:Int) - 15) = ((t - 15 : Nat) : Int) := ix t 15 (by omega) ht
    have i16 : IntKind.wrap .i64 ((t:Int) - 16) = ((t - 16 : Nat) : Int) := ix t 16 (by omega) ht
    have hl : (A ++ B).length = 64 := by rw [List.length_append]; omega
    obtain ⟨y,B',rfl⟩ : ∃ y B',B = y :: B' := by
      cases B with
      | nil=>simp at hB; omega
      | cons y B'=>exact ⟨y,B',rfl⟩
    have e2 := hr (A ++ z16d A t :: B',((t + 1 : Nat) : Int)) ⟨t + 1,A ++ [z16d A t],B',by rw [List.append_assoc]; rfl,by omega,by omega,by simp [hA],by simp at hB; omega⟩ (by dsimp only; omega)
    rw [i2,i7,i15,i16,Int.toNat_natCast,Int.toNat_natCast,Int.toNat_natCast,Int.toNat_natCast,Int.toNat_natCast]
    rw [zg (z15 (by omega)),zg (z14 (by omega)),zg (z15 (by omega)),zg (z14 (by omega)),zg (z15 (by omega)),zg (z14 (by omega)),zg (z15 (by omega)),zg (z14 (by omega)),zg (z15 (by omega)),zg (z14 (by omega)),zg (z15 (by omega)),z1n (by omega)]
    rw [ztt A _ 0 (by omega:t - 2 < A.length),ztt A _ 0 (by omega:t - 7 < A.length),ztt A _ 0 (by omega:t - 15 < A.length),ztt A _ 0 (by omega:t - 16 < A.length)]
    simp only [rr17,rr19,rr7,rr18]
    have hset := z13b A B' (z16d A t) y
    rw [hA] at hset
    show r ((A ++ y :: B').set t (z16d A t),((t + 1 : Nat) : Int)) = _
    rw [hset]
    refine Eq.trans e2 ?_
    dsimp only
    rw [Int.toNat_natCast,show 64 - t = (64 - (t + 1)) + 1 by omega]
    have htk : (A ++ z16d A t :: B').take (t + 1) = A ++ [z16d A t] := by
      rw [show A ++ z16d A t :: B' = (A ++ [z16d A t]) ++ B' by rw [List.append_assoc]; rfl,List.take_append_of_le_length (by simp [hA]),List.take_of_length_le (by simp [hA])]
    rw [htk]
    simp only [z16f,hA]
  . have hB0 : B = [] := List.length_eq_zero_iff.1 (by omega)
    subst hB0
    rw [zu (z3n (by omega)),show 64 - t = 0 by omega,List.append_nil]; rfl
end
end Go.Proofs.YtkipbccgnekoaaaGreatDoorLg
set_option linter.all false
namespace Go.Proofs.YtkipbccgnekoaaaGreatDoorLg
noncomputable section
open Go Go.Lift Go.Proofs.YtkipbccgnekoaaaGreatDoorPx
theorem z13v (N:Nat) {s:List UInt8} {m:Nat} (hm:m <= 65536) (hs:s.length <= m) : zei N s (m:Int) = some (s ++ List.replicate (m - s.length) 0) := by
  have e : (if (65536 : Int) < (m:Int) then (65536 : Int) else (m:Int)) = (m:Int) := by rw [if_neg (by omega)]
  simp only [zei,e]
  have hw : IntKind.wrap .i64 ((m:Int) - (((s.length : Nat)) : Int)) = ((m - s.length : Nat) : Int) := by rw [z1o (by unfold I64; omega)]; omega
  by_cases h2 : s.length = m
  . rw [zg (z15 (by omega)),h2]; simp
  . rw [zu (z3n (by omega)),hw,Int.toNat_natCast,z8d,zg (z15 (by omega)),zg (z15 (by rw [List.length_replicate]; omega))]
theorem z1a1 (n k:Nat) (hk:k <= 64) : z3i .u64 (n:Int) (k:Int) = ((n / 2 ^ k : Nat) : Int) := by
  have e : min ((k:Int)).toNat (IntKind.bits .u64) = k := by rw [Int.toNat_natCast]; exact Nat.min_eq_left hk
  unfold z3i
  rw [e,Int.fdiv_eq_ediv_of_nonneg _ (by exact_mod_cast Nat.zero_le _)]
  norm_cast
def beL (n:Nat) : List UInt8 := [0,0,0,0,0,UInt8.ofNat (n / 65536),UInt8.ofNat (n / 256 % 256),UInt8.ofNat (n % 256)]
theorem z1tf (k:Nat) {n:Nat} (hn:n < 16777216) : z4s (k + 20) (n:Int) 8 = some (beL n) := by
  have h : z4s (k + 20) (n:Int) 8 = some (z2f [IntKind.wrap .u8 (z3i .u64 n ((56 : Nat) : Int)),IntKind.wrap .u8 (z3i .u64 n ((48 : Nat) : Int)),IntKind.wrap .u8 (z3i .u64 n ((40 : Nat) : Int)),IntKind.wrap .u8 (z3i .u64 n ((32 : Nat) : Int)),IntKind.wrap .u8 (z3i .u64 n ((24 : Nat) : Int)),IntKind.wrap .u8 (z3i .u64 n ((16 : Nat) : Int)),IntKind.wrap .u8 (z3i .u64 n ((8 : Nat) : Int)),IntKind.wrap .u8 (z3i .u64 n ((0 : Nat) : Int))]) := by kernel_rfl
  have hx : ∀ a b : Nat,a % 256 = b -> UInt8.ofNat ((((a:Nat) : Int) % 256).toNat) = UInt8.ofNat b := by
    intro a b e; congr 1
  rw [h]
  simp only [z1a1 n _ (by decide : 0 <= 64),z1a1 n _ (by decide : 8 <= 64),z1a1 n _ (by decide : 16 <= 64),z1a1 n _ (by decide : 24 <= 64),z1a1 n _ (by decide : 32 <= 64),z1a1 n _ (by decide : 40 <= 64),z1a1 n _ (by decide : 48 <= 64),z1a1 n _ (by decide : 56 <= 64),z2f,List.map_cons,List.map_nil,zdg,beL]
  rw [hx _ 0 (by omega:n / 2 ^ 56 % 256 = 0),hx _ 0 (by omega:n / 2 ^ 48 % 256 = 0),hx _ 0 (by omega:n / 2 ^ 40 % 256 = 0),hx _ 0 (by omega:n / 2 ^ 32 % 256 = 0),hx _ 0 (by omega:n / 2 ^ 24 % 256 = 0),hx _ (n / 65536) (by omega:n / 2 ^ 16 % 256 = n / 65536),hx _ (n / 256 % 256) (by omega:n / 2 ^ 8 % 256 = n / 256 % 256),hx _ (n % 256) (by omega:n / 2 ^ 0 % 256 = n % 256)]
  rfl
def zer (n:Nat) : Nat := (119 - n % 64) % 64
def zgi (n:Nat) : List UInt8 := ([128] ++ List.replicate (zer n) 0) ++ beL (8 * n)
theorem z9s (n:Nat) : (zgi n).length = 9 + zer n := by simp [zgi,beL]; omega
theorem zot (n:Nat) : (n + (zgi n).length) % 64 = 0 := by rw [z9s]; unfold zer; omega
theorem z1cn (k:Nat) {n:Nat} (hn:n <= 30000) : zf4 (k + 20) (n:Int) = some (zgi n) := by
  have e1 : IntKind.wrap .i64 ((1 : Int) + Int.tmod (IntKind.wrap .i64 ((119 : Int) - Int.tmod (n:Int) 64)) 64) = ((1 + zer n : Nat) : Int) := by
    rw [Int.tmod_eq_emod_of_nonneg (by omega : 0 <= (n:Int)),z1o (x := (119 : Int) - _) (by unfold I64; omega),Int.tmod_eq_emod_of_nonneg (by omega),z1o (by unfold I64; omega)]
    unfold zer; omega
  have hz : zer n < 64 := by unfold zer; omega
  have e2 : IntKind.wrap .u64 (8 * IntKind.wrap .u64 (n:Int)) = ((8 * n : Nat) : Int) := by
    show (8 * ((n:Int) % 18446744073709551616)) % 18446744073709551616 = _
    omega
  simp only [zf4]
  rw [e1,z13v _ (by omega) (by simp),Option.bind_some,e2,z1tf k (by omega),Option.bind_some]
  rw [zg (z15 (by simp [beL]; omega))]
  rw [show (1 + zer n - [(128 : UInt8)].length) = zer n by simp]
  rfl
end
end Go.Proofs.YtkipbccgnekoaaaGreatDoorLg
set_option linter.all false
namespace Go.Proofs.YtkipbccgnekoaaaGreatDoorLg
noncomputable section
open Go Go.Lift Go.Proofs.YtkipbccgnekoaaaGreatDoorPx
theorem zwj {α : Type} (l:List α) (d : α) {n:Nat} (h:l.length = n) : l = (List.range n).map fun i=>l.getD i d := by
  apply List.ext_getElem?
  intro i
  rw [List.getElem?_map]
  by_cases hi : i < n
  . rw [List.getElem?_eq_getElem (by omega),List.getElem?_range hi,Option.map_some,List.getD_eq_getElem?_getD,List.getElem?_eq_getElem (by omega)]; rfl
  . rw [List.getElem?_eq_none (by omega),List.getElem?_eq_none (by rw [List.length_range]; omega)]; rfl
set_option maxRecDepth 100000 in
theorem z179 (k:Nat) (g:Nat -> Int) (f:Nat -> UInt8) : (zb5 (k + 100) ((List.range 8).map g) ((List.range 64).map f)).map List.length = some 8 := by kernel_rfl
set_option maxRecDepth 100000 in
theorem z175 (k:Nat) (g:Nat -> Int) : (z9k (k + 100) ((List.range 8).map g)).isSome = true := by kernel_rfl
def st (N:Nat) (h:List Int) (b:List UInt8) : List Int := (zb5 N h b).getD []
theorem z132 (k:Nat) {h:List Int} {b:List UInt8} (hh:h.length = 8) (hb:b.length = 64) : zb5 (k + 100) h b = some (st (k + 100) h b) /\ (st (k + 100) h b).length = 8 := by
  have := z179 k (fun i=>h.getD i 0) (fun i=>b.getD i 0)
  rw [<- zwj h 0 hh, <- zwj b 0 hb] at this
  unfold st
  cases e : zb5 (k + 100) h b with
  | none=>rw [e] at this; cases this
  | some y=>rw [e] at this; exact ⟨rfl,Option.some.inj this⟩
def z5q (N:Nat) : Nat -> List Int -> List UInt8 -> List Int
  | 0,h,_=>h
  | j + 1,h,s=>z5q N j (st N h (s.take 64)) (s.drop 64)
theorem z8f (k:Nat) : ∀ (j:Nat) {h:List Int} {s:List UInt8},h.length = 8 -> 64 * j <= s.length -> (z5q (k + 100) j h s).length = 8
  | 0,h,s,hh,_=>hh
  | j + 1,h,s,hh,hs=>z8f k j (z132 k hh (by rw [List.length_take]; omega)).2 (by rw [List.length_drop]; omega)
theorem zf1 (N:Nat) : ∀ (i j:Nat) {h:List Int} {a b:List UInt8},a.length = 64 * i -> z5q N (i + j) h (a ++ b) = z5q N j (z5q N i h a) b
  | 0,j,h,a,b,ha=>by
    have : a = [] := List.length_eq_zero_iff.1 (by omega)
    subst this; rw [Nat.zero_add]; rfl
  | i + 1,j,h,a,b,ha=>by
    rw [show i + 1 + j = (i + j) + 1 by omega]
    simp only [z5q]
    rw [List.take_append_of_le_length (by omega),List.drop_append_of_le_length (by omega)]
    exact zf1 N i j (by rw [List.length_drop]; omega)
theorem zzm (k:Nat) {h:List Int} {s:List UInt8} {j:Nat} (hh:h.length = 8) (hs:s.length = 64 * j) (hj:j < k + 100) (hj2:j <= 100000) : z9x (k + 100) h s = some (z5q (k + 100) j h s) := by
  simp only [z9x,zmy]
  rw [z28 (I := fun (v:List Int × Int) => ∃ i : Nat,v.2 = ((64 * i : Nat) : Int) /\ i <= j /\ v.1.length = 8) (m := fun v=>j - v.2.toNat / 64)
    (R := fun v=>some (z5q (k + 100) (j - v.2.toNat / 64) v.1 (s.drop v.2.toNat))) ?_ (k + 100) (h,0) ⟨0,rfl,by omega,hh⟩ (by simpa using hj)]
  . simp
  rintro ⟨h',v⟩ r ⟨i,e,hi,hl⟩ hr
  dsimp only at e hl hr ⊢
  subst e
  rw [Int.toNat_natCast,show 64 * i / 64 = i by omega] at hr ⊢
  simp only [zgu]
  by_cases hlt : i < j
  . have hw : IntKind.wrap .i64 (((64 * i : Nat) : Int) + 64) = ((64 * i + 64 : Nat) : Int) := by rw [z1o (by unfold I64; omega)]; omega
    have hb : ((s.drop (64 * i)).take 64).length = 64 := by rw [List.length_take,List.length_drop]; omega
    rw [zg (z15 (by omega)),hw,zg (z15 (by omega)),zg (z15 (by omega)),Int.toNat_natCast,Int.toNat_natCast,z15g,(z132 k hl hb).1,Option.bind_some,hr _ ⟨i + 1,by dsimp only; omega,by omega,(z132 k hl hb).2⟩ (by dsimp only; omega)]
    dsimp only
    rw [Int.toNat_natCast,show (64 * i + 64) / 64 = i + 1 by omega,show j - i = (j - (i + 1)) + 1 by omega]
    simp only [z5q,List.drop_drop]
  . rw [zu (z3n (by omega)),show j - i = 0 by omega]; rfl
abbrev first : List Int := [1779033703,3144134277,1013904242,2773480762,1359893119,2600822924,528734635,1541459225]
abbrev Hsh : Type := Bool × (List Int × (List UInt8 × (Int × Unit)))
def total (n:Nat) : Nat := (n + (zgi n).length) / 64
def z12y (N:Nat) (h:List Int) : List UInt8 := (z9k N h).getD []
theorem zww (k:Nat) {h:List Int} (hh:h.length = 8) : z9k (k + 100) h = some (z12y (k + 100) h) := by
  have := z175 k (fun i=>h.getD i 0)
  rw [<- zwj h 0 hh] at this
  unfold z12y
  cases e : z9k (k + 100) h with
  | none=>rw [e] at this; cases this
  | some y=>rfl
def zgs (N:Nat) (s:List UInt8) : List UInt8 := z12y N (z5q N (total s.length) first (s ++ zgi s.length))
def z14k (N:Nat) (all:List UInt8) (h:Hsh) : Prop := ∃ j : Nat,64 * j <= all.length /\ h = (true,z5q N j first (all.take (64 * j)),all.drop (64 * j),(all.length : Int),())
theorem z107 (N:Nat) : z14k N [] (true,first,[],0,()) := ⟨0,by simp,rfl⟩
theorem z162 (k:Nat) {all s:List UInt8} {h:Hsh} (hk : 600 <= k) (hm:z14k (k + 100) all h) (hl:all.length + s.length <= 30000) : ∃ h',z5r (k + 100) h s = some ((),h',()) /\ z14k (k + 100) (all ++ s) h' := by
  obtain ⟨j,hj,rfl⟩ := hm
  have hd : all.drop (64 * j) ++ s = (all ++ s).drop (64 * j) := by rw [List.drop_append_of_le_length hj]
  simp only [z5r,zbx]
  rw [Bool.not_true,cond_false,zg (z15 (by rw [List.length_drop]; omega)),hd]
  generalize hq : ((all ++ s).drop (64 * j)).length / 64 = q
  have hL : ((all ++ s).drop (64 * j)).length = all.length + s.length - 64 * j := by rw [List.length_drop,List.length_append]
  have hw : IntKind.wrap .i64 ((((all ++ s).drop (64 * j)).length : Int) - Int.tmod (((all ++ s).drop (64 * j)).length : Int) 64) = ((64 * q : Nat) : Int) := by
    rw [Int.tmod_eq_emod_of_nonneg (by omega),z1o (by unfold I64; omega)]; omega
  have hq2 : 64 * q <= all.length + s.length - 64 * j := by omega
  have hsl : (z5q (k + 100) j first (all.take (64 * j))).length = 8 := z8f k j rfl (by rw [List.length_take]; omega)
  rw [hw,zg (z15 (by omega)),Int.toNat_natCast,zdd,zzm k hsl (by rw [List.length_take]; omega) (by omega:q < k + 100) (by omega),Option.bind_some,zg (z15 (by omega)),ztz]
  refine ⟨_,rfl,j + q,by rw [List.length_append]; omega, ?_⟩
  have e1 : (all ++ s).take (64 * (j + q)) = all.take (64 * j) ++ ((all ++ s).drop (64 * j)).take (64 * q) := by
    rw [Nat.mul_add,List.take_add,List.take_append_of_le_length hj]
  rw [e1,zf1 _ j q (by rw [List.length_take]; omega),List.drop_drop,List.length_append,show 64 * (j + q) = 64 * j + 64 * q by omega]
  have e2 : IntKind.wrap .i64 ((all.length : Int) + (s.length : Int)) = ((all.length + s.length : Nat) : Int) := by rw [z1o (by unfold I64; omega)]; omega
  rw [e2]
theorem zy4 (k:Nat) {all:List UInt8} {j:Nat} (hk : 600 <= k) (hj : 64 * j <= all.length) (hl:all.length <= 30000) :
    z9x (k + 100) (z5q (k + 100) j first (all.take (64 * j))) (all.drop (64 * j) ++ zgi all.length) = some (z5q (k + 100) (total all.length) first (all ++ zgi all.length)) /\ (z5q (k + 100) (total all.length) first (all ++ zgi all.length)).length = 8 := by
  have hwh := zot all.length
  have htl := z9s all.length
  have hz : zer all.length < 64 := by unfold zer; omega
  have htot : 64 * total all.length = all.length + (zgi all.length).length := by unfold total; omega
  have hsl : (z5q (k + 100) j first (all.take (64 * j))).length = 8 := z8f k j rfl (by rw [List.length_take]; omega)
  have hjt : j <= total all.length := by omega
  have e : z5q (k + 100) (total all.length) first (all ++ zgi all.length) = z5q (k + 100) (total all.length - j) (z5q (k + 100) j first (all.take (64 * j))) (all.drop (64 * j) ++ zgi all.length) := by
    have := zf1 (k + 100) j (total all.length - j) (h := first) (a := all.take (64 * j)) (b := all.drop (64 * j) ++ zgi all.length) (by rw [List.length_take]; omega)
    rw [<- List.append_assoc,List.take_append_drop,show j + (total all.length - j) = total all.length by omega] at this
    exact this
  constructor
  . rw [e,zzm k (j := total all.length - j) hsl (by rw [List.length_append,List.length_drop]; omega) (by omega) (by omega)]
  . exact z8f k _ rfl (by rw [List.length_append]; omega)
theorem z1l0 {k n:Nat} (hn:n <= 30000) : zf4 (k + 100) (n:Int) = some (zgi n) := z1cn (k + 80) hn
theorem z1cr (k:Nat) {all:List UInt8} {h:Hsh} (hk : 600 <= k) (hm:z14k (k + 100) all h) (hl:all.length <= 30000) : z8g (k + 100) h = some (zgs (k + 100) all,h,()) := by
  obtain ⟨j,hj,rfl⟩ := hm
  have hz : zer all.length < 64 := by unfold zer; omega
  obtain ⟨h1,h2⟩ := zy4 k hk hj hl
  simp only [z8g,zaj,zai]
  rw [Bool.not_true,cond_false,z1l0 hl,Option.bind_some,zg (z15 (by rw [z9s,List.length_drop]; omega)),h1,Option.bind_some,zww k h2,Option.bind_some]
  rfl
theorem z1m2 (k:Nat) {s:List UInt8} (hk : 600 <= k) (hl:s.length <= 30000) : zj9 (k + 100) s = some (zgs (k + 100) s) := by
  obtain ⟨h',h1,h2⟩ := z162 k (s := s) hk (z107 _) (by simpa using hl)
  rw [List.nil_append] at h2
  simp only [zj9]
  rw [h1,Option.bind_some,z1cr k hk h2 hl]; rfl
theorem z1cq (k:Nat) {all:List UInt8} {h:Hsh} (hk : 600 <= k) (hm:z14k (k + 100) all h) (hl:all.length <= 30000) : z7y (k + 100) h = some (zgs (k + 100) all,h,()) := by
  obtain ⟨j,hj,rfl⟩ := hm
  have hz : zer all.length < 64 := by unfold zer; omega
  obtain ⟨h1,h2⟩ := zy4 k hk hj hl
  simp only [z7y,zbu,zbt]
  rw [Bool.not_true,cond_false,z1l0 hl,Option.bind_some,zg (z15 (by rw [z9s,List.length_drop]; omega)),h1,Option.bind_some,zww k h2,Option.bind_some]
  rfl
end
end Go.Proofs.YtkipbccgnekoaaaGreatDoorLg
