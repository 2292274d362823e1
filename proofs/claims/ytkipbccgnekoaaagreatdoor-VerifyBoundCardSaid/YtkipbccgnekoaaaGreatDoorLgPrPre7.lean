import Derived.Test.YtkipbccgnekoaaaGreatDoorLgPrPre6
set_option linter.all false
set_option maxRecDepth 100000
namespace Go.Proofs.YtkipbccgnekoaaaGreatDoorLg
noncomputable section
open Go Go.Lift Go.Proofs.YtkipbccgnekoaaaGreatDoorPx
attribute [local irreducible] zrw z95 z85 zaa zgs
theorem z1ky (k:Nat) {t:Tk} {cid key nonce:List UInt8} (hk : 4400 <= k) (hn:t.2.1.length < 64) (ht:t.2.2.1.length <= 30000) (hc:cid.length <= 4144) (h16:nonce.length = 16) (hkey:key.length <= 1900) :
    z5y (k + 100) t cid key nonce = some (z10v (k + 100) t (cid,z95 (k + 100) (z2e (k + 100) t.2.2.1) nonce key,()),0,()) := by
  have hq := z71 k (t := t.2.2.1) (by omega) ht
  have hs2 := z9y k (key := z2e (k + 100) t.2.2.1) (nonce := nonce) (text := key) (by omega) (by omega) h16 (by omega)
  have hs : zb3 (cid,z95 (k + 100) (z2e (k + 100) t.2.2.1) nonce key,()) := ⟨by simp only; omega,by simp only; omega⟩
  simp only [z5y,zck,zcj]
  rw [show decide ((64 : Int) <= ((t.2.1.length : Nat) : Int)) = false from decide_eq_false (by omega)]
  rw [show decide ((4144 : Int) < ((cid.length : Nat) : Int)) = false from decide_eq_false (by omega)]
  simp only [cond_false]
  rw [znm k (by omega) ht,Option.bind_some,z13d k hk (by omega) h16 (by omega),Option.bind_some]
  simp only
  rw [zu (by rfl),zzg k (by omega) (by omega) ht hs]
  rfl
theorem z1gt (k:Nat) (hk : 600 <= k) {t:Tk} {l:List Tk} (ht:t.2.2.1.length <= 30000) (hl:l.length <= 100) (htl:t.2.1.length <= 1000) (hg : ∀ d ∈ l,z1qu d) : zfy (k + 100) t l = some (t,l.map (z1te (k + 100) t),()) := by
  rw [zfy,zu2 (k + 100) htl,Option.bind_some,zsv]
  refine (z28 (fun v => ∃ (i:Nat) (a:List Tk),v = ((t,a,()),(i:Int)) /\ i <= l.length /\ a.length = i) (fun v=>l.length - v.2.toNat) (fun v=>some (t,v.1.2.1 ++ (l.drop v.2.toNat).map (z1te (k + 100) t),())) ?_ (k + 100) ((t,[],()),0) ⟨0,[],rfl,by omega,rfl⟩ (by simp only; omega)).trans (by rfl)
  rintro v r ⟨i,a,rfl,hi,ha⟩ hr
  simp only [Int.toNat_natCast]
  rw [zmv]
  by_cases hlt : i < l.length
  . have hgi := hg _ (z5z l z18 i hlt)
    rw [zg (decide_eq_true (by omega)),zg (z14 hlt),Int.toNat_natCast,show (([] : List UInt8),(([] : List ((List UInt8) × ((List UInt8) × Unit))),(([] : List UInt8),()))) = z18 from rfl,z10h k hk (by have := hgi.1; omega) ht hgi.2,Option.bind_some]
    rw [zg (decide_eq_true (by simp only; omega)),z1n (by omega),hr _ ⟨i + 1,_,rfl,by omega,by simp [ha]⟩ (by simp only; omega)]
    simp only [Int.toNat_natCast]
    rw [z1y l z18 i hlt,List.map_cons,List.append_assoc]
    rfl
  . rw [zu (decide_eq_false (by omega)),z60 l (by omega),List.map_nil,List.append_nil]
theorem z1t2 (k:Nat) (hk : 4400 <= k) {n s key text:List UInt8} (h:z5u (k + 100) n s = some (key,text,0,())) (hkey:key.length <= 30000) (hs:s.length <= 8000) :
    zqk (k + 100) n s = some ((s,[],zl (k + 100) key s,()),0,()) := by
  rw [zqk,h,Option.bind_some,zu (by rfl),zx6 k (by omega) hkey hs,Option.bind_some,zw4]
  refine (z28 (fun v=>v = ()) (fun _=>0) (fun _=>some ((s,[],zl (k + 100) key s,()),0,())) ?_ (k + 100) () rfl (by omega))
  rintro v r _ hr
  rw [zqj,zu (by rfl)]
def ckB : List UInt8 := [99,107]
def txB : List UInt8 := [116,101,120,116]
def idB : List UInt8 := [105,100]
def nbB : List UInt8 := [110,111,116,97,114,121]
def nonB : List UInt8 := [102,101,100,99,98,97,57,56,55,54,53,52,51,50,49,48]
def z5g (N:Nat) : List UInt8 := z95 N nbB nonceX (zcp ckB txB)
def z4x (N:Nat) (root:List UInt8) : Lk := (z5g N,z95 N (z2e N root) nonB ckB,())
def z5p (N:Nat) (root a:List UInt8) : Tk := (idB,[z4x N root,mkL a],z69 N (z69 N root (z4x N root)) (mkL a),())
def zmt (N:Nat) (tag:List UInt8) : Tk := (z5g N,[],tag,())
def zcx (N:Nat) (root tag:List UInt8) : List (List UInt8) :=
 (z29 N root (z11 [[115,101,97,108]]) ++ zwn N (z2e N root) (z4x N root).2.1) ++ (z32 N ckB (z5g N) [] ++ z29 N tag (z11 [[98,105,110,100],zl N ckB (z5g N)]))
structure FactB (k:Nat) (key a:List UInt8) : Prop where
  root : (zl (k + 100) key idB).length = 32
  tick : (z5g (k + 100)).length = 70
  sea : (z4x (k + 100) (zl (k + 100) key idB)).2.1.length = 50
  sk : (z2e (k + 100) (zl (k + 100) key idB)).length = 32
  opn : zme (k + 100) (z2e (k + 100) (zl (k + 100) key idB)) (z4x (k + 100) (zl (k + 100) key idB)).2.1 = some ckB
  small1 : zb3 (z4x (k + 100) (zl (k + 100) key idB))
  small2 : zb3 (mkL a)
  t1 : (z69 (k + 100) (zl (k + 100) key idB) (z4x (k + 100) (zl (k + 100) key idB))).length = 32
  tag : (z5p (k + 100) (zl (k + 100) key idB) a).2.2.1.length = 32
  dl : (zl (k + 100) ckB (z5g (k + 100))).length = 32
theorem z1t1 (k:Nat) (hk : 4400 <= k) {key a:List UInt8} (hl:key.length = 32) (ha:a.length <= 300) : FactB k key a := by
  have hr : (zl (k + 100) key idB).length = 32 := zp9 k (by omega) (by omega) (by simp [idB])
  have hsk := z71 k (t := zl (k + 100) key idB) (by omega) (by omega)
  have hn16 : nonB.length = 16 := rfl
  have hx16 : nonceX.length = 16 := rfl
  have hck : ckB.length = 2 := rfl
  have hnb : nbB.length = 6 := rfl
  have hfr : (zcp ckB txB).length = 22 := by rw [z6b]; rfl
  have htick : (z5g (k + 100)).length = 70 := by
    have := z9y k (key := nbB) (nonce := nonceX) (text := zcp ckB txB) (by omega) (by omega) hx16 (by omega)
    unfold z5g; rw [this,hfr]
  have hseal : (z4x (k + 100) (zl (k + 100) key idB)).2.1.length = 50 := by
    have := z9y k (key := z2e (k + 100) (zl (k + 100) key idB)) (nonce := nonB) (text := ckB) (by omega) (by omega) hn16 (by omega)
    unfold z4x; simp only; rw [this,hck]
  have hfit := zvx k (key := z2e (k + 100) (zl (k + 100) key idB)) (nonce := nonB) (text := ckB) (by omega) (by omega) hn16 (by omega)
  have s1 : zb3 (z4x (k + 100) (zl (k + 100) key idB)) := ⟨by show (z5g (k + 100)).length <= 4200; omega,by omega⟩
  have s2 : zb3 (mkL a) := ⟨by show a.length <= 4200; omega,by show ([] : List UInt8).length <= 4200; simp⟩
  have ht1 := z5v k (t := zl (k + 100) key idB) (by omega) (by omega) s1
  refine ⟨hr,htick,hseal,hsk, ?_,s1,s2,ht1,z5v k (by omega) (by omega) s2,zp9 k (by omega) (by omega) (by omega)⟩
  unfold zme
  rw [if_pos ⟨by omega,by omega,hfit.1⟩]
  exact congrArg some hfit.2
theorem zts (k:Nat) {key a tag:List UInt8} (h:FactB k key a) (ht:tag.length = 32) : GoodB (z5p (k + 100) (zl (k + 100) key idB) a,[zmt (k + 100) tag],()) := by
  have h1 := h.tag
  have h2 := h.tick
  refine ⟨⟨by simp [z5p,idB],by show (z5p (k + 100) (zl (k + 100) key idB) a).2.2.1.length <= 100; omega,by simp [z5p], ?_⟩, ?_,by simp⟩
  . intro l hl
    simp only [z5p,List.mem_cons,List.not_mem_nil,or_false] at hl
    rcases hl with rfl | rfl
    . exact h.small1
    . exact h.small2
  . intro t hm
    simp only [List.mem_singleton] at hm
    subst hm
    exact ⟨by show (z5g (k + 100)).length <= 4200; omega,by show tag.length <= 100; omega,by simp [zmt],fun l hl=>(List.not_mem_nil hl).elim⟩
theorem z1os (k:Nat) {key a:List UInt8} : z6v (k + 100) (zl (k + 100) key (z5p (k + 100) (zl (k + 100) key idB) a).1) (z5p (k + 100) (zl (k + 100) key idB) a).2.1 = (z5p (k + 100) (zl (k + 100) key idB) a).2.2.1 := by
  unfold z5p
  simp only [zsh,zq1]
def gsB (N:Nat) (root a:List UInt8) : List (List UInt8) := [root,z69 N root (z4x N root),z69 N (z69 N root (z4x N root)) (mkL a)]
theorem tagsB (N:Nat) (root a:List UInt8) : z8e N root (z5p N root a).2.1 = gsB N root a := by
  unfold z5p gsB
  simp only [z8e]
theorem zwv {N:Nat} {b:zb2} {st:SV} {before:List UInt8} {l:Lk} {c:List UInt8} {a:Nat} (ho:zme N (z2e N before) l.2.1 = some c) (hf:zal l.1 b.2.1 st.used 0 = some a) :
    z7x N b st before l = if z93 N b.1.2.2.1 (z6v N (zl N c (b.2.1.getD a z18).1) (b.2.1.getD a z18).2.1) = (b.2.1.getD a z18).2.2.1 then
      (({ used := st.used.set a true,items := st.items ++ [(b.2.1.getD a z18,z8e N (zl N c (b.2.1.getD a z18).1) (b.2.1.getD a z18).2.1)],texts := st.texts,work := st.work + (b.2.1.getD a z18).2.1.length + 3,summed := (st.summed ++ (z29 N before (z11 [[115,101,97,108]]) ++ zwn N (z2e N before) l.2.1)) ++ (z32 N c (b.2.1.getD a z18).1 (b.2.1.getD a z18).2.1 ++ z29 N b.1.2.2.1 (z11 [[98,105,110,100],z6v N (zl N c (b.2.1.getD a z18).1) (b.2.1.getD a z18).2.1])) } : SV),true)
    else
      (({ used := st.used.set a true,items := st.items,texts := st.texts,work := st.work + (b.2.1.getD a z18).2.1.length + 3,summed := (st.summed ++ (z29 N before (z11 [[115,101,97,108]]) ++ zwn N (z2e N before) l.2.1)) ++ (z32 N c (b.2.1.getD a z18).1 (b.2.1.getD a z18).2.1 ++ z29 N b.1.2.2.1 (z11 [[98,105,110,100],z6v N (zl N c (b.2.1.getD a z18).1) (b.2.1.getD a z18).2.1])) } : SV),false) := by
  unfold z7x
  simp only
  rw [ho]
  simp only
  rw [hf]
theorem thB (k:Nat) {key a tag:List UInt8} (h:FactB k key a) (st:SV) (hu:st.used = [false]) : z7x (k + 100) (z5p (k + 100) (zl (k + 100) key idB) a,[zmt (k + 100) tag],()) st (zl (k + 100) key idB) (z4x (k + 100) (zl (k + 100) key idB)) =
      (if z93 (k + 100) (z5p (k + 100) (zl (k + 100) key idB) a).2.2.1 (zl (k + 100) ckB (z5g (k + 100))) = tag then
        (({ used := [true],items := st.items ++ [(zmt (k + 100) tag,[zl (k + 100) ckB (z5g (k + 100))])],texts := st.texts,work := st.work + 3,summed := st.summed ++ zcx (k + 100) (zl (k + 100) key idB) (z5p (k + 100) (zl (k + 100) key idB) a).2.2.1 } : SV),true)
      else (({ used := [true],items := st.items,texts := st.texts,work := st.work + 3,summed := st.summed ++ zcx (k + 100) (zl (k + 100) key idB) (z5p (k + 100) (zl (k + 100) key idB) a).2.2.1 } : SV),false)) := by
  have hf : zal (z4x (k + 100) (zl (k + 100) key idB)).1 [zmt (k + 100) tag] st.used 0 = some 0 := by
    rw [hu]
    unfold zal
    rw [if_pos ⟨rfl,rfl⟩]
  have e1 : (zmt (k + 100) tag).1 = z5g (k + 100) := rfl
  have e2 : (zmt (k + 100) tag).2.1 = [] := rfl
  have e3 : (zmt (k + 100) tag).2.2.1 = tag := rfl
  rw [zwv (b := (z5p (k + 100) (zl (k + 100) key idB) a,[zmt (k + 100) tag],())) h.opn hf]
  rw [show ((z5p (k + 100) (zl (k + 100) key idB) a,[zmt (k + 100) tag],()) : zb2).2.1.getD 0 z18 = zmt (k + 100) tag from rfl]
  rw [e1,e2,e3,zq1,List.length_nil,Nat.add_zero,z8e,hu,List.append_assoc,List.set_cons_zero]
  unfold zcx
  rw [List.append_assoc]
theorem zn6 {N:Nat} {b:zb2} {f i:Nat} {st s:SV} {x:ItD} (hi:i < st.items.length) (hx:st.items.getD i (z18,[]) = x) (h:z31 N b x.1.2.1 x.2 st = (s,true)) : z3w N b (f + 1) i st = z3w N b f (i + 1) s := by
  rw [z3w,if_pos hi,hx,h]
theorem zvf {N:Nat} {b:zb2} {f i:Nat} {st s:SV} {x:ItD} (hi:i < st.items.length) (hx:st.items.getD i (z18,[]) = x) (h:z31 N b x.1.2.1 x.2 st = (s,false)) : z3w N b (f + 1) i st = (s,false) := by
  rw [z3w,if_pos hi,hx,h]
theorem z13x {N:Nat} {b:zb2} {f i:Nat} {st:SV} (hi : ¬ i < st.items.length) : z3w N b (f + 1) i st = (st,true) := by
  rw [z3w,if_neg hi]
theorem z14x {N:Nat} {b:zb2} {l:Lk} {ls:List Lk} {g:List UInt8} {gs:List (List UInt8)} {st:SV} (hl:l.2.1 = []) : z31 N b (l :: ls) (g :: gs) st = z31 N b ls gs { st with texts := st.texts ++ [l.1] } := by
  rw [z31,if_pos hl]
theorem ztn {N:Nat} {b:zb2} {l:Lk} {ls:List Lk} {g:List UInt8} {gs:List (List UInt8)} {st s:SV} (hl:l.2.1 ≠ []) (h:z7x N b st g l = (s,true)) : z31 N b (l :: ls) (g :: gs) st = z31 N b ls gs s := by
  rw [z31,if_neg hl,h]
theorem zto {N:Nat} {b:zb2} {l:Lk} {ls:List Lk} {g:List UInt8} {gs:List (List UInt8)} {st s:SV} (hl:l.2.1 ≠ []) (h:z7x N b st g l = (s,false)) : z31 N b (l :: ls) (g :: gs) st = (s,false) := by
  rw [z31,if_neg hl,h]
theorem zvr {N:Nat} {b:zb2} {gs:List (List UInt8)} {st:SV} : z31 N b [] gs st = (st,true) := by
  rw [z31]
theorem outB (k:Nat) {key a tag:List UInt8} (h:FactB k key a) (S0:List (List UInt8)) :
    z3w (k + 100) (z5p (k + 100) (zl (k + 100) key idB) a,[zmt (k + 100) tag],()) 20 0 { used := [false],items := [(z5p (k + 100) (zl (k + 100) key idB) a,gsB (k + 100) (zl (k + 100) key idB) a)],texts := [],work := 3,summed := S0 } =
      (if z93 (k + 100) (z5p (k + 100) (zl (k + 100) key idB) a).2.2.1 (zl (k + 100) ckB (z5g (k + 100))) = tag then
        (({ used := [true],items := [(z5p (k + 100) (zl (k + 100) key idB) a,gsB (k + 100) (zl (k + 100) key idB) a),(zmt (k + 100) tag,[zl (k + 100) ckB (z5g (k + 100))])],texts := [a],work := 6,summed := S0 ++ zcx (k + 100) (zl (k + 100) key idB) (z5p (k + 100) (zl (k + 100) key idB) a).2.2.1 } : SV),true)
      else (({ used := [true],items := [(z5p (k + 100) (zl (k + 100) key idB) a,gsB (k + 100) (zl (k + 100) key idB) a)],texts := [],work := 6,summed := S0 ++ zcx (k + 100) (zl (k + 100) key idB) (z5p (k + 100) (zl (k + 100) key idB) a).2.2.1 } : SV),false)) := by
  have hseal : (z4x (k + 100) (zl (k + 100) key idB)).2.1 ≠ [] := by
    intro e; have := h.sea; rw [e] at this; simp at this
  have hth := thB k (tag := tag) h { used := [false],items := [(z5p (k + 100) (zl (k + 100) key idB) a,gsB (k + 100) (zl (k + 100) key idB) a)],texts := [],work := 3,summed := S0 } rfl
  by_cases he : z93 (k + 100) (z5p (k + 100) (zl (k + 100) key idB) a).2.2.1 (zl (k + 100) ckB (z5g (k + 100))) = tag
  . rw [if_pos he] at hth ⊢
    have h1 := (ztn (ls := [mkL a]) (gs := [z69 (k + 100) (zl (k + 100) key idB) (z4x (k + 100) (zl (k + 100) key idB)),z69 (k + 100) (z69 (k + 100) (zl (k + 100) key idB) (z4x (k + 100) (zl (k + 100) key idB))) (mkL a)]) hseal hth).trans ((z14x (show (mkL a).2.1 = [] from rfl)).trans zvr)
    refine (zn6 (x := (z5p (k + 100) (zl (k + 100) key idB) a,gsB (k + 100) (zl (k + 100) key idB) a)) (show 0 < 1 from Nat.zero_lt_one) rfl h1).trans ?_
    refine (zn6 (x := (zmt (k + 100) tag,[zl (k + 100) ckB (z5g (k + 100))])) (show 1 < 2 from Nat.lt_succ_self 1) rfl zvr).trans ?_
    exact z13x (show ¬ 2 < 2 from Nat.lt_irrefl 2)
  . rw [if_neg he] at hth ⊢
    exact zvf (x := (z5p (k + 100) (zl (k + 100) key idB) a,gsB (k + 100) (zl (k + 100) key idB) a)) (show 0 < 1 from Nat.zero_lt_one) rfl (zto (ls := [mkL a]) (gs := [z69 (k + 100) (zl (k + 100) key idB) (z4x (k + 100) (zl (k + 100) key idB)),z69 (k + 100) (z69 (k + 100) (zl (k + 100) key idB) (z4x (k + 100) (zl (k + 100) key idB))) (mkL a)]) hseal hth)
theorem stB_B (k:Nat) (key a tag:List UInt8) : stB (k + 100) key (z5p (k + 100) (zl (k + 100) key idB) a,[zmt (k + 100) tag],()) = { used := [false],items := [(z5p (k + 100) (zl (k + 100) key idB) a,gsB (k + 100) (zl (k + 100) key idB) a)],texts := [],work := 3,summed := z32 (k + 100) key idB [z4x (k + 100) (zl (k + 100) key idB),mkL a] } := by
  have e1 := tagsB (k + 100) (zl (k + 100) key idB) a
  unfold stB stA
  rw [show z8e (k + 100) (zl (k + 100) key ((z5p (k + 100) (zl (k + 100) key idB) a,[zmt (k + 100) tag],()) : zb2).1.1) ((z5p (k + 100) (zl (k + 100) key idB) a,[zmt (k + 100) tag],()) : zb2).1.2.1 = gsB (k + 100) (zl (k + 100) key idB) a from e1]
  rfl
theorem runB (k:Nat) {key a tag:List UInt8} (h:FactB k key a) :
    (zd5 (k + 100) key (z5p (k + 100) (zl (k + 100) key idB) a,[zmt (k + 100) tag],())).2 = (if z93 (k + 100) (z5p (k + 100) (zl (k + 100) key idB) a).2.2.1 (zl (k + 100) ckB (z5g (k + 100))) = tag then 0 else 11) ∧
    (zd5 (k + 100) key (z5p (k + 100) (zl (k + 100) key idB) a,[zmt (k + 100) tag],())).1.summed =
      z32 (k + 100) key idB [z4x (k + 100) (zl (k + 100) key idB),mkL a] ++ zcx (k + 100) (zl (k + 100) key idB) (z5p (k + 100) (zl (k + 100) key idB) a).2.2.1 := by
  have hout := outB k (tag := tag) h (z32 (k + 100) key idB [z4x (k + 100) (zl (k + 100) key idB),mkL a])
  rw [<- stB_B] at hout
  unfold zd5
  rw [if_pos (z1os k)]
  generalize z3w (k + 100) (z5p (k + 100) (zl (k + 100) key idB) a,[zmt (k + 100) tag],()) 20 0 (stB (k + 100) key (z5p (k + 100) (zl (k + 100) key idB) a,[zmt (k + 100) tag],())) = T at *
  subst hout
  generalize z32 (k + 100) key idB [z4x (k + 100) (zl (k + 100) key idB),mkL a] ++ zcx (k + 100) (zl (k + 100) key idB) (z5p (k + 100) (zl (k + 100) key idB) a).2.2.1 = M
  generalize gsB (k + 100) (zl (k + 100) key idB) a = G
  by_cases he : z93 (k + 100) (z5p (k + 100) (zl (k + 100) key idB) a).2.2.1 (zl (k + 100) ckB (z5g (k + 100))) = tag
  . simp only [if_pos he]
    simp
  . simp only [if_neg he]
    simp
end
end Go.Proofs.YtkipbccgnekoaaaGreatDoorLg
set_option linter.all false
set_option maxRecDepth 100000
namespace Go.Proofs.YtkipbccgnekoaaaGreatDoorLg
noncomputable section
open Go Go.Lift Go.Proofs.YtkipbccgnekoaaaGreatDoorPx
theorem zwh (N:Nat) (t d:List UInt8) : z93 N t d = zrw N t (z11 [[98,105,110,100],d]) := rfl
theorem zzh (N:Nat) (root a:List UInt8) : (z5p N root a).2.2.1 = z69 N (z69 N root (z4x N root)) (mkL a) := rfl
theorem zvi (N:Nat) (t:List UInt8) (l:Lk) : z69 N t l = zrw N t (z11 (z4v l)) := rfl
attribute [local irreducible] zrw z95 z85 zaa zgs z29 zwn z93 zl z69 z2e
theorem zxm (k:Nat) {key a tag:List UInt8} (hk : 4400 <= k) (h:FactB k key a) (ht:tag.length = 32) : ∀ p ∈ zcx (k + 100) (zl (k + 100) key idB) tag,p.length <= 30000 := by
  have hr := h.root
  have hs := h.sea
  have hsk := h.sk
  have hdl := h.dl
  have htk := h.tick
  intro p hp
  unfold zcx at hp
  rcases List.mem_append.1 hp with hp | hp
  . rcases List.mem_append.1 hp with hp | hp
    . exact z9r k (by omega) (by omega) (by rw [ze7]; omega) p hp
    . unfold zwn at hp
      rw [if_pos (by omega)] at hp
      rcases List.mem_append.1 hp with hp | hp
      . exact z9r k (by omega) (by omega) (by rw [zf0]; omega) p hp
      . exact z9r k (by omega) (by rw [zbm k (by omega) (by omega)]; omega) (by rw [List.length_take]; omega) p hp
  . rcases List.mem_append.1 hp with hp | hp
    . exact zmw k (by omega) (by simp [ckB]) (by omega) (fun l hl=>(List.not_mem_nil hl).elim) p hp
    . exact z9r k (by omega) (by omega) (by rw [zcv]; omega) p hp
theorem znb (N:Nat) (root tag:List UInt8) : (zcx N root tag).length <= 20 := by
  unfold zcx zwn z32
  split <;> simp [z29,z58]
theorem z1t4 (k:Nat) (hk : 4400 <= k) {key a b:List UInt8} (ha:FactB k key a) (hb:FactB k key b) (hkey:key.length = 32) (hab:a ≠ b)
    (he:z93 (k + 100) (z5p (k + 100) (zl (k + 100) key idB) a).2.2.1 (zl (k + 100) ckB (z5g (k + 100))) = z93 (k + 100) (z5p (k + 100) (zl (k + 100) key idB) b).2.2.1 (zl (k + 100) ckB (z5g (k + 100)))) :
    z1x (k + 100) ((z32 (k + 100) key idB [z4x (k + 100) (zl (k + 100) key idB),mkL a] ++ zcx (k + 100) (zl (k + 100) key idB) (z5p (k + 100) (zl (k + 100) key idB) a).2.2.1) ++
      (z32 (k + 100) key idB [z4x (k + 100) (zl (k + 100) key idB),mkL b] ++ zcx (k + 100) (zl (k + 100) key idB) (z5p (k + 100) (zl (k + 100) key idB) b).2.2.1)) = some true := by
  have h1 := ha.dl
  have hta := ha.tag
  have htb := hb.tag
  have sm : ∀ x : List UInt8,FactB k key x -> ∀ p ∈ z32 (k + 100) key idB [z4x (k + 100) (zl (k + 100) key idB),mkL x] ++ zcx (k + 100) (zl (k + 100) key idB) (z5p (k + 100) (zl (k + 100) key idB) x).2.2.1,p.length <= 30000 := by
    intro x hx p hp
    rcases List.mem_append.1 hp with hp | hp
    . refine zmw k (by omega) (by omega) (by simp [idB]) (fun l hl => ?_) p hp
      simp only [List.mem_cons,List.not_mem_nil,or_false] at hl
      rcases hl with rfl | rfl
      . exact hx.small1
      . exact hx.small2
    . exact zxm k hk hx hx.tag p hp
  have ln : ∀ x : List UInt8,(z32 (k + 100) key idB [z4x (k + 100) (zl (k + 100) key idB),mkL x] ++ zcx (k + 100) (zl (k + 100) key idB) (z5p (k + 100) (zl (k + 100) key idB) x).2.2.1).length <= 26 := by
    intro x
    have := znb (k + 100) (zl (k + 100) key idB) (z5p (k + 100) (zl (k + 100) key idB) x).2.2.1
    unfold z32
    rw [List.length_append,List.length_append,z3t]
    simp only [z29,List.length_cons,List.length_nil]
    omega
  have fin : ∀ p q : List UInt8,p ∈ z32 (k + 100) key idB [z4x (k + 100) (zl (k + 100) key idB),mkL a] ++ zcx (k + 100) (zl (k + 100) key idB) (z5p (k + 100) (zl (k + 100) key idB) a).2.2.1 →
      q ∈ z32 (k + 100) key idB [z4x (k + 100) (zl (k + 100) key idB),mkL b] ++ zcx (k + 100) (zl (k + 100) key idB) (z5p (k + 100) (zl (k + 100) key idB) b).2.2.1 -> p ≠ q -> zgs (k + 100) p = zgs (k + 100) q →
      z1x (k + 100) ((z32 (k + 100) key idB [z4x (k + 100) (zl (k + 100) key idB),mkL a] ++ zcx (k + 100) (zl (k + 100) key idB) (z5p (k + 100) (zl (k + 100) key idB) a).2.2.1) ++
      (z32 (k + 100) key idB [z4x (k + 100) (zl (k + 100) key idB),mkL b] ++ zcx (k + 100) (zl (k + 100) key idB) (z5p (k + 100) (zl (k + 100) key idB) b).2.2.1)) = some true := by
    intro p q hp hq hne hs
    refine z15n (by omega) ?_ (fun x hx => ?_) (List.mem_append.2 (.inl hp)) (List.mem_append.2 (.inr hq)) hne hs
    . have := ln a; have := ln b
      rw [List.length_append]; omega
    . rcases List.mem_append.1 hx with hx | hx
      . exact sm a ha x hx
      . exact sm b hb x hx
  have inM : ∀ (x p:List UInt8),p ∈ z29 (k + 100) (z5p (k + 100) (zl (k + 100) key idB) x).2.2.1 (z11 [[98,105,110,100],zl (k + 100) ckB (z5g (k + 100))]) -> p ∈ z32 (k + 100) key idB [z4x (k + 100) (zl (k + 100) key idB),mkL x] ++ zcx (k + 100) (zl (k + 100) key idB) (z5p (k + 100) (zl (k + 100) key idB) x).2.2.1 := by
    intro x p hp
    exact List.mem_append.2 (.inr (List.mem_append.2 (.inr (List.mem_append.2 (.inr hp)))))
  have inT : ∀ (x p:List UInt8),p ∈ z29 (k + 100) (z69 (k + 100) (zl (k + 100) key idB) (z4x (k + 100) (zl (k + 100) key idB))) (z11 (z4v (mkL x))) -> p ∈ z32 (k + 100) key idB [z4x (k + 100) (zl (k + 100) key idB),mkL x] ++ zcx (k + 100) (zl (k + 100) key idB) (z5p (k + 100) (zl (k + 100) key idB) x).2.2.1 := by
    intro x p hp
    refine List.mem_append.2 (.inl ?_)
    unfold z32
    rw [z58,z58]
    exact List.mem_append.2 (.inr (List.mem_append.2 (.inr (List.mem_append.2 (.inl hp)))))
  have hfr : (z11 [[98,105,110,100],zl (k + 100) ckB (z5g (k + 100))]).length <= 29900 := by rw [zcv]; omega
  rw [zwh,zwh] at he
  rcases zup k (by omega) hta htb hfr hfr he with ⟨n1,s1⟩ | ⟨e1,⟨n1,s1⟩ | _⟩
  . exact fin _ _ (inM a _ (zkx ..)) (inM b _ (zkx ..)) n1 s1
  . exact fin _ _ (inM a _ (zl4 ..)) (inM b _ (zl4 ..)) n1 s1
  . have ht1 := ha.t1
    have pa := z4o ha.small2
    have pb := z4o hb.small2
    rw [zzh,zzh,zvi (l := mkL a),zvi (l := mkL b)] at e1
    have e2 := e1
    rcases zup k (by omega) ht1 ht1 (by omega) (by omega) e2 with ⟨n2,s2⟩ | ⟨_,⟨n2,s2⟩ | e3⟩
    . exact fin _ _ (inT a _ (zkx ..)) (inT b _ (zkx ..)) n2 s2
    . exact fin _ _ (inT a _ (zl4 ..)) (inT b _ (zl4 ..)) n2 s2
    . have e4 := z152 (zvd ha.small2) (zvd hb.small2) e3
      have e5 := z13u e4
      exact absurd (congrArg (·.1) e5) hab
end
end Go.Proofs.YtkipbccgnekoaaaGreatDoorLg
set_option linter.all false
set_option maxRecDepth 100000
namespace Go.Proofs.YtkipbccgnekoaaaGreatDoorLg
noncomputable section
open Go Go.Lift Go.Proofs.YtkipbccgnekoaaaGreatDoorPx
attribute [local irreducible] zrw z95 z85 zaa zgs z29 zwn z93 zl z69 z2e
theorem zk7 (k:Nat) (key a tag:List UInt8) : zlx (z5p (k + 100) (zl (k + 100) key idB) a,[zmt (k + 100) tag],()) = true := rfl
theorem z18f {N:Nat} {key a b R T:List UInt8} {D M A B E:Tk} {U:zb2} {x1 x2:List (List UInt8)} {e1 e2:Int}
    (hw:z2c N = some true) (h1:key.length = 32) (hab:a ≠ b) (h2:a.length <= 300) (h3:b.length <= 300)
    (r1:z5e N key [105,100] = some R)
    (r2:z4w N [110,111,116,97,114,121] [48,49,50,51,52,53,54,55,56,57,97,98,99,100,101,102] [99,107] [116,101,120,116] = some (T,0,()))
    (r3:zqk N [110,111,116,97,114,121] T = some (D,0,()))
    (r4:z5y N ([105,100],[],R,()) T [99,107] [102,101,100,99,98,97,57,56,55,54,53,52,51,50,49,48] = some (M,0,()))
    (r5:z3u N M a = some (A,0,())) (r6:z3u N M b = some (B,0,()))
    (r7:z7u N B D = some E) (r8:zfy N A [D] = some U)
    (r9:z2v N key U = some (x1,e1,())) (r10:z2v N key (A,[E],()) = some (x2,e2,())) (he1:e1 = 0)
    (hc:e2 = 11 \/ (e2 = 0 /\ ∃ (P Q:zns) (W:zb2),zn4 N key (A,[E],()) = some P /\ zfy N B [D] = some W /\ zn4 N key W = some Q ∧
      P.2.2.2.2.1.length + Q.2.2.2.2.1.length <= 1000 /\ z1x N (P.2.2.2.2.1 ++ Q.2.2.2.2.1) = some true)) :
    ztm N key a b = some true := by
  rw [ztm,zod,zoc,hw,zu (by rw [h1]; rfl),zu (beq_eq_false_iff_ne.2 hab),zu (decide_eq_false (by omega)),decide_eq_false (show ¬ (300 : Int) < ((b.length : Nat) : Int) by omega)]
  simp only [cond_false]
  rw [r1,Option.bind_some,r2,Option.bind_some]
  simp only
  rw [r3,Option.bind_some,r4,Option.bind_some]
  simp only
  rw [r5,Option.bind_some,r6,Option.bind_some,ztl,ztk]
  simp only [bne_self_eq_false,cond_false]
  rw [r7,Option.bind_some,r8,Option.bind_some,r9,Option.bind_some,r10,Option.bind_some,ztj,zti]
  subst he1
  rcases hc with rfl | ⟨rfl,P,Q,W,q1,q2,q3,q4,q5⟩
  . simp only [bne_self_eq_false,cond_false]
    rw [show ((11 : Int) == 11) = true from rfl,cond_true,show ((0 : Int) == 0) = true from rfl,cond_true,hw]; rfl
  . simp only [bne_self_eq_false,cond_false]
    rw [show ((0 : Int) == 11) = false from rfl,cond_false,q1,Option.bind_some,q2,Option.bind_some,q3,Option.bind_some,zg (decide_eq_true (by omega)),q5,Option.bind_some]
theorem zl3 {N:Nat} {key a b:List UInt8} (hw:z2c N = some true) (h:key.length ≠ 32 \/ a = b \/ 300 < a.length \/ 300 < b.length) : ztm N key a b = some true := by
  rw [ztm,zod,zoc,hw]
  by_cases h1 : ¬ key.length = 32
  . rw [zg (by rw [bne_iff_ne]; omega)]; rfl
  replace h1 := Classical.not_not.1 h1
  rw [zu (by rw [h1]; rfl)]
  by_cases hab : a = b
  . rw [zg (beq_iff_eq.2 hab)]; rfl
  rw [zu (beq_eq_false_iff_ne.2 hab)]
  by_cases h2 : 300 < a.length
  . rw [zg (decide_eq_true (by omega))]; rfl
  rw [zu (decide_eq_false (by omega))]
  have h3 : 300 < b.length := by
    rcases h with h | h | h | h
    . exact absurd h1 h
    . exact absurd h hab
    . exact absurd h h2
    . exact h
  rw [decide_eq_true (show (300 : Int) < ((b.length : Nat) : Int) by omega)]; rfl
theorem zkq (s:SV) (e:Int) : (z4l s e).2.2.2.2.1 = s.summed := rfl
theorem z1t7 (k:Nat) (hk : 4400 <= k) {key x:List UInt8} (hx:FactB k key x) : zfy (k + 100) (z5p (k + 100) (zl (k + 100) key idB) x) [zmt (k + 100) (zl (k + 100) ckB (z5g (k + 100)))] = some (z5p (k + 100) (zl (k + 100) key idB) x,[zmt (k + 100) (z93 (k + 100) (z5p (k + 100) (zl (k + 100) key idB) x).2.2.1 (zl (k + 100) ckB (z5g (k + 100))))],()) := by
  have h1 := hx.tag
  have h2 : (zmt (k + 100) (zl (k + 100) ckB (z5g (k + 100)))).2.2.1.length = 32 := hx.dl
  exact z1gt k (by omega) (by omega) (show 1 <= 100 by omega) (show 2 <= 1000 by omega) (fun d hd=>by
    rw [List.mem_singleton] at hd
    subst hd
    exact ⟨Nat.zero_le _,by omega⟩)
theorem z12u (N:Nat) (key x:List UInt8) : (z32 N key idB [z4x N (zl N key idB),mkL x] ++ zcx N (zl N key idB) (z5p N (zl N key idB) x).2.2.1).length <= 26 := by
  have := znb N (zl N key idB) (z5p N (zl N key idB) x).2.2.1
  unfold z32
  rw [List.length_append,List.length_append,z3t]
  simp only [z29,List.length_cons,List.length_nil]
  omega
theorem z14g (k:Nat) (hk : 4400 <= k) {key a:List UInt8} (fa:FactB k key a) :
    z5y (k + 100) (idB,[],zl (k + 100) key idB,()) (z5g (k + 100)) ckB nonB = some (z10v (k + 100) (idB,[],zl (k + 100) key idB,()) (z4x (k + 100) (zl (k + 100) key idB)),0,()) := by
  have hrt : ((idB,[],zl (k + 100) key idB,()) : Tk).2.2.1.length = 32 := fa.root
  have htk := fa.tick
  exact z1ky k hk (show 0 < 64 by omega) (by omega) (by omega) rfl (show 2 <= 1900 by omega)
theorem z14h (k:Nat) (hk : 4400 <= k) {key a:List UInt8} (fa:FactB k key a) (h:a.length <= 300) :
    z3u (k + 100) (z10v (k + 100) (idB,[],zl (k + 100) key idB,()) (z4x (k + 100) (zl (k + 100) key idB))) a = some (z5p (k + 100) (zl (k + 100) key idB) a,0,()) := by
  have ht : (z10v (k + 100) (idB,[],zl (k + 100) key idB,()) (z4x (k + 100) (zl (k + 100) key idB))).2.2.1.length = 32 := fa.t1
  exact z1gi k (by omega) (show 1 < 64 by omega) (by omega) (by omega)
theorem zyc (k:Nat) (hk : 4400 <= k) (hw:z2c (k + 100) = some true) {key a b:List UInt8} : ztm (k + 100) key a b = some true := by
  by_cases h1 : key.length ≠ 32
  . exact zl3 hw (.inl h1)
  by_cases hab : a = b
  . exact zl3 hw (.inr (.inl hab))
  by_cases h2 : 300 < a.length
  . exact zl3 hw (.inr (.inr (.inl h2)))
  by_cases h3 : 300 < b.length
  . exact zl3 hw (.inr (.inr (.inr h3)))
  replace h1 := Classical.not_not.1 h1
  have fa := z1t1 k hk (key := key) (a := a) h1 (by omega)
  have fb := z1t1 k hk (key := key) (a := b) h1 (by omega)
  have htk := fa.tick
  have hta := fa.tag
  have htb := fb.tag
  have hdl := fa.dl
  have hd2 : (zmt (k + 100) (zl (k + 100) ckB (z5g (k + 100)))).2.2.1.length = 32 := fa.dl
  have hbta : (z93 (k + 100) (z5p (k + 100) (zl (k + 100) key idB) a).2.2.1 (zl (k + 100) ckB (z5g (k + 100)))).length = 32 := zhr k (by omega) (by omega) (by omega)
  have hbtb : (z93 (k + 100) (z5p (k + 100) (zl (k + 100) key idB) b).2.2.1 (zl (k + 100) ckB (z5g (k + 100)))).length = 32 := zhr k (by omega) (by omega) (by omega)
  have hva := zrs k hk (key := key) (zts k fa hbta) (by omega) (zk7 k key a _)
  have hvm := zrs k hk (key := key) (zts k fa hbtb) (by omega) (zk7 k key a _)
  have hpm := zvb k hk (key := key) (zts k fa hbtb) (by omega) (zk7 k key a _)
  have hpb := zvb k hk (key := key) (zts k fb hbtb) (by omega) (zk7 k key b _)
  have ra := runB k (key := key) (a := a) (tag := z93 (k + 100) (z5p (k + 100) (zl (k + 100) key idB) a).2.2.1 (zl (k + 100) ckB (z5g (k + 100)))) fa
  have rm := runB k (key := key) (a := a) (tag := z93 (k + 100) (z5p (k + 100) (zl (k + 100) key idB) b).2.2.1 (zl (k + 100) ckB (z5g (k + 100)))) fa
  have rb := runB k (key := key) (a := b) (tag := z93 (k + 100) (z5p (k + 100) (zl (k + 100) key idB) b).2.2.1 (zl (k + 100) ckB (z5g (k + 100)))) fb
  rw [if_pos rfl] at ra
  have hr1 := zx6 k (key := key) (id := idB) (by omega) (by omega) (show 2 <= 8000 by omega)
  have hr2 := z12w k (n := nbB) (nonce := nonceX) (key := ckB) (text := txB) hk (show 6 <= 30000 by omega) rfl (show 2 + 4 <= 1800 by omega)
  have hr3 := z1t2 k hk (n := nbB) (zxc k (n := nbB) (nonce := nonceX) (key := ckB) (text := txB) hk (show 6 <= 30000 by omega) rfl (show 2 + 4 <= 1800 by omega)) (show 2 <= 30000 by omega) (show (z5g (k + 100)).length <= 8000 by omega)
  have hr7 := z10h k (t := z5p (k + 100) (zl (k + 100) key idB) b) (d := zmt (k + 100) (zl (k + 100) ckB (z5g (k + 100)))) (by omega) (show 0 <= 1000 by omega) (by omega) (by omega)
  refine z18f hw h1 hab (by omega) (by omega) hr1 hr2 hr3 (z14g k hk fa) (z14h k hk fa (by omega)) (z14h k hk fb (by omega)) hr7 (z1t7 k hk fa) hva.1 hvm.1 ra.1 ?_
  rw [rm.1]
  by_cases he : z93 (k + 100) (z5p (k + 100) (zl (k + 100) key idB) a).2.2.1 (zl (k + 100) ckB (z5g (k + 100))) = z93 (k + 100) (z5p (k + 100) (zl (k + 100) key idB) b).2.2.1 (zl (k + 100) ckB (z5g (k + 100)))
  . refine .inr ⟨if_pos he,_,_,_,hpm,z1t7 k hk fb,hpb, ?_, ?_⟩
    . rw [zkq,zkq,rm.2,rb.2]
      have l1 := z12u (k + 100) key a
      have l2 := z12u (k + 100) key b
      omega
    . rw [zkq,zkq,rm.2,rb.2]
      exact z1t4 k hk fa fb h1 hab he
  . exact .inl (if_neg he)
end
end Go.Proofs.YtkipbccgnekoaaaGreatDoorLg
