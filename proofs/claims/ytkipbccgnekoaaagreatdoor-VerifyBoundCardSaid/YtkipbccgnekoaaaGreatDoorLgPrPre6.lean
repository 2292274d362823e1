import Derived.Test.YtkipbccgnekoaaaGreatDoorLgPrPre5
import Derived.Test.YtkipbccgnekoaaaGreatDoorChecked
import Derived.KernelRfl
set_option linter.all false
namespace Go.Proofs.YtkipbccgnekoaaaGreatDoorLg
noncomputable section
open Go Go.Lift Go.Proofs.YtkipbccgnekoaaaGreatDoorPx
def z1k9 (f:Nat -> UInt8) (t:Nat) : Nat := (((f (4 * t)).toNat * 256 + (f (4 * t + 1)).toNat) * 256 + (f (4 * t + 2)).toNat) * 256 + (f (4 * t + 3)).toNat
def zsz (f:Nat -> UInt8) (t:Nat) : Int := (z1k9 f t:Int)
theorem z1m5 (b:UInt8) : z8a .u32 (IntKind.wrap .u32 ((b.toNat : Nat) : Int)) 24 = ((b.toNat * 16777216 : Nat) : Int) := by
  have := b.toNat_lt
  show (((b.toNat : Nat) : Int) % 4294967296 * 16777216) % 4294967296 = _
  omega
theorem z1m6 (b:UInt8) : z8a .u32 (IntKind.wrap .u32 ((b.toNat : Nat) : Int)) 16 = ((b.toNat * 65536 : Nat) : Int) := by
  have := b.toNat_lt
  show (((b.toNat : Nat) : Int) % 4294967296 * 65536) % 4294967296 = _
  omega
theorem shl8 (b:UInt8) : z8a .u32 (IntKind.wrap .u32 ((b.toNat : Nat) : Int)) 8 = ((b.toNat * 256 : Nat) : Int) := by
  have := b.toNat_lt
  show (((b.toNat : Nat) : Int) % 4294967296 * 256) % 4294967296 = _
  omega
theorem wr8 (b:UInt8) : IntKind.wrap .u32 ((b.toNat : Nat) : Int) = ((b.toNat : Nat) : Int) := by
  have := b.toNat_lt
  show ((b.toNat : Nat) : Int) % 4294967296 = _
  omega
theorem z1d6 {a b:Nat} (c:Nat) (hb:b < 2 ^ c) (h:a * 2 ^ c + b < 4294967296) : zj .or .u32 ((a * 2 ^ c : Nat) : Int) ((b:Nat) : Int) = ((a * 2 ^ c + b : Nat) : Int) := by
  unfold zj
  show IntKind.wrap .u32 (((BitVec.ofInt 32 ((a * 2 ^ c : Nat) : Int) ||| BitVec.ofInt 32 ((b:Nat) : Int)).toNat : Nat) : Int) = _
  rw [BitVec.ofInt_natCast,BitVec.ofInt_natCast,BitVec.toNat_or,BitVec.toNat_ofNat,BitVec.toNat_ofNat,Nat.mod_eq_of_lt (by omega),Nat.mod_eq_of_lt (by omega)]
  have := Nat.shiftLeft_add_eq_or_of_lt hb a
  rw [Nat.shiftLeft_eq] at this
  rw [<- this,zzc,Int.emod_eq_of_lt (by omega) (by omega)]
theorem z1by (b0 b1 b2 b3:UInt8) : zj .or .u32 (zj .or .u32 (zj .or .u32 (z8a .u32 (IntKind.wrap .u32 ((b0.toNat : Nat) : Int)) 24) (z8a .u32 (IntKind.wrap .u32 ((b1.toNat : Nat) : Int)) 16)) (z8a .u32 (IntKind.wrap .u32 ((b2.toNat : Nat) : Int)) 8)) (IntKind.wrap .u32 ((b3.toNat : Nat) : Int)) = (((((b0.toNat * 256 + b1.toNat) * 256 + b2.toNat) * 256 + b3.toNat) : Nat) : Int) := by
  have h0 := b0.toNat_lt
  have h1 := b1.toNat_lt
  have h2 := b2.toNat_lt
  have h3 := b3.toNat_lt
  rw [z1m5,z1m6,shl8,wr8]
  have e1 := z1d6 (a := b0.toNat) (b := b1.toNat * 65536) 24 (by simp only [Nat.reducePow]; omega) (by simp only [Nat.reducePow]; omega)
  have e2 := z1d6 (a := b0.toNat * 256 + b1.toNat) (b := b2.toNat * 256) 16 (by simp only [Nat.reducePow]; omega) (by simp only [Nat.reducePow]; omega)
  have e3 := z1d6 (a := (b0.toNat * 256 + b1.toNat) * 256 + b2.toNat) (b := b3.toNat) 8 (by simp only [Nat.reducePow]; omega) (by simp only [Nat.reducePow]; omega)
  simp only [Nat.reducePow] at e1 e2 e3
  rw [e1,show b0.toNat * 16777216 + b1.toNat * 65536 = (b0.toNat * 256 + b1.toNat) * 65536 by omega,e2,show (b0.toNat * 256 + b1.toNat) * 65536 + b2.toNat * 256 = ((b0.toNat * 256 + b1.toNat) * 256 + b2.toNat) * 256 by omega,e3]
theorem z16j (b0 b1 b2 b3:UInt8) : IntKind.wrap .u32 (IntKind.wrap .u32 (IntKind.wrap .u32 (z8a .u32 (IntKind.wrap .u32 ((b0.toNat : Nat) : Int)) 24 + z8a .u32 (IntKind.wrap .u32 ((b1.toNat : Nat) : Int)) 16) + z8a .u32 (IntKind.wrap .u32 ((b2.toNat : Nat) : Int)) 8) + IntKind.wrap .u32 ((b3.toNat : Nat) : Int)) = (((((b0.toNat * 256 + b1.toNat) * 256 + b2.toNat) * 256 + b3.toNat) : Nat) : Int) := by
  have h0 := b0.toNat_lt
  have h1 := b1.toNat_lt
  have h2 := b2.toNat_lt
  have h3 := b3.toNat_lt
  rw [z1m5,z1m6,shl8,wr8]
  simp only [zzc]
  omega
theorem zs6 (f:Nat -> UInt8) (t:Nat) : (List.range (t + 1)).map (zsz f) = (List.range t).map (zsz f) ++ [zsz f t] := by
  rw [List.range_succ,List.map_append]; rfl
theorem z1d0 (N:Nat) {s:List UInt8} {a:Nat} {k h x8:List Int} {k0:List Int -> Option (List Int)} (ha:a + 64 <= s.length) (hs:s.length <= 100000) (hN : 16 < N) :
    z7r N s (a:Int) k h x8 [] 0 k0 = k0 ((List.range 16).map (zsz fun j=>s.getD (a + j) 0)) := by
  simp only [z7r]
  rw [z28 (I := fun (v:List Int × Int) => ∃ t : Nat,v = ((List.range t).map (zsz fun j=>s.getD (a + j) 0),(t:Int)) /\ t <= 16) (m := fun v=>16 - v.2.toNat) (R := fun _=>k0 ((List.range 16).map (zsz fun j=>s.getD (a + j) 0))) ?_ N ([],0) ⟨0,rfl,by omega⟩ (by simpa using hN)]
  rintro v r ⟨t,rfl,ht⟩ hr
  dsimp only at hr ⊢
  rw [Int.toNat_natCast] at hr
  simp only [z7o]
  by_cases hlt : t < 16
  . have i0 : IntKind.wrap .i64 ((a:Int) + IntKind.wrap .i64 ((4 : Int) * (t:Int))) = ((a + 4 * t : Nat) : Int) := by
      rw [z1o (x := (4 : Int) * _) (by unfold I64; omega),z1o (by unfold I64; omega)]; omega
    have i1 : IntKind.wrap .i64 (((a + 4 * t : Nat) : Int) + 1) = ((a + (4 * t + 1) : Nat) : Int) := by rw [z1o (by unfold I64; omega)]; omega
    have i2 : IntKind.wrap .i64 (((a + 4 * t : Nat) : Int) + 2) = ((a + (4 * t + 2) : Nat) : Int) := by rw [z1o (by unfold I64; omega)]; omega
    have i3 : IntKind.wrap .i64 (((a + 4 * t : Nat) : Int) + 3) = ((a + (4 * t + 3) : Nat) : Int) := by rw [z1o (by unfold I64; omega)]; omega
    rw [i0,i1,i2,i3,Int.toNat_natCast,Int.toNat_natCast,Int.toNat_natCast,Int.toNat_natCast]
    rw [zg (z15 (by omega)),zg (z14 (by omega)),zg (z14 (by omega)),zg (z14 (by omega)),zg (z14 (by omega)),zg (z15 (by rw [List.length_map,List.length_range]; omega)),z16j,z1n (by omega)]
    exact hr _ ⟨t + 1,by rw [zs6]; rfl,by omega⟩ (by dsimp only; omega)
  . rw [zu (z3n (by omega)),show t = 16 by omega]
theorem z1cy (N:Nat) {b:List UInt8} {x2 Z:List Int} {k0:List Int -> Option (List Int)} (hb:b.length = 64) (hZ:Z.length = 64) (hN : 16 < N) :
    zbs N b x2 Z 0 k0 = k0 ((List.range 16).map (zsz fun j=>b.getD j 0) ++ Z.drop 16) := by
  simp only [zbs]
  rw [z28 (I := fun (v:List Int × Int) => ∃ t : Nat,v = ((List.range t).map (zsz fun j=>b.getD j 0) ++ Z.drop t,(t:Int)) /\ t <= 16) (m := fun v=>16 - v.2.toNat) (R := fun _=>k0 ((List.range 16).map (zsz fun j=>b.getD j 0) ++ Z.drop 16)) ?_ N (Z,0) ⟨0,rfl,by omega⟩ (by simpa using hN)]
  rintro v r ⟨t,rfl,ht⟩ hr
  dsimp only at hr ⊢
  rw [Int.toNat_natCast] at hr
  simp only [zbq]
  by_cases hlt : t < 16
  . have i0 : IntKind.wrap .i64 ((4 : Int) * (t:Int)) = ((4 * t : Nat) : Int) := by rw [z1o (by unfold I64; omega)]; omega
    have i1 : IntKind.wrap .i64 (((4 * t : Nat) : Int) + 4) = ((4 * t + 4 : Nat) : Int) := by rw [z1o (by unfold I64; omega)]; omega
    have hc : ((b.drop (4 * t)).take 4).length = 4 := by rw [List.length_take,List.length_drop]; omega
    have hg : ∀ j,j < 4 -> ((b.drop (4 * t)).take 4).getD j 0 = b.getD (4 * t + j) 0 := by
      intro j hj
      rw [List.getD_eq_getElem?_getD,List.getElem?_take_of_lt hj,List.getElem?_drop, <- List.getD_eq_getElem?_getD]
    have hla : ((List.range t).map (zsz fun j=>b.getD j 0)).length = t := by rw [List.length_map,List.length_range]
    rw [i0,i1,Int.toNat_natCast,Int.toNat_natCast,Int.toNat_natCast,z15g]
    rw [zg (z15 (by omega)),zg (z15 (by omega)),zg (z15 (by omega)),zg (z10e (by omega) (by omega)),zg (z10e (by omega) (by omega)),zg (z10e (by omega) (by omega)),zg (z10e (by omega) (by omega)),zg (z14 (by omega)),zg (z15 (by rw [List.length_append,hla,List.length_drop]; omega)),hg 0 (by omega),hg 1 (by omega),hg 2 (by omega),hg 3 (by omega),z1by,z1n (by omega)]
    have hd := z1y Z 0 t (by omega)
    have hset := z13b ((List.range t).map (zsz fun j=>b.getD j 0)) (Z.drop (t + 1)) (zsz (fun j=>b.getD j 0) t) (Z.getD t 0)
    rw [hla, <- hd] at hset
    have hset2 : List.set ((List.range t).map (zsz fun j=>b.getD j 0) ++ Z.drop t) t (((((((b.getD (4 * t + 0) 0).toNat * 256 + (b.getD (4 * t + 1) 0).toNat) * 256 + (b.getD (4 * t + 2) 0).toNat) * 256 + (b.getD (4 * t + 3) 0).toNat) : Nat) : Int)) = (List.range (t + 1)).map (zsz fun j=>b.getD j 0) ++ Z.drop (t + 1) := by
      rw [zs6,List.append_assoc]; exact hset
    rw [hset2]
    exact hr _ ⟨t + 1,rfl,by omega⟩ (by dsimp only; omega)
  . rw [zu (z3n (by omega)),show t = 16 by omega]
theorem z1ct (N:Nat) {h:List Int} {s:List UInt8} {a:Nat} (hh:h.length = 8) (ha:a + 64 <= s.length) (hs:s.length <= 100000) (hN : 64 < N) :
    z56 N h s (a:Int) glob0 = zb5 N h ((s.drop a).take 64) := by
  have hb : ((s.drop a).take 64).length = 64 := by rw [List.length_take,List.length_drop]; omega
  have hg : ∀ j,j < 64 -> ((s.drop a).take 64).getD j 0 = s.getD (a + j) 0 := by
    intro j hj
    rw [List.getD_eq_getElem?_getD,List.getElem?_take_of_lt hj,List.getElem?_drop, <- List.getD_eq_getElem?_getD]
  have hW : (List.range 16).map (zsz fun j=>s.getD (a + j) 0) = (List.range 16).map (zsz fun j=>((s.drop a).take 64).getD j 0) := by
    apply List.map_congr_left
    intro t ht
    rw [List.mem_range] at ht
    simp only [zsz,z1k9]
    rw [hg (4 * t) (by omega),hg (4 * t + 1) (by omega),hg (4 * t + 2) (by omega),hg (4 * t + 3) (by omega)]
  have hl16 : ((List.range 16).map (zsz fun j=>((s.drop a).take 64).getD j 0)).length = 16 := by rw [List.length_map,List.length_range]
  have hl64 : (z16f 48 ((List.range 16).map (zsz fun j=>((s.drop a).take 64).getD j 0))).length = 64 := by rw [zqd,hl16]
  simp only [z56,zb5,zd2]
  rw [z1d0 N ha hs (by omega),z11d N (by rw [List.length_map,List.length_range]) hN,hW,zv7 N hh hl64 zvt hN]
  rw [zu (by rw [hb]; rfl),z1cy N hb (by rfl) (by omega),z1gj N hl16 (by rfl) hN,Option.bind_some,z13f N hh hl64 hN]
  exact z1t0 N h _ _ _ _
def be4 (x:Int) : List UInt8 := z2f [IntKind.wrap .u8 (z3i .u64 (IntKind.wrap .u64 x) 24),IntKind.wrap .u8 (z3i .u64 (IntKind.wrap .u64 x) 16),IntKind.wrap .u8 (z3i .u64 (IntKind.wrap .u64 x) 8),IntKind.wrap .u8 (z3i .u64 (IntKind.wrap .u64 x) 0)]
def r4 (x:Int) : List Int := [IntKind.wrap .u8 (z3i .u32 x 24),IntKind.wrap .u8 (z3i .u32 x 16),IntKind.wrap .u8 (z3i .u32 x 8),IntKind.wrap .u8 x]
theorem z1th (x:Int) : be4 x = z2f (r4 x) := by
  have a24 : z3i .u64 (IntKind.wrap .u64 x) 24 = (x % 18446744073709551616) / 16777216 := by
    show (x % 18446744073709551616).fdiv 16777216 = _; rw [Int.fdiv_eq_ediv_of_nonneg _ (by omega)]
  have a16 : z3i .u64 (IntKind.wrap .u64 x) 16 = (x % 18446744073709551616) / 65536 := by
    show (x % 18446744073709551616).fdiv 65536 = _; rw [Int.fdiv_eq_ediv_of_nonneg _ (by omega)]
  have a8 : z3i .u64 (IntKind.wrap .u64 x) 8 = (x % 18446744073709551616) / 256 := by
    show (x % 18446744073709551616).fdiv 256 = _; rw [Int.fdiv_eq_ediv_of_nonneg _ (by omega)]
  have a0 : z3i .u64 (IntKind.wrap .u64 x) 0 = (x % 18446744073709551616) / 1 := by
    show (x % 18446744073709551616).fdiv 1 = _; rw [Int.fdiv_eq_ediv_of_nonneg _ (by omega)]
  have b24 : z3i .u32 x 24 = x / 16777216 := by show x.fdiv 16777216 = _; rw [Int.fdiv_eq_ediv_of_nonneg _ (by omega)]
  have b16 : z3i .u32 x 16 = x / 65536 := by show x.fdiv 65536 = _; rw [Int.fdiv_eq_ediv_of_nonneg _ (by omega)]
  have b8 : z3i .u32 x 8 = x / 256 := by show x.fdiv 256 = _; rw [Int.fdiv_eq_ediv_of_nonneg _ (by omega)]
  unfold be4 r4
  rw [a24,a16,a8,a0,b24,b16,b8,zdg,zdg,zdg,zdg,zdg,zdg,zdg,zdg]
  rw [show x % 18446744073709551616 / 16777216 % 256 = x / 16777216 % 256 by omega,show x % 18446744073709551616 / 65536 % 256 = x / 65536 % 256 by omega,show x % 18446744073709551616 / 256 % 256 = x / 256 % 256 by omega,show x % 18446744073709551616 / 1 % 256 = x % 256 by omega]
set_option maxRecDepth 100000 in
theorem z1kz (k:Nat) (g:Nat -> Int) : z9k (k + 100) ((List.range 8).map g) = some (((((((([] ++ be4 (g 0)) ++ be4 (g 1)) ++ be4 (g 2)) ++ be4 (g 3)) ++ be4 (g 4)) ++ be4 (g 5)) ++ be4 (g 6)) ++ be4 (g 7)) := by kernel_rfl
set_option maxRecDepth 100000 in
theorem tellB (k:Nat) (g:Nat -> Int) : z3s (k + 100) ((List.range 8).map g) = some (z2f (((((((([] ++ r4 (g 0)) ++ r4 (g 1)) ++ r4 (g 2)) ++ r4 (g 3)) ++ r4 (g 4)) ++ r4 (g 5)) ++ r4 (g 6)) ++ r4 (g 7))) := by kernel_rfl
theorem z117 (k:Nat) {h:List Int} (hh:h.length = 8) : z3s (k + 100) h = z9k (k + 100) h := by
  rw [zwj h 0 hh,z1kz,tellB]
  simp only [z9q,z1th]; rfl
def bts (n:Nat) : List Int := [IntKind.wrap .u8 (z3i .u64 n 56),IntKind.wrap .u8 (z3i .u64 n 48),IntKind.wrap .u8 (z3i .u64 n 40),IntKind.wrap .u8 (z3i .u64 n 32),IntKind.wrap .u8 (z3i .u64 n 24),IntKind.wrap .u8 (z3i .u64 n 16),IntKind.wrap .u8 (z3i .u64 n 8),IntKind.wrap .u8 (z3i .u64 n 0)]
theorem z1t8 {n:Nat} (hn:n < 16777216) : z2f (bts n) = beL n := by
  have h := z1tf 0 hn
  have h2 : z4s (0 + 20) (n:Int) 8 = some (z2f (bts n)) := by kernel_rfl
  rw [h2] at h; exact Option.some.inj h
theorem pad1 {N:Nat} {s:List UInt8} {b:List Int} {m:Nat} {k0:List Int -> Option (List UInt8)} (hb:b.length = m + 1) (hm:m <= 30000) (hN : 64 < N) : z8l N s b k0 = k0 (b ++ List.replicate (zer m) 0) := by
  have hz : zer m < 64 := by unfold zer; omega
  have hzz : (m + 1 + zer m) % 64 = 56 := by unfold zer; omega
  have hmin : ∀ i,i < zer m -> (m + 1 + i) % 64 ≠ 56 := by intro i hi; unfold zer at hi; omega
  simp only [z8l]
  rw [z28 (I := fun (v:List Int) => ∃ i : Nat,v = b ++ List.replicate i 0 /\ i <= zer m) (m := fun v=>m + 1 + zer m - v.length) (R := fun _=>k0 (b ++ List.replicate (zer m) 0)) ?_ N b ⟨0,by simp,by omega⟩ (by rw [hb]; omega)]
  rintro v r ⟨i,rfl,hi⟩ hr
  have hl : (b ++ List.replicate i (0 : Int)).length = m + 1 + i := by rw [List.length_append,List.length_replicate,hb]
  simp only [z8j]
  rw [hl] at hr ⊢
  rw [Int.tmod_eq_emod_of_nonneg (by omega)]
  by_cases hlt : i < zer m
  . have := hmin i hlt
    rw [zg (by rw [bne_iff_ne]; omega),zg (z15 (by omega))]
    exact hr _ ⟨i + 1,by rw [List.append_assoc,List.replicate_succ'],by omega⟩ (by rw [List.length_append,hl]; simp; omega)
  . have : i = zer m := by omega
    subst this
    rw [zu (by rw [bne_eq_false_iff_eq]; omega)]
theorem pad2 {N:Nat} {b:List Int} {n:Nat} {k0:List Int -> Option (List UInt8)} (hb:b.length <= 100000) (hN : 8 < N) : z8k N b (n:Int) 7 k0 = k0 (b ++ bts n) := by
  simp only [z8k]
  rw [z28 (I := fun (v:List Int × Int) => ∃ j : Nat,v = (b ++ (bts n).take j,7 - (j:Int)) /\ j <= 8) (m := fun v=>(v.2 + 1).toNat) (R := fun _=>k0 (b ++ bts n)) ?_ N (b,7) ⟨0,by simp,by omega⟩ (by dsimp only; omega)]
  rintro v r ⟨j,rfl,hj⟩ hr
  dsimp only at hr ⊢
  simp only [z8i]
  by_cases hlt : j < 8
  . have ht : ((bts n).take j).length = j := by rw [List.length_take]; show min j 8 = j; omega
    have e8 : IntKind.wrap .u64 (IntKind.wrap .i64 ((8 : Int) * (7 - (j:Int)))) = 56 - 8 * (j:Int) := by
      rw [z1o (by unfold I64; omega)]
      show ((8 : Int) * (7 - (j:Int))) % 18446744073709551616 = _
      omega
    have ev : IntKind.wrap .u8 (z3i .u64 (n:Int) (56 - 8 * (j:Int))) = (bts n).getD j 0 := by
      obtain rfl | rfl | rfl | rfl | rfl | rfl | rfl | rfl : j = 0 \/ j = 1 \/ j = 2 \/ j = 3 \/ j = 4 \/ j = 5 \/ j = 6 \/ j = 7 := by omega
      all_goals rfl
    rw [zg (z15 (by omega)),e8,zg (z15 (by omega)),zg (z15 (by rw [List.length_append,ht]; omega)),ev,z1o (x := (7 : Int) - (j:Int) - 1) (by unfold I64; omega)]
    refine hr _ ⟨j + 1, ?_,by omega⟩ (by dsimp only; omega)
    rw [zk9 (bts n) 0 j (by show j < 8; omega),List.append_assoc]
    congr 1
    omega
  . have : j = 8 := by omega
    subst this
    rw [zu (z3n (by omega))]; rfl
theorem z13n (N:Nat) {s:List UInt8} (hs:s.length <= 30000) (hN : 64 < N) : z4f N s = some (s ++ zgi s.length) := by
  have hz : zer s.length < 64 := by unfold zer; omega
  have e2 : IntKind.wrap .u64 (8 * IntKind.wrap .u64 (s.length : Int)) = ((8 * s.length : Nat) : Int) := by
    show (8 * ((s.length : Int) % 18446744073709551616)) % 18446744073709551616 = _
    omega
  simp only [z4f]
  rw [zg (z15 (by rw [ofStr_length]; omega)),pad1 (m := s.length) (by simp [ofStr_length]) hs hN,e2,pad2 (by simp [ofStr_length]; omega) (by omega),z9q,z9q,z9q,toStr_ofStr,z8d,z1t8 (by omega)]
  have : z2f [(128 : Int)] = [128] := rfl
  rw [this,zgi]
  simp only [List.append_assoc]
theorem z1d1 (k:Nat) {s:List UInt8} {h:List Int} {j:Nat} {k0:List Int -> Option (List UInt8)} (hh:h.length = 8) (hs:s.length = 64 * j) (hj:j < k + 100) (hj2:j <= 1000) :
    z5k (k + 100) s glob0 h 0 k0 = k0 (z5q (k + 100) j h s) := by
  simp only [z5k]
  rw [z28 (I := fun (v:List Int × Int) => ∃ i : Nat,v.2 = ((64 * i : Nat) : Int) /\ i <= j /\ v.1.length = 8) (m := fun v=>j - v.2.toNat / 64)
    (R := fun v=>k0 (z5q (k + 100) (j - v.2.toNat / 64) v.1 (s.drop v.2.toNat))) ?_ (k + 100) (h,0) ⟨0,rfl,by omega,hh⟩ (by simpa using hj)]
  . simp
  rintro ⟨h',v⟩ r ⟨i,e,hi,hl⟩ hr
  dsimp only at e hl hr ⊢
  subst e
  rw [Int.toNat_natCast,show 64 * i / 64 = i by omega] at hr ⊢
  simp only [z8h]
  by_cases hlt : i < j
  . have hw : IntKind.wrap .i64 (((64 * i : Nat) : Int) + 64) = ((64 * i + 64 : Nat) : Int) := by rw [z1o (by unfold I64; omega)]; omega
    have hb : ((s.drop (64 * i)).take 64).length = 64 := by rw [List.length_take,List.length_drop]; omega
    rw [zg (z15 (by omega)),hw,z1ct (k + 100) hl (by omega) (by omega) (by omega),(z132 k hl hb).1,Option.bind_some,hr _ ⟨i + 1,by dsimp only; omega,by omega,(z132 k hl hb).2⟩ (by dsimp only; omega)]
    dsimp only
    rw [Int.toNat_natCast,show (64 * i + 64) / 64 = i + 1 by omega,show j - i = (j - (i + 1)) + 1 by omega]
    simp only [z5q,List.drop_drop]
  . rw [zu (z3n (by omega)),show j - i = 0 by omega]; rfl
theorem zkn (k:Nat) {s:List UInt8} (hk : 600 <= k) (hs:s.length <= 30000) : z2i (k + 100) s = some (zgs (k + 100) s) := by
  have hwh := zot s.length
  have htl := z9s s.length
  have hz : zer s.length < 64 := by unfold zer; omega
  have htot : 64 * total s.length = s.length + (zgi s.length).length := by unfold total; omega
  have hl8 : (z5q (k + 100) (total s.length) first (s ++ zgi s.length)).length = 8 := z8f k _ rfl (by rw [List.length_append]; omega)
  have hun : z2i (k + 100) s = (z4f (k + 100) s).bind fun y=>z5k (k + 100) y glob0 first 0 (fun h=>(z3s (k + 100) h).bind fun y1=>some y1) := by kernel_rfl
  rw [hun,z13n _ hs (by omega),Option.bind_some,z1d1 k (j := total s.length) rfl (by rw [List.length_append]; omega) (by omega) (by omega),z117 k hl8,zww k hl8,Option.bind_some]
  rfl
end
end Go.Proofs.YtkipbccgnekoaaaGreatDoorLg
set_option linter.all false
namespace Go.Proofs.YtkipbccgnekoaaaGreatDoorPx
noncomputable section
open Go Go.Lift
def orX : List UInt8 -> List UInt8 -> UInt8
  | x :: xs,y :: ys=>(x ^^^ y) ||| orX xs ys
  | _,_=>0
theorem or_zero (x y:UInt8) : x ||| y = 0 ↔ x = 0 /\ y = 0 := by
  constructor
  . intro h
    have h' : x.toNat ||| y.toNat = 0 := by rw [<- UInt8.toNat_or,h]; rfl
    have := Nat.or_eq_zero_iff.1 h'
    exact ⟨UInt8.toNat_inj.1 this.1,UInt8.toNat_inj.1 this.2⟩
  . rintro ⟨rfl,rfl⟩; rfl
theorem xor_zero (x y:UInt8) : x ^^^ y = 0 ↔ x = y := by
  constructor
  . intro h
    have e : y = x ^^^ (x ^^^ y) := by rw [<- UInt8.xor_assoc,UInt8.xor_self,UInt8.zero_xor]
    rw [h,UInt8.xor_zero] at e
    exact e.symm
  . rintro rfl; exact UInt8.xor_self
theorem z103 : ∀ a b : List UInt8,a.length = b.length -> (orX a b = 0 ↔ a = b)
  | [],[],_=>by simp [orX]
  | x :: xs,y :: ys,h=>by
    simp only [orX,or_zero,xor_zero,z103 xs ys (by simpa using h),List.cons.injEq]
  | [],_ :: _,h=>by simp at h
  | _ :: _,[],h=>by simp at h
theorem z13z (x y z:UInt8) : x ||| y ||| z = x ||| (y ||| z) := UInt8.or_assoc _ _ _
def zol (a b:List UInt8) : List UInt8 := List.zipWith (fun x y=>x ^^^ y) a b
theorem zbl (a b:List UInt8) : (zol a b).length = min a.length b.length := by simp [zol]
theorem zk6 : ∀ a b : List UInt8,zol (zol a b) b = a.take (min a.length b.length)
  | [],b=>by simp [zol]
  | x :: xs,[]=>by simp [zol]
  | x :: xs,y :: ys=>by
    have := zk6 xs ys
    simp only [zol,List.zipWith_cons_cons] at this ⊢
    rw [this,UInt8.xor_assoc,UInt8.xor_self,UInt8.xor_zero]
    simp [Nat.succ_min_succ]
theorem z16i (x y:Nat) : x ^^^ y = (if x % 2 = y % 2 then 0 else 1) + 2 * (x / 2 ^^^ y / 2) := by
  have h1 : (x ^^^ y) / 2 = x / 2 ^^^ y / 2 := Nat.xor_div_two
  have h2 : (x ^^^ y) % 2 = (x % 2) ^^^ (y % 2) := Nat.xor_mod_two_pow (n := 1)
  rcases Nat.mod_two_eq_zero_or_one x with h3 | h3 <;> rcases Nat.mod_two_eq_zero_or_one y with h4 | h4 <;> rw [h3,h4] at h2 ⊢ <;> simp only [show (0 ^^^ 0 : Nat) = 0 from rfl,show (0 ^^^ 1 : Nat) = 1 from rfl,show (1 ^^^ 0 : Nat) = 1 from rfl,show (1 ^^^ 1 : Nat) = 0 from rfl] at h2
  . rw [if_pos rfl]; omega
  . rw [if_neg (by decide)]; omega
  . rw [if_neg (by decide)]; omega
  . rw [if_pos rfl]; omega
end
end Go.Proofs.YtkipbccgnekoaaaGreatDoorPx
set_option linter.all false
namespace Go.Proofs.YtkipbccgnekoaaaGreatDoorLg
noncomputable section
open Go Go.Lift Go.Proofs.YtkipbccgnekoaaaGreatDoorPx
theorem z18o (N:Nat) {a b:List UInt8} (ha:a.length <= 9223372036854775806) (hN:a.length < N) : zce N a b = some (a == b) := by
  simp only [zce,zir]
  by_cases hl : a.length = b.length
  . rw [zu (by simp [hl]),z28 (I := fun (v:Int × Int)=>(∃ d : UInt8,v.1 = ((d.toNat : Nat) : Int)) /\ 0 <= v.2 /\ v.2 <= ((a.length : Nat) : Int)) (m := fun (v:Int × Int)=>a.length - v.2.toNat)
      (R := fun (v:Int × Int)=>some ((UInt8.ofNat v.1.toNat ||| orX (a.drop v.2.toNat) (b.drop v.2.toNat)) == 0)) ?_ N (0,0) ⟨⟨0,rfl⟩,by omega,by dsimp only; omega⟩ (by simpa using hN)]
    . simp only [Int.toNat_zero,List.drop_zero]
      have : (UInt8.ofNat 0 ||| orX a b) = orX a b := UInt8.zero_or
      rw [this]
      congr 1
      rw [Bool.eq_iff_iff,beq_iff_eq,z103 a b hl,beq_iff_eq]
    rintro ⟨x,v⟩ r ⟨⟨d,hd⟩,h0,h1⟩ hr
    dsimp only at *
    subst hd
    obtain ⟨i,rfl⟩ := Int.eq_ofNat_of_zero_le h0
    simp only [zdm,Int.toNat_natCast,UInt8.ofNat_toNat]
    by_cases hlt : i < a.length
    . have hib : i < b.length := by omega
      rw [zg (z15 (by omega)),zg (z14 hlt),zg (z14 hib),z19v,or_u8,z1n (by omega),hr _ ⟨⟨_,rfl⟩,by omega,by omega⟩ (by dsimp only; omega),z1y a 0 i hlt,z1y b 0 i hib]
      simp only [Int.toNat_natCast,UInt8.ofNat_toNat,orX,z13z]
    . have hi : i = a.length := by omega
      rw [zu (z3n (by omega)),z60 a (by omega)]
      have : orX [] (b.drop i) = 0 := by unfold orX; rfl
      rw [this,UInt8.or_zero]
      congr 1
      rw [Bool.eq_iff_iff,beq_iff_eq,beq_iff_eq,show (0 : Int) = (((0 : UInt8).toNat : Nat) : Int) from rfl,z10w]
  . rw [zg (by simp; omega)]
    have : ¬ a = b := fun e=>hl (by rw [e])
    simp [this]
theorem z19w (N:Nat) {a b:List UInt8} (ha:a.length <= 281474976710656) (hN:a.length < N) : zeh N a b = some (zol a b) := by
  simp only [zeh,zn8,z1dv]
  rw [zg (z15 ⟨by omega,by omega,by omega,by omega⟩)]
  simp only [Int.toNat_natCast,List.length_replicate]
  rw [z28 (I := fun (v:List Int × Int)=>v.1.length = min a.length b.length /\ 0 <= v.2 /\ v.2 <= ((min a.length b.length : Nat) : Int)) (m := fun (v:List Int × Int)=>a.length - v.2.toNat)
    (R := fun (v:List Int × Int)=>some (z2f (v.1.take v.2.toNat) ++ zol (a.drop v.2.toNat) (b.drop v.2.toNat))) ?_ N (List.replicate (min a.length b.length) 0,0) ⟨by simp,by omega,by dsimp only; omega⟩ (by simpa using hN)]
  . simp [z2f]
  rintro ⟨out,v⟩ r ⟨hl,h0,h1⟩ hr
  dsimp only at *
  obtain ⟨i,rfl⟩ := Int.eq_ofNat_of_zero_le h0
  simp only [zh6,Int.toNat_natCast]
  by_cases hlt : i < min a.length b.length
  . have hia : i < a.length := by omega
    have hib : i < b.length := by omega
    have hio : i < out.length := by omega
    rw [zg (z15 (by omega)),zg (z14 hia),zg (z14 hib),zg (z14 hio),zg (z15 hio),z19v,z1n (by omega),hr _ ⟨by simpa using hl,by omega,by omega⟩ (by dsimp only; omega),z1y a 0 i hia,z1y b 0 i hib]
    simp only [Int.toNat_natCast,zt1 _ _ _ hio,z9q,zru,List.append_assoc]
    rfl
  . have hi : i = min a.length b.length := by omega
    rw [zu (z3n (by omega)),List.take_of_length_le (by omega)]
    have : zol (a.drop i) (b.drop i) = [] := by
      apply List.length_eq_zero_iff.1
      rw [zbl,List.length_drop,List.length_drop]; omega
    rw [this,List.append_nil]
theorem zx7 (N:Nat) (a b out:List UInt8) (i:Int) (k0:Int -> Option (List UInt8)) (hN : 9 < N) (x y:UInt8) :
    z8q N a b out i ((x.toNat : Nat) : Int) ((y.toNat : Nat) : Int) 0 1 0 k0 = k0 (((x ^^^ y).toNat : Nat) : Int) := by
  unfold z8q
  rw [z28 (I := fun (v:Int × Int × Int × Int × Int) => ∃ (p q n k:Nat),v = ((p:Int),(q:Int),(n:Int),((2 ^ k : Nat) : Int),(k:Int)) /\ k <= 8 /\ p < 2 ^ (8 - k) /\ q < 2 ^ (8 - k) /\ n < 2 ^ k) (m := fun (v:Int × Int × Int × Int × Int)=>8 - v.2.2.2.2.toNat)
    (R := fun (v:Int × Int × Int × Int × Int)=>k0 (((v.2.2.1.toNat + v.2.2.2.1.toNat * (v.1.toNat ^^^ v.2.1.toNat) : Nat)) : Int)) ?_ N (((x.toNat : Nat) : Int),((y.toNat : Nat) : Int),0,1,0) ⟨x.toNat,y.toNat,0,0,rfl,by omega,zwu x,zwu y,by omega⟩ (by dsimp only; omega)]
  . simp only [Int.toNat_natCast,UInt8.toNat_xor]
    congr 2; simp
  rintro v r ⟨p,q,n,k,rfl,hk,hp,hq,hn⟩ hr
  dsimp only at *
  simp only [z8m,z8p,z8o,Int.toNat_natCast]
  by_cases hlt : k < 8
  . have hpk : 2 ^ (8 - k) = 2 * 2 ^ (8 - (k + 1)) := by
      rw [show 8 - k = (8 - (k + 1)) + 1 by omega,Nat.pow_succ,Nat.mul_comm]
    have h2k : 2 ^ (k + 1) = 2 * 2 ^ k := by rw [Nat.pow_succ,Nat.mul_comm]
    have hle : 2 ^ k <= 256 := by
      have : 2 ^ k <= 2 ^ 8 := Nat.pow_le_pow_right (by omega) (by omega)
      simpa using this
    have hle2 : 2 ^ (8 - (k + 1)) <= 256 := by
      have : 2 ^ (8 - (k + 1)) <= 2 ^ 8 := Nat.pow_le_pow_right (by omega) (by omega)
      simpa using this
    have hx := z16i p q
    have hpd : (p:Int).tdiv 2 = ((p / 2 : Nat) : Int) := by rw [Int.tdiv_eq_ediv_of_nonneg (by omega)]; omega
    have hqd : (q:Int).tdiv 2 = ((q / 2 : Nat) : Int) := by rw [Int.tdiv_eq_ediv_of_nonneg (by omega)]; omega
    have hpm : (p:Int).tmod 2 = ((p % 2 : Nat) : Int) := by rw [Int.tmod_eq_emod_of_nonneg (by omega)]; omega
    have hqm : (q:Int).tmod 2 = ((q % 2 : Nat) : Int) := by rw [Int.tmod_eq_emod_of_nonneg (by omega)]; omega
    rw [zg (z15 (by omega)),hpd,hqd,hpm,hqm,z1o (x := ((p / 2 : Nat) : Int)) (by unfold I64; omega),z1o (x := ((q / 2 : Nat) : Int)) (by unfold I64; omega),z1o (x := ((2 ^ k : Nat) : Int) * 2) (by unfold I64; omega),z1n (by omega)]
    have hbit : ((2 ^ k : Nat) : Int) * 2 = ((2 ^ (k + 1) : Nat) : Int) := by rw [h2k]; omega
    rw [hbit]
    by_cases he : p % 2 = q % 2
    . rw [zu (by simp [he]),hr _ ⟨p / 2,q / 2,n,k + 1,rfl,by omega,by omega,by omega,by omega⟩ (by dsimp only; omega)]
      dsimp only
      rw [if_pos he] at hx
      simp only [Int.toNat_natCast]
      rw [hx,h2k]
      congr 2
      rw [Nat.zero_add,Nat.mul_assoc,Nat.mul_left_comm]
    . rw [zg (by simp only [bne_iff_ne,ne_eq]; omega),z1o (x := (n:Int) + ((2 ^ k : Nat) : Int)) (by unfold I64; omega),hr _ ⟨p / 2,q / 2,n + 2 ^ k,k + 1,by simp,by omega,by omega,by omega,by omega⟩ (by dsimp only; omega)]
      dsimp only
      rw [if_neg he] at hx
      have e : ((n:Int) + ((2 ^ k : Nat) : Int)).toNat = n + 2 ^ k := by omega
      simp only [Int.toNat_natCast,e]
      rw [hx,h2k,Nat.mul_add,Nat.mul_one,Nat.mul_assoc,Nat.mul_left_comm,Nat.add_assoc]
  . have : k = 8 := by omega
    subst this
    have hp0 : p = 0 := by simp at hp; exact hp
    have hq0 : q = 0 := by simp at hq; exact hq
    subst hp0; subst hq0
    rw [zu (z3n (by omega))]
    simp
theorem zv5 (N:Nat) {a b:List UInt8} (ha:a.length <= 281474976710656) (hN:a.length + 9 < N) : z4g N a b = some (zol a b) := by
  simp only [z4g,zd8]
  rw [z28 (I := fun (v:List UInt8 × Int)=>v.1.length = v.2.toNat /\ 0 <= v.2 /\ v.2 <= ((min a.length b.length : Nat) : Int)) (m := fun (v:List UInt8 × Int)=>a.length - v.2.toNat)
    (R := fun (v:List UInt8 × Int)=>some (v.1 ++ zol (a.drop v.2.toNat) (b.drop v.2.toNat))) ?_ N ([],0) ⟨by simp,by omega,by dsimp only; omega⟩ (by simp; omega)]
  . simp
  rintro ⟨out,v⟩ r ⟨hl,h0,h1⟩ hr
  dsimp only at *
  obtain ⟨i,rfl⟩ := Int.eq_ofNat_of_zero_le h0
  simp only [z8n,z8r,Int.toNat_natCast] at *
  by_cases hlt : i < min a.length b.length
  . have hia : i < a.length := by omega
    have hib : i < b.length := by omega
    rw [zg (z15 (by omega)),zg (z15 (by omega)),zg (z14 hia),zg (z14 hib),zon,zon,zx7 _ _ _ _ _ _ (by omega),zom,zru,zg (z15 (by simp; omega)),z1n (by omega),hr _ ⟨by simp; omega,by omega,by omega⟩ (by dsimp only; omega),z1y a 0 i hia,z1y b 0 i hib]
    simp only [Int.toNat_natCast,List.append_assoc]
    rfl
  . have hi : i = min a.length b.length := by omega
    have e1 : ∀ (X Y:Option (List UInt8)),cond (decide ((i:Int) < ((a.length : Nat) : Int))) (cond (decide ((i:Int) < ((b.length : Nat) : Int))) X Y) Y = Y := by
      intro X Y
      by_cases h1 : i < a.length
      . rw [zg (z15 (by omega)),zu (z3n (by omega))]
      . rw [zu (z3n (by omega))]
    rw [e1]
    have : zol (a.drop i) (b.drop i) = [] := by
      apply List.length_eq_zero_iff.1
      rw [zbl,List.length_drop,List.length_drop]; omega
    rw [this,List.append_nil]
def padL (s:List UInt8) (n:Int) : List UInt8 := s ++ List.replicate ((min n 65536).toNat - s.length) 0
theorem z11a (N:Nat) {s:List UInt8} (hs:s.length <= 9223372036854000000) {n:Int} (hn:I64 n) : z5t N s n = some (padL s n) := by
  have key : ∀ m : Int,min n 65536 = m -> ∀ k0 : Int -> Option (List UInt8),z5m N s n k0 = k0 m := by
    intro m hm k0
    unfold z5m
    by_cases h : 65536 < n
    . rw [zg (z15 h)]; congr 1; omega
    . rw [zu (z3n h)]; congr 1; omega
  simp only [z5t,padL]
  generalize hm : min n 65536 = m
  rw [key m hm]
  have hm2 : m <= 65536 := by omega
  have hm3 : -9223372036854775808 <= m := by unfold I64 at hn; omega
  by_cases h : m <= s.length
  . rw [zg (z15 h),show m.toNat - s.length = 0 by omega]; simp
  . have hw : IntKind.wrap .i64 (m - ((s.length : Nat) : Int)) = m - ((s.length : Nat) : Int) := z1o (by unfold I64; omega)
    rw [zu (z3n h),hw,zg (z15 ⟨by omega,by omega,by omega,by omega⟩),zg (z15 (by rw [z8d,List.length_replicate]; omega)),z8d]
    congr 3; omega
end
end Go.Proofs.YtkipbccgnekoaaaGreatDoorLg
set_option linter.all false
set_option maxRecDepth 100000
namespace Go.Proofs.YtkipbccgnekoaaaGreatDoorLg
noncomputable section
open Go Go.Lift Go.Proofs.YtkipbccgnekoaaaGreatDoorPx
theorem z176 (k:Nat) {h:List Int} (hh:h.length = 8) : (z12y (k + 100) h).length = 32 := by
  unfold z12y
  rw [zwj h 0 hh,z1kz]
  simp only [Option.getD_some,List.length_append,List.length_nil]
  rfl
theorem zbn (k:Nat) {s:List UInt8} (hk : 600 <= k) (hl:s.length <= 30000) : (zgs (k + 100) s).length = 32 := by
  obtain ⟨_,h⟩ := zy4 k (all := s) (j := 0) hk (by omega) hl
  exact z176 k h
def zxs (N:Nat) (key:List UInt8) : List UInt8 := if 64 < key.length then zgs N key else key
def zq4 (N:Nat) (key:List UInt8) : List UInt8 := zxs N key ++ List.replicate (64 - (zxs N key).length) 0
def zrb (N:Nat) (key:List UInt8) (b:UInt8) : List UInt8 := zol (zq4 N key) (List.replicate 64 b)
def z85 (N:Nat) (key text:List UInt8) : List UInt8 := zrb N key 54 ++ text
def zaa (N:Nat) (key text:List UInt8) : List UInt8 := zrb N key 92 ++ zgs N (z85 N key text)
def zrw (N:Nat) (key text:List UInt8) : List UInt8 := zgs N (zaa N key text)
theorem zxr (k:Nat) {key:List UInt8} (hk : 600 <= k) (hl:key.length <= 30000) : (zxs (k + 100) key).length <= 64 := by
  unfold zxs
  by_cases h : 64 < key.length
  . rw [if_pos h,zbn k hk hl]; omega
  . rw [if_neg h]; omega
theorem zac (k:Nat) {key:List UInt8} (hk : 600 <= k) (hl:key.length <= 30000) : (zq4 (k + 100) key).length = 64 := by
  have := zxr k hk hl
  unfold zq4; rw [List.length_append,List.length_replicate]; omega
theorem z83 (k:Nat) {key:List UInt8} (b:UInt8) (hk : 600 <= k) (hl:key.length <= 30000) : (zrb (k + 100) key b).length = 64 := by
  unfold zrb; rw [zbl,zac k hk hl,List.length_replicate]; rfl
theorem zb7 (k:Nat) {key text:List UInt8} (hk : 600 <= k) (hl:key.length <= 30000) : (z85 (k + 100) key text).length = 64 + text.length := by
  unfold z85; rw [List.length_append,z83 k 54 hk hl]
theorem zfc (k:Nat) {key text:List UInt8} (hk : 600 <= k) (hl:key.length <= 30000) (ht:text.length <= 29900) : (zaa (k + 100) key text).length = 96 := by
  unfold zaa; rw [List.length_append,z83 k 92 hk hl,zbn k hk (by rw [zb7 k hk hl]; omega)]
theorem z36 (k:Nat) {key text:List UInt8} (hk : 600 <= k) (hl:key.length <= 30000) (ht:text.length <= 29900) : (zrw (k + 100) key text).length = 32 :=
  zbn k hk (by rw [zfc k hk hl ht]; omega)
theorem z1m8 (b:UInt8) : zo8 ([b],((64 : Int),())) = some (List.replicate 64 b) := by kernel_rfl
theorem z10b (k:Nat) {key text:List UInt8} (b:UInt8) (hk : 600 <= k) (hl:key.length = 64) (ht:text.length <= 29900) :
    zbg (k + 100) key [b] text = some (zgs (k + 100) (zol key (List.replicate 64 b) ++ text)) := by
  have hx : (zol key (List.replicate 64 b)).length = 64 := by rw [zbl,hl,List.length_replicate]; rfl
  unfold zbg
  rw [z1m8,Option.bind_some,z19w _ (by omega) (by omega),Option.bind_some]
  obtain ⟨h1,e1,m1⟩ := z162 k (s := zol key (List.replicate 64 b)) hk (z107 _) (by rw [hx]; simp)
  rw [List.nil_append] at m1
  rw [e1,Option.bind_some]
  dsimp only
  obtain ⟨h2,e2,m2⟩ := z162 k (s := text) hk m1 (by rw [hx]; omega)
  rw [e2,Option.bind_some]
  dsimp only
  rw [z1cq k hk m2 (by rw [List.length_append,hx]; omega),Option.bind_some]
theorem z19x (k:Nat) {key text:List UInt8} (hk : 600 <= k) (hl:key.length <= 30000) (ht:text.length <= 29900) :
    zi4 (k + 100) key text = some (zrw (k + 100) key text) := by
  have h1 : ∀ k0 : List UInt8 -> Option (List UInt8),zfp (k + 100) key text k0 = k0 (zxs (k + 100) key) := by
    intro k0
    unfold zfp zxs
    by_cases h : 64 < key.length
    . rw [zg (z15 (by omega)),z1m2 k hk hl,Option.bind_some,if_pos h]
    . rw [zu (z3n (by omega)),if_neg h]
  unfold zi4
  rw [h1,show (64 : Int) = ((64 : Nat) : Int) from rfl,z13v _ (by omega) (zxr k hk hl),Option.bind_some]
  have h64 := zac k hk hl
  unfold zq4 at h64
  rw [z10b k 54 hk h64 ht,Option.bind_some,z10b k 92 hk h64 (by
    have := zb7 k (text := text) hk hl
    unfold z85 zrb zq4 at this
    rw [zbn k hk (by rw [this]; omega)]; omega),Option.bind_some]
  rfl
theorem z13o (k:Nat) {key:List UInt8} (hk : 600 <= k) (hl:key.length <= 30000) : z4e (k + 100) key = some (zq4 (k + 100) key) := by
  have h1 : ∀ k0 : List UInt8 -> Option (List UInt8),z5j (k + 100) key k0 = k0 (zxs (k + 100) key) := by
    intro k0
    unfold z5j zxs
    by_cases h : 64 < key.length
    . rw [zg (z15 (by omega)),zkn k hk hl,Option.bind_some,if_pos h]
    . rw [zu (z3n (by omega)),if_neg h]
  unfold z4e
  have := zxr k hk hl
  rw [h1,z11a _ (by omega) (by unfold I64; omega),Option.bind_some]
  unfold padL zq4
  rw [show (min (64 : Int) 65536).toNat = 64 from rfl]
theorem z16k (k:Nat) (key:List UInt8) (n:Int) (k0:List UInt8 -> Option (List UInt8)) : zc4 (k + 100) key n [] k0 = k0 (List.replicate 64 (UInt8.ofNat (IntKind.wrap .u8 n).toNat)) := by kernel_rfl
theorem z12q (k:Nat) {key:List UInt8} (n:Int) (hl:key.length = 64) : z3q (k + 100) key n = some (zol key (List.replicate 64 (UInt8.ofNat (IntKind.wrap .u8 n).toNat))) := by
  unfold z3q
  rw [z16k,zv5 _ (by omega) (by omega),Option.bind_some]
theorem w54 : UInt8.ofNat (IntKind.wrap .u8 54).toNat = 54 := by kernel_rfl
theorem w92 : UInt8.ofNat (IntKind.wrap .u8 92).toNat = 92 := by kernel_rfl
theorem zez (k:Nat) {key text:List UInt8} (hk : 600 <= k) (hl:key.length <= 30000) (ht:text.length <= 29900) :
    z1a (k + 100) key text = some [z85 (k + 100) key text,zaa (k + 100) key text] := by
  have h64 := zac k hk hl
  have e1 := zb7 k (text := text) hk hl
  unfold z1a
  rw [z13o k hk hl,Option.bind_some,z12q k 54 h64,w54,Option.bind_some]
  have hm := z83 k 54 hk hl
  have hm2 := z83 k 92 hk hl
  unfold z85 zrb at e1
  unfold zrb at hm hm2
  rw [zg (z15 (by omega)),Option.bind_some,z12q k 92 h64,w92,Option.bind_some,zkn k hk (by omega),Option.bind_some]
  rw [zg (z15 (by rw [hm2,zbn k hk (by omega)]; omega))]
  rfl
theorem zv6 (k:Nat) {key text:List UInt8} (hk : 600 <= k) (hl:key.length <= 30000) (ht:text.length <= 29900) :
    z3k (k + 100) key text = some (zrw (k + 100) key text) := by
  unfold z3k
  rw [zez k hk hl ht,Option.bind_some,zg (by rfl)]
  show ((z2i (k + 100) (zaa (k + 100) key text)).bind fun y1=>some y1) = _
  rw [zkn k hk (by rw [zfc k hk hl ht]; omega)]; rfl
end
end Go.Proofs.YtkipbccgnekoaaaGreatDoorLg
set_option linter.all false
set_option maxRecDepth 100000
namespace Go.Proofs.YtkipbccgnekoaaaGreatDoorLg
noncomputable section
open Go Go.Lift Go.Proofs.YtkipbccgnekoaaaGreatDoorPx
def zui : List UInt8 -> Nat -> Nat
  | [],n=>n
  | b :: l,n=>zui l (n * 256 + b.toNat)
theorem zoq (b:UInt8) : ∀ (l:List UInt8) (n:Nat),zui (l ++ [b]) n = zui l n * 256 + b.toNat
  | [],n=>rfl
  | c :: l,n=>zoq b l _
theorem zuk {s:List UInt8} {i:Nat} (h:i < s.length) : zui (s.take (i + 1)) 0 = zui (s.take i) 0 * 256 + (s.getD i 0).toNat := by
  rw [zk9 s 0 i h,zoq]
theorem zwt : ∀ (i:Nat) (s:List UInt8),i <= s.length -> zui (s.take i) 0 < 256 ^ i
  | 0,s,_=>by simp [zui]
  | i + 1,s,h=>by
    rw [zuk (by omega),Nat.pow_succ]
    have := zwt i s (by omega)
    have := zwu (s.getD i 0)
    omega
def beN : Nat -> Nat -> List UInt8
  | 0,_ => []
  | j + 1,n=>beN j (n / 256) ++ [UInt8.ofNat (n % 256)]
theorem zzd : ∀ (j n:Nat),n < 256 ^ j -> zui (beN j n) 0 = n
  | 0,n,h=>by simp at h; subst h; rfl
  | j + 1,n,h=>by
    rw [Nat.pow_succ] at h
    have h2 : n / 256 < 256 ^ j := Nat.div_lt_of_lt_mul (by rw [Nat.mul_comm]; exact h)
    rw [beN,zoq,zzd j _ h2,UInt8.toNat_ofNat']; omega
theorem z1tg (n:Nat) (hn:n < 9223372036854775808) : be8 n = beN 8 n := by
  have h : ∀ a b : Nat,a % 256 = b % 256 -> UInt8.ofNat a = UInt8.ofNat b := by
    intro a b e
    apply UInt8.toNat_inj.1
    rw [UInt8.toNat_ofNat',UInt8.toNat_ofNat']; omega
  have e := fun i hi=>z1bp n hn i hi
  have e7 := e 7 (by omega); have e6 := e 6 (by omega); have e5 := e 5 (by omega); have e4 := e 4 (by omega)
  have e3 := e 3 (by omega); have e2 := e 2 (by omega); have e1 := e 1 (by omega); have e0 := e 0 (by omega)
  simp only [Nat.reduceMul] at e7 e6 e5 e4 e3 e2 e1 e0
  have : be8 n = [UInt8.ofNat (n / 256 ^ 7),UInt8.ofNat (n / 256 ^ 6),UInt8.ofNat (n / 256 ^ 5),UInt8.ofNat (n / 256 ^ 4),UInt8.ofNat (n / 256 ^ 3),UInt8.ofNat (n / 256 ^ 2),UInt8.ofNat (n / 256 ^ 1),UInt8.ofNat (n / 256 ^ 0)] := by
    rw [<- e7, <- e6, <- e5, <- e4, <- e3, <- e2, <- e1, <- e0]; rfl
  rw [this]
  simp only [beN,List.nil_append,List.cons_append,List.append_assoc,Nat.div_div_eq_div_mul,Nat.reducePow,Nat.reduceMul]
  simp only [List.cons.injEq,and_true]
  refine ⟨?_, ?_, ?_, ?_, ?_, ?_, ?_, ?_⟩ <;> (apply h; omega)
def z10o (s:List UInt8) : Option (List UInt8 × List UInt8) :=
 if s.length < 8 then none else if s.length - 8 < zui (s.take 8) 0 then none else some ((s.drop 8).take (zui (s.take 8) 0),(s.drop 8).drop (zui (s.take 8) 0))
theorem zhj {s a b:List UInt8} (h:z10o s = some (a,b)) : b.length < s.length := by
  unfold z10o at h
  by_cases h1 : s.length < 8
  . rw [if_pos h1] at h; cases h
  rw [if_neg h1] at h
  by_cases h2 : s.length - 8 < zui (s.take 8) 0
  . rw [if_pos h2] at h; cases h
  rw [if_neg h2] at h
  obtain ⟨rfl,rfl⟩ := Prod.mk.inj (Option.some.inj h)
  rw [List.length_drop,List.length_drop]; omega
def zg6 : Nat -> List UInt8 -> Option (List (List UInt8))
  | 0,s=>if s = [] then some [] else none
  | n + 1,s=>if s = [] then some [] else match z10o s with
    | none=>none
    | some (a,b)=>(zg6 n b).map (a :: ·)
def zgf : Nat -> List UInt8 -> List (List UInt8 × Bool × Unit)
  | 0,s => []
  | n + 1,s=>if s = [] then [] else match z10o s with
    | none => [([],false,())]
    | some (a,b)=>(a,true,()) :: zgf n b
theorem zov : ∀ (n m:Nat) (s:List UInt8),s.length <= n -> s.length <= m -> zg6 n s = zg6 m s
  | 0,0,s,_,_=>rfl
  | 0,m + 1,s,h,_=>by
    have : s = [] := List.length_eq_zero_iff.1 (by omega)
    subst this; rfl
  | n + 1,0,s,_,h=>by
    have : s = [] := List.length_eq_zero_iff.1 (by omega)
    subst this; rfl
  | n + 1,m + 1,s,h,h'=>by
    unfold zg6
    by_cases e : s = []
    . rw [if_pos e,if_pos e]
    rw [if_neg e,if_neg e]
    cases hc : z10o s with
    | none=>rfl
    | some p =>
      obtain ⟨a,b⟩ := p
      have := zhj hc
      dsimp only
      rw [zov n m b (by omega) (by omega)]
theorem zq5 : ∀ (n m:Nat) (s:List UInt8),s.length <= n -> s.length <= m -> zgf n s = zgf m s
  | 0,0,s,_,_=>rfl
  | 0,m + 1,s,h,_=>by
    have : s = [] := List.length_eq_zero_iff.1 (by omega)
    subst this; rfl
  | n + 1,0,s,_,h=>by
    have : s = [] := List.length_eq_zero_iff.1 (by omega)
    subst this; rfl
  | n + 1,m + 1,s,h,h'=>by
    unfold zgf
    by_cases e : s = []
    . rw [if_pos e,if_pos e]
    rw [if_neg e,if_neg e]
    cases hc : z10o s with
    | none=>rfl
    | some p =>
      obtain ⟨a,b⟩ := p
      have := zhj hc
      dsimp only
      rw [zq5 n m b (by omega) (by omega)]
abbrev zkc (s:List UInt8) : Option (List (List UInt8)) := zg6 s.length s
theorem zwz {s:List UInt8} (h:s ≠ []) : zkc s = match z10o s with
    | none=>none
    | some (a,b)=>(zkc b).map (a :: ·) := by
  have hp : 0 < s.length := List.length_pos_iff.2 h
  unfold zkc
  obtain ⟨n,hn⟩ : ∃ n,s.length = n + 1 := ⟨s.length - 1,by omega⟩
  rw [hn,zg6,if_neg h]
  cases hc : z10o s with
  | none=>rfl
  | some p =>
    obtain ⟨a,b⟩ := p
    have := zhj hc
    dsimp only
    rw [zov n b.length b (by omega) (by omega)]
theorem z89 (n:Nat) : (be8 n).length = 8 := rfl
theorem zf2 : ∀ (l:List (List UInt8)),(∀ p ∈ l,p.length < 9223372036854775808) -> zkc (z11 l) = some l
  | [],_=>rfl
  | p :: l,h=>by
    have hp := h p (by simp)
    have hne : z11 (p :: l) ≠ [] := by
      intro e
      have := congrArg List.length e
      rw [z9g,List.length_append,z89] at this
      simp at this
    rw [zwz hne]
    have ht : (z11 (p :: l)).take 8 = beN 8 p.length := by
      rw [z9g,List.take_append_of_le_length (by rw [z89]; omega),List.take_of_length_le (by rw [z89]; omega),z1tg _ hp]
    have hd : (z11 (p :: l)).drop 8 = p ++ z11 l := by
      rw [z9g,List.drop_append_of_le_length (by rw [z89]; omega),List.drop_of_length_le (by rw [z89]; omega)]; rfl
    have hv : zui ((z11 (p :: l)).take 8) 0 = p.length := by rw [ht]; exact zzd 8 _ (by omega)
    have hl : (z11 (p :: l)).length = 8 + (p.length + (z11 l).length) := by
      rw [z9g,List.length_append,List.length_append,z89]
    have hc : z10o (z11 (p :: l)) = some (p,z11 l) := by
      unfold z10o
      rw [hv,hd,if_neg (by omega),if_neg (by omega)]
      simp
    rw [hc]
    dsimp only
    rw [zf2 l (fun q hq=>h q (by simp [hq]))]; rfl
end
end Go.Proofs.YtkipbccgnekoaaaGreatDoorLg
set_option linter.all false
set_option maxRecDepth 100000
namespace Go.Proofs.YtkipbccgnekoaaaGreatDoorLg
noncomputable section
open Go Go.Lift Go.Proofs.YtkipbccgnekoaaaGreatDoorPx
theorem zx3 (N:Nat) {a b:List UInt8} (ha:a.length <= 100000) (hN:a.length < N) : zcn N a b = some (decide (a.length = 32) && (a == b)) := by
  unfold zcn
  by_cases h1 : a.length = 32
  . rw [zg (by simp [h1])]
    by_cases h2 : b.length = 32
    . rw [zg (by simp [h2]),z18o _ (by omega) hN,Option.bind_some,decide_eq_true h1,Bool.true_and]
    . have hne : (a == b) = false := by
        rw [beq_eq_false_iff_ne]; intro e; subst e; exact h2 h1
      rw [zu (by rw [beq_eq_false_iff_ne]; omega),hne,Bool.and_false]
  . rw [zu (by rw [beq_eq_false_iff_ne]; omega),decide_eq_false h1,Bool.false_and]
theorem z1bi (k:Nat) {l:List (List UInt8)} (hl:l.length <= 50) (hb:(z11 l).length <= 70368744177664) : z87 (k + 100) l = some (z11 l) :=
  z18m (k + 91) l (by omega) (by omega) hb
theorem zea (k:Nat) {l:List (List UInt8)} (hl:l.length <= 50) (hb:(z11 l).length <= 70368744177664) : z1f (k + 100) l = some (z11 l) :=
  zx8 (k + 91) l (by omega) (by omega) hb
theorem z2x : ∀ l : List (List UInt8),(z11 l).length = 8 * l.length + l.flatten.length
  | []=>rfl
  | p :: l=>by
    rw [z9g,List.length_append,List.length_append,z89,z2x l,List.flatten_cons,List.length_append,List.length_cons]; omega
theorem zfa (k:Nat) {key:List UInt8} {l:List (List UInt8)} (hk : 600 <= k) (hl:key.length <= 30000) (h1:l.length <= 50) (h2:(z11 l).length <= 29900) :
    z2n (k + 100) key l = some (zrw (k + 100) key (z11 l)) := by
  unfold z2n
  rw [z1bi k h1 (by omega),Option.bind_some,z19x k hk hl h2]; rfl
theorem z4t (k:Nat) {key:List UInt8} {l:List (List UInt8)} (hk : 600 <= k) (hl:key.length <= 30000) (h1:l.length <= 50) (h2:(z11 l).length <= 29900) :
    zz (k + 100) key l = some (zrw (k + 100) key (z11 l)) := by
  unfold zz
  rw [zea k h1 (by omega),Option.bind_some,zv6 k hk hl h2]; rfl
def bad (N:Nat) (l:List (List UInt8)) (j i:Nat) : Bool := (zgs N (l.getD j []) == zgs N (l.getD i [])) && !(l.getD j [] == l.getD i [])
theorem z18r {k:Nat} {l sums:List (List UInt8)} {i:Nat} {k0:Bool -> Option Bool} {k1:Option Bool} (hi:i < l.length) (hk : 600 <= k) (hl:l.length <= 500) (hs:sums = (l.take (i + 1)).map (zgs (k + 100))) :
    (∃ j,j < i /\ bad (k + 100) l j i = true) /\ z4a (k + 100) l sums (i:Int) 0 k0 k1 = k0 true \/ (∀ j,j < i -> bad (k + 100) l j i = false) /\ z4a (k + 100) l sums (i:Int) 0 k0 k1 = k1 := by
  have hsl : sums.length = i + 1 := by rw [hs,List.length_map,List.length_take]; omega
  have hget : ∀ j,j <= i -> sums.getD j [] = zgs (k + 100) (l.getD j []) := by
    intro j hj
    rw [hs,List.getD_eq_getElem?_getD,List.getElem?_map,List.getElem?_take,if_pos (by omega),List.getElem?_eq_getElem (by omega),Option.map_some,Option.getD_some,List.getD_eq_getElem?_getD,List.getElem?_eq_getElem (by omega),Option.getD_some]
  have main : ∀ (d a:Nat),a + d = i -> ∀ n,d < n -> (∃ j,a <= j /\ j < i /\ bad (k + 100) l j i = true) /\ iter (fun (v:Int) r=>z1j (k + 100) l sums (i:Int) v (fun k=>(r k)) k0 k1) n (a:Int) = k0 true ∨
      (∀ j,a <= j -> j < i -> bad (k + 100) l j i = false) /\ iter (fun (v:Int) r=>z1j (k + 100) l sums (i:Int) v (fun k=>(r k)) k0 k1) n (a:Int) = k1 := by
    intro d
    induction d with
    | zero =>
      intro a ha n hn
      obtain ⟨n,rfl⟩ : ∃ m,n = m + 1 := ⟨n - 1,by omega⟩
      refine .inr ⟨fun j h1 h2=>by omega, ?_⟩
      show z1j _ _ _ _ _ _ _ _ = _
      unfold z1j
      rw [zu (z3n (by omega))]
    | succ d ih =>
      intro a ha n hn
      obtain ⟨n,rfl⟩ : ∃ m,n = m + 1 := ⟨n - 1,by omega⟩
      have hstep : iter (fun (v:Int) r=>z1j (k + 100) l sums (i:Int) v (fun k=>(r k)) k0 k1) (n + 1) (a:Int) = cond (bad (k + 100) l a i) (k0 true) (iter (fun (v:Int) r=>z1j (k + 100) l sums (i:Int) v (fun k=>(r k)) k0 k1) n ((a + 1 : Nat) : Int)) := by
        show z1j _ _ _ _ _ _ _ _ = _
        unfold z1j z6u z6t
        rw [zg (z15 (by omega)),zg (z14 (by omega)),Int.toNat_natCast,Int.toNat_natCast,zg (z15 (by omega)),zg (z14 (by omega)),zg (z15 (by omega)),hget a (by omega),hget i (by omega),zg (z14 (by omega)),zg (z14 (by omega)),z1n (by omega)]
        unfold bad
        cases zgs (k + 100) (l.getD a []) == zgs (k + 100) (l.getD i []) <;> rfl
      rw [hstep]
      cases hb : bad (k + 100) l a i with
      | true=>exact .inl ⟨⟨a,by omega,by omega,hb⟩,rfl⟩
      | false =>
        rw [cond_false]
        rcases ih (a + 1) (by omega) n (by omega) with ⟨⟨j,h1,h2,h3⟩,h4⟩ | ⟨h1,h2⟩
        . exact .inl ⟨⟨j,by omega,h2,h3⟩,h4⟩
        . refine .inr ⟨fun j g1 g2 => ?_,h2⟩
          by_cases e : j = a
          . rw [e]; exact hb
          . exact h1 j (by omega) g2
  unfold z4a
  rcases main i 0 (by omega) (k + 100) (by omega) with ⟨⟨j,h1,h2,h3⟩,h4⟩ | ⟨h1,h2⟩
  . exact .inl ⟨⟨j,h2,h3⟩,h4⟩
  . exact .inr ⟨fun j hj=>h1 j (by omega) hj,h2⟩
theorem zwa {k:Nat} {l:List (List UInt8)} {i0 j0:Nat} (hk : 600 <= k) (hl:l.length <= 500) (hs : ∀ p ∈ l,p.length <= 30000) (hi:i0 < l.length) (hj:j0 < i0) (hb:bad (k + 100) l j0 i0 = true) : z1x (k + 100) l = some true := by
  unfold z1x zaz
  refine z28 (I := fun (v:List (List UInt8) × Int) => ∃ i : Nat,i <= i0 /\ v = ((l.take i).map (zgs (k + 100)),(i:Int))) (m := fun v=>i0 + 1 - v.2.toNat) (R := fun _=>some true) ?_ (k + 100) ([],0) ⟨0,by omega,by simp⟩ (by dsimp only; omega)
  rintro v r ⟨i,hi2,rfl⟩ hr
  dsimp only at hr ⊢
  unfold z6s
  have hlt : i < l.length := by omega
  rw [zg (z15 (by omega)),zg (z14 hlt),Int.toNat_natCast,zkn k hk (hs _ (zoi l [] i hlt)),Option.bind_some,List.length_map,List.length_take,zg (z15 (by omega)),z1n (by omega)]
  have ht : (l.take i).map (zgs (k + 100)) ++ [zgs (k + 100) (l.getD i [])] = (l.take (i + 1)).map (zgs (k + 100)) := by
    rw [zk9 l [] i hlt,List.map_append]; rfl
  rw [ht]
  rcases z18r (k := k) (k0 := fun x2=>some x2) (k1 := r ((l.take (i + 1)).map (zgs (k + 100)),((i + 1 : Nat) : Int))) hlt hk hl rfl with ⟨_,h⟩ | ⟨hno,h⟩
  . exact h
  . refine h.trans ?_
    by_cases e : i = i0
    . subst e
      rw [hno j0 hj] at hb; cases hb
    . exact hr _ ⟨i + 1,by omega,rfl⟩ (by dsimp only; omega)
end
end Go.Proofs.YtkipbccgnekoaaaGreatDoorLg
set_option linter.all false
set_option maxRecDepth 100000
namespace Go.Proofs.YtkipbccgnekoaaaGreatDoorLg
noncomputable section
open Go Go.Lift Go.Proofs.YtkipbccgnekoaaaGreatDoorPx
theorem z11j (k:Nat) (n:Int) : z64 (k + 9) n = some (z2f (([56,48,40,32,24,16,8,0] : List Int).map fun j=>IntKind.wrap .u8 (z3i .i64 n j))) := by kernel_rfl
theorem z147 (k:Nat) {n:Nat} (hn:n < 9223372036854775808) : z64 (k + 9) (n:Int) = some (be8 n) := by
  rw [z11j]
  have h1 : IntKind.wrap .u64 ((n:Nat) : Int) = (n:Int) := by
    simp [IntKind.wrap,IntKind.signed,IntKind.bits]; omega
  have h2 : ∀ j,z3i .i64 (n:Int) j = z3i .u64 (n:Int) j := fun j=>rfl
  unfold be8
  simp only [h1,h2]
theorem zv8 (k:Nat) {n:Nat} (hn:n < 9223372036854775808) : z35 (k + 9) (n:Int) = some (be8 n) := by
  have h : z35 (k + 9) (n:Int) = z3r (k + 9) (n:Int) := by kernel_rfl
  rw [h,z14m k n hn]
def z1cx (nonce:List UInt8) (i:Nat) : List (List UInt8) := [[115,116,114,101,97,109],nonce,be8 i]
def zlq (N:Nat) (key nonce:List UInt8) (i:Nat) : List UInt8 := zrw N key (z11 (z1cx nonce i))
theorem zjf (nonce:List UInt8) (i:Nat) : (z11 (z1cx nonce i)).length = 38 + nonce.length := by
  rw [z2x]
  simp [z1cx,z89]; omega
theorem zlp (k:Nat) {key nonce:List UInt8} (i:Nat) (hk : 600 <= k) (hl:key.length <= 30000) (hn:nonce.length <= 1000) : (zlq (k + 100) key nonce i).length = 32 :=
  z36 k hk hl (by rw [zjf]; omega)
theorem z196 (k:Nat) {key nonce:List UInt8} {i:Nat} (hk : 600 <= k) (hl:key.length <= 30000) (hn:nonce.length <= 1000) (hi:i < 9223372036854775808) : z9v (k + 100) key nonce (i:Int) = some (zlq (k + 100) key nonce i) := by
  unfold z9v
  rw [zu (z3n (by omega)),show z64 (k + 100) (i:Int) = some (be8 i) from z147 (k + 91) hi,Option.bind_some]
  rw [show z2n (k + 100) key ([([(115 : UInt8),(116 : UInt8),(114 : UInt8),(101 : UInt8),(97 : UInt8),(109 : UInt8)] : List UInt8),nonce,be8 i] : List (List UInt8)) = _ from zfa k (l := z1cx nonce i) hk hl (by simp [z1cx]) (by rw [zjf]; omega)]
  rfl
theorem zxa (k:Nat) {key nonce:List UInt8} {i:Nat} (hk : 600 <= k) (hl:key.length <= 30000) (hn:nonce.length <= 1000) (hi:i < 9223372036854775808) : z4d (k + 100) key nonce (i:Int) = some (zlq (k + 100) key nonce i) := by
  unfold z4d
  rw [zu (z3n (by omega)),show z35 (k + 100) (i:Int) = some (be8 i) from zv8 (k + 91) hi,Option.bind_some]
  rw [show zz (k + 100) key ([([(115 : UInt8),(116 : UInt8),(114 : UInt8),(101 : UInt8),(97 : UInt8),(109 : UInt8)] : List UInt8),nonce,be8 i] : List (List UInt8)) = _ from z4t k (l := z1cx nonce i) hk hl (by simp [z1cx]) (by rw [zjf]; omega)]
  rfl
def zqi (N:Nat) (key nonce:List UInt8) (m:Nat) : List UInt8 := ((List.range m).map (zlq N key nonce)).flatten
def zt2 (N:Nat) (key nonce:List UInt8) (n:Nat) : List UInt8 := (zqi N key nonce ((n + 31) / 32)).take n
theorem zqh (N:Nat) (key nonce:List UInt8) (m:Nat) : zqi N key nonce (m + 1) = zqi N key nonce m ++ zlq N key nonce m := by
  unfold zqi
  rw [List.range_succ,List.map_append,List.flatten_append]; simp
theorem zba (k:Nat) {key nonce:List UInt8} (hk : 600 <= k) (hl:key.length <= 30000) (hn:nonce.length <= 1000) : ∀ m,(zqi (k + 100) key nonce m).length = 32 * m
  | 0=>rfl
  | m + 1=>by rw [zqh,List.length_append,zba k hk hl hn m,zlp k m hk hl hn]; omega
theorem zmx (k:Nat) {key nonce:List UInt8} (n:Nat) (hk : 600 <= k) (hl:key.length <= 30000) (hn:nonce.length <= 1000) : (zt2 (k + 100) key nonce n).length = n := by
  unfold zt2; rw [List.length_take,zba k hk hl hn]; omega
theorem z15y (k:Nat) {key nonce:List UInt8} {n:Nat} (hk : 600 <= k) (hl:key.length <= 30000) (hn:nonce.length <= 1000) (h:n <= 4096) : z6y (k + 100) (n:Int) key nonce = some ((List.range ((n + 31) / 32)).map fun i=>(zlq (k + 100) key nonce i,())) := by
  have hq : IntKind.wrap .i64 (Int.tdiv (IntKind.wrap .i64 ((IntKind.wrap .i64 ((n:Int) + 32)) - 1)) 32) = (((n + 31) / 32 : Nat) : Int) := by
    rw [z1o (x := (n:Int) + 32) (by unfold I64; omega),z1o (x := (n:Int) + 32 - 1) (by unfold I64; omega),show (n:Int) + 32 - 1 = ((n + 31 : Nat) : Int) by omega]
    rw [show Int.tdiv ((n + 31 : Nat) : Int) 32 = (((n + 31) / 32 : Nat) : Int) from rfl,z1o (by unfold I64; omega)]
  unfold z6y ze4
  rw [hq]
  generalize hm : (n + 31) / 32 = m
  have hm2 : m <= 200 := by omega
  have main := z28 (step := fun (v:Int) r=>z65 (k + 100) key nonce (m:Int) v (fun x10=>r x10) (some []) (some [])) (I := fun v => ∃ i : Nat,i <= m /\ v = (i:Int)) (m := fun v=>m - v.toNat) (R := fun v=>some ((List.range' v.toNat (m - v.toNat)).map fun i=>(zlq (k + 100) key nonce i,()))) ?_ (k + 100) 0 ⟨0,by omega,rfl⟩ (by first | omega | (dsimp only; omega))
  . refine main.trans ?_
    try dsimp only
    rw [show (0 : Int).toNat = 0 from rfl,Nat.sub_zero,List.range_eq_range']
  rintro v r ⟨i,hi,rfl⟩ hr
  try dsimp only
  rw [Int.toNat_natCast] at hr ⊢
  unfold z65
  by_cases hlt : i < m
  . rw [zg (z15 (by omega)),z196 k hk hl hn (by omega),Option.bind_some,z1n (by omega)]
    have h2 := hr ((i + 1 : Nat) : Int) ⟨i + 1,by omega,rfl⟩ (by first | omega | (dsimp only; omega))
    try dsimp only
    rw [h2,zeu,Int.toNat_natCast,show m - i = (m - (i + 1)) + 1 by omega,List.range'_succ]
    rfl
  . rw [zu (z3n (by omega)),show m - i = 0 by omega]; rfl
theorem foldB {N:Nat} (ys:List (List UInt8 × Unit)) (k0:Unit × (List Int × Unit) -> Option (List UInt8)) (h:((ys.map (·.1)).flatten).length <= 70368744177664) :
    zem (fun (y:(List UInt8 × Unit)) (v:(Unit × ((List Int) × Unit))) r=>(z1g N v y.1).bind fun y1=>r y1.2.1) k0 ys ((),([],())) = k0 ((),(z57 (ys.map (·.1)).flatten,())) := by
  rw [zoe (fun (v:Unit × (List Int × Unit)) (ys:List (List UInt8 × Unit))=>v.2.1.length + ((ys.map (·.1)).flatten).length <= 70368744177664) (fun v y=>((),(v.2.1 ++ z57 y.1,()))) (by
    rintro y ys ⟨u,xs,u'⟩ r hI
    cases u; cases u'
    simp only [List.map_cons,List.flatten_cons,List.length_append] at hI
    refine ⟨?_,by simp only [List.length_append,Go.Proofs.YtkipbccgnekoaaaGreatDoorPx.ofStr_length]; omega⟩
    unfold z1g
    rw [zg (decide_eq_true (by rw [Go.Proofs.YtkipbccgnekoaaaGreatDoorPx.ofStr_length]; dsimp only; omega)),Option.bind_some]) _ _ (by simpa using h)]
  have hf := z10i ys []
  have h0 : z57 ([] : List UInt8) = [] := rfl
  rw [h0] at hf
  rw [hf]; rfl
theorem z1m3 (s:List UInt8) (h:s.length <= 70368744177664) : zwy (((),(z57 s,())),()) = some (s,(((),((),())),())) := by
  unfold zwy
  dsimp only
  rw [zg (by
    rw [Bool.and_eq_true]
    refine ⟨zvg _,decide_eq_true ?_⟩
    rw [Go.Proofs.YtkipbccgnekoaaaGreatDoorPx.ofStr_length]
    exact Nat.le_trans h (by decide))]
  rw [Go.Proofs.YtkipbccgnekoaaaGreatDoorPx.toStr_ofStr]
theorem z1cm (k:Nat) {key nonce:List UInt8} {n:Nat} (hk : 600 <= k) (hl:key.length <= 30000) (hn:nonce.length <= 1000) (h:n <= 4096) : zbo (k + 100) key nonce (n:Int) = some (zt2 (k + 100) key nonce n) := by
  unfold zbo
  by_cases h0 : n < 1
  . rw [zg (z15 (by omega)),show n = 0 by omega]; rfl
  rw [zu (z3n (by omega)),if_neg (by omega)]
  unfold zim z7c zdh
  rw [z15y k hk hl hn h,Option.bind_some]
  have hfl := zba k (key := key) (nonce := nonce) hk hl hn ((n + 31) / 32)
  have hmap : ((List.range ((n + 31) / 32)).map fun i=>(zlq (k + 100) key nonce i,())).map (·.1) = (List.range ((n + 31) / 32)).map (zlq (k + 100) key nonce) := by
    rw [List.map_map]; rfl
  unfold zqi at hfl
  rw [foldB (N := k + 100) _ _ (by rw [hmap,hfl]; omega),hmap]
  dsimp only
  rw [z1m3 _ (by rw [hfl]; omega),Option.bind_some]
  rw [zg (z15 (by rw [hfl]; omega)),Int.toNat_natCast,zdd]
  rfl
theorem z1a5 (k:Nat) {key nonce text:List UInt8} (hk : 600 <= k) (hl:key.length <= 30000) (hn:nonce.length <= 1000) (h:text.length <= 4096) (hkt:text.length < k) : zbf (k + 100) key nonce text = some (zol text (zt2 (k + 100) key nonce text.length)) := by
  unfold zbf
  rw [zu (z3n (by omega)),z1cm k hk hl hn h,Option.bind_some,z19w _ (by omega) (by omega)]; rfl
theorem z118 (k:Nat) {key nonce:List UInt8} {n:Nat} (hk : 600 <= k) (hl:key.length <= 30000) (hn:nonce.length <= 1000) (h:n <= 4096) : z55 (k + 100) key nonce (n:Int) = some (zt2 (k + 100) key nonce n) := by
  unfold z55 z7j
  rw [zu (z3n (by omega))]
  dsimp only
  unfold zc2
  have hfl := zba k (key := key) (nonce := nonce) hk hl hn
  rw [z28 (I := fun (v:List UInt8 × Int) => ∃ i : Nat,i <= (n + 31) / 32 /\ v = (zqi (k + 100) key nonce i,(i:Int))) (m := fun v=>200 - v.2.toNat) (R := fun _=>some (zt2 (k + 100) key nonce n)) ?_ (k + 100) ([],0) ⟨0,by omega,rfl⟩ (by dsimp only; omega)]
  rintro v r ⟨i,hi,rfl⟩ hr
  dsimp only at hr ⊢
  unfold z7i
  by_cases hlt : 32 * i < n
  . rw [zg (z15 (by rw [hfl]; omega)),zxa k hk hl hn (by omega),Option.bind_some,zg (z15 (by rw [hfl,zlp k i hk hl hn]; omega)),z1n (by omega), <- zqh]
    exact hr _ ⟨i + 1,by omega,rfl⟩ (by dsimp only; omega)
  . rw [zu (z3n (by rw [hfl]; omega))]
    have : i = (n + 31) / 32 := by omega
    dsimp only
    by_cases h0 : n < 1
    . rw [zg (z15 (by omega)),show n = 0 by omega]; rfl
    . rw [zu (z3n (by omega)),zg (z15 (by rw [hfl]; omega)),Int.toNat_natCast,zdd,this]; rfl
theorem zv9 (k:Nat) {key nonce text:List UInt8} (hk : 600 <= k) (hl:key.length <= 30000) (hn:nonce.length <= 1000) (h:text.length <= 4096) (hkt:text.length < k) : z2y (k + 100) key nonce text = some (zol text (zt2 (k + 100) key nonce text.length)) := by
  unfold z2y
  rw [zu (z3n (by omega)),z118 k hk hl hn h,Option.bind_some,zv5 _ (by omega) (by omega)]; rfl
end
end Go.Proofs.YtkipbccgnekoaaaGreatDoorLg
set_option linter.all false
set_option maxRecDepth 100000
namespace Go.Proofs.YtkipbccgnekoaaaGreatDoorLg
noncomputable section
open Go Go.Lift Go.Proofs.YtkipbccgnekoaaaGreatDoorPx
theorem zup (k:Nat) {a b s t:List UInt8} (hk : 600 <= k) (ha:a.length = 32) (hb:b.length = 32) (hs:s.length <= 29900) (ht:t.length <= 29900) (h:zrw (k + 100) a s = zrw (k + 100) b t) :
    (zaa (k + 100) a s ≠ zaa (k + 100) b t /\ zgs (k + 100) (zaa (k + 100) a s) = zgs (k + 100) (zaa (k + 100) b t)) ∨
    (a = b /\ ((z85 (k + 100) a s ≠ z85 (k + 100) b t /\ zgs (k + 100) (z85 (k + 100) a s) = zgs (k + 100) (z85 (k + 100) b t)) \/ s = t)) := by
  by_cases ho : zaa (k + 100) a s = zaa (k + 100) b t
  . right
    have hm1 := z83 k (key := a) 92 hk (by omega)
    have hm2 := z83 k (key := b) 92 hk (by omega)
    obtain ⟨e1,e2⟩ := List.append_inj (show zrb (k + 100) a 92 ++ zgs (k + 100) (z85 (k + 100) a s) = zrb (k + 100) b 92 ++ zgs (k + 100) (z85 (k + 100) b t) from ho) (by rw [hm1,hm2])
    have hkk : ∀ q : List UInt8,q.length = 32 -> zq4 (k + 100) q = q ++ List.replicate 32 0 := by
      intro q hq
      unfold zq4 zxs
      rw [if_neg (by omega),hq]
    have k1 := zac k (key := a) hk (by omega)
    have k2 := zac k (key := b) hk (by omega)
    have e3 : zq4 (k + 100) a = zq4 (k + 100) b := by
      have := congrArg (fun z=>zol z (List.replicate 64 92)) e1
      unfold zrb at this
      rw [zk6,zk6,k1,k2,List.length_replicate,List.take_of_length_le (by omega),List.take_of_length_le (by omega)] at this
      exact this
    have e4 : a = b := by
      rw [hkk a ha,hkk b hb] at e3
      exact (List.append_inj e3 (by omega)).1
    refine ⟨e4, ?_⟩
    by_cases hi : z85 (k + 100) a s = z85 (k + 100) b t
    . right
      subst e4
      exact List.append_cancel_left hi
    . exact .inl ⟨hi,e2⟩
  . exact .inl ⟨ho,h⟩
theorem z15n {k:Nat} {l:List (List UInt8)} {p q:List UInt8} (hk : 600 <= k) (hl:l.length <= 500) (hs : ∀ p ∈ l,p.length <= 30000) (hp:p ∈ l) (hq:q ∈ l) (hne:p ≠ q) (he:zgs (k + 100) p = zgs (k + 100) q) : z1x (k + 100) l = some true := by
  obtain ⟨i,hi,rfl⟩ := List.mem_iff_getElem.1 hp
  obtain ⟨j,hj,rfl⟩ := List.mem_iff_getElem.1 hq
  have gi : l.getD i [] = l[i] := by simp [List.getD,hi]
  have gj : l.getD j [] = l[j] := by simp [List.getD,hj]
  rcases Nat.lt_trichotomy i j with h | h | h
  . refine zwa hk hl hs hj h ?_
    unfold bad
    rw [gi,gj,Bool.and_eq_true]
    exact ⟨beq_iff_eq.2 he,by simpa using hne⟩
  . subst h; exact absurd rfl hne
  . refine zwa hk hl hs hi h ?_
    unfold bad
    rw [gi,gj,Bool.and_eq_true]
    exact ⟨beq_iff_eq.2 he.symm,by simpa using hne.symm⟩
def z29 (N:Nat) (key s:List UInt8) : List (List UInt8) := [z85 N key s,zaa N key s]
theorem zl4 (N:Nat) (key s:List UInt8) : z85 N key s ∈ z29 N key s := List.mem_cons_self
theorem zkx (N:Nat) (key s:List UInt8) : zaa N key s ∈ z29 N key s := List.mem_cons_of_mem _ List.mem_cons_self
theorem z1ck {P:List UInt8 -> Prop} {a b:List UInt8} (ha:P a) (hb:P b) : ∀ p ∈ [a,b],P p := by
  intro p hp
  rcases List.mem_cons.1 hp with rfl | hp
  . exact ha
  . rw [List.mem_singleton.1 hp]; exact hb
theorem z9r (k:Nat) {t u:List UInt8} (hk : 600 <= k) (ht:t.length <= 30000) (hu:u.length <= 29000) : ∀ p ∈ z29 (k + 100) t u,p.length <= 30000 := by
  have a1 := zb7 k (key := t) (text := u) hk ht
  have a2 := zfc k (key := t) (text := u) hk ht (by omega)
  exact z1ck (P := fun p=>p.length <= 30000) (by omega) (by omega)
def zxy (N:Nat) (key:List UInt8) : List UInt8 := zrw N key (z11 [[104,105,100,101]])
def z1cp (N:Nat) (key:List UInt8) : List UInt8 := zrw N key (z11 [[116,97,103]])
def zno (N:Nat) (key body:List UInt8) : List UInt8 := zrw N (z1cp N key) body
def zgh (N:Nat) (key nonce text:List UInt8) : List UInt8 := zol text (zt2 N (zxy N key) nonce text.length)
def zdw (N:Nat) (key nonce text:List UInt8) : List UInt8 := nonce ++ zgh N key nonce text
def z95 (N:Nat) (key nonce text:List UInt8) : List UInt8 := zdw N key nonce text ++ zno N key (zdw N key nonce text)
theorem zlc : (z11 [[104,105,100,101]]).length = 12 := by rw [z2x]; rfl
theorem zf0 : (z11 [[116,97,103]]).length = 11 := by rw [z2x]; rfl
theorem z88 (k:Nat) {key:List UInt8} (hk : 600 <= k) (hl:key.length <= 30000) : (zxy (k + 100) key).length = 32 := z36 k hk hl (by rw [zlc]; omega)
theorem zbm (k:Nat) {key:List UInt8} (hk : 600 <= k) (hl:key.length <= 30000) : (z1cp (k + 100) key).length = 32 := z36 k hk hl (by rw [zf0]; omega)
theorem zg0 (k:Nat) {key body:List UInt8} (hk : 600 <= k) (hl:key.length <= 30000) (hb:body.length <= 29900) : (zno (k + 100) key body).length = 32 := z36 k hk (by rw [zbm k hk hl]; omega) hb
theorem z8y (k:Nat) {key nonce text:List UInt8} (hk : 600 <= k) (hl:key.length <= 30000) (hn:nonce.length <= 1000) : (zgh (k + 100) key nonce text).length = text.length := by
  unfold zgh; rw [zbl,zmx k _ hk (by rw [z88 k hk hl]; omega) hn,Nat.min_self]
theorem zqb (k:Nat) {key nonce text:List UInt8} (hk : 600 <= k) (hl:key.length <= 30000) (hn:nonce.length <= 1000) : zgh (k + 100) key nonce (zgh (k + 100) key nonce text) = text := by
  have h := z8y k (text := text) hk hl hn
  have ht := zmx k (key := zxy (k + 100) key) (nonce := nonce) text.length hk (by rw [z88 k hk hl]; omega) hn
  show zol (zgh (k + 100) key nonce text) (zt2 (k + 100) (zxy (k + 100) key) nonce (zgh (k + 100) key nonce text).length) = text
  rw [h]
  unfold zgh
  rw [zk6,ht,Nat.min_self,List.take_length]
theorem zag (k:Nat) {key nonce text:List UInt8} (hk : 600 <= k) (hl:key.length <= 30000) (hn:nonce.length = 16) : (zdw (k + 100) key nonce text).length = 16 + text.length := by
  unfold zdw; rw [List.length_append,z8y k hk hl (by omega),hn]
theorem z9y (k:Nat) {key nonce text:List UInt8} (hk : 600 <= k) (hl:key.length <= 30000) (hn:nonce.length = 16) (ht:text.length <= 4096) : (z95 (k + 100) key nonce text).length = 48 + text.length := by
  unfold z95; rw [List.length_append,zag k hk hl hn,zg0 k hk hl (by rw [zag k hk hl hn]; omega)]; omega
theorem zsk (k:Nat) {key:List UInt8} (hk : 600 <= k) (hl:key.length <= 30000) : z9i (k + 100) key = some (zxy (k + 100) key) := by
  unfold z9i
  rw [zfa k hk hl (by simp) (by rw [zlc]; omega)]; rfl
theorem zwg (k:Nat) {key body:List UInt8} (hk : 600 <= k) (hl:key.length <= 30000) (hb:body.length <= 29900) : zk2 (k + 100) key body = some (zno (k + 100) key body) := by
  unfold zk2
  rw [zfa k hk hl (by simp) (by rw [zf0]; omega),Option.bind_some,z19x k hk (by have := zbm k hk hl; unfold z1cp at this; rw [this]; omega) hb]; rfl
theorem z13d (k:Nat) {key nonce text:List UInt8} (hk : 4400 <= k) (hl:key.length <= 30000) (hn:nonce.length = 16) (ht:text.length <= 4096) : zfz (k + 100) key nonce text = some (z95 (k + 100) key nonce text,0,()) := by
  have h1 := z8y k (key := key) (nonce := nonce) (text := text) (by omega) hl (by omega)
  have h2 := zag k (key := key) (nonce := nonce) (text := text) (by omega) hl hn
  have h3 := zg0 k (key := key) (body := zdw (k + 100) key nonce text) (by omega) hl (by omega)
  unfold zfz
  rw [zu (by simp [hn]),zu (z3n (by omega)),zsk k (by omega) hl,Option.bind_some,z1a5 k (by omega) (by rw [z88 k (by omega) hl]; omega) (by omega) ht (by omega),Option.bind_some]
  show cond (decide (nonce.length + (zgh (k + 100) key nonce text).length <= 9223372036854775807)) ((zk2 (k + 100) key (zdw (k + 100) key nonce text)).bind fun y2=>cond (decide ((zdw (k + 100) key nonce text).length + y2.length <= 9223372036854775807)) (some ((zdw (k + 100) key nonce text) ++ y2,((0 : Int),()))) none) none = _
  rw [zg (z15 (by omega)),zwg k (by omega) hl (by omega),Option.bind_some,zg (z15 (by omega))]
  rfl
theorem z119 (k:Nat) {key nonce text:List UInt8} (hk : 4400 <= k) (hl:key.length <= 30000) (hn:nonce.length = 16) (ht:text.length <= 4096) : z3p (k + 100) key nonce text = some (z95 (k + 100) key nonce text,0,()) := by
  have h1 := z8y k (key := key) (nonce := nonce) (text := text) (by omega) hl (by omega)
  have h2 := zag k (key := key) (nonce := nonce) (text := text) (by omega) hl hn
  have h3 := zg0 k (key := key) (body := zdw (k + 100) key nonce text) (by omega) hl (by omega)
  have h4 := zbm k (key := key) (by omega) hl
  unfold z3p
  rw [zu (by simp [hn]),zu (z3n (by omega)),z4t k (by omega) hl (by simp) (by rw [zlc]; omega),Option.bind_some]
  show ((z2y (k + 100) (zxy (k + 100) key) nonce text).bind _) = _
  rw [zv9 k (by omega) (by rw [z88 k (by omega) hl]; omega) (by omega) ht (by omega),Option.bind_some,z4t k (by omega) hl (by simp) (by rw [zf0]; omega),Option.bind_some]
  show cond (decide (nonce.length + (zgh (k + 100) key nonce text).length <= 9223372036854775807)) ((z3k (k + 100) (z1cp (k + 100) key) (zdw (k + 100) key nonce text)).bind fun y2=>cond (decide ((zdw (k + 100) key nonce text).length + y2.length <= 9223372036854775807)) (some ((zdw (k + 100) key nonce text) ++ y2,((0 : Int),()))) none) none = _
  rw [zg (z15 (by omega)),zv6 k (by omega) (by omega) (by omega),Option.bind_some]
  show cond (decide ((zdw (k + 100) key nonce text).length + (zno (k + 100) key (zdw (k + 100) key nonce text)).length <= 9223372036854775807)) _ _ = _
  rw [zg (z15 (by omega))]
  rfl
def z10k (N:Nat) (key s:List UInt8) : Bool := s.drop (s.length - 32) == zno N key (s.take (s.length - 32))
def zkz (N:Nat) (key s:List UInt8) : List UInt8 := zgh N key (s.take 16) ((s.take (s.length - 32)).drop 16)
theorem wlen {s:List UInt8} (h : 48 <= s.length) (h2:s.length <= 5000) : IntKind.wrap .i64 ((s.length : Int) - 32) = ((s.length - 32 : Nat) : Int) := by
  rw [z1o (by unfold I64; omega)]; omega
theorem z18s (k:Nat) {key s:List UInt8} (hk : 4400 <= k) (hl:key.length <= 30000) (h1 : 48 <= s.length) (h2:s.length <= 4144) : z7b (k + 100) key s = some (cond (z10k (k + 100) key s) 0 8) := by
  have hd : (s.drop (s.length - 32)).length = 32 := by rw [List.length_drop]; omega
  unfold z7b
  rw [zu (z3n (by omega)),zu (z3n (by omega)),wlen h1 (by omega),zg (z15 (by omega)),zg (z15 (by omega)),Int.toNat_natCast,zdd,zwg k (by omega) hl (by rw [List.length_take]; omega),Option.bind_some,ztz,zx3 _ (by omega) (by omega),Option.bind_some,hd]
  show cond (!(decide ((32 : Nat) = 32) && z10k (k + 100) key s)) (some 8) (some 0) = _
  cases z10k (k + 100) key s <;> rfl
theorem zxh (k:Nat) {key s:List UInt8} (hk : 4400 <= k) (hl:key.length <= 30000) (h1 : 48 <= s.length) (h2:s.length <= 4144) : z5o (k + 100) key s = some (cond (z10k (k + 100) key s) (zkz (k + 100) key s,0,()) ([],8,())) := by
  unfold z5o
  rw [z18s k hk hl h1 (by omega),Option.bind_some]
  cases hf : z10k (k + 100) key s with
  | false=>rfl
  | true =>
    have hm : (cut s 16 (s.length - 32)).length <= 4096 := by unfold cut; rw [List.length_drop,List.length_take]; omega
    unfold zex
    rw [show cond true (0 : Int) 8 = 0 from rfl,zg (by rfl),zsk k (by omega) hl,Option.bind_some]
    have hn : zhp (k + 100) s = some (s.take 16) := by
      unfold zhp
      rw [zu (z3n (by omega)),zg (z15 (by omega)),zdd]
    rw [hn,Option.bind_some,wlen h1 (by omega),zg (z15 (by omega)),zg (z15 (by omega)),Int.toNat_natCast,z1a5 k (by omega) (by rw [z88 k (by omega) hl]; omega) (by rw [List.length_take]; omega) hm (by omega),Option.bind_some,Option.bind_some]
    rfl
theorem z11i (N:Nat) {key s:List UInt8} (h1:s.length < 48) : z5o N key s = some ([],1,()) /\ z1q N key s = some ([],1,()) := by
  have e : decide ((((List.length s) : Nat) : Int) < (48 : Int)) = true := z15 (by omega)
  unfold z5o z7b z1q
  simp only [e,cond_true]
  exact ⟨rfl,trivial⟩
theorem z142 (N:Nat) {key s:List UInt8} (h1 : 4144 < s.length) : z5o N key s = some ([],3,()) /\ z1q N key s = some ([],3,()) := by
  have e : decide ((((List.length s) : Nat) : Int) < (48 : Int)) = false := z3n (by omega)
  have e2 : decide ((4144 : Int) < (((List.length s) : Nat) : Int)) = true := z15 (by omega)
  unfold z5o z7b z1q
  simp only [e,e2,cond_true,cond_false]
  exact ⟨rfl,trivial⟩
theorem z1ma {s:List UInt8} (h : 48 <= s.length) : s.take 16 ++ (s.take (s.length - 32)).drop 16 = s.take (s.length - 32) := by
  have : s.take 16 = (s.take (s.length - 32)).take 16 := by rw [List.take_take,Nat.min_eq_left (by omega)]
  rw [this,List.take_append_drop]
theorem z1ti (k:Nat) {key s:List UInt8} (hk : 4400 <= k) (hl:key.length <= 30000) (h1 : 48 <= s.length) (h2:s.length <= 4144) : z95 (k + 100) key (s.take 16) (zkz (k + 100) key s) = s.take (s.length - 32) ++ zno (k + 100) key (s.take (s.length - 32)) := by
  have hb : zdw (k + 100) key (s.take 16) (zkz (k + 100) key s) = s.take (s.length - 32) := by
    unfold zdw zkz
    rw [zqb k (by omega) hl (by rw [List.length_take]; omega),z1ma h1]
  unfold z95
  rw [hb]
theorem z12g (k:Nat) {key s:List UInt8} (hk : 4400 <= k) (hl:key.length <= 30000) (h1 : 48 <= s.length) (h2:s.length <= 4144) : (z95 (k + 100) key (s.take 16) (zkz (k + 100) key s) == s) = z10k (k + 100) key s := by
  rw [z1ti k hk hl h1 h2,Bool.eq_iff_iff,beq_iff_eq]
  unfold z10k
  rw [beq_iff_eq]
  constructor
  . intro h
    have h3 : s.take (s.length - 32) ++ zno (k + 100) key (s.take (s.length - 32)) = s.take (s.length - 32) ++ s.drop (s.length - 32) := by rw [h,List.take_append_drop]
    exact (List.append_cancel_left h3).symm
  . intro h; rw [<- h,List.take_append_drop]
theorem zn7 (k:Nat) {key s:List UInt8} (hk : 600 <= k) (hl:key.length <= 30000) (h1 : 48 <= s.length) : (zkz (k + 100) key s).length = s.length - 48 := by
  unfold zkz
  rw [z8y k hk hl (by rw [List.length_take]; omega),List.length_drop,List.length_take]; omega
theorem zs5 (k:Nat) {key s:List UInt8} (hk : 4400 <= k) (hl:key.length <= 30000) (h1 : 48 <= s.length) (h2:s.length <= 4144) : z1q (k + 100) key s = some (cond (z10k (k + 100) key s) (zkz (k + 100) key s,0,()) ([],8,())) := by
  have hm : (cut s 16 (s.length - 32)).length <= 4096 := by unfold cut; rw [List.length_drop,List.length_take]; omega
  have ho := zn7 k (key := key) (s := s) (by omega) hl h1
  have h16 : (s.take 16).length = 16 := by rw [List.length_take]; omega
  unfold z1q
  rw [zu (z3n (by omega)),zu (z3n (by omega)),z4t k (by omega) hl (by simp) (by rw [zlc]; omega),Option.bind_some,wlen h1 (by omega),zg (z15 (by omega)),zg (z15 (by omega)),zg (z15 (by omega)),Int.toNat_natCast,zdd s 16]
  show ((z2y (k + 100) (zxy (k + 100) key) (s.take 16) (cut s 16 (s.length - 32))).bind _) = _
  rw [zv9 k (by omega) (by rw [z88 k (by omega) hl]; omega) (by omega) hm (by omega),Option.bind_some,zg (z15 (by omega))]
  show ((z3p (k + 100) key (s.take 16) (zkz (k + 100) key s)).bind fun y2=>cond (!(y2.1 == s)) (some (([] : List UInt8),((8 : Int),()))) (some (zkz (k + 100) key s,((0 : Int),())))) = _
  rw [z119 k hk hl h16 (by omega),Option.bind_some]
  show cond (!(z95 (k + 100) key (s.take 16) (zkz (k + 100) key s) == s)) _ _ = _
  rw [z12g k hk hl h1 h2]
  cases z10k (k + 100) key s <;> rfl
end
end Go.Proofs.YtkipbccgnekoaaaGreatDoorLg
set_option linter.all false
set_option maxRecDepth 100000
namespace Go.Proofs.YtkipbccgnekoaaaGreatDoorLg
noncomputable section
open Go Go.Lift Go.Proofs.YtkipbccgnekoaaaGreatDoorPx
abbrev Lk : Type := List UInt8 × List UInt8 × Unit
abbrev Tk : Type := List UInt8 × List Lk × List UInt8 × Unit
def z4v (l:Lk) : List (List UInt8) := cond (l.2.1 == ([] : List UInt8)) [[102,105,114,115,116],l.1] [[116,104,105,114,100],l.2.1,l.1]
def z2s (id:List UInt8) : List (List UInt8) := [[114,111,111,116],id]
def z69 (N:Nat) (t:List UInt8) (l:Lk) : List UInt8 := zrw N t (z11 (z4v l))
def zl (N:Nat) (key id:List UInt8) : List UInt8 := zrw N key (z11 (z2s id))
def z6v (N:Nat) (t:List UInt8) (ls:List Lk) : List UInt8 := ls.foldl (z69 N) t
def z8e (N:Nat) : List UInt8 -> List Lk -> List (List UInt8)
  | t,[] => [t]
  | t,l :: ls=>t :: z8e N (z69 N t l) ls
def zb3 (l:Lk) : Prop := l.1.length <= 4200 /\ l.2.1.length <= 4200
theorem z4o {l:Lk} (h:zb3 l) : (z11 (z4v l)).length <= 8500 /\ (z4v l).length <= 3 := by
  unfold zb3 at h
  unfold z4v
  cases l.2.1 == ([] : List UInt8) with
  | true=>rw [cond_true,z2x]; simp; omega
  | false=>rw [cond_false,z2x]; simp; omega
theorem z3z {id:List UInt8} : (z11 (z2s id)).length = 20 + id.length := by
  rw [z2x]; simp [z2s]; omega
theorem z3v (N:Nat) : ∀ (ls:List Lk) (t:List UInt8),(z8e N t ls).length = ls.length + 1
  | [],t=>rfl
  | l :: ls,t=>by rw [z8e,List.length_cons,z3v N ls,List.length_cons]
theorem zm0 (N:Nat) : ∀ (ls:List Lk) (t:List UInt8),(z8e N t ls).getD ls.length [] = z6v N t ls
  | [],t=>rfl
  | l :: ls,t=>by
    show (z8e N (z69 N t l) ls).getD ls.length [] = _
    rw [zm0 N ls]; rfl
theorem z5v (k:Nat) {t:List UInt8} {l:Lk} (hk : 600 <= k) (ht:t.length <= 30000) (hl:zb3 l) : (z69 (k + 100) t l).length = 32 := by
  have := z4o hl
  exact z36 k hk ht (by omega)
theorem zab (k:Nat) (hk : 600 <= k) : ∀ (ls:List Lk) {t:List UInt8},t.length = 32 -> (∀ l ∈ ls,zb3 l) -> (z6v (k + 100) t ls).length = 32
  | [],t,ht,_=>ht
  | l :: ls,t,ht,h=>zab k hk ls (z5v k hk (by omega) (h l (by simp))) (fun x hx=>h x (by simp [hx]))
theorem zq1 (N:Nat) (t:List UInt8) : z6v N t [] = t := rfl
theorem zsh (N:Nat) (t:List UInt8) (l:Lk) (ls:List Lk) : z6v N t (l :: ls) = z6v N (z69 N t l) ls := rfl
theorem z11p (N:Nat) (t:List UInt8) (ls:List Lk) (l:Lk) : z6v N t (ls ++ [l]) = z69 N (z6v N t ls) l := by
  unfold z6v; rw [List.foldl_append]; rfl
theorem zx6 (k:Nat) {key id:List UInt8} (hk : 600 <= k) (hl:key.length <= 30000) (hi:id.length <= 8000) : z5e (k + 100) key id = some (zl (k + 100) key id) := by
  unfold z5e
  rw [show z2n (k + 100) key [[114,111,111,116],id] = some (zl (k + 100) key id) from zfa k (l := z2s id) hk hl (by simp [z2s]) (by rw [z3z]; omega)]
  rfl
theorem z14c (k:Nat) {t:List UInt8} {l:Lk} (hk : 600 <= k) (ht:t.length <= 30000) (hl:zb3 l) : z5c (k + 100) t l = some (z69 (k + 100) t l) := by
  have hp := z4o hl
  unfold z5c
  have h := zfa k (key := t) (l := z4v l) hk ht (by omega) (by omega)
  unfold z69
  unfold z4v at h ⊢
  cases hc : l.2.1 == ([] : List UInt8) with
  | true=>rw [hc,cond_true] at h; rw [cond_true,cond_true,h]; rfl
  | false=>rw [hc,cond_false] at h; rw [cond_false,cond_false,h]; rfl
theorem z19b (k:Nat) {t:List UInt8} {ls:List Lk} (hk : 600 <= k) (ht:t.length = 32) (hn:ls.length <= 500) (hl : ∀ l ∈ ls,zb3 l) : zaf (k + 100) t ls () = some ((z8e (k + 100) t ls).map fun x=>(x,())) := by
  have key : ∀ (d i:Nat) (u:List UInt8),i + d = ls.length -> u.length = 32 -> ∀ n,d < n →
      iter (fun (v:List UInt8 × Int) r=>z61 (k + 100) () ls ((ls.length : Nat) : Int) v.1 v.2 (fun t x15=>r (t,x15)) (some []) (some [])) n (u,(i:Int)) = some ((z8e (k + 100) u (ls.drop i)).tail.map fun x=>(x,())) := by
    intro d
    induction d with
    | zero =>
      intro i u hi hu n hn
      obtain ⟨n,rfl⟩ : ∃ m,n = m + 1 := ⟨n - 1,by omega⟩
      simp only [iter]
      unfold z61
      rw [zu (z3n (by omega)),z60 ls (by omega)]; rfl
    | succ d ih =>
      intro i u hi hu n hn
      obtain ⟨n,rfl⟩ : ∃ m,n = m + 1 := ⟨n - 1,by omega⟩
      have hlt : i < ls.length := by omega
      have hs := hl _ (zoi ls ([],[],()) i hlt)
      have h2 := ih (i + 1) (z69 (k + 100) u (ls.getD i ([],[],()))) (by omega) (z5v k hk (by omega) hs) n (by omega)
      simp only [iter]
      unfold z61 at h2 ⊢
      rw [zg (z15 (by omega)),zg (z14 hlt),Int.toNat_natCast,z14c k hk (by omega) hs,Option.bind_some,z1n (by omega)]
      dsimp only
      rw [h2,zeu,z1y ls ([],[],()) i hlt]
      cases hd : ls.drop (i + 1) <;> rfl
  unfold zaf zhm
  rw [show (0 : Int) = ((0 : Nat) : Int) from rfl,key ls.length 0 t (by omega) ht (k + 100) (by omega),zeu,List.drop_zero]
  cases ls <;> rfl
theorem z1co (k:Nat) {key:List UInt8} {t:Tk} (hk : 600 <= k) (hl:key.length <= 30000) (hi:t.1.length <= 8000) (hn:t.2.1.length <= 100) (hs : ∀ l ∈ t.2.1,zb3 l) : zev (k + 100) key t = some (z8e (k + 100) (zl (k + 100) key t.1) t.2.1) := by
  have hr : (zl (k + 100) key t.1).length = 32 := z36 k (key := key) (text := z11 (z2s t.1)) hk hl (by rw [z3z]; omega)
  have hw : IntKind.wrap .i64 ((1 : Int) + ((t.2.1.length : Nat) : Int)) = ((1 + t.2.1.length : Nat) : Int) := by rw [z1o (by unfold I64; omega)]; omega
  unfold zev
  rw [hw,zg (z15 ⟨by omega,by omega,by omega,by omega⟩),zx6 k hk hl hi,Option.bind_some]
  unfold zlh z91
  dsimp only
  rw [z19b k hk hr (by omega) hs,Option.bind_some]
  rw [zoe (fun (v:List (List UInt8)) (ys:List (List UInt8 × Unit))=>v.length + ys.length <= 1000) (fun v y=>v ++ [y.1]) (by
    intro y ys v r hI
    rw [List.length_cons] at hI
    refine ⟨?_,by rw [List.length_append,List.length_singleton]; omega⟩
    unfold zfv
    rw [zg (z15 (by omega))]) _ _ (by rw [List.length_map,z3v,List.length_nil]; omega)]
  have : ∀ (ys:List (List UInt8)) (a:List (List UInt8)),(ys.map fun x=>(x,())).foldl (fun v (y:List UInt8 × Unit)=>v ++ [y.1]) a = a ++ ys := by
    intro ys
    induction ys with
    | nil=>intro a; simp
    | cons y ys ih=>intro a; rw [List.map_cons,List.foldl_cons,ih]; simp
  rw [this]; rfl
theorem z100 (N:Nat) (l:Lk) : z2a N l = some (z4v l) := by
  unfold z2a z4v
  cases l.2.1 == ([] : List UInt8) <;> rfl
theorem z11c (k:Nat) {t:List UInt8} {l:Lk} (hk : 600 <= k) (ht:t.length <= 30000) (hl:zb3 l) : zz (k + 100) t (z4v l) = some (z69 (k + 100) t l) := by
  have hp := z4o hl
  unfold z69
  exact z4t k hk ht (by omega) (by omega)
theorem zm5 (k:Nat) {key:List UInt8} {t:Tk} (hk : 600 <= k) (hl:key.length <= 30000) (hi:t.1.length <= 8000) (hn:t.2.1.length <= 100) (hs : ∀ l ∈ t.2.1,zb3 l) : z39 (k + 100) key t = some (z8e (k + 100) (zl (k + 100) key t.1) t.2.1) := by
  have hr : (zl (k + 100) key t.1).length = 32 := z36 k (key := key) (text := z11 (z2s t.1)) hk hl (by rw [z3z]; omega)
  unfold z39
  rw [show zz (k + 100) key [[114,111,111,116],t.1] = some (zl (k + 100) key t.1) from z4t k (l := z2s t.1) hk hl (by simp [z2s]) (by rw [z3z]; omega),Option.bind_some]
  unfold zc0
  generalize zl (k + 100) key t.1 = root at hr ⊢
  rw [z28 (I := fun (v:List UInt8 × List (List UInt8) × Int) => ∃ i : Nat,i <= t.2.1.length /\ v.2.2 = (i:Int) /\ v.1.length = 32 /\ v.2.1.length <= 200 + i) (m := fun v=>t.2.1.length - v.2.2.toNat) (R := fun v=>some (v.2.1 ++ (z8e (k + 100) v.1 (t.2.1.drop v.2.2.toNat)).tail)) ?_ (k + 100) (root,[root],0) ⟨0,by omega,rfl,hr,by dsimp only; rw [List.length_singleton]; omega⟩ (by dsimp only; omega)]
  . dsimp only
    rw [show (0 : Int).toNat = 0 from rfl,List.drop_zero]
    cases t.2.1 <;> rfl
  rintro ⟨u,out,z⟩ r ⟨i,hi2,e,hu,ho⟩ hr2
  dsimp only at e hu ho hr2 ⊢
  subst e
  rw [Int.toNat_natCast] at hr2 ⊢
  unfold z7h
  by_cases hlt : i < t.2.1.length
  . have hsm := hs _ (zoi t.2.1 ([],[],()) i hlt)
    have hp := z4o hsm
    have hnx := z5v k (t := u) hk (by omega) hsm
    rw [zg (z15 (by omega)),zg (z14 hlt),Int.toNat_natCast,z100,Option.bind_some,z11c k hk (by omega) hsm,Option.bind_some,zg (z15 (by omega)),z1n (by omega)]
    generalize hge : z69 (k + 100) u (t.2.1.getD i ([],[],())) = nx at hnx ⊢
    refine (hr2 (nx,out ++ [nx],((i + 1 : Nat) : Int)) ⟨i + 1,by omega,rfl,hnx,by simp; omega⟩ (by dsimp only; omega)).trans ?_
    dsimp only
    rw [Int.toNat_natCast,z1y t.2.1 ([],[],()) i hlt,List.append_assoc,z8e,hge]
    cases t.2.1.drop (i + 1) <;> rfl
  . rw [zu (z3n (by omega)),z60 t.2.1 (by omega)]; simp [z8e]
def z58 (N:Nat) : List UInt8 -> List Lk -> List (List UInt8)
  | _,[] => []
  | t,l :: ls=>z29 N t (z11 (z4v l)) ++ z58 N (z69 N t l) ls
def z32 (N:Nat) (key id:List UInt8) (ls:List Lk) : List (List UInt8) := z29 N key (z11 (z2s id)) ++ z58 N (zl N key id) ls
theorem z3t (N:Nat) : ∀ (ls:List Lk) (t:List UInt8),(z58 N t ls).length = 2 * ls.length
  | [],t=>rfl
  | l :: ls,t=>by rw [z58,List.length_append,z3t N ls,List.length_cons]; simp [z29]; omega
theorem zn3 (k:Nat) {key:List UInt8} {t:Tk} (hk : 600 <= k) (hl:key.length <= 30000) (hi:t.1.length <= 8000) (hn:t.2.1.length <= 100) (hs : ∀ l ∈ t.2.1,zb3 l) : z3f (k + 100) key t = some (z32 (k + 100) key t.1 t.2.1) := by
  have hr : (zl (k + 100) key t.1).length = 32 := z36 k (key := key) (text := z11 (z2s t.1)) hk hl (by rw [z3z]; omega)
  unfold z3f
  rw [zm5 k hk hl hi hn hs,Option.bind_some,show z1f (k + 100) [[114,111,111,116],t.1] = some (z11 (z2s t.1)) from zea k (l := z2s t.1) (by simp [z2s]) (by rw [z3z]; omega),Option.bind_some,zez k hk hl (by rw [z3z]; omega),Option.bind_some]
  unfold zar
  have htl := z3v (k + 100) t.2.1 (zl (k + 100) key t.1)
  have hT0 : (z29 (k + 100) key (z11 (z2s t.1))).length = 2 := by unfold z29; rfl
  unfold z32
  change (iter _ _ (z29 (k + 100) key (z11 (z2s t.1)),(0 : Int))) = _
  generalize z29 (k + 100) key (z11 (z2s t.1)) = T0 at hT0 ⊢
  generalize zl (k + 100) key t.1 = root at hr htl ⊢
  have hget : ∀ (ls:List Lk) (u:List UInt8) (i:Nat),i <= ls.length -> (z8e (k + 100) u ls).getD i [] = z6v (k + 100) u (ls.take i) := by
    intro ls
    induction ls with
    | nil => intro u i hi; have : i = 0 := by simpa using hi
             subst this; rfl
    | cons l ls ih =>
      intro u i hi
      cases i with
      | zero=>rw [z8e,List.getD_cons_zero,List.take_zero,zq1]
      | succ i=>rw [z8e,List.getD_cons_succ,List.take_succ_cons,zsh]; exact ih (z69 (k + 100) u l) i (by simpa using hi)
  rw [z28 (I := fun (v:List (List UInt8) × Int) => ∃ i : Nat,i <= t.2.1.length /\ v.2 = (i:Int) /\ v.1.length <= 300 + 2 * i) (m := fun v=>t.2.1.length - v.2.toNat) (R := fun v=>some (v.1 ++ z58 (k + 100) (z6v (k + 100) (root) (t.2.1.take v.2.toNat)) (t.2.1.drop v.2.toNat))) ?_ (k + 100) (T0,0) ⟨0,by omega,rfl,by dsimp only; omega⟩ (by dsimp only; omega)]
  . dsimp only
    rw [show (0 : Int).toNat = 0 from rfl,List.drop_zero]; rfl
  rintro ⟨out,z⟩ r ⟨i,hi2,e,ho⟩ hr2
  dsimp only at e ho hr2 ⊢
  subst e
  rw [Int.toNat_natCast] at hr2 ⊢
  unfold z6q
  by_cases hlt : i < t.2.1.length
  . have hsm := hs _ (zoi t.2.1 ([],[],()) i hlt)
    have hp := z4o hsm
    have hll := zab k hk (t.2.1.take i) (t := root) hr (fun l hl'=>hs l (List.mem_of_mem_take hl'))
    rw [zg (z15 (by omega)),zg (z14 (by omega)),zg (z14 hlt),Int.toNat_natCast,z100,Option.bind_some,zea k (by omega) (by omega),Option.bind_some,hget _ _ _ (by omega),zez k hk (by omega) (by omega),Option.bind_some,zg (z15 (by simp; omega)),z1n (by omega)]
    refine (hr2 (out ++ [z85 (k + 100) (z6v (k + 100) (root) (t.2.1.take i)) (z11 (z4v (t.2.1.getD i ([],[],())))),zaa (k + 100) (z6v (k + 100) (root) (t.2.1.take i)) (z11 (z4v (t.2.1.getD i ([],[],()))))],((i + 1 : Nat) : Int)) ⟨i + 1,by omega,rfl,by simp; omega⟩ (by dsimp only; omega)).trans ?_
    dsimp only
    rw [Int.toNat_natCast,z1y t.2.1 ([],[],()) i hlt,zk9 t.2.1 ([],[],()) i hlt,z11p,z58,List.append_assoc]
    rfl
  . rw [zu (z3n (by omega)),z60 t.2.1 (by omega)]; simp [z58]
theorem z152 {a b:List (List UInt8)} (ha : ∀ p ∈ a,p.length < 9223372036854775808) (hb : ∀ p ∈ b,p.length < 9223372036854775808) (h:z11 a = z11 b) : a = b := by
  have h1 := zf2 a ha
  have h2 := zf2 b hb
  rw [h] at h1
  exact Option.some.inj (h1.symm.trans h2)
theorem zvd {l:Lk} (h:zb3 l) : ∀ p ∈ z4v l,p.length < 9223372036854775808 := by
  unfold zb3 at h
  intro p hp
  unfold z4v at hp
  cases hc : l.2.1 == ([] : List UInt8) <;> rw [hc] at hp <;> simp at hp
  . rcases hp with rfl | rfl | rfl
    . simp
    . omega
    . omega
  . rcases hp with rfl | rfl
    . simp
    . omega
theorem z13u {l m:Lk} (h:z4v l = z4v m) : l = m := by
  obtain ⟨a,b,u⟩ := l
  obtain ⟨c,d,w⟩ := m
  unfold z4v at h
  dsimp only at h
  cases hb : b == ([] : List UInt8) <;> cases hd : d == ([] : List UInt8) <;> rw [hb,hd] at h <;> simp at h
  . obtain ⟨rfl,rfl⟩ := h; rfl
  . subst h
    rw [beq_iff_eq] at hb hd
    subst hb; subst hd; rfl
def Clashes (N:Nat) (A B:List (List UInt8)) : Prop := ∃ p ∈ A, ∃ q ∈ B,p ≠ q /\ zgs N p = zgs N q
theorem Clashes.mono {N:Nat} {A B A' B':List (List UInt8)} (hA : ∀ p ∈ A,p ∈ A') (hB : ∀ p ∈ B,p ∈ B') : Clashes N A B -> Clashes N A' B'
  | ⟨p,hp,q,hq,h⟩=>⟨p,hA p hp,q,hB q hq,h⟩
theorem zmw (k:Nat) {key id:List UInt8} {ls:List Lk} (hk : 600 <= k) (hl:key.length <= 30000) (hid:id.length <= 8000) (hs : ∀ l ∈ ls,zb3 l) : ∀ p ∈ z32 (k + 100) key id ls,p.length <= 30000 := by
  have one : ∀ (t s:List UInt8),t.length <= 30000 -> s.length <= 9000 -> ∀ p ∈ z29 (k + 100) t s,p.length <= 30000 := fun t s ht hs=>z9r k hk ht (by omega)
  have links : ∀ (ls:List Lk) (t:List UInt8),t.length = 32 -> (∀ l ∈ ls,zb3 l) -> ∀ p ∈ z58 (k + 100) t ls,p.length <= 30000 := by
    intro ls
    induction ls with
    | nil=>intro t _ _ p hp; cases hp
    | cons l ls ih =>
      intro t ht h p hp
      have hsm := h l (by simp)
      have := z4o hsm
      rw [z58,List.mem_append] at hp
      rcases hp with hp | hp
      . exact one t _ (by omega) (by omega) p hp
      . exact ih _ (z5v k hk (by omega) hsm) (fun x hx=>h x (by simp [hx])) p hp
  intro p hp
  unfold z32 at hp
  rw [List.mem_append] at hp
  rcases hp with hp | hp
  . exact one key _ hl (by rw [z3z]; omega) p hp
  . exact links ls _ (z36 k hk hl (by rw [z3z]; omega)) hs p hp
end
end Go.Proofs.YtkipbccgnekoaaaGreatDoorLg
set_option linter.all false
set_option maxRecDepth 100000
namespace Go.Proofs.YtkipbccgnekoaaaGreatDoorLg
noncomputable section
open Go Go.Lift Go.Proofs.YtkipbccgnekoaaaGreatDoorPx
theorem zu2 (N:Nat) {t:Tk} (h:t.2.1.length <= 1000) : z5x N t = some t := by
  obtain ⟨i,l,g,u⟩ := t
  cases u
  unfold z5x zbi
  rw [show decide (List.length (i,l,g,()).2.1 * 32 <= 140737488355328) = true from decide_eq_true (by simp only at h ⊢; omega)]
  rfl
def z10v (N:Nat) (t:Tk) (l:Lk) : Tk := (t.1,t.2.1 ++ [l],z69 N t.2.2.1 l,())
def z18 : Tk := ([],[],[],())
def z2e (N:Nat) (t:List UInt8) : List UInt8 := zrw N t (z11 [[115,101,97,108]])
def z93 (N:Nat) (t d:List UInt8) : List UInt8 := zrw N t (z11 [[98,105,110,100],d])
theorem zwb (k:Nat) {t:List UInt8} {l:Lk} (hk : 600 <= k) (ht:t.length <= 30000) (hl:zb3 l) : zew (k + 100) t l = some (z69 (k + 100) t l) := by
  rw [zew,z14c k hk ht hl]; rfl
theorem ze7 : (z11 [[115,101,97,108]]).length = 12 := by rw [z2x]; rfl
theorem zcv (d:List UInt8) : (z11 [[98,105,110,100],d]).length = 20 + d.length := by
  rw [z2x]; simp; omega
theorem z71 (k:Nat) {t:List UInt8} (hk : 600 <= k) (ht:t.length <= 30000) : (z2e (k + 100) t).length = 32 := z36 k hk ht (by rw [ze7]; omega)
theorem zhr (k:Nat) {t d:List UInt8} (hk : 600 <= k) (ht:t.length <= 30000) (hd:d.length <= 8000) : (z93 (k + 100) t d).length = 32 := z36 k hk ht (by rw [zcv]; omega)
theorem znm (k:Nat) {t:List UInt8} (hk : 600 <= k) (ht:t.length <= 30000) : zbj (k + 100) t = some (z2e (k + 100) t) := by
  rw [zbj,show z2n (k + 100) t [[115,101,97,108]] = some (z2e (k + 100) t) from zfa k (l := [[115,101,97,108]]) hk ht (by simp) (by rw [ze7]; omega)]
  rfl
theorem ztb (k:Nat) {t:List UInt8} (hk : 600 <= k) (ht:t.length <= 30000) : zz (k + 100) t [[115,101,97,108]] = some (z2e (k + 100) t) :=
  z4t k (l := [[115,101,97,108]]) hk ht (by simp) (by rw [ze7]; omega)
theorem znn (k:Nat) {t d:List UInt8} (hk : 600 <= k) (ht:t.length <= 30000) (hd:d.length <= 8000) : zbk (k + 100) t d = some (z93 (k + 100) t d) := by
  rw [zbk,show z2n (k + 100) t [[98,105,110,100],d] = some (z93 (k + 100) t d) from zfa k (l := [[98,105,110,100],d]) hk ht (by simp) (by rw [zcv]; omega)]
  rfl
theorem zxb (k:Nat) {t d:List UInt8} (hk : 600 <= k) (ht:t.length <= 30000) (hd:d.length <= 8000) : zz (k + 100) t [[98,105,110,100],d] = some (z93 (k + 100) t d) :=
  z4t k (l := [[98,105,110,100],d]) hk ht (by simp) (by rw [zcv]; omega)
theorem zzg (k:Nat) {t:Tk} {l:Lk} (hk : 600 <= k) (hn:t.2.1.length <= 100) (ht:t.2.2.1.length <= 30000) (hl:zb3 l) : z1u (k + 100) (l,(t,())) = some (z10v (k + 100) t l) := by
  rw [z1u,show (l,(t,())).2.1 = t from rfl,zu2 (k + 100) (by omega),Option.bind_some,zg (decide_eq_true (by omega)),zwb k hk ht hl]
  rfl
theorem z19d {N:Nat} {t:Tk} {text:List UInt8} :
    z3u N t text = (if 64 <= t.2.1.length \/ 2048 < text.length then some (z18,3,()) else (z1u N ((text,[],()),t,())).bind fun y2=>some (y2,0,())) := by
  simp only [z3u,zfn,zfm]
  by_cases h1 : 64 <= t.2.1.length
  . rw [if_pos (.inl h1),show decide ((64 : Int) <= ((t.2.1.length : Nat) : Int)) = true from decide_eq_true (by omega)]; rfl
  . rw [show decide ((64 : Int) <= ((t.2.1.length : Nat) : Int)) = false from decide_eq_false (by omega)]
    by_cases h2 : 2048 < text.length
    . rw [if_pos (.inr h2),show decide ((2048 : Int) < ((text.length : Nat) : Int)) = true from decide_eq_true (by omega)]; rfl
    . rw [if_neg (by omega),show decide ((2048 : Int) < ((text.length : Nat) : Int)) = false from decide_eq_false (by omega)]; rfl
theorem z10h (k:Nat) {t d:Tk} (hk : 600 <= k) (hn:d.2.1.length <= 1000) (ht:t.2.2.1.length <= 30000) (hd:d.2.2.1.length <= 8000) : z7u (k + 100) t d = some (d.1,d.2.1,z93 (k + 100) t.2.2.1 d.2.2.1,()) := by
  rw [z7u,zu2 (k + 100) hn,Option.bind_some,znn k hk ht hd]; rfl
theorem z1gi (k:Nat) {t:Tk} {text:List UInt8} (hk : 600 <= k) (hn:t.2.1.length < 64) (ht:t.2.2.1.length <= 30000) (hx:text.length <= 2048) : z3u (k + 100) t text = some (z10v (k + 100) t (text,[],()),0,()) := by
  have hs : zb3 (text,[],()) := ⟨by simp only; omega,by simp⟩
  rw [z19d,if_neg (by omega),zzg k hk (by omega) ht hs]; rfl
end
end Go.Proofs.YtkipbccgnekoaaaGreatDoorLg
set_option linter.all false
set_option maxRecDepth 100000
namespace Go.Proofs.YtkipbccgnekoaaaGreatDoorLg
noncomputable section
open Go Go.Lift Go.Proofs.YtkipbccgnekoaaaGreatDoorPx
abbrev zb2 : Type := Tk × List Tk × Unit
abbrev ItD : Type := Tk × List (List UInt8)
structure SV where
  used : List Bool
  items : List ItD
  texts : List (List UInt8)
  work : Nat
  summed : List (List UInt8)
theorem z84 {σ β γ : Type} {step : σ -> (σ -> Option β) -> Option β} (I : γ -> σ -> Prop) (m : σ -> Nat) (R : γ -> Option β)
    (h : ∀ g v r,I g v -> (∀ g' v',I g' v' -> m v' < m v -> r v' = R g') -> step v r = R g) : ∀ (n:Nat) (g : γ) (v : σ),I g v -> m v < n -> iter step n v = R g
  | 0,g,v,_,hm=>by omega
  | n + 1,g,v,hv,hm=>h g v (iter step n) hv fun g' v' hv' hlt=>z84 I m R h n g' v' hv' (by omega)
def zme (N:Nat) (key s:List UInt8) : Option (List UInt8) := if 48 <= s.length /\ s.length <= 4144 /\ z10k N key s = true then some (zkz N key s) else none
def zwn (N:Nat) (key s:List UInt8) : List (List UInt8) := if 48 <= s.length /\ s.length <= 4144 then z29 N key (z11 [[116,97,103]]) ++ z29 N (z1cp N key) (s.take (s.length - 32)) else []
def zal (id:List UInt8) : List Tk -> List Bool -> Nat -> Option Nat
  | t :: ts,u :: us,i=>if t.1 = id /\ u = false then some i else zal id ts us (i + 1)
  | _,_,_=>none
def z7x (N:Nat) (b:zb2) (st:SV) (before:List UInt8) (l:Lk) : SV × Bool :=
  let s1 : SV := { st with work := st.work + 1,summed := st.summed ++ (z29 N before (z11 [[115,101,97,108]]) ++ zwn N (z2e N before) l.2.1) }
  match zme N (z2e N before) l.2.1 with
  | none=>(s1,false)
  | some c=>match zal l.1 b.2.1 st.used 0 with
    | none=>(s1,false)
    | some a =>
      let d := b.2.1.getD a z18
      let tg := z8e N (zl N c d.1) d.2.1
      let last := z6v N (zl N c d.1) d.2.1
      let s2 : SV := { s1 with used := st.used.set a true,work := st.work + d.2.1.length + 3,summed := s1.summed ++ (z32 N c d.1 d.2.1 ++ z29 N b.1.2.2.1 (z11 [[98,105,110,100],last])) }
      if z93 N b.1.2.2.1 last = d.2.2.1 then ({ s2 with items := st.items ++ [(d,tg)] },true) else (s2,false)
def z31 (N:Nat) (b:zb2) : List Lk -> List (List UInt8) -> SV -> SV × Bool
  | [],_,st=>(st,true)
  | _ :: _,[],st=>(st,false)
  | l :: ls,g :: gs,st=>if l.2.1 = [] then z31 N b ls gs { st with texts := st.texts ++ [l.1] } else
    match z7x N b st g l with
    | (s,true)=>z31 N b ls gs s
    | (s,false)=>(s,false)
def z3w (N:Nat) (b:zb2) : Nat -> Nat -> SV -> SV × Bool
  | 0,_,st=>(st,false)
  | f + 1,i,st=>if i < st.items.length then
      match z31 N b (st.items.getD i (z18,[])).1.2.1 (st.items.getD i (z18,[])).2 st with
      | (s,true)=>z3w N b f (i + 1) s
      | (s,false)=>(s,false)
    else (st,true)
def zgq (ls:List Lk) : Nat := (ls.filter fun l => !(l.2.1 == [])).length
def zda (its:List ItD) : Nat := (its.map fun x=>zgq x.1.2.1).sum
def z1gp (t:Tk) : Nat := t.2.1.length + 2 + zgq t.2.1
def z17m : List Tk -> List Bool -> Nat
  | t :: ts,u :: us=>(if u then 0 else z1gp t) + z17m ts us
  | _,_=>0
def zul (us:List Bool) : Nat := (us.filter id).length
theorem zum (ls:List Lk) : zgq ls <= ls.length := List.length_filter_le ..
theorem zor (l:Lk) (ls:List Lk) : zgq (l :: ls) = (if l.2.1 = [] then 0 else 1) + zgq ls := by
  unfold zgq
  by_cases h : l.2.1 = []
  . simp [h]
  . simp [h]; omega
theorem zhb (a b:List ItD) : zda (a ++ b) = zda a + zda b := by simp [zda]
theorem zha (a:ItD) : zda [a] = zgq a.1.2.1 := by simp [zda]
theorem zi5 (id:List UInt8) : ∀ (ts:List Tk) (us:List Bool) (i a:Nat),zal id ts us i = some a -> i <= a /\ a - i < ts.length /\ a - i < us.length /\ (ts.getD (a - i) z18).1 = id /\ us.getD (a - i) true = false ∧
    z17m ts us = z17m ts (us.set (a - i) true) + z1gp (ts.getD (a - i) z18) /\ zul (us.set (a - i) true) = zul us + 1
  | [],us,i,a,h=>by simp [zal] at h
  | t :: ts,[],i,a,h=>by simp [zal] at h
  | t :: ts,u :: us,i,a,h=>by
    unfold zal at h
    split at h
    . rename_i hc
      cases h
      obtain ⟨h1,h2⟩ := hc
      subst h2
      rw [Nat.sub_self]
      refine ⟨Nat.le_refl _,by simp,by simp,h1,rfl, ?_, ?_⟩
      . simp [z17m]; omega
      . simp [zul]
    . obtain ⟨g1,g2,g3,g4,g5,g6,g7⟩ := zi5 id ts us (i + 1) a h
      have e : a - i = (a - (i + 1)) + 1 := by omega
      rw [e]
      refine ⟨by omega,by simp; omega,by simp; omega,by simpa using g4,by simpa using g5, ?_, ?_⟩
      . simp only [List.set_cons_succ,z17m,List.getD_cons_succ]; omega
      . simp only [List.set_cons_succ,zul,List.filter_cons] at g7 ⊢
        cases u <;> simp at g7 ⊢ <;> omega
theorem zhv (us:List Bool) : zul us <= us.length := List.length_filter_le ..
structure GoodT (t:Tk) : Prop where
  id : t.1.length <= 4200
  tag : t.2.2.1.length <= 100
  len : t.2.1.length <= 64
  links : ∀ l ∈ t.2.1,zb3 l
structure GoodB (b:zb2) : Prop where
  one : GoodT b.1
  more : ∀ t ∈ b.2.1,GoodT t
  len : b.2.1.length <= 8
def z19q (x:ItD) : Prop := GoodT x.1 /\ x.2.length = x.1.2.1.length + 1 /\ ∀ g ∈ x.2,g.length = 32
structure Inv (b:zb2) (C i:Nat) (ls:List Lk) (st:SV) : Prop where
  used : st.used.length = b.2.1.length
  items : ∀ x ∈ st.items,z19q x
  len : st.items.length <= zul st.used + 1
  texts : st.texts.length + ls.length <= 64 * (i + 1)
  summed : st.summed.length <= 200 * st.work + 200
  work : st.work + z17m b.2.1 st.used + zgq ls + zda (st.items.drop (i + 1)) <= C
theorem z5z {α : Type} (l:List α) (d : α) (i:Nat) (h:i < l.length) : l.getD i d ∈ l := by
  rw [List.getD_eq_getElem?_getD,List.getElem?_eq_getElem h]; simp
theorem zt3 (k:Nat) (hk : 600 <= k) : ∀ (ls:List Lk) {t:List UInt8},t.length = 32 -> (∀ l ∈ ls,zb3 l) -> ∀ g ∈ z8e (k + 100) t ls,g.length = 32
  | [],t,ht,_,g,hg=>by simp [z8e] at hg; rw [hg]; exact ht
  | l :: ls,t,ht,hs,g,hg=>by
    rw [z8e] at hg
    rcases List.mem_cons.1 hg with rfl | hg
    . exact ht
    . exact zt3 k hk ls (z5v k hk (by omega) (hs l List.mem_cons_self)) (fun x hx=>hs x (List.mem_cons_of_mem _ hx)) g hg
theorem zh5 (k:Nat) {key s c:List UInt8} (hk : 600 <= k) (hl:key.length <= 30000) (h:zme (k + 100) key s = some c) : c.length <= 4096 := by
  unfold zme at h
  split at h
  . rename_i hc
    cases h
    rw [zn7 k hk hl hc.1]; omega
  . cases h
theorem zp9 (k:Nat) {c id:List UInt8} (hk : 600 <= k) (hc:c.length <= 30000) (hi:id.length <= 8000) : (zl (k + 100) c id).length = 32 :=
  z36 k (key := c) (text := z11 (z2s id)) hk hc (by rw [z3z]; omega)
theorem zos (k:Nat) (hk : 600 <= k) {b:zb2} {C i:Nat} {l:Lk} {ls:List Lk} {st:SV} {before:List UInt8} (hb:GoodB b) (h:Inv b C i (l :: ls) st) (hi:i < st.items.length) (hl:l.2.1 ≠ []) (hbf:before.length = 32) :
    Inv b C i ls (z7x (k + 100) b st before l).1 := by
  have hw := h.work
  have htx := h.texts
  have hsm := h.summed
  rw [zor,if_neg hl] at hw
  simp only [List.length_cons] at htx
  have hsl : (z2e (k + 100) before).length = 32 := z71 k hk (by omega)
  have hS1 : (z29 (k + 100) before (z11 [[115,101,97,108]]) ++ zwn (k + 100) (z2e (k + 100) before) l.2.1).length <= 6 := by
    unfold zwn
    split <;> simp [z29]
  have base : Inv b C i ls { st with work := st.work + 1,summed := st.summed ++ (z29 (k + 100) before (z11 [[115,101,97,108]]) ++ zwn (k + 100) (z2e (k + 100) before) l.2.1) } :=
    ⟨h.used,h.items,h.len,by simp only; omega,by simp only; rw [List.length_append]; omega,by simp only; omega⟩
  unfold z7x
  simp only
  cases ho : zme (k + 100) (z2e (k + 100) before) l.2.1 with
  | none=>exact base
  | some c =>
    simp only
    have hc := zh5 k hk (by omega) ho
    cases hf : zal l.1 b.2.1 st.used 0 with
    | none=>exact base
    | some a =>
      simp only
      obtain ⟨_,g2,g3,g4,g5,g6,g7⟩ := zi5 _ _ _ _ _ hf
      rw [Nat.sub_zero] at g2 g3 g4 g5 g6 g7
      have hd := hb.more _ (z5z b.2.1 z18 a g2)
      generalize b.2.1.getD a z18 = d at *
      have hr := zp9 k (c := c) (id := d.1) hk (by omega) (by have := hd.id; omega)
      have hdl := hd.len
      have hS2 : (z32 (k + 100) c d.1 d.2.1 ++ z29 (k + 100) b.1.2.2.1 (z11 [[98,105,110,100],z6v (k + 100) (zl (k + 100) c d.1) d.2.1])).length = 2 * d.2.1.length + 4 := by
        unfold z32
        rw [List.length_append,List.length_append,z3t]
        simp [z29]; omega
      have hcost : z1gp d = d.2.1.length + 2 + zgq d.2.1 := rfl
      split
      . refine ⟨by simpa using h.used, ?_, ?_,by simp only; omega, ?_, ?_⟩
        . intro x hx
          rcases List.mem_append.1 hx with hx | hx
          . exact h.items x hx
          . rw [List.mem_singleton] at hx
            subst hx
            exact ⟨hd,z3v _ _ _,zt3 k hk _ hr hd.links⟩
        . simp only [List.length_append,List.length_cons,List.length_nil]
          have := h.len; omega
        . simp only [List.length_append] at hS1 hS2 ⊢; omega
        . simp only
          rw [List.drop_append_of_le_length (by omega),zhb,zha]
          simp only
          omega
      . refine ⟨by simpa using h.used,h.items, ?_,by simp only; omega, ?_, ?_⟩
        . simp only; rw [g7]; have := h.len; omega
        . simp only [List.length_append] at hS1 hS2 ⊢; omega
        . simp only
          omega
end
end Go.Proofs.YtkipbccgnekoaaaGreatDoorLg
set_option linter.all false
set_option maxRecDepth 100000
namespace Go.Proofs.YtkipbccgnekoaaaGreatDoorLg
noncomputable section
open Go Go.Lift Go.Proofs.YtkipbccgnekoaaaGreatDoorPx
abbrev VerD : Type := List Lk × (List (List UInt8) × Unit)
abbrev z16g : Type := zb2 × (List Bool × (List VerD × (List (List UInt8) × (Int × Unit))))
def zr6 (x:ItD) : VerD := (x.1.2.1,(x.2,()))
def zdl (b:zb2) (st:SV) : z16g := (b,(st.used,(st.items.map zr6,(st.texts,(((st.work : Nat) : Int),())))))
def unI : Option Nat -> Int
  | some a=>((a:Nat) : Int)
  | none => -1
theorem znp (k:Nat) {key s c:List UInt8} (hk : 4400 <= k) (hl:key.length <= 30000) (h:zme (k + 100) key s = some c) : z5o (k + 100) key s = some (c,0,()) /\ z1q (k + 100) key s = some (c,0,()) := by
  unfold zme at h
  split at h
  . rename_i hc
    cases h
    rw [zxh k hk hl hc.1 hc.2.1,zs5 k hk hl hc.1 hc.2.1,hc.2.2]
    exact ⟨rfl,rfl⟩
  . cases h
theorem znq (k:Nat) {key s:List UInt8} (hk : 4400 <= k) (hl:key.length <= 30000) (h:zme (k + 100) key s = none) : ∃ e : Int,e ≠ 0 /\ z5o (k + 100) key s = some ([],e,()) /\ z1q (k + 100) key s = some ([],e,()) := by
  unfold zme at h
  split at h
  . cases h
  . rename_i hc
    by_cases h1 : 48 <= s.length
    . by_cases h2 : s.length <= 4144
      . have hf : z10k (k + 100) key s = false := by
          cases hf : z10k (k + 100) key s with
          | false=>rfl
          | true=>exact absurd ⟨h1,h2,hf⟩ hc
        refine ⟨8,by decide, ?_, ?_⟩
        . rw [zxh k hk hl h1 h2,hf]; rfl
        . rw [zs5 k hk hl h1 h2,hf]; rfl
      . obtain ⟨a,b⟩ := z142 (k + 100) (key := key) (s := s) (by omega)
        exact ⟨3,by decide,a,b⟩
    . obtain ⟨a,b⟩ := z11i (k + 100) (key := key) (s := s) (by omega)
      exact ⟨1,by decide,a,b⟩
theorem z12s (N:Nat) {r:z16g} {id:List UInt8} (hu:r.2.1.length = r.1.2.1.length) (hl:r.1.2.1.length <= 100) (hN : 200 < N) :
    z4b N r id = some (unI (zal id r.1.2.1 r.2.1 0),(r,())) := by
  rw [z4b,zan]
  refine (z28 (fun v => ∃ i : Nat,v = (i:Int) /\ i <= r.1.2.1.length) (fun v=>r.1.2.1.length - v.toNat) (fun v=>some (unI (zal id (r.1.2.1.drop v.toNat) (r.2.1.drop v.toNat) v.toNat),(r,()))) ?_ N 0 ⟨0,rfl,by omega⟩ (by omega)).trans (by rfl)
  rintro v r' ⟨i,rfl,hi⟩ hr
  simp only [Int.toNat_natCast]
  rw [z6n]
  by_cases hlt : i < r.1.2.1.length
  . have hlt2 : i < r.2.1.length := by omega
    rw [zg (decide_eq_true (by omega)),zg (z14 hlt),z6o,Int.toNat_natCast,z1y r.1.2.1 z18 i hlt,z1y r.2.1 false i hlt2,zal]
    rw [show (([] : List UInt8),(([] : List ((List UInt8) × ((List UInt8) × Unit))),(([] : List UInt8),()))) = z18 from rfl,z1n (by omega),hr _ ⟨i + 1,rfl,by omega⟩ (by omega),Int.toNat_natCast]
    by_cases h1 : (r.1.2.1.getD i z18).1 = id
    . rw [zg (beq_iff_eq.2 h1),zg (z14 hlt2),zg (decide_eq_true hlt2)]
      cases hb : r.2.1.getD i false with
      | true=>rw [if_neg (by simp)]; rfl
      | false=>rw [if_pos ⟨h1,rfl⟩]; rfl
    . rw [zu (beq_eq_false_iff_ne.2 h1),if_neg (fun h=>h1 h.1)]; rfl
  . rw [zu (decide_eq_false (by omega)),z60 _ (by omega),zal]
    . rfl
    . simp
theorem zzv (k:Nat) (hk : 600 <= k) {r:z16g} {key:List UInt8} {t:Tk} {w:Nat} (hw:r.2.2.2.2.1 = ((w:Nat) : Int)) (hw2:w <= 1000000) (hl:key.length <= 30000) (ht:GoodT t) :
    z4c (k + 100) r key t = some ((z8e (k + 100) (zl (k + 100) key t.1) t.2.1,(z6v (k + 100) (zl (k + 100) key t.1) t.2.1,())),((r.1,(r.2.1,(r.2.2.1,(r.2.2.2.1,(((w + (t.2.1.length + 1) : Nat) : Int),r.2.2.2.2.2))))),())) := by
  have h1 := ht.id
  have h2 := ht.len
  rw [z4c,z1co k hk hl (by omega) (by omega) ht.links,Option.bind_some,z3v,z1o (x := (((t.2.1.length + 1 : Nat) : Nat) : Int) - 1) (by unfold I64; omega),show (((t.2.1.length + 1 : Nat) : Nat) : Int) - 1 = ((t.2.1.length : Nat) : Int) by omega,zg (z14 (by omega)),Int.toNat_natCast,zm0,hw,z1o (by unfold I64; omega)]
  congr 1
theorem z10s {tag bt:List UInt8} (h:bt.length = 32) : (decide (tag.length = 32) && (tag == bt)) = decide (bt = tag) := by
  by_cases e : bt = tag
  . subst e; simp [h]
  . rw [decide_eq_false e,beq_eq_false_iff_ne.2 (Ne.symm e),Bool.and_false]
theorem z174 (k:Nat) (hk : 4400 <= k) {b:zb2} {C i:Nat} {l:Lk} {ls:List Lk} {st:SV} {before:List UInt8} (hb:GoodB b) (h:Inv b C i (l :: ls) st) (hC:C <= 100000) (hbf:before.length = 32) :
    z52 (k + 100) (zdl b st) before l = some ((z7x (k + 100) b st before l).2,(zdl b (z7x (k + 100) b st before l).1,())) := by
  have hwk := h.work
  have hsl : (z2e (k + 100) before).length = 32 := z71 k (by omega) (by omega)
  obtain ⟨used,items,texts,work,summed⟩ := st
  have hu : used.length = b.2.1.length := h.used
  have hb8 := hb.len
  simp only at hwk
  have hw1 : IntKind.wrap .i64 (((work:Nat) : Int) + 1) = ((work + 1 : Nat) : Int) := by rw [z1o (by unfold I64; omega)]; omega
  rw [z52,znm k (by omega) (by omega),Option.bind_some]
  unfold z7x zdl
  simp only
  rw [hw1]
  cases ho : zme (k + 100) (z2e (k + 100) before) l.2.1 with
  | none =>
    obtain ⟨e,he,hbx,_⟩ := znq k hk (by omega) ho
    rw [hbx,Option.bind_some,zg (bne_iff_ne.2 he)]
  | some c =>
    have hc := zh5 k (by omega) (by omega) ho
    rw [(znp k hk (by omega) ho).1,Option.bind_some,zu (by rfl)]
    simp only
    rw [z12s (k + 100) (r := (b,(used,(items.map zr6,(texts,(((work + 1 : Nat) : Int),())))))) hu (by simp only; omega) (by omega),Option.bind_some]
    simp only
    cases hf : zal l.1 b.2.1 used 0 with
    | none =>
      rw [zg (by rfl)]
    | some a =>
      obtain ⟨_,g2,g3,g4,g5,g6,g7⟩ := zi5 _ _ _ _ _ hf
      rw [Nat.sub_zero] at g2 g3
      have hd := hb.more _ (z5z b.2.1 z18 a g2)
      have hd1 := hd.tag
      have hd2 := hd.len
      have hd3 := hd.id
      have hbt := hb.one.tag
      have hr := zp9 k (c := c) (id := (b.2.1.getD a z18).1) (by omega) (by omega) (by omega)
      have hlast : (z6v (k + 100) (zl (k + 100) c (b.2.1.getD a z18).1) (b.2.1.getD a z18).2.1).length = 32 := zab k (by omega) _ hr hd.links
      have hbn : (z93 (k + 100) b.1.2.2.1 (z6v (k + 100) (zl (k + 100) c (b.2.1.getD a z18).1) (b.2.1.getD a z18).2.1)).length = 32 := zhr k (by omega) (by omega) (by omega)
      rw [show unI (some a) = ((a:Nat) : Int) from rfl,zu (decide_eq_false (by omega)),zg (z14 g2),zg (z14 g3),Int.toNat_natCast,zg (decide_eq_true g3)]
      rw [show (([] : List UInt8),(([] : List ((List UInt8) × ((List UInt8) × Unit))),(([] : List UInt8),()))) = z18 from rfl]
      rw [zzv k (by omega) (w := work + 1) rfl (by omega) (by omega) hd,Option.bind_some]
      simp only
      rw [znn k (by omega) (by omega) (by omega),Option.bind_some,zx3 (k + 100) (by omega) (by omega),Option.bind_some,z10s hbn]
      have hw2 : IntKind.wrap .i64 (((work + 1 + ((b.2.1.getD a z18).2.1.length + 1) : Nat) : Int) + 1) = ((work + (b.2.1.getD a z18).2.1.length + 3 : Nat) : Int) := by rw [z1o (by unfold I64; omega)]; omega
      rw [hw2]
      have hil : items.length <= 9 := by
        have h1 : items.length <= zul used + 1 := h.len
        have h2 := zhv used
        omega
      by_cases he : z93 (k + 100) b.1.2.2.1 (z6v (k + 100) (zl (k + 100) c (b.2.1.getD a z18).1) (b.2.1.getD a z18).2.1) = (b.2.1.getD a z18).2.2.1
      . rw [decide_eq_true he,Bool.not_true,cond_false,zg (decide_eq_true (by rw [List.length_map]; omega)),if_pos he,List.map_append]
        rfl
      . rw [decide_eq_false he,Bool.not_false,cond_true,if_neg he]
end
end Go.Proofs.YtkipbccgnekoaaaGreatDoorLg
set_option linter.all false
set_option maxRecDepth 100000
namespace Go.Proofs.YtkipbccgnekoaaaGreatDoorLg
noncomputable section
open Go Go.Lift Go.Proofs.YtkipbccgnekoaaaGreatDoorPx
theorem zj4 (N:Nat) (b:zb2) (st:SV) (before:List UInt8) (l:Lk) : st.items.length <= (z7x N b st before l).1.items.length := by
  unfold z7x
  simp only
  split
  . exact Nat.le_refl _
  . split
    . exact Nat.le_refl _
    . split
      . simp
      . exact Nat.le_refl _
theorem zxf {b:zb2} {C i:Nat} {l:Lk} {ls:List Lk} {st:SV} (h:Inv b C i (l :: ls) st) (hl:l.2.1 = []) : Inv b C i ls { st with texts := st.texts ++ [l.1] } := by
  have h1 := h.texts
  have h2 := h.work
  rw [zor,if_pos hl] at h2
  refine ⟨h.used,h.items,h.len, ?_,h.summed,by simp only; omega⟩
  simp only [List.length_append,List.length_cons,List.length_nil] at h1 ⊢
  omega
theorem zhc (k:Nat) (hk : 600 <= k) {b:zb2} {C i:Nat} (hb:GoodB b) : ∀ (ls:List Lk) (gs:List (List UInt8)) (st:SV),Inv b C i ls st -> i < st.items.length -> (∀ g ∈ gs,g.length = 32) →
    (z31 (k + 100) b ls gs st).1.work <= C /\ (z31 (k + 100) b ls gs st).1.used.length = b.2.1.length /\ (z31 (k + 100) b ls gs st).1.summed.length <= 200 * C + 200 /\ ((z31 (k + 100) b ls gs st).2 = true -> Inv b C i [] (z31 (k + 100) b ls gs st).1 /\ i < (z31 (k + 100) b ls gs st).1.items.length)
  | [],gs,st,h,hi,_=>by
    unfold z31
    have hw := h.work
    have hs := h.summed
    exact ⟨by simp only; omega,h.used,by simp only; omega,fun _=>⟨h,hi⟩⟩
  | l :: ls,[],st,h,hi,_=>by
    unfold z31
    have hw := h.work
    have hs := h.summed
    exact ⟨by simp only; omega,h.used,by simp only; omega,fun e=>by cases e⟩
  | l :: ls,g :: gs,st,h,hi,hg=>by
    unfold z31
    by_cases hl : l.2.1 = []
    . rw [if_pos hl]
      exact zhc k hk hb ls gs _ (zxf h hl) hi (fun x hx=>hg x (List.mem_cons_of_mem _ hx))
    . rw [if_neg hl]
      have h1 := zos k hk hb h hi hl (hg g List.mem_cons_self)
      have h2 := zj4 (k + 100) b st g l
      have hw := h1.work
      have hs := h1.summed
      generalize z7x (k + 100) b st g l = T at *
      obtain ⟨s,ok⟩ := T
      cases ok with
      | true=>exact zhc k hk hb ls gs s h1 (Nat.lt_of_lt_of_le hi h2) (fun x hx=>hg x (List.mem_cons_of_mem _ hx))
      | false =>
        simp only at hw hs ⊢
        exact ⟨by omega,h1.used,by omega,fun e=>by cases e⟩
structure OInv (b:zb2) (C i:Nat) (st:SV) : Prop where
  used : st.used.length = b.2.1.length
  items : ∀ x ∈ st.items,z19q x
  len : st.items.length <= zul st.used + 1
  texts : st.texts.length <= 64 * i
  summed : st.summed.length <= 200 * st.work + 200
  work : st.work + z17m b.2.1 st.used + zda (st.items.drop i) <= C
theorem OInv.enter {b:zb2} {C i:Nat} {st:SV} (h:OInv b C i st) (hi:i < st.items.length) : Inv b C i (st.items.getD i (z18,[])).1.2.1 st := by
  have hx := h.items _ (z5z st.items (z18,[]) i hi)
  have hw := h.work
  have ht := h.texts
  have hl := hx.1.len
  rw [z1y st.items (z18,[]) i hi,show ((st.items.getD i (z18,[])) :: st.items.drop (i + 1)) = [st.items.getD i (z18,[])] ++ st.items.drop (i + 1) from rfl,zhb,zha] at hw
  exact ⟨h.used,h.items,h.len,by omega,h.summed,by omega⟩
theorem Inv.leave {b:zb2} {C i:Nat} {st:SV} (h:Inv b C i [] st) : OInv b C (i + 1) st := by
  have hw := h.work
  have ht := h.texts
  exact ⟨h.used,h.items,h.len,by simpa using ht,h.summed,by simp only [zgq,List.filter_nil,List.length_nil] at hw; omega⟩
theorem zps (k:Nat) (hk : 600 <= k) {b:zb2} {C:Nat} (hb:GoodB b) : ∀ (f i:Nat) (st:SV),OInv b C i st →
    (z3w (k + 100) b f i st).1.work <= C /\ (z3w (k + 100) b f i st).1.used.length = b.2.1.length /\ (z3w (k + 100) b f i st).1.summed.length <= 200 * C + 200
  | 0,i,st,h=>by
    have hw := h.work
    have hs := h.summed
    exact ⟨by simp only [z3w]; omega,h.used,by simp only [z3w]; omega⟩
  | f + 1,i,st,h=>by
    unfold z3w
    split
    . rename_i hi
      have hx := h.items _ (z5z st.items (z18,[]) i hi)
      have hf := zhc k hk hb _ (st.items.getD i (z18,[])).2 st (h.enter hi) hi hx.2.2
      generalize z31 (k + 100) b (st.items.getD i (z18,[])).1.2.1 (st.items.getD i (z18,[])).2 st = T at *
      obtain ⟨s,ok⟩ := T
      cases ok with
      | true=>exact zps k hk hb f (i + 1) s (hf.2.2.2 rfl).1.leave
      | false=>exact ⟨hf.1,hf.2.1,hf.2.2.1⟩
    . have hw := h.work
      have hs := h.summed
      exact ⟨by simp only; omega,h.used,by simp only; omega⟩
theorem z1d4 (l:Lk) : eqD (T.pair T.str (T.pair T.str T.unit)) l (l.1,(([] : List UInt8),())) = decide (l.2.1 = []) := by
  obtain ⟨a,c,u⟩ := l
  cases u
  rw [Bool.eq_iff_iff,decide_eq_true_eq,ztw _ _ _ rfl]
  simp
theorem z18j (k:Nat) (hk : 4400 <= k) {b:zb2} {C i:Nat} (hb:GoodB b) (hC:C <= 100000) (hi9:i <= 20) {complete:Bool} {i0:Int} {x:ItD} (hx:z19q x) {st0:SV} (h0:Inv b C i x.1.2.1 st0) (hi0:i < st0.items.length)
    (k0:z16g -> Bool -> Option (Int × (z16g × Unit))) (k1:z16g -> Option (Int × (z16g × Unit))) :
    z45 (k + 100) (zdl b st0) complete i0 (zr6 x) (zr6 x).1 (((zr6 x).1.length : Nat) : Int) 0 k0 k1 = match z31 (k + 100) b x.1.2.1 x.2 st0 with | (s,true)=>k1 (zdl b s) | (s,false)=>k0 (zdl b s) false := by
  have hxl := hx.1.len
  have hxt := hx.2.1
  have hxl' := hx.1.links
  show z45 (k + 100) (zdl b st0) complete i0 (zr6 x) x.1.2.1 ((x.1.2.1.length : Nat) : Int) 0 k0 k1 = _
  rw [z45]
  refine (z84 (γ := List Lk × List (List UInt8) × SV) (fun g v => ∃ j : Nat,v = (zdl b g.2.2,(j:Int)) /\ j <= x.1.2.1.length /\ g.1 = x.1.2.1.drop j /\ g.2.1 = x.2.drop j /\ Inv b C i g.1 g.2.2 /\ i < g.2.2.items.length)
    (fun v=>x.1.2.1.length - v.2.toNat) (fun g=>match z31 (k + 100) b g.1 g.2.1 g.2.2 with | (s,true)=>k1 (zdl b s) | (s,false)=>k0 (zdl b s) false) ?_ (k + 100) (x.1.2.1,x.2,st0) (zdl b st0,0) ⟨0,rfl,by omega,rfl,rfl,h0,hi0⟩ (by simp only; omega))
  rintro ⟨ls,gs,st⟩ v r ⟨j,rfl,hj,e1,e2,hinv,hi⟩ hr
  simp only at e1 e2 hinv hi
  subst e1 e2
  simp only [Int.toNat_natCast]
  rw [z6i]
  by_cases hlt : j < x.1.2.1.length
  . have hlt2 : j < x.2.length := by omega
    have hg32 := hx.2.2 _ (z5z x.2 [] j hlt2)
    have hlk := hxl' _ (z5z x.1.2.1 ([],[],()) j hlt)
    rw [z1y x.1.2.1 ([],[],()) j hlt] at hinv ⊢
    rw [z1y x.2 [] j hlt2,z31]
    rw [zg (decide_eq_true (by omega)),zg (z14 hlt),Int.toNat_natCast,z1d4,z1n (by omega)]
    by_cases hl : (x.1.2.1.getD j ([],[],())).2.1 = []
    . have htx := hinv.texts
      simp only [List.length_cons] at htx
      rw [decide_eq_true hl,cond_true,zg (decide_eq_true (by show (st.texts.length + 1) * 16 <= _; omega)),if_pos hl]
      exact hr (x.1.2.1.drop (j + 1),x.2.drop (j + 1),_) _ ⟨j + 1,rfl,by omega,rfl,rfl,zxf hinv hl,hi⟩ (by simp only; omega)
    . rw [decide_eq_false hl,cond_false,show (zr6 x).2.1 = x.2 from rfl,zg (z14 hlt2),z174 k hk hb hinv hC hg32,Option.bind_some,if_neg hl]
      have h1 := zos k (by omega) hb hinv hi hl hg32
      have h2 := zj4 (k + 100) b st (x.2.getD j []) (x.1.2.1.getD j ([],[],()))
      generalize z7x (k + 100) b st (x.2.getD j []) (x.1.2.1.getD j ([],[],())) = T at *
      obtain ⟨s,ok⟩ := T
      cases ok with
      | true =>
        rw [Bool.not_true,cond_false]
        exact hr (x.1.2.1.drop (j + 1),x.2.drop (j + 1),s) _ ⟨j + 1,rfl,by omega,rfl,rfl,h1,Nat.lt_of_lt_of_le hi h2⟩ (by simp only; omega)
      | false=>rfl
  . rw [zu (decide_eq_false (by omega)),z60 _ (by omega),z31]
theorem z17q (k:Nat) (hk : 4400 <= k) {b:zb2} {C:Nat} (hb:GoodB b) (hC:C <= 100000) {complete:Bool} {st0:SV} (h0:OInv b C 0 st0) (hc:complete = true)
    (k0:z16g -> Bool -> Option (Int × (z16g × Unit))) :
    z6l (k + 100) (zdl b st0) complete 0 k0 = k0 (zdl b (z3w (k + 100) b 20 0 st0).1) (z3w (k + 100) b 20 0 st0).2 := by
  subst hc
  rw [z6l]
  refine (z84 (γ := Nat × SV) (fun g v=>v = (zdl b g.2,((g.1 : Nat) : Int)) /\ g.1 <= 9 /\ OInv b C g.1 g.2) (fun v=>10 - v.2.toNat) (fun g=>k0 (zdl b (z3w (k + 100) b (20 - g.1) g.1 g.2).1) (z3w (k + 100) b (20 - g.1) g.1 g.2).2) ?_ (k + 100) (0,st0) (zdl b st0,0) ⟨rfl,by omega,h0⟩ (by simp only; omega))
  rintro ⟨i,st⟩ v r ⟨rfl,hi9,hinv⟩ hr
  simp only at hi9 hinv
  simp only
  rw [z6j]
  have hb8 := hb.len
  have hln := hinv.len
  have hun := zhv st.used
  have hul := hinv.used
  have hlm : (zdl b st).2.2.1.length = st.items.length := by show (st.items.map zr6).length = _; rw [List.length_map]
  obtain ⟨f,hf⟩ : ∃ f,20 - i = f + 1 := ⟨19 - i,by omega⟩
  rw [hf,z3w,hlm]
  by_cases hlt : i < st.items.length
  . have hgd : (zdl b st).2.2.1.getD i (([] : List ((List UInt8) × ((List UInt8) × Unit))),(([] : List (List UInt8)),())) = zr6 (st.items.getD i (z18,[])) := by
      show (st.items.map zr6).getD i _ = _
      simp only [List.getD_eq_getElem?_getD,List.getElem?_map,List.getElem?_eq_getElem hlt]
      rfl
    have hx := hinv.items _ (z5z st.items (z18,[]) i hlt)
    rw [zg (decide_eq_true (by omega)),zg (z14 hlt),Int.toNat_natCast,zg (decide_eq_true hlt),hgd,if_pos hlt]
    rw [z18j k hk hb hC (by omega) hx (hinv.enter hlt) hlt]
    have hfin := zhc k (by omega) hb _ (st.items.getD i (z18,[])).2 st (hinv.enter hlt) hlt hx.2.2
    generalize z31 (k + 100) b (st.items.getD i (z18,[])).1.2.1 (st.items.getD i (z18,[])).2 st = T at *
    obtain ⟨s,ok⟩ := T
    cases ok with
    | true =>
      simp only
      obtain ⟨h1,h2⟩ := hfin.2.2.2 rfl
      simp only at h1 h2
      have hl1 := h1.len
      have hl2 := zhv s.used
      have hl3 := h1.used
      rw [z1n (by omega),hr (i + 1,s) _ ⟨rfl,by simp only; omega,h1.leave⟩ (by simp only; omega)]
      simp only
      rw [show 20 - (i + 1) = f by omega]
    | false=>rfl
  . rw [zu (decide_eq_false (by omega)),if_neg hlt]
def z1gh (v:Bool) : List Bool -> Nat -> Int
  | [],_ => -1
  | x :: l,i=>if v = x then (i:Int) else z1gh v l (i + 1)
theorem z10g (v:Bool) : ∀ (l:List Bool) (i:Nat),decide (0 <= z1gh v l i) = l.contains v
  | [],i=>rfl
  | x :: l,i=>by
    unfold z1gh
    rw [List.contains_cons]
    by_cases h : v = x
    . rw [if_pos h,h,beq_self_eq_true,Bool.true_or,decide_eq_true (by omega)]
    . rw [if_neg h,z10g v l (i + 1),beq_eq_false_iff_ne.2 h,Bool.false_or]
theorem zy6 (N:Nat) {s:List Bool} {v:Bool} (hs:s.length <= 1000) (hN : 1000 < N) : z24 N s v = some (s.contains v) := by
  have hi : z2r N s v = some (z1gh v s 0) := by
    rw [z2r,z6z]
    refine (z28 (fun w => ∃ i : Nat,w = (i:Int) /\ i <= s.length) (fun w=>s.length - w.toNat) (fun w=>some (z1gh v (s.drop w.toNat) w.toNat)) ?_ N 0 ⟨0,rfl,by omega⟩ (by omega)).trans (by rfl)
    rintro w r ⟨i,rfl,hi⟩ hr
    simp only [Int.toNat_natCast]
    rw [z3y]
    by_cases hlt : i < s.length
    . rw [zg (decide_eq_true (by omega)),zg (z14 hlt),Int.toNat_natCast,z1y s false i hlt,z1gh,z1n (by omega),hr _ ⟨i + 1,rfl,by omega⟩ (by omega),Int.toNat_natCast]
      by_cases h : v = s.getD i false
      . rw [zg (beq_iff_eq.2 h),if_pos h]
      . rw [zu (beq_eq_false_iff_ne.2 h),if_neg h]
    . rw [zu (decide_eq_false (by omega)),z60 _ (by omega),z1gh]
  rw [z24,hi,Option.bind_some,z10g]
def stA (N:Nat) (key:List UInt8) (b:zb2) : SV := { used := List.replicate b.2.1.length false,items := [],texts := [],work := b.1.2.1.length + 1,summed := z32 N key b.1.1 b.1.2.1 }
def stB (N:Nat) (key:List UInt8) (b:zb2) : SV := { stA N key b with items := [(b.1,z8e N (zl N key b.1.1) b.1.2.1)] }
def zd5 (N:Nat) (key:List UInt8) (b:zb2) : SV × Int :=
 if z6v N (zl N key b.1.1) b.1.2.1 = b.1.2.2.1 then
 ((z3w N b 20 0 (stB N key b)).1,if (z3w N b 20 0 (stB N key b)).2 = true /\ (z3w N b 20 0 (stB N key b)).1.used.contains false = false then 0 else 11)
 else (stA N key b,8)
def z17t (b:zb2) : Nat := (b.1.2.1.length + 1) + zgq b.1.2.1 + (b.2.1.map z1gp).sum
theorem z102 : ∀ ts : List Tk,z17m ts (List.replicate ts.length false) = (ts.map z1gp).sum
  | []=>rfl
  | t :: ts=>by
    rw [List.length_cons,List.replicate_succ,z17m,z102 ts]
    simp
theorem z133 (k:Nat) (hk : 600 <= k) {key:List UInt8} {b:zb2} (hb:GoodB b) (hl:key.length <= 30000) : OInv b (z17t b) 0 (stB (k + 100) key b) := by
  have hr := zp9 k (c := key) (id := b.1.1) hk hl (by have := hb.one.id; omega)
  refine ⟨by simp [stB,stA], ?_,by simp [stB,stA],by simp [stB,stA], ?_, ?_⟩
  . intro x hx
    simp only [stB,List.mem_singleton] at hx
    subst hx
    exact ⟨hb.one,z3v _ _ _,zt3 k hk _ hr hb.one.links⟩
  . simp only [stB,stA,z32]
    rw [List.length_append,z3t]
    simp [z29]; omega
  . simp only [stB,stA,List.drop_zero]
    rw [z102,zha]
    unfold z17t
    simp only
    omega
theorem z10p : ∀ ts : List Tk,(∀ t ∈ ts,GoodT t) -> (ts.map z1gp).sum <= 130 * ts.length
  | [],_=>by simp
  | t :: ts,h=>by
    have h1 := z10p ts fun x hx=>h x (List.mem_cons_of_mem _ hx)
    have h2 := (h t List.mem_cons_self).len
    have h3 := zum t.2.1
    simp only [List.map_cons,List.sum_cons,List.length_cons]
    unfold z1gp at *
    omega
theorem z106 {b:zb2} (hb:GoodB b) : z17t b <= 2000 := by
  have h1 := z10p b.2.1 hb.more
  have h2 := hb.len
  have h3 := hb.one.len
  have h4 := zum b.1.2.1
  unfold z17t
  omega
theorem zws (k:Nat) (hk : 4400 <= k) {key:List UInt8} {b:zb2} (hb:GoodB b) (hl:key.length <= 30000) :
    (z4r (k + 100) b).bind (fun y1=>z3e (k + 100) y1 key) = some ((zd5 (k + 100) key b).2,(zdl b (zd5 (k + 100) key b).1,())) := by
  have hb8 := hb.len
  have hb1 := hb.one.tag
  have hln := hb.one.len
  have hid := hb.one.id
  have hr := zp9 k (c := key) (id := b.1.1) (by omega) hl (by omega)
  have hlast : (z6v (k + 100) (zl (k + 100) key b.1.1) b.1.2.1).length = 32 := zab k (by omega) _ hr hb.one.links
  have hO := z133 k (by omega) hb hl
  have hM := z106 hb
  rw [z4r,zg (decide_eq_true ⟨by omega,by omega,by omega,by omega⟩),Option.bind_some,Int.toNat_natCast]
  rw [z3e,zzv k (by omega) (r := (b,((List.replicate b.2.1.length false),(([] : List VerD),(([] : List (List UInt8)),((0 : Int),())))))) (w := 0) rfl (by omega) hl hb.one,Option.bind_some]
  simp only
  rw [zx3 (k + 100) (by omega) (by omega),Option.bind_some,z10s hlast]
  unfold zd5
  by_cases he : z6v (k + 100) (zl (k + 100) key b.1.1) b.1.2.1 = b.1.2.2.1
  . rw [decide_eq_true he,Bool.not_true,cond_false,if_pos he]
    have e : ((b,(List.replicate b.2.1.length false,([((b.1.2.1,(z8e (k + 100) (zl (k + 100) key b.1.1) b.1.2.1,())) : VerD)],(([] : List (List UInt8)),(((b.1.2.1.length + 1 : Nat) : Int),()))))) : z16g) = zdl b (stB (k + 100) key b) := rfl
    rw [Nat.zero_add,e]
    rw [z6m,z17q k hk hb (by omega) hO rfl]
    have hfin := zps k (by omega) hb 20 0 _ hO
    generalize z3w (k + 100) b 20 0 (stB (k + 100) key b) = T at *
    obtain ⟨s,ok⟩ := T
    simp only at hfin ⊢
    rw [z6k]
    cases ok with
    | false =>
      rw [Bool.not_false,cond_true,cond_true,if_neg (by simp)]
    | true =>
      rw [Bool.not_true,cond_false,show (zdl b s).2.1 = s.used from rfl,zy6 (k + 100) (by omega) (by omega),Option.bind_some]
      cases hcn : s.used.contains false with
      | true=>rw [if_neg (by simp)]; rfl
      | false=>rw [if_pos ⟨rfl,rfl⟩]; rfl
  . rw [decide_eq_false he,Bool.not_false,cond_true,if_neg he,Nat.zero_add]
    rfl
end
end Go.Proofs.YtkipbccgnekoaaaGreatDoorLg
set_option linter.all false
set_option maxRecDepth 100000
namespace Go.Proofs.YtkipbccgnekoaaaGreatDoorLg
noncomputable section
open Go Go.Lift Go.Proofs.YtkipbccgnekoaaaGreatDoorPx
def zrf (t:Tk) : Bool := decide (64 < t.2.1.length)
def z1gg : List Tk -> Nat -> Int
  | [],_ => -1
  | x :: l,i=>if zrf x then (i:Int) else z1gg l (i + 1)
theorem z10f : ∀ (l:List Tk) (i:Nat),decide (0 <= z1gg l i) = l.any zrf
  | [],i=>rfl
  | x :: l,i=>by
    unfold z1gg
    rw [List.any_cons]
    cases h : zrf x with
    | true=>rw [if_pos rfl,Bool.true_or,decide_eq_true (by omega)]
    | false=>rw [if_neg (by simp),z10f l (i + 1),Bool.false_or]
theorem zrm (N:Nat) {s:List Tk} (hs:s.length <= 1000) (hN : 1000 < N) : zcs N s = some (s.any zrf) := by
  have hi : zl5 N s = some (z1gg s 0) := by
    rw [zl5,zq6]
    refine (z28 (fun w => ∃ i : Nat,w = (i:Int) /\ i <= s.length) (fun w=>s.length - w.toNat) (fun w=>some (z1gg (s.drop w.toNat) w.toNat)) ?_ N 0 ⟨0,rfl,by omega⟩ (by omega)).trans (by rfl)
    rintro w r ⟨i,rfl,hi⟩ hr
    simp only [Int.toNat_natCast]
    rw [zjw]
    by_cases hlt : i < s.length
    . rw [zg (decide_eq_true (by omega)),zg (z14 hlt),Int.toNat_natCast,z1y s z18 i hlt,z1gg,z1n (by omega),hr _ ⟨i + 1,rfl,by omega⟩ (by omega),Int.toNat_natCast]
      rw [show (([] : List UInt8),(([] : List ((List UInt8) × ((List UInt8) × Unit))),(([] : List UInt8),()))) = z18 from rfl,zrf]
      by_cases h : 64 < (s.getD i z18).2.1.length
      . rw [zg (decide_eq_true (by omega)),decide_eq_true h,if_pos rfl]
      . rw [zu (decide_eq_false (by omega)),decide_eq_false h,if_neg (by simp)]
    . rw [zu (decide_eq_false (by omega)),z60 _ (by omega),z1gg]
  rw [zcs,hi,Option.bind_some,z10f]
def zlx (b:zb2) : Bool := decide (b.2.1.length <= 8) && !((b.1 :: b.2.1).any zrf)
theorem z12v (N:Nat) {b:zb2} (hb:b.2.1.length <= 1000) : z8c N b = some (b.1 :: b.2.1) := by
  rw [z8c,zg (decide_eq_true (by omega))]; rfl
theorem zwq (N:Nat) (hN : 1000 < N) (b:zb2) : z63 N b = some (zlx b) := by
  rw [z63,zlx]
  by_cases h : b.2.1.length <= 8
  . rw [zu (decide_eq_false (by omega)),z12v N (by omega),Option.bind_some,zrm N (by simp only [List.length_cons]; omega) hN,Option.bind_some,decide_eq_true h,Bool.true_and]
  . rw [zg (decide_eq_true (by omega)),decide_eq_false h,Bool.false_and]
theorem zrs (k:Nat) (hk : 4400 <= k) {key:List UInt8} {b:zb2} (hb:GoodB b) (hl:key.length <= 30000) (h:zlx b = true) :
    z2v (k + 100) key b = some (if (zd5 (k + 100) key b).2 = 0 then (zd5 (k + 100) key b).1.texts else [],(zd5 (k + 100) key b).2,()) /\ zop (k + 100) key b = some (((zd5 (k + 100) key b).1.work : Nat) : Int) := by
  have hv := zws k hk hb hl
  rw [z2v,zop,zwq _ (by omega),h,Option.bind_some,Option.bind_some,Bool.not_true,cond_false,cond_false]
  cases hr : z4r (k + 100) b with
  | none=>rw [hr] at hv; cases hv
  | some r =>
    rw [hr,Option.bind_some] at hv
    rw [Option.bind_some,Option.bind_some,hv,Option.bind_some,Option.bind_some]
    refine ⟨?_,rfl⟩
    by_cases h0 : (zd5 (k + 100) key b).2 = 0
    . rw [zu (by rw [h0]; rfl),if_pos h0,h0]; rfl
    . rw [zg (bne_iff_ne.2 h0),if_neg h0]
end
end Go.Proofs.YtkipbccgnekoaaaGreatDoorLg
set_option linter.all false
set_option maxRecDepth 100000
namespace Go.Proofs.YtkipbccgnekoaaaGreatDoorLg
noncomputable section
open Go Go.Lift
abbrev z1i : Type := ((List Bool) × ((List (List UInt8)) × (Int × (Int × ((List (List UInt8)) × Unit)))))
abbrev z9n : T := (.pair .str (.pair (.sl (.pair .str (.pair .str .unit))) (.pair .str .unit)))
abbrev z2l : T := (.pair (.own .bool) (.pair (.own .str) (.pair (.int .i64) (.pair (.int .i64) (.pair (.own .str) .unit)))))
abbrev z2t : Type := ((List UInt8) × ((List ((List UInt8) × ((List UInt8) × Unit))) × ((List UInt8) × Unit)))
abbrev zcw : T := (.pair z9n (.pair (.sl z9n) .unit))
abbrev zlw : Type := ((List UInt8) × ((List UInt8) × Unit))
def zyf : Code := (Tryz.f21.body).getD .skip
def L_f0 : List (List Nat × List Nat) := [([0],[0,1,6,2]),([0,1],[10,6,1,8,2]),([0,0,1,1],[22,10,6,1,8,2]),([1,0,1,1],[1,8,2,6]),([0,0,1,0,1,1],[6,7]),([1,0,1,0,1,1],[6,7]),([0,1,1,1],[2,11,6]),([0,0,1,1,1,1],[32,31,30,11,6]),([0,1,0,1,1,1,1],[32,31,30,11,6]),([0,0,0,1,0,1,1,1,1],[33,30,32,11,6,31]),([0,1,0,0,1,0,1,1,1,1],[30,32,11,6,31]),([1,0,1,0,0,1,0,1,1,1,1],[11,6]),([0,0,0,1,1,0,0,1,0,1,1,1,1],[11,13,6,32,31,30]),([0,1,0,0,1,1,0,0,1,0,1,1,1,1],[10,6,32,31,30,11]),([0,1,1,0,0,1,1,0,0,1,0,1,1,1,1],[43,10,6,32,31,30,11]),([1,1,1,0,0,1,1,0,0,1,0,1,1,1,1],[32,31,30,11,6]),([0,0,1,1,1,0,0,1,1,0,0,1,0,1,1,1,1],[6,7]),([1,0,1,1,1,0,0,1,1,0,0,1,0,1,1,1,1],[6,7]),([0,1,1,0,0,1,0,1,1,1,1],[32,31,30,11,6]),([1,1,1,0,0,1,0,1,1,1,1],[32,31,30,11,6]),([1,0,1,1,1,1],[11,6]),([0,1,1,1,1,1],[6,7]),([1,1,1,1,1,1],[6,7])]
def E_f0 (N:Nat) : Env := z16 tys glob [(19,z5d N),(23,z7a N),(48,zcf N)] [] [] [] false [] [(112,z1v N),(123,zd N),(66,zb N),(98,z7 N)]
theorem z1u8 (N:Nat) : EnvOk Tryz.prog (E_f0 N) := zk mixed zo (FnsOk.cons (z92 N) (FnsOk.cons (zb8 N) (FnsOk.cons (zis N) (FnsOk.nil)))) (ItsOk.cons (z2g N) (ItsOk.cons (zf N) (ItsOk.cons (ze N) (ItsOk.cons (z8 N) (ItsOk.nil)))))
def zw6 (N:Nat) (x6:z2t) (x30:(List (List UInt8))) (x31:Int) (t:z2t) (x32:Int) (rec:z2t -> Int -> Option (z2t × Int × Unit)) (k0:z2t -> Int -> Option (z2t × Int × Unit)) (k1:z2t -> Option (z2t × Int × Unit)) : Option (z2t × Int × Unit) :=
 cond (decide (x32 < x31))
 (cond (inR x32 (List.length x30))
 ((z3u N t (List.getD x30 (Int.toNat x32) ([] : List UInt8))).bind fun y =>
 cond (y.2.1 != (0 : Int))
 (k0 (([] : List UInt8),(([] : List zlw),(([] : List UInt8),()))) y.2.1)
 (rec y.1 (IntKind.wrap IntKind.i64 (x32 + (1 : Int)))))
 (none))
 (k1 t)
def z15e (N:Nat) (x6:z2t) (t:z2t) (x30:(List (List UInt8))) (x31:Int) (x32:Int) (k0:z2t -> Int -> Option (z2t × Int × Unit)) (k1:z2t -> Option (z2t × Int × Unit)) : Option (z2t × Int × Unit) :=
 iter (fun (v:(z2t × Int)) r=>zw6 N x6 x30 x31 v.1 v.2 (fun t x32=>(r (t,x32))) k0 k1) N (t,x32)
def z1rw (N:Nat) (i:(z2t × (List (List UInt8)) × Int)) (v:(z2t × Int)) (r:(z2t × Int) -> Option (z2t × Int × Unit)) (K:Ex -> List A -> Option (z2t × Int × Unit)) : Option (z2t × Int × Unit) :=
 zw6 N i.1 i.2.1 i.2.2 v.1 v.2 (fun t x32=>(r (t,x32))) (fun a0 a1=>(K .ret (mkS [(6,.box z9n),(0,.v (.int .i64))] 40 (a0,a1,())))) (fun a1=>(K (.exit 0) (mkS [(6,.box z9n),(4,.box z9n)] 36 (i.1,a1,()))))
def z1pt (N:Nat) : Hd (z2t × Int × Unit) := fun st K=>(unS [(6,.box z9n),(4,.box z9n),(18,.v (.sl .str)),(0,.v (.int .i64)),(0,.v (.int .i64))] 15 (restr [32,31,30,11,6] 0 st)).bind fun x=>iter (fun v r=>z1rw N ((fun x=>(x.1,x.2.2.1,x.2.2.2.1)) x) v r K) N ((fun x=>(x.2.1,x.2.2.2.2.1)) x)
def t1_f0 (N:Nat) : Tab (z2t × Int × Unit) := []
theorem z1nd {N:Nat} {c:Ctx} (hb:Base Tryz.prog (E_f0 N) c) : zq Tryz.prog c (zm zyf [0,1,0,1,1,1,1]) (z1pt N) :=
  z1k (s := [(6,.box z9n),(4,.box z9n),(18,.v (.sl .str)),(0,.v (.int .i64)),(0,.v (.int .i64))]) (m := 15) (z1rw N) [32,31,30,11,6] N (fun x=>(x.1,x.2.2.1,x.2.2.2.1)) (fun x=>(x.2.1,x.2.2.2.2.1)) (fun i v=>(i.1,v.1,i.2.1,i.2.2,v.2,())) (fun _=>rfl) (zi hb N (t1_f0 N) L_f0 zyf TabOk.nil [0,0,1,0,1,1,1,1] _ rfl) (fun i v r K=>by kernel_rfl)
def z1bk (N:Nat) (notary:(List UInt8)) (ticket:(List UInt8)) (caveats:(List (List UInt8))) : Option (z2t × Int × Unit) :=
 (z5u N notary ticket).bind fun y =>
 cond (y.2.2.1 != (0 : Int))
 (some ((([] : List UInt8),(([] : List zlw),(([] : List UInt8),()))),(y.2.2.1,())))
 ((z5e N y.1 ticket).bind fun y1 =>
 z15e N (([] : List UInt8),(([] : List zlw),(([] : List UInt8),()))) (ticket,(([] : List zlw),(y1,()))) caveats (((List.length caveats) : Nat) : Int) (0 : Int)
 (fun x6 x7=>some (x6,(x7,())))
 (fun t=>some (t,((0 : Int),()))))
def t_f0 (N:Nat) : Tab (z2t × Int × Unit) := [([0,1,0,1,1,1,1],z1pt N)]
theorem z1e2 (N:Nat) (x:z1h [(0,.v .str),(0,.v .str),(0,.v (.sl .str))]) : z2q (E_f0 N) N (t_f0 N) L_f0 Tryz.f21 (mkS [(0,.v .str),(0,.v .str),(0,.v (.sl .str))] 0 x) (z1d (.tup [z9n,(.int .i64)]) 3) = z1bk N x.1 x.2.1 x.2.2.1 := by kernel_rfl
def zss (N:Nat) : List A -> Res := z10 [(0,.v .str),(0,.v .str),(0,.v (.sl .str))] (fun x=>z1bk N x.1 x.2.1 x.2.2.1) (z2p (.tup [z9n,(.int .i64)]) 3)
theorem z15f (N:Nat) : Contract Tryz.prog glob 21 (zss N) :=
  Contract.of (E := E_f0 N) (H := t_f0 N) (L := L_f0) (N := N) (body := zyf) (K := (z1d (.tup [z9n,(.int .i64)]) 3)) (z1u8 N) Tryz.func21 (by kernel_rfl) (by decide) (fun _ hb=>(TabOk.cons (z1nd hb) TabOk.nil)) (fun x y h=>by rw [z1e2]; exact h) (zn (s := (.tup [z9n,(.int .i64)])) (m := 3))
def zye : Code := (Tryz.f21.body).getD .skip
def L_f1 : List (List Nat × List Nat) := [([0],[0,1,6,2]),([0,1],[10,6,1,8,2]),([0,0,1,1],[22,10,6,1,8,2]),([1,0,1,1],[1,8,2,6]),([0,0,1,0,1,1],[6,7]),([1,0,1,0,1,1],[6,7]),([0,1,1,1],[2,11,6]),([0,0,1,1,1,1],[32,31,30,11,6]),([0,1,0,1,1,1,1],[32,31,30,11,6]),([0,0,0,1,0,1,1,1,1],[33,30,32,11,6,31]),([0,1,0,0,1,0,1,1,1,1],[30,32,11,6,31]),([1,0,1,0,0,1,0,1,1,1,1],[11,6]),([0,0,0,1,1,0,0,1,0,1,1,1,1],[11,13,6,32,31,30]),([0,1,0,0,1,1,0,0,1,0,1,1,1,1],[10,6,32,31,30,11]),([0,1,1,0,0,1,1,0,0,1,0,1,1,1,1],[43,10,6,32,31,30,11]),([1,1,1,0,0,1,1,0,0,1,0,1,1,1,1],[32,31,30,11,6]),([0,0,1,1,1,0,0,1,1,0,0,1,0,1,1,1,1],[6,7]),([1,0,1,1,1,0,0,1,1,0,0,1,0,1,1,1,1],[6,7]),([0,1,1,0,0,1,0,1,1,1,1],[32,31,30,11,6]),([1,1,1,0,0,1,0,1,1,1,1],[32,31,30,11,6]),([1,0,1,1,1,1],[11,6]),([0,1,1,1,1,1],[6,7]),([1,1,1,1,1,1],[6,7])]
def E_f1 (N:Nat) : Env := z16 tys glob [(19,z5d N),(23,z7a N),(48,zcf N)] [] [] [] false [] [(112,z1v N),(123,zd N),(66,zb N),(98,z7 N)]
theorem z1u7 (N:Nat) : EnvOk Tryz.prog (E_f1 N) := zk mixed zo (FnsOk.cons (z92 N) (FnsOk.cons (zb8 N) (FnsOk.cons (zis N) (FnsOk.nil)))) (ItsOk.cons (z2g N) (ItsOk.cons (zf N) (ItsOk.cons (ze N) (ItsOk.cons (z8 N) (ItsOk.nil)))))
def zqj (N:Nat) (x6:z2t) (t:z2t) (x31:Int) (x32:Int) (rec:Option (z2t × Int × Unit)) (k0:Option (z2t × Int × Unit)) : Option (z2t × Int × Unit) :=
 cond (decide (x32 < x31))
 (none)
 (k0)
def zw4 (N:Nat) (x6:z2t) (t:z2t) (x31:Int) (x32:Int) (k0:Option (z2t × Int × Unit)) : Option (z2t × Int × Unit) :=
 iter (fun (v:Unit) r=>zqj N x6 t x31 x32 (r ()) k0) N ()
def z1rv (N:Nat) (i:(z2t × z2t × Int × Int)) (v:Unit) (r:Unit -> Option (z2t × Int × Unit)) (K:Ex -> List A -> Option (z2t × Int × Unit)) : Option (z2t × Int × Unit) :=
 zqj N i.1 i.2.1 i.2.2.1 i.2.2.2 (r ()) (K (.exit 0) (mkS [(6,.box z9n),(4,.box z9n)] 36 (i.1,i.2.1,())))
def z1ps (N:Nat) : Hd (z2t × Int × Unit) := fun st K=>(unS [(6,.box z9n),(4,.box z9n),(18,.nilsl),(0,.v (.int .i64)),(0,.v (.int .i64))] 15 (restr [32,31,30,11,6] 0 st)).bind fun x=>iter (fun v r=>z1rv N ((fun x=>(x.1,x.2.1,x.2.2.2.1,x.2.2.2.2.1)) x) v r K) N ((fun x=>()) x)
def t1_f1 (N:Nat) : Tab (z2t × Int × Unit) := []
theorem z1nc {N:Nat} {c:Ctx} (hb:Base Tryz.prog (E_f1 N) c) : zq Tryz.prog c (zm zye [0,1,0,1,1,1,1]) (z1ps N) :=
  z1k (s := [(6,.box z9n),(4,.box z9n),(18,.nilsl),(0,.v (.int .i64)),(0,.v (.int .i64))]) (m := 15) (z1rv N) [32,31,30,11,6] N (fun x=>(x.1,x.2.1,x.2.2.2.1,x.2.2.2.2.1)) (fun x=>()) (fun i v=>(i.1,i.2.1,(),i.2.2.1,i.2.2.2,())) (fun _=>rfl) (zi hb N (t1_f1 N) L_f1 zye TabOk.nil [0,0,1,0,1,1,1,1] _ rfl) (fun i v r K=>by kernel_rfl)
def zqk (N:Nat) (notary:(List UInt8)) (ticket:(List UInt8)) : Option (z2t × Int × Unit) :=
 (z5u N notary ticket).bind fun y =>
 cond (y.2.2.1 != (0 : Int))
 (some ((([] : List UInt8),(([] : List zlw),(([] : List UInt8),()))),(y.2.2.1,())))
 ((z5e N y.1 ticket).bind fun y1 =>
 zw4 N (([] : List UInt8),(([] : List zlw),(([] : List UInt8),()))) (ticket,(([] : List zlw),(y1,()))) (0 : Int) (0 : Int)
 (some ((ticket,(([] : List zlw),(y1,()))),((0 : Int),()))))
def t_f1 (N:Nat) : Tab (z2t × Int × Unit) := [([0,1,0,1,1,1,1],z1ps N)]
theorem z1e1 (N:Nat) (x:z1h [(0,.v .str),(0,.v .str),(0,.nilsl)]) : z2q (E_f1 N) N (t_f1 N) L_f1 Tryz.f21 (mkS [(0,.v .str),(0,.v .str),(0,.nilsl)] 0 x) (z1d (.tup [z9n,(.int .i64)]) 3) = zqk N x.1 x.2.1 := by kernel_rfl
def z122 (N:Nat) : List A -> Res := z10 [(0,.v .str),(0,.v .str),(0,.nilsl)] (fun x=>zqk N x.1 x.2.1) (z2p (.tup [z9n,(.int .i64)]) 3)
theorem z15d (N:Nat) : Contract Tryz.prog glob 21 (z122 N) :=
  Contract.of (E := E_f1 N) (H := t_f1 N) (L := L_f1) (N := N) (body := zye) (K := (z1d (.tup [z9n,(.int .i64)]) 3)) (z1u7 N) Tryz.func21 (by kernel_rfl) (by decide) (fun _ hb=>(TabOk.cons (z1nc hb) TabOk.nil)) (fun x y h=>by rw [z1e1]; exact h) (zn (s := (.tup [z9n,(.int .i64)])) (m := 3))
def zsr (N:Nat) : List A -> Res := zs3 [(0,.v .str),(0,.v .str),(0,.nilsl)] (fun x=>zqk N x.1 x.2.1) (z2p (.tup [z9n,(.int .i64)]) 3) (zss N)
theorem zw5 (N:Nat) : Contract Tryz.prog glob 21 (zsr N) := Contract.alt (z15d N) (z15f N)
def z2k : Code := (Tryz.f9.body).getD .skip
def zwo : List (List Nat × List Nat) := [([0],[3,4,0]),([0,1],[3,5,4,0]),([0,0,1,1],[6,3,5,4,0]),([0,1,0,1,1],[6,3,5,4,0]),([0,0,0,0,1,0,1,1],[23,5,3,6,4,0]),([1,0,0,0,1,0,1,1],[5,3,6,4,0]),([1,1,0,0,0,1,0,1,1],[3,5,4,0]),([0,0,0,1,0,0,1,0,1,1],[3,6,5,4,0]),([0,1,0,0,1,0,0,1,0,1,1],[38,5,6,3,4,0]),([1,1,0,0,1,0,0,1,0,1,1],[6,3,5,4,0]),([0,1,1,0,0,1,0,0,1,0,1,1],[6,3,5,4,0]),([0,1,0,0,1,0,1,1],[6,3,5,4,0]),([1,1,0,0,1,0,1,1],[6,3,5,4,0]),([1,0,1,1],[3,5,4,0]),([0,0,1,1,1],[50,5,4,0,3]),([1,0,1,1,1],[5,4,0,3]),([0,1,0,1,1,1],[5,4,0,3]),([0,0,1,1,1,1],[54,5,4,0,3]),([1,0,1,1,1,1],[0,3,5,4]),([0,0,1,0,1,1,1,1],[4]),([1,0,1,0,1,1,1,1],[4]),([0,1,1,1,1,1],[3,7,5,0,4]),([0,1,1,1,1,1,1],[7,5,0,3,4,8]),([0,1,1,1,1,1,1,1],[0,3,5,7,4,8]),([0,1,1,1,1,1,1,1,1],[7,3,5,4,8]),([0,0,1,1,1,1,1,1,1,1,1],[81,5,4,8,7,3]),([1,0,1,1,1,1,1,1,1,1,1],[8,5,7,3,4]),([0,0,1,0,1,1,1,1,1,1,1,1,1],[5,4]),([0,1,0,1,0,1,1,1,1,1,1,1,1,1],[4]),([1,1,0,1,0,1,1,1,1,1,1,1,1,1],[4]),([0,0,1,1,1,1,1,1,1,1,1,1],[9,8,5,7,3,4]),([0,1,0,1,1,1,1,1,1,1,1,1,1],[9,8,5,7,3,4]),([0,0,0,0,1,0,1,1,1,1,1,1,1,1,1,1],[87,8,9,5,7,3,4]),([1,0,0,0,1,0,1,1,1,1,1,1,1,1,1,1],[8,9,5,7,3,4]),([1,1,0,0,0,1,0,1,1,1,1,1,1,1,1,1,1],[5,4]),([0,0,0,1,0,0,1,0,1,1,1,1,1,1,1,1,1,1],[10,8,9,5,7,3,4]),([0,1,0,0,1,0,0,1,0,1,1,1,1,1,1,1,1,1,1],[10,8,9,5,7,3,4]),([0,0,0,0,1,0,0,1,0,0,1,0,1,1,1,1,1,1,1,1,1,1],[97,8,9,10,5,7,3,4]),([1,0,0,0,1,0,0,1,0,0,1,0,1,1,1,1,1,1,1,1,1,1],[8,9,10,5,7,3,4]),([1,1,0,0,0,1,0,0,1,0,0,1,0,1,1,1,1,1,1,1,1,1,1],[9,8,5,7,3,4]),([0,0,0,1,0,0,1,0,0,1,0,0,1,0,1,1,1,1,1,1,1,1,1,1],[11,5,10,8,9,7,3,4]),([0,0,1,0,0,1,0,0,1,0,0,1,0,0,1,0,1,1,1,1,1,1,1,1,1,1],[110,5,11,10,8,9,7,3,4]),([1,0,1,0,0,1,0,0,1,0,0,1,0,0,1,0,1,1,1,1,1,1,1,1,1,1],[5,7,9,10,11,3,4,8]),([0,0,1,0,1,0,0,1,0,0,1,0,0,1,0,0,1,0,1,1,1,1,1,1,1,1,1,1],[10,8,9,5,7,3,4]),([1,0,1,0,1,0,0,1,0,0,1,0,0,1,0,0,1,0,1,1,1,1,1,1,1,1,1,1],[10,8,9,5,7,3,4]),([0,1,1,0,0,1,0,0,1,0,0,1,0,0,1,0,1,1,1,1,1,1,1,1,1,1],[7,9,10,5,11,3,4,8]),([0,1,1,1,0,0,1,0,0,1,0,0,1,0,0,1,0,1,1,1,1,1,1,1,1,1,1],[5,7,9,10,12,11,3,4,8]),([0,1,1,1,1,0,0,1,0,0,1,0,0,1,0,0,1,0,1,1,1,1,1,1,1,1,1,1],[5,12,11,3,4,8,7,10,9]),([0,1,1,1,1,1,0,0,1,0,0,1,0,0,1,0,0,1,0,1,1,1,1,1,1,1,1,1,1],[12,11,3,5,4,8,7,10,9]),([0,1,1,1,1,1,1,0,0,1,0,0,1,0,0,1,0,0,1,0,1,1,1,1,1,1,1,1,1,1],[3,14,5,11,4,13,8,7,10,9]),([0,1,1,1,1,1,1,1,0,0,1,0,0,1,0,0,1,0,0,1,0,1,1,1,1,1,1,1,1,1,1],[3,14,5,11,15,4,13,8,7,10,9]),([0,0,1,1,1,1,1,1,1,1,0,0,1,0,0,1,0,0,1,0,0,1,0,1,1,1,1,1,1,1,1,1,1],[16,14,5,3,11,15,4,13,8,7,10,9]),([0,1,0,1,1,1,1,1,1,1,1,0,0,1,0,0,1,0,0,1,0,0,1,0,1,1,1,1,1,1,1,1,1,1],[16,14,5,3,11,15,4,13,8,7,10,9]),([0,0,0,0,1,0,1,1,1,1,1,1,1,1,0,0,1,0,0,1,0,0,1,0,0,1,0,1,1,1,1,1,1,1,1,1,1],[169,5,16,3,11,14,4,13,8,7,10,9,15]),([1,0,0,0,1,0,1,1,1,1,1,1,1,1,0,0,1,0,0,1,0,0,1,0,0,1,0,1,1,1,1,1,1,1,1,1,1],[5,16,3,11,14,4,13,8,7,10,9,15]),([1,1,0,0,0,1,0,1,1,1,1,1,1,1,1,0,0,1,0,0,1,0,0,1,0,0,1,0,1,1,1,1,1,1,1,1,1,1],[15,5,4,13,3,8,7,10,9]),([0,0,0,1,0,0,1,0,1,1,1,1,1,1,1,1,0,0,1,0,0,1,0,0,1,0,0,1,0,1,1,1,1,1,1,1,1,1,1],[188,16,14,5,3,11,4,13,8,7,10,9,15]),([1,0,0,1,0,0,1,0,1,1,1,1,1,1,1,1,0,0,1,0,0,1,0,0,1,0,0,1,0,1,1,1,1,1,1,1,1,1,1],[16,14,5,3,11,15,4,13,8,7,10,9]),([0,1,0,0,1,0,0,1,0,1,1,1,1,1,1,1,1,0,0,1,0,0,1,0,0,1,0,0,1,0,1,1,1,1,1,1,1,1,1,1],[16,14,5,3,11,15,4,13,8,7,10,9]),([0,1,0,0,1,0,1,1,1,1,1,1,1,1,0,0,1,0,0,1,0,0,1,0,0,1,0,1,1,1,1,1,1,1,1,1,1],[16,14,5,3,11,15,4,13,8,7,10,9]),([1,1,0,0,1,0,1,1,1,1,1,1,1,1,0,0,1,0,0,1,0,0,1,0,0,1,0,1,1,1,1,1,1,1,1,1,1],[16,14,5,3,11,15,4,13,8,7,10,9]),([1,0,1,1,1,1,1,1,1,1,0,0,1,0,0,1,0,0,1,0,0,1,0,1,1,1,1,1,1,1,1,1,1],[15,5,4,13,3,8,7,10,9]),([0,0,1,1,1,1,1,1,1,1,1,0,0,1,0,0,1,0,0,1,0,0,1,0,1,1,1,1,1,1,1,1,1,1],[191,5,4,15,13,3,8,7,10,9]),([1,0,1,1,1,1,1,1,1,1,1,0,0,1,0,0,1,0,0,1,0,0,1,0,1,1,1,1,1,1,1,1,1,1],[5,15,13,3,4,8,7,10,9]),([0,0,1,0,1,1,1,1,1,1,1,1,1,0,0,1,0,0,1,0,0,1,0,0,1,0,1,1,1,1,1,1,1,1,1,1],[5,4]),([0,1,0,1,0,1,1,1,1,1,1,1,1,1,0,0,1,0,0,1,0,0,1,0,0,1,0,1,1,1,1,1,1,1,1,1,1],[4]),([1,1,0,1,0,1,1,1,1,1,1,1,1,1,0,0,1,0,0,1,0,0,1,0,0,1,0,1,1,1,1,1,1,1,1,1,1],[4]),([0,1,1,1,1,1,1,1,1,1,1,0,0,1,0,0,1,0,0,1,0,0,1,0,1,1,1,1,1,1,1,1,1,1],[13,3,15,5,4,8,7,10,9]),([0,1,1,1,1,1,1,1,1,1,1,1,0,0,1,0,0,1,0,0,1,0,0,1,0,1,1,1,1,1,1,1,1,1,1],[5,17,13,3,15,4,8,7,10,9]),([0,1,1,1,1,1,1,1,1,1,1,1,1,0,0,1,0,0,1,0,0,1,0,0,1,0,1,1,1,1,1,1,1,1,1,1],[5,13,3,15,17,4,8,7,10,9]),([0,1,1,1,1,1,1,1,1,1,1,1,1,1,0,0,1,0,0,1,0,0,1,0,0,1,0,1,1,1,1,1,1,1,1,1,1],[5,3,17,15,4,8,7,10,9]),([0,1,1,1,1,1,1,1,1,1,1,1,1,1,1,0,0,1,0,0,1,0,0,1,0,0,1,0,1,1,1,1,1,1,1,1,1,1],[3,17,15,5,4,8,7,10,9]),([0,0,1,1,1,1,1,1,1,1,1,1,1,1,1,1,1,0,0,1,0,0,1,0,0,1,0,0,1,0,1,1,1,1,1,1,1,1,1,1],[248,5,4,8,3,15,7,17,10,9]),([1,0,1,1,1,1,1,1,1,1,1,1,1,1,1,1,1,0,0,1,0,0,1,0,0,1,0,0,1,0,1,1,1,1,1,1,1,1,1,1],[8,3,15,7,17,10,9,5,4]),([0,0,1,0,1,1,1,1,1,1,1,1,1,1,1,1,1,1,1,0,0,1,0,0,1,0,0,1,0,0,1,0,1,1,1,1,1,1,1,1,1,1],[5,4]),([0,1,0,1,0,1,1,1,1,1,1,1,1,1,1,1,1,1,1,1,0,0,1,0,0,1,0,0,1,0,0,1,0,1,1,1,1,1,1,1,1,1,1],[4]),([1,1,0,1,0,1,1,1,1,1,1,1,1,1,1,1,1,1,1,1,0,0,1,0,0,1,0,0,1,0,0,1,0,1,1,1,1,1,1,1,1,1,1],[4]),([0,1,1,1,1,1,1,1,1,1,1,1,1,1,1,1,1,0,0,1,0,0,1,0,0,1,0,0,1,0,1,1,1,1,1,1,1,1,1,1],[7,17,10,8,9,5,3,4]),([1,1,1,1,1,1,1,1,1,1,1,1,1,1,1,1,1,0,0,1,0,0,1,0,0,1,0,0,1,0,1,1,1,1,1,1,1,1,1,1],[10,8,9,5,7,3,4]),([0,1,0,0,1,0,0,1,0,0,1,0,1,1,1,1,1,1,1,1,1,1],[10,8,9,5,7,3,4]),([1,1,0,0,1,0,0,1,0,0,1,0,1,1,1,1,1,1,1,1,1,1],[10,8,9,5,7,3,4]),([1,0,0,1,0,0,1,0,1,1,1,1,1,1,1,1,1,1],[9,8,5,7,3,4]),([0,1,0,0,1,0,1,1,1,1,1,1,1,1,1,1],[9,8,5,7,3,4]),([1,1,0,0,1,0,1,1,1,1,1,1,1,1,1,1],[9,8,5,7,3,4]),([1,0,1,1,1,1,1,1,1,1,1,1],[5,4]),([0,0,1,1,1,1,1,1,1,1,1,1,1],[18,5,4]),([0,1,0,1,1,1,1,1,1,1,1,1,1,1],[18,5,4]),([0,0,0,0,1,0,1,1,1,1,1,1,1,1,1,1,1],[267,5,18,4]),([1,0,0,0,1,0,1,1,1,1,1,1,1,1,1,1,1],[5,18,4]),([1,1,0,0,0,1,0,1,1,1,1,1,1,1,1,1,1,1],[5,4]),([0,0,0,1,0,0,1,0,1,1,1,1,1,1,1,1,1,1,1],[275,5,18,4]),([1,0,0,1,0,0,1,0,1,1,1,1,1,1,1,1,1,1,1],[18,5,4]),([0,1,0,0,1,0,0,1,0,1,1,1,1,1,1,1,1,1,1,1],[18,5,4]),([0,1,0,0,1,0,1,1,1,1,1,1,1,1,1,1,1],[18,5,4]),([1,1,0,0,1,0,1,1,1,1,1,1,1,1,1,1,1],[18,5,4]),([1,0,1,1,1,1,1,1,1,1,1,1,1],[5,4]),([0,1,1,1,1,1,1,1,1,1,1,1,1],[4]),([1,1,1,1,1,1,1,1,1,1,1,1,1],[4])]
def zwm (N:Nat) : Env := z16 tys glob [(18,z9z N),(29,z6r N),(30,zaq N),(31,z1t N),(32,z74 N),(33,z2z N),(34,z30 N),(35,za3 N),(36,zat N),(37,z77 N)] [(17,.str),(8,z9n),(7,(.sl .str))] [] [] false [(4,z2l),(5,z2l),(55,z2l),(83,z2l),(193,z2l),(277,z2l),(250,z2l)] [(112,z1v N),(123,zd N),(66,zb N),(98,z7 N)] [z2l]
theorem z1u6 (N:Nat) : EnvOk Tryz.prog (zwm N) := zk mixed zo (FnsOk.cons (zic N) (FnsOk.cons (zc1 N) (FnsOk.cons (zjj N) (FnsOk.cons (z2m N) (FnsOk.cons (zed N) (FnsOk.cons (z47 N) (FnsOk.cons (z49 N) (FnsOk.cons (zid N) (FnsOk.cons (zjl N) (FnsOk.cons (zee N) (FnsOk.nil))))))))))) (ItsOk.cons (z2g N) (ItsOk.cons (zf N) (ItsOk.cons (ze N) (ItsOk.cons (z8 N) (ItsOk.nil)))))
def zpl (N:Nat) (key:(List UInt8)) (b:(z2t × ((List z2t) × Unit))) (x4:z1i) (p:z1i) (i:Int) (k0:z1i -> Option z1i) : Option z1i :=
 cond (decide ((((List.length p.1) + 1) * 1) <= 70368744177664))
 (cond (inR i (List.length b.2.1))
 (cond (decide ((64 : Int) < (((List.length (List.getD b.2.1 (Int.toNat i) (([] : List UInt8),(([] : List zlw),(([] : List UInt8),())))).2.1) : Nat) : Int)))
 (k0 ((p.1 ++ ([false] : List Bool)),(p.2.1,(p.2.2.1,((3 : Int),p.2.2.2.2)))))
 (k0 ((p.1 ++ ([false] : List Bool)),p.2)))
 (none))
 (none)
def z1rf (N:Nat) (x:z1h [(0,.v .str),(2,.box zcw),(0,.box z2l),(0,.box z2l),(0,.v (.int .i64))]) (K:Ex -> List A -> Option z1i) : Option z1i :=
 zpl N x.1 x.2.1 x.2.2.1 x.2.2.2.1 x.2.2.2.2.1 (fun a3=>(K .normal (mkS [(0,.v .str),(2,.box zcw),(0,.box z2l),(0,.box z2l),(0,.v (.int .i64))] 271 (x.1,x.2.1,x.2.2.1,a3,x.2.2.2.2.1,()))))
def z1pc (N:Nat) : Hd z1i := fun st K=>(unS [(0,.v .str),(2,.box zcw),(0,.box z2l),(0,.box z2l),(0,.v (.int .i64))] 271 (restr [5,3,6,4,0] 0 st)).bind fun x=>z1rf N x K
def t2_f2 (N:Nat) : Tab z1i := []
theorem z1mw {N:Nat} {c:Ctx} (hb:Base Tryz.prog (zwm N) c) : zq Tryz.prog c (zm z2k [0,1,0,0,1,0,1,1]) (z1pc N) :=
  z17 (s := [(0,.v .str),(2,.box zcw),(0,.box z2l),(0,.box z2l),(0,.v (.int .i64))]) (m := 271) (g := z1rf N) [5,3,6,4,0] (zi hb N (t2_f2 N) zwo z2k TabOk.nil [0,1,0,0,1,0,1,1] _ rfl) (fun x K=>by kernel_rfl)
def zpf (N:Nat) (key:(List UInt8)) (b:(z2t × ((List z2t) × Unit))) (x4:z1i) (p:z1i) (i:Int) (rec:z1i -> Int -> Option z1i) (k0:z1i -> Option z1i) : Option z1i :=
 cond (decide (i < (((List.length b.2.1) : Nat) : Int)))
 (zpl N key b x4 p i
 (fun p1=>rec p1 (IntKind.wrap IntKind.i64 (i + (1 : Int)))))
 (k0 p)
def zpm (N:Nat) (key:(List UInt8)) (b:(z2t × ((List z2t) × Unit))) (x4:z1i) (p:z1i) (i:Int) (k0:z1i -> Option z1i) : Option z1i :=
 iter (fun (v:(z1i × Int)) r=>zpf N key b x4 v.1 v.2 (fun p i=>(r (p,i))) k0) N (p,i)
def z1ru (N:Nat) (i:((List UInt8) × (z2t × ((List z2t) × Unit)) × z1i)) (v:(z1i × Int)) (r:(z1i × Int) -> Option z1i) (K:Ex -> List A -> Option z1i) : Option z1i :=
 zpf N i.1 i.2.1 i.2.2 v.1 v.2 (fun p i=>(r (p,i))) (fun a3=>(K (.exit 0) (mkS [(0,.v .str),(2,.box zcw),(0,.box z2l),(0,.box z2l)] 272 (i.1,i.2.1,i.2.2,a3,()))))
def z1pr (N:Nat) : Hd z1i := fun st K=>(unS [(0,.v .str),(2,.box zcw),(0,.box z2l),(0,.box z2l),(0,.v (.int .i64))] 271 (restr [6,3,5,4,0] 0 st)).bind fun x=>iter (fun v r=>z1ru N ((fun x=>(x.1,x.2.1,x.2.2.1)) x) v r K) N ((fun x=>(x.2.2.2.1,x.2.2.2.2.1)) x)
def t1_f2 (N:Nat) : Tab z1i := [([0,1,0,0,1,0,1,1],z1pc N)]
theorem z1nb {N:Nat} {c:Ctx} (hb:Base Tryz.prog (zwm N) c) : zq Tryz.prog c (zm z2k [0,1,0,1,1]) (z1pr N) :=
  z1k (s := [(0,.v .str),(2,.box zcw),(0,.box z2l),(0,.box z2l),(0,.v (.int .i64))]) (m := 271) (z1ru N) [6,3,5,4,0] N (fun x=>(x.1,x.2.1,x.2.2.1)) (fun x=>(x.2.2.2.1,x.2.2.2.2.1)) (fun i v=>(i.1,i.2.1,i.2.2,v.1,v.2,())) (fun _=>rfl) (zi hb N (t1_f2 N) zwo z2k (TabOk.cons (z1mw hb) TabOk.nil) [0,0,1,0,1,1] _ rfl) (fun i v r K=>by kernel_rfl)
def zpj (N:Nat) (key:(List UInt8)) (b:(z2t × ((List z2t) × Unit))) (x4:z1i) (p:z1i) (k0:Bool -> Option z1i) : Option z1i :=
 cond (decide ((8 : Int) < (((List.length b.2.1) : Nat) : Int)))
 (k0 true)
 (k0 (decide ((64 : Int) < (((List.length b.1.2.1) : Nat) : Int))))
def z1r5 (N:Nat) (x:z1h [(0,.v .str),(2,.box zcw),(0,.box z2l),(0,.box z2l)]) (K:Ex -> List A -> Option z1i) : Option z1i :=
 zpj N x.1 x.2.1 x.2.2.1 x.2.2.2.1 (fun a4=>(K .normal (mkS [(0,.v .str),(2,.box zcw),(0,.box z2l),(0,.box z2l),(44,.v .bool)] 227 (x.1,x.2.1,x.2.2.1,x.2.2.2.1,a4,()))))
def z1p2 (N:Nat) : Hd z1i := fun st K=>(unS [(0,.v .str),(2,.box zcw),(0,.box z2l),(0,.box z2l)] 272 (restr [3,5,4,0] 0 st)).bind fun x=>z1r5 N x K
def t4_f2 (N:Nat) : Tab z1i := []
theorem z1mm {N:Nat} {c:Ctx} (hb:Base Tryz.prog (zwm N) c) : zq Tryz.prog c (zm z2k [0,0,1,1,1]) (z1p2 N) :=
  z17 (s := [(0,.v .str),(2,.box zcw),(0,.box z2l),(0,.box z2l)]) (m := 272) (g := z1r5 N) [3,5,4,0] (zi hb N (t4_f2 N) zwo z2k TabOk.nil [0,0,1,1,1] _ rfl) (fun x K=>by kernel_rfl)
def zpk (N:Nat) (key:(List UInt8)) (b:(z2t × ((List z2t) × Unit))) (x4:z1i) (p:z1i) (k0:z1i -> Option z1i) : Option z1i :=
 zpj N key b x4 p
 (fun x50=>cond x50
 (k0 (p.1,(p.2.1,(p.2.2.1,((3 : Int),p.2.2.2.2)))))
 (k0 p))
def z1ra (N:Nat) (x:z1h [(0,.v .str),(2,.box zcw),(0,.box z2l),(0,.box z2l)]) (K:Ex -> List A -> Option z1i) : Option z1i :=
 zpk N x.1 x.2.1 x.2.2.1 x.2.2.2.1 (fun a3=>(K .normal (mkS [(0,.v .str),(2,.box zcw),(0,.box z2l),(0,.box z2l)] 272 (x.1,x.2.1,x.2.2.1,a3,()))))
def z1p7 (N:Nat) : Hd z1i := fun st K=>(unS [(0,.v .str),(2,.box zcw),(0,.box z2l),(0,.box z2l)] 272 (restr [3,5,4,0] 0 st)).bind fun x=>z1ra N x K
def t3_f2 (N:Nat) : Tab z1i := [([0,0,1,1,1],z1p2 N)]
theorem z1mr {N:Nat} {c:Ctx} (hb:Base Tryz.prog (zwm N) c) : zq Tryz.prog c (zm z2k [0,1,1,1]) (z1p7 N) :=
  z17 (s := [(0,.v .str),(2,.box zcw),(0,.box z2l),(0,.box z2l)]) (m := 272) (g := z1ra N) [3,5,4,0] (zi hb N (t3_f2 N) zwo z2k (TabOk.cons (z1mm hb) TabOk.nil) [0,1,1,1] _ rfl) (fun x K=>by kernel_rfl)
def zi1 (N:Nat) (b:(z2t × ((List z2t) × Unit))) (x4:z1i) (p:z1i) (tags:(List (List (List UInt8)))) (tokens:(List z2t)) (i:Int) (k:Int) (l:zlw) (ck:(List UInt8)) (e:Int) (at_:Int) (n:Int) (k0:Option z1i) (k1:Option z1i) : Option z1i :=
 cond (decide ((0 : Int) <= n))
 (cond (e == (0 : Int))
 (k0)
 (k1))
 (k1)
def z1bh (N:Nat) (x:z1h [(3,.box zcw),(0,.box z2l),(0,.box z2l),(1,.row (.sl .str)),(0,.row z9n),(0,.v (.int .i64)),(0,.v (.int .i64)),(0,.box (.pair .str (.pair .str .unit))),(1,.v .str),(0,.v (.int .i64)),(0,.v (.int .i64)),(0,.v (.int .i64))]) (K:Ex -> List A -> Option z1i) : Option z1i :=
 zi1 N x.1 x.2.1 x.2.2.1 x.2.2.2.1 x.2.2.2.2.1 x.2.2.2.2.2.1 x.2.2.2.2.2.2.1 x.2.2.2.2.2.2.2.1 x.2.2.2.2.2.2.2.2.1 x.2.2.2.2.2.2.2.2.2.1 x.2.2.2.2.2.2.2.2.2.2.1 x.2.2.2.2.2.2.2.2.2.2.2.1 (K .normal (mkS [(3,.box zcw),(0,.box z2l),(0,.box z2l),(1,.row (.sl .str)),(0,.row z9n),(0,.v (.int .i64)),(0,.v (.int .i64)),(0,.box (.pair .str (.pair .str .unit))),(1,.v .str),(0,.v (.int .i64)),(0,.v (.int .i64)),(0,.v (.int .i64))] 261 (x.1,x.2.1,x.2.2.1,x.2.2.2.1,x.2.2.2.2.1,x.2.2.2.2.2.1,x.2.2.2.2.2.2.1,x.2.2.2.2.2.2.2.1,x.2.2.2.2.2.2.2.2.1,x.2.2.2.2.2.2.2.2.2.1,x.2.2.2.2.2.2.2.2.2.2.1,x.2.2.2.2.2.2.2.2.2.2.2.1,()))) (K (.exit 6) (mkS [(3,.box zcw),(0,.box z2l),(0,.box z2l),(1,.row (.sl .str)),(0,.row z9n),(0,.v (.int .i64)),(0,.v (.int .i64)),(2,.v .str),(1,.v (.int .i64))] 262 (x.1,x.2.1,x.2.2.1,x.2.2.2.1,x.2.2.2.2.1,x.2.2.2.2.2.1,x.2.2.2.2.2.2.1,x.2.2.2.2.2.2.2.2.1,x.2.2.2.2.2.2.2.2.2.2.1,())))
def z1av (N:Nat) : Hd z1i := fun st K=>(unS [(3,.box zcw),(0,.box z2l),(0,.box z2l),(1,.row (.sl .str)),(0,.row z9n),(0,.v (.int .i64)),(0,.v (.int .i64)),(0,.box (.pair .str (.pair .str .unit))),(1,.v .str),(0,.v (.int .i64)),(0,.v (.int .i64)),(0,.v (.int .i64))] 261 (restr [16,14,5,3,11,4,13,8,7,10,9,15] 0 st)).bind fun x=>z1bh N x K
def z1m1 (N:Nat) : Tab z1i := []
theorem z1ds {N:Nat} {c:Ctx} (hb:Base Tryz.prog (zwm N) c) : zq Tryz.prog c (zm z2k [0,0,0,1,0,1,1,1,1,1,1,1,1,0,0,1,0,0,1,0,0,1,0,0,1,0,1,1,1,1,1,1,1,1,1,1]) (z1av N) :=
  z17 (s := [(3,.box zcw),(0,.box z2l),(0,.box z2l),(1,.row (.sl .str)),(0,.row z9n),(0,.v (.int .i64)),(0,.v (.int .i64)),(0,.box (.pair .str (.pair .str .unit))),(1,.v .str),(0,.v (.int .i64)),(0,.v (.int .i64)),(0,.v (.int .i64))]) (m := 261) (g := z1bh N) [16,14,5,3,11,4,13,8,7,10,9,15] (zi hb N (z1m1 N) zwo z2k TabOk.nil [0,0,0,1,0,1,1,1,1,1,1,1,1,0,0,1,0,0,1,0,0,1,0,0,1,0,1,1,1,1,1,1,1,1,1,1] _ rfl) (fun x K=>by kernel_rfl)
def zm9 (N:Nat) (b:(z2t × ((List z2t) × Unit))) (x4:z1i) (p:z1i) (tags:(List (List (List UInt8)))) (tokens:(List z2t)) (i:Int) (k:Int) (l:zlw) (ck:(List UInt8)) (e:Int) (at_:Int) (n:Int) (k0:Bool -> Option z1i) : Option z1i :=
 cond (inR n (List.length p.1))
 (cond (decide ((Int.toNat n) < (List.length p.1)))
 (cond (!(List.getD p.1 (Int.toNat n) false))
 (cond (inR n (List.length b.2.1))
 (k0 ((List.getD b.2.1 (Int.toNat n) (([] : List UInt8),(([] : List zlw),(([] : List UInt8),())))).1 == l.1))
 (none))
 (k0 false))
 (none))
 (none)
def z1bf (N:Nat) (x:z1h [(3,.box zcw),(0,.box z2l),(0,.box z2l),(1,.row (.sl .str)),(0,.row z9n),(0,.v (.int .i64)),(0,.v (.int .i64)),(0,.box (.pair .str (.pair .str .unit))),(1,.v .str),(0,.v (.int .i64)),(0,.v (.int .i64)),(0,.v (.int .i64))]) (K:Ex -> List A -> Option z1i) : Option z1i :=
 zm9 N x.1 x.2.1 x.2.2.1 x.2.2.2.1 x.2.2.2.2.1 x.2.2.2.2.2.1 x.2.2.2.2.2.2.1 x.2.2.2.2.2.2.2.1 x.2.2.2.2.2.2.2.2.1 x.2.2.2.2.2.2.2.2.2.1 x.2.2.2.2.2.2.2.2.2.2.1 x.2.2.2.2.2.2.2.2.2.2.2.1 (fun a12=>(K .normal (mkS [(3,.box zcw),(0,.box z2l),(0,.box z2l),(1,.row (.sl .str)),(0,.row z9n),(0,.v (.int .i64)),(0,.v (.int .i64)),(0,.box (.pair .str (.pair .str .unit))),(1,.v .str),(0,.v (.int .i64)),(0,.v (.int .i64)),(0,.v (.int .i64)),(171,.v .bool)] 89 (x.1,x.2.1,x.2.2.1,x.2.2.2.1,x.2.2.2.2.1,x.2.2.2.2.2.1,x.2.2.2.2.2.2.1,x.2.2.2.2.2.2.2.1,x.2.2.2.2.2.2.2.2.1,x.2.2.2.2.2.2.2.2.2.1,x.2.2.2.2.2.2.2.2.2.2.1,x.2.2.2.2.2.2.2.2.2.2.2.1,a12,()))))
def z1at (N:Nat) : Hd z1i := fun st K=>(unS [(3,.box zcw),(0,.box z2l),(0,.box z2l),(1,.row (.sl .str)),(0,.row z9n),(0,.v (.int .i64)),(0,.v (.int .i64)),(0,.box (.pair .str (.pair .str .unit))),(1,.v .str),(0,.v (.int .i64)),(0,.v (.int .i64)),(0,.v (.int .i64))] 261 (restr [5,16,3,11,14,4,13,8,7,10,9,15] 0 st)).bind fun x=>z1bf N x K
def z1lz (N:Nat) : Tab z1i := []
theorem z1dq {N:Nat} {c:Ctx} (hb:Base Tryz.prog (zwm N) c) : zq Tryz.prog c (zm z2k [0,0,0,1,0,0,1,0,1,1,1,1,1,1,1,1,0,0,1,0,0,1,0,0,1,0,0,1,0,1,1,1,1,1,1,1,1,1,1]) (z1at N) :=
  z17 (s := [(3,.box zcw),(0,.box z2l),(0,.box z2l),(1,.row (.sl .str)),(0,.row z9n),(0,.v (.int .i64)),(0,.v (.int .i64)),(0,.box (.pair .str (.pair .str .unit))),(1,.v .str),(0,.v (.int .i64)),(0,.v (.int .i64)),(0,.v (.int .i64))]) (m := 261) (g := z1bf N) [5,16,3,11,14,4,13,8,7,10,9,15] (zi hb N (z1lz N) zwo z2k TabOk.nil [0,0,0,1,0,0,1,0,1,1,1,1,1,1,1,1,0,0,1,0,0,1,0,0,1,0,0,1,0,1,1,1,1,1,1,1,1,1,1] _ rfl) (fun x K=>by kernel_rfl)
def zma (N:Nat) (b:(z2t × ((List z2t) × Unit))) (x4:z1i) (p:z1i) (tags:(List (List (List UInt8)))) (tokens:(List z2t)) (i:Int) (k:Int) (l:zlw) (ck:(List UInt8)) (e:Int) (at_:Int) (n:Int) (k0:Int -> Option z1i) : Option z1i :=
 zm9 N b x4 p tags tokens i k l ck e at_ n
 (fun x188=>cond x188
 (k0 n)
 (k0 at_))
def z1bg (N:Nat) (x:z1h [(3,.box zcw),(0,.box z2l),(0,.box z2l),(1,.row (.sl .str)),(0,.row z9n),(0,.v (.int .i64)),(0,.v (.int .i64)),(0,.box (.pair .str (.pair .str .unit))),(1,.v .str),(0,.v (.int .i64)),(0,.v (.int .i64)),(0,.v (.int .i64))]) (K:Ex -> List A -> Option z1i) : Option z1i :=
 zma N x.1 x.2.1 x.2.2.1 x.2.2.2.1 x.2.2.2.2.1 x.2.2.2.2.2.1 x.2.2.2.2.2.2.1 x.2.2.2.2.2.2.2.1 x.2.2.2.2.2.2.2.2.1 x.2.2.2.2.2.2.2.2.2.1 x.2.2.2.2.2.2.2.2.2.2.1 x.2.2.2.2.2.2.2.2.2.2.2.1 (fun a10=>(K .normal (mkS [(3,.box zcw),(0,.box z2l),(0,.box z2l),(1,.row (.sl .str)),(0,.row z9n),(0,.v (.int .i64)),(0,.v (.int .i64)),(0,.box (.pair .str (.pair .str .unit))),(1,.v .str),(0,.v (.int .i64)),(0,.v (.int .i64)),(0,.v (.int .i64))] 261 (x.1,x.2.1,x.2.2.1,x.2.2.2.1,x.2.2.2.2.1,x.2.2.2.2.2.1,x.2.2.2.2.2.2.1,x.2.2.2.2.2.2.2.1,x.2.2.2.2.2.2.2.2.1,x.2.2.2.2.2.2.2.2.2.1,a10,x.2.2.2.2.2.2.2.2.2.2.2.1,()))))
def z1au (N:Nat) : Hd z1i := fun st K=>(unS [(3,.box zcw),(0,.box z2l),(0,.box z2l),(1,.row (.sl .str)),(0,.row z9n),(0,.v (.int .i64)),(0,.v (.int .i64)),(0,.box (.pair .str (.pair .str .unit))),(1,.v .str),(0,.v (.int .i64)),(0,.v (.int .i64)),(0,.v (.int .i64))] 261 (restr [5,16,3,11,14,4,13,8,7,10,9,15] 0 st)).bind fun x=>z1bg N x K
def z1m0 (N:Nat) : Tab z1i := [([0,0,0,1,0,0,1,0,1,1,1,1,1,1,1,1,0,0,1,0,0,1,0,0,1,0,0,1,0,1,1,1,1,1,1,1,1,1,1],z1at N)]
theorem z1dr {N:Nat} {c:Ctx} (hb:Base Tryz.prog (zwm N) c) : zq Tryz.prog c (zm z2k [0,1,0,0,1,0,1,1,1,1,1,1,1,1,0,0,1,0,0,1,0,0,1,0,0,1,0,1,1,1,1,1,1,1,1,1,1]) (z1au N) :=
  z17 (s := [(3,.box zcw),(0,.box z2l),(0,.box z2l),(1,.row (.sl .str)),(0,.row z9n),(0,.v (.int .i64)),(0,.v (.int .i64)),(0,.box (.pair .str (.pair .str .unit))),(1,.v .str),(0,.v (.int .i64)),(0,.v (.int .i64)),(0,.v (.int .i64))]) (m := 261) (g := z1bg N) [5,16,3,11,14,4,13,8,7,10,9,15] (zi hb N (z1m0 N) zwo z2k (TabOk.cons (z1dq hb) TabOk.nil) [0,1,0,0,1,0,1,1,1,1,1,1,1,1,0,0,1,0,0,1,0,0,1,0,0,1,0,1,1,1,1,1,1,1,1,1,1] _ rfl) (fun x K=>by kernel_rfl)
def zko (N:Nat) (b:(z2t × ((List z2t) × Unit))) (x4:z1i) (p:z1i) (tags:(List (List (List UInt8)))) (tokens:(List z2t)) (i:Int) (k:Int) (l:zlw) (ck:(List UInt8)) (e:Int) (at_:Int) (n:Int) (rec:Int -> Int -> Option z1i) (k0:Int -> Option z1i) : Option z1i :=
 zi1 N b x4 p tags tokens i k l ck e at_ n
 (zma N b x4 p tags tokens i k l ck e at_ n
 (fun at_1=>rec at_1 (IntKind.wrap IntKind.i64 (n - (1 : Int)))))
 (k0 at_)
def zpg (N:Nat) (b:(z2t × ((List z2t) × Unit))) (x4:z1i) (p:z1i) (tags:(List (List (List UInt8)))) (tokens:(List z2t)) (i:Int) (k:Int) (l:zlw) (ck:(List UInt8)) (e:Int) (at_:Int) (n:Int) (k0:Int -> Option z1i) : Option z1i :=
 iter (fun (v:(Int × Int)) r=>zko N b x4 p tags tokens i k l ck e v.1 v.2 (fun at_ n=>(r (at_,n))) k0) N (at_,n)
def z1qw (N:Nat) (i:((z2t × ((List z2t) × Unit)) × z1i × z1i × (List (List (List UInt8))) × (List z2t) × Int × Int × zlw × (List UInt8) × Int)) (v:(Int × Int)) (r:(Int × Int) -> Option z1i) (K:Ex -> List A -> Option z1i) : Option z1i :=
 zko N i.1 i.2.1 i.2.2.1 i.2.2.2.1 i.2.2.2.2.1 i.2.2.2.2.2.1 i.2.2.2.2.2.2.1 i.2.2.2.2.2.2.2.1 i.2.2.2.2.2.2.2.2.1 i.2.2.2.2.2.2.2.2.2 v.1 v.2 (fun at_ n=>(r (at_,n))) (fun a8=>(K (.exit 6) (mkS [(3,.box zcw),(0,.box z2l),(0,.box z2l),(1,.row (.sl .str)),(0,.row z9n),(0,.v (.int .i64)),(0,.v (.int .i64)),(2,.v .str),(1,.v (.int .i64))] 262 (i.1,i.2.1,i.2.2.1,i.2.2.2.1,i.2.2.2.2.1,i.2.2.2.2.2.1,i.2.2.2.2.2.2.1,i.2.2.2.2.2.2.2.2.1,a8,()))))
def z1ot (N:Nat) : Hd z1i := fun st K=>(unS [(3,.box zcw),(0,.box z2l),(0,.box z2l),(1,.row (.sl .str)),(0,.row z9n),(0,.v (.int .i64)),(0,.v (.int .i64)),(0,.box (.pair .str (.pair .str .unit))),(1,.v .str),(0,.v (.int .i64)),(0,.v (.int .i64)),(0,.v (.int .i64))] 261 (restr [16,14,5,3,11,15,4,13,8,7,10,9] 0 st)).bind fun x=>iter (fun v r=>z1qw N ((fun x=>(x.1,x.2.1,x.2.2.1,x.2.2.2.1,x.2.2.2.2.1,x.2.2.2.2.2.1,x.2.2.2.2.2.2.1,x.2.2.2.2.2.2.2.1,x.2.2.2.2.2.2.2.2.1,x.2.2.2.2.2.2.2.2.2.1)) x) v r K) N ((fun x=>(x.2.2.2.2.2.2.2.2.2.2.1,x.2.2.2.2.2.2.2.2.2.2.2.1)) x)
def t9_f2 (N:Nat) : Tab z1i := [([0,0,0,1,0,1,1,1,1,1,1,1,1,0,0,1,0,0,1,0,0,1,0,0,1,0,1,1,1,1,1,1,1,1,1,1],z1av N),([0,1,0,0,1,0,1,1,1,1,1,1,1,1,0,0,1,0,0,1,0,0,1,0,0,1,0,1,1,1,1,1,1,1,1,1,1],z1au N)]
theorem z1md {N:Nat} {c:Ctx} (hb:Base Tryz.prog (zwm N) c) : zq Tryz.prog c (zm z2k [0,1,0,1,1,1,1,1,1,1,1,0,0,1,0,0,1,0,0,1,0,0,1,0,1,1,1,1,1,1,1,1,1,1]) (z1ot N) :=
  z1k (s := [(3,.box zcw),(0,.box z2l),(0,.box z2l),(1,.row (.sl .str)),(0,.row z9n),(0,.v (.int .i64)),(0,.v (.int .i64)),(0,.box (.pair .str (.pair .str .unit))),(1,.v .str),(0,.v (.int .i64)),(0,.v (.int .i64)),(0,.v (.int .i64))]) (m := 261) (z1qw N) [16,14,5,3,11,15,4,13,8,7,10,9] N (fun x=>(x.1,x.2.1,x.2.2.1,x.2.2.2.1,x.2.2.2.2.1,x.2.2.2.2.2.1,x.2.2.2.2.2.2.1,x.2.2.2.2.2.2.2.1,x.2.2.2.2.2.2.2.2.1,x.2.2.2.2.2.2.2.2.2.1)) (fun x=>(x.2.2.2.2.2.2.2.2.2.2.1,x.2.2.2.2.2.2.2.2.2.2.2.1)) (fun i v=>(i.1,i.2.1,i.2.2.1,i.2.2.2.1,i.2.2.2.2.1,i.2.2.2.2.2.1,i.2.2.2.2.2.2.1,i.2.2.2.2.2.2.2.1,i.2.2.2.2.2.2.2.2.1,i.2.2.2.2.2.2.2.2.2,v.1,v.2,())) (fun _=>rfl) (zi hb N (t9_f2 N) zwo z2k (TabOk.cons (z1ds hb) (TabOk.cons (z1dr hb) TabOk.nil)) [0,0,1,0,1,1,1,1,1,1,1,1,0,0,1,0,0,1,0,0,1,0,0,1,0,1,1,1,1,1,1,1,1,1,1] _ rfl) (fun i v r K=>by kernel_rfl)
def zec (N:Nat) (b:(z2t × ((List z2t) × Unit))) (x4:z1i) (p:z1i) (tags:(List (List (List UInt8)))) (tokens:(List z2t)) (i:Int) (k:Int) (l:zlw) (ck:(List UInt8)) (e:Int) (at_:Int) (k0:Int -> Option z1i) : Option z1i :=
 zpg N b x4 p tags tokens i k l ck e at_ (IntKind.wrap IntKind.i64 ((((List.length b.2.1) : Nat) : Int) - (1 : Int)))
 (fun at_1=>k0 at_1)
def z1qx (N:Nat) (x:z1h [(3,.box zcw),(0,.box z2l),(0,.box z2l),(1,.row (.sl .str)),(0,.row z9n),(0,.v (.int .i64)),(0,.v (.int .i64)),(0,.box (.pair .str (.pair .str .unit))),(1,.v .str),(0,.v (.int .i64)),(0,.v (.int .i64))]) (K:Ex -> List A -> Option z1i) : Option z1i :=
 zec N x.1 x.2.1 x.2.2.1 x.2.2.2.1 x.2.2.2.2.1 x.2.2.2.2.2.1 x.2.2.2.2.2.2.1 x.2.2.2.2.2.2.2.1 x.2.2.2.2.2.2.2.2.1 x.2.2.2.2.2.2.2.2.2.1 x.2.2.2.2.2.2.2.2.2.2.1 (fun a8=>(K .normal (mkS [(3,.box zcw),(0,.box z2l),(0,.box z2l),(1,.row (.sl .str)),(0,.row z9n),(0,.v (.int .i64)),(0,.v (.int .i64)),(2,.v .str),(1,.v (.int .i64))] 262 (x.1,x.2.1,x.2.2.1,x.2.2.2.1,x.2.2.2.2.1,x.2.2.2.2.2.1,x.2.2.2.2.2.2.1,x.2.2.2.2.2.2.2.2.1,a8,()))))
def z1ou (N:Nat) : Hd z1i := fun st K=>(unS [(3,.box zcw),(0,.box z2l),(0,.box z2l),(1,.row (.sl .str)),(0,.row z9n),(0,.v (.int .i64)),(0,.v (.int .i64)),(0,.box (.pair .str (.pair .str .unit))),(1,.v .str),(0,.v (.int .i64)),(0,.v (.int .i64))] 262 (restr [3,14,5,11,15,4,13,8,7,10,9] 0 st)).bind fun x=>z1qx N x K
def t8_f2 (N:Nat) : Tab z1i := [([0,1,0,1,1,1,1,1,1,1,1,0,0,1,0,0,1,0,0,1,0,0,1,0,1,1,1,1,1,1,1,1,1,1],z1ot N)]
theorem z1me {N:Nat} {c:Ctx} (hb:Base Tryz.prog (zwm N) c) : zq Tryz.prog c (zm z2k [0,1,1,1,1,1,1,1,1,0,0,1,0,0,1,0,0,1,0,0,1,0,1,1,1,1,1,1,1,1,1,1]) (z1ou N) :=
  z17 (s := [(3,.box zcw),(0,.box z2l),(0,.box z2l),(1,.row (.sl .str)),(0,.row z9n),(0,.v (.int .i64)),(0,.v (.int .i64)),(0,.box (.pair .str (.pair .str .unit))),(1,.v .str),(0,.v (.int .i64)),(0,.v (.int .i64))]) (m := 262) (g := z1qx N) [3,14,5,11,15,4,13,8,7,10,9] (zi hb N (t8_f2 N) zwo z2k (TabOk.cons (z1md hb) TabOk.nil) [0,1,1,1,1,1,1,1,1,0,0,1,0,0,1,0,0,1,0,0,1,0,1,1,1,1,1,1,1,1,1,1] _ rfl) (fun x K=>by kernel_rfl)
def zkp (N:Nat) (b:(z2t × ((List z2t) × Unit))) (x4:z1i) (p:z1i) (tags:(List (List (List UInt8)))) (tokens:(List z2t)) (i:Int) (k:Int) (k0:z1i -> (List (List (List UInt8))) -> (List z2t) -> Option z1i) (k1:z1i -> Option z1i) : Option z1i :=
 cond (inR i (List.length tokens))
 (cond (decide ((Int.toNat i) < (List.length tokens)))
 (cond (inR k (List.length (List.getD tokens (Int.toNat i) (([] : List UInt8),(([] : List zlw),(([] : List UInt8),())))).2.1))
 (cond ((List.getD (List.getD tokens (Int.toNat i) (([] : List UInt8),(([] : List zlw),(([] : List UInt8),())))).2.1 (Int.toNat k) (([] : List UInt8),(([] : List UInt8),()))).2.1 == ([] : List UInt8))
 (cond (decide ((((List.length p.2.1) + 1) * 16) <= 70368744177664))
 (k0 (p.1,((p.2.1 ++ ([(List.getD (List.getD tokens (Int.toNat i) (([] : List UInt8),(([] : List zlw),(([] : List UInt8),())))).2.1 (Int.toNat k) (([] : List UInt8),(([] : List UInt8),()))).1] : List (List UInt8))),p.2.2)) tags tokens)
 (none))
 (cond (inR i (List.length tags))
 (cond (decide ((Int.toNat i) < (List.length tags)))
 (cond (inR k (List.length (List.getD tags (Int.toNat i) ([] : List (List UInt8)))))
 ((zz N (List.getD (List.getD tags (Int.toNat i) ([] : List (List UInt8))) (Int.toNat k) ([] : List UInt8)) ([([(115 : UInt8),(101 : UInt8),(97 : UInt8),(108 : UInt8)] : List UInt8)] : List (List UInt8))).bind fun y =>
 cond (inR i (List.length tags))
 (cond (decide ((Int.toNat i) < (List.length tags)))
 (cond (inR k (List.length (List.getD tags (Int.toNat i) ([] : List (List UInt8)))))
 ((z1f N ([([(115 : UInt8),(101 : UInt8),(97 : UInt8),(108 : UInt8)] : List UInt8)] : List (List UInt8))).bind fun y1 =>
 (z1a N (List.getD (List.getD tags (Int.toNat i) ([] : List (List UInt8))) (Int.toNat k) ([] : List UInt8)) y1).bind fun y2 =>
 cond (decide ((((List.length p.2.2.2.2.1) + (List.length y2)) * 16) <= 70368744177664))
 ((z2b N y (List.getD (List.getD tokens (Int.toNat i) (([] : List UInt8),(([] : List zlw),(([] : List UInt8),())))).2.1 (Int.toNat k) (([] : List UInt8),(([] : List UInt8),()))).2.1).bind fun y3 =>
 cond (decide ((((List.length (p.2.2.2.2.1 ++ y2)) + (List.length y3)) * 16) <= 70368744177664))
 ((z1q N y (List.getD (List.getD tokens (Int.toNat i) (([] : List UInt8),(([] : List zlw),(([] : List UInt8),())))).2.1 (Int.toNat k) (([] : List UInt8),(([] : List UInt8),()))).2.1).bind fun y4 =>
 zec N b x4 (p.1,(p.2.1,((IntKind.wrap IntKind.i64 (p.2.2.1 + (1 : Int))),(p.2.2.2.1,(((p.2.2.2.2.1 ++ y2) ++ y3),p.2.2.2.2.2))))) tags tokens i k (List.getD (List.getD tokens (Int.toNat i) (([] : List UInt8),(([] : List zlw),(([] : List UInt8),())))).2.1 (Int.toNat k) (([] : List UInt8),(([] : List UInt8),()))) y4.1 y4.2.1 (-(1 : Int))
 (fun at_=>cond (decide (at_ < (0 : Int)))
 (k1 (p.1,(p.2.1,((IntKind.wrap IntKind.i64 (p.2.2.1 + (1 : Int))),((11 : Int),(((p.2.2.2.2.1 ++ y2) ++ y3),p.2.2.2.2.2))))))
 (cond (inR at_ (List.length p.1))
 (cond (decide ((Int.toNat at_) < (List.length p.1)))
 (cond (inR at_ (List.length b.2.1))
 ((z39 N y4.1 (List.getD b.2.1 (Int.toNat at_) (([] : List UInt8),(([] : List zlw),(([] : List UInt8),()))))).bind fun y5 =>
 cond (inR at_ (List.length b.2.1))
 ((z3f N y4.1 (List.getD b.2.1 (Int.toNat at_) (([] : List UInt8),(([] : List zlw),(([] : List UInt8),()))))).bind fun y6 =>
 cond (decide ((((List.length ((p.2.2.2.2.1 ++ y2) ++ y3)) + (List.length y6)) * 16) <= 70368744177664))
 ((z38 N y5).bind fun y7 =>
 (z1f N ([([(98 : UInt8),(105 : UInt8),(110 : UInt8),(100 : UInt8)] : List UInt8),y7] : List (List UInt8))).bind fun y8 =>
 (z1a N b.1.2.2.1 y8).bind fun y9 =>
 cond (decide ((((List.length (((p.2.2.2.2.1 ++ y2) ++ y3) ++ y6)) + (List.length y9)) * 16) <= 70368744177664))
 ((z38 N y5).bind fun y10 =>
 (zz N b.1.2.2.1 ([([(98 : UInt8),(105 : UInt8),(110 : UInt8),(100 : UInt8)] : List UInt8),y10] : List (List UInt8))).bind fun y11 =>
 cond (inR at_ (List.length b.2.1))
 (cond (!(y11 == (List.getD b.2.1 (Int.toNat at_) (([] : List UInt8),(([] : List zlw),(([] : List UInt8),())))).2.2.1))
 (k1 ((List.set p.1 (Int.toNat at_) true),(p.2.1,((IntKind.wrap IntKind.i64 ((IntKind.wrap IntKind.i64 ((IntKind.wrap IntKind.i64 (p.2.2.1 + (1 : Int))) + (((List.length y5) : Nat) : Int))) + (1 : Int))),((11 : Int),(((((p.2.2.2.2.1 ++ y2) ++ y3) ++ y6) ++ y9),p.2.2.2.2.2))))))
 (cond (inR at_ (List.length b.2.1))
 (cond (decide ((((List.length tokens) + 1) * 56) <= 70368744177664))
 (cond (decide ((((List.length tags) + 1) * 24) <= 70368744177664))
 (k0 ((List.set p.1 (Int.toNat at_) true),(p.2.1,((IntKind.wrap IntKind.i64 ((IntKind.wrap IntKind.i64 ((IntKind.wrap IntKind.i64 (p.2.2.1 + (1 : Int))) + (((List.length y5) : Nat) : Int))) + (1 : Int))),(p.2.2.2.1,(((((p.2.2.2.2.1 ++ y2) ++ y3) ++ y6) ++ y9),p.2.2.2.2.2))))) (tags ++ ([y5] : List (List (List UInt8)))) (tokens ++ ([(List.getD b.2.1 (Int.toNat at_) (([] : List UInt8),(([] : List zlw),(([] : List UInt8),()))))] : List z2t)))
 (none))
 (none))
 (none)))
 (none))
 (none))
 (none))
 (none))
 (none))
 (none))
 (none))))
 (none))
 (none))
 (none))
 (none))
 (none))
 (none))
 (none))
 (none)))
 (none))
 (none))
 (none)
def z1qy (N:Nat) (x:z1h [(3,.box zcw),(0,.box z2l),(0,.box z2l),(1,.row (.sl .str)),(0,.row z9n),(0,.v (.int .i64)),(0,.v (.int .i64))]) (K:Ex -> List A -> Option z1i) : Option z1i :=
 zkp N x.1 x.2.1 x.2.2.1 x.2.2.2.1 x.2.2.2.2.1 x.2.2.2.2.2.1 x.2.2.2.2.2.2.1 (fun a2 a3 a4=>(K .normal (mkS [(3,.box zcw),(0,.box z2l),(0,.box z2l),(1,.row (.sl .str)),(0,.row z9n),(0,.v (.int .i64)),(0,.v (.int .i64))] 267 (x.1,x.2.1,a2,a3,a4,x.2.2.2.2.2.1,x.2.2.2.2.2.2.1,())))) (fun a0=>(K .ret (mkS [(4,.box z2l)] 273 (a0,()))))
def z1ov (N:Nat) : Hd z1i := fun st K=>(unS [(3,.box zcw),(0,.box z2l),(0,.box z2l),(1,.row (.sl .str)),(0,.row z9n),(0,.v (.int .i64)),(0,.v (.int .i64))] 267 (restr [8,9,10,5,7,3,4] 0 st)).bind fun x=>z1qy N x K
def t7_f2 (N:Nat) : Tab z1i := [([0,1,1,1,1,1,1,1,1,0,0,1,0,0,1,0,0,1,0,0,1,0,1,1,1,1,1,1,1,1,1,1],z1ou N)]
theorem z1mf {N:Nat} {c:Ctx} (hb:Base Tryz.prog (zwm N) c) : zq Tryz.prog c (zm z2k [0,1,0,0,1,0,0,1,0,0,1,0,1,1,1,1,1,1,1,1,1,1]) (z1ov N) :=
  z17 (s := [(3,.box zcw),(0,.box z2l),(0,.box z2l),(1,.row (.sl .str)),(0,.row z9n),(0,.v (.int .i64)),(0,.v (.int .i64))]) (m := 267) (g := z1qy N) [8,9,10,5,7,3,4] (zi hb N (t7_f2 N) zwo z2k (TabOk.cons (z1me hb) TabOk.nil) [0,1,0,0,1,0,0,1,0,0,1,0,1,1,1,1,1,1,1,1,1,1] _ rfl) (fun x K=>by kernel_rfl)
def zpd (N:Nat) (b:(z2t × ((List z2t) × Unit))) (x4:z1i) (i:Int) (p:z1i) (tags:(List (List (List UInt8)))) (tokens:(List z2t)) (k:Int) (rec:z1i -> (List (List (List UInt8))) -> (List z2t) -> Int -> Option z1i) (k0:z1i -> Option z1i) (k1:z1i -> (List (List (List UInt8))) -> (List z2t) -> Option z1i) : Option z1i :=
 cond (inR i (List.length tokens))
 (cond (decide ((Int.toNat i) < (List.length tokens)))
 (cond (decide (k < (((List.length (List.getD tokens (Int.toNat i) (([] : List UInt8),(([] : List zlw),(([] : List UInt8),())))).2.1) : Nat) : Int)))
 (zkp N b x4 p tags tokens i k
 (fun p1 tags1 tokens1=>rec p1 tags1 tokens1 (IntKind.wrap IntKind.i64 (k + (1 : Int))))
 (fun x41=>k0 x41))
 (k1 p tags tokens))
 (none))
 (none)
def zph (N:Nat) (b:(z2t × ((List z2t) × Unit))) (x4:z1i) (p:z1i) (tags:(List (List (List UInt8)))) (tokens:(List z2t)) (i:Int) (k:Int) (k0:z1i -> Option z1i) (k1:z1i -> (List (List (List UInt8))) -> (List z2t) -> Option z1i) : Option z1i :=
 iter (fun (v:(z1i × (List (List (List UInt8))) × (List z2t) × Int)) r=>zpd N b x4 i v.1 v.2.1 v.2.2.1 v.2.2.2 (fun p tags tokens k=>(r (p,tags,tokens,k))) k0 k1) N (p,tags,tokens,k)
def z1r0 (N:Nat) (i:((z2t × ((List z2t) × Unit)) × z1i × Int)) (v:(z1i × (List (List (List UInt8))) × (List z2t) × Int)) (r:(z1i × (List (List (List UInt8))) × (List z2t) × Int) -> Option z1i) (K:Ex -> List A -> Option z1i) : Option z1i :=
 zpd N i.1 i.2.1 i.2.2 v.1 v.2.1 v.2.2.1 v.2.2.2 (fun p tags tokens k=>(r (p,tags,tokens,k))) (fun a0=>(K .ret (mkS [(4,.box z2l)] 273 (a0,())))) (fun a2 a3 a4=>(K (.exit 4) (mkS [(3,.box zcw),(0,.box z2l),(0,.box z2l),(1,.row (.sl .str)),(0,.row z9n),(0,.v (.int .i64))] 268 (i.1,i.2.1,a2,a3,a4,i.2.2,()))))
def z1ox (N:Nat) : Hd z1i := fun st K=>(unS [(3,.box zcw),(0,.box z2l),(0,.box z2l),(1,.row (.sl .str)),(0,.row z9n),(0,.v (.int .i64)),(0,.v (.int .i64))] 267 (restr [10,8,9,5,7,3,4] 0 st)).bind fun x=>iter (fun v r=>z1r0 N ((fun x=>(x.1,x.2.1,x.2.2.2.2.2.1)) x) v r K) N ((fun x=>(x.2.2.1,x.2.2.2.1,x.2.2.2.2.1,x.2.2.2.2.2.2.1)) x)
def t6_f2 (N:Nat) : Tab z1i := [([0,1,0,0,1,0,0,1,0,0,1,0,1,1,1,1,1,1,1,1,1,1],z1ov N)]
theorem z1mh {N:Nat} {c:Ctx} (hb:Base Tryz.prog (zwm N) c) : zq Tryz.prog c (zm z2k [0,1,0,0,1,0,0,1,0,1,1,1,1,1,1,1,1,1,1]) (z1ox N) :=
  z1k (s := [(3,.box zcw),(0,.box z2l),(0,.box z2l),(1,.row (.sl .str)),(0,.row z9n),(0,.v (.int .i64)),(0,.v (.int .i64))]) (m := 267) (z1r0 N) [10,8,9,5,7,3,4] N (fun x=>(x.1,x.2.1,x.2.2.2.2.2.1)) (fun x=>(x.2.2.1,x.2.2.2.1,x.2.2.2.2.1,x.2.2.2.2.2.2.1)) (fun i v=>(i.1,i.2.1,v.1,v.2.1,v.2.2.1,i.2.2,v.2.2.2,())) (fun _=>rfl) (zi hb N (t6_f2 N) zwo z2k (TabOk.cons (z1mf hb) TabOk.nil) [0,0,1,0,0,1,0,0,1,0,1,1,1,1,1,1,1,1,1,1] _ rfl) (fun i v r K=>by kernel_rfl)
def zpe (N:Nat) (b:(z2t × ((List z2t) × Unit))) (x4:z1i) (p:z1i) (tags:(List (List (List UInt8)))) (tokens:(List z2t)) (i:Int) (rec:z1i -> (List (List (List UInt8))) -> (List z2t) -> Int -> Option z1i) (k0:z1i -> Option z1i) (k1:z1i -> Option z1i) : Option z1i :=
 cond (decide (i < (((List.length tokens) : Nat) : Int)))
 (zph N b x4 p tags tokens i (0 : Int)
 (fun x41=>k0 x41)
 (fun p1 tags1 tokens1=>rec p1 tags1 tokens1 (IntKind.wrap IntKind.i64 (i + (1 : Int)))))
 (k1 p)
def zpi (N:Nat) (b:(z2t × ((List z2t) × Unit))) (x4:z1i) (p:z1i) (tags:(List (List (List UInt8)))) (tokens:(List z2t)) (i:Int) (k0:z1i -> Option z1i) (k1:z1i -> Option z1i) : Option z1i :=
 iter (fun (v:(z1i × (List (List (List UInt8))) × (List z2t) × Int)) r=>zpe N b x4 v.1 v.2.1 v.2.2.1 v.2.2.2 (fun p tags tokens i=>(r (p,tags,tokens,i))) k0 k1) N (p,tags,tokens,i)
def z1r2 (N:Nat) (i:((z2t × ((List z2t) × Unit)) × z1i)) (v:(z1i × (List (List (List UInt8))) × (List z2t) × Int)) (r:(z1i × (List (List (List UInt8))) × (List z2t) × Int) -> Option z1i) (K:Ex -> List A -> Option z1i) : Option z1i :=
 zpe N i.1 i.2 v.1 v.2.1 v.2.2.1 v.2.2.2 (fun p tags tokens i=>(r (p,tags,tokens,i))) (fun a0=>(K .ret (mkS [(4,.box z2l)] 273 (a0,())))) (fun a1=>(K (.exit 2) (mkS [(4,.box z2l),(0,.box z2l)] 272 (i.2,a1,()))))
def z1oz (N:Nat) : Hd z1i := fun st K=>(unS [(3,.box zcw),(0,.box z2l),(0,.box z2l),(1,.row (.sl .str)),(0,.row z9n),(0,.v (.int .i64))] 268 (restr [9,8,5,7,3,4] 0 st)).bind fun x=>iter (fun v r=>z1r2 N ((fun x=>(x.1,x.2.1)) x) v r K) N ((fun x=>(x.2.2.1,x.2.2.2.1,x.2.2.2.2.1,x.2.2.2.2.2.1)) x)
def t5_f2 (N:Nat) : Tab z1i := [([0,1,0,0,1,0,0,1,0,1,1,1,1,1,1,1,1,1,1],z1ox N)]
theorem z1mj {N:Nat} {c:Ctx} (hb:Base Tryz.prog (zwm N) c) : zq Tryz.prog c (zm z2k [0,1,0,1,1,1,1,1,1,1,1,1,1]) (z1oz N) :=
  z1k (s := [(3,.box zcw),(0,.box z2l),(0,.box z2l),(1,.row (.sl .str)),(0,.row z9n),(0,.v (.int .i64))]) (m := 268) (z1r2 N) [9,8,5,7,3,4] N (fun x=>(x.1,x.2.1)) (fun x=>(x.2.2.1,x.2.2.2.1,x.2.2.2.2.1,x.2.2.2.2.2.1)) (fun i v=>(i.1,i.2,v.1,v.2.1,v.2.2.1,v.2.2.2,())) (fun _=>rfl) (zi hb N (t5_f2 N) zwo z2k (TabOk.cons (z1mh hb) TabOk.nil) [0,0,1,0,1,1,1,1,1,1,1,1,1,1] _ rfl) (fun i v r K=>by kernel_rfl)
def zm7 (N:Nat) (x4:z1i) (p:z1i) (i:Int) (k0:z1i -> Option z1i) : Option z1i :=
 cond (inR i (List.length p.1))
 (cond (decide ((Int.toNat i) < (List.length p.1)))
 (cond (!(List.getD p.1 (Int.toNat i) false))
 (k0 (p.1,(p.2.1,(p.2.2.1,((11 : Int),p.2.2.2.2)))))
 (k0 p))
 (none))
 (none)
def z1bd (N:Nat) (x:z1h [(4,.box z2l),(0,.box z2l),(12,.v (.int .i64))]) (K:Ex -> List A -> Option z1i) : Option z1i :=
 zm7 N x.1 x.2.1 x.2.2.1 (fun a1=>(K .normal (mkS [(4,.box z2l),(0,.box z2l),(12,.v (.int .i64))] 259 (x.1,a1,x.2.2.1,()))))
def z1ar (N:Nat) : Hd z1i := fun st K=>(unS [(4,.box z2l),(0,.box z2l),(12,.v (.int .i64))] 259 (restr [5,18,4] 0 st)).bind fun x=>z1bd N x K
def z1lx (N:Nat) : Tab z1i := []
theorem z1do {N:Nat} {c:Ctx} (hb:Base Tryz.prog (zwm N) c) : zq Tryz.prog c (zm z2k [0,1,0,0,1,0,1,1,1,1,1,1,1,1,1,1,1]) (z1ar N) :=
  z17 (s := [(4,.box z2l),(0,.box z2l),(12,.v (.int .i64))]) (m := 259) (g := z1bd N) [5,18,4] (zi hb N (z1lx N) zwo z2k TabOk.nil [0,1,0,0,1,0,1,1,1,1,1,1,1,1,1,1,1] _ rfl) (fun x K=>by kernel_rfl)
def zm6 (N:Nat) (x4:z1i) (p:z1i) (i:Int) (rec:z1i -> Int -> Option z1i) (k0:z1i -> Option z1i) : Option z1i :=
 cond (decide (i < (((List.length p.1) : Nat) : Int)))
 (zm7 N x4 p i
 (fun p1=>rec p1 (IntKind.wrap IntKind.i64 (i + (1 : Int)))))
 (k0 p)
def zm8 (N:Nat) (x4:z1i) (p:z1i) (i:Int) (k0:z1i -> Option z1i) : Option z1i :=
 iter (fun (v:(z1i × Int)) r=>zm6 N x4 v.1 v.2 (fun p i=>(r (p,i))) k0) N (p,i)
def z1be (N:Nat) (i:z1i) (v:(z1i × Int)) (r:(z1i × Int) -> Option z1i) (K:Ex -> List A -> Option z1i) : Option z1i :=
 zm6 N i v.1 v.2 (fun p i=>(r (p,i))) (fun a1=>(K (.exit 8) (mkS [(4,.box z2l),(0,.box z2l)] 272 (i,a1,()))))
def z1as (N:Nat) : Hd z1i := fun st K=>(unS [(4,.box z2l),(0,.box z2l),(12,.v (.int .i64))] 259 (restr [18,5,4] 0 st)).bind fun x=>iter (fun v r=>z1be N ((fun x=>x.1) x) v r K) N ((fun x=>(x.2.1,x.2.2.1)) x)
def z1ly (N:Nat) : Tab z1i := [([0,1,0,0,1,0,1,1,1,1,1,1,1,1,1,1,1],z1ar N)]
theorem z1dp {N:Nat} {c:Ctx} (hb:Base Tryz.prog (zwm N) c) : zq Tryz.prog c (zm z2k [0,1,0,1,1,1,1,1,1,1,1,1,1,1]) (z1as N) :=
  z1k (s := [(4,.box z2l),(0,.box z2l),(12,.v (.int .i64))]) (m := 259) (z1be N) [18,5,4] N (fun x=>x.1) (fun x=>(x.2.1,x.2.2.1)) (fun i v=>(i,v.1,v.2,())) (fun _=>rfl) (zi hb N (z1ly N) zwo z2k (TabOk.cons (z1do hb) TabOk.nil) [0,0,1,0,1,1,1,1,1,1,1,1,1,1,1] _ rfl) (fun i v r K=>by kernel_rfl)
def zn4 (N:Nat) (key:(List UInt8)) (b:(z2t × ((List z2t) × Unit))) : Option z1i :=
 zpm N key b (([] : List Bool),(([] : List (List UInt8)),((0 : Int),((0 : Int),(([] : List (List UInt8)),()))))) (([] : List Bool),(([] : List (List UInt8)),((0 : Int),((0 : Int),(([] : List (List UInt8)),()))))) (0 : Int)
 (fun p=>zpk N key b (([] : List Bool),(([] : List (List UInt8)),((0 : Int),((0 : Int),(([] : List (List UInt8)),()))))) p
 (fun p1=>cond (p1.2.2.2.1 != (0 : Int))
 (some p1)
 ((z39 N key b.1).bind fun y =>
 (z3f N key b.1).bind fun y1 =>
 (z38 N y).bind fun y2 =>
 cond (!(y2 == b.1.2.2.1))
 (some (p1.1,(p1.2.1,((((List.length y) : Nat) : Int),((8 : Int),(y1,p1.2.2.2.2.2))))))
 (zpi N b (([] : List Bool),(([] : List (List UInt8)),((0 : Int),((0 : Int),(([] : List (List UInt8)),()))))) (p1.1,(p1.2.1,((((List.length y) : Nat) : Int),(p1.2.2.2.1,(y1,p1.2.2.2.2.2))))) ([y] : List (List (List UInt8))) ([b.1] : List z2t) (0 : Int)
 (fun x4=>some x4)
 (fun p2=>zm8 N (([] : List Bool),(([] : List (List UInt8)),((0 : Int),((0 : Int),(([] : List (List UInt8)),()))))) p2 (0 : Int)
 (fun p3=>some p3))))))
def t_f2 (N:Nat) : Tab z1i := [([0,1,0,1,1],z1pr N),([0,1,1,1],z1p7 N),([0,1,0,1,1,1,1,1,1,1,1,1,1],z1oz N),([0,1,0,1,1,1,1,1,1,1,1,1,1,1],z1as N)]
theorem z1e0 (N:Nat) (x:z1h [(0,.v .str),(0,.v zcw)]) : z2q (zwm N) N (t_f2 N) zwo Tryz.f9 (mkS [(0,.v .str),(0,.v zcw)] 0 x) (z1d (.ov z2l) 2) = zn4 N x.1 x.2.1 := by kernel_rfl
def zs7 (N:Nat) : List A -> Res := z10 [(0,.v .str),(0,.v zcw)] (fun x=>zn4 N x.1 x.2.1) (z2p (.ov z2l) 2)
theorem z13q (N:Nat) : Contract Tryz.prog glob 9 (zs7 N) :=
  Contract.of (E := zwm N) (H := t_f2 N) (L := zwo) (N := N) (body := z2k) (K := (z1d (.ov z2l) 2)) (z1u6 N) Tryz.func9 (by kernel_rfl) (by decide) (fun _ hb=>(TabOk.cons (z1nb hb) (TabOk.cons (z1mr hb) (TabOk.cons (z1mj hb) (TabOk.cons (z1dp hb) TabOk.nil))))) (fun x y h=>by rw [z1e0]; exact h) (zn (s := (.ov z2l)) (m := 2))
end
end Go.Proofs.YtkipbccgnekoaaaGreatDoorLg
set_option linter.all false
set_option maxRecDepth 100000
namespace Go.Proofs.YtkipbccgnekoaaaGreatDoorLg
noncomputable section
open Go Go.Lift
abbrev z5f : Type := ((List UInt8) × ((List ((List UInt8) × ((List UInt8) × Unit))) × ((List UInt8) × Unit)))
abbrev z44 : T := (.pair .str (.pair (.sl (.pair .str (.pair .str .unit))) (.pair .str .unit)))
def zyd : Code := (Tryz.f25.body).getD .skip
def L_g0 : List (List Nat × List Nat) := [([0],[2,1,4]),([0,1],[1,5,2,4]),([0,0,1,1],[13,12,11,5,2,4]),([0,1,0,1,1],[13,12,11,5,2,4]),([0,0,0,1,0,1,1],[14,11,13,5,2,12,4]),([0,1,0,0,1,0,1,1],[11,13,5,2,12,4]),([1,0,1,0,0,1,0,1,1],[5,4]),([0,0,0,1,1,0,0,1,0,1,1],[5,2,7,13,12,11,4]),([1,0,0,1,1,0,0,1,0,1,1],[13,12,11,5,2,4]),([0,1,1,0,0,1,0,1,1],[13,12,11,5,2,4]),([1,1,1,0,0,1,0,1,1],[13,12,11,5,2,4]),([1,0,1,1],[5,4]),([0,1,1,1],[4]),([1,1,1,1],[4])]
def E_g0 (N:Nat) : Env := z16 tys glob [(24,zcl N),(52,z7d N)] [] [] [] false [(5,(.pair (.pair .str (.pair (.own (.pair .str (.pair .str .unit))) (.pair .str .unit))) (.pair (.own z44) .unit))),(10,(.pair (.pair .str (.pair (.own (.pair .str (.pair .str .unit))) (.pair .str .unit))) (.pair (.own z44) .unit)))] [(112,z1v N),(123,zd N),(66,zb N),(98,z7 N)]
theorem z1u5 (N:Nat) : EnvOk Tryz.prog (E_g0 N) := zk mixed zo (FnsOk.cons (zit N) (FnsOk.cons (zci N) (FnsOk.nil))) (ItsOk.cons (z2g N) (ItsOk.cons (zf N) (ItsOk.cons (ze N) (ItsOk.cons (z8 N) (ItsOk.nil)))))
def zmv (N:Nat) (t:z5f) (x4:(z5f × ((List z5f) × Unit))) (x11:(List z5f)) (x12:Int) (b:(z5f × ((List z5f) × Unit))) (x13:Int) (rec:(z5f × ((List z5f) × Unit)) -> Int -> Option (z5f × ((List z5f) × Unit))) (k0:(z5f × ((List z5f) × Unit)) -> Option (z5f × ((List z5f) × Unit))) : Option (z5f × ((List z5f) × Unit)) :=
 cond (decide (x13 < x12))
 (cond (inR x13 (List.length x11))
 ((z7u N t (List.getD x11 (Int.toNat x13) (([] : List UInt8),(([] : List ((List UInt8) × ((List UInt8) × Unit))),(([] : List UInt8),()))))).bind fun y =>
 cond (decide ((((List.length b.2.1) + 1) * 56) <= 70368744177664))
 (rec (b.1,((b.2.1 ++ ([y] : List z5f)),b.2.2)) (IntKind.wrap IntKind.i64 (x13 + (1 : Int))))
 (none))
 (none))
 (k0 b)
def zsv (N:Nat) (t:z5f) (x4:(z5f × ((List z5f) × Unit))) (b:(z5f × ((List z5f) × Unit))) (x11:(List z5f)) (x12:Int) (x13:Int) (k0:(z5f × ((List z5f) × Unit)) -> Option (z5f × ((List z5f) × Unit))) : Option (z5f × ((List z5f) × Unit)) :=
 iter (fun (v:((z5f × ((List z5f) × Unit)) × Int)) r=>zmv N t x4 x11 x12 v.1 v.2 (fun b x13=>(r (b,x13))) k0) N (b,x13)
def z1rt (N:Nat) (i:(z5f × (z5f × ((List z5f) × Unit)) × (List z5f) × Int)) (v:((z5f × ((List z5f) × Unit)) × Int)) (r:((z5f × ((List z5f) × Unit)) × Int) -> Option (z5f × ((List z5f) × Unit))) (K:Ex -> List A -> Option (z5f × ((List z5f) × Unit))) : Option (z5f × ((List z5f) × Unit)) :=
 zmv N i.1 i.2.1 i.2.2.1 i.2.2.2 v.1 v.2 (fun b x13=>(r (b,x13))) (fun a1=>(K (.exit 0) (mkS [(4,.box (.pair z44 (.pair (.sl z44) .unit))),(0,.box (.pair (.pair .str (.pair (.own (.pair .str (.pair .str .unit))) (.pair .str .unit))) (.pair (.own z44) .unit)))] 21 (i.2.1,a1,()))))
def z1pq (N:Nat) : Hd (z5f × ((List z5f) × Unit)) := fun st K=>(unS [(2,.box z44),(1,.box (.pair z44 (.pair (.sl z44) .unit))),(0,.box (.pair (.pair .str (.pair (.own (.pair .str (.pair .str .unit))) (.pair .str .unit))) (.pair (.own z44) .unit))),(5,.v (.sl z44)),(0,.v (.int .i64)),(0,.v (.int .i64))] 13 (restr [13,12,11,5,2,4] 0 st)).bind fun x=>iter (fun v r=>z1rt N ((fun x=>(x.1,x.2.1,x.2.2.2.1,x.2.2.2.2.1)) x) v r K) N ((fun x=>(x.2.2.1,x.2.2.2.2.2.1)) x)
def t1_g0 (N:Nat) : Tab (z5f × ((List z5f) × Unit)) := []
theorem z1na {N:Nat} {c:Ctx} (hb:Base Tryz.prog (E_g0 N) c) : zq Tryz.prog c (zm zyd [0,1,0,1,1]) (z1pq N) :=
  z1k (s := [(2,.box z44),(1,.box (.pair z44 (.pair (.sl z44) .unit))),(0,.box (.pair (.pair .str (.pair (.own (.pair .str (.pair .str .unit))) (.pair .str .unit))) (.pair (.own z44) .unit))),(5,.v (.sl z44)),(0,.v (.int .i64)),(0,.v (.int .i64))]) (m := 13) (z1rt N) [13,12,11,5,2,4] N (fun x=>(x.1,x.2.1,x.2.2.2.1,x.2.2.2.2.1)) (fun x=>(x.2.2.1,x.2.2.2.2.2.1)) (fun i v=>(i.1,i.2.1,v.1,i.2.2.1,i.2.2.2,v.2,())) (fun _=>rfl) (zi hb N (t1_g0 N) L_g0 zyd TabOk.nil [0,0,1,0,1,1] _ rfl) (fun i v r K=>by kernel_rfl)
def zfy (N:Nat) (t:z5f) (discharges:(List z5f)) : Option (z5f × ((List z5f) × Unit)) :=
 (z5x N t).bind fun y =>
 zsv N t ((([] : List UInt8),(([] : List ((List UInt8) × ((List UInt8) × Unit))),(([] : List UInt8),()))),(([] : List z5f),())) (y,(([] : List z5f),())) discharges (((List.length discharges) : Nat) : Int) (0 : Int)
 (fun b=>some ((b.1.1,(b.1.2.1,(b.1.2.2.1,b.1.2.2.2))),(b.2.1,b.2.2)))
def t_g0 (N:Nat) : Tab (z5f × ((List z5f) × Unit)) := [([0,1,0,1,1],z1pq N)]
theorem z1dz (N:Nat) (x:z1h [(0,.v z44),(0,.v (.sl z44))]) : z2q (E_g0 N) N (t_g0 N) L_g0 Tryz.f25 (mkS [(0,.v z44),(0,.v (.sl z44))] 0 x) (z1d (.v (.pair z44 (.pair (.sl z44) .unit))) 2) = zfy N x.1 x.2.1 := by kernel_rfl
def zqo (N:Nat) : List A -> Res := z10 [(0,.v z44),(0,.v (.sl z44))] (fun x=>zfy N x.1 x.2.1) (z2p (.v (.pair z44 (.pair (.sl z44) .unit))) 2)
theorem z129 (N:Nat) : Contract Tryz.prog glob 25 (zqo N) :=
  Contract.of (E := E_g0 N) (H := t_g0 N) (L := L_g0) (N := N) (body := zyd) (K := (z1d (.v (.pair z44 (.pair (.sl z44) .unit))) 2)) (z1u5 N) Tryz.func25 (by kernel_rfl) (by decide) (fun _ hb=>(TabOk.cons (z1na hb) TabOk.nil)) (fun x y h=>by rw [z1dz]; exact h) (zn (s := (.v (.pair z44 (.pair (.sl z44) .unit)))) (m := 2))
def z9j : Code := (Tryz.f5.body).getD .skip
def z1bv : List (List Nat × List Nat) := [([0],[0,1,2]),([0,0,1],[40,0,1,2]),([1,0,1],[0,1,2]),([0,0,1,0,1],[6]),([1,0,1,0,1],[6]),([0,1,1],[7,1,2,0]),([0,1,1,1],[8,7,1,2,9,0]),([0,1,1,1,1],[7,8,1,2,9,11,10,0]),([0,1,1,1,1,1],[12,1,2,9,11,13,10,0]),([0,1,1,1,1,1,1],[12,2,9,11,13,15,14,10,0]),([0,1,1,1,1,1,1,1],[9,11,13,15,17,14,16,10,0]),([0,0,1,1,1,1,1,1,1,1],[89,14,16,10,0]),([1,0,1,1,1,1,1,1,1,1],[14,16,10,0]),([0,0,1,0,1,1,1,1,1,1,1,1],[6]),([1,0,1,0,1,1,1,1,1,1,1,1],[6]),([0,1,1,1,1,1,1,1,1,1],[0,14,10,18,16]),([0,1,1,1,1,1,1,1,1,1,1],[0,18,20,16,10]),([0,1,1,1,1,1,1,1,1,1,1,1],[20,22,0,18,16,10]),([0,0,1,1,1,1,1,1,1,1,1,1,1,1],[116,20,0,18,16,10]),([1,0,1,1,1,1,1,1,1,1,1,1,1,1],[0,18,16,10]),([0,0,1,0,1,1,1,1,1,1,1,1,1,1,1,1],[6]),([1,0,1,0,1,1,1,1,1,1,1,1,1,1,1,1],[6]),([0,1,1,1,1,1,1,1,1,1,1,1,1,1],[6]),([1,1,1,1,1,1,1,1,1,1,1,1,1,1],[6])]
def z19r (N:Nat) : Env := z16 tys glob [(25,zqo N),(7,za9 N),(8,z98 N),(9,zs7 N),(17,za8 N),(19,z5d N),(20,zej N),(21,zsr N),(22,zgg N),(23,z7a N),(24,zcl N)] [(19,.str),(21,.str)] [] [] false [] [(112,z1v N),(123,zd N),(66,zb N),(98,z7 N)]
theorem z1u4 (N:Nat) : EnvOk Tryz.prog (z19r N) := zk mixed zo (FnsOk.cons (z129 N) (FnsOk.cons (zij N) (FnsOk.cons (zg3 N) (FnsOk.cons (z13q N) (FnsOk.cons (zii N) (FnsOk.cons (z92 N) (FnsOk.cons (zo2 N) (FnsOk.cons (zw5 N) (FnsOk.cons (zq7 N) (FnsOk.cons (zb8 N) (FnsOk.cons (zit N) (FnsOk.nil)))))))))))) (ItsOk.cons (z2g N) (ItsOk.cons (zf N) (ItsOk.cons (ze N) (ItsOk.cons (z8 N) (ItsOk.nil)))))
def zoc (N:Nat) (key:(List UInt8)) (a:(List UInt8)) (b:(List UInt8)) (k0:Bool -> Option Bool) : Option Bool :=
 cond ((((List.length key) : Nat) : Int) != (32 : Int))
 (k0 true)
 (cond (a == b)
 (k0 true)
 (cond (decide ((300 : Int) < (((List.length a) : Nat) : Int)))
 (k0 true)
 (k0 (decide ((300 : Int) < (((List.length b) : Nat) : Int))))))
def z1re (N:Nat) (x:z1h [(0,.v .str),(0,.v .str),(0,.v .str)]) (K:Ex -> List A -> Option Bool) : Option Bool :=
 zoc N x.1 x.2.1 x.2.2.1 (fun a3=>(K .normal (mkS [(0,.v .str),(0,.v .str),(0,.v .str),(37,.v .bool)] 94 (x.1,x.2.1,x.2.2.1,a3,()))))
def z1pb (N:Nat) : Hd Bool := fun st K=>(unS [(0,.v .str),(0,.v .str),(0,.v .str)] 132 (restr [0,1,2] 0 st)).bind fun x=>z1re N x K
def t2_g1 (N:Nat) : Tab Bool := []
theorem z1mv {N:Nat} {c:Ctx} (hb:Base Tryz.prog (z19r N) c) : zq Tryz.prog c (zm z9j [0,0,1]) (z1pb N) :=
  z17 (s := [(0,.v .str),(0,.v .str),(0,.v .str)]) (m := 132) (g := z1re N) [0,1,2] (zi hb N (t2_g1 N) z1bv z9j TabOk.nil [0,0,1] _ rfl) (fun x K=>by kernel_rfl)
def zod (N:Nat) (key:(List UInt8)) (a:(List UInt8)) (b:(List UInt8)) (k0:Bool -> Option Bool) (k1:Option Bool) : Option Bool :=
 zoc N key a b
 (fun x40=>cond x40
 ((z2c N).bind fun y =>
 k0 y)
 (k1))
def z1rs (N:Nat) (x:z1h [(0,.v .str),(0,.v .str),(0,.v .str)]) (K:Ex -> List A -> Option Bool) : Option Bool :=
 zod N x.1 x.2.1 x.2.2.1 (fun a0=>(K .ret (mkS [(6,.v .bool)] 128 (a0,())))) (K .normal (mkS [(0,.v .str),(0,.v .str),(0,.v .str)] 132 (x.1,x.2.1,x.2.2.1,())))
def z1pp (N:Nat) : Hd Bool := fun st K=>(unS [(0,.v .str),(0,.v .str),(0,.v .str)] 132 (restr [0,1,2] 0 st)).bind fun x=>z1rs N x K
def t1_g1 (N:Nat) : Tab Bool := [([0,0,1],z1pb N)]
theorem z1n9 {N:Nat} {c:Ctx} (hb:Base Tryz.prog (z19r N) c) : zq Tryz.prog c (zm z9j [0,1]) (z1pp N) :=
  z17 (s := [(0,.v .str),(0,.v .str),(0,.v .str)]) (m := 132) (g := z1rs N) [0,1,2] (zi hb N (t1_g1 N) z1bv z9j (TabOk.cons (z1mv hb) TabOk.nil) [0,1] _ rfl) (fun x K=>by kernel_rfl)
def ztk (N:Nat) (key:(List UInt8)) (e:Int) (d:z5f) (f:Int) (g:Int) (x14:z5f) (h:Int) (y:z5f) (i:Int) (k0:Bool -> Option Bool) : Option Bool :=
 cond (e != (0 : Int))
 (k0 true)
 (cond (f != (0 : Int))
 (k0 true)
 (cond (g != (0 : Int))
 (k0 true)
 (cond (h != (0 : Int))
 (k0 true)
 (k0 (i != (0 : Int))))))
def z1r4 (N:Nat) (x:z1h [(0,.v .str),(8,.v (.int .i64)),(0,.box z44),(0,.v (.int .i64)),(1,.v (.int .i64)),(0,.box z44),(0,.v (.int .i64)),(0,.box z44),(0,.v (.int .i64))]) (K:Ex -> List A -> Option Bool) : Option Bool :=
 ztk N x.1 x.2.1 x.2.2.1 x.2.2.2.1 x.2.2.2.2.1 x.2.2.2.2.2.1 x.2.2.2.2.2.2.1 x.2.2.2.2.2.2.2.1 x.2.2.2.2.2.2.2.2.1 (fun a4=>(K .normal (mkS [(0,.v .str),(9,.box z44),(3,.box z44),(1,.box z44),(72,.v .bool)] 45 (x.1,x.2.2.1,x.2.2.2.2.2.1,x.2.2.2.2.2.2.2.1,a4,()))))
def z1p1 (N:Nat) : Hd Bool := fun st K=>(unS [(0,.v .str),(8,.v (.int .i64)),(0,.box z44),(0,.v (.int .i64)),(1,.v (.int .i64)),(0,.box z44),(0,.v (.int .i64)),(0,.box z44),(0,.v (.int .i64))] 117 (restr [9,11,13,15,17,14,16,10,0] 0 st)).bind fun x=>z1r4 N x K
def t4_g1 (N:Nat) : Tab Bool := []
theorem z1ml {N:Nat} {c:Ctx} (hb:Base Tryz.prog (z19r N) c) : zq Tryz.prog c (zm z9j [0,0,1,1,1,1,1,1,1,1]) (z1p1 N) :=
  z17 (s := [(0,.v .str),(8,.v (.int .i64)),(0,.box z44),(0,.v (.int .i64)),(1,.v (.int .i64)),(0,.box z44),(0,.v (.int .i64)),(0,.box z44),(0,.v (.int .i64))]) (m := 117) (g := z1r4 N) [9,11,13,15,17,14,16,10,0] (zi hb N (t4_g1 N) z1bv z9j TabOk.nil [0,0,1,1,1,1,1,1,1,1] _ rfl) (fun x K=>by kernel_rfl)
def ztl (N:Nat) (key:(List UInt8)) (e:Int) (d:z5f) (f:Int) (g:Int) (x14:z5f) (h:Int) (y:z5f) (i:Int) (k0:Bool -> Option Bool) (k1:Option Bool) : Option Bool :=
 ztk N key e d f g x14 h y i
 (fun x89=>cond x89
 (k0 false)
 (k1))
def z1r9 (N:Nat) (x:z1h [(0,.v .str),(8,.v (.int .i64)),(0,.box z44),(0,.v (.int .i64)),(1,.v (.int .i64)),(0,.box z44),(0,.v (.int .i64)),(0,.box z44),(0,.v (.int .i64))]) (K:Ex -> List A -> Option Bool) : Option Bool :=
 ztl N x.1 x.2.1 x.2.2.1 x.2.2.2.1 x.2.2.2.2.1 x.2.2.2.2.2.1 x.2.2.2.2.2.2.1 x.2.2.2.2.2.2.2.1 x.2.2.2.2.2.2.2.2.1 (fun a0=>(K .ret (mkS [(6,.v .bool)] 128 (a0,())))) (K .normal (mkS [(0,.v .str),(9,.box z44),(3,.box z44),(1,.box z44)] 118 (x.1,x.2.2.1,x.2.2.2.2.2.1,x.2.2.2.2.2.2.2.1,())))
def z1p6 (N:Nat) : Hd Bool := fun st K=>(unS [(0,.v .str),(8,.v (.int .i64)),(0,.box z44),(0,.v (.int .i64)),(1,.v (.int .i64)),(0,.box z44),(0,.v (.int .i64)),(0,.box z44),(0,.v (.int .i64))] 117 (restr [9,11,13,15,17,14,16,10,0] 0 st)).bind fun x=>z1r9 N x K
def t3_g1 (N:Nat) : Tab Bool := [([0,0,1,1,1,1,1,1,1,1],z1p1 N)]
theorem z1mq {N:Nat} {c:Ctx} (hb:Base Tryz.prog (z19r N) c) : zq Tryz.prog c (zm z9j [0,1,1,1,1,1,1,1,1]) (z1p6 N) :=
  z17 (s := [(0,.v .str),(8,.v (.int .i64)),(0,.box z44),(0,.v (.int .i64)),(1,.v (.int .i64)),(0,.box z44),(0,.v (.int .i64)),(0,.box z44),(0,.v (.int .i64))]) (m := 117) (g := z1r9 N) [9,11,13,15,17,14,16,10,0] (zi hb N (t3_g1 N) z1bv z9j (TabOk.cons (z1ml hb) TabOk.nil) [0,1,1,1,1,1,1,1,1] _ rfl) (fun x K=>by kernel_rfl)
def zti (N:Nat) (key:(List UInt8)) (d:z5f) (y:z5f) (mixed:(z5f × ((List z5f) × Unit))) (j:Int) (k:Int) (k0:Bool -> Option Bool) : Option Bool :=
 cond (j != (0 : Int))
 (k0 true)
 (k0 (k == (11 : Int)))
def z1qz (N:Nat) (x:z1h [(0,.v .str),(9,.box z44),(5,.box z44),(1,.box (.pair z44 (.pair (.sl z44) .unit))),(1,.v (.int .i64)),(1,.v (.int .i64))]) (K:Ex -> List A -> Option Bool) : Option Bool :=
 zti N x.1 x.2.1 x.2.2.1 x.2.2.2.1 x.2.2.2.2.1 x.2.2.2.2.2.1 (fun a5=>(K .normal (mkS [(0,.v .str),(9,.box z44),(5,.box z44),(1,.box (.pair z44 (.pair (.sl z44) .unit))),(1,.v (.int .i64)),(95,.v .bool)] 18 (x.1,x.2.1,x.2.2.1,x.2.2.2.1,x.2.2.2.2.1,a5,()))))
def z1ow (N:Nat) : Hd Bool := fun st K=>(unS [(0,.v .str),(9,.box z44),(5,.box z44),(1,.box (.pair z44 (.pair (.sl z44) .unit))),(1,.v (.int .i64)),(1,.v (.int .i64))] 112 (restr [20,22,0,18,16,10] 0 st)).bind fun x=>z1qz N x K
def t6_g1 (N:Nat) : Tab Bool := []
theorem z1mg {N:Nat} {c:Ctx} (hb:Base Tryz.prog (z19r N) c) : zq Tryz.prog c (zm z9j [0,0,1,1,1,1,1,1,1,1,1,1,1,1]) (z1ow N) :=
  z17 (s := [(0,.v .str),(9,.box z44),(5,.box z44),(1,.box (.pair z44 (.pair (.sl z44) .unit))),(1,.v (.int .i64)),(1,.v (.int .i64))]) (m := 112) (g := z1qz N) [20,22,0,18,16,10] (zi hb N (t6_g1 N) z1bv z9j TabOk.nil [0,0,1,1,1,1,1,1,1,1,1,1,1,1] _ rfl) (fun x K=>by kernel_rfl)
def ztj (N:Nat) (key:(List UInt8)) (d:z5f) (y:z5f) (mixed:(z5f × ((List z5f) × Unit))) (j:Int) (k:Int) (k0:Bool -> Option Bool) (k1:Option Bool) : Option Bool :=
 zti N key d y mixed j k
 (fun x116=>cond x116
 (cond (j == (0 : Int))
 ((z2c N).bind fun y1 =>
 k0 y1)
 (k0 false))
 (k1))
def z1r1 (N:Nat) (x:z1h [(0,.v .str),(9,.box z44),(5,.box z44),(1,.box (.pair z44 (.pair (.sl z44) .unit))),(1,.v (.int .i64)),(1,.v (.int .i64))]) (K:Ex -> List A -> Option Bool) : Option Bool :=
 ztj N x.1 x.2.1 x.2.2.1 x.2.2.2.1 x.2.2.2.2.1 x.2.2.2.2.2.1 (fun a0=>(K .ret (mkS [(6,.v .bool)] 128 (a0,())))) (K .normal (mkS [(0,.v .str),(9,.box z44),(5,.box z44),(1,.box (.pair z44 (.pair (.sl z44) .unit)))] 116 (x.1,x.2.1,x.2.2.1,x.2.2.2.1,())))
def z1oy (N:Nat) : Hd Bool := fun st K=>(unS [(0,.v .str),(9,.box z44),(5,.box z44),(1,.box (.pair z44 (.pair (.sl z44) .unit))),(1,.v (.int .i64)),(1,.v (.int .i64))] 112 (restr [20,22,0,18,16,10] 0 st)).bind fun x=>z1r1 N x K
def t5_g1 (N:Nat) : Tab Bool := [([0,0,1,1,1,1,1,1,1,1,1,1,1,1],z1ow N)]
theorem z1mi {N:Nat} {c:Ctx} (hb:Base Tryz.prog (z19r N) c) : zq Tryz.prog c (zm z9j [0,1,1,1,1,1,1,1,1,1,1,1,1]) (z1oy N) :=
  z17 (s := [(0,.v .str),(9,.box z44),(5,.box z44),(1,.box (.pair z44 (.pair (.sl z44) .unit))),(1,.v (.int .i64)),(1,.v (.int .i64))]) (m := 112) (g := z1r1 N) [20,22,0,18,16,10] (zi hb N (t5_g1 N) z1bv z9j (TabOk.cons (z1mg hb) TabOk.nil) [0,1,1,1,1,1,1,1,1,1,1,1,1] _ rfl) (fun x K=>by kernel_rfl)
def ztm (N:Nat) (key:(List UInt8)) (a:(List UInt8)) (b:(List UInt8)) : Option Bool :=
 zod N key a b
 (fun x6=>some x6)
 ((z5e N key ([(105 : UInt8),(100 : UInt8)] : List UInt8)).bind fun y =>
 (z4w N ([(110 : UInt8),(111 : UInt8),(116 : UInt8),(97 : UInt8),(114 : UInt8),(121 : UInt8)] : List UInt8) ([(48 : UInt8),(49 : UInt8),(50 : UInt8),(51 : UInt8),(52 : UInt8),(53 : UInt8),(54 : UInt8),(55 : UInt8),(56 : UInt8),(57 : UInt8),(97 : UInt8),(98 : UInt8),(99 : UInt8),(100 : UInt8),(101 : UInt8),(102 : UInt8)] : List UInt8) ([(99 : UInt8),(107 : UInt8)] : List UInt8) ([(116 : UInt8),(101 : UInt8),(120 : UInt8),(116 : UInt8)] : List UInt8)).bind fun y1 =>
 (zqk N ([(110 : UInt8),(111 : UInt8),(116 : UInt8),(97 : UInt8),(114 : UInt8),(121 : UInt8)] : List UInt8) y1.1).bind fun y2 =>
 (z5y N (([(105 : UInt8),(100 : UInt8)] : List UInt8),(([] : List ((List UInt8) × ((List UInt8) × Unit))),(y,()))) y1.1 ([(99 : UInt8),(107 : UInt8)] : List UInt8) ([(102 : UInt8),(101 : UInt8),(100 : UInt8),(99 : UInt8),(98 : UInt8),(97 : UInt8),(57 : UInt8),(56 : UInt8),(55 : UInt8),(54 : UInt8),(53 : UInt8),(52 : UInt8),(51 : UInt8),(50 : UInt8),(49 : UInt8),(48 : UInt8)] : List UInt8)).bind fun y3 =>
 (z3u N y3.1 a).bind fun y4 =>
 (z3u N y3.1 b).bind fun y5 =>
 ztl N key y1.2.1 y2.1 y2.2.1 y3.2.1 y4.1 y4.2.1 y5.1 y5.2.1
 (fun x61=>some x61)
 ((z7u N y5.1 y2.1).bind fun y6 =>
 (zfy N y4.1 ([y2.1] : List z5f)).bind fun y7 =>
 (z2v N key y7).bind fun y8 =>
 (z2v N key (y4.1,(([y6] : List z5f),()))).bind fun y9 =>
 ztj N key y2.1 y5.1 (y4.1,(([y6] : List z5f),())) y8.2.1 y9.2.1
 (fun x62=>some x62)
 ((zn4 N key (y4.1,(([y6] : List z5f),()))).bind fun y10 =>
 (zfy N y5.1 ([y2.1] : List z5f)).bind fun y11 =>
 (zn4 N key y11).bind fun y12 =>
 cond (decide ((((List.length y10.2.2.2.2.1) + (List.length y12.2.2.2.2.1)) * 16) <= 70368744177664))
 ((z1x N (y10.2.2.2.2.1 ++ y12.2.2.2.2.1)).bind fun y13 =>
 some y13)
 (none))))
def t_g1 (N:Nat) : Tab Bool := [([0,1],z1pp N),([0,1,1,1,1,1,1,1,1],z1p6 N),([0,1,1,1,1,1,1,1,1,1,1,1,1],z1oy N)]
theorem z1dy (N:Nat) (x:z1h [(0,.v .str),(0,.v .str),(0,.v .str)]) : z2q (z19r N) N (t_g1 N) z1bv Tryz.f5 (mkS [(0,.v .str),(0,.v .str),(0,.v .str)] 0 x) (z1d (.v .bool) 3) = ztm N x.1 x.2.1 x.2.2.1 := by kernel_rfl
def z14s (N:Nat) : List A -> Res := z10 [(0,.v .str),(0,.v .str),(0,.v .str)] (fun x=>ztm N x.1 x.2.1 x.2.2.1) (z2p (.v .bool) 3)
theorem z18g (N:Nat) : Contract Tryz.prog glob 5 (z14s N) :=
  Contract.of (E := z19r N) (H := t_g1 N) (L := z1bv) (N := N) (body := z9j) (K := (z1d (.v .bool) 3)) (z1u4 N) Tryz.func5 (by kernel_rfl) (by decide) (fun _ hb=>(TabOk.cons (z1n9 hb) (TabOk.cons (z1mq hb) (TabOk.cons (z1mi hb) TabOk.nil)))) (fun x y h=>by rw [z1dy]; exact h) (zn (s := (.v .bool)) (m := 3))
end
end Go.Proofs.YtkipbccgnekoaaaGreatDoorLg
set_option linter.all false
set_option maxRecDepth 100000
namespace Go.Proofs.YtkipbccgnekoaaaGreatDoorLg
noncomputable section
open Go Go.Lift Go.Proofs.YtkipbccgnekoaaaGreatDoorPx
theorem zvx (k:Nat) {key nonce text:List UInt8} (hk : 4400 <= k) (hl:key.length <= 30000) (hn:nonce.length = 16) (ht:text.length <= 1900) :
    z10k (k + 100) key (z95 (k + 100) key nonce text) = true /\ zkz (k + 100) key (z95 (k + 100) key nonce text) = text := by
  have h1 := zag k (key := key) (nonce := nonce) (text := text) (by omega) hl hn
  have h2 := z9y k (key := key) (nonce := nonce) (text := text) (by omega) hl hn (by omega)
  have e1 : (z95 (k + 100) key nonce text).take ((z95 (k + 100) key nonce text).length - 32) = zdw (k + 100) key nonce text := by
    rw [h2]
    unfold z95
    rw [List.take_append_of_le_length (by omega),List.take_of_length_le (by omega)]
  have e2 : (z95 (k + 100) key nonce text).drop ((z95 (k + 100) key nonce text).length - 32) = zno (k + 100) key (zdw (k + 100) key nonce text) := by
    rw [h2]
    unfold z95
    rw [List.drop_append_of_le_length (by omega),List.drop_of_length_le (by omega)]; rfl
  have e3 : (z95 (k + 100) key nonce text).take 16 = nonce := by
    unfold z95 zdw
    rw [List.append_assoc,List.take_append_of_le_length (by omega),List.take_of_length_le (by omega)]
  constructor
  . unfold z10k
    rw [e1,e2,beq_self_eq_true]
  . unfold zkz
    rw [e1,e3]
    have : (zdw (k + 100) key nonce text).drop 16 = zgh (k + 100) key nonce text := by
      unfold zdw
      rw [List.drop_append_of_le_length (by omega),List.drop_of_length_le (by omega)]; rfl
    rw [this,zqb k (by omega) hl (by omega)]
theorem zx9 (k:Nat) {key s:List UInt8} (hk : 4400 <= k) (hl:key.length <= 30000) (h1 : 48 <= s.length) (h2:s.length <= 4144) : z2b (k + 100) key s = some (z29 (k + 100) key (z11 [[116,97,103]]) ++ z29 (k + 100) (z1cp (k + 100) key) (s.take (s.length - 32))) := by
  have h4 := zbm k (key := key) (by omega) hl
  have h5 : (s.take (s.length - 32)).length <= 4144 := by rw [List.length_take]; omega
  unfold z2b z3b z3a
  rw [zu (z3n (by omega)),show decide ((4144 : Int) < (((List.length s) : Nat) : Int)) = false from z3n (by omega)]
  dsimp only
  rw [cond_false,zea k (by simp) (by rw [zf0]; omega),Option.bind_some,zez k (by omega) hl (by rw [zf0]; omega),Option.bind_some,z4t k (by omega) hl (by simp) (by rw [zf0]; omega),Option.bind_some,wlen h1 (by omega),zg (z15 (by omega)),Int.toNat_natCast,zdd]
  show ((z1a (k + 100) (z1cp (k + 100) key) (s.take (s.length - 32))).bind _) = _
  rw [zez k (by omega) (by omega) (by omega),Option.bind_some,zg (by rfl)]
  rfl
end
end Go.Proofs.YtkipbccgnekoaaaGreatDoorLg
set_option linter.all false
set_option maxRecDepth 100000
namespace Go.Proofs.YtkipbccgnekoaaaGreatDoorLg
noncomputable section
open Go Go.Lift Go.Proofs.YtkipbccgnekoaaaGreatDoorPx
abbrev zns : Type := List Bool × (List (List UInt8) × (Int × (Int × (List (List UInt8) × Unit))))
def z4l (st:SV) (e:Int) : zns := (st.used,(st.texts,(((st.work : Nat) : Int),(e,(st.summed,())))))
theorem zun {α : Type} (l:List α) (d : α) (j:Nat) (h:j < l.length) : l.take (j + 1) = l.take j ++ [l.getD j d] := by
  rw [List.getD_eq_getElem?_getD,List.getElem?_eq_getElem h,Option.getD_some, <- List.take_append_getElem h]
theorem zso (id:List UInt8) (t:Tk) (u:Bool) : ∀ (ts:List Tk) (us:List Bool) (i:Nat),ts.length = us.length →
    zal id (ts ++ [t]) (us ++ [u]) i = (zal id ts us i).orElse fun _=>if t.1 = id /\ u = false then some (i + ts.length) else none
  | [],[],i,_=>by simp [zal]
  | [],_ :: _,i,h=>by simp at h
  | _ :: _,[],i,h=>by simp at h
  | x :: ts,v :: us,i,h=>by
    simp only [List.cons_append,zal]
    by_cases hc : x.1 = id /\ v = false
    . rw [if_pos hc,if_pos hc]; rfl
    . rw [if_neg hc,if_neg hc,zso id t u ts us (i + 1) (by simpa using h)]
      congr 1
      funext _
      rw [List.length_cons,Nat.add_assoc,Nat.add_comm 1]
theorem z1gm (N:Nat) (hN : 200 < N) {b:zb2} {x4 p:zns} {tags:List (List (List UInt8))} {tokens:List Tk} {i k:Int} {l:Lk} {ck:List UInt8} (hu:p.1.length = b.2.1.length) (hl:b.2.1.length <= 100) (k0:Int -> Option zns) :
    zec N b x4 p tags tokens i k l ck 0 (-1) k0 = k0 (unI (zal l.1 b.2.1 p.1 0)) := by
  rw [zec,zpg,z1o (by unfold I64; omega)]
  refine (z84 (γ := Nat × Int) (fun g v=>v = (g.2,((g.1 : Nat) : Int) - 1) /\ g.1 <= b.2.1.length) (fun v=>(v.2 + 1).toNat) (fun g=>k0 (match zal l.1 (b.2.1.take g.1) (p.1.take g.1) 0 with | some a=>((a:Nat) : Int) | none=>g.2)) ?_ N (b.2.1.length, -1) ((-1 : Int),((b.2.1.length : Nat) : Int) - 1) ⟨rfl,by omega⟩ (by simp only; omega)).trans ?_
  . rintro ⟨m,at_⟩ v r ⟨rfl,hm⟩ hr
    simp only at hm
    simp only
    rw [zko,zi1]
    cases m with
    | zero=>rw [zu (decide_eq_false (by omega))]; rfl
    | succ j =>
      have hj : j < b.2.1.length := by omega
      have hj2 : j < p.1.length := by omega
      have e : ((j + 1 : Nat) : Int) - 1 = (j:Int) := by omega
      rw [e,zg (decide_eq_true (by omega)),zg (by rfl),zma,zm9,zg (z14 hj2),Int.toNat_natCast,zg (decide_eq_true hj2),zg (z14 hj)]
      rw [show (([] : List UInt8),(([] : List ((List UInt8) × ((List UInt8) × Unit))),(([] : List UInt8),()))) = z18 from rfl]
      rw [zun b.2.1 z18 j hj,zun p.1 false j hj2,zso _ _ _ _ _ _ (by rw [List.length_take,List.length_take]; omega),List.length_take,Nat.min_eq_left (by omega),Nat.zero_add]
      rw [z1o (x := (j:Int) - 1) (by unfold I64; omega)]
      have hA := hr (j,(j:Int)) ((j:Int),(j:Int) - 1) ⟨rfl,by simp only; omega⟩ (by simp only; omega)
      have hB := hr (j,at_) (at_,(j:Int) - 1) ⟨rfl,by simp only; omega⟩ (by simp only; omega)
      simp only at hA hB
      cases hb : p.1.getD j false with
      | true =>
        rw [Bool.not_true,cond_false,cond_false,hB,if_neg (by simp)]
        cases zal l.1 (b.2.1.take j) (p.1.take j) 0 <;> rfl
      | false =>
        rw [Bool.not_false,cond_true]
        by_cases h1 : (b.2.1.getD j z18).1 = l.1
        . rw [beq_iff_eq.2 h1,cond_true,hA,if_pos ⟨h1,rfl⟩]
          cases zal l.1 (b.2.1.take j) (p.1.take j) 0 <;> rfl
        . rw [beq_eq_false_iff_ne.2 h1,cond_false,hB,if_neg (fun h=>h1 h.1)]
          cases zal l.1 (b.2.1.take j) (p.1.take j) 0 <;> rfl
  . simp only
    rw [List.take_length, <- hu,List.take_length]
    unfold unI
    rfl
theorem z1gl (N:Nat) (hN : 200 < N) {b:zb2} {x4 p:zns} {tags:List (List (List UInt8))} {tokens:List Tk} {i k:Int} {l:Lk} {ck:List UInt8} {e:Int} (he:e ≠ 0) (k0:Int -> Option zns) :
    zec N b x4 p tags tokens i k l ck e (-1) k0 = k0 (-1) := by
  rw [zec,zpg]
  refine (z28 (fun v=>v = ((-1 : Int),IntKind.wrap .i64 (((b.2.1.length : Nat) : Int) - 1))) (fun _=>0) (fun _=>k0 (-1)) ?_ N _ rfl (by omega))
  rintro v r rfl hr
  rw [zko,zi1]
  cases decide ((0 : Int) <= IntKind.wrap .i64 (((b.2.1.length : Nat) : Int) - 1)) with
  | true=>rw [cond_true,zu (beq_eq_false_iff_ne.2 he)]
  | false=>rw [cond_false]
theorem z1d2 (k:Nat) {key s:List UInt8} (hk : 4400 <= k) (hl:key.length <= 30000) : z2b (k + 100) key s = some (zwn (k + 100) key s) := by
  unfold zwn
  by_cases h1 : 48 <= s.length
  . by_cases h2 : s.length <= 4144
    . rw [if_pos ⟨h1,h2⟩,zx9 k hk hl h1 h2]
    . rw [if_neg (by omega)]
      simp only [z2b,z3b,z3a]
      rw [zu (decide_eq_false (by omega)),decide_eq_true (show (4144 : Int) < ((s.length : Nat) : Int) by omega)]
      rfl
  . rw [if_neg (by omega)]
    simp only [z2b,z3b,z3a]
    rw [zg (decide_eq_true (by omega))]
    rfl
theorem z1a9 (N:Nat) {ls:List Lk} {t:List UInt8} (hl:ls.length <= 1000) : z38 N (z8e N t ls) = some (z6v N t ls) := by
  rw [z38,z3v,z1o (by unfold I64; omega),show (((ls.length + 1 : Nat) : Nat) : Int) - 1 = ((ls.length : Nat) : Int) by omega,zg (z14 (by omega)),Int.toNat_natCast,zm0]
def z9t (st:SV) : List (List (List UInt8)) := st.items.map (·.2)
def z6x (st:SV) : List Tk := st.items.map (·.1)
theorem zqg {α β : Type} (f : α -> β) (l:List α) (d : α) (e : β) (i:Nat) (h:i < l.length) : (l.map f).getD i e = f (l.getD i d) := by
  simp only [List.getD_eq_getElem?_getD,List.getElem?_map,List.getElem?_eq_getElem h,Option.map_some,Option.getD_some]
set_option maxHeartbeats 4000000 in
theorem linkR (k:Nat) (hk : 4400 <= k) {b:zb2} {x4:zns} {C i j:Nat} {l:Lk} {ls:List Lk} {st:SV} {g:List UInt8} (hb:GoodB b) (h:Inv b C i (l :: ls) st) (hC:C <= 100000) (hi:i < st.items.length) (hi9:i <= 20)
    (hj:j < (st.items.getD i (z18,[])).1.2.1.length) (hl:(st.items.getD i (z18,[])).1.2.1.getD j ([],[],()) = l) (hj2:j < (st.items.getD i (z18,[])).2.length) (hg:(st.items.getD i (z18,[])).2.getD j [] = g) (hg32:g.length = 32)
    (k0:zns -> List (List (List UInt8)) -> List Tk -> Option zns) (k1:zns -> Option zns) :
    zkp (k + 100) b x4 (z4l st 0) (z9t st) (z6x st) (i:Int) (j:Int) k0 k1 = if l.2.1 = [] then k0 (z4l { st with texts := st.texts ++ [l.1] } 0) (z9t st) (z6x st) else
      match z7x (k + 100) b st g l with | (s,true)=>k0 (z4l s 0) (z9t s) (z6x s) | (s,false)=>k1 (z4l s 11) := by
  have hwk := h.work
  have hsm := h.summed
  have htx := h.texts
  simp only [List.length_cons] at htx
  have hu : st.used.length = b.2.1.length := h.used
  have hb8 := hb.len
  have hlen := h.len
  have hun := zhv st.used
  have hti : i < (z6x st).length := by unfold z6x; rw [List.length_map]; exact hi
  have hgi : i < (z9t st).length := by unfold z9t; rw [List.length_map]; exact hi
  have htg : (z6x st).getD i z18 = (st.items.getD i (z18,[])).1 := zqg _ _ (z18,[]) _ _ hi
  have hgg : (z9t st).getD i [] = (st.items.getD i (z18,[])).2 := zqg _ _ (z18,[]) _ _ hi
  rw [zkp,zg (z14 hti),Int.toNat_natCast,zg (decide_eq_true hti)]
  rw [show (([] : List UInt8),(([] : List ((List UInt8) × ((List UInt8) × Unit))),(([] : List UInt8),()))) = z18 from rfl,htg,zg (z14 hj),Int.toNat_natCast,hl]
  by_cases hown : l.2.1 = []
  . rw [zg (beq_iff_eq.2 hown),if_pos hown,zg (decide_eq_true (by show (st.texts.length + 1) * 16 <= _; omega))]
    rfl
  rw [zu (beq_eq_false_iff_ne.2 hown),if_neg hown,zg (z14 hgi),zg (decide_eq_true hgi),hgg,zg (z14 hj2),hg]
  have hsl : (z2e (k + 100) g).length = 32 := z71 k (by omega) (by omega)
  rw [ztb k (by omega) (by omega),Option.bind_some,zg (z14 hgi),zg (decide_eq_true hgi),zg (z14 hj2)]
  rw [show z1f (k + 100) [[115,101,97,108]] = some (z11 [[115,101,97,108]]) from zea k (by simp) (by rw [ze7]; omega),Option.bind_some]
  rw [show z1a (k + 100) g (z11 [[115,101,97,108]]) = some (z29 (k + 100) g (z11 [[115,101,97,108]])) from zez k (by omega) (by omega) (by rw [ze7]; omega),Option.bind_some]
  have hbx : (zwn (k + 100) (z2e (k + 100) g) l.2.1).length <= 4 := by
    unfold zwn
    split <;> simp [z29]
  have ht2 : ∀ x y : List UInt8,(z29 (k + 100) x y).length = 2 := fun _ _=>rfl
  rw [zg (decide_eq_true (by rw [ht2]; show (st.summed.length + 2) * 16 <= _; omega)),z1d2 k hk (by omega),Option.bind_some,zg (decide_eq_true (by rw [List.length_append,ht2]; show (st.summed.length + 2 + _) * 16 <= _; omega))]
  have hw1 : IntKind.wrap .i64 (((z4l st 0).2.2.1) + 1) = ((st.work + 1 : Nat) : Int) := by show IntKind.wrap .i64 (((st.work : Nat) : Int) + 1) = _; rw [z1o (by unfold I64; omega)]; omega
  unfold z7x
  simp only
  cases ho : zme (k + 100) (z2e (k + 100) g) l.2.1 with
  | none =>
    obtain ⟨e,he,_,hbo⟩ := znq k hk (by omega) ho
    rw [hbo,Option.bind_some,z1gl (k + 100) (by omega) he,zg (decide_eq_true (by omega)),hw1]
    simp only
    refine congrArg k1 ?_
    unfold z4l
    simp only [List.append_assoc]
  | some c =>
    have hc := zh5 k (by omega) (by omega) ho
    rw [(znp k hk (by omega) ho).2,Option.bind_some,z1gm (k + 100) (by omega) (p := ((z4l st 0).1,((z4l st 0).2.1,(IntKind.wrap .i64 (((z4l st 0).2.2.1) + 1),((z4l st 0).2.2.2.1,((((z4l st 0).2.2.2.2.1 ++ z29 (k + 100) g (z11 [[115,101,97,108]])) ++ zwn (k + 100) (z2e (k + 100) g) l.2.1),(z4l st 0).2.2.2.2.2)))))) hu (by omega),hw1]
    simp only
    rw [show (z4l st 0).1 = st.used from rfl]
    cases hf : zal l.1 b.2.1 st.used 0 with
    | none =>
      rw [zg (by rfl)]
      refine congrArg k1 ?_
      unfold z4l
      simp only [List.append_assoc]
    | some a =>
      obtain ⟨_,g2,g3,g4,g5,g6,g7⟩ := zi5 _ _ _ _ _ hf
      rw [Nat.sub_zero] at g2 g3
      have hd := hb.more _ (z5z b.2.1 z18 a g2)
      have hd1 := hd.tag
      have hd2 := hd.len
      have hd3 := hd.id
      have hbt := hb.one.tag
      have hr := zp9 k (c := c) (id := (b.2.1.getD a z18).1) (by omega) (by omega) (by omega)
      have hlast : (z6v (k + 100) (zl (k + 100) c (b.2.1.getD a z18).1) (b.2.1.getD a z18).2.1).length = 32 := zab k (by omega) _ hr hd.links
      have htl : (z32 (k + 100) c (b.2.1.getD a z18).1 (b.2.1.getD a z18).2.1).length = 2 + 2 * (b.2.1.getD a z18).2.1.length := by unfold z32; rw [List.length_append,z3t]; rfl
      rw [show unI (some a) = ((a:Nat) : Int) from rfl,zu (decide_eq_false (by omega)),zg (z14 g3),Int.toNat_natCast,zg (decide_eq_true g3)]
      simp only [z14 g2,cond_true]
      rw [zm5 k (by omega) (by omega) (by omega) (by omega) hd.links,Option.bind_some,zn3 k (by omega) (by omega) (by omega) (by omega) hd.links,Option.bind_some]
      rw [zg (decide_eq_true (by rw [htl,List.length_append,List.length_append,ht2]; show (st.summed.length + 2 + _ + _) * 16 <= _; omega)),z1a9 _ (by omega),Option.bind_some]
      rw [show z1f (k + 100) [[98,105,110,100],z6v (k + 100) (zl (k + 100) c (b.2.1.getD a z18).1) (b.2.1.getD a z18).2.1] = some (z11 [[98,105,110,100],z6v (k + 100) (zl (k + 100) c (b.2.1.getD a z18).1) (b.2.1.getD a z18).2.1]) from zea k (by simp) (by rw [zcv]; omega),Option.bind_some]
      rw [show z1a (k + 100) b.1.2.2.1 (z11 [[98,105,110,100],z6v (k + 100) (zl (k + 100) c (b.2.1.getD a z18).1) (b.2.1.getD a z18).2.1]) = some (z29 (k + 100) b.1.2.2.1 (z11 [[98,105,110,100],z6v (k + 100) (zl (k + 100) c (b.2.1.getD a z18).1) (b.2.1.getD a z18).2.1])) from zez k (by omega) (by omega) (by rw [zcv]; omega),Option.bind_some]
      rw [zg (decide_eq_true (by rw [ht2,List.length_append,htl,List.length_append,List.length_append,ht2]; show (st.summed.length + 2 + _ + _ + _) * 16 <= _; omega)),Option.bind_some,zxb k (by omega) (by omega) (by omega),Option.bind_some]
      rw [z3v]
      have hw2 : IntKind.wrap .i64 (IntKind.wrap .i64 (((st.work + 1 : Nat) : Int) + (((b.2.1.getD a z18).2.1.length + 1 : Nat) : Int)) + 1) = ((st.work + (b.2.1.getD a z18).2.1.length + 3 : Nat) : Int) := by
        rw [z1o (x := ((st.work + 1 : Nat) : Int) + (((b.2.1.getD a z18).2.1.length + 1 : Nat) : Int)) (by unfold I64; omega),z1o (by unfold I64; omega)]; omega
      rw [hw2]
      by_cases he : z93 (k + 100) b.1.2.2.1 (z6v (k + 100) (zl (k + 100) c (b.2.1.getD a z18).1) (b.2.1.getD a z18).2.1) = (b.2.1.getD a z18).2.2.1
      . have l1 : (z6x st).length = st.items.length := List.length_map ..
        have l2 : (z9t st).length = st.items.length := List.length_map ..
        rw [beq_iff_eq.2 he,Bool.not_true,cond_false,zg (decide_eq_true (by omega)),zg (decide_eq_true (by omega)),if_pos he]
        unfold z4l z9t z6x
        simp only [List.append_assoc,List.map_append,List.map_cons,List.map_nil]
      . rw [beq_eq_false_iff_ne.2 he,Bool.not_false,cond_true,if_neg he]
        unfold z4l
        simp only [List.append_assoc]
end
end Go.Proofs.YtkipbccgnekoaaaGreatDoorLg
set_option linter.all false
set_option maxRecDepth 100000
namespace Go.Proofs.YtkipbccgnekoaaaGreatDoorLg
noncomputable section
open Go Go.Lift Go.Proofs.YtkipbccgnekoaaaGreatDoorPx
theorem z1bx (k:Nat) : z2c (k + 1100) = some true := by kernel_rfl
end
end Go.Proofs.YtkipbccgnekoaaaGreatDoorLg
set_option linter.all false
set_option maxRecDepth 100000
namespace Go.Proofs.YtkipbccgnekoaaaGreatDoorLg
noncomputable section
open Go Go.Lift Go.Proofs.YtkipbccgnekoaaaGreatDoorPx
theorem z12x (N:Nat) (b:zb2) (st:SV) (before:List UInt8) (l:Lk) (i:Nat) (hi:i < st.items.length) : (z7x N b st before l).1.items.getD i (z18,[]) = st.items.getD i (z18,[]) := by
  unfold z7x
  simp only
  split
  . rfl
  . split
    . rfl
    . split
      . simp only [List.getD_eq_getElem?_getD]
        rw [List.getElem?_append_left hi]
      . rfl
theorem z1or (k:Nat) (hk : 4400 <= k) {b:zb2} {x4:zns} {C i:Nat} (hb:GoodB b) (hC:C <= 100000) (hi9:i <= 20) {x:ItD} (hx:z19q x) {st0:SV} (h0:Inv b C i x.1.2.1 st0) (hi0:i < st0.items.length) (hx0:st0.items.getD i (z18,[]) = x)
    (k0:zns -> Option zns) (k1:zns -> List (List (List UInt8)) -> List Tk -> Option zns) :
    zph (k + 100) b x4 (z4l st0 0) (z9t st0) (z6x st0) (i:Int) 0 k0 k1 = match z31 (k + 100) b x.1.2.1 x.2 st0 with | (s,true)=>k1 (z4l s 0) (z9t s) (z6x s) | (s,false)=>k0 (z4l s 11) := by
  have hxl := hx.1.len
  have hxt := hx.2.1
  rw [zph]
  refine (z84 (γ := List Lk × List (List UInt8) × SV) (fun g v => ∃ j : Nat,v = (z4l g.2.2 0,z9t g.2.2,z6x g.2.2,(j:Int)) /\ j <= x.1.2.1.length /\ g.1 = x.1.2.1.drop j /\ g.2.1 = x.2.drop j /\ Inv b C i g.1 g.2.2 /\ i < g.2.2.items.length /\ g.2.2.items.getD i (z18,[]) = x)
    (fun v=>x.1.2.1.length - v.2.2.2.toNat) (fun g=>match z31 (k + 100) b g.1 g.2.1 g.2.2 with | (s,true)=>k1 (z4l s 0) (z9t s) (z6x s) | (s,false)=>k0 (z4l s 11)) ?_ (k + 100) (x.1.2.1,x.2,st0) (z4l st0 0,z9t st0,z6x st0,0) ⟨0,rfl,by omega,rfl,rfl,h0,hi0,hx0⟩ (by simp only; omega))
  rintro ⟨ls,gs,st⟩ v r ⟨j,rfl,hj,e1,e2,hinv,hi,hxi⟩ hr
  simp only at e1 e2 hinv hi hxi
  subst e1 e2
  simp only [Int.toNat_natCast]
  have hti : i < (z6x st).length := by unfold z6x; rw [List.length_map]; exact hi
  have htg : (z6x st).getD i z18 = x.1 := by rw [<- hxi]; exact zqg _ _ (z18,[]) _ _ hi
  rw [zpd,zg (z14 hti),Int.toNat_natCast,zg (decide_eq_true hti),show (([] : List UInt8),(([] : List ((List UInt8) × ((List UInt8) × Unit))),(([] : List UInt8),()))) = z18 from rfl,htg]
  by_cases hlt : j < x.1.2.1.length
  . have hlt2 : j < x.2.length := by omega
    have hg32 := hx.2.2 _ (z5z x.2 [] j hlt2)
    rw [z1y x.1.2.1 ([],[],()) j hlt] at hinv ⊢
    rw [z1y x.2 [] j hlt2,z31,zg (decide_eq_true (by omega)),z1n (by omega)]
    rw [linkR k hk hb hinv hC hi hi9 (by rw [hxi]; exact hlt) (by rw [hxi]) (by rw [hxi]; exact hlt2) (by rw [hxi]) hg32]
    by_cases hl : (x.1.2.1.getD j ([],[],())).2.1 = []
    . rw [if_pos hl,if_pos hl]
      exact hr (x.1.2.1.drop (j + 1),x.2.drop (j + 1),_) _ ⟨j + 1,rfl,by omega,rfl,rfl,zxf hinv hl,hi,hxi⟩ (by simp only; omega)
    . rw [if_neg hl,if_neg hl]
      have h1 := zos k (by omega) hb hinv hi hl hg32
      have h2 := zj4 (k + 100) b st (x.2.getD j []) (x.1.2.1.getD j ([],[],()))
      have h3 := z12x (k + 100) b st (x.2.getD j []) (x.1.2.1.getD j ([],[],())) i hi
      generalize z7x (k + 100) b st (x.2.getD j []) (x.1.2.1.getD j ([],[],())) = T at *
      obtain ⟨s,ok⟩ := T
      cases ok with
      | true=>exact hr (x.1.2.1.drop (j + 1),x.2.drop (j + 1),s) _ ⟨j + 1,rfl,by omega,rfl,rfl,h1,Nat.lt_of_lt_of_le hi h2,h3.trans hxi⟩ (by simp only; omega)
      | false=>rfl
  . rw [zu (decide_eq_false (by omega)),z60 _ (by omega),z31]
theorem z1mb (k:Nat) (hk : 4400 <= k) {b:zb2} {x4:zns} {C:Nat} (hb:GoodB b) (hC:C <= 100000) {st0:SV} (h0:OInv b C 0 st0) (k0 k1:zns -> Option zns) :
    zpi (k + 100) b x4 (z4l st0 0) (z9t st0) (z6x st0) 0 k0 k1 = match z3w (k + 100) b 20 0 st0 with | (s,true)=>k1 (z4l s 0) | (s,false)=>k0 (z4l s 11) := by
  rw [zpi]
  refine (z84 (γ := Nat × SV) (fun g v=>v = (z4l g.2 0,z9t g.2,z6x g.2,((g.1 : Nat) : Int)) /\ g.1 <= 9 /\ OInv b C g.1 g.2) (fun v=>10 - v.2.2.2.toNat) (fun g=>match z3w (k + 100) b (20 - g.1) g.1 g.2 with | (s,true)=>k1 (z4l s 0) | (s,false)=>k0 (z4l s 11)) ?_ (k + 100) (0,st0) (z4l st0 0,z9t st0,z6x st0,0) ⟨rfl,by omega,h0⟩ (by simp only; omega))
  rintro ⟨i,st⟩ v r ⟨rfl,hi9,hinv⟩ hr
  simp only at hi9 hinv
  simp only
  have hb8 := hb.len
  have hln := hinv.len
  have hun := zhv st.used
  have hul := hinv.used
  obtain ⟨f,hf⟩ : ∃ f,20 - i = f + 1 := ⟨19 - i,by omega⟩
  have hlm : (z6x st).length = st.items.length := List.length_map ..
  rw [zpe,hf,z3w,hlm]
  by_cases hlt : i < st.items.length
  . have hx := hinv.items _ (z5z st.items (z18,[]) i hlt)
    rw [zg (decide_eq_true (by omega)),if_pos hlt,z1or k hk hb hC (by omega) hx (hinv.enter hlt) hlt rfl]
    have hfin := zhc k (by omega) hb _ (st.items.getD i (z18,[])).2 st (hinv.enter hlt) hlt hx.2.2
    generalize z31 (k + 100) b (st.items.getD i (z18,[])).1.2.1 (st.items.getD i (z18,[])).2 st = T at *
    obtain ⟨s,ok⟩ := T
    cases ok with
    | true =>
      simp only
      obtain ⟨h1,h2⟩ := hfin.2.2.2 rfl
      simp only at h1 h2
      have hl1 := h1.len
      have hl2 := zhv s.used
      have hl3 := h1.used
      rw [z1n (by omega),hr (i + 1,s) _ ⟨rfl,by simp only; omega,h1.leave⟩ (by simp only; omega)]
      simp only
      rw [show 20 - (i + 1) = f by omega]
    | false=>rfl
  . rw [zu (decide_eq_false (by omega)),if_neg hlt]
theorem usedR (N:Nat) {x4:zns} {st:SV} {e0:Int} (hu:st.used.length <= 100) (hN : 200 < N) (k0:zns -> Option zns) :
    zm8 N x4 (z4l st e0) 0 k0 = k0 (z4l st (if st.used.contains false = true then 11 else e0)) := by
  rw [zm8]
  refine (z84 (γ := Nat × Int) (fun g v=>v = (z4l st g.2,((g.1 : Nat) : Int)) /\ g.1 <= st.used.length) (fun v=>st.used.length - v.2.toNat) (fun g=>k0 (z4l st (if (st.used.drop g.1).contains false = true then 11 else g.2))) ?_ N (0,e0) (z4l st e0,0) ⟨rfl,by omega⟩ (by simp only; omega)).trans (by rfl)
  rintro ⟨i,e⟩ v r ⟨rfl,hi⟩ hr
  simp only at hi
  simp only
  rw [zm6,show (z4l st e).1 = st.used from rfl]
  by_cases hlt : i < st.used.length
  . rw [zg (decide_eq_true (by omega)),zm7,show (z4l st e).1 = st.used from rfl,zg (z14 hlt),Int.toNat_natCast,zg (decide_eq_true hlt),z1y st.used false i hlt,List.contains_cons,z1n (by omega)]
    cases hb : st.used.getD i false with
    | false =>
      rw [Bool.not_false,cond_true,beq_self_eq_true,Bool.true_or,if_pos rfl]
      refine (hr (i + 1,11) _ ⟨rfl,by simp only; omega⟩ (by simp only; omega)).trans ?_
      simp only
      cases (st.used.drop (i + 1)).contains false <;> rfl
    | true =>
      rw [Bool.not_true,cond_false]
      refine (hr (i + 1,e) _ ⟨rfl,by simp only; omega⟩ (by simp only; omega)).trans ?_
      rfl
  . rw [zu (decide_eq_false (by omega)),z60 _ (by omega)]
    rfl
theorem z1sz (N:Nat) {key:List UInt8} {b:zb2} {x4:zns} (hb:b.2.1.length <= 100) (hN : 200 < N) (k0:zns -> Option zns) :
    zpm N key b x4 ([],([],(0,(0,([],()))))) 0 k0 = k0 (List.replicate b.2.1.length false,([],(0,((if b.2.1.any zrf = true then 3 else 0),([],()))))) := by
  rw [zpm]
  refine (z84 (γ := Nat × Int) (fun g v=>v = ((List.replicate g.1 false,([],(0,(g.2,([],()))))),((g.1 : Nat) : Int)) /\ g.1 <= b.2.1.length) (fun v=>b.2.1.length - v.2.toNat) (fun g=>k0 (List.replicate b.2.1.length false,([],(0,((if (b.2.1.drop g.1).any zrf = true then 3 else g.2),([],())))))) ?_ N (0,0) (([],([],(0,(0,([],()))))),0) ⟨rfl,by omega⟩ (by simp only; omega)).trans (by rfl)
  rintro ⟨i,e⟩ v r ⟨rfl,hi⟩ hr
  simp only at hi
  simp only
  rw [zpf]
  by_cases hlt : i < b.2.1.length
  . rw [zg (decide_eq_true (by omega)),zpl,zg (decide_eq_true (by simp only [List.length_replicate]; omega)),zg (z14 hlt),Int.toNat_natCast,show (([] : List UInt8),(([] : List ((List UInt8) × ((List UInt8) × Unit))),(([] : List UInt8),()))) = z18 from rfl,z1y b.2.1 z18 i hlt,List.any_cons,z1n (by omega),zrf]
    have hrep : List.replicate i false ++ [false] = List.replicate (i + 1) false := by rw [List.replicate_succ']
    simp only [hrep]
    by_cases h : 64 < (b.2.1.getD i z18).2.1.length
    . rw [zg (decide_eq_true (by omega)),decide_eq_true h,Bool.true_or,if_pos rfl]
      refine (hr (i + 1,3) _ ⟨rfl,by simp only; omega⟩ (by simp only; omega)).trans ?_
      simp only
      cases (b.2.1.drop (i + 1)).any zrf <;> rfl
    . rw [zu (decide_eq_false (by omega)),decide_eq_false h,Bool.false_or]
      exact hr (i + 1,e) _ ⟨rfl,by simp only; omega⟩ (by simp only; omega)
  . have : i = b.2.1.length := by omega
    subst this
    rw [zu (decide_eq_false (by omega)),List.drop_length]
    rfl
theorem zvb (k:Nat) (hk : 4400 <= k) {key:List UInt8} {b:zb2} (hb:GoodB b) (hl:key.length <= 30000) (h:zlx b = true) :
    zn4 (k + 100) key b = some (z4l (zd5 (k + 100) key b).1 (zd5 (k + 100) key b).2) := by
  have hb8 := hb.len
  have hb1 := hb.one.tag
  have hln := hb.one.len
  have hid := hb.one.id
  have hO := z133 k (by omega) hb hl
  have hM := z106 hb
  unfold zlx at h
  rw [Bool.and_eq_true,decide_eq_true_eq,Bool.not_eq_true',List.any_cons,Bool.or_eq_false_iff] at h
  rw [zn4,z1sz (k + 100) (by omega) (by omega),zpk,zpj,zu (decide_eq_false (by omega)),decide_eq_false (show ¬ (64 : Int) < ((b.1.2.1.length : Nat) : Int) by omega),cond_false,h.2.2,if_neg (by simp)]
  simp only
  rw [zu (by rfl),zm5 k (by omega) hl (by omega) (by omega) hb.one.links,Option.bind_some,zn3 k (by omega) hl (by omega) (by omega) hb.one.links,Option.bind_some,z1a9 _ (by omega),Option.bind_some,z3v]
  unfold zd5
  by_cases he : z6v (k + 100) (zl (k + 100) key b.1.1) b.1.2.1 = b.1.2.2.1
  . rw [beq_iff_eq.2 he,Bool.not_true,cond_false,if_pos he]
    have e1 : ((List.replicate b.2.1.length false,(([] : List (List UInt8)),(((b.1.2.1.length + 1 : Nat) : Int),((0 : Int),(z32 (k + 100) key b.1.1 b.1.2.1,()))))) : zns) = z4l (stB (k + 100) key b) 0 := rfl
    have e2 : ([z8e (k + 100) (zl (k + 100) key b.1.1) b.1.2.1] : List (List (List UInt8))) = z9t (stB (k + 100) key b) := rfl
    have e3 : ([b.1] : List Tk) = z6x (stB (k + 100) key b) := rfl
    rw [e1,e2,e3,z1mb k hk hb (by omega) hO]
    have hfin := zps k (by omega) hb 20 0 _ hO
    generalize z3w (k + 100) b 20 0 (stB (k + 100) key b) = T at *
    obtain ⟨s,ok⟩ := T
    simp only at hfin ⊢
    cases ok with
    | false =>
      rw [if_neg (by simp)]
    | true =>
      simp only
      rw [usedR (k + 100) (by omega) (by omega)]
      cases hcn : s.used.contains false with
      | true=>rw [if_pos rfl,if_neg (by simp)]
      | false=>rw [if_neg (by simp),if_pos (by simp)]
  . rw [beq_eq_false_iff_ne.2 he,Bool.not_false,cond_true,if_neg he]
    rfl
end
end Go.Proofs.YtkipbccgnekoaaaGreatDoorLg
set_option linter.all false
set_option maxRecDepth 100000
namespace Go.Proofs.YtkipbccgnekoaaaGreatDoorLg
noncomputable section
open Go Go.Lift Go.Proofs.YtkipbccgnekoaaaGreatDoorPx
theorem or8 {n b:Nat} (hn:n < 72057594037927936) (hb:b < 256) : zj .or .u64 (z8a .u64 (n:Int) 8) (IntKind.wrap .u64 (b:Int)) = ((n * 256 + b : Nat) : Int) := by
  have hwu : ∀ x : Nat,x < 18446744073709551616 -> IntKind.wrap .u64 (x:Int) = (x:Int) := by
    intro x hx
    show (x:Int) % 18446744073709551616 = _
    omega
  have h1 : z8a .u64 (n:Int) 8 = ((n * 256 : Nat) : Int) := by
    unfold z8a
    rw [show (min (8 : Int).toNat (IntKind.bits .u64)) = 8 from rfl,show (n:Int) * 2 ^ 8 = ((n * 256 : Nat) : Int) by omega,hwu _ (by omega)]
  rw [h1,hwu b (by omega)]
  unfold zj
  dsimp only
  rw [BitVec.ofInt_natCast,BitVec.ofInt_natCast,BitVec.toNat_or,BitVec.toNat_ofNat,BitVec.toNat_ofNat,Nat.mod_eq_of_lt (show n * 256 < 2 ^ (IntKind.bits .u64) from by show n * 256 < 18446744073709551616; omega),Nat.mod_eq_of_lt (show b < 2 ^ (IntKind.bits .u64) from by show b < 18446744073709551616; omega)]
  rw [show n * 256 = n <<< 8 by rw [Nat.shiftLeft_eq], <- Nat.shiftLeft_add_eq_or_of_lt (show b < 2 ^ 8 by omega),Nat.shiftLeft_eq,hwu _ (by omega)]
theorem z1go {N:Nat} {s:List UInt8} (hs : 8 <= s.length) (hN : 8 < N) (k0:Int -> Option (List UInt8 × List UInt8 × Bool × Unit)) : zjy N s 0 0 k0 = k0 ((zui (s.take 8) 0 : Nat) : Int) := by
  unfold zjy
  rw [z28 (I := fun (v:Int × Int) => ∃ i : Nat,i <= 8 /\ v = (((zui (s.take i) 0 : Nat) : Int),(i:Int))) (m := fun v=>8 - v.2.toNat) (R := fun _=>k0 ((zui (s.take 8) 0 : Nat) : Int)) ?_ N (0,0) ⟨0,by omega,rfl⟩ (by dsimp only; omega)]
  rintro v r ⟨i,hi,rfl⟩ hr
  dsimp only at hr ⊢
  unfold zjx
  by_cases h : i < 8
  . have hp : 256 ^ i <= 256 ^ 7 := Nat.pow_le_pow_right (by omega) (by omega)
    have hv := zwt i s (by omega)
    rw [zg (z15 (by omega)),zg (z14 (by omega)),Int.toNat_natCast,or8 (by omega) (zwu _),z1n (by omega), <- zuk (by omega)]
    exact hr _ ⟨i + 1,by omega,rfl⟩ (by dsimp only; omega)
  . rw [zu (z3n (by omega)),show i = 8 by omega]
def cutV : Option (List UInt8 × List UInt8) -> List UInt8 × List UInt8 × Bool × Unit
  | none=>([],[],false,())
  | some (a,b)=>(a,b,true,())
theorem z1t3 {N:Nat} {s:List UInt8} (hs:s.length <= 9223372036854775800) (hN : 8 < N) : zl6 N s = some (cutV (z10o s)) := by
  unfold zl6 z10o
  by_cases h : s.length < 8
  . rw [zg (z15 (by omega)),if_pos h]; rfl
  rw [zu (z3n (by omega)),if_neg h,z1go (by omega) hN,zg (z15 (by omega)),ztz,List.length_drop]
  have hv : zui (s.take 8) 0 < 18446744073709551616 := zwt 8 s (by omega)
  have hw : IntKind.wrap .u64 (((s.length - 8 : Nat)) : Int) = ((s.length - 8 : Nat) : Int) := by
    show ((s.length - 8 : Nat) : Int) % 18446744073709551616 = _
    omega
  rw [hw]
  by_cases h2 : s.length - 8 < zui (s.take 8) 0
  . rw [zg (z15 (by omega)),if_pos h2]; rfl
  rw [zu (z3n (by omega)),if_neg h2,zg (z15 (by omega)),zg (z15 (by omega)),Int.toNat_natCast,zdd,show s.length - 8 = (s.drop 8).length by rw [List.length_drop],ztz]
  rfl
theorem z18i {N:Nat} {s:List UInt8} (hs:s.length <= 9223372036854775800) (hN:s.length + 9 < N) : zcm N s = some (zgf s.length s) := by
  unfold zcm ziv
  refine z28 (I := fun (v:List UInt8)=>v.length <= s.length) (m := fun v=>v.length) (R := fun v=>some (zgf v.length v)) ?_ N s (Nat.le_refl _) (by omega)
  intro v r hv hr
  unfold zds
  by_cases e : v = []
  . subst e; rfl
  have e' : (!(v == ([] : List UInt8))) = true := by simpa using e
  rw [zg e',z1t3 (by omega) (by omega),Option.bind_some]
  have hp : 0 < v.length := List.length_pos_iff.2 e
  obtain ⟨n,hn⟩ : ∃ n,v.length = n + 1 := ⟨v.length - 1,by omega⟩
  cases hc : z10o v with
  | none=>rw [hn,zgf,if_neg e,hc]; rfl
  | some p =>
    obtain ⟨a,b⟩ := p
    have hb := zhj hc
    have h2 := hr b (by omega) hb
    rw [hn,zgf,if_neg e,hc]
    show zu0 (a,true,()) (r b) (some []) = some ((a,true,()) :: zgf n b)
    rw [h2,zeu,zq5 n b.length b (by omega) (by omega)]
def z135 : Option (List (List UInt8)) -> List (List UInt8) × Bool × Unit
  | none=>([],false,())
  | some l=>(l,true,())
theorem z15k : ∀ (n:Nat) (s:List UInt8) (acc:List (List UInt8)) (f:List (List UInt8) -> Option (List (List UInt8) × Bool × Unit)) (N:Nat),s.length <= n -> acc.length + s.length <= 100000 →
    zem (fun (y:(List UInt8 × Bool × Unit)) (v:List (List UInt8)) r=>z8v N [] false v y (fun parts_1=>r parts_1) (fun x2 x3 parts=>some (x2,(x3,()))) f) f (zgf n s) acc =
      match zg6 n s with
      | none=>some ([],false,())
      | some l=>f (acc ++ l)
  | 0,s,acc,f,N,h,_=>by
    have : s = [] := List.length_eq_zero_iff.1 (by omega)
    subst this
    simp [zgf,zg6,zem]
  | n + 1,s,acc,f,N,h,hb=>by
    unfold zgf zg6
    by_cases e : s = []
    . rw [if_pos e,if_pos e]; simp [zem]
    rw [if_neg e,if_neg e]
    cases hc : z10o s with
    | none=>rfl
    | some p =>
      obtain ⟨a,b⟩ := p
      have hl := zhj hc
      dsimp only
      rw [zem]
      unfold z8v
      dsimp only
      rw [Bool.not_true,cond_false,zg (z15 (by omega))]
      have := z15k n b (acc ++ [a]) f N (by omega) (by rw [List.length_append,List.length_singleton]; omega)
      unfold z8v at this
      rw [this]
      cases zg6 n b with
      | none=>rfl
      | some l=>simp
theorem z17a {N:Nat} {s:List UInt8} (hs:s.length <= 100000) (hN:s.length + 9 < N) : zen N s = some (z135 (zkc s)) := by
  unfold zen zl8 z8w
  rw [z18i (by omega) hN,Option.bind_some,z15k s.length s [] _ N (Nat.le_refl _) (by simpa using hs)]
  cases h : zkc s with
  | none=>rw [show zg6 s.length s = none from h]; rfl
  | some l=>rw [show zg6 s.length s = some l from h]; rfl
end
end Go.Proofs.YtkipbccgnekoaaaGreatDoorLg
set_option linter.all false
set_option maxRecDepth 100000
namespace Go.Proofs.YtkipbccgnekoaaaGreatDoorLg
noncomputable section
open Go Go.Lift Go.Proofs.YtkipbccgnekoaaaGreatDoorPx
def z18n : Option (List (List UInt8)) -> List UInt8 × List UInt8 × Int × Unit
  | some [a,b]=>(a,b,0,())
  | _=>([],[],2,())
theorem z153 {m:List (List UInt8)} (h:m.length ≠ 2) : z18n (some m) = ([],[],2,()) := by
  match m with
  | []=>rfl
  | [_]=>rfl
  | [_,_]=>exact absurd rfl h
  | _ :: _ :: _ :: _=>rfl
theorem z17l (N:Nat) (hN : 10 < N) (m:List (List UInt8)) (h2 : 2 <= m.length) :
    zdn N [] [] 0 m ((m.length : Nat) : Int) 0 (fun a b e=>some (a,(b,(e,())))) = some (z18n (some m)) := by
  obtain ⟨a,b,l,rfl⟩ : ∃ a b l,m = a :: b :: l := by
    match m,h2 with
    | a :: b :: l,_=>exact ⟨a,b,l,rfl⟩
  rw [zdn]
  refine z28 (fun v=>v = (([] : List UInt8),([] : List UInt8),(0 : Int)) \/ v = (a,[],1) \/ v = (a,b,2)) (fun v=>3 - v.2.2.toNat) (fun _=>some (z18n (some (a :: b :: l)))) ?_ N ([],[],0) (.inl rfl) (by simp only; omega)
  rintro v r (rfl | rfl | rfl) hr
  . rw [z78]
    dsimp only
    rw [zg (decide_eq_true (by simp only [List.length_cons]; omega)),zg (by unfold inR; exact decide_eq_true ⟨by omega,by simp only [List.length_cons]; omega⟩),zg (by rfl)]
    exact hr _ (.inr (.inl rfl)) (by simp only; decide)
  . rw [z78]
    dsimp only
    rw [zg (decide_eq_true (by simp only [List.length_cons]; omega)),zg (by unfold inR; exact decide_eq_true ⟨by omega,by simp only [List.length_cons]; omega⟩),zu (by rfl),zg (by rfl)]
    exact hr _ (.inr (.inr rfl)) (by simp only; decide)
  . rw [z78]
    dsimp only
    cases l with
    | nil=>rw [zu (decide_eq_false (by simp))]; rfl
    | cons c l =>
      rw [zg (decide_eq_true (by simp only [List.length_cons]; omega)),zg (by unfold inR; exact decide_eq_true ⟨by omega,by simp only [List.length_cons]; omega⟩),zu (by rfl),zu (by rfl)]
      rfl
theorem z1d3 (N:Nat) {n t c:List UInt8} (ho:z5o N n t = some (c,0,())) (hc:c.length <= 10000) (hN:c.length + 20 < N) : z5u N n t = some (z18n (zkc c)) := by
  rw [z5u,ho,Option.bind_some]
  dsimp only
  rw [bne_self_eq_false,cond_false,z17a (by omega) (by omega),Option.bind_some,zdq,zdp]
  cases hs : zkc c with
  | none=>rfl
  | some m =>
    rw [show (z135 (some m)).2.1 = true from rfl,show (z135 (some m)).1 = m from rfl,Bool.not_true,cond_false]
    by_cases h2 : m.length < 2
    . rw [decide_eq_true (show ((m.length : Nat) : Int) < 2 by omega),cond_true,z153 (by omega)]
    . rw [decide_eq_false (show ¬ ((m.length : Nat) : Int) < 2 by omega),cond_false,zdo]
      exact z17l N (by omega) m (by omega)
def zcp (key text:List UInt8) : List UInt8 := z11 [key,text]
theorem z6b (key text:List UInt8) : (zcp key text).length = 16 + key.length + text.length := by
  unfold zcp; rw [z2x]; simp; omega
theorem z1m4 {key text:List UInt8} (hk:key.length <= 100000) (ht:text.length <= 100000) : zkc (zcp key text) = some [key,text] :=
  zf2 [key,text] (fun p hp=>by simp only [List.mem_cons,List.not_mem_nil,or_false] at hp; rcases hp with rfl | rfl <;> omega)
theorem z10x (k:Nat) {n nonce key text:List UInt8} (hk:key.length <= 100000) (ht:text.length <= 100000) : z4w (k + 100) n nonce key text = (zfz (k + 100) n nonce (zcp key text)).bind fun y1=>some (y1.1,(y1.2.1,())) := by
  rw [z4w,show z87 (k + 100) [key,text] = some (zcp key text) from z1bi k (by simp) (by have := z6b key text; unfold zcp at this; omega),Option.bind_some]
theorem z12w (k:Nat) {n nonce key text:List UInt8} (hk : 4400 <= k) (hn:n.length <= 30000) (h16:nonce.length = 16) (hl:key.length + text.length <= 1800) : z4w (k + 100) n nonce key text = some (z95 (k + 100) n nonce (zcp key text),0,()) := by
  rw [z10x k (by omega) (by omega),z13d k hk hn h16 (by rw [z6b]; omega)]; rfl
theorem zxc (k:Nat) {n nonce key text:List UInt8} (hk : 4400 <= k) (hn:n.length <= 30000) (h16:nonce.length = 16) (hl:key.length + text.length <= 1800) :
    z5u (k + 100) n (z95 (k + 100) n nonce (zcp key text)) = some (key,text,0,()) := by
  have hf := zvx k (key := n) (nonce := nonce) (text := zcp key text) hk hn h16 (by rw [z6b]; omega)
  have hsl := z9y k (key := n) (nonce := nonce) (text := zcp key text) (by omega) hn h16 (by rw [z6b]; omega)
  have hfl := z6b key text
  have ho : z5o (k + 100) n (z95 (k + 100) n nonce (zcp key text)) = some (zcp key text,0,()) := by
    rw [zxh k hk hn (by omega) (by omega),hf.1,hf.2,cond_true]
  rw [z1d3 (k + 100) ho (by omega) (by omega),z1m4 (by omega) (by omega)]
  rfl
def mkL (c:List UInt8) : Lk := (c,[],())
end
end Go.Proofs.YtkipbccgnekoaaaGreatDoorLg
set_option linter.all false
set_option maxRecDepth 100000
namespace Go.Proofs.YtkipbccgnekoaaaGreatDoorLg
noncomputable section
open Go Go.Lift Go.Proofs.YtkipbccgnekoaaaGreatDoorPx
def z1te (N:Nat) (t d:Tk) : Tk := (d.1,d.2.1,z93 N t.2.2.1 d.2.2.1,())
def z1qu (d:Tk) : Prop := d.2.1.length <= 70 /\ d.2.2.1.length <= 8000
def nonceX : List UInt8 := [48,49,50,51,52,53,54,55,56,57,97,98,99,100,101,102]
end
end Go.Proofs.YtkipbccgnekoaaaGreatDoorLg
