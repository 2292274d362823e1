import Derived.Test.YtgbcebmahbieoaaDoorLgPrDr1
import Derived.Test.YtgbcebmahbieoaaDoorLgW
import Derived.KernelRfl
set_option linter.all false
set_option maxRecDepth 100000
namespace Go.Proofs.YtgbcebmahbieoaaDoorLg
noncomputable section
open Go Go.Lift
def zjx : Code := (Tryd.f5.body).getD .skip
def z1pn : List (List Nat × List Nat) := [([0],[1]),([0,0,1],[19,1]),([1,0,1],[1]),([0,0,1,0,1],[2]),([1,0,1,0,1],[2]),([0,0,1,1],[3,1]),([0,1,0,1,1],[3,1]),(z1bh,[24,1,3]),(z1bg,[1,3]),(PQ91,[]),(PQ67,[33,3,1]),(z1pk,[3,1]),(PQ152,[2]),(PQ153,[2]),(zts,[3,1]),(z1bf,[3,1]),([1,0,1,1],[]),([0,1,1,1],[2]),([1,1,1,1],[2])]
def z1ct (N:Nat) : Env := z1d tys glob [] [] [] [] false [] [(76,za N)]
theorem z1ra (N:Nat) : EnvOk Tryd.prog (z1ct N) := zi mixed zn (FnsOk.nil) (ItsOk.cons (zb N) (ItsOk.nil))
def z6x (N:Nat) (d:DT8) (k0:Bool -> Option Bool) : Option Bool :=
 cond (decide ((60 : Int) < (((List.length d.2.2.2.1) : Nat) : Int)))
 (k0 true)
 (cond (decide ((60 : Int) < (((List.length d.2.1) : Nat) : Int)))
 (k0 true)
 (k0 (decide ((300 : Int) < (((List.length d.2.2.1) : Nat) : Int)))))
def z1mu (N:Nat) (x:z13 [(1,.box TT6)]) (K:Ex -> List A -> Option Bool) : Option Bool :=
 z6x N x.1 (fun a1=>(K .normal (mkS [(1,.box TT6),(17,.v .bool)] 14 (x.1,a1,()))))
def z1jf (N:Nat) : Hd Bool := fun st K=>(unS [(1,.box TT6)] 32 (restr [1] 0 st)).bind fun x=>z1mu N x K
def t2_45 (N:Nat) : Tab Bool := []
theorem z1fj {N:Nat} {c:Ctx} (hb:Base Tryd.prog (z1ct N) c) : zj Tryd.prog c (zh zjx [0,0,1]) (z1jf N) :=
  zl (s := [(1,.box TT6)]) (m := 32) (g := z1mu N) [1] (ze hb N (t2_45 N) z1pn zjx TabOk.nil [0,0,1] _ rfl) (fun x K=>by kernel_rfl)
def z6y (N:Nat) (d:DT8) (k0:Bool -> Option Bool) (k1:Option Bool) : Option Bool :=
 z6x N d
 (fun x19=>cond x19
 (k0 true)
 (k1))
def z1ob (N:Nat) (x:z13 [(1,.box TT6)]) (K:Ex -> List A -> Option Bool) : Option Bool :=
 z6y N x.1 (fun a0=>(K .ret (mkS [(2,.v .bool)] 31 (a0,())))) (K .normal (mkS [(1,.box TT6)] 32 (x.1,())))
def z1kw (N:Nat) : Hd Bool := fun st K=>(unS [(1,.box TT6)] 32 (restr [1] 0 st)).bind fun x=>z1ob N x K
def t1_45 (N:Nat) : Tab Bool := [([0,0,1],z1jf N)]
theorem z1h0 {N:Nat} {c:Ctx} (hb:Base Tryd.prog (z1ct N) c) : zj Tryd.prog c (zh zjx [0,1]) (z1kw N) :=
  zl (s := [(1,.box TT6)]) (m := 32) (g := z1ob N) [1] (ze hb N (t1_45 N) z1pn zjx (TabOk.cons (z1fj hb) TabOk.nil) [0,1] _ rfl) (fun x K=>by kernel_rfl)
def z4g (N:Nat) (d:DT8) (i:Int) (rec:Int -> Option Bool) (k0:Bool -> Option Bool) (k1:Option Bool) : Option Bool :=
 cond (decide (i < (((List.length d.2.2.2.1) : Nat) : Int)))
 (cond (inR i (List.length d.2.2.2.1))
 (cond (decide ((260 : Int) < (((List.length (List.getD d.2.2.2.1 (Int.toNat i) ([] : List Int))) : Nat) : Int)))
 (k0 true)
 (rec (IntKind.wrap IntKind.i64 (i + (1 : Int)))))
 (none))
 (k1)
def zb7 (N:Nat) (d:DT8) (i:Int) (k0:Bool -> Option Bool) (k1:Option Bool) : Option Bool :=
 iter (fun (v:Int) r=>z4g N d v (fun i=>(r i)) k0 k1) N i
def z1m4 (N:Nat) (i:DT8) (v:Int) (r:Int -> Option Bool) (K:Ex -> List A -> Option Bool) : Option Bool :=
 z4g N i v (fun i=>(r i)) (fun a0=>(K .ret (mkS [(2,.v .bool)] 31 (a0,())))) (K (.exit 0) (mkS [] 34 ()))
def z1ip (N:Nat) : Hd Bool := fun st K=>(unS z12i 30 (restr [3,1] 0 st)).bind fun x=>iter (fun v r=>z1m4 N ((fun x=>x.1) x) v r K) N ((fun x=>x.2.1) x)
def t3_45 (N:Nat) : Tab Bool := []
theorem z1et {N:Nat} {c:Ctx} (hb:Base Tryd.prog (z1ct N) c) : zj Tryd.prog c (zh zjx [0,1,0,1,1]) (z1ip N) :=
  z18 (s := z12i) (m := 30) (z1m4 N) [3,1] N (fun x=>x.1) (fun x=>x.2.1) (fun i v=>(i,v,())) (fun _=>rfl) (ze hb N (t3_45 N) z1pn zjx TabOk.nil [0,0,1,0,1,1] _ rfl) (fun i v r K=>by kernel_rfl)
def z4j (N:Nat) (d:DT8) : Option Bool :=
 z6y N d
 (fun x2=>some x2)
 (zb7 N d (0 : Int)
 (fun x21=>some x21)
 (some false))
def t_45 (N:Nat) : Tab Bool := [([0,1],z1kw N),([0,1,0,1,1],z1ip N)]
theorem z19c (N:Nat) (x:z13 [(0,.v TT6)]) : z4l (z1ct N) N (t_45 N) z1pn Tryd.f5 (mkS [(0,.v TT6)] 0 x) (z2v (.v .bool) 1) = z4j N x.1 := by kernel_rfl
def za7 (N:Nat) : List A -> Res := zz [(0,.v TT6)] (fun x=>z4j N x.1) (z70 (.v .bool) 1)
theorem zil (N:Nat) : Contract Tryd.prog glob 5 (za7 N) :=
  Contract.of (E := z1ct N) (H := t_45 N) (L := z1pn) (N := N) (body := zjx) (K := (z2v (.v .bool) 1)) (z1ra N) Tryd.func5 (by kernel_rfl) (by decide) (fun _ hb=>(TabOk.cons (z1h0 hb) (TabOk.cons (z1et hb) TabOk.nil))) (fun x y h=>by rw [z19c]; exact h) (z16 (s := (.v .bool)) (m := 1))
def zvp : Code := (Tryd.f72.body).getD .skip
def L_47 : List (List Nat × List Nat) := [([0],[2,1]),([0,0,1],[10,9,8,1]),([0,1,0,1],[10,9,8,1]),([0,0,0,1,0,1],[11,8,10,1,9]),(z1ck,[8,10,1,9]),(zz1,[]),(zz4,[6,1,10,9,8]),([0,1,0,0,1,1,0,0,1,0,1],[17,10,9,8,1]),([1,1,0,0,1,1,0,0,1,0,1],[10,9,8,1]),([0,0,1,1,0,0,1,1,0,0,1,0,1],[4]),([1,0,1,1,0,0,1,1,0,0,1,0,1],[4]),(zz0,[10,9,8,1]),(zyz,[10,9,8,1]),([1,0,1],[]),([0,1,1],[4]),([1,1,1],[4])]
def E_47 (N:Nat) : Env := z1d tys glob [] [] [] [] false [] [(76,za N)]
theorem z1r9 (N:Nat) : EnvOk Tryd.prog (E_47 N) := zi mixed zn (FnsOk.nil) (ItsOk.cons (zb N) (ItsOk.nil))
def zgw (N:Nat) (kind:Int) (x8:(List Tree)) (x9:Int) (x10:Int) (rec:Int -> Option Bool) (k0:Bool -> Option Bool) (k1:Option Bool) : Option Bool :=
 cond (decide (x10 < x9))
 (cond (inR x10 (List.length x8))
 (cond ((unN (List.getD x8 (Int.toNat x10) (Tree.mk (0 : Int) ([] : List Int) ([] : List Tree) (0 : Int) (0 : Int)))).1 == kind)
 (k0 true)
 (rec (IntKind.wrap IntKind.i64 (x10 + (1 : Int)))))
 (none))
 (k1)
def zo2 (N:Nat) (kind:Int) (x8:(List Tree)) (x9:Int) (x10:Int) (k0:Bool -> Option Bool) (k1:Option Bool) : Option Bool :=
 iter (fun (v:Int) r=>zgw N kind x8 x9 v (fun x10=>(r x10)) k0 k1) N x10
def z1oa (N:Nat) (i:(Int × (List Tree) × Int)) (v:Int) (r:Int -> Option Bool) (K:Ex -> List A -> Option Bool) : Option Bool :=
 zgw N i.1 i.2.1 i.2.2 v (fun x10=>(r x10)) (fun a0=>(K .ret (mkS [(4,.v .bool)] 14 (a0,())))) (K (.exit 0) (mkS [] 19 ()))
def z1kv (N:Nat) : Hd Bool := fun st K=>(unS [(1,.v (.int .i64)),(6,.v (.sl .nod)),(0,.v (.int .i64)),(0,.v (.int .i64))] 8 (restr [10,9,8,1] 0 st)).bind fun x=>iter (fun v r=>z1oa N ((fun x=>(x.1,x.2.1,x.2.2.1)) x) v r K) N ((fun x=>x.2.2.2.1) x)
def t1_47 (N:Nat) : Tab Bool := []
theorem z1gz {N:Nat} {c:Ctx} (hb:Base Tryd.prog (E_47 N) c) : zj Tryd.prog c (zh zvp [0,1,0,1]) (z1kv N) :=
  z18 (s := [(1,.v (.int .i64)),(6,.v (.sl .nod)),(0,.v (.int .i64)),(0,.v (.int .i64))]) (m := 8) (z1oa N) [10,9,8,1] N (fun x=>(x.1,x.2.1,x.2.2.1)) (fun x=>x.2.2.2.1) (fun i v=>(i.1,i.2.1,i.2.2,v,())) (fun _=>rfl) (ze hb N (t1_47 N) L_47 zvp TabOk.nil [0,0,1,0,1] _ rfl) (fun i v r K=>by kernel_rfl)
def zd2 (N:Nat) (n:DT7) (kind:Int) : Option Bool :=
 zo2 N kind n.2.2.1 (((List.length n.2.2.1) : Nat) : Int) (0 : Int)
 (fun x4=>some x4)
 (some false)
def t_47 (N:Nat) : Tab Bool := [([0,1,0,1],z1kv N)]
theorem z19b (N:Nat) (x:z13 [(0,.v TT4),(0,.v (.int .i64))]) : z4l (E_47 N) N (t_47 N) L_47 Tryd.f72 (mkS [(0,.v TT4),(0,.v (.int .i64))] 0 x) (z2v (.v .bool) 2) = zd2 N x.1 x.2.1 := by kernel_rfl
def zg4 (N:Nat) : List A -> Res := zz [(0,.v TT4),(0,.v (.int .i64))] (fun x=>zd2 N x.1 x.2.1) (z70 (.v .bool) 2)
theorem zo3 (N:Nat) : Contract Tryd.prog glob 72 (zg4 N) :=
  Contract.of (E := E_47 N) (H := t_47 N) (L := L_47) (N := N) (body := zvp) (K := (z2v (.v .bool) 2)) (z1r9 N) Tryd.func72 (by kernel_rfl) (by decide) (fun _ hb=>(TabOk.cons (z1gz hb) TabOk.nil)) (fun x y h=>by rw [z19b]; exact h) (z16 (s := (.v .bool)) (m := 2))
def zpb : Code := (Tryd.f73.body).getD .skip
def L_48 : List (List Nat × List Nat) := [([0],[0,1]),([0,0,1],[10,1,0]),([1,0,1],[1,0]),([0,0,1,0,1],[4]),([1,0,1,0,1],[4]),([0,1,1],[4]),([1,1,1],[4])]
def z1s5 (N:Nat) : Env := z1d tys glob [] [] [] [] false [] [(76,za N)]
theorem z1r8 (N:Nat) : EnvOk Tryd.prog (z1s5 N) := zi mixed zn (FnsOk.nil) (ItsOk.cons (zb N) (ItsOk.nil))
def zj1 (N:Nat) (low:Int) (high:Int) (k0:Bool -> Option Bool) : Option Bool :=
 cond (decide (low < (0 : Int)))
 (k0 true)
 (k0 (decide ((16 : Int) < low)))
def z1mt (N:Nat) (x:z13 zys) (K:Ex -> List A -> Option Bool) : Option Bool :=
 zj1 N x.1 x.2.1 (fun a2=>(K .normal (mkS [(0,.v (.int .i64)),(0,.v (.int .i64)),(8,.v .bool)] 12 (x.1,x.2.1,a2,()))))
def z1je (N:Nat) : Hd Bool := fun st K=>(unS zys 21 (restr [0,1] 0 st)).bind fun x=>z1mt N x K
def t2_48 (N:Nat) : Tab Bool := []
theorem z1fi {N:Nat} {c:Ctx} (hb:Base Tryd.prog (z1s5 N) c) : zj Tryd.prog c (zh zpb [0,0,1]) (z1je N) :=
  zl (s := zys) (m := 21) (g := z1mt N) [0,1] (ze hb N (t2_48 N) L_48 zpb TabOk.nil [0,0,1] _ rfl) (fun x K=>by kernel_rfl)
def zj2 (N:Nat) (low:Int) (high:Int) (k0:Bool -> Option Bool) (k1:Option Bool) : Option Bool :=
 zj1 N low high
 (fun x10=>cond x10
 (k0 false)
 (k1))
def z1o9 (N:Nat) (x:z13 zys) (K:Ex -> List A -> Option Bool) : Option Bool :=
 zj2 N x.1 x.2.1 (fun a0=>(K .ret (mkS [(4,.v .bool)] 18 (a0,())))) (K .normal (mkS zys 21 (x.1,x.2.1,())))
def z1ku (N:Nat) : Hd Bool := fun st K=>(unS zys 21 (restr [0,1] 0 st)).bind fun x=>z1o9 N x K
def t1_48 (N:Nat) : Tab Bool := [([0,0,1],z1je N)]
theorem z1gy {N:Nat} {c:Ctx} (hb:Base Tryd.prog (z1s5 N) c) : zj Tryd.prog c (zh zpb [0,1]) (z1ku N) :=
  zl (s := zys) (m := 21) (g := z1o9 N) [0,1] (ze hb N (t1_48 N) L_48 zpb (TabOk.cons (z1fi hb) TabOk.nil) [0,1] _ rfl) (fun x K=>by kernel_rfl)
def zji (N:Nat) (low:Int) (high:Int) : Option Bool :=
 zj2 N low high
 (fun x4=>some x4)
 (cond (high == (-(1 : Int)))
 (some true)
 (cond (decide ((if ((1 : Int) > low) then (1 : Int) else low) <= high))
 (some (decide (high <= (16 : Int))))
 (some false)))
def t_48 (N:Nat) : Tab Bool := [([0,1],z1ku N)]
theorem z19a (N:Nat) (x:z13 zys) : z4l (z1s5 N) N (t_48 N) L_48 Tryd.f73 (mkS zys 0 x) (z2v (.v .bool) 2) = zji N x.1 x.2.1 := by kernel_rfl
def zgx (N:Nat) : List A -> Res := zz zys (fun x=>zji N x.1 x.2.1) (z70 (.v .bool) 2)
theorem zps (N:Nat) : Contract Tryd.prog glob 73 (zgx N) :=
  Contract.of (E := z1s5 N) (H := t_48 N) (L := L_48) (N := N) (body := zpb) (K := (z2v (.v .bool) 2)) (z1r8 N) Tryd.func73 (by kernel_rfl) (by decide) (fun _ hb=>(TabOk.cons (z1gy hb) TabOk.nil)) (fun x y h=>by rw [z19a]; exact h) (z16 (s := (.v .bool)) (m := 2))
def zvo : Code := (Tryd.f57.body).getD .skip
def L_49 : List (List Nat × List Nat) := [([0],[1]),([0,1],[1,4,3]),([0,0,1,1],[18,1,4,3]),([0,0,1,0,1,1],[19,1,4,18,3]),([1,0,1,0,1,1],[]),(zw9,[28,3,4,1,18]),([1,1,1,0,1,0,1,1],[]),([0,1,1,1,1,0,1,0,1,1],[45,3,4,1,18]),([1,1,1,1,1,0,1,0,1,1],[]),([0,1,1,1,1,1,1,0,1,0,1,1],[62,3,1]),([1,1,1,1,1,1,1,0,1,0,1,1],[]),([0,0,1,1,1,1,1,1,1,0,1,0,1,1],[2]),([1,0,1,1,1,1,1,1,1,0,1,0,1,1],[2]),([0,0,1,1,1,1,1,0,1,0,1,1],[2]),([1,0,1,1,1,1,1,0,1,0,1,1],[2]),([0,0,1,1,1,0,1,0,1,1],[2]),([1,0,1,1,1,0,1,0,1,1],[2]),([0,0,1,0,1,0,1,1],[2]),([1,0,1,0,1,0,1,1],[2]),([1,0,1,1],[]),([0,1,1,1],[2]),([1,1,1,1],[2])]
def E_49 (N:Nat) : Env := z1d tys glob [(73,zgx N),(72,zg4 N)] [] [] [] false [] [(76,za N)]
theorem z1r7 (N:Nat) : EnvOk Tryd.prog (E_49 N) := zi mixed zn (FnsOk.cons (zps N) (FnsOk.cons (zo3 N) (FnsOk.nil))) (ItsOk.cons (zb N) (ItsOk.nil))
def zgy (N:Nat) (n:DT7) (k0:Bool -> Bool -> Option Bool) : Option Bool :=
 cond (n.2.2.2.1 == (0 : Int))
 (k0 (eqD (T.arr 4 (T.int IntKind.u64)) n.2.1 ([(0 : Int),(0 : Int),(0 : Int),(0 : Int)] : List Int)) (n.2.2.2.2.1 == (0 : Int)))
 (k0 (eqD (T.arr 4 (T.int IntKind.u64)) n.2.1 ([(0 : Int),(0 : Int),(0 : Int),(0 : Int)] : List Int)) false)
def z1o8 (N:Nat) (x:z13 [(1,.box TT4)]) (K:Ex -> List A -> Option Bool) : Option Bool :=
 zgy N x.1 (fun a1 a2=>(K .normal (mkS [(1,.box TT4),(1,.v .bool),(0,.v .bool)] 73 (x.1,a1,a2,()))))
def z1kt (N:Nat) : Hd Bool := fun st K=>(unS [(1,.box TT4)] 76 (restr [1] 0 st)).bind fun x=>z1o8 N x K
def t1_49 (N:Nat) : Tab Bool := []
theorem z1gx {N:Nat} {c:Ctx} (hb:Base Tryd.prog (E_49 N) c) : zj Tryd.prog c (zh zvo [0,1]) (z1kt N) :=
  zl (s := [(1,.box TT4)]) (m := 76) (g := z1o8 N) [1] (ze hb N (t1_49 N) L_49 zvo TabOk.nil [0,1] _ rfl) (fun x K=>by kernel_rfl)
def zgz (N:Nat) (n:DT7) : Option Bool :=
 zgy N n
 (fun empty once=>cond (n.1 == (1 : Int))
 (cond ((((List.length n.2.2.1) : Nat) : Int) == (0 : Int))
 (some once)
 (some false))
 (cond (n.1 == (2 : Int))
 (cond empty
 (cond once
 (cond ((((List.length n.2.2.1) : Nat) : Int) != (1 : Int))
 ((zd2 N n (2 : Int)).bind fun y =>
 some (!y))
 (some false))
 (some false))
 (some false))
 (cond (n.1 == (3 : Int))
 (cond empty
 (cond once
 (cond (decide ((2 : Int) <= (((List.length n.2.2.1) : Nat) : Int)))
 ((zd2 N n (3 : Int)).bind fun y1 =>
 some (!y1))
 (some false))
 (some false))
 (some false))
 (cond (n.1 == (4 : Int))
 (cond empty
 (cond ((((List.length n.2.2.1) : Nat) : Int) == (1 : Int))
 ((zji N n.2.2.2.1 n.2.2.2.2.1).bind fun y2 =>
 some y2)
 (some false))
 (some false))
 (some false)))))
def t_49 (N:Nat) : Tab Bool := [([0,1],z1kt N)]
theorem z199 (N:Nat) (x:z13 [(0,.v TT4)]) : z4l (E_49 N) N (t_49 N) L_49 Tryd.f57 (mkS [(0,.v TT4)] 0 x) (z2v (.v .bool) 1) = zgz N x.1 := by kernel_rfl
def zg5 (N:Nat) : List A -> Res := zz [(0,.v TT4)] (fun x=>zgz N x.1) (z70 (.v .bool) 1)
theorem zo4 (N:Nat) : Contract Tryd.prog glob 57 (zg5 N) :=
  Contract.of (E := E_49 N) (H := t_49 N) (L := L_49) (N := N) (body := zvo) (K := (z2v (.v .bool) 1)) (z1r7 N) Tryd.func57 (by kernel_rfl) (by decide) (fun _ hb=>(TabOk.cons (z1gx hb) TabOk.nil)) (fun x y h=>by rw [z199]; exact h) (z16 (s := (.v .bool)) (m := 1))
def zs1 : Code := (Tryd.f38.body).getD .skip
def L_50 : List (List Nat × List Nat) := [([0],[1]),([0,0,1],[7,1]),([1,0,1],[1]),([0,0,1,0,1],[2]),([1,0,1,0,1],[2]),([0,0,1,1],[11,10,9]),([0,1,0,1,1],[11,10,9]),(zxn,[12,9,11,10]),(zts,[9,11,10]),(z123,[]),(z124,[4,11,10,9]),(z12j,[17,11,10,9]),(z14c,[11,10,9]),([0,0,1,1,0,0,1,1,0,0,1,0,1,1],[2]),([1,0,1,1,0,0,1,1,0,0,1,0,1,1],[2]),(z122,[11,10,9]),(z121,[11,10,9]),([1,0,1,1],[]),([0,1,1,1],[2]),([1,1,1,1],[2])]
def E_50 (N:Nat) (self:DT7 -> Option Bool) : Env := z1d tys glob [(57,zg5 N),(38,zz [(0,.v TT4)] (fun x=>self x.1) (z70 (.v .bool) 1))] [] [] [] false [] [(76,za N)]
theorem z1r6 (N:Nat) (self:DT7 -> Option Bool) (hself:Contract Tryd.prog glob 38 (zz [(0,.v TT4)] (fun x=>self x.1) (z70 (.v .bool) 1))) : EnvOk Tryd.prog (E_50 N self) := zi mixed zn (FnsOk.cons (zo4 N) (FnsOk.cons (hself) (FnsOk.nil))) (ItsOk.cons (zb N) (ItsOk.nil))
def zj3 (N:Nat) (self:DT7 -> Option Bool) (x9:(List Tree)) (x10:Int) (x11:Int) (rec:Int -> Option Bool) (k0:Bool -> Option Bool) (k1:Option Bool) : Option Bool :=
 cond (decide (x11 < x10))
 (cond (inR x11 (List.length x9))
 ((self (unN (List.getD x9 (Int.toNat x11) (Tree.mk (0 : Int) ([] : List Int) ([] : List Tree) (0 : Int) (0 : Int))))).bind fun y =>
 cond (!y)
 (k0 false)
 (rec (IntKind.wrap IntKind.i64 (x11 + (1 : Int)))))
 (none))
 (k1)
def zpt (N:Nat) (self:DT7 -> Option Bool) (x9:(List Tree)) (x10:Int) (x11:Int) (k0:Bool -> Option Bool) (k1:Option Bool) : Option Bool :=
 iter (fun (v:Int) r=>zj3 N self x9 x10 v (fun x11=>(r x11)) k0 k1) N x11
def z1o7 (N:Nat) (self:DT7 -> Option Bool) (i:((List Tree) × Int)) (v:Int) (r:Int -> Option Bool) (K:Ex -> List A -> Option Bool) : Option Bool :=
 zj3 N self i.1 i.2 v (fun x11=>(r x11)) (fun a0=>(K .ret (mkS [(2,.v .bool)] 16 (a0,())))) (K (.exit 0) (mkS [] 19 ()))
def z1ks (N:Nat) (self:DT7 -> Option Bool) : Hd Bool := fun st K=>(unS [(9,.v (.sl .nod)),(0,.v (.int .i64)),(0,.v (.int .i64))] 7 (restr [11,10,9] 0 st)).bind fun x=>iter (fun v r=>z1o7 N self ((fun x=>(x.1,x.2.1)) x) v r K) N ((fun x=>x.2.2.1) x)
def t1_50 (N:Nat) (self:DT7 -> Option Bool) : Tab Bool := []
theorem z1gw {N:Nat} {self:DT7 -> Option Bool} {c:Ctx} (hb:Base Tryd.prog (E_50 N self) c) : zj Tryd.prog c (zh zs1 [0,1,0,1,1]) (z1ks N self) :=
  z18 (s := [(9,.v (.sl .nod)),(0,.v (.int .i64)),(0,.v (.int .i64))]) (m := 7) (z1o7 N self) [11,10,9] N (fun x=>(x.1,x.2.1)) (fun x=>x.2.2.1) (fun i v=>(i.1,i.2,v,())) (fun _=>rfl) (ze hb N (t1_50 N self) L_50 zs1 TabOk.nil [0,0,1,0,1,1] _ rfl) (fun i v r K=>by kernel_rfl)
def zke (N:Nat) (self:DT7 -> Option Bool) (n:DT7) : Option Bool :=
 (zgz N n).bind fun y =>
 cond (!y)
 (some false)
 (zpt N self n.2.2.1 (((List.length n.2.2.1) : Nat) : Int) (0 : Int)
 (fun x2=>some x2)
 (some true))
def t_50 (N:Nat) (self:DT7 -> Option Bool) : Tab Bool := [([0,1,0,1,1],z1ks N self)]
theorem z198 (N:Nat) (self:DT7 -> Option Bool) (x:z13 [(0,.v TT4)]) : z4l (E_50 N self) N (t_50 N self) L_50 Tryd.f38 (mkS [(0,.v TT4)] 0 x) (z2v (.v .bool) 1) = zke N self x.1 := by kernel_rfl
def z9g : Nat -> DT7 -> Option Bool
  | 0=>fun _=>none
  | N + 1=>zke (N + 1) (z9g N)
def zh0 (N:Nat) : List A -> Res := zz [(0,.v TT4)] (fun x=>z9g N x.1) (z70 (.v .bool) 1)
theorem zj4 : ∀ N : Nat,Contract Tryd.prog glob 38 (zh0 N)
  | 0=>Contract.zero Tryd.func38 (body := zs1) (by kernel_rfl) (by decide) (fun _=>rfl)
  | N + 1=>Contract.of (E := E_50 (N + 1) (z9g N)) (H := t_50 (N + 1) (z9g N)) (L := L_50) (N := (N + 1)) (body := zs1) (K := (z2v (.v .bool) 1)) (z1r6 (N + 1) (z9g N) (zj4 N)) Tryd.func38 (by kernel_rfl) (by decide) (fun _ hb=>(TabOk.cons (z1gw hb) TabOk.nil)) (fun x y h=>by rw [z198]; exact h) (z16 (s := (.v .bool)) (m := 1))
def z1ai : Code := (Tryd.f58.body).getD .skip
def L_51 : List (List Nat × List Nat) := [([0],[1]),([0,0,1],[5,1]),([1,0,1],[1]),([0,0,1,0,1],[2]),([1,0,1,0,1],[2]),([0,1,1],[2]),([1,1,1],[2])]
def E_51 (N:Nat) : Env := z1d tys glob [] [] [] [] false [] [(76,za N)]
theorem z1r5 (N:Nat) : EnvOk Tryd.prog (E_51 N) := zi mixed zn (FnsOk.nil) (ItsOk.cons (zb N) (ItsOk.nil))
def zd0 (N:Nat) (n:DT7) : Option Int :=
 cond (n.2.2.2.2.1 == (-(1 : Int)))
 (some (IntKind.wrap IntKind.i64 (n.2.2.2.1 + (1 : Int))))
 (some n.2.2.2.2.1)
def t_51 (N:Nat) : Tab Int := []
theorem z197 (N:Nat) (x:z13 [(0,.v TT4)]) : z4l (E_51 N) N (t_51 N) L_51 Tryd.f58 (mkS [(0,.v TT4)] 0 x) (z2v (.v (.int .i64)) 1) = zd0 N x.1 := by kernel_rfl
def zac (N:Nat) : List A -> Res := zz [(0,.v TT4)] (fun x=>zd0 N x.1) (z70 (.v (.int .i64)) 1)
theorem zgn (N:Nat) : Contract Tryd.prog glob 58 (zac N) :=
  Contract.of (E := E_51 N) (H := t_51 N) (L := L_51) (N := N) (body := z1ai) (K := (z2v (.v (.int .i64)) 1)) (z1r5 N) Tryd.func58 (by kernel_rfl) (by decide) (fun _ hb=>TabOk.nil) (fun x y h=>by rw [z197]; exact h) (z16 (s := (.v (.int .i64))) (m := 1))
def zho : Code := (Tryd.f39.body).getD .skip
def z1pm : List (List Nat × List Nat) := [([0],[1]),([0,1],[1,3]),([0,0,1,1],[8,1,3]),([1,0,1,1],[1,3]),([0,1,0,1,1],[1,3]),([0,0,1,1,1],[12,11,10,3,1]),([0,1,0,1,1,1],[12,11,10,3,1]),(zwb,[13,10,12,3,11,1]),(zzh,[10,12,3,11,1]),(zwe,[1,3]),(zz7,[3,5,12,11,10,1]),([1,0,0,1,1,0,0,1,0,1,1,1],[12,11,10,3,1]),(zz3,[12,11,10,3,1]),(zz2,[12,11,10,3,1]),([1,0,1,1,1],[1,3]),([0,0,1,1,1,1],[24,3,1]),([1,0,1,1,1,1],[3]),(zyt,[3]),([0,1,1,1,1,1],[2]),([1,1,1,1,1,1],[2])]
def z1cs (N:Nat) (self:DT7 -> Option Int) : Env := z1d tys glob [(58,zac N),(39,zz [(0,.v TT4)] (fun x=>self x.1) (z70 (.v (.int .i64)) 1))] [] [] [] false [] [(76,za N)]
theorem z1r4 (N:Nat) (self:DT7 -> Option Int) (hself:Contract Tryd.prog glob 39 (zz [(0,.v TT4)] (fun x=>self x.1) (z70 (.v (.int .i64)) 1))) : EnvOk Tryd.prog (z1cs N self) := zi mixed zn (FnsOk.cons (zgn N) (FnsOk.cons (hself) (FnsOk.nil))) (ItsOk.cons (zb N) (ItsOk.nil))
def ziu (N:Nat) (self:DT7 -> Option Int) (n:DT7) (total:Int) (k0:Int -> Option Int) : Option Int :=
 cond (n.1 == (1 : Int))
 (k0 (1 : Int))
 (k0 total)
def z1o6 (N:Nat) (self:DT7 -> Option Int) (x:z13 z15w) (K:Ex -> List A -> Option Int) : Option Int :=
 ziu N self x.1 x.2.1 (fun a1=>(K .normal (mkS z15w 27 (x.1,a1,()))))
def z1kr (N:Nat) (self:DT7 -> Option Int) : Hd Int := fun st K=>(unS z15w 27 (restr [1,3] 0 st)).bind fun x=>z1o6 N self x K
def t1_52 (N:Nat) (self:DT7 -> Option Int) : Tab Int := []
theorem z1gv {N:Nat} {self:DT7 -> Option Int} {c:Ctx} (hb:Base Tryd.prog (z1cs N self) c) : zj Tryd.prog c (zh zho [0,1,1]) (z1kr N self) :=
  zl (s := z15w) (m := 27) (g := z1o6 N self) [1,3] (ze hb N (t1_52 N self) z1pm zho TabOk.nil [0,1,1] _ rfl) (fun x K=>by kernel_rfl)
def zis (N:Nat) (self:DT7 -> Option Int) (n:DT7) (x10:(List Tree)) (x11:Int) (total:Int) (x12:Int) (rec:Int -> Int -> Option Int) (k0:Int -> Option Int) : Option Int :=
 cond (decide (x12 < x11))
 (cond (inR x12 (List.length x10))
 ((self (unN (List.getD x10 (Int.toNat x12) (Tree.mk (0 : Int) ([] : List Int) ([] : List Tree) (0 : Int) (0 : Int))))).bind fun y =>
 rec (if ((513 : Int) < (IntKind.wrap IntKind.i64 (total + y))) then (513 : Int) else (IntKind.wrap IntKind.i64 (total + y))) (IntKind.wrap IntKind.i64 (x12 + (1 : Int))))
 (none))
 (k0 total)
def zpo (N:Nat) (self:DT7 -> Option Int) (n:DT7) (total:Int) (x10:(List Tree)) (x11:Int) (x12:Int) (k0:Int -> Option Int) : Option Int :=
 iter (fun (v:(Int × Int)) r=>zis N self n x10 x11 v.1 v.2 (fun total x12=>(r (total,x12))) k0) N (total,x12)
def z1ms (N:Nat) (self:DT7 -> Option Int) (i:(DT7 × (List Tree) × Int)) (v:(Int × Int)) (r:(Int × Int) -> Option Int) (K:Ex -> List A -> Option Int) : Option Int :=
 zis N self i.1 i.2.1 i.2.2 v.1 v.2 (fun total x12=>(r (total,x12))) (fun a1=>(K (.exit 0) (mkS z15w 27 (i.1,a1,()))))
def z1jd (N:Nat) (self:DT7 -> Option Int) : Hd Int := fun st K=>(unS z1p8 18 (restr [12,11,10,3,1] 0 st)).bind fun x=>iter (fun v r=>z1ms N self ((fun x=>(x.1,x.2.2.1,x.2.2.2.1)) x) v r K) N ((fun x=>(x.2.1,x.2.2.2.2.1)) x)
def t2_52 (N:Nat) (self:DT7 -> Option Int) : Tab Int := []
theorem z1fh {N:Nat} {self:DT7 -> Option Int} {c:Ctx} (hb:Base Tryd.prog (z1cs N self) c) : zj Tryd.prog c (zh zho [0,1,0,1,1,1]) (z1jd N self) :=
  z18 (s := z1p8) (m := 18) (z1ms N self) [12,11,10,3,1] N (fun x=>(x.1,x.2.2.1,x.2.2.2.1)) (fun x=>(x.2.1,x.2.2.2.2.1)) (fun i v=>(i.1,v.1,i.2.1,i.2.2,v.2,())) (fun _=>rfl) (ze hb N (t2_52 N self) z1pm zho TabOk.nil ztr _ rfl) (fun i v r K=>by kernel_rfl)
def zit (N:Nat) (self:DT7 -> Option Int) (n:DT7) (total:Int) (k0:Int -> Option Int) : Option Int :=
 cond (n.1 == (4 : Int))
 ((zd0 N n).bind fun y =>
 k0 (IntKind.wrap IntKind.i64 (total * y)))
 (k0 total)
def z1m3 (N:Nat) (self:DT7 -> Option Int) (x:z13 z15w) (K:Ex -> List A -> Option Int) : Option Int :=
 zit N self x.1 x.2.1 (fun a0=>(K .normal (mkS [(3,.v (.int .i64))] 27 (a0,()))))
def z1io (N:Nat) (self:DT7 -> Option Int) : Hd Int := fun st K=>(unS z15w 27 (restr [1,3] 0 st)).bind fun x=>z1m3 N self x K
def t3_52 (N:Nat) (self:DT7 -> Option Int) : Tab Int := []
theorem z1es {N:Nat} {self:DT7 -> Option Int} {c:Ctx} (hb:Base Tryd.prog (z1cs N self) c) : zj Tryd.prog c (zh zho [0,1,1,1,1]) (z1io N self) :=
  zl (s := z15w) (m := 27) (g := z1m3 N self) [1,3] (ze hb N (t3_52 N self) z1pm zho TabOk.nil [0,1,1,1,1] _ rfl) (fun x K=>by kernel_rfl)
def zk4 (N:Nat) (self:DT7 -> Option Int) (n:DT7) : Option Int :=
 ziu N self n (0 : Int)
 (fun total=>zpo N self n total n.2.2.1 (((List.length n.2.2.1) : Nat) : Int) (0 : Int)
 (fun total1=>zit N self n total1
 (fun total2=>some (if ((513 : Int) < total2) then (513 : Int) else total2))))
def t_52 (N:Nat) (self:DT7 -> Option Int) : Tab Int := [([0,1,1],z1kr N self),([0,1,0,1,1,1],z1jd N self),([0,1,1,1,1],z1io N self)]
theorem z196 (N:Nat) (self:DT7 -> Option Int) (x:z13 [(0,.v TT4)]) : z4l (z1cs N self) N (t_52 N self) z1pm Tryd.f39 (mkS [(0,.v TT4)] 0 x) (z2v (.v (.int .i64)) 1) = zk4 N self x.1 := by kernel_rfl
def z9a : Nat -> DT7 -> Option Int
  | 0=>fun _=>none
  | N + 1=>zk4 (N + 1) (z9a N)
def zgm (N:Nat) : List A -> Res := zz [(0,.v TT4)] (fun x=>z9a N x.1) (z70 (.v (.int .i64)) 1)
theorem ziv : ∀ N : Nat,Contract Tryd.prog glob 39 (zgm N)
  | 0=>Contract.zero Tryd.func39 (body := zho) (by kernel_rfl) (by decide) (fun _=>rfl)
  | N + 1=>Contract.of (E := z1cs (N + 1) (z9a N)) (H := t_52 (N + 1) (z9a N)) (L := z1pm) (N := (N + 1)) (body := zho) (K := (z2v (.v (.int .i64)) 1)) (z1r4 (N + 1) (z9a N) (ziv N)) Tryd.func39 (by kernel_rfl) (by decide) (fun _ hb=>(TabOk.cons (z1gv hb) (TabOk.cons (z1fh hb) (TabOk.cons (z1es hb) TabOk.nil)))) (fun x y h=>by rw [z196]; exact h) (z16 (s := (.v (.int .i64))) (m := 1))
def z1ah : Code := (Tryd.f59.body).getD .skip
def L_53 : List (List Nat × List Nat) := [([0],[0]),([0,1],[0]),([1,1],[0])]
def E_53 (N:Nat) : Env := z1d tys glob [] [] [] [] false [] [(76,za N)]
theorem z1r3 (N:Nat) : EnvOk Tryd.prog (E_53 N) := zi mixed zn (FnsOk.nil) (ItsOk.cons (zb N) (ItsOk.nil))
def zk2 (N:Nat) : Option z45 :=
 some (true,(([] : List Int),(([] : List Int),())))
def t_53 (N:Nat) : Tab z45 := []
theorem z195 (N:Nat) (x:z13 []) : z4l (E_53 N) N (t_53 N) L_53 Tryd.f59 (mkS [] 0 x) (z2v (.v z64) 0) = zk2 N := by kernel_rfl
def z99 (N:Nat) : List A -> Res := zz [] (fun x=>zk2 N) (z70 (.v z64) 0)
theorem zfx (N:Nat) : Contract Tryd.prog glob 59 (z99 N) :=
  Contract.of (E := E_53 N) (H := t_53 N) (L := L_53) (N := N) (body := z1ah) (K := (z2v (.v z64) 0)) (z1r3 N) Tryd.func59 (by kernel_rfl) (by decide) (fun _ hb=>TabOk.nil) (fun x y h=>by rw [z195]; exact h) (z16 (s := (.v z64)) (m := 0))
def z1ag : Code := (Tryd.f90.body).getD .skip
def L_54 : List (List Nat × List Nat) := [([0],[0]),([0,1],[2]),([1,1],[2])]
def E_54 (N:Nat) : Env := z1d tys glob [] [] [] [] false [] [(76,za N)]
theorem z1r2 (N:Nat) : EnvOk Tryd.prog (E_54 N) := zi mixed zn (FnsOk.nil) (ItsOk.cons (zb N) (ItsOk.nil))
def zks (N:Nat) (x0:Int) : Option Bool :=
 some (x0 != x0)
def t_54 (N:Nat) : Tab Bool := []
theorem z194 (N:Nat) (x:z13 [(0,.v (.int .i64))]) : z4l (E_54 N) N (t_54 N) L_54 Tryd.f90 (mkS [(0,.v (.int .i64))] 0 x) (z2v (.v .bool) 1) = zks N x.1 := by kernel_rfl
def zed (N:Nat) : List A -> Res := zz [(0,.v (.int .i64))] (fun x=>zks N x.1) (z70 (.v .bool) 1)
theorem zn3 (N:Nat) : Contract Tryd.prog glob 90 (zed N) :=
  Contract.of (E := E_54 N) (H := t_54 N) (L := L_54) (N := N) (body := z1ag) (K := (z2v (.v .bool) 1)) (z1r2 N) Tryd.func90 (by kernel_rfl) (by decide) (fun _ hb=>TabOk.nil) (fun x y h=>by rw [z194]; exact h) (z16 (s := (.v .bool)) (m := 1))
def z1af : Code := (Tryd.f81.body).getD .skip
def L_55 : List (List Nat × List Nat) := [([0],[0,1]),([0,1],[1,5,0]),([0,1,1],[5,6,0,1]),([0,0,1,1,1],[11,6,0,1]),([1,0,1,1,1],[6,0,1]),(zwb,[12]),([1,0,0,1,0,1,1,1],[]),([0,0,1,0,0,1,0,1,1,1],[4]),(zwe,[4]),([0,1,0,1,0,1,1,1],[4]),([1,1,0,1,0,1,1,1],[4]),([0,0,1,1,1,1],[13,0,1]),([1,0,1,1,1,1],[0,1]),(zwc,[4]),([1,0,1,0,1,1,1,1],[4]),(zq4,[16,0,1]),(zs4,[0,1]),([0,0,1,0,1,1,1,1,1],[4]),([1,0,1,0,1,1,1,1,1],[4]),([0,0,1,1,1,1,1,1],[19]),([1,0,1,1,1,1,1,1],[]),([0,0,1,0,1,1,1,1,1,1],[4]),([1,0,1,0,1,1,1,1,1,1],[4]),(zzg,[4]),(ztv,[4])]
def E_55 (N:Nat) : Env := z1d tys glob [(90,zed N)] [] [] [] false [] [(76,za N)]
theorem z1r1 (N:Nat) : EnvOk Tryd.prog (E_55 N) := zi mixed zn (FnsOk.cons (zn3 N) (FnsOk.nil)) (ItsOk.cons (zb N) (ItsOk.nil))
def zci (N:Nat) (x0:Int) (y:Int) : Option Int :=
 cond (x0 != x0)
 (cond (y != y)
 (some (0 : Int))
 (some (-(1 : Int))))
 (cond (y != y)
 (some (1 : Int))
 (cond (decide (x0 < y))
 (some (-(1 : Int)))
 (cond (decide (y < x0))
 (some (1 : Int))
 (some (0 : Int)))))
def t_55 (N:Nat) : Tab Int := []
theorem z193 (N:Nat) (x:z13 zys) : z4l (E_55 N) N (t_55 N) L_55 Tryd.f81 (mkS zys 0 x) (z2v (.v (.int .i64)) 2) = zci N x.1 x.2.1 := by kernel_rfl
def zch (N:Nat) : List A -> Res := zz zys (fun x=>zci N x.1 x.2.1) (z70 (.v (.int .i64)) 2)
theorem zkt (N:Nat) : Contract Tryd.prog glob 81 (zch N) :=
  Contract.of (E := E_55 N) (H := t_55 N) (L := L_55) (N := N) (body := z1af) (K := (z2v (.v (.int .i64)) 2)) (z1r1 N) Tryd.func81 (by kernel_rfl) (by decide) (fun _ hb=>TabOk.nil) (fun x y h=>by rw [z193]; exact h) (z16 (s := (.v (.int .i64))) (m := 2))
def zfq : Code := (Tryd.f75.body).getD .skip
def z1co : List (List Nat × List Nat) := [([0],[0,1]),([0,1],[0,1,5]),([0,0,1,1],[0,1,5]),(zyw,[20,0,1,5]),(zyv,[0,1,5]),(zyy,[5,0,1]),([0,0,1,0,0,0,1,1],[6,5,0,1]),([0,0,1,0,1,0,0,0,1,1],[29,5,0,6,1]),([1,0,1,0,1,0,0,0,1,1],[6,1,0,5]),([1,1,0,1,0,1,0,0,0,1,1],[6,1,0,5]),([0,0,1,0,1,0,1,0,0,0,1,1],[0,6,1,5]),([1,0,1,0,1,0,1,0,0,0,1,1],[6,1,0,5]),([0,1,1,0,1,0,0,0,1,1],[45,1,0,5]),([1,1,1,0,1,0,0,0,1,1],[0,1,5]),([0,1,1,1,0,1,0,0,0,1,1],[0,1,5]),([1,0,0,0,1,1],[0,1,5]),([0,1,1],[5,0,1]),([0,1,1,1],[5,1]),([0,1,1,1,1],[4]),([1,1,1,1,1],[4])]
def z1bw (N:Nat) : Env := z1d tys glob [(81,zch N)] [(0,(.int .i64)),(1,(.int .i64)),(5,(.int .i64)),(4,(.int .i64))] [] [] false [] [(76,za N)]
theorem z1r0 (N:Nat) : EnvOk Tryd.prog (z1bw N) := zi mixed zn (FnsOk.cons (zkt N) (FnsOk.nil)) (ItsOk.cons (zb N) (ItsOk.nil))
def zcy (N:Nat) (a:(List Int)) (b:(List Int)) (l:(List Int)) (k0:Option (List Int)) (k1:Option (List Int)) : Option (List Int) :=
 cond (decide ((0 : Int) < (((List.length a) : Nat) : Int)))
 (cond (decide ((0 : Int) < (((List.length b) : Nat) : Int)))
 (k0)
 (k1))
 (k1)
def z1m2 (N:Nat) (x:z13 zzf) (K:Ex -> List A -> Option (List Int)) : Option (List Int) :=
 zcy N x.1 x.2.1 x.2.2.1 (K .normal (mkS zzf 48 (x.1,x.2.1,x.2.2.1,()))) (K (.exit 0) (mkS zzf 48 (x.1,x.2.1,x.2.2.1,())))
def z1in (N:Nat) : Hd (List Int) := fun st K=>(unS zzf 48 (restr [0,1,5] 0 st)).bind fun x=>z1m2 N x K
def t3_56 (N:Nat) : Tab (List Int) := []
theorem z1er {N:Nat} {c:Ctx} (hb:Base Tryd.prog (z1bw N) c) : zj Tryd.prog c (zh zfq [0,0,0,0,1,1]) (z1in N) :=
  zl (s := zzf) (m := 48) (g := z1m2 N) [0,1,5] (ze hb N (t3_56 N) z1co zfq TabOk.nil [0,0,0,0,1,1] _ rfl) (fun x K=>by kernel_rfl)
def zcx (N:Nat) (a:(List Int)) (b:(List Int)) (l:(List Int)) (order:Int) (k0:(List Int) -> (List Int) -> Option (List Int)) : Option (List Int) :=
 cond (decide (order <= (0 : Int)))
 (cond (inR (0 : Int) (List.length a))
 (cond (decide ((((List.length l) + 1) * 8) <= 70368744177664))
 (cond (decide (((0 : Int) <= (1 : Int)) /\ ((1 : Int) <= (((List.length a) : Nat) : Int))))
 (k0 (cut a 1 (List.length a)) (l ++ ([(List.getD a 0 (0 : Int))] : List Int)))
 (none))
 (none))
 (none))
 (cond (inR (0 : Int) (List.length b))
 (cond (decide ((((List.length l) + 1) * 8) <= 70368744177664))
 (k0 a (l ++ ([(List.getD b 0 (0 : Int))] : List Int)))
 (none))
 (none))
def z1lq (N:Nat) (x:z13 SQ49) (K:Ex -> List A -> Option (List Int)) : Option (List Int) :=
 zcx N x.1 x.2.1 x.2.2.1 x.2.2.2.1 (fun a0 a2=>(K .normal (mkS SQ49 47 (a0,x.2.1,a2,x.2.2.2.1,()))))
def z1ib (N:Nat) : Hd (List Int) := fun st K=>(unS SQ49 47 (restr [6,5,0,1] 0 st)).bind fun x=>z1lq N x K
def t4_56 (N:Nat) : Tab (List Int) := []
theorem z1ef {N:Nat} {c:Ctx} (hb:Base Tryd.prog (z1bw N) c) : zj Tryd.prog c (zh zfq [0,1,0,1,0,0,0,1,1]) (z1ib N) :=
  zl (s := SQ49) (m := 47) (g := z1lq N) [6,5,0,1] (ze hb N (t4_56 N) z1co zfq TabOk.nil [0,1,0,1,0,0,0,1,1] _ rfl) (fun x K=>by kernel_rfl)
def zcw (N:Nat) (a:(List Int)) (b:(List Int)) (l:(List Int)) (rec:(List Int) -> (List Int) -> (List Int) -> Option (List Int)) (k0:(List Int) -> (List Int) -> (List Int) -> Option (List Int)) : Option (List Int) :=
 zcy N a b l
 (cond (inR (0 : Int) (List.length a))
 (cond (inR (0 : Int) (List.length b))
 ((zci N (List.getD a 0 (0 : Int)) (List.getD b 0 (0 : Int))).bind fun y =>
 zcx N a b l y
 (fun a1 l1=>cond (decide ((0 : Int) <= y))
 (cond (decide (((0 : Int) <= (1 : Int)) /\ ((1 : Int) <= (((List.length b) : Nat) : Int))))
 (rec a1 (cut b 1 (List.length b)) l1)
 (none))
 (rec a1 b l1)))
 (none))
 (none))
 (k0 a b l)
def zk3 (N:Nat) (a:(List Int)) (b:(List Int)) (l:(List Int)) (k0:(List Int) -> (List Int) -> (List Int) -> Option (List Int)) : Option (List Int) :=
 iter (fun (v:((List Int) × (List Int) × (List Int))) r=>zcw N v.1 v.2.1 v.2.2 (fun a b l=>(r (a,b,l))) k0) N (a,b,l)
def z1mr (N:Nat) (i:Unit) (v:((List Int) × (List Int) × (List Int))) (r:((List Int) × (List Int) × (List Int)) -> Option (List Int)) (K:Ex -> List A -> Option (List Int)) : Option (List Int) :=
 zcw N v.1 v.2.1 v.2.2 (fun a b l=>(r (a,b,l))) (fun a0 a1 a2=>(K (.exit 0) (mkS zzf 48 (a0,a1,a2,()))))
def z1jc (N:Nat) : Hd (List Int) := fun st K=>(unS zzf 48 (restr [0,1,5] 0 st)).bind fun x=>iter (fun v r=>z1mr N ((fun x=>()) x) v r K) N ((fun x=>(x.1,x.2.1,x.2.2.1)) x)
def t2_56 (N:Nat) : Tab (List Int) := [([0,0,0,0,1,1],z1in N),([0,1,0,1,0,0,0,1,1],z1ib N)]
theorem z1fg {N:Nat} {c:Ctx} (hb:Base Tryd.prog (z1bw N) c) : zj Tryd.prog c (zh zfq [0,0,1,1]) (z1jc N) :=
  z18 (s := zzf) (m := 48) (z1mr N) [0,1,5] N (fun x=>()) (fun x=>(x.1,x.2.1,x.2.2.1)) (fun i v=>(v.1,v.2.1,v.2.2,())) (fun _=>rfl) (ze hb N (t2_56 N) z1co zfq (TabOk.cons (z1er hb) (TabOk.cons (z1ef hb) TabOk.nil)) [0,0,0,1,1] _ rfl) (fun i v r K=>by kernel_rfl)
def zcz (N:Nat) (a:(List Int)) (b:(List Int)) (l:(List Int)) (k0:(List Int) -> (List Int) -> (List Int) -> Option (List Int)) : Option (List Int) :=
 zk3 N a b l
 (fun a1 b1 l1=>k0 a1 b1 l1)
def z1o5 (N:Nat) (x:z13 zzf) (K:Ex -> List A -> Option (List Int)) : Option (List Int) :=
 zcz N x.1 x.2.1 x.2.2.1 (fun a0 a1 a2=>(K .normal (mkS zzf 48 (a0,a1,a2,()))))
def z1kq (N:Nat) : Hd (List Int) := fun st K=>(unS zzf 48 (restr [0,1,5] 0 st)).bind fun x=>z1o5 N x K
def t1_56 (N:Nat) : Tab (List Int) := [([0,0,1,1],z1jc N)]
theorem z1gu {N:Nat} {c:Ctx} (hb:Base Tryd.prog (z1bw N) c) : zj Tryd.prog c (zh zfq [0,1,1]) (z1kq N) :=
  zl (s := zzf) (m := 48) (g := z1o5 N) [0,1,5] (ze hb N (t1_56 N) z1co zfq (TabOk.cons (z1fg hb) TabOk.nil) [0,1,1] _ rfl) (fun x K=>by kernel_rfl)
def z2g (N:Nat) (a:(List Int)) (b:(List Int)) : Option (List Int) :=
 cond (decide (((0 : Int) <= (0 : Int)) /\ (((0 : Int) <= (IntKind.wrap IntKind.i64 ((((List.length a) : Nat) : Int) + (((List.length b) : Nat) : Int)))) /\ ((((IntKind.wrap IntKind.i64 ((((List.length a) : Nat) : Int) + (((List.length b) : Nat) : Int))) * (8 : Int)) <= (281474976710656 : Int)) /\ ((IntKind.wrap IntKind.i64 ((((List.length a) : Nat) : Int) + (((List.length b) : Nat) : Int))) <= (9223372036854775807 : Int))))))
 (zcz N a b ([] : List Int)
 (fun a1 b1 l=>cond (decide ((((List.length l) + (List.length a1)) * 8) <= 70368744177664))
 (cond (decide ((((List.length (l ++ a1)) + (List.length b1)) * 8) <= 70368744177664))
 (some ((l ++ a1) ++ b1))
 (none))
 (none)))
 (none)
def t_56 (N:Nat) : Tab (List Int) := [([0,1,1],z1kq N)]
theorem z192 (N:Nat) (x:z13 SQ62) : z4l (z1bw N) N (t_56 N) z1co Tryd.f75 (mkS SQ62 0 x) (z2v (.v (.sl (.int .i64))) 2) = z2g N x.1 x.2.1 := by kernel_rfl
def z4v (N:Nat) : List A -> Res := zz SQ62 (fun x=>z2g N x.1 x.2.1) (z70 (.v (.sl (.int .i64))) 2)
theorem z85 (N:Nat) : Contract Tryd.prog glob 75 (z4v N) :=
  Contract.of (E := z1bw N) (H := t_56 N) (L := z1co) (N := N) (body := zfq) (K := (z2v (.v (.sl (.int .i64))) 2)) (z1r0 N) Tryd.func75 (by kernel_rfl) (by decide) (fun _ hb=>(TabOk.cons (z1gu hb) TabOk.nil)) (fun x y h=>by rw [z192]; exact h) (z16 (s := (.v (.sl (.int .i64)))) (m := 2))
def zvn : Code := (Tryd.f74.body).getD .skip
def L_57 : List (List Nat × List Nat) := [([0],[10,9,8,0,2]),([0,1],[10,9,8,0,2]),([0,0,0,1],[11,8,10,0,2,9]),([0,1,0,0,1],[8,10,0,2,9]),([1,0,1,0,0,1],[0]),([0,0,0,1,1,0,0,1],[0,7,2,10,9,8]),([1,0,0,1,1,0,0,1],[10,9,8,0,2]),([0,1,1,0,0,1],[10,9,8,0,2]),([1,1,1,0,0,1],[10,9,8,0,2]),([1],[0])]
def E_57 (N:Nat) : Env := z1d tys glob [(75,z4v N)] [] [] [0] false [] [(76,za N)]
theorem z1qz (N:Nat) : EnvOk Tryd.prog (E_57 N) := zi mixed zn (FnsOk.cons (z85 N) (FnsOk.nil)) (ItsOk.cons (zb N) (ItsOk.nil))
def z9w (N:Nat) (first:(List Int)) (x8:(List Int)) (x9:Int) (b:z46) (x10:Int) (rec:z46 -> Int -> Option ((Unit) × (z46 × Unit))) (k0:z46 -> Option ((Unit) × (z46 × Unit))) : Option ((Unit) × (z46 × Unit)) :=
 cond (decide (x10 < x9))
 (cond (inR x10 (List.length x8))
 (cond (inR (List.getD x8 (Int.toNat x10) (0 : Int)) (List.length b.2.1))
 (cond (decide ((Int.toNat (List.getD x8 (Int.toNat x10) (0 : Int))) < (List.length b.2.1)))
 ((z2g N (List.getD b.2.1 (Int.toNat (List.getD x8 (Int.toNat x10) (0 : Int))) ([] : List Int)) first).bind fun y =>
 cond (inR (List.getD x8 (Int.toNat x10) (0 : Int)) (List.length b.2.1))
 (cond (decide ((Int.toNat (List.getD x8 (Int.toNat x10) (0 : Int))) < (List.length b.2.1)))
 (rec (b.1,((List.set b.2.1 (Int.toNat (List.getD x8 (Int.toNat x10) (0 : Int))) y),b.2.2)) (IntKind.wrap IntKind.i64 (x10 + (1 : Int))))
 (none))
 (none))
 (none))
 (none))
 (none))
 (k0 b)
def zgo (N:Nat) (b:z46) (first:(List Int)) (x8:(List Int)) (x9:Int) (x10:Int) (k0:z46 -> Option ((Unit) × (z46 × Unit))) : Option ((Unit) × (z46 × Unit)) :=
 iter (fun (v:(z46 × Int)) r=>z9w N first x8 x9 v.1 v.2 (fun b x10=>(r (b,x10))) k0) N (b,x10)
def z1o4 (N:Nat) (i:((List Int) × (List Int) × Int)) (v:(z46 × Int)) (r:(z46 × Int) -> Option ((Unit) × (z46 × Unit))) (K:Ex -> List A -> Option ((Unit) × (z46 × Unit))) : Option ((Unit) × (z46 × Unit)) :=
 z9w N i.1 i.2.1 i.2.2 v.1 v.2 (fun b x10=>(r (b,x10))) (fun a0=>(K (.exit 0) (mkS [(0,.box zei)] 29 (a0,()))))
def z1kp (N:Nat) : Hd ((Unit) × (z46 × Unit)) := fun st K=>(unS z1ph 19 (restr [10,9,8,0,2] 0 st)).bind fun x=>iter (fun v r=>z1o4 N ((fun x=>(x.2.1,x.2.2.1,x.2.2.2.1)) x) v r K) N ((fun x=>(x.1,x.2.2.2.2.1)) x)
def t1_57 (N:Nat) : Tab ((Unit) × (z46 × Unit)) := []
theorem z1gt {N:Nat} {c:Ctx} (hb:Base Tryd.prog (E_57 N) c) : zj Tryd.prog c (zh zvn [0,1]) (z1kp N) :=
  z18 (s := z1ph) (m := 19) (z1o4 N) [10,9,8,0,2] N (fun x=>(x.2.1,x.2.2.1,x.2.2.2.1)) (fun x=>(x.1,x.2.2.2.2.1)) (fun i v=>(v.1,i.1,i.2.1,i.2.2,v.2,())) (fun _=>rfl) (ze hb N (t1_57 N) L_57 zvn TabOk.nil [0,0,1] _ rfl) (fun i v r K=>by kernel_rfl)
def z5g (N:Nat) (b:z46) (last:(List Int)) (first:(List Int)) : Option ((Unit) × (z46 × Unit)) :=
 zgo N b first last (((List.length last) : Nat) : Int) (0 : Int)
 (fun b1=>some ((),(b1,())))
def t_57 (N:Nat) : Tab ((Unit) × (z46 × Unit)) := [([0,1],z1kp N)]
theorem z191 (N:Nat) (x:z13 z1b2) : z4l (E_57 N) N (t_57 N) L_57 Tryd.f74 (mkS z1b2 0 x) (z35 (.tup []) [(0,.box zei)] 2) = z5g N x.1 x.2.1 x.2.2.1 := by kernel_rfl
def z58 (N:Nat) : List A -> Res := zz z1b2 (fun x=>z5g N x.1 x.2.1 x.2.2.1) (z3p (.tup []) [(0,.box zei)] 2)
theorem z9x (N:Nat) : Contract Tryd.prog glob 74 (z58 N) :=
  Contract.of (E := E_57 N) (H := t_57 N) (L := L_57) (N := N) (body := zvn) (K := (z35 (.tup []) [(0,.box zei)] 2)) (z1qz N) Tryd.func74 (by kernel_rfl) (by decide) (fun _ hb=>(TabOk.cons (z1gt hb) TabOk.nil)) (fun x y h=>by rw [z191]; exact h) (z2e (s := (.tup [])) (os := [(0,.box zei)]) (m := 2))
def zpa : Code := (Tryd.f60.body).getD .skip
def L_58 : List (List Nat × List Nat) := [([0],[0,4,5,6]),([0,1],[4,5,6,0]),([0,1,1],[4,5,7,6,0]),([0,0,1,1,1],[26,4,5,7,6,0]),([1,0,1,1,1],[5,4,7,6,0]),([0,1,0,1,1,1],[5,4,7,6,0]),([0,0,1,1,1,1],[34,4,5,7,6,0]),([1,0,1,1,1,1],[7,6,0]),(zyt,[7,6,0]),([0,1,1,1,1,1],[6,0]),([1,1,1,1,1,1],[6,0])]
def z1s4 (N:Nat) : Env := z1d tys glob [(74,z58 N),(75,z4v N)] [] [] [0] false [] [(76,za N)]
theorem z1qy (N:Nat) : EnvOk Tryd.prog (z1s4 N) := zi mixed zn (FnsOk.cons (z9x N) (FnsOk.cons (z85 N) (FnsOk.nil))) (ItsOk.cons (zb N) (ItsOk.nil))
def z9t (N:Nat) (b:z46) (x4:z45) (y:z45) (x6:z45) (k0:z45 -> Option DT9) : Option DT9 :=
 cond x4.1
 (k0 (y.1,(x4.2.1,(y.2.2.1,()))))
 (k0 (false,(x4.2.1,(y.2.2.1,()))))
def z1o3 (N:Nat) (x:z13 z1b1) (K:Ex -> List A -> Option DT9) : Option DT9 :=
 z9t N x.1 x.2.1 x.2.2.1 x.2.2.2.1 (fun a4=>(K .normal (mkS z1p0 34 (x.1,x.2.1,x.2.2.1,x.2.2.2.1,a4,()))))
def z1ko (N:Nat) : Hd DT9 := fun st K=>(unS z1b1 35 (restr [4,5,6,0] 0 st)).bind fun x=>z1o3 N x K
def t1_58 (N:Nat) : Tab DT9 := []
theorem z1gs {N:Nat} {c:Ctx} (hb:Base Tryd.prog (z1s4 N) c) : zj Tryd.prog c (zh zpa [0,1,1]) (z1ko N) :=
  zl (s := z1b1) (m := 35) (g := z1o3 N) [4,5,6,0] (ze hb N (t1_58 N) L_58 zpa TabOk.nil [0,1,1] _ rfl) (fun x K=>by kernel_rfl)
def z9s (N:Nat) (b:z46) (x4:z45) (y:z45) (x6:z45) (whole:z45) (k0:z45 -> Option DT9) : Option DT9 :=
 cond x4.1
 ((z2g N x4.2.1 y.2.1).bind fun y1 =>
 k0 (whole.1,(y1,whole.2.2)))
 (k0 whole)
def z1mq (N:Nat) (x:z13 z1p0) (K:Ex -> List A -> Option DT9) : Option DT9 :=
 z9s N x.1 x.2.1 x.2.2.1 x.2.2.2.1 x.2.2.2.2.1 (fun a4=>(K .normal (mkS z1p0 34 (x.1,x.2.1,x.2.2.1,x.2.2.2.1,a4,()))))
def z1jb (N:Nat) : Hd DT9 := fun st K=>(unS z1p0 34 (restr [4,5,7,6,0] 0 st)).bind fun x=>z1mq N x K
def t2_58 (N:Nat) : Tab DT9 := []
theorem z1ff {N:Nat} {c:Ctx} (hb:Base Tryd.prog (z1s4 N) c) : zj Tryd.prog c (zh zpa [0,1,1,1]) (z1jb N) :=
  zl (s := z1p0) (m := 34) (g := z1mq N) [4,5,7,6,0] (ze hb N (t2_58 N) L_58 zpa TabOk.nil [0,1,1,1] _ rfl) (fun x K=>by kernel_rfl)
def z2x (N:Nat) (b:z46) (x1:z45) (y:z45) : Option DT9 :=
 (z5g N b x1.2.2.1 y.2.1).bind fun y1 =>
 z9t N y1.2.1 x1 y (false,(([] : List Int),(([] : List Int),())))
 (fun whole=>z9s N y1.2.1 x1 y (false,(([] : List Int),(([] : List Int),()))) whole
 (fun whole1=>cond y.1
 ((z2g N x1.2.2.1 y.2.2.1).bind fun y2 =>
 some ((whole1.1,(whole1.2.1,(y2,whole1.2.2.2))),(y1.2.1,())))
 (some (whole1,(y1.2.1,())))))
def t_58 (N:Nat) : Tab DT9 := [([0,1,1],z1ko N),([0,1,1,1],z1jb N)]
theorem z190 (N:Nat) (x:z13 [(0,.box zei),(0,.v z64),(0,.v z64)]) : z4l (z1s4 N) N (t_58 N) L_58 Tryd.f60 (mkS [(0,.box zei),(0,.v z64),(0,.v z64)] 0 x) (z35 (.v z64) [(0,.box zei)] 2) = z2x N x.1 x.2.1 x.2.2.1 := by kernel_rfl
def z57 (N:Nat) : List A -> Res := zz [(0,.box zei),(0,.v z64),(0,.v z64)] (fun x=>z2x N x.1 x.2.1 x.2.2.1) (z3p (.v z64) [(0,.box zei)] 2)
theorem z9u (N:Nat) : Contract Tryd.prog glob 60 (z57 N) :=
  Contract.of (E := z1s4 N) (H := t_58 N) (L := L_58) (N := N) (body := zpa) (K := (z35 (.v z64) [(0,.box zei)] 2)) (z1qy N) Tryd.func60 (by kernel_rfl) (by decide) (fun _ hb=>(TabOk.cons (z1gs hb) (TabOk.cons (z1ff hb) TabOk.nil))) (fun x y h=>by rw [z190]; exact h) (z2e (s := (.v z64)) (os := [(0,.box zei)]) (m := 2))
def z1ae : Code := (Tryd.f61.body).getD .skip
def L_59 : List (List Nat × List Nat) := [([0],[2,3,4]),([0,1],[4]),([1,1],[4])]
def E_59 (N:Nat) : Env := z1d tys glob [(75,z4v N)] [] [] [] false [] [(76,za N)]
theorem z1qx (N:Nat) : EnvOk Tryd.prog (E_59 N) := zi mixed zn (FnsOk.cons (z85 N) (FnsOk.nil)) (ItsOk.cons (zb N) (ItsOk.nil))
def zgl (N:Nat) (x0:z45) (y:z45) : Option z45 :=
 cond x0.1
 ((z2g N x0.2.1 y.2.1).bind fun y1 =>
 (z2g N x0.2.2.1 y.2.2.1).bind fun y2 =>
 some (true,(y1,(y2,()))))
 ((z2g N x0.2.1 y.2.1).bind fun y3 =>
 (z2g N x0.2.2.1 y.2.2.1).bind fun y4 =>
 some (y.1,(y3,(y4,()))))
def t_59 (N:Nat) : Tab z45 := []
theorem z18z (N:Nat) (x:z13 [(0,.v z64),(0,.v z64)]) : z4l (E_59 N) N (t_59 N) L_59 Tryd.f61 (mkS [(0,.v z64),(0,.v z64)] 0 x) (z2v (.v z64) 2) = zgl N x.1 x.2.1 := by kernel_rfl
def zfy (N:Nat) : List A -> Res := zz [(0,.v z64),(0,.v z64)] (fun x=>zgl N x.1 x.2.1) (z70 (.v z64) 2)
theorem znq (N:Nat) : Contract Tryd.prog glob 61 (zfy N) :=
  Contract.of (E := E_59 N) (H := t_59 N) (L := L_59) (N := N) (body := z1ae) (K := (z2v (.v z64) 2)) (z1qx N) Tryd.func61 (by kernel_rfl) (by decide) (fun _ hb=>TabOk.nil) (fun x y h=>by rw [z18z]; exact h) (z16 (s := (.v z64)) (m := 2))
abbrev zg : Type := z46 -> DT7 -> Option DT9
def zfp : Code := (Tryd.f62.body).getD .skip
def z1cn : List (List Nat × List Nat) := [([0],[0,3,4]),([0,1],[0,3,5,4]),([0,1,1],[0,5,4,6,3]),([0,0,1,1,1],[30,4,0,6,3]),([1,0,1,1,1],[6,3,0,4]),(ztr,[4,0]),(ztt,[4,0]),([0,0,1,1,1,1],[6,3,0,4]),(z128,[36,6,0,3,4]),(z127,[6,0,3,4]),(z129,[6,3,0,4]),([0,1,0,0,0,1,1,1,1],[6,3,0,4]),(z125,[6,3,0,4]),([0,1,1,1,1],[6,3,0,4]),([0,1,1,1,1,1],[6,3,0,7,4]),([0,0,1,1,1,1,1,1],[8,3,0,6,7,4]),(z126,[8,3,0,6,7,4]),([0,0,0,0,1,0,1,1,1,1,1,1],[53,0,6,8,7,3,4]),([1,0,0,0,1,0,1,1,1,1,1,1],[0,6,8,7,3,4]),([1,1,0,0,0,1,0,1,1,1,1,1,1],[3,0,7,6,4]),([0,0,0,1,0,0,1,0,1,1,1,1,1,1],[7,8,3,0,6,4]),([1,0,0,1,0,0,1,0,1,1,1,1,1,1],[8,3,0,6,7,4]),([0,1,0,0,1,0,1,1,1,1,1,1],[8,3,0,6,7,4]),([1,1,0,0,1,0,1,1,1,1,1,1],[8,3,0,6,7,4]),([1,0,1,1,1,1,1,1],[3,0,7,6,4]),([0,0,1,1,1,1,1,1,1],[66,0,7,6,3,4]),([1,0,1,1,1,1,1,1,1],[6,3,0,7,4]),([0,1,0,1,1,1,1,1,1,1],[6,3,0,7,4]),([0,1,1,1,1,1,1,1,1],[6,3,0,9,7,4]),([0,0,1,1,1,1,1,1,1,1,1],zw8),([0,1,0,1,1,1,1,1,1,1,1,1],zw8),([0,0,0,1,0,1,1,1,1,1,1,1,1,1],[80,77,79,0,9,78,7,4]),([0,1,0,0,1,0,1,1,1,1,1,1,1,1,1],[77,79,0,9,78,7,4]),([1,0,1,0,0,1,0,1,1,1,1,1,1,1,1,1],[0,9,7,4]),([0,0,0,1,1,0,0,1,0,1,1,1,1,1,1,1,1,1],[0,9,11,79,78,77,7,4]),([1,0,0,1,1,0,0,1,0,1,1,1,1,1,1,1,1,1],zw8),([0,1,1,0,0,1,0,1,1,1,1,1,1,1,1,1],zw8),([1,1,1,0,0,1,0,1,1,1,1,1,1,1,1,1],zw8),([1,0,1,1,1,1,1,1,1,1,1],[0,9,7,4]),([0,1,1,1,1,1,1,1,1,1,1],[4,0]),([1,1,1,1,1,1,1,1,1,1,1],[4,0])]
def z1bv (N:Nat) (self:zg) : Env := z1d tys glob [(60,z57 N),(74,z58 N),(59,z99 N),(58,zac N),(40,zz z120 (fun x=>self x.1 x.2.1) (z3p (.v z64) [(0,.box zei)] 1))] [(6,z64)] [] [0] false [] [(76,za N)]
theorem z1qw (N:Nat) (self:zg) (hself:Contract Tryd.prog glob 40 (zz z120 (fun x=>self x.1 x.2.1) (z3p (.v z64) [(0,.box zei)] 1))) : EnvOk Tryd.prog (z1bv N self) := zi mixed zn (FnsOk.cons (z9u N) (FnsOk.cons (z9x N) (FnsOk.cons (zfx N) (FnsOk.cons (zgn N) (FnsOk.cons (hself) (FnsOk.nil)))))) (ItsOk.cons (zb N) (ItsOk.nil))
def zaj (N:Nat) (self:zg) (n:DT7) (x4:z45) (b:z46) (parts:(List z45)) (rec:z46 -> (List z45) -> Option DT9) (k0:z46 -> (List z45) -> Option DT9) : Option DT9 :=
 (zd0 N n).bind fun y =>
 cond (decide ((((List.length parts) : Nat) : Int) < y))
 (cond (inR (0 : Int) (List.length n.2.2.1))
 ((self b (unN (List.getD n.2.2.1 0 (Tree.mk (0 : Int) ([] : List Int) ([] : List Tree) (0 : Int) (0 : Int))))).bind fun y1 =>
 cond (decide ((((List.length parts) + 1) * 56) <= 70368744177664))
 (rec y1.2.1 (parts ++ ([y1.1] : List z45)))
 (none))
 (none))
 (k0 b parts)
def zig (N:Nat) (self:zg) (b:z46) (n:DT7) (x4:z45) (parts:(List z45)) (k0:z46 -> (List z45) -> Option DT9) : Option DT9 :=
 iter (fun (v:(z46 × (List z45))) r=>zaj N self n x4 v.1 v.2 (fun b parts=>(r (b,parts))) k0) N (b,parts)
def z1o2 (N:Nat) (self:zg) (i:(DT7 × z45)) (v:(z46 × (List z45))) (r:(z46 × (List z45)) -> Option DT9) (K:Ex -> List A -> Option DT9) : Option DT9 :=
 zaj N self i.1 i.2 v.1 v.2 (fun b parts=>(r (b,parts))) (fun a0 a3=>(K (.exit 0) (mkS z1az 85 (a0,i.1,i.2,a3,()))))
def z1kn (N:Nat) (self:zg) : Hd DT9 := fun st K=>(unS z1az 85 (restr [6,3,0,4] 0 st)).bind fun x=>iter (fun v r=>z1o2 N self ((fun x=>(x.2.1,x.2.2.1)) x) v r K) N ((fun x=>(x.1,x.2.2.2.1)) x)
def t1_60 (N:Nat) (self:zg) : Tab DT9 := []
theorem z1gr {N:Nat} {self:zg} {c:Ctx} (hb:Base Tryd.prog (z1bv N self) c) : zj Tryd.prog c (zh zfp [0,0,1,1,1,1]) (z1kn N self) :=
  z18 (s := z1az) (m := 85) (z1o2 N self) [6,3,0,4] N (fun x=>(x.2.1,x.2.2.1)) (fun x=>(x.1,x.2.2.2.1)) (fun i v=>(v.1,i.1,i.2,v.2,())) (fun _=>rfl) (ze hb N (t1_60 N self) z1cn zfp TabOk.nil [0,0,0,1,1,1,1] _ rfl) (fun i v r K=>by kernel_rfl)
def zai (N:Nat) (self:zg) (n:DT7) (x4:z45) (parts:(List z45)) (b:z46) (tail:z45) (i:Int) (rec:z46 -> z45 -> Int -> Option DT9) (k0:z46 -> z45 -> Option DT9) : Option DT9 :=
 cond (decide (n.2.2.2.1 <= i))
 (cond (inR i (List.length parts))
 (cond (decide ((Int.toNat i) < (List.length parts)))
 ((z2x N b (List.getD parts (Int.toNat i) (false,(([] : List Int),(([] : List Int),())))) tail).bind fun y =>
 rec y.2.1 (true,y.1.2) (IntKind.wrap IntKind.i64 (i - (1 : Int))))
 (none))
 (none))
 (k0 b tail)
def zif (N:Nat) (self:zg) (b:z46) (n:DT7) (x4:z45) (parts:(List z45)) (tail:z45) (i:Int) (k0:z46 -> z45 -> Option DT9) : Option DT9 :=
 iter (fun (v:(z46 × z45 × Int)) r=>zai N self n x4 parts v.1 v.2.1 v.2.2 (fun b tail i=>(r (b,tail,i))) k0) N (b,tail,i)
def z1mp (N:Nat) (self:zg) (i:(DT7 × z45 × (List z45))) (v:(z46 × z45 × Int)) (r:(z46 × z45 × Int) -> Option DT9) (K:Ex -> List A -> Option DT9) : Option DT9 :=
 zai N self i.1 i.2.1 i.2.2 v.1 v.2.1 v.2.2 (fun b tail i=>(r (b,tail,i))) (fun a0 a4=>(K (.exit 2) (mkS z1oz 84 (a0,i.1,i.2.1,i.2.2,a4,()))))
def z1ja (N:Nat) (self:zg) : Hd DT9 := fun st K=>(unS z1p9 83 (restr [8,3,0,6,7,4] 0 st)).bind fun x=>iter (fun v r=>z1mp N self ((fun x=>(x.2.1,x.2.2.1,x.2.2.2.1)) x) v r K) N ((fun x=>(x.1,x.2.2.2.2.1,x.2.2.2.2.2.1)) x)
def t2_60 (N:Nat) (self:zg) : Tab DT9 := []
theorem z1fe {N:Nat} {self:zg} {c:Ctx} (hb:Base Tryd.prog (z1bv N self) c) : zj Tryd.prog c (zh zfp z126) (z1ja N self) :=
  z18 (s := z1p9) (m := 83) (z1mp N self) [8,3,0,6,7,4] N (fun x=>(x.2.1,x.2.2.1,x.2.2.2.1)) (fun x=>(x.1,x.2.2.2.2.1,x.2.2.2.2.2.1)) (fun i v=>(v.1,i.1,i.2.1,i.2.2,v.2.1,v.2.2,())) (fun _=>rfl) (ze hb N (t2_60 N self) z1cn zfp TabOk.nil [0,0,1,0,1,1,1,1,1,1] _ rfl) (fun i v r K=>by kernel_rfl)
def zak (N:Nat) (self:zg) (b:z46) (n:DT7) (x4:z45) (parts:(List z45)) (tail:z45) (k0:z46 -> Option DT9) : Option DT9 :=
 cond (n.2.2.2.2.1 == (-(1 : Int)))
 ((z5g N b tail.2.2.1 tail.2.1).bind fun y =>
 k0 y.2.1)
 (k0 b)
def z1m1 (N:Nat) (self:zg) (x:z13 z1oz) (K:Ex -> List A -> Option DT9) : Option DT9 :=
 zak N self x.1 x.2.1 x.2.2.1 x.2.2.2.1 x.2.2.2.2.1 (fun a0=>(K .normal (mkS z1oz 84 (a0,x.2.1,x.2.2.1,x.2.2.2.1,x.2.2.2.2.1,()))))
def z1im (N:Nat) (self:zg) : Hd DT9 := fun st K=>(unS z1oz 84 (restr [3,0,7,6,4] 0 st)).bind fun x=>z1m1 N self x K
def t3_60 (N:Nat) (self:zg) : Tab DT9 := []
theorem z1eq {N:Nat} {self:zg} {c:Ctx} (hb:Base Tryd.prog (z1bv N self) c) : zj Tryd.prog c (zh zfp zzg) (z1im N self) :=
  zl (s := z1oz) (m := 84) (g := z1m1 N self) [3,0,7,6,4] (ze hb N (t3_60 N self) z1cn zfp TabOk.nil zzg _ rfl) (fun x K=>by kernel_rfl)
def zah (N:Nat) (self:zg) (x4:z45) (tail:z45) (x77:(List z45)) (x78:Int) (b:z46) (whole:z45) (x79:Int) (rec:z46 -> z45 -> Int -> Option DT9) (k0:z46 -> z45 -> Option DT9) : Option DT9 :=
 cond (decide (x79 < x78))
 (cond (inR x79 (List.length x77))
 ((z2x N b whole (List.getD x77 (Int.toNat x79) (false,(([] : List Int),(([] : List Int),()))))).bind fun y =>
 rec y.2.1 y.1 (IntKind.wrap IntKind.i64 (x79 + (1 : Int))))
 (none))
 (k0 b whole)
def zie (N:Nat) (self:zg) (b:z46) (x4:z45) (tail:z45) (whole:z45) (x77:(List z45)) (x78:Int) (x79:Int) (k0:z46 -> z45 -> Option DT9) : Option DT9 :=
 iter (fun (v:(z46 × z45 × Int)) r=>zah N self x4 tail x77 x78 v.1 v.2.1 v.2.2 (fun b whole x79=>(r (b,whole,x79))) k0) N (b,whole,x79)
def z1lp (N:Nat) (self:zg) (i:(z45 × z45 × (List z45) × Int)) (v:(z46 × z45 × Int)) (r:(z46 × z45 × Int) -> Option DT9) (K:Ex -> List A -> Option DT9) : Option DT9 :=
 zah N self i.1 i.2.1 i.2.2.1 i.2.2.2 v.1 v.2.1 v.2.2 (fun b whole x79=>(r (b,whole,x79))) (fun a0 a3=>(K (.exit 4) (mkS [(0,.box zei),(3,.box z64),(2,.box z64),(1,.box z64)] 82 (a0,i.1,i.2.1,a3,()))))
def z1ia (N:Nat) (self:zg) : Hd DT9 := fun st K=>(unS SQ87 12 (restr zw8 0 st)).bind fun x=>iter (fun v r=>z1lp N self ((fun x=>(x.2.1,x.2.2.1,x.2.2.2.2.1,x.2.2.2.2.2.1)) x) v r K) N ((fun x=>(x.1,x.2.2.2.1,x.2.2.2.2.2.2.1)) x)
def t4_60 (N:Nat) (self:zg) : Tab DT9 := []
theorem z1ee {N:Nat} {self:zg} {c:Ctx} (hb:Base Tryd.prog (z1bv N self) c) : zj Tryd.prog c (zh zfp [0,1,0,1,1,1,1,1,1,1,1,1]) (z1ia N self) :=
  z18 (s := SQ87) (m := 12) (z1lp N self) zw8 N (fun x=>(x.2.1,x.2.2.1,x.2.2.2.2.1,x.2.2.2.2.2.1)) (fun x=>(x.1,x.2.2.2.1,x.2.2.2.2.2.2.1)) (fun i v=>(v.1,i.1,i.2.1,v.2.1,i.2.2.1,i.2.2.2,v.2.2,())) (fun _=>rfl) (ze hb N (t4_60 N self) z1cn zfp TabOk.nil [0,0,1,0,1,1,1,1,1,1,1,1,1] _ rfl) (fun i v r K=>by kernel_rfl)
def z9b (N:Nat) (self:zg) (b:z46) (n:DT7) : Option DT9 :=
 cond (inR (0 : Int) (List.length n.2.2.1))
 ((self b (unN (List.getD n.2.2.1 0 (Tree.mk (0 : Int) ([] : List Int) ([] : List Tree) (0 : Int) (0 : Int))))).bind fun y =>
 cond ((((List.length y.2.1.1) : Nat) : Int) == (((List.length b.1) : Nat) : Int))
 (some ((true,(([] : List Int),(([] : List Int),()))),(y.2.1,())))
 (zig N self y.2.1 n (false,(([] : List Int),(([] : List Int),()))) ([y.1] : List z45)
 (fun b1 parts=>zif N self b1 n (false,(([] : List Int),(([] : List Int),()))) parts (true,(([] : List Int),(([] : List Int),()))) (IntKind.wrap IntKind.i64 ((((List.length parts) : Nat) : Int) - (1 : Int)))
 (fun b2 tail=>zak N self b2 n (false,(([] : List Int),(([] : List Int),()))) parts tail
 (fun b3=>cond (decide (((0 : Int) <= n.2.2.2.1) /\ (n.2.2.2.1 <= (((List.length parts) : Nat) : Int))))
 (zie N self b3 (false,(([] : List Int),(([] : List Int),()))) tail (true,(([] : List Int),(([] : List Int),()))) (cut parts 0 (Int.toNat n.2.2.2.1)) (((List.length (cut parts 0 (Int.toNat n.2.2.2.1))) : Nat) : Int) (0 : Int)
 (fun b4 whole=>(z2x N b4 whole tail).bind fun y1 =>
 some (y1.1,(y1.2.1,()))))
 (none))))))
 (none)
def t_60 (N:Nat) (self:zg) : Tab DT9 := [([0,0,1,1,1,1],z1kn N self),(z126,z1ja N self),(zzg,z1im N self),([0,1,0,1,1,1,1,1,1,1,1,1],z1ia N self)]
theorem z18y (N:Nat) (self:zg) (x:z13 z120) : z4l (z1bv N self) N (t_60 N self) z1cn Tryd.f62 (mkS z120 0 x) (z35 (.v z64) [(0,.box zei)] 1) = z9b N self x.1 x.2.1 := by kernel_rfl
def z9v (N:Nat) (self:zg) : List A -> Res := zz z120 (fun x=>z9b N self x.1 x.2.1) (z3p (.v z64) [(0,.box zei)] 1)
theorem zih (N:Nat) (self:zg) (hself:Contract Tryd.prog glob 40 (zz z120 (fun x=>self x.1 x.2.1) (z3p (.v z64) [(0,.box zei)] 1))) : Contract Tryd.prog glob 62 (z9v N self) :=
  Contract.of (E := z1bv N self) (H := t_60 N self) (L := z1cn) (N := N) (body := zfp) (K := (z35 (.v z64) [(0,.box zei)] 1)) (z1qw N self hself) Tryd.func62 (by kernel_rfl) (by decide) (fun _ hb=>(TabOk.cons (z1gr hb) (TabOk.cons (z1fe hb) (TabOk.cons (z1eq hb) (TabOk.cons (z1ee hb) TabOk.nil))))) (fun x y h=>by rw [z18y]; exact h) (z2e (s := (.v z64)) (os := [(0,.box zei)]) (m := 1))
def zm1 : Code := (Tryd.f40.body).getD .skip
def L_61 : List (List Nat × List Nat) := [([0],[3,0,4]),([0,0,1],[13,0,3,4]),([0,0,1,0,1],[14,0,3,4,13]),([1,0,1,0,1],[0,3,4]),([0,1,1,0,1,0,1],[46,3,0,4,13]),([1,1,1,0,1,0,1],[0,3,4]),([0,1,1,1,1,0,1,0,1],[64,3,0,4]),([1,1,1,1,1,0,1,0,1],[0,3,4]),([0,0,1,1,1,1,1,0,1,0,1],[3,9,0,4]),([0,0,1,0,1,1,1,1,1,0,1,0,1],zw5),(z1b5,zw5),([0,0,0,1,0,1,0,1,1,1,1,1,0,1,0,1],[71,68,70,9,0,69,4]),([0,1,0,0,1,0,1,0,1,1,1,1,1,0,1,0,1],[68,70,9,0,69,4]),([1,0,1,0,0,1,0,1,0,1,1,1,1,1,0,1,0,1],[9,4,0]),([0,0,0,1,1,0,0,1,0,1,0,1,1,1,1,1,0,1,0,1],[9,0,11,70,69,68,4]),([1,0,0,1,1,0,0,1,0,1,0,1,1,1,1,1,0,1,0,1],zw5),([0,1,1,0,0,1,0,1,0,1,1,1,1,1,0,1,0,1],zw5),([1,1,1,0,0,1,0,1,0,1,1,1,1,1,0,1,0,1],zw5),([1,0,1,0,1,1,1,1,1,0,1,0,1],[9,4,0]),([0,1,1,0,1,1,1,1,1,0,1,0,1],[4,0]),([1,1,1,0,1,1,1,1,1,0,1,0,1],[4,0]),([0,0,1,1,1,0,1,0,1],[3,0,6,4]),([0,0,1,0,1,1,1,0,1,0,1],zw4),([0,1,0,1,0,1,1,1,0,1,0,1],zw4),([0,0,0,1,0,1,0,1,1,1,0,1,0,1],[53,50,52,0,6,51,4]),([0,1,0,0,1,0,1,0,1,1,1,0,1,0,1],[50,52,0,6,51,4]),([1,0,1,0,0,1,0,1,0,1,1,1,0,1,0,1],[6,4,0]),([0,0,0,1,1,0,0,1,0,1,0,1,1,1,0,1,0,1],[0,6,8,52,51,50,4]),([1,0,0,1,1,0,0,1,0,1,0,1,1,1,0,1,0,1],zw4),([0,1,1,0,0,1,0,1,0,1,1,1,0,1,0,1],zw4),([1,1,1,0,0,1,0,1,0,1,1,1,0,1,0,1],zw4),([1,0,1,0,1,1,1,0,1,0,1],[6,4,0]),([0,1,1,0,1,1,1,0,1,0,1],[4,0]),([1,1,1,0,1,1,1,0,1,0,1],[4,0]),([0,0,1,0,1,0,1],[0,3,5,4]),([0,1,0,1,0,1,0,1],[0,5,4]),([0,1,1,0,1,0,1,0,1],[5,4,0]),([0,1,1,1,0,1,0,1,0,1],[4,0]),([1,1,1,1,0,1,0,1,0,1],[4,0]),([1,0,1],[0,3,4]),([0,1,1],[4,0]),([1,1,1],[4,0])]
def z1s3 (N:Nat) (self:z46 -> DT7 -> Option DT9) : Env := z1d tys glob [(62,z9v N self),(61,zfy N),(60,z57 N),(59,z99 N),(40,zz z120 (fun x=>self x.1 x.2.1) (z3p (.v z64) [(0,.box zei)] 1))] [] [] [0] false [] [(76,za N)]
theorem z1qv (N:Nat) (self:z46 -> DT7 -> Option DT9) (hself:Contract Tryd.prog glob 40 (zz z120 (fun x=>self x.1 x.2.1) (z3p (.v z64) [(0,.box zei)] 1))) : EnvOk Tryd.prog (z1s3 N self) := zi mixed zn (FnsOk.cons (zih N self hself) (FnsOk.cons (znq N) (FnsOk.cons (z9u N) (FnsOk.cons (zfx N) (FnsOk.cons (hself) (FnsOk.nil)))))) (ItsOk.cons (zb N) (ItsOk.nil))
def z87 (N:Nat) (self:z46 -> DT7 -> Option DT9) (x4:z45) (x50:(List Tree)) (x51:Int) (b:z46) (whole:z45) (x52:Int) (rec:z46 -> z45 -> Int -> Option DT9) (k0:z46 -> z45 -> Option DT9) : Option DT9 :=
 cond (decide (x52 < x51))
 (cond (inR x52 (List.length x50))
 ((self b (unN (List.getD x50 (Int.toNat x52) (Tree.mk (0 : Int) ([] : List Int) ([] : List Tree) (0 : Int) (0 : Int))))).bind fun y =>
 (z2x N y.2.1 whole y.1).bind fun y1 =>
 rec y1.2.1 y1.1 (IntKind.wrap IntKind.i64 (x52 + (1 : Int))))
 (none))
 (k0 b whole)
def zem (N:Nat) (self:z46 -> DT7 -> Option DT9) (b:z46) (x4:z45) (whole:z45) (x50:(List Tree)) (x51:Int) (x52:Int) (k0:z46 -> z45 -> Option DT9) : Option DT9 :=
 iter (fun (v:(z46 × z45 × Int)) r=>z87 N self x4 x50 x51 v.1 v.2.1 v.2.2 (fun b whole x52=>(r (b,whole,x52))) k0) N (b,whole,x52)
def z1o1 (N:Nat) (self:z46 -> DT7 -> Option DT9) (i:(z45 × (List Tree) × Int)) (v:(z46 × z45 × Int)) (r:(z46 × z45 × Int) -> Option DT9) (K:Ex -> List A -> Option DT9) : Option DT9 :=
 z87 N self i.1 i.2.1 i.2.2 v.1 v.2.1 v.2.2 (fun b whole x52=>(r (b,whole,x52))) (fun a0 a2=>(K (.exit 1) (mkS [(0,.box zei),(3,.box z64),(1,.box z64)] 77 (a0,i.1,a2,()))))
def z1km (N:Nat) (self:z46 -> DT7 -> Option DT9) : Hd DT9 := fun st K=>(unS z1pg 31 (restr zw4 0 st)).bind fun x=>iter (fun v r=>z1o1 N self ((fun x=>(x.2.1,x.2.2.2.1,x.2.2.2.2.1)) x) v r K) N ((fun x=>(x.1,x.2.2.1,x.2.2.2.2.2.1)) x)
def t1_61 (N:Nat) (self:z46 -> DT7 -> Option DT9) : Tab DT9 := []
theorem z1gq {N:Nat} {self:z46 -> DT7 -> Option DT9} {c:Ctx} (hb:Base Tryd.prog (z1s3 N self) c) : zj Tryd.prog c (zh zm1 [0,1,0,1,0,1,1,1,0,1,0,1]) (z1km N self) :=
  z18 (s := z1pg) (m := 31) (z1o1 N self) zw4 N (fun x=>(x.2.1,x.2.2.2.1,x.2.2.2.2.1)) (fun x=>(x.1,x.2.2.1,x.2.2.2.2.2.1)) (fun i v=>(v.1,i.1,v.2.1,i.2.1,i.2.2,v.2.2,())) (fun _=>rfl) (ze hb N (t1_61 N self) L_61 zm1 TabOk.nil [0,0,1,0,1,0,1,1,1,0,1,0,1] _ rfl) (fun i v r K=>by kernel_rfl)
def z86 (N:Nat) (self:z46 -> DT7 -> Option DT9) (x4:z45) (x68:(List Tree)) (x69:Int) (b:z46) (whole:z45) (x70:Int) (rec:z46 -> z45 -> Int -> Option DT9) (k0:z46 -> z45 -> Option DT9) : Option DT9 :=
 cond (decide (x70 < x69))
 (cond (inR x70 (List.length x68))
 ((self b (unN (List.getD x68 (Int.toNat x70) (Tree.mk (0 : Int) ([] : List Int) ([] : List Tree) (0 : Int) (0 : Int))))).bind fun y =>
 (zgl N whole y.1).bind fun y1 =>
 rec y.2.1 y1 (IntKind.wrap IntKind.i64 (x70 + (1 : Int))))
 (none))
 (k0 b whole)
def zel (N:Nat) (self:z46 -> DT7 -> Option DT9) (b:z46) (x4:z45) (whole:z45) (x68:(List Tree)) (x69:Int) (x70:Int) (k0:z46 -> z45 -> Option DT9) : Option DT9 :=
 iter (fun (v:(z46 × z45 × Int)) r=>z86 N self x4 x68 x69 v.1 v.2.1 v.2.2 (fun b whole x70=>(r (b,whole,x70))) k0) N (b,whole,x70)
def z1mo (N:Nat) (self:z46 -> DT7 -> Option DT9) (i:(z45 × (List Tree) × Int)) (v:(z46 × z45 × Int)) (r:(z46 × z45 × Int) -> Option DT9) (K:Ex -> List A -> Option DT9) : Option DT9 :=
 z86 N self i.1 i.2.1 i.2.2 v.1 v.2.1 v.2.2 (fun b whole x70=>(r (b,whole,x70))) (fun a0 a2=>(K (.exit 3) (mkS [(0,.box zei),(3,.box z64),(4,.box z64)] 74 (a0,i.1,a2,()))))
def z1j9 (N:Nat) (self:z46 -> DT7 -> Option DT9) : Hd DT9 := fun st K=>(unS z1pf 13 (restr zw5 0 st)).bind fun x=>iter (fun v r=>z1mo N self ((fun x=>(x.2.1,x.2.2.2.1,x.2.2.2.2.1)) x) v r K) N ((fun x=>(x.1,x.2.2.1,x.2.2.2.2.2.1)) x)
def t2_61 (N:Nat) (self:z46 -> DT7 -> Option DT9) : Tab DT9 := []
theorem z1fd {N:Nat} {self:z46 -> DT7 -> Option DT9} {c:Ctx} (hb:Base Tryd.prog (z1s3 N self) c) : zj Tryd.prog c (zh zm1 z1b5) (z1j9 N self) :=
  z18 (s := z1pf) (m := 13) (z1mo N self) zw5 N (fun x=>(x.2.1,x.2.2.2.1,x.2.2.2.2.1)) (fun x=>(x.1,x.2.2.1,x.2.2.2.2.2.1)) (fun i v=>(v.1,i.1,v.2.1,i.2.1,i.2.2,v.2.2,())) (fun _=>rfl) (ze hb N (t2_61 N self) L_61 zm1 TabOk.nil [0,0,1,0,1,0,1,1,1,1,1,0,1,0,1] _ rfl) (fun i v r K=>by kernel_rfl)
def z90 (N:Nat) (self:z46 -> DT7 -> Option DT9) (b:z46) (n:DT7) : Option DT9 :=
 cond (n.1 == (1 : Int))
 (cond (decide ((((List.length b.1) + 1) * 32) <= 70368744177664))
 (cond (decide ((((List.length b.2.1) + 1) * 24) <= 70368744177664))
 (some ((false,(([(((List.length b.1) : Nat) : Int)] : List Int),(([(((List.length b.1) : Nat) : Int)] : List Int),()))),(((b.1 ++ ([n.2.1] : List (List Int))),((b.2.1 ++ ([([] : List Int)] : List (List Int))),b.2.2)),())))
 (none))
 (none))
 (cond (n.1 == (2 : Int))
 (zem N self b (false,(([] : List Int),(([] : List Int),()))) (true,(([] : List Int),(([] : List Int),()))) n.2.2.1 (((List.length n.2.2.1) : Nat) : Int) (0 : Int)
 (fun b1 whole=>some (whole,(b1,()))))
 (cond (n.1 == (3 : Int))
 (zel N self b (false,(([] : List Int),(([] : List Int),()))) (false,(([] : List Int),(([] : List Int),()))) n.2.2.1 (((List.length n.2.2.1) : Nat) : Int) (0 : Int)
 (fun b2 whole1=>some (whole1,(b2,()))))
 ((z9b N self b n).bind fun y =>
 some (y.1,(y.2.1,())))))
def t_61 (N:Nat) (self:z46 -> DT7 -> Option DT9) : Tab DT9 := [([0,1,0,1,0,1,1,1,0,1,0,1],z1km N self),(z1b5,z1j9 N self)]
theorem z18x (N:Nat) (self:z46 -> DT7 -> Option DT9) (x:z13 z120) : z4l (z1s3 N self) N (t_61 N self) L_61 Tryd.f40 (mkS z120 0 x) (z35 (.v z64) [(0,.box zei)] 1) = z90 N self x.1 x.2.1 := by kernel_rfl
def z2k : Nat -> z46 -> DT7 -> Option DT9
  | 0=>fun _ _=>none
  | N + 1=>z90 (N + 1) (z2k N)
def z7i (N:Nat) : List A -> Res := zz z120 (fun x=>z2k N x.1 x.2.1) (z3p (.v z64) [(0,.box zei)] 1)
theorem z88 : ∀ N : Nat,Contract Tryd.prog glob 40 (z7i N)
  | 0=>Contract.zero Tryd.func40 (body := zm1) (by kernel_rfl) (by decide) (fun _=>rfl)
  | N + 1=>Contract.of (E := z1s3 (N + 1) (z2k N)) (H := t_61 (N + 1) (z2k N)) (L := L_61) (N := (N + 1)) (body := zm1) (K := (z35 (.v z64) [(0,.box zei)] 1)) (z1qv (N + 1) (z2k N) (z88 N)) Tryd.func40 (by kernel_rfl) (by decide) (fun _ hb=>(TabOk.cons (z1gq hb) (TabOk.cons (z1fd hb) TabOk.nil))) (fun x y h=>by rw [z18x]; exact h) (z2e (s := (.v z64)) (os := [(0,.box zei)]) (m := 1))
def z1ad : Code := (Tryd.f18.body).getD .skip
def L_62 : List (List Nat × List Nat) := [([0],[1,2]),([0,0,1],[8,2,1]),([1,0,1],[1,2]),([0,0,1,0,1],[2,3]),([1,0,1,0,1],[2,3]),([0,0,1,1],[12,2,1]),([1,0,1,1],[1,2]),([0,0,1,0,1,1],[2,3]),([1,0,1,0,1,1],[2,3]),([0,1,1,1],[4,1,2]),([0,1,1,1,1],[4,5,2]),([0,1,1,1,1,1],[2,3]),([1,1,1,1,1,1],[2,3])]
def E_62 (N:Nat) : Env := z1d tys glob [(40,z7i N),(39,zgm N),(38,zh0 N)] [] [] [] false [(14,zei),(15,zei)] [(76,za N)]
theorem z1qu (N:Nat) : EnvOk Tryd.prog (E_62 N) := zi mixed zn (FnsOk.cons (z88 N) (FnsOk.cons (ziv N) (FnsOk.cons (zj4 N) (FnsOk.nil)))) (ItsOk.cons (zb N) (ItsOk.nil))
def zr7 (N:Nat) (n:DT7) : Option (z8z × Int × Unit) :=
 (z9g N n).bind fun y =>
 cond (!y)
 (some ((([] : List (List Int)),(false,(([] : List Int),(([] : List Int),(([] : List (List Int)),()))))),((7 : Int),())))
 ((z9a N n).bind fun y1 =>
 cond (decide ((512 : Int) < y1))
 (some ((([] : List (List Int)),(false,(([] : List Int),(([] : List Int),(([] : List (List Int)),()))))),((16 : Int),())))
 ((z2k N (([] : List (List Int)),(([] : List (List Int)),())) n).bind fun y2 =>
 some ((y2.2.1.1,(y2.1.1,(y2.1.2.1,(y2.1.2.2.1,(y2.2.1.2.1,()))))),((0 : Int),()))))
def t_62 (N:Nat) : Tab (z8z × Int × Unit) := []
theorem z18w (N:Nat) (x:z13 [(0,.v TT4)]) : z4l (E_62 N) N (t_62 N) L_62 Tryd.f18 (mkS [(0,.v TT4)] 0 x) (z2v (.tup [TT2,(.int .i64)]) 1) = zr7 N x.1 := by kernel_rfl
def zm5 (N:Nat) : List A -> Res := zz [(0,.v TT4)] (fun x=>zr7 N x.1) (z70 (.tup [TT2,(.int .i64)]) 1)
theorem zu1 (N:Nat) : Contract Tryd.prog glob 18 (zm5 N) :=
  Contract.of (E := E_62 N) (H := t_62 N) (L := L_62) (N := N) (body := z1ad) (K := (z2v (.tup [TT2,(.int .i64)]) 1)) (z1qu N) Tryd.func18 (by kernel_rfl) (by decide) (fun _ hb=>TabOk.nil) (fun x y h=>by rw [z18w]; exact h) (z16 (s := (.tup [TT2,(.int .i64)])) (m := 1))
def zvm : Code := (Tryd.f95.body).getD .skip
def L_63 : List (List Nat × List Nat) := [([0],[0]),([0,0,1],[12,0]),([1,0,1],[0]),([0,1,0,1],[0]),([0,1,1],[2,0]),([1,1,1],[2,0])]
def E_63 (N:Nat) : Env := z1d tys glob [] [] [] [0] false [] [(76,za N)]
theorem z1qt (N:Nat) : EnvOk Tryd.prog (E_63 N) := zi mixed zn (FnsOk.nil) (ItsOk.cons (zb N) (ItsOk.nil))
def zaq (N:Nat) (p:DT5) (k0:Option (Int × (DT5 × Unit))) : Option (Int × (DT5 × Unit)) :=
 cond (p.2.1 == (((List.length p.1) : Nat) : Int))
 (none)
 (k0)
def z1o0 (N:Nat) (x:z13 SQ0) (K:Ex -> List A -> Option (Int × (DT5 × Unit))) : Option (Int × (DT5 × Unit)) :=
 zaq N x.1 (K .normal (mkS SQ0 27 (x.1,())))
def z1kl (N:Nat) : Hd (Int × (DT5 × Unit)) := fun st K=>(unS SQ0 27 (restr [0] 0 st)).bind fun x=>z1o0 N x K
def t1_63 (N:Nat) : Tab (Int × (DT5 × Unit)) := []
theorem z1gp {N:Nat} {c:Ctx} (hb:Base Tryd.prog (E_63 N) c) : zj Tryd.prog c (zh zvm [0,1]) (z1kl N) :=
  zl (s := SQ0) (m := 27) (g := z1o0 N) [0] (ze hb N (t1_63 N) L_63 zvm TabOk.nil [0,1] _ rfl) (fun x K=>by kernel_rfl)
def z1g (N:Nat) (p:DT5) : Option (Int × (DT5 × Unit)) :=
 zaq N p
 (cond (inR p.2.1 (List.length p.1))
 (some ((((UInt8.toNat (List.getD p.1 (Int.toNat p.2.1) (0 : UInt8))) : Nat) : Int),(p,())))
 (none))
def t_63 (N:Nat) : Tab (Int × (DT5 × Unit)) := [([0,1],z1kl N)]
theorem z18v (N:Nat) (x:z13 SQ0) : z4l (E_63 N) N (t_63 N) L_63 Tryd.f95 (mkS SQ0 0 x) (z35 (.v (.int .u8)) SQ0 0) = z1g N x.1 := by kernel_rfl
def z15 (N:Nat) : List A -> Res := zz SQ0 (fun x=>z1g N x.1) (z3p (.v (.int .u8)) SQ0 0)
theorem z1e (N:Nat) : Contract Tryd.prog glob 95 (z15 N) :=
  Contract.of (E := E_63 N) (H := t_63 N) (L := L_63) (N := N) (body := zvm) (K := (z35 (.v (.int .u8)) SQ0 0)) (z1qt N) Tryd.func95 (by kernel_rfl) (by decide) (fun _ hb=>(TabOk.cons (z1gp hb) TabOk.nil)) (fun x y h=>by rw [z18v]; exact h) (z2e (s := (.v (.int .u8))) (os := SQ0) (m := 0))
def zvl : Code := (Tryd.f89.body).getD .skip
def L_64 : List (List Nat × List Nat) := [([0,0],[7,0]),([1,0],[0]),([0,1,0],[0]),([1],[0])]
def E_64 (N:Nat) : Env := z1d tys glob [(95,z15 N)] [] [] [0] false [] [(76,za N)]
theorem z1qs (N:Nat) : EnvOk Tryd.prog (E_64 N) := zi mixed zn (FnsOk.cons (z1e N) (FnsOk.nil)) (ItsOk.cons (zb N) (ItsOk.nil))
def zar (N:Nat) (p:DT5) (b:Int) (k0:DT5 -> Option ((Unit) × (DT5 × Unit))) : Option ((Unit) × (DT5 × Unit)) :=
 (z1g N p).bind fun y =>
 cond (y.1 != b)
 (none)
 (k0 y.2.1)
def z1nz (N:Nat) (x:z13 zq3) (K:Ex -> List A -> Option ((Unit) × (DT5 × Unit))) : Option ((Unit) × (DT5 × Unit)) :=
 zar N x.1 x.2.1 (fun a0=>(K .normal (mkS SQ0 20 (a0,()))))
def z1kk (N:Nat) : Hd ((Unit) × (DT5 × Unit)) := fun st K=>(unS zq3 19 (restr [0,1] 0 st)).bind fun x=>z1nz N x K
def t1_64 (N:Nat) : Tab ((Unit) × (DT5 × Unit)) := []
theorem z1go {N:Nat} {c:Ctx} (hb:Base Tryd.prog (E_64 N) c) : zj Tryd.prog c (zh zvl [0]) (z1kk N) :=
  zl (s := zq3) (m := 19) (g := z1nz N) [0,1] (ze hb N (t1_64 N) L_64 zvl TabOk.nil [0] _ rfl) (fun x K=>by kernel_rfl)
def z1h (N:Nat) (p:DT5) (b:Int) : Option ((Unit) × (DT5 × Unit)) :=
 zar N p b
 (fun p1=>some ((),((p1.1,((IntKind.wrap IntKind.i64 (p1.2.1 + (1 : Int))),p1.2.2)),())))
def t_64 (N:Nat) : Tab ((Unit) × (DT5 × Unit)) := [([0],z1kk N)]
theorem z18u (N:Nat) (x:z13 zq3) : z4l (E_64 N) N (t_64 N) L_64 Tryd.f89 (mkS zq3 0 x) (z35 (.tup []) SQ0 1) = z1h N x.1 x.2.1 := by kernel_rfl
def z1k (N:Nat) : List A -> Res := zz zq3 (fun x=>z1h N x.1 x.2.1) (z3p (.tup []) SQ0 1)
theorem z1v (N:Nat) : Contract Tryd.prog glob 89 (z1k N) :=
  Contract.of (E := E_64 N) (H := t_64 N) (L := L_64) (N := N) (body := zvl) (K := (z35 (.tup []) SQ0 1)) (z1qs N) Tryd.func89 (by kernel_rfl) (by decide) (fun _ hb=>(TabOk.cons (z1go hb) TabOk.nil)) (fun x y h=>by rw [z18u]; exact h) (z2e (s := (.tup [])) (os := SQ0) (m := 1))
abbrev z7 : Type := DT5 -> Option (DT7 × (DT5 × Unit))
def zvk : Code := (Tryd.f83.body).getD .skip
def L_65 : List (List Nat × List Nat) := [([0],[0,2]),([0,0,1],[8,0,2]),([1,0,1],[0,2]),([0,1,0,1],[0,2]),([0,1,1],[0,2]),([0,1,1,1],[0,2]),([0,1,1,1,1],[0,3,2]),([0,1,1,1,1,1],[0,3,2]),(zyu,[3,2,0]),(zzg,[2,0]),(ztv,[2,0])]
def E_65 (N:Nat) (self:z7) : Env := z1d tys glob [(89,z1k N),(36,zz SQ0 (fun x=>self x.1) (z3p (.v TT4) SQ0 0))] [] [] [0] false [] [(76,za N)]
theorem z1qr (N:Nat) (self:z7) (hself:Contract Tryd.prog glob 36 (zz SQ0 (fun x=>self x.1) (z3p (.v TT4) SQ0 0))) : EnvOk Tryd.prog (E_65 N self) := zi mixed zn (FnsOk.cons (z1v N) (FnsOk.cons (hself) (FnsOk.nil))) (ItsOk.cons (zb N) (ItsOk.nil))
def za2 (N:Nat) (self:z7) (p:DT5) (x2:DT7) (k0:Option (DT7 × (DT5 × Unit))) : Option (DT7 × (DT5 × Unit)) :=
 cond (p.2.2.1 == (16 : Int))
 (none)
 (k0)
def z1ny (N:Nat) (self:z7) (x:z13 z15x) (K:Ex -> List A -> Option (DT7 × (DT5 × Unit))) : Option (DT7 × (DT5 × Unit)) :=
 za2 N self x.1 x.2.1 (K .normal (mkS z15x 33 (x.1,x.2.1,())))
def z1kj (N:Nat) (self:z7) : Hd (DT7 × (DT5 × Unit)) := fun st K=>(unS z15x 33 (restr [0,2] 0 st)).bind fun x=>z1ny N self x K
def t1_65 (N:Nat) (self:z7) : Tab (DT7 × (DT5 × Unit)) := []
theorem z1gn {N:Nat} {self:z7} {c:Ctx} (hb:Base Tryd.prog (E_65 N self) c) : zj Tryd.prog c (zh zvk [0,1]) (z1kj N self) :=
  zl (s := z15x) (m := 33) (g := z1ny N self) [0,2] (ze hb N (t1_65 N self) L_65 zvk TabOk.nil [0,1] _ rfl) (fun x K=>by kernel_rfl)
def z5i (N:Nat) (self:z7) (p:DT5) : Option (DT7 × (DT5 × Unit)) :=
 za2 N self p ((0 : Int),(([(0 : Int),(0 : Int),(0 : Int),(0 : Int)] : List Int),(([] : List Tree),((0 : Int),((0 : Int),())))))
 ((z1h N (p.1,(p.2.1,((IntKind.wrap IntKind.i64 (p.2.2.1 + (1 : Int))),p.2.2.2))) (40 : Int)).bind fun y =>
 (self y.2.1).bind fun y1 =>
 (z1h N y1.2.1 (41 : Int)).bind fun y2 =>
 some (y1.1,((y2.2.1.1,(y2.2.1.2.1,((IntKind.wrap IntKind.i64 (y2.2.1.2.2.1 - (1 : Int))),y2.2.1.2.2.2))),())))
def t_65 (N:Nat) (self:z7) : Tab (DT7 × (DT5 × Unit)) := [([0,1],z1kj N self)]
theorem z18t (N:Nat) (self:z7) (x:z13 SQ0) : z4l (E_65 N self) N (t_65 N self) L_65 Tryd.f83 (mkS SQ0 0 x) (z35 (.v TT4) SQ0 0) = z5i N self x.1 := by kernel_rfl
def z5b (N:Nat) (self:z7) : List A -> Res := zz SQ0 (fun x=>z5i N self x.1) (z3p (.v TT4) SQ0 0)
theorem za3 (N:Nat) (self:z7) (hself:Contract Tryd.prog glob 36 (zz SQ0 (fun x=>self x.1) (z3p (.v TT4) SQ0 0))) : Contract Tryd.prog glob 83 (z5b N self) :=
  Contract.of (E := E_65 N self) (H := t_65 N self) (L := L_65) (N := N) (body := zvk) (K := (z35 (.v TT4) SQ0 0)) (z1qr N self hself) Tryd.func83 (by kernel_rfl) (by decide) (fun _ hb=>(TabOk.cons (z1gn hb) TabOk.nil)) (fun x y h=>by rw [z18t]; exact h) (z2e (s := (.v TT4)) (os := SQ0) (m := 0))
def z1ac : Code := (Tryd.f63.body).getD .skip
def L_66 : List (List Nat × List Nat) := [([0],[1,2,4]),([0,1],[2,4]),([0,1,1],[4]),([1,1,1],[4])]
def E_66 (N:Nat) : Env := z1d tys glob [] [] [] [] false [] [(76,za N)]
theorem z1qq (N:Nat) : EnvOk Tryd.prog (E_66 N) := zi mixed zn (FnsOk.nil) (ItsOk.cons (zb N) (ItsOk.nil))
def zdd (N:Nat) (s:(List Int)) (b:Int) : Option (List Int) :=
 cond (inR (IntKind.wrap IntKind.u8 (Int.tdiv b (64 : Int))) 4)
 (cond (decide ((Int.toNat (IntKind.wrap IntKind.u8 (Int.tdiv b (64 : Int)))) < (List.length s)))
 (cond (decide ((0 : Int) <= (Int.tmod b (64 : Int))))
 (cond (inR (IntKind.wrap IntKind.u8 (Int.tdiv b (64 : Int))) 4)
 (cond (decide ((Int.toNat (IntKind.wrap IntKind.u8 (Int.tdiv b (64 : Int)))) < (List.length s)))
 (some (List.set s (Int.toNat (IntKind.wrap IntKind.u8 (Int.tdiv b (64 : Int)))) (zf Go.BinOp.or IntKind.u64 (List.getD s (Int.toNat (IntKind.wrap IntKind.u8 (Int.tdiv b (64 : Int)))) (0 : Int)) (z174 IntKind.u64 (1 : Int) (Int.tmod b (64 : Int))))))
 (none))
 (none))
 (none))
 (none))
 (none)
def t_66 (N:Nat) : Tab (List Int) := []
theorem z18s (N:Nat) (x:z13 z1c8) : z4l (E_66 N) N (t_66 N) L_66 Tryd.f63 (mkS z1c8 0 x) (z2v (.v (.arr 4 (.int .u64))) 2) = zdd N x.1 x.2.1 := by kernel_rfl
def zae (N:Nat) : List A -> Res := zz z1c8 (fun x=>zdd N x.1 x.2.1) (z70 (.v (.arr 4 (.int .u64))) 2)
theorem zhl (N:Nat) : Contract Tryd.prog glob 63 (zae N) :=
  Contract.of (E := E_66 N) (H := t_66 N) (L := L_66) (N := N) (body := z1ac) (K := (z2v (.v (.arr 4 (.int .u64))) 2)) (z1qq N) Tryd.func63 (by kernel_rfl) (by decide) (fun _ hb=>TabOk.nil) (fun x y h=>by rw [z18s]; exact h) (z16 (s := (.v (.arr 4 (.int .u64)))) (m := 2))
def zvj : Code := (Tryd.f41.body).getD .skip
def L_67 : List (List Nat × List Nat) := [([0],[0,1,4]),([0,1],[0,1,5,4]),([0,0,1,1],[6,1,5,4]),([0,1,0,1,1],[6,1,5,4]),(z1bh,[12,5,6,1,4]),(z1bg,[5,6,1,4]),(PQ91,[5,4]),([0,0,1,0,0,1,0,1,1],[6,1,5,4]),(zts,[6,1,5,4]),(z1bf,[6,1,5,4]),([1,0,1,1],[5,4]),([0,1,1,1],[4]),([1,1,1,1],[4])]
def E_67 (N:Nat) : Env := z1d tys glob [(63,zae N)] [] [] [] false [] [(76,za N)]
theorem z1qp (N:Nat) : EnvOk Tryd.prog (E_67 N) := zi mixed zn (FnsOk.cons (zhl N) (FnsOk.nil)) (ItsOk.cons (zb N) (ItsOk.nil))
def zkw (N:Nat) (hi:Int) (x4:(List Int)) (s:(List Int)) (b:Int) (rec:(List Int) -> Int -> Option (List Int)) (k0:(List Int) -> Option (List Int)) : Option (List Int) :=
 cond (decide (b <= (IntKind.wrap IntKind.i64 hi)))
 ((zdd N s (IntKind.wrap IntKind.u8 b)).bind fun y =>
 rec y (IntKind.wrap IntKind.i64 (b + (1 : Int))))
 (k0 s)
def zry (N:Nat) (hi:Int) (x4:(List Int)) (s:(List Int)) (b:Int) (k0:(List Int) -> Option (List Int)) : Option (List Int) :=
 iter (fun (v:((List Int) × Int)) r=>zkw N hi x4 v.1 v.2 (fun s b=>(r (s,b))) k0) N (s,b)
def z1nx (N:Nat) (i:(Int × (List Int))) (v:((List Int) × Int)) (r:((List Int) × Int) -> Option (List Int)) (K:Ex -> List A -> Option (List Int)) : Option (List Int) :=
 zkw N i.1 i.2 v.1 v.2 (fun s b=>(r (s,b))) (fun a1=>(K (.exit 0) (mkS [(4,.box (.arr 4 (.int .u64))),(0,.box (.arr 4 (.int .u64)))] 14 (i.2,a1,()))))
def z1ki (N:Nat) : Hd (List Int) := fun st K=>(unS z1pc 13 (restr [6,1,5,4] 0 st)).bind fun x=>iter (fun v r=>z1nx N ((fun x=>(x.1,x.2.1)) x) v r K) N ((fun x=>(x.2.2.1,x.2.2.2.1)) x)
def t1_67 (N:Nat) : Tab (List Int) := []
theorem z1gm {N:Nat} {c:Ctx} (hb:Base Tryd.prog (E_67 N) c) : zj Tryd.prog c (zh zvj [0,1,0,1,1]) (z1ki N) :=
  z18 (s := z1pc) (m := 13) (z1nx N) [6,1,5,4] N (fun x=>(x.1,x.2.1)) (fun x=>(x.2.2.1,x.2.2.2.1)) (fun i v=>(i.1,i.2,v.1,v.2,())) (fun _=>rfl) (ze hb N (t1_67 N) L_67 zvj TabOk.nil [0,0,1,0,1,1] _ rfl) (fun i v r K=>by kernel_rfl)
def z2d (N:Nat) (lo:Int) (hi:Int) : Option (List Int) :=
 zry N hi ([(0 : Int),(0 : Int),(0 : Int),(0 : Int)] : List Int) ([(0 : Int),(0 : Int),(0 : Int),(0 : Int)] : List Int) (IntKind.wrap IntKind.i64 lo)
 (fun s=>some s)
def t_67 (N:Nat) : Tab (List Int) := [([0,1,0,1,1],z1ki N)]
theorem z18r (N:Nat) (x:z13 [(0,.v (.int .u8)),(0,.v (.int .u8))]) : z4l (E_67 N) N (t_67 N) L_67 Tryd.f41 (mkS [(0,.v (.int .u8)),(0,.v (.int .u8))] 0 x) (z2v (.v (.arr 4 (.int .u64))) 2) = z2d N x.1 x.2.1 := by kernel_rfl
def z2t (N:Nat) : List A -> Res := zz [(0,.v (.int .u8)),(0,.v (.int .u8))] (fun x=>z2d N x.1 x.2.1) (z70 (.v (.arr 4 (.int .u64))) 2)
theorem z3b (N:Nat) : Contract Tryd.prog glob 41 (z2t N) :=
  Contract.of (E := E_67 N) (H := t_67 N) (L := L_67) (N := N) (body := zvj) (K := (z2v (.v (.arr 4 (.int .u64))) 2)) (z1qp N) Tryd.func41 (by kernel_rfl) (by decide) (fun _ hb=>(TabOk.cons (z1gm hb) TabOk.nil)) (fun x y h=>by rw [z18r]; exact h) (z16 (s := (.v (.arr 4 (.int .u64)))) (m := 2))
def z1ab : Code := (Tryd.f84.body).getD .skip
def L_68 : List (List Nat × List Nat) := [([0],[1,2]),([0,1],[2]),([1,1],[2])]
def E_68 (N:Nat) : Env := z1d tys glob [] [] [] [] false [] [(76,za N)]
theorem z1qo (N:Nat) : EnvOk Tryd.prog (E_68 N) := zi mixed zn (FnsOk.nil) (ItsOk.cons (zb N) (ItsOk.nil))
def zsi (N:Nat) (s:(List Int)) : Option DT7 :=
 some ((1 : Int),(s,(([] : List Tree),((0 : Int),((0 : Int),())))))
def t_68 (N:Nat) : Tab DT7 := []
theorem z18q (N:Nat) (x:z13 zw2) : z4l (E_68 N) N (t_68 N) L_68 Tryd.f84 (mkS zw2 0 x) (z2v (.v TT4) 1) = zsi N x.1 := by kernel_rfl
def zf1 (N:Nat) : List A -> Res := zz zw2 (fun x=>zsi N x.1) (z70 (.v TT4) 1)
theorem zmb (N:Nat) : Contract Tryd.prog glob 84 (zf1 N) :=
  Contract.of (E := E_68 N) (H := t_68 N) (L := L_68) (N := N) (body := z1ab) (K := (z2v (.v TT4) 1)) (z1qo N) Tryd.func84 (by kernel_rfl) (by decide) (fun _ hb=>TabOk.nil) (fun x y h=>by rw [z18q]; exact h) (z16 (s := (.v TT4)) (m := 1))
def zp9 : Code := (Tryd.f55.body).getD .skip
def L_69 : List (List Nat × List Nat) := [([0],[0,1]),([0,0,1],[27,0]),([1,0,1],[0]),([0,0,1,0,1],[4,0]),([1,0,1,0,1],[4,0]),([0,1,1],[0]),([0,1,1,1],[4,0]),([1,1,1,1],[4,0])]
def z1s2 (N:Nat) : Env := z1d tys glob [] [] [] [0] false [] [(76,za N)]
theorem z1qn (N:Nat) : EnvOk Tryd.prog (z1s2 N) := zi mixed zn (FnsOk.nil) (ItsOk.cons (zb N) (ItsOk.nil))
def zal (N:Nat) (p:DT5) (b:Int) (k0:Bool -> Option (Bool × (DT5 × Unit))) : Option (Bool × (DT5 × Unit)) :=
 cond (p.2.1 == (((List.length p.1) : Nat) : Int))
 (k0 true)
 (cond (inR p.2.1 (List.length p.1))
 (k0 ((((UInt8.toNat (List.getD p.1 (Int.toNat p.2.1) (0 : UInt8))) : Nat) : Int) != b))
 (none))
def z1mn (N:Nat) (x:z13 zq3) (K:Ex -> List A -> Option (Bool × (DT5 × Unit))) : Option (Bool × (DT5 × Unit)) :=
 zal N x.1 x.2.1 (fun a1=>(K .normal (mkS [(0,.box (.pair .str TT1)),(26,.v .bool)] 7 (x.1,a1,()))))
def z1j8 (N:Nat) : Hd (Bool × (DT5 × Unit)) := fun st K=>(unS zq3 33 (restr [0,1] 0 st)).bind fun x=>z1mn N x K
def t2_69 (N:Nat) : Tab (Bool × (DT5 × Unit)) := []
theorem z1fc {N:Nat} {c:Ctx} (hb:Base Tryd.prog (z1s2 N) c) : zj Tryd.prog c (zh zp9 [0,0,1]) (z1j8 N) :=
  zl (s := zq3) (m := 33) (g := z1mn N) [0,1] (ze hb N (t2_69 N) L_69 zp9 TabOk.nil [0,0,1] _ rfl) (fun x K=>by kernel_rfl)
def zam (N:Nat) (p:DT5) (b:Int) (k0:Bool -> Option (Bool × (DT5 × Unit))) (k1:Option (Bool × (DT5 × Unit))) : Option (Bool × (DT5 × Unit)) :=
 zal N p b
 (fun x27=>cond x27
 (k0 false)
 (k1))
def z1nw (N:Nat) (x:z13 zq3) (K:Ex -> List A -> Option (Bool × (DT5 × Unit))) : Option (Bool × (DT5 × Unit)) :=
 zam N x.1 x.2.1 (fun a1=>(K .ret (mkS [(0,.box (.pair .str TT1)),(3,.v .bool)] 30 (x.1,a1,())))) (K .normal (mkS SQ0 34 (x.1,())))
def z1kh (N:Nat) : Hd (Bool × (DT5 × Unit)) := fun st K=>(unS zq3 33 (restr [0,1] 0 st)).bind fun x=>z1nw N x K
def t1_69 (N:Nat) : Tab (Bool × (DT5 × Unit)) := [([0,0,1],z1j8 N)]
theorem z1gl {N:Nat} {c:Ctx} (hb:Base Tryd.prog (z1s2 N) c) : zj Tryd.prog c (zh zp9 [0,1]) (z1kh N) :=
  zl (s := zq3) (m := 33) (g := z1nw N) [0,1] (ze hb N (t1_69 N) L_69 zp9 (TabOk.cons (z1fc hb) TabOk.nil) [0,1] _ rfl) (fun x K=>by kernel_rfl)
def z17 (N:Nat) (p:DT5) (b:Int) : Option (Bool × (DT5 × Unit)) :=
 zam N p b
 (fun x4=>some (x4,(p,())))
 (some (true,((p.1,((IntKind.wrap IntKind.i64 (p.2.1 + (1 : Int))),p.2.2)),())))
def t_69 (N:Nat) : Tab (Bool × (DT5 × Unit)) := [([0,1],z1kh N)]
theorem z18p (N:Nat) (x:z13 zq3) : z4l (z1s2 N) N (t_69 N) L_69 Tryd.f55 (mkS zq3 0 x) (z35 (.v .bool) SQ0 1) = z17 N x.1 x.2.1 := by kernel_rfl
def z1j (N:Nat) : List A -> Res := zz zq3 (fun x=>z17 N x.1 x.2.1) (z3p (.v .bool) SQ0 1)
theorem z1u (N:Nat) : Contract Tryd.prog glob 55 (z1j N) :=
  Contract.of (E := z1s2 N) (H := t_69 N) (L := L_69) (N := N) (body := zp9) (K := (z35 (.v .bool) SQ0 1)) (z1qn N) Tryd.func55 (by kernel_rfl) (by decide) (fun _ hb=>(TabOk.cons (z1gl hb) TabOk.nil)) (fun x y h=>by rw [z18p]; exact h) (z2e (s := (.v .bool)) (os := SQ0) (m := 1))
def zvi : Code := (Tryd.f96.body).getD .skip
def L_70 : List (List Nat × List Nat) := [([0],[0,2]),([0,1],[0,3,2]),([0,0,1,1],[7,6,3,0,2]),([0,1,0,1,1],[7,6,3,0,2]),(zxn,[8,7,3,0,6,2]),(zts,[7,3,0,6,2]),(z123,[3,2]),(z124,[3,0,4,7,6,2]),(zz5,[7,6,3,0,2]),(z122,[7,6,3,0,2]),(z121,[7,6,3,0,2]),([1,0,1,1],[3,2]),([0,1,1,1],[2]),([1,1,1,1],[2])]
def E_70 (N:Nat) : Env := z1d tys glob [(63,zae N)] [] [] [] false [] [(76,za N)]
theorem z1qm (N:Nat) : EnvOk Tryd.prog (E_70 N) := zi mixed zn (FnsOk.cons (zhl N) (FnsOk.nil)) (ItsOk.cons (zb N) (ItsOk.nil))
def zg9 (N:Nat) (s:(List UInt8)) (x2:(List Int)) (x6:Int) (set_:(List Int)) (x7:Int) (rec:(List Int) -> Int -> Option (List Int)) (k0:(List Int) -> Option (List Int)) : Option (List Int) :=
 cond (decide (x7 < x6))
 (cond (inR x7 (List.length s))
 ((zdd N set_ (((UInt8.toNat (List.getD s (Int.toNat x7) (0 : UInt8))) : Nat) : Int)).bind fun y =>
 rec y (IntKind.wrap IntKind.i64 (x7 + (1 : Int))))
 (none))
 (k0 set_)
def zn4 (N:Nat) (s:(List UInt8)) (x2:(List Int)) (set_:(List Int)) (x6:Int) (x7:Int) (k0:(List Int) -> Option (List Int)) : Option (List Int) :=
 iter (fun (v:((List Int) × Int)) r=>zg9 N s x2 x6 v.1 v.2 (fun set_ x7=>(r (set_,x7))) k0) N (set_,x7)
def z1nv (N:Nat) (i:((List UInt8) × (List Int) × Int)) (v:((List Int) × Int)) (r:((List Int) × Int) -> Option (List Int)) (K:Ex -> List A -> Option (List Int)) : Option (List Int) :=
 zg9 N i.1 i.2.1 i.2.2 v.1 v.2 (fun set_ x7=>(r (set_,x7))) (fun a1=>(K (.exit 0) (mkS [(2,.box (.arr 4 (.int .u64))),(0,.box (.arr 4 (.int .u64)))] 13 (i.2.1,a1,()))))
def z1kg (N:Nat) : Hd (List Int) := fun st K=>(unS SQ92 9 (restr [7,6,3,0,2] 0 st)).bind fun x=>iter (fun v r=>z1nv N ((fun x=>(x.1,x.2.1,x.2.2.2.1)) x) v r K) N ((fun x=>(x.2.2.1,x.2.2.2.2.1)) x)
def t1_70 (N:Nat) : Tab (List Int) := []
theorem z1gk {N:Nat} {c:Ctx} (hb:Base Tryd.prog (E_70 N) c) : zj Tryd.prog c (zh zvi [0,1,0,1,1]) (z1kg N) :=
  z18 (s := SQ92) (m := 9) (z1nv N) [7,6,3,0,2] N (fun x=>(x.1,x.2.1,x.2.2.2.1)) (fun x=>(x.2.2.1,x.2.2.2.2.1)) (fun i v=>(i.1,i.2.1,v.1,i.2.2,v.2,())) (fun _=>rfl) (ze hb N (t1_70 N) L_70 zvi TabOk.nil [0,0,1,0,1,1] _ rfl) (fun i v r K=>by kernel_rfl)
def zbk (N:Nat) (s:(List UInt8)) : Option (List Int) :=
 zn4 N s ([(0 : Int),(0 : Int),(0 : Int),(0 : Int)] : List Int) ([(0 : Int),(0 : Int),(0 : Int),(0 : Int)] : List Int) (((List.length s) : Nat) : Int) (0 : Int)
 (fun set_=>some set_)
def t_70 (N:Nat) : Tab (List Int) := [([0,1,0,1,1],z1kg N)]
theorem z18o (N:Nat) (x:z13 [(0,.v .str)]) : z4l (E_70 N) N (t_70 N) L_70 Tryd.f96 (mkS [(0,.v .str)] 0 x) (z2v (.v (.arr 4 (.int .u64))) 1) = zbk N x.1 := by kernel_rfl
def z9k (N:Nat) : List A -> Res := zz [(0,.v .str)] (fun x=>zbk N x.1) (z70 (.v (.arr 4 (.int .u64))) 1)
theorem zga (N:Nat) : Contract Tryd.prog glob 96 (z9k N) :=
  Contract.of (E := E_70 N) (H := t_70 N) (L := L_70) (N := N) (body := zvi) (K := (z2v (.v (.arr 4 (.int .u64))) 1)) (z1qm N) Tryd.func96 (by kernel_rfl) (by decide) (fun _ hb=>(TabOk.cons (z1gk hb) TabOk.nil)) (fun x y h=>by rw [z18o]; exact h) (z16 (s := (.v (.arr 4 (.int .u64)))) (m := 1))
def z1aa : Code := (Tryd.f99.body).getD .skip
def L_71 : List (List Nat × List Nat) := [([0],[0]),([0,1],[2]),([1,1],[2])]
def E_71 (N:Nat) : Env := z1d tys glob [] [] [] [] false [] [(76,za N)]
theorem z1ql (N:Nat) : EnvOk Tryd.prog (E_71 N) := zi mixed zn (FnsOk.nil) (ItsOk.cons (zb N) (ItsOk.nil))
def z5y (N:Nat) (b:Int) : Option Bool :=
 cond (decide ((48 : Int) <= b))
 (some (decide (b <= (57 : Int))))
 (some false)
def t_71 (N:Nat) : Tab Bool := []
theorem z18n (N:Nat) (x:z13 [(0,.v (.int .u8))]) : z4l (E_71 N) N (t_71 N) L_71 Tryd.f99 (mkS [(0,.v (.int .u8))] 0 x) (z2v (.v .bool) 1) = z5y N x.1 := by kernel_rfl
def z5x (N:Nat) : List A -> Res := zz [(0,.v (.int .u8))] (fun x=>z5y N x.1) (z70 (.v .bool) 1)
theorem z9p (N:Nat) : Contract Tryd.prog glob 99 (z5x N) :=
  Contract.of (E := E_71 N) (H := t_71 N) (L := L_71) (N := N) (body := z1aa) (K := (z2v (.v .bool) 1)) (z1ql N) Tryd.func99 (by kernel_rfl) (by decide) (fun _ hb=>TabOk.nil) (fun x y h=>by rw [z18n]; exact h) (z16 (s := (.v .bool)) (m := 1))
def zp8 : Code := (Tryd.f97.body).getD .skip
def L_72 : List (List Nat × List Nat) := [([0],[0,1]),([0,1],[0,5,1]),([0,1,1],[5,0,1]),([0,0,1,1,1],[16,5,0,1]),([1,0,1,1,1],[5,0,1]),(ztr,[4,0]),(ztt,[4,0]),([0,0,1,1,1,1],[24,0,1,5]),([1,0,1,1,1,1],[5,0]),(zyt,[5,0]),([0,1,1,1,1,1],[4,0]),([1,1,1,1,1,1],[4,0])]
def z1s1 (N:Nat) : Env := z1d tys glob [(99,z5x N),(95,z15 N)] [] [] [0] false [] [(76,za N)]
theorem z1qk (N:Nat) : EnvOk Tryd.prog (z1s1 N) := zi mixed zn (FnsOk.cons (z9p N) (FnsOk.cons (z1e N) (FnsOk.nil))) (ItsOk.cons (zb N) (ItsOk.nil))
def zc2 (N:Nat) (p:DT5) (from_:Int) (b:Int) (k0:Bool -> Option (Int × (DT5 × Unit))) : Option (Int × (DT5 × Unit)) :=
 cond (decide (b < (97 : Int)))
 (k0 true)
 (k0 (decide ((102 : Int) < b)))
def z1mm (N:Nat) (x:z13 zze) (K:Ex -> List A -> Option (Int × (DT5 × Unit))) : Option (Int × (DT5 × Unit)) :=
 zc2 N x.1 x.2.1 x.2.2.1 (fun a3=>(K .normal (mkS [(0,.box (.pair .str TT1)),(0,.v (.int .i64)),(3,.v (.int .u8)),(18,.v .bool)] 6 (x.1,x.2.1,x.2.2.1,a3,()))))
def z1j7 (N:Nat) : Hd (Int × (DT5 × Unit)) := fun st K=>(unS zze 25 (restr [5,0,1] 0 st)).bind fun x=>z1mm N x K
def t2_72 (N:Nat) : Tab (Int × (DT5 × Unit)) := []
theorem z1fb {N:Nat} {c:Ctx} (hb:Base Tryd.prog (z1s1 N) c) : zj Tryd.prog c (zh zp8 [0,0,1,1,1,1]) (z1j7 N) :=
  zl (s := zze) (m := 25) (g := z1mm N) [5,0,1] (ze hb N (t2_72 N) L_72 zp8 TabOk.nil [0,0,1,1,1,1] _ rfl) (fun x K=>by kernel_rfl)
def zc3 (N:Nat) (p:DT5) (from_:Int) (b:Int) (k0:Option (Int × (DT5 × Unit))) : Option (Int × (DT5 × Unit)) :=
 zc2 N p from_ b
 (fun x24=>cond x24
 (none)
 (k0))
def z1nu (N:Nat) (x:z13 zze) (K:Ex -> List A -> Option (Int × (DT5 × Unit))) : Option (Int × (DT5 × Unit)) :=
 zc3 N x.1 x.2.1 x.2.2.1 (K .normal (mkS [(0,.box (.pair .str TT1)),(4,.v (.int .u8))] 25 (x.1,x.2.2.1,())))
def z1kf (N:Nat) : Hd (Int × (DT5 × Unit)) := fun st K=>(unS zze 25 (restr [5,0,1] 0 st)).bind fun x=>z1nu N x K
def t1_72 (N:Nat) : Tab (Int × (DT5 × Unit)) := [([0,0,1,1,1,1],z1j7 N)]
theorem z1gj {N:Nat} {c:Ctx} (hb:Base Tryd.prog (z1s1 N) c) : zj Tryd.prog c (zh zp8 [0,1,1,1,1]) (z1kf N) :=
  zl (s := zze) (m := 25) (g := z1nu N) [5,0,1] (ze hb N (t1_72 N) L_72 zp8 (TabOk.cons (z1fb hb) TabOk.nil) [0,1,1,1,1] _ rfl) (fun x K=>by kernel_rfl)
def z3r (N:Nat) (p:DT5) (from_:Int) : Option (Int × (DT5 × Unit)) :=
 (z1g N p).bind fun y =>
 (z5y N y.1).bind fun y1 =>
 cond y1
 (some ((IntKind.wrap IntKind.u8 (y.1 - (48 : Int))),((y.2.1.1,((IntKind.wrap IntKind.i64 (y.2.1.2.1 + (1 : Int))),y.2.1.2.2)),())))
 (zc3 N (y.2.1.1,((IntKind.wrap IntKind.i64 (y.2.1.2.1 + (1 : Int))),y.2.1.2.2)) from_ y.1
 (some ((IntKind.wrap IntKind.u8 ((IntKind.wrap IntKind.u8 (y.1 - (97 : Int))) + (10 : Int))),((y.2.1.1,((IntKind.wrap IntKind.i64 (y.2.1.2.1 + (1 : Int))),y.2.1.2.2)),()))))
def t_72 (N:Nat) : Tab (Int × (DT5 × Unit)) := [([0,1,1,1,1],z1kf N)]
theorem z18m (N:Nat) (x:z13 z1c7) : z4l (z1s1 N) N (t_72 N) L_72 Tryd.f97 (mkS z1c7 0 x) (z35 (.v (.int .u8)) SQ0 1) = z3r N x.1 x.2.1 := by kernel_rfl
def z6l (N:Nat) : List A -> Res := zz z1c7 (fun x=>z3r N x.1 x.2.1) (z3p (.v (.int .u8)) SQ0 1)
theorem zc4 (N:Nat) : Contract Tryd.prog glob 97 (z6l N) :=
  Contract.of (E := z1s1 N) (H := t_72 N) (L := L_72) (N := N) (body := zp8) (K := (z35 (.v (.int .u8)) SQ0 1)) (z1qk N) Tryd.func97 (by kernel_rfl) (by decide) (fun _ hb=>(TabOk.cons (z1gj hb) TabOk.nil)) (fun x y h=>by rw [z18m]; exact h) (z2e (s := (.v (.int .u8))) (os := SQ0) (m := 1))
def z1a9 : Code := (Tryd.f87.body).getD .skip
def L_73 : List (List Nat × List Nat) := [([0],[0,1]),([0,1],[4]),([1,1],[4])]
def E_73 (N:Nat) : Env := z1d tys glob [(98,z114)] [] [] [] false [] [(76,za N)]
theorem z1qj (N:Nat) : EnvOk Tryd.prog (E_73 N) := zi mixed zn (FnsOk.cons (z1hw glob) (FnsOk.nil)) (ItsOk.cons (zb N) (ItsOk.nil))
def zdp (N:Nat) (s:(List UInt8)) (c:Int) : Option Int :=
 some (Go.Lib.indexByte s (Nat.toUInt8 (Int.toNat c)))
def t_73 (N:Nat) : Tab Int := []
theorem z18l (N:Nat) (x:z13 [(0,.v .str),(0,.v (.int .u8))]) : z4l (E_73 N) N (t_73 N) L_73 Tryd.f87 (mkS [(0,.v .str),(0,.v (.int .u8))] 0 x) (z2v (.v (.int .i64)) 2) = zdp N x.1 x.2.1 := by kernel_rfl
def z2w (N:Nat) : List A -> Res := zz [(0,.v .str),(0,.v (.int .u8))] (fun x=>zdp N x.1 x.2.1) (z70 (.v (.int .i64)) 2)
theorem z47 (N:Nat) : Contract Tryd.prog glob 87 (z2w N) :=
  Contract.of (E := E_73 N) (H := t_73 N) (L := L_73) (N := N) (body := z1a9) (K := (z2v (.v (.int .i64)) 2)) (z1qj N) Tryd.func87 (by kernel_rfl) (by decide) (fun _ hb=>TabOk.nil) (fun x y h=>by rw [z18l]; exact h) (z16 (s := (.v (.int .i64))) (m := 2))
def zvh : Code := (Tryd.f86.body).getD .skip
def L_74 : List (List Nat × List Nat) := [([0],[0,2]),([0,1],[0,2,4]),([0,1,1],[0,2,4]),([0,1,1,1],[0,5,2,4]),([0,1,1,1,1],[5,2,0,4]),([0,0,0,1,1,1,1,1],[22,2,0,5,4]),([1,0,0,1,1,1,1,1],[5,2,0]),([0,1,1,0,0,1,1,1,1,1],[26,2,0,5,4]),([1,1,1,0,0,1,1,1,1,1],[5,2,0]),([0,1,1,1,1,0,0,1,1,1,1,1],[30,0,4,2,5]),([1,1,1,1,1,0,0,1,1,1,1,1],[5,2,0]),([0,1,1,1,1,1,1,0,0,1,1,1,1,1],[42,0,4,5,2]),([1,1,1,1,1,1,1,0,0,1,1,1,1,1],[5,2,0]),([0,1,1,1,1,1,1,1,0,0,1,1,1,1,1],[5,2,0]),([0,0,1,1,1,1,1,0,0,1,1,1,1,1],[6,0,4,2]),([1,0,1,1,1,1,1,0,0,1,1,1,1,1],[5,2,0]),([0,0,1,1,1,0,0,1,1,1,1,1],[2,3,0]),([1,0,1,1,1,0,0,1,1,1,1,1],[2,3,0]),([0,0,1,0,0,1,1,1,1,1],[2,3,0]),([1,0,1,0,0,1,1,1,1,1],[2,3,0]),([0,1,1,1,1,1],[5,2,0]),(zyu,[2,3,0]),(zwa,[2,3,0])]
def E_74 (N:Nat) : Env := z1d tys glob [(87,z2w N),(97,z6l N),(96,z9k N),(41,z2t N),(89,z1k N),(95,z15 N)] [] [] [0] false [] [(76,za N)]
theorem z1qi (N:Nat) : EnvOk Tryd.prog (E_74 N) := zi mixed zn (FnsOk.cons (z47 N) (FnsOk.cons (zc4 N) (FnsOk.cons (zga N) (FnsOk.cons (z3b N) (FnsOk.cons (z1v N) (FnsOk.cons (z1e N) (FnsOk.nil))))))) (ItsOk.cons (zb N) (ItsOk.nil))
def z92 (N:Nat) (p:DT5) (set_:(List Int)) (from_:Int) (b:Int) (k0:(List Int) -> Bool -> Option znl) (k1:DT5 -> Int -> Option znl) : Option znl :=
 cond (b == (100 : Int))
 ((z2d N (48 : Int) (57 : Int)).bind fun y =>
 k0 y true)
 (cond (b == (119 : Int))
 ((zbk N ((48 : UInt8) :: (49 : UInt8) :: (50 : UInt8) :: (51 : UInt8) :: (52 : UInt8) :: (53 : UInt8) :: (54 : UInt8) :: (55 : UInt8) :: (56 : UInt8) :: (57 : UInt8) :: (65 : UInt8) :: (66 : UInt8) :: (67 : UInt8) :: (68 : UInt8) :: (69 : UInt8) :: (70 : UInt8) :: (71 : UInt8) :: (72 : UInt8) :: (73 : UInt8) :: (74 : UInt8) :: (75 : UInt8) :: (76 : UInt8) :: (77 : UInt8) :: (78 : UInt8) :: (79 : UInt8) :: (80 : UInt8) :: (81 : UInt8) :: (82 : UInt8) :: (83 : UInt8) :: (84 : UInt8) :: (85 : UInt8) :: (86 : UInt8) :: (87 : UInt8) :: (88 : UInt8) :: (89 : UInt8) :: (90 : UInt8) :: (95 : UInt8) :: (97 : UInt8) :: (98 : UInt8) :: (99 : UInt8) :: (100 : UInt8) :: (101 : UInt8) :: (102 : UInt8) :: (103 : UInt8) :: (104 : UInt8) :: (105 : UInt8) :: (106 : UInt8) :: (107 : UInt8) :: (108 : UInt8) :: (109 : UInt8) :: (110 : UInt8) :: (111 : UInt8) :: (112 : UInt8) :: (113 : UInt8) :: (114 : UInt8) :: (115 : UInt8) :: (116 : UInt8) :: (117 : UInt8) :: (118 : UInt8) :: (119 : UInt8) :: (120 : UInt8) :: (121 : UInt8) :: (122 : UInt8) :: ([] : List UInt8))).bind fun y1 =>
 k0 y1 true)
 (cond (b == (120 : Int))
 ((z3r N p from_).bind fun y2 =>
 (z3r N y2.2.1 from_).bind fun y3 =>
 k1 y3.2.1 (zf Go.BinOp.or IntKind.u8 (z174 IntKind.u8 y2.1 (4 : Int)) y3.1))
 (cond (decide ((Go.Lib.indexByte ([(92 : UInt8),(46 : UInt8),(91 : UInt8),(93 : UInt8),(40 : UInt8),(41 : UInt8),(123 : UInt8),(125 : UInt8),(124 : UInt8),(42 : UInt8),(43 : UInt8),(63 : UInt8),(45 : UInt8),(94 : UInt8)] : List UInt8) (Nat.toUInt8 (Int.toNat b))) < (0 : Int)))
 (none)
 (k1 p b))))
def z1nt (N:Nat) (x:z13 z1cd) (K:Ex -> List A -> Option znl) : Option znl :=
 z92 N x.1 x.2.1 x.2.2.1 x.2.2.2.1 (fun a1 a2=>(K .ret (mkS SQ66 48 (x.1,a1,a2,())))) (fun a0 a2=>(K .normal (mkS [(0,.box (.pair .str TT1)),(1,.box (.arr 4 (.int .u64))),(2,.v (.int .u8))] 46 (a0,x.2.1,a2,()))))
def z1ke (N:Nat) : Hd znl := fun st K=>(unS z1cd 46 (restr [5,2,0,4] 0 st)).bind fun x=>z1nt N x K
def t1_74 (N:Nat) : Tab znl := []
theorem z1gi {N:Nat} {c:Ctx} (hb:Base Tryd.prog (E_74 N) c) : zj Tryd.prog c (zh zvh [0,1,1,1,1,1]) (z1ke N) :=
  zl (s := z1cd) (m := 46) (g := z1nt N) [5,2,0,4] (ze hb N (t1_74 N) L_74 zvh TabOk.nil [0,1,1,1,1,1] _ rfl) (fun x K=>by kernel_rfl)
def z2o (N:Nat) (p:DT5) : Option znl :=
 (z1h N p (92 : Int)).bind fun y =>
 (z1g N y.2.1).bind fun y1 =>
 z92 N (y1.2.1.1,((IntKind.wrap IntKind.i64 (y1.2.1.2.1 + (1 : Int))),y1.2.1.2.2)) ([(0 : Int),(0 : Int),(0 : Int),(0 : Int)] : List Int) p.2.1 y1.1
 (fun set_ class_=>some ((set_,(class_,())),((y1.2.1.1,((IntKind.wrap IntKind.i64 (y1.2.1.2.1 + (1 : Int))),y1.2.1.2.2)),())))
 (fun p1 b=>(z2d N b b).bind fun y2 =>
 some ((y2,(false,())),(p1,())))
def t_74 (N:Nat) : Tab znl := [([0,1,1,1,1,1],z1ke N)]
theorem z18k (N:Nat) (x:z13 SQ0) : z4l (E_74 N) N (t_74 N) L_74 Tryd.f86 (mkS SQ0 0 x) (z35 (.tup [(.arr 4 (.int .u64)),.bool]) SQ0 0) = z2o N x.1 := by kernel_rfl
def z2i (N:Nat) : List A -> Res := zz SQ0 (fun x=>z2o N x.1) (z3p (.tup [(.arr 4 (.int .u64)),.bool]) SQ0 0)
theorem z3n (N:Nat) : Contract Tryd.prog glob 86 (z2i N) :=
  Contract.of (E := E_74 N) (H := t_74 N) (L := L_74) (N := N) (body := zvh) (K := (z35 (.tup [(.arr 4 (.int .u64)),.bool]) SQ0 0)) (z1qi N) Tryd.func86 (by kernel_rfl) (by decide) (fun _ hb=>(TabOk.cons (z1gi hb) TabOk.nil)) (fun x y h=>by rw [z18k]; exact h) (z2e (s := (.tup [(.arr 4 (.int .u64)),.bool])) (os := SQ0) (m := 0))
def zp7 : Code := (Tryd.f100.body).getD .skip
def L_75 : List (List Nat × List Nat) := [([0],[0,2]),([0,1],[4,0,2]),([0,0,1,1],[7,0,2,4]),([0,0,1,0,1,1],[8,0,2,7,4]),([1,0,1,0,1,1],[0,4,2]),([0,0,1,1,0,1,0,1,1],[14,0,4,2,7]),([1,0,1,1,0,1,0,1,1],[14,0,4,2]),([0,1,1,0,1,1,0,1,0,1,1],[14,0,4,2,7]),([1,1,1,0,1,1,0,1,0,1,1],[14,0,4,2]),([0,1,1,1,1,0,1,1,0,1,0,1,1],[14,0,4,2,7]),([1,1,1,1,1,0,1,1,0,1,0,1,1],[14,0,4,2]),([1,1,1,1,1,1,0,1,1,0,1,0,1,1],[14,0,4,2]),([1,1,1,0,1,0,1,1],[0,4,2]),([0,1,1,1,0,1,0,1,1],[0,4,2]),([0,0,1,0,1,0,1,1],[2,3,0]),([1,0,1,0,1,0,1,1],[2,3,0]),([1,0,1,1],[0,4,2]),([0,1,1,1],[4,2,0]),([0,1,1,1,1],[2,3,0]),([1,1,1,1,1],[2,3,0])]
def z1s0 (N:Nat) : Env := z1d tys glob [(86,z2i N),(41,z2t N),(95,z15 N)] [] [] [0] false [] [(76,za N)]
theorem z1qh (N:Nat) : EnvOk Tryd.prog (z1s0 N) := zi mixed zn (FnsOk.cons (z3n N) (FnsOk.cons (z3b N) (FnsOk.cons (z1e N) (FnsOk.nil)))) (ItsOk.cons (zb N) (ItsOk.nil))
def zan (N:Nat) (p:DT5) (set_:(List Int)) (b:Int) (x7:Int) (k0:Bool -> Option znl) : Option znl :=
 cond (x7 == (91 : Int))
 (k0 (x7 == (91 : Int)))
 (cond (x7 == (93 : Int))
 (k0 (x7 == (93 : Int)))
 (cond (x7 == (45 : Int))
 (k0 (x7 == (45 : Int)))
 (k0 (x7 == (94 : Int)))))
def z1ml (N:Nat) (x:z13 z1cc) (K:Ex -> List A -> Option znl) : Option znl :=
 zan N x.1 x.2.1 x.2.2.1 x.2.2.2.1 (fun a3=>(K .normal (mkS z1p7 20 (x.1,x.2.1,x.2.2.1,a3,()))))
def z1j6 (N:Nat) : Hd znl := fun st K=>(unS z1cc 27 (restr [7,0,4,2] 0 st)).bind fun x=>z1ml N x K
def t2_75 (N:Nat) : Tab znl := []
theorem z1fa {N:Nat} {c:Ctx} (hb:Base Tryd.prog (z1s0 N) c) : zj Tryd.prog c (zh zp7 zw9) (z1j6 N) :=
  zl (s := z1cc) (m := 27) (g := z1ml N) [7,0,4,2] (ze hb N (t2_75 N) L_75 zp7 TabOk.nil zw9 _ rfl) (fun x K=>by kernel_rfl)
def zao (N:Nat) (p:DT5) (set_:(List Int)) (b:Int) (k0:DT5 -> (List Int) -> Bool -> Option znl) (k1:Option znl) : Option znl :=
 cond (b == (92 : Int))
 ((z2o N p).bind fun y =>
 k0 y.2.1 y.1.1 y.1.2.1)
 (zan N p set_ b b
 (fun x14=>cond x14
 (none)
 (k1)))
def z1ns (N:Nat) (x:z13 z160) (K:Ex -> List A -> Option znl) : Option znl :=
 zao N x.1 x.2.1 x.2.2.1 (fun a0 a1 a2=>(K .ret (mkS SQ66 31 (a0,a1,a2,())))) (K .normal (mkS z160 30 (x.1,x.2.1,x.2.2.1,())))
def z1kd (N:Nat) : Hd znl := fun st K=>(unS z160 30 (restr [4,0,2] 0 st)).bind fun x=>z1ns N x K
def t1_75 (N:Nat) : Tab znl := [(zw9,z1j6 N)]
theorem z1gh {N:Nat} {c:Ctx} (hb:Base Tryd.prog (z1s0 N) c) : zj Tryd.prog c (zh zp7 [0,1,1]) (z1kd N) :=
  zl (s := z160) (m := 30) (g := z1ns N) [4,0,2] (ze hb N (t1_75 N) L_75 zp7 (TabOk.cons (z1fa hb) TabOk.nil) [0,1,1] _ rfl) (fun x K=>by kernel_rfl)
def z3c (N:Nat) (p:DT5) : Option znl :=
 (z1g N p).bind fun y =>
 zao N y.2.1 ([(0 : Int),(0 : Int),(0 : Int),(0 : Int)] : List Int) y.1
 (fun p1 set_ class_=>some ((set_,(class_,())),(p1,())))
 ((z2d N y.1 y.1).bind fun y1 =>
 some ((y1,(false,())),((y.2.1.1,((IntKind.wrap IntKind.i64 (y.2.1.2.1 + (1 : Int))),y.2.1.2.2)),())))
def t_75 (N:Nat) : Tab znl := [([0,1,1],z1kd N)]
theorem z18j (N:Nat) (x:z13 SQ0) : z4l (z1s0 N) N (t_75 N) L_75 Tryd.f100 (mkS SQ0 0 x) (z35 (.tup [(.arr 4 (.int .u64)),.bool]) SQ0 0) = z3c N x.1 := by kernel_rfl
def z5r (N:Nat) : List A -> Res := zz SQ0 (fun x=>z3c N x.1) (z3p (.tup [(.arr 4 (.int .u64)),.bool]) SQ0 0)
theorem zap (N:Nat) : Contract Tryd.prog glob 100 (z5r N) :=
  Contract.of (E := z1s0 N) (H := t_75 N) (L := L_75) (N := N) (body := zp7) (K := (z35 (.tup [(.arr 4 (.int .u64)),.bool]) SQ0 0)) (z1qh N) Tryd.func100 (by kernel_rfl) (by decide) (fun _ hb=>(TabOk.cons (z1gh hb) TabOk.nil)) (fun x y h=>by rw [z18j]; exact h) (z2e (s := (.tup [(.arr 4 (.int .u64)),.bool])) (os := SQ0) (m := 0))
def zvg : Code := (Tryd.f101.body).getD .skip
def L_76 : List (List Nat × List Nat) := [([0],[1]),([0,0,1],[6,1]),([1,0,1],[1]),([0,0,1,0,1],[2]),([1,0,1,0,1],[2]),([0,1,1],[3,1]),([0,0,1,1,1],[3,1]),([0,0,0,0,0,1,1,1],[10,3,1]),([1,0,0,0,0,1,1,1],[3,1]),([1,1,0,0,0,0,1,1,1],[3,1]),([0,1,0,0,0,1,1,1],[3,1]),([1,0,0,0,1,1,1],[3,1]),([0,1,1,1],[3,1]),([0,1,1,1,1],[2]),([1,1,1,1,1],[2])]
def E_76 (N:Nat) : Env := z1d tys glob [(70,z34 N)] [] [] [] false [] [(76,za N)]
theorem z1qg (N:Nat) : EnvOk Tryd.prog (E_76 N) := zi mixed zn (FnsOk.cons (z5k N) (FnsOk.nil)) (ItsOk.cons (zb N) (ItsOk.nil))
def zgc (N:Nat) (s:(List Int)) (i:Int) (rec:Int -> Option Int) (k0:Int -> Option Int) : Option Int :=
 cond (inR i 4)
 (cond (decide ((Int.toNat i) < (List.length s)))
 (cond ((List.getD s (Int.toNat i) (0 : Int)) == (0 : Int))
 (rec (IntKind.wrap IntKind.i64 (i + (1 : Int))))
 (k0 i))
 (none))
 (none)
def zn5 (N:Nat) (s:(List Int)) (i:Int) (k0:Int -> Option Int) : Option Int :=
 iter (fun (v:Int) r=>zgc N s v (fun i=>(r i)) k0) N i
def z1nr (N:Nat) (i:(List Int)) (v:Int) (r:Int -> Option Int) (K:Ex -> List A -> Option Int) : Option Int :=
 zgc N i v (fun i=>(r i)) (fun a1=>(K (.exit 0) (mkS z1aw 16 (i,a1,()))))
def z1kc (N:Nat) : Hd Int := fun st K=>(unS z1aw 16 (restr [3,1] 0 st)).bind fun x=>iter (fun v r=>z1nr N ((fun x=>x.1) x) v r K) N ((fun x=>x.2.1) x)
def t1_76 (N:Nat) : Tab Int := []
theorem z1gg {N:Nat} {c:Ctx} (hb:Base Tryd.prog (E_76 N) c) : zj Tryd.prog c (zh zvg [0,0,1,1,1]) (z1kc N) :=
  z18 (s := z1aw) (m := 16) (z1nr N) [3,1] N (fun x=>x.1) (fun x=>x.2.1) (fun i v=>(i,v,())) (fun _=>rfl) (ze hb N (t1_76 N) L_76 zvg TabOk.nil [0,0,0,1,1,1] _ rfl) (fun i v r K=>by kernel_rfl)
def z2u (N:Nat) (s:(List Int)) : Option Int :=
 cond (eqD (T.arr 4 (T.int IntKind.u64)) s ([(0 : Int),(0 : Int),(0 : Int),(0 : Int)] : List Int))
 (some (-(1 : Int)))
 (zn5 N s (0 : Int)
 (fun i=>cond (inR i 4)
 (cond (decide ((Int.toNat i) < (List.length s)))
 ((z2s N (List.getD s (Int.toNat i) (0 : Int))).bind fun y =>
 some (IntKind.wrap IntKind.i64 ((IntKind.wrap IntKind.i64 (i * (64 : Int))) + y)))
 (none))
 (none)))
def t_76 (N:Nat) : Tab Int := [([0,0,1,1,1],z1kc N)]
theorem z18i (N:Nat) (x:z13 zw2) : z4l (E_76 N) N (t_76 N) L_76 Tryd.f101 (mkS zw2 0 x) (z2v (.v (.int .i64)) 1) = z2u N x.1 := by kernel_rfl
def z9l (N:Nat) : List A -> Res := zz zw2 (fun x=>z2u N x.1) (z70 (.v (.int .i64)) 1)
theorem zgd (N:Nat) : Contract Tryd.prog glob 101 (z9l N) :=
  Contract.of (E := E_76 N) (H := t_76 N) (L := L_76) (N := N) (body := zvg) (K := (z2v (.v (.int .i64)) 1)) (z1qg N) Tryd.func101 (by kernel_rfl) (by decide) (fun _ hb=>(TabOk.cons (z1gg hb) TabOk.nil)) (fun x y h=>by rw [z18i]; exact h) (z16 (s := (.v (.int .i64))) (m := 1))
def zfo : Code := (Tryd.f92.body).getD .skip
def z1cm : List (List Nat × List Nat) := [([0],[0,2]),([0,1],[4,0,3,2]),([0,0,1,1],[17,3,2,0]),([1,0,1,1],[0,3,2]),([0,0,1,0,1,1],[2,0]),([1,0,1,0,1,1],[2,0]),([0,1,1,1],[0,3,5,2]),([0,1,1,1,1],[4,6,3,0,5,2]),(zq4,[35,0,5,3,6,2]),(zs4,[3,6,2,0]),(zz6,[3,6,2,0]),(zyu,[2,0]),(zwa,[2,0])]
def z1bu (N:Nat) : Env := z1d tys glob [(101,z9l N),(100,z5r N),(55,z1j N),(41,z2t N)] [] [] [0] false [] [(76,za N)]
theorem z1qf (N:Nat) : EnvOk Tryd.prog (z1bu N) := zi mixed zn (FnsOk.cons (zgd N) (FnsOk.cons (zap N) (FnsOk.cons (z1u N) (FnsOk.cons (z3b N) (FnsOk.nil))))) (ItsOk.cons (zb N) (ItsOk.nil))
def zau (N:Nat) (p:DT5) (x2:(List Int)) (first:(List Int)) (class_:Bool) (k0:DT5 -> Bool -> Option zfw) : Option zfw :=
 cond class_
 (k0 p true)
 ((z17 N p (45 : Int)).bind fun y =>
 k0 y.2.1 (!y.1))
def z1mk (N:Nat) (x:z13 SQ7) (K:Ex -> List A -> Option zfw) : Option zfw :=
 zau N x.1 x.2.1 x.2.2.1 x.2.2.2.1 (fun a0 a3=>(K .normal (mkS z1pe 28 (a0,x.2.1,x.2.2.1,a3,()))))
def z1j5 (N:Nat) : Hd zfw := fun st K=>(unS SQ7 41 (restr [4,0,3,2] 0 st)).bind fun x=>z1mk N x K
def t2_77 (N:Nat) : Tab zfw := []
theorem z1f9 {N:Nat} {c:Ctx} (hb:Base Tryd.prog (z1bu N) c) : zj Tryd.prog c (zh zfo [0,0,1,1]) (z1j5 N) :=
  zl (s := SQ7) (m := 41) (g := z1mk N) [4,0,3,2] (ze hb N (t2_77 N) z1cm zfo TabOk.nil [0,0,1,1] _ rfl) (fun x K=>by kernel_rfl)
def zav (N:Nat) (p:DT5) (x2:(List Int)) (first:(List Int)) (class_:Bool) (k0:DT5 -> Option zfw) (k1:DT5 -> Option zfw) : Option zfw :=
 zau N p x2 first class_
 (fun p1 x17=>cond x17
 (k0 p1)
 (k1 p1))
def z1nq (N:Nat) (x:z13 SQ7) (K:Ex -> List A -> Option zfw) : Option zfw :=
 zav N x.1 x.2.1 x.2.2.1 x.2.2.2.1 (fun a0=>(K .ret (mkS [(0,.box (.pair .str TT1)),(1,.box (.arr 4 (.int .u64)))] 43 (a0,x.2.2.1,())))) (fun a0=>(K .normal (mkS z1p4 42 (a0,x.2.1,x.2.2.1,()))))
def z1kb (N:Nat) : Hd zfw := fun st K=>(unS SQ7 41 (restr [4,0,3,2] 0 st)).bind fun x=>z1nq N x K
def t1_77 (N:Nat) : Tab zfw := [([0,0,1,1],z1j5 N)]
theorem z1gf {N:Nat} {c:Ctx} (hb:Base Tryd.prog (z1bu N) c) : zj Tryd.prog c (zh zfo [0,1,1]) (z1kb N) :=
  zl (s := SQ7) (m := 41) (g := z1nq N) [4,0,3,2] (ze hb N (t1_77 N) z1cm zfo (TabOk.cons (z1f9 hb) TabOk.nil) [0,1,1] _ rfl) (fun x K=>by kernel_rfl)
def zas (N:Nat) (p:DT5) (x2:(List Int)) (first:(List Int)) (class_:Bool) (from_:Int) (last:(List Int)) (k0:Bool -> Option zfw) : Option zfw :=
 cond class_
 (k0 true)
 ((z2u N last).bind fun y =>
 (z2u N first).bind fun y1 =>
 k0 (decide (y < y1)))
def z1lo (N:Nat) (x:z13 SQ2) (K:Ex -> List A -> Option zfw) : Option zfw :=
 zas N x.1 x.2.1 x.2.2.1 x.2.2.2.1 x.2.2.2.2.1 x.2.2.2.2.2.1 (fun a5=>(K .normal (mkS SQ63 10 (x.1,x.2.1,x.2.2.1,x.2.2.2.2.1,x.2.2.2.2.2.1,a5,()))))
def z1i9 (N:Nat) : Hd zfw := fun st K=>(unS SQ2 39 (restr [4,6,3,0,5,2] 0 st)).bind fun x=>z1lo N x K
def t4_77 (N:Nat) : Tab zfw := []
theorem z1ed {N:Nat} {c:Ctx} (hb:Base Tryd.prog (z1bu N) c) : zj Tryd.prog c (zh zfo zq4) (z1i9 N) :=
  zl (s := SQ2) (m := 39) (g := z1lo N) [4,6,3,0,5,2] (ze hb N (t4_77 N) z1cm zfo TabOk.nil zq4 _ rfl) (fun x K=>by kernel_rfl)
def zat (N:Nat) (p:DT5) (x2:(List Int)) (first:(List Int)) (class_:Bool) (from_:Int) (last:(List Int)) (k0:Option zfw) : Option zfw :=
 zas N p x2 first class_ from_ last
 (fun x35=>cond x35
 (none)
 (k0))
def z1m0 (N:Nat) (x:z13 SQ2) (K:Ex -> List A -> Option zfw) : Option zfw :=
 zat N x.1 x.2.1 x.2.2.1 x.2.2.2.1 x.2.2.2.2.1 x.2.2.2.2.2.1 (K .normal (mkS SQ90 39 (x.1,x.2.1,x.2.2.1,x.2.2.2.2.2.1,())))
def z1il (N:Nat) : Hd zfw := fun st K=>(unS SQ2 39 (restr [4,6,3,0,5,2] 0 st)).bind fun x=>z1m0 N x K
def t3_77 (N:Nat) : Tab zfw := [(zq4,z1i9 N)]
theorem z1ep {N:Nat} {c:Ctx} (hb:Base Tryd.prog (z1bu N) c) : zj Tryd.prog c (zh zfo [0,1,1,1,1,1]) (z1il N) :=
  zl (s := SQ2) (m := 39) (g := z1m0 N) [4,6,3,0,5,2] (ze hb N (t3_77 N) z1cm zfo (TabOk.cons (z1ed hb) TabOk.nil) [0,1,1,1,1,1] _ rfl) (fun x K=>by kernel_rfl)
def z3d (N:Nat) (p:DT5) : Option zfw :=
 (z3c N p).bind fun y =>
 zav N y.2.1 ([(0 : Int),(0 : Int),(0 : Int),(0 : Int)] : List Int) y.1.1 y.1.2.1
 (fun p1=>some (y.1.1,(p1,())))
 (fun p2=>(z3c N p2).bind fun y1 =>
 zat N y1.2.1 ([(0 : Int),(0 : Int),(0 : Int),(0 : Int)] : List Int) y.1.1 y1.1.2.1 p2.2.1 y1.1.1
 ((z2u N y.1.1).bind fun y2 =>
 (z2u N y1.1.1).bind fun y3 =>
 (z2d N (IntKind.wrap IntKind.u8 y2) (IntKind.wrap IntKind.u8 y3)).bind fun y4 =>
 some (y4,(y1.2.1,()))))
def t_77 (N:Nat) : Tab zfw := [([0,1,1],z1kb N),([0,1,1,1,1,1],z1il N)]
theorem z18h (N:Nat) (x:z13 SQ0) : z4l (z1bu N) N (t_77 N) z1cm Tryd.f92 (mkS SQ0 0 x) (z35 (.v (.arr 4 (.int .u64))) SQ0 0) = z3d N x.1 := by kernel_rfl
def z5s (N:Nat) : List A -> Res := zz SQ0 (fun x=>z3d N x.1) (z3p (.v (.arr 4 (.int .u64))) SQ0 0)
theorem zaw (N:Nat) : Contract Tryd.prog glob 92 (z5s N) :=
  Contract.of (E := z1bu N) (H := t_77 N) (L := z1cm) (N := N) (body := zfo) (K := (z35 (.v (.arr 4 (.int .u64))) SQ0 0)) (z1qf N) Tryd.func92 (by kernel_rfl) (by decide) (fun _ hb=>(TabOk.cons (z1gf hb) (TabOk.cons (z1ep hb) TabOk.nil))) (fun x y h=>by rw [z18h]; exact h) (z2e (s := (.v (.arr 4 (.int .u64)))) (os := SQ0) (m := 0))
def zvf : Code := (Tryd.f93.body).getD .skip
def L_78 : List (List Nat × List Nat) := [([0],[2,3,4]),([0,0,1],[6,2,3,4]),([0,1,0,1],[6,2,3,4]),([0,0,0,1,0,1],[7,6,2,3,4]),(z1ck,[6,2,3,4]),(zz1,[2,4]),(zz4,[5,2,3,6,4]),(z149,[6,2,3,4]),(zz0,[6,2,3,4]),(zyz,[6,2,3,4]),([1,0,1],[2,4]),([0,1,1],[4]),([1,1,1],[4])]
def E_78 (N:Nat) : Env := z1d tys glob [] [] [] [] false [] [(76,za N)]
theorem z1qe (N:Nat) : EnvOk Tryd.prog (E_78 N) := zi mixed zn (FnsOk.nil) (ItsOk.cons (zb N) (ItsOk.nil))
def zku (N:Nat) (t:(List Int)) (x4:(List Int)) (s:(List Int)) (x6:Int) (rec:(List Int) -> Int -> Option (List Int)) (k0:(List Int) -> Option (List Int)) : Option (List Int) :=
 cond (decide (x6 < (4 : Int)))
 (cond (inR x6 4)
 (cond (decide ((Int.toNat x6) < (List.length s)))
 (cond (inR x6 4)
 (cond (decide ((Int.toNat x6) < (List.length t)))
 (cond (inR x6 4)
 (cond (decide ((Int.toNat x6) < (List.length s)))
 (rec (List.set s (Int.toNat x6) (zf Go.BinOp.or IntKind.u64 (List.getD s (Int.toNat x6) (0 : Int)) (List.getD t (Int.toNat x6) (0 : Int)))) (IntKind.wrap IntKind.i64 (x6 + (1 : Int))))
 (none))
 (none))
 (none))
 (none))
 (none))
 (none))
 (k0 s)
def zrx (N:Nat) (s:(List Int)) (t:(List Int)) (x4:(List Int)) (x6:Int) (k0:(List Int) -> Option (List Int)) : Option (List Int) :=
 iter (fun (v:((List Int) × Int)) r=>zku N t x4 v.1 v.2 (fun s x6=>(r (s,x6))) k0) N (s,x6)
def z1np (N:Nat) (i:((List Int) × (List Int))) (v:((List Int) × Int)) (r:((List Int) × Int) -> Option (List Int)) (K:Ex -> List A -> Option (List Int)) : Option (List Int) :=
 zku N i.1 i.2 v.1 v.2 (fun s x6=>(r (s,x6))) (fun a0=>(K (.exit 0) (mkS [(2,.box (.arr 4 (.int .u64))),(1,.box (.arr 4 (.int .u64)))] 14 (a0,i.2,()))))
def z1ka (N:Nat) : Hd (List Int) := fun st K=>(unS SQ95 12 (restr [6,2,3,4] 0 st)).bind fun x=>iter (fun v r=>z1np N ((fun x=>(x.2.1,x.2.2.1)) x) v r K) N ((fun x=>(x.1,x.2.2.2.1)) x)
def t1_78 (N:Nat) : Tab (List Int) := []
theorem z1ge {N:Nat} {c:Ctx} (hb:Base Tryd.prog (E_78 N) c) : zj Tryd.prog c (zh zvf [0,1,0,1]) (z1ka N) :=
  z18 (s := SQ95) (m := 12) (z1np N) [6,2,3,4] N (fun x=>(x.2.1,x.2.2.1)) (fun x=>(x.1,x.2.2.2.1)) (fun i v=>(v.1,i.1,i.2,v.2,())) (fun _=>rfl) (ze hb N (t1_78 N) L_78 zvf TabOk.nil [0,0,1,0,1] _ rfl) (fun i v r K=>by kernel_rfl)
def zib (N:Nat) (s:(List Int)) (t:(List Int)) : Option (List Int) :=
 zrx N s t ([(0 : Int),(0 : Int),(0 : Int),(0 : Int)] : List Int) (0 : Int)
 (fun s1=>some s1)
def t_78 (N:Nat) : Tab (List Int) := [([0,1,0,1],z1ka N)]
theorem z18g (N:Nat) (x:z13 z1ay) : z4l (E_78 N) N (t_78 N) L_78 Tryd.f93 (mkS z1ay 0 x) (z2v (.v (.arr 4 (.int .u64))) 2) = zib N x.1 x.2.1 := by kernel_rfl
def zdk (N:Nat) : List A -> Res := zz z1ay (fun x=>zib N x.1 x.2.1) (z70 (.v (.arr 4 (.int .u64))) 2)
theorem zkv (N:Nat) : Contract Tryd.prog glob 93 (zdk N) :=
  Contract.of (E := E_78 N) (H := t_78 N) (L := L_78) (N := N) (body := zvf) (K := (z2v (.v (.arr 4 (.int .u64))) 2)) (z1qe N) Tryd.func93 (by kernel_rfl) (by decide) (fun _ hb=>(TabOk.cons (z1ge hb) TabOk.nil)) (fun x y h=>by rw [z18g]; exact h) (z16 (s := (.v (.arr 4 (.int .u64)))) (m := 2))
def zve : Code := (Tryd.f94.body).getD .skip
def L_79 : List (List Nat × List Nat) := [([0],[1,2]),([0,0,1],[4,1,2]),([0,1,0,1],[4,1,2]),([0,0,0,1,0,1],[5,4,1,2]),(z1ck,[4,1,2]),(zz1,[1,2]),(zz4,[3,1,4,2]),(z149,[4,1,2]),(zz0,[4,1,2]),(zyz,[4,1,2]),([1,0,1],[1,2]),([0,1,1],[2]),([1,1,1],[2])]
def E_79 (N:Nat) : Env := z1d tys glob [] [] [] [] false [] [(76,za N)]
theorem z1qd (N:Nat) : EnvOk Tryd.prog (E_79 N) := zi mixed zn (FnsOk.nil) (ItsOk.cons (zb N) (ItsOk.nil))
def zj7 (N:Nat) (x2:(List Int)) (s:(List Int)) (x4:Int) (rec:(List Int) -> Int -> Option (List Int)) (k0:(List Int) -> Option (List Int)) : Option (List Int) :=
 cond (decide (x4 < (4 : Int)))
 (cond (inR x4 4)
 (cond (decide ((Int.toNat x4) < (List.length s)))
 (cond (inR x4 4)
 (cond (decide ((Int.toNat x4) < (List.length s)))
 (rec (List.set s (Int.toNat x4) (zf Go.BinOp.xor IntKind.u64 (if ((IntKind.signed IntKind.u64) = true) then (-(1 : Int)) else (IntKind.max IntKind.u64)) (List.getD s (Int.toNat x4) (0 : Int)))) (IntKind.wrap IntKind.i64 (x4 + (1 : Int))))
 (none))
 (none))
 (none))
 (none))
 (k0 s)
def zq2 (N:Nat) (s:(List Int)) (x2:(List Int)) (x4:Int) (k0:(List Int) -> Option (List Int)) : Option (List Int) :=
 iter (fun (v:((List Int) × Int)) r=>zj7 N x2 v.1 v.2 (fun s x4=>(r (s,x4))) k0) N (s,x4)
def z1no (N:Nat) (i:(List Int)) (v:((List Int) × Int)) (r:((List Int) × Int) -> Option (List Int)) (K:Ex -> List A -> Option (List Int)) : Option (List Int) :=
 zj7 N i v.1 v.2 (fun s x4=>(r (s,x4))) (fun a0=>(K (.exit 0) (mkS [(1,.box (.arr 4 (.int .u64))),(0,.box (.arr 4 (.int .u64)))] 12 (a0,i,()))))
def z1k9 (N:Nat) : Hd (List Int) := fun st K=>(unS [(1,.box (.arr 4 (.int .u64))),(0,.box (.arr 4 (.int .u64))),(1,.v (.int .i64))] 10 (restr [4,1,2] 0 st)).bind fun x=>iter (fun v r=>z1no N ((fun x=>x.2.1) x) v r K) N ((fun x=>(x.1,x.2.2.1)) x)
def t1_79 (N:Nat) : Tab (List Int) := []
theorem z1gd {N:Nat} {c:Ctx} (hb:Base Tryd.prog (E_79 N) c) : zj Tryd.prog c (zh zve [0,1,0,1]) (z1k9 N) :=
  z18 (s := [(1,.box (.arr 4 (.int .u64))),(0,.box (.arr 4 (.int .u64))),(1,.v (.int .i64))]) (m := 10) (z1no N) [4,1,2] N (fun x=>x.2.1) (fun x=>(x.1,x.2.2.1)) (fun i v=>(v.1,i,v.2,())) (fun _=>rfl) (ze hb N (t1_79 N) L_79 zve TabOk.nil [0,0,1,0,1] _ rfl) (fun i v r K=>by kernel_rfl)
def zfj (N:Nat) (s:(List Int)) : Option (List Int) :=
 zq2 N s ([(0 : Int),(0 : Int),(0 : Int),(0 : Int)] : List Int) (0 : Int)
 (fun s1=>some s1)
def t_79 (N:Nat) : Tab (List Int) := [([0,1,0,1],z1k9 N)]
theorem z18f (N:Nat) (x:z13 zw2) : z4l (E_79 N) N (t_79 N) L_79 Tryd.f94 (mkS zw2 0 x) (z2v (.v (.arr 4 (.int .u64))) 1) = zfj N x.1 := by kernel_rfl
def zcj (N:Nat) : List A -> Res := zz zw2 (fun x=>zfj N x.1) (z70 (.v (.arr 4 (.int .u64))) 1)
theorem zj8 (N:Nat) : Contract Tryd.prog glob 94 (zcj N) :=
  Contract.of (E := E_79 N) (H := t_79 N) (L := L_79) (N := N) (body := zve) (K := (z2v (.v (.arr 4 (.int .u64))) 1)) (z1qd N) Tryd.func94 (by kernel_rfl) (by decide) (fun _ hb=>(TabOk.cons (z1gd hb) TabOk.nil)) (fun x y h=>by rw [z18f]; exact h) (z16 (s := (.v (.arr 4 (.int .u64)))) (m := 1))
def zvd : Code := (Tryd.f85.body).getD .skip
def L_80 : List (List Nat × List Nat) := [([0],[0,2]),([0,1],[0,2]),([0,1,1],[0,3,2]),([0,1,1,1],[0,4,3,2]),([0,0,1,1,1,1],[0,4,3,2]),(z128,[13,4,0,3,2]),(z127,[4,0,3,2]),(z129,[3,4,2,0]),([0,1,0,0,0,1,1,1,1],[0,4,3,2]),(z125,[0,4,3,2]),([0,1,1,1,1],[3,4,2,0]),(zq4,[18,4,2,0]),(zs4,[4,2,0]),([0,0,1,0,1,1,1,1,1],[2,0]),([1,0,1,0,1,1,1,1,1],[2,0]),(zyu,[2,0]),(zwa,[2,0])]
def E_80 (N:Nat) : Env := z1d tys glob [(94,zcj N),(93,zdk N),(92,z5s N),(55,z1j N),(89,z1k N)] [] [] [0] false [] [(76,za N)]
theorem z1qc (N:Nat) : EnvOk Tryd.prog (E_80 N) := zi mixed zn (FnsOk.cons (zj8 N) (FnsOk.cons (zkv N) (FnsOk.cons (zaw N) (FnsOk.cons (z1u N) (FnsOk.cons (z1v N) (FnsOk.nil)))))) (ItsOk.cons (zb N) (ItsOk.nil))
def z7z (N:Nat) (x2:(List Int)) (not_:Bool) (p:DT5) (set_:(List Int)) (rec:DT5 -> (List Int) -> Option zfw) (k0:DT5 -> (List Int) -> Option zfw) : Option zfw :=
 (z17 N p (93 : Int)).bind fun y =>
 cond (!y.1)
 ((z3d N y.2.1).bind fun y1 =>
 (zib N set_ y1.1).bind fun y2 =>
 rec y1.2.1 y2)
 (k0 y.2.1 set_)
def zdw (N:Nat) (p:DT5) (x2:(List Int)) (not_:Bool) (set_:(List Int)) (k0:DT5 -> (List Int) -> Option zfw) : Option zfw :=
 iter (fun (v:(DT5 × (List Int))) r=>z7z N x2 not_ v.1 v.2 (fun p set_=>(r (p,set_))) k0) N (p,set_)
def z1nn (N:Nat) (i:((List Int) × Bool)) (v:(DT5 × (List Int))) (r:(DT5 × (List Int)) -> Option zfw) (K:Ex -> List A -> Option zfw) : Option zfw :=
 z7z N i.1 i.2 v.1 v.2 (fun p set_=>(r (p,set_))) (fun a0 a3=>(K (.exit 0) (mkS z1ce 17 (a0,i.1,i.2,a3,()))))
def z1k8 (N:Nat) : Hd zfw := fun st K=>(unS z1ce 17 (restr [0,4,3,2] 0 st)).bind fun x=>iter (fun v r=>z1nn N ((fun x=>(x.2.1,x.2.2.1)) x) v r K) N ((fun x=>(x.1,x.2.2.2.1)) x)
def t1_80 (N:Nat) : Tab zfw := []
theorem z1gc {N:Nat} {c:Ctx} (hb:Base Tryd.prog (E_80 N) c) : zj Tryd.prog c (zh zvd [0,0,1,1,1,1]) (z1k8 N) :=
  z18 (s := z1ce) (m := 17) (z1nn N) [0,4,3,2] N (fun x=>(x.2.1,x.2.2.1)) (fun x=>(x.1,x.2.2.2.1)) (fun i v=>(v.1,i.1,i.2,v.2,())) (fun _=>rfl) (ze hb N (t1_80 N) L_80 zvd TabOk.nil [0,0,0,1,1,1,1] _ rfl) (fun i v r K=>by kernel_rfl)
def z3x (N:Nat) (p:DT5) : Option zfw :=
 (z1h N p (91 : Int)).bind fun y =>
 (z17 N y.2.1 (94 : Int)).bind fun y1 =>
 (z3d N y1.2.1).bind fun y2 =>
 zdw N y2.2.1 ([(0 : Int),(0 : Int),(0 : Int),(0 : Int)] : List Int) y1.1 y2.1
 (fun p1 set_=>cond y1.1
 ((zfj N set_).bind fun y3 =>
 some (y3,(p1,())))
 (some (set_,(p1,()))))
def t_80 (N:Nat) : Tab zfw := [([0,0,1,1,1,1],z1k8 N)]
theorem z18e (N:Nat) (x:z13 SQ0) : z4l (E_80 N) N (t_80 N) L_80 Tryd.f85 (mkS SQ0 0 x) (z35 (.v (.arr 4 (.int .u64))) SQ0 0) = z3x N x.1 := by kernel_rfl
def z41 (N:Nat) : List A -> Res := zz SQ0 (fun x=>z3x N x.1) (z3p (.v (.arr 4 (.int .u64))) SQ0 0)
theorem z80 (N:Nat) : Contract Tryd.prog glob 85 (z41 N) :=
  Contract.of (E := E_80 N) (H := t_80 N) (L := L_80) (N := N) (body := zvd) (K := (z35 (.v (.arr 4 (.int .u64))) SQ0 0)) (z1qc N) Tryd.func85 (by kernel_rfl) (by decide) (fun _ hb=>(TabOk.cons (z1gc hb) TabOk.nil)) (fun x y h=>by rw [z18e]; exact h) (z2e (s := (.v (.arr 4 (.int .u64)))) (os := SQ0) (m := 0))
def zvc : Code := (Tryd.f79.body).getD .skip
def L_81 : List (List Nat × List Nat) := [([0],[0,2]),([0,1],[3,0,2]),([0,1,1],[15,0,2,3]),([0,0,1,1,1],[36,0,2,15,3]),([1,0,1,1,1],[2,0]),([0,1,1,0,1,1,1],[40,0,2,15,3]),([1,1,1,0,1,1,1],[2,0]),([0,1,1,1,1,0,1,1,1],[51,0,2,15,3]),([1,1,1,1,1,0,1,1,1],[2,0]),([0,1,1,1,1,1,1,0,1,1,1],[56,0,2,3]),([1,1,1,1,1,1,1,0,1,1,1],[2,0]),([0,0,1,1,1,1,1,1,1,1,0,1,1,1],[18,0,3,2]),([1,0,1,1,1,1,1,1,1,1,0,1,1,1],[0,3,2]),([0,1,0,1,1,1,1,1,1,1,1,0,1,1,1],[0,3,2]),([0,1,1,1,1,1,1,1,1,1,0,1,1,1],[3,2,0]),([0,1,1,1,1,1,1,1,1,1,1,0,1,1,1],[2,0]),([1,1,1,1,1,1,1,1,1,1,1,0,1,1,1],[2,0]),([0,0,1,1,1,1,1,1,1,0,1,1,1],[4,2,0]),([0,1,0,1,1,1,1,1,1,1,0,1,1,1],[2,0]),([1,1,0,1,1,1,1,1,1,1,0,1,1,1],[2,0]),([0,0,1,1,1,1,1,0,1,1,1],[2,0]),([1,0,1,1,1,1,1,0,1,1,1],[2,0]),([0,0,1,1,1,0,1,1,1],[2,0]),([0,1,0,1,1,1,0,1,1,1],[2,0]),([1,1,0,1,1,1,0,1,1,1],[2,0]),(ztr,[2,0]),(ztt,[2,0]),([1,1,1],[2,0])]
def E_81 (N:Nat) (self:z7) : Env := z1d tys glob [(85,z41 N),(86,z2i N),(87,z2w N),(84,zf1 N),(41,z2t N),(83,z5b N self),(36,zz SQ0 (fun x=>self x.1) (z3p (.v TT4) SQ0 0))] [] [] [0] false [] [(76,za N)]
theorem z1qb (N:Nat) (self:z7) (hself:Contract Tryd.prog glob 36 (zz SQ0 (fun x=>self x.1) (z3p (.v TT4) SQ0 0))) : EnvOk Tryd.prog (E_81 N self) := zi mixed zn (FnsOk.cons (z80 N) (FnsOk.cons (z3n N) (FnsOk.cons (z47 N) (FnsOk.cons (zmb N) (FnsOk.cons (z3b N) (FnsOk.cons (za3 N self hself) (FnsOk.cons (hself) (FnsOk.nil)))))))) (ItsOk.cons (zb N) (ItsOk.nil))
def zax (N:Nat) (self:z7) (p:DT5) (x2:DT7) (b:Int) (k0:Option (DT7 × (DT5 × Unit))) : Option (DT7 × (DT5 × Unit)) :=
 cond (decide ((0 : Int) <= (Go.Lib.indexByte ([(92 : UInt8),(46 : UInt8),(91 : UInt8),(93 : UInt8),(40 : UInt8),(41 : UInt8),(123 : UInt8),(125 : UInt8),(124 : UInt8),(42 : UInt8),(43 : UInt8),(63 : UInt8)] : List UInt8) (Nat.toUInt8 (Int.toNat b)))))
 (none)
 (k0)
def z1nm (N:Nat) (self:z7) (x:z13 z15z) (K:Ex -> List A -> Option (DT7 × (DT5 × Unit))) : Option (DT7 × (DT5 × Unit)) :=
 zax N self x.1 x.2.1 x.2.2.1 (K .normal (mkS z15z 61 (x.1,x.2.1,x.2.2.1,())))
def z1k7 (N:Nat) (self:z7) : Hd (DT7 × (DT5 × Unit)) := fun st K=>(unS z15z 61 (restr [3,0,2] 0 st)).bind fun x=>z1nm N self x K
def t1_81 (N:Nat) (self:z7) : Tab (DT7 × (DT5 × Unit)) := []
theorem z1gb {N:Nat} {self:z7} {c:Ctx} (hb:Base Tryd.prog (E_81 N self) c) : zj Tryd.prog c (zh zvc z1ch) (z1k7 N self) :=
  zl (s := z15z) (m := 61) (g := z1nm N self) [3,0,2] (ze hb N (t1_81 N self) L_81 zvc TabOk.nil z1ch _ rfl) (fun x K=>by kernel_rfl)
def z66 (N:Nat) (self:z7) (p:DT5) : Option (DT7 × (DT5 × Unit)) :=
 cond (inR p.2.1 (List.length p.1))
 (cond ((((UInt8.toNat (List.getD p.1 (Int.toNat p.2.1) (0 : UInt8))) : Nat) : Int) == (40 : Int))
 ((z5i N self p).bind fun y =>
 some (y.1,(y.2.1,())))
 (cond ((((UInt8.toNat (List.getD p.1 (Int.toNat p.2.1) (0 : UInt8))) : Nat) : Int) == (46 : Int))
 ((z2d N (0 : Int) (255 : Int)).bind fun y1 =>
 some (((1 : Int),(y1,(([] : List Tree),((0 : Int),((0 : Int),()))))),((p.1,((IntKind.wrap IntKind.i64 (p.2.1 + (1 : Int))),p.2.2)),())))
 (cond ((((UInt8.toNat (List.getD p.1 (Int.toNat p.2.1) (0 : UInt8))) : Nat) : Int) == (91 : Int))
 ((z3x N p).bind fun y2 =>
 some (((1 : Int),(y2.1,(([] : List Tree),((0 : Int),((0 : Int),()))))),(y2.2.1,())))
 (cond ((((UInt8.toNat (List.getD p.1 (Int.toNat p.2.1) (0 : UInt8))) : Nat) : Int) == (92 : Int))
 ((z2o N p).bind fun y3 =>
 some (((1 : Int),(y3.1.1,(([] : List Tree),((0 : Int),((0 : Int),()))))),(y3.2.1,())))
 (zax N self p ((0 : Int),(([(0 : Int),(0 : Int),(0 : Int),(0 : Int)] : List Int),(([] : List Tree),((0 : Int),((0 : Int),()))))) (((UInt8.toNat (List.getD p.1 (Int.toNat p.2.1) (0 : UInt8))) : Nat) : Int)
 ((z2d N (((UInt8.toNat (List.getD p.1 (Int.toNat p.2.1) (0 : UInt8))) : Nat) : Int) (((UInt8.toNat (List.getD p.1 (Int.toNat p.2.1) (0 : UInt8))) : Nat) : Int)).bind fun y4 =>
 some (((1 : Int),(y4,(([] : List Tree),((0 : Int),((0 : Int),()))))),((p.1,((IntKind.wrap IntKind.i64 (p.2.1 + (1 : Int))),p.2.2)),()))))))))
 (none)
def t_81 (N:Nat) (self:z7) : Tab (DT7 × (DT5 × Unit)) := [(z1ch,z1k7 N self)]
theorem z18d (N:Nat) (self:z7) (x:z13 SQ0) : z4l (E_81 N self) N (t_81 N self) L_81 Tryd.f79 (mkS SQ0 0 x) (z35 (.v TT4) SQ0 0) = z66 N self x.1 := by kernel_rfl
def z5v (N:Nat) (self:z7) : List A -> Res := zz SQ0 (fun x=>z66 N self x.1) (z3p (.v TT4) SQ0 0)
theorem zay (N:Nat) (self:z7) (hself:Contract Tryd.prog glob 36 (zz SQ0 (fun x=>self x.1) (z3p (.v TT4) SQ0 0))) : Contract Tryd.prog glob 79 (z5v N self) :=
  Contract.of (E := E_81 N self) (H := t_81 N self) (L := L_81) (N := N) (body := zvc) (K := (z35 (.v TT4) SQ0 0)) (z1qb N self hself) Tryd.func79 (by kernel_rfl) (by decide) (fun _ hb=>(TabOk.cons (z1gb hb) TabOk.nil)) (fun x y h=>by rw [z18d]; exact h) (z2e (s := (.v TT4)) (os := SQ0) (m := 0))
def z9n : Code := (Tryd.f88.body).getD .skip
def z164 : List (List Nat × List Nat) := [([0],[0]),([0,1],[0,3]),([0,0,1,1],[12,0,3]),([1,0,1,1],[0,3]),([0,1,0,1,1],[0,3]),([0,1,1,1],[0,4,3]),([0,0,1,1,1,1],[0,4,3]),(z128,[37,4,0,3]),(z127,[4,0,3]),(z129,[0,3,4]),([0,0,1,0,0,0,1,1,1,1],[0,4,3]),([1,0,1,0,0,0,1,1,1,1],[0,4,3]),(z125,[0,4,3]),([0,1,1,1,1],[0,3,4]),(zq4,[75,0,3,4]),(zs4,[4,0,3]),(zz6,[4,0,3]),([0,0,1,1,1,1,1,1],[80,0,3,4]),([1,0,1,1,1,1,1,1],[4,0]),(z126,[4,0]),(zzg,[2,0]),(ztv,[2,0])]
def z14i (N:Nat) : Env := z1d tys glob [(99,z5x N),(95,z15 N)] [] [] [0] false [] [(76,za N)]
theorem z1qa (N:Nat) : EnvOk Tryd.prog (z14i N) := zi mixed zn (FnsOk.cons (z9p N) (FnsOk.cons (z1e N) (FnsOk.nil))) (ItsOk.cons (zb N) (ItsOk.nil))
def zc0 (N:Nat) (p:DT5) (from_:Int) (k0:DT5 -> Option (Int × (DT5 × Unit))) : Option (Int × (DT5 × Unit)) :=
 (z1g N p).bind fun y =>
 (z5y N y.1).bind fun y1 =>
 cond (!y1)
 (none)
 (k0 y.2.1)
def z1nl (N:Nat) (x:z13 z15y) (K:Ex -> List A -> Option (Int × (DT5 × Unit))) : Option (Int × (DT5 × Unit)) :=
 zc0 N x.1 x.2.1 (fun a0=>(K .normal (mkS z15y 81 (a0,x.2.1,()))))
def z1k6 (N:Nat) : Hd (Int × (DT5 × Unit)) := fun st K=>(unS z15y 81 (restr [0,3] 0 st)).bind fun x=>z1nl N x K
def t1_82 (N:Nat) : Tab (Int × (DT5 × Unit)) := []
theorem z1ga {N:Nat} {c:Ctx} (hb:Base Tryd.prog (z14i N) c) : zj Tryd.prog c (zh z9n [0,1,1]) (z1k6 N) :=
  zl (s := z15y) (m := 81) (g := z1nl N) [0,3] (ze hb N (t1_82 N) z164 z9n TabOk.nil [0,1,1] _ rfl) (fun x K=>by kernel_rfl)
def zby (N:Nat) (p:DT5) (from_:Int) (n:Int) (k0:Option (Int × (DT5 × Unit))) (k1:Option (Int × (DT5 × Unit))) : Option (Int × (DT5 × Unit)) :=
 cond (decide (p.2.1 < (((List.length p.1) : Nat) : Int)))
 (cond (inR p.2.1 (List.length p.1))
 ((z5y N (((UInt8.toNat (List.getD p.1 (Int.toNat p.2.1) (0 : UInt8))) : Nat) : Int)).bind fun y =>
 cond y
 (k0)
 (k1))
 (none))
 (k1)
def z1ln (N:Nat) (x:z13 SQ1) (K:Ex -> List A -> Option (Int × (DT5 × Unit))) : Option (Int × (DT5 × Unit)) :=
 zby N x.1 x.2.1 x.2.2.1 (K .normal (mkS SQ1 80 (x.1,x.2.1,x.2.2.1,()))) (K (.exit 0) (mkS SQ1 80 (x.1,x.2.1,x.2.2.1,())))
def z1i8 (N:Nat) : Hd (Int × (DT5 × Unit)) := fun st K=>(unS SQ1 80 (restr [0,4,3] 0 st)).bind fun x=>z1ln N x K
def t4_82 (N:Nat) : Tab (Int × (DT5 × Unit)) := []
theorem z1ec {N:Nat} {c:Ctx} (hb:Base Tryd.prog (z14i N) c) : zj Tryd.prog c (zh z9n zyx) (z1i8 N) :=
  zl (s := SQ1) (m := 80) (g := z1ln N) [0,4,3] (ze hb N (t4_82 N) z164 z9n TabOk.nil zyx _ rfl) (fun x K=>by kernel_rfl)
def zbv (N:Nat) (from_:Int) (p:DT5) (n:Int) (rec:DT5 -> Int -> Option (Int × (DT5 × Unit))) (k0:DT5 -> Int -> Option (Int × (DT5 × Unit))) : Option (Int × (DT5 × Unit)) :=
 zby N p from_ n
 (cond (inR p.2.1 (List.length p.1))
 (rec (p.1,((IntKind.wrap IntKind.i64 (p.2.1 + (1 : Int))),p.2.2)) (if ((17 : Int) < (IntKind.wrap IntKind.i64 ((IntKind.wrap IntKind.i64 ((10 : Int) * n)) + (IntKind.wrap IntKind.i64 (IntKind.wrap IntKind.u8 ((((UInt8.toNat (List.getD p.1 (Int.toNat p.2.1) (0 : UInt8))) : Nat) : Int) - (48 : Int))))))) then (17 : Int) else (IntKind.wrap IntKind.i64 ((IntKind.wrap IntKind.i64 ((10 : Int) * n)) + (IntKind.wrap IntKind.i64 (IntKind.wrap IntKind.u8 ((((UInt8.toNat (List.getD p.1 (Int.toNat p.2.1) (0 : UInt8))) : Nat) : Int) - (48 : Int))))))))
 (none))
 (k0 p n)
def zjj (N:Nat) (p:DT5) (from_:Int) (n:Int) (k0:DT5 -> Int -> Option (Int × (DT5 × Unit))) : Option (Int × (DT5 × Unit)) :=
 iter (fun (v:(DT5 × Int)) r=>zbv N from_ v.1 v.2 (fun p n=>(r (p,n))) k0) N (p,n)
def z1lz (N:Nat) (i:Int) (v:(DT5 × Int)) (r:(DT5 × Int) -> Option (Int × (DT5 × Unit))) (K:Ex -> List A -> Option (Int × (DT5 × Unit))) : Option (Int × (DT5 × Unit)) :=
 zbv N i v.1 v.2 (fun p n=>(r (p,n))) (fun a0 a2=>(K (.exit 0) (mkS SQ1 80 (a0,i,a2,()))))
def z1ik (N:Nat) : Hd (Int × (DT5 × Unit)) := fun st K=>(unS SQ1 80 (restr [0,4,3] 0 st)).bind fun x=>iter (fun v r=>z1lz N ((fun x=>x.2.1) x) v r K) N ((fun x=>(x.1,x.2.2.1)) x)
def t3_82 (N:Nat) : Tab (Int × (DT5 × Unit)) := [(zyx,z1i8 N)]
theorem z1eo {N:Nat} {c:Ctx} (hb:Base Tryd.prog (z14i N) c) : zj Tryd.prog c (zh z9n [0,0,1,1,1,1]) (z1ik N) :=
  z18 (s := SQ1) (m := 80) (z1lz N) [0,4,3] N (fun x=>x.2.1) (fun x=>(x.1,x.2.2.1)) (fun i v=>(v.1,i,v.2,())) (fun _=>rfl) (ze hb N (t3_82 N) z164 z9n (TabOk.cons (z1ec hb) TabOk.nil) [0,0,0,1,1,1,1] _ rfl) (fun i v r K=>by kernel_rfl)
def zbz (N:Nat) (p:DT5) (from_:Int) (n:Int) (k0:DT5 -> Int -> Option (Int × (DT5 × Unit))) : Option (Int × (DT5 × Unit)) :=
 zjj N p from_ n
 (fun p1 n1=>k0 p1 n1)
def z1mj (N:Nat) (x:z13 SQ1) (K:Ex -> List A -> Option (Int × (DT5 × Unit))) : Option (Int × (DT5 × Unit)) :=
 zbz N x.1 x.2.1 x.2.2.1 (fun a0 a2=>(K .normal (mkS SQ1 80 (a0,x.2.1,a2,()))))
def z1j4 (N:Nat) : Hd (Int × (DT5 × Unit)) := fun st K=>(unS SQ1 80 (restr [0,4,3] 0 st)).bind fun x=>z1mj N x K
def t2_82 (N:Nat) : Tab (Int × (DT5 × Unit)) := [([0,0,1,1,1,1],z1ik N)]
theorem z1f8 {N:Nat} {c:Ctx} (hb:Base Tryd.prog (z14i N) c) : zj Tryd.prog c (zh z9n [0,1,1,1,1]) (z1j4 N) :=
  zl (s := SQ1) (m := 80) (g := z1mj N) [0,4,3] (ze hb N (t2_82 N) z164 z9n (TabOk.cons (z1eo hb) TabOk.nil) [0,1,1,1,1] _ rfl) (fun x K=>by kernel_rfl)
def zbw (N:Nat) (p:DT5) (from_:Int) (n:Int) (k0:Bool -> Option (Int × (DT5 × Unit))) : Option (Int × (DT5 × Unit)) :=
 cond (inR from_ (List.length p.1))
 (cond ((((UInt8.toNat (List.getD p.1 (Int.toNat from_) (0 : UInt8))) : Nat) : Int) == (48 : Int))
 (k0 (decide ((IntKind.wrap IntKind.i64 (from_ + (1 : Int))) < p.2.1)))
 (k0 false))
 (none)
def z1le (N:Nat) (x:z13 SQ1) (K:Ex -> List A -> Option (Int × (DT5 × Unit))) : Option (Int × (DT5 × Unit)) :=
 zbw N x.1 x.2.1 x.2.2.1 (fun a3=>(K .normal (mkS z1p1 9 (x.1,x.2.1,x.2.2.1,a3,()))))
def z1hz (N:Nat) : Hd (Int × (DT5 × Unit)) := fun st K=>(unS SQ1 80 (restr [0,3,4] 0 st)).bind fun x=>z1le N x K
def t6_82 (N:Nat) : Tab (Int × (DT5 × Unit)) := []
theorem z1e3 {N:Nat} {c:Ctx} (hb:Base Tryd.prog (z14i N) c) : zj Tryd.prog c (zh z9n zq4) (z1hz N) :=
  zl (s := SQ1) (m := 80) (g := z1le N) [0,3,4] (ze hb N (t6_82 N) z164 z9n TabOk.nil zq4 _ rfl) (fun x K=>by kernel_rfl)
def zbx (N:Nat) (p:DT5) (from_:Int) (n:Int) (k0:Option (Int × (DT5 × Unit))) : Option (Int × (DT5 × Unit)) :=
 zbw N p from_ n
 (fun x75=>cond x75
 (none)
 (k0))
def z1lh (N:Nat) (x:z13 SQ1) (K:Ex -> List A -> Option (Int × (DT5 × Unit))) : Option (Int × (DT5 × Unit)) :=
 zbx N x.1 x.2.1 x.2.2.1 (K .normal (mkS SQ1 80 (x.1,x.2.1,x.2.2.1,())))
def z1i2 (N:Nat) : Hd (Int × (DT5 × Unit)) := fun st K=>(unS SQ1 80 (restr [0,3,4] 0 st)).bind fun x=>z1lh N x K
def t5_82 (N:Nat) : Tab (Int × (DT5 × Unit)) := [(zq4,z1hz N)]
theorem z1e6 {N:Nat} {c:Ctx} (hb:Base Tryd.prog (z14i N) c) : zj Tryd.prog c (zh z9n [0,1,1,1,1,1]) (z1i2 N) :=
  zl (s := SQ1) (m := 80) (g := z1lh N) [0,3,4] (ze hb N (t5_82 N) z164 z9n (TabOk.cons (z1e3 hb) TabOk.nil) [0,1,1,1,1,1] _ rfl) (fun x K=>by kernel_rfl)
def z3q (N:Nat) (p:DT5) : Option (Int × (DT5 × Unit)) :=
 zc0 N p p.2.1
 (fun p1=>zbz N p1 p.2.1 (0 : Int)
 (fun p2 n=>zbx N p2 p.2.1 n
 (cond (decide ((16 : Int) < n))
 (none)
 (some (n,(p2,()))))))
def t_82 (N:Nat) : Tab (Int × (DT5 × Unit)) := [([0,1,1],z1k6 N),([0,1,1,1,1],z1j4 N),([0,1,1,1,1,1],z1i2 N)]
theorem z18c (N:Nat) (x:z13 SQ0) : z4l (z14i N) N (t_82 N) z164 Tryd.f88 (mkS SQ0 0 x) (z35 (.v (.int .i64)) SQ0 0) = z3q N x.1 := by kernel_rfl
def z6k (N:Nat) : List A -> Res := zz SQ0 (fun x=>z3q N x.1) (z3p (.v (.int .i64)) SQ0 0)
theorem zc1 (N:Nat) : Contract Tryd.prog glob 88 (z6k N) :=
  Contract.of (E := z14i N) (H := t_82 N) (L := z164) (N := N) (body := z9n) (K := (z35 (.v (.int .i64)) SQ0 0)) (z1qa N) Tryd.func88 (by kernel_rfl) (by decide) (fun _ hb=>(TabOk.cons (z1ga hb) (TabOk.cons (z1f8 hb) (TabOk.cons (z1e6 hb) TabOk.nil)))) (fun x y h=>by rw [z18c]; exact h) (z2e (s := (.v (.int .i64))) (os := SQ0) (m := 0))
def zp6 : Code := (Tryd.f80.body).getD .skip
def L_83 : List (List Nat × List Nat) := [([0],[0]),([0,1],[0,4]),([0,1,1],[2,0,4]),([0,1,1,1],[0,2,3,4]),([0,0,1,1,1,1],[13,0,2,3,4]),([1,0,1,1,1,1],[3,2,0,4]),([0,0,0,1,0,1,1,1,1],[15,2,0]),([1,0,0,1,0,1,1,1,1],[0,2]),([0,0,1,0,0,1,0,1,1,1,1],[2,3,0]),(z14a,[2,3,0]),([0,1,0,1,0,1,1,1,1],[0,2,4]),([1,1,0,1,0,1,1,1,1],[3,2,0,4]),(zq4,[26,0,4,2,3]),(zs4,[0,2,3]),(zz6,[0,2,3]),(zyu,[2,3,0]),(zzg,[2,3,0]),(ztv,[2,3,0])]
def z1rz (N:Nat) : Env := z1d tys glob [(88,z6k N),(55,z1j N),(89,z1k N)] [] [] [0] false [] [(76,za N)]
theorem z1q9 (N:Nat) : EnvOk Tryd.prog (z1rz N) := zi mixed zn (FnsOk.cons (zc1 N) (FnsOk.cons (z1u N) (FnsOk.cons (z1v N) (FnsOk.nil)))) (ItsOk.cons (zb N) (ItsOk.nil))
def z94 (N:Nat) (p:DT5) (low:Int) (high:Int) (from_:Int) (k0:DT5 -> Int -> Option ((Int × Int × Unit) × (DT5 × Unit))) (k1:DT5 -> Int -> Int -> Option ((Int × Int × Unit) × (DT5 × Unit))) : Option ((Int × Int × Unit) × (DT5 × Unit)) :=
 (z17 N p (44 : Int)).bind fun y =>
 cond y.1
 ((z17 N y.2.1 (125 : Int)).bind fun y1 =>
 cond y1.1
 (k0 y1.2.1 (-(1 : Int)))
 ((z3q N y1.2.1).bind fun y2 =>
 k1 y2.2.1 y2.1 y1.2.1.2.1))
 (k1 y.2.1 high from_)
def z1nk (N:Nat) (x:z13 SQ8) (K:Ex -> List A -> Option ((Int × Int × Unit) × (DT5 × Unit))) : Option ((Int × Int × Unit) × (DT5 × Unit)) :=
 z94 N x.1 x.2.1 x.2.2.1 x.2.2.2.1 (fun a0 a2=>(K .ret (mkS SQ78 30 (a0,x.2.1,a2,())))) (fun a0 a2 a3=>(K .normal (mkS SQ8 29 (a0,x.2.1,a2,a3,()))))
def z1k5 (N:Nat) : Hd ((Int × Int × Unit) × (DT5 × Unit)) := fun st K=>(unS SQ8 29 (restr [0,2,3,4] 0 st)).bind fun x=>z1nk N x K
def t1_83 (N:Nat) : Tab ((Int × Int × Unit) × (DT5 × Unit)) := []
theorem z1g9 {N:Nat} {c:Ctx} (hb:Base Tryd.prog (z1rz N) c) : zj Tryd.prog c (zh zp6 [0,1,1,1,1]) (z1k5 N) :=
  zl (s := SQ8) (m := 29) (g := z1nk N) [0,2,3,4] (ze hb N (t1_83 N) L_83 zp6 TabOk.nil [0,1,1,1,1] _ rfl) (fun x K=>by kernel_rfl)
def z93 (N:Nat) (p:DT5) (low:Int) (high:Int) (from_:Int) (k0:Option ((Int × Int × Unit) × (DT5 × Unit))) : Option ((Int × Int × Unit) × (DT5 × Unit)) :=
 cond (decide (high < (if ((1 : Int) > low) then (1 : Int) else low)))
 (none)
 (k0)
def z1mi (N:Nat) (x:z13 SQ8) (K:Ex -> List A -> Option ((Int × Int × Unit) × (DT5 × Unit))) : Option ((Int × Int × Unit) × (DT5 × Unit)) :=
 z93 N x.1 x.2.1 x.2.2.1 x.2.2.2.1 (K .normal (mkS SQ78 30 (x.1,x.2.1,x.2.2.1,())))
def z1j3 (N:Nat) : Hd ((Int × Int × Unit) × (DT5 × Unit)) := fun st K=>(unS SQ8 29 (restr [3,2,0,4] 0 st)).bind fun x=>z1mi N x K
def t2_83 (N:Nat) : Tab ((Int × Int × Unit) × (DT5 × Unit)) := []
theorem z1f7 {N:Nat} {c:Ctx} (hb:Base Tryd.prog (z1rz N) c) : zj Tryd.prog c (zh zp6 [0,1,1,1,1,1]) (z1j3 N) :=
  zl (s := SQ8) (m := 29) (g := z1mi N) [3,2,0,4] (ze hb N (t2_83 N) L_83 zp6 TabOk.nil [0,1,1,1,1,1] _ rfl) (fun x K=>by kernel_rfl)
def z4y (N:Nat) (p:DT5) : Option ((Int × Int × Unit) × (DT5 × Unit)) :=
 (z3q N p).bind fun y =>
 z94 N y.2.1 y.1 y.1 p.2.1
 (fun p1 high=>some ((y.1,(high,())),(p1,())))
 (fun p2 high1 from_=>z93 N p2 y.1 high1 from_
 ((z1h N p2 (125 : Int)).bind fun y1 =>
 some ((y.1,(high1,())),(y1.2.1,()))))
def t_83 (N:Nat) : Tab ((Int × Int × Unit) × (DT5 × Unit)) := [([0,1,1,1,1],z1k5 N),([0,1,1,1,1,1],z1j3 N)]
theorem z18b (N:Nat) (x:z13 SQ0) : z4l (z1rz N) N (t_83 N) L_83 Tryd.f80 (mkS SQ0 0 x) (z35 (.tup [(.int .i64),(.int .i64)]) SQ0 0) = z4y N x.1 := by kernel_rfl
def z4w (N:Nat) : List A -> Res := zz SQ0 (fun x=>z4y N x.1) (z3p (.tup [(.int .i64),(.int .i64)]) SQ0 0)
theorem z95 (N:Nat) : Contract Tryd.prog glob 80 (z4w N) :=
  Contract.of (E := z1rz N) (H := t_83 N) (L := L_83) (N := N) (body := zp6) (K := (z35 (.tup [(.int .i64),(.int .i64)]) SQ0 0)) (z1q9 N) Tryd.func80 (by kernel_rfl) (by decide) (fun _ hb=>(TabOk.cons (z1g9 hb) (TabOk.cons (z1f7 hb) TabOk.nil))) (fun x y h=>by rw [z18b]; exact h) (z2e (s := (.tup [(.int .i64),(.int .i64)])) (os := SQ0) (m := 0))
def zvb : Code := (Tryd.f71.body).getD .skip
def L_84 : List (List Nat × List Nat) := [([0],[0,2]),([0,1],[0,3,2]),([0,0,1,1],[16,3,2,0]),([1,0,1,1],[3,0,2]),([0,0,1,0,1,1],[2,0]),([1,0,1,0,1,1],[2,0]),([0,1,1,1],[0,4,2,3]),([0,0,1,1,1,1],[29,4,0,2,3]),([0,0,0,0,0,0,0,0,0,0,0,0,0,0,1,0,1,1,1,1],[30,4,0,2,29,3]),([1,0,0,0,0,0,0,0,0,0,0,0,0,0,1,0,1,1,1,1],[29,0,4,2,3]),([0,1,0,0,0,0,0,0,0,0,0,0,0,0,0,1,0,1,1,1,1],[4,0,2]),([0,0,1,0,0,0,0,0,0,0,0,0,0,0,0,1,0,1,1,1,1],[32,0,4,2,29,3]),([1,0,1,0,0,0,0,0,0,0,0,0,0,0,0,1,0,1,1,1,1],[29,0,4,2,3]),([0,1,0,1,0,0,0,0,0,0,0,0,0,0,0,0,1,0,1,1,1,1],[0,4,2]),([0,0,1,1,0,0,0,0,0,0,0,0,0,0,0,0,1,0,1,1,1,1],[34,0,4,2,29,3]),([1,0,1,1,0,0,0,0,0,0,0,0,0,0,0,0,1,0,1,1,1,1],[29,0,4,2,3]),([0,1,0,1,1,0,0,0,0,0,0,0,0,0,0,0,0,1,0,1,1,1,1],[0,4,2]),([0,1,1,1,0,0,0,0,0,0,0,0,0,0,0,0,1,0,1,1,1,1],[36,0,4,2,3]),([1,1,1,1,0,0,0,0,0,0,0,0,0,0,0,0,1,0,1,1,1,1],[3,2,0]),([0,1,1,1,1,0,0,0,0,0,0,0,0,0,0,0,0,1,0,1,1,1,1],[0,4,2]),([1,0,0,0,0,0,0,0,0,0,0,0,1,0,1,1,1,1],[3,2,0]),([0,0,0,0,0,0,0,0,0,0,1,0,1,1,1,1],[4,0,2]),([1,0,0,0,0,0,0,0,0,0,1,0,1,1,1,1],[0,4,2]),(z162,[0,4,2]),([0,1,0,0,0,0,0,0,0,1,0,1,1,1,1],[4,2,0]),([1,1,0,0,0,0,0,0,0,1,0,1,1,1,1],[4,2,0]),([0,0,0,0,0,0,1,0,1,1,1,1],[0,4,2]),([0,0,1,0,0,0,0,0,1,0,1,1,1,1],[4,2,0]),([1,0,1,0,0,0,0,0,1,0,1,1,1,1],[4,2,0]),([1,1,0,0,0,0,0,1,0,1,1,1,1],[4,2,0]),([0,0,0,0,1,0,1,1,1,1],[0,4,2]),([0,0,1,0,0,0,1,0,1,1,1,1],[0,4,2]),([1,0,1,0,0,0,1,0,1,1,1,1],[4,2,0]),([1,1,0,0,0,1,0,1,1,1,1],[4,2,0]),(zwc,[3,2,0]),([0,0,1,0,1,0,1,1,1,1],[2,0]),([1,0,1,0,1,0,1,1,1,1],[2,0]),([1,1,0,1,0,1,1,1,1],[4,2,0]),([1,0,1,1,1,1],[4,2,0]),([0,1,1,1,1,1],[2,0]),([1,1,1,1,1,1],[2,0])]
def E_84 (N:Nat) (self:z7) : Env := z1d tys glob [(80,z4w N),(79,z5v N self),(36,zz SQ0 (fun x=>self x.1) (z3p (.v TT4) SQ0 0))] [] [] [0] false [] [(76,za N)]
theorem z1q8 (N:Nat) (self:z7) (hself:Contract Tryd.prog glob 36 (zz SQ0 (fun x=>self x.1) (z3p (.v TT4) SQ0 0))) : EnvOk Tryd.prog (E_84 N self) := zi mixed zn (FnsOk.cons (z95 N) (FnsOk.cons (zay N self hself) (FnsOk.cons (hself) (FnsOk.nil)))) (ItsOk.cons (zb N) (ItsOk.nil))
def za0 (N:Nat) (self:z7) (p:DT5) (x2:DT7) (kid:DT7) (rep:DT7) (x29:Int) (k0:DT7 -> Option (DT7 × (DT5 × Unit))) (k1:Option (DT7 × (DT5 × Unit))) (k2:Option (DT7 × (DT5 × Unit))) (k3:Option (DT7 × (DT5 × Unit))) : Option (DT7 × (DT5 × Unit)) :=
 cond (x29 == (43 : Int))
 (k0 (rep.1,(rep.2.1,(rep.2.2.1,((1 : Int),rep.2.2.2.2)))))
 (cond (x29 == (42 : Int))
 (k0 rep)
 (cond (x29 == (63 : Int))
 (k1)
 (cond (x29 == (123 : Int))
 (k2)
 (k3))))
def z1nj (N:Nat) (self:z7) (x:z13 z1cb) (K:Ex -> List A -> Option (DT7 × (DT5 × Unit))) : Option (DT7 × (DT5 × Unit)) :=
 za0 N self x.1 x.2.1 x.2.2.1 x.2.2.2.1 x.2.2.2.2.1 (fun a2=>(K .normal (mkS z1c9 65 (x.1,x.2.1,a2,())))) (K (.exit 3) (mkS z1c9 65 (x.1,x.2.1,x.2.2.2.1,()))) (K (.exit 4) (mkS z1c9 65 (x.1,x.2.1,x.2.2.2.1,()))) (K (.exit 5) (mkS [(0,.box (.pair .str TT1)),(1,.box TT4),(0,.box TT4)] 66 (x.1,x.2.1,x.2.2.1,())))
def z1k4 (N:Nat) (self:z7) : Hd (DT7 × (DT5 × Unit)) := fun st K=>(unS z1cb 40 (restr [29,4,0,2,3] 0 st)).bind fun x=>z1nj N self x K
def t1_84 (N:Nat) (self:z7) : Tab (DT7 × (DT5 × Unit)) := []
theorem z1g8 {N:Nat} {self:z7} {c:Ctx} (hb:Base Tryd.prog (E_84 N self) c) : zj Tryd.prog c (zh zvb z162) (z1k4 N self) :=
  zl (s := z1cb) (m := 40) (g := z1nj N self) [29,4,0,2,3] (ze hb N (t1_84 N self) L_84 zvb TabOk.nil z162 _ rfl) (fun x K=>by kernel_rfl)
def z5h (N:Nat) (self:z7) (p:DT5) : Option (DT7 × (DT5 × Unit)) :=
 (z66 N self p).bind fun y =>
 cond (y.2.1.2.1 == (((List.length y.2.1.1) : Nat) : Int))
 (some (y.1,(y.2.1,())))
 (cond (inR y.2.1.2.1 (List.length y.2.1.1))
 (za0 N self y.2.1 ((0 : Int),(([(0 : Int),(0 : Int),(0 : Int),(0 : Int)] : List Int),(([] : List Tree),((0 : Int),((0 : Int),()))))) y.1 ((4 : Int),(([(0 : Int),(0 : Int),(0 : Int),(0 : Int)] : List Int),((List.map foN ([y.1] : List zxo)),((0 : Int),((-(1 : Int)),()))))) (((UInt8.toNat (List.getD y.2.1.1 (Int.toNat y.2.1.2.1) (0 : UInt8))) : Nat) : Int)
 (fun rep=>some (rep,((y.2.1.1,((IntKind.wrap IntKind.i64 (y.2.1.2.1 + (1 : Int))),y.2.1.2.2)),())))
 (some (((4 : Int),(([(0 : Int),(0 : Int),(0 : Int),(0 : Int)] : List Int),((List.map foN ([y.1] : List zxo)),((0 : Int),((1 : Int),()))))),((y.2.1.1,((IntKind.wrap IntKind.i64 (y.2.1.2.1 + (1 : Int))),y.2.1.2.2)),())))
 ((z4y N (y.2.1.1,((IntKind.wrap IntKind.i64 (y.2.1.2.1 + (1 : Int))),y.2.1.2.2))).bind fun y1 =>
 some (((4 : Int),(([(0 : Int),(0 : Int),(0 : Int),(0 : Int)] : List Int),((List.map foN ([y.1] : List zxo)),(y1.1.1,(y1.1.2.1,()))))),(y1.2.1,())))
 (some (y.1,(y.2.1,()))))
 (none))
def t_84 (N:Nat) (self:z7) : Tab (DT7 × (DT5 × Unit)) := [(z162,z1k4 N self)]
theorem z18a (N:Nat) (self:z7) (x:z13 SQ0) : z4l (E_84 N self) N (t_84 N self) L_84 Tryd.f71 (mkS SQ0 0 x) (z35 (.v TT4) SQ0 0) = z5h N self x.1 := by kernel_rfl
def z59 (N:Nat) (self:z7) : List A -> Res := zz SQ0 (fun x=>z5h N self x.1) (z3p (.v TT4) SQ0 0)
theorem za1 (N:Nat) (self:z7) (hself:Contract Tryd.prog glob 36 (zz SQ0 (fun x=>self x.1) (z3p (.v TT4) SQ0 0))) : Contract Tryd.prog glob 71 (z59 N self) :=
  Contract.of (E := E_84 N self) (H := t_84 N self) (L := L_84) (N := N) (body := zvb) (K := (z35 (.v TT4) SQ0 0)) (z1q8 N self hself) Tryd.func71 (by kernel_rfl) (by decide) (fun _ hb=>(TabOk.cons (z1g8 hb) TabOk.nil)) (fun x y h=>by rw [z18a]; exact h) (z2e (s := (.v TT4)) (os := SQ0) (m := 0))
def zva : Code := (Tryd.f56.body).getD .skip
def L_85 : List (List Nat × List Nat) := [([0],[1,0,4]),([0,1],[1,0,5,4]),([0,0,1,1],[10,9,8,0,5,4]),([0,1,0,1,1],[10,9,8,0,5,4]),(zxn,[11,8,10,0,5,9,4]),(zts,[8,10,0,5,9,4]),(z123,[5,4,0]),(z124,[7,0,5,10,9,8,4]),(z12j,[17,5,7,10,9,8,0,4]),(z14c,[10,9,8,0,5,4]),([1,1,1,0,0,1,1,0,0,1,0,1,1],[10,9,8,0,5,4]),([0,1,1,0,0,1,1,0,0,1,0,1,1],[10,9,8,0,5,4]),(z122,[10,9,8,0,5,4]),(z121,[10,9,8,0,5,4]),([1,0,1,1],[5,4,0]),([0,0,1,1,1],[29,5,4,0]),([1,0,1,1,1],[0,5,4]),(ztr,[4]),(ztt,[4]),([0,1,1,1,1],[4]),([1,1,1,1,1],[4])]
def E_85 (N:Nat) : Env := z1d tys glob [] [(5,TT4)] [] [] false [] [(76,za N)]
theorem z1q7 (N:Nat) : EnvOk Tryd.prog (E_85 N) := zi mixed zn (FnsOk.nil) (ItsOk.cons (zb N) (ItsOk.nil))
def zkd (N:Nat) (kind:Int) (x4:DT7) (x8:(List Tree)) (x9:Int) (kids:(List DT7)) (x10:Int) (rec:(List DT7) -> Int -> Option DT7) (k0:(List DT7) -> Option DT7) : Option DT7 :=
 cond (decide (x10 < x9))
 (cond (inR x10 (List.length x8))
 (cond ((unN (List.getD x8 (Int.toNat x10) (Tree.mk (0 : Int) ([] : List Int) ([] : List Tree) (0 : Int) (0 : Int)))).1 == kind)
 (cond (decide ((((List.length kids) + (List.length (List.map unN (unN (List.getD x8 (Int.toNat x10) (Tree.mk (0 : Int) ([] : List Int) ([] : List Tree) (0 : Int) (0 : Int)))).2.2.1))) * 80) <= 70368744177664))
 (rec (kids ++ (List.map unN (unN (List.getD x8 (Int.toNat x10) (Tree.mk (0 : Int) ([] : List Int) ([] : List Tree) (0 : Int) (0 : Int)))).2.2.1)) (IntKind.wrap IntKind.i64 (x10 + (1 : Int))))
 (none))
 (cond (decide ((((List.length kids) + 1) * 80) <= 70368744177664))
 (rec (kids ++ ([(unN (List.getD x8 (Int.toNat x10) (Tree.mk (0 : Int) ([] : List Int) ([] : List Tree) (0 : Int) (0 : Int))))] : List zxo)) (IntKind.wrap IntKind.i64 (x10 + (1 : Int))))
 (none)))
 (none))
 (k0 kids)
def zrd (N:Nat) (kind:Int) (x4:DT7) (kids:(List DT7)) (x8:(List Tree)) (x9:Int) (x10:Int) (k0:(List DT7) -> Option DT7) : Option DT7 :=
 iter (fun (v:((List DT7) × Int)) r=>zkd N kind x4 x8 x9 v.1 v.2 (fun kids x10=>(r (kids,x10))) k0) N (kids,x10)
def z1ni (N:Nat) (i:(Int × DT7 × (List Tree) × Int)) (v:((List DT7) × Int)) (r:((List DT7) × Int) -> Option DT7) (K:Ex -> List A -> Option DT7) : Option DT7 :=
 zkd N i.1 i.2.1 i.2.2.1 i.2.2.2 v.1 v.2 (fun kids x10=>(r (kids,x10))) (fun a2=>(K (.exit 0) (mkS [(0,.v (.int .i64)),(3,.box TT4),(0,.row TT4)] 30 (i.1,i.2.1,a2,()))))
def z1k3 (N:Nat) : Hd DT7 := fun st K=>(unS z1pi 25 (restr [10,9,8,0,5,4] 0 st)).bind fun x=>iter (fun v r=>z1ni N ((fun x=>(x.1,x.2.1,x.2.2.2.1,x.2.2.2.2.1)) x) v r K) N ((fun x=>(x.2.2.1,x.2.2.2.2.2.1)) x)
def t1_85 (N:Nat) : Tab DT7 := []
theorem z1g7 {N:Nat} {c:Ctx} (hb:Base Tryd.prog (E_85 N) c) : zj Tryd.prog c (zh zva [0,1,0,1,1]) (z1k3 N) :=
  z18 (s := z1pi) (m := 25) (z1ni N) [10,9,8,0,5,4] N (fun x=>(x.1,x.2.1,x.2.2.2.1,x.2.2.2.2.1)) (fun x=>(x.2.2.1,x.2.2.2.2.2.1)) (fun i v=>(i.1,i.2.1,v.1,i.2.2.1,i.2.2.2,v.2,())) (fun _=>rfl) (ze hb N (t1_85 N) L_85 zva TabOk.nil [0,0,1,0,1,1] _ rfl) (fun i v r K=>by kernel_rfl)
def zbn (N:Nat) (kind:Int) (parts:(List Tree)) : Option DT7 :=
 zrd N kind ((0 : Int),(([(0 : Int),(0 : Int),(0 : Int),(0 : Int)] : List Int),(([] : List Tree),((0 : Int),((0 : Int),()))))) ([] : List zxo) parts (((List.length parts) : Nat) : Int) (0 : Int)
 (fun kids=>cond ((((List.length kids) : Nat) : Int) == (1 : Int))
 (cond (inR (0 : Int) (List.length kids))
 (cond (decide (0 < (List.length kids)))
 (some (List.getD kids 0 ((0 : Int),(([] : List Int),(([] : List Tree),((0 : Int),((0 : Int),())))))))
 (none))
 (none))
 (some (kind,(([(0 : Int),(0 : Int),(0 : Int),(0 : Int)] : List Int),((List.map foN kids),((0 : Int),((0 : Int),())))))))
def t_85 (N:Nat) : Tab DT7 := [([0,1,0,1,1],z1k3 N)]
theorem z189 (N:Nat) (x:z13 [(0,.v (.int .i64)),(0,.v (.sl .nod))]) : z4l (E_85 N) N (t_85 N) L_85 Tryd.f56 (mkS [(0,.v (.int .i64)),(0,.v (.sl .nod))] 0 x) (z2v (.v TT4) 2) = zbn N x.1 x.2.1 := by kernel_rfl
def z7b (N:Nat) : List A -> Res := zz [(0,.v (.int .i64)),(0,.v (.sl .nod))] (fun x=>zbn N x.1 x.2.1) (z70 (.v TT4) 2)
theorem zbh (N:Nat) : Contract Tryd.prog glob 56 (z7b N) :=
  Contract.of (E := E_85 N) (H := t_85 N) (L := L_85) (N := N) (body := zva) (K := (z2v (.v TT4) 2)) (z1q7 N) Tryd.func56 (by kernel_rfl) (by decide) (fun _ hb=>(TabOk.cons (z1g7 hb) TabOk.nil)) (fun x y h=>by rw [z189]; exact h) (z16 (s := (.v TT4)) (m := 2))
def zjw : Code := (Tryd.f54.body).getD .skip
def z1pl : List (List Nat × List Nat) := [([0],[0,2]),([0,1],[0,3,2]),([0,0,1,1],[0,3,2]),(zyw,[37,3,0,2]),(zyv,[3,0,2]),(zyy,[3,2,0]),([0,1,0,0,0,1,1],[0,3,2]),([1,0,0,0,1,1],[0,3,2]),([0,1,1],[3,2,0]),([0,1,1,1],[2,0]),([1,1,1,1],[2,0])]
def z1cr (N:Nat) (self:z7) : Env := z1d tys glob [(56,z7b N),(71,z59 N self),(36,zz SQ0 (fun x=>self x.1) (z3p (.v TT4) SQ0 0))] [(3,TT4)] [] [0] false [] [(76,za N)]
theorem z1q6 (N:Nat) (self:z7) (hself:Contract Tryd.prog glob 36 (zz SQ0 (fun x=>self x.1) (z3p (.v TT4) SQ0 0))) : EnvOk Tryd.prog (z1cr N self) := zi mixed zn (FnsOk.cons (zbh N) (FnsOk.cons (za1 N self hself) (FnsOk.cons (hself) (FnsOk.nil)))) (ItsOk.cons (zb N) (ItsOk.nil))
def zc6 (N:Nat) (self:z7) (p:DT5) (x2:DT7) (parts:(List DT7)) (k0:Option (DT7 × (DT5 × Unit))) (k1:Option (DT7 × (DT5 × Unit))) : Option (DT7 × (DT5 × Unit)) :=
 cond (decide (p.2.1 < (((List.length p.1) : Nat) : Int)))
 (cond (inR p.2.1 (List.length p.1))
 (cond ((((UInt8.toNat (List.getD p.1 (Int.toNat p.2.1) (0 : UInt8))) : Nat) : Int) != (124 : Int))
 (cond (inR p.2.1 (List.length p.1))
 (cond ((((UInt8.toNat (List.getD p.1 (Int.toNat p.2.1) (0 : UInt8))) : Nat) : Int) != (41 : Int))
 (k0)
 (k1))
 (none))
 (k1))
 (none))
 (k1)
def z1ly (N:Nat) (self:z7) (x:z13 SQ3) (K:Ex -> List A -> Option (DT7 × (DT5 × Unit))) : Option (DT7 × (DT5 × Unit)) :=
 zc6 N self x.1 x.2.1 x.2.2.1 (K .normal (mkS SQ3 41 (x.1,x.2.1,x.2.2.1,()))) (K (.exit 0) (mkS SQ3 41 (x.1,x.2.1,x.2.2.1,())))
def z1ij (N:Nat) (self:z7) : Hd (DT7 × (DT5 × Unit)) := fun st K=>(unS SQ3 41 (restr [0,3,2] 0 st)).bind fun x=>z1ly N self x K
def t3_86 (N:Nat) (self:z7) : Tab (DT7 × (DT5 × Unit)) := []
theorem z1en {N:Nat} {self:z7} {c:Ctx} (hb:Base Tryd.prog (z1cr N self) c) : zj Tryd.prog c (zh zjw [0,0,0,0,1,1]) (z1ij N self) :=
  zl (s := SQ3) (m := 41) (g := z1ly N self) [0,3,2] (ze hb N (t3_86 N self) z1pl zjw TabOk.nil [0,0,0,0,1,1] _ rfl) (fun x K=>by kernel_rfl)
def zc5 (N:Nat) (self:z7) (x2:DT7) (p:DT5) (parts:(List DT7)) (rec:DT5 -> (List DT7) -> Option (DT7 × (DT5 × Unit))) (k0:DT5 -> (List DT7) -> Option (DT7 × (DT5 × Unit))) : Option (DT7 × (DT5 × Unit)) :=
 zc6 N self p x2 parts
 ((z5h N self p).bind fun y =>
 cond (decide ((((List.length parts) + 1) * 80) <= 70368744177664))
 (rec y.2.1 (parts ++ ([y.1] : List zxo)))
 (none))
 (k0 p parts)
def zjk (N:Nat) (self:z7) (p:DT5) (x2:DT7) (parts:(List DT7)) (k0:DT5 -> (List DT7) -> Option (DT7 × (DT5 × Unit))) : Option (DT7 × (DT5 × Unit)) :=
 iter (fun (v:(DT5 × (List DT7))) r=>zc5 N self x2 v.1 v.2 (fun p parts=>(r (p,parts))) k0) N (p,parts)
def z1mh (N:Nat) (self:z7) (i:DT7) (v:(DT5 × (List DT7))) (r:(DT5 × (List DT7)) -> Option (DT7 × (DT5 × Unit))) (K:Ex -> List A -> Option (DT7 × (DT5 × Unit))) : Option (DT7 × (DT5 × Unit)) :=
 zc5 N self i v.1 v.2 (fun p parts=>(r (p,parts))) (fun a0 a2=>(K (.exit 0) (mkS SQ3 41 (a0,i,a2,()))))
def z1j2 (N:Nat) (self:z7) : Hd (DT7 × (DT5 × Unit)) := fun st K=>(unS SQ3 41 (restr [0,3,2] 0 st)).bind fun x=>iter (fun v r=>z1mh N self ((fun x=>x.2.1) x) v r K) N ((fun x=>(x.1,x.2.2.1)) x)
def t2_86 (N:Nat) (self:z7) : Tab (DT7 × (DT5 × Unit)) := [([0,0,0,0,1,1],z1ij N self)]
theorem z1f6 {N:Nat} {self:z7} {c:Ctx} (hb:Base Tryd.prog (z1cr N self) c) : zj Tryd.prog c (zh zjw [0,0,1,1]) (z1j2 N self) :=
  z18 (s := SQ3) (m := 41) (z1mh N self) [0,3,2] N (fun x=>x.2.1) (fun x=>(x.1,x.2.2.1)) (fun i v=>(v.1,i,v.2,())) (fun _=>rfl) (ze hb N (t2_86 N self) z1pl zjw (TabOk.cons (z1en hb) TabOk.nil) [0,0,0,1,1] _ rfl) (fun i v r K=>by kernel_rfl)
def zc7 (N:Nat) (self:z7) (p:DT5) (x2:DT7) (parts:(List DT7)) (k0:DT5 -> (List DT7) -> Option (DT7 × (DT5 × Unit))) : Option (DT7 × (DT5 × Unit)) :=
 zjk N self p x2 parts
 (fun p1 zkh=>k0 p1 zkh)
end
end Go.Proofs.YtgbcebmahbieoaaDoorLg
set_option linter.all false
set_option maxRecDepth 100000
namespace Go.Proofs.YtgbcebmahbieoaaDoorLg
noncomputable section
open Go Go.Lift
def z1nh (N:Nat) (self:z7) (x:z13 SQ3) (K:Ex -> List A -> Option (DT7 × (DT5 × Unit))) : Option (DT7 × (DT5 × Unit)) :=
 zc7 N self x.1 x.2.1 x.2.2.1 (fun a0 a2=>(K .normal (mkS SQ3 41 (a0,x.2.1,a2,()))))
def z1k2 (N:Nat) (self:z7) : Hd (DT7 × (DT5 × Unit)) := fun st K=>(unS SQ3 41 (restr [0,3,2] 0 st)).bind fun x=>z1nh N self x K
def t1_86 (N:Nat) (self:z7) : Tab (DT7 × (DT5 × Unit)) := [([0,0,1,1],z1j2 N self)]
theorem z1g6 {N:Nat} {self:z7} {c:Ctx} (hb:Base Tryd.prog (z1cr N self) c) : zj Tryd.prog c (zh zjw [0,1,1]) (z1k2 N self) :=
  zl (s := SQ3) (m := 41) (g := z1nh N self) [0,3,2] (ze hb N (t1_86 N self) z1pl zjw (TabOk.cons (z1f6 hb) TabOk.nil) [0,1,1] _ rfl) (fun x K=>by kernel_rfl)
def z3s (N:Nat) (self:z7) (p:DT5) : Option (DT7 × (DT5 × Unit)) :=
 zc7 N self p ((0 : Int),(([(0 : Int),(0 : Int),(0 : Int),(0 : Int)] : List Int),(([] : List Tree),((0 : Int),((0 : Int),()))))) ([] : List zxo)
 (fun p1 parts=>(zbn N (2 : Int) (List.map foN parts)).bind fun y =>
 some (y,(p1,())))
def t_86 (N:Nat) (self:z7) : Tab (DT7 × (DT5 × Unit)) := [([0,1,1],z1k2 N self)]
theorem z188 (N:Nat) (self:z7) (x:z13 SQ0) : z4l (z1cr N self) N (t_86 N self) z1pl Tryd.f54 (mkS SQ0 0 x) (z35 (.v TT4) SQ0 0) = z3s N self x.1 := by kernel_rfl
def z6m (N:Nat) (self:z7) : List A -> Res := zz SQ0 (fun x=>z3s N self x.1) (z3p (.v TT4) SQ0 0)
theorem zc8 (N:Nat) (self:z7) (hself:Contract Tryd.prog glob 36 (zz SQ0 (fun x=>self x.1) (z3p (.v TT4) SQ0 0))) : Contract Tryd.prog glob 54 (z6m N self) :=
  Contract.of (E := z1cr N self) (H := t_86 N self) (L := z1pl) (N := N) (body := zjw) (K := (z35 (.v TT4) SQ0 0)) (z1q6 N self hself) Tryd.func54 (by kernel_rfl) (by decide) (fun _ hb=>(TabOk.cons (z1g6 hb) TabOk.nil)) (fun x y h=>by rw [z188]; exact h) (z2e (s := (.v TT4)) (os := SQ0) (m := 0))
def zs0 : Code := (Tryd.f36.body).getD .skip
def L_87 : List (List Nat × List Nat) := [([0],[0,2]),([0,1],[0,3,2]),([0,0,1,1],[0,3,2]),(zyw,[8,3,0,2]),(zyv,[3,0,2]),(zyy,[3,2,0]),([0,1,0,0,0,1,1],[0,3,2]),([1,0,0,0,1,1],[0,3,2]),([0,1,1],[3,2,0]),([0,1,1,1],[2,0]),([1,1,1,1],[2,0])]
def E_87 (N:Nat) (self:DT5 -> Option (DT7 × (DT5 × Unit))) : Env := z1d tys glob [(54,z6m N self),(56,z7b N),(55,z1j N),(36,zz SQ0 (fun x=>self x.1) (z3p (.v TT4) SQ0 0))] [(3,TT4)] [] [0] false [] [(76,za N)]
theorem z1q5 (N:Nat) (self:DT5 -> Option (DT7 × (DT5 × Unit))) (hself:Contract Tryd.prog glob 36 (zz SQ0 (fun x=>self x.1) (z3p (.v TT4) SQ0 0))) : EnvOk Tryd.prog (E_87 N self) := zi mixed zn (FnsOk.cons (zc8 N self hself) (FnsOk.cons (zbh N) (FnsOk.cons (z1u N) (FnsOk.cons (hself) (FnsOk.nil))))) (ItsOk.cons (zb N) (ItsOk.nil))
def zc9 (N:Nat) (self:DT5 -> Option (DT7 × (DT5 × Unit))) (x2:DT7) (p:DT5) (parts:(List DT7)) (rec:DT5 -> (List DT7) -> Option (DT7 × (DT5 × Unit))) (k0:DT5 -> (List DT7) -> Option (DT7 × (DT5 × Unit))) : Option (DT7 × (DT5 × Unit)) :=
 (z17 N p (124 : Int)).bind fun y =>
 cond y.1
 ((z3s N self y.2.1).bind fun y1 =>
 cond (decide ((((List.length parts) + 1) * 80) <= 70368744177664))
 (rec y1.2.1 (parts ++ ([y1.1] : List zxo)))
 (none))
 (k0 y.2.1 parts)
def zjl (N:Nat) (self:DT5 -> Option (DT7 × (DT5 × Unit))) (p:DT5) (x2:DT7) (parts:(List DT7)) (k0:DT5 -> (List DT7) -> Option (DT7 × (DT5 × Unit))) : Option (DT7 × (DT5 × Unit)) :=
 iter (fun (v:(DT5 × (List DT7))) r=>zc9 N self x2 v.1 v.2 (fun p parts=>(r (p,parts))) k0) N (p,parts)
def z1ng (N:Nat) (self:DT5 -> Option (DT7 × (DT5 × Unit))) (i:DT7) (v:(DT5 × (List DT7))) (r:(DT5 × (List DT7)) -> Option (DT7 × (DT5 × Unit))) (K:Ex -> List A -> Option (DT7 × (DT5 × Unit))) : Option (DT7 × (DT5 × Unit)) :=
 zc9 N self i v.1 v.2 (fun p parts=>(r (p,parts))) (fun a0 a2=>(K (.exit 0) (mkS SQ3 12 (a0,i,a2,()))))
def z1k1 (N:Nat) (self:DT5 -> Option (DT7 × (DT5 × Unit))) : Hd (DT7 × (DT5 × Unit)) := fun st K=>(unS SQ3 12 (restr [0,3,2] 0 st)).bind fun x=>iter (fun v r=>z1ng N self ((fun x=>x.2.1) x) v r K) N ((fun x=>(x.1,x.2.2.1)) x)
def t1_87 (N:Nat) (self:DT5 -> Option (DT7 × (DT5 × Unit))) : Tab (DT7 × (DT5 × Unit)) := []
theorem z1g5 {N:Nat} {self:DT5 -> Option (DT7 × (DT5 × Unit))} {c:Ctx} (hb:Base Tryd.prog (E_87 N self) c) : zj Tryd.prog c (zh zs0 [0,0,1,1]) (z1k1 N self) :=
  z18 (s := SQ3) (m := 12) (z1ng N self) [0,3,2] N (fun x=>x.2.1) (fun x=>(x.1,x.2.2.1)) (fun i v=>(v.1,i,v.2,())) (fun _=>rfl) (ze hb N (t1_87 N self) L_87 zs0 TabOk.nil [0,0,0,1,1] _ rfl) (fun i v r K=>by kernel_rfl)
def zd3 (N:Nat) (self:DT5 -> Option (DT7 × (DT5 × Unit))) (p:DT5) : Option (DT7 × (DT5 × Unit)) :=
 (z3s N self p).bind fun y =>
 zjl N self y.2.1 ((0 : Int),(([(0 : Int),(0 : Int),(0 : Int),(0 : Int)] : List Int),(([] : List Tree),((0 : Int),((0 : Int),()))))) ([y.1] : List zxo)
 (fun p1 parts=>(zbn N (3 : Int) (List.map foN parts)).bind fun y1 =>
 some (y1,(p1,())))
def t_87 (N:Nat) (self:DT5 -> Option (DT7 × (DT5 × Unit))) : Tab (DT7 × (DT5 × Unit)) := [([0,0,1,1],z1k1 N self)]
theorem z187 (N:Nat) (self:DT5 -> Option (DT7 × (DT5 × Unit))) (x:z13 SQ0) : z4l (E_87 N self) N (t_87 N self) L_87 Tryd.f36 (mkS SQ0 0 x) (z35 (.v TT4) SQ0 0) = zd3 N self x.1 := by kernel_rfl
def zq : Nat -> DT5 -> Option (DT7 × (DT5 × Unit))
  | 0=>fun _=>none
  | N + 1=>zd3 (N + 1) (zq N)
def zaz (N:Nat) : List A -> Res := zz SQ0 (fun x=>zq N x.1) (z3p (.v TT4) SQ0 0)
theorem z2b : ∀ N : Nat,Contract Tryd.prog glob 36 (zaz N)
  | 0=>Contract.zero Tryd.func36 (body := zs0) (by kernel_rfl) (by decide) (fun _=>rfl)
  | N + 1=>Contract.of (E := E_87 (N + 1) (zq N)) (H := t_87 (N + 1) (zq N)) (L := L_87) (N := (N + 1)) (body := zs0) (K := (z35 (.v TT4) SQ0 0)) (z1q5 (N + 1) (zq N) (z2b N)) Tryd.func36 (by kernel_rfl) (by decide) (fun _ hb=>(TabOk.cons (z1g5 hb) TabOk.nil)) (fun x y h=>by rw [z187]; exact h) (z2e (s := (.v TT4)) (os := SQ0) (m := 0))
end
end Go.Proofs.YtgbcebmahbieoaaDoorLg
set_option linter.all false
namespace Go.Proofs.YtgbcebmahbieoaaDoorPx
noncomputable section
open Go Go.Lift
theorem zop {σ β : Type} {step : σ -> (σ -> Option β) -> Option β} (I : σ -> Prop) (m : σ -> Nat) (R : σ -> Option β)
    (h : ∀ v r,I v -> (∀ v',I v' -> m v' < m v -> r v' = R v') -> step v r = R v) : ∀ (n:Nat) (v : σ),I v -> m v < n -> iter step n v = R v
  | 0,v,_,hm=>by omega
  | n + 1,v,hv,hm=>h v (iter step n) hv fun v' hv' hlt=>zop I m R h n v' hv' (by omega)
theorem z1cx (x:Int) : IntKind.wrap .i64 x = (x + 9223372036854775808) % 18446744073709551616 - 9223372036854775808 := by
  simp only [IntKind.wrap,IntKind.bits,IntKind.signed,Bool.true_and,decide_eq_true_eq,Nat.add_one_sub_one,Int.reducePow,ge_iff_le]
  split <;> omega
def I64 (x:Int) : Prop := -9223372036854775808 <= x /\ x <= 9223372036854775807
instance (x:Int) : Decidable (I64 x) := by unfold I64; infer_instance
theorem zl6 {x:Int} (h:I64 x) : IntKind.wrap .i64 x = x := by
  rw [z1cx]; unfold I64 at h; omega
theorem z7f {α : Type} {b:Bool} (h:b = true) (x y : α) : cond b x y = x := by rw [h]; rfl
theorem z84 {α : Type} {b:Bool} (h:b = false) (x y : α) : cond b x y = y := by rw [h]; rfl
theorem z3m {n len:Nat} (h:n < len) : inR (n:Int) len = true := by simp only [inR,decide_eq_true_eq]; omega
theorem z14x {i:Int} {len:Nat} (h : 0 <= i) (h':i < len) : inR i len = true := by simp only [inR,decide_eq_true_eq]; omega
end
end Go.Proofs.YtgbcebmahbieoaaDoorPx
set_option linter.all false
namespace Go.Proofs.YtgbcebmahbieoaaDoorPx
noncomputable section
open Go Go.Lift
theorem z5n {i:Nat} (h:i < 9223372036854775807) : IntKind.wrap .i64 ((i:Int) + 1) = ((i + 1 : Nat) : Int) := by
  rw [zl6 (by unfold I64; omega)]; omega
theorem z8r {α : Type} (l:List α) (d : α) (i:Nat) (h:i < l.length) : l.drop i = l.getD i d :: l.drop (i + 1) := by
  rw [List.getD_eq_getElem?_getD,List.getElem?_eq_getElem h,Option.getD_some,List.drop_eq_getElem_cons h]
theorem z4r {p:Prop} [Decidable p] (h:p) : decide p = true := decide_eq_true h
theorem z4m {p:Prop} [Decidable p] (h : ¬ p) : decide p = false := decide_eq_false h
theorem take_succ {α : Type} (l:List α) (d : α) (i:Nat) (h:i < l.length) : l.take (i + 1) = l.take i ++ [l.getD i d] := by
  rw [List.getD_eq_getElem?_getD,List.getElem?_eq_getElem h,Option.getD_some,List.take_succ_eq_append_getElem h]
end
end Go.Proofs.YtgbcebmahbieoaaDoorPx
set_option linter.all false
namespace Go.Proofs.YtgbcebmahbieoaaDoorPx
noncomputable section
open Go Go.Lift
def U64 (x:Int) : Prop := 0 <= x /\ x < 18446744073709551616
instance (x:Int) : Decidable (U64 x) := by unfold U64; infer_instance
def SetOk (s:List Int) : Prop := ∃ a b c d,s = [a,b,c,d] /\ U64 a /\ U64 b /\ U64 c /\ U64 d
theorem SetOk.length {s:List Int} (h:SetOk s) : s.length = 4 := by
  obtain ⟨a,b,c,d,rfl,_⟩ := h; rfl
theorem SetOk.word {s:List Int} (h:SetOk s) {i:Nat} (hi:i < 4) : U64 (s.getD i 0) := by
  obtain ⟨a,b,c,d,rfl,ha,hb,hc,hd⟩ := h
  match i,hi with
  | 0,_=>exact ha
  | 1,_=>exact hb
  | 2,_=>exact hc
  | 3,_=>exact hd
theorem SetOk.set {s:List Int} (h:SetOk s) {i:Nat} (hi:i < 4) {x:Int} (hx:U64 x) : SetOk (s.set i x) := by
  obtain ⟨a,b,c,d,rfl,ha,hb,hc,hd⟩ := h
  match i,hi with
  | 0,_=>exact ⟨x,b,c,d,rfl,hx,hb,hc,hd⟩
  | 1,_=>exact ⟨a,x,c,d,rfl,ha,hx,hc,hd⟩
  | 2,_=>exact ⟨a,b,x,d,rfl,ha,hb,hx,hd⟩
  | 3,_=>exact ⟨a,b,c,x,rfl,ha,hb,hc,hx⟩
theorem SetOk.map {s:List Int} (f:Int -> Int) (hf : ∀ x,U64 x -> U64 (f x)) (hs:SetOk s) : SetOk (s.map f) := by
  obtain ⟨a,b,c,d,rfl,ha,hb,hc,hd⟩ := hs
  exact ⟨_,_,_,_,rfl,hf _ ha,hf _ hb,hf _ hc,hf _ hd⟩
end
end Go.Proofs.YtgbcebmahbieoaaDoorPx
set_option linter.all false
namespace Go.Proofs.YtgbcebmahbieoaaDoorPx
noncomputable section
open Go Go.Lift
def z17s (k:Nat) : Nat -> Nat
  | 0=>0
  | n + 1=>(2 ^ k - 1) + 2 ^ (2 * k) * z17s k n
end
end Go.Proofs.YtgbcebmahbieoaaDoorPx
set_option linter.all false
namespace Go.Proofs.YtgbcebmahbieoaaDoorPx
noncomputable section
open Go Go.Lift
theorem m1 : (6148914691236517205 : Nat) = z17s 1 32 := by decide
theorem m2 : (3689348814741910323 : Nat) = z17s 2 16 := by decide
end
end Go.Proofs.YtgbcebmahbieoaaDoorPx
set_option linter.all false
namespace Go.Proofs.YtgbcebmahbieoaaDoorPx
noncomputable section
open Go Go.Lift
def zbt : Int -> List Int -> Bool
  | _,[]=>true
  | t,x :: l=>cond (decide (x < 0)) false (cond (decide (t + 1 < x)) false (zbt (if x > t then x else t) l))
def zr5 (t:Int) (l:List Int) : Int := l.foldl (fun t x=>if x > t then x else t) t
theorem zno : ∀ (l:List Int) (t:Int),t <= zr5 t l
  | [],t=>Int.le_refl _
  | x :: l,t=>by
    have := zno l (if x > t then x else t)
    show t <= zr5 (if x > t then x else t) l
    split at this <;> split <;> omega
theorem ztz : ∀ (l:List Int) (t:Int),zbt t l = true -> zr5 t l <= t + l.length
  | [],t,_=>by show t <= _; omega
  | x :: l,t,h=>by
    have e : zr5 t (x :: l) = zr5 (if x > t then x else t) l := rfl
    rw [zbt] at h
    cases h1 : decide (x < 0)
    . cases h2 : decide (t + 1 < x)
      . rw [h1,h2] at h
        have ih := ztz l _ h
        have h3 := of_decide_eq_false h2
        rw [e,List.length_cons]
        split at ih <;> split <;> omega
      . rw [h1,h2] at h; exact absurd h Bool.false_ne_true
    . rw [h1] at h; exact absurd h Bool.false_ne_true
theorem zse (x:Int) (l:List Int) : zbt (-1) (x :: l) = cond (x != 0) false (zbt 0 (x :: l)) := by
  rw [zbt,zbt]
  by_cases h : x = 0
  . subst h; rfl
  . have h1 : (x != 0) = true := bne_iff_ne.2 h
    rw [h1]
    by_cases h2 : x < 0
    . rw [z4r h2]; rfl
    . rw [z4m h2,z4r (p := (-1 : Int) + 1 < x) (by omega)]; rfl
end
end Go.Proofs.YtgbcebmahbieoaaDoorPx
set_option linter.all false
set_option maxRecDepth 100000
namespace Go.Proofs.YtgbcebmahbieoaaDoorLg
noncomputable section
open Go Go.Lift Go.Proofs.YtgbcebmahbieoaaDoorPx
def z8b (a:List Int) : Bool := decide (a.length = 256) && zbt (-1) a
theorem zvv {n m:Nat} : (((n:Nat) : Int) != (m:Int)) = !decide (n = m) := by
  by_cases h : n = m
  . rw [z4r h,h]; simp
  . rw [z4m h]
    exact bne_iff_ne.2 (by omega)
theorem zwx (N:Nat) (a:List Int) (hN : 257 < N) : z62 N a = some (z8b a) := by
  rw [z62,zcq,zcp,show ((256 : Int)) = ((256 : Nat) : Int) from rfl,zvv,z8b]
  by_cases hl : a.length = 256
  . have hx := z8r a 0 0 (by omega)
    rw [List.drop_zero] at hx
    rw [z4r hl,Bool.not_true,z84 rfl,z7f (z14x (by omega) (by omega)),Bool.true_and]
    rw [hx,zse, <- hx]
    by_cases h0 : (a.getD 0 0 != 0) = true
    . rw [h0]; rfl
    . have h0 : (a.getD 0 0 != 0) = false := by simpa using h0
      rw [h0,z84 rfl,z84 rfl,zht]
      have h := zop (step := fun (v:(Int × Int)) r=>z8x N a (((List.length a) : Nat) : Int) v.1 v.2 (fun most x17=>(r (most,x17))) (fun x21=>some x21) (some true))
        (I := fun v=>0 <= v.2 /\ v.2 <= 256 /\ 0 <= v.1 /\ v.1 <= v.2) (m := fun v=>256 - v.2.toNat) (R := fun v=>some (zbt v.1 (a.drop v.2.toNat)))
        (by
          rintro ⟨t,i⟩ r ⟨h0,h1,h2,h3⟩ hr
          obtain ⟨i,rfl⟩ := Int.eq_ofNat_of_zero_le h0
          simp only [Int.toNat_natCast] at h1 h2 h3 ⊢
          rw [z8x]
          by_cases hi : i < 256
          . have wi := z5n (i := i) (by omega)
            have wt : Go.IntKind.wrap .i64 (t + 1) = t + 1 := zl6 (by unfold I64; omega)
            rw [z7f (decide_eq_true (by omega)),z7f (z3m (by omega)),zco,zcn,wi,wt,z8r a 0 i (by omega)]
            simp only [Int.toNat_natCast]
            rw [zbt]
            by_cases h4 : a.getD i 0 < 0
            . rw [z7f (z4r h4),z7f (z4r h4)]; rfl
            . rw [z84 (z4m h4),z84 (z4m h4)]
              by_cases h5 : t + 1 < a.getD i 0
              . rw [z4r h5]; rfl
              . rw [z4m h5,z84 rfl,z84 rfl,hr _ ⟨by simp only; omega,by simp only; omega,by simp only; split <;> omega,by simp only; split <;> omega⟩ (by simp only [Int.toNat_natCast]; omega)]
                rfl
          . have e : i = 256 := by omega
            subst e
            rw [z84 (decide_eq_false (by omega)),List.drop_of_length_le (by omega)]
            rfl) N ((0 : Int),(0 : Int)) ⟨by simp only; omega,by simp only; omega,by simp only; omega,by simp only; omega⟩ (by simp only [Int.toNat_zero]; omega)
      rw [h]
      rfl
  . rw [z4m hl]; rfl
theorem zu6 (N:Nat) (a:List Int) (hN : 257 < N) : z4h N a = some (z8b a) := by
  rw [z4h,show ((256 : Int)) = ((256 : Nat) : Int) from rfl,zvv,z8b]
  by_cases hl : a.length = 256
  . rw [z4r hl, Bool.not_true, z84 rfl, Bool.true_and, zb5]
    have h := zop (step := fun (v:(Int × Int)) r=>z4e N a v.1 v.2 (fun top i=>(r (top,i))) (fun x2=>some x2) (some true))
      (I := fun v=>0 <= v.2 /\ v.2 <= 256 /\ -1 <= v.1 /\ v.1 <= v.2) (m := fun v=>256 - v.2.toNat) (R := fun v=>some (zbt v.1 (a.drop v.2.toNat)))
      (by
        rintro ⟨t,i⟩ r ⟨h0,h1,h2,h3⟩ hr
        obtain ⟨i,rfl⟩ := Int.eq_ofNat_of_zero_le h0
        simp only [Int.toNat_natCast] at h1 h2 h3 ⊢
        rw [z4e]
        by_cases hi : i < 256
        . have wi := z5n (i := i) (by omega)
          have wt : Go.IntKind.wrap .i64 (t + 1) = t + 1 := zl6 (by unfold I64; omega)
          rw [z7f (decide_eq_true (by omega)),z6t,z6s,z6r,z7f (z3m (by omega)),z7f (z3m (by omega)),z7f (z3m (by omega)),z7f (z3m (by omega)),wi,wt,z8r a 0 i (by omega)]
          simp only [Int.toNat_natCast]
          rw [zbt]
          by_cases h4 : a.getD i 0 < 0
          . rw [z7f (z4r h4),z7f (z4r h4)]; rfl
          . rw [z84 (z4m h4),z84 (z4m h4)]
            by_cases h5 : t + 1 < a.getD i 0
            . rw [z4r h5]; rfl
            . rw [z4m h5,z84 rfl,z84 rfl]
              by_cases hx : t < a.getD i 0
              . rw [z7f (decide_eq_true hx),hr _ ⟨by simp only; omega,by simp only; omega,by simp only; omega,by simp only; omega⟩ (by simp only [Int.toNat_natCast]; omega),if_pos hx]
                rfl
              . rw [z84 (decide_eq_false hx),hr _ ⟨by simp only; omega,by simp only; omega,by simp only; omega,by simp only; omega⟩ (by simp only [Int.toNat_natCast]; omega),if_neg hx]
                rfl
        . have e : i = 256 := by omega
          subst e
          rw [z84 (decide_eq_false (by omega)),List.drop_of_length_le (by omega)]
          rfl) N ((-1 : Int),(0 : Int)) ⟨by simp only; omega,by simp only; omega,by simp only; omega,by simp only; omega⟩ (by simp only [Int.toNat_zero]; omega)
    exact h
  . rw [z4m hl]; rfl
def z5l (a:List Int) : Int := cond (z8b a) (zr5 (-1) a + 1) 0
theorem z1hj (N:Nat) (a:List Int) (hl:a.length = 256) (hN : 257 < N) : z3u N a = some (zr5 (a.getD 0 0) (a.drop 1)) := by
  rw [z3u,z5p,z84 (decide_eq_false (by omega)),z7f (z14x (by omega) (by omega)),z9y]
  exact zop (step := fun (v:(Int × Int)) r=>z3t N a v.1 v.2 (fun m i=>(r (m,i))) (fun m=>some m))
    (I := fun v=>0 <= v.2 /\ v.2 <= 256) (m := fun v=>256 - v.2.toNat) (R := fun v=>some (zr5 v.1 (a.drop v.2.toNat)))
    (by
      rintro ⟨t,i⟩ r ⟨h0,h1⟩ hr
      obtain ⟨i,rfl⟩ := Int.eq_ofNat_of_zero_le h0
      simp only [Int.toNat_natCast] at h1 ⊢
      rw [z3t]
      by_cases hi : i < 256
      . have wi := z5n (i := i) (by omega)
        rw [z7f (decide_eq_true (by omega)),z7f (z3m (by omega)),wi,hr _ ⟨by simp only; omega,by simp only; omega⟩ (by simp only [Int.toNat_natCast]; omega),z8r a 0 i (by omega)]
        rfl
      . have e : i = 256 := by omega
        subst e
        rw [z84 (decide_eq_false (by omega)),List.drop_of_length_le (by omega)]
        rfl) N (a.getD 0 0,(1 : Int)) ⟨by simp only; omega,by simp only; omega⟩ (by show 256 - 1 < N; omega)
theorem z9f {a:List Int} (h:z8b a = true) : a.length = 256 /\ a.getD 0 0 = 0 /\ zbt (-1) a = true := by
  rw [z8b,Bool.and_eq_true,decide_eq_true_eq] at h
  obtain ⟨hl,hr⟩ := h
  refine ⟨hl, ?_,hr⟩
  have hx := z8r a 0 0 (by omega)
  rw [List.drop_zero] at hx
  rw [hx,zse] at hr
  by_cases h0 : (a.getD 0 0 != 0) = true
  . rw [h0] at hr; exact absurd hr Bool.false_ne_true
  . simpa using h0
theorem zzl {a:List Int} (h:z8b a = true) : zr5 (a.getD 0 0) (a.drop 1) = zr5 (-1) a := by
  obtain ⟨hl,h0,hr⟩ := z9f h
  have hx := z8r a 0 0 (by omega)
  rw [List.drop_zero] at hx
  have e : zr5 (-1) a = zr5 (-1) (a.getD 0 0 :: a.drop (0 + 1)) := by rw [<- hx]
  rw [e,h0]
  rfl
theorem zyl (N:Nat) (a:List Int) (hN : 257 < N) : z3y N a = some (z5l a) := by
  rw [z3y,zwx N a hN,Option.bind_some,z5l]
  cases h : z8b a
  . rfl
  . obtain ⟨hl,h0,hr⟩ := z9f h
    have h1 := ztz a (-1) hr
    have h2 := zno a (-1)
    rw [Bool.not_true,z84 rfl,z1hj N a hl hN,zzl h,Option.bind_some,zl6 (by unfold I64; omega)]
    rfl
theorem z11h (N:Nat) (a:List Int) (hl:a.length <= 300) (hN : 301 < N) : z4i N a = some (z5l a) := by
  rw [z4i,z6w,zb6]
  have h := zop (step := fun (v:(Int × Int)) r=>z4f N a v.1 v.2 (fun top i=>(r (top,i))) (fun top1=>some (Go.IntKind.wrap .i64 (top1 + 1))))
    (I := fun v=>0 <= v.2 /\ v.2 <= 300) (m := fun v=>300 - v.2.toNat) (R := fun v=>some (Go.IntKind.wrap .i64 ((cond (z8b a) (zr5 v.1 (a.drop v.2.toNat)) v.1) + 1)))
    (by
      rintro ⟨t,i⟩ r ⟨h0,h1⟩ hr
      obtain ⟨i,rfl⟩ := Int.eq_ofNat_of_zero_le h0
      simp only [Int.toNat_natCast] at h1 ⊢
      rw [z4f,z6v,zu6 N a (by omega),Option.bind_some]
      by_cases hi : i < a.length
      . have wi := z5n (i := i) (by omega)
        rw [z7f (decide_eq_true (by omega))]
        cases hra : z8b a
        . rfl
        . rw [z7f rfl,z6u,z7f (z3m hi),z7f (z3m hi),wi,z8r a 0 i hi]
          simp only [Int.toNat_natCast]
          have e : zr5 t (a.getD i 0 :: a.drop (i + 1)) = zr5 (if a.getD i 0 > t then a.getD i 0 else t) (a.drop (i + 1)) := rfl
          rw [e]
          by_cases hx : t < a.getD i 0
          . rw [z7f (decide_eq_true hx),hr _ ⟨by simp only; omega,by simp only; omega⟩ (by simp only [Int.toNat_natCast]; omega),hra,if_pos hx]
            rfl
          . rw [z84 (decide_eq_false hx),hr _ ⟨by simp only; omega,by simp only; omega⟩ (by simp only [Int.toNat_natCast]; omega),hra,if_neg hx]
            rfl
      . rw [z84 (decide_eq_false (by omega)),List.drop_of_length_le (by omega)]
        cases z8b a <;> rfl) N ((-1 : Int),(0 : Int)) ⟨by simp only; omega,by simp only; omega⟩ (by simp only [Int.toNat_zero]; omega)
  show iter _ N ((-1 : Int),(0 : Int)) = _
  rw [h,z5l]
  cases hra : z8b a
  . rfl
  . obtain ⟨hl,h0,hr⟩ := z9f hra
    have h1 := ztz a (-1) hr
    have h2 := zno a (-1)
    simp only [Int.toNat_zero,List.drop_zero,cond_true]
    rw [zl6 (by unfold I64; omega)]
end
end Go.Proofs.YtgbcebmahbieoaaDoorLg
set_option linter.all false
set_option maxRecDepth 100000
namespace Go.Proofs.YtgbcebmahbieoaaDoorLg
noncomputable section
open Go Go.Lift Go.Proofs.YtgbcebmahbieoaaDoorPx
abbrev DfT := Int × ((List Bool) × ((List Int) × ((List (List Int)) × Unit)))
theorem scan {β : Type} {f:Int -> (Int -> Option β) -> Option β} {n:Nat} {bad:Nat -> Bool} {F T:Option β} (hs : ∀ (i:Nat) r,i < n -> f (i:Int) r = cond (bad i) F (r ((i + 1 : Nat) : Int))) (he : ∀ r,f (n:Int) r = T) :
    ∀ (k N i:Nat),i + k = n -> k < N -> iter f N (i:Int) = cond ((List.range' i k).any bad) F T
  | 0,N,i,h,hN=>by
    obtain ⟨M,rfl⟩ : ∃ M,N = M + 1 := ⟨N - 1,by omega⟩
    obtain rfl : i = n := by omega
    rw [iter,he]; rfl
  | k + 1,N,i,h,hN=>by
    obtain ⟨M,rfl⟩ : ∃ M,N = M + 1 := ⟨N - 1,by omega⟩
    rw [iter,hs i _ (by omega),scan hs he k M (i + 1) (by omega) (by omega),List.range'_succ,List.any_cons]
    cases bad i <;> rfl
theorem zzw {β : Type} {f:Int -> (Int -> Option β) -> Option β} {n N:Nat} {bad:Nat -> Bool} {F T:Option β} (hs : ∀ (i:Nat) r,i < n -> f (i:Int) r = cond (bad i) F (r ((i + 1 : Nat) : Int))) (he : ∀ r,f (n:Int) r = T) (hN:n < N) :
    iter f N (0 : Int) = cond ((List.range n).any bad) F T := by
  have := scan hs he n N 0 (by omega) hN
  rw [List.range_eq_range']
  exact this
def zvx (n:Nat) (row:List Int) (k:Nat) : Bool := cond (decide (row.getD k 0 < 0)) true (decide ((n:Int) <= row.getD k 0))
def zl1 (n:Nat) (c:Int) (rows:List (List Int)) (i:Nat) : Bool := cond (((rows.getD i []).length : Int) != c) true ((List.range (rows.getD i []).length).any (zvx n (rows.getD i [])))
def zgs (d:DfT) : Bool :=
 decide (1 <= d.2.2.2.1.length) && decide (d.2.2.2.1.length <= 4096) && decide (d.2.1.length = d.2.2.2.1.length) && z8b d.2.2.1 &&
 (!(List.range d.2.2.2.1.length).any (zl1 d.2.2.2.1.length (z5l d.2.2.1) d.2.2.2.1)) && decide (0 <= d.1) && decide (d.1 < (d.2.2.2.1.length : Int))
structure SmD (d:DfT) (N:Nat) : Prop where
  next : d.2.2.2.1.length < N
  rows : ∀ i,(d.2.2.2.1.getD i []).length < N
  block : d.2.2.1.length <= 300
  big : 302 <= N
  lim : N <= 100000
theorem z10u (n m:Nat) : (((n:Nat) : Int) != (m:Int)) = !decide (n = m) := zvv
theorem zox {N:Nat} (d:DfT) (h:SmD d N) : zec N d = some (zgs d) := by
  have hb := h.big
  have hl := h.lim
  have hn := h.next
  unfold zec zhk zhj zgs
  rw [zwx N _ (by omega),zyl N _ (by omega)]
  by_cases h1 : d.2.2.2.1.length < 1
  . rw [z4r (p := ((d.2.2.2.1.length : Nat) : Int) < 1) (by omega),z4m (p := 1 <= d.2.2.2.1.length) (by omega)]; rfl
  rw [z4m (p := ((d.2.2.2.1.length : Nat) : Int) < 1) (by omega),z4r (p := 1 <= d.2.2.2.1.length) (by omega)]
  by_cases h2 : 4096 < d.2.2.2.1.length
  . rw [z4r (p := (4096 : Int) < ((d.2.2.2.1.length : Nat) : Int)) (by omega),z4m (p := d.2.2.2.1.length <= 4096) (by omega)]; rfl
  rw [z4m (p := (4096 : Int) < ((d.2.2.2.1.length : Nat) : Int)) (by omega),z4r (p := d.2.2.2.1.length <= 4096) (by omega),z10u]
  by_cases h3 : d.2.1.length = d.2.2.2.1.length
  case neg=>rw [z4m h3]; rfl
  rw [z4r h3]
  simp only [cond_false,Bool.not_true,Option.bind_some,Bool.true_and]
  cases hr : z8b d.2.2.1
  . rfl
  simp only [Bool.not_true,cond_false,Bool.true_and]
  unfold zmp
  rw [zzw (bad := zl1 d.2.2.2.1.length (z5l d.2.2.1) d.2.2.2.1) (n := d.2.2.2.1.length) (F := some false) (T := cond (decide ((0 : Int) <= d.1)) (some (decide (d.1 < ((d.2.2.2.1.length : Nat) : Int)))) (some false)) ?_ ?_ hn]
  . cases (List.range d.2.2.2.1.length).any (zl1 d.2.2.2.1.length (z5l d.2.2.1) d.2.2.2.1)
    . cases decide ((0 : Int) <= d.1) <;> rfl
    . rfl
  . intro i r hi
    have hri := h.rows i
    unfold zdb zl1
    rw [z4r (p := (i:Int) < ((d.2.2.2.1.length : Nat) : Int)) (by omega),z3m hi,Int.toNat_natCast,z5n (i := i) (by omega)]
    simp only [cond_true]
    cases hc : ((((d.2.2.2.1.getD i []).length : Nat) : Int) != z5l d.2.2.1)
    case true=>rfl
    simp only [cond_false]
    unfold zmo
    rw [zzw (bad := zvx d.2.2.2.1.length (d.2.2.2.1.getD i [])) (n := (d.2.2.2.1.getD i []).length) (F := some false) (T := r ((i + 1 : Nat) : Int)) ?_ ?_ hri]
    . intro k r' hk
      unfold zda zhi zvx
      rw [z4r (p := (k:Int) < (((d.2.2.2.1.getD i []).length : Nat) : Int)) (by omega),z3m hk,Int.toNat_natCast,z5n (i := k) (by omega)]
      simp only [cond_true]
      cases decide ((d.2.2.2.1.getD i []).getD k 0 < 0)
      . cases decide (((d.2.2.2.1.length : Nat) : Int) <= (d.2.2.2.1.getD i []).getD k 0) <;> rfl
      . rfl
    . intro r'
      unfold zda
      rw [z4m (by omega)]; rfl
  . intro r
    unfold zdb
    rw [z4m (by omega)]; rfl
theorem z11i {a:List Int} (h:z8b a = true) : 1 <= z5l a := by
  obtain ⟨h1,h2,h3⟩ := z9f h
  unfold z5l
  rw [h,cond_true]
  have hx := z8r a 0 0 (by omega)
  rw [List.drop_zero,h2] at hx
  rw [hx]
  show 1 <= zr5 (if (0 : Int) > -1 then 0 else -1) (a.drop 1) + 1
  rw [if_pos (by decide)]
  have := zno (a.drop 1) 0
  omega
theorem zkf {N:Nat} (d:DfT) (h:SmD d N) : z3f N d = some (zgs d) := by
  have hb := h.big
  have hl := h.lim
  have hn := h.next
  unfold z3f z6q z6p zgs
  rw [z11h N _ h.block (by omega)]
  simp only [Option.bind_some]
  by_cases h1 : d.2.2.2.1.length < 1
  . rw [z4r (p := ((d.2.2.2.1.length : Nat) : Int) < 1) (by omega),z4m (p := 1 <= d.2.2.2.1.length) (by omega)]; rfl
  rw [z4m (p := ((d.2.2.2.1.length : Nat) : Int) < 1) (by omega),z4r (p := 1 <= d.2.2.2.1.length) (by omega)]
  by_cases h2 : 4096 < d.2.2.2.1.length
  . rw [z4r (p := (4096 : Int) < ((d.2.2.2.1.length : Nat) : Int)) (by omega),z4m (p := d.2.2.2.1.length <= 4096) (by omega)]; rfl
  rw [z4m (p := (4096 : Int) < ((d.2.2.2.1.length : Nat) : Int)) (by omega),z4r (p := d.2.2.2.1.length <= 4096) (by omega),z10u]
  by_cases h3 : d.2.1.length = d.2.2.2.1.length
  case neg=>rw [z4m h3]; rfl
  rw [z4r h3]
  simp only [cond_false,Bool.not_true,Bool.true_and]
  by_cases h4 : d.1 < 0
  . rw [z4r h4,z4m (p := (0 : Int) <= d.1) (by omega)]
    simp
  rw [z4m h4,z4r (p := (0 : Int) <= d.1) (by omega)]
  by_cases h5 : ((d.2.2.2.1.length : Nat) : Int) <= d.1
  . rw [z4r h5,z4m (p := d.1 < ((d.2.2.2.1.length : Nat) : Int)) (by omega)]
    simp
  rw [z4m h5,z4r (p := d.1 < ((d.2.2.2.1.length : Nat) : Int)) (by omega)]
  simp only [cond_false,Bool.and_true]
  cases hr : z8b d.2.2.1
  . have hc : z5l d.2.2.1 = 0 := by unfold z5l; rw [hr]; rfl
    rw [hc]; rfl
  have hc := z11i hr
  rw [z4m (p := z5l d.2.2.1 < 1) (by omega)]
  simp only [cond_false,Bool.true_and]
  unfold zb3
  rw [zzw (bad := zl1 d.2.2.2.1.length (z5l d.2.2.1) d.2.2.2.1) (n := d.2.2.2.1.length) (F := some false) (T := some true) ?_ ?_ hn]
  . cases (List.range d.2.2.2.1.length).any (zl1 d.2.2.2.1.length (z5l d.2.2.1) d.2.2.2.1) <;> rfl
  . intro i r hi
    have hri := h.rows i
    unfold z4d zl1
    rw [z4r (p := (i:Int) < ((d.2.2.2.1.length : Nat) : Int)) (by omega),z3m hi,Int.toNat_natCast,z5n (i := i) (by omega)]
    simp only [cond_true]
    cases hcl : ((((d.2.2.2.1.getD i []).length : Nat) : Int) != z5l d.2.2.1)
    case true=>rfl
    have hcl' : ((d.2.2.2.1.getD i []).length : Int) = z5l d.2.2.1 := by simpa using hcl
    simp only [cond_false]
    unfold zb2
    rw [zzw (bad := zvx d.2.2.2.1.length (d.2.2.2.1.getD i [])) (n := (d.2.2.2.1.getD i []).length) (F := some false) (T := r ((i + 1 : Nat) : Int)) ?_ ?_ hri]
    . intro k r' hk
      unfold z4c z6o z6n zvx
      rw [z4r (p := (k:Int) < z5l d.2.2.1) (by omega),z3m hi,Int.toNat_natCast,z3m hk,Int.toNat_natCast,z5n (i := k) (by omega)]
      simp only [cond_true]
      cases decide ((d.2.2.2.1.getD i []).getD k 0 < 0)
      . cases decide (((d.2.2.2.1.length : Nat) : Int) <= (d.2.2.2.1.getD i []).getD k 0) <;> rfl
      . rfl
    . intro r'
      unfold z4c
      rw [z4m (by omega)]; rfl
  . intro r
    unfold z4d
    rw [z4m (by omega)]; rfl
theorem zm8 : ∀ (l:List Int) (t:Int),zbt t l = true -> ∀ x ∈ l,0 <= x /\ x <= zr5 t l
  | [],_,_,x,hx=>by cases hx
  | y :: l,t,h,x,hx=>by
    rw [zbt] at h
    cases h1 : decide (y < 0)
    case true=>rw [h1] at h; exact absurd h Bool.false_ne_true
    cases h2 : decide (t + 1 < y)
    case true=>rw [h1,h2] at h; exact absurd h Bool.false_ne_true
    rw [h1,h2] at h
    have e : zr5 t (y :: l) = zr5 (if y > t then y else t) l := rfl
    rw [e]
    rcases List.mem_cons.1 hx with rfl | hx
    . have h3 := of_decide_eq_false h1
      have h4 := zno l (if x > t then x else t)
      refine ⟨by omega,Int.le_trans ?_ h4⟩
      split <;> omega
    . exact zm8 l _ h x hx
theorem z13z {a:List Int} (h:z8b a = true) {i:Nat} (hi:i < 256) : 0 <= a.getD i 0 /\ a.getD i 0 < z5l a := by
  obtain ⟨h1,_,h3⟩ := z9f h
  have := zm8 a (-1) h3 (a.getD i 0) (by rw [List.getD_eq_getElem?_getD,List.getElem?_eq_getElem (by omega)]; exact List.getElem_mem _)
  unfold z5l
  rw [h,cond_true]
  omega
def z1a7 (d:DfT) (b:Nat) : Nat := (d.2.2.1.getD b 0).toNat
def zzp (d:DfT) (q:Nat) (b:Nat) : Nat := ((d.2.2.2.1.getD q []).getD (z1a7 d b) 0).toNat
def runD (d:DfT) (q:Nat) (s:List UInt8) : Nat := s.foldl (fun q b=>zzp d q b.toNat) q
structure RtD (d:DfT) : Prop where
  pos : 1 <= d.2.2.2.1.length
  lim : d.2.2.2.1.length <= 4096
  fin : d.2.1.length = d.2.2.2.1.length
  block : z8b d.2.2.1 = true
  row : ∀ q,q < d.2.2.2.1.length -> ((d.2.2.2.1.getD q []).length : Int) = z5l d.2.2.1 /\ ∀ k,k < (d.2.2.2.1.getD q []).length -> 0 <= (d.2.2.2.1.getD q []).getD k 0 /\ (d.2.2.2.1.getD q []).getD k 0 < (d.2.2.2.1.length : Int)
  start : 0 <= d.1 /\ d.1 < (d.2.2.2.1.length : Int)
theorem zlc (d:DfT) : zgs d = true ↔ RtD d := by
  unfold zgs
  simp only [Bool.and_eq_true,decide_eq_true_eq,Bool.not_eq_true',List.any_eq_false,List.mem_range]
  constructor
  . rintro ⟨⟨⟨⟨⟨⟨h1,h2⟩,h3⟩,h4⟩,h5⟩,h6⟩,h7⟩
    refine ⟨h1,h2,h3,h4,fun q hq => ?_,h6,h7⟩
    have := h5 q hq
    unfold zl1 at this
    cases hc : ((((d.2.2.2.1.getD q []).length : Nat) : Int) != z5l d.2.2.1)
    case true=>rw [hc] at this; exact absurd rfl this
    rw [hc,cond_false] at this
    refine ⟨by simpa using hc,fun k hk => ?_⟩
    simp only [Bool.not_eq_true,List.any_eq_false,List.mem_range] at this
    have := this k hk
    unfold zvx at this
    by_cases h8 : (d.2.2.2.1.getD q []).getD k 0 < 0
    . rw [z4r h8] at this; cases this
    . rw [z4m h8,cond_false] at this
      have := of_decide_eq_false this
      omega
  . intro h
    refine ⟨⟨⟨⟨⟨⟨h.pos,h.lim⟩,h.fin⟩,h.block⟩,fun q hq => ?_⟩,h.start.1⟩,h.start.2⟩
    obtain ⟨g1,g2⟩ := h.row q hq
    unfold zl1
    rw [show ((((d.2.2.2.1.getD q []).length : Nat) : Int) != z5l d.2.2.1) = false by rw [g1]; exact bne_self_eq_false _,cond_false]
    simp only [Bool.not_eq_true,List.any_eq_false,List.mem_range]
    intro k hk
    have := g2 k hk
    unfold zvx
    rw [z4m (by omega),cond_false,z4m (by omega)]
theorem RtD.cls {d:DfT} (h:RtD d) {b:Nat} (hb:b < 256) : d.2.2.1.getD b 0 = (z1a7 d b:Int) /\ (z1a7 d b:Int) < z5l d.2.2.1 := by
  have := z13z h.block hb
  unfold z1a7
  omega
theorem RtD.step {d:DfT} (h:RtD d) {q b:Nat} (hq:q < d.2.2.2.1.length) (hb:b < 256) : z1a7 d b < (d.2.2.2.1.getD q []).length /\ (d.2.2.2.1.getD q []).getD (z1a7 d b) 0 = (zzp d q b:Int) /\ zzp d q b < d.2.2.2.1.length := by
  obtain ⟨h1,h2⟩ := h.cls hb
  obtain ⟨g1,g2⟩ := h.row q hq
  have hc : z1a7 d b < (d.2.2.2.1.getD q []).length := by omega
  have := g2 _ hc
  unfold zzp
  omega
theorem RtD.run {d:DfT} (h:RtD d) : ∀ (s:List UInt8) (q:Nat),q < d.2.2.2.1.length -> runD d q s < d.2.2.2.1.length
  | [],q,hq=>hq
  | b :: s,q,hq=>h.run s _ (h.step hq (UInt8.toNat_lt b)).2.2
theorem z1ar {d:DfT} (hd:RtD d) (s:List UInt8) {f:(Int × Int) -> ((Int × Int) -> Option Int) -> Option Int}
    (hs : ∀ (q i:Nat) r,q < d.2.2.2.1.length -> i < s.length -> f ((q:Int),(i:Int)) r = r ((zzp d q (s.getD i 0).toNat : Int),((i + 1 : Nat) : Int))) (he : ∀ (q:Nat) r,f ((q:Int),(s.length : Int)) r = some (q:Int)) :
    ∀ (k N q i:Nat),i + k = s.length -> q < d.2.2.2.1.length -> k < N -> iter f N ((q:Int),(i:Int)) = some (runD d q (s.drop i) : Int)
  | 0,N,q,i,h,hq,hN=>by
    obtain ⟨M,rfl⟩ : ∃ M,N = M + 1 := ⟨N - 1,by omega⟩
    obtain rfl : i = s.length := by omega
    rw [iter,he,List.drop_length]; rfl
  | k + 1,N,q,i,h,hq,hN=>by
    obtain ⟨M,rfl⟩ : ∃ M,N = M + 1 := ⟨N - 1,by omega⟩
    rw [iter,hs q i _ hq (by omega),z1ar hd s hs he k M _ (i + 1) (by omega) (hd.step hq (UInt8.toNat_lt _)).2.2 (by omega),z8r s 0 i (by omega)]
    rfl
def zq6 (d:DfT) (s:List UInt8) : Int := cond (zgs d) (runD d d.1.toNat s : Int) (-1)
theorem zow {N:Nat} (d:DfT) (s:List UInt8) (h:SmD d N) (hs:s.length < N) : zeb N d s = some (zq6 d s) := by
  unfold zeb zq6
  rw [zox d h,Option.bind_some]
  have hl := h.lim
  cases hr : zgs d
  . rfl
  have hd := (zlc d).1 hr
  obtain ⟨q,hq⟩ := Int.eq_ofNat_of_zero_le hd.start.1
  have hq2 : q < d.2.2.2.1.length := by have := hd.start.2; omega
  simp only [Bool.not_true,cond_false,cond_true]
  unfold zmm
  rw [hq]
  refine z1ar hd s (fun q i r hq hi => ?_) (fun q r => ?_) s.length N q 0 (by omega) hq2 hs
  . have hb := UInt8.toNat_lt (s.getD i 0)
    obtain ⟨c1,c2⟩ := hd.cls hb
    obtain ⟨s1,s2,s3⟩ := hd.step hq hb
    have hbl := (z9f hd.block).1
    unfold zd9
    rw [z4r (p := (i:Int) < ((s.length : Nat) : Int)) (by omega),z3m hq,z3m hi,Int.toNat_natCast,Int.toNat_natCast,z3m (show (s.getD i 0).toNat < d.2.2.1.length by omega),Int.toNat_natCast,c1,z3m s1,Int.toNat_natCast,s2,z5n (i := i) (by omega)]
    rfl
  . unfold zd9
    rw [z4m (by omega)]; rfl
theorem zo5 {N:Nat} (d:DfT) (s:List UInt8) (h:SmD d N) (hs:s.length < N) : z3e N d s = some (zq6 d s) := by
  unfold z3e zq6
  rw [zkf d h,Option.bind_some]
  have hl := h.lim
  cases hr : zgs d
  . rfl
  have hd := (zlc d).1 hr
  obtain ⟨q,hq⟩ := Int.eq_ofNat_of_zero_le hd.start.1
  have hq2 : q < d.2.2.2.1.length := by have := hd.start.2; omega
  simp only [Bool.not_true,cond_false,cond_true]
  unfold zb0
  rw [hq]
  refine z1ar hd s (fun q i r hq hi => ?_) (fun q r => ?_) s.length N q 0 (by omega) hq2 hs
  . have hb := UInt8.toNat_lt (s.getD i 0)
    obtain ⟨c1,c2⟩ := hd.cls hb
    obtain ⟨s1,s2,s3⟩ := hd.step hq hb
    have hbl := (z9f hd.block).1
    unfold z4b
    rw [z4r (p := (i:Int) < ((s.length : Nat) : Int)) (by omega),z3m hq,z3m hi,Int.toNat_natCast,Int.toNat_natCast,zl6 (x := (((s.getD i 0).toNat : Nat) : Int)) (by unfold I64; omega),z3m (show (s.getD i 0).toNat < d.2.2.1.length by omega),Int.toNat_natCast,c1,z3m s1,Int.toNat_natCast,s2,z5n (i := i) (by omega)]
    rfl
  . unfold z4b
    rw [z4m (by omega)]; rfl
def runF (d:DfT) (s:List UInt8) : Bool := cond (zgs d) (d.2.1.getD (runD d d.1.toNat s) false) false
theorem zzy {d:DfT} {s:List UInt8} {o:Option Int} (ho:o = some (zq6 d s)) : (o.bind fun y=>cond (decide ((0 : Int) <= y)) (cond (inR y (List.length d.2.1)) (some (List.getD d.2.1 (Int.toNat y) false)) none) (some false)) = some (runF d s) := by
  rw [ho,Option.bind_some]
  unfold zq6 runF
  cases hr : zgs d
  . rfl
  have hd := (zlc d).1 hr
  have hq2 : d.1.toNat < d.2.2.2.1.length := by have := hd.start; omega
  have h := hd.run s _ hq2
  have hf := hd.fin
  simp only [cond_true]
  rw [z4r (by omega),z3m (by omega),Int.toNat_natCast]
  rfl
theorem z11f {N:Nat} (d:DfT) (s:List UInt8) (h:SmD d N) (hs:s.length < N) : zfh N d s = some (runF d s) := zzy (zow d s h hs)
theorem z108 {N:Nat} (d:DfT) (s:List UInt8) (h:SmD d N) (hs:s.length < N) : z8o N d s = some (runF d s) := zzy (zo5 d s h hs)
end
end Go.Proofs.YtgbcebmahbieoaaDoorLg
set_option linter.all false
set_option maxRecDepth 100000
namespace Go.Lift
noncomputable section
def BSt (t:T) (w0:World) (S0:Hp) (ob0:List Nat) (bf:Nat) (w:World) (x:t.den) (L:List (Nat × Array Value × Nat)) : Prop :=
 ∃ S o,WF w0 (fun k=>k ∈ ob0) w /\ Sub S0 S /\ Sub S (hp w) /\ (∀ k,S k ≠ none -> S0 k ≠ none \/ k ∈ ob0 \/ w0.heap.size <= k) /\ ARel (hp w) S (fun _=>undef) (.box t x) (.pointer (some ⟨bf,0,none⟩)) o /\ o.Nodup ∧
 (∀ k ∈ o,S k = none /\ (k ∈ ob0 \/ w0.heap.size <= k)) /\ ∀ p ∈ L,S p.1 = none /\ p.1 ∉ o /\ w0.heap.size <= p.1 /\ w.heap[p.1]? = some (.cells p.2.1 p.2.2 (0,0))
variable {P:Program} {glob:Nat -> Option Dat} {t:T} {w0 w:World} {S0:Hp} {ob0:List Nat} {bf:Nat} {x:t.den} {L:List (Nat × Array Value × Nat)}
theorem BSt.lt (h:BSt t w0 S0 ob0 bf w x L) : ∀ p ∈ L,p.1 < w.heap.size := by
  obtain ⟨S,o,_,_,_,_,_,_,_,hL⟩ := h
  exact fun p hp=>(Array.getElem?_eq_some_iff.1 (hL p hp).2.2.2).1
theorem BSt.drew (h:BSt t w0 S0 ob0 bf w x L) : BSt t w0 S0 ob0 bf w.drew x L := by
  obtain ⟨S,o,k1,k2⟩ := h
  exact ⟨S,o,⟨k1.size,k1.same,k1.tape,k1.os,k1.output⟩,k2⟩
theorem BSt.swap {L':List (Nat × Array Value × Nat)} (h:BSt t w0 S0 ob0 bf w x L) (hm : ∀ p ∈ L',p ∈ L) : BSt t w0 S0 ob0 bf w x L' := by
  obtain ⟨S,o,h1,h2,h3,h4,h5,h6,h7,hL⟩ := h
  exact ⟨S,o,h1,h2,h3,h4,h5,h6,h7,fun p hp=>hL p (hm p hp)⟩
theorem BSt.cell (h:BSt t w0 S0 ob0 bf w x L) {p:Nat} {cs:Array Value} {E i:Nat} {v:Value} (hm:(p,cs,E) ∈ L) (hi:cs[i]? = some v) : w.cell? ⟨p,i,none⟩ = some v := by
  obtain ⟨S,o,_,_,_,_,_,_,_,hL⟩ := h
  have := (hL _ hm).2.2.2
  simp only at this
  simp [World.cell?,this,hi]
theorem BSt.free (h:BSt t w0 S0 ob0 bf w x L) {p:Nat} {cs:Array Value} {E i:Nat} (hm:(p,cs,E) ∈ L) : w.frozen? ⟨p,i,none⟩ = false := by
  obtain ⟨S,o,_,_,_,_,_,_,_,hL⟩ := h
  have := (hL _ hm).2.2.2
  simp only at this
  simp [World.frozen?,this]
theorem BSt.plain {f:FuncId} {g:List A -> Res} (ct:Contract P glob f g) (hg : ∀ S,GlobOk glob S) (h:BSt t w0 S0 ob0 bf w x L) {args:List A} {vals:List Value}
    (hrel : ∀ S,Sub S (hp w) -> ArgsRel (hp w) S args vals (fun _ => [])) {y:(g args).X} (hy:(g args).val = some y) :
    Calls P f vals.toArray w fun e w' => ∃ v S' o',e = .returned v /\ ARel (hp w') S' (fun _=>undef) ((g args).out y).1 v o' /\ BSt t w0 S0 ob0 bf w' x L := by
  have h' := h
  obtain ⟨S,o,h1,h2,h3,h4,h5,h6,h7,hL⟩ := h'
  refine ((ct.2 w S args vals _ (hrel S h3) h3 (hg S) y hy)).mono ?_
  rintro e w' ⟨v,S',q,ob',rfl,hwf,hSS,hSw,hnew,⟨hr,_⟩,_⟩
  refine ⟨v,S',q,rfl,hr, ?_⟩
  have hwf' : WF w (fun _=>False) w' := ⟨hwf.size,fun k hk _=>hwf.same k hk (by rintro ⟨i,hi⟩; cases hi),hwf.tape,hwf.os,hwf.output⟩
  have hlt : ∀ k ∈ o,k < w.heap.size := fun k hk=>by
    obtain ⟨ob,hob⟩ := h5.obj k hk
    exact (Array.getElem?_eq_some_iff.1 hob.1).1
  have hnw : ∀ k,k < w.heap.size -> S' k ≠ none -> S k ≠ none := fun k hk hs=>by
    rcases hnew k hs with h | ⟨i,hi⟩ | h
    . exact h
    . cases hi
    . omega
  refine ⟨S',o,h1.trans hwf' (fun _ h=>h.elim),h2.trans hSS,hSw,fun k hk => ?_, ?_,h6,fun k hk=>⟨?_,(h7 k hk).2⟩,fun p hp => ?_⟩
  . rcases hnew k hk with h | ⟨i,hi⟩ | h
    . exact h4 k h
    . cases hi
    . exact .inr (.inr (Nat.le_trans h1.size h))
  . obtain ⟨b,cs,E,fr,bs,rfl,e1,e2,e3,e4⟩ := h5
    refine ⟨b,cs,E,fr,bs,rfl,e1, ?_,e3,e4.mono hSS _ _ _ _ (fun k hk=>hwf'.same k (hlt k (by simp [hk])) (fun h=>h))⟩
    have := hwf'.same b (hlt b (by simp)) (fun h=>h)
    simp only [hp] at e2 ⊢
    rw [this]; exact e2
  . cases hs : S' k with
    | none=>rfl
    | some q=>exact absurd (h7 k hk).1 (hnw k (hlt k hk) (by rw [hs]; simp))
  . obtain ⟨p1,p2,p3,p4⟩ := hL p hp
    have hl := (Array.getElem?_eq_some_iff.1 p4).1
    refine ⟨?_,p2,p3, ?_⟩
    . cases hs : S' p.1 with
      | none=>rfl
      | some q=>exact absurd p1 (hnw _ hl (by rw [hs]; simp))
    . rw [hwf'.same p.1 hl (fun h=>h)]; exact p4
theorem z144 {S:Hp} {v:Value} {o:List Nat} {args:List A} {vals:List Value} (h5:ARel (hp w) S (fun _=>undef) (.box t x) v o) (h6:o.Nodup) (h7 : ∀ k ∈ o,S k = none) (hr0:ArgsRel (hp w) S args vals (fun _ => [])) :
    ArgsRel (hp w) S (.box t x :: args) (v :: vals) (fun i=>if i = 0 then o else []) := by
  refine ⟨by simp [hr0.len],fun i q hq => ?_,fun i hi => ?_,fun i j b hi hj => ?_,fun i => ?_,fun i b hb => ?_⟩
  . cases i with
    | zero =>
      simp at hq; subst hq
      exact ⟨⟨_,rfl,by simpa using h5⟩,rfl⟩
    | succ i =>
      obtain ⟨⟨v,hv,ha⟩,hrf⟩ := hr0.rel i q (by simpa using hq)
      exact ⟨⟨v,by simpa using hv,by simpa using ha⟩,hrf⟩
  . rw [if_neg (by intro e; subst e; simp at hi)]
  . by_cases hi0 : i = 0 <;> by_cases hj0 : j = 0 <;> simp_all
  . by_cases hi0 : i = 0 <;> simp [hi0,h6]
  . by_cases hi0 : i = 0
    . rw [if_pos hi0] at hb; exact h7 b hb
    . rw [if_neg hi0] at hb; cases hb
theorem BSt.alloc (h:BSt t w0 S0 ob0 bf w x L) (cs:Array Value) (E:Nat) : BSt t w0 S0 ob0 bf (w.alloc (.cells cs E)) x ((w.heap.size,cs,E) :: L) := by
  have hlt := h.lt
  obtain ⟨S,o,h1,h2,h3,h4,h5,h6,h7,hL⟩ := h
  have hh : (w.alloc (.cells cs E)).heap = w.heap.push (.cells cs E (0,0)) := rfl
  have hk : ∀ k,k < w.heap.size -> (w.alloc (.cells cs E)).heap[k]? = w.heap[k]? := fun k hk=>by
    rw [hh,Array.getElem?_push,if_neg (by omega)]
  have hol : ∀ k ∈ o,k < w.heap.size := fun k hk=>by
    obtain ⟨ob,hob⟩ := h5.obj k hk
    exact (Array.getElem?_eq_some_iff.1 hob.1).1
  refine ⟨S,o,⟨by rw [hh,Array.size_push]; have := h1.size; omega,fun k h1' h2'=>by rw [hk k (by have := h1.size; omega)]; exact h1.same k h1' h2',h1.tape,h1.os,h1.output⟩,h2,fun k q ho => ?_,h4, ?_,h6,h7,fun p hpm => ?_⟩
  . have := h3 k q ho
    simp only [hp] at this ⊢
    rw [hk k (Array.getElem?_eq_some_iff.1 this).1]
    exact this
  . obtain ⟨b,c1,E',fr,bs,rfl,e1,e2,e3,e4⟩ := h5
    refine ⟨b,c1,E',fr,bs,rfl,e1, ?_,e3,e4.mono (Sub.refl _) _ _ _ _ (fun k hkm=>hk k (hol k (by simp [hkm])))⟩
    simp only [hp] at e2 ⊢
    rw [hk b (hol b (by simp))]; exact e2
  . rcases List.mem_cons.1 hpm with rfl | hpm
    . refine ⟨?_,fun hm=>absurd (hol _ hm) (by simp),h1.size, ?_⟩
      . cases hs : S w.heap.size with
        | none=>rfl
        | some q =>
          have := h3 _ _ hs
          simp only [hp] at this
          have := (Array.getElem?_eq_some_iff.1 this).1
          omega
      . simp only
        rw [hh,Array.getElem?_push,if_pos rfl]
    . obtain ⟨p1,p2,p3,p4⟩ := hL p hpm
      exact ⟨p1,p2,p3,by rw [hk p.1 (hlt p hpm)]; exact p4⟩
theorem BSt.put {p:Nat} {cs:Array Value} {E:Nat} (h:BSt t w0 S0 ob0 bf w x ((p,cs,E) :: L)) (hd : ∀ q ∈ L,q.1 ≠ p) {w':World} {cs':Array Value} (hw:w' = z1i w p (.cells cs' E (0,0))) : BSt t w0 S0 ob0 bf w' x ((p,cs',E) :: L) := by
  obtain ⟨S,o,h1,h2,h3,h4,h5,h6,h7,hL⟩ := h
  obtain ⟨q1,q2,q3,q4⟩ := hL (p,cs,E) (List.mem_cons_self ..)
  simp only at q1 q2 q3 q4
  have hne : ∀ k,k ≠ p -> w'.heap[k]? = w.heap[k]? := fun k hk=>by
    have := zo (w := w) (o := .cells cs' E (0,0)) hk
    rw [hw]; exact this
  have hsz : w'.heap.size = w.heap.size := by rw [hw]; simp [z1i]
  refine ⟨S,o,⟨by rw [hsz]; exact h1.size,fun k h1' h2'=>by rw [hne k (by omega)]; exact h1.same k h1' h2',by rw [hw]; exact h1.tape,by rw [hw]; exact h1.os,by rw [hw]; exact h1.output⟩,h2,fun k q ho => ?_,h4, ?_,h6,h7,fun u hu => ?_⟩
  . have hk : k ≠ p := fun e=>by rw [e,q1] at ho; cases ho
    have := h3 k q ho
    simp only [hp] at this ⊢
    rw [hne k hk]
    exact this
  . obtain ⟨b,c1,E',fr,bs,rfl,e1,e2,e3,e4⟩ := h5
    refine ⟨b,c1,E',fr,bs,rfl,e1, ?_,e3,e4.mono (Sub.refl _) _ _ _ _ (fun k hkm=>hne k (fun e=>q2 (by simp [<- e,hkm])))⟩
    simp only [hp] at e2 ⊢
    rw [hne b (fun e=>q2 (by simp [<- e]))]; exact e2
  . rcases List.mem_cons.1 hu with rfl | hu
    . refine ⟨q1,q2,q3, ?_⟩
      rw [hw]
      exact z28 q4
    . obtain ⟨p1,p2,p3,p4⟩ := hL u (List.mem_cons_of_mem _ hu)
      exact ⟨p1,p2,p3,by rw [hne u.1 (hd u hu)]; exact p4⟩
theorem BSt.setCell {p:Nat} {cs:Array Value} {E:Nat} (h:BSt t w0 S0 ob0 bf w x ((p,cs,E) :: L)) (hd : ∀ q ∈ L,q.1 ≠ p) (i:Nat) (v:Value) :
    BSt t w0 S0 ob0 bf (w.setCell ⟨p,i,none⟩ v) x ((p,cs.setIfInBounds i v,E) :: L) := by
  have hb : hp w p = some (.cells cs E (0,0)) := by
    obtain ⟨S,o,_,_,_,_,_,_,_,hL⟩ := h
    exact (hL _ (List.mem_cons_self ..)).2.2.2
  exact h.put hd (zla v hb)
theorem BSt.start {args:List A} {vals:List Value} {ob:Nat -> List Nat} (har:ArgsRel (hp w) S0 (.box t x :: args) vals ob) (hS:Sub S0 (hp w)) :
    ∃ bf vs,vals = .pointer (some ⟨bf,0,none⟩) :: vs /\ ob 0 ≠ [] /\ BSt t w S0 (ob 0) bf w x [] := by
  obtain ⟨⟨v,hv,hr⟩,_⟩ := har.rel 0 _ rfl
  have hr' := hr
  obtain ⟨b,cs,E,fr,bs,hob,rfl,_⟩ := hr'
  cases vals with
  | nil=>cases hv
  | cons v vs =>
    cases hv
    exact ⟨b,vs,rfl,by rw [hob]; simp,S0,ob 0,WF.refl _ _,Sub.refl _,hS,fun _ h => .inl h,hr,har.nd 0,fun k hk=>⟨har.hid 0 k hk,.inl hk⟩,fun p hp=>by cases hp⟩
end
end Go.Lift
set_option linter.all false
set_option maxRecDepth 100000
namespace Go.Lift
noncomputable section
structure NSt (w0:World) (S0:Hp) (w:World) (S:Hp) (L:List (Nat × Array Value × Nat)) : Prop where
  wf : WF w0 (fun _=>False) w
  sub : Sub S0 S
  inw : Sub S (hp w)
  new : ∀ k,S k ≠ none -> S0 k ≠ none \/ w0.heap.size <= k
  own : ∀ p ∈ L,S p.1 = none /\ w0.heap.size <= p.1 /\ w.heap[p.1]? = some (.cells p.2.1 p.2.2 (0,0))
variable {P:Program} {glob:Nat -> Option Dat} {w0 w:World} {S0 S:Hp} {L:List (Nat × Array Value × Nat)}
theorem NSt.start (hS:Sub S0 (hp w)) : NSt w S0 w S0 [] := ⟨WF.refl _ _,Sub.refl _,hS,fun _ h => .inl h,fun p hp=>by cases hp⟩
theorem NSt.lt (h:NSt w0 S0 w S L) : ∀ p ∈ L,p.1 < w.heap.size := fun p hp=>(Array.getElem?_eq_some_iff.1 (h.own p hp).2.2).1
theorem NSt.drew (h:NSt w0 S0 w S L) : NSt w0 S0 w.drew S L := ⟨⟨h.wf.size,h.wf.same,h.wf.tape,h.wf.os,h.wf.output⟩,h.sub,h.inw,h.new,h.own⟩
theorem NSt.swap {L':List (Nat × Array Value × Nat)} (h:NSt w0 S0 w S L) (hm : ∀ p ∈ L',p ∈ L) : NSt w0 S0 w S L' := ⟨h.wf,h.sub,h.inw,h.new,fun p hp=>h.own p (hm p hp)⟩
theorem NSt.cell (h:NSt w0 S0 w S L) {p:Nat} {cs:Array Value} {E i:Nat} {v:Value} (hm:(p,cs,E) ∈ L) (hi:cs[i]? = some v) : w.cell? ⟨p,i,none⟩ = some v := by
  have := (h.own _ hm).2.2
  simp only at this
  simp [World.cell?,this,hi]
theorem NSt.free (h:NSt w0 S0 w S L) {p:Nat} {cs:Array Value} {E i:Nat} (hm:(p,cs,E) ∈ L) : w.frozen? ⟨p,i,none⟩ = false := by
  have := (h.own _ hm).2.2
  simp only at this
  simp [World.frozen?,this]
theorem NSt.alloc (h:NSt w0 S0 w S L) (cs:Array Value) (E:Nat) : NSt w0 S0 (w.alloc (.cells cs E)) S ((w.heap.size,cs,E) :: L) := by
  have hlt := h.lt
  have hh : (w.alloc (.cells cs E)).heap = w.heap.push (.cells cs E (0,0)) := rfl
  have hk : ∀ k,k < w.heap.size -> (w.alloc (.cells cs E)).heap[k]? = w.heap[k]? := fun k hk=>by
    rw [hh,Array.getElem?_push,if_neg (by omega)]
  refine ⟨⟨by rw [hh,Array.size_push]; have := h.wf.size; omega,fun k h1' h2'=>by rw [hk k (by have := h.wf.size; omega)]; exact h.wf.same k h1' h2',h.wf.tape,h.wf.os,h.wf.output⟩,h.sub,fun k q ho => ?_,h.new,fun p hpm => ?_⟩
  . have := h.inw k q ho
    simp only [hp] at this ⊢
    rw [hk k (Array.getElem?_eq_some_iff.1 this).1]
    exact this
  . rcases List.mem_cons.1 hpm with rfl | hpm
    . refine ⟨?_,h.wf.size, ?_⟩
      . cases hs : S w.heap.size with
        | none=>rfl
        | some q =>
          have := h.inw _ _ hs
          simp only [hp] at this
          have := (Array.getElem?_eq_some_iff.1 this).1
          omega
      . simp only
        rw [hh,Array.getElem?_push,if_pos rfl]
    . obtain ⟨p1,p3,p4⟩ := h.own p hpm
      exact ⟨p1,p3,by rw [hk p.1 (hlt p hpm)]; exact p4⟩
theorem zer (w:World) (o:Obj) : w.heap.size + 1 = (w.alloc o).heap.size := by
  show _ = (w.heap.push _).size
  rw [Array.size_push]
theorem NSt.new' (h:NSt w0 S0 w S L) {p:Nat} (hp:p = w.heap.size) (cs:Array Value) (E:Nat) : NSt w0 S0 (w.alloc (.cells cs E)) S ((p,cs,E) :: L) := by
  subst hp; exact h.alloc cs E
theorem NSt.set {p:Nat} {cs:Array Value} {E:Nat} (h:NSt w0 S0 w S ((p,cs,E) :: L)) (hd : ∀ q ∈ L,q.1 ≠ p) (i:Nat) (v:Value) :
    NSt w0 S0 (w.setCell ⟨p,i,none⟩ v) S ((p,cs.setIfInBounds i v,E) :: L) := by
  obtain ⟨q1,q3,q4⟩ := h.own (p,cs,E) (List.mem_cons_self ..)
  simp only at q1 q3 q4
  have hw := zla (off := i) v (show hp w p = some (.cells cs E (0,0)) from q4)
  obtain ⟨w',hw'⟩ : ∃ w',w' = w.setCell ⟨p,i,none⟩ v := ⟨_,rfl⟩
  rw [<- hw'] at hw ⊢
  have hne : ∀ k,k ≠ p -> w'.heap[k]? = w.heap[k]? := fun k hk=>by
    have := zo (w := w) (o := .cells (cs.setIfInBounds i v) E (0,0)) hk
    rw [hw]; exact this
  have hsz : w'.heap.size = w.heap.size := by rw [hw]; simp [z1i]
  refine ⟨⟨by rw [hsz]; exact h.wf.size,fun k h1' h2'=>by rw [hne k (by omega)]; exact h.wf.same k h1' h2',by rw [hw]; exact h.wf.tape,by rw [hw]; exact h.wf.os,by rw [hw]; exact h.wf.output⟩,h.sub,fun k q ho => ?_,h.new,fun u hu => ?_⟩
  . have hk : k ≠ p := fun e=>by rw [e,q1] at ho; cases ho
    have := h.inw k q ho
    simp only [hp] at this ⊢
    rw [hne k hk]
    exact this
  . rcases List.mem_cons.1 hu with rfl | hu
    . refine ⟨q1,q3, ?_⟩
      rw [hw]
      exact z28 q4
    . obtain ⟨p1,p3,p4⟩ := h.own u (List.mem_cons_of_mem _ hu)
      exact ⟨p1,p3,by rw [hne u.1 (hd u hu)]; exact p4⟩
theorem NSt.give {p:Nat} {cs:Array Value} {E:Nat} (h:NSt w0 S0 w S ((p,cs,E) :: L)) (hd : ∀ q ∈ L,q.1 ≠ p) :
    NSt w0 S0 w (fun k=>if k = p then some (.cells cs E (0,0)) else S k) L /\ Sub S (fun k=>if k = p then some (.cells cs E (0,0)) else S k) := by
  obtain ⟨q1,q3,q4⟩ := h.own (p,cs,E) (List.mem_cons_self ..)
  simp only at q1 q3 q4
  have hs : Sub S (fun k=>if k = p then some (.cells cs E (0,0)) else S k) := fun k o hk=>by
    refine (if_neg (fun e => ?_)).trans hk
    rw [e,q1] at hk; cases hk
  refine ⟨⟨h.wf,h.sub.trans hs,fun k o hk => ?_,fun k hk => ?_,fun u hu => ?_⟩,hs⟩
  . split at hk
    . subst_vars
      simp only [hp]
      rw [q4]; exact hk
    . exact h.inw k o hk
  . split at hk
    . subst_vars; exact .inr q3
    . exact h.new k hk
  . obtain ⟨p1,p3,p4⟩ := h.own u (List.mem_cons_of_mem _ hu)
    exact ⟨by rw [if_neg (hd u hu)]; exact p1,p3,p4⟩
theorem NSt.plain {f:FuncId} {g:List A -> Res} (ct:Contract P glob f g) (hg:GlobOk glob S) (h:NSt w0 S0 w S L) {args:List A} {vals:List Value}
    (hrel:ArgsRel (hp w) S args vals (fun _ => [])) {y:(g args).X} (hy:(g args).val = some y) :
    Calls P f vals.toArray w fun e w' => ∃ v S' o',e = .returned v /\ ARel (hp w') S' (fun _=>undef) ((g args).out y).1 v o' /\ Sub S S' /\ NSt w0 S0 w' S' L := by
  refine ((ct.2 w S args vals _ hrel h.inw hg y hy)).mono ?_
  rintro e w' ⟨v,S',q,ob',rfl,hwf,hSS,hSw,hnew,⟨hr,_⟩,_⟩
  refine ⟨v,S',q,rfl,hr,hSS, ?_⟩
  have hwf' : WF w (fun _=>False) w' := ⟨hwf.size,fun k hk _=>hwf.same k hk (by rintro ⟨i,hi⟩; cases hi),hwf.tape,hwf.os,hwf.output⟩
  have hnw : ∀ k,k < w.heap.size -> S' k ≠ none -> S k ≠ none := fun k hk hs=>by
    rcases hnew k hs with h | ⟨i,hi⟩ | h
    . exact h
    . cases hi
    . omega
  refine ⟨h.wf.trans hwf' (fun _ h=>h.elim),h.sub.trans hSS,hSw,fun k hk => ?_,fun p hp => ?_⟩
  . rcases hnew k hk with h' | ⟨i,hi⟩ | h'
    . exact h.new k h'
    . cases hi
    . exact .inr (Nat.le_trans h.wf.size h')
  . obtain ⟨p1,p3,p4⟩ := h.own p hp
    have hl := (Array.getElem?_eq_some_iff.1 p4).1
    refine ⟨?_,p3, ?_⟩
    . cases hs : S' p.1 with
      | none=>rfl
      | some q=>exact absurd p1 (hnw _ hl (by rw [hs]; simp))
    . rw [hwf'.same p.1 hl (fun h=>h)]; exact p4
end
end Go.Lift
