import Derived.Test.YtgbcebmahbieoaaDoorLgPrDr2
import Derived.Test.YtgbcebmahbieoaaDoorLgPn
import Derived.WalkKit
import Derived.Tactics
import Derived.Tactics2
import Derived.Defers
import Derived.Lib.Hide
import Derived.Below
import Derived.Recover
import Derived.Orders
import Derived.WalkSmall
import Derived.LoopN
import Derived.Test.YtgbcebmahbieoaaDoorChecked
import Derived.KernelRfl
import Derived.Test.YtgbcebmahbieoaaDoorLgPrDr4
import Derived.Deep.RegionHeld3
import Derived.Deep.Cut
import Derived.Deep.OwnRows
import Derived.Deep.LoopGhost
import Derived.Deep.Light
import Derived.Deep.CutRange
import Derived.Laws.Rows
set_option linter.all false
set_option maxRecDepth 100000
namespace Go.Proofs.YtgbcebmahbieoaaDoorLg
noncomputable section
open Go Go.Lift
abbrev PrsT : T := .pair .str TT1
theorem fail_walk {w:World} {v:Value} {e at_:Int} :
    Calls Tryd.prog 37 #[v,.int .i64 e,.int .i64 at_] w fun r w'=>r = .panicked [{ v := .iface 48 (.agg #[.int .i64 e,.int .i64 at_]),recovered := false }] /\ w' = w := by
  go_enter Tryd.func37,Tryd.ntmps37
  go_wp2
  exact ⟨rfl,rfl,rfl⟩
def zu (N:Nat) : List A -> PnRes := zh5 [(0,.box (.pair .str TT1)),(0,.v (.int .i64)),(0,.v (.int .i64))] (fun x=>some ((x.2.1,(x.2.2.1,())) : Int × (Int × Unit))) (fun z=>⟨.pair (.int .i64) (.pair (.int .i64) .unit),z⟩)
theorem z12 (N:Nat) : ContractP Tryd.prog glob 37 48 (zu N) := by
  refine ContractP.hand ⟨_,Tryd.func37,by kernel_rfl,by decide⟩ ?_
  intro w S vals ob x y har hS hg hy
  obtain ⟨x,n,m,u⟩ := x
  cases u
  obtain ⟨⟨v0,hv0,hA0⟩,_⟩ := har.rel 0 _ rfl
  obtain ⟨⟨v1,hv1,hA1⟩,_⟩ := har.rel 1 _ rfl
  obtain ⟨⟨v2,hv2,hA2⟩,_⟩ := har.rel 2 _ rfl
  have hlen := har.len
  have hvals : vals = [v0,v1,v2] := by
    match vals,hlen with
    | [a,b,c],_=>cases hv0; cases hv1; cases hv2; rfl
  have e1 := VR.int_inv hA1.1
  have e2 := VR.int_inv hA2.1
  subst e1
  subst e2
  subst hvals
  cases hy
  refine fail_walk.mono ?_
  rintro r w' ⟨rfl,rfl⟩
  exact ⟨rfl,WF.refl _ _,hS⟩
def zv9 : Code := (Tryd.f95.body).getD .skip
def L_88 : List (List Nat × List Nat) := [([0],[0]),([0,0,1],[12,0]),([1,0,1],[0]),([0,1,0,1],[0]),([0,1,1],[2,0]),([1,1,1],[2,0])]
def E_88 (N:Nat) : Env := z1d tys glob [] [] [] [0] false [] []
theorem z1q4 (N:Nat) : EnvOk Tryd.prog (E_88 N) := zi mixed zn (FnsOk.nil) (ItsOk.nil)
def z37 (N:Nat) : PnT := pnT [(37,48,zu N)]
theorem z75 (N:Nat) : PnOk Tryd.prog glob (z37 N) := PnOk.cons (z12 N) (PnOk.nil)
def z7p (N:Nat) (p:DT5) (k0:(Int × (Int × Unit)) -> Option (Int × (Int × Unit))) (k1:Option (Int × (Int × Unit))) : Option (Int × (Int × Unit)) :=
 cond (p.2.1 == (((List.length p.1) : Nat) : Int))
 (k0 ((1 : Int),(p.2.1,())))
 (k1)
def z1nf (N:Nat) (x:z13 SQ0) (K:ExP -> List A -> Option (Int × (Int × Unit))) : Option (Int × (Int × Unit)) :=
 z7p N x.1 (fun a0=>(K (.pan 48) (mkS [(0,.v TT1)] 0 (a0,())))) (K .normal (mkS SQ0 27 (x.1,())))
def z1k0 (N:Nat) : HdP (Int × (Int × Unit)) := fun st K=>(unS SQ0 27 (restr [0] 0 st)).bind fun x=>z1nf N x K
def t1_88 (N:Nat) : zbd (Int × (Int × Unit)) := []
theorem z1g4 {N:Nat} {c:Ctx} (hb:Base Tryd.prog (E_88 N) c) (hP:PnOk Tryd.prog glob (z37 N)) : z1w Tryd.prog c (zh zv9 [0,1]) (z1k0 N) :=
  z1z (s := SQ0) (m := 27) (g := z1nf N) [0] (z1m hb hP N (t1_88 N) L_88 zv9 TabOkP.nil [0,1] _ rfl) (fun x K=>by kernel_rfl)
def z1x (N:Nat) (p:DT5) : Option (Int × (Int × Unit)) :=
 z7p N p
 (fun p1=>some p1)
 (cond (inR p.2.1 (List.length p.1))
 (none)
 (none))
def t_88 (N:Nat) : zbd (Int × (Int × Unit)) := [([0,1],z1k0 N)]
theorem z186 (N:Nat) (x:z13 SQ0) : zh6 (E_88 N) (z37 N) N (t_88 N) L_88 Tryd.f95 48 TT1 (mkS SQ0 0 x) (fun z=>some z) = z1x N x.1 := by kernel_rfl
def z1t (N:Nat) : List A -> PnRes := zh5 SQ0 (fun x=>z1x N x.1) (fun z=>⟨TT1,z⟩)
theorem z2c (N:Nat) : ContractP Tryd.prog glob 95 48 (z1t N) :=
  ContractP.of (E := E_88 N) (Pn := z37 N) (H := t_88 N) (L := L_88) (N := N) (body := zv9) (t := TT1) (z1q4 N) (z75 N) Tryd.func95 (by kernel_rfl) (by decide) (fun _ hb=>(TabOkP.cons (z1g4 hb (z75 N)) TabOkP.nil)) (fun x y h=>by rw [z186]; exact h)
def zv8 : Code := (Tryd.f89.body).getD .skip
def L_89 : List (List Nat × List Nat) := [([0,0],[7,0]),([1,0],[0]),([0,1,0],[0]),([1],[0])]
def E_89 (N:Nat) : Env := z1d tys glob [(95,z15 N)] [] [] [0] false [] []
theorem z1q3 (N:Nat) : EnvOk Tryd.prog (E_89 N) := zi mixed zn (FnsOk.cons (z1e N) (FnsOk.nil)) (ItsOk.nil)
def z38 (N:Nat) : PnT := pnT [(95,48,z1t N),(37,48,zu N)]
theorem z76 (N:Nat) : PnOk Tryd.prog glob (z38 N) := PnOk.cons (z2c N) (PnOk.cons (z12 N) (PnOk.nil))
def z7q (N:Nat) (p:DT5) (b:Int) (k0:(Int × (Int × Unit)) -> Option (Int × (Int × Unit))) (k1:DT5 -> Option (Int × (Int × Unit))) : Option (Int × (Int × Unit)) :=
 orP ((z1x N p)) (fun z=>k0 z)
 ((z1g N p).bind fun y =>
 cond (y.1 != b)
 (k0 ((2 : Int),(y.2.1.2.1,())))
 (k1 y.2.1))
def z1ne (N:Nat) (x:z13 zq3) (K:ExP -> List A -> Option (Int × (Int × Unit))) : Option (Int × (Int × Unit)) :=
 z7q N x.1 x.2.1 (fun a0=>(K (.pan 48) (mkS [(0,.v TT1)] 0 (a0,())))) (fun a0=>(K .normal (mkS SQ0 20 (a0,()))))
def z1jz (N:Nat) : HdP (Int × (Int × Unit)) := fun st K=>(unS zq3 19 (restr [0,1] 0 st)).bind fun x=>z1ne N x K
def t1_89 (N:Nat) : zbd (Int × (Int × Unit)) := []
theorem z1g3 {N:Nat} {c:Ctx} (hb:Base Tryd.prog (E_89 N) c) (hP:PnOk Tryd.prog glob (z38 N)) : z1w Tryd.prog c (zh zv8 [0]) (z1jz N) :=
  z1z (s := zq3) (m := 19) (g := z1ne N) [0,1] (z1m hb hP N (t1_89 N) L_89 zv8 TabOkP.nil [0] _ rfl) (fun x K=>by kernel_rfl)
def z1y (N:Nat) (p:DT5) (b:Int) : Option (Int × (Int × Unit)) :=
 z7q N p b
 (fun p1=>some p1)
 (fun p2=>none)
def t_89 (N:Nat) : zbd (Int × (Int × Unit)) := [([0],z1jz N)]
theorem z185 (N:Nat) (x:z13 zq3) : zh6 (E_89 N) (z38 N) N (t_89 N) L_89 Tryd.f89 48 TT1 (mkS zq3 0 x) (fun z=>some z) = z1y N x.1 x.2.1 := by kernel_rfl
def z25 (N:Nat) : List A -> PnRes := zh5 zq3 (fun x=>z1y N x.1 x.2.1) (fun z=>⟨TT1,z⟩)
theorem z31 (N:Nat) : ContractP Tryd.prog glob 89 48 (z25 N) :=
  ContractP.of (E := E_89 N) (Pn := z38 N) (H := t_89 N) (L := L_89) (N := N) (body := zv8) (t := TT1) (z1q3 N) (z76 N) Tryd.func89 (by kernel_rfl) (by decide) (fun _ hb=>(TabOkP.cons (z1g3 hb (z76 N)) TabOkP.nil)) (fun x y h=>by rw [z185]; exact h)
def z9m : Code := (Tryd.f88.body).getD .skip
def z163 : List (List Nat × List Nat) := [([0],[0]),([0,1],[0,3]),([0,0,1,1],[12,0,3]),([1,0,1,1],[0,3]),([0,1,0,1,1],[0,3]),([0,1,1,1],[0,4,3]),([0,0,1,1,1,1],[0,4,3]),(z128,[37,4,0,3]),(z127,[4,0,3]),(z129,[0,3,4]),([0,0,1,0,0,0,1,1,1,1],[0,4,3]),([1,0,1,0,0,0,1,1,1,1],[0,4,3]),(z125,[0,4,3]),([0,1,1,1,1],[0,3,4]),(zq4,[75,0,3,4]),(zs4,[4,0,3]),(zz6,[4,0,3]),([0,0,1,1,1,1,1,1],[80,0,3,4]),([1,0,1,1,1,1,1,1],[4,0]),(z126,[4,0]),(zzg,[2,0]),(ztv,[2,0])]
def z14h (N:Nat) : Env := z1d tys glob [(95,z15 N),(99,z5x N)] [] [] [0] false [] []
theorem z1q2 (N:Nat) : EnvOk Tryd.prog (z14h N) := zi mixed zn (FnsOk.cons (z1e N) (FnsOk.cons (z9p N) (FnsOk.nil))) (ItsOk.nil)
def z1c (N:Nat) : PnT := pnT [(95,48,z1t N),(37,48,zu N)]
theorem z30 (N:Nat) : PnOk Tryd.prog glob (z1c N) := PnOk.cons (z2c N) (PnOk.cons (z12 N) (PnOk.nil))
def z8h (N:Nat) (p:DT5) (from_:Int) (k0:(Int × (Int × Unit)) -> Option (Int × (Int × Unit))) (k1:DT5 -> Option (Int × (Int × Unit))) : Option (Int × (Int × Unit)) :=
 orP ((z1x N p)) (fun z=>k0 z)
 ((z1g N p).bind fun y =>
 (z5y N y.1).bind fun y1 =>
 cond (!y1)
 (k0 ((2 : Int),(from_,())))
 (k1 y.2.1))
def z1nd (N:Nat) (x:z13 z15y) (K:ExP -> List A -> Option (Int × (Int × Unit))) : Option (Int × (Int × Unit)) :=
 z8h N x.1 x.2.1 (fun a0=>(K (.pan 48) (mkS [(0,.v TT1)] 0 (a0,())))) (fun a0=>(K .normal (mkS z15y 81 (a0,x.2.1,()))))
def z1jy (N:Nat) : HdP (Int × (Int × Unit)) := fun st K=>(unS z15y 81 (restr [0,3] 0 st)).bind fun x=>z1nd N x K
def t1_90 (N:Nat) : zbd (Int × (Int × Unit)) := []
theorem z1g2 {N:Nat} {c:Ctx} (hb:Base Tryd.prog (z14h N) c) (hP:PnOk Tryd.prog glob (z1c N)) : z1w Tryd.prog c (zh z9m [0,1,1]) (z1jy N) :=
  z1z (s := z15y) (m := 81) (g := z1nd N) [0,3] (z1m hb hP N (t1_90 N) z163 z9m TabOkP.nil [0,1,1] _ rfl) (fun x K=>by kernel_rfl)
def z8f (N:Nat) (p:DT5) (from_:Int) (n:Int) (k0:Option (Int × (Int × Unit))) (k1:Option (Int × (Int × Unit))) : Option (Int × (Int × Unit)) :=
 cond (decide (p.2.1 < (((List.length p.1) : Nat) : Int)))
 (cond (inR p.2.1 (List.length p.1))
 ((z5y N (((UInt8.toNat (List.getD p.1 (Int.toNat p.2.1) (0 : UInt8))) : Nat) : Int)).bind fun y =>
 cond y
 (k0)
 (k1))
 (none))
 (k1)
def z1lm (N:Nat) (x:z13 SQ1) (K:ExP -> List A -> Option (Int × (Int × Unit))) : Option (Int × (Int × Unit)) :=
 z8f N x.1 x.2.1 x.2.2.1 (K .normal (mkS SQ1 80 (x.1,x.2.1,x.2.2.1,()))) (K (.exit 0) (mkS SQ1 80 (x.1,x.2.1,x.2.2.1,())))
def z1i7 (N:Nat) : HdP (Int × (Int × Unit)) := fun st K=>(unS SQ1 80 (restr [0,4,3] 0 st)).bind fun x=>z1lm N x K
def t4_90 (N:Nat) : zbd (Int × (Int × Unit)) := []
theorem z1eb {N:Nat} {c:Ctx} (hb:Base Tryd.prog (z14h N) c) (hP:PnOk Tryd.prog glob (z1c N)) : z1w Tryd.prog c (zh z9m zyx) (z1i7 N) :=
  z1z (s := SQ1) (m := 80) (g := z1lm N) [0,4,3] (z1m hb hP N (t4_90 N) z163 z9m TabOkP.nil zyx _ rfl) (fun x K=>by kernel_rfl)
def z8c (N:Nat) (from_:Int) (p:DT5) (n:Int) (rec:DT5 -> Int -> Option (Int × (Int × Unit))) (k0:DT5 -> Int -> Option (Int × (Int × Unit))) : Option (Int × (Int × Unit)) :=
 z8f N p from_ n
 (cond (inR p.2.1 (List.length p.1))
 (rec (p.1,((IntKind.wrap IntKind.i64 (p.2.1 + (1 : Int))),p.2.2)) (if ((17 : Int) < (IntKind.wrap IntKind.i64 ((IntKind.wrap IntKind.i64 ((10 : Int) * n)) + (IntKind.wrap IntKind.i64 (IntKind.wrap IntKind.u8 ((((UInt8.toNat (List.getD p.1 (Int.toNat p.2.1) (0 : UInt8))) : Nat) : Int) - (48 : Int))))))) then (17 : Int) else (IntKind.wrap IntKind.i64 ((IntKind.wrap IntKind.i64 ((10 : Int) * n)) + (IntKind.wrap IntKind.i64 (IntKind.wrap IntKind.u8 ((((UInt8.toNat (List.getD p.1 (Int.toNat p.2.1) (0 : UInt8))) : Nat) : Int) - (48 : Int))))))))
 (none))
 (k0 p n)
def zev (N:Nat) (p:DT5) (from_:Int) (n:Int) (k0:DT5 -> Int -> Option (Int × (Int × Unit))) : Option (Int × (Int × Unit)) :=
 iter (fun (v:(DT5 × Int)) r=>z8c N from_ v.1 v.2 (fun p n=>(r (p,n))) k0) N (p,n)
def z1lx (N:Nat) (i:Int) (v:(DT5 × Int)) (r:(DT5 × Int) -> Option (Int × (Int × Unit))) (K:ExP -> List A -> Option (Int × (Int × Unit))) : Option (Int × (Int × Unit)) :=
 z8c N i v.1 v.2 (fun p n=>(r (p,n))) (fun a0 a2=>(K (.exit 0) (mkS SQ1 80 (a0,i,a2,()))))
def z1ii (N:Nat) : HdP (Int × (Int × Unit)) := fun st K=>(unS SQ1 80 (restr [0,4,3] 0 st)).bind fun x=>iter (fun v r=>z1lx N ((fun x=>x.2.1) x) v r K) N ((fun x=>(x.1,x.2.2.1)) x)
def t3_90 (N:Nat) : zbd (Int × (Int × Unit)) := [(zyx,z1i7 N)]
theorem z1em {N:Nat} {c:Ctx} (hb:Base Tryd.prog (z14h N) c) (hP:PnOk Tryd.prog glob (z1c N)) : z1w Tryd.prog c (zh z9m [0,0,1,1,1,1]) (z1ii N) :=
  znf (s := SQ1) (m := 80) (z1lx N) [0,4,3] N (fun x=>x.2.1) (fun x=>(x.1,x.2.2.1)) (fun i v=>(v.1,i,v.2,())) (fun _=>rfl) (z1m hb hP N (t3_90 N) z163 z9m (TabOkP.cons (z1eb hb hP) TabOkP.nil) [0,0,0,1,1,1,1] _ rfl) (fun i v r K=>by kernel_rfl)
def z8g (N:Nat) (p:DT5) (from_:Int) (n:Int) (k0:DT5 -> Int -> Option (Int × (Int × Unit))) : Option (Int × (Int × Unit)) :=
 zev N p from_ n
 (fun p1 n1=>k0 p1 n1)
def z1mg (N:Nat) (x:z13 SQ1) (K:ExP -> List A -> Option (Int × (Int × Unit))) : Option (Int × (Int × Unit)) :=
 z8g N x.1 x.2.1 x.2.2.1 (fun a0 a2=>(K .normal (mkS SQ1 80 (a0,x.2.1,a2,()))))
def z1j1 (N:Nat) : HdP (Int × (Int × Unit)) := fun st K=>(unS SQ1 80 (restr [0,4,3] 0 st)).bind fun x=>z1mg N x K
def t2_90 (N:Nat) : zbd (Int × (Int × Unit)) := [([0,0,1,1,1,1],z1ii N)]
theorem z1f5 {N:Nat} {c:Ctx} (hb:Base Tryd.prog (z14h N) c) (hP:PnOk Tryd.prog glob (z1c N)) : z1w Tryd.prog c (zh z9m [0,1,1,1,1]) (z1j1 N) :=
  z1z (s := SQ1) (m := 80) (g := z1mg N) [0,4,3] (z1m hb hP N (t2_90 N) z163 z9m (TabOkP.cons (z1em hb hP) TabOkP.nil) [0,1,1,1,1] _ rfl) (fun x K=>by kernel_rfl)
def z8d (N:Nat) (p:DT5) (from_:Int) (n:Int) (k0:Bool -> Option (Int × (Int × Unit))) : Option (Int × (Int × Unit)) :=
 cond (inR from_ (List.length p.1))
 (cond ((((UInt8.toNat (List.getD p.1 (Int.toNat from_) (0 : UInt8))) : Nat) : Int) == (48 : Int))
 (k0 (decide ((IntKind.wrap IntKind.i64 (from_ + (1 : Int))) < p.2.1)))
 (k0 false))
 (none)
def z1ld (N:Nat) (x:z13 SQ1) (K:ExP -> List A -> Option (Int × (Int × Unit))) : Option (Int × (Int × Unit)) :=
 z8d N x.1 x.2.1 x.2.2.1 (fun a3=>(K .normal (mkS z1p1 9 (x.1,x.2.1,x.2.2.1,a3,()))))
def z1hy (N:Nat) : HdP (Int × (Int × Unit)) := fun st K=>(unS SQ1 80 (restr [0,3,4] 0 st)).bind fun x=>z1ld N x K
def t6_90 (N:Nat) : zbd (Int × (Int × Unit)) := []
theorem z1e2 {N:Nat} {c:Ctx} (hb:Base Tryd.prog (z14h N) c) (hP:PnOk Tryd.prog glob (z1c N)) : z1w Tryd.prog c (zh z9m zq4) (z1hy N) :=
  z1z (s := SQ1) (m := 80) (g := z1ld N) [0,3,4] (z1m hb hP N (t6_90 N) z163 z9m TabOkP.nil zq4 _ rfl) (fun x K=>by kernel_rfl)
def z8e (N:Nat) (p:DT5) (from_:Int) (n:Int) (k0:(Int × (Int × Unit)) -> Option (Int × (Int × Unit))) (k1:Option (Int × (Int × Unit))) : Option (Int × (Int × Unit)) :=
 z8d N p from_ n
 (fun x75=>cond x75
 (k0 ((2 : Int),(from_,())))
 (k1))
def z1lg (N:Nat) (x:z13 SQ1) (K:ExP -> List A -> Option (Int × (Int × Unit))) : Option (Int × (Int × Unit)) :=
 z8e N x.1 x.2.1 x.2.2.1 (fun a0=>(K (.pan 48) (mkS [(0,.v TT1)] 0 (a0,())))) (K .normal (mkS SQ1 80 (x.1,x.2.1,x.2.2.1,())))
def z1i1 (N:Nat) : HdP (Int × (Int × Unit)) := fun st K=>(unS SQ1 80 (restr [0,3,4] 0 st)).bind fun x=>z1lg N x K
def t5_90 (N:Nat) : zbd (Int × (Int × Unit)) := [(zq4,z1hy N)]
theorem z1e5 {N:Nat} {c:Ctx} (hb:Base Tryd.prog (z14h N) c) (hP:PnOk Tryd.prog glob (z1c N)) : z1w Tryd.prog c (zh z9m [0,1,1,1,1,1]) (z1i1 N) :=
  z1z (s := SQ1) (m := 80) (g := z1lg N) [0,3,4] (z1m hb hP N (t5_90 N) z163 z9m (TabOkP.cons (z1e2 hb hP) TabOkP.nil) [0,1,1,1,1,1] _ rfl) (fun x K=>by kernel_rfl)
def z48 (N:Nat) (p:DT5) : Option (Int × (Int × Unit)) :=
 z8h N p p.2.1
 (fun p1=>some p1)
 (fun p2=>z8g N p2 p.2.1 (0 : Int)
 (fun p3 n=>z8e N p3 p.2.1 n
 (fun p4=>some p4)
 (cond (decide ((16 : Int) < n))
 (some ((3 : Int),(p.2.1,())))
 (none))))
def t_90 (N:Nat) : zbd (Int × (Int × Unit)) := [([0,1,1],z1jy N),([0,1,1,1,1],z1j1 N),([0,1,1,1,1,1],z1i1 N)]
theorem z184 (N:Nat) (x:z13 SQ0) : zh6 (z14h N) (z1c N) N (t_90 N) z163 Tryd.f88 48 TT1 (mkS SQ0 0 x) (fun z=>some z) = z48 N x.1 := by kernel_rfl
def z7o (N:Nat) : List A -> PnRes := zh5 SQ0 (fun x=>z48 N x.1) (fun z=>⟨TT1,z⟩)
theorem zew (N:Nat) : ContractP Tryd.prog glob 88 48 (z7o N) :=
  ContractP.of (E := z14h N) (Pn := z1c N) (H := t_90 N) (L := z163) (N := N) (body := z9m) (t := TT1) (z1q2 N) (z30 N) Tryd.func88 (by kernel_rfl) (by decide) (fun _ hb=>(TabOkP.cons (z1g2 hb (z30 N)) (TabOkP.cons (z1f5 hb (z30 N)) (TabOkP.cons (z1e5 hb (z30 N)) TabOkP.nil)))) (fun x y h=>by rw [z184]; exact h)
def zp5 : Code := (Tryd.f97.body).getD .skip
def L_91 : List (List Nat × List Nat) := [([0],[0,1]),([0,1],[0,5,1]),([0,1,1],[5,0,1]),([0,0,1,1,1],[16,5,0,1]),([1,0,1,1,1],[5,0,1]),(ztr,[4,0]),(ztt,[4,0]),([0,0,1,1,1,1],[24,0,1,5]),([1,0,1,1,1,1],[5,0]),(zyt,[5,0]),([0,1,1,1,1,1],[4,0]),([1,1,1,1,1,1],[4,0])]
def z1ry (N:Nat) : Env := z1d tys glob [(95,z15 N),(99,z5x N)] [] [] [0] false [] []
theorem z1q1 (N:Nat) : EnvOk Tryd.prog (z1ry N) := zi mixed zn (FnsOk.cons (z1e N) (FnsOk.cons (z9p N) (FnsOk.nil))) (ItsOk.nil)
def z2n (N:Nat) : PnT := pnT [(95,48,z1t N),(37,48,zu N)]
theorem z7w (N:Nat) : PnOk Tryd.prog glob (z2n N) := PnOk.cons (z2c N) (PnOk.cons (z12 N) (PnOk.nil))
def z8i (N:Nat) (p:DT5) (from_:Int) (b:Int) (k0:Bool -> Option (Int × (Int × Unit))) : Option (Int × (Int × Unit)) :=
 cond (decide (b < (97 : Int)))
 (k0 true)
 (k0 (decide ((102 : Int) < b)))
def z1mf (N:Nat) (x:z13 zze) (K:ExP -> List A -> Option (Int × (Int × Unit))) : Option (Int × (Int × Unit)) :=
 z8i N x.1 x.2.1 x.2.2.1 (fun a3=>(K .normal (mkS [(0,.box (.pair .str TT1)),(0,.v (.int .i64)),(3,.v (.int .u8)),(18,.v .bool)] 6 (x.1,x.2.1,x.2.2.1,a3,()))))
def z1j0 (N:Nat) : HdP (Int × (Int × Unit)) := fun st K=>(unS zze 25 (restr [5,0,1] 0 st)).bind fun x=>z1mf N x K
def t2_91 (N:Nat) : zbd (Int × (Int × Unit)) := []
theorem z1f4 {N:Nat} {c:Ctx} (hb:Base Tryd.prog (z1ry N) c) (hP:PnOk Tryd.prog glob (z2n N)) : z1w Tryd.prog c (zh zp5 [0,0,1,1,1,1]) (z1j0 N) :=
  z1z (s := zze) (m := 25) (g := z1mf N) [5,0,1] (z1m hb hP N (t2_91 N) L_91 zp5 TabOkP.nil [0,0,1,1,1,1] _ rfl) (fun x K=>by kernel_rfl)
def z8j (N:Nat) (p:DT5) (from_:Int) (b:Int) (k0:(Int × (Int × Unit)) -> Option (Int × (Int × Unit))) (k1:Option (Int × (Int × Unit))) : Option (Int × (Int × Unit)) :=
 z8i N p from_ b
 (fun x24=>cond x24
 (k0 ((2 : Int),(from_,())))
 (k1))
def z1nc (N:Nat) (x:z13 zze) (K:ExP -> List A -> Option (Int × (Int × Unit))) : Option (Int × (Int × Unit)) :=
 z8j N x.1 x.2.1 x.2.2.1 (fun a0=>(K (.pan 48) (mkS [(0,.v TT1)] 0 (a0,())))) (K .normal (mkS [(0,.box (.pair .str TT1)),(4,.v (.int .u8))] 25 (x.1,x.2.2.1,())))
def z1jx (N:Nat) : HdP (Int × (Int × Unit)) := fun st K=>(unS zze 25 (restr [5,0,1] 0 st)).bind fun x=>z1nc N x K
def t1_91 (N:Nat) : zbd (Int × (Int × Unit)) := [([0,0,1,1,1,1],z1j0 N)]
theorem z1g1 {N:Nat} {c:Ctx} (hb:Base Tryd.prog (z1ry N) c) (hP:PnOk Tryd.prog glob (z2n N)) : z1w Tryd.prog c (zh zp5 [0,1,1,1,1]) (z1jx N) :=
  z1z (s := zze) (m := 25) (g := z1nc N) [5,0,1] (z1m hb hP N (t1_91 N) L_91 zp5 (TabOkP.cons (z1f4 hb hP) TabOkP.nil) [0,1,1,1,1] _ rfl) (fun x K=>by kernel_rfl)
def z49 (N:Nat) (p:DT5) (from_:Int) : Option (Int × (Int × Unit)) :=
 orP ((z1x N p)) (fun z=>some z)
 ((z1g N p).bind fun y =>
 (z5y N y.1).bind fun y1 =>
 cond y1
 (none)
 (z8j N (y.2.1.1,((IntKind.wrap IntKind.i64 (y.2.1.2.1 + (1 : Int))),y.2.1.2.2)) from_ y.1
 (fun p1=>some p1)
 (none)))
def t_91 (N:Nat) : zbd (Int × (Int × Unit)) := [([0,1,1,1,1],z1jx N)]
theorem z183 (N:Nat) (x:z13 z1c7) : zh6 (z1ry N) (z2n N) N (t_91 N) L_91 Tryd.f97 48 TT1 (mkS z1c7 0 x) (fun z=>some z) = z49 N x.1 x.2.1 := by kernel_rfl
def z7v (N:Nat) : List A -> PnRes := zh5 z1c7 (fun x=>z49 N x.1 x.2.1) (fun z=>⟨TT1,z⟩)
theorem zex (N:Nat) : ContractP Tryd.prog glob 97 48 (z7v N) :=
  ContractP.of (E := z1ry N) (Pn := z2n N) (H := t_91 N) (L := L_91) (N := N) (body := zp5) (t := TT1) (z1q1 N) (z7w N) Tryd.func97 (by kernel_rfl) (by decide) (fun _ hb=>(TabOkP.cons (z1g1 hb (z7w N)) TabOkP.nil)) (fun x y h=>by rw [z183]; exact h)
def zv7 : Code := (Tryd.f86.body).getD .skip
def L_92 : List (List Nat × List Nat) := [([0],[0,2]),([0,1],[0,2,4]),([0,1,1],[0,2,4]),([0,1,1,1],[0,5,2,4]),([0,1,1,1,1],[5,2,0,4]),([0,0,0,1,1,1,1,1],[22,2,0,5,4]),([1,0,0,1,1,1,1,1],[5,2,0]),([0,1,1,0,0,1,1,1,1,1],[26,2,0,5,4]),([1,1,1,0,0,1,1,1,1,1],[5,2,0]),([0,1,1,1,1,0,0,1,1,1,1,1],[30,0,4,2,5]),([1,1,1,1,1,0,0,1,1,1,1,1],[5,2,0]),([0,1,1,1,1,1,1,0,0,1,1,1,1,1],[42,0,4,5,2]),([1,1,1,1,1,1,1,0,0,1,1,1,1,1],[5,2,0]),([0,1,1,1,1,1,1,1,0,0,1,1,1,1,1],[5,2,0]),([0,0,1,1,1,1,1,0,0,1,1,1,1,1],[6,0,4,2]),([1,0,1,1,1,1,1,0,0,1,1,1,1,1],[5,2,0]),([0,0,1,1,1,0,0,1,1,1,1,1],[2,3,0]),([1,0,1,1,1,0,0,1,1,1,1,1],[2,3,0]),([0,0,1,0,0,1,1,1,1,1],[2,3,0]),([1,0,1,0,0,1,1,1,1,1],[2,3,0]),([0,1,1,1,1,1],[5,2,0]),(zyu,[2,3,0]),(zwa,[2,3,0])]
def E_92 (N:Nat) : Env := z1d tys glob [(41,z2t N),(87,z2w N),(89,z1k N),(95,z15 N),(96,z9k N),(97,z6l N)] [] [] [0] false [] []
theorem z1q0 (N:Nat) : EnvOk Tryd.prog (E_92 N) := zi mixed zn (FnsOk.cons (z3b N) (FnsOk.cons (z47 N) (FnsOk.cons (z1v N) (FnsOk.cons (z1e N) (FnsOk.cons (zga N) (FnsOk.cons (zc4 N) (FnsOk.nil))))))) (ItsOk.nil)
def z2r (N:Nat) : PnT := pnT [(97,48,z7v N),(89,48,z25 N),(95,48,z1t N),(37,48,zu N)]
theorem z5t (N:Nat) : PnOk Tryd.prog glob (z2r N) := PnOk.cons (zex N) (PnOk.cons (z31 N) (PnOk.cons (z2c N) (PnOk.cons (z12 N) (PnOk.nil))))
def z6f (N:Nat) (p:DT5) (set_:(List Int)) (from_:Int) (b:Int) (k0:(List Int) -> Bool -> Option (Int × (Int × Unit))) (k1:(Int × (Int × Unit)) -> Option (Int × (Int × Unit))) (k2:DT5 -> Int -> Option (Int × (Int × Unit))) : Option (Int × (Int × Unit)) :=
 cond (b == (100 : Int))
 ((z2d N (48 : Int) (57 : Int)).bind fun y =>
 k0 y true)
 (cond (b == (119 : Int))
 ((zbk N ((48 : UInt8) :: (49 : UInt8) :: (50 : UInt8) :: (51 : UInt8) :: (52 : UInt8) :: (53 : UInt8) :: (54 : UInt8) :: (55 : UInt8) :: (56 : UInt8) :: (57 : UInt8) :: (65 : UInt8) :: (66 : UInt8) :: (67 : UInt8) :: (68 : UInt8) :: (69 : UInt8) :: (70 : UInt8) :: (71 : UInt8) :: (72 : UInt8) :: (73 : UInt8) :: (74 : UInt8) :: (75 : UInt8) :: (76 : UInt8) :: (77 : UInt8) :: (78 : UInt8) :: (79 : UInt8) :: (80 : UInt8) :: (81 : UInt8) :: (82 : UInt8) :: (83 : UInt8) :: (84 : UInt8) :: (85 : UInt8) :: (86 : UInt8) :: (87 : UInt8) :: (88 : UInt8) :: (89 : UInt8) :: (90 : UInt8) :: (95 : UInt8) :: (97 : UInt8) :: (98 : UInt8) :: (99 : UInt8) :: (100 : UInt8) :: (101 : UInt8) :: (102 : UInt8) :: (103 : UInt8) :: (104 : UInt8) :: (105 : UInt8) :: (106 : UInt8) :: (107 : UInt8) :: (108 : UInt8) :: (109 : UInt8) :: (110 : UInt8) :: (111 : UInt8) :: (112 : UInt8) :: (113 : UInt8) :: (114 : UInt8) :: (115 : UInt8) :: (116 : UInt8) :: (117 : UInt8) :: (118 : UInt8) :: (119 : UInt8) :: (120 : UInt8) :: (121 : UInt8) :: (122 : UInt8) :: ([] : List UInt8))).bind fun y1 =>
 k0 y1 true)
 (cond (b == (120 : Int))
 (orP ((z49 N p from_)) (fun z=>k1 z)
 ((z3r N p from_).bind fun y2 =>
 orP ((z49 N y2.2.1 from_)) (fun z1=>k1 z1)
 ((z3r N y2.2.1 from_).bind fun y3 =>
 k2 y3.2.1 (zf Go.BinOp.or IntKind.u8 (z174 IntKind.u8 y2.1 (4 : Int)) y3.1))))
 (cond (decide ((Go.Lib.indexByte ([(92 : UInt8),(46 : UInt8),(91 : UInt8),(93 : UInt8),(40 : UInt8),(41 : UInt8),(123 : UInt8),(125 : UInt8),(124 : UInt8),(42 : UInt8),(43 : UInt8),(63 : UInt8),(45 : UInt8),(94 : UInt8)] : List UInt8) (Nat.toUInt8 (Int.toNat b))) < (0 : Int)))
 (k1 ((2 : Int),(from_,())))
 (k2 p b))))
def z1nb (N:Nat) (x:z13 z1cd) (K:ExP -> List A -> Option (Int × (Int × Unit))) : Option (Int × (Int × Unit)) :=
 z6f N x.1 x.2.1 x.2.2.1 x.2.2.2.1 (fun a1 a2=>(K .ret (mkS SQ66 48 (x.1,a1,a2,())))) (fun a0=>(K (.pan 48) (mkS [(0,.v TT1)] 0 (a0,())))) (fun a0 a2=>(K .normal (mkS [(0,.box (.pair .str TT1)),(1,.box (.arr 4 (.int .u64))),(2,.v (.int .u8))] 46 (a0,x.2.1,a2,()))))
def z1jw (N:Nat) : HdP (Int × (Int × Unit)) := fun st K=>(unS z1cd 46 (restr [5,2,0,4] 0 st)).bind fun x=>z1nb N x K
def t1_92 (N:Nat) : zbd (Int × (Int × Unit)) := []
theorem z1g0 {N:Nat} {c:Ctx} (hb:Base Tryd.prog (E_92 N) c) (hP:PnOk Tryd.prog glob (z2r N)) : z1w Tryd.prog c (zh zv7 [0,1,1,1,1,1]) (z1jw N) :=
  z1z (s := z1cd) (m := 46) (g := z1nb N) [5,2,0,4] (z1m hb hP N (t1_92 N) L_92 zv7 TabOkP.nil [0,1,1,1,1,1] _ rfl) (fun x K=>by kernel_rfl)
def z39 (N:Nat) (p:DT5) : Option (Int × (Int × Unit)) :=
 orP ((z1y N p (92 : Int))) (fun z=>some z)
 ((z1h N p (92 : Int)).bind fun y =>
 orP ((z1x N y.2.1)) (fun z1=>some z1)
 ((z1g N y.2.1).bind fun y1 =>
 z6f N (y1.2.1.1,((IntKind.wrap IntKind.i64 (y1.2.1.2.1 + (1 : Int))),y1.2.1.2.2)) ([(0 : Int),(0 : Int),(0 : Int),(0 : Int)] : List Int) p.2.1 y1.1
 (fun set_ class_=>none)
 (fun p1=>some p1)
 (fun p2 b=>(z2d N b b).bind fun y2 =>
 none)))
def t_92 (N:Nat) : zbd (Int × (Int × Unit)) := [([0,1,1,1,1,1],z1jw N)]
theorem z182 (N:Nat) (x:z13 SQ0) : zh6 (E_92 N) (z2r N) N (t_92 N) L_92 Tryd.f86 48 TT1 (mkS SQ0 0 x) (fun z=>some z) = z39 N x.1 := by kernel_rfl
def z3j (N:Nat) : List A -> PnRes := zh5 SQ0 (fun x=>z39 N x.1) (fun z=>⟨TT1,z⟩)
theorem z6g (N:Nat) : ContractP Tryd.prog glob 86 48 (z3j N) :=
  ContractP.of (E := E_92 N) (Pn := z2r N) (H := t_92 N) (L := L_92) (N := N) (body := zv7) (t := TT1) (z1q0 N) (z5t N) Tryd.func86 (by kernel_rfl) (by decide) (fun _ hb=>(TabOkP.cons (z1g0 hb (z5t N)) TabOkP.nil)) (fun x y h=>by rw [z182]; exact h)
def zp4 : Code := (Tryd.f100.body).getD .skip
def L_93 : List (List Nat × List Nat) := [([0],[0,2]),([0,1],[4,0,2]),([0,0,1,1],[7,0,2,4]),([0,0,1,0,1,1],[8,0,2,7,4]),([1,0,1,0,1,1],[0,4,2]),([0,0,1,1,0,1,0,1,1],[14,0,4,2,7]),([1,0,1,1,0,1,0,1,1],[14,0,4,2]),([0,1,1,0,1,1,0,1,0,1,1],[14,0,4,2,7]),([1,1,1,0,1,1,0,1,0,1,1],[14,0,4,2]),([0,1,1,1,1,0,1,1,0,1,0,1,1],[14,0,4,2,7]),([1,1,1,1,1,0,1,1,0,1,0,1,1],[14,0,4,2]),([1,1,1,1,1,1,0,1,1,0,1,0,1,1],[14,0,4,2]),([1,1,1,0,1,0,1,1],[0,4,2]),([0,1,1,1,0,1,0,1,1],[0,4,2]),([0,0,1,0,1,0,1,1],[2,3,0]),([1,0,1,0,1,0,1,1],[2,3,0]),([1,0,1,1],[0,4,2]),([0,1,1,1],[4,2,0]),([0,1,1,1,1],[2,3,0]),([1,1,1,1,1],[2,3,0])]
def z1rx (N:Nat) : Env := z1d tys glob [(41,z2t N),(86,z2i N),(95,z15 N)] [] [] [0] false [] []
theorem z1pz (N:Nat) : EnvOk Tryd.prog (z1rx N) := zi mixed zn (FnsOk.cons (z3b N) (FnsOk.cons (z3n N) (FnsOk.cons (z1e N) (FnsOk.nil)))) (ItsOk.nil)
def z2h (N:Nat) : PnT := pnT [(86,48,z3j N),(95,48,z1t N),(37,48,zu N)]
theorem z73 (N:Nat) : PnOk Tryd.prog glob (z2h N) := PnOk.cons (z6g N) (PnOk.cons (z2c N) (PnOk.cons (z12 N) (PnOk.nil)))
def z7m (N:Nat) (p:DT5) (set_:(List Int)) (b:Int) (x7:Int) (k0:Bool -> Option (Int × (Int × Unit))) : Option (Int × (Int × Unit)) :=
 cond (x7 == (91 : Int))
 (k0 (x7 == (91 : Int)))
 (cond (x7 == (93 : Int))
 (k0 (x7 == (93 : Int)))
 (cond (x7 == (45 : Int))
 (k0 (x7 == (45 : Int)))
 (k0 (x7 == (94 : Int)))))
def z1me (N:Nat) (x:z13 z1cc) (K:ExP -> List A -> Option (Int × (Int × Unit))) : Option (Int × (Int × Unit)) :=
 z7m N x.1 x.2.1 x.2.2.1 x.2.2.2.1 (fun a3=>(K .normal (mkS z1p7 20 (x.1,x.2.1,x.2.2.1,a3,()))))
def z1iz (N:Nat) : HdP (Int × (Int × Unit)) := fun st K=>(unS z1cc 27 (restr [7,0,4,2] 0 st)).bind fun x=>z1me N x K
def t2_93 (N:Nat) : zbd (Int × (Int × Unit)) := []
theorem z1f3 {N:Nat} {c:Ctx} (hb:Base Tryd.prog (z1rx N) c) (hP:PnOk Tryd.prog glob (z2h N)) : z1w Tryd.prog c (zh zp4 zw9) (z1iz N) :=
  z1z (s := z1cc) (m := 27) (g := z1me N) [7,0,4,2] (z1m hb hP N (t2_93 N) L_93 zp4 TabOkP.nil zw9 _ rfl) (fun x K=>by kernel_rfl)
def z7n (N:Nat) (p:DT5) (set_:(List Int)) (b:Int) (k0:(Int × (Int × Unit)) -> Option (Int × (Int × Unit))) (k1:DT5 -> (List Int) -> Bool -> Option (Int × (Int × Unit))) (k2:Option (Int × (Int × Unit))) : Option (Int × (Int × Unit)) :=
 cond (b == (92 : Int))
 (orP ((z39 N p)) (fun z=>k0 z)
 ((z2o N p).bind fun y =>
 k1 y.2.1 y.1.1 y.1.2.1))
 (z7m N p set_ b b
 (fun x14=>cond x14
 (k0 ((2 : Int),(p.2.1,())))
 (k2)))
def z1na (N:Nat) (x:z13 z160) (K:ExP -> List A -> Option (Int × (Int × Unit))) : Option (Int × (Int × Unit)) :=
 z7n N x.1 x.2.1 x.2.2.1 (fun a0=>(K (.pan 48) (mkS [(0,.v TT1)] 0 (a0,())))) (fun a0 a1 a2=>(K .ret (mkS SQ66 31 (a0,a1,a2,())))) (K .normal (mkS z160 30 (x.1,x.2.1,x.2.2.1,())))
def z1jv (N:Nat) : HdP (Int × (Int × Unit)) := fun st K=>(unS z160 30 (restr [4,0,2] 0 st)).bind fun x=>z1na N x K
def t1_93 (N:Nat) : zbd (Int × (Int × Unit)) := [(zw9,z1iz N)]
theorem z1fz {N:Nat} {c:Ctx} (hb:Base Tryd.prog (z1rx N) c) (hP:PnOk Tryd.prog glob (z2h N)) : z1w Tryd.prog c (zh zp4 [0,1,1]) (z1jv N) :=
  z1z (s := z160) (m := 30) (g := z1na N) [4,0,2] (z1m hb hP N (t1_93 N) L_93 zp4 (TabOkP.cons (z1f3 hb hP) TabOkP.nil) [0,1,1] _ rfl) (fun x K=>by kernel_rfl)
def z3v (N:Nat) (p:DT5) : Option (Int × (Int × Unit)) :=
 orP ((z1x N p)) (fun z=>some z)
 ((z1g N p).bind fun y =>
 z7n N y.2.1 ([(0 : Int),(0 : Int),(0 : Int),(0 : Int)] : List Int) y.1
 (fun p1=>some p1)
 (fun p2 set_ class_=>none)
 ((z2d N y.1 y.1).bind fun y1 =>
 none))
def t_93 (N:Nat) : zbd (Int × (Int × Unit)) := [([0,1,1],z1jv N)]
theorem z181 (N:Nat) (x:z13 SQ0) : zh6 (z1rx N) (z2h N) N (t_93 N) L_93 Tryd.f100 48 TT1 (mkS SQ0 0 x) (fun z=>some z) = z3v N x.1 := by kernel_rfl
def z72 (N:Nat) : List A -> PnRes := zh5 SQ0 (fun x=>z3v N x.1) (fun z=>⟨TT1,z⟩)
theorem zdu (N:Nat) : ContractP Tryd.prog glob 100 48 (z72 N) :=
  ContractP.of (E := z1rx N) (Pn := z2h N) (H := t_93 N) (L := L_93) (N := N) (body := zp4) (t := TT1) (z1pz N) (z73 N) Tryd.func100 (by kernel_rfl) (by decide) (fun _ hb=>(TabOkP.cons (z1fz hb (z73 N)) TabOkP.nil)) (fun x y h=>by rw [z181]; exact h)
def zfn : Code := (Tryd.f92.body).getD .skip
def z1cl : List (List Nat × List Nat) := [([0],[0,2]),([0,1],[4,0,3,2]),([0,0,1,1],[17,3,2,0]),([1,0,1,1],[0,3,2]),([0,0,1,0,1,1],[2,0]),([1,0,1,0,1,1],[2,0]),([0,1,1,1],[0,3,5,2]),([0,1,1,1,1],[4,6,3,0,5,2]),(zq4,[35,0,5,3,6,2]),(zs4,[3,6,2,0]),(zz6,[3,6,2,0]),(zyu,[2,0]),(zwa,[2,0])]
def z1bt (N:Nat) : Env := z1d tys glob [(41,z2t N),(55,z1j N),(100,z5r N),(101,z9l N)] [] [] [0] false [] []
theorem z1py (N:Nat) : EnvOk Tryd.prog (z1bt N) := zi mixed zn (FnsOk.cons (z3b N) (FnsOk.cons (z1u N) (FnsOk.cons (zap N) (FnsOk.cons (zgd N) (FnsOk.nil))))) (ItsOk.nil)
def z1r (N:Nat) : PnT := pnT [(100,48,z72 N),(37,48,zu N)]
theorem z40 (N:Nat) : PnOk Tryd.prog glob (z1r N) := PnOk.cons (zdu N) (PnOk.cons (z12 N) (PnOk.nil))
def z7t (N:Nat) (p:DT5) (x2:(List Int)) (first:(List Int)) (class_:Bool) (k0:DT5 -> Bool -> Option (Int × (Int × Unit))) : Option (Int × (Int × Unit)) :=
 cond class_
 (k0 p true)
 ((z17 N p (45 : Int)).bind fun y =>
 k0 y.2.1 (!y.1))
def z1md (N:Nat) (x:z13 SQ7) (K:ExP -> List A -> Option (Int × (Int × Unit))) : Option (Int × (Int × Unit)) :=
 z7t N x.1 x.2.1 x.2.2.1 x.2.2.2.1 (fun a0 a3=>(K .normal (mkS z1pe 28 (a0,x.2.1,x.2.2.1,a3,()))))
def z1iy (N:Nat) : HdP (Int × (Int × Unit)) := fun st K=>(unS SQ7 41 (restr [4,0,3,2] 0 st)).bind fun x=>z1md N x K
def t2_94 (N:Nat) : zbd (Int × (Int × Unit)) := []
theorem z1f2 {N:Nat} {c:Ctx} (hb:Base Tryd.prog (z1bt N) c) (hP:PnOk Tryd.prog glob (z1r N)) : z1w Tryd.prog c (zh zfn [0,0,1,1]) (z1iy N) :=
  z1z (s := SQ7) (m := 41) (g := z1md N) [4,0,3,2] (z1m hb hP N (t2_94 N) z1cl zfn TabOkP.nil [0,0,1,1] _ rfl) (fun x K=>by kernel_rfl)
def z7u (N:Nat) (p:DT5) (x2:(List Int)) (first:(List Int)) (class_:Bool) (k0:DT5 -> Option (Int × (Int × Unit))) (k1:DT5 -> Option (Int × (Int × Unit))) : Option (Int × (Int × Unit)) :=
 z7t N p x2 first class_
 (fun p1 x17=>cond x17
 (k0 p1)
 (k1 p1))
def z1n9 (N:Nat) (x:z13 SQ7) (K:ExP -> List A -> Option (Int × (Int × Unit))) : Option (Int × (Int × Unit)) :=
 z7u N x.1 x.2.1 x.2.2.1 x.2.2.2.1 (fun a0=>(K .ret (mkS [(0,.box (.pair .str TT1)),(1,.box (.arr 4 (.int .u64)))] 43 (a0,x.2.2.1,())))) (fun a0=>(K .normal (mkS z1p4 42 (a0,x.2.1,x.2.2.1,()))))
def z1ju (N:Nat) : HdP (Int × (Int × Unit)) := fun st K=>(unS SQ7 41 (restr [4,0,3,2] 0 st)).bind fun x=>z1n9 N x K
def t1_94 (N:Nat) : zbd (Int × (Int × Unit)) := [([0,0,1,1],z1iy N)]
theorem z1fy {N:Nat} {c:Ctx} (hb:Base Tryd.prog (z1bt N) c) (hP:PnOk Tryd.prog glob (z1r N)) : z1w Tryd.prog c (zh zfn [0,1,1]) (z1ju N) :=
  z1z (s := SQ7) (m := 41) (g := z1n9 N) [4,0,3,2] (z1m hb hP N (t1_94 N) z1cl zfn (TabOkP.cons (z1f2 hb hP) TabOkP.nil) [0,1,1] _ rfl) (fun x K=>by kernel_rfl)
def z7r (N:Nat) (p:DT5) (x2:(List Int)) (first:(List Int)) (class_:Bool) (from_:Int) (last:(List Int)) (k0:Bool -> Option (Int × (Int × Unit))) : Option (Int × (Int × Unit)) :=
 cond class_
 (k0 true)
 ((z2u N last).bind fun y =>
 (z2u N first).bind fun y1 =>
 k0 (decide (y < y1)))
def z1ll (N:Nat) (x:z13 SQ2) (K:ExP -> List A -> Option (Int × (Int × Unit))) : Option (Int × (Int × Unit)) :=
 z7r N x.1 x.2.1 x.2.2.1 x.2.2.2.1 x.2.2.2.2.1 x.2.2.2.2.2.1 (fun a5=>(K .normal (mkS SQ63 10 (x.1,x.2.1,x.2.2.1,x.2.2.2.2.1,x.2.2.2.2.2.1,a5,()))))
def z1i6 (N:Nat) : HdP (Int × (Int × Unit)) := fun st K=>(unS SQ2 39 (restr [4,6,3,0,5,2] 0 st)).bind fun x=>z1ll N x K
def t4_94 (N:Nat) : zbd (Int × (Int × Unit)) := []
theorem z1ea {N:Nat} {c:Ctx} (hb:Base Tryd.prog (z1bt N) c) (hP:PnOk Tryd.prog glob (z1r N)) : z1w Tryd.prog c (zh zfn zq4) (z1i6 N) :=
  z1z (s := SQ2) (m := 39) (g := z1ll N) [4,6,3,0,5,2] (z1m hb hP N (t4_94 N) z1cl zfn TabOkP.nil zq4 _ rfl) (fun x K=>by kernel_rfl)
def z7s (N:Nat) (p:DT5) (x2:(List Int)) (first:(List Int)) (class_:Bool) (from_:Int) (last:(List Int)) (k0:(Int × (Int × Unit)) -> Option (Int × (Int × Unit))) (k1:Option (Int × (Int × Unit))) : Option (Int × (Int × Unit)) :=
 z7r N p x2 first class_ from_ last
 (fun x35=>cond x35
 (k0 ((2 : Int),(from_,())))
 (k1))
def z1lw (N:Nat) (x:z13 SQ2) (K:ExP -> List A -> Option (Int × (Int × Unit))) : Option (Int × (Int × Unit)) :=
 z7s N x.1 x.2.1 x.2.2.1 x.2.2.2.1 x.2.2.2.2.1 x.2.2.2.2.2.1 (fun a0=>(K (.pan 48) (mkS [(0,.v TT1)] 0 (a0,())))) (K .normal (mkS SQ90 39 (x.1,x.2.1,x.2.2.1,x.2.2.2.2.2.1,())))
def z1ih (N:Nat) : HdP (Int × (Int × Unit)) := fun st K=>(unS SQ2 39 (restr [4,6,3,0,5,2] 0 st)).bind fun x=>z1lw N x K
def t3_94 (N:Nat) : zbd (Int × (Int × Unit)) := [(zq4,z1i6 N)]
theorem z1el {N:Nat} {c:Ctx} (hb:Base Tryd.prog (z1bt N) c) (hP:PnOk Tryd.prog glob (z1r N)) : z1w Tryd.prog c (zh zfn [0,1,1,1,1,1]) (z1ih N) :=
  z1z (s := SQ2) (m := 39) (g := z1lw N) [4,6,3,0,5,2] (z1m hb hP N (t3_94 N) z1cl zfn (TabOkP.cons (z1ea hb hP) TabOkP.nil) [0,1,1,1,1,1] _ rfl) (fun x K=>by kernel_rfl)
def z3w (N:Nat) (p:DT5) : Option (Int × (Int × Unit)) :=
 orP ((z3v N p)) (fun z=>some z)
 ((z3c N p).bind fun y =>
 z7u N y.2.1 ([(0 : Int),(0 : Int),(0 : Int),(0 : Int)] : List Int) y.1.1 y.1.2.1
 (fun p1=>none)
 (fun p2=>orP ((z3v N p2)) (fun z1=>some z1)
 ((z3c N p2).bind fun y1 =>
 z7s N y1.2.1 ([(0 : Int),(0 : Int),(0 : Int),(0 : Int)] : List Int) y.1.1 y1.1.2.1 p2.2.1 y1.1.1
 (fun p3=>some p3)
 ((z2u N y.1.1).bind fun y2 =>
 (z2u N y1.1.1).bind fun y3 =>
 (z2d N (IntKind.wrap IntKind.u8 y2) (IntKind.wrap IntKind.u8 y3)).bind fun y4 =>
 none))))
def t_94 (N:Nat) : zbd (Int × (Int × Unit)) := [([0,1,1],z1ju N),([0,1,1,1,1,1],z1ih N)]
theorem z180 (N:Nat) (x:z13 SQ0) : zh6 (z1bt N) (z1r N) N (t_94 N) z1cl Tryd.f92 48 TT1 (mkS SQ0 0 x) (fun z=>some z) = z3w N x.1 := by kernel_rfl
def z77 (N:Nat) : List A -> PnRes := zh5 SQ0 (fun x=>z3w N x.1) (fun z=>⟨TT1,z⟩)
theorem zdv (N:Nat) : ContractP Tryd.prog glob 92 48 (z77 N) :=
  ContractP.of (E := z1bt N) (Pn := z1r N) (H := t_94 N) (L := z1cl) (N := N) (body := zfn) (t := TT1) (z1py N) (z40 N) Tryd.func92 (by kernel_rfl) (by decide) (fun _ hb=>(TabOkP.cons (z1fy hb (z40 N)) (TabOkP.cons (z1el hb (z40 N)) TabOkP.nil))) (fun x y h=>by rw [z180]; exact h)
def zv6 : Code := (Tryd.f85.body).getD .skip
def L_95 : List (List Nat × List Nat) := [([0],[0,2]),([0,1],[0,2]),([0,1,1],[0,3,2]),([0,1,1,1],[0,4,3,2]),([0,0,1,1,1,1],[0,4,3,2]),(z128,[13,4,0,3,2]),(z127,[4,0,3,2]),(z129,[3,4,2,0]),([0,1,0,0,0,1,1,1,1],[0,4,3,2]),(z125,[0,4,3,2]),([0,1,1,1,1],[3,4,2,0]),(zq4,[18,4,2,0]),(zs4,[4,2,0]),([0,0,1,0,1,1,1,1,1],[2,0]),([1,0,1,0,1,1,1,1,1],[2,0]),(zyu,[2,0]),(zwa,[2,0])]
def E_95 (N:Nat) : Env := z1d tys glob [(55,z1j N),(89,z1k N),(92,z5s N),(93,zdk N),(94,zcj N)] [] [] [0] false [] []
theorem z1px (N:Nat) : EnvOk Tryd.prog (E_95 N) := zi mixed zn (FnsOk.cons (z1u N) (FnsOk.cons (z1v N) (FnsOk.cons (zaw N) (FnsOk.cons (zkv N) (FnsOk.cons (zj8 N) (FnsOk.nil)))))) (ItsOk.nil)
def z2j (N:Nat) : PnT := pnT [(92,48,z77 N),(89,48,z25 N)]
theorem z54 (N:Nat) : PnOk Tryd.prog glob (z2j N) := PnOk.cons (zdv N) (PnOk.cons (z31 N) (PnOk.nil))
def z5j (N:Nat) (x2:(List Int)) (not_:Bool) (p:DT5) (set_:(List Int)) (rec:DT5 -> (List Int) -> Option (Int × (Int × Unit))) (k0:(Int × (Int × Unit)) -> Option (Int × (Int × Unit))) (k1:DT5 -> (List Int) -> Option (Int × (Int × Unit))) : Option (Int × (Int × Unit)) :=
 (z17 N p (93 : Int)).bind fun y =>
 cond (!y.1)
 (orP ((z3w N y.2.1)) (fun z=>k0 z)
 ((z3d N y.2.1).bind fun y1 =>
 (zib N set_ y1.1).bind fun y2 =>
 rec y1.2.1 y2))
 (k1 y.2.1 set_)
def zbf (N:Nat) (p:DT5) (x2:(List Int)) (not_:Bool) (set_:(List Int)) (k0:(Int × (Int × Unit)) -> Option (Int × (Int × Unit))) (k1:DT5 -> (List Int) -> Option (Int × (Int × Unit))) : Option (Int × (Int × Unit)) :=
 iter (fun (v:(DT5 × (List Int))) r=>z5j N x2 not_ v.1 v.2 (fun p set_=>(r (p,set_))) k0 k1) N (p,set_)
def z1n8 (N:Nat) (i:((List Int) × Bool)) (v:(DT5 × (List Int))) (r:(DT5 × (List Int)) -> Option (Int × (Int × Unit))) (K:ExP -> List A -> Option (Int × (Int × Unit))) : Option (Int × (Int × Unit)) :=
 z5j N i.1 i.2 v.1 v.2 (fun p set_=>(r (p,set_))) (fun a0=>(K (.pan 48) (mkS [(0,.v TT1)] 0 (a0,())))) (fun a0 a3=>(K (.exit 0) (mkS z1ce 17 (a0,i.1,i.2,a3,()))))
def z1jt (N:Nat) : HdP (Int × (Int × Unit)) := fun st K=>(unS z1ce 17 (restr [0,4,3,2] 0 st)).bind fun x=>iter (fun v r=>z1n8 N ((fun x=>(x.2.1,x.2.2.1)) x) v r K) N ((fun x=>(x.1,x.2.2.2.1)) x)
def t1_95 (N:Nat) : zbd (Int × (Int × Unit)) := []
theorem z1fx {N:Nat} {c:Ctx} (hb:Base Tryd.prog (E_95 N) c) (hP:PnOk Tryd.prog glob (z2j N)) : z1w Tryd.prog c (zh zv6 [0,0,1,1,1,1]) (z1jt N) :=
  znf (s := z1ce) (m := 17) (z1n8 N) [0,4,3,2] N (fun x=>(x.2.1,x.2.2.1)) (fun x=>(x.1,x.2.2.2.1)) (fun i v=>(v.1,i.1,i.2,v.2,())) (fun _=>rfl) (z1m hb hP N (t1_95 N) L_95 zv6 TabOkP.nil [0,0,0,1,1,1,1] _ rfl) (fun i v r K=>by kernel_rfl)
def z42 (N:Nat) (p:DT5) : Option (Int × (Int × Unit)) :=
 orP ((z1y N p (91 : Int))) (fun z=>some z)
 ((z1h N p (91 : Int)).bind fun y =>
 (z17 N y.2.1 (94 : Int)).bind fun y1 =>
 orP ((z3w N y1.2.1)) (fun z1=>some z1)
 ((z3d N y1.2.1).bind fun y2 =>
 zbf N y2.2.1 ([(0 : Int),(0 : Int),(0 : Int),(0 : Int)] : List Int) y1.1 y2.1
 (fun p1=>some p1)
 (fun p2 set_=>cond y1.1
 ((zfj N set_).bind fun y3 =>
 none)
 (none))))
def t_95 (N:Nat) : zbd (Int × (Int × Unit)) := [([0,0,1,1,1,1],z1jt N)]
theorem z17z (N:Nat) (x:z13 SQ0) : zh6 (E_95 N) (z2j N) N (t_95 N) L_95 Tryd.f85 48 TT1 (mkS SQ0 0 x) (fun z=>some z) = z42 N x.1 := by kernel_rfl
def z53 (N:Nat) : List A -> PnRes := zh5 SQ0 (fun x=>z42 N x.1) (fun z=>⟨TT1,z⟩)
theorem zbg (N:Nat) : ContractP Tryd.prog glob 85 48 (z53 N) :=
  ContractP.of (E := E_95 N) (Pn := z2j N) (H := t_95 N) (L := L_95) (N := N) (body := zv6) (t := TT1) (z1px N) (z54 N) Tryd.func85 (by kernel_rfl) (by decide) (fun _ hb=>(TabOkP.cons (z1fx hb (z54 N)) TabOkP.nil)) (fun x y h=>by rw [z17z]; exact h)
def zp3 : Code := (Tryd.f80.body).getD .skip
def L_96 : List (List Nat × List Nat) := [([0],[0]),([0,1],[0,4]),([0,1,1],[2,0,4]),([0,1,1,1],[0,2,3,4]),([0,0,1,1,1,1],[13,0,2,3,4]),([1,0,1,1,1,1],[3,2,0,4]),([0,0,0,1,0,1,1,1,1],[15,2,0]),([1,0,0,1,0,1,1,1,1],[0,2]),([0,0,1,0,0,1,0,1,1,1,1],[2,3,0]),(z14a,[2,3,0]),([0,1,0,1,0,1,1,1,1],[0,2,4]),([1,1,0,1,0,1,1,1,1],[3,2,0,4]),(zq4,[26,0,4,2,3]),(zs4,[0,2,3]),(zz6,[0,2,3]),(zyu,[2,3,0]),(zzg,[2,3,0]),(ztv,[2,3,0])]
def z1rw (N:Nat) : Env := z1d tys glob [(55,z1j N),(88,z6k N),(89,z1k N)] [] [] [0] false [] []
theorem z1pw (N:Nat) : EnvOk Tryd.prog (z1rw N) := zi mixed zn (FnsOk.cons (z1u N) (FnsOk.cons (zc1 N) (FnsOk.cons (z1v N) (FnsOk.nil)))) (ItsOk.nil)
def z26 (N:Nat) : PnT := pnT [(88,48,z7o N),(89,48,z25 N),(37,48,zu N)]
theorem z3k (N:Nat) : PnOk Tryd.prog glob (z26 N) := PnOk.cons (zew N) (PnOk.cons (z31 N) (PnOk.cons (z12 N) (PnOk.nil)))
def z6i (N:Nat) (p:DT5) (low:Int) (high:Int) (from_:Int) (k0:DT5 -> Int -> Option (Int × (Int × Unit))) (k1:(Int × (Int × Unit)) -> Option (Int × (Int × Unit))) (k2:DT5 -> Int -> Int -> Option (Int × (Int × Unit))) : Option (Int × (Int × Unit)) :=
 (z17 N p (44 : Int)).bind fun y =>
 cond y.1
 ((z17 N y.2.1 (125 : Int)).bind fun y1 =>
 cond y1.1
 (k0 y1.2.1 (-(1 : Int)))
 (orP ((z48 N y1.2.1)) (fun z=>k1 z)
 ((z3q N y1.2.1).bind fun y2 =>
 k2 y2.2.1 y2.1 y1.2.1.2.1)))
 (k2 y.2.1 high from_)
def z1n7 (N:Nat) (x:z13 SQ8) (K:ExP -> List A -> Option (Int × (Int × Unit))) : Option (Int × (Int × Unit)) :=
 z6i N x.1 x.2.1 x.2.2.1 x.2.2.2.1 (fun a0 a2=>(K .ret (mkS SQ78 30 (a0,x.2.1,a2,())))) (fun a0=>(K (.pan 48) (mkS [(0,.v TT1)] 0 (a0,())))) (fun a0 a2 a3=>(K .normal (mkS SQ8 29 (a0,x.2.1,a2,a3,()))))
def z1js (N:Nat) : HdP (Int × (Int × Unit)) := fun st K=>(unS SQ8 29 (restr [0,2,3,4] 0 st)).bind fun x=>z1n7 N x K
def t1_96 (N:Nat) : zbd (Int × (Int × Unit)) := []
theorem z1fw {N:Nat} {c:Ctx} (hb:Base Tryd.prog (z1rw N) c) (hP:PnOk Tryd.prog glob (z26 N)) : z1w Tryd.prog c (zh zp3 [0,1,1,1,1]) (z1js N) :=
  z1z (s := SQ8) (m := 29) (g := z1n7 N) [0,2,3,4] (z1m hb hP N (t1_96 N) L_96 zp3 TabOkP.nil [0,1,1,1,1] _ rfl) (fun x K=>by kernel_rfl)
def z6h (N:Nat) (p:DT5) (low:Int) (high:Int) (from_:Int) (k0:(Int × (Int × Unit)) -> Option (Int × (Int × Unit))) (k1:Option (Int × (Int × Unit))) : Option (Int × (Int × Unit)) :=
 cond (decide (high < (if ((1 : Int) > low) then (1 : Int) else low)))
 (k0 ((2 : Int),(from_,())))
 (k1)
def z1mc (N:Nat) (x:z13 SQ8) (K:ExP -> List A -> Option (Int × (Int × Unit))) : Option (Int × (Int × Unit)) :=
 z6h N x.1 x.2.1 x.2.2.1 x.2.2.2.1 (fun a0=>(K (.pan 48) (mkS [(0,.v TT1)] 0 (a0,())))) (K .normal (mkS SQ78 30 (x.1,x.2.1,x.2.2.1,())))
def z1ix (N:Nat) : HdP (Int × (Int × Unit)) := fun st K=>(unS SQ8 29 (restr [3,2,0,4] 0 st)).bind fun x=>z1mc N x K
def t2_96 (N:Nat) : zbd (Int × (Int × Unit)) := []
theorem z1f1 {N:Nat} {c:Ctx} (hb:Base Tryd.prog (z1rw N) c) (hP:PnOk Tryd.prog glob (z26 N)) : z1w Tryd.prog c (zh zp3 [0,1,1,1,1,1]) (z1ix N) :=
  z1z (s := SQ8) (m := 29) (g := z1mc N) [3,2,0,4] (z1m hb hP N (t2_96 N) L_96 zp3 TabOkP.nil [0,1,1,1,1,1] _ rfl) (fun x K=>by kernel_rfl)
def z4x (N:Nat) (p:DT5) : Option (Int × (Int × Unit)) :=
 orP ((z48 N p)) (fun z=>some z)
 ((z3q N p).bind fun y =>
 z6i N y.2.1 y.1 y.1 p.2.1
 (fun p1 high=>none)
 (fun p2=>some p2)
 (fun p3 high1 from_=>z6h N p3 y.1 high1 from_
 (fun p4=>some p4)
 (orP ((z1y N p3 (125 : Int))) (fun z1=>some z1)
 ((z1h N p3 (125 : Int)).bind fun y1 =>
 none))))
def t_96 (N:Nat) : zbd (Int × (Int × Unit)) := [([0,1,1,1,1],z1js N),([0,1,1,1,1,1],z1ix N)]
theorem z17y (N:Nat) (x:z13 SQ0) : zh6 (z1rw N) (z26 N) N (t_96 N) L_96 Tryd.f80 48 TT1 (mkS SQ0 0 x) (fun z=>some z) = z4x N x.1 := by kernel_rfl
def z5u (N:Nat) : List A -> PnRes := zh5 SQ0 (fun x=>z4x N x.1) (fun z=>⟨TT1,z⟩)
theorem zct (N:Nat) : ContractP Tryd.prog glob 80 48 (z5u N) :=
  ContractP.of (E := z1rw N) (Pn := z26 N) (H := t_96 N) (L := L_96) (N := N) (body := zp3) (t := TT1) (z1pw N) (z3k N) Tryd.func80 (by kernel_rfl) (by decide) (fun _ hb=>(TabOkP.cons (z1fw hb (z3k N)) (TabOkP.cons (z1f1 hb (z3k N)) TabOkP.nil))) (fun x y h=>by rw [z17y]; exact h)
abbrev z6 : Type := DT5 -> Option (Int × (Int × Unit))
def zv5 : Code := (Tryd.f83.body).getD .skip
def L_97 : List (List Nat × List Nat) := [([0],[0,2]),([0,0,1],[8,0,2]),([1,0,1],[0,2]),([0,1,0,1],[0,2]),([0,1,1],[0,2]),([0,1,1,1],[0,2]),([0,1,1,1,1],[0,3,2]),([0,1,1,1,1,1],[0,3,2]),(zyu,[3,2,0]),(zzg,[2,0]),(ztv,[2,0])]
def E_97 (N:Nat) (self:z6) : Env := z1d tys glob [(36,zaz N),(89,z1k N)] [] [] [0] false [] []
theorem z1pv (N:Nat) (self:z6) : EnvOk Tryd.prog (E_97 N self) := zi mixed zn (FnsOk.cons (z2b N) (FnsOk.cons (z1v N) (FnsOk.nil))) (ItsOk.nil)
def z32 (N:Nat) (self:z6) : PnT := pnT [(89,48,z25 N),(37,48,zu N),(36,48,zh5 SQ0 (fun x=>self x.1) (fun z=>⟨TT1,z⟩))]
theorem z6e (N:Nat) (self:z6) (hself:ContractP Tryd.prog glob 36 48 (zh5 SQ0 (fun x=>self x.1) (fun z=>⟨TT1,z⟩))) : PnOk Tryd.prog glob (z32 N self) := PnOk.cons (z31 N) (PnOk.cons (z12 N) (PnOk.cons (hself) (PnOk.nil)))
def z78 (N:Nat) (self:z6) (p:DT5) (x2:DT7) (k0:(Int × (Int × Unit)) -> Option (Int × (Int × Unit))) (k1:Option (Int × (Int × Unit))) : Option (Int × (Int × Unit)) :=
 cond (p.2.2.1 == (16 : Int))
 (k0 ((3 : Int),(p.2.1,())))
 (k1)
def z1n6 (N:Nat) (self:z6) (x:z13 z15x) (K:ExP -> List A -> Option (Int × (Int × Unit))) : Option (Int × (Int × Unit)) :=
 z78 N self x.1 x.2.1 (fun a0=>(K (.pan 48) (mkS [(0,.v TT1)] 0 (a0,())))) (K .normal (mkS z15x 33 (x.1,x.2.1,())))
def z1jr (N:Nat) (self:z6) : HdP (Int × (Int × Unit)) := fun st K=>(unS z15x 33 (restr [0,2] 0 st)).bind fun x=>z1n6 N self x K
def t1_97 (N:Nat) (self:z6) : zbd (Int × (Int × Unit)) := []
theorem z1fv {N:Nat} {self:z6} {c:Ctx} (hb:Base Tryd.prog (E_97 N self) c) (hP:PnOk Tryd.prog glob (z32 N self)) : z1w Tryd.prog c (zh zv5 [0,1]) (z1jr N self) :=
  z1z (s := z15x) (m := 33) (g := z1n6 N self) [0,2] (z1m hb hP N (t1_97 N self) L_97 zv5 TabOkP.nil [0,1] _ rfl) (fun x K=>by kernel_rfl)
def z5c (N:Nat) (self:z6) (p:DT5) : Option (Int × (Int × Unit)) :=
 z78 N self p ((0 : Int),(([(0 : Int),(0 : Int),(0 : Int),(0 : Int)] : List Int),(([] : List Tree),((0 : Int),((0 : Int),())))))
 (fun p1=>some p1)
 (orP ((z1y N (p.1,(p.2.1,((IntKind.wrap IntKind.i64 (p.2.2.1 + (1 : Int))),p.2.2.2))) (40 : Int))) (fun z=>some z)
 ((z1h N (p.1,(p.2.1,((IntKind.wrap IntKind.i64 (p.2.2.1 + (1 : Int))),p.2.2.2))) (40 : Int)).bind fun y =>
 orP ((self y.2.1)) (fun z1=>some z1)
 ((zq N y.2.1).bind fun y1 =>
 orP ((z1y N y1.2.1 (41 : Int))) (fun z2=>some z2)
 ((z1h N y1.2.1 (41 : Int)).bind fun y2 =>
 none))))
def t_97 (N:Nat) (self:z6) : zbd (Int × (Int × Unit)) := [([0,1],z1jr N self)]
theorem z17x (N:Nat) (self:z6) (x:z13 SQ0) : zh6 (E_97 N self) (z32 N self) N (t_97 N self) L_97 Tryd.f83 48 TT1 (mkS SQ0 0 x) (fun z=>some z) = z5c N self x.1 := by kernel_rfl
def z6d (N:Nat) (self:z6) : List A -> PnRes := zh5 SQ0 (fun x=>z5c N self x.1) (fun z=>⟨TT1,z⟩)
theorem zdh (N:Nat) (self:z6) (hself:ContractP Tryd.prog glob 36 48 (zh5 SQ0 (fun x=>self x.1) (fun z=>⟨TT1,z⟩))) : ContractP Tryd.prog glob 83 48 (z6d N self) :=
  ContractP.of (E := E_97 N self) (Pn := z32 N self) (H := t_97 N self) (L := L_97) (N := N) (body := zv5) (t := TT1) (z1pv N self) (z6e N self hself) Tryd.func83 (by kernel_rfl) (by decide) (fun _ hb=>(TabOkP.cons (z1fv hb (z6e N self hself)) TabOkP.nil)) (fun x y h=>by rw [z17x]; exact h)
def zv4 : Code := (Tryd.f79.body).getD .skip
def L_98 : List (List Nat × List Nat) := [([0],[0,2]),([0,1],[3,0,2]),([0,1,1],[15,0,2,3]),([0,0,1,1,1],[36,0,2,15,3]),([1,0,1,1,1],[2,0]),([0,1,1,0,1,1,1],[40,0,2,15,3]),([1,1,1,0,1,1,1],[2,0]),([0,1,1,1,1,0,1,1,1],[51,0,2,15,3]),([1,1,1,1,1,0,1,1,1],[2,0]),([0,1,1,1,1,1,1,0,1,1,1],[56,0,2,3]),([1,1,1,1,1,1,1,0,1,1,1],[2,0]),([0,0,1,1,1,1,1,1,1,1,0,1,1,1],[18,0,3,2]),([1,0,1,1,1,1,1,1,1,1,0,1,1,1],[0,3,2]),([0,1,0,1,1,1,1,1,1,1,1,0,1,1,1],[0,3,2]),([0,1,1,1,1,1,1,1,1,1,0,1,1,1],[3,2,0]),([0,1,1,1,1,1,1,1,1,1,1,0,1,1,1],[2,0]),([1,1,1,1,1,1,1,1,1,1,1,0,1,1,1],[2,0]),([0,0,1,1,1,1,1,1,1,0,1,1,1],[4,2,0]),([0,1,0,1,1,1,1,1,1,1,0,1,1,1],[2,0]),([1,1,0,1,1,1,1,1,1,1,0,1,1,1],[2,0]),([0,0,1,1,1,1,1,0,1,1,1],[2,0]),([1,0,1,1,1,1,1,0,1,1,1],[2,0]),([0,0,1,1,1,0,1,1,1],[2,0]),([0,1,0,1,1,1,0,1,1,1],[2,0]),([1,1,0,1,1,1,0,1,1,1],[2,0]),(ztr,[2,0]),(ztt,[2,0]),([1,1,1],[2,0])]
def E_98 (N:Nat) (self:z6) : Env := z1d tys glob [(41,z2t N),(83,z5b N (zq N)),(84,zf1 N),(85,z41 N),(86,z2i N),(87,z2w N)] [] [] [0] false [] []
theorem z1pu (N:Nat) (self:z6) : EnvOk Tryd.prog (E_98 N self) := zi mixed zn (FnsOk.cons (z3b N) (FnsOk.cons (za3 N (zq N) (z2b N)) (FnsOk.cons (zmb N) (FnsOk.cons (z80 N) (FnsOk.cons (z3n N) (FnsOk.cons (z47 N) (FnsOk.nil))))))) (ItsOk.nil)
def z3a (N:Nat) (self:z6) : PnT := pnT [(83,48,z6d N self),(85,48,z53 N),(86,48,z3j N),(37,48,zu N),(36,48,zh5 SQ0 (fun x=>self x.1) (fun z=>⟨TT1,z⟩))]
theorem z7a (N:Nat) (self:z6) (hself:ContractP Tryd.prog glob 36 48 (zh5 SQ0 (fun x=>self x.1) (fun z=>⟨TT1,z⟩))) : PnOk Tryd.prog glob (z3a N self) := PnOk.cons (zdh N self hself) (PnOk.cons (zbg N) (PnOk.cons (z6g N) (PnOk.cons (z12 N) (PnOk.cons (hself) (PnOk.nil)))))
def z81 (N:Nat) (self:z6) (p:DT5) (x2:DT7) (b:Int) (k0:(Int × (Int × Unit)) -> Option (Int × (Int × Unit))) (k1:Option (Int × (Int × Unit))) : Option (Int × (Int × Unit)) :=
 cond (decide ((0 : Int) <= (Go.Lib.indexByte ([(92 : UInt8),(46 : UInt8),(91 : UInt8),(93 : UInt8),(40 : UInt8),(41 : UInt8),(123 : UInt8),(125 : UInt8),(124 : UInt8),(42 : UInt8),(43 : UInt8),(63 : UInt8)] : List UInt8) (Nat.toUInt8 (Int.toNat b)))))
 (k0 ((2 : Int),(p.2.1,())))
 (k1)
def z1n5 (N:Nat) (self:z6) (x:z13 z15z) (K:ExP -> List A -> Option (Int × (Int × Unit))) : Option (Int × (Int × Unit)) :=
 z81 N self x.1 x.2.1 x.2.2.1 (fun a0=>(K (.pan 48) (mkS [(0,.v TT1)] 0 (a0,())))) (K .normal (mkS z15z 61 (x.1,x.2.1,x.2.2.1,())))
def z1jq (N:Nat) (self:z6) : HdP (Int × (Int × Unit)) := fun st K=>(unS z15z 61 (restr [3,0,2] 0 st)).bind fun x=>z1n5 N self x K
def t1_98 (N:Nat) (self:z6) : zbd (Int × (Int × Unit)) := []
theorem z1fu {N:Nat} {self:z6} {c:Ctx} (hb:Base Tryd.prog (E_98 N self) c) (hP:PnOk Tryd.prog glob (z3a N self)) : z1w Tryd.prog c (zh zv4 z1ch) (z1jq N self) :=
  z1z (s := z15z) (m := 61) (g := z1n5 N self) [3,0,2] (z1m hb hP N (t1_98 N self) L_98 zv4 TabOkP.nil z1ch _ rfl) (fun x K=>by kernel_rfl)
def z5w (N:Nat) (self:z6) (p:DT5) : Option (Int × (Int × Unit)) :=
 cond (inR p.2.1 (List.length p.1))
 (cond ((((UInt8.toNat (List.getD p.1 (Int.toNat p.2.1) (0 : UInt8))) : Nat) : Int) == (40 : Int))
 (orP ((z5c N self p)) (fun z=>some z)
 ((z5i N (zq N) p).bind fun y =>
 none))
 (cond ((((UInt8.toNat (List.getD p.1 (Int.toNat p.2.1) (0 : UInt8))) : Nat) : Int) == (46 : Int))
 ((z2d N (0 : Int) (255 : Int)).bind fun y1 =>
 none)
 (cond ((((UInt8.toNat (List.getD p.1 (Int.toNat p.2.1) (0 : UInt8))) : Nat) : Int) == (91 : Int))
 (orP ((z42 N p)) (fun z1=>some z1)
 ((z3x N p).bind fun y2 =>
 none))
 (cond ((((UInt8.toNat (List.getD p.1 (Int.toNat p.2.1) (0 : UInt8))) : Nat) : Int) == (92 : Int))
 (orP ((z39 N p)) (fun z2=>some z2)
 ((z2o N p).bind fun y3 =>
 none))
 (z81 N self p ((0 : Int),(([(0 : Int),(0 : Int),(0 : Int),(0 : Int)] : List Int),(([] : List Tree),((0 : Int),((0 : Int),()))))) (((UInt8.toNat (List.getD p.1 (Int.toNat p.2.1) (0 : UInt8))) : Nat) : Int)
 (fun p1=>some p1)
 ((z2d N (((UInt8.toNat (List.getD p.1 (Int.toNat p.2.1) (0 : UInt8))) : Nat) : Int) (((UInt8.toNat (List.getD p.1 (Int.toNat p.2.1) (0 : UInt8))) : Nat) : Int)).bind fun y4 =>
 none))))))
 (none)
def t_98 (N:Nat) (self:z6) : zbd (Int × (Int × Unit)) := [(z1ch,z1jq N self)]
theorem z17w (N:Nat) (self:z6) (x:z13 SQ0) : zh6 (E_98 N self) (z3a N self) N (t_98 N self) L_98 Tryd.f79 48 TT1 (mkS SQ0 0 x) (fun z=>some z) = z5w N self x.1 := by kernel_rfl
def z79 (N:Nat) (self:z6) : List A -> PnRes := zh5 SQ0 (fun x=>z5w N self x.1) (fun z=>⟨TT1,z⟩)
theorem zdx (N:Nat) (self:z6) (hself:ContractP Tryd.prog glob 36 48 (zh5 SQ0 (fun x=>self x.1) (fun z=>⟨TT1,z⟩))) : ContractP Tryd.prog glob 79 48 (z79 N self) :=
  ContractP.of (E := E_98 N self) (Pn := z3a N self) (H := t_98 N self) (L := L_98) (N := N) (body := zv4) (t := TT1) (z1pu N self) (z7a N self hself) Tryd.func79 (by kernel_rfl) (by decide) (fun _ hb=>(TabOkP.cons (z1fu hb (z7a N self hself)) TabOkP.nil)) (fun x y h=>by rw [z17w]; exact h)
def zv3 : Code := (Tryd.f71.body).getD .skip
def L_99 : List (List Nat × List Nat) := [([0],[0,2]),([0,1],[0,3,2]),([0,0,1,1],[16,3,2,0]),([1,0,1,1],[3,0,2]),([0,0,1,0,1,1],[2,0]),([1,0,1,0,1,1],[2,0]),([0,1,1,1],[0,4,2,3]),([0,0,1,1,1,1],[29,4,0,2,3]),([0,0,0,0,0,0,0,0,0,0,0,0,0,0,1,0,1,1,1,1],[30,4,0,2,29,3]),([1,0,0,0,0,0,0,0,0,0,0,0,0,0,1,0,1,1,1,1],[29,0,4,2,3]),([0,1,0,0,0,0,0,0,0,0,0,0,0,0,0,1,0,1,1,1,1],[4,0,2]),([0,0,1,0,0,0,0,0,0,0,0,0,0,0,0,1,0,1,1,1,1],[32,0,4,2,29,3]),([1,0,1,0,0,0,0,0,0,0,0,0,0,0,0,1,0,1,1,1,1],[29,0,4,2,3]),([0,1,0,1,0,0,0,0,0,0,0,0,0,0,0,0,1,0,1,1,1,1],[0,4,2]),([0,0,1,1,0,0,0,0,0,0,0,0,0,0,0,0,1,0,1,1,1,1],[34,0,4,2,29,3]),([1,0,1,1,0,0,0,0,0,0,0,0,0,0,0,0,1,0,1,1,1,1],[29,0,4,2,3]),([0,1,0,1,1,0,0,0,0,0,0,0,0,0,0,0,0,1,0,1,1,1,1],[0,4,2]),([0,1,1,1,0,0,0,0,0,0,0,0,0,0,0,0,1,0,1,1,1,1],[36,0,4,2,3]),([1,1,1,1,0,0,0,0,0,0,0,0,0,0,0,0,1,0,1,1,1,1],[3,2,0]),([0,1,1,1,1,0,0,0,0,0,0,0,0,0,0,0,0,1,0,1,1,1,1],[0,4,2]),([1,0,0,0,0,0,0,0,0,0,0,0,1,0,1,1,1,1],[3,2,0]),([0,0,0,0,0,0,0,0,0,0,1,0,1,1,1,1],[4,0,2]),([1,0,0,0,0,0,0,0,0,0,1,0,1,1,1,1],[0,4,2]),(z162,[0,4,2]),([0,1,0,0,0,0,0,0,0,1,0,1,1,1,1],[4,2,0]),([1,1,0,0,0,0,0,0,0,1,0,1,1,1,1],[4,2,0]),([0,0,0,0,0,0,1,0,1,1,1,1],[0,4,2]),([0,0,1,0,0,0,0,0,1,0,1,1,1,1],[4,2,0]),([1,0,1,0,0,0,0,0,1,0,1,1,1,1],[4,2,0]),([1,1,0,0,0,0,0,1,0,1,1,1,1],[4,2,0]),([0,0,0,0,1,0,1,1,1,1],[0,4,2]),([0,0,1,0,0,0,1,0,1,1,1,1],[0,4,2]),([1,0,1,0,0,0,1,0,1,1,1,1],[4,2,0]),([1,1,0,0,0,1,0,1,1,1,1],[4,2,0]),(zwc,[3,2,0]),([0,0,1,0,1,0,1,1,1,1],[2,0]),([1,0,1,0,1,0,1,1,1,1],[2,0]),([1,1,0,1,0,1,1,1,1],[4,2,0]),([1,0,1,1,1,1],[4,2,0]),([0,1,1,1,1,1],[2,0]),([1,1,1,1,1,1],[2,0])]
def E_99 (N:Nat) (self:z6) : Env := z1d tys glob [(79,z5v N (zq N)),(80,z4w N)] [] [] [0] false [] []
theorem z1pt (N:Nat) (self:z6) : EnvOk Tryd.prog (E_99 N self) := zi mixed zn (FnsOk.cons (zay N (zq N) (z2b N)) (FnsOk.cons (z95 N) (FnsOk.nil))) (ItsOk.nil)
def z2z (N:Nat) (self:z6) : PnT := pnT [(79,48,z79 N self),(80,48,z5u N),(36,48,zh5 SQ0 (fun x=>self x.1) (fun z=>⟨TT1,z⟩))]
theorem z6c (N:Nat) (self:z6) (hself:ContractP Tryd.prog glob 36 48 (zh5 SQ0 (fun x=>self x.1) (fun z=>⟨TT1,z⟩))) : PnOk Tryd.prog glob (z2z N self) := PnOk.cons (zdx N self hself) (PnOk.cons (zct N) (PnOk.cons (hself) (PnOk.nil)))
def z74 (N:Nat) (self:z6) (p:DT5) (x2:DT7) (kid:DT7) (rep:DT7) (x29:Int) (k0:DT7 -> Option (Int × (Int × Unit))) (k1:Option (Int × (Int × Unit))) (k2:Option (Int × (Int × Unit))) (k3:Option (Int × (Int × Unit))) : Option (Int × (Int × Unit)) :=
 cond (x29 == (43 : Int))
 (k0 (rep.1,(rep.2.1,(rep.2.2.1,((1 : Int),rep.2.2.2.2)))))
 (cond (x29 == (42 : Int))
 (k0 rep)
 (cond (x29 == (63 : Int))
 (k1)
 (cond (x29 == (123 : Int))
 (k2)
 (k3))))
def z1n4 (N:Nat) (self:z6) (x:z13 z1cb) (K:ExP -> List A -> Option (Int × (Int × Unit))) : Option (Int × (Int × Unit)) :=
 z74 N self x.1 x.2.1 x.2.2.1 x.2.2.2.1 x.2.2.2.2.1 (fun a2=>(K .normal (mkS z1c9 65 (x.1,x.2.1,a2,())))) (K (.exit 3) (mkS z1c9 65 (x.1,x.2.1,x.2.2.2.1,()))) (K (.exit 4) (mkS z1c9 65 (x.1,x.2.1,x.2.2.2.1,()))) (K (.exit 5) (mkS [(0,.box (.pair .str TT1)),(1,.box TT4),(0,.box TT4)] 66 (x.1,x.2.1,x.2.2.1,())))
def z1jp (N:Nat) (self:z6) : HdP (Int × (Int × Unit)) := fun st K=>(unS z1cb 40 (restr [29,4,0,2,3] 0 st)).bind fun x=>z1n4 N self x K
def t1_99 (N:Nat) (self:z6) : zbd (Int × (Int × Unit)) := []
theorem z1ft {N:Nat} {self:z6} {c:Ctx} (hb:Base Tryd.prog (E_99 N self) c) (hP:PnOk Tryd.prog glob (z2z N self)) : z1w Tryd.prog c (zh zv3 z162) (z1jp N self) :=
  z1z (s := z1cb) (m := 40) (g := z1n4 N self) [29,4,0,2,3] (z1m hb hP N (t1_99 N self) L_99 zv3 TabOkP.nil z162 _ rfl) (fun x K=>by kernel_rfl)
def z5a (N:Nat) (self:z6) (p:DT5) : Option (Int × (Int × Unit)) :=
 orP ((z5w N self p)) (fun z=>some z)
 ((z66 N (zq N) p).bind fun y =>
 cond (y.2.1.2.1 == (((List.length y.2.1.1) : Nat) : Int))
 (none)
 (cond (inR y.2.1.2.1 (List.length y.2.1.1))
 (z74 N self y.2.1 ((0 : Int),(([(0 : Int),(0 : Int),(0 : Int),(0 : Int)] : List Int),(([] : List Tree),((0 : Int),((0 : Int),()))))) y.1 ((4 : Int),(([(0 : Int),(0 : Int),(0 : Int),(0 : Int)] : List Int),((List.map foN ([y.1] : List zxo)),((0 : Int),((-(1 : Int)),()))))) (((UInt8.toNat (List.getD y.2.1.1 (Int.toNat y.2.1.2.1) (0 : UInt8))) : Nat) : Int)
 (fun rep=>none)
 (none)
 (orP ((z4x N (y.2.1.1,((IntKind.wrap IntKind.i64 (y.2.1.2.1 + (1 : Int))),y.2.1.2.2)))) (fun z1=>some z1)
 ((z4y N (y.2.1.1,((IntKind.wrap IntKind.i64 (y.2.1.2.1 + (1 : Int))),y.2.1.2.2))).bind fun y1 =>
 none))
 (none))
 (none)))
def t_99 (N:Nat) (self:z6) : zbd (Int × (Int × Unit)) := [(z162,z1jp N self)]
theorem z17v (N:Nat) (self:z6) (x:z13 SQ0) : zh6 (E_99 N self) (z2z N self) N (t_99 N self) L_99 Tryd.f71 48 TT1 (mkS SQ0 0 x) (fun z=>some z) = z5a N self x.1 := by kernel_rfl
def z6b (N:Nat) (self:z6) : List A -> PnRes := zh5 SQ0 (fun x=>z5a N self x.1) (fun z=>⟨TT1,z⟩)
theorem zdg (N:Nat) (self:z6) (hself:ContractP Tryd.prog glob 36 48 (zh5 SQ0 (fun x=>self x.1) (fun z=>⟨TT1,z⟩))) : ContractP Tryd.prog glob 71 48 (z6b N self) :=
  ContractP.of (E := E_99 N self) (Pn := z2z N self) (H := t_99 N self) (L := L_99) (N := N) (body := zv3) (t := TT1) (z1pt N self) (z6c N self hself) Tryd.func71 (by kernel_rfl) (by decide) (fun _ hb=>(TabOkP.cons (z1ft hb (z6c N self hself)) TabOkP.nil)) (fun x y h=>by rw [z17v]; exact h)
def zfv : Code := (Tryd.f54.body).getD .skip
def z12d : List (List Nat × List Nat) := [([0],[0,2]),([0,1],[0,3,2]),([0,0,1,1],[0,3,2]),(zyw,[37,3,0,2]),(zyv,[3,0,2]),(zyy,[3,2,0]),([0,1,0,0,0,1,1],[0,3,2]),([1,0,0,0,1,1],[0,3,2]),([0,1,1],[3,2,0]),([0,1,1,1],[2,0]),([1,1,1,1],[2,0])]
def zza (N:Nat) (self:z6) : Env := z1d tys glob [(56,z7b N),(71,z59 N (zq N))] [(3,TT4)] [] [0] false [] []
theorem z1bs (N:Nat) (self:z6) : EnvOk Tryd.prog (zza N self) := zi mixed zn (FnsOk.cons (zbh N) (FnsOk.cons (za1 N (zq N) (z2b N)) (FnsOk.nil))) (ItsOk.nil)
def z22 (N:Nat) (self:z6) : PnT := pnT [(71,48,z6b N self),(36,48,zh5 SQ0 (fun x=>self x.1) (fun z=>⟨TT1,z⟩))]
theorem z7y (N:Nat) (self:z6) (hself:ContractP Tryd.prog glob 36 48 (zh5 SQ0 (fun x=>self x.1) (fun z=>⟨TT1,z⟩))) : PnOk Tryd.prog glob (z22 N self) := PnOk.cons (zdg N self hself) (PnOk.cons (hself) (PnOk.nil))
def z8l (N:Nat) (self:z6) (p:DT5) (x2:DT7) (parts:(List DT7)) (k0:Option (Int × (Int × Unit))) (k1:Option (Int × (Int × Unit))) : Option (Int × (Int × Unit)) :=
 cond (decide (p.2.1 < (((List.length p.1) : Nat) : Int)))
 (cond (inR p.2.1 (List.length p.1))
 (cond ((((UInt8.toNat (List.getD p.1 (Int.toNat p.2.1) (0 : UInt8))) : Nat) : Int) != (124 : Int))
 (cond (inR p.2.1 (List.length p.1))
 (cond ((((UInt8.toNat (List.getD p.1 (Int.toNat p.2.1) (0 : UInt8))) : Nat) : Int) != (41 : Int))
 (k0)
 (k1))
 (none))
 (k1))
 (none))
 (k1)
def z15d (N:Nat) (self:z6) (x:z13 SQ3) (K:ExP -> List A -> Option (Int × (Int × Unit))) : Option (Int × (Int × Unit)) :=
 z8l N self x.1 x.2.1 x.2.2.1 (K .normal (mkS SQ3 41 (x.1,x.2.1,x.2.2.1,()))) (K (.exit 0) (mkS SQ3 41 (x.1,x.2.1,x.2.2.1,())))
def z150 (N:Nat) (self:z6) : HdP (Int × (Int × Unit)) := fun st K=>(unS SQ3 41 (restr [0,3,2] 0 st)).bind fun x=>z15d N self x K
def z1dl (N:Nat) (self:z6) : zbd (Int × (Int × Unit)) := []
theorem z17d {N:Nat} {self:z6} {c:Ctx} (hb:Base Tryd.prog (zza N self) c) (hP:PnOk Tryd.prog glob (z22 N self)) : z1w Tryd.prog c (zh zfv [0,0,0,0,1,1]) (z150 N self) :=
  z1z (s := SQ3) (m := 41) (g := z15d N self) [0,3,2] (z1m hb hP N (z1dl N self) z12d zfv TabOkP.nil [0,0,0,0,1,1] _ rfl) (fun x K=>by kernel_rfl)
def z8k (N:Nat) (self:z6) (x2:DT7) (p:DT5) (parts:(List DT7)) (rec:DT5 -> (List DT7) -> Option (Int × (Int × Unit))) (k0:(Int × (Int × Unit)) -> Option (Int × (Int × Unit))) (k1:DT5 -> (List DT7) -> Option (Int × (Int × Unit))) : Option (Int × (Int × Unit)) :=
 z8l N self p x2 parts
 (orP ((z5a N self p)) (fun z=>k0 z)
 ((z5h N (zq N) p).bind fun y =>
 cond (decide ((((List.length parts) + 1) * 80) <= 70368744177664))
 (rec y.2.1 (parts ++ ([y.1] : List zxo)))
 (none)))
 (k1 p parts)
def zey (N:Nat) (self:z6) (p:DT5) (x2:DT7) (parts:(List DT7)) (k0:(Int × (Int × Unit)) -> Option (Int × (Int × Unit))) (k1:DT5 -> (List DT7) -> Option (Int × (Int × Unit))) : Option (Int × (Int × Unit)) :=
 iter (fun (v:(DT5 × (List DT7))) r=>z8k N self x2 v.1 v.2 (fun p parts=>(r (p,parts))) k0 k1) N (p,parts)
def z15h (N:Nat) (self:z6) (i:DT7) (v:(DT5 × (List DT7))) (r:(DT5 × (List DT7)) -> Option (Int × (Int × Unit))) (K:ExP -> List A -> Option (Int × (Int × Unit))) : Option (Int × (Int × Unit)) :=
 z8k N self i v.1 v.2 (fun p parts=>(r (p,parts))) (fun a0=>(K (.pan 48) (mkS [(0,.v TT1)] 0 (a0,())))) (fun a0 a2=>(K (.exit 0) (mkS SQ3 41 (a0,i,a2,()))))
def z154 (N:Nat) (self:z6) : HdP (Int × (Int × Unit)) := fun st K=>(unS SQ3 41 (restr [0,3,2] 0 st)).bind fun x=>iter (fun v r=>z15h N self ((fun x=>x.2.1) x) v r K) N ((fun x=>(x.1,x.2.2.1)) x)
def z1dp (N:Nat) (self:z6) : zbd (Int × (Int × Unit)) := [([0,0,0,0,1,1],z150 N self)]
theorem z17h {N:Nat} {self:z6} {c:Ctx} (hb:Base Tryd.prog (zza N self) c) (hP:PnOk Tryd.prog glob (z22 N self)) : z1w Tryd.prog c (zh zfv [0,0,1,1]) (z154 N self) :=
  znf (s := SQ3) (m := 41) (z15h N self) [0,3,2] N (fun x=>x.2.1) (fun x=>(x.1,x.2.2.1)) (fun i v=>(v.1,i,v.2,())) (fun _=>rfl) (z1m hb hP N (z1dp N self) z12d zfv (TabOkP.cons (z17d hb hP) TabOkP.nil) [0,0,0,1,1] _ rfl) (fun i v r K=>by kernel_rfl)
def z8m (N:Nat) (self:z6) (p:DT5) (x2:DT7) (parts:(List DT7)) (k0:(Int × (Int × Unit)) -> Option (Int × (Int × Unit))) (k1:DT5 -> (List DT7) -> Option (Int × (Int × Unit))) : Option (Int × (Int × Unit)) :=
 zey N self p x2 parts
 (fun p1=>k0 p1)
 (fun p2 zkh=>k1 p2 zkh)
def z15m (N:Nat) (self:z6) (x:z13 SQ3) (K:ExP -> List A -> Option (Int × (Int × Unit))) : Option (Int × (Int × Unit)) :=
 z8m N self x.1 x.2.1 x.2.2.1 (fun a0=>(K (.pan 48) (mkS [(0,.v TT1)] 0 (a0,())))) (fun a0 a2=>(K .normal (mkS SQ3 41 (a0,x.2.1,a2,()))))
def z159 (N:Nat) (self:z6) : HdP (Int × (Int × Unit)) := fun st K=>(unS SQ3 41 (restr [0,3,2] 0 st)).bind fun x=>z15m N self x K
def z1du (N:Nat) (self:z6) : zbd (Int × (Int × Unit)) := [([0,0,1,1],z154 N self)]
theorem z17m {N:Nat} {self:z6} {c:Ctx} (hb:Base Tryd.prog (zza N self) c) (hP:PnOk Tryd.prog glob (z22 N self)) : z1w Tryd.prog c (zh zfv [0,1,1]) (z159 N self) :=
  z1z (s := SQ3) (m := 41) (g := z15m N self) [0,3,2] (z1m hb hP N (z1du N self) z12d zfv (TabOkP.cons (z17h hb hP) TabOkP.nil) [0,1,1] _ rfl) (fun x K=>by kernel_rfl)
def z4a (N:Nat) (self:z6) (p:DT5) : Option (Int × (Int × Unit)) :=
 z8m N self p ((0 : Int),(([(0 : Int),(0 : Int),(0 : Int),(0 : Int)] : List Int),(([] : List Tree),((0 : Int),((0 : Int),()))))) ([] : List zxo)
 (fun p1=>some p1)
 (fun p2 parts=>(zbn N (2 : Int) (List.map foN parts)).bind fun y =>
 none)
def z1di (N:Nat) (self:z6) : zbd (Int × (Int × Unit)) := [([0,1,1],z159 N self)]
theorem z13k (N:Nat) (self:z6) (x:z13 SQ0) : zh6 (zza N self) (z22 N self) N (z1di N self) z12d Tryd.f54 48 TT1 (mkS SQ0 0 x) (fun z=>some z) = z4a N self x.1 := by kernel_rfl
def z7x (N:Nat) (self:z6) : List A -> PnRes := zh5 SQ0 (fun x=>z4a N self x.1) (fun z=>⟨TT1,z⟩)
theorem zez (N:Nat) (self:z6) (hself:ContractP Tryd.prog glob 36 48 (zh5 SQ0 (fun x=>self x.1) (fun z=>⟨TT1,z⟩))) : ContractP Tryd.prog glob 54 48 (z7x N self) :=
  ContractP.of (E := zza N self) (Pn := z22 N self) (H := z1di N self) (L := z12d) (N := N) (body := zfv) (t := TT1) (z1bs N self) (z7y N self hself) Tryd.func54 (by kernel_rfl) (by decide) (fun _ hb=>(TabOkP.cons (z17m hb (z7y N self hself)) TabOkP.nil)) (fun x y h=>by rw [z13k]; exact h)
def zni : Code := (Tryd.f36.body).getD .skip
def z1bl : List (List Nat × List Nat) := [([0],[0,2]),([0,1],[0,3,2]),([0,0,1,1],[0,3,2]),(zyw,[8,3,0,2]),(zyv,[3,0,2]),(zyy,[3,2,0]),([0,1,0,0,0,1,1],[0,3,2]),([1,0,0,0,1,1],[0,3,2]),([0,1,1],[3,2,0]),([0,1,1,1],[2,0]),([1,1,1,1],[2,0])]
def z14k (N:Nat) (self:DT5 -> Option (Int × (Int × Unit))) : Env := z1d tys glob [(54,z6m N (zq N)),(55,z1j N),(56,z7b N)] [(3,TT4)] [] [0] false [] []
theorem z1br (N:Nat) (self:DT5 -> Option (Int × (Int × Unit))) : EnvOk Tryd.prog (z14k N self) := zi mixed zn (FnsOk.cons (zc8 N (zq N) (z2b N)) (FnsOk.cons (z1u N) (FnsOk.cons (zbh N) (FnsOk.nil)))) (ItsOk.nil)
def z3o (N:Nat) (self:DT5 -> Option (Int × (Int × Unit))) : PnT := pnT [(54,48,z7x N self),(36,48,zh5 SQ0 (fun x=>self x.1) (fun z=>⟨TT1,z⟩))]
theorem z82 (N:Nat) (self:DT5 -> Option (Int × (Int × Unit))) (hself:ContractP Tryd.prog glob 36 48 (zh5 SQ0 (fun x=>self x.1) (fun z=>⟨TT1,z⟩))) : PnOk Tryd.prog glob (z3o N self) := PnOk.cons (zez N self hself) (PnOk.cons (hself) (PnOk.nil))
def z8n (N:Nat) (self:DT5 -> Option (Int × (Int × Unit))) (x2:DT7) (p:DT5) (parts:(List DT7)) (rec:DT5 -> (List DT7) -> Option (Int × (Int × Unit))) (k0:(Int × (Int × Unit)) -> Option (Int × (Int × Unit))) (k1:DT5 -> (List DT7) -> Option (Int × (Int × Unit))) : Option (Int × (Int × Unit)) :=
 (z17 N p (124 : Int)).bind fun y =>
 cond y.1
 (orP ((z4a N self y.2.1)) (fun z=>k0 z)
 ((z3s N (zq N) y.2.1).bind fun y1 =>
 cond (decide ((((List.length parts) + 1) * 80) <= 70368744177664))
 (rec y1.2.1 (parts ++ ([y1.1] : List zxo)))
 (none)))
 (k1 y.2.1 parts)
def zf0 (N:Nat) (self:DT5 -> Option (Int × (Int × Unit))) (p:DT5) (x2:DT7) (parts:(List DT7)) (k0:(Int × (Int × Unit)) -> Option (Int × (Int × Unit))) (k1:DT5 -> (List DT7) -> Option (Int × (Int × Unit))) : Option (Int × (Int × Unit)) :=
 iter (fun (v:(DT5 × (List DT7))) r=>z8n N self x2 v.1 v.2 (fun p parts=>(r (p,parts))) k0 k1) N (p,parts)
def z15l (N:Nat) (self:DT5 -> Option (Int × (Int × Unit))) (i:DT7) (v:(DT5 × (List DT7))) (r:(DT5 × (List DT7)) -> Option (Int × (Int × Unit))) (K:ExP -> List A -> Option (Int × (Int × Unit))) : Option (Int × (Int × Unit)) :=
 z8n N self i v.1 v.2 (fun p parts=>(r (p,parts))) (fun a0=>(K (.pan 48) (mkS [(0,.v TT1)] 0 (a0,())))) (fun a0 a2=>(K (.exit 0) (mkS SQ3 12 (a0,i,a2,()))))
def z158 (N:Nat) (self:DT5 -> Option (Int × (Int × Unit))) : HdP (Int × (Int × Unit)) := fun st K=>(unS SQ3 12 (restr [0,3,2] 0 st)).bind fun x=>iter (fun v r=>z15l N self ((fun x=>x.2.1) x) v r K) N ((fun x=>(x.1,x.2.2.1)) x)
def z1dt (N:Nat) (self:DT5 -> Option (Int × (Int × Unit))) : zbd (Int × (Int × Unit)) := []
theorem z17l {N:Nat} {self:DT5 -> Option (Int × (Int × Unit))} {c:Ctx} (hb:Base Tryd.prog (z14k N self) c) (hP:PnOk Tryd.prog glob (z3o N self)) : z1w Tryd.prog c (zh zni [0,0,1,1]) (z158 N self) :=
  znf (s := SQ3) (m := 12) (z15l N self) [0,3,2] N (fun x=>x.2.1) (fun x=>(x.1,x.2.2.1)) (fun i v=>(v.1,i,v.2,())) (fun _=>rfl) (z1m hb hP N (z1dt N self) z1bl zni TabOkP.nil [0,0,0,1,1] _ rfl) (fun i v r K=>by kernel_rfl)
def z96 (N:Nat) (self:DT5 -> Option (Int × (Int × Unit))) (p:DT5) : Option (Int × (Int × Unit)) :=
 orP ((z4a N self p)) (fun z=>some z)
 ((z3s N (zq N) p).bind fun y =>
 zf0 N self y.2.1 ((0 : Int),(([(0 : Int),(0 : Int),(0 : Int),(0 : Int)] : List Int),(([] : List Tree),((0 : Int),((0 : Int),()))))) ([y.1] : List zxo)
 (fun p1=>some p1)
 (fun p2 parts=>(zbn N (3 : Int) (List.map foN parts)).bind fun y1 =>
 none))
def z1dh (N:Nat) (self:DT5 -> Option (Int × (Int × Unit))) : zbd (Int × (Int × Unit)) := [([0,0,1,1],z158 N self)]
theorem z13j (N:Nat) (self:DT5 -> Option (Int × (Int × Unit))) (x:z13 SQ0) : zh6 (z14k N self) (z3o N self) N (z1dh N self) z1bl Tryd.f36 48 TT1 (mkS SQ0 0 x) (fun z=>some z) = z96 N self x.1 := by kernel_rfl
def z1n : Nat -> DT5 -> Option (Int × (Int × Unit))
  | 0=>fun _=>none
  | N + 1=>z96 (N + 1) (z1n N)
def zdy (N:Nat) : List A -> PnRes := zh5 SQ0 (fun x=>z1n N x.1) (fun z=>⟨TT1,z⟩)
theorem z4z : ∀ N : Nat,ContractP Tryd.prog glob 36 48 (zdy N)
  | 0=>ContractP.zero Tryd.func36 (body := zni) (by kernel_rfl) (by decide) (fun _=>rfl)
  | N + 1=>ContractP.of (E := z14k (N + 1) (z1n N)) (Pn := z3o (N + 1) (z1n N)) (H := z1dh (N + 1) (z1n N)) (L := z1bl) (N := (N + 1)) (body := zni) (t := TT1) (z1br (N + 1) (z1n N)) (z82 (N + 1) (z1n N) (z4z N)) Tryd.func36 (by kernel_rfl) (by decide) (fun _ hb=>(TabOkP.cons (z17l hb (z82 (N + 1) (z1n N) (z4z N))) TabOkP.nil)) (fun x y h=>by rw [z13j]; exact h)
end
end Go.Proofs.YtgbcebmahbieoaaDoorLg
set_option linter.all false
set_option maxRecDepth 100000
namespace Go.Proofs.YtgbcebmahbieoaaDoorLg
noncomputable section
open Go Go.Lift
def Cl (w:World) (n:Nat) (cs:List Value) : Prop := ∀ i v,cs[i]? = some v -> w.cell? ⟨n,i,none⟩ = some v /\ w.frozen? ⟨n,i,none⟩ = false
def PsW (w0:World) (S0 S:Hp) (W:World) : Prop := WF w0 (fun _=>False) W /\ Lift.Sub S0 S /\ Lift.Sub S (hp W) /\ ∀ k,S k ≠ none -> S0 k ≠ none \/ w0.heap.size <= k
theorem PsW.drew {w0 W:World} {S0 S:Hp} (h:PsW w0 S0 S W) : PsW w0 S0 S W.drew := by
  obtain ⟨h1,h2,h3,h4⟩ := h
  exact ⟨⟨h1.size,h1.same,h1.tape,h1.os,h1.output⟩,h2,h3,h4⟩
theorem PsW.alloc {w0 W:World} {S0 S:Hp} (h:PsW w0 S0 S W) (cs:Array Value) (E:Nat) : PsW w0 S0 S (W.alloc (.cells cs E)) := by
  obtain ⟨h1,h2,h3,h4⟩ := h
  have hh : (W.alloc (.cells cs E)).heap = W.heap.push (.cells cs E (0,0)) := rfl
  have hk : ∀ k,k < W.heap.size -> (W.alloc (.cells cs E)).heap[k]? = W.heap[k]? := fun k hk=>by
    rw [hh,Array.getElem?_push,if_neg (by omega)]
  refine ⟨⟨by rw [hh,Array.size_push]; have := h1.size; omega,fun k h1' h2'=>by rw [hk k (by have := h1.size; omega)]; exact h1.same k h1' h2',h1.tape,h1.os,h1.output⟩,h2,fun k q ho => ?_,h4⟩
  have := h3 k q ho
  simp only [hp] at this ⊢
  rw [hk k (Array.getElem?_eq_some_iff.1 this).1]
  exact this
theorem zhc {W:World} {p i:Nat} {v:Value} {k:Nat} (hk:k ≠ p) : (W.setCell ⟨p,i,none⟩ v).heap[k]? = W.heap[k]? := by
  unfold World.setCell
  split <;> simp [Array.getElem?_modify,Ne.symm hk]
theorem PsW.setCell {w0 W:World} {S0 S:Hp} {p i:Nat} {v:Value} (h:PsW w0 S0 S W) (hp':w0.heap.size <= p) (hS:S p = none) : PsW w0 S0 S (W.setCell ⟨p,i,none⟩ v) := by
  obtain ⟨h1,h2,h3,h4⟩ := h
  have hsz : (W.setCell ⟨p,i,none⟩ v).heap.size = W.heap.size := by
    unfold World.setCell
    split <;> simp
  have ht : (W.setCell ⟨p,i,none⟩ v).tape = W.tape /\ (W.setCell ⟨p,i,none⟩ v).os = W.os /\ (W.setCell ⟨p,i,none⟩ v).output = W.output := by
    unfold World.setCell
    split
    . exact ⟨rfl,rfl,rfl⟩
    . exact ⟨rfl,rfl,rfl⟩
  refine ⟨⟨by rw [hsz]; exact h1.size,fun k h1' h2'=>by rw [zhc (by omega)]; exact h1.same k h1' h2',by rw [ht.1]; exact h1.tape,by rw [ht.2.1]; exact h1.os,by rw [ht.2.2]; exact h1.output⟩,h2,fun k q ho => ?_,h4⟩
  have hk : k ≠ p := fun e=>by rw [e,hS] at ho; cases ho
  have := h3 k q ho
  simp only [hp] at this ⊢
  rw [zhc hk]
  exact this
theorem z4u {w:World} {n:Nat} {cs:List Value} (h:Cl w n cs) (i:Nat) (v:Value) : Cl (w.setCell ⟨n,i,none⟩ v) n (cs.set i v) := by
  intro j u hj
  rw [List.getElem?_set] at hj
  by_cases e : i = j
  . subst e
    rw [if_pos rfl] at hj
    split at hj
    . rename_i hl
      cases hj
      obtain ⟨h1,h2⟩ := h i _ (List.getElem?_eq_getElem hl)
      constructor <;> simp [go_sem,h1,h2]
    . cases hj
  . rw [if_neg e] at hj
    obtain ⟨h1,h2⟩ := h j _ hj
    have e' : j ≠ i := fun h=>e h.symm
    constructor <;> simp [go_sem,h1,h2,e,e']
theorem z1q {w:World} {n m:Nat} {cs:List Value} (h:Cl w n cs) (hne:m ≠ n) (i:Nat) (v:Value) : Cl (w.setCell ⟨m,i,none⟩ v) n cs := by
  intro j u hj
  obtain ⟨h1,h2⟩ := h j _ hj
  have e' : n ≠ m := fun h=>hne h.symm
  constructor <;> simp [go_sem,h1,h2,hne,e']
theorem zia {w:World} {n:Nat} {c:Value} {cs:List Value} (h:Cl w n (c :: cs)) (o:Obj) : Cl (w.alloc o) n (c :: cs) := by
  have hlt : n < w.heap.size := by
    have h0 := (h 0 c rfl).1
    rcases Nat.lt_or_ge n w.heap.size with h1 | h1
    . exact h1
    . simp [World.cell?,Array.getElem?_eq_none h1] at h0
  intro i v hi
  obtain ⟨h1,h2⟩ := h i v hi
  exact ⟨by rw [World.cell?_alloc_past _ _ _ hlt]; exact h1,by rw [World.frozen?_alloc_past _ _ _ hlt]; exact h2⟩
theorem ztg {w:World} {n:Nat} {c:Value} {cs:List Value} (h:Cl w n (c :: cs)) : n < w.heap.size := by
  have h0 := (h 0 c rfl).1
  rcases Nat.lt_or_ge n w.heap.size with h1 | h1
  . exact h1
  . simp [World.cell?,Array.getElem?_eq_none h1] at h0
theorem ps_idle {w:World} {n0 n1:Nat} :
    CallsD Go.Proofs.Tryd.prog 35 #[.pointer (some ⟨n0,0,none⟩),.pointer (some ⟨n1,0,none⟩)] .returning w fun e u w'=>(∃ v,e = .returned v) /\ u = .returning /\ w' = w.alloc (Obj.cells #[Value.int IntKind.i64 0,Value.int IntKind.i64 0] 48) := by
  refine callsD_of_wpS Go.Proofs.Tryd.func35 rfl fun c₀ cs hu => ?_
  have ha : ∀ W : World,(Instr.typeAssert .nilIface 20 48 true).run Go.Proofs.Tryd.prog W = .ok (.tuple #[.agg #[.int .i64 0,.int .i64 0],.bool false]) W := fun W=>by kernel_rfl
  apply wpS_seq
  apply wpS_region
  simp only [Go.Proofs.Tryd.ntmps35,List.size_toArray,List.length_cons,List.length_nil,Nat.reduceAdd,Nat.reduceSub,Array.replicate_succ,
     Array.replicate_zero,List.push_toArray,List.append_toArray,List.nil_append,List.cons_append]
  simp [wpOpsS,go_sem,recoverD,hu,Exit.thenS,ha,List.range_succ]
  refine wpS_of_wp ?_
  go_wp2
  cases c₀
  simp_all [bodyPostS,results,Go.Proofs.Tryd.results35]
set_option maxHeartbeats 16000000 in
theorem zsk {w:World} {n0 n1:Nat} {e a:Int} {y0 y1:Value} {c0 c1 c2 c3 c4 c5 c6 c7:Value} {R:World -> Prop} (h0:Cl (w.alloc (Obj.cells #[Value.int IntKind.i64 e,Value.int IntKind.i64 a] 48)) n0 [c0,c1,c2,c3,c4,c5,c6,c7]) (h1:Cl (w.alloc (Obj.cells #[Value.int IntKind.i64 e,Value.int IntKind.i64 a] 48)) n1 [y0,y1]) (hne:n0 ≠ n1) (hn2:n0 ≠ w.heap.size) (hn3:n1 ≠ w.heap.size)
    (hR : ∀ w',Cl w' n0 [.int .i64 0,.int .u64 0,.int .u64 0,.int .u64 0,.int .u64 0,.slice none 0 0,.int .i64 0,.int .i64 0] -> Cl w' n1 [.int .i64 e,.int .i64 a] →
      (∀ (w0:World) (S0 S:Hp),PsW w0 S0 S w -> w0.heap.size <= n0 -> w0.heap.size <= n1 -> S n0 = none -> S n1 = none -> PsW w0 S0 S w') -> R w') :
    CallsD Go.Proofs.Tryd.prog 35 #[.pointer (some ⟨n0,0,none⟩),.pointer (some ⟨n1,0,none⟩)] (.panicking [{ v := .iface 48 (.agg #[.int .i64 e,.int .i64 a]),recovered := false }]) w fun r u w'=>(∃ v,r = .returned v) /\ u = .panicking [{ v := .iface 48 (.agg #[.int .i64 e,.int .i64 a]),recovered := true }] /\ R w' := by
  refine callsD_of_wpS Go.Proofs.Tryd.func35 rfl fun c₀ cs hu => ?_
  have ha : ∀ W : World,(Instr.typeAssert (.iface 48 (.agg #[.int .i64 e,.int .i64 a])) 20 48 true).run Go.Proofs.Tryd.prog W = .ok (.tuple #[.agg #[.int .i64 e,.int .i64 a],.bool true]) W := fun W=>by kernel_rfl
  have c00 : (w.alloc (Obj.cells #[Value.int IntKind.i64 e,Value.int IntKind.i64 a] 48)).cell? ⟨n0,0,none⟩ = some (c0) := (h0 0 _ rfl).1
  have z00 : (w.alloc (Obj.cells #[Value.int IntKind.i64 e,Value.int IntKind.i64 a] 48)).frozen? ⟨n0,0,none⟩ = false := (h0 0 _ rfl).2
  have c01 : (w.alloc (Obj.cells #[Value.int IntKind.i64 e,Value.int IntKind.i64 a] 48)).cell? ⟨n0,1,none⟩ = some (c1) := (h0 1 _ rfl).1
  have z01 : (w.alloc (Obj.cells #[Value.int IntKind.i64 e,Value.int IntKind.i64 a] 48)).frozen? ⟨n0,1,none⟩ = false := (h0 1 _ rfl).2
  have c02 : (w.alloc (Obj.cells #[Value.int IntKind.i64 e,Value.int IntKind.i64 a] 48)).cell? ⟨n0,2,none⟩ = some (c2) := (h0 2 _ rfl).1
  have z02 : (w.alloc (Obj.cells #[Value.int IntKind.i64 e,Value.int IntKind.i64 a] 48)).frozen? ⟨n0,2,none⟩ = false := (h0 2 _ rfl).2
  have c03 : (w.alloc (Obj.cells #[Value.int IntKind.i64 e,Value.int IntKind.i64 a] 48)).cell? ⟨n0,3,none⟩ = some (c3) := (h0 3 _ rfl).1
  have z03 : (w.alloc (Obj.cells #[Value.int IntKind.i64 e,Value.int IntKind.i64 a] 48)).frozen? ⟨n0,3,none⟩ = false := (h0 3 _ rfl).2
  have c04 : (w.alloc (Obj.cells #[Value.int IntKind.i64 e,Value.int IntKind.i64 a] 48)).cell? ⟨n0,4,none⟩ = some (c4) := (h0 4 _ rfl).1
  have z04 : (w.alloc (Obj.cells #[Value.int IntKind.i64 e,Value.int IntKind.i64 a] 48)).frozen? ⟨n0,4,none⟩ = false := (h0 4 _ rfl).2
  have c05 : (w.alloc (Obj.cells #[Value.int IntKind.i64 e,Value.int IntKind.i64 a] 48)).cell? ⟨n0,5,none⟩ = some (c5) := (h0 5 _ rfl).1
  have z05 : (w.alloc (Obj.cells #[Value.int IntKind.i64 e,Value.int IntKind.i64 a] 48)).frozen? ⟨n0,5,none⟩ = false := (h0 5 _ rfl).2
  have c06 : (w.alloc (Obj.cells #[Value.int IntKind.i64 e,Value.int IntKind.i64 a] 48)).cell? ⟨n0,6,none⟩ = some (c6) := (h0 6 _ rfl).1
  have z06 : (w.alloc (Obj.cells #[Value.int IntKind.i64 e,Value.int IntKind.i64 a] 48)).frozen? ⟨n0,6,none⟩ = false := (h0 6 _ rfl).2
  have c07 : (w.alloc (Obj.cells #[Value.int IntKind.i64 e,Value.int IntKind.i64 a] 48)).cell? ⟨n0,7,none⟩ = some (c7) := (h0 7 _ rfl).1
  have z07 : (w.alloc (Obj.cells #[Value.int IntKind.i64 e,Value.int IntKind.i64 a] 48)).frozen? ⟨n0,7,none⟩ = false := (h0 7 _ rfl).2
  have c10 : (w.alloc (Obj.cells #[Value.int IntKind.i64 e,Value.int IntKind.i64 a] 48)).cell? ⟨n1,0,none⟩ = some (y0) := (h1 0 _ rfl).1
  have z10 : (w.alloc (Obj.cells #[Value.int IntKind.i64 e,Value.int IntKind.i64 a] 48)).frozen? ⟨n1,0,none⟩ = false := (h1 0 _ rfl).2
  have c11 : (w.alloc (Obj.cells #[Value.int IntKind.i64 e,Value.int IntKind.i64 a] 48)).cell? ⟨n1,1,none⟩ = some (y1) := (h1 1 _ rfl).1
  have z11 : (w.alloc (Obj.cells #[Value.int IntKind.i64 e,Value.int IntKind.i64 a] 48)).frozen? ⟨n1,1,none⟩ = false := (h1 1 _ rfl).2
  apply wpS_seq
  apply wpS_region
  simp only [Go.Proofs.Tryd.ntmps35,List.size_toArray,List.length_cons,List.length_nil,Nat.reduceAdd,Nat.reduceSub,Array.replicate_succ,
     Array.replicate_zero,List.push_toArray,List.append_toArray,List.nil_append,List.cons_append]
  simp [wpOpsS,go_sem,recoverD,hu,Exit.thenS,ha,List.range_succ]
  refine wpS_of_wp ?_
  go_wp2
  go_region
  have hfin : R ((((((((((((w.alloc (Obj.cells #[Value.int IntKind.i64 e,Value.int IntKind.i64 a] 48)).setCell { block := n0,off := 0 } (.int .i64 0)).setCell { block := n0,off := 1 } (.int .u64 0)).setCell { block := n0,off := 2 } (.int .u64 0)).setCell { block := n0,off := 3 } (.int .u64 0)).setCell { block := n0,off := 4 } (.int .u64 0)).setCell { block := n0,off := 5 } (.slice none 0 0)).setCell { block := n0,off := 6 } (.int .i64 0)).setCell { block := n0,off := 7 } (.int .i64 0)).setCell { block := n1,off := 0 } (.int .i64 e)).setCell { block := n1,off := 1 } (.int .i64 a)).drew) := by
    refine hR _ ?_ ?_ ?_
    . intro i v hi
      rcases i with _ | _ | _ | _ | _ | _ | _ | _ | i
      case succ.succ.succ.succ.succ.succ.succ.succ=>simp at hi
      all_goals (simp only [List.getElem?_cons_zero,List.getElem?_cons_succ,Option.some.injEq] at hi; subst hi; constructor <;> simp [go_sem, *])
    . intro i v hi
      rcases i with _ | _ | i
      case succ.succ=>simp at hi
      all_goals (simp only [List.getElem?_cons_zero,List.getElem?_cons_succ,Option.some.injEq] at hi; subst hi; constructor <;> simp [go_sem, *])
    . intro w0 S0 S hw hl0 hl1 hS0 hS1
      exact (((((((((((hw.alloc _ _).setCell hl0 hS0).setCell hl0 hS0).setCell hl0 hS0).setCell hl0 hS0).setCell hl0 hS0).setCell hl0 hS0).setCell hl0 hS0).setCell hl0 hS0).setCell hl1 hS1).setCell hl1 hS1).drew
  change bodyPostS Go.Proofs.Tryd.prog Go.Proofs.Tryd.f35 c₀ cs _ _ _ _ _
  clear hR h0 h1 c00 z00 c01 z01 c02 z02 c03 z03 c04 z04 c05 z05 c06 z06 c07 z07 c10 z10 c11 z11
  cases c₀
  simp_all [bodyPostS,results,Go.Proofs.Tryd.results35]
theorem z176 {w:World} {s:List UInt8} {S:Hp} (hS:Lift.Sub S (hp w)) (hlen:(256 : Int) < s.length) :
    Calls Go.Proofs.Tryd.prog 17 #[.string ⟨⟨s⟩⟩] w fun r w'=>r = .returned (.tuple #[.agg #[Value.int IntKind.i64 0,Value.int IntKind.u64 0,Value.int IntKind.u64 0,Value.int IntKind.u64 0,Value.int IntKind.u64 0,Value.slice none 0 0,Value.int IntKind.i64 0,Value.int IntKind.i64 0],.agg #[.int .i64 3,.int .i64 256]]) /\ PsW w S S w' := by
  have h0 : PsW w S S w := ⟨WF.refl _ _,Lift.Sub.refl _,hS,fun k hk => .inl hk⟩
  have hn0 : S w.heap.size = none := by
    cases hx : S w.heap.size with
    | none=>rfl
    | some o=>exact absurd (z7d (hS _ _ hx)) (Nat.lt_irrefl _)
  have hn1 : S (w.heap.size + 1) = none := by
    cases hx : S (w.heap.size + 1) with
    | none=>rfl
    | some o=>exact absurd (z7d (hS _ _ hx)) (by omega)
  go_enter Go.Proofs.Tryd.func17,Go.Proofs.Tryd.ntmps17
  go_wp2
  simp [bodyPost,results,Go.Proofs.Tryd.results17,go_sem]
  exact (h0.alloc _ _).alloc _ _
set_option maxHeartbeats 16000000 in
theorem ps_ok {w:World} {s:List UInt8} {S:Hp} {at_:Int} {F:Hp -> Value -> Prop} (hlen : ¬ (256 : Int) < s.length)
    (hc:Calls Go.Proofs.Tryd.prog 36 #[.pointer (some ⟨w.heap.size + 1 + 1,0,none⟩)] (((w.alloc (Obj.cells #[Value.int IntKind.i64 0,Value.int IntKind.u64 0,Value.int IntKind.u64 0,Value.int IntKind.u64 0,Value.int IntKind.u64 0,Value.slice none 0 0,Value.int IntKind.i64 0,Value.int IntKind.i64 0] 46)).alloc (Obj.cells #[Value.int IntKind.i64 0,Value.int IntKind.i64 0] 48)).alloc (Obj.cells #[Value.string ⟨⟨s⟩⟩,Value.int IntKind.i64 0,Value.int IntKind.i64 0] 75)) fun r w2 => ∃ (k a0 a1 a2 a3 lo hi:Int) (sp:Option Addr) (sn sc:Nat) (S':Hp),r = .returned (.agg #[.int .i64 k,.int .u64 a0,.int .u64 a1,.int .u64 a2,.int .u64 a3,.slice sp sn sc,.int .i64 lo,.int .i64 hi]) /\ Cl w2 (w.heap.size) [.int .i64 0,.int .u64 0,.int .u64 0,.int .u64 0,.int .u64 0,.slice none 0 0,.int .i64 0,.int .i64 0] /\ Cl w2 (w.heap.size + 1) [.int .i64 0,.int .i64 0] /\ w2.cell? ⟨w.heap.size + 1 + 1,1,none⟩ = some (.int .i64 at_) /\ S' (w.heap.size) = none /\ S' (w.heap.size + 1) = none /\ PsW w S S' w2 /\ F S' (.agg #[.int .i64 k,.int .u64 a0,.int .u64 a1,.int .u64 a2,.int .u64 a3,.slice sp sn sc,.int .i64 lo,.int .i64 hi]))
    (hat : ¬ at_ < s.length) :
    Calls Go.Proofs.Tryd.prog 17 #[.string ⟨⟨s⟩⟩] w fun r w' => ∃ v S',r = .returned (.tuple #[v,.agg #[.int .i64 0,.int .i64 0]]) /\ F S' v /\ PsW w S S' w' := by
  have hmf : ∀ (fn:Fn) (first cap:Array Value) (w:World),(Instr.makeFunc fn first cap).run Go.Proofs.Tryd.prog w = .ok (.func fn first cap) w := fun _ _ _ _=>rfl
  have p1 : w.heap.size + 1 + 1 ≠ w.heap.size := by omega
  have p2 : w.heap.size + 1 ≠ w.heap.size := by omega
  go_enter_defers Go.Proofs.Tryd.func17,Go.Proofs.Tryd.ntmps17
  go_wp2_with (first
    | (go_at_call 36; refine hc.mono ?_; rintro r w2 ⟨k,a0,a1,a2,a3,lo,hi,sp,sn,sc,S',rfl,hC0,hC1,hat2,hs0,hs1,hP,hFF⟩; have c00 := (hC0 0 _ rfl).1; have z00 := (hC0 0 _ rfl).2; have c01 := (hC0 1 _ rfl).1; have z01 := (hC0 1 _ rfl).2; have c02 := (hC0 2 _ rfl).1; have z02 := (hC0 2 _ rfl).2; have c03 := (hC0 3 _ rfl).1; have z03 := (hC0 3 _ rfl).2; have c04 := (hC0 4 _ rfl).1; have z04 := (hC0 4 _ rfl).2; have c05 := (hC0 5 _ rfl).1; have z05 := (hC0 5 _ rfl).2; have c06 := (hC0 6 _ rfl).1; have z06 := (hC0 6 _ rfl).2; have c07 := (hC0 7 _ rfl).1; have z07 := (hC0 7 _ rfl).2; have c10 := (hC1 0 _ rfl).1; have z10 := (hC1 0 _ rfl).2; have c11 := (hC1 1 _ rfl).1; have z11 := (hC1 1 _ rfl).2; have hl0 : w.heap.size < w2.heap.size := ztg hC0; have hl1 : w.heap.size + 1 < w2.heap.size := ztg hC1; have H0 := Go.Lib.hid hC0; have H1 := Go.Lib.hid hC1; have HP := Go.Lib.hid hP; have HF := Go.Lib.hid hFF; clear hc hC0 hC1 hP hFF))
  have k0 : Cl (((((((((((((((((((w2).setCell { block := w.heap.size,off := 0 } (Value.int IntKind.i64 k)).setCell { block := w.heap.size,off := 1 } (Value.int IntKind.u64 a0)).setCell { block := w.heap.size,off := 2 } (Value.int IntKind.u64 a1)).setCell { block := w.heap.size,off := 3 } (Value.int IntKind.u64 a2)).setCell { block := w.heap.size,off := 4 } (Value.int IntKind.u64 a3)).setCell { block := w.heap.size,off := 5 } (Value.slice sp sn sc)).setCell { block := w.heap.size,off := 6 } (Value.int IntKind.i64 lo)).setCell { block := w.heap.size,off := 7 } (Value.int IntKind.i64 hi)).setCell { block := w.heap.size,off := 0 } (Value.int IntKind.i64 k)).setCell { block := w.heap.size,off := 1 } (Value.int IntKind.u64 a0)).setCell { block := w.heap.size,off := 2 } (Value.int IntKind.u64 a1)).setCell { block := w.heap.size,off := 3 } (Value.int IntKind.u64 a2)).setCell { block := w.heap.size,off := 4 } (Value.int IntKind.u64 a3)).setCell { block := w.heap.size,off := 5 } (Value.slice sp sn sc)).setCell { block := w.heap.size,off := 6 } (Value.int IntKind.i64 lo)).setCell { block := w.heap.size,off := 7 } (Value.int IntKind.i64 hi)).setCell { block := w.heap.size + 1,off := 0 } (Value.int IntKind.i64 0)).setCell { block := w.heap.size + 1,off := 1 } (Value.int IntKind.i64 0)) (w.heap.size) [.int .i64 k,.int .u64 a0,.int .u64 a1,.int .u64 a2,.int .u64 a3,.slice sp sn sc,.int .i64 lo,.int .i64 hi] := (z1q (z1q (z4u (z4u (z4u (z4u (z4u (z4u (z4u (z4u (z4u (z4u (z4u (z4u (z4u (z4u (z4u (z4u H0.out 0 _) 1 _) 2 _) 3 _) 4 _) 5 _) 6 _) 7 _) 0 _) 1 _) 2 _) 3 _) 4 _) 5 _) 6 _) 7 _) p2 0 _) p2 1 _)
  have k1 : Cl (((((((((((((((((((w2).setCell { block := w.heap.size,off := 0 } (Value.int IntKind.i64 k)).setCell { block := w.heap.size,off := 1 } (Value.int IntKind.u64 a0)).setCell { block := w.heap.size,off := 2 } (Value.int IntKind.u64 a1)).setCell { block := w.heap.size,off := 3 } (Value.int IntKind.u64 a2)).setCell { block := w.heap.size,off := 4 } (Value.int IntKind.u64 a3)).setCell { block := w.heap.size,off := 5 } (Value.slice sp sn sc)).setCell { block := w.heap.size,off := 6 } (Value.int IntKind.i64 lo)).setCell { block := w.heap.size,off := 7 } (Value.int IntKind.i64 hi)).setCell { block := w.heap.size,off := 0 } (Value.int IntKind.i64 k)).setCell { block := w.heap.size,off := 1 } (Value.int IntKind.u64 a0)).setCell { block := w.heap.size,off := 2 } (Value.int IntKind.u64 a1)).setCell { block := w.heap.size,off := 3 } (Value.int IntKind.u64 a2)).setCell { block := w.heap.size,off := 4 } (Value.int IntKind.u64 a3)).setCell { block := w.heap.size,off := 5 } (Value.slice sp sn sc)).setCell { block := w.heap.size,off := 6 } (Value.int IntKind.i64 lo)).setCell { block := w.heap.size,off := 7 } (Value.int IntKind.i64 hi)).setCell { block := w.heap.size + 1,off := 0 } (Value.int IntKind.i64 0)).setCell { block := w.heap.size + 1,off := 1 } (Value.int IntKind.i64 0)) (w.heap.size + 1) [.int .i64 0,.int .i64 0] := (z4u (z4u (z1q (z1q (z1q (z1q (z1q (z1q (z1q (z1q (z1q (z1q (z1q (z1q (z1q (z1q (z1q (z1q H1.out p2.symm 0 _) p2.symm 1 _) p2.symm 2 _) p2.symm 3 _) p2.symm 4 _) p2.symm 5 _) p2.symm 6 _) p2.symm 7 _) p2.symm 0 _) p2.symm 1 _) p2.symm 2 _) p2.symm 3 _) p2.symm 4 _) p2.symm 5 _) p2.symm 6 _) p2.symm 7 _) 0 _) 1 _)
  have k2 : PsW w S S' (((((((((((((((((((w2).setCell { block := w.heap.size,off := 0 } (Value.int IntKind.i64 k)).setCell { block := w.heap.size,off := 1 } (Value.int IntKind.u64 a0)).setCell { block := w.heap.size,off := 2 } (Value.int IntKind.u64 a1)).setCell { block := w.heap.size,off := 3 } (Value.int IntKind.u64 a2)).setCell { block := w.heap.size,off := 4 } (Value.int IntKind.u64 a3)).setCell { block := w.heap.size,off := 5 } (Value.slice sp sn sc)).setCell { block := w.heap.size,off := 6 } (Value.int IntKind.i64 lo)).setCell { block := w.heap.size,off := 7 } (Value.int IntKind.i64 hi)).setCell { block := w.heap.size,off := 0 } (Value.int IntKind.i64 k)).setCell { block := w.heap.size,off := 1 } (Value.int IntKind.u64 a0)).setCell { block := w.heap.size,off := 2 } (Value.int IntKind.u64 a1)).setCell { block := w.heap.size,off := 3 } (Value.int IntKind.u64 a2)).setCell { block := w.heap.size,off := 4 } (Value.int IntKind.u64 a3)).setCell { block := w.heap.size,off := 5 } (Value.slice sp sn sc)).setCell { block := w.heap.size,off := 6 } (Value.int IntKind.i64 lo)).setCell { block := w.heap.size,off := 7 } (Value.int IntKind.i64 hi)).setCell { block := w.heap.size + 1,off := 0 } (Value.int IntKind.i64 0)).setCell { block := w.heap.size + 1,off := 1 } (Value.int IntKind.i64 0)) := by
    have HQ := HP.out
    have hn0 : w.heap.size <= w.heap.size := Nat.le_refl _
    have hn1 : w.heap.size <= w.heap.size + 1 := by omega
    exact ((((((((((((((((((HQ.setCell hn0 hs0).setCell hn0 hs0).setCell hn0 hs0).setCell hn0 hs0).setCell hn0 hs0).setCell hn0 hs0).setCell hn0 hs0).setCell hn0 hs0).setCell hn0 hs0).setCell hn0 hs0).setCell hn0 hs0).setCell hn0 hs0).setCell hn0 hs0).setCell hn0 hs0).setCell hn0 hs0).setCell hn0 hs0).setCell hn1 hs1).setCell hn1 hs1)
  clear c00 z00 c01 z01 c02 z02 c03 z03 c04 z04 c05 z05 c06 z06 c07 z07 c10 z10 c11 z11
  generalize (((((((((((((((((((w2).setCell { block := w.heap.size,off := 0 } (Value.int IntKind.i64 k)).setCell { block := w.heap.size,off := 1 } (Value.int IntKind.u64 a0)).setCell { block := w.heap.size,off := 2 } (Value.int IntKind.u64 a1)).setCell { block := w.heap.size,off := 3 } (Value.int IntKind.u64 a2)).setCell { block := w.heap.size,off := 4 } (Value.int IntKind.u64 a3)).setCell { block := w.heap.size,off := 5 } (Value.slice sp sn sc)).setCell { block := w.heap.size,off := 6 } (Value.int IntKind.i64 lo)).setCell { block := w.heap.size,off := 7 } (Value.int IntKind.i64 hi)).setCell { block := w.heap.size,off := 0 } (Value.int IntKind.i64 k)).setCell { block := w.heap.size,off := 1 } (Value.int IntKind.u64 a0)).setCell { block := w.heap.size,off := 2 } (Value.int IntKind.u64 a1)).setCell { block := w.heap.size,off := 3 } (Value.int IntKind.u64 a2)).setCell { block := w.heap.size,off := 4 } (Value.int IntKind.u64 a3)).setCell { block := w.heap.size,off := 5 } (Value.slice sp sn sc)).setCell { block := w.heap.size,off := 6 } (Value.int IntKind.i64 lo)).setCell { block := w.heap.size,off := 7 } (Value.int IntKind.i64 hi)).setCell { block := w.heap.size + 1,off := 0 } (Value.int IntKind.i64 0)).setCell { block := w.heap.size + 1,off := 1 } (Value.int IntKind.i64 0)) = W3 at *
  refine leaves_cons (f := 35) (args := #[.pointer (some ⟨w.heap.size,0,none⟩),.pointer (some ⟨w.heap.size + 1,0,none⟩)]) (by simp) (by simp [go_sem]) ?_
  refine ps_idle.mono ?_
  rintro r u w5 ⟨⟨v,rfl⟩,rfl,rfl⟩
  have m0 := zia k0 (Obj.cells #[Value.int IntKind.i64 0,Value.int IntKind.i64 0] 48)
  have m1 := zia k1 (Obj.cells #[Value.int IntKind.i64 0,Value.int IntKind.i64 0] 48)
  have e00 := (m0 0 _ rfl).1; have e01 := (m0 1 _ rfl).1; have e02 := (m0 2 _ rfl).1; have e03 := (m0 3 _ rfl).1; have e04 := (m0 4 _ rfl).1; have e05 := (m0 5 _ rfl).1; have e06 := (m0 6 _ rfl).1; have e07 := (m0 7 _ rfl).1; have e10 := (m1 0 _ rfl).1; have e11 := (m1 1 _ rfl).1
  refine ⟨_, ?_,_,S',rfl,HF.out,k2.alloc _ _⟩
  clear k0 k1 k2 m0 m1 hmf
  simp [results,Go.Proofs.Tryd.results17,go_sem,e00,e01,e02,e03,e04,e05,e06,e07,e10,e11]
set_option maxHeartbeats 16000000 in
theorem z1dv {w:World} {s:List UInt8} {S:Hp} {e a:Int} (hlen : ¬ (256 : Int) < s.length) (hs0:S (w.heap.size) = none) (hs1:S (w.heap.size + 1) = none)
    (hc:Calls Go.Proofs.Tryd.prog 36 #[.pointer (some ⟨w.heap.size + 1 + 1,0,none⟩)] (((w.alloc (Obj.cells #[Value.int IntKind.i64 0,Value.int IntKind.u64 0,Value.int IntKind.u64 0,Value.int IntKind.u64 0,Value.int IntKind.u64 0,Value.slice none 0 0,Value.int IntKind.i64 0,Value.int IntKind.i64 0] 46)).alloc (Obj.cells #[Value.int IntKind.i64 0,Value.int IntKind.i64 0] 48)).alloc (Obj.cells #[Value.string ⟨⟨s⟩⟩,Value.int IntKind.i64 0,Value.int IntKind.i64 0] 75)) fun r w2=>r = .panicked [{ v := .iface 48 (.agg #[.int .i64 e,.int .i64 a]),recovered := false }] /\ Cl w2 (w.heap.size) [.int .i64 0,.int .u64 0,.int .u64 0,.int .u64 0,.int .u64 0,.slice none 0 0,.int .i64 0,.int .i64 0] /\ Cl w2 (w.heap.size + 1) [.int .i64 0,.int .i64 0] /\ PsW w S S w2) :
    Calls Go.Proofs.Tryd.prog 17 #[.string ⟨⟨s⟩⟩] w fun r w'=>r = .returned (.tuple #[.agg #[Value.int IntKind.i64 0,Value.int IntKind.u64 0,Value.int IntKind.u64 0,Value.int IntKind.u64 0,Value.int IntKind.u64 0,Value.slice none 0 0,Value.int IntKind.i64 0,Value.int IntKind.i64 0],.agg #[.int .i64 e,.int .i64 a]]) /\ PsW w S S w' := by
  have hmf : ∀ (fn:Fn) (first cap:Array Value) (w:World),(Instr.makeFunc fn first cap).run Go.Proofs.Tryd.prog w = .ok (.func fn first cap) w := fun _ _ _ _=>rfl
  have p1 : w.heap.size + 1 + 1 ≠ w.heap.size := by omega
  have p2 : w.heap.size + 1 ≠ w.heap.size := by omega
  go_enter_defers Go.Proofs.Tryd.func17,Go.Proofs.Tryd.ntmps17
  go_wp2_with (first
    | (go_at_call 36; refine hc.mono ?_; rintro r w2 ⟨rfl,hC0,hC1,hP⟩; have H0 := Go.Lib.hid hC0; have H1 := Go.Lib.hid hC1; have HP := Go.Lib.hid hP; clear hc hC0 hC1 hP))
  refine leaves_cons (f := 35) (args := #[.pointer (some ⟨w.heap.size,0,none⟩),.pointer (some ⟨w.heap.size + 1,0,none⟩)]) (by simp) (by simp [go_sem]) ?_
  refine (zsk (R := fun w'=>Cl w' (w.heap.size) [.int .i64 0,.int .u64 0,.int .u64 0,.int .u64 0,.int .u64 0,.slice none 0 0,.int .i64 0,.int .i64 0] /\ Cl w' (w.heap.size + 1) [.int .i64 e,.int .i64 a] /\ PsW w S S w') (zia H0.out _) (zia H1.out _) p2.symm (Nat.ne_of_lt (ztg H0.out)) (Nat.ne_of_lt (ztg H1.out)) (fun w' g0 g1 g2=>⟨g0,g1,g2 w S S HP.out (Nat.le_refl _) (Nat.le_succ _) hs0 hs1⟩)).mono ?_
  rintro r u w5 ⟨⟨v,rfl⟩,rfl,m0,m1,hP5⟩
  have e00 := (m0 0 _ rfl).1; have e01 := (m0 1 _ rfl).1; have e02 := (m0 2 _ rfl).1; have e03 := (m0 3 _ rfl).1; have e04 := (m0 4 _ rfl).1; have e05 := (m0 5 _ rfl).1; have e06 := (m0 6 _ rfl).1; have e07 := (m0 7 _ rfl).1; have e10 := (m1 0 _ rfl).1; have e11 := (m1 1 _ rfl).1
  clear m0 m1 hmf H0 H1
  simp [Leaves,settle,results,Go.Proofs.Tryd.results17,go_sem,e00,e01,e02,e03,e04,e05,e06,e07,e10,e11]
  exact hP5
set_option maxHeartbeats 16000000 in
theorem z1dw {w:World} {s:List UInt8} {S:Hp} {at_:Int} (hlen : ¬ (256 : Int) < s.length)
    (hc:Calls Go.Proofs.Tryd.prog 36 #[.pointer (some ⟨w.heap.size + 1 + 1,0,none⟩)] (((w.alloc (Obj.cells #[Value.int IntKind.i64 0,Value.int IntKind.u64 0,Value.int IntKind.u64 0,Value.int IntKind.u64 0,Value.int IntKind.u64 0,Value.slice none 0 0,Value.int IntKind.i64 0,Value.int IntKind.i64 0] 46)).alloc (Obj.cells #[Value.int IntKind.i64 0,Value.int IntKind.i64 0] 48)).alloc (Obj.cells #[Value.string ⟨⟨s⟩⟩,Value.int IntKind.i64 0,Value.int IntKind.i64 0] 75)) fun r w2 => ∃ (k a0 a1 a2 a3 lo hi:Int) (sp:Option Addr) (sn sc:Nat) (S':Hp),r = .returned (.agg #[.int .i64 k,.int .u64 a0,.int .u64 a1,.int .u64 a2,.int .u64 a3,.slice sp sn sc,.int .i64 lo,.int .i64 hi]) /\ Cl w2 (w.heap.size) [.int .i64 0,.int .u64 0,.int .u64 0,.int .u64 0,.int .u64 0,.slice none 0 0,.int .i64 0,.int .i64 0] /\ Cl w2 (w.heap.size + 1) [.int .i64 0,.int .i64 0] /\ w2.cell? ⟨w.heap.size + 1 + 1,1,none⟩ = some (.int .i64 at_) /\ S' (w.heap.size) = none /\ S' (w.heap.size + 1) = none /\ PsW w S S' w2)
    (hat:at_ < s.length) :
    Calls Go.Proofs.Tryd.prog 17 #[.string ⟨⟨s⟩⟩] w fun r w'=>r = .returned (.tuple #[.agg #[Value.int IntKind.i64 0,Value.int IntKind.u64 0,Value.int IntKind.u64 0,Value.int IntKind.u64 0,Value.int IntKind.u64 0,Value.slice none 0 0,Value.int IntKind.i64 0,Value.int IntKind.i64 0],.agg #[.int .i64 2,.int .i64 at_]]) /\ ∃ S',PsW w S S' w' := by
  have hmf : ∀ (fn:Fn) (first cap:Array Value) (w:World),(Instr.makeFunc fn first cap).run Go.Proofs.Tryd.prog w = .ok (.func fn first cap) w := fun _ _ _ _=>rfl
  have p1 : w.heap.size + 1 + 1 ≠ w.heap.size := by omega
  have p2 : w.heap.size + 1 ≠ w.heap.size := by omega
  go_enter_defers Go.Proofs.Tryd.func17,Go.Proofs.Tryd.ntmps17
  go_wp2_with (first
    | (go_at_call 36; refine hc.mono ?_; rintro r w2 ⟨k,a0,a1,a2,a3,lo,hi,sp,sn,sc,S',rfl,hC0,hC1,hat2,hs0,hs1,hP⟩; have c00 := (hC0 0 _ rfl).1; have z00 := (hC0 0 _ rfl).2; have c01 := (hC0 1 _ rfl).1; have z01 := (hC0 1 _ rfl).2; have c02 := (hC0 2 _ rfl).1; have z02 := (hC0 2 _ rfl).2; have c03 := (hC0 3 _ rfl).1; have z03 := (hC0 3 _ rfl).2; have c04 := (hC0 4 _ rfl).1; have z04 := (hC0 4 _ rfl).2; have c05 := (hC0 5 _ rfl).1; have z05 := (hC0 5 _ rfl).2; have c06 := (hC0 6 _ rfl).1; have z06 := (hC0 6 _ rfl).2; have c07 := (hC0 7 _ rfl).1; have z07 := (hC0 7 _ rfl).2; have c10 := (hC1 0 _ rfl).1; have z10 := (hC1 0 _ rfl).2; have c11 := (hC1 1 _ rfl).1; have z11 := (hC1 1 _ rfl).2; have hl0 : w.heap.size < w2.heap.size := ztg hC0; have hl1 : w.heap.size + 1 < w2.heap.size := ztg hC1; have H0 := Go.Lib.hid hC0; have H1 := Go.Lib.hid hC1; have HP := Go.Lib.hid hP; clear hc hC0 hC1 hP)
    | (go_at_call 37; refine fail_walk.mono ?_; rintro r w3 ⟨rfl,rfl⟩))
  have k0 : Cl (((((((((w2).setCell { block := w.heap.size,off := 0 } (Value.int IntKind.i64 k)).setCell { block := w.heap.size,off := 1 } (Value.int IntKind.u64 a0)).setCell { block := w.heap.size,off := 2 } (Value.int IntKind.u64 a1)).setCell { block := w.heap.size,off := 3 } (Value.int IntKind.u64 a2)).setCell { block := w.heap.size,off := 4 } (Value.int IntKind.u64 a3)).setCell { block := w.heap.size,off := 5 } (Value.slice sp sn sc)).setCell { block := w.heap.size,off := 6 } (Value.int IntKind.i64 lo)).setCell { block := w.heap.size,off := 7 } (Value.int IntKind.i64 hi)) (w.heap.size) [.int .i64 k,.int .u64 a0,.int .u64 a1,.int .u64 a2,.int .u64 a3,.slice sp sn sc,.int .i64 lo,.int .i64 hi] := (z4u (z4u (z4u (z4u (z4u (z4u (z4u (z4u H0.out 0 _) 1 _) 2 _) 3 _) 4 _) 5 _) 6 _) 7 _)
  have k1 : Cl (((((((((w2).setCell { block := w.heap.size,off := 0 } (Value.int IntKind.i64 k)).setCell { block := w.heap.size,off := 1 } (Value.int IntKind.u64 a0)).setCell { block := w.heap.size,off := 2 } (Value.int IntKind.u64 a1)).setCell { block := w.heap.size,off := 3 } (Value.int IntKind.u64 a2)).setCell { block := w.heap.size,off := 4 } (Value.int IntKind.u64 a3)).setCell { block := w.heap.size,off := 5 } (Value.slice sp sn sc)).setCell { block := w.heap.size,off := 6 } (Value.int IntKind.i64 lo)).setCell { block := w.heap.size,off := 7 } (Value.int IntKind.i64 hi)) (w.heap.size + 1) [.int .i64 0,.int .i64 0] := (z1q (z1q (z1q (z1q (z1q (z1q (z1q (z1q H1.out p2.symm 0 _) p2.symm 1 _) p2.symm 2 _) p2.symm 3 _) p2.symm 4 _) p2.symm 5 _) p2.symm 6 _) p2.symm 7 _)
  have k2 : PsW w S S' (((((((((w2).setCell { block := w.heap.size,off := 0 } (Value.int IntKind.i64 k)).setCell { block := w.heap.size,off := 1 } (Value.int IntKind.u64 a0)).setCell { block := w.heap.size,off := 2 } (Value.int IntKind.u64 a1)).setCell { block := w.heap.size,off := 3 } (Value.int IntKind.u64 a2)).setCell { block := w.heap.size,off := 4 } (Value.int IntKind.u64 a3)).setCell { block := w.heap.size,off := 5 } (Value.slice sp sn sc)).setCell { block := w.heap.size,off := 6 } (Value.int IntKind.i64 lo)).setCell { block := w.heap.size,off := 7 } (Value.int IntKind.i64 hi)) := ((((((((HP.out.setCell (Nat.le_refl _) hs0).setCell (Nat.le_refl _) hs0).setCell (Nat.le_refl _) hs0).setCell (Nat.le_refl _) hs0).setCell (Nat.le_refl _) hs0).setCell (Nat.le_refl _) hs0).setCell (Nat.le_refl _) hs0).setCell (Nat.le_refl _) hs0)
  clear c00 z00 c01 z01 c02 z02 c03 z03 c04 z04 c05 z05 c06 z06 c07 z07 c10 z10 c11 z11
  generalize (((((((((w2).setCell { block := w.heap.size,off := 0 } (Value.int IntKind.i64 k)).setCell { block := w.heap.size,off := 1 } (Value.int IntKind.u64 a0)).setCell { block := w.heap.size,off := 2 } (Value.int IntKind.u64 a1)).setCell { block := w.heap.size,off := 3 } (Value.int IntKind.u64 a2)).setCell { block := w.heap.size,off := 4 } (Value.int IntKind.u64 a3)).setCell { block := w.heap.size,off := 5 } (Value.slice sp sn sc)).setCell { block := w.heap.size,off := 6 } (Value.int IntKind.i64 lo)).setCell { block := w.heap.size,off := 7 } (Value.int IntKind.i64 hi)) = W3 at *
  refine leaves_cons (f := 35) (args := #[.pointer (some ⟨w.heap.size,0,none⟩),.pointer (some ⟨w.heap.size + 1,0,none⟩)]) (by simp) (by simp [go_sem]) ?_
  refine (zsk (R := fun w'=>Cl w' (w.heap.size) [.int .i64 0,.int .u64 0,.int .u64 0,.int .u64 0,.int .u64 0,.slice none 0 0,.int .i64 0,.int .i64 0] /\ Cl w' (w.heap.size + 1) [.int .i64 2,.int .i64 at_] /\ PsW w S S' w') (zia k0 _) (zia k1 _) p2.symm (Nat.ne_of_lt (ztg k0)) (Nat.ne_of_lt (ztg k1)) (fun w' g0 g1 g2=>⟨g0,g1,g2 w S S' k2 (Nat.le_refl _) (Nat.le_succ _) hs0 hs1⟩)).mono ?_
  rintro r u w5 ⟨⟨v,rfl⟩,rfl,m0,m1,hP5⟩
  have e00 := (m0 0 _ rfl).1; have e01 := (m0 1 _ rfl).1; have e02 := (m0 2 _ rfl).1; have e03 := (m0 3 _ rfl).1; have e04 := (m0 4 _ rfl).1; have e05 := (m0 5 _ rfl).1; have e06 := (m0 6 _ rfl).1; have e07 := (m0 7 _ rfl).1; have e10 := (m1 0 _ rfl).1; have e11 := (m1 1 _ rfl).1
  clear m0 m1 hmf k0 k1 H0 H1
  simp [Leaves,settle,results,Go.Proofs.Tryd.results17,go_sem,e00,e01,e02,e03,e04,e05,e06,e07,e10,e11]
  exact ⟨S',hP5⟩
theorem zx9 {S:Hp} {y:NodT.den} {v:Value} (h:VR S NodT y v) : ∃ (k a0 a1 a2 a3 lo hi:Int) (sp:Option Addr) (sn sc:Nat),v = .agg #[.int .i64 k,.int .u64 a0,.int .u64 a1,.int .u64 a2,.int .u64 a3,.slice sp sn sc,.int .i64 lo,.int .i64 hi] := by
  unfold VR at h
  simp only [T.isAgg,if_true] at h
  obtain ⟨cs,e,h⟩ := h
  obtain ⟨c1,d1,e1,h1,c2,d2,e2,h2,c3,d3,e3,h3,c4,d4,e4,h4,c5,d5,e5,h5,h6⟩ := h
  have h1 : c1 = [.int .i64 y.1] := h1
  have h4 : c4 = [.int .i64 y.2.2.2.1] := h4
  have h5 : c5 = [.int .i64 y.2.2.2.2.1] := h5
  have h6 : d5 = [] := h6
  obtain ⟨hl,ha⟩ := h2
  obtain ⟨sp,sc,h3,_⟩ := h3
  obtain ⟨k,arr,sl,lo,hi,u⟩ := y
  match arr,hl with
  | [a0,a1,a2,a3],_ =>
    obtain ⟨q0,r0,f0,g0,q1,r1,f1,g1,q2,r2,f2,g2,q3,r3,f3,g3,g4⟩ := ha
    have g0 : q0 = [.int .u64 a0] := g0
    have g1 : q1 = [.int .u64 a1] := g1
    have g2 : q2 = [.int .u64 a2] := g2
    have g3 : q3 = [.int .u64 a3] := g3
    have g4 : r3 = [] := g4
    refine ⟨k,a0,a1,a2,a3,lo,hi,sp,List.length sl,sc, ?_⟩
    rw [e]
    congr 1
    apply Array.toList_inj.1
    rw [e1,h1,e2,f0,g0,f1,g1,f2,g2,f3,g3,g4,e3,h3,e4,h4,e5,h5,h6]
    rfl
abbrev z166 : T := .pair (.int .i64) (.pair (.int .i64) .unit)
def z1hg : NodT.den := ((0 : Int),(([(0 : Int),0,0,0] : List Int),(([] : List Go.Lift.Tree),((0 : Int),((0 : Int),())))))
theorem zty (S:Hp) : VR S NodT z1hg (.agg #[Value.int IntKind.i64 0,Value.int IntKind.u64 0,Value.int IntKind.u64 0,Value.int IntKind.u64 0,Value.int IntKind.u64 0,Value.slice none 0 0,Value.int IntKind.i64 0,Value.int IntKind.i64 0]) := (z169 (t := NodT) (x := z1hg) rfl).mono (zbj _)
theorem zwi (S:Hp) (e a:Int) : VR S z166 (e,a,()) (.agg #[.int .i64 e,.int .i64 a]) := (z169 (t := z166) (x := (e,a,())) rfl).mono (zbj _)
def zf2 (N:Nat) (s:List UInt8) : Option (z3z [NodT,z166]) :=
 cond (decide ((256 : Int) < s.length))
 (some (z1hg,((3,256,()),())))
 (orP (z1n N (s,(0,(0,())))) (fun z=>some (z1hg,(z,())))
 ((zq N (s,(0,(0,())))).bind fun y =>
 cond (decide (y.2.1.2.1 < (s.length : Int)))
 (some (z1hg,((2,y.2.1.2.1,()),())))
 (some (y.1,((0,0,()),())))))
def zh1 (N:Nat) : List A -> Res := zz [(0,.v .str)] (fun x=>zf2 N x.1) (z70 (.tup [NodT,z166]) 1)
theorem z1ou {w:World} {n:Nat} {cs:Array Value} {E:Nat} (h:w.heap[n]? = some (.cells cs E (0,0))) : Cl w n cs.toList := by
  intro i v hi
  have hi' : cs[i]? = some v := by rw [<- Array.getElem?_toList]; exact hi
  constructor
  . simp [World.cell?,h,hi']
  . simp [World.frozen?,h]
def psW (w:World) (s:List UInt8) : World := ((w.alloc (Obj.cells #[Value.int IntKind.i64 0,Value.int IntKind.u64 0,Value.int IntKind.u64 0,Value.int IntKind.u64 0,Value.int IntKind.u64 0,Value.slice none 0 0,Value.int IntKind.i64 0,Value.int IntKind.i64 0] 46)).alloc (Obj.cells #[Value.int IntKind.i64 0,Value.int IntKind.i64 0] 48)).alloc (Obj.cells #[Value.string ⟨⟨s⟩⟩,Value.int IntKind.i64 0,Value.int IntKind.i64 0] 75)
theorem zsl (w:World) (s:List UInt8) : (psW w s).heap.size = w.heap.size + 3 /\ (psW w s).heap[w.heap.size]? = some (.cells #[Value.int IntKind.i64 0,Value.int IntKind.u64 0,Value.int IntKind.u64 0,Value.int IntKind.u64 0,Value.int IntKind.u64 0,Value.slice none 0 0,Value.int IntKind.i64 0,Value.int IntKind.i64 0] 46 (0,0)) /\ (psW w s).heap[w.heap.size + 1]? = some (.cells #[Value.int IntKind.i64 0,Value.int IntKind.i64 0] 48 (0,0)) ∧
    (psW w s).heap[w.heap.size + 1 + 1]? = some (.cells #[Value.string ⟨⟨s⟩⟩,Value.int IntKind.i64 0,Value.int IntKind.i64 0] 75 (0,0)) /\ (∀ k,k < w.heap.size -> (psW w s).heap[k]? = w.heap[k]?) ∧
    (psW w s).tape = w.tape /\ (psW w s).os = w.os /\ (psW w s).output = w.output := by
  have hh : (psW w s).heap = ((w.heap.push (.cells #[Value.int IntKind.i64 0,Value.int IntKind.u64 0,Value.int IntKind.u64 0,Value.int IntKind.u64 0,Value.int IntKind.u64 0,Value.slice none 0 0,Value.int IntKind.i64 0,Value.int IntKind.i64 0] 46 (0,0))).push (.cells #[Value.int IntKind.i64 0,Value.int IntKind.i64 0] 48 (0,0))).push (.cells #[Value.string ⟨⟨s⟩⟩,Value.int IntKind.i64 0,Value.int IntKind.i64 0] 75 (0,0)) := rfl
  refine ⟨by rw [hh]; simp, ?_, ?_, ?_,fun k hk => ?_,rfl,rfl,rfl⟩
  . rw [hh,Array.getElem?_push,if_neg (by simp; omega),Array.getElem?_push,if_neg (by simp),Array.getElem?_push,if_pos rfl]
  . rw [hh,Array.getElem?_push,if_neg (by simp),Array.getElem?_push,if_pos (by simp)]
  . rw [hh,Array.getElem?_push,if_pos (by simp)]
  . rw [hh,Array.getElem?_push,if_neg (by simp; omega),Array.getElem?_push,if_neg (by simp; omega),Array.getElem?_push,if_neg (by omega)]
theorem z177 {w:World} {s:List UInt8} {S:Hp} (hS:Lift.Sub S (hp w)) : ArgsRel (hp (psW w s)) S [.box PrsT (s,(0,(0,())))] [.pointer (some ⟨w.heap.size + 1 + 1,0,none⟩)] (fun i=>if i = 0 then [w.heap.size + 1 + 1] else []) /\ Lift.Sub S (hp (psW w s)) := by
  obtain ⟨f1,f2,f3,f4,f5,_⟩ := zsl w s
  have hsub : Lift.Sub S (hp (psW w s)) := fun k q hk=>by
    have := hS k q hk
    simp only [hp] at this ⊢
    rw [f5 k (z7d (hS k q hk))]
    exact this
  refine ⟨z144 (w := psW w s) (args := []) (vals := []) ?_ (by simp) (fun k hk => ?_) ⟨rfl,fun i x h=>(by cases h),fun _ _=>rfl,fun i j b hb=>(by cases hb),fun _ => .nil,fun i b hb=>(by cases hb)⟩,hsub⟩
  . refine ⟨w.heap.size + 1 + 1,_,_,_,[],rfl,rfl,f4,zhe _,RdO.of_rd PrsT _ _ ?_⟩
    exact ⟨[.string ⟨⟨s⟩⟩],_,rfl,rfl,[.int .i64 0],_,rfl,rfl,[.int .i64 0],[],rfl,rfl,rfl⟩
  . have : k = w.heap.size + 1 + 1 := by simpa using hk
    subst this
    cases hx : S (w.heap.size + 1 + 1) with
    | none=>rfl
    | some o=>exact absurd (z7d (hS _ _ hx)) (by omega)
theorem zre {w:World} {S:Hp} (hS:Lift.Sub S (hp w)) {k:Nat} (hk:w.heap.size <= k) : S k = none := by
  cases hx : S k with
  | none=>rfl
  | some o=>exact absurd (z7d (hS _ _ hx)) (by omega)
theorem zx2 {w w2:World} {s:List UInt8} {S S':Hp} (hS:Lift.Sub S (hp w)) (hwf:WF (psW w s) (fun b => ∃ i,b ∈ (fun i=>if i = 0 then [w.heap.size + 1 + 1] else []) i) w2) (hSS:Lift.Sub S S') (hSw:Lift.Sub S' (hp w2))
    (hnew : ∀ b,S' b ≠ none -> S b ≠ none \/ b = w.heap.size + 1 + 1 \/ (psW w s).heap.size <= b) :
    Cl w2 w.heap.size [.int .i64 0,.int .u64 0,.int .u64 0,.int .u64 0,.int .u64 0,.slice none 0 0,.int .i64 0,.int .i64 0] /\ Cl w2 (w.heap.size + 1) [.int .i64 0,.int .i64 0] /\ S' w.heap.size = none /\ S' (w.heap.size + 1) = none /\ PsW w S S' w2 := by
  obtain ⟨f1,f2,f3,f4,f5,f6,f7,f8⟩ := zsl w s
  have hin : ∀ k,(∃ i,k ∈ (fun i=>if i = 0 then [w.heap.size + 1 + 1] else []) i) -> k = w.heap.size + 1 + 1 := by
    rintro k ⟨i,hi⟩
    by_cases hi0 : i = 0
    . simpa [hi0] using hi
    . simp [hi0] at hi
  have g0 := hwf.same w.heap.size (by omega) (fun h=>by have := hin _ h; omega)
  have g1 := hwf.same (w.heap.size + 1) (by omega) (fun h=>by have := hin _ h; omega)
  rw [f2] at g0
  rw [f3] at g1
  refine ⟨z1ou g0,z1ou g1, ?_, ?_,⟨by have := hwf.size; omega,fun k hk _ => ?_,hwf.tape.trans f6,hwf.os.trans f7,hwf.output.trans f8⟩,hSS,hSw,fun k hk => ?_⟩
  . cases hx : S' w.heap.size with
    | none=>rfl
    | some o =>
      rcases hnew _ (by rw [hx]; simp) with h | h | h
      . exact absurd (zre hS (Nat.le_refl _)) h
      . omega
      . omega
  . cases hx : S' (w.heap.size + 1) with
    | none=>rfl
    | some o =>
      rcases hnew _ (by rw [hx]; simp) with h | h | h
      . exact absurd (zre hS (by omega)) h
      . omega
      . omega
  . rw [hwf.same k (by omega) (fun h=>by have := hin _ h; omega),f5 k hk]
  . rcases hnew k hk with h | h | h
    . exact .inl h
    . exact .inr (by omega)
    . exact .inr (by omega)
theorem z1dx {w:World} {S:Hp} {x:PrsT.den} {b:Nat} {o:List Nat} (h:ARel (hp w) S (fun _=>undef) (.box PrsT x) (.pointer (some ⟨b,0,none⟩)) o) : w.cell? ⟨b,1,none⟩ = some (.int .i64 x.2.1) := by
  obtain ⟨b',cs,E,fr,bs,e,e',hb,hf,hr⟩ := h
  cases e'
  obtain ⟨_,c1,d1,hc,h1,c2,d2,hc2,h2,h3⟩ := RdO.rd PrsT x _ _ rfl hr
  have k1 : c1 = [.string ⟨⟨x.1⟩⟩] := h1
  have k2 : c2 = [.int .i64 x.2.1] := h2
  have : cs[1]? = some (.int .i64 x.2.1) := by
    rw [<- Array.getElem?_toList,hc,k1,hc2,k2]; rfl
  have hb : w.heap[b]? = some (.cells cs E fr) := hb
  simp [World.cell?,hb,this]
theorem zrf {w w':World} {s:List UInt8} {S S':Hp} {ob:Nat -> List Nat} {y:z3z [NodT,z166]} {v1 v2:Value} (hob : ∀ i,ob i = []) (hP:PsW w S S' w') (h1:VR S' NodT y.1 v1) (h2:VR S' z166 y.2.1 v2) :
    Lift.Ends w S (mkS [(0,.v .str)] 0 (s,())) [.string ⟨⟨s⟩⟩] ob (z70 (.tup [NodT,z166]) 1 y).1 (z70 (.tup [NodT,z166]) 1 y).2 (.returned (.tuple #[v1,v2])) w' := by
  obtain ⟨k1,k2,k3,k4⟩ := hP
  refine ⟨_,S',[],ob,rfl,⟨k1.size,fun k hk _=>k1.same k hk (fun h=>h),k1.tape,k1.os,k1.output⟩,k2,k3,fun k hk => ?_,⟨⟨rfl,_,rfl,.cons h1 (.cons h2 .nil)⟩,rfl⟩,(fun k hk=>by cases hk),.nil, ?_, ?_, ?_, ?_,fun _ h=>h⟩
  . rcases k4 k hk with h | h
    . exact .inl h
    . exact .inr (.inr h)
  . intro i x hx hbx
    match i with
    | 0=>simp [mkS,zcu,AS.mk] at hx; subst hx; simp [zd5] at hbx
    | i + 1=>simp [mkS,zcu] at hx
  . intro i k hk
    rw [hob i] at hk; cases hk
  . intro i j k hi
    rw [hob i] at hi; cases hi
  . intro i
    rw [hob i]; exact .nil
theorem zpu (N:Nat) : Contract Go.Proofs.Tryd.prog glob 17 (zh1 N) := by
  refine Contract.hand ⟨_,Go.Proofs.Tryd.func17,by kernel_rfl,by decide⟩ ?_
  intro w S vals ob x y har hS hg hy
  obtain ⟨s,u⟩ := x
  cases u
  have hob : ∀ i,ob i = [] := by
    intro i
    rcases i with _ | i
    . obtain ⟨⟨v,hv,hA⟩,_⟩ := har.rel 0 _ rfl
      exact hA.2
    . exact har.out _ (by simp [mkS,zcu])
  have hvals : vals = [.string ⟨⟨s⟩⟩] := by
    have hlen := har.len
    obtain ⟨⟨v0,hv0,hA0⟩,_⟩ := har.rel 0 _ rfl
    have e0 : v0 = .string ⟨⟨s⟩⟩ := VR.str_inv hA0.1
    match vals,hlen with
    | [a],_=>cases hv0; rw [e0]
  subst hvals
  have hy : zf2 N s = some y := hy
  unfold zf2 at hy
  by_cases hlen : (256 : Int) < s.length
  . rw [decide_eq_true hlen] at hy
    cases hy
    refine (z176 hS hlen).mono ?_
    rintro r w' ⟨rfl,hP⟩
    exact zrf hob hP (zty _) (zwi _ _ _)
  . rw [decide_eq_false hlen] at hy
    simp only [cond_false] at hy
    obtain ⟨hA,hSB⟩ := z177 (s := s) hS
    rcases zrj hy with ⟨z,hz,hK⟩ | ⟨_,hK⟩
    . cases hK
      have hc := (z4z N).2 (psW w s) S _ _ _ hA hSB hg z hz
      refine (z1dv hlen (zre hS (Nat.le_refl _)) (zre hS (Nat.le_succ _)) (e := z.1) (a := z.2.1) (hc.mono ?_)).mono ?_
      . rintro e w2 ⟨rfl,hwf,hsub⟩
        obtain ⟨q1,q2,q3,q4,q5⟩ := zx2 hS hwf (Lift.Sub.refl S) hsub (fun b hb => .inl hb)
        exact ⟨rfl,q1,q2,q5⟩
      . rintro r w' ⟨rfl,hP⟩
        obtain ⟨z1,z2,u⟩ := z
        exact zrf hob hP (zty _) (zwi _ _ _)
    . obtain ⟨q,hq,hK⟩ := Option.bind_eq_some_iff.1 hK
      have hc := (z2b N).2 (psW w s) S _ _ _ hA hSB hg q hq
      have key : ∀ e w2,Lift.Ends (psW w s) S [.box PrsT (s,(0,(0,())))] [.pointer (some ⟨w.heap.size + 1 + 1,0,none⟩)] (fun i=>if i = 0 then [w.heap.size + 1 + 1] else []) (.v NodT q.1) [.box PrsT q.2.1] e w2 →
          ∃ v S',e = .returned v /\ VR S' NodT q.1 v /\ Cl w2 w.heap.size [.int .i64 0,.int .u64 0,.int .u64 0,.int .u64 0,.int .u64 0,.slice none 0 0,.int .i64 0,.int .i64 0] /\ Cl w2 (w.heap.size + 1) [.int .i64 0,.int .i64 0] /\ w2.cell? ⟨w.heap.size + 1 + 1,1,none⟩ = some (.int .i64 q.2.1.2.1) /\ S' w.heap.size = none /\ S' (w.heap.size + 1) = none /\ PsW w S S' w2 := by
        rintro e w2 ⟨v,S',o,ob',rfl,hwf,hSS,hSw,hnew,⟨hr,_⟩,_,_,hbox,_⟩
        obtain ⟨x2,v2,g1,g2,_,g4⟩ := hbox 0 _ rfl rfl
        simp at g1 g2
        subst g1
        subst g2
        obtain ⟨q1,q2,q3,q4,q5⟩ := zx2 hS hwf hSS hSw (fun b hb=>by
          rcases hnew b hb with h | ⟨i,hi⟩ | h
          . exact .inl h
          . by_cases hi0 : i = 0
            . simp [hi0] at hi; exact .inr (.inl hi)
            . simp [hi0] at hi
          . exact .inr (.inr h))
        exact ⟨v,S',rfl,hr.1,q1,q2,z1dx g4,q3,q4,q5⟩
      by_cases hat : q.2.1.2.1 < (s.length : Int)
      . rw [decide_eq_true hat] at hK
        cases hK
        refine (z1dw (S := S) hlen (at_ := q.2.1.2.1) (hc.mono ?_) hat).mono ?_
        . intro e w2 h
          obtain ⟨v,S',rfl,hv,q1,q2,q3,q4,q5,q6⟩ := key e w2 h
          obtain ⟨k,a0,a1,a2,a3,lo,hi,sp,sn,sc,rfl⟩ := zx9 hv
          exact ⟨k,a0,a1,a2,a3,lo,hi,sp,sn,sc,S',rfl,q1,q2,q3,q4,q5,q6⟩
        . rintro r w' ⟨rfl,S',hP⟩
          exact zrf hob hP (zty _) (zwi _ _ _)
      . rw [decide_eq_false hat] at hK
        cases hK
        refine (ps_ok (S := S) hlen (at_ := q.2.1.2.1) (F := fun S' v=>VR S' NodT q.1 v) (hc.mono ?_) hat).mono ?_
        . intro e w2 h
          obtain ⟨v,S',rfl,hv,q1,q2,q3,q4,q5,q6⟩ := key e w2 h
          obtain ⟨k,a0,a1,a2,a3,lo,hi,sp,sn,sc,rfl⟩ := zx9 hv
          exact ⟨k,a0,a1,a2,a3,lo,hi,sp,sn,sc,S',rfl,q1,q2,q3,q4,q5,q6,hv⟩
        . rintro r w' ⟨v,S',rfl,hv,hP⟩
          exact zrf hob hP hv (zwi _ _ _)
end
end Go.Proofs.YtgbcebmahbieoaaDoorLg
set_option linter.all false
set_option maxRecDepth 100000
namespace Go.Proofs.YtgbcebmahbieoaaDoorLg
noncomputable section
open Go Go.Lift Go.Proofs
abbrev E8 : T := .arr 8 (.int .u64)
abbrev BR : T := .pair (.mp E8 (.int .i64)) (.pair (.own E8) (.pair (.pair (.int .i64) (.pair (.own .bool) (.pair (.sl (.int .i64)) (.pair (.own (.sl (.int .i64))) .unit)))) .unit))
abbrev B1 : T := .pair E8 (.pair E8 (.pair (.own E8) (.pair (.own E8) BR)))
abbrev B2 : T := .pair E8 (.pair E8 (.pair (.sl E8) (.pair (.sl E8) BR)))
abbrev B3 : T := .pair E8 (.pair E8 (.pair (.sl E8) (.pair (.sl E8) (.pair (.mp E8 (.int .i64)) (.pair (.own E8) (.pair D18 .unit))))))
theorem z1or {m:Nat × Nat} {h S:Hp} {x:B2.den} {cs:List Value} {bs:List Nat} (hr:RdO m h S B2 x cs bs) : ∃ b1 b2,bs = b2 ++ b1 /\ ∀ S',Lift.Sub S S' -> (∀ k ∈ b1,S' k = h k) -> RdO m h S' B3 x cs b2 := by
  obtain ⟨c1,c2,q1,q2,rfl,rfl,h1,c3,c4,q3,q4,rfl,rfl,h2,c5,c6,q5,q6,rfl,rfl,h3,c7,c8,q7,q8,rfl,rfl,h4,c9,c10,q9,q10,rfl,rfl,h5,c11,c12,q11,q12,rfl,rfl,h6,c13,c14,q13,q14,rfl,rfl,⟨d1,d2,r1,r2,rfl,rfl,g1,d3,d4,r3,r4,rfl,rfl,g2,d5,d6,r5,r6,rfl,rfl,g3,d7,d8,r7,r8,rfl,rfl,g4,g5⟩,h8⟩ := hr
  obtain rfl : q1 = [] := h1.1
  obtain rfl : q3 = [] := h2.1
  obtain rfl : q5 = [] := h3.1
  obtain rfl : q7 = [] := h4.1
  obtain rfl : q14 = [] := h8.1
  obtain rfl : r1 = [] := g1.1
  obtain rfl : r5 = [] := g3.1
  obtain rfl : r8 = [] := g5.1
  obtain ⟨v3,rfl,k3⟩ := g2
  obtain ⟨v7,rfl,k7⟩ := g4
  refine ⟨r3 ++ r7,q9 ++ q11,by simp,fun S' hS hb => ?_⟩
  have e1 : RdO m h S' E8 x.1 c1 [] := ⟨rfl,h1.2.mono hS⟩
  have e2 : RdO m h S' E8 x.2.1 c3 [] := ⟨rfl,h2.2.mono hS⟩
  have e3 : RdO m h S' (.sl E8) x.2.2.1 c5 [] := ⟨rfl,h3.2.mono hS⟩
  have e4 : RdO m h S' (.sl E8) x.2.2.2.1 c7 [] := ⟨rfl,h4.2.mono hS⟩
  have e5 := RdO.mono hS (.mp E8 (.int .i64)) _ _ _ (fun k hk=>rfl) h5
  have e6 := RdO.mono hS (.own E8) _ _ _ (fun k hk=>rfl) h6
  have e8 : RdO m h S' .unit x.2.2.2.2.2.2.2 c14 [] := ⟨rfl,h8.2.mono hS⟩
  have f1 : RdO m h S' (.int .i64) x.2.2.2.2.2.2.1.1 d1 [] := ⟨rfl,g1.2.mono hS⟩
  have f2 : RdO m h S' (.sl .bool) x.2.2.2.2.2.2.1.2.1 [v3] [] := ⟨rfl,k3.shared hS (fun k hk=>hb k (List.mem_append_left _ hk))⟩
  have f3 : RdO m h S' (.sl (.int .i64)) x.2.2.2.2.2.2.1.2.2.1 d5 [] := ⟨rfl,g3.2.mono hS⟩
  have f4 : RdO m h S' (.sl (.sl (.int .i64))) x.2.2.2.2.2.2.1.2.2.2.1 [v7] [] := ⟨rfl,k7.shared hS (fun k hk=>hb k (List.mem_append_right _ hk))⟩
  have f5 : RdO m h S' .unit x.2.2.2.2.2.2.1.2.2.2.2 d8 [] := ⟨rfl,g5.2.mono hS⟩
  exact ⟨c1,_,[],_,rfl,rfl,e1,c3,_,[],_,rfl,rfl,e2,c5,_,[],_,rfl,rfl,e3,c7,_,[],_,rfl,rfl,e4,c9,_,q9,q11,rfl,rfl,e5,c11,_,q11,[],rfl,by simp,e6,_,c14,[],[],rfl,rfl,⟨d1,_,[],[],rfl,rfl,f1,[v3],_,[],[],rfl,rfl,f2,d5,_,[],[],rfl,rfl,f3,[v7],d8,[],[],rfl,rfl,f4,f5⟩,e8⟩
theorem frz18 {m:Nat × Nat} {h S:Hp} {x:B1.den} {cs:List Value} {bs:List Nat} (hr:RdO m h S B1 x cs bs) : ∃ b1 b2,bs = b1 ++ b2 /\ ∀ S',Lift.Sub S S' -> (∀ k ∈ b1,S' k = h k) -> RdO m h S' B2 x cs b2 := by
  obtain ⟨c1,c2,q1,q2,rfl,rfl,h1,c3,c4,q3,q4,rfl,rfl,h2,c5,c6,q5,q6,rfl,rfl,h3,c7,c8,q7,q8,rfl,rfl,h4,h5⟩ := hr
  obtain rfl : q1 = [] := h1.1
  obtain rfl : q3 = [] := h2.1
  obtain ⟨v3,rfl,r3⟩ := h3
  obtain ⟨v4,rfl,r4⟩ := h4
  refine ⟨q5 ++ q7,q8,by simp,fun S' hS hb => ?_⟩
  have e1 : RdO m h S' E8 x.1 c1 [] := ⟨rfl,h1.2.mono hS⟩
  have e2 : RdO m h S' E8 x.2.1 c3 [] := ⟨rfl,h2.2.mono hS⟩
  have e3 : RdO m h S' (.sl E8) x.2.2.1 [v3] [] := ⟨rfl,r3.shared hS (fun k hk=>hb k (List.mem_append_left _ hk))⟩
  have e4 : RdO m h S' (.sl E8) x.2.2.2.1 [v4] [] := ⟨rfl,r4.shared hS (fun k hk=>hb k (List.mem_append_right _ hk))⟩
  exact ⟨c1,_,[],q8,rfl,rfl,e1,c3,_,[],q8,rfl,rfl,e2,[v3],_,[],q8,rfl,rfl,e3,[v4],c8,[],q8,rfl,rfl,e4,RdO.mono hS BR _ _ _ (fun k hk=>rfl) h5⟩
def zqz (N:Nat) : List A -> Res := zz [(0,.box B1)] (fun x=>z69 N x.1) (z3p (.v .bool) [(0,.box B3)] 0)
set_option maxHeartbeats 2000000 in
theorem z11q (N:Nat) : Contract Go.Proofs.Tryd.prog glob 25 (zqz N) := by
  refine Contract.hand (zba N).1 ?_
  intro w S vals ob x y har hS hg hy
  obtain ⟨x,u⟩ := x
  cases u
  dsimp only at hy
  obtain ⟨⟨v,hv,hA⟩,_⟩ := har.rel 0 _ rfl
  have hvals : vals = [v] := by
    match vals,har.len,hv with
    | [a],_,h1=>simp at h1; rw [h1]
  subst hvals
  obtain ⟨b,cs,E,fr,bs,hob,rfl,hb,hfr,hr⟩ := hA
  obtain ⟨b1,b2,rfl,hz⟩ := frz18 hr
  have hnd := har.nd 0
  rw [hob] at hnd
  have hhid : ∀ k ∈ b :: (b1 ++ b2),S k = none := fun k hk=>har.hid 0 k (by rw [hob]; exact hk)
  have hS1 : Lift.Sub S (fun k=>if k ∈ b1 then hp w k else S k) := by
    intro k o hk
    dsimp only
    rw [if_neg (fun hm=>by rw [hhid k (by simp [hm])] at hk; cases hk)]
    exact hk
  have hS2 : Lift.Sub (fun k=>if k ∈ b1 then hp w k else S k) (hp w) := by
    intro k o hk
    dsimp only at hk
    split at hk
    . exact hk
    . exact hS k o hk
  have hr2 := hz _ hS1 (fun k hk=>if_pos hk)
  have hdis : ∀ k ∈ b :: b2,k ∉ b1 := by
    intro k hk h1
    rw [List.nodup_cons,List.nodup_append] at hnd
    rcases List.mem_cons.1 hk with rfl | hk
    . exact hnd.1 (List.mem_append_left _ h1)
    . exact hnd.2.2.2 k h1 k hk rfl
  have har2 : ArgsRel (hp w) (fun k=>if k ∈ b1 then hp w k else S k) [.box B2 x] [.pointer (some ⟨b,0,none⟩)] (fun i=>if i = 0 then b :: b2 else []) := by
    refine ⟨rfl,fun i z hi => ?_,fun i hi=>if_neg (by intro e; subst e; simp at hi),fun i j k hi hj => ?_,fun i => ?_,fun i k hk => ?_⟩
    . match i with
      | 0 =>
        simp at hi; subst hi
        exact ⟨⟨_,rfl,b,cs,E,fr,b2,rfl,rfl,hb,hfr,hr2⟩,rfl⟩
      | i + 1=>simp at hi
    . by_cases hi0 : i = 0 <;> by_cases hj0 : j = 0 <;> simp_all
    . by_cases hi0 : i = 0
      . simp only [hi0,if_true]
        rw [List.nodup_cons,List.nodup_append] at hnd
        exact List.nodup_cons.2 ⟨fun h=>hnd.1 (List.mem_append_right _ h),hnd.2.2.1⟩
      . simp [hi0]
    . by_cases hi0 : i = 0
      . simp only [hi0,if_true] at hk
        rw [if_neg (hdis k hk)]
        refine hhid k ?_
        simp only [List.mem_cons,List.mem_append] at hk ⊢
        rcases hk with h | h
        . exact .inl h
        . exact .inr (.inr h)
      . simp [hi0] at hk
  have hin : ∀ k,(∃ i,k ∈ (fun i=>if i = 0 then b :: b2 else [] : Nat -> List Nat) i) -> ∃ i,k ∈ ob i := by
    rintro k ⟨i,hi⟩
    by_cases hi0 : i = 0
    . simp only [hi0,if_true] at hi
      refine ⟨0, ?_⟩
      rw [hob]
      simp only [List.mem_cons,List.mem_append] at hi ⊢
      rcases hi with h | h
      . exact .inl h
      . exact .inr (.inr h)
    . simp [hi0] at hi
  refine ((zba N).2 w _ _ _ _ har2 hS2 (hg.mono hS1) y hy).mono ?_
  rintro e w' ⟨v',S'',o,ob'',rfl,hwf,hSS,hSw,hnew,hrr,ho,hod,hbox,hobc,hinj,hndc,hnil⟩
  obtain ⟨z1,z2,hz1,hz2,_,hA1⟩ := hbox 0 _ rfl rfl
  cases hz1
  simp at hz2
  subst hz2
  obtain ⟨b',cs',E',fr',bs',hob1,hpt,hb',hfr',hr'⟩ := hA1
  cases hpt
  obtain ⟨d1,d2,rfl,hw2⟩ := z1or hr'
  have hn0 := hndc 0
  rw [hob1] at hn0
  have hc0 : ∀ k ∈ b :: (d2 ++ d1),(k ∈ b :: b2 \/ w.heap.size <= k) /\ S'' k = none /\ k ∉ o := fun k hk=>by
    obtain ⟨g1,g2,g3⟩ := hobc 0 k (by rw [hob1]; exact hk)
    refine ⟨?_,g2,g3⟩
    rcases g1 with ⟨j,hj⟩ | h
    . by_cases hj0 : j = 0
      . simp only [hj0,if_true] at hj; exact .inl hj
      . simp [hj0] at hj
    . exact .inr h
  have hT1 : Lift.Sub S'' (fun k=>if k ∈ d1 then hp w' k else S'' k) := by
    intro k q hk
    dsimp only
    rw [if_neg (fun hm=>by rw [(hc0 k (by simp [hm])).2.1] at hk; cases hk)]
    exact hk
  have hT2 : Lift.Sub (fun k=>if k ∈ d1 then hp w' k else S'' k) (hp w') := by
    intro k q hk
    dsimp only at hk
    split at hk
    . exact hk
    . exact hSw k q hk
  have hr3 := hw2 _ hT1 (fun k hk=>if_pos hk)
  have hin2 : ∀ k ∈ b :: b2, ∃ i,k ∈ ob i := fun k hk=>hin k ⟨0,by simpa using hk⟩
  have hin3 : ∀ k,k ∈ b :: (d2 ++ d1) -> (∃ i,k ∈ ob i) \/ w.heap.size <= k := fun k hk=>by
    rcases (hc0 k hk).1 with h | h
    . exact .inl (hin2 k h)
    . exact .inr h
  have hd3 : ∀ k ∈ b :: d2,k ∉ d1 := by
    intro k hk h1
    rw [List.nodup_cons,List.nodup_append] at hn0
    rcases List.mem_cons.1 hk with rfl | hk
    . exact hn0.1 (List.mem_append_right _ h1)
    . exact hn0.2.2.2 k hk k h1 rfl
  have ho0 : o = [] := hrr.1.2
  subst ho0
  refine ⟨v',fun k=>if k ∈ d1 then hp w' k else S'' k,[],fun i=>if i = 0 then b :: d2 else [],rfl,⟨hwf.size,fun k hk hn=>hwf.same k hk (fun h=>hn (hin k h)),hwf.tape,hwf.os,hwf.output⟩,(hS1.trans hSS).trans hT1,hT2,fun k hk => ?_,⟨⟨hrr.1.1.mono hT1,rfl⟩,rfl⟩,(fun k hk=>by cases hk),.nil,fun i z hi hbx => ?_,fun i k hk => ?_,fun i j k hi hj => ?_,fun i => ?_,fun i hi => ?_⟩
  . dsimp only at hk
    by_cases hkd : k ∈ d1
    . rcases hin3 k (List.mem_cons_of_mem _ (List.mem_append_right _ hkd)) with h | h
      . exact .inr (.inl h)
      . exact .inr (.inr h)
    . rw [if_neg hkd] at hk
      rcases hnew k hk with h | h | h
      . dsimp only at h
        by_cases hkb : k ∈ b1
        . exact .inr (.inl ⟨0,by rw [hob]; exact List.mem_cons_of_mem _ (List.mem_append_left _ hkb)⟩)
        . rw [if_neg hkb] at h; exact .inl h
      . exact .inr (.inl (hin k h))
      . exact .inr (.inr h)
  . match i with
    | 0=>exact ⟨_,_,rfl,rfl,rfl,b,cs',E',fr',d2,rfl,rfl,hb',hfr',hr3⟩
    | i + 1=>simp [mkS,zcu] at hi
  . by_cases hi0 : i = 0
    . simp only [hi0,if_true] at hk
      have hk' : k ∈ b :: (d2 ++ d1) := by
        simp only [List.mem_cons,List.mem_append] at hk ⊢
        rcases hk with h | h
        . exact .inl h
        . exact .inr (.inl h)
      exact ⟨hin3 k hk',by dsimp only; rw [if_neg (hd3 k hk)]; exact (hc0 k hk').2.1,by simp⟩
    . simp [hi0] at hk
  . by_cases hi0 : i = 0 <;> by_cases hj0 : j = 0 <;> simp_all
  . by_cases hi0 : i = 0
    . simp only [hi0,if_true]
      rw [List.nodup_cons,List.nodup_append] at hn0
      exact List.nodup_cons.2 ⟨fun h=>hn0.1 (List.mem_append_left _ h),hn0.2.1⟩
    . simp [hi0]
  . by_cases hi0 : i = 0
    . subst hi0
      rw [hob] at hi; cases hi
    . dsimp only; rw [if_neg hi0]
end
end Go.Proofs.YtgbcebmahbieoaaDoorLg
set_option linter.all false
set_option maxRecDepth 100000
namespace Go.Proofs.YtgbcebmahbieoaaDoorLg
noncomputable section
open Go Go.Lift
def zfu : Code := (Tryd.f45.body).getD .skip
def z12c : List (List Nat × List Nat) := [([0],[0,1]),([0,1],[0,4,1]),([0,0,1,1],[9,8,7,4,1]),([0,1,0,1,1],[9,8,7,4,1]),(zxn,[10,7,9,4,1,8]),(zts,[7,9,4,1,8]),(z123,[1]),(z124,[6,4,1,9,8,7]),(z12a,[22,1,6,9,8,7]),([1,0,1,0,0,1,1,0,0,1,0,1,1],[6,9,8,7,1]),([0,0,1,0,1,0,0,1,1,0,0,1,0,1,1],[3,1]),([1,0,1,0,1,0,0,1,1,0,0,1,0,1,1],[3,1]),(z14c,[9,8,7,4,1]),(z122,[9,8,7,4,1]),(z121,[9,8,7,4,1]),([1,0,1,1],[1]),([0,1,1,1],[3,1]),([1,1,1,1],[3,1])]
def zz9 (N:Nat) : Env := z1d tys glob [] [] [] [1] false [] [(76,za N)]
theorem z1bq (N:Nat) : EnvOk Tryd.prog (zz9 N) := zi mixed zn (FnsOk.nil) (ItsOk.cons (zb N) (ItsOk.nil))
def zg0 (N:Nat) (x1:z8z) (low:Int) (i:Int) (x7:(List Int)) (x8:Int) (x9:Int) (k0:Bool -> Option (Bool × (z8z × Unit))) : Option (Bool × (z8z × Unit)) :=
 cond (decide (i < low))
 (k0 true)
 (k0 (decide ((((List.length x1.1) : Nat) : Int) <= i)))
def z15c (N:Nat) (x:z13 z1cg) (K:Ex -> List A -> Option (Bool × (z8z × Unit))) : Option (Bool × (z8z × Unit)) :=
 zg0 N x.1 x.2.1 x.2.2.1 x.2.2.2.1 x.2.2.2.2.1 x.2.2.2.2.2.1 (fun a5=>(K .normal (mkS [(1,.box TT2),(4,.v (.int .i64)),(0,.v (.sl (.int .i64))),(0,.v (.int .i64)),(0,.v (.int .i64)),(12,.v .bool)] 3 (x.1,x.2.2.1,x.2.2.2.1,x.2.2.2.2.1,x.2.2.2.2.2.1,a5,()))))
def z14z (N:Nat) : Hd (Bool × (z8z × Unit)) := fun st K=>(unS z1cg 16 (restr [6,4,1,9,8,7] 0 st)).bind fun x=>z15c N x K
def z1dk (N:Nat) : Tab (Bool × (z8z × Unit)) := []
theorem z17c {N:Nat} {c:Ctx} (hb:Base Tryd.prog (zz9 N) c) : zj Tryd.prog c (zh zfu z12a) (z14z N) :=
  zl (s := z1cg) (m := 16) (g := z15c N) [6,4,1,9,8,7] (ze hb N (z1dk N) z12c zfu TabOk.nil z12a _ rfl) (fun x K=>by kernel_rfl)
def zg1 (N:Nat) (x1:z8z) (low:Int) (i:Int) (x7:(List Int)) (x8:Int) (x9:Int) (k0:Bool -> Option (Bool × (z8z × Unit))) (k1:Option (Bool × (z8z × Unit))) : Option (Bool × (z8z × Unit)) :=
 zg0 N x1 low i x7 x8 x9
 (fun x22=>cond x22
 (k0 false)
 (k1))
def z15g (N:Nat) (x:z13 z1cg) (K:Ex -> List A -> Option (Bool × (z8z × Unit))) : Option (Bool × (z8z × Unit)) :=
 zg1 N x.1 x.2.1 x.2.2.1 x.2.2.2.1 x.2.2.2.2.1 x.2.2.2.2.2.1 (fun a1=>(K .ret (mkS [(1,.box TT2),(1,.v .bool)] 22 (x.1,a1,())))) (K .normal (mkS [(1,.box TT2),(4,.v (.int .i64)),(0,.v (.sl (.int .i64))),(0,.v (.int .i64)),(0,.v (.int .i64))] 16 (x.1,x.2.2.1,x.2.2.2.1,x.2.2.2.2.1,x.2.2.2.2.2.1,())))
def z153 (N:Nat) : Hd (Bool × (z8z × Unit)) := fun st K=>(unS z1cg 16 (restr [6,4,1,9,8,7] 0 st)).bind fun x=>z15g N x K
def z1do (N:Nat) : Tab (Bool × (z8z × Unit)) := [(z12a,z14z N)]
theorem z17g {N:Nat} {c:Ctx} (hb:Base Tryd.prog (zz9 N) c) : zj Tryd.prog c (zh zfu z12j) (z153 N) :=
  zl (s := z1cg) (m := 16) (g := z15g N) [6,4,1,9,8,7] (ze hb N (z1do N) z12c zfu (TabOk.cons (z17c hb) TabOk.nil) z12j _ rfl) (fun x K=>by kernel_rfl)
def zfz (N:Nat) (x1:z8z) (x7:(List Int)) (x8:Int) (low:Int) (x9:Int) (rec:Int -> Int -> Option (Bool × (z8z × Unit))) (k0:Bool -> Option (Bool × (z8z × Unit))) (k1:Option (Bool × (z8z × Unit))) : Option (Bool × (z8z × Unit)) :=
 cond (decide (x9 < x8))
 (cond (inR x9 (List.length x7))
 (zg1 N x1 low (List.getD x7 (Int.toNat x9) (0 : Int)) x7 x8 x9
 (fun x3=>k0 x3)
 (rec (IntKind.wrap IntKind.i64 ((List.getD x7 (Int.toNat x9) (0 : Int)) + (1 : Int))) (IntKind.wrap IntKind.i64 (x9 + (1 : Int)))))
 (none))
 (k1)
def zmx (N:Nat) (x1:z8z) (low:Int) (x7:(List Int)) (x8:Int) (x9:Int) (k0:Bool -> Option (Bool × (z8z × Unit))) (k1:Option (Bool × (z8z × Unit))) : Option (Bool × (z8z × Unit)) :=
 iter (fun (v:(Int × Int)) r=>zfz N x1 x7 x8 v.1 v.2 (fun low x9=>(r (low,x9))) k0 k1) N (low,x9)
def z15k (N:Nat) (i:(z8z × (List Int) × Int)) (v:(Int × Int)) (r:(Int × Int) -> Option (Bool × (z8z × Unit))) (K:Ex -> List A -> Option (Bool × (z8z × Unit))) : Option (Bool × (z8z × Unit)) :=
 zfz N i.1 i.2.1 i.2.2 v.1 v.2 (fun low x9=>(r (low,x9))) (fun a1=>(K .ret (mkS [(1,.box TT2),(1,.v .bool)] 22 (i.1,a1,())))) (K (.exit 0) (mkS [(1,.box TT2)] 24 (i.1,())))
def z157 (N:Nat) : Hd (Bool × (z8z × Unit)) := fun st K=>(unS z1pb 16 (restr [9,8,7,4,1] 0 st)).bind fun x=>iter (fun v r=>z15k N ((fun x=>(x.1,x.2.2.1,x.2.2.2.1)) x) v r K) N ((fun x=>(x.2.1,x.2.2.2.2.1)) x)
def z1ds (N:Nat) : Tab (Bool × (z8z × Unit)) := [(z12j,z153 N)]
theorem z17k {N:Nat} {c:Ctx} (hb:Base Tryd.prog (zz9 N) c) : zj Tryd.prog c (zh zfu [0,1,0,1,1]) (z157 N) :=
  z18 (s := z1pb) (m := 16) (z15k N) [9,8,7,4,1] N (fun x=>(x.1,x.2.2.1,x.2.2.2.1)) (fun x=>(x.2.1,x.2.2.2.2.1)) (fun i v=>(i.1,v.1,i.2.1,i.2.2,v.2,())) (fun _=>rfl) (ze hb N (z1ds N) z12c zfu (TabOk.cons (z17g hb) TabOk.nil) [0,0,1,0,1,1] _ rfl) (fun i v r K=>by kernel_rfl)
def z89 (N:Nat) (l:(List Int)) (x1:z8z) : Option (Bool × (z8z × Unit)) :=
 zmx N x1 (0 : Int) l (((List.length l) : Nat) : Int) (0 : Int)
 (fun x3=>some (x3,(x1,())))
 (some (true,(x1,())))
def z1dg (N:Nat) : Tab (Bool × (z8z × Unit)) := [([0,1,0,1,1],z157 N)]
theorem z13i (N:Nat) (x:z13 [(0,.v (.sl (.int .i64))),(0,.box TT2)]) : z4l (zz9 N) N (z1dg N) z12c Tryd.f45 (mkS [(0,.v (.sl (.int .i64))),(0,.box TT2)] 0 x) (z35 (.v .bool) [(1,.box TT2)] 0) = z89 N x.1 x.2.1 := by kernel_rfl
def zdq (N:Nat) : List A -> Res := zz [(0,.v (.sl (.int .i64))),(0,.box TT2)] (fun x=>z89 N x.1 x.2.1) (z3p (.v .bool) [(1,.box TT2)] 0)
theorem zmy (N:Nat) : Contract Tryd.prog glob 45 (zdq N) :=
  Contract.of (E := zz9 N) (H := z1dg N) (L := z12c) (N := N) (body := zfu) (K := (z35 (.v .bool) [(1,.box TT2)] 0)) (z1bq N) Tryd.func45 (by kernel_rfl) (by decide) (fun _ hb=>(TabOk.cons (z17k hb) TabOk.nil)) (fun x y h=>by rw [z13i]; exact h) (z2e (s := (.v .bool)) (os := [(1,.box TT2)]) (m := 0))
def zft : Code := (Tryd.f23.body).getD .skip
def z12b : List (List Nat × List Nat) := [([0],[1]),([0,0,1],[18,1]),([1,0,1],[1]),([0,0,1,0,1],[2]),([1,0,1,0,1],[2]),([0,1,1],[1,3]),([0,0,1,1,1],[23,22,21,3,1]),([0,1,0,1,1,1],[23,22,21,3,1]),(zwb,[24,21,23,3,22,1]),(zzh,[21,23,3,22,1]),(zwe,[3,1]),(zz7,[3,5,23,22,21,1]),(z1ci,[30,23,22,21,3,1]),([1,1,0,0,1,1,0,0,1,0,1,1,1],[23,22,21,3,1]),(z1ba,[2]),([1,0,1,1,0,0,1,1,0,0,1,0,1,1,1],[2]),(zz3,[23,22,21,3,1]),(zz2,[23,22,21,3,1]),([1,0,1,1,1],[3,1]),([0,1,1,1,1],[2]),([1,1,1,1,1],[2])]
def zz8 (N:Nat) : Env := z1d tys glob [(45,zdq N)] [(3,.unit)] [] [] false [] [(76,za N)]
theorem z1bp (N:Nat) : EnvOk Tryd.prog (zz8 N) := zi mixed zn (FnsOk.cons (zmy N) (FnsOk.nil)) (ItsOk.cons (zb N) (ItsOk.nil))
def zix (N:Nat) (p:z8z) (k0:Bool -> Option Bool) : Option Bool :=
 cond ((((List.length p.2.2.2.2.1) : Nat) : Int) != (((List.length p.1) : Nat) : Int))
 (k0 true)
 (k0 (decide ((512 : Int) < (((List.length p.1) : Nat) : Int))))
def z15f (N:Nat) (x:z13 [(1,.box TT2)]) (K:Ex -> List A -> Option Bool) : Option Bool :=
 zix N x.1 (fun a1=>(K .normal (mkS [(1,.box TT2),(16,.v .bool)] 23 (x.1,a1,()))))
def z152 (N:Nat) : Hd Bool := fun st K=>(unS [(1,.box TT2)] 40 (restr [1] 0 st)).bind fun x=>z15f N x K
def z1dn (N:Nat) : Tab Bool := []
theorem z17f {N:Nat} {c:Ctx} (hb:Base Tryd.prog (zz8 N) c) : zj Tryd.prog c (zh zft [0,0,1]) (z152 N) :=
  zl (s := [(1,.box TT2)]) (m := 40) (g := z15f N) [1] (ze hb N (z1dn N) z12b zft TabOk.nil [0,0,1] _ rfl) (fun x K=>by kernel_rfl)
def ziy (N:Nat) (p:z8z) (k0:Bool -> Option Bool) (k1:Option Bool) : Option Bool :=
 zix N p
 (fun x18=>cond x18
 (k0 false)
 (k1))
def z15j (N:Nat) (x:z13 [(1,.box TT2)]) (K:Ex -> List A -> Option Bool) : Option Bool :=
 ziy N x.1 (fun a0=>(K .ret (mkS [(2,.v .bool)] 39 (a0,())))) (K .normal (mkS [(1,.box TT2)] 40 (x.1,())))
def z156 (N:Nat) : Hd Bool := fun st K=>(unS [(1,.box TT2)] 40 (restr [1] 0 st)).bind fun x=>z15j N x K
def z1dr (N:Nat) : Tab Bool := [([0,0,1],z152 N)]
theorem z17j {N:Nat} {c:Ctx} (hb:Base Tryd.prog (zz8 N) c) : zj Tryd.prog c (zh zft [0,1]) (z156 N) :=
  zl (s := [(1,.box TT2)]) (m := 40) (g := z15j N) [1] (ze hb N (z1dr N) z12b zft (TabOk.cons (z17f hb) TabOk.nil) [0,1] _ rfl) (fun x K=>by kernel_rfl)
def ziw (N:Nat) (x21:(List (List Int))) (x22:Int) (p:z8z) (x23:Int) (rec:z8z -> Int -> Option Bool) (k0:Bool -> Option Bool) (k1:z8z -> Option Bool) : Option Bool :=
 cond (decide (x23 < x22))
 (cond (inR x23 (List.length x21))
 ((z89 N (List.getD x21 (Int.toNat x23) ([] : List Int)) p).bind fun y =>
 cond (!y.1)
 (k0 false)
 (rec y.2.1 (IntKind.wrap IntKind.i64 (x23 + (1 : Int)))))
 (none))
 (k1 p)
def zpp (N:Nat) (p:z8z) (x21:(List (List Int))) (x22:Int) (x23:Int) (k0:Bool -> Option Bool) (k1:z8z -> Option Bool) : Option Bool :=
 iter (fun (v:(z8z × Int)) r=>ziw N x21 x22 v.1 v.2 (fun p x23=>(r (p,x23))) k0 k1) N (p,x23)
def z15b (N:Nat) (i:((List (List Int)) × Int)) (v:(z8z × Int)) (r:(z8z × Int) -> Option Bool) (K:Ex -> List A -> Option Bool) : Option Bool :=
 ziw N i.1 i.2 v.1 v.2 (fun p x23=>(r (p,x23))) (fun a0=>(K .ret (mkS [(2,.v .bool)] 39 (a0,())))) (fun a0=>(K (.exit 0) (mkS [(1,.box TT2),(1,.clo 45 [1])] 38 (a0,(),()))))
def z14y (N:Nat) : Hd Bool := fun st K=>(unS [(1,.box TT2),(1,.clo 45 [1]),(17,.v (.sl (.sl (.int .i64)))),(0,.v (.int .i64)),(0,.v (.int .i64))] 18 (restr [23,22,21,3,1] 0 st)).bind fun x=>iter (fun v r=>z15b N ((fun x=>(x.2.2.1,x.2.2.2.1)) x) v r K) N ((fun x=>(x.1,x.2.2.2.2.1)) x)
def z1dj (N:Nat) : Tab Bool := []
theorem z17b {N:Nat} {c:Ctx} (hb:Base Tryd.prog (zz8 N) c) : zj Tryd.prog c (zh zft [0,1,0,1,1,1]) (z14y N) :=
  z18 (s := [(1,.box TT2),(1,.clo 45 [1]),(17,.v (.sl (.sl (.int .i64)))),(0,.v (.int .i64)),(0,.v (.int .i64))]) (m := 18) (z15b N) [23,22,21,3,1] N (fun x=>(x.2.2.1,x.2.2.2.1)) (fun x=>(x.1,x.2.2.2.2.1)) (fun i v=>(v.1,(),i.1,i.2,v.2,())) (fun _=>rfl) (ze hb N (z1dj N) z12b zft TabOk.nil ztr _ rfl) (fun i v r K=>by kernel_rfl)
def zjd (N:Nat) (p:z8z) : Option Bool :=
 ziy N p
 (fun x2=>some x2)
 (zpp N p p.2.2.2.2.1 (((List.length p.2.2.2.2.1) : Nat) : Int) (0 : Int)
 (fun x21=>some x21)
 (fun p1=>(z89 N p1.2.2.1 p1).bind fun y =>
 cond y.1
 ((z89 N y.2.1.2.2.2.1 y.2.1).bind fun y1 =>
 some y1.1)
 (some false)))
def z1df (N:Nat) : Tab Bool := [([0,1],z156 N),([0,1,0,1,1,1],z14y N)]
theorem z13h (N:Nat) (x:z13 [(0,.v TT2)]) : z4l (zz8 N) N (z1df N) z12b Tryd.f23 (mkS [(0,.v TT2)] 0 x) (z2v (.v .bool) 1) = zjd N x.1 := by kernel_rfl
def zgp (N:Nat) : List A -> Res := zz [(0,.v TT2)] (fun x=>zjd N x.1) (z70 (.v .bool) 1)
theorem zpq (N:Nat) : Contract Tryd.prog glob 23 (zgp N) :=
  Contract.of (E := zz8 N) (H := z1df N) (L := z12b) (N := N) (body := zft) (K := (z2v (.v .bool) 1)) (z1bp N) Tryd.func23 (by kernel_rfl) (by decide) (fun _ hb=>(TabOk.cons (z17j hb) (TabOk.cons (z17b hb) TabOk.nil))) (fun x y h=>by rw [z13h]; exact h) (z16 (s := (.v .bool)) (m := 1))
def z13x : Code := (Tryd.f14.body).getD .skip
def z1pr : List (List Nat × List Nat) := [([0],[1,2]),([0,0,1],[7,2,1]),([1,0,1],[1,2]),([0,0,1,0,1],[2,3]),([1,0,1,0,1],[2,3]),([0,1,1],[4,2]),([0,0,1,1,1],[13,2,4]),([1,0,1,1,1],[4,2]),(ztr,[2,3]),(ztt,[2,3]),([0,1,1,1,1],[2,3]),([1,1,1,1,1],[2,3])]
def z1c0 (N:Nat) : Env := z1d tys glob [(23,zgp N),(24,zd7 N),(25,zqz N)] [] [] [] false [(4,zxl),(10,(.nb .unit))] [(76,za N)]
theorem z1bo (N:Nat) : EnvOk Tryd.prog (z1c0 N) := zi mixed zn (FnsOk.cons (zpq N) (FnsOk.cons (zlz N) (FnsOk.cons (z11q N) (FnsOk.nil)))) (ItsOk.cons (zb N) (ItsOk.nil))
def z11e (N:Nat) (p:z8z) : Option (DT8 × Int × Unit) :=
 (zjd N p).bind fun y =>
 cond (!y)
 (some (((0 : Int),(([] : List Bool),(([] : List Int),(([] : List (List Int)),())))),((7 : Int),())))
 ((zdj N p).bind fun y1 =>
 cond (Option.isSome y1)
 ((z69 N (Option.getD y1 (([] : List Int),(([] : List Int),(([] : List (List Int)),(([] : List (List Int)),((Option.none),(([] : List (List Int)),(((0 : Int),(([] : List Bool),(([] : List Int),(([] : List (List Int)),())))),()))))))))).bind fun y2 =>
 cond (!y2.1)
 (some (((0 : Int),(([] : List Bool),(([] : List Int),(([] : List (List Int)),())))),((16 : Int),())))
 (some (y2.2.1.2.2.2.2.2.2.1,((0 : Int),()))))
 (none))
def z1de (N:Nat) : Tab (DT8 × Int × Unit) := []
theorem z13g (N:Nat) (x:z13 [(0,.v TT2)]) : z4l (z1c0 N) N (z1de N) z1pr Tryd.f14 (mkS [(0,.v TT2)] 0 x) (z2v (.tup [TT6,(.int .i64)]) 1) = z11e N x.1 := by kernel_rfl
def zqw (N:Nat) : List A -> Res := zz [(0,.v TT2)] (fun x=>z11e N x.1) (z70 (.tup [TT6,(.int .i64)]) 1)
theorem z11d (N:Nat) : Contract Tryd.prog glob 14 (zqw N) :=
  Contract.of (E := z1c0 N) (H := z1de N) (L := z1pr) (N := N) (body := z13x) (K := (z2v (.tup [TT6,(.int .i64)]) 1)) (z1bo N) Tryd.func14 (by kernel_rfl) (by decide) (fun _ hb=>TabOk.nil) (fun x y h=>by rw [z13g]; exact h) (z16 (s := (.tup [TT6,(.int .i64)])) (m := 1))
def z13w : Code := (Tryd.f6.body).getD .skip
def z1pq : List (List Nat × List Nat) := [([0],[]),([0,1],[1,2]),([0,1,1],[3,2,4]),([0,1,1,1],[2,4,6,5]),([0,1,1,1,1],[2,4,6,5,8,7]),([0,1,1,1,1,1],[0]),([1,1,1,1,1,1],[0])]
def z1bz (N:Nat) : Env := z1d tys glob [(14,zqw N),(11,zjv N),(17,zh1 N),(18,zm5 N),(19,zml N)] [] [] [] false [] [(76,za N)]
theorem z1bn (N:Nat) : EnvOk Tryd.prog (z1bz N) := zi mixed zn (FnsOk.cons (z11d N) (FnsOk.cons (zqv N) (FnsOk.cons (zpu N) (FnsOk.cons (zu1 N) (FnsOk.cons (zuv N) (FnsOk.nil)))))) (ItsOk.cons (zb N) (ItsOk.nil))
def z3g (N:Nat) : Option Bool :=
 (zf2 N ([(97 : UInt8),(42 : UInt8)] : List UInt8)).bind fun y =>
 (zr7 N y.1).bind fun y1 =>
 (z11e N y1.1).bind fun y2 =>
 (zru N ([(97 : UInt8),(98 : UInt8)] : List UInt8)).bind fun y3 =>
 cond (eqD (T.pair (T.int IntKind.i64) (T.pair (T.int IntKind.i64) T.unit)) y.2.1 ((0 : Int),((0 : Int),())))
 (cond (y1.2.1 == (0 : Int))
 (cond (y2.2.1 == (0 : Int))
 (cond ((((List.length y2.1.2.2.2.1) : Nat) : Int) == (3 : Int))
 ((zfh N y2.1 ([(97 : UInt8),(97 : UInt8)] : List UInt8)).bind fun y4 =>
 cond y4
 ((zfh N y2.1 ([(97 : UInt8),(98 : UInt8)] : List UInt8)).bind fun y5 =>
 cond (!y5)
 ((zfh N y2.1 ([] : List UInt8)).bind fun y6 =>
 cond y6
 (cond (y3.2.1 == (0 : Int))
 ((zfh N y3.1 ([(97 : UInt8),(98 : UInt8)] : List UInt8)).bind fun y7 =>
 cond y7
 ((zfh N y3.1 ([(97 : UInt8)] : List UInt8)).bind fun y8 =>
 some (!y8))
 (some false))
 (some false))
 (some false))
 (some false))
 (some false))
 (some false))
 (some false))
 (some false))
 (some false)
def z1dd (N:Nat) : Tab Bool := []
theorem z13f (N:Nat) (x:z13 []) : z4l (z1bz N) N (z1dd N) z1pq Tryd.f6 (mkS [] 0 x) (z2v (.v .bool) 0) = z3g N := by kernel_rfl
def za6 (N:Nat) : List A -> Res := zz [] (fun x=>z3g N) (z70 (.v .bool) 0)
theorem zik (N:Nat) : Contract Tryd.prog glob 6 (za6 N) :=
  Contract.of (E := z1bz N) (H := z1dd N) (L := z1pq) (N := N) (body := z13w) (K := (z2v (.v .bool) 0)) (z1bn N) Tryd.func6 (by kernel_rfl) (by decide) (fun _ hb=>TabOk.nil) (fun x y h=>by rw [z13f]; exact h) (z16 (s := (.v .bool)) (m := 0))
def zkz : Code := (Tryd.f3.body).getD .skip
def z14g : List (List Nat × List Nat) := [([0],[2,1]),([0,0,1],[11,2,1]),([1,0,1],[2,1]),([0,0,1,0,1],[4]),([1,0,1,0,1],[4]),([0,1,1],[4]),([1,1,1],[4])]
def z12e (N:Nat) : Env := z1d tys glob [(6,za6 N),(5,za7 N),(7,zfi N),(8,z60 N),(9,zfg N),(10,z5z N),(11,zjv N),(12,zca N)] [] [] [] false [] [(76,za N)]
theorem z1bm (N:Nat) : EnvOk Tryd.prog (z12e N) := zi mixed zn (FnsOk.cons (zik N) (FnsOk.cons (zil N) (FnsOk.cons (zmq N) (FnsOk.cons (zb4 N) (FnsOk.cons (zmn N) (FnsOk.cons (zb1 N) (FnsOk.cons (zqv N) (FnsOk.cons (zkg N) (FnsOk.nil))))))))) (ItsOk.cons (zb N) (ItsOk.nil))
def z5d (N:Nat) (s:(List UInt8)) (d:DT8) (k0:Bool -> Option Bool) : Option Bool :=
 (z4j N d).bind fun y =>
 cond y
 (k0 true)
 (k0 (decide ((60 : Int) < (((List.length s) : Nat) : Int))))
def z15e (N:Nat) (x:z13 zw3) (K:Ex -> List A -> Option Bool) : Option Bool :=
 z5d N x.1 x.2.1 (fun a2=>(K .normal (mkS [(1,.v .str),(0,.box TT6),(8,.v .bool)] 27 (x.1,x.2.1,a2,()))))
def z151 (N:Nat) : Hd Bool := fun st K=>(unS zw3 36 (restr [2,1] 0 st)).bind fun x=>z15e N x K
def z1dm (N:Nat) : Tab Bool := []
theorem z17e {N:Nat} {c:Ctx} (hb:Base Tryd.prog (z12e N) c) : zj Tryd.prog c (zh zkz [0,0,1]) (z151 N) :=
  zl (s := zw3) (m := 36) (g := z15e N) [2,1] (ze hb N (z1dm N) z14g zkz TabOk.nil [0,0,1] _ rfl) (fun x K=>by kernel_rfl)
def z5e (N:Nat) (s:(List UInt8)) (d:DT8) (k0:Bool -> Option Bool) (k1:Option Bool) : Option Bool :=
 z5d N s d
 (fun x11=>cond x11
 ((z3g N).bind fun y =>
 k0 y)
 (k1))
def z15i (N:Nat) (x:z13 zw3) (K:Ex -> List A -> Option Bool) : Option Bool :=
 z5e N x.1 x.2.1 (fun a0=>(K .ret (mkS [(4,.v .bool)] 34 (a0,())))) (K .normal (mkS zw3 36 (x.1,x.2.1,())))
def z155 (N:Nat) : Hd Bool := fun st K=>(unS zw3 36 (restr [2,1] 0 st)).bind fun x=>z15i N x K
def z1dq (N:Nat) : Tab Bool := [([0,0,1],z151 N)]
theorem z17i {N:Nat} {c:Ctx} (hb:Base Tryd.prog (z12e N) c) : zj Tryd.prog c (zh zkz [0,1]) (z155 N) :=
  zl (s := zw3) (m := 36) (g := z15i N) [2,1] (ze hb N (z1dq N) z14g zkz (TabOk.cons (z17e hb) TabOk.nil) [0,1] _ rfl) (fun x K=>by kernel_rfl)
def z2p (N:Nat) (d:DT8) (s:(List UInt8)) : Option Bool :=
 z5e N s d
 (fun x4=>some x4)
 ((zec N d).bind fun y =>
 (z3f N d).bind fun y1 =>
 cond (y == y1)
 ((zeb N d s).bind fun y2 =>
 (z3e N d s).bind fun y3 =>
 cond (y2 == y3)
 ((zfh N d s).bind fun y4 =>
 (z8o N d s).bind fun y5 =>
 cond (y4 == y5)
 ((z3g N).bind fun y6 =>
 some y6)
 (some false))
 (some false))
 (some false))
def z1dc (N:Nat) : Tab Bool := [([0,1],z155 N)]
theorem z13e (N:Nat) (x:z13 zw1) : z4l (z12e N) N (z1dc N) z14g Tryd.f3 (mkS zw1 0 x) (z2v (.v .bool) 2) = z2p N x.1 x.2.1 := by kernel_rfl
def zf3 (N:Nat) : List A -> Res := zz zw1 (fun x=>z2p N x.1 x.2.1) (z70 (.v .bool) 2)
theorem zgh (N:Nat) : Contract Tryd.prog glob 3 (zf3 N) :=
  Contract.of (E := z12e N) (H := z1dc N) (L := z14g) (N := N) (body := zkz) (K := (z2v (.v .bool) 2)) (z1bm N) Tryd.func3 (by kernel_rfl) (by decide) (fun _ hb=>(TabOk.cons (z17i hb) TabOk.nil)) (fun x y h=>by rw [z13e]; exact h) (z16 (s := (.v .bool)) (m := 2))
end
end Go.Proofs.YtgbcebmahbieoaaDoorLg
set_option linter.all false
set_option maxRecDepth 100000
namespace Go.Proofs.YtgbcebmahbieoaaDoorLg
noncomputable section
open Go Go.Lift
theorem zxp (k:Nat) : z3g (k + 400) = some true := by kernel_rfl
end
end Go.Proofs.YtgbcebmahbieoaaDoorLg
set_option linter.all false
set_option maxRecDepth 100000
namespace Go.Proofs.YtgbcebmahbieoaaDoorLg
noncomputable section
open Go Go.Lift Go.Proofs.YtgbcebmahbieoaaDoorPx
theorem z13n (N:Nat) (d:DfT) (hN : 302 <= N) (hN2:N <= 100000) : ∃ b,z4j N d = some b /\ (b = false -> SmD d N) := by
  unfold z4j z6y z6x
  by_cases h1 : 60 < d.2.2.2.1.length
  . rw [z4r (p := (60 : Int) < ((d.2.2.2.1.length : Nat) : Int)) (by omega)]
    exact ⟨true,rfl,fun h=>by cases h⟩
  rw [z4m (p := (60 : Int) < ((d.2.2.2.1.length : Nat) : Int)) (by omega)]
  by_cases h2 : 60 < d.2.1.length
  . rw [z4r (p := (60 : Int) < ((d.2.1.length : Nat) : Int)) (by omega)]
    exact ⟨true,rfl,fun h=>by cases h⟩
  rw [z4m (p := (60 : Int) < ((d.2.1.length : Nat) : Int)) (by omega)]
  by_cases h3 : 300 < d.2.2.1.length
  . rw [z4r (p := (300 : Int) < ((d.2.2.1.length : Nat) : Int)) (by omega)]
    exact ⟨true,rfl,fun h=>by cases h⟩
  rw [z4m (p := (300 : Int) < ((d.2.2.1.length : Nat) : Int)) (by omega)]
  simp only [cond_false]
  unfold zb7
  rw [zzw (bad := fun i=>decide (260 < (d.2.2.2.1.getD i []).length)) (n := d.2.2.2.1.length) (F := some true) (T := some false) ?_ ?_ (by omega)]
  . cases hb : (List.range d.2.2.2.1.length).any fun i=>decide (260 < (d.2.2.2.1.getD i []).length)
    . refine ⟨false,rfl,fun _=>⟨by omega,fun i => ?_,by omega,hN,hN2⟩⟩
      by_cases hi : i < d.2.2.2.1.length
      . rw [List.any_eq_false] at hb
        have := hb i (List.mem_range.2 hi)
        have := of_decide_eq_false (Bool.eq_false_iff.2 this)
        omega
      . rw [List.getD_eq_getElem?_getD,List.getElem?_eq_none (by omega)]
        show 0 < N
        omega
    . exact ⟨true,rfl,fun h=>by cases h⟩
  . intro i r hi
    unfold z4g
    rw [z4r (p := (i:Int) < ((d.2.2.2.1.length : Nat) : Int)) (by omega),z3m hi,Int.toNat_natCast,z5n (i := i) (by omega)]
    simp only [cond_true]
    by_cases h : 260 < (d.2.2.2.1.getD i []).length
    . rw [z4r (p := (260 : Int) < (((d.2.2.2.1.getD i []).length : Nat) : Int)) (by omega),z4r h]
    . rw [z4m (p := (260 : Int) < (((d.2.2.2.1.getD i []).length : Nat) : Int)) (by omega),z4m h]
  . intro r
    unfold z4g
    rw [z4m (by omega)]; rfl
theorem z12w (d:DfT) (s:List UInt8) : z2p 700 d s = some true := by
  have hw : z3g 700 = some true := zxp 300
  obtain ⟨b,hb,hd⟩ := z13n 700 d (by omega) (by omega)
  rw [z2p,z5e,z5d,hb,hw]
  simp only [Option.bind_some]
  cases b
  case true=>rfl
  have h := hd rfl
  by_cases hs : 60 < s.length
  . rw [z4r (p := (60 : Int) < ((s.length : Nat) : Int)) (by omega)]; rfl
  rw [z4m (p := (60 : Int) < ((s.length : Nat) : Int)) (by omega),zox d h,zkf d h,zow d s h (by omega),zo5 d s h (by omega),z11f d s h (by omega),z108 d s h (by omega)]
  simp only [Option.bind_some,beq_self_eq_true,cond_true,cond_false]
end
end Go.Proofs.YtgbcebmahbieoaaDoorLg
