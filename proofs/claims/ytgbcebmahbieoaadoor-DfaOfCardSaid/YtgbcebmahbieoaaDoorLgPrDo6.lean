import Derived.Test.YtgbcebmahbieoaaDoorLgPrDo2
import Derived.Test.YtgbcebmahbieoaaDoorLgPn
import Derived.Test.YtgbcebmahbieoaaDoorLgPrDo3
import Derived.WalkKit
import Derived.Tactics
import Derived.Tactics2
import Derived.Defers
import Derived.Lib.Hide
import Derived.Below
import Derived.Recover
import Derived.Orders
import Derived.WalkSmall
import Derived.LoopN
import Derived.Test.YtgbcebmahbieoaaDoorChecked
import Derived.KernelRfl
import Derived.Test.YtgbcebmahbieoaaDoorLgPrDo5
import Derived.Deep.RegionHeld3
import Derived.Deep.Cut
import Derived.Deep.OwnRows
import Derived.Deep.LoopGhost
import Derived.Deep.Light
import Derived.Deep.CutRange
import Derived.Laws.Rows
set_option linter.all false
set_option maxRecDepth 100000
namespace Go.Proofs.YtgbcebmahbieoaaDoorLg
noncomputable section
open Go Go.Lift
abbrev PrsT:T:=.pair .str TT1
theorem fail_walk {w:World}{v:Value}{e at_:Int} :
 Calls Tryd.prog 37 #[v,.int .i64 e,.int .i64 at_] w fun r w'=>r=.panicked [{ v:=.iface 48 (.agg #[.int .i64 e,.int .i64 at_]),recovered:=false }]/\w'=w:=by
 go_enter Tryd.func37,Tryd.ntmps37
 go_wp2
 exact⟨rfl,rfl,rfl⟩
def zy (N:Nat):List A->PnRes:=zk1 [(0,.box (.pair .str TT1)),(0,.v (.int .i64)),(0,.v (.int .i64))] (fun x=>some ((x.2.1,(x.2.2.1,())):Int×(Int×Unit))) (fun z=>⟨.pair (.int .i64) (.pair (.int .i64) .unit),z⟩)
theorem z16 (N:Nat):ContractP Tryd.prog glob 37 48 (zy N):=by
 refine ContractP.hand ⟨_,Tryd.func37,by kernel_rfl,by decide⟩ ?_;intro w S vals ob x y har hS hg hy;obtain⟨x,n,m,u⟩:=x;cases u;obtain⟨⟨v0,hv0,hA0⟩,_⟩:=har.rel 0 _ rfl;obtain⟨⟨v1,hv1,hA1⟩,_⟩:=har.rel 1 _ rfl;obtain⟨⟨v2,hv2,hA2⟩,_⟩:=har.rel 2 _ rfl;have hlen:=har.len;have hvals:vals=[v0,v1,v2]:=by
  match vals,hlen with
  | [a,b,c],_=>cases hv0;cases hv1;cases hv2;rfl
 have e1:=VR.int_inv hA1.1;have e2:=VR.int_inv hA2.1;subst e1;subst e2;subst hvals;cases hy;refine fail_walk.mono ?_;rintro r w' ⟨rfl,rfl⟩;exact⟨rfl,WF.refl _ _,hS⟩
def z11d:Code:=(Tryd.f95.body).getD .skip
def L_88:List (List Nat×List Nat):=[([0],[0]),([0,0,1],[12,0]),([1,0,1],[0]),([0,1,0,1],[0]),([0,1,1],[2,0]),([1,1,1],[2,0])]
def E_88 (N:Nat):Env:=z1c tys glob [] [] [] [0] false [] []
theorem z235 (N:Nat):EnvOk Tryd.prog (E_88 N):=zi mixed zn (FnsOk.nil) (ItsOk.nil)
def z3v (N:Nat):PnT:=pnT [(37,48,zy N)]
theorem z8y (N:Nat):PnOk Tryd.prog glob (z3v N):=PnOk.cons (z16 N) (PnOk.nil)
def z9q (N:Nat)(p:DT5)(k0:(Int×(Int×Unit))->Option (Int×(Int×Unit)))(k1:Option (Int×(Int×Unit))):Option (Int×(Int×Unit)) :=
 cond (p.2.1 == (((List.length p.1):Nat):Int))
 (k0 ((1:Int),(p.2.1,())))
 (k1)
def z1zw (N:Nat)(x:z15 SQ0)(K:ExP->List A->Option (Int×(Int×Unit))):Option (Int×(Int×Unit)) :=
 z9q N x.1 (fun a0=>(K (.pan 48) (mkS [(0,.v TT1)] 0 (a0,())))) (K .normal (mkS SQ0 27 (x.1,())))
def z1vr (N:Nat):HdP (Int×(Int×Unit)):=fun st K=>(unS SQ0 27 (restr [0] 0 st)).bind fun x=>z1zw N x K
def t1_88 (N:Nat):ze6 (Int×(Int×Unit)):=[]
theorem z1r2 {N:Nat}{c:Ctx}(hb:Base Tryd.prog (E_88 N) c)(hP:PnOk Tryd.prog glob (z3v N)):z22 Tryd.prog c (zh z11d [0,1]) (z1vr N) :=
 z26 (s:=SQ0) (m:=27) (g:=z1zw N) [0] (z1p hb hP N (t1_88 N) L_88 z11d TabOkP.nil [0,1] _ rfl) (fun x K=>by kernel_rfl)
def z24 (N:Nat)(p:DT5):Option (Int×(Int×Unit)) :=
 z9q N p
 (fun p1=>some p1)
 (cond (inR p.2.1 (List.length p.1))
 (none)
 (none))
def t_88 (N:Nat):ze6 (Int×(Int×Unit)):=[([0,1],z1vr N)]
theorem z1ho (N:Nat)(x:z15 SQ0):zk2 (E_88 N) (z3v N) N (t_88 N) L_88 Tryd.f95 48 TT1 (mkS SQ0 0 x) (fun z=>some z)=z24 N x.1:=by kernel_rfl
def z1w (N:Nat):List A->PnRes:=zk1 SQ0 (fun x=>z24 N x.1) (fun z=>⟨TT1,z⟩)
theorem z2p (N:Nat):ContractP Tryd.prog glob 95 48 (z1w N) :=
 ContractP.of (E:=E_88 N) (Pn:=z3v N) (H:=t_88 N) (L:=L_88) (N:=N) (body:=z11d) (t:=TT1) (z235 N) (z8y N) Tryd.func95 (by kernel_rfl) (by decide) (fun _ hb=>(TabOkP.cons (z1r2 hb (z8y N)) TabOkP.nil)) (fun x y h=>by rw[z1ho];exact h)
def z11c:Code:=(Tryd.f89.body).getD .skip
def L_89:List (List Nat×List Nat):=[([0,0],[7,0]),([1,0],[0]),([0,1,0],[0]),([1],[0])]
def E_89 (N:Nat):Env:=z1c tys glob [(95,z18 N)] [] [] [0] false [] []
theorem z234 (N:Nat):EnvOk Tryd.prog (E_89 N):=zi mixed zn (FnsOk.cons (z1h N) (FnsOk.nil)) (ItsOk.nil)
def z3w (N:Nat):PnT:=pnT [(95,48,z1w N),(37,48,zy N)]
theorem z8z (N:Nat):PnOk Tryd.prog glob (z3w N):=PnOk.cons (z2p N) (PnOk.cons (z16 N) (PnOk.nil))
def z9r (N:Nat)(p:DT5)(b:Int)(k0:(Int×(Int×Unit))->Option (Int×(Int×Unit)))(k1:DT5->Option (Int×(Int×Unit))):Option (Int×(Int×Unit)) :=
 orP ((z24 N p)) (fun z=>k0 z)
 ((z1j N p).bind fun y =>
 cond (y.1 != b)
 (k0 ((2:Int),(y.2.1.2.1,())))
 (k1 y.2.1))
def z1zv (N:Nat)(x:z15 zuf)(K:ExP->List A->Option (Int×(Int×Unit))):Option (Int×(Int×Unit)) :=
 z9r N x.1 x.2.1 (fun a0=>(K (.pan 48) (mkS [(0,.v TT1)] 0 (a0,())))) (fun a0=>(K .normal (mkS SQ0 20 (a0,()))))
def z1vq (N:Nat):HdP (Int×(Int×Unit)):=fun st K=>(unS zuf 19 (restr [0,1] 0 st)).bind fun x=>z1zv N x K
def t1_89 (N:Nat):ze6 (Int×(Int×Unit)):=[]
theorem z1r1 {N:Nat}{c:Ctx}(hb:Base Tryd.prog (E_89 N) c)(hP:PnOk Tryd.prog glob (z3w N)):z22 Tryd.prog c (zh z11c [0]) (z1vq N) :=
 z26 (s:=zuf) (m:=19) (g:=z1zv N) [0,1] (z1p hb hP N (t1_89 N) L_89 z11c TabOkP.nil [0] _ rfl) (fun x K=>by kernel_rfl)
def z25 (N:Nat)(p:DT5)(b:Int):Option (Int×(Int×Unit)) :=
 z9r N p b
 (fun p1=>some p1)
 (fun p2=>none)
def t_89 (N:Nat):ze6 (Int×(Int×Unit)):=[([0],z1vq N)]
theorem z1hn (N:Nat)(x:z15 zuf):zk2 (E_89 N) (z3w N) N (t_89 N) L_89 Tryd.f89 48 TT1 (mkS zuf 0 x) (fun z=>some z)=z25 N x.1 x.2.1:=by kernel_rfl
def z2g (N:Nat):List A->PnRes:=zk1 zuf (fun x=>z25 N x.1 x.2.1) (fun z=>⟨TT1,z⟩)
theorem z3j (N:Nat):ContractP Tryd.prog glob 89 48 (z2g N) :=
 ContractP.of (E:=E_89 N) (Pn:=z3w N) (H:=t_89 N) (L:=L_89) (N:=N) (body:=z11c) (t:=TT1) (z234 N) (z8z N) Tryd.func89 (by kernel_rfl) (by decide) (fun _ hb=>(TabOkP.cons (z1r1 hb (z8z N)) TabOkP.nil)) (fun x y h=>by rw[z1hn];exact h)
def zc5:Code:=(Tryd.f88.body).getD .skip
def z1ff:List (List Nat×List Nat):=[([0],[0]),([0,1],[0,3]),([0,0,1,1],[12,0,3]),([1,0,1,1],[0,3]),([0,1,0,1,1],[0,3]),([0,1,1,1],[0,4,3]),([0,0,1,1,1,1],[0,4,3]),(z1ab,[37,4,0,3]),(z1aa,[4,0,3]),(z1ad,[0,3,4]),([0,0,1,0,0,0,1,1,1,1],[0,4,3]),([1,0,1,0,0,0,1,1,1,1],[0,4,3]),(z1a7,[0,4,3]),([0,1,1,1,1],[0,3,4]),(ztw,[75,0,3,4]),(zug,[4,0,3]),(zx5,[4,0,3]),([0,0,1,1,1,1,1,1],[80,0,3,4]),([1,0,1,1,1,1,1,1],[4,0]),(z1a9,[4,0]),(z16u,[2,0]),(zzf,[2,0])]
def z1dp (N:Nat):Env:=z1c tys glob [(95,z18 N),(99,z7j N)] [] [] [0] false [] []
theorem z233 (N:Nat):EnvOk Tryd.prog (z1dp N):=zi mixed zn (FnsOk.cons (z1h N) (FnsOk.cons (zc8 N) (FnsOk.nil))) (ItsOk.nil)
def z1g (N:Nat):PnT:=pnT [(95,48,z1w N),(37,48,zy N)]
theorem z3i (N:Nat):PnOk Tryd.prog glob (z1g N):=PnOk.cons (z2p N) (PnOk.cons (z16 N) (PnOk.nil))
def zah (N:Nat)(p:DT5)(from_:Int)(k0:(Int×(Int×Unit))->Option (Int×(Int×Unit)))(k1:DT5->Option (Int×(Int×Unit))):Option (Int×(Int×Unit)) :=
 orP ((z24 N p)) (fun z=>k0 z)
 ((z1j N p).bind fun y =>
 (z7k N y.1).bind fun y1 =>
 cond (!y1)
 (k0 ((2:Int),(from_,())))
 (k1 y.2.1))
def z1zu (N:Nat)(x:z15 z1f8)(K:ExP->List A->Option (Int×(Int×Unit))):Option (Int×(Int×Unit)) :=
 zah N x.1 x.2.1 (fun a0=>(K (.pan 48) (mkS [(0,.v TT1)] 0 (a0,())))) (fun a0=>(K .normal (mkS z1f8 81 (a0,x.2.1,()))))
def z1vp (N:Nat):HdP (Int×(Int×Unit)):=fun st K=>(unS z1f8 81 (restr [0,3] 0 st)).bind fun x=>z1zu N x K
def t1_90 (N:Nat):ze6 (Int×(Int×Unit)):=[]
theorem z1r0 {N:Nat}{c:Ctx}(hb:Base Tryd.prog (z1dp N) c)(hP:PnOk Tryd.prog glob (z1g N)):z22 Tryd.prog c (zh zc5 [0,1,1]) (z1vp N) :=
 z26 (s:=z1f8) (m:=81) (g:=z1zu N) [0,3] (z1p hb hP N (t1_90 N) z1ff zc5 TabOkP.nil [0,1,1] _ rfl) (fun x K=>by kernel_rfl)
def zaf (N:Nat)(p:DT5)(from_:Int)(n:Int)(k0:Option (Int×(Int×Unit)))(k1:Option (Int×(Int×Unit))):Option (Int×(Int×Unit)) :=
 cond (decide (p.2.1<(((List.length p.1):Nat):Int)))
 (cond (inR p.2.1 (List.length p.1))
 ((z7k N (((UInt8.toNat (List.getD p.1 (Int.toNat p.2.1) (0:UInt8))):Nat):Int)).bind fun y =>
 cond y
 (k0)
 (k1))
 (none))
 (k1)
def z1xu (N:Nat)(x:z15 SQ1)(K:ExP->List A->Option (Int×(Int×Unit))):Option (Int×(Int×Unit)) :=
 zaf N x.1 x.2.1 x.2.2.1 (K .normal (mkS SQ1 80 (x.1,x.2.1,x.2.2.1,()))) (K (.exit 0) (mkS SQ1 80 (x.1,x.2.1,x.2.2.1,())))
def z1tp (N:Nat):HdP (Int×(Int×Unit)):=fun st K=>(unS SQ1 80 (restr [0,4,3] 0 st)).bind fun x=>z1xu N x K
def t4_90 (N:Nat):ze6 (Int×(Int×Unit)):=[]
theorem z1p0 {N:Nat}{c:Ctx}(hb:Base Tryd.prog (z1dp N) c)(hP:PnOk Tryd.prog glob (z1g N)):z22 Tryd.prog c (zh zc5 z168) (z1tp N) :=
 z26 (s:=SQ1) (m:=80) (g:=z1xu N) [0,4,3] (z1p hb hP N (t4_90 N) z1ff zc5 TabOkP.nil z168 _ rfl) (fun x K=>by kernel_rfl)
def zac (N:Nat)(from_:Int)(p:DT5)(n:Int)(rec:DT5->Int->Option (Int×(Int×Unit)))(k0:DT5->Int->Option (Int×(Int×Unit))):Option (Int×(Int×Unit)) :=
 zaf N p from_ n
 (cond (inR p.2.1 (List.length p.1))
 (rec (p.1,((IntKind.wrap IntKind.i64 (p.2.1+(1:Int))),p.2.2)) (if ((17:Int)<(IntKind.wrap IntKind.i64 ((IntKind.wrap IntKind.i64 ((10:Int)*n))+(IntKind.wrap IntKind.i64 (IntKind.wrap IntKind.u8 ((((UInt8.toNat (List.getD p.1 (Int.toNat p.2.1) (0:UInt8))):Nat):Int) - (48:Int))))))) then (17:Int) else (IntKind.wrap IntKind.i64 ((IntKind.wrap IntKind.i64 ((10:Int)*n))+(IntKind.wrap IntKind.i64 (IntKind.wrap IntKind.u8 ((((UInt8.toNat (List.getD p.1 (Int.toNat p.2.1) (0:UInt8))):Nat):Int) - (48:Int))))))))
 (none))
 (k0 p n)
def zhu (N:Nat)(p:DT5)(from_:Int)(n:Int)(k0:DT5->Int->Option (Int×(Int×Unit))):Option (Int×(Int×Unit)) :=
 iter (fun (v:(DT5×Int)) r=>zac N from_ v.1 v.2 (fun p n=>(r (p,n))) k0) N (p,n)
def z1y6 (N:Nat)(i:Int)(v:(DT5×Int))(r:(DT5×Int)->Option (Int×(Int×Unit)))(K:ExP->List A->Option (Int×(Int×Unit))):Option (Int×(Int×Unit)) :=
 zac N i v.1 v.2 (fun p n=>(r (p,n))) (fun a0 a2=>(K (.exit 0) (mkS SQ1 80 (a0,i,a2,()))))
def z1u1 (N:Nat):HdP (Int×(Int×Unit)):=fun st K=>(unS SQ1 80 (restr [0,4,3] 0 st)).bind fun x=>iter (fun v r=>z1y6 N ((fun x=>x.2.1) x) v r K) N ((fun x=>(x.1,x.2.2.1)) x)
def t3_90 (N:Nat):ze6 (Int×(Int×Unit)):=[(z168,z1tp N)]
theorem z1pc {N:Nat}{c:Ctx}(hb:Base Tryd.prog (z1dp N) c)(hP:PnOk Tryd.prog glob (z1g N)):z22 Tryd.prog c (zh zc5 [0,0,1,1,1,1]) (z1u1 N) :=
 zr8 (s:=SQ1) (m:=80) (z1y6 N) [0,4,3] N (fun x=>x.2.1) (fun x=>(x.1,x.2.2.1)) (fun i v=>(v.1,i,v.2,())) (fun _=>rfl) (z1p hb hP N (t3_90 N) z1ff zc5 (TabOkP.cons (z1p0 hb hP) TabOkP.nil) [0,0,0,1,1,1,1] _ rfl) (fun i v r K=>by kernel_rfl)
def zag (N:Nat)(p:DT5)(from_:Int)(n:Int)(k0:DT5->Int->Option (Int×(Int×Unit))):Option (Int×(Int×Unit)) :=
 zhu N p from_ n
 (fun p1 n1=>k0 p1 n1)
def z1yt (N:Nat)(x:z15 SQ1)(K:ExP->List A->Option (Int×(Int×Unit))):Option (Int×(Int×Unit)) :=
 zag N x.1 x.2.1 x.2.2.1 (fun a0 a2=>(K .normal (mkS SQ1 80 (a0,x.2.1,a2,()))))
def z1uo (N:Nat):HdP (Int×(Int×Unit)):=fun st K=>(unS SQ1 80 (restr [0,4,3] 0 st)).bind fun x=>z1yt N x K
def t2_90 (N:Nat):ze6 (Int×(Int×Unit)):=[([0,0,1,1,1,1],z1u1 N)]
theorem z1pz {N:Nat}{c:Ctx}(hb:Base Tryd.prog (z1dp N) c)(hP:PnOk Tryd.prog glob (z1g N)):z22 Tryd.prog c (zh zc5 [0,1,1,1,1]) (z1uo N) :=
 z26 (s:=SQ1) (m:=80) (g:=z1yt N) [0,4,3] (z1p hb hP N (t2_90 N) z1ff zc5 (TabOkP.cons (z1pc hb hP) TabOkP.nil) [0,1,1,1,1] _ rfl) (fun x K=>by kernel_rfl)
def zad (N:Nat)(p:DT5)(from_:Int)(n:Int)(k0:Bool->Option (Int×(Int×Unit))):Option (Int×(Int×Unit)) :=
 cond (inR from_ (List.length p.1))
 (cond ((((UInt8.toNat (List.getD p.1 (Int.toNat from_) (0:UInt8))):Nat):Int) == (48:Int))
 (k0 (decide ((IntKind.wrap IntKind.i64 (from_+(1:Int)))<p.2.1)))
 (k0 false))
 (none)
def z1xj (N:Nat)(x:z15 SQ1)(K:ExP->List A->Option (Int×(Int×Unit))):Option (Int×(Int×Unit)) :=
 zad N x.1 x.2.1 x.2.2.1 (fun a3=>(K .normal (mkS z21x 9 (x.1,x.2.1,x.2.2.1,a3,()))))
def z1te (N:Nat):HdP (Int×(Int×Unit)):=fun st K=>(unS SQ1 80 (restr [0,3,4] 0 st)).bind fun x=>z1xj N x K
def t6_90 (N:Nat):ze6 (Int×(Int×Unit)):=[]
theorem z1op {N:Nat}{c:Ctx}(hb:Base Tryd.prog (z1dp N) c)(hP:PnOk Tryd.prog glob (z1g N)):z22 Tryd.prog c (zh zc5 ztw) (z1te N) :=
 z26 (s:=SQ1) (m:=80) (g:=z1xj N) [0,3,4] (z1p hb hP N (t6_90 N) z1ff zc5 TabOkP.nil ztw _ rfl) (fun x K=>by kernel_rfl)
def zae (N:Nat)(p:DT5)(from_:Int)(n:Int)(k0:(Int×(Int×Unit))->Option (Int×(Int×Unit)))(k1:Option (Int×(Int×Unit))):Option (Int×(Int×Unit)) :=
 zad N p from_ n
 (fun x75=>cond x75
 (k0 ((2:Int),(from_,())))
 (k1))
def z1xn (N:Nat)(x:z15 SQ1)(K:ExP->List A->Option (Int×(Int×Unit))):Option (Int×(Int×Unit)) :=
 zae N x.1 x.2.1 x.2.2.1 (fun a0=>(K (.pan 48) (mkS [(0,.v TT1)] 0 (a0,())))) (K .normal (mkS SQ1 80 (x.1,x.2.1,x.2.2.1,())))
def z1ti (N:Nat):HdP (Int×(Int×Unit)):=fun st K=>(unS SQ1 80 (restr [0,3,4] 0 st)).bind fun x=>z1xn N x K
def t5_90 (N:Nat):ze6 (Int×(Int×Unit)):=[(ztw,z1te N)]
theorem z1ot {N:Nat}{c:Ctx}(hb:Base Tryd.prog (z1dp N) c)(hP:PnOk Tryd.prog glob (z1g N)):z22 Tryd.prog c (zh zc5 [0,1,1,1,1,1]) (z1ti N) :=
 z26 (s:=SQ1) (m:=80) (g:=z1xn N) [0,3,4] (z1p hb hP N (t5_90 N) z1ff zc5 (TabOkP.cons (z1op hb hP) TabOkP.nil) [0,1,1,1,1,1] _ rfl) (fun x K=>by kernel_rfl)
def z5n (N:Nat)(p:DT5):Option (Int×(Int×Unit)) :=
 zah N p p.2.1
 (fun p1=>some p1)
 (fun p2=>zag N p2 p.2.1 (0:Int)
 (fun p3 n=>zae N p3 p.2.1 n
 (fun p4=>some p4)
 (cond (decide ((16:Int)<n))
 (some ((3:Int),(p.2.1,())))
 (none))))
def t_90 (N:Nat):ze6 (Int×(Int×Unit)):=[([0,1,1],z1vp N),([0,1,1,1,1],z1uo N),([0,1,1,1,1,1],z1ti N)]
theorem z1hm (N:Nat)(x:z15 SQ0):zk2 (z1dp N) (z1g N) N (t_90 N) z1ff Tryd.f88 48 TT1 (mkS SQ0 0 x) (fun z=>some z)=z5n N x.1:=by kernel_rfl
def z9p (N:Nat):List A->PnRes:=zk1 SQ0 (fun x=>z5n N x.1) (fun z=>⟨TT1,z⟩)
theorem zhv (N:Nat):ContractP Tryd.prog glob 88 48 (z9p N) :=
 ContractP.of (E:=z1dp N) (Pn:=z1g N) (H:=t_90 N) (L:=z1ff) (N:=N) (body:=zc5) (t:=TT1) (z233 N) (z3i N) Tryd.func88 (by kernel_rfl) (by decide) (fun _ hb=>(TabOkP.cons (z1r0 hb (z3i N)) (TabOkP.cons (z1pz hb (z3i N)) (TabOkP.cons (z1ot hb (z3i N)) TabOkP.nil)))) (fun x y h=>by rw[z1hm];exact h)
def ztd:Code:=(Tryd.f97.body).getD .skip
def L_91:List (List Nat×List Nat):=[([0],[0,1]),([0,1],[0,5,1]),([0,1,1],[5,0,1]),([0,0,1,1,1],[16,5,0,1]),([1,0,1,1,1],[5,0,1]),(zzc,[4,0]),(z12k,[4,0]),([0,0,1,1,1,1],[24,0,1,5]),([1,0,1,1,1,1],[5,0]),(z1an,[5,0]),([0,1,1,1,1,1],[4,0]),([1,1,1,1,1,1],[4,0])]
def z25a (N:Nat):Env:=z1c tys glob [(95,z18 N),(99,z7j N)] [] [] [0] false [] []
theorem z232 (N:Nat):EnvOk Tryd.prog (z25a N):=zi mixed zn (FnsOk.cons (z1h N) (FnsOk.cons (zc8 N) (FnsOk.nil))) (ItsOk.nil)
def z35 (N:Nat):PnT:=pnT [(95,48,z1w N),(37,48,zy N)]
theorem z9x (N:Nat):PnOk Tryd.prog glob (z35 N):=PnOk.cons (z2p N) (PnOk.cons (z16 N) (PnOk.nil))
def zai (N:Nat)(p:DT5)(from_:Int)(b:Int)(k0:Bool->Option (Int×(Int×Unit))):Option (Int×(Int×Unit)) :=
 cond (decide (b<(97:Int)))
 (k0 true)
 (k0 (decide ((102:Int)<b)))
def z1ys (N:Nat)(x:z15 z16s)(K:ExP->List A->Option (Int×(Int×Unit))):Option (Int×(Int×Unit)) :=
 zai N x.1 x.2.1 x.2.2.1 (fun a3=>(K .normal (mkS [(0,.box (.pair .str TT1)),(0,.v (.int .i64)),(3,.v (.int .u8)),(18,.v .bool)] 6 (x.1,x.2.1,x.2.2.1,a3,()))))
def z1un (N:Nat):HdP (Int×(Int×Unit)):=fun st K=>(unS z16s 25 (restr [5,0,1] 0 st)).bind fun x=>z1ys N x K
def t2_91 (N:Nat):ze6 (Int×(Int×Unit)):=[]
theorem z1py {N:Nat}{c:Ctx}(hb:Base Tryd.prog (z25a N) c)(hP:PnOk Tryd.prog glob (z35 N)):z22 Tryd.prog c (zh ztd [0,0,1,1,1,1]) (z1un N) :=
 z26 (s:=z16s) (m:=25) (g:=z1ys N) [5,0,1] (z1p hb hP N (t2_91 N) L_91 ztd TabOkP.nil [0,0,1,1,1,1] _ rfl) (fun x K=>by kernel_rfl)
def zaj (N:Nat)(p:DT5)(from_:Int)(b:Int)(k0:(Int×(Int×Unit))->Option (Int×(Int×Unit)))(k1:Option (Int×(Int×Unit))):Option (Int×(Int×Unit)) :=
 zai N p from_ b
 (fun x24=>cond x24
 (k0 ((2:Int),(from_,())))
 (k1))
def z1zt (N:Nat)(x:z15 z16s)(K:ExP->List A->Option (Int×(Int×Unit))):Option (Int×(Int×Unit)) :=
 zaj N x.1 x.2.1 x.2.2.1 (fun a0=>(K (.pan 48) (mkS [(0,.v TT1)] 0 (a0,())))) (K .normal (mkS [(0,.box (.pair .str TT1)),(4,.v (.int .u8))] 25 (x.1,x.2.2.1,())))
def z1vo (N:Nat):HdP (Int×(Int×Unit)):=fun st K=>(unS z16s 25 (restr [5,0,1] 0 st)).bind fun x=>z1zt N x K
def t1_91 (N:Nat):ze6 (Int×(Int×Unit)):=[([0,0,1,1,1,1],z1un N)]
theorem z1qz {N:Nat}{c:Ctx}(hb:Base Tryd.prog (z25a N) c)(hP:PnOk Tryd.prog glob (z35 N)):z22 Tryd.prog c (zh ztd [0,1,1,1,1]) (z1vo N) :=
 z26 (s:=z16s) (m:=25) (g:=z1zt N) [5,0,1] (z1p hb hP N (t1_91 N) L_91 ztd (TabOkP.cons (z1py hb hP) TabOkP.nil) [0,1,1,1,1] _ rfl) (fun x K=>by kernel_rfl)
def z5o (N:Nat)(p:DT5)(from_:Int):Option (Int×(Int×Unit)) :=
 orP ((z24 N p)) (fun z=>some z)
 ((z1j N p).bind fun y =>
 (z7k N y.1).bind fun y1 =>
 cond y1
 (none)
 (zaj N (y.2.1.1,((IntKind.wrap IntKind.i64 (y.2.1.2.1+(1:Int))),y.2.1.2.2)) from_ y.1
 (fun p1=>some p1)
 (none)))
def t_91 (N:Nat):ze6 (Int×(Int×Unit)):=[([0,1,1,1,1],z1vo N)]
theorem z1hl (N:Nat)(x:z15 z1mf):zk2 (z25a N) (z35 N) N (t_91 N) L_91 Tryd.f97 48 TT1 (mkS z1mf 0 x) (fun z=>some z)=z5o N x.1 x.2.1:=by kernel_rfl
def z9w (N:Nat):List A->PnRes:=zk1 z1mf (fun x=>z5o N x.1 x.2.1) (fun z=>⟨TT1,z⟩)
theorem zhw (N:Nat):ContractP Tryd.prog glob 97 48 (z9w N) :=
 ContractP.of (E:=z25a N) (Pn:=z35 N) (H:=t_91 N) (L:=L_91) (N:=N) (body:=ztd) (t:=TT1) (z232 N) (z9x N) Tryd.func97 (by kernel_rfl) (by decide) (fun _ hb=>(TabOkP.cons (z1qz hb (z9x N)) TabOkP.nil)) (fun x y h=>by rw[z1hl];exact h)
def z11b:Code:=(Tryd.f86.body).getD .skip
def L_92:List (List Nat×List Nat):=[([0],[0,2]),([0,1],[0,2,4]),([0,1,1],[0,2,4]),([0,1,1,1],[0,5,2,4]),([0,1,1,1,1],[5,2,0,4]),([0,0,0,1,1,1,1,1],[22,2,0,5,4]),([1,0,0,1,1,1,1,1],[5,2,0]),([0,1,1,0,0,1,1,1,1,1],[26,2,0,5,4]),([1,1,1,0,0,1,1,1,1,1],[5,2,0]),([0,1,1,1,1,0,0,1,1,1,1,1],[30,0,4,2,5]),([1,1,1,1,1,0,0,1,1,1,1,1],[5,2,0]),([0,1,1,1,1,1,1,0,0,1,1,1,1,1],[42,0,4,5,2]),([1,1,1,1,1,1,1,0,0,1,1,1,1,1],[5,2,0]),([0,1,1,1,1,1,1,1,0,0,1,1,1,1,1],[5,2,0]),([0,0,1,1,1,1,1,0,0,1,1,1,1,1],[6,0,4,2]),([1,0,1,1,1,1,1,0,0,1,1,1,1,1],[5,2,0]),([0,0,1,1,1,0,0,1,1,1,1,1],[2,3,0]),([1,0,1,1,1,0,0,1,1,1,1,1],[2,3,0]),([0,0,1,0,0,1,1,1,1,1],[2,3,0]),([1,0,1,0,0,1,1,1,1,1],[2,3,0]),([0,1,1,1,1,1],[5,2,0]),(z14h,[2,3,0]),(zze,[2,3,0])]
def E_92 (N:Nat):Env:=z1c tys glob [(41,z3c N),(87,z3e N),(89,z1n N),(95,z18 N),(96,zc2 N),(97,z8g N)] [] [] [0] false [] []
theorem z231 (N:Nat):EnvOk Tryd.prog (E_92 N):=zi mixed zn (FnsOk.cons (z42 N) (FnsOk.cons (z5m N) (FnsOk.cons (z1z N) (FnsOk.cons (z1h N) (FnsOk.cons (zj4 N) (FnsOk.cons (zey N) (FnsOk.nil))))))) (ItsOk.nil)
def z3b (N:Nat):PnT:=pnT [(97,48,z9w N),(89,48,z2g N),(95,48,z1w N),(37,48,zy N)]
theorem z7f (N:Nat):PnOk Tryd.prog glob (z3b N):=PnOk.cons (zhw N) (PnOk.cons (z3j N) (PnOk.cons (z2p N) (PnOk.cons (z16 N) (PnOk.nil))))
def z8b (N:Nat)(p:DT5)(set_:(List Int))(from_:Int)(b:Int)(k0:(List Int)->Bool->Option (Int×(Int×Unit)))(k1:(Int×(Int×Unit))->Option (Int×(Int×Unit)))(k2:DT5->Int->Option (Int×(Int×Unit))):Option (Int×(Int×Unit)) :=
 cond (b == (100:Int))
 ((z2r N (48:Int) (57:Int)).bind fun y =>
 k0 y true)
 (cond (b == (119:Int))
 ((zed N ((48:UInt8)::(49:UInt8)::(50:UInt8)::(51:UInt8)::(52:UInt8)::(53:UInt8)::(54:UInt8)::(55:UInt8)::(56:UInt8)::(57:UInt8)::(65:UInt8)::(66:UInt8)::(67:UInt8)::(68:UInt8)::(69:UInt8)::(70:UInt8)::(71:UInt8)::(72:UInt8)::(73:UInt8)::(74:UInt8)::(75:UInt8)::(76:UInt8)::(77:UInt8)::(78:UInt8)::(79:UInt8)::(80:UInt8)::(81:UInt8)::(82:UInt8)::(83:UInt8)::(84:UInt8)::(85:UInt8)::(86:UInt8)::(87:UInt8)::(88:UInt8)::(89:UInt8)::(90:UInt8)::(95:UInt8)::(97:UInt8)::(98:UInt8)::(99:UInt8)::(100:UInt8)::(101:UInt8)::(102:UInt8)::(103:UInt8)::(104:UInt8)::(105:UInt8)::(106:UInt8)::(107:UInt8)::(108:UInt8)::(109:UInt8)::(110:UInt8)::(111:UInt8)::(112:UInt8)::(113:UInt8)::(114:UInt8)::(115:UInt8)::(116:UInt8)::(117:UInt8)::(118:UInt8)::(119:UInt8)::(120:UInt8)::(121:UInt8)::(122:UInt8)::([]:List UInt8))).bind fun y1 =>
 k0 y1 true)
 (cond (b == (120:Int))
 (orP ((z5o N p from_)) (fun z=>k1 z)
 ((z50 N p from_).bind fun y2 =>
 orP ((z5o N y2.2.1 from_)) (fun z1=>k1 z1)
 ((z50 N y2.2.1 from_).bind fun y3 =>
 k2 y3.2.1 (ze Go.BinOp.or IntKind.u8 (z17a IntKind.u8 y2.1 (4:Int)) y3.1))))
 (cond (decide ((Go.Lib.indexByte ([(92:UInt8),(46:UInt8),(91:UInt8),(93:UInt8),(40:UInt8),(41:UInt8),(123:UInt8),(125:UInt8),(124:UInt8),(42:UInt8),(43:UInt8),(63:UInt8),(45:UInt8),(94:UInt8)]:List UInt8) (Nat.toUInt8 (Int.toNat b)))<(0:Int)))
 (k1 ((2:Int),(from_,())))
 (k2 p b))))
def z1zs (N:Nat)(x:z15 z1mn)(K:ExP->List A->Option (Int×(Int×Unit))):Option (Int×(Int×Unit)) :=
 z8b N x.1 x.2.1 x.2.2.1 x.2.2.2.1 (fun a1 a2=>(K .ret (mkS SQ66 48 (x.1,a1,a2,())))) (fun a0=>(K (.pan 48) (mkS [(0,.v TT1)] 0 (a0,())))) (fun a0 a2=>(K .normal (mkS [(0,.box (.pair .str TT1)),(1,.box (.arr 4 (.int .u64))),(2,.v (.int .u8))] 46 (a0,x.2.1,a2,()))))
def z1vn (N:Nat):HdP (Int×(Int×Unit)):=fun st K=>(unS z1mn 46 (restr [5,2,0,4] 0 st)).bind fun x=>z1zs N x K
def t1_92 (N:Nat):ze6 (Int×(Int×Unit)):=[]
theorem z1qy {N:Nat}{c:Ctx}(hb:Base Tryd.prog (E_92 N) c)(hP:PnOk Tryd.prog glob (z3b N)):z22 Tryd.prog c (zh z11b [0,1,1,1,1,1]) (z1vn N) :=
 z26 (s:=z1mn) (m:=46) (g:=z1zs N) [5,2,0,4] (z1p hb hP N (t1_92 N) L_92 z11b TabOkP.nil [0,1,1,1,1,1] _ rfl) (fun x K=>by kernel_rfl)
def z3x (N:Nat)(p:DT5):Option (Int×(Int×Unit)) :=
 orP ((z25 N p (92:Int))) (fun z=>some z)
 ((z1k N p (92:Int)).bind fun y =>
 orP ((z24 N y.2.1)) (fun z1=>some z1)
 ((z1j N y.2.1).bind fun y1 =>
 z8b N (y1.2.1.1,((IntKind.wrap IntKind.i64 (y1.2.1.2.1+(1:Int))),y1.2.1.2.2)) ([(0:Int),(0:Int),(0:Int),(0:Int)]:List Int) p.2.1 y1.1
 (fun set_ class_=>none)
 (fun p1=>some p1)
 (fun p2 b=>(z2r N b b).bind fun y2 =>
 none)))
def t_92 (N:Nat):ze6 (Int×(Int×Unit)):=[([0,1,1,1,1,1],z1vn N)]
theorem z1hk (N:Nat)(x:z15 SQ0):zk2 (E_92 N) (z3b N) N (t_92 N) L_92 Tryd.f86 48 TT1 (mkS SQ0 0 x) (fun z=>some z)=z3x N x.1:=by kernel_rfl
def z4m (N:Nat):List A->PnRes:=zk1 SQ0 (fun x=>z3x N x.1) (fun z=>⟨TT1,z⟩)
theorem z8c (N:Nat):ContractP Tryd.prog glob 86 48 (z4m N) :=
 ContractP.of (E:=E_92 N) (Pn:=z3b N) (H:=t_92 N) (L:=L_92) (N:=N) (body:=z11b) (t:=TT1) (z231 N) (z7f N) Tryd.func86 (by kernel_rfl) (by decide) (fun _ hb=>(TabOkP.cons (z1qy hb (z7f N)) TabOkP.nil)) (fun x y h=>by rw[z1hk];exact h)
def ztc:Code:=(Tryd.f100.body).getD .skip
def L_93:List (List Nat×List Nat):=[([0],[0,2]),([0,1],[4,0,2]),([0,0,1,1],[7,0,2,4]),([0,0,1,0,1,1],[8,0,2,7,4]),([1,0,1,0,1,1],[0,4,2]),([0,0,1,1,0,1,0,1,1],[14,0,4,2,7]),([1,0,1,1,0,1,0,1,1],[14,0,4,2]),([0,1,1,0,1,1,0,1,0,1,1],[14,0,4,2,7]),([1,1,1,0,1,1,0,1,0,1,1],[14,0,4,2]),([0,1,1,1,1,0,1,1,0,1,0,1,1],[14,0,4,2,7]),([1,1,1,1,1,0,1,1,0,1,0,1,1],[14,0,4,2]),([1,1,1,1,1,1,0,1,1,0,1,0,1,1],[14,0,4,2]),([1,1,1,0,1,0,1,1],[0,4,2]),([0,1,1,1,0,1,0,1,1],[0,4,2]),([0,0,1,0,1,0,1,1],[2,3,0]),([1,0,1,0,1,0,1,1],[2,3,0]),([1,0,1,1],[0,4,2]),([0,1,1,1],[4,2,0]),([0,1,1,1,1],[2,3,0]),([1,1,1,1,1],[2,3,0])]
def z259 (N:Nat):Env:=z1c tys glob [(41,z3c N),(86,z2w N),(95,z18 N)] [] [] [0] false [] []
theorem z230 (N:Nat):EnvOk Tryd.prog (z259 N):=zi mixed zn (FnsOk.cons (z42 N) (FnsOk.cons (z4r N) (FnsOk.cons (z1h N) (FnsOk.nil)))) (ItsOk.nil)
def z2v (N:Nat):PnT:=pnT [(86,48,z4m N),(95,48,z1w N),(37,48,zy N)]
theorem z8w (N:Nat):PnOk Tryd.prog glob (z2v N):=PnOk.cons (z8c N) (PnOk.cons (z2p N) (PnOk.cons (z16 N) (PnOk.nil)))
def z9n (N:Nat)(p:DT5)(set_:(List Int))(b:Int)(x7:Int)(k0:Bool->Option (Int×(Int×Unit))):Option (Int×(Int×Unit)) :=
 cond (x7 == (91:Int))
 (k0 (x7 == (91:Int)))
 (cond (x7 == (93:Int))
 (k0 (x7 == (93:Int)))
 (cond (x7 == (45:Int))
 (k0 (x7 == (45:Int)))
 (k0 (x7 == (94:Int)))))
def z1yr (N:Nat)(x:z15 z1mm)(K:ExP->List A->Option (Int×(Int×Unit))):Option (Int×(Int×Unit)) :=
 z9n N x.1 x.2.1 x.2.2.1 x.2.2.2.1 (fun a3=>(K .normal (mkS z224 20 (x.1,x.2.1,x.2.2.1,a3,()))))
def z1um (N:Nat):HdP (Int×(Int×Unit)):=fun st K=>(unS z1mm 27 (restr [7,0,4,2] 0 st)).bind fun x=>z1yr N x K
def t2_93 (N:Nat):ze6 (Int×(Int×Unit)):=[]
theorem z1px {N:Nat}{c:Ctx}(hb:Base Tryd.prog (z259 N) c)(hP:PnOk Tryd.prog glob (z2v N)):z22 Tryd.prog c (zh ztc z12j) (z1um N) :=
 z26 (s:=z1mm) (m:=27) (g:=z1yr N) [7,0,4,2] (z1p hb hP N (t2_93 N) L_93 ztc TabOkP.nil z12j _ rfl) (fun x K=>by kernel_rfl)
def z9o (N:Nat)(p:DT5)(set_:(List Int))(b:Int)(k0:(Int×(Int×Unit))->Option (Int×(Int×Unit)))(k1:DT5->(List Int)->Bool->Option (Int×(Int×Unit)))(k2:Option (Int×(Int×Unit))):Option (Int×(Int×Unit)) :=
 cond (b == (92:Int))
 (orP ((z3x N p)) (fun z=>k0 z)
 ((z36 N p).bind fun y =>
 k1 y.2.1 y.1.1 y.1.2.1))
 (z9n N p set_ b b
 (fun x14=>cond x14
 (k0 ((2:Int),(p.2.1,())))
 (k2)))
def z1zr (N:Nat)(x:z15 z1fa)(K:ExP->List A->Option (Int×(Int×Unit))):Option (Int×(Int×Unit)) :=
 z9o N x.1 x.2.1 x.2.2.1 (fun a0=>(K (.pan 48) (mkS [(0,.v TT1)] 0 (a0,())))) (fun a0 a1 a2=>(K .ret (mkS SQ66 31 (a0,a1,a2,())))) (K .normal (mkS z1fa 30 (x.1,x.2.1,x.2.2.1,())))
def z1vm (N:Nat):HdP (Int×(Int×Unit)):=fun st K=>(unS z1fa 30 (restr [4,0,2] 0 st)).bind fun x=>z1zr N x K
def t1_93 (N:Nat):ze6 (Int×(Int×Unit)):=[(z12j,z1um N)]
theorem z1qx {N:Nat}{c:Ctx}(hb:Base Tryd.prog (z259 N) c)(hP:PnOk Tryd.prog glob (z2v N)):z22 Tryd.prog c (zh ztc [0,1,1]) (z1vm N) :=
 z26 (s:=z1fa) (m:=30) (g:=z1zr N) [4,0,2] (z1p hb hP N (t1_93 N) L_93 ztc (TabOkP.cons (z1px hb hP) TabOkP.nil) [0,1,1] _ rfl) (fun x K=>by kernel_rfl)
def z54 (N:Nat)(p:DT5):Option (Int×(Int×Unit)) :=
 orP ((z24 N p)) (fun z=>some z)
 ((z1j N p).bind fun y =>
 z9o N y.2.1 ([(0:Int),(0:Int),(0:Int),(0:Int)]:List Int) y.1
 (fun p1=>some p1)
 (fun p2 set_ class_=>none)
 ((z2r N y.1 y.1).bind fun y1 =>
 none))
def t_93 (N:Nat):ze6 (Int×(Int×Unit)):=[([0,1,1],z1vm N)]
theorem z1hj (N:Nat)(x:z15 SQ0):zk2 (z259 N) (z2v N) N (t_93 N) L_93 Tryd.f100 48 TT1 (mkS SQ0 0 x) (fun z=>some z)=z54 N x.1:=by kernel_rfl
def z8v (N:Nat):List A->PnRes:=zk1 SQ0 (fun x=>z54 N x.1) (fun z=>⟨TT1,z⟩)
theorem zgu (N:Nat):ContractP Tryd.prog glob 100 48 (z8v N) :=
 ContractP.of (E:=z259 N) (Pn:=z2v N) (H:=t_93 N) (L:=L_93) (N:=N) (body:=ztc) (t:=TT1) (z230 N) (z8w N) Tryd.func100 (by kernel_rfl) (by decide) (fun _ hb=>(TabOkP.cons (z1qx hb (z8w N)) TabOkP.nil)) (fun x y h=>by rw[z1hj];exact h)
def zii:Code:=(Tryd.f92.body).getD .skip
def z1mv:List (List Nat×List Nat):=[([0],[0,2]),([0,1],[4,0,3,2]),([0,0,1,1],[17,3,2,0]),([1,0,1,1],[0,3,2]),([0,0,1,0,1,1],[2,0]),([1,0,1,0,1,1],[2,0]),([0,1,1,1],[0,3,5,2]),([0,1,1,1,1],[4,6,3,0,5,2]),(ztw,[35,0,5,3,6,2]),(zug,[3,6,2,0]),(zx5,[3,6,2,0]),(z14h,[2,0]),(zze,[2,0])]
def z1ly (N:Nat):Env:=z1c tys glob [(41,z3c N),(55,z1m N),(100,z7d N),(101,zc4 N)] [] [] [0] false [] []
theorem z22z (N:Nat):EnvOk Tryd.prog (z1ly N):=zi mixed zn (FnsOk.cons (z42 N) (FnsOk.cons (z1y N) (FnsOk.cons (zdi N) (FnsOk.cons (zj7 N) (FnsOk.nil))))) (ItsOk.nil)
def z1u (N:Nat):PnT:=pnT [(100,48,z8v N),(37,48,zy N)]
theorem z5b (N:Nat):PnOk Tryd.prog glob (z1u N):=PnOk.cons (zgu N) (PnOk.cons (z16 N) (PnOk.nil))
def z9u (N:Nat)(p:DT5)(x2:(List Int))(first:(List Int))(class_:Bool)(k0:DT5->Bool->Option (Int×(Int×Unit))):Option (Int×(Int×Unit)) :=
 cond class_
 (k0 p true)
 ((z1b N p (45:Int)).bind fun y =>
 k0 y.2.1 (!y.1))
def z1yq (N:Nat)(x:z15 SQ7)(K:ExP->List A->Option (Int×(Int×Unit))):Option (Int×(Int×Unit)) :=
 z9u N x.1 x.2.1 x.2.2.1 x.2.2.2.1 (fun a0 a3=>(K .normal (mkS z22c 28 (a0,x.2.1,x.2.2.1,a3,()))))
def z1ul (N:Nat):HdP (Int×(Int×Unit)):=fun st K=>(unS SQ7 41 (restr [4,0,3,2] 0 st)).bind fun x=>z1yq N x K
def t2_94 (N:Nat):ze6 (Int×(Int×Unit)):=[]
theorem z1pw {N:Nat}{c:Ctx}(hb:Base Tryd.prog (z1ly N) c)(hP:PnOk Tryd.prog glob (z1u N)):z22 Tryd.prog c (zh zii [0,0,1,1]) (z1ul N) :=
 z26 (s:=SQ7) (m:=41) (g:=z1yq N) [4,0,3,2] (z1p hb hP N (t2_94 N) z1mv zii TabOkP.nil [0,0,1,1] _ rfl) (fun x K=>by kernel_rfl)
def z9v (N:Nat)(p:DT5)(x2:(List Int))(first:(List Int))(class_:Bool)(k0:DT5->Option (Int×(Int×Unit)))(k1:DT5->Option (Int×(Int×Unit))):Option (Int×(Int×Unit)) :=
 z9u N p x2 first class_
 (fun p1 x17=>cond x17
 (k0 p1)
 (k1 p1))
def z1zq (N:Nat)(x:z15 SQ7)(K:ExP->List A->Option (Int×(Int×Unit))):Option (Int×(Int×Unit)) :=
 z9v N x.1 x.2.1 x.2.2.1 x.2.2.2.1 (fun a0=>(K .ret (mkS [(0,.box (.pair .str TT1)),(1,.box (.arr 4 (.int .u64)))] 43 (a0,x.2.2.1,())))) (fun a0=>(K .normal (mkS z221 42 (a0,x.2.1,x.2.2.1,()))))
def z1vl (N:Nat):HdP (Int×(Int×Unit)):=fun st K=>(unS SQ7 41 (restr [4,0,3,2] 0 st)).bind fun x=>z1zq N x K
def t1_94 (N:Nat):ze6 (Int×(Int×Unit)):=[([0,0,1,1],z1ul N)]
theorem z1qw {N:Nat}{c:Ctx}(hb:Base Tryd.prog (z1ly N) c)(hP:PnOk Tryd.prog glob (z1u N)):z22 Tryd.prog c (zh zii [0,1,1]) (z1vl N) :=
 z26 (s:=SQ7) (m:=41) (g:=z1zq N) [4,0,3,2] (z1p hb hP N (t1_94 N) z1mv zii (TabOkP.cons (z1pw hb hP) TabOkP.nil) [0,1,1] _ rfl) (fun x K=>by kernel_rfl)
def z9s (N:Nat)(p:DT5)(x2:(List Int))(first:(List Int))(class_:Bool)(from_:Int)(last:(List Int))(k0:Bool->Option (Int×(Int×Unit))):Option (Int×(Int×Unit)) :=
 cond class_
 (k0 true)
 ((z3d N last).bind fun y =>
 (z3d N first).bind fun y1 =>
 k0 (decide (y<y1)))
def z1xt (N:Nat)(x:z15 SQ2)(K:ExP->List A->Option (Int×(Int×Unit))):Option (Int×(Int×Unit)) :=
 z9s N x.1 x.2.1 x.2.2.1 x.2.2.2.1 x.2.2.2.2.1 x.2.2.2.2.2.1 (fun a5=>(K .normal (mkS SQ63 10 (x.1,x.2.1,x.2.2.1,x.2.2.2.2.1,x.2.2.2.2.2.1,a5,()))))
def z1to (N:Nat):HdP (Int×(Int×Unit)):=fun st K=>(unS SQ2 39 (restr [4,6,3,0,5,2] 0 st)).bind fun x=>z1xt N x K
def t4_94 (N:Nat):ze6 (Int×(Int×Unit)):=[]
theorem z1oz {N:Nat}{c:Ctx}(hb:Base Tryd.prog (z1ly N) c)(hP:PnOk Tryd.prog glob (z1u N)):z22 Tryd.prog c (zh zii ztw) (z1to N) :=
 z26 (s:=SQ2) (m:=39) (g:=z1xt N) [4,6,3,0,5,2] (z1p hb hP N (t4_94 N) z1mv zii TabOkP.nil ztw _ rfl) (fun x K=>by kernel_rfl)
def z9t (N:Nat)(p:DT5)(x2:(List Int))(first:(List Int))(class_:Bool)(from_:Int)(last:(List Int))(k0:(Int×(Int×Unit))->Option (Int×(Int×Unit)))(k1:Option (Int×(Int×Unit))):Option (Int×(Int×Unit)) :=
 z9s N p x2 first class_ from_ last
 (fun x35=>cond x35
 (k0 ((2:Int),(from_,())))
 (k1))
def z1y5 (N:Nat)(x:z15 SQ2)(K:ExP->List A->Option (Int×(Int×Unit))):Option (Int×(Int×Unit)) :=
 z9t N x.1 x.2.1 x.2.2.1 x.2.2.2.1 x.2.2.2.2.1 x.2.2.2.2.2.1 (fun a0=>(K (.pan 48) (mkS [(0,.v TT1)] 0 (a0,())))) (K .normal (mkS SQ90 39 (x.1,x.2.1,x.2.2.1,x.2.2.2.2.2.1,())))
def z1u0 (N:Nat):HdP (Int×(Int×Unit)):=fun st K=>(unS SQ2 39 (restr [4,6,3,0,5,2] 0 st)).bind fun x=>z1y5 N x K
def t3_94 (N:Nat):ze6 (Int×(Int×Unit)):=[(ztw,z1to N)]
theorem z1pb {N:Nat}{c:Ctx}(hb:Base Tryd.prog (z1ly N) c)(hP:PnOk Tryd.prog glob (z1u N)):z22 Tryd.prog c (zh zii [0,1,1,1,1,1]) (z1u0 N) :=
 z26 (s:=SQ2) (m:=39) (g:=z1y5 N) [4,6,3,0,5,2] (z1p hb hP N (t3_94 N) z1mv zii (TabOkP.cons (z1oz hb hP) TabOkP.nil) [0,1,1,1,1,1] _ rfl) (fun x K=>by kernel_rfl)
def z55 (N:Nat)(p:DT5):Option (Int×(Int×Unit)) :=
 orP ((z54 N p)) (fun z=>some z)
 ((z45 N p).bind fun y =>
 z9v N y.2.1 ([(0:Int),(0:Int),(0:Int),(0:Int)]:List Int) y.1.1 y.1.2.1
 (fun p1=>none)
 (fun p2=>orP ((z54 N p2)) (fun z1=>some z1)
 ((z45 N p2).bind fun y1 =>
 z9t N y1.2.1 ([(0:Int),(0:Int),(0:Int),(0:Int)]:List Int) y.1.1 y1.1.2.1 p2.2.1 y1.1.1
 (fun p3=>some p3)
 ((z3d N y.1.1).bind fun y2 =>
 (z3d N y1.1.1).bind fun y3 =>
 (z2r N (IntKind.wrap IntKind.u8 y2) (IntKind.wrap IntKind.u8 y3)).bind fun y4 =>
 none))))
def t_94 (N:Nat):ze6 (Int×(Int×Unit)):=[([0,1,1],z1vl N),([0,1,1,1,1,1],z1u0 N)]
theorem z1hi (N:Nat)(x:z15 SQ0):zk2 (z1ly N) (z1u N) N (t_94 N) z1mv Tryd.f92 48 TT1 (mkS SQ0 0 x) (fun z=>some z)=z55 N x.1:=by kernel_rfl
def z90 (N:Nat):List A->PnRes:=zk1 SQ0 (fun x=>z55 N x.1) (fun z=>⟨TT1,z⟩)
theorem zgv (N:Nat):ContractP Tryd.prog glob 92 48 (z90 N) :=
 ContractP.of (E:=z1ly N) (Pn:=z1u N) (H:=t_94 N) (L:=z1mv) (N:=N) (body:=zii) (t:=TT1) (z22z N) (z5b N) Tryd.func92 (by kernel_rfl) (by decide) (fun _ hb=>(TabOkP.cons (z1qw hb (z5b N)) (TabOkP.cons (z1pb hb (z5b N)) TabOkP.nil))) (fun x y h=>by rw[z1hi];exact h)
def z11a:Code:=(Tryd.f85.body).getD .skip
def L_95:List (List Nat×List Nat):=[([0],[0,2]),([0,1],[0,2]),([0,1,1],[0,3,2]),([0,1,1,1],[0,4,3,2]),([0,0,1,1,1,1],[0,4,3,2]),(z1ab,[13,4,0,3,2]),(z1aa,[4,0,3,2]),(z1ad,[3,4,2,0]),([0,1,0,0,0,1,1,1,1],[0,4,3,2]),(z1a7,[0,4,3,2]),([0,1,1,1,1],[3,4,2,0]),(ztw,[18,4,2,0]),(zug,[4,2,0]),([0,0,1,0,1,1,1,1,1],[2,0]),([1,0,1,0,1,1,1,1,1],[2,0]),(z14h,[2,0]),(zze,[2,0])]
def E_95 (N:Nat):Env:=z1c tys glob [(55,z1m N),(89,z1n N),(92,z7e N),(93,zgm N),(94,zfe N)] [] [] [0] false [] []
theorem z22y (N:Nat):EnvOk Tryd.prog (E_95 N):=zi mixed zn (FnsOk.cons (z1y N) (FnsOk.cons (z1z N) (FnsOk.cons (zdp N) (FnsOk.cons (zo9 N) (FnsOk.cons (zm6 N) (FnsOk.nil)))))) (ItsOk.nil)
def z2x (N:Nat):PnT:=pnT [(92,48,z90 N),(89,48,z2g N)]
theorem z6j (N:Nat):PnOk Tryd.prog glob (z2x N):=PnOk.cons (zgv N) (PnOk.cons (z3j N) (PnOk.nil))
def z74 (N:Nat)(x2:(List Int))(not_:Bool)(p:DT5)(set_:(List Int))(rec:DT5->(List Int)->Option (Int×(Int×Unit)))(k0:(Int×(Int×Unit))->Option (Int×(Int×Unit)))(k1:DT5->(List Int)->Option (Int×(Int×Unit))):Option (Int×(Int×Unit)) :=
 (z1b N p (93:Int)).bind fun y =>
 cond (!y.1)
 (orP ((z55 N y.2.1)) (fun z=>k0 z)
 ((z46 N y.2.1).bind fun y1 =>
 (zl8 N set_ y1.1).bind fun y2 =>
 rec y1.2.1 y2))
 (k1 y.2.1 set_)
def ze8 (N:Nat)(p:DT5)(x2:(List Int))(not_:Bool)(set_:(List Int))(k0:(Int×(Int×Unit))->Option (Int×(Int×Unit)))(k1:DT5->(List Int)->Option (Int×(Int×Unit))):Option (Int×(Int×Unit)) :=
 iter (fun (v:(DT5×(List Int))) r=>z74 N x2 not_ v.1 v.2 (fun p set_=>(r (p,set_))) k0 k1) N (p,set_)
def z1zp (N:Nat)(i:((List Int)×Bool))(v:(DT5×(List Int)))(r:(DT5×(List Int))->Option (Int×(Int×Unit)))(K:ExP->List A->Option (Int×(Int×Unit))):Option (Int×(Int×Unit)) :=
 z74 N i.1 i.2 v.1 v.2 (fun p set_=>(r (p,set_))) (fun a0=>(K (.pan 48) (mkS [(0,.v TT1)] 0 (a0,())))) (fun a0 a3=>(K (.exit 0) (mkS z1mp 17 (a0,i.1,i.2,a3,()))))
def z1vk (N:Nat):HdP (Int×(Int×Unit)):=fun st K=>(unS z1mp 17 (restr [0,4,3,2] 0 st)).bind fun x=>iter (fun v r=>z1zp N ((fun x=>(x.2.1,x.2.2.1)) x) v r K) N ((fun x=>(x.1,x.2.2.2.1)) x)
def t1_95 (N:Nat):ze6 (Int×(Int×Unit)):=[]
theorem z1qv {N:Nat}{c:Ctx}(hb:Base Tryd.prog (E_95 N) c)(hP:PnOk Tryd.prog glob (z2x N)):z22 Tryd.prog c (zh z11a [0,0,1,1,1,1]) (z1vk N) :=
 zr8 (s:=z1mp) (m:=17) (z1zp N) [0,4,3,2] N (fun x=>(x.2.1,x.2.2.1)) (fun x=>(x.1,x.2.2.2.1)) (fun i v=>(v.1,i.1,i.2,v.2,())) (fun _=>rfl) (z1p hb hP N (t1_95 N) L_95 z11a TabOkP.nil [0,0,0,1,1,1,1] _ rfl) (fun i v r K=>by kernel_rfl)
def z5d (N:Nat)(p:DT5):Option (Int×(Int×Unit)) :=
 orP ((z25 N p (91:Int))) (fun z=>some z)
 ((z1k N p (91:Int)).bind fun y =>
 (z1b N y.2.1 (94:Int)).bind fun y1 =>
 orP ((z55 N y1.2.1)) (fun z1=>some z1)
 ((z46 N y1.2.1).bind fun y2 =>
 ze8 N y2.2.1 ([(0:Int),(0:Int),(0:Int),(0:Int)]:List Int) y1.1 y2.1
 (fun p1=>some p1)
 (fun p2 set_=>cond y1.1
 ((zig N set_).bind fun y3 =>
 none)
 (none))))
def t_95 (N:Nat):ze6 (Int×(Int×Unit)):=[([0,0,1,1,1,1],z1vk N)]
theorem z1hh (N:Nat)(x:z15 SQ0):zk2 (E_95 N) (z2x N) N (t_95 N) L_95 Tryd.f85 48 TT1 (mkS SQ0 0 x) (fun z=>some z)=z5d N x.1:=by kernel_rfl
def z6i (N:Nat):List A->PnRes:=zk1 SQ0 (fun x=>z5d N x.1) (fun z=>⟨TT1,z⟩)
theorem ze9 (N:Nat):ContractP Tryd.prog glob 85 48 (z6i N) :=
 ContractP.of (E:=E_95 N) (Pn:=z2x N) (H:=t_95 N) (L:=L_95) (N:=N) (body:=z11a) (t:=TT1) (z22y N) (z6j N) Tryd.func85 (by kernel_rfl) (by decide) (fun _ hb=>(TabOkP.cons (z1qv hb (z6j N)) TabOkP.nil)) (fun x y h=>by rw[z1hh];exact h)
def ztb:Code:=(Tryd.f80.body).getD .skip
def L_96:List (List Nat×List Nat):=[([0],[0]),([0,1],[0,4]),([0,1,1],[2,0,4]),([0,1,1,1],[0,2,3,4]),([0,0,1,1,1,1],[13,0,2,3,4]),([1,0,1,1,1,1],[3,2,0,4]),([0,0,0,1,0,1,1,1,1],[15,2,0]),([1,0,0,1,0,1,1,1,1],[0,2]),([0,0,1,0,0,1,0,1,1,1,1],[2,3,0]),(z1db,[2,3,0]),([0,1,0,1,0,1,1,1,1],[0,2,4]),([1,1,0,1,0,1,1,1,1],[3,2,0,4]),(ztw,[26,0,4,2,3]),(zug,[0,2,3]),(zx5,[0,2,3]),(z14h,[2,3,0]),(z16u,[2,3,0]),(zzf,[2,3,0])]
def z258 (N:Nat):Env:=z1c tys glob [(55,z1m N),(88,z8f N),(89,z1n N)] [] [] [0] false [] []
theorem z22x (N:Nat):EnvOk Tryd.prog (z258 N):=zi mixed zn (FnsOk.cons (z1y N) (FnsOk.cons (zev N) (FnsOk.cons (z1z N) (FnsOk.nil)))) (ItsOk.nil)
def z2h (N:Nat):PnT:=pnT [(88,48,z9p N),(89,48,z2g N),(37,48,zy N)]
theorem z4n (N:Nat):PnOk Tryd.prog glob (z2h N):=PnOk.cons (zhv N) (PnOk.cons (z3j N) (PnOk.cons (z16 N) (PnOk.nil)))
def z8e (N:Nat)(p:DT5)(low:Int)(high:Int)(from_:Int)(k0:DT5->Int->Option (Int×(Int×Unit)))(k1:(Int×(Int×Unit))->Option (Int×(Int×Unit)))(k2:DT5->Int->Int->Option (Int×(Int×Unit))):Option (Int×(Int×Unit)) :=
 (z1b N p (44:Int)).bind fun y =>
 cond y.1
 ((z1b N y.2.1 (125:Int)).bind fun y1 =>
 cond y1.1
 (k0 y1.2.1 (-(1:Int)))
 (orP ((z5n N y1.2.1)) (fun z=>k1 z)
 ((z4z N y1.2.1).bind fun y2 =>
 k2 y2.2.1 y2.1 y1.2.1.2.1)))
 (k2 y.2.1 high from_)
def z1zo (N:Nat)(x:z15 SQ8)(K:ExP->List A->Option (Int×(Int×Unit))):Option (Int×(Int×Unit)) :=
 z8e N x.1 x.2.1 x.2.2.1 x.2.2.2.1 (fun a0 a2=>(K .ret (mkS SQ78 30 (a0,x.2.1,a2,())))) (fun a0=>(K (.pan 48) (mkS [(0,.v TT1)] 0 (a0,())))) (fun a0 a2 a3=>(K .normal (mkS SQ8 29 (a0,x.2.1,a2,a3,()))))
def z1vj (N:Nat):HdP (Int×(Int×Unit)):=fun st K=>(unS SQ8 29 (restr [0,2,3,4] 0 st)).bind fun x=>z1zo N x K
def t1_96 (N:Nat):ze6 (Int×(Int×Unit)):=[]
theorem z1qu {N:Nat}{c:Ctx}(hb:Base Tryd.prog (z258 N) c)(hP:PnOk Tryd.prog glob (z2h N)):z22 Tryd.prog c (zh ztb [0,1,1,1,1]) (z1vj N) :=
 z26 (s:=SQ8) (m:=29) (g:=z1zo N) [0,2,3,4] (z1p hb hP N (t1_96 N) L_96 ztb TabOkP.nil [0,1,1,1,1] _ rfl) (fun x K=>by kernel_rfl)
def z8d (N:Nat)(p:DT5)(low:Int)(high:Int)(from_:Int)(k0:(Int×(Int×Unit))->Option (Int×(Int×Unit)))(k1:Option (Int×(Int×Unit))):Option (Int×(Int×Unit)) :=
 cond (decide (high<(if ((1:Int) > low) then (1:Int) else low)))
 (k0 ((2:Int),(from_,())))
 (k1)
def z1yp (N:Nat)(x:z15 SQ8)(K:ExP->List A->Option (Int×(Int×Unit))):Option (Int×(Int×Unit)) :=
 z8d N x.1 x.2.1 x.2.2.1 x.2.2.2.1 (fun a0=>(K (.pan 48) (mkS [(0,.v TT1)] 0 (a0,())))) (K .normal (mkS SQ78 30 (x.1,x.2.1,x.2.2.1,())))
def z1uk (N:Nat):HdP (Int×(Int×Unit)):=fun st K=>(unS SQ8 29 (restr [3,2,0,4] 0 st)).bind fun x=>z1yp N x K
def t2_96 (N:Nat):ze6 (Int×(Int×Unit)):=[]
theorem z1pv {N:Nat}{c:Ctx}(hb:Base Tryd.prog (z258 N) c)(hP:PnOk Tryd.prog glob (z2h N)):z22 Tryd.prog c (zh ztb [0,1,1,1,1,1]) (z1uk N) :=
 z26 (s:=SQ8) (m:=29) (g:=z1yp N) [3,2,0,4] (z1p hb hP N (t2_96 N) L_96 ztb TabOkP.nil [0,1,1,1,1,1] _ rfl) (fun x K=>by kernel_rfl)
def z6a (N:Nat)(p:DT5):Option (Int×(Int×Unit)) :=
 orP ((z5n N p)) (fun z=>some z)
 ((z4z N p).bind fun y =>
 z8e N y.2.1 y.1 y.1 p.2.1
 (fun p1 high=>none)
 (fun p2=>some p2)
 (fun p3 high1 from_=>z8d N p3 y.1 high1 from_
 (fun p4=>some p4)
 (orP ((z25 N p3 (125:Int))) (fun z1=>some z1)
 ((z1k N p3 (125:Int)).bind fun y1 =>
 none))))
def t_96 (N:Nat):ze6 (Int×(Int×Unit)):=[([0,1,1,1,1],z1vj N),([0,1,1,1,1,1],z1uk N)]
theorem z1hg (N:Nat)(x:z15 SQ0):zk2 (z258 N) (z2h N) N (t_96 N) L_96 Tryd.f80 48 TT1 (mkS SQ0 0 x) (fun z=>some z)=z6a N x.1:=by kernel_rfl
def z7g (N:Nat):List A->PnRes:=zk1 SQ0 (fun x=>z6a N x.1) (fun z=>⟨TT1,z⟩)
theorem zfq (N:Nat):ContractP Tryd.prog glob 80 48 (z7g N) :=
 ContractP.of (E:=z258 N) (Pn:=z2h N) (H:=t_96 N) (L:=L_96) (N:=N) (body:=ztb) (t:=TT1) (z22x N) (z4n N) Tryd.func80 (by kernel_rfl) (by decide) (fun _ hb=>(TabOkP.cons (z1qu hb (z4n N)) (TabOkP.cons (z1pv hb (z4n N)) TabOkP.nil))) (fun x y h=>by rw[z1hg];exact h)
abbrev z6:Type:=DT5->Option (Int×(Int×Unit))
def z119:Code:=(Tryd.f83.body).getD .skip
def L_97:List (List Nat×List Nat):=[([0],[0,2]),([0,0,1],[8,0,2]),([1,0,1],[0,2]),([0,1,0,1],[0,2]),([0,1,1],[0,2]),([0,1,1,1],[0,2]),([0,1,1,1,1],[0,3,2]),([0,1,1,1,1,1],[0,3,2]),(z14h,[3,2,0]),(z16u,[2,0]),(zzf,[2,0])]
def E_97 (N:Nat)(self:z6):Env:=z1c tys glob [(36,zds N),(89,z1n N)] [] [] [0] false [] []
theorem z22w (N:Nat)(self:z6):EnvOk Tryd.prog (E_97 N self):=zi mixed zn (FnsOk.cons (z2n N) (FnsOk.cons (z1z N) (FnsOk.nil))) (ItsOk.nil)
def z3k (N:Nat)(self:z6):PnT:=pnT [(89,48,z2g N),(37,48,zy N),(36,48,zk1 SQ0 (fun x=>self x.1) (fun z=>⟨TT1,z⟩))]
theorem z8a (N:Nat)(self:z6)(hself:ContractP Tryd.prog glob 36 48 (zk1 SQ0 (fun x=>self x.1) (fun z=>⟨TT1,z⟩))):PnOk Tryd.prog glob (z3k N self):=PnOk.cons (z3j N) (PnOk.cons (z16 N) (PnOk.cons (hself) (PnOk.nil)))
def z91 (N:Nat)(self:z6)(p:DT5)(x2:DT7)(k0:(Int×(Int×Unit))->Option (Int×(Int×Unit)))(k1:Option (Int×(Int×Unit))):Option (Int×(Int×Unit)) :=
 cond (p.2.2.1 == (16:Int))
 (k0 ((3:Int),(p.2.1,())))
 (k1)
def z1zn (N:Nat)(self:z6)(x:z15 z1f6)(K:ExP->List A->Option (Int×(Int×Unit))):Option (Int×(Int×Unit)) :=
 z91 N self x.1 x.2.1 (fun a0=>(K (.pan 48) (mkS [(0,.v TT1)] 0 (a0,())))) (K .normal (mkS z1f6 33 (x.1,x.2.1,())))
def z1vi (N:Nat)(self:z6):HdP (Int×(Int×Unit)):=fun st K=>(unS z1f6 33 (restr [0,2] 0 st)).bind fun x=>z1zn N self x K
def t1_97 (N:Nat)(self:z6):ze6 (Int×(Int×Unit)):=[]
theorem z1qt {N:Nat}{self:z6}{c:Ctx}(hb:Base Tryd.prog (E_97 N self) c)(hP:PnOk Tryd.prog glob (z3k N self)):z22 Tryd.prog c (zh z119 [0,1]) (z1vi N self) :=
 z26 (s:=z1f6) (m:=33) (g:=z1zn N self) [0,2] (z1p hb hP N (t1_97 N self) L_97 z119 TabOkP.nil [0,1] _ rfl) (fun x K=>by kernel_rfl)
def z6x (N:Nat)(self:z6)(p:DT5):Option (Int×(Int×Unit)) :=
 z91 N self p ((0:Int),(([(0:Int),(0:Int),(0:Int),(0:Int)]:List Int),(([]:List Tree),((0:Int),((0:Int),())))))
 (fun p1=>some p1)
 (orP ((z25 N (p.1,(p.2.1,((IntKind.wrap IntKind.i64 (p.2.2.1+(1:Int))),p.2.2.2))) (40:Int))) (fun z=>some z)
 ((z1k N (p.1,(p.2.1,((IntKind.wrap IntKind.i64 (p.2.2.1+(1:Int))),p.2.2.2))) (40:Int)).bind fun y =>
 orP ((self y.2.1)) (fun z1=>some z1)
 ((zq N y.2.1).bind fun y1 =>
 orP ((z25 N y1.2.1 (41:Int))) (fun z2=>some z2)
 ((z1k N y1.2.1 (41:Int)).bind fun y2 =>
 none))))
def t_97 (N:Nat)(self:z6):ze6 (Int×(Int×Unit)):=[([0,1],z1vi N self)]
theorem z1hf (N:Nat)(self:z6)(x:z15 SQ0):zk2 (E_97 N self) (z3k N self) N (t_97 N self) L_97 Tryd.f83 48 TT1 (mkS SQ0 0 x) (fun z=>some z)=z6x N self x.1:=by kernel_rfl
def z89 (N:Nat)(self:z6):List A->PnRes:=zk1 SQ0 (fun x=>z6x N self x.1) (fun z=>⟨TT1,z⟩)
theorem zgj (N:Nat)(self:z6)(hself:ContractP Tryd.prog glob 36 48 (zk1 SQ0 (fun x=>self x.1) (fun z=>⟨TT1,z⟩))):ContractP Tryd.prog glob 83 48 (z89 N self) :=
 ContractP.of (E:=E_97 N self) (Pn:=z3k N self) (H:=t_97 N self) (L:=L_97) (N:=N) (body:=z119) (t:=TT1) (z22w N self) (z8a N self hself) Tryd.func83 (by kernel_rfl) (by decide) (fun _ hb=>(TabOkP.cons (z1qt hb (z8a N self hself)) TabOkP.nil)) (fun x y h=>by rw[z1hf];exact h)
def z118:Code:=(Tryd.f79.body).getD .skip
def L_98:List (List Nat×List Nat):=[([0],[0,2]),([0,1],[3,0,2]),([0,1,1],[15,0,2,3]),([0,0,1,1,1],[36,0,2,15,3]),([1,0,1,1,1],[2,0]),([0,1,1,0,1,1,1],[40,0,2,15,3]),([1,1,1,0,1,1,1],[2,0]),([0,1,1,1,1,0,1,1,1],[51,0,2,15,3]),([1,1,1,1,1,0,1,1,1],[2,0]),([0,1,1,1,1,1,1,0,1,1,1],[56,0,2,3]),([1,1,1,1,1,1,1,0,1,1,1],[2,0]),([0,0,1,1,1,1,1,1,1,1,0,1,1,1],[18,0,3,2]),([1,0,1,1,1,1,1,1,1,1,0,1,1,1],[0,3,2]),([0,1,0,1,1,1,1,1,1,1,1,0,1,1,1],[0,3,2]),([0,1,1,1,1,1,1,1,1,1,0,1,1,1],[3,2,0]),([0,1,1,1,1,1,1,1,1,1,1,0,1,1,1],[2,0]),([1,1,1,1,1,1,1,1,1,1,1,0,1,1,1],[2,0]),([0,0,1,1,1,1,1,1,1,0,1,1,1],[4,2,0]),([0,1,0,1,1,1,1,1,1,1,0,1,1,1],[2,0]),([1,1,0,1,1,1,1,1,1,1,0,1,1,1],[2,0]),([0,0,1,1,1,1,1,0,1,1,1],[2,0]),([1,0,1,1,1,1,1,0,1,1,1],[2,0]),([0,0,1,1,1,0,1,1,1],[2,0]),([0,1,0,1,1,1,0,1,1,1],[2,0]),([1,1,0,1,1,1,0,1,1,1],[2,0]),(zzc,[2,0]),(z12k,[2,0]),([1,1,1],[2,0])]
def E_98 (N:Nat)(self:z6):Env:=z1c tys glob [(41,z3c N),(83,z6w N (zq N)),(84,zi0 N),(85,z5c N),(86,z2w N),(87,z3e N)] [] [] [0] false [] []
theorem z22v (N:Nat)(self:z6):EnvOk Tryd.prog (E_98 N self):=zi mixed zn (FnsOk.cons (z42 N) (FnsOk.cons (zcm N (zq N) (z2n N)) (FnsOk.cons (zpv N) (FnsOk.cons (za1 N) (FnsOk.cons (z4r N) (FnsOk.cons (z5m N) (FnsOk.nil))))))) (ItsOk.nil)
def z3y (N:Nat)(self:z6):PnT:=pnT [(83,48,z89 N self),(85,48,z6i N),(86,48,z4m N),(37,48,zy N),(36,48,zk1 SQ0 (fun x=>self x.1) (fun z=>⟨TT1,z⟩))]
theorem z93 (N:Nat)(self:z6)(hself:ContractP Tryd.prog glob 36 48 (zk1 SQ0 (fun x=>self x.1) (fun z=>⟨TT1,z⟩))):PnOk Tryd.prog glob (z3y N self):=PnOk.cons (zgj N self hself) (PnOk.cons (ze9 N) (PnOk.cons (z8c N) (PnOk.cons (z16 N) (PnOk.cons (hself) (PnOk.nil)))))
def za2 (N:Nat)(self:z6)(p:DT5)(x2:DT7)(b:Int)(k0:(Int×(Int×Unit))->Option (Int×(Int×Unit)))(k1:Option (Int×(Int×Unit))):Option (Int×(Int×Unit)) :=
 cond (decide ((0:Int)<=(Go.Lib.indexByte ([(92:UInt8),(46:UInt8),(91:UInt8),(93:UInt8),(40:UInt8),(41:UInt8),(123:UInt8),(125:UInt8),(124:UInt8),(42:UInt8),(43:UInt8),(63:UInt8)]:List UInt8) (Nat.toUInt8 (Int.toNat b)))))
 (k0 ((2:Int),(p.2.1,())))
 (k1)
def z1zm (N:Nat)(self:z6)(x:z15 z1f9)(K:ExP->List A->Option (Int×(Int×Unit))):Option (Int×(Int×Unit)) :=
 za2 N self x.1 x.2.1 x.2.2.1 (fun a0=>(K (.pan 48) (mkS [(0,.v TT1)] 0 (a0,())))) (K .normal (mkS z1f9 61 (x.1,x.2.1,x.2.2.1,())))
def z1vh (N:Nat)(self:z6):HdP (Int×(Int×Unit)):=fun st K=>(unS z1f9 61 (restr [3,0,2] 0 st)).bind fun x=>z1zm N self x K
def t1_98 (N:Nat)(self:z6):ze6 (Int×(Int×Unit)):=[]
theorem z1qs {N:Nat}{self:z6}{c:Ctx}(hb:Base Tryd.prog (E_98 N self) c)(hP:PnOk Tryd.prog glob (z3y N self)):z22 Tryd.prog c (zh z118 z1ms) (z1vh N self) :=
 z26 (s:=z1f9) (m:=61) (g:=z1zm N self) [3,0,2] (z1p hb hP N (t1_98 N self) L_98 z118 TabOkP.nil z1ms _ rfl) (fun x K=>by kernel_rfl)
def z7i (N:Nat)(self:z6)(p:DT5):Option (Int×(Int×Unit)) :=
 cond (inR p.2.1 (List.length p.1))
 (cond ((((UInt8.toNat (List.getD p.1 (Int.toNat p.2.1) (0:UInt8))):Nat):Int) == (40:Int))
 (orP ((z6x N self p)) (fun z=>some z)
 ((z73 N (zq N) p).bind fun y =>
 none))
 (cond ((((UInt8.toNat (List.getD p.1 (Int.toNat p.2.1) (0:UInt8))):Nat):Int) == (46:Int))
 ((z2r N (0:Int) (255:Int)).bind fun y1 =>
 none)
 (cond ((((UInt8.toNat (List.getD p.1 (Int.toNat p.2.1) (0:UInt8))):Nat):Int) == (91:Int))
 (orP ((z5d N p)) (fun z1=>some z1)
 ((z56 N p).bind fun y2 =>
 none))
 (cond ((((UInt8.toNat (List.getD p.1 (Int.toNat p.2.1) (0:UInt8))):Nat):Int) == (92:Int))
 (orP ((z3x N p)) (fun z2=>some z2)
 ((z36 N p).bind fun y3 =>
 none))
 (za2 N self p ((0:Int),(([(0:Int),(0:Int),(0:Int),(0:Int)]:List Int),(([]:List Tree),((0:Int),((0:Int),()))))) (((UInt8.toNat (List.getD p.1 (Int.toNat p.2.1) (0:UInt8))):Nat):Int)
 (fun p1=>some p1)
 ((z2r N (((UInt8.toNat (List.getD p.1 (Int.toNat p.2.1) (0:UInt8))):Nat):Int) (((UInt8.toNat (List.getD p.1 (Int.toNat p.2.1) (0:UInt8))):Nat):Int)).bind fun y4 =>
 none))))))
 (none)
def t_98 (N:Nat)(self:z6):ze6 (Int×(Int×Unit)):=[(z1ms,z1vh N self)]
theorem z1he (N:Nat)(self:z6)(x:z15 SQ0):zk2 (E_98 N self) (z3y N self) N (t_98 N self) L_98 Tryd.f79 48 TT1 (mkS SQ0 0 x) (fun z=>some z)=z7i N self x.1:=by kernel_rfl
def z92 (N:Nat)(self:z6):List A->PnRes:=zk1 SQ0 (fun x=>z7i N self x.1) (fun z=>⟨TT1,z⟩)
theorem zgx (N:Nat)(self:z6)(hself:ContractP Tryd.prog glob 36 48 (zk1 SQ0 (fun x=>self x.1) (fun z=>⟨TT1,z⟩))):ContractP Tryd.prog glob 79 48 (z92 N self) :=
 ContractP.of (E:=E_98 N self) (Pn:=z3y N self) (H:=t_98 N self) (L:=L_98) (N:=N) (body:=z118) (t:=TT1) (z22v N self) (z93 N self hself) Tryd.func79 (by kernel_rfl) (by decide) (fun _ hb=>(TabOkP.cons (z1qs hb (z93 N self hself)) TabOkP.nil)) (fun x y h=>by rw[z1he];exact h)
def z117:Code:=(Tryd.f71.body).getD .skip
def L_99:List (List Nat×List Nat):=[([0],[0,2]),([0,1],[0,3,2]),([0,0,1,1],[16,3,2,0]),([1,0,1,1],[3,0,2]),([0,0,1,0,1,1],[2,0]),([1,0,1,0,1,1],[2,0]),([0,1,1,1],[0,4,2,3]),([0,0,1,1,1,1],[29,4,0,2,3]),([0,0,0,0,0,0,0,0,0,0,0,0,0,0,1,0,1,1,1,1],[30,4,0,2,29,3]),([1,0,0,0,0,0,0,0,0,0,0,0,0,0,1,0,1,1,1,1],[29,0,4,2,3]),([0,1,0,0,0,0,0,0,0,0,0,0,0,0,0,1,0,1,1,1,1],[4,0,2]),([0,0,1,0,0,0,0,0,0,0,0,0,0,0,0,1,0,1,1,1,1],[32,0,4,2,29,3]),([1,0,1,0,0,0,0,0,0,0,0,0,0,0,0,1,0,1,1,1,1],[29,0,4,2,3]),([0,1,0,1,0,0,0,0,0,0,0,0,0,0,0,0,1,0,1,1,1,1],[0,4,2]),([0,0,1,1,0,0,0,0,0,0,0,0,0,0,0,0,1,0,1,1,1,1],[34,0,4,2,29,3]),([1,0,1,1,0,0,0,0,0,0,0,0,0,0,0,0,1,0,1,1,1,1],[29,0,4,2,3]),([0,1,0,1,1,0,0,0,0,0,0,0,0,0,0,0,0,1,0,1,1,1,1],[0,4,2]),([0,1,1,1,0,0,0,0,0,0,0,0,0,0,0,0,1,0,1,1,1,1],[36,0,4,2,3]),([1,1,1,1,0,0,0,0,0,0,0,0,0,0,0,0,1,0,1,1,1,1],[3,2,0]),([0,1,1,1,1,0,0,0,0,0,0,0,0,0,0,0,0,1,0,1,1,1,1],[0,4,2]),([1,0,0,0,0,0,0,0,0,0,0,0,1,0,1,1,1,1],[3,2,0]),([0,0,0,0,0,0,0,0,0,0,1,0,1,1,1,1],[4,0,2]),([1,0,0,0,0,0,0,0,0,0,1,0,1,1,1,1],[0,4,2]),(z1fd,[0,4,2]),([0,1,0,0,0,0,0,0,0,1,0,1,1,1,1],[4,2,0]),([1,1,0,0,0,0,0,0,0,1,0,1,1,1,1],[4,2,0]),([0,0,0,0,0,0,1,0,1,1,1,1],[0,4,2]),([0,0,1,0,0,0,0,0,1,0,1,1,1,1],[4,2,0]),([1,0,1,0,0,0,0,0,1,0,1,1,1,1],[4,2,0]),([1,1,0,0,0,0,0,1,0,1,1,1,1],[4,2,0]),([0,0,0,0,1,0,1,1,1,1],[0,4,2]),([0,0,1,0,0,0,1,0,1,1,1,1],[0,4,2]),([1,0,1,0,0,0,1,0,1,1,1,1],[4,2,0]),([1,1,0,0,0,1,0,1,1,1,1],[4,2,0]),(z16d,[3,2,0]),([0,0,1,0,1,0,1,1,1,1],[2,0]),([1,0,1,0,1,0,1,1,1,1],[2,0]),([1,1,0,1,0,1,1,1,1],[4,2,0]),([1,0,1,1,1,1],[4,2,0]),([0,1,1,1,1,1],[2,0]),([1,1,1,1,1,1],[2,0])]
def E_99 (N:Nat)(self:z6):Env:=z1c tys glob [(79,z7h N (zq N)),(80,z69 N)] [] [] [0] false [] []
theorem z22u (N:Nat)(self:z6):EnvOk Tryd.prog (E_99 N self):=zi mixed zn (FnsOk.cons (zdr N (zq N) (z2n N)) (FnsOk.cons (zbd N) (FnsOk.nil))) (ItsOk.nil)
def z3h (N:Nat)(self:z6):PnT:=pnT [(79,48,z92 N self),(80,48,z7g N),(36,48,zk1 SQ0 (fun x=>self x.1) (fun z=>⟨TT1,z⟩))]
theorem z88 (N:Nat)(self:z6)(hself:ContractP Tryd.prog glob 36 48 (zk1 SQ0 (fun x=>self x.1) (fun z=>⟨TT1,z⟩))):PnOk Tryd.prog glob (z3h N self):=PnOk.cons (zgx N self hself) (PnOk.cons (zfq N) (PnOk.cons (hself) (PnOk.nil)))
def z8x (N:Nat)(self:z6)(p:DT5)(x2:DT7)(kid:DT7)(rep:DT7)(x29:Int)(k0:DT7->Option (Int×(Int×Unit)))(k1:Option (Int×(Int×Unit)))(k2:Option (Int×(Int×Unit)))(k3:Option (Int×(Int×Unit))):Option (Int×(Int×Unit)) :=
 cond (x29 == (43:Int))
 (k0 (rep.1,(rep.2.1,(rep.2.2.1,((1:Int),rep.2.2.2.2)))))
 (cond (x29 == (42:Int))
 (k0 rep)
 (cond (x29 == (63:Int))
 (k1)
 (cond (x29 == (123:Int))
 (k2)
 (k3))))
def z1zl (N:Nat)(self:z6)(x:z15 z1ml)(K:ExP->List A->Option (Int×(Int×Unit))):Option (Int×(Int×Unit)) :=
 z8x N self x.1 x.2.1 x.2.2.1 x.2.2.2.1 x.2.2.2.2.1 (fun a2=>(K .normal (mkS z1mi 65 (x.1,x.2.1,a2,())))) (K (.exit 3) (mkS z1mi 65 (x.1,x.2.1,x.2.2.2.1,()))) (K (.exit 4) (mkS z1mi 65 (x.1,x.2.1,x.2.2.2.1,()))) (K (.exit 5) (mkS [(0,.box (.pair .str TT1)),(1,.box TT4),(0,.box TT4)] 66 (x.1,x.2.1,x.2.2.1,())))
def z1vg (N:Nat)(self:z6):HdP (Int×(Int×Unit)):=fun st K=>(unS z1ml 40 (restr [29,4,0,2,3] 0 st)).bind fun x=>z1zl N self x K
def t1_99 (N:Nat)(self:z6):ze6 (Int×(Int×Unit)):=[]
theorem z1qr {N:Nat}{self:z6}{c:Ctx}(hb:Base Tryd.prog (E_99 N self) c)(hP:PnOk Tryd.prog glob (z3h N self)):z22 Tryd.prog c (zh z117 z1fd) (z1vg N self) :=
 z26 (s:=z1ml) (m:=40) (g:=z1zl N self) [29,4,0,2,3] (z1p hb hP N (t1_99 N self) L_99 z117 TabOkP.nil z1fd _ rfl) (fun x K=>by kernel_rfl)
def z6v (N:Nat)(self:z6)(p:DT5):Option (Int×(Int×Unit)) :=
 orP ((z7i N self p)) (fun z=>some z)
 ((z7t N (zq N) p).bind fun y =>
 cond (y.2.1.2.1 == (((List.length y.2.1.1):Nat):Int))
 (none)
 (cond (inR y.2.1.2.1 (List.length y.2.1.1))
 (z8x N self y.2.1 ((0:Int),(([(0:Int),(0:Int),(0:Int),(0:Int)]:List Int),(([]:List Tree),((0:Int),((0:Int),()))))) y.1 ((4:Int),(([(0:Int),(0:Int),(0:Int),(0:Int)]:List Int),((List.map foN ([y.1]:List z14j)),((0:Int),((-(1:Int)),()))))) (((UInt8.toNat (List.getD y.2.1.1 (Int.toNat y.2.1.2.1) (0:UInt8))):Nat):Int)
 (fun rep=>none)
 (none)
 (orP ((z6a N (y.2.1.1,((IntKind.wrap IntKind.i64 (y.2.1.2.1+(1:Int))),y.2.1.2.2)))) (fun z1=>some z1)
 ((z6b N (y.2.1.1,((IntKind.wrap IntKind.i64 (y.2.1.2.1+(1:Int))),y.2.1.2.2))).bind fun y1 =>
 none))
 (none))
 (none)))
def t_99 (N:Nat)(self:z6):ze6 (Int×(Int×Unit)):=[(z1fd,z1vg N self)]
theorem z1hd (N:Nat)(self:z6)(x:z15 SQ0):zk2 (E_99 N self) (z3h N self) N (t_99 N self) L_99 Tryd.f71 48 TT1 (mkS SQ0 0 x) (fun z=>some z)=z6v N self x.1:=by kernel_rfl
def z87 (N:Nat)(self:z6):List A->PnRes:=zk1 SQ0 (fun x=>z6v N self x.1) (fun z=>⟨TT1,z⟩)
theorem zgi (N:Nat)(self:z6)(hself:ContractP Tryd.prog glob 36 48 (zk1 SQ0 (fun x=>self x.1) (fun z=>⟨TT1,z⟩))):ContractP Tryd.prog glob 71 48 (z87 N self) :=
 ContractP.of (E:=E_99 N self) (Pn:=z3h N self) (H:=t_99 N self) (L:=L_99) (N:=N) (body:=z117) (t:=TT1) (z22u N self) (z88 N self hself) Tryd.func71 (by kernel_rfl) (by decide) (fun _ hb=>(TabOkP.cons (z1qr hb (z88 N self hself)) TabOkP.nil)) (fun x y h=>by rw[z1hd];exact h)
def zir:Code:=(Tryd.f54.body).getD .skip
def z1ak:List (List Nat×List Nat):=[([0],[0,2]),([0,1],[0,3,2]),([0,0,1,1],[0,3,2]),(z167,[37,3,0,2]),(z166,[3,0,2]),(z169,[3,2,0]),([0,1,0,0,0,1,1],[0,3,2]),([1,0,0,0,1,1],[0,3,2]),([0,1,1],[3,2,0]),([0,1,1,1],[2,0]),([1,1,1,1],[2,0])]
def z16o (N:Nat)(self:z6):Env:=z1c tys glob [(56,z94 N),(71,z6u N (zq N))] [(3,TT4)] [] [0] false [] []
theorem z1lx (N:Nat)(self:z6):EnvOk Tryd.prog (z16o N self):=zi mixed zn (FnsOk.cons (zea N) (FnsOk.cons (zck N (zq N) (z2n N)) (FnsOk.nil))) (ItsOk.nil)
def z2e (N:Nat)(self:z6):PnT:=pnT [(71,48,z87 N self),(36,48,zk1 SQ0 (fun x=>self x.1) (fun z=>⟨TT1,z⟩))]
theorem z9z (N:Nat)(self:z6)(hself:ContractP Tryd.prog glob 36 48 (zk1 SQ0 (fun x=>self x.1) (fun z=>⟨TT1,z⟩))):PnOk Tryd.prog glob (z2e N self):=PnOk.cons (zgi N self hself) (PnOk.cons (hself) (PnOk.nil))
def zal (N:Nat)(self:z6)(p:DT5)(x2:DT7)(parts:(List DT7))(k0:Option (Int×(Int×Unit)))(k1:Option (Int×(Int×Unit))):Option (Int×(Int×Unit)) :=
 cond (decide (p.2.1<(((List.length p.1):Nat):Int)))
 (cond (inR p.2.1 (List.length p.1))
 (cond ((((UInt8.toNat (List.getD p.1 (Int.toNat p.2.1) (0:UInt8))):Nat):Int) != (124:Int))
 (cond (inR p.2.1 (List.length p.1))
 (cond ((((UInt8.toNat (List.getD p.1 (Int.toNat p.2.1) (0:UInt8))):Nat):Int) != (41:Int))
 (k0)
 (k1))
 (none))
 (k1))
 (none))
 (k1)
def z1el (N:Nat)(self:z6)(x:z15 SQ3)(K:ExP->List A->Option (Int×(Int×Unit))):Option (Int×(Int×Unit)) :=
 zal N self x.1 x.2.1 x.2.2.1 (K .normal (mkS SQ3 41 (x.1,x.2.1,x.2.2.1,()))) (K (.exit 0) (mkS SQ3 41 (x.1,x.2.1,x.2.2.1,())))
def z1e9 (N:Nat)(self:z6):HdP (Int×(Int×Unit)):=fun st K=>(unS SQ3 41 (restr [0,3,2] 0 st)).bind fun x=>z1el N self x K
def z1o0 (N:Nat)(self:z6):ze6 (Int×(Int×Unit)):=[]
theorem z1gs {N:Nat}{self:z6}{c:Ctx}(hb:Base Tryd.prog (z16o N self) c)(hP:PnOk Tryd.prog glob (z2e N self)):z22 Tryd.prog c (zh zir [0,0,0,0,1,1]) (z1e9 N self) :=
 z26 (s:=SQ3) (m:=41) (g:=z1el N self) [0,3,2] (z1p hb hP N (z1o0 N self) z1ak zir TabOkP.nil [0,0,0,0,1,1] _ rfl) (fun x K=>by kernel_rfl)
def zak (N:Nat)(self:z6)(x2:DT7)(p:DT5)(parts:(List DT7))(rec:DT5->(List DT7)->Option (Int×(Int×Unit)))(k0:(Int×(Int×Unit))->Option (Int×(Int×Unit)))(k1:DT5->(List DT7)->Option (Int×(Int×Unit))):Option (Int×(Int×Unit)) :=
 zal N self p x2 parts
 (orP ((z6v N self p)) (fun z=>k0 z)
 ((z72 N (zq N) p).bind fun y =>
 cond (decide ((((List.length parts)+1)*80)<=70368744177664))
 (rec y.2.1 (parts++([y.1]:List z14j)))
 (none)))
 (k1 p parts)
def zhx (N:Nat)(self:z6)(p:DT5)(x2:DT7)(parts:(List DT7))(k0:(Int×(Int×Unit))->Option (Int×(Int×Unit)))(k1:DT5->(List DT7)->Option (Int×(Int×Unit))):Option (Int×(Int×Unit)) :=
 iter (fun (v:(DT5×(List DT7))) r=>zak N self x2 v.1 v.2 (fun p parts=>(r (p,parts))) k0 k1) N (p,parts)
def z1eo (N:Nat)(self:z6)(i:DT7)(v:(DT5×(List DT7)))(r:(DT5×(List DT7))->Option (Int×(Int×Unit)))(K:ExP->List A->Option (Int×(Int×Unit))):Option (Int×(Int×Unit)) :=
 zak N self i v.1 v.2 (fun p parts=>(r (p,parts))) (fun a0=>(K (.pan 48) (mkS [(0,.v TT1)] 0 (a0,())))) (fun a0 a2=>(K (.exit 0) (mkS SQ3 41 (a0,i,a2,()))))
def z1ec (N:Nat)(self:z6):HdP (Int×(Int×Unit)):=fun st K=>(unS SQ3 41 (restr [0,3,2] 0 st)).bind fun x=>iter (fun v r=>z1eo N self ((fun x=>x.2.1) x) v r K) N ((fun x=>(x.1,x.2.2.1)) x)
def z1o3 (N:Nat)(self:z6):ze6 (Int×(Int×Unit)):=[([0,0,0,0,1,1],z1e9 N self)]
theorem z1gv {N:Nat}{self:z6}{c:Ctx}(hb:Base Tryd.prog (z16o N self) c)(hP:PnOk Tryd.prog glob (z2e N self)):z22 Tryd.prog c (zh zir [0,0,1,1]) (z1ec N self) :=
 zr8 (s:=SQ3) (m:=41) (z1eo N self) [0,3,2] N (fun x=>x.2.1) (fun x=>(x.1,x.2.2.1)) (fun i v=>(v.1,i,v.2,())) (fun _=>rfl) (z1p hb hP N (z1o3 N self) z1ak zir (TabOkP.cons (z1gs hb hP) TabOkP.nil) [0,0,0,1,1] _ rfl) (fun i v r K=>by kernel_rfl)
def zam (N:Nat)(self:z6)(p:DT5)(x2:DT7)(parts:(List DT7))(k0:(Int×(Int×Unit))->Option (Int×(Int×Unit)))(k1:DT5->(List DT7)->Option (Int×(Int×Unit))):Option (Int×(Int×Unit)) :=
 zhx N self p x2 parts
 (fun p1=>k0 p1)
 (fun p2 znp=>k1 p2 znp)
def z1es (N:Nat)(self:z6)(x:z15 SQ3)(K:ExP->List A->Option (Int×(Int×Unit))):Option (Int×(Int×Unit)) :=
 zam N self x.1 x.2.1 x.2.2.1 (fun a0=>(K (.pan 48) (mkS [(0,.v TT1)] 0 (a0,())))) (fun a0 a2=>(K .normal (mkS SQ3 41 (a0,x.2.1,a2,()))))
def z1eg (N:Nat)(self:z6):HdP (Int×(Int×Unit)):=fun st K=>(unS SQ3 41 (restr [0,3,2] 0 st)).bind fun x=>z1es N self x K
def z1o7 (N:Nat)(self:z6):ze6 (Int×(Int×Unit)):=[([0,0,1,1],z1ec N self)]
theorem z1gz {N:Nat}{self:z6}{c:Ctx}(hb:Base Tryd.prog (z16o N self) c)(hP:PnOk Tryd.prog glob (z2e N self)):z22 Tryd.prog c (zh zir [0,1,1]) (z1eg N self) :=
 z26 (s:=SQ3) (m:=41) (g:=z1es N self) [0,3,2] (z1p hb hP N (z1o7 N self) z1ak zir (TabOkP.cons (z1gv hb hP) TabOkP.nil) [0,1,1] _ rfl) (fun x K=>by kernel_rfl)
def z5p (N:Nat)(self:z6)(p:DT5):Option (Int×(Int×Unit)) :=
 zam N self p ((0:Int),(([(0:Int),(0:Int),(0:Int),(0:Int)]:List Int),(([]:List Tree),((0:Int),((0:Int),()))))) ([]:List z14j)
 (fun p1=>some p1)
 (fun p2 parts=>(zeg N (2:Int) (List.map foN parts)).bind fun y =>
 none)
def z1nx (N:Nat)(self:z6):ze6 (Int×(Int×Unit)):=[([0,1,1],z1eg N self)]
theorem z1c6 (N:Nat)(self:z6)(x:z15 SQ0):zk2 (z16o N self) (z2e N self) N (z1nx N self) z1ak Tryd.f54 48 TT1 (mkS SQ0 0 x) (fun z=>some z)=z5p N self x.1:=by kernel_rfl
def z9y (N:Nat)(self:z6):List A->PnRes:=zk1 SQ0 (fun x=>z5p N self x.1) (fun z=>⟨TT1,z⟩)
theorem zhy (N:Nat)(self:z6)(hself:ContractP Tryd.prog glob 36 48 (zk1 SQ0 (fun x=>self x.1) (fun z=>⟨TT1,z⟩))):ContractP Tryd.prog glob 54 48 (z9y N self) :=
 ContractP.of (E:=z16o N self) (Pn:=z2e N self) (H:=z1nx N self) (L:=z1ak) (N:=N) (body:=zir) (t:=TT1) (z1lx N self) (z9z N self hself) Tryd.func54 (by kernel_rfl) (by decide) (fun _ hb=>(TabOkP.cons (z1gz hb (z9z N self hself)) TabOkP.nil)) (fun x y h=>by rw[z1c6];exact h)
def zrc:Code:=(Tryd.f36.body).getD .skip
def z1lq:List (List Nat×List Nat):=[([0],[0,2]),([0,1],[0,3,2]),([0,0,1,1],[0,3,2]),(z167,[8,3,0,2]),(z166,[3,0,2]),(z169,[3,2,0]),([0,1,0,0,0,1,1],[0,3,2]),([1,0,0,0,1,1],[0,3,2]),([0,1,1],[3,2,0]),([0,1,1,1],[2,0]),([1,1,1,1],[2,0])]
def z1dr (N:Nat)(self:DT5->Option (Int×(Int×Unit))):Env:=z1c tys glob [(54,z8h N (zq N)),(55,z1m N),(56,z94 N)] [(3,TT4)] [] [0] false [] []
theorem z1lw (N:Nat)(self:DT5->Option (Int×(Int×Unit))):EnvOk Tryd.prog (z1dr N self):=zi mixed zn (FnsOk.cons (zf2 N (zq N) (z2n N)) (FnsOk.cons (z1y N) (FnsOk.cons (zea N) (FnsOk.nil)))) (ItsOk.nil)
def z4s (N:Nat)(self:DT5->Option (Int×(Int×Unit))):PnT:=pnT [(54,48,z9y N self),(36,48,zk1 SQ0 (fun x=>self x.1) (fun z=>⟨TT1,z⟩))]
theorem za3 (N:Nat)(self:DT5->Option (Int×(Int×Unit)))(hself:ContractP Tryd.prog glob 36 48 (zk1 SQ0 (fun x=>self x.1) (fun z=>⟨TT1,z⟩))):PnOk Tryd.prog glob (z4s N self):=PnOk.cons (zhy N self hself) (PnOk.cons (hself) (PnOk.nil))
def zan (N:Nat)(self:DT5->Option (Int×(Int×Unit)))(x2:DT7)(p:DT5)(parts:(List DT7))(rec:DT5->(List DT7)->Option (Int×(Int×Unit)))(k0:(Int×(Int×Unit))->Option (Int×(Int×Unit)))(k1:DT5->(List DT7)->Option (Int×(Int×Unit))):Option (Int×(Int×Unit)) :=
 (z1b N p (124:Int)).bind fun y =>
 cond y.1
 (orP ((z5p N self y.2.1)) (fun z=>k0 z)
 ((z51 N (zq N) y.2.1).bind fun y1 =>
 cond (decide ((((List.length parts)+1)*80)<=70368744177664))
 (rec y1.2.1 (parts++([y1.1]:List z14j)))
 (none)))
 (k1 y.2.1 parts)
def zhz (N:Nat)(self:DT5->Option (Int×(Int×Unit)))(p:DT5)(x2:DT7)(parts:(List DT7))(k0:(Int×(Int×Unit))->Option (Int×(Int×Unit)))(k1:DT5->(List DT7)->Option (Int×(Int×Unit))):Option (Int×(Int×Unit)) :=
 iter (fun (v:(DT5×(List DT7))) r=>zan N self x2 v.1 v.2 (fun p parts=>(r (p,parts))) k0 k1) N (p,parts)
def z1er (N:Nat)(self:DT5->Option (Int×(Int×Unit)))(i:DT7)(v:(DT5×(List DT7)))(r:(DT5×(List DT7))->Option (Int×(Int×Unit)))(K:ExP->List A->Option (Int×(Int×Unit))):Option (Int×(Int×Unit)) :=
 zan N self i v.1 v.2 (fun p parts=>(r (p,parts))) (fun a0=>(K (.pan 48) (mkS [(0,.v TT1)] 0 (a0,())))) (fun a0 a2=>(K (.exit 0) (mkS SQ3 12 (a0,i,a2,()))))
def z1ef (N:Nat)(self:DT5->Option (Int×(Int×Unit))):HdP (Int×(Int×Unit)):=fun st K=>(unS SQ3 12 (restr [0,3,2] 0 st)).bind fun x=>iter (fun v r=>z1er N self ((fun x=>x.2.1) x) v r K) N ((fun x=>(x.1,x.2.2.1)) x)
def z1o6 (N:Nat)(self:DT5->Option (Int×(Int×Unit))):ze6 (Int×(Int×Unit)):=[]
theorem z1gy {N:Nat}{self:DT5->Option (Int×(Int×Unit))}{c:Ctx}(hb:Base Tryd.prog (z1dr N self) c)(hP:PnOk Tryd.prog glob (z4s N self)):z22 Tryd.prog c (zh zrc [0,0,1,1]) (z1ef N self) :=
 zr8 (s:=SQ3) (m:=12) (z1er N self) [0,3,2] N (fun x=>x.2.1) (fun x=>(x.1,x.2.2.1)) (fun i v=>(v.1,i,v.2,())) (fun _=>rfl) (z1p hb hP N (z1o6 N self) z1lq zrc TabOkP.nil [0,0,0,1,1] _ rfl) (fun i v r K=>by kernel_rfl)
def zbe (N:Nat)(self:DT5->Option (Int×(Int×Unit)))(p:DT5):Option (Int×(Int×Unit)) :=
 orP ((z5p N self p)) (fun z=>some z)
 ((z51 N (zq N) p).bind fun y =>
 zhz N self y.2.1 ((0:Int),(([(0:Int),(0:Int),(0:Int),(0:Int)]:List Int),(([]:List Tree),((0:Int),((0:Int),()))))) ([y.1]:List z14j)
 (fun p1=>some p1)
 (fun p2 parts=>(zeg N (3:Int) (List.map foN parts)).bind fun y1 =>
 none))
def z1nw (N:Nat)(self:DT5->Option (Int×(Int×Unit))):ze6 (Int×(Int×Unit)):=[([0,0,1,1],z1ef N self)]
theorem z1c5 (N:Nat)(self:DT5->Option (Int×(Int×Unit)))(x:z15 SQ0):zk2 (z1dr N self) (z4s N self) N (z1nw N self) z1lq Tryd.f36 48 TT1 (mkS SQ0 0 x) (fun z=>some z)=zbe N self x.1:=by kernel_rfl
def z1q:Nat->DT5->Option (Int×(Int×Unit))
 | 0=>fun _=>none
 | N+1=>zbe (N+1) (z1q N)
def zgy (N:Nat):List A->PnRes:=zk1 SQ0 (fun x=>z1q N x.1) (fun z=>⟨TT1,z⟩)
theorem z6c:∀ N:Nat,ContractP Tryd.prog glob 36 48 (zgy N)
 | 0=>ContractP.zero Tryd.func36 (body:=zrc) (by kernel_rfl) (by decide) (fun _=>rfl)
 | N+1=>ContractP.of (E:=z1dr (N+1) (z1q N)) (Pn:=z4s (N+1) (z1q N)) (H:=z1nw (N+1) (z1q N)) (L:=z1lq) (N:=(N+1)) (body:=zrc) (t:=TT1) (z1lw (N+1) (z1q N)) (za3 (N+1) (z1q N) (z6c N)) Tryd.func36 (by kernel_rfl) (by decide) (fun _ hb=>(TabOkP.cons (z1gy hb (za3 (N+1) (z1q N) (z6c N))) TabOkP.nil)) (fun x y h=>by rw[z1c5];exact h)
end
end Go.Proofs.YtgbcebmahbieoaaDoorLg
set_option linter.all false
set_option maxRecDepth 100000
namespace Go.Proofs.YtgbcebmahbieoaaDoorLg
noncomputable section
open Go Go.Lift
def Cl (w:World)(n:Nat)(cs:List Value):Prop:=∀ i v,cs[i]?=some v->w.cell? ⟨n,i,none⟩=some v/\w.frozen? ⟨n,i,none⟩=false
def PsW (w0:World)(S0 S:Hp)(W:World):Prop:=WF w0 (fun _=>False) W/\Lift.Sub S0 S/\Lift.Sub S (hp W)/\∀ k,S k≠none->S0 k≠none\/w0.heap.size<=k
theorem PsW.drew {w0 W:World}{S0 S:Hp}(h:PsW w0 S0 S W):PsW w0 S0 S W.drew:=by
 obtain⟨h1,h2,h3,h4⟩:=h;exact⟨⟨h1.size,h1.same,h1.tape,h1.os,h1.output⟩,h2,h3,h4⟩
theorem PsW.alloc {w0 W:World}{S0 S:Hp}(h:PsW w0 S0 S W)(cs:Array Value)(E:Nat):PsW w0 S0 S (W.alloc (.cells cs E)):=by
 obtain⟨h1,h2,h3,h4⟩:=h;have hh:(W.alloc (.cells cs E)).heap=W.heap.push (.cells cs E (0,0)):=rfl;have hk:∀ k,k<W.heap.size->(W.alloc (.cells cs E)).heap[k]?=W.heap[k]?:=fun k hk=>by
  rw[hh,Array.getElem?_push,if_neg (by omega)]
 refine⟨⟨by rw[hh,Array.size_push];have:=h1.size;omega,fun k h1' h2'=>by rw[hk k (by have:=h1.size;omega)];exact h1.same k h1' h2',h1.tape,h1.os,h1.output⟩,h2,fun k q ho=>?_,h4⟩;have:=h3 k q ho;simp only[hp] at this ⊢;rw[hk k (Array.getElem?_eq_some_iff.1 this).1];exact this
theorem zk9 {W:World}{p i:Nat}{v:Value}{k:Nat}(hk:k≠p):(W.setCell ⟨p,i,none⟩ v).heap[k]?=W.heap[k]?:=by
 unfold World.setCell;split<;>simp[Array.getElem?_modify,Ne.symm hk]
theorem PsW.setCell {w0 W:World}{S0 S:Hp}{p i:Nat}{v:Value}(h:PsW w0 S0 S W)(hp':w0.heap.size<=p)(hS:S p=none):PsW w0 S0 S (W.setCell ⟨p,i,none⟩ v):=by
 obtain⟨h1,h2,h3,h4⟩:=h;have hsz:(W.setCell ⟨p,i,none⟩ v).heap.size=W.heap.size:=by
  unfold World.setCell;split<;>simp
 have ht:(W.setCell ⟨p,i,none⟩ v).tape=W.tape/\(W.setCell ⟨p,i,none⟩ v).os=W.os/\(W.setCell ⟨p,i,none⟩ v).output=W.output:=by
  unfold World.setCell;split
  . exact⟨rfl,rfl,rfl⟩
  . exact⟨rfl,rfl,rfl⟩
 refine⟨⟨by rw[hsz];exact h1.size,fun k h1' h2'=>by rw[zk9 (by omega)];exact h1.same k h1' h2',by rw[ht.1];exact h1.tape,by rw[ht.2.1];exact h1.os,by rw[ht.2.2];exact h1.output⟩,h2,fun k q ho=>?_,h4⟩;have hk:k≠p:=fun e=>by rw[e,hS] at ho;cases ho
 have:=h3 k q ho;simp only[hp] at this ⊢;rw[zk9 hk];exact this
theorem z67 {w:World}{n:Nat}{cs:List Value}(h:Cl w n cs)(i:Nat)(v:Value):Cl (w.setCell ⟨n,i,none⟩ v) n (cs.set i v):=by
 intro j u hj;rw[List.getElem?_set] at hj;by_cases e:i=j
 . subst e;rw[if_pos rfl] at hj;split at hj
   . rename_i hl;cases hj;obtain⟨h1,h2⟩:=h i _ (List.getElem?_eq_getElem hl);constructor<;>simp[go_sem,h1,h2]
   . cases hj
 . rw[if_neg e] at hj;obtain⟨h1,h2⟩:=h j _ hj;have e':j≠i:=fun h=>e h.symm
   constructor<;>simp[go_sem,h1,h2,e,e']
theorem z1t {w:World}{n m:Nat}{cs:List Value}(h:Cl w n cs)(hne:m≠n)(i:Nat)(v:Value):Cl (w.setCell ⟨m,i,none⟩ v) n cs:=by
 intro j u hj;obtain⟨h1,h2⟩:=h j _ hj;have e':n≠m:=fun h=>hne h.symm
 constructor<;>simp[go_sem,h1,h2,hne,e']
theorem zl7 {w:World}{n:Nat}{c:Value}{cs:List Value}(h:Cl w n (c::cs))(o:Obj):Cl (w.alloc o) n (c::cs):=by
 have hlt:n<w.heap.size:=by
  have h0:=(h 0 c rfl).1;rcases Nat.lt_or_ge n w.heap.size with h1|h1
  . exact h1
  . simp[World.cell?,Array.getElem?_eq_none h1] at h0
 intro i v hi;obtain⟨h1,h2⟩:=h i v hi;exact⟨by rw[World.cell?_alloc_past _ _ _ hlt];exact h1,by rw[World.frozen?_alloc_past _ _ _ hlt];exact h2⟩
theorem zyz {w:World}{n:Nat}{c:Value}{cs:List Value}(h:Cl w n (c::cs)):n<w.heap.size:=by
 have h0:=(h 0 c rfl).1;rcases Nat.lt_or_ge n w.heap.size with h1|h1
 . exact h1
 . simp[World.cell?,Array.getElem?_eq_none h1] at h0
theorem ps_idle {w:World}{n0 n1:Nat} :
 CallsD Go.Proofs.Tryd.prog 35 #[.pointer (some ⟨n0,0,none⟩),.pointer (some ⟨n1,0,none⟩)] .returning w fun e u w'=>(∃ v,e=.returned v)/\u=.returning/\w'=w.alloc (Obj.cells #[Value.int IntKind.i64 0,Value.int IntKind.i64 0] 48):=by
 refine callsD_of_wpS Go.Proofs.Tryd.func35 rfl fun c₀ cs hu=>?_
 have ha:∀ W:World,(Instr.typeAssert .nilIface 20 48 true).run Go.Proofs.Tryd.prog W=.ok (.tuple #[.agg #[.int .i64 0,.int .i64 0],.bool false]) W:=fun W=>by kernel_rfl
 apply wpS_seq;apply wpS_region;simp only[Go.Proofs.Tryd.ntmps35,List.size_toArray,List.length_cons,List.length_nil,Nat.reduceAdd,Nat.reduceSub,Array.replicate_succ,
  Array.replicate_zero,List.push_toArray,List.append_toArray,List.nil_append,List.cons_append]
 simp[wpOpsS,go_sem,recoverD,hu,Exit.thenS,ha,List.range_succ];refine wpS_of_wp ?_
 go_wp2
 cases c₀
 simp_all [bodyPostS,results,Go.Proofs.Tryd.results35]
set_option maxHeartbeats 16000000 in
theorem zxq {w:World}{n0 n1:Nat}{e a:Int}{y0 y1:Value}{c0 c1 c2 c3 c4 c5 c6 c7:Value}{R:World->Prop}(h0:Cl (w.alloc (Obj.cells #[Value.int IntKind.i64 e,Value.int IntKind.i64 a] 48)) n0 [c0,c1,c2,c3,c4,c5,c6,c7])(h1:Cl (w.alloc (Obj.cells #[Value.int IntKind.i64 e,Value.int IntKind.i64 a] 48)) n1 [y0,y1])(hne:n0≠n1)(hn2:n0≠w.heap.size)(hn3:n1≠w.heap.size)
 (hR:∀ w',Cl w' n0 [.int .i64 0,.int .u64 0,.int .u64 0,.int .u64 0,.int .u64 0,.slice none 0 0,.int .i64 0,.int .i64 0]->Cl w' n1 [.int .i64 e,.int .i64 a] →
  (∀ (w0:World) (S0 S:Hp),PsW w0 S0 S w->w0.heap.size<=n0->w0.heap.size<=n1->S n0=none->S n1=none->PsW w0 S0 S w')->R w') :
 CallsD Go.Proofs.Tryd.prog 35 #[.pointer (some ⟨n0,0,none⟩),.pointer (some ⟨n1,0,none⟩)] (.panicking [{ v:=.iface 48 (.agg #[.int .i64 e,.int .i64 a]),recovered:=false }]) w fun r u w'=>(∃ v,r=.returned v)/\u=.panicking [{ v:=.iface 48 (.agg #[.int .i64 e,.int .i64 a]),recovered:=true }]/\R w':=by
 refine callsD_of_wpS Go.Proofs.Tryd.func35 rfl fun c₀ cs hu=>?_
 have ha:∀ W:World,(Instr.typeAssert (.iface 48 (.agg #[.int .i64 e,.int .i64 a])) 20 48 true).run Go.Proofs.Tryd.prog W=.ok (.tuple #[.agg #[.int .i64 e,.int .i64 a],.bool true]) W:=fun W=>by kernel_rfl
 have c00:(w.alloc (Obj.cells #[Value.int IntKind.i64 e,Value.int IntKind.i64 a] 48)).cell? ⟨n0,0,none⟩=some (c0):=(h0 0 _ rfl).1;have z00:(w.alloc (Obj.cells #[Value.int IntKind.i64 e,Value.int IntKind.i64 a] 48)).frozen? ⟨n0,0,none⟩=false:=(h0 0 _ rfl).2;have c01:(w.alloc (Obj.cells #[Value.int IntKind.i64 e,Value.int IntKind.i64 a] 48)).cell? ⟨n0,1,none⟩=some (c1):=(h0 1 _ rfl).1;have z01:(w.alloc (Obj.cells #[Value.int IntKind.i64 e,Value.int IntKind.i64 a] 48)).frozen? ⟨n0,1,none⟩=false:=(h0 1 _ rfl).2;have c02:(w.alloc (Obj.cells #[Value.int IntKind.i64 e,Value.int IntKind.i64 a] 48)).cell? ⟨n0,2,none⟩=some (c2):=(h0 2 _ rfl).1;have z02:(w.alloc (Obj.cells #[Value.int IntKind.i64 e,Value.int IntKind.i64 a] 48)).frozen? ⟨n0,2,none⟩=false:=(h0 2 _ rfl).2;have c03:(w.alloc (Obj.cells #[Value.int IntKind.i64 e,Value.int IntKind.i64 a] 48)).cell? ⟨n0,3,none⟩=some (c3):=(h0 3 _ rfl).1;have z03:(w.alloc (Obj.cells #[Value.int IntKind.i64 e,Value.int IntKind.i64 a] 48)).frozen? ⟨n0,3,none⟩=false:=(h0 3 _ rfl).2;have c04:(w.alloc (Obj.cells #[Value.int IntKind.i64 e,Value.int IntKind.i64 a] 48)).cell? ⟨n0,4,none⟩=some (c4):=(h0 4 _ rfl).1;have z04:(w.alloc (Obj.cells #[Value.int IntKind.i64 e,Value.int IntKind.i64 a] 48)).frozen? ⟨n0,4,none⟩=false:=(h0 4 _ rfl).2;have c05:(w.alloc (Obj.cells #[Value.int IntKind.i64 e,Value.int IntKind.i64 a] 48)).cell? ⟨n0,5,none⟩=some (c5):=(h0 5 _ rfl).1;have z05:(w.alloc (Obj.cells #[Value.int IntKind.i64 e,Value.int IntKind.i64 a] 48)).frozen? ⟨n0,5,none⟩=false:=(h0 5 _ rfl).2;have c06:(w.alloc (Obj.cells #[Value.int IntKind.i64 e,Value.int IntKind.i64 a] 48)).cell? ⟨n0,6,none⟩=some (c6):=(h0 6 _ rfl).1;have z06:(w.alloc (Obj.cells #[Value.int IntKind.i64 e,Value.int IntKind.i64 a] 48)).frozen? ⟨n0,6,none⟩=false:=(h0 6 _ rfl).2;have c07:(w.alloc (Obj.cells #[Value.int IntKind.i64 e,Value.int IntKind.i64 a] 48)).cell? ⟨n0,7,none⟩=some (c7):=(h0 7 _ rfl).1;have z07:(w.alloc (Obj.cells #[Value.int IntKind.i64 e,Value.int IntKind.i64 a] 48)).frozen? ⟨n0,7,none⟩=false:=(h0 7 _ rfl).2;have c10:(w.alloc (Obj.cells #[Value.int IntKind.i64 e,Value.int IntKind.i64 a] 48)).cell? ⟨n1,0,none⟩=some (y0):=(h1 0 _ rfl).1;have z10:(w.alloc (Obj.cells #[Value.int IntKind.i64 e,Value.int IntKind.i64 a] 48)).frozen? ⟨n1,0,none⟩=false:=(h1 0 _ rfl).2;have c11:(w.alloc (Obj.cells #[Value.int IntKind.i64 e,Value.int IntKind.i64 a] 48)).cell? ⟨n1,1,none⟩=some (y1):=(h1 1 _ rfl).1;have z11:(w.alloc (Obj.cells #[Value.int IntKind.i64 e,Value.int IntKind.i64 a] 48)).frozen? ⟨n1,1,none⟩=false:=(h1 1 _ rfl).2;apply wpS_seq;apply wpS_region;simp only[Go.Proofs.Tryd.ntmps35,List.size_toArray,List.length_cons,List.length_nil,Nat.reduceAdd,Nat.reduceSub,Array.replicate_succ,
  Array.replicate_zero,List.push_toArray,List.append_toArray,List.nil_append,List.cons_append]
 simp[wpOpsS,go_sem,recoverD,hu,Exit.thenS,ha,List.range_succ];refine wpS_of_wp ?_
 go_wp2
 go_region
 have hfin:R ((((((((((((w.alloc (Obj.cells #[Value.int IntKind.i64 e,Value.int IntKind.i64 a] 48)).setCell { block:=n0,off:=0 } (.int .i64 0)).setCell { block:=n0,off:=1 } (.int .u64 0)).setCell { block:=n0,off:=2 } (.int .u64 0)).setCell { block:=n0,off:=3 } (.int .u64 0)).setCell { block:=n0,off:=4 } (.int .u64 0)).setCell { block:=n0,off:=5 } (.slice none 0 0)).setCell { block:=n0,off:=6 } (.int .i64 0)).setCell { block:=n0,off:=7 } (.int .i64 0)).setCell { block:=n1,off:=0 } (.int .i64 e)).setCell { block:=n1,off:=1 } (.int .i64 a)).drew):=by
  refine hR _ ?_ ?_ ?_
  . intro i v hi;rcases i with _|_|_|_|_|_|_|_|i
    case succ.succ.succ.succ.succ.succ.succ.succ=>simp at hi
    all_goals (simp only[List.getElem?_cons_zero,List.getElem?_cons_succ,Option.some.injEq] at hi;subst hi;constructor<;>simp[go_sem, *])
  . intro i v hi;rcases i with _|_|i
    case succ.succ=>simp at hi
    all_goals (simp only[List.getElem?_cons_zero,List.getElem?_cons_succ,Option.some.injEq] at hi;subst hi;constructor<;>simp[go_sem, *])
  . intro w0 S0 S hw hl0 hl1 hS0 hS1;exact (((((((((((hw.alloc _ _).setCell hl0 hS0).setCell hl0 hS0).setCell hl0 hS0).setCell hl0 hS0).setCell hl0 hS0).setCell hl0 hS0).setCell hl0 hS0).setCell hl0 hS0).setCell hl1 hS1).setCell hl1 hS1).drew
 change bodyPostS Go.Proofs.Tryd.prog Go.Proofs.Tryd.f35 c₀ cs _ _ _ _ _;clear hR h0 h1 c00 z00 c01 z01 c02 z02 c03 z03 c04 z04 c05 z05 c06 z06 c07 z07 c10 z10 c11 z11;cases c₀
 simp_all [bodyPostS,results,Go.Proofs.Tryd.results35]
theorem z1gl {w:World}{s:List UInt8}{S:Hp}(hS:Lift.Sub S (hp w))(hlen:(256:Int)<s.length) :
 Calls Go.Proofs.Tryd.prog 17 #[.string ⟨⟨s⟩⟩] w fun r w'=>r=.returned (.tuple #[.agg #[Value.int IntKind.i64 0,Value.int IntKind.u64 0,Value.int IntKind.u64 0,Value.int IntKind.u64 0,Value.int IntKind.u64 0,Value.slice none 0 0,Value.int IntKind.i64 0,Value.int IntKind.i64 0],.agg #[.int .i64 3,.int .i64 256]])/\PsW w S S w':=by
 have h0:PsW w S S w:=⟨WF.refl _ _,Lift.Sub.refl _,hS,fun k hk=>.inl hk⟩
 have hn0:S w.heap.size=none:=by
  cases hx:S w.heap.size with
  | none=>rfl
  | some o=>exact absurd (z98 (hS _ _ hx)) (Nat.lt_irrefl _)
 have hn1:S (w.heap.size+1)=none:=by
  cases hx:S (w.heap.size+1) with
  | none=>rfl
  | some o=>exact absurd (z98 (hS _ _ hx)) (by omega)
 go_enter Go.Proofs.Tryd.func17,Go.Proofs.Tryd.ntmps17
 go_wp2
 simp[bodyPost,results,Go.Proofs.Tryd.results17,go_sem];exact (h0.alloc _ _).alloc _ _
set_option maxHeartbeats 16000000 in
theorem ps_ok {w:World}{s:List UInt8}{S:Hp}{at_:Int}{F:Hp->Value->Prop}(hlen:¬ (256:Int)<s.length)
 (hc:Calls Go.Proofs.Tryd.prog 36 #[.pointer (some ⟨w.heap.size+1+1,0,none⟩)] (((w.alloc (Obj.cells #[Value.int IntKind.i64 0,Value.int IntKind.u64 0,Value.int IntKind.u64 0,Value.int IntKind.u64 0,Value.int IntKind.u64 0,Value.slice none 0 0,Value.int IntKind.i64 0,Value.int IntKind.i64 0] 46)).alloc (Obj.cells #[Value.int IntKind.i64 0,Value.int IntKind.i64 0] 48)).alloc (Obj.cells #[Value.string ⟨⟨s⟩⟩,Value.int IntKind.i64 0,Value.int IntKind.i64 0] 75)) fun r w2=>∃ (k a0 a1 a2 a3 lo hi:Int) (sp:Option Addr) (sn sc:Nat) (S':Hp),r=.returned (.agg #[.int .i64 k,.int .u64 a0,.int .u64 a1,.int .u64 a2,.int .u64 a3,.slice sp sn sc,.int .i64 lo,.int .i64 hi])/\Cl w2 (w.heap.size) [.int .i64 0,.int .u64 0,.int .u64 0,.int .u64 0,.int .u64 0,.slice none 0 0,.int .i64 0,.int .i64 0]/\Cl w2 (w.heap.size+1) [.int .i64 0,.int .i64 0]/\w2.cell? ⟨w.heap.size+1+1,1,none⟩=some (.int .i64 at_)/\S' (w.heap.size)=none/\S' (w.heap.size+1)=none/\PsW w S S' w2/\F S' (.agg #[.int .i64 k,.int .u64 a0,.int .u64 a1,.int .u64 a2,.int .u64 a3,.slice sp sn sc,.int .i64 lo,.int .i64 hi]))
 (hat:¬ at_<s.length) :
 Calls Go.Proofs.Tryd.prog 17 #[.string ⟨⟨s⟩⟩] w fun r w'=>∃ v S',r=.returned (.tuple #[v,.agg #[.int .i64 0,.int .i64 0]])/\F S' v/\PsW w S S' w':=by
 have hmf:∀ (fn:Fn) (first cap:Array Value) (w:World),(Instr.makeFunc fn first cap).run Go.Proofs.Tryd.prog w=.ok (.func fn first cap) w:=fun _ _ _ _=>rfl
 have p1:w.heap.size+1+1≠w.heap.size:=by omega
 have p2:w.heap.size+1≠w.heap.size:=by omega
 go_enter_defers Go.Proofs.Tryd.func17,Go.Proofs.Tryd.ntmps17
 go_wp2_with (first
  | (go_at_call 36;refine hc.mono ?_;rintro r w2 ⟨k,a0,a1,a2,a3,lo,hi,sp,sn,sc,S',rfl,hC0,hC1,hat2,hs0,hs1,hP,hFF⟩;have c00:=(hC0 0 _ rfl).1;have z00:=(hC0 0 _ rfl).2;have c01:=(hC0 1 _ rfl).1;have z01:=(hC0 1 _ rfl).2;have c02:=(hC0 2 _ rfl).1;have z02:=(hC0 2 _ rfl).2;have c03:=(hC0 3 _ rfl).1;have z03:=(hC0 3 _ rfl).2;have c04:=(hC0 4 _ rfl).1;have z04:=(hC0 4 _ rfl).2;have c05:=(hC0 5 _ rfl).1;have z05:=(hC0 5 _ rfl).2;have c06:=(hC0 6 _ rfl).1;have z06:=(hC0 6 _ rfl).2;have c07:=(hC0 7 _ rfl).1;have z07:=(hC0 7 _ rfl).2;have c10:=(hC1 0 _ rfl).1;have z10:=(hC1 0 _ rfl).2;have c11:=(hC1 1 _ rfl).1;have z11:=(hC1 1 _ rfl).2;have hl0:w.heap.size<w2.heap.size:=zyz hC0;have hl1:w.heap.size+1<w2.heap.size:=zyz hC1;have H0:=Go.Lib.hid hC0;have H1:=Go.Lib.hid hC1;have HP:=Go.Lib.hid hP;have HF:=Go.Lib.hid hFF;clear hc hC0 hC1 hP hFF))
 have k0:Cl (((((((((((((((((((w2).setCell { block:=w.heap.size,off:=0 } (Value.int IntKind.i64 k)).setCell { block:=w.heap.size,off:=1 } (Value.int IntKind.u64 a0)).setCell { block:=w.heap.size,off:=2 } (Value.int IntKind.u64 a1)).setCell { block:=w.heap.size,off:=3 } (Value.int IntKind.u64 a2)).setCell { block:=w.heap.size,off:=4 } (Value.int IntKind.u64 a3)).setCell { block:=w.heap.size,off:=5 } (Value.slice sp sn sc)).setCell { block:=w.heap.size,off:=6 } (Value.int IntKind.i64 lo)).setCell { block:=w.heap.size,off:=7 } (Value.int IntKind.i64 hi)).setCell { block:=w.heap.size,off:=0 } (Value.int IntKind.i64 k)).setCell { block:=w.heap.size,off:=1 } (Value.int IntKind.u64 a0)).setCell { block:=w.heap.size,off:=2 } (Value.int IntKind.u64 a1)).setCell { block:=w.heap.size,off:=3 } (Value.int IntKind.u64 a2)).setCell { block:=w.heap.size,off:=4 } (Value.int IntKind.u64 a3)).setCell { block:=w.heap.size,off:=5 } (Value.slice sp sn sc)).setCell { block:=w.heap.size,off:=6 } (Value.int IntKind.i64 lo)).setCell { block:=w.heap.size,off:=7 } (Value.int IntKind.i64 hi)).setCell { block:=w.heap.size+1,off:=0 } (Value.int IntKind.i64 0)).setCell { block:=w.heap.size+1,off:=1 } (Value.int IntKind.i64 0)) (w.heap.size) [.int .i64 k,.int .u64 a0,.int .u64 a1,.int .u64 a2,.int .u64 a3,.slice sp sn sc,.int .i64 lo,.int .i64 hi]:=(z1t (z1t (z67 (z67 (z67 (z67 (z67 (z67 (z67 (z67 (z67 (z67 (z67 (z67 (z67 (z67 (z67 (z67 H0.out 0 _) 1 _) 2 _) 3 _) 4 _) 5 _) 6 _) 7 _) 0 _) 1 _) 2 _) 3 _) 4 _) 5 _) 6 _) 7 _) p2 0 _) p2 1 _)
 have k1:Cl (((((((((((((((((((w2).setCell { block:=w.heap.size,off:=0 } (Value.int IntKind.i64 k)).setCell { block:=w.heap.size,off:=1 } (Value.int IntKind.u64 a0)).setCell { block:=w.heap.size,off:=2 } (Value.int IntKind.u64 a1)).setCell { block:=w.heap.size,off:=3 } (Value.int IntKind.u64 a2)).setCell { block:=w.heap.size,off:=4 } (Value.int IntKind.u64 a3)).setCell { block:=w.heap.size,off:=5 } (Value.slice sp sn sc)).setCell { block:=w.heap.size,off:=6 } (Value.int IntKind.i64 lo)).setCell { block:=w.heap.size,off:=7 } (Value.int IntKind.i64 hi)).setCell { block:=w.heap.size,off:=0 } (Value.int IntKind.i64 k)).setCell { block:=w.heap.size,off:=1 } (Value.int IntKind.u64 a0)).setCell { block:=w.heap.size,off:=2 } (Value.int IntKind.u64 a1)).setCell { block:=w.heap.size,off:=3 } (Value.int IntKind.u64 a2)).setCell { block:=w.heap.size,off:=4 } (Value.int IntKind.u64 a3)).setCell { block:=w.heap.size,off:=5 } (Value.slice sp sn sc)).setCell { block:=w.heap.size,off:=6 } (Value.int IntKind.i64 lo)).setCell { block:=w.heap.size,off:=7 } (Value.int IntKind.i64 hi)).setCell { block:=w.heap.size+1,off:=0 } (Value.int IntKind.i64 0)).setCell { block:=w.heap.size+1,off:=1 } (Value.int IntKind.i64 0)) (w.heap.size+1) [.int .i64 0,.int .i64 0]:=(z67 (z67 (z1t (z1t (z1t (z1t (z1t (z1t (z1t (z1t (z1t (z1t (z1t (z1t (z1t (z1t (z1t (z1t H1.out p2.symm 0 _) p2.symm 1 _) p2.symm 2 _) p2.symm 3 _) p2.symm 4 _) p2.symm 5 _) p2.symm 6 _) p2.symm 7 _) p2.symm 0 _) p2.symm 1 _) p2.symm 2 _) p2.symm 3 _) p2.symm 4 _) p2.symm 5 _) p2.symm 6 _) p2.symm 7 _) 0 _) 1 _)
 have k2:PsW w S S' (((((((((((((((((((w2).setCell { block:=w.heap.size,off:=0 } (Value.int IntKind.i64 k)).setCell { block:=w.heap.size,off:=1 } (Value.int IntKind.u64 a0)).setCell { block:=w.heap.size,off:=2 } (Value.int IntKind.u64 a1)).setCell { block:=w.heap.size,off:=3 } (Value.int IntKind.u64 a2)).setCell { block:=w.heap.size,off:=4 } (Value.int IntKind.u64 a3)).setCell { block:=w.heap.size,off:=5 } (Value.slice sp sn sc)).setCell { block:=w.heap.size,off:=6 } (Value.int IntKind.i64 lo)).setCell { block:=w.heap.size,off:=7 } (Value.int IntKind.i64 hi)).setCell { block:=w.heap.size,off:=0 } (Value.int IntKind.i64 k)).setCell { block:=w.heap.size,off:=1 } (Value.int IntKind.u64 a0)).setCell { block:=w.heap.size,off:=2 } (Value.int IntKind.u64 a1)).setCell { block:=w.heap.size,off:=3 } (Value.int IntKind.u64 a2)).setCell { block:=w.heap.size,off:=4 } (Value.int IntKind.u64 a3)).setCell { block:=w.heap.size,off:=5 } (Value.slice sp sn sc)).setCell { block:=w.heap.size,off:=6 } (Value.int IntKind.i64 lo)).setCell { block:=w.heap.size,off:=7 } (Value.int IntKind.i64 hi)).setCell { block:=w.heap.size+1,off:=0 } (Value.int IntKind.i64 0)).setCell { block:=w.heap.size+1,off:=1 } (Value.int IntKind.i64 0)):=by
  have HQ:=HP.out;have hn0:w.heap.size<=w.heap.size:=Nat.le_refl _;have hn1:w.heap.size<=w.heap.size+1:=by omega
  exact ((((((((((((((((((HQ.setCell hn0 hs0).setCell hn0 hs0).setCell hn0 hs0).setCell hn0 hs0).setCell hn0 hs0).setCell hn0 hs0).setCell hn0 hs0).setCell hn0 hs0).setCell hn0 hs0).setCell hn0 hs0).setCell hn0 hs0).setCell hn0 hs0).setCell hn0 hs0).setCell hn0 hs0).setCell hn0 hs0).setCell hn0 hs0).setCell hn1 hs1).setCell hn1 hs1)
 clear c00 z00 c01 z01 c02 z02 c03 z03 c04 z04 c05 z05 c06 z06 c07 z07 c10 z10 c11 z11;generalize (((((((((((((((((((w2).setCell { block:=w.heap.size,off:=0 } (Value.int IntKind.i64 k)).setCell { block:=w.heap.size,off:=1 } (Value.int IntKind.u64 a0)).setCell { block:=w.heap.size,off:=2 } (Value.int IntKind.u64 a1)).setCell { block:=w.heap.size,off:=3 } (Value.int IntKind.u64 a2)).setCell { block:=w.heap.size,off:=4 } (Value.int IntKind.u64 a3)).setCell { block:=w.heap.size,off:=5 } (Value.slice sp sn sc)).setCell { block:=w.heap.size,off:=6 } (Value.int IntKind.i64 lo)).setCell { block:=w.heap.size,off:=7 } (Value.int IntKind.i64 hi)).setCell { block:=w.heap.size,off:=0 } (Value.int IntKind.i64 k)).setCell { block:=w.heap.size,off:=1 } (Value.int IntKind.u64 a0)).setCell { block:=w.heap.size,off:=2 } (Value.int IntKind.u64 a1)).setCell { block:=w.heap.size,off:=3 } (Value.int IntKind.u64 a2)).setCell { block:=w.heap.size,off:=4 } (Value.int IntKind.u64 a3)).setCell { block:=w.heap.size,off:=5 } (Value.slice sp sn sc)).setCell { block:=w.heap.size,off:=6 } (Value.int IntKind.i64 lo)).setCell { block:=w.heap.size,off:=7 } (Value.int IntKind.i64 hi)).setCell { block:=w.heap.size+1,off:=0 } (Value.int IntKind.i64 0)).setCell { block:=w.heap.size+1,off:=1 } (Value.int IntKind.i64 0))=W3 at *;refine leaves_cons (f:=35) (args:=#[.pointer (some ⟨w.heap.size,0,none⟩),.pointer (some ⟨w.heap.size+1,0,none⟩)]) (by simp) (by simp[go_sem]) ?_;refine ps_idle.mono ?_;rintro r u w5 ⟨⟨v,rfl⟩,rfl,rfl⟩;have m0:=zl7 k0 (Obj.cells #[Value.int IntKind.i64 0,Value.int IntKind.i64 0] 48);have m1:=zl7 k1 (Obj.cells #[Value.int IntKind.i64 0,Value.int IntKind.i64 0] 48);have e00:=(m0 0 _ rfl).1;have e01:=(m0 1 _ rfl).1;have e02:=(m0 2 _ rfl).1;have e03:=(m0 3 _ rfl).1;have e04:=(m0 4 _ rfl).1;have e05:=(m0 5 _ rfl).1;have e06:=(m0 6 _ rfl).1;have e07:=(m0 7 _ rfl).1;have e10:=(m1 0 _ rfl).1;have e11:=(m1 1 _ rfl).1;refine⟨_,?_,_,S',rfl,HF.out,k2.alloc _ _⟩;clear k0 k1 k2 m0 m1 hmf;simp[results,Go.Proofs.Tryd.results17,go_sem,e00,e01,e02,e03,e04,e05,e06,e07,e10,e11]
set_option maxHeartbeats 16000000 in
theorem z1oc {w:World}{s:List UInt8}{S:Hp}{e a:Int}(hlen:¬ (256:Int)<s.length)(hs0:S (w.heap.size)=none)(hs1:S (w.heap.size+1)=none)
 (hc:Calls Go.Proofs.Tryd.prog 36 #[.pointer (some ⟨w.heap.size+1+1,0,none⟩)] (((w.alloc (Obj.cells #[Value.int IntKind.i64 0,Value.int IntKind.u64 0,Value.int IntKind.u64 0,Value.int IntKind.u64 0,Value.int IntKind.u64 0,Value.slice none 0 0,Value.int IntKind.i64 0,Value.int IntKind.i64 0] 46)).alloc (Obj.cells #[Value.int IntKind.i64 0,Value.int IntKind.i64 0] 48)).alloc (Obj.cells #[Value.string ⟨⟨s⟩⟩,Value.int IntKind.i64 0,Value.int IntKind.i64 0] 75)) fun r w2=>r=.panicked [{ v:=.iface 48 (.agg #[.int .i64 e,.int .i64 a]),recovered:=false }]/\Cl w2 (w.heap.size) [.int .i64 0,.int .u64 0,.int .u64 0,.int .u64 0,.int .u64 0,.slice none 0 0,.int .i64 0,.int .i64 0]/\Cl w2 (w.heap.size+1) [.int .i64 0,.int .i64 0]/\PsW w S S w2) :
 Calls Go.Proofs.Tryd.prog 17 #[.string ⟨⟨s⟩⟩] w fun r w'=>r=.returned (.tuple #[.agg #[Value.int IntKind.i64 0,Value.int IntKind.u64 0,Value.int IntKind.u64 0,Value.int IntKind.u64 0,Value.int IntKind.u64 0,Value.slice none 0 0,Value.int IntKind.i64 0,Value.int IntKind.i64 0],.agg #[.int .i64 e,.int .i64 a]])/\PsW w S S w':=by
 have hmf:∀ (fn:Fn) (first cap:Array Value) (w:World),(Instr.makeFunc fn first cap).run Go.Proofs.Tryd.prog w=.ok (.func fn first cap) w:=fun _ _ _ _=>rfl
 have p1:w.heap.size+1+1≠w.heap.size:=by omega
 have p2:w.heap.size+1≠w.heap.size:=by omega
 go_enter_defers Go.Proofs.Tryd.func17,Go.Proofs.Tryd.ntmps17
 go_wp2_with (first
  | (go_at_call 36;refine hc.mono ?_;rintro r w2 ⟨rfl,hC0,hC1,hP⟩;have H0:=Go.Lib.hid hC0;have H1:=Go.Lib.hid hC1;have HP:=Go.Lib.hid hP;clear hc hC0 hC1 hP))
 refine leaves_cons (f:=35) (args:=#[.pointer (some ⟨w.heap.size,0,none⟩),.pointer (some ⟨w.heap.size+1,0,none⟩)]) (by simp) (by simp[go_sem]) ?_;refine (zxq (R:=fun w'=>Cl w' (w.heap.size) [.int .i64 0,.int .u64 0,.int .u64 0,.int .u64 0,.int .u64 0,.slice none 0 0,.int .i64 0,.int .i64 0]/\Cl w' (w.heap.size+1) [.int .i64 e,.int .i64 a]/\PsW w S S w') (zl7 H0.out _) (zl7 H1.out _) p2.symm (Nat.ne_of_lt (zyz H0.out)) (Nat.ne_of_lt (zyz H1.out)) (fun w' g0 g1 g2=>⟨g0,g1,g2 w S S HP.out (Nat.le_refl _) (Nat.le_succ _) hs0 hs1⟩)).mono ?_;rintro r u w5 ⟨⟨v,rfl⟩,rfl,m0,m1,hP5⟩;have e00:=(m0 0 _ rfl).1;have e01:=(m0 1 _ rfl).1;have e02:=(m0 2 _ rfl).1;have e03:=(m0 3 _ rfl).1;have e04:=(m0 4 _ rfl).1;have e05:=(m0 5 _ rfl).1;have e06:=(m0 6 _ rfl).1;have e07:=(m0 7 _ rfl).1;have e10:=(m1 0 _ rfl).1;have e11:=(m1 1 _ rfl).1;clear m0 m1 hmf H0 H1;simp[Leaves,settle,results,Go.Proofs.Tryd.results17,go_sem,e00,e01,e02,e03,e04,e05,e06,e07,e10,e11];exact hP5
set_option maxHeartbeats 16000000 in
theorem z1od {w:World}{s:List UInt8}{S:Hp}{at_:Int}(hlen:¬ (256:Int)<s.length)
 (hc:Calls Go.Proofs.Tryd.prog 36 #[.pointer (some ⟨w.heap.size+1+1,0,none⟩)] (((w.alloc (Obj.cells #[Value.int IntKind.i64 0,Value.int IntKind.u64 0,Value.int IntKind.u64 0,Value.int IntKind.u64 0,Value.int IntKind.u64 0,Value.slice none 0 0,Value.int IntKind.i64 0,Value.int IntKind.i64 0] 46)).alloc (Obj.cells #[Value.int IntKind.i64 0,Value.int IntKind.i64 0] 48)).alloc (Obj.cells #[Value.string ⟨⟨s⟩⟩,Value.int IntKind.i64 0,Value.int IntKind.i64 0] 75)) fun r w2=>∃ (k a0 a1 a2 a3 lo hi:Int) (sp:Option Addr) (sn sc:Nat) (S':Hp),r=.returned (.agg #[.int .i64 k,.int .u64 a0,.int .u64 a1,.int .u64 a2,.int .u64 a3,.slice sp sn sc,.int .i64 lo,.int .i64 hi])/\Cl w2 (w.heap.size) [.int .i64 0,.int .u64 0,.int .u64 0,.int .u64 0,.int .u64 0,.slice none 0 0,.int .i64 0,.int .i64 0]/\Cl w2 (w.heap.size+1) [.int .i64 0,.int .i64 0]/\w2.cell? ⟨w.heap.size+1+1,1,none⟩=some (.int .i64 at_)/\S' (w.heap.size)=none/\S' (w.heap.size+1)=none/\PsW w S S' w2)
 (hat:at_<s.length) :
 Calls Go.Proofs.Tryd.prog 17 #[.string ⟨⟨s⟩⟩] w fun r w'=>r=.returned (.tuple #[.agg #[Value.int IntKind.i64 0,Value.int IntKind.u64 0,Value.int IntKind.u64 0,Value.int IntKind.u64 0,Value.int IntKind.u64 0,Value.slice none 0 0,Value.int IntKind.i64 0,Value.int IntKind.i64 0],.agg #[.int .i64 2,.int .i64 at_]])/\∃ S',PsW w S S' w':=by
 have hmf:∀ (fn:Fn) (first cap:Array Value) (w:World),(Instr.makeFunc fn first cap).run Go.Proofs.Tryd.prog w=.ok (.func fn first cap) w:=fun _ _ _ _=>rfl
 have p1:w.heap.size+1+1≠w.heap.size:=by omega
 have p2:w.heap.size+1≠w.heap.size:=by omega
 go_enter_defers Go.Proofs.Tryd.func17,Go.Proofs.Tryd.ntmps17
 go_wp2_with (first
  | (go_at_call 36;refine hc.mono ?_;rintro r w2 ⟨k,a0,a1,a2,a3,lo,hi,sp,sn,sc,S',rfl,hC0,hC1,hat2,hs0,hs1,hP⟩;have c00:=(hC0 0 _ rfl).1;have z00:=(hC0 0 _ rfl).2;have c01:=(hC0 1 _ rfl).1;have z01:=(hC0 1 _ rfl).2;have c02:=(hC0 2 _ rfl).1;have z02:=(hC0 2 _ rfl).2;have c03:=(hC0 3 _ rfl).1;have z03:=(hC0 3 _ rfl).2;have c04:=(hC0 4 _ rfl).1;have z04:=(hC0 4 _ rfl).2;have c05:=(hC0 5 _ rfl).1;have z05:=(hC0 5 _ rfl).2;have c06:=(hC0 6 _ rfl).1;have z06:=(hC0 6 _ rfl).2;have c07:=(hC0 7 _ rfl).1;have z07:=(hC0 7 _ rfl).2;have c10:=(hC1 0 _ rfl).1;have z10:=(hC1 0 _ rfl).2;have c11:=(hC1 1 _ rfl).1;have z11:=(hC1 1 _ rfl).2;have hl0:w.heap.size<w2.heap.size:=zyz hC0;have hl1:w.heap.size+1<w2.heap.size:=zyz hC1;have H0:=Go.Lib.hid hC0;have H1:=Go.Lib.hid hC1;have HP:=Go.Lib.hid hP;clear hc hC0 hC1 hP)
  | (go_at_call 37;refine fail_walk.mono ?_;rintro r w3 ⟨rfl,rfl⟩))
 have k0:Cl (((((((((w2).setCell { block:=w.heap.size,off:=0 } (Value.int IntKind.i64 k)).setCell { block:=w.heap.size,off:=1 } (Value.int IntKind.u64 a0)).setCell { block:=w.heap.size,off:=2 } (Value.int IntKind.u64 a1)).setCell { block:=w.heap.size,off:=3 } (Value.int IntKind.u64 a2)).setCell { block:=w.heap.size,off:=4 } (Value.int IntKind.u64 a3)).setCell { block:=w.heap.size,off:=5 } (Value.slice sp sn sc)).setCell { block:=w.heap.size,off:=6 } (Value.int IntKind.i64 lo)).setCell { block:=w.heap.size,off:=7 } (Value.int IntKind.i64 hi)) (w.heap.size) [.int .i64 k,.int .u64 a0,.int .u64 a1,.int .u64 a2,.int .u64 a3,.slice sp sn sc,.int .i64 lo,.int .i64 hi]:=(z67 (z67 (z67 (z67 (z67 (z67 (z67 (z67 H0.out 0 _) 1 _) 2 _) 3 _) 4 _) 5 _) 6 _) 7 _)
 have k1:Cl (((((((((w2).setCell { block:=w.heap.size,off:=0 } (Value.int IntKind.i64 k)).setCell { block:=w.heap.size,off:=1 } (Value.int IntKind.u64 a0)).setCell { block:=w.heap.size,off:=2 } (Value.int IntKind.u64 a1)).setCell { block:=w.heap.size,off:=3 } (Value.int IntKind.u64 a2)).setCell { block:=w.heap.size,off:=4 } (Value.int IntKind.u64 a3)).setCell { block:=w.heap.size,off:=5 } (Value.slice sp sn sc)).setCell { block:=w.heap.size,off:=6 } (Value.int IntKind.i64 lo)).setCell { block:=w.heap.size,off:=7 } (Value.int IntKind.i64 hi)) (w.heap.size+1) [.int .i64 0,.int .i64 0]:=(z1t (z1t (z1t (z1t (z1t (z1t (z1t (z1t H1.out p2.symm 0 _) p2.symm 1 _) p2.symm 2 _) p2.symm 3 _) p2.symm 4 _) p2.symm 5 _) p2.symm 6 _) p2.symm 7 _)
 have k2:PsW w S S' (((((((((w2).setCell { block:=w.heap.size,off:=0 } (Value.int IntKind.i64 k)).setCell { block:=w.heap.size,off:=1 } (Value.int IntKind.u64 a0)).setCell { block:=w.heap.size,off:=2 } (Value.int IntKind.u64 a1)).setCell { block:=w.heap.size,off:=3 } (Value.int IntKind.u64 a2)).setCell { block:=w.heap.size,off:=4 } (Value.int IntKind.u64 a3)).setCell { block:=w.heap.size,off:=5 } (Value.slice sp sn sc)).setCell { block:=w.heap.size,off:=6 } (Value.int IntKind.i64 lo)).setCell { block:=w.heap.size,off:=7 } (Value.int IntKind.i64 hi)):=((((((((HP.out.setCell (Nat.le_refl _) hs0).setCell (Nat.le_refl _) hs0).setCell (Nat.le_refl _) hs0).setCell (Nat.le_refl _) hs0).setCell (Nat.le_refl _) hs0).setCell (Nat.le_refl _) hs0).setCell (Nat.le_refl _) hs0).setCell (Nat.le_refl _) hs0)
 clear c00 z00 c01 z01 c02 z02 c03 z03 c04 z04 c05 z05 c06 z06 c07 z07 c10 z10 c11 z11;generalize (((((((((w2).setCell { block:=w.heap.size,off:=0 } (Value.int IntKind.i64 k)).setCell { block:=w.heap.size,off:=1 } (Value.int IntKind.u64 a0)).setCell { block:=w.heap.size,off:=2 } (Value.int IntKind.u64 a1)).setCell { block:=w.heap.size,off:=3 } (Value.int IntKind.u64 a2)).setCell { block:=w.heap.size,off:=4 } (Value.int IntKind.u64 a3)).setCell { block:=w.heap.size,off:=5 } (Value.slice sp sn sc)).setCell { block:=w.heap.size,off:=6 } (Value.int IntKind.i64 lo)).setCell { block:=w.heap.size,off:=7 } (Value.int IntKind.i64 hi))=W3 at *;refine leaves_cons (f:=35) (args:=#[.pointer (some ⟨w.heap.size,0,none⟩),.pointer (some ⟨w.heap.size+1,0,none⟩)]) (by simp) (by simp[go_sem]) ?_;refine (zxq (R:=fun w'=>Cl w' (w.heap.size) [.int .i64 0,.int .u64 0,.int .u64 0,.int .u64 0,.int .u64 0,.slice none 0 0,.int .i64 0,.int .i64 0]/\Cl w' (w.heap.size+1) [.int .i64 2,.int .i64 at_]/\PsW w S S' w') (zl7 k0 _) (zl7 k1 _) p2.symm (Nat.ne_of_lt (zyz k0)) (Nat.ne_of_lt (zyz k1)) (fun w' g0 g1 g2=>⟨g0,g1,g2 w S S' k2 (Nat.le_refl _) (Nat.le_succ _) hs0 hs1⟩)).mono ?_;rintro r u w5 ⟨⟨v,rfl⟩,rfl,m0,m1,hP5⟩;have e00:=(m0 0 _ rfl).1;have e01:=(m0 1 _ rfl).1;have e02:=(m0 2 _ rfl).1;have e03:=(m0 3 _ rfl).1;have e04:=(m0 4 _ rfl).1;have e05:=(m0 5 _ rfl).1;have e06:=(m0 6 _ rfl).1;have e07:=(m0 7 _ rfl).1;have e10:=(m1 0 _ rfl).1;have e11:=(m1 1 _ rfl).1;clear m0 m1 hmf k0 k1 H0 H1;simp[Leaves,settle,results,Go.Proofs.Tryd.results17,go_sem,e00,e01,e02,e03,e04,e05,e06,e07,e10,e11];exact⟨S',hP5⟩
theorem z13s {S:Hp}{y:NodT.den}{v:Value}(h:VR S NodT y v):∃ (k a0 a1 a2 a3 lo hi:Int) (sp:Option Addr) (sn sc:Nat),v=.agg #[.int .i64 k,.int .u64 a0,.int .u64 a1,.int .u64 a2,.int .u64 a3,.slice sp sn sc,.int .i64 lo,.int .i64 hi]:=by
 unfold VR at h;simp only[T.isAgg,if_true] at h;obtain⟨cs,e,h⟩:=h;obtain⟨c1,d1,e1,h1,c2,d2,e2,h2,c3,d3,e3,h3,c4,d4,e4,h4,c5,d5,e5,h5,h6⟩:=h;have h1:c1=[.int .i64 y.1]:=h1;have h4:c4=[.int .i64 y.2.2.2.1]:=h4;have h5:c5=[.int .i64 y.2.2.2.2.1]:=h5;have h6:d5=[]:=h6;obtain⟨hl,ha⟩:=h2;obtain⟨sp,sc,h3,_⟩:=h3;obtain⟨k,arr,sl,lo,hi,u⟩:=y
 match arr,hl with
 | [a0,a1,a2,a3],_ =>
   obtain⟨q0,r0,f0,g0,q1,r1,f1,g1,q2,r2,f2,g2,q3,r3,f3,g3,g4⟩:=ha;have g0:q0=[.int .u64 a0]:=g0;have g1:q1=[.int .u64 a1]:=g1;have g2:q2=[.int .u64 a2]:=g2;have g3:q3=[.int .u64 a3]:=g3;have g4:r3=[]:=g4;refine⟨k,a0,a1,a2,a3,lo,hi,sp,List.length sl,sc,?_⟩;rw[e];congr 1;apply Array.toList_inj.1;rw[e1,h1,e2,f0,g0,f1,g1,f2,g2,f3,g3,g4,e3,h3,e4,h4,e5,h5,h6];rfl
abbrev z1fh:T:=.pair (.int .i64) (.pair (.int .i64) .unit)
def z1sq:NodT.den:=((0:Int),(([(0:Int),0,0,0]:List Int),(([]:List Go.Lift.Tree),((0:Int),((0:Int),())))))
theorem zzn (S:Hp):VR S NodT z1sq (.agg #[Value.int IntKind.i64 0,Value.int IntKind.u64 0,Value.int IntKind.u64 0,Value.int IntKind.u64 0,Value.int IntKind.u64 0,Value.slice none 0 0,Value.int IntKind.i64 0,Value.int IntKind.i64 0]):=(z1fk (t:=NodT) (x:=z1sq) rfl).mono (zec _)
theorem z12t (S:Hp)(e a:Int):VR S z1fh (e,a,()) (.agg #[.int .i64 e,.int .i64 a]):=(z1fk (t:=z1fh) (x:=(e,a,())) rfl).mono (zec _)
def zi1 (N:Nat)(s:List UInt8):Option (z5a [NodT,z1fh]) :=
 cond (decide ((256:Int)<s.length))
 (some (z1sq,((3,256,()),())))
 (orP (z1q N (s,(0,(0,())))) (fun z=>some (z1sq,(z,())))
 ((zq N (s,(0,(0,())))).bind fun y =>
 cond (decide (y.2.1.2.1<(s.length:Int)))
 (some (z1sq,((2,y.2.1.2.1,()),())))
 (some (y.1,((0,0,()),())))))
def zjv (N:Nat):List A->Res:=zz [(0,.v .str)] (fun x=>zi1 N x.1) (z6n (.tup [NodT,z1fh]) 1)
theorem z21o {w:World}{n:Nat}{cs:Array Value}{E:Nat}(h:w.heap[n]?=some (.cells cs E (0,0))):Cl w n cs.toList:=by
 intro i v hi;have hi':cs[i]?=some v:=by rw[<- Array.getElem?_toList];exact hi
 constructor
 . simp[World.cell?,h,hi']
 . simp[World.frozen?,h]
def psW (w:World)(s:List UInt8):World:=((w.alloc (Obj.cells #[Value.int IntKind.i64 0,Value.int IntKind.u64 0,Value.int IntKind.u64 0,Value.int IntKind.u64 0,Value.int IntKind.u64 0,Value.slice none 0 0,Value.int IntKind.i64 0,Value.int IntKind.i64 0] 46)).alloc (Obj.cells #[Value.int IntKind.i64 0,Value.int IntKind.i64 0] 48)).alloc (Obj.cells #[Value.string ⟨⟨s⟩⟩,Value.int IntKind.i64 0,Value.int IntKind.i64 0] 75)
theorem zxr (w:World)(s:List UInt8):(psW w s).heap.size=w.heap.size+3/\(psW w s).heap[w.heap.size]?=some (.cells #[Value.int IntKind.i64 0,Value.int IntKind.u64 0,Value.int IntKind.u64 0,Value.int IntKind.u64 0,Value.int IntKind.u64 0,Value.slice none 0 0,Value.int IntKind.i64 0,Value.int IntKind.i64 0] 46 (0,0))/\(psW w s).heap[w.heap.size+1]?=some (.cells #[Value.int IntKind.i64 0,Value.int IntKind.i64 0] 48 (0,0)) ∧
 (psW w s).heap[w.heap.size+1+1]?=some (.cells #[Value.string ⟨⟨s⟩⟩,Value.int IntKind.i64 0,Value.int IntKind.i64 0] 75 (0,0))/\(∀ k,k<w.heap.size->(psW w s).heap[k]?=w.heap[k]?) ∧
 (psW w s).tape=w.tape/\(psW w s).os=w.os/\(psW w s).output=w.output:=by
 have hh:(psW w s).heap=((w.heap.push (.cells #[Value.int IntKind.i64 0,Value.int IntKind.u64 0,Value.int IntKind.u64 0,Value.int IntKind.u64 0,Value.int IntKind.u64 0,Value.slice none 0 0,Value.int IntKind.i64 0,Value.int IntKind.i64 0] 46 (0,0))).push (.cells #[Value.int IntKind.i64 0,Value.int IntKind.i64 0] 48 (0,0))).push (.cells #[Value.string ⟨⟨s⟩⟩,Value.int IntKind.i64 0,Value.int IntKind.i64 0] 75 (0,0)):=rfl;refine⟨by rw[hh];simp,?_,?_,?_,fun k hk=>?_,rfl,rfl,rfl⟩
 . rw[hh,Array.getElem?_push,if_neg (by simp;omega),Array.getElem?_push,if_neg (by simp),Array.getElem?_push,if_pos rfl]
 . rw[hh,Array.getElem?_push,if_neg (by simp),Array.getElem?_push,if_pos (by simp)]
 . rw[hh,Array.getElem?_push,if_pos (by simp)]
 . rw[hh,Array.getElem?_push,if_neg (by simp;omega),Array.getElem?_push,if_neg (by simp;omega),Array.getElem?_push,if_neg (by omega)]
theorem z1gm {w:World}{s:List UInt8}{S:Hp}(hS:Lift.Sub S (hp w)):ArgsRel (hp (psW w s)) S [.box PrsT (s,(0,(0,())))] [.pointer (some ⟨w.heap.size+1+1,0,none⟩)] (fun i=>if i=0 then [w.heap.size+1+1] else [])/\Lift.Sub S (hp (psW w s)):=by
 obtain⟨f1,f2,f3,f4,f5,_⟩:=zxr w s;have hsub:Lift.Sub S (hp (psW w s)):=fun k q hk=>by
  have:=hS k q hk;simp only[hp] at this ⊢;rw[f5 k (z98 (hS k q hk))];exact this
 refine⟨z1d0 (w:=psW w s) (args:=[]) (vals:=[]) ?_ (by simp) (fun k hk=>?_) ⟨rfl,fun i x h=>(by cases h),fun _ _=>rfl,fun i j b hb=>(by cases hb),fun _=>.nil,fun i b hb=>(by cases hb)⟩,hsub⟩
 . refine⟨w.heap.size+1+1,_,_,_,[],rfl,rfl,f4,zkb _,RdO.of_rd PrsT _ _ ?_⟩;exact⟨[.string ⟨⟨s⟩⟩],_,rfl,rfl,[.int .i64 0],_,rfl,rfl,[.int .i64 0],[],rfl,rfl,rfl⟩
 . have:k=w.heap.size+1+1:=by simpa using hk
   subst this;cases hx:S (w.heap.size+1+1) with
   | none=>rfl
   | some o=>exact absurd (z98 (hS _ _ hx)) (by omega)
theorem zw5 {w:World}{S:Hp}(hS:Lift.Sub S (hp w)){k:Nat}(hk:w.heap.size<=k):S k=none:=by
 cases hx:S k with
 | none=>rfl
 | some o=>exact absurd (z98 (hS _ _ hx)) (by omega)
theorem z13k {w w2:World}{s:List UInt8}{S S':Hp}(hS:Lift.Sub S (hp w))(hwf:WF (psW w s) (fun b=>∃ i,b∈(fun i=>if i=0 then [w.heap.size+1+1] else []) i) w2)(hSS:Lift.Sub S S')(hSw:Lift.Sub S' (hp w2))
 (hnew:∀ b,S' b≠none->S b≠none\/b=w.heap.size+1+1\/(psW w s).heap.size<=b) :
 Cl w2 w.heap.size [.int .i64 0,.int .u64 0,.int .u64 0,.int .u64 0,.int .u64 0,.slice none 0 0,.int .i64 0,.int .i64 0]/\Cl w2 (w.heap.size+1) [.int .i64 0,.int .i64 0]/\S' w.heap.size=none/\S' (w.heap.size+1)=none/\PsW w S S' w2:=by
 obtain⟨f1,f2,f3,f4,f5,f6,f7,f8⟩:=zxr w s;have hin:∀ k,(∃ i,k∈(fun i=>if i=0 then [w.heap.size+1+1] else []) i)->k=w.heap.size+1+1:=by
  rintro k ⟨i,hi⟩;by_cases hi0:i=0
  . simpa[hi0] using hi
  . simp[hi0] at hi
 have g0:=hwf.same w.heap.size (by omega) (fun h=>by have:=hin _ h;omega);have g1:=hwf.same (w.heap.size+1) (by omega) (fun h=>by have:=hin _ h;omega);rw[f2] at g0;rw[f3] at g1;refine⟨z21o g0,z21o g1,?_,?_,⟨by have:=hwf.size;omega,fun k hk _=>?_,hwf.tape.trans f6,hwf.os.trans f7,hwf.output.trans f8⟩,hSS,hSw,fun k hk=>?_⟩
 . cases hx:S' w.heap.size with
   | none=>rfl
   | some o =>
     rcases hnew _ (by rw[hx];simp) with h|h|h
     . exact absurd (zw5 hS (Nat.le_refl _)) h
     . omega
     . omega
 . cases hx:S' (w.heap.size+1) with
   | none=>rfl
   | some o =>
     rcases hnew _ (by rw[hx];simp) with h|h|h
     . exact absurd (zw5 hS (by omega)) h
     . omega
     . omega
 . rw[hwf.same k (by omega) (fun h=>by have:=hin _ h;omega),f5 k hk]
 . rcases hnew k hk with h|h|h
   . exact .inl h
   . exact .inr (by omega)
   . exact .inr (by omega)
theorem z1oe {w:World}{S:Hp}{x:PrsT.den}{b:Nat}{o:List Nat}(h:ARel (hp w) S (fun _=>undef) (.box PrsT x) (.pointer (some ⟨b,0,none⟩)) o):w.cell? ⟨b,1,none⟩=some (.int .i64 x.2.1):=by
 obtain⟨b',cs,E,fr,bs,e,e',hb,hf,hr⟩:=h;cases e';obtain⟨_,c1,d1,hc,h1,c2,d2,hc2,h2,h3⟩:=RdO.rd PrsT x _ _ rfl hr;have k1:c1=[.string ⟨⟨x.1⟩⟩]:=h1;have k2:c2=[.int .i64 x.2.1]:=h2;have:cs[1]?=some (.int .i64 x.2.1):=by
  rw[<- Array.getElem?_toList,hc,k1,hc2,k2];rfl
 have hb:w.heap[b]?=some (.cells cs E fr):=hb;simp[World.cell?,hb,this]
theorem zw6 {w w':World}{s:List UInt8}{S S':Hp}{ob:Nat->List Nat}{y:z5a [NodT,z1fh]}{v1 v2:Value}(hob:∀ i,ob i=[])(hP:PsW w S S' w')(h1:VR S' NodT y.1 v1)(h2:VR S' z1fh y.2.1 v2) :
 Lift.Ends w S (mkS [(0,.v .str)] 0 (s,())) [.string ⟨⟨s⟩⟩] ob (z6n (.tup [NodT,z1fh]) 1 y).1 (z6n (.tup [NodT,z1fh]) 1 y).2 (.returned (.tuple #[v1,v2])) w':=by
 obtain⟨k1,k2,k3,k4⟩:=hP;refine⟨_,S',[],ob,rfl,⟨k1.size,fun k hk _=>k1.same k hk (fun h=>h),k1.tape,k1.os,k1.output⟩,k2,k3,fun k hk=>?_,⟨⟨rfl,_,rfl,.cons h1 (.cons h2 .nil)⟩,rfl⟩,(fun k hk=>by cases hk),.nil,?_,?_,?_,?_,fun _ h=>h⟩
 . rcases k4 k hk with h|h
   . exact .inl h
   . exact .inr (.inr h)
 . intro i x hx hbx
   match i with
   | 0=>simp[mkS,zfr,AS.mk] at hx;subst hx;simp[zg7] at hbx
   | i+1=>simp[mkS,zfr] at hx
 . intro i k hk;rw[hob i] at hk;cases hk
 . intro i j k hi;rw[hob i] at hi;cases hi
 . intro i;rw[hob i];exact .nil
theorem zu5 (N:Nat):Contract Go.Proofs.Tryd.prog glob 17 (zjv N):=by
 refine Contract.hand ⟨_,Go.Proofs.Tryd.func17,by kernel_rfl,by decide⟩ ?_;intro w S vals ob x y har hS hg hy;obtain⟨s,u⟩:=x;cases u;have hob:∀ i,ob i=[]:=by
  intro i;rcases i with _|i
  . obtain⟨⟨v,hv,hA⟩,_⟩:=har.rel 0 _ rfl;exact hA.2
  . exact har.out _ (by simp[mkS,zfr])
 have hvals:vals=[.string ⟨⟨s⟩⟩]:=by
  have hlen:=har.len;obtain⟨⟨v0,hv0,hA0⟩,_⟩:=har.rel 0 _ rfl;have e0:v0=.string ⟨⟨s⟩⟩:=VR.str_inv hA0.1
  match vals,hlen with
  | [a],_=>cases hv0;rw[e0]
 subst hvals;have hy:zi1 N s=some y:=hy;unfold zi1 at hy;by_cases hlen:(256:Int)<s.length
 . rw[decide_eq_true hlen] at hy;cases hy;refine (z1gl hS hlen).mono ?_;rintro r w' ⟨rfl,hP⟩;exact zw6 hob hP (zzn _) (z12t _ _ _)
 . rw[decide_eq_false hlen] at hy;simp only[cond_false] at hy;obtain⟨hA,hSB⟩:=z1gm (s:=s) hS;rcases zwa hy with⟨z,hz,hK⟩|⟨_,hK⟩
   . cases hK;have hc:=(z6c N).2 (psW w s) S _ _ _ hA hSB hg z hz;refine (z1oc hlen (zw5 hS (Nat.le_refl _)) (zw5 hS (Nat.le_succ _)) (e:=z.1) (a:=z.2.1) (hc.mono ?_)).mono ?_
     . rintro e w2 ⟨rfl,hwf,hsub⟩;obtain⟨q1,q2,q3,q4,q5⟩:=z13k hS hwf (Lift.Sub.refl S) hsub (fun b hb=>.inl hb);exact⟨rfl,q1,q2,q5⟩
     . rintro r w' ⟨rfl,hP⟩;obtain⟨z1,z2,u⟩:=z;exact zw6 hob hP (zzn _) (z12t _ _ _)
   . obtain⟨q,hq,hK⟩:=Option.bind_eq_some_iff.1 hK;have hc:=(z2n N).2 (psW w s) S _ _ _ hA hSB hg q hq;have key:∀ e w2,Lift.Ends (psW w s) S [.box PrsT (s,(0,(0,())))] [.pointer (some ⟨w.heap.size+1+1,0,none⟩)] (fun i=>if i=0 then [w.heap.size+1+1] else []) (.v NodT q.1) [.box PrsT q.2.1] e w2 →
      ∃ v S',e=.returned v/\VR S' NodT q.1 v/\Cl w2 w.heap.size [.int .i64 0,.int .u64 0,.int .u64 0,.int .u64 0,.int .u64 0,.slice none 0 0,.int .i64 0,.int .i64 0]/\Cl w2 (w.heap.size+1) [.int .i64 0,.int .i64 0]/\w2.cell? ⟨w.heap.size+1+1,1,none⟩=some (.int .i64 q.2.1.2.1)/\S' w.heap.size=none/\S' (w.heap.size+1)=none/\PsW w S S' w2:=by
      rintro e w2 ⟨v,S',o,ob',rfl,hwf,hSS,hSw,hnew,⟨hr,_⟩,_,_,hbox,_⟩;obtain⟨x2,v2,g1,g2,_,g4⟩:=hbox 0 _ rfl rfl;simp at g1 g2;subst g1;subst g2;obtain⟨q1,q2,q3,q4,q5⟩:=z13k hS hwf hSS hSw (fun b hb=>by
       rcases hnew b hb with h|⟨i,hi⟩|h
       . exact .inl h
       . by_cases hi0:i=0
         . simp[hi0] at hi;exact .inr (.inl hi)
         . simp[hi0] at hi
       . exact .inr (.inr h))
      exact⟨v,S',rfl,hr.1,q1,q2,z1oe g4,q3,q4,q5⟩
     by_cases hat:q.2.1.2.1<(s.length:Int)
     . rw[decide_eq_true hat] at hK;cases hK;refine (z1od (S:=S) hlen (at_:=q.2.1.2.1) (hc.mono ?_) hat).mono ?_
       . intro e w2 h;obtain⟨v,S',rfl,hv,q1,q2,q3,q4,q5,q6⟩:=key e w2 h;obtain⟨k,a0,a1,a2,a3,lo,hi,sp,sn,sc,rfl⟩:=z13s hv;exact⟨k,a0,a1,a2,a3,lo,hi,sp,sn,sc,S',rfl,q1,q2,q3,q4,q5,q6⟩
       . rintro r w' ⟨rfl,S',hP⟩;exact zw6 hob hP (zzn _) (z12t _ _ _)
     . rw[decide_eq_false hat] at hK;cases hK;refine (ps_ok (S:=S) hlen (at_:=q.2.1.2.1) (F:=fun S' v=>VR S' NodT q.1 v) (hc.mono ?_) hat).mono ?_
       . intro e w2 h;obtain⟨v,S',rfl,hv,q1,q2,q3,q4,q5,q6⟩:=key e w2 h;obtain⟨k,a0,a1,a2,a3,lo,hi,sp,sn,sc,rfl⟩:=z13s hv;exact⟨k,a0,a1,a2,a3,lo,hi,sp,sn,sc,S',rfl,q1,q2,q3,q4,q5,q6,hv⟩
       . rintro r w' ⟨v,S',rfl,hv,hP⟩;exact zw6 hob hP hv (z12t _ _ _)
end
end Go.Proofs.YtgbcebmahbieoaaDoorLg
set_option linter.all false
set_option maxRecDepth 100000
namespace Go.Proofs.YtgbcebmahbieoaaDoorLg
noncomputable section
open Go Go.Lift Go.Proofs
abbrev E8:T:=.arr 8 (.int .u64)
abbrev BR:T:=.pair (.mp E8 (.int .i64)) (.pair (.own E8) (.pair (.pair (.int .i64) (.pair (.own .bool) (.pair (.sl (.int .i64)) (.pair (.own (.sl (.int .i64))) .unit)))) .unit))
abbrev B1:T:=.pair E8 (.pair E8 (.pair (.own E8) (.pair (.own E8) BR)))
abbrev B2:T:=.pair E8 (.pair E8 (.pair (.sl E8) (.pair (.sl E8) BR)))
abbrev B3:T:=.pair E8 (.pair E8 (.pair (.sl E8) (.pair (.sl E8) (.pair (.mp E8 (.int .i64)) (.pair (.own E8) (.pair D18 .unit))))))
theorem z21j {m:Nat×Nat}{h S:Hp}{x:B2.den}{cs:List Value}{bs:List Nat}(hr:RdO m h S B2 x cs bs):∃ b1 b2,bs=b2++b1/\∀ S',Lift.Sub S S'->(∀ k∈b1,S' k=h k)->RdO m h S' B3 x cs b2:=by
 obtain⟨c1,c2,q1,q2,rfl,rfl,h1,c3,c4,q3,q4,rfl,rfl,h2,c5,c6,q5,q6,rfl,rfl,h3,c7,c8,q7,q8,rfl,rfl,h4,c9,c10,q9,q10,rfl,rfl,h5,c11,c12,q11,q12,rfl,rfl,h6,c13,c14,q13,q14,rfl,rfl,⟨d1,d2,r1,r2,rfl,rfl,g1,d3,d4,r3,r4,rfl,rfl,g2,d5,d6,r5,r6,rfl,rfl,g3,d7,d8,r7,r8,rfl,rfl,g4,g5⟩,h8⟩:=hr;obtain rfl:q1=[]:=h1.1;obtain rfl:q3=[]:=h2.1;obtain rfl:q5=[]:=h3.1;obtain rfl:q7=[]:=h4.1;obtain rfl:q14=[]:=h8.1;obtain rfl:r1=[]:=g1.1;obtain rfl:r5=[]:=g3.1;obtain rfl:r8=[]:=g5.1;obtain⟨v3,rfl,k3⟩:=g2;obtain⟨v7,rfl,k7⟩:=g4;refine⟨r3++r7,q9++q11,by simp,fun S' hS hb=>?_⟩;have e1:RdO m h S' E8 x.1 c1 []:=⟨rfl,h1.2.mono hS⟩
 have e2:RdO m h S' E8 x.2.1 c3 []:=⟨rfl,h2.2.mono hS⟩
 have e3:RdO m h S' (.sl E8) x.2.2.1 c5 []:=⟨rfl,h3.2.mono hS⟩
 have e4:RdO m h S' (.sl E8) x.2.2.2.1 c7 []:=⟨rfl,h4.2.mono hS⟩
 have e5:=RdO.mono hS (.mp E8 (.int .i64)) _ _ _ (fun k hk=>rfl) h5;have e6:=RdO.mono hS (.own E8) _ _ _ (fun k hk=>rfl) h6;have e8:RdO m h S' .unit x.2.2.2.2.2.2.2 c14 []:=⟨rfl,h8.2.mono hS⟩
 have f1:RdO m h S' (.int .i64) x.2.2.2.2.2.2.1.1 d1 []:=⟨rfl,g1.2.mono hS⟩
 have f2:RdO m h S' (.sl .bool) x.2.2.2.2.2.2.1.2.1 [v3] []:=⟨rfl,k3.shared hS (fun k hk=>hb k (List.mem_append_left _ hk))⟩
 have f3:RdO m h S' (.sl (.int .i64)) x.2.2.2.2.2.2.1.2.2.1 d5 []:=⟨rfl,g3.2.mono hS⟩
 have f4:RdO m h S' (.sl (.sl (.int .i64))) x.2.2.2.2.2.2.1.2.2.2.1 [v7] []:=⟨rfl,k7.shared hS (fun k hk=>hb k (List.mem_append_right _ hk))⟩
 have f5:RdO m h S' .unit x.2.2.2.2.2.2.1.2.2.2.2 d8 []:=⟨rfl,g5.2.mono hS⟩
 exact⟨c1,_,[],_,rfl,rfl,e1,c3,_,[],_,rfl,rfl,e2,c5,_,[],_,rfl,rfl,e3,c7,_,[],_,rfl,rfl,e4,c9,_,q9,q11,rfl,rfl,e5,c11,_,q11,[],rfl,by simp,e6,_,c14,[],[],rfl,rfl,⟨d1,_,[],[],rfl,rfl,f1,[v3],_,[],[],rfl,rfl,f2,d5,_,[],[],rfl,rfl,f3,[v7],d8,[],[],rfl,rfl,f4,f5⟩,e8⟩
theorem frz18 {m:Nat×Nat}{h S:Hp}{x:B1.den}{cs:List Value}{bs:List Nat}(hr:RdO m h S B1 x cs bs):∃ b1 b2,bs=b1++b2/\∀ S',Lift.Sub S S'->(∀ k∈b1,S' k=h k)->RdO m h S' B2 x cs b2:=by
 obtain⟨c1,c2,q1,q2,rfl,rfl,h1,c3,c4,q3,q4,rfl,rfl,h2,c5,c6,q5,q6,rfl,rfl,h3,c7,c8,q7,q8,rfl,rfl,h4,h5⟩:=hr;obtain rfl:q1=[]:=h1.1;obtain rfl:q3=[]:=h2.1;obtain⟨v3,rfl,r3⟩:=h3;obtain⟨v4,rfl,r4⟩:=h4;refine⟨q5++q7,q8,by simp,fun S' hS hb=>?_⟩;have e1:RdO m h S' E8 x.1 c1 []:=⟨rfl,h1.2.mono hS⟩
 have e2:RdO m h S' E8 x.2.1 c3 []:=⟨rfl,h2.2.mono hS⟩
 have e3:RdO m h S' (.sl E8) x.2.2.1 [v3] []:=⟨rfl,r3.shared hS (fun k hk=>hb k (List.mem_append_left _ hk))⟩
 have e4:RdO m h S' (.sl E8) x.2.2.2.1 [v4] []:=⟨rfl,r4.shared hS (fun k hk=>hb k (List.mem_append_right _ hk))⟩
 exact⟨c1,_,[],q8,rfl,rfl,e1,c3,_,[],q8,rfl,rfl,e2,[v3],_,[],q8,rfl,rfl,e3,[v4],c8,[],q8,rfl,rfl,e4,RdO.mono hS BR _ _ _ (fun k hk=>rfl) h5⟩
def zvh (N:Nat):List A->Res:=zz [(0,.box B1)] (fun x=>z4j N x.1) (z4x (.v .bool) [(0,.box B3)] 0)
set_option maxHeartbeats 2000000 in
theorem z19o (N:Nat):Contract Go.Proofs.Tryd.prog glob 25 (zvh N):=by
 refine Contract.hand (ze4 N).1 ?_;intro w S vals ob x y har hS hg hy;obtain⟨x,u⟩:=x;cases u;dsimp only at hy;obtain⟨⟨v,hv,hA⟩,_⟩:=har.rel 0 _ rfl;have hvals:vals=[v]:=by
  match vals,har.len,hv with
  | [a],_,h1=>simp at h1;rw[h1]
 subst hvals;obtain⟨b,cs,E,fr,bs,hob,rfl,hb,hfr,hr⟩:=hA;obtain⟨b1,b2,rfl,hz⟩:=frz18 hr;have hnd:=har.nd 0;rw[hob] at hnd;have hhid:∀ k∈b::(b1++b2),S k=none:=fun k hk=>har.hid 0 k (by rw[hob];exact hk)
 have hS1:Lift.Sub S (fun k=>if k∈b1 then hp w k else S k):=by
  intro k o hk;dsimp only;rw[if_neg (fun hm=>by rw[hhid k (by simp[hm])] at hk;cases hk)];exact hk
 have hS2:Lift.Sub (fun k=>if k∈b1 then hp w k else S k) (hp w):=by
  intro k o hk;dsimp only at hk;split at hk
  . exact hk
  . exact hS k o hk
 have hr2:=hz _ hS1 (fun k hk=>if_pos hk);have hdis:∀ k∈b::b2,k∉b1:=by
  intro k hk h1;rw[List.nodup_cons,List.nodup_append] at hnd;rcases List.mem_cons.1 hk with rfl|hk
  . exact hnd.1 (List.mem_append_left _ h1)
  . exact hnd.2.2.2 k h1 k hk rfl
 have har2:ArgsRel (hp w) (fun k=>if k∈b1 then hp w k else S k) [.box B2 x] [.pointer (some ⟨b,0,none⟩)] (fun i=>if i=0 then b::b2 else []):=by
  refine⟨rfl,fun i z hi=>?_,fun i hi=>if_neg (by intro e;subst e;simp at hi),fun i j k hi hj=>?_,fun i=>?_,fun i k hk=>?_⟩
  . match i with
    | 0 =>
      simp at hi;subst hi;exact⟨⟨_,rfl,b,cs,E,fr,b2,rfl,rfl,hb,hfr,hr2⟩,rfl⟩
    | i+1=>simp at hi
  . by_cases hi0:i=0<;>by_cases hj0:j=0<;>simp_all
  . by_cases hi0:i=0
    . simp only[hi0,if_true];rw[List.nodup_cons,List.nodup_append] at hnd;exact List.nodup_cons.2 ⟨fun h=>hnd.1 (List.mem_append_right _ h),hnd.2.2.1⟩
    . simp[hi0]
  . by_cases hi0:i=0
    . simp only[hi0,if_true] at hk;rw[if_neg (hdis k hk)];refine hhid k ?_;simp only[List.mem_cons,List.mem_append] at hk ⊢;rcases hk with h|h
      . exact .inl h
      . exact .inr (.inr h)
    . simp[hi0] at hk
 have hin:∀ k,(∃ i,k∈(fun i=>if i=0 then b::b2 else []:Nat->List Nat) i)->∃ i,k∈ob i:=by
  rintro k ⟨i,hi⟩;by_cases hi0:i=0
  . simp only[hi0,if_true] at hi;refine⟨0,?_⟩;rw[hob];simp only[List.mem_cons,List.mem_append] at hi ⊢;rcases hi with h|h
    . exact .inl h
    . exact .inr (.inr h)
  . simp[hi0] at hi
 refine ((ze4 N).2 w _ _ _ _ har2 hS2 (hg.mono hS1) y hy).mono ?_;rintro e w' ⟨v',S'',o,ob'',rfl,hwf,hSS,hSw,hnew,hrr,ho,hod,hbox,hobc,hinj,hndc,hnil⟩;obtain⟨z1,z2,hz1,hz2,_,hA1⟩:=hbox 0 _ rfl rfl;cases hz1;simp at hz2;subst hz2;obtain⟨b',cs',E',fr',bs',hob1,hpt,hb',hfr',hr'⟩:=hA1;cases hpt;obtain⟨d1,d2,rfl,hw2⟩:=z21j hr';have hn0:=hndc 0;rw[hob1] at hn0;have hc0:∀ k∈b::(d2++d1),(k∈b::b2\/w.heap.size<=k)/\S'' k=none/\k∉o:=fun k hk=>by
  obtain⟨g1,g2,g3⟩:=hobc 0 k (by rw[hob1];exact hk);refine⟨?_,g2,g3⟩;rcases g1 with⟨j,hj⟩|h
  . by_cases hj0:j=0
    . simp only[hj0,if_true] at hj;exact .inl hj
    . simp[hj0] at hj
  . exact .inr h
 have hT1:Lift.Sub S'' (fun k=>if k∈d1 then hp w' k else S'' k):=by
  intro k q hk;dsimp only;rw[if_neg (fun hm=>by rw[(hc0 k (by simp[hm])).2.1] at hk;cases hk)];exact hk
 have hT2:Lift.Sub (fun k=>if k∈d1 then hp w' k else S'' k) (hp w'):=by
  intro k q hk;dsimp only at hk;split at hk
  . exact hk
  . exact hSw k q hk
 have hr3:=hw2 _ hT1 (fun k hk=>if_pos hk);have hin2:∀ k∈b::b2,∃ i,k∈ob i:=fun k hk=>hin k ⟨0,by simpa using hk⟩
 have hin3:∀ k,k∈b::(d2++d1)->(∃ i,k∈ob i)\/w.heap.size<=k:=fun k hk=>by
  rcases (hc0 k hk).1 with h|h
  . exact .inl (hin2 k h)
  . exact .inr h
 have hd3:∀ k∈b::d2,k∉d1:=by
  intro k hk h1;rw[List.nodup_cons,List.nodup_append] at hn0;rcases List.mem_cons.1 hk with rfl|hk
  . exact hn0.1 (List.mem_append_right _ h1)
  . exact hn0.2.2.2 k hk k h1 rfl
 have ho0:o=[]:=hrr.1.2;subst ho0;refine⟨v',fun k=>if k∈d1 then hp w' k else S'' k,[],fun i=>if i=0 then b::d2 else [],rfl,⟨hwf.size,fun k hk hn=>hwf.same k hk (fun h=>hn (hin k h)),hwf.tape,hwf.os,hwf.output⟩,(hS1.trans hSS).trans hT1,hT2,fun k hk=>?_,⟨⟨hrr.1.1.mono hT1,rfl⟩,rfl⟩,(fun k hk=>by cases hk),.nil,fun i z hi hbx=>?_,fun i k hk=>?_,fun i j k hi hj=>?_,fun i=>?_,fun i hi=>?_⟩
 . dsimp only at hk;by_cases hkd:k∈d1
   . rcases hin3 k (List.mem_cons_of_mem _ (List.mem_append_right _ hkd)) with h|h
     . exact .inr (.inl h)
     . exact .inr (.inr h)
   . rw[if_neg hkd] at hk;rcases hnew k hk with h|h|h
     . dsimp only at h;by_cases hkb:k∈b1
       . exact .inr (.inl ⟨0,by rw[hob];exact List.mem_cons_of_mem _ (List.mem_append_left _ hkb)⟩)
       . rw[if_neg hkb] at h;exact .inl h
     . exact .inr (.inl (hin k h))
     . exact .inr (.inr h)
 . match i with
   | 0=>exact⟨_,_,rfl,rfl,rfl,b,cs',E',fr',d2,rfl,rfl,hb',hfr',hr3⟩
   | i+1=>simp[mkS,zfr] at hi
 . by_cases hi0:i=0
   . simp only[hi0,if_true] at hk;have hk':k∈b::(d2++d1):=by
      simp only[List.mem_cons,List.mem_append] at hk ⊢;rcases hk with h|h
      . exact .inl h
      . exact .inr (.inl h)
     exact⟨hin3 k hk',by dsimp only;rw[if_neg (hd3 k hk)];exact (hc0 k hk').2.1,by simp⟩
   . simp[hi0] at hk
 . by_cases hi0:i=0<;>by_cases hj0:j=0<;>simp_all
 . by_cases hi0:i=0
   . simp only[hi0,if_true];rw[List.nodup_cons,List.nodup_append] at hn0;exact List.nodup_cons.2 ⟨fun h=>hn0.1 (List.mem_append_left _ h),hn0.2.1⟩
   . simp[hi0]
 . by_cases hi0:i=0
   . subst hi0;rw[hob] at hi;cases hi
   . dsimp only;rw[if_neg hi0]
end
end Go.Proofs.YtgbcebmahbieoaaDoorLg
set_option linter.all false
set_option maxRecDepth 100000
namespace Go.Proofs.YtgbcebmahbieoaaDoorLg
noncomputable section
open Go Go.Lift
def ziq:Code:=(Tryd.f45.body).getD .skip
def z1aj:List (List Nat×List Nat):=[([0],[0,1]),([0,1],[0,4,1]),([0,0,1,1],[9,8,7,4,1]),([0,1,0,1,1],[9,8,7,4,1]),(z14g,[10,7,9,4,1,8]),(zqy,[7,9,4,1,8]),(z1a5,[1]),(z1a6,[6,4,1,9,8,7]),(z1ah,[22,1,6,9,8,7]),([1,0,1,0,0,1,1,0,0,1,0,1,1],[6,9,8,7,1]),([0,0,1,0,1,0,0,1,1,0,0,1,0,1,1],[3,1]),([1,0,1,0,1,0,0,1,1,0,0,1,0,1,1],[3,1]),(z1dh,[9,8,7,4,1]),(z1a4,[9,8,7,4,1]),(z1a3,[9,8,7,4,1]),([1,0,1,1],[1]),([0,1,1,1],[3,1]),([1,1,1,1],[3,1])]
def z16n (N:Nat):Env:=z1c tys glob [] [] [] [1] false [] [(76,z7 N)]
theorem z1lv (N:Nat):EnvOk Tryd.prog (z16n N):=zi mixed zn (FnsOk.nil) (ItsOk.cons (za N) (ItsOk.nil))
def zd3 (N:Nat)(x1:z4y)(low:Int)(i:Int)(x7:(List Int))(x8:Int)(x9:Int)(k0:Bool->Option (Bool×(z4y×Unit))):Option (Bool×(z4y×Unit)) :=
 cond (decide (i<low))
 (k0 true)
 (k0 (decide ((((List.length x1.1):Nat):Int)<=i)))
def z1ek (N:Nat)(x:z15 z1mq)(K:Ex->List A->Option (Bool×(z4y×Unit))):Option (Bool×(z4y×Unit)) :=
 zd3 N x.1 x.2.1 x.2.2.1 x.2.2.2.1 x.2.2.2.2.1 x.2.2.2.2.2.1 (fun a5=>(K .normal (mkS [(1,.box TT2),(4,.v (.int .i64)),(0,.v (.sl (.int .i64))),(0,.v (.int .i64)),(0,.v (.int .i64)),(12,.v .bool)] 3 (x.1,x.2.2.1,x.2.2.2.1,x.2.2.2.2.1,x.2.2.2.2.2.1,a5,()))))
def z1e8 (N:Nat):Hd (Bool×(z4y×Unit)):=fun st K=>(unS z1mq 16 (restr [6,4,1,9,8,7] 0 st)).bind fun x=>z1ek N x K
def z1nz (N:Nat):Tab (Bool×(z4y×Unit)):=[]
theorem z1gr {N:Nat}{c:Ctx}(hb:Base Tryd.prog (z16n N) c):zj Tryd.prog c (zh ziq z1ah) (z1e8 N) :=
 zk (s:=z1mq) (m:=16) (g:=z1ek N) [6,4,1,9,8,7] (zd hb N (z1nz N) z1aj ziq TabOk.nil z1ah _ rfl) (fun x K=>by kernel_rfl)
def zd4 (N:Nat)(x1:z4y)(low:Int)(i:Int)(x7:(List Int))(x8:Int)(x9:Int)(k0:Bool->Option (Bool×(z4y×Unit)))(k1:Option (Bool×(z4y×Unit))):Option (Bool×(z4y×Unit)) :=
 zd3 N x1 low i x7 x8 x9
 (fun x22=>cond x22
 (k0 false)
 (k1))
def z1en (N:Nat)(x:z15 z1mq)(K:Ex->List A->Option (Bool×(z4y×Unit))):Option (Bool×(z4y×Unit)) :=
 zd4 N x.1 x.2.1 x.2.2.1 x.2.2.2.1 x.2.2.2.2.1 x.2.2.2.2.2.1 (fun a1=>(K .ret (mkS [(1,.box TT2),(1,.v .bool)] 22 (x.1,a1,())))) (K .normal (mkS [(1,.box TT2),(4,.v (.int .i64)),(0,.v (.sl (.int .i64))),(0,.v (.int .i64)),(0,.v (.int .i64))] 16 (x.1,x.2.2.1,x.2.2.2.1,x.2.2.2.2.1,x.2.2.2.2.2.1,())))
def z1eb (N:Nat):Hd (Bool×(z4y×Unit)):=fun st K=>(unS z1mq 16 (restr [6,4,1,9,8,7] 0 st)).bind fun x=>z1en N x K
def z1o2 (N:Nat):Tab (Bool×(z4y×Unit)):=[(z1ah,z1e8 N)]
theorem z1gu {N:Nat}{c:Ctx}(hb:Base Tryd.prog (z16n N) c):zj Tryd.prog c (zh ziq z1ao) (z1eb N) :=
 zk (s:=z1mq) (m:=16) (g:=z1en N) [6,4,1,9,8,7] (zd hb N (z1o2 N) z1aj ziq (TabOk.cons (z1gr hb) TabOk.nil) z1ao _ rfl) (fun x K=>by kernel_rfl)
def z6g (N:Nat)(x1:z4y)(x7:(List Int))(x8:Int)(low:Int)(x9:Int)(rec:Int->Int->Option (Bool×(z4y×Unit)))(k0:Bool->Option (Bool×(z4y×Unit)))(k1:Option (Bool×(z4y×Unit))):Option (Bool×(z4y×Unit)) :=
 cond (decide (x9<x8))
 (cond (inR x9 (List.length x7))
 (zd4 N x1 low (List.getD x7 (Int.toNat x9) (0:Int)) x7 x8 x9
 (fun x3=>k0 x3)
 (rec (IntKind.wrap IntKind.i64 ((List.getD x7 (Int.toNat x9) (0:Int))+(1:Int))) (IntKind.wrap IntKind.i64 (x9+(1:Int)))))
 (none))
 (k1)
def ziv (N:Nat)(x1:z4y)(low:Int)(x7:(List Int))(x8:Int)(x9:Int)(k0:Bool->Option (Bool×(z4y×Unit)))(k1:Option (Bool×(z4y×Unit))):Option (Bool×(z4y×Unit)) :=
 iter (fun (v:(Int×Int)) r=>z6g N x1 x7 x8 v.1 v.2 (fun low x9=>(r (low,x9))) k0 k1) N (low,x9)
def z1eq (N:Nat)(i:(z4y×(List Int)×Int))(v:(Int×Int))(r:(Int×Int)->Option (Bool×(z4y×Unit)))(K:Ex->List A->Option (Bool×(z4y×Unit))):Option (Bool×(z4y×Unit)) :=
 z6g N i.1 i.2.1 i.2.2 v.1 v.2 (fun low x9=>(r (low,x9))) (fun a1=>(K .ret (mkS [(1,.box TT2),(1,.v .bool)] 22 (i.1,a1,())))) (K (.exit 0) (mkS [(1,.box TT2)] 24 (i.1,())))
def z1ee (N:Nat):Hd (Bool×(z4y×Unit)):=fun st K=>(unS z229 16 (restr [9,8,7,4,1] 0 st)).bind fun x=>iter (fun v r=>z1eq N ((fun x=>(x.1,x.2.2.1,x.2.2.2.1)) x) v r K) N ((fun x=>(x.2.1,x.2.2.2.2.1)) x)
def z1o5 (N:Nat):Tab (Bool×(z4y×Unit)):=[(z1ao,z1eb N)]
theorem z1gx {N:Nat}{c:Ctx}(hb:Base Tryd.prog (z16n N) c):zj Tryd.prog c (zh ziq [0,1,0,1,1]) (z1ee N) :=
 zu (s:=z229) (m:=16) (z1eq N) [9,8,7,4,1] N (fun x=>(x.1,x.2.2.1,x.2.2.2.1)) (fun x=>(x.2.1,x.2.2.2.2.1)) (fun i v=>(i.1,v.1,i.2.1,i.2.2,v.2,())) (fun _=>rfl) (zd hb N (z1o5 N) z1aj ziq (TabOk.cons (z1gu hb) TabOk.nil) [0,0,1,0,1,1] _ rfl) (fun i v r K=>by kernel_rfl)
def z3t (N:Nat)(l:(List Int))(x1:z4y):Option (Bool×(z4y×Unit)) :=
 ziv N x1 (0:Int) l (((List.length l):Nat):Int) (0:Int)
 (fun x3=>some (x3,(x1,())))
 (some (true,(x1,())))
def z1nv (N:Nat):Tab (Bool×(z4y×Unit)):=[([0,1,0,1,1],z1ee N)]
theorem z1c4 (N:Nat)(x:z15 [(0,.v (.sl (.int .i64))),(0,.box TT2)]):z4u (z16n N) N (z1nv N) z1aj Tryd.f45 (mkS [(0,.v (.sl (.int .i64))),(0,.box TT2)] 0 x) (z3r (.v .bool) [(1,.box TT2)] 0)=z3t N x.1 x.2.1:=by kernel_rfl
def zgq (N:Nat):List A->Res:=zz [(0,.v (.sl (.int .i64))),(0,.box TT2)] (fun x=>z3t N x.1 x.2.1) (z4x (.v .bool) [(1,.box TT2)] 0)
theorem zqo (N:Nat):Contract Tryd.prog glob 45 (zgq N) :=
 Contract.of (E:=z16n N) (H:=z1nv N) (L:=z1aj) (N:=N) (body:=ziq) (K:=(z3r (.v .bool) [(1,.box TT2)] 0)) (z1lv N) Tryd.func45 (by kernel_rfl) (by decide) (fun _ hb=>(TabOk.cons (z1gx hb) TabOk.nil)) (fun x y h=>by rw[z1c4];exact h) (z2s (s:=(.v .bool)) (os:=[(1,.box TT2)]) (m:=0))
def zio:Code:=(Tryd.f23.body).getD .skip
def z1ai:List (List Nat×List Nat):=[([0],[1]),([0,0,1],[18,1]),([1,0,1],[1]),([0,0,1,0,1],[2]),([1,0,1,0,1],[2]),([0,1,1],[1,3]),([0,0,1,1,1],[23,22,21,3,1]),([0,1,0,1,1,1],[23,22,21,3,1]),(z12l,[24,21,23,3,22,1]),(zzl,[21,23,3,22,1]),(z12o,[3,1]),(z16j,[3,5,23,22,21,1]),(z1mt,[30,23,22,21,3,1]),([1,1,0,0,1,1,0,0,1,0,1,1,1],[23,22,21,3,1]),(z1lg,[2]),([1,0,1,1,0,0,1,1,0,0,1,0,1,1,1],[2]),(z16f,[23,22,21,3,1]),(z16e,[23,22,21,3,1]),([1,0,1,1,1],[3,1]),([0,1,1,1,1],[2]),([1,1,1,1,1],[2])]
def z16m (N:Nat):Env:=z1c tys glob [(45,zgq N)] [(3,.unit)] [] [] false [] [(76,z7 N)]
theorem z1lu (N:Nat):EnvOk Tryd.prog (z16m N):=zi mixed zn (FnsOk.cons (zqo N) (FnsOk.nil)) (ItsOk.cons (za N) (ItsOk.nil))
def zgg (N:Nat)(p:z4y)(k0:Bool->Option Bool):Option Bool :=
 cond ((((List.length p.2.2.2.2.1):Nat):Int) != (((List.length p.1):Nat):Int))
 (k0 true)
 (k0 (decide ((512:Int)<(((List.length p.1):Nat):Int))))
def z1em (N:Nat)(x:z15 [(1,.box TT2)])(K:Ex->List A->Option Bool):Option Bool :=
 zgg N x.1 (fun a1=>(K .normal (mkS [(1,.box TT2),(16,.v .bool)] 23 (x.1,a1,()))))
def z1ea (N:Nat):Hd Bool:=fun st K=>(unS [(1,.box TT2)] 40 (restr [1] 0 st)).bind fun x=>z1em N x K
def z1o1 (N:Nat):Tab Bool:=[]
theorem z1gt {N:Nat}{c:Ctx}(hb:Base Tryd.prog (z16m N) c):zj Tryd.prog c (zh zio [0,0,1]) (z1ea N) :=
 zk (s:=[(1,.box TT2)]) (m:=40) (g:=z1em N) [1] (zd hb N (z1o1 N) z1ai zio TabOk.nil [0,0,1] _ rfl) (fun x K=>by kernel_rfl)
def zgh (N:Nat)(p:z4y)(k0:Bool->Option Bool)(k1:Option Bool):Option Bool :=
 zgg N p
 (fun x18=>cond x18
 (k0 false)
 (k1))
def z1ep (N:Nat)(x:z15 [(1,.box TT2)])(K:Ex->List A->Option Bool):Option Bool :=
 zgh N x.1 (fun a0=>(K .ret (mkS [(2,.v .bool)] 39 (a0,())))) (K .normal (mkS [(1,.box TT2)] 40 (x.1,())))
def z1ed (N:Nat):Hd Bool:=fun st K=>(unS [(1,.box TT2)] 40 (restr [1] 0 st)).bind fun x=>z1ep N x K
def z1o4 (N:Nat):Tab Bool:=[([0,0,1],z1ea N)]
theorem z1gw {N:Nat}{c:Ctx}(hb:Base Tryd.prog (z16m N) c):zj Tryd.prog c (zh zio [0,1]) (z1ed N) :=
 zk (s:=[(1,.box TT2)]) (m:=40) (g:=z1ep N) [1] (zd hb N (z1o4 N) z1ai zio (TabOk.cons (z1gt hb) TabOk.nil) [0,1] _ rfl) (fun x K=>by kernel_rfl)
def z6q (N:Nat)(x21:(List (List Int)))(x22:Int)(p:z4y)(x23:Int)(rec:z4y->Int->Option Bool)(k0:Bool->Option Bool)(k1:z4y->Option Bool):Option Bool :=
 cond (decide (x23<x22))
 (cond (inR x23 (List.length x21))
 ((z3t N (List.getD x21 (Int.toNat x23) ([]:List Int)) p).bind fun y =>
 cond (!y.1)
 (k0 false)
 (rec y.2.1 (IntKind.wrap IntKind.i64 (x23+(1:Int)))))
 (none))
 (k1 p)
def zlt (N:Nat)(p:z4y)(x21:(List (List Int)))(x22:Int)(x23:Int)(k0:Bool->Option Bool)(k1:z4y->Option Bool):Option Bool :=
 iter (fun (v:(z4y×Int)) r=>z6q N x21 x22 v.1 v.2 (fun p x23=>(r (p,x23))) k0 k1) N (p,x23)
def z1ej (N:Nat)(i:((List (List Int))×Int))(v:(z4y×Int))(r:(z4y×Int)->Option Bool)(K:Ex->List A->Option Bool):Option Bool :=
 z6q N i.1 i.2 v.1 v.2 (fun p x23=>(r (p,x23))) (fun a0=>(K .ret (mkS [(2,.v .bool)] 39 (a0,())))) (fun a0=>(K (.exit 0) (mkS [(1,.box TT2),(1,.clo 45 [1])] 38 (a0,(),()))))
def z1e7 (N:Nat):Hd Bool:=fun st K=>(unS [(1,.box TT2),(1,.clo 45 [1]),(17,.v (.sl (.sl (.int .i64)))),(0,.v (.int .i64)),(0,.v (.int .i64))] 18 (restr [23,22,21,3,1] 0 st)).bind fun x=>iter (fun v r=>z1ej N ((fun x=>(x.2.2.1,x.2.2.2.1)) x) v r K) N ((fun x=>(x.1,x.2.2.2.2.1)) x)
def z1ny (N:Nat):Tab Bool:=[]
theorem z1gq {N:Nat}{c:Ctx}(hb:Base Tryd.prog (z16m N) c):zj Tryd.prog c (zh zio [0,1,0,1,1,1]) (z1e7 N) :=
 zu (s:=[(1,.box TT2),(1,.clo 45 [1]),(17,.v (.sl (.sl (.int .i64)))),(0,.v (.int .i64)),(0,.v (.int .i64))]) (m:=18) (z1ej N) [23,22,21,3,1] N (fun x=>(x.2.2.1,x.2.2.2.1)) (fun x=>(x.1,x.2.2.2.2.1)) (fun i v=>(v.1,(),i.1,i.2,v.2,())) (fun _=>rfl) (zd hb N (z1ny N) z1ai zio TabOk.nil zzc _ rfl) (fun i v r K=>by kernel_rfl)
def zbm (N:Nat)(p:z4y):Option Bool :=
 zgh N p
 (fun x2=>some x2)
 (zlt N p p.2.2.2.2.1 (((List.length p.2.2.2.2.1):Nat):Int) (0:Int)
 (fun x21=>some x21)
 (fun p1=>(z3t N p1.2.2.1 p1).bind fun y =>
 cond y.1
 ((z3t N y.2.1.2.2.2.1 y.2.1).bind fun y1 =>
 some y1.1)
 (some false)))
def z1nu (N:Nat):Tab Bool:=[([0,1],z1ed N),([0,1,0,1,1,1],z1e7 N)]
theorem z1c3 (N:Nat)(x:z15 [(0,.v TT2)]):z4u (z16m N) N (z1nu N) z1ai Tryd.f23 (mkS [(0,.v TT2)] 0 x) (z2l (.v .bool) 1)=zbm N x.1:=by kernel_rfl
def zjj (N:Nat):List A->Res:=zz [(0,.v TT2)] (fun x=>zbm N x.1) (z6n (.v .bool) 1)
theorem zty (N:Nat):Contract Tryd.prog glob 23 (zjj N) :=
 Contract.of (E:=z16m N) (H:=z1nu N) (L:=z1ai) (N:=N) (body:=zio) (K:=(z2l (.v .bool) 1)) (z1lu N) Tryd.func23 (by kernel_rfl) (by decide) (fun _ hb=>(TabOk.cons (z1gw hb) (TabOk.cons (z1gq hb) TabOk.nil))) (fun x y h=>by rw[z1c3];exact h) (z13 (s:=(.v .bool)) (m:=1))
def z1ct:Code:=(Tryd.f14.body).getD .skip
def z22s:List (List Nat×List Nat):=[([0],[1,2]),([0,0,1],[7,2,1]),([1,0,1],[1,2]),([0,0,1,0,1],[2,3]),([1,0,1,0,1],[2,3]),([0,1,1],[4,2]),([0,0,1,1,1],[13,2,4]),([1,0,1,1,1],[4,2]),(zzc,[2,3]),(z12k,[2,3]),([0,1,1,1,1],[2,3]),([1,1,1,1,1],[2,3])]
def z1m6 (N:Nat):Env:=z1c tys glob [(23,zjj N),(24,zg9 N),(25,zvh N)] [] [] [] false [(4,z14e),(10,(.nb .unit))] [(76,z7 N)]
theorem z1lt (N:Nat):EnvOk Tryd.prog (z1m6 N):=zi mixed zn (FnsOk.cons (zty N) (FnsOk.cons (zpi N) (FnsOk.cons (z19o N) (FnsOk.nil)))) (ItsOk.cons (za N) (ItsOk.nil))
def zqg (N:Nat)(p:z4y):Option (DT8×Int×Unit) :=
 (zbm N p).bind fun y =>
 cond (!y)
 (some (((0:Int),(([]:List Bool),(([]:List Int),(([]:List (List Int)),())))),((7:Int),())))
 ((z9a N p).bind fun y1 =>
 cond (Option.isSome y1)
 ((z4j N (Option.getD y1 (([]:List Int),(([]:List Int),(([]:List (List Int)),(([]:List (List Int)),((Option.none),(([]:List (List Int)),(((0:Int),(([]:List Bool),(([]:List Int),(([]:List (List Int)),())))),()))))))))).bind fun y2 =>
 cond (!y2.1)
 (some (((0:Int),(([]:List Bool),(([]:List Int),(([]:List (List Int)),())))),((16:Int),())))
 (some (y2.2.1.2.2.2.2.2.2.1,((0:Int),()))))
 (none))
def z1nt (N:Nat):Tab (DT8×Int×Unit):=[]
theorem z1c2 (N:Nat)(x:z15 [(0,.v TT2)]):z4u (z1m6 N) N (z1nt N) z22s Tryd.f14 (mkS [(0,.v TT2)] 0 x) (z2l (.tup [TT6,(.int .i64)]) 1)=zqg N x.1:=by kernel_rfl
def zpj (N:Nat):List A->Res:=zz [(0,.v TT2)] (fun x=>zqg N x.1) (z6n (.tup [TT6,(.int .i64)]) 1)
theorem zyu (N:Nat):Contract Tryd.prog glob 14 (zpj N) :=
 Contract.of (E:=z1m6 N) (H:=z1nt N) (L:=z22s) (N:=N) (body:=z1ct) (K:=(z2l (.tup [TT6,(.int .i64)]) 1)) (z1lt N) Tryd.func14 (by kernel_rfl) (by decide) (fun _ hb=>TabOk.nil) (fun x y h=>by rw[z1c2];exact h) (z13 (s:=(.tup [TT6,(.int .i64)])) (m:=1))
def z1cs:Code:=(Tryd.f6.body).getD .skip
def z22r:List (List Nat×List Nat):=[([0],[]),([0,1],[1,2]),([0,1,1],[3,2,4]),([0,1,1,1],[2,4,6,5]),([0,1,1,1,1],[2,4,6,5,8,7]),([0,1,1,1,1,1],[0]),([1,1,1,1,1,1],[0])]
def z1m5 (N:Nat):Env:=z1c tys glob [(14,zpj N),(11,zt4 N),(17,zjv N),(18,zpp N),(19,zq9 N)] [] [] [] false [] [(76,z7 N)]
theorem z1ls (N:Nat):EnvOk Tryd.prog (z1m5 N):=zi mixed zn (FnsOk.cons (zyu N) (FnsOk.cons (z15p N) (FnsOk.cons (zu5 N) (FnsOk.cons (zzq N) (FnsOk.cons (z10x N) (FnsOk.nil)))))) (ItsOk.cons (za N) (ItsOk.nil))
def z4d (N:Nat):Option Bool :=
 (zi1 N ([(97:UInt8),(42:UInt8)]:List UInt8)).bind fun y =>
 (zvr N y.1).bind fun y1 =>
 (zqg N y1.1).bind fun y2 =>
 (zwu N ([(97:UInt8),(98:UInt8)]:List UInt8)).bind fun y3 =>
 cond (eqD (T.pair (T.int IntKind.i64) (T.pair (T.int IntKind.i64) T.unit)) y.2.1 ((0:Int),((0:Int),())))
 (cond (y1.2.1 == (0:Int))
 (cond (y2.2.1 == (0:Int))
 (cond ((((List.length y2.1.2.2.2.1):Nat):Int) == (3:Int))
 ((zmz N y2.1 ([(97:UInt8),(97:UInt8)]:List UInt8)).bind fun y4 =>
 cond y4
 ((zmz N y2.1 ([(97:UInt8),(98:UInt8)]:List UInt8)).bind fun y5 =>
 cond (!y5)
 ((zmz N y2.1 ([]:List UInt8)).bind fun y6 =>
 cond y6
 (cond (y3.2.1 == (0:Int))
 ((zmz N y3.1 ([(97:UInt8),(98:UInt8)]:List UInt8)).bind fun y7 =>
 cond y7
 ((zmz N y3.1 ([(97:UInt8)]:List UInt8)).bind fun y8 =>
 some (!y8))
 (some false))
 (some false))
 (some false))
 (some false))
 (some false))
 (some false))
 (some false))
 (some false))
 (some false)
def z1ns (N:Nat):Tab Bool:=[]
theorem z1c1 (N:Nat)(x:z15 []):z4u (z1m5 N) N (z1ns N) z22r Tryd.f6 (mkS [] 0 x) (z2l (.v .bool) 0)=z4d N:=by kernel_rfl
def zcs (N:Nat):List A->Res:=zz [] (fun x=>z4d N) (z6n (.v .bool) 0)
theorem zlk (N:Nat):Contract Tryd.prog glob 6 (zcs N) :=
 Contract.of (E:=z1m5 N) (H:=z1ns N) (L:=z22r) (N:=N) (body:=z1cs) (K:=(z2l (.v .bool) 0)) (z1ls N) Tryd.func6 (by kernel_rfl) (by decide) (fun _ hb=>TabOk.nil) (fun x y h=>by rw[z1c1];exact h) (z13 (s:=(.v .bool)) (m:=0))
def z1cr:Code:=(Tryd.f4.body).getD .skip
def z22q:List (List Nat×List Nat):=[([0],[1]),([0,0,1],[9,1]),([1,0,1],[1]),([0,0,1,0,1],[2]),([1,0,1,0,1],[2]),([0,1,1],[1,3,4]),([0,1,1,1],[3,5,4,6]),([0,1,1,1,1],[2]),([1,1,1,1,1],[2])]
def z1m4 (N:Nat):Env:=z1c tys glob [(6,zcs N),(14,zpj N),(13,zct N),(15,zg2 N),(16,zdu N)] [] [] [] false [] [(76,z7 N)]
theorem z1lr (N:Nat):EnvOk Tryd.prog (z1m4 N):=zi mixed zn (FnsOk.cons (zlk N) (FnsOk.cons (zyu N) (FnsOk.cons (zll N) (FnsOk.cons (zos N) (FnsOk.cons (zmm N) (FnsOk.nil)))))) (ItsOk.cons (za N) (ItsOk.nil))
def z4e (N:Nat)(p:z4y):Option Bool :=
 (z5x N p (7:Int)).bind fun y =>
 cond (!y)
 ((z4d N).bind fun y1 =>
 some y1)
 ((zqg N p).bind fun y2 =>
 (z5e N p (4096:Int)).bind fun y3 =>
 (z6l N y2.1 y3.1).bind fun y4 =>
 cond y4
 (cond (y2.2.1 == y3.2.1)
 ((z4d N).bind fun y5 =>
 some y5)
 (some false))
 (some false))
def z1nr (N:Nat):Tab Bool:=[]
theorem z1c0 (N:Nat)(x:z15 [(0,.v TT2)]):z4u (z1m4 N) N (z1nr N) z22q Tryd.f4 (mkS [(0,.v TT2)] 0 x) (z2l (.v .bool) 1)=z4e N x.1:=by kernel_rfl
def zk0 (N:Nat):List A->Res:=zz [(0,.v TT2)] (fun x=>z4e N x.1) (z6n (.v .bool) 1)
theorem zlm (N:Nat):Contract Tryd.prog glob 4 (zk0 N) :=
 Contract.of (E:=z1m4 N) (H:=z1nr N) (L:=z22q) (N:=N) (body:=z1cr) (K:=(z2l (.v .bool) 1)) (z1lr N) Tryd.func4 (by kernel_rfl) (by decide) (fun _ hb=>TabOk.nil) (fun x y h=>by rw[z1c0];exact h) (z13 (s:=(.v .bool)) (m:=1))
end
end Go.Proofs.YtgbcebmahbieoaaDoorLg
set_option linter.all false
set_option maxRecDepth 100000
namespace Go.Proofs.YtgbcebmahbieoaaDoorLg
noncomputable section
open Go Go.Lift Go.Proofs.YtgbcebmahbieoaaDoorPx
abbrev SpT:=(List (List Int))×(Bool×((List Int)×((List Int)×((List (List Int))×Unit))))
def zkx (m:Int):Int->List Int->Bool
 | _,[]=>true
 | low,x::xs=>!(decide (x<low) || decide (m<=x)) && zkx m (x+1) xs
theorem zxi (m low:Int){l:List Int}{i:Nat}(h:i<l.length):zkx m low (l.drop i)=(!(decide (l.getD i 0<low) || decide (m<=l.getD i 0)) && zkx m (l.getD i 0+1) (l.drop (i+1))):=by
 rw[List.drop_eq_getElem_cons h,zkx,List.getD_eq_getElem?_getD,List.getElem?_eq_getElem h];rfl
theorem zs0 (N:Nat) (p:SpT) (l:List Int) (hl:l.length<=70368744177664) (hp:p.1.length<=70368744177664):∀ (n N' i:Nat) (low:Int),n<N'->i+n=l.length->0<=low →
 iter (fun (v:(Int×Int)) r=>z6g N p l (l.length:Int) v.1 v.2 (fun low x9=>(r (low,x9))) (fun x3=>some (x3,(p,()))) (some (true,(p,())))) N' (low,(i:Int))=some (zkx (p.1.length:Int) low (l.drop i),(p,()))
 | 0,N',i,low,h1,h2,h3=>by
   obtain⟨M,rfl⟩:∃ M,N'=M+1:=⟨N' - 1,by omega⟩
   rw[iter];dsimp only;unfold z6g;rw[decide_eq_false (show ¬ (i:Int)<(l.length:Int) by omega),List.drop_eq_nil_of_le (by omega)];rfl
 | n + 1,N',i,low,h1,h2,h3=>by
   obtain⟨M,rfl⟩:∃ M,N'=M+1:=⟨N' - 1,by omega⟩
   have hi:i<l.length:=by omega
   rw[iter,zxi _ _ hi];dsimp only
   conv=>lhs;unfold z6g zd4 zd3
   rw[decide_eq_true (show (i:Int)<(l.length:Int) by omega),z19 hi,Int.toNat_natCast];simp only[cond_true];by_cases e1:l.getD i 0<low
   . rw[decide_eq_true e1];rfl
   . rw[decide_eq_false e1];simp only[cond_false,Bool.false_or];by_cases e2:(p.1.length:Int)<=l.getD i 0
     . rw[decide_eq_true e2];rfl
     . rw[decide_eq_false e2];simp only[cond_false,Bool.not_false,Bool.true_and];have ih:=zs0 N p l hl hp n M (i+1) (l.getD i 0+1) (by omega) (by omega) (by omega);rw[z4w (x:=l.getD i 0+1) (by unfold I64;omega),z4w (x:=(i:Int)+1) (by unfold I64;omega)];exact ih
theorem zs1 {N:Nat}(p:SpT)(l:List Int)(hN:l.length<N)(hl:l.length<=70368744177664)(hp:p.1.length<=70368744177664):z3t N l p=some (zkx (p.1.length:Int) 0 l,(p,())):=by
 unfold z3t ziv;have:=zs0 N p l hl hp l.length N 0 0 hN (by omega) (by omega);simpa using this
def zsn (l:List Int)(i:Nat):Int:=match i with
 | 0=>0
 | i+1=>l.getD i 0+1
theorem zzw (N:Nat)(l:List Int)(m:Nat)(hl:l.length<=70368744177664){i:Nat}(hi:i<l.length)(h3:∀ j,i=j+1->0<=l.getD j 0)(rec:Int->Option Bool)(k0:Bool->Option Bool)(k1:Option Bool) :
 z2q N l (m:Int) (i:Int) rec k0 k1=cond (decide (l.getD i 0<zsn l i) || decide ((m:Int)<=l.getD i 0)) (k0 false) (rec ((i+1:Nat):Int)):=by
 unfold z2q z7m z7l;rw[decide_eq_true (show (i:Int)<(l.length:Int) by omega),z19 hi,Int.toNat_natCast,z4w (x:=(i:Int)+1) (by unfold I64;omega)];simp only[cond_true];have low:0<=zsn l i:=by
  cases i with
  | zero=>exact Int.le_refl 0
  | succ j=>have:=h3 j rfl;show 0<=l.getD j 0+1;omega
 by_cases e0:l.getD i 0<0
 . rw[decide_eq_true e0,decide_eq_true (show l.getD i 0<zsn l i by omega)];rfl
 rw[decide_eq_false e0];simp only[cond_false];by_cases e2:(m:Int)<=l.getD i 0
 . rw[decide_eq_true e2,Bool.or_true];rfl
 rw[decide_eq_false e2];simp only[cond_false,Bool.or_false];cases i with
 | zero=>rw[decide_eq_false (show ¬ l.getD 0 0<zsn l 0 from e0)];rfl
 | succ j =>
   have hj:=h3 j rfl;rw[decide_eq_true (show (0:Int)<((j+1:Nat):Int) by omega),z4w (x:=((j+1:Nat):Int) - 1) (by unfold I64;omega),show ((j+1:Nat):Int) - 1=(j:Int) by omega,z19 (show j<l.length by omega),Int.toNat_natCast];simp only[cond_true];by_cases e:l.getD (j+1) 0<=l.getD j 0
   . rw[decide_eq_true e,decide_eq_true (show l.getD (j+1) 0<zsn l (j+1) by show _<l.getD j 0+1;omega)];rfl
   . rw[decide_eq_false e,decide_eq_false (show ¬ l.getD (j+1) 0<zsn l (j+1) by show ¬ _<l.getD j 0+1;omega)];rfl
theorem zry (N:Nat) (l:List Int) (m:Nat) (hl:l.length<=70368744177664):∀ (n N' i:Nat),n<N'->i+n=l.length->(∀ j,i=j+1->0<=l.getD j 0) →
 iter (fun (v:Int) r=>z2q N l (m:Int) v (fun i=>(r i)) (fun x4=>some x4) (some true)) N' (i:Int)=some (zkx (m:Int) (zsn l i) (l.drop i))
 | 0,N',i,h1,h2,h3=>by
   obtain⟨M,rfl⟩:∃ M,N'=M+1:=⟨N' - 1,by omega⟩
   rw[iter];unfold z2q;rw[decide_eq_false (show ¬ (i:Int)<(l.length:Int) by omega),List.drop_eq_nil_of_le (by omega)];rfl
 | n + 1,N',i,h1,h2,h3=>by
   obtain⟨M,rfl⟩:∃ M,N'=M+1:=⟨N' - 1,by omega⟩
   have hi:i<l.length:=by omega
   have low:0<=zsn l i:=by
    cases i with
    | zero=>exact Int.le_refl 0
    | succ j=>have:=h3 j rfl;show 0<=l.getD j 0+1;omega
   rw[iter,zxi _ _ hi,zzw N l m hl hi h3];cases hb:(decide (l.getD i 0<zsn l i) || decide ((m:Int)<=l.getD i 0)) with
   | true=>rfl
   | false =>
     simp at hb;simp only[cond_false,Bool.not_false,Bool.true_and];exact zry N l m hl n M (i+1) (by omega) (by omega) (fun j hj=>by
      obtain rfl:i=j:=by omega
      have h5:¬ l.getD i 0<zsn l i:=by
       rw[List.getD_eq_getElem?_getD];omega
      omega)
theorem zrz {N:Nat}(l:List Int)(m:Nat)(hN:l.length<N)(hl:l.length<=70368744177664)(_hm:m<=70368744177664):z2y N l (m:Int)=some (zkx (m:Int) 0 l):=by
 unfold z2y zcq;have:=zry N l m hl l.length N 0 hN (by omega) (fun j hj=>by omega);simpa[zsn] using this
def zrx (m:Int):List (List Int)->Bool
 | []=>true
 | l::ls=>zkx m 0 l && zrx m ls
theorem zuo (m:Int){ls:List (List Int)}{i:Nat}(h:i<ls.length):zrx m (ls.drop i)=(zkx m 0 (ls.getD i []) && zrx m (ls.drop (i+1))):=by
 rw[List.drop_eq_getElem_cons h,zrx,List.getD_eq_getElem?_getD,List.getElem?_eq_getElem h];rfl
theorem z17p {ls:List (List Int)}{i:Nat}(h:i<ls.length):ls.getD i []∈ls:=by
 rw[List.getD_eq_getElem?_getD,List.getElem?_eq_getElem h];exact List.getElem_mem h
def z1a0 (N:Nat)(p:SpT):Prop:=p.1.length<=10000/\p.2.2.2.2.1.length<=10000/\p.2.2.2.2.1.length<N/\p.1.length<N/\(p.2.2.1.length<N/\p.2.2.1.length<=10000)/\(p.2.2.2.1.length<N/\p.2.2.2.1.length<=10000)/\∀ l∈p.2.2.2.2.1,l.length<N/\l.length<=10000
def okF (p:SpT):Bool:=decide (p.2.2.2.2.1.length=p.1.length) && (decide (p.1.length<=512) && (zrx (p.1.length:Int) p.2.2.2.2.1 && (zkx (p.1.length:Int) 0 p.2.2.1 && zkx (p.1.length:Int) 0 p.2.2.2.1)))
theorem zlx {N:Nat}{p:SpT}(h:z1a0 N p)(k0:Bool->Option Bool)(k1:SpT->Option Bool):∀ (n N' i:Nat),n<N'->i+n=p.2.2.2.2.1.length →
 iter (fun (v:(SpT×Int)) r=>z6q N p.2.2.2.2.1 (p.2.2.2.2.1.length:Int) v.1 v.2 (fun p x23=>(r (p,x23))) k0 k1) N' (p,(i:Int))=cond (zrx (p.1.length:Int) (p.2.2.2.2.1.drop i)) (k1 p) (k0 false)
 | 0,N',i,h1,h2=>by
   obtain⟨M,rfl⟩:∃ M,N'=M+1:=⟨N' - 1,by omega⟩
   rw[iter];dsimp only;unfold z6q;rw[decide_eq_false (show ¬ (i:Int)<(p.2.2.2.2.1.length:Int) by omega),List.drop_eq_nil_of_le (by omega)];rfl
 | n + 1,N',i,h1,h2=>by
   obtain⟨M,rfl⟩:∃ M,N'=M+1:=⟨N' - 1,by omega⟩
   have hi:i<p.2.2.2.2.1.length:=by omega
   obtain⟨q1,q2,q3,q4,q5,q6,q7⟩:=h;have hr:=q7 _ (z17p hi);have ih:=zlx ⟨q1,q2,q3,q4,q5,q6,q7⟩ k0 k1 n M (i+1) (by omega) (by omega);rw[iter,zuo _ hi];dsimp only;have step:∀ rec,z6q N p.2.2.2.2.1 (p.2.2.2.2.1.length:Int) p (i:Int) rec k0 k1=cond (zkx (p.1.length:Int) 0 (p.2.2.2.2.1.getD i [])) (rec p ((i+1:Nat):Int)) (k0 false):=by
    intro rec;unfold z6q;rw[decide_eq_true (show (i:Int)<(p.2.2.2.2.1.length:Int) by omega),z19 hi,Int.toNat_natCast,zs1 p _ hr.1 (by omega) (by omega),z4w (x:=(i:Int)+1) (by unfold I64;omega)];simp only[cond_true,Option.bind_some];cases zkx (p.1.length:Int) 0 (p.2.2.2.2.1.getD i [])<;>rfl
   rw[step];cases zkx (p.1.length:Int) 0 (p.2.2.2.2.1.getD i []) with
   | true=>exact ih
   | false=>rfl
theorem zzp {N:Nat} {p:SpT} (h:z1a0 N p):zbm N p=some (okF p):=by
 have h':=h;obtain⟨q1,q2,q3,q4,q5,q6,q7⟩:=h';unfold zbm zgh zgg zlt okF;by_cases e1:p.2.2.2.2.1.length=p.1.length
 . rw[show (((p.2.2.2.2.1.length:Nat):Int) != ((p.1.length:Nat):Int))=false by simp[e1],decide_eq_true e1];simp only[cond_false,Bool.true_and];by_cases e2:512<p.1.length
   . rw[decide_eq_true (show (512:Int)<(p.1.length:Int) by omega),decide_eq_false (show ¬ p.1.length<=512 by omega)];rfl
   . rw[decide_eq_false (show ¬ (512:Int)<(p.1.length:Int) by omega),decide_eq_true (show p.1.length<=512 by omega)];simp only[cond_false,Bool.true_and];have:=zlx h (fun x21=>some x21) (fun p1=>(z3t N p1.2.2.1 p1).bind fun y =>
      cond y.1
      ((z3t N y.2.1.2.2.2.1 y.2.1).bind fun y1 =>
        some y1.1)
      (some false)) p.2.2.2.2.1.length N 0 q3 (by omega)
     refine this.trans ?_;rw[List.drop_zero,zs1 p _ q5.1 (by omega) (by omega)];simp only[Option.bind_some];rw[zs1 p _ q6.1 (by omega) (by omega)];cases zrx (p.1.length:Int) p.2.2.2.2.1<;>cases zkx (p.1.length:Int) 0 p.2.2.1<;>rfl
 . rw[show (((p.2.2.2.2.1.length:Nat):Int) != ((p.1.length:Nat):Int))=true by simp;omega,decide_eq_false e1];rfl
theorem zpw {N:Nat}{p:SpT}(h:z1a0 N p)(hl:p.2.2.2.2.1.length=p.1.length):∀ (n N' i:Nat),n<N'->i+n=p.1.length →
 iter (fun (v:Int) r=>z30 N p (p.1.length:Int) v (fun i=>(r i)) (fun x21=>some x21) (some true)) N' (i:Int)=some (zrx (p.1.length:Int) (p.2.2.2.2.1.drop i))
 | 0,N',i,h1,h2=>by
   obtain⟨M,rfl⟩:∃ M,N'=M+1:=⟨N' - 1,by omega⟩
   rw[iter];unfold z30;rw[decide_eq_false (show ¬ (i:Int)<(p.1.length:Int) by omega),List.drop_eq_nil_of_le (by omega)];rfl
 | n + 1,N',i,h1,h2=>by
   obtain⟨M,rfl⟩:∃ M,N'=M+1:=⟨N' - 1,by omega⟩
   have hi:i<p.2.2.2.2.1.length:=by omega
   obtain⟨q1,q2,q3,q4,q5,q6,q7⟩:=h;have hr:=q7 _ (z17p hi);have ih:=zpw ⟨q1,q2,q3,q4,q5,q6,q7⟩ hl n M (i+1) (by omega) (by omega);rw[iter,zuo _ hi];have step:∀ rec,z30 N p (p.1.length:Int) (i:Int) rec (fun x21=>some x21) (some true)=cond (zkx (p.1.length:Int) 0 (p.2.2.2.2.1.getD i [])) (rec ((i+1:Nat):Int)) (some false):=by
    intro rec;unfold z30;rw[decide_eq_true (show (i:Int)<(p.1.length:Int) by omega),z19 hi,Int.toNat_natCast,zrz _ _ hr.1 (by omega) (by omega),z4w (x:=(i:Int)+1) (by unfold I64;omega)];simp only[cond_true,Option.bind_some];cases zkx (p.1.length:Int) 0 (p.2.2.2.2.1.getD i [])<;>rfl
   rw[step];cases zkx (p.1.length:Int) 0 (p.2.2.2.2.1.getD i []) with
   | true=>exact ih
   | false=>rfl
theorem zw4 {N:Nat}{p:SpT}(h:z1a0 N p):z4c N p=some (okF p):=by
 have h':=h;obtain⟨q1,q2,q3,q4,q5,q6,q7⟩:=h';unfold z4c z8p z8o zdy okF;by_cases e2:512<p.1.length
 . rw[decide_eq_true (show (512:Int)<(p.1.length:Int) by omega),decide_eq_false (show ¬ p.1.length<=512 by omega)];simp
 . rw[decide_eq_false (show ¬ (512:Int)<(p.1.length:Int) by omega),decide_eq_true (show p.1.length<=512 by omega)];simp only[cond_false,Bool.true_and];by_cases e1:p.2.2.2.2.1.length=p.1.length
   . rw[show (((p.2.2.2.2.1.length:Nat):Int) != ((p.1.length:Nat):Int))=false by simp[e1],decide_eq_true e1];simp only[cond_false,Bool.true_and];rw[zrz _ _ q5.1 (by omega) (by omega),zrz _ _ q6.1 (by omega) (by omega)];simp only[Option.bind_some];have:=zpw h e1 p.1.length N 0 q4 (by omega);rw[List.drop_zero] at this;rw[show (0:Int)=((0:Nat):Int) from rfl,this];cases zrx (p.1.length:Int) p.2.2.2.2.1<;>cases zkx (p.1.length:Int) ((0:Nat):Int) p.2.2.1<;>cases zkx (p.1.length:Int) ((0:Nat):Int) p.2.2.2.1<;>rfl
   . rw[show (((p.2.2.2.2.1.length:Nat):Int) != ((p.1.length:Nat):Int))=true by simp;omega,decide_eq_false e1];rfl
end
end Go.Proofs.YtgbcebmahbieoaaDoorLg
set_option linter.all false
set_option maxRecDepth 100000
namespace Go.Proofs.YtgbcebmahbieoaaDoorLg
noncomputable section
open Go Go.Lift Go.Proofs.YtgbcebmahbieoaaDoorPx
def inL (l:List Int)(n:Int):Bool:=l.any fun x=>x == n
theorem z18u (N:Nat)(l:List Int)(n:Int)(hl:l.length<=70368744177664):∀ (k N' i:Nat),k<N'->i+k=l.length →
 iter (fun (v:Int) r=>z4b N l n v (fun i=>(r i)) (fun x4=>some x4) (some false)) N' (i:Int)=some (inL (l.drop i) n)
 | 0,N',i,h1,h2=>by
   obtain⟨M,rfl⟩:∃ M,N'=M+1:=⟨N' - 1,by omega⟩
   rw[iter];unfold z4b;rw[decide_eq_false (show ¬ (i:Int)<(l.length:Int) by omega),List.drop_eq_nil_of_le (by omega)];rfl
 | k + 1,N',i,h1,h2=>by
   obtain⟨M,rfl⟩:∃ M,N'=M+1:=⟨N' - 1,by omega⟩
   have hi:i<l.length:=by omega
   have ih:=z18u N l n hl k M (i+1) (by omega) (by omega);rw[iter];have step:∀ rec,z4b N l n (i:Int) rec (fun x4=>some x4) (some false)=cond (l.getD i 0 == n) (some true) (rec ((i+1:Nat):Int)):=by
    intro rec;unfold z4b;rw[decide_eq_true (show (i:Int)<(l.length:Int) by omega),z19 hi,Int.toNat_natCast,z4w (x:=(i:Int)+1) (by unfold I64;omega)];rfl
   rw[step];have e:inL (l.drop i) n=((l.getD i 0 == n) || inL (l.drop (i+1)) n):=by
    rw[List.drop_eq_getElem_cons hi,List.getD_eq_getElem?_getD,List.getElem?_eq_getElem hi];rfl
   rw[e];cases l.getD i 0 == n with
   | true=>rfl
   | false=>exact ih
theorem z1t7 {N:Nat}(l:List Int)(n:Int)(hN:l.length<N)(hl:l.length<=70368744177664):z6r N l n=some (inL l n):=by
 unfold z6r zh5;have:=z18u N l n hl l.length N 0 hN (by omega);simpa using this
def zy8 (a b:List Int):Nat->Nat->List Int
 | 0,_=>[]
 | k+1,n=>(if inL a (n:Int) || inL b (n:Int) then [(n:Int)] else [])++zy8 a b k (n+1)
theorem zy7 {N:Nat}(a b:List Int)(m:Nat)(hm:m<=10000)(ha:a.length<N/\a.length<=10000)(hb:b.length<N/\b.length<=10000):∀ (k N' n:Nat) (out:List Int),k<N'->n+k=m->out.length<=n →
 iter (fun (v:((List Int)×Int)) r=>z39 N a b (m:Int) v.1 v.2 (fun out n=>(r (out,n))) (fun out=>some out)) N' (out,(n:Int))=some (out++zy8 a b k n)
 | 0,N',n,out,h1,h2,h3=>by
   obtain⟨M,rfl⟩:∃ M,N'=M+1:=⟨N' - 1,by omega⟩
   rw[iter];dsimp only;unfold z39;rw[decide_eq_false (show ¬ (n:Int)<(m:Int) by omega)];simp[zy8]
 | k + 1,N',n,out,h1,h2,h3=>by
   obtain⟨M,rfl⟩:∃ M,N'=M+1:=⟨N' - 1,by omega⟩
   rw[iter];dsimp only;have step:∀ rec,z39 N a b (m:Int) out (n:Int) rec (fun out=>some out)=rec (out++(if inL a (n:Int) || inL b (n:Int) then [(n:Int)] else [])) ((n+1:Nat):Int):=by
    intro rec;unfold z39 z9g z9f;rw[decide_eq_true (show (n:Int)<(m:Int) by omega),z1t7 a _ ha.1 (by omega),z1t7 b _ hb.1 (by omega),z4w (x:=(n:Int)+1) (by unfold I64;omega),decide_eq_true (show (out.length+1)*8<=70368744177664 by omega)];simp only[Option.bind_some,cond_true];cases inL a (n:Int)<;>cases inL b (n:Int)<;>simp
   rw[step,zy8,<- List.append_assoc];exact zy7 a b m hm ha hb k M (n+1) _ (by omega) (by omega) (by rw[List.length_append];split<;>simp<;>omega)
theorem z18q {N:Nat}(a b:List Int)(m:Nat)(hm:m<=10000)(hN:m<N)(ha:a.length<N/\a.length<=10000)(hb:b.length<N/\b.length<=10000):z6m N a b (m:Int)=some (zy8 a b m 0):=by
 unfold z6m zf5;have:=zy7 a b m hm ha hb m N 0 [] hN (by omega) (Nat.le_refl _);simpa using this
end
end Go.Proofs.YtgbcebmahbieoaaDoorLg
set_option linter.all false
set_option maxRecDepth 100000
namespace Go.Proofs.YtgbcebmahbieoaaDoorLg
noncomputable section
open Go Go.Lift Go.Proofs.YtgbcebmahbieoaaDoorPx
def zxb (t:Nat):Int:=z23 .u64 (Go.IntKind.wrap .u64 ((285870213051353865:Int)*((2^t:Nat):Int))) 58
theorem z172:((List.range 64).all fun t=>inR (zxb t) 64 && (Go.IntKind.wrap .i64 (List.getD glob0 (Int.toNat (zxb t)) (0:Int)) == (t:Int)))=true:=by kernel_rfl
theorem z1b6 {t:Nat}(h:t<64):inR (zxb t) 64=true/\Go.IntKind.wrap .i64 (List.getD glob0 (Int.toNat (zxb t)) (0:Int))=(t:Int):=by
 have:=List.all_eq_true.1 z172 t (List.mem_range.2 h);rw[Bool.and_eq_true,beq_iff_eq] at this;exact this
theorem tz_eq (N:Nat){x:Int}(h:U64 x){t q:Nat}(e:x.toNat=2^t*(2*q+1))(ht:t<64):z1x N x=some (t:Int):=by
 have hp:=Nat.two_pow_pos t;have hpos:0<x.toNat:=by
  rw[e];exact Nat.mul_pos hp (by omega)
 have h1:=h.2;have hz:(x == (0:Int))=false:=by
  rw[beq_eq_false_iff_ne];omega
 have hn:Go.IntKind.wrap .u64 ((0:Int) - x)=((2^64 - x.toNat:Nat):Int):=by
  rw[zqz,show (2:Nat)^64=18446744073709551616 from rfl];omega
 have hu:U64 ((2^64 - x.toNat:Nat):Int):=by
  rw[show (2:Nat)^64=18446744073709551616 from rfl];unfold U64;omega
 have ha:ze .and .u64 x (Go.IntKind.wrap .u64 ((0:Int) - x))=((2^t:Nat):Int):=by
  have hlt:2^t*(2*q+1)<2^64:=by rw[<- e,show (2:Nat)^64=18446744073709551616 from rfl];omega
  rw[hn,ztr h hu,Int.toNat_natCast,e,z1hb hlt]
 obtain⟨t1,t2⟩:=z1b6 ht;rw[z1x,z2c hz,ha];rw[show z23 .u64 (Go.IntKind.wrap .u64 ((285870213051353865:Int)*((2^t:Nat):Int))) 58=zxb t from rfl,zw t1,t2]
def enc (w:Nat):List Int:=[(w:Int),0,0,0,0,0,0,0]
theorem z1k1 {a b:Nat}(h:enc a=enc b):a=b:=by
 have:=(List.cons.inj h).1;omega
theorem z9e {w:Nat}(h:w<2^64):U64 (w:Int):=by
 rw[show (2:Nat)^64=18446744073709551616 from rfl] at h;unfold U64;omega
theorem and8 (k:Nat)(a b:Int):z5i (k+9) [a,0,0,0,0,0,0,0] [b,0,0,0,0,0,0,0]=some [ze .and .u64 a b,0,0,0,0,0,0,0]:=by kernel_rfl
theorem or8 (k:Nat)(a b:Int):zau (k+9) [a,0,0,0,0,0,0,0] [b,0,0,0,0,0,0,0]=some [ze .or .u64 a b,0,0,0,0,0,0,0]:=by kernel_rfl
theorem z19w {N:Nat}(hN:9<=N){a b:Nat}(ha:a<2^64)(hb:b<2^64):z5i N (enc a) (enc b)=some (enc (a &&& b)):=by
 obtain⟨k,rfl⟩:∃ k,N=k+9:=⟨N - 9,by omega⟩
 rw[enc,enc,and8,ztr (z9e ha) (z9e hb),Int.toNat_natCast,Int.toNat_natCast];rfl
theorem z1oi {N:Nat}(hN:9<=N){a b:Nat}(ha:a<2^64)(hb:b<2^64):zau N (enc a) (enc b)=some (enc (a ||| b)):=by
 obtain⟨k,rfl⟩:∃ k,N=k+9:=⟨N - 9,by omega⟩
 rw[enc,enc,or8,z185 (z9e ha) (z9e hb),Int.toNat_natCast,Int.toNat_natCast];rfl
def maskL (l:List Int):Nat:=l.foldl (fun w x=>w ||| 2^x.toNat) 0
theorem z13w:∀ (l:List Int) (w j:Nat),(l.foldl (fun w x=>w ||| 2^x.toNat) w).testBit j=(w.testBit j || l.any fun x=>decide (x.toNat=j))
 | [],w,j=>by simp
 | x::l,w,j=>by
   rw[List.foldl_cons,z13w l,Nat.testBit_or,Nat.testBit_two_pow,List.any_cons,Bool.or_assoc]
theorem z109 {m:Nat}(hm:m<=64):∀ (l:List Int) (w:Nat),(∀ x∈l,0<=x/\x<(m:Int))->w<2^m->l.foldl (fun w x=>w ||| 2^x.toNat) w<2^m
 | [],w,_,hw=>hw
 | x::l,w,h,hw=>by
   rw[List.foldl_cons];have hx:=h x (.head _);exact z109 hm l _ (fun y hy=>h y (.tail _ hy)) (Nat.or_lt_two_pow hw (Nat.pow_lt_pow_right (by omega) (by omega)))
theorem zkz {m:Nat}(hm:m<=64):(2:Nat)^m<=2^64:=Nat.pow_le_pow_right (by omega) hm
theorem zno {N:Nat}(l:List Int)(hl:l.length<=1000000)(h:∀ x∈l,0<=x/\x<64):∀ (k N' i w:Nat),k<N'->i+k=l.length->w<2^64 →
 iter (fun (v:((List Int)×Int)) r=>z7o N [0,0,0,0,0,0,0,0] l ((l.length:Nat):Int) v.1 v.2 (fun s x8=>(r (s,x8))) (fun s=>some s)) N' (enc w,(i:Int))=some (enc ((l.drop i).foldl (fun w x=>w ||| 2^x.toNat) w))
 | 0,N',i,w,h1,h2,hw=>by
   obtain⟨M,rfl⟩:∃ M,N'=M+1:=⟨N' - 1,by omega⟩
   rw[iter];dsimp only;unfold z7o;rw[z32 (p:=(i:Int)<((l.length:Nat):Int)) (by omega),List.drop_eq_nil_of_le (by omega)];rfl
 | k + 1,N',i,w,h1,h2,hw=>by
   obtain⟨M,rfl⟩:∃ M,N'=M+1:=⟨N' - 1,by omega⟩
   have hi:i<l.length:=by omega
   obtain⟨hx0,hx1⟩:=h (l.getD i 0) (by rw[List.getD_eq_getElem?_getD,List.getElem?_eq_getElem hi];exact List.getElem_mem hi);obtain⟨x,hx⟩:=Int.eq_ofNat_of_zero_le hx0;have hx64:x<64:=by omega
   have e1:Go.IntKind.wrap .i64 (Int.tdiv (x:Int) (64:Int))=0:=by
    rw[Int.tdiv_eq_ediv_of_nonneg (by omega),show (x:Int) / 64=0 by omega];rfl
   have e2:Int.tmod (x:Int) (64:Int)=(x:Int):=by rw[Int.tmod_eq_emod_of_nonneg (by omega)];omega
   have ih:=zno (N:=N) l hl h k M (i+1) (w ||| 2^x) (by omega) (by omega) (Nat.or_lt_two_pow hw (Nat.pow_lt_pow_right (by omega) hx64));rw[iter];dsimp only
   conv=>lhs;unfold z7o
   rw[z27 (p:=(i:Int)<((l.length:Nat):Int)) (by omega),z19 hi,Int.toNat_natCast,hx,e1,e2,z27 (p:=(0:Int)<=(x:Int)) (by omega),shl1 hx64,z1a (i:=i) (by omega),z4q l 0 i hi,hx,List.foldl_cons,Int.toNat_natCast];rw[<- ih];simp only[cond_true,enc,Int.toNat_zero,List.getD_cons_zero,List.set_cons_zero];rw[z185 (z9e hw) (u64_pow hx64),Int.toNat_natCast,Int.toNat_natCast];rfl
theorem zpy {N:Nat}(l:List Int)(hl:l.length<=1000000)(hN:l.length<N)(h:∀ x∈l,0<=x/\x<64):z58 N l=some (enc (maskL l)):=by
 have:=zno (N:=N) l hl h l.length N 0 0 hN (by omega) (by decide);rw[List.drop_zero] at this;exact this
theorem z1bx (t q:Nat):(2^t*(2*q+1)) &&& (2^t*(2*q+1) - 1)=2^t*(2*q):=by
 apply Nat.eq_of_testBit_eq;intro i;have hp:=Nat.two_pow_pos t;have e:2^t*(2*q+1) - 1=2^t*(2*q)+(2^t - 1):=by rw[Nat.mul_add,Nat.mul_one];omega
 rw[Nat.testBit_and,z10b,e,Nat.testBit_two_pow_mul_add (2*q) (by omega)];have e2:(2^t*(2*q)).testBit i=if i<t then false else (2*q).testBit (i - t):=by
  have:=Nat.testBit_two_pow_mul_add (2*q) hp i;rw[Nat.add_zero] at this;rw[this];split<;>simp
 rw[e2];by_cases h1:i<t
 . simp[h1]
 . by_cases h2:i=t
   . subst h2;simp
   . rw[if_neg h1,if_neg h2,if_neg h1,if_neg h1];have:i - t=(i - t - 1)+1:=by omega
     rw[this,Nat.testBit_succ];simp
theorem zwj (t q i:Nat):(2^t*(2*q+1)).testBit i=(decide (i=t) || (2^t*(2*q)).testBit i):=by
 rw[z10b];have e2:(2^t*(2*q)).testBit i=if i<t then false else (2*q).testBit (i - t):=by
  have:=Nat.testBit_two_pow_mul_add (2*q) (Nat.two_pow_pos t) i;rw[Nat.add_zero] at this;rw[this];split<;>simp
 rw[e2];by_cases h1:i<t
 . rw[if_pos h1,if_pos h1,z32 (by omega)];rfl
 . by_cases h2:i=t
   . subst h2;simp
   . rw[if_neg h1,if_neg h2,if_neg h1,z32 h2,Bool.false_or];have:i - t=(i - t - 1)+1:=by omega
     rw[this,Nat.testBit_succ];simp
def afterM (nx:Nat->Nat)(n w:Nat):Nat:=(List.range n).foldl (fun acc i=>cond (w.testBit i) (acc ||| nx i) acc) 0
theorem zvn (nx:Nat->Nat)(w:Nat)(j:Nat):∀ (l:List Nat) (acc:Nat),(l.foldl (fun acc i=>cond (w.testBit i) (acc ||| nx i) acc) acc).testBit j=(acc.testBit j || l.any fun i=>w.testBit i && (nx i).testBit j)
 | [],acc=>by simp
 | x::l,acc=>by
   rw[List.foldl_cons,zvn nx w j l,List.any_cons];cases w.testBit x
   . simp
   . rw[cond_true,Nat.testBit_or,Bool.true_and,Bool.or_assoc]
theorem ztu (nx:Nat->Nat)(n w j:Nat):(afterM nx n w).testBit j=(List.range n).any fun i=>w.testBit i && (nx i).testBit j:=by
 rw[afterM,zvn,Nat.zero_testBit,Bool.false_or]
theorem z1d3 {nx:Nat->Nat}{n m:Nat}(hx:∀ i,i<n->nx i<2^m)(w:Nat):afterM nx n w<2^m:=by
 have:∀ (l:List Nat) (acc:Nat),(∀ i∈l,i<n)->acc<2^m->l.foldl (fun acc i=>cond (w.testBit i) (acc ||| nx i) acc) acc<2^m:=by
  intro l
  induction l with
  | nil=>exact fun acc _ h=>h
  | cons x l ih =>
    intro acc hl h;rw[List.foldl_cons];refine ih _ (fun i hi=>hl i (.tail _ hi)) ?_;cases w.testBit x
    . exact h
    . exact Nat.or_lt_two_pow h (hx x (hl x (.head _)))
 exact this _ _ (fun i hi=>List.mem_range.1 hi) (Nat.two_pow_pos m)
theorem z160 {nx:Nat->Nat}{n t q:Nat}(ht:t<n):afterM nx n (2^t*(2*q+1))=nx t ||| afterM nx n (2^t*(2*q)):=by
 apply Nat.eq_of_testBit_eq;intro j;rw[Nat.testBit_or,ztu,ztu,Bool.eq_iff_iff];simp only[List.any_eq_true,List.mem_range,Bool.or_eq_true,Bool.and_eq_true];constructor
 . rintro⟨i,h1,h2,h3⟩;rw[zwj,Bool.or_eq_true,decide_eq_true_eq] at h2;rcases h2 with rfl|h2
   . exact .inl h3
   . exact .inr ⟨i,h1,h2,h3⟩
 . rintro (h|⟨i,h1,h2,h3⟩)
   . exact⟨t,ht,by rw[zwj];simp,h⟩
   . exact⟨i,h1,by rw[zwj,h2];simp,h3⟩
theorem z15y (nx:Nat->Nat)(n:Nat):afterM nx n 0=0:=by
 apply Nat.eq_of_testBit_eq;intro j;rw[ztu,Nat.zero_testBit,List.any_eq_false];intro i _;rw[Nat.zero_testBit];simp
abbrev BlT:=(List Int)×((List Int)×((List (List Int))×((List (List Int))×((Option (List ((List Int)×Int)))×((List (List Int))×(DfT×Unit))))))
theorem z15z {N n:Nat}(b:BlT)(x4 x8:List Int)(x9:Int){nx:Nat->Nat}(hn:n<=64)(hb:b.2.2.1.length=n)(hx:∀ i,i<n->b.2.2.1.getD i []=enc (nx i)/\nx i<2^64)(hN:9<=N)(k0:List Int->Option (List Int×(BlT×Unit))):∀ (w N' all:Nat),w<N'->w<2^n->all<2^64 →
 iter (fun (v:((List Int)×Int)) r=>z31 N b x4 0 x8 x9 v.1 v.2 (fun all word=>(r (all,word))) k0) N' (enc all,(w:Int))=k0 (enc (all ||| afterM nx n w)):=by
 intro w
 induction w using Nat.strongRecOn with
 | ind w ih =>
   intro N' all h1 h2 h3;obtain⟨M,rfl⟩:∃ M,N'=M+1:=⟨N' - 1,by omega⟩
   rw[iter];by_cases hw:w=0
   . subst hw;rw[z15y,Nat.or_zero];rfl
   obtain⟨t,q,e⟩:=z1by w hw;have hp:=Nat.two_pow_pos t;have ht:t<n:=by
    have:2^t*1<=2^t*(2*q+1):=Nat.mul_le_mul_left _ (by omega);exact (Nat.pow_lt_pow_iff_right (a:=2) (by omega)).1 (by omega)
   have hw64:w<2^64:=Nat.lt_of_lt_of_le h2 (zkz hn);have hz:((w:Int) != (0:Int))=true:=bne_iff_ne.2 (by omega);have hw1:Go.IntKind.wrap .u64 ((w:Int) - 1)=((w - 1:Nat):Int):=by
    rw[zqz];rw[show (2:Nat)^64=18446744073709551616 from rfl] at hw64;omega
   have hlt:2^t*(2*q)<w:=by rw[e,Nat.mul_add];omega
   have e64:Go.IntKind.wrap .i64 (Go.IntKind.wrap .i64 ((0:Int)*(64:Int))+(t:Int))=(t:Int):=by
    rw[show Go.IntKind.wrap .i64 ((0:Int)*(64:Int))=0 from rfl,Int.zero_add];exact z4w (by unfold I64;omega)
   have hstep:∀ rec,z31 N b x4 0 x8 x9 (enc all) (w:Int) rec k0=rec (enc (all ||| nx t)) ((2^t*(2*q):Nat):Int):=by
    intro rec;unfold z31;rw[hz,cond_true,tz_eq N (z9e hw64) (t:=t) (q:=q) (by rw[Int.toNat_natCast];exact e) (by omega),Option.bind_some,e64,z19 (show t<b.2.2.1.length by omega),cond_true,Int.toNat_natCast,(hx t ht).1,z1oi hN h3 (hx t ht).2,Option.bind_some,hw1,ztr (z9e hw64) (z9e (by omega)),Int.toNat_natCast,Int.toNat_natCast];rw[show w &&& (w - 1)=2^t*(2*q) from by rw[e,z1bx]]
   have hih:=ih _ hlt M (all ||| nx t) (by omega) (by omega) (Nat.or_lt_two_pow h3 (hx t ht).2);refine (hstep _).trans (hih.trans ?_);rw[Nat.or_assoc,e,z160 ht]
theorem z19y {N n:Nat} (b:BlT) {nx:Nat->Nat} (hn:n<=64) (hb:b.2.2.1.length=n) (hx:∀ i,i<n->b.2.2.1.getD i []=enc (nx i)/\nx i<2^64) {w:Nat} (hw:w<2^n) (hN:w+10<N):z4k N b (enc w)=some (enc (afterM nx n w),(b,())):=by
 unfold z4k ze5;have zero:∀ (N':Nat) (all:List Int) (i x9:Int) (k0:List Int->Option (List Int×(BlT×Unit))),0<N'->iter (fun (v:((List Int)×Int)) r=>z31 N b [0,0,0,0,0,0,0,0] i (enc w) x9 v.1 v.2 (fun all word=>(r (all,word))) k0) N' (all,0)=k0 all:=by
  intro N' all i x9 k0 h;obtain⟨M,rfl⟩:∃ M,N'=M+1:=⟨N' - 1,by omega⟩
  rw[iter];rfl
 have step:∀ (k i:Nat) (M:Nat) (all:List Int),0<i->i+k=8->k<M->iter (fun (v:((List Int)×Int)) r=>z21 N b [0,0,0,0,0,0,0,0] (enc w) v.1 v.2 (fun all x9=>(r (all,x9))) (fun all=>some (all,(b,())))) M (all,(i:Int))=some (all,(b,())):=by
  intro k
  induction k with
  | zero =>
    intro i M all h0 h1 h2;obtain⟨M,rfl⟩:∃ M',M=M'+1:=⟨M - 1,by omega⟩
    rw[iter];dsimp only;unfold z21;rw[z32 (by omega)];rfl
  | succ k ih =>
    intro i M all h0 h1 h2;obtain⟨M,rfl⟩:∃ M',M=M'+1:=⟨M - 1,by omega⟩
    rw[iter];dsimp only;unfold z21 z8s;have ez:(enc w).getD i 0=0:=by
     match i,h0,(show i<8 by omega) with
     | 1,_,_=>rfl
     | 2,_,_=>rfl
     | 3,_,_=>rfl
     | 4,_,_=>rfl
     | 5,_,_=>rfl
     | 6,_,_=>rfl
     | 7,_,_=>rfl
    rw[z27 (p:=(i:Int)<8) (by omega),z19 (show i<8 by omega),cond_true,cond_true,Int.toNat_natCast,ez,zero _ _ _ _ _ (by omega),z1a (by omega)];exact ih (i+1) M all (by omega) (by omega) (by omega)
 obtain⟨M,hM⟩:∃ M,N=M+1:=⟨N - 1,by omega⟩
 have key:∀ r:((List Int)×Int)->Option (List Int×(BlT×Unit)),z21 N b [0,0,0,0,0,0,0,0] (enc w) [0,0,0,0,0,0,0,0] 0 (fun all x9=>(r (all,x9))) (fun all=>some (all,(b,())))=r (enc (afterM nx n w),1):=by
  intro r;unfold z21 z8s;rw[show decide ((0:Int)<8)=true from rfl,show inR (0:Int) 8=true from rfl,cond_true,cond_true];have:=z15z (N:=N) b [0,0,0,0,0,0,0,0] (enc w) 0 hn hb hx (by omega) (fun all1=>r (all1,Go.IntKind.wrap .i64 ((0:Int)+1))) w N 0 (by omega) hw (by decide);rw[Nat.zero_or] at this;exact this
 have h1:iter (fun (v:((List Int)×Int)) r=>z21 N b [0,0,0,0,0,0,0,0] (enc w) v.1 v.2 (fun all x9=>(r (all,x9))) (fun all=>some (all,(b,())))) (M+1) ([0,0,0,0,0,0,0,0],0)=some (enc (afterM nx n w),(b,())):=by
  rw[iter];dsimp only;rw[key];exact step 7 1 M _ (by omega) (by omega) (by omega)
 rw[<- hM] at h1;exact h1
end
end Go.Proofs.YtgbcebmahbieoaaDoorLg
set_option linter.all false
set_option maxRecDepth 100000
namespace Go.Proofs.YtgbcebmahbieoaaDoorLg
noncomputable section
open Go Go.Lift Go.Proofs.YtgbcebmahbieoaaDoorPx
structure Par where
 n:Nat
 nx:Nat->Nat
 rd:List Nat
 first:Nat
 last:Nat
 block:List Int
abbrev StM:=List Nat×(List Bool×List (List Int))
def zue (P:Par)(s:List Nat×List Bool)(m:Nat):List Nat×List Bool:=cond (s.1.contains m) s (s.1++[m],s.2++[decide (m &&& P.last≠0)])
def zu2 (P:Par)(may:Nat):List Nat->List Nat×List Bool->List Int->(List Nat×List Bool)×List Int
 | [],s,row=>(s,row)
 | r::rs,s,row=>zu2 P may rs (zue P s (may &&& r)) (row++[((zue P s (may &&& r)).1.idxOf (may &&& r):Int)+1])
def z1m9 (P:Par)(kn:List Nat):Nat->Nat
 | 0=>P.first
 | j+1=>afterM P.nx P.n (kn.getD j 0)
def zgl (P:Par)(st:StM):StM :=
 let r:=zu2 P (z1m9 P st.1 st.2.2.length) P.rd (st.1,st.2.1) []
 (r.1.1,(r.1.2,st.2.2++[r.2]))
def zlw (P:Par):Nat->StM->StM
 | 0,st=>st
 | f+1,st=>cond (decide (st.2.2.length<=st.1.length)) (zlw P f (zgl P st)) st
def z17i (P:Par)(st:StM):StM:=zlw P (130 - st.2.2.length) st
def znn (P:Par):Nat->StM->StM
 | 0,st=>st
 | k+1,st=>znn P k (zgl P st)
structure PokM (P:Par):Prop where
 n7:P.n<=7
 nx:∀ i,i<P.n->P.nx i<2^P.n
 rd:∀ r∈P.rd,r<2^P.n
 first:P.first<2^P.n
 last:P.last<2^P.n
structure KnM (P:Par) (kn:List Nat) (fi:List Bool):Prop where
 nd:kn.Nodup
 lt:∀ m∈kn,m<2^P.n
 len:fi.length=kn.length+1
theorem zwe:∀ (k:Nat) (l:List Nat),l.Nodup->(∀ x∈l,x<k)->l.length<=k
 | 0,l,_,h=>by
   cases l with
   | nil=>exact Nat.le_refl _
   | cons x l=>exact absurd (h x (.head _)) (Nat.not_lt_zero _)
 | k + 1,l,hn,h=>by
   by_cases hk:k∈l
   . have h1:=zwe k (l.erase k) (hn.erase k) (fun x hx=>by
      have h2:=h x (List.mem_of_mem_erase hx);have h3:x≠k:=fun e=>by
       subst e;exact (List.Nodup.not_mem_erase hn) hx
      omega)
     rw[List.length_erase_of_mem hk] at h1;omega
   . have:=zwe k l hn (fun x hx=>by
      have h2:=h x hx;have h3:x≠k:=fun e=>hk (e ▸ hx)
      omega)
     omega
theorem KnM.le {P:Par}(hP:PokM P){kn:List Nat}{fi:List Bool}(h:KnM P kn fi):kn.length<=128:=by
 have h1:=zwe _ kn h.nd h.lt;have h2:2^P.n<=2^7:=Nat.pow_le_pow_right (by omega) hP.n7;have h3:(2:Nat)^7=128:=rfl;omega
theorem KnM.add {P:Par}{kn:List Nat}{fi:List Bool}(h:KnM P kn fi){m:Nat}(hm:m<2^P.n):KnM P (zue P (kn,fi) m).1 (zue P (kn,fi) m).2:=by
 unfold zue;cases hc:kn.contains m
 . simp only[hc,cond_false];have hc':m∉kn:=by simpa using hc
   refine⟨List.nodup_append.2 ⟨h.nd,by simp,fun a ha b hb e=>?_⟩,fun x hx=>?_,by simp[h.len]⟩
   . rw[List.mem_singleton.1 hb] at e;exact hc' (e ▸ ha)
   . rcases List.mem_append.1 hx with hx|hx
     . exact h.lt x hx
     . rw[List.mem_singleton.1 hx];exact hm
 . simp only[hc,cond_true];exact h
theorem z19z {P:Par}(kn:List Nat)(fi:List Bool)(m:Nat):∃ ys,(zue P (kn,fi) m).1=kn++ys:=by
 unfold zue;cases kn.contains m
 . exact⟨[m],rfl⟩
 . exact⟨[],by simp⟩
theorem z17n {P:Par}{may:Nat}(hmay:may<2^P.n):∀ (rs:List Nat) (s:List Nat×List Bool) (row:List Int),KnM P s.1 s.2->KnM P (zu2 P may rs s row).1.1 (zu2 P may rs s row).1.2/\(∃ ys,(zu2 P may rs s row).1.1=s.1++ys)/\(zu2 P may rs s row).2.length=row.length+rs.length
 | [],s,row,h=>⟨h,⟨[],by simp[zu2]⟩,rfl⟩
 | r::rs,s,row,h=>by
   have h1:=h.add (m:=may &&& r) (Nat.lt_of_le_of_lt Nat.and_le_left hmay);obtain⟨g1,⟨ys,g2⟩,g3⟩:=z17n hmay rs (zue P s (may &&& r)) (row++[((zue P s (may &&& r)).1.idxOf (may &&& r):Int)+1]) h1;obtain⟨zs,g4⟩:=z19z (P:=P) s.1 s.2 (may &&& r);refine⟨g1,⟨zs++ys,?_⟩,?_⟩
   . rw[zu2,g2,g4,List.append_assoc]
   . rw[zu2,g3];simp;omega
theorem z13v {P:Par}(hP:PokM P)(kn:List Nat)(j:Nat):z1m9 P kn j<2^P.n:=by
 cases j with
 | zero=>exact hP.first
 | succ j=>exact z1d3 hP.nx _
theorem zoq {P:Par}(hP:PokM P){st:StM}(h:KnM P st.1 st.2.1):KnM P (zgl P st).1 (zgl P st).2.1/\(∃ ys,(zgl P st).1=st.1++ys)/\(zgl P st).2.2.length=st.2.2.length+1:=by
 obtain⟨g1,g2,g3⟩:=z17n (z13v hP st.1 st.2.2.length) P.rd (st.1,st.2.1) [] h;exact⟨g1,g2,by simp[zgl]⟩
theorem zvy {P:Par}{st:StM}(h1:st.2.2.length<=st.1.length)(h2:st.1.length<=128)(hp:(zgl P st).2.2.length=st.2.2.length+1):z17i P st=z17i P (zgl P st):=by
 unfold z17i;rw[hp,show 130 - st.2.2.length=(130 - (st.2.2.length+1))+1 by omega,zlw,z27 h1];rfl
theorem z139 {P:Par}{st:StM}(h1:st.1.length<st.2.2.length):z17i P st=st:=by
 unfold z17i;cases 130 - st.2.2.length with
 | zero=>rfl
 | succ f=>rw[zlw,z32 (by omega)];rfl
theorem zxs {P:Par}(hP:PokM P):∀ (k:Nat) (st:StM),KnM P st.1 st.2.1->st.2.2.length+k<=st.1.length+1->z17i P st=z17i P (znn P k st)
 | 0,st,_,_=>rfl
 | k+1,st,h,hk=>by
   obtain⟨g1,⟨ys,g2⟩,g3⟩:=zoq hP h;rw[zvy (by omega) (h.le hP) g3,znn,zxs hP k _ g1 (by rw[g2,g3,List.length_append];omega)]
theorem z13l {P:Par}(hP:PokM P):∀ (k:Nat) (st:StM),KnM P st.1 st.2.1->KnM P (znn P k st).1 (znn P k st).2.1/\(∃ ys,(znn P k st).1=st.1++ys)/\(znn P k st).2.2.length=st.2.2.length+k
 | 0,st,h=>⟨h,⟨[],by simp[znn]⟩,rfl⟩
 | k+1,st,h=>by
   obtain⟨g1,⟨ys,g2⟩,g3⟩:=zoq hP h;obtain⟨e1,⟨zs,e2⟩,e3⟩:=z13l hP k _ g1;exact⟨e1,⟨ys++zs,by rw[znn,e2,g2,List.append_assoc]⟩,by rw[znn,e3,g3];omega⟩
def zd1:Nat->List Nat->List (List Int×Int)
 | _,[]=>[]
 | i,m::l=>(enc m,(i:Int)+1)::zd1 (i+1) l
theorem zz7:∀ (l:List Nat) (i m:Nat),zd1 i (l++[m])=zd1 i l++[(enc m,((i+l.length:Nat):Int)+1)]
 | [],i,m=>rfl
 | x::l,i,m=>by
   rw[List.cons_append,zd1,zd1,zz7 l (i+1) m,List.cons_append,List.length_cons,show i+1+l.length=i+(l.length+1) by omega]
theorem z196 (a b:Nat):eqD (T.arr 8 (T.int Go.IntKind.u64)) (enc a) (enc b)=decide (a=b):=by
 rw[Bool.eq_iff_iff,zpe _ _ _ rfl,decide_eq_true_eq];exact⟨z1k1,fun e=>by rw[e]⟩
theorem zv2 (m:Nat):∀ (l:List Nat) (i:Nat),z5g (eqD (T.arr 8 (T.int Go.IntKind.u64))) (enc m) (zd1 i l)=cond (l.contains m) (some (((i+l.idxOf m:Nat):Int)+1)) none
 | [],i=>rfl
 | x :: l,i=>by
   rw[zd1,z5g,z196,List.contains_cons,List.idxOf_cons];by_cases h:m=x
   . subst h;simp
   . rw[z32 h];have h1:(m == x)=false:=by simpa using h
     have h2:(x == m)=false:=by simpa using fun e=>h e.symm
     simp only[h1,h2,Bool.false_or,cond_false];rw[zv2 m l (i+1),show i+1+l.idxOf m=i+(l.idxOf m+1) by omega]
theorem z17d {m:Nat}{l:List Nat}{i:Nat}(h:l.contains m=false)(v:Int):ztz (eqD (T.arr 8 (T.int Go.IntKind.u64))) (enc m) v (zd1 i l)=zd1 i l++[(enc m,v)]:=by
 refine zrp ?_;have:∀ (l:List Nat) (i:Nat),l.contains m=false->∀ x∈zd1 i l,eqD (T.arr 8 (T.int Go.IntKind.u64)) (enc m) x.1=false:=by
  intro l
  induction l with
  | nil=>intro i _ x hx;cases hx
  | cons y l ih =>
    intro i hc x hx;rw[List.contains_cons,Bool.or_eq_false_iff] at hc;rcases List.mem_cons.1 hx with rfl|hx
    . exact (z196 m y).trans (z32 (by simpa using hc.1))
    . exact ih (i+1) hc.2 x hx
 exact this l i h
def mkB (P:Par)(nextL:List (List Int))(kn:List Nat)(c0:Nat)(fi:List Bool)(rows:List (List Int)):BlT :=
 (enc P.first,(enc P.last,(nextL,(P.rd.map enc,(some (zd1 0 kn),((kn.drop c0).map enc,((0,(fi,(P.block,(rows,())))),())))))))
theorem z156 {N:Nat}(hN:9<=N){P:Par}(hP:PokM P){nextL:List (List Int)}{kn:List Nat}{c0:Nat}{fi:List Bool}{rows:List (List Int)}(h:KnM P kn fi)(hc:c0<=kn.length){m:Nat}(hm:m<2^P.n) :
 z59 N (mkB P nextL kn c0 fi rows) (enc m)=some (((((zue P (kn,fi) m).1.idxOf m:Nat):Int)+1,(true,())),(mkB P nextL (zue P (kn,fi) m).1 c0 (zue P (kn,fi) m).2 rows,())):=by
 have hle:=h.le hP;have hm64:m<2^64:=Nat.lt_of_lt_of_le hm (zkz (by have:=hP.n7;omega));have hl64:P.last<2^64:=Nat.lt_of_lt_of_le hP.last (zkz (by have:=hP.n7;omega));have hlook:=zv2 m kn 0;rw[Nat.zero_add] at hlook;have e3:(!(eqD (T.arr 8 (T.int Go.IntKind.u64)) (enc (m &&& P.last)) (enc 0)))=decide (m &&& P.last≠0):=by
  rw[z196];simp
 unfold z59 zue;cases hk:kn.contains m
 . have e1:kn.idxOf m=kn.length:=List.idxOf_eq_length (by simpa using hk);have e2:(kn++[m]).idxOf m=kn.length:=by
    rw[List.idxOf_append,if_neg (by simpa using hk)];simp
   have hl0:z5g (eqD (T.arr 8 (T.int Go.IntKind.u64))) (enc m) (zd1 0 kn)=none:=by rw[hlook,hk];rfl
   have hset:=z17d (m:=m) (l:=kn) (i:=0) hk ((fi.length:Nat):Int);have happ:=zz7 kn 0 m;rw[Nat.zero_add] at happ;have hq:(((fi.length:Nat):Int) == (4096:Int))=false:=by rw[beq_eq_false_iff_ne];have:=h.len;omega
   show cond (Option.isSome (z5g (eqD (T.arr 8 (T.int Go.IntKind.u64))) (enc m) (zd1 0 kn))) _ (cond (((fi.length:Nat):Int) == (4096:Int)) _ (cond (decide ((((kn.drop c0).map enc).length+1)*64<=70368744177664)) ((z5i N (enc m) (enc P.last)).bind fun y=>cond (decide ((fi.length+1)*1<=70368744177664)) (some ((((fi.length:Nat):Int),(true,())),((enc P.first,(enc P.last,(nextL,(P.rd.map enc,(some (ztz (eqD (T.arr 8 (T.int Go.IntKind.u64))) (enc m) ((fi.length:Nat):Int) (zd1 0 kn)),((kn.drop c0).map enc++[enc m],((0,(fi++[!(eqD (T.arr 8 (T.int Go.IntKind.u64)) y (enc 0))],(P.block,(rows,())))),()))))))),()))) none) none))=_;rw[hl0,hq,z27 (by simp;omega),z19w hN hm64 hl64,Option.bind_some,z27 (by have:=h.len;omega),hset,e3,h.len];simp only[Option.isSome_none,cond_false,cond_true];rw[e2];unfold mkB;rw[happ,List.drop_append_of_le_length hc,List.map_append];rfl
 . have hl0:z5g (eqD (T.arr 8 (T.int Go.IntKind.u64))) (enc m) (zd1 0 kn)=some (((kn.idxOf m:Nat):Int)+1):=by rw[hlook,hk];rfl
   show cond (Option.isSome (z5g (eqD (T.arr 8 (T.int Go.IntKind.u64))) (enc m) (zd1 0 kn))) (some ((Option.getD (z5g (eqD (T.arr 8 (T.int Go.IntKind.u64))) (enc m) (zd1 0 kn)) 0,(true,())),(mkB P nextL kn c0 fi rows,()))) _=_;rw[hl0];rfl
theorem z1gi {α:Type}(l:List α)(x y:α)(r:List α){i:Nat}(hi:l.length=i):(l++x::r).set i y=l++y::r:=by
 rw[List.set_append_right _ _ (by omega),show i - l.length=0 by omega];rfl
theorem z13c {N:Nat} (hN:9<=N) {P:Par} (hP:PokM P) {nextL:List (List Int)} {c0:Nat} {rows:List (List Int)} {may:Nat} (hmay:may<2^P.n) (hrd:P.rd.length<=1000) (k0:BlT->Bool->Option (Bool×(BlT×Unit))) (k1:BlT->List Int->Option (Bool×(BlT×Unit))) :
 ∀ (k N' i:Nat) (kn:List Nat) (fi:List Bool) (done:List Int),k<N'->i+k=P.rd.length->done.length=i->KnM P kn fi->c0<=kn.length →
 iter (fun (v:(BlT×(List Int)×Int)) r=>z3m N (enc may) (P.rd.map enc) ((P.rd.length:Nat):Int) v.1 v.2.1 v.2.2 (fun b row x21=>(r (b,row,x21))) k0 k1) N' (mkB P nextL kn c0 fi rows,done++List.replicate k 0,(i:Int)) =
  k1 (mkB P nextL (zu2 P may (P.rd.drop i) (kn,fi) done).1.1 c0 (zu2 P may (P.rd.drop i) (kn,fi) done).1.2 rows) (zu2 P may (P.rd.drop i) (kn,fi) done).2
 | 0,N',i,kn,fi,done,h1,h2,h3,h4,h5=>by
   obtain⟨M,rfl⟩:∃ M,N'=M+1:=⟨N' - 1,by omega⟩
   rw[iter];dsimp only;unfold z3m;rw[z32 (by omega),List.drop_eq_nil_of_le (by omega)];simp[zu2]
 | k + 1,N',i,kn,fi,done,h1,h2,h3,h4,h5=>by
   obtain⟨M,rfl⟩:∃ M,N'=M+1:=⟨N' - 1,by omega⟩
   have hi:i<P.rd.length:=by omega
   have hr:P.rd.getD i 0<2^P.n:=hP.rd _ (by rw[List.getD_eq_getElem?_getD,List.getElem?_eq_getElem hi];exact List.getElem_mem hi);have hm:=Nat.lt_of_le_of_lt (Nat.and_le_left (n:=may) (m:=P.rd.getD i 0)) hmay;have h7:=hP.n7;have hstep:∀ rec,z3m N (enc may) (P.rd.map enc) ((P.rd.length:Nat):Int) (mkB P nextL kn c0 fi rows) (done++List.replicate (k+1) 0) (i:Int) rec k0 k1 =
    rec (mkB P nextL (zue P (kn,fi) (may &&& P.rd.getD i 0)).1 c0 (zue P (kn,fi) (may &&& P.rd.getD i 0)).2 rows) (done++[(((zue P (kn,fi) (may &&& P.rd.getD i 0)).1.idxOf (may &&& P.rd.getD i 0):Nat):Int)+1]++List.replicate k 0) ((i+1:Nat):Int):=by
    intro rec;unfold z3m;have eg:(P.rd.map enc).getD i []=enc (P.rd.getD i 0):=by
     simp[List.getD,hi]
    rw[z27 (by omega),z19 (by rw[List.length_map];exact hi),Int.toNat_natCast,eg,z19w hN (Nat.lt_of_lt_of_le hmay (zkz (by omega))) (Nat.lt_of_lt_of_le hr (zkz (by omega)))];simp only[cond_true,Option.bind_some];rw[z156 hN hP h4 h5 hm];simp only[Option.bind_some,Bool.not_true,cond_false];rw[z19 (by simp;omega),z27 (by simp;omega),z1a (by omega),List.replicate_succ,z1gi _ _ _ _ h3];simp
   obtain⟨ys,hpre⟩:=z19z (P:=P) kn fi (may &&& P.rd.getD i 0);have ih:=z13c hN hP (nextL:=nextL) (c0:=c0) (rows:=rows) hmay hrd k0 k1 k M (i+1) _ _ (done++[(((zue P (kn,fi) (may &&& P.rd.getD i 0)).1.idxOf (may &&& P.rd.getD i 0):Nat):Int)+1]) (by omega) (by omega) (by simp[h3]) (h4.add hm) (by rw[hpre,List.length_append];omega);rw[iter];refine (hstep _).trans (ih.trans ?_);rw[z4q P.rd 0 i hi,zu2]
theorem z17q {N:Nat}{P:Par}(hP:PokM P){nextL:List (List Int)}{c0:Nat}{kn:List Nat}{fi:List Bool}{rows:List (List Int)}{may:Nat}(hmay:may<2^P.n)(hrd:P.rd.length<=1000)(hN:P.rd.length+9<N)(h:KnM P kn fi)(hc:c0<=kn.length)(hr:rows.length<=1000) :
 z60 N (mkB P nextL kn c0 fi rows) (enc may)=some (true,(mkB P nextL (zu2 P may P.rd (kn,fi) []).1.1 c0 (zu2 P may P.rd (kn,fi) []).1.2 (rows++[(zu2 P may P.rd (kn,fi) []).2]),())):=by
 unfold z60 zga;have el:(mkB P nextL kn c0 fi rows).2.2.2.1=P.rd.map enc:=rfl;rw[el,List.length_map,z27 (by omega),cond_true,Int.toNat_natCast];have:=z13c (N:=N) (by omega) hP (nextL:=nextL) (c0:=c0) (rows:=rows) hmay hrd (fun b1 x4=>some (x4,(b1,()))) (fun b2 row=>cond (decide ((((List.length b2.2.2.2.2.2.2.1.2.2.2.1)+1)*24)<=70368744177664))
  (some (true,((b2.1,(b2.2.1,(b2.2.2.1,(b2.2.2.2.1,(b2.2.2.2.2.1,(b2.2.2.2.2.2.1,((b2.2.2.2.2.2.2.1.1,(b2.2.2.2.2.2.2.1.2.1,(b2.2.2.2.2.2.2.1.2.2.1,((b2.2.2.2.2.2.2.1.2.2.2.1++([row]:List (List Int))),b2.2.2.2.2.2.2.1.2.2.2.2)))),b2.2.2.2.2.2.2.2))))))),())))
  (none)) P.rd.length N 0 kn fi [] (by omega) (by omega) rfl h hc
 rw[List.drop_zero,List.nil_append] at this;refine this.trans ?_;exact (zw (decide_eq_true (show (rows.length+1)*24<=70368744177664 by omega)) _ _).trans rfl
end
end Go.Proofs.YtgbcebmahbieoaaDoorLg
set_option linter.all false
set_option maxRecDepth 100000
namespace Go.Proofs.YtgbcebmahbieoaaDoorLg
noncomputable section
open Go Go.Lift Go.Proofs.YtgbcebmahbieoaaDoorPx
theorem z1bp {α:Type}(z ys:List α)(h:z.length=ys.length):over z 0 z.length ys=ys:=by
 unfold over;rw[List.take_zero,Nat.sub_zero,h,List.take_length,Nat.min_self,Nat.zero_add,<- h,List.drop_length,List.append_nil];rfl
structure NxM (P:Par) (nextL:List (List Int)):Prop where
 len:nextL.length=P.n
 at_:∀ i,i<P.n->nextL.getD i []=enc (P.nx i)
theorem z18g {N:Nat}(hN:200<N){P:Par}(hP:PokM P){nextL:List (List Int)}(hx:NxM P nextL){kn:List Nat}{c0:Nat}{fi:List Bool}{rows:List (List Int)}{w:Nat}(hw:w<2^P.n) :
 z4k N (mkB P nextL kn c0 fi rows) (enc w)=some (enc (afterM P.nx P.n w),(mkB P nextL kn c0 fi rows,())):=by
 have h7:=hP.n7;have h2:2^P.n<=2^7:=Nat.pow_le_pow_right (by omega) h7;have h3:(2:Nat)^7=128:=rfl;exact z19y (N:=N) (n:=P.n) (mkB P nextL kn c0 fi rows) (nx:=P.nx) (by omega) hx.len (fun i hi=>⟨hx.at_ i hi,Nat.lt_of_lt_of_le (hP.nx i hi) (zkz (by omega))⟩) hw (by omega)
theorem zvj {N:Nat}{P:Par}(hP:PokM P){nextL:List (List Int)}(hx:NxM P nextL)(hrd:P.rd.length<=1000)(hN:P.rd.length+300<N){c0:Nat}{X:List Nat}(k0:BlT->Bool->Option (Bool×(BlT×Unit)))(k1:BlT->Option (Bool×(BlT×Unit))) :
 ∀ (k N' t:Nat) (st:StM),k<N'->t+k=X.length->KnM P st.1 st.2.1->st.2.2.length=c0+1+t->(∃ pre ys,pre.length=c0/\st.1=pre++(X++ys)) →
 iter (fun (v:(BlT×Int)) r=>z29 N (X.map enc) ((X.length:Nat):Int) v.1 v.2 (fun b x41=>(r (b,x41))) k0 k1) N' (mkB P nextL st.1 (c0+X.length) st.2.1 st.2.2,(t:Int)) =
  k1 (mkB P nextL (znn P k st).1 (c0+X.length) (znn P k st).2.1 (znn P k st).2.2)
 | 0,N',t,st,h1,h2,h3,h4,h5=>by
   obtain⟨M,rfl⟩:∃ M,N'=M+1:=⟨N' - 1,by omega⟩
   rw[iter];dsimp only;unfold z29;rw[z32 (by omega)];rfl
 | k + 1,N',t,st,h1,h2,h3,h4,h5=>by
   obtain⟨M,rfl⟩:∃ M,N'=M+1:=⟨N' - 1,by omega⟩
   have ht:t<X.length:=by omega
   obtain⟨pre,ys,e1,e2⟩:=h5;have hle:=h3.le hP;have hlen:c0+X.length<=st.1.length:=by rw[e2];simp;omega
   have hat:st.1.getD (c0+t) 0=X.getD t 0:=by
    rw[e2,List.getD_eq_getElem?_getD,List.getD_eq_getElem?_getD,List.getElem?_append_right (by omega),show c0+t - pre.length=t by omega,List.getElem?_append_left ht]
   have hmem:X.getD t 0<2^P.n:=h3.lt _ (by rw[<- hat,List.getD_eq_getElem?_getD,List.getElem?_eq_getElem (by omega)];exact List.getElem_mem (by omega));have hmay:z1m9 P st.1 st.2.2.length=afterM P.nx P.n (X.getD t 0):=by
    rw[h4,show c0+1+t=(c0+t)+1 by omega,z1m9,hat]
   have hml:=z13v hP st.1 st.2.2.length;rw[hmay] at hml;obtain⟨g1,⟨zs,g2⟩,g3⟩:=zoq hP h3;have hstep:∀ rec,z29 N (X.map enc) ((X.length:Nat):Int) (mkB P nextL st.1 (c0+X.length) st.2.1 st.2.2) (t:Int) rec k0 k1=rec (mkB P nextL (zgl P st).1 (c0+X.length) (zgl P st).2.1 (zgl P st).2.2) ((t+1:Nat):Int):=by
    intro rec;unfold z29;have eg:(X.map enc).getD t []=enc (X.getD t 0):=by simp[List.getD,ht]
    rw[z27 (by omega),z19 (by rw[List.length_map];exact ht),Int.toNat_natCast,eg,z18g (by omega) hP hx hmem];simp only[cond_true,Option.bind_some];rw[z17q hP hml hrd (by omega) h3 hlen (by omega),z1a (by omega),<- hmay];rfl
   have ih:=zvj hP hx hrd hN (c0:=c0) (X:=X) k0 k1 k M (t+1) (zgl P st) (by omega) (by omega) g1 (by omega) ⟨pre,ys++zs,e1,by rw[g2,e2];simp⟩;rw[iter];exact (hstep _).trans ih
def finB (P:Par)(nextL:List (List Int))(st:StM):Option (Bool×(BlT×Unit)):=some (true,(mkB P nextL st.1 st.1.length st.2.1 st.2.2,()))
theorem zus {N:Nat} {P:Par} (hP:PokM P) {nextL:List (List Int)} (hx:NxM P nextL) (hrd:P.rd.length<=1000) (hN:P.rd.length+300<N) :
 ∀ (k N' c0:Nat) (st:StM),k<N'->129<=c0+k->c0<=st.1.length->KnM P st.1 st.2.1->st.2.2.length=c0+1 →
 iter (fun (v:BlT) r=>z20 N v (fun b=>(r b)) (fun b1 x2=>some (x2,(b1,()))) (fun b2=>some (true,(b2,())))) N' (mkB P nextL st.1 c0 st.2.1 st.2.2)=finB P nextL (z17i P st)
 | 0,N',c0,st,h1,h2,h3,h4,h5=>by
   have:=h4.le hP;omega
 | k + 1,N',c0,st,h1,h2,h3,h4,h5=>by
   obtain⟨M,rfl⟩:∃ M,N'=M+1:=⟨N' - 1,by omega⟩
   have hle:=h4.le hP;rw[iter];have hw:((st.1.drop c0).map enc).length=st.1.length - c0:=by simp
   by_cases hz:c0=st.1.length
   . rw[z139 (by omega)];have:∀ rec,z20 N (mkB P nextL st.1 c0 st.2.1 st.2.2) rec (fun b1 x2=>some (x2,(b1,()))) (fun b2=>some (true,(b2,())))=some (true,(mkB P nextL st.1 c0 st.2.1 st.2.2,())):=by
      intro rec;unfold z20;show cond (decide ((0:Int)<((((st.1.drop c0).map enc).length:Nat):Int))) _ _=_;rw[hw,z32 (by omega)];rfl
     refine (this _).trans ?_;rw[hz];rfl
   . have hX:(st.1.drop c0).length=st.1.length - c0:=by simp
     have hb:=zvj hP hx hrd hN (c0:=c0) (X:=st.1.drop c0) (fun b1 x2=>some (x2,(b1,()))) (fun b2=>iter (fun (v:BlT) r=>z20 N v (fun b=>(r b)) (fun b1 x2=>some (x2,(b1,()))) (fun b2=>some (true,(b2,())))) M b2) (st.1.length - c0) N 0 st (by omega) (by rw[hX];omega) h4 (by omega) ⟨st.1.take c0,[],by rw[List.length_take];omega,by simp⟩;have ec:c0+(st.1.drop c0).length=st.1.length:=by omega
     rw[ec] at hb;have hstep:∀ rec,z20 N (mkB P nextL st.1 c0 st.2.1 st.2.2) rec (fun b1 x2=>some (x2,(b1,()))) (fun b2=>some (true,(b2,()))) =
      iter (fun (v:(BlT×Int)) r=>z29 N ((st.1.drop c0).map enc) (((st.1.drop c0).length:Nat):Int) v.1 v.2 (fun b x41=>(r (b,x41))) (fun b1 x2=>some (x2,(b1,()))) (fun b2=>rec b2)) N (mkB P nextL st.1 st.1.length st.2.1 st.2.2,(0:Int)):=by
      intro rec;unfold z20 ze2;have hov:over (List.replicate (Int.toNat (((((st.1.drop c0).map enc).length:Nat):Int))) ([(0:Int),(0:Int),(0:Int),(0:Int),(0:Int),(0:Int),(0:Int),(0:Int)]:List Int)) 0 (List.length (List.replicate (Int.toNat (((((st.1.drop c0).map enc).length:Nat):Int))) ([(0:Int),(0:Int),(0:Int),(0:Int),(0:Int),(0:Int),(0:Int),(0:Int)]:List Int))) ((st.1.drop c0).map enc)=(st.1.drop c0).map enc :=
       z1bp _ _ (by rw[List.length_replicate,Int.toNat_natCast])
      have ew:(mkB P nextL st.1 c0 st.2.1 st.2.2).2.2.2.2.2.1=(st.1.drop c0).map enc:=rfl;simp only[ew];rw[hov,z27 (by rw[hw];omega),z27 (by rw[hw];omega),List.length_map];simp only[cond_true];have ez:(mkB P nextL st.1 st.1.length st.2.1 st.2.2)=((mkB P nextL st.1 c0 st.2.1 st.2.2).1,((mkB P nextL st.1 c0 st.2.1 st.2.2).2.1,((mkB P nextL st.1 c0 st.2.1 st.2.2).2.2.1,((mkB P nextL st.1 c0 st.2.1 st.2.2).2.2.2.1,((mkB P nextL st.1 c0 st.2.1 st.2.2).2.2.2.2.1,(([]:List (List Int)),(mkB P nextL st.1 c0 st.2.1 st.2.2).2.2.2.2.2.2)))))):=by
       simp[mkB]
      rw[ez]
     obtain⟨g1,⟨zs,g2⟩,g3⟩:=z13l hP (st.1.length - c0) st h4;have ih:=zus hP hx hrd hN k M st.1.length (znn P (st.1.length - c0) st) (by omega) (by omega) (by rw[g2,List.length_append];omega) g1 (by omega);refine (hstep _).trans (hb.trans (ih.trans ?_));rw[<- zxs hP (st.1.length - c0) st h4 (by omega)]
theorem z19n {N:Nat}{P:Par}(hP:PokM P){nextL:List (List Int)}(hx:NxM P nextL)(hrd:P.rd.length<=1000)(hN:P.rd.length+300<N)(none_:Bool) :
 z4j N (mkB P nextL [] 0 [none_] [])=finB P nextL (z17i P ([],([none_],[]))):=by
 have h0:KnM P [] [none_]:=⟨.nil,fun m hm=>(by cases hm),rfl⟩
 unfold z4j ze3;have e1:(mkB P nextL [] 0 [none_] []).1=enc P.first:=rfl
 rw[e1,z17q (c0:=0) hP hP.first hrd (by omega) h0 (Nat.zero_le _) (by simp)];simp only[Option.bind_some,Bool.not_true,cond_false];obtain⟨g1,⟨zs,g2⟩,g3⟩:=zoq hP (st:=([],([none_],[]))) h0;have:=zus hP hx hrd hN 130 N 0 (zgl P ([],([none_],[]))) (by omega) (by omega) (Nat.zero_le _) g1 g3;refine this.trans ?_;rw[<- zvy (st:=([],([none_],[]))) (Nat.le_refl _) (by simp) g3]
end
end Go.Proofs.YtgbcebmahbieoaaDoorLg
set_option linter.all false
set_option maxRecDepth 100000
namespace Go.Proofs.YtgbcebmahbieoaaDoorLg
noncomputable section
open Go Go.Lift Go.Proofs.YtgbcebmahbieoaaDoorPx
def z9b (n m:Nat):List Int:=((List.range n).filter fun i=>m.testBit i).map fun (i:Nat)=>(i:Int)
theorem zsm {n m:Nat}{x:Int}:x∈z9b n m ↔ ∃ i,i<n/\m.testBit i=true/\x=(i:Int):=by
 unfold z9b;simp only[List.mem_map,List.mem_filter,List.mem_range];constructor
 . rintro⟨i,⟨h1,h2⟩,rfl⟩;exact⟨i,h1,h2,rfl⟩
 . rintro⟨i,h1,h2,rfl⟩;exact⟨i,⟨h1,h2⟩,rfl⟩
theorem zk7 {l:List Int}{x:Int}:inL l x=true ↔ x∈l:=by
 unfold inL;rw[List.any_eq_true];constructor
 . rintro⟨y,h1,h2⟩;rw[<- beq_iff_eq.1 h2];exact h1
 . intro h;exact⟨x,h,beq_self_eq_true x⟩
theorem z10p {n m i:Nat}(hi:i<n):inL (z9b n m) (i:Int)=m.testBit i:=by
 rw[Bool.eq_iff_iff,zk7,zsm];constructor
 . rintro⟨j,h1,h2,h3⟩;rw[show i=j by omega];exact h2
 . intro h;exact⟨i,hi,h,rfl⟩
theorem z1ha {n a b:Nat}(ha:a<2^n)(hb:b<2^n)(h:z9b n a=z9b n b):a=b:=by
 apply Nat.eq_of_testBit_eq;intro i;by_cases hi:i<n
 . rw[<- z10p hi,<- z10p hi,h]
 . rw[Nat.testBit_lt_two_pow (Nat.lt_of_lt_of_le ha (Nat.pow_le_pow_right (by omega) (by omega))),Nat.testBit_lt_two_pow (Nat.lt_of_lt_of_le hb (Nat.pow_le_pow_right (by omega) (by omega)))]
theorem zmr (n m:Nat):(z9b n m).length<=n:=by
 unfold z9b;rw[List.length_map];have:=List.length_filter_le (fun i=>m.testBit i) (List.range n)
 rwa [List.length_range] at this
theorem zjm:∀ (l:List Int) (m low:Int),zkx m low l=true->∀ x∈l,low<=x/\x<m
 | [],_,_,_,x,hx=>by cases hx
 | y :: l,m,low,h,x,hx=>by
   rw[zkx,Bool.and_eq_true,Bool.not_eq_true',Bool.or_eq_false_iff,decide_eq_false_iff_not,decide_eq_false_iff_not] at h;rcases List.mem_cons.1 hx with rfl|hx
   . omega
   . have:=zjm l m (y+1) h.2 x hx;omega
theorem zw1 : ∀ (k low:Nat) (l:List Int) (m:Nat),low+k=m->zkx (m:Int) (low:Int) l=true->((List.range' low k).filter fun (i:Nat)=>inL l (i:Int)).map (fun (i:Nat)=>(i:Int))=l
 | 0,low,l,m,h,hr=>by
   cases l with
   | nil=>rfl
   | cons x l=>have:=zjm _ _ _ hr x (.head _);omega
 | k + 1,low,l,m,h,hr=>by
   cases l with
   | nil =>
     rw[List.filter_eq_nil_iff.2 (fun i _=>by simp[inL])];rfl
   | cons x l =>
     have hr':=hr;rw[zkx,Bool.and_eq_true,Bool.not_eq_true',Bool.or_eq_false_iff,decide_eq_false_iff_not,decide_eq_false_iff_not] at hr;obtain⟨⟨h1,h2⟩,h3⟩:=hr;rw[List.range'_succ,List.filter_cons];by_cases hx:x=(low:Int)
     . subst hx;rw[if_pos (zk7.2 (.head _)),List.map_cons];congr 1;have ih:=zw1 k (low+1) l m (by omega) h3;rw[<- ih];congr 1;rw[ih];apply List.filter_congr;intro i hi;have hi2:=(List.mem_range'_1.1 hi).1;rw[Bool.eq_iff_iff,zk7,zk7,List.mem_cons];constructor
       . rintro (e|h)
         . omega
         . exact h
       . exact .inr
     . have hn:¬ inL (x::l) (low:Int)=true:=fun e=>by
        have hm:=zk7.1 e;rcases List.mem_cons.1 hm with e|hm
        . exact hx e.symm
        . have:=zjm l _ _ h3 _ hm;omega
       rw[if_neg hn];refine zw1 k (low+1) (x::l) m (by omega) ?_;rw[zkx,h3,Bool.and_true,Bool.not_eq_true',Bool.or_eq_false_iff,decide_eq_false_iff_not,decide_eq_false_iff_not];omega
theorem znv {n:Nat}{l:List Int}(h:∀ x∈l,0<=x/\x<(n:Int))(i:Nat):(maskL l).testBit i=inL l (i:Int):=by
 rw[maskL,z13w,Nat.zero_testBit,Bool.false_or,Bool.eq_iff_iff,zk7,List.any_eq_true];constructor
 . rintro⟨x,h1,h2⟩;have h3:=of_decide_eq_true h2;have:=h x h1;rw[show (i:Int)=x by omega];exact h1
 . intro hm;exact⟨_,hm,decide_eq_true (by rw[Int.toNat_natCast])⟩
theorem z17r {n:Nat}{l:List Int}(h:zkx (n:Int) 0 l=true):l=z9b n (maskL l):=by
 have h1:=zw1 n 0 l n (by omega) h;have hb:=zjm l _ _ h;unfold z9b;rw[List.range_eq_range'];rw[List.filter_congr (fun i _=>znv hb i)];exact h1.symm
theorem z18w (k:Int):∀ (l:List Int) (i:Nat),k∈l->z1jw k i l=((i+l.idxOf k:Nat):Int)
 | [],i,h=>by cases h
 | x :: l,i,h=>by
   rw[z1jw,List.idxOf_cons];by_cases hx:k=x
   . subst hx;rw[beq_self_eq_true];simp
   . have h1:(k == x)=false:=by simpa using hx
     have h2:(x == k)=false:=by simpa using fun e=>hx e.symm
     rw[h1,h2,cond_false,cond_false,z18w k l (i+1) ((List.mem_cons.1 h).resolve_left hx)];congr 1;omega
theorem zxk:∀ (l:List Int) (t:Int),z71 t l=true->∀ k,t<k->k<=zkr t l->k∈l
 | [],t,_,k,h1,h2=>by
   have:zkr t []=t:=rfl;omega
 | y :: l,t,h,k,h1,h2=>by
   rw[z71] at h;cases g1:decide (y<0)
   case true=>rw[g1] at h;exact absurd h Bool.false_ne_true
   cases g2:decide (t+1<y)
   case true=>rw[g1,g2] at h;exact absurd h Bool.false_ne_true
   rw[g1,g2] at h;have g3:=of_decide_eq_false g2;have e:zkr t (y::l)=zkr (if y > t then y else t) l:=rfl;rw[e] at h2;by_cases hk:k=y
   . rw[hk];exact .head _
   . refine .tail _ (zxk l _ h k ?_ h2);split<;>omega
theorem zwx {a:List Int}(h:z86 a=true){k:Nat}(hk:(k:Int)<z2b a):(k:Int)∈a/\a.idxOf (k:Int)<256:=by
 obtain⟨h1,_,h3⟩:=zbq h;have hc:z2b a=zkr (-1) a+1:=by unfold z2b;rw[h];rfl
 have hm:=zxk a (-1) h3 (k:Int) (by omega) (by omega);exact⟨hm,by rw[<- h1];exact List.idxOf_lt_length_of_mem hm⟩
theorem z193 {a:List Int}(h:z86 a=true){k:Nat}(hk:(k:Int)<z2b a):z141 a (k:Int)=((a.idxOf (k:Int):Nat):Int):=by
 unfold z141;rw[h,cond_true,z18w _ _ _ (zwx h hk).1,Nat.zero_add]
def z150 (sets:List (List Int))(b:Nat):Nat:=maskL (((List.range sets.length).filter fun i=>ze1 (sets.getD i []) b).map fun (i:Nat)=>(i:Int))
theorem z1bk (sets:List (List Int))(b i:Nat)(hi:i<sets.length):(z150 sets b).testBit i=ze1 (sets.getD i []) b:=by
 unfold z150;rw[znv (n:=sets.length) (fun x hx=>by
  simp only[List.mem_map,List.mem_filter,List.mem_range] at hx;obtain⟨j,⟨h1,_⟩,rfl⟩:=hx;omega),Bool.eq_iff_iff,zk7]
 simp only[List.mem_map,List.mem_filter,List.mem_range];constructor
 . rintro⟨j,⟨h1,h2⟩,h3⟩;rw[show i=j by omega];exact h2
 . intro h;exact⟨i,⟨hi,h⟩,rfl⟩
def z2d (p:SpT):Par:=⟨p.1.length,fun i=>maskL (p.2.2.2.2.1.getD i []),(List.range (z2b (ofB p.1)).toNat).map fun (k:Nat)=>z150 p.1 ((ofB p.1).idxOf (k:Int)),maskL p.2.2.1,maskL p.2.2.2.1,ofB p.1⟩
structure FewP (p:SpT):Prop where
 n7:p.1.length<=7
 next:p.2.2.2.2.1.length=p.1.length
 rows:∀ i,i<p.1.length->zkx (p.1.length:Int) 0 (p.2.2.2.2.1.getD i [])=true
 first:zkx (p.1.length:Int) 0 p.2.2.1=true
 last:zkx (p.1.length:Int) 0 p.2.2.2.1=true
 sets:∀ s∈p.1,SetOk s
theorem zzx {n:Nat}{l:List Int}(h:zkx (n:Int) 0 l=true):l.length<=n:=by
 rw[z17r h];exact zmr _ _
theorem zw0 {n:Nat}(hn:n<=64){l:List Int}(h:zkx (n:Int) 0 l=true):maskL l<2^n:=z109 hn l 0 (zjm l _ _ h) (Nat.two_pow_pos n)
theorem z1gk (sets:List (List Int))(hn:sets.length<=64)(b:Nat):z150 sets b<2^sets.length:=z109 hn _ 0 (fun x hx=>by
 simp only[List.mem_map,List.mem_filter,List.mem_range] at hx;obtain⟨j,⟨h1,_⟩,rfl⟩:=hx;omega) (Nat.two_pow_pos _)
theorem zur {p:SpT}(h:FewP p):PokM (z2d p):=by
 have h7:=h.n7;refine⟨h7,fun i hi=>zw0 (n:=p.1.length) (by omega) (h.rows i hi),fun r hr=>?_,zw0 (n:=p.1.length) (by omega) h.first,zw0 (n:=p.1.length) (by omega) h.last⟩;simp only[z2d,List.mem_map,List.mem_range] at hr;obtain⟨k,_,rfl⟩:=hr;exact z1gk p.1 (by omega) _
def z5y (p:SpT):List (List Int):=p.2.2.2.2.1.map fun l=>enc (maskL l)
theorem z1h2 {p:SpT}(h:FewP p):NxM (z2d p) (z5y p):=by
 refine⟨by simp[z5y,z2d,h.next],fun i hi=>?_⟩;have hi':i<p.2.2.2.2.1.length:=by rw[h.next];exact hi
 simp[z5y,z2d,List.getD,hi']
theorem zgb (sets:List (List Int)):0<=z2b (ofB sets)/\z2b (ofB sets)<=256:=by
 have hr:=zsi sets;have h1:=z19e hr;obtain⟨g1,_,g3⟩:=zbq hr;have:=zvp _ _ g3;have hc:z2b (ofB sets)=zkr (-1) (ofB sets)+1:=by unfold z2b;rw[hr];rfl
 rw[zoz] at this;omega
def zkl (p:SpT)(nl rl:List (List Int)):BlT:=(enc (maskL p.2.2.1),(enc (maskL p.2.2.2.1),(nl,(rl,(some [],([],((0,([],([],([],())))),())))))))
theorem z101 {n N:Nat}(hn:n<=7)(hN:100<=N){l:List Int}(h:zkx (n:Int) 0 l=true):z58 N l=some (enc (maskL l)):=by
 have:=zzx h;exact zpy l (by omega) (by omega) (fun x hx=>by have:=zjm l _ _ h x hx;omega)
theorem zxx {N:Nat} (hN:400<=N) {p:SpT} (h:FewP p) (k0:BlT->Option (Option BlT)):∀ (k N' i:Nat),k<N'->i+k=p.1.length →
 iter (fun (v:(BlT×Int)) r=>z4i N p p.2.2.2.2.1 ((p.2.2.2.2.1.length:Nat):Int) v.1 v.2 (fun b x23=>(r (b,x23))) k0) N' (zkl p ((z5y p).take i) [],(i:Int))=k0 (zkl p (z5y p) [])
 | 0,N',i,h1,h2=>by
   obtain⟨M,rfl⟩:∃ M,N'=M+1:=⟨N' - 1,by omega⟩
   rw[iter];dsimp only;unfold z4i;rw[z32 (by rw[h.next];omega),List.take_of_length_le (by simp[z5y,h.next];omega)];rfl
 | k + 1,N',i,h1,h2=>by
   obtain⟨M,rfl⟩:∃ M,N'=M+1:=⟨N' - 1,by omega⟩
   have h7:=h.n7;have hnx:=h.next;have hi:i<p.2.2.2.2.1.length:=by omega
   have hstep:∀ rec,z4i N p p.2.2.2.2.1 ((p.2.2.2.2.1.length:Nat):Int) (zkl p ((z5y p).take i) []) (i:Int) rec k0=rec (zkl p ((z5y p).take (i+1)) []) ((i+1:Nat):Int):=by
    intro rec;unfold z4i;rw[z27 (by omega),z19 hi,Int.toNat_natCast,z101 h7 (by omega) (h.rows i (by omega)),z1a (by omega)];simp only[cond_true,Option.bind_some];have el:(zkl p ((z5y p).take i) []).2.2.1=(z5y p).take i:=rfl;rw[el,zw (decide_eq_true (show (((z5y p).take i).length+1)*64<=70368744177664 by rw[List.length_take];omega))];have et:(z5y p).take (i+1)=(z5y p).take i++[enc (maskL (p.2.2.2.2.1.getD i []))]:=by
     rw[List.take_succ];congr 1;simp[z5y,List.getD,hi]
    rw[et];rfl
   rw[iter];exact (hstep _).trans (zxx hN h k0 k M (i+1) (by omega) (by omega))
theorem zpx {N:Nat} (hN:400<=N) {p:SpT} (h:FewP p) (b:BlT) (x43 x44:Int) {c:Nat} (hc:(c:Int)<z2b (ofB p.1)) (k0:List Int->Option (Option BlT)):∀ (k N' i:Nat) (out:List Int),k<N'->i+k=p.1.length->out.length<=i →
 iter (fun (v:((List Int)×Int)) r=>z4g N p b (ofB p.1) (c:Int) x43 x44 p.1 ((p.1.length:Nat):Int) v.1 v.2 (fun readers x50=>(r (readers,x50))) k0) N' (out,(i:Int)) =
  k0 (out++((List.range' i k).filter fun i=>ze1 (p.1.getD i []) ((ofB p.1).idxOf (c:Int))).map fun (i:Nat)=>(i:Int))
 | 0,N',i,out,h1,h2,h3=>by
   obtain⟨M,rfl⟩:∃ M,N'=M+1:=⟨N' - 1,by omega⟩
   rw[iter];dsimp only;unfold z4g;rw[z32 (by omega)];simp
 | k + 1,N',i,out,h1,h2,h3=>by
   obtain⟨M,rfl⟩:∃ M,N'=M+1:=⟨N' - 1,by omega⟩
   have h7:=h.n7;have hi:i<p.1.length:=by omega
   have hr:=zsi p.1;have hci:=zwx hr hc;have hset:SetOk (p.1.getD i []):=h.sets _ (by rw[List.getD_eq_getElem?_getD,List.getElem?_eq_getElem hi];exact List.getElem_mem hi);have hwr:Go.IntKind.wrap Go.IntKind.u8 (((ofB p.1).idxOf (c:Int):Nat):Int)=(((ofB p.1).idxOf (c:Int):Nat):Int):=zoi (by omega) (by omega);have hstep:∀ rec,z4g N p b (ofB p.1) (c:Int) x43 x44 p.1 ((p.1.length:Nat):Int) out (i:Int) rec k0=rec (out++(if ze1 (p.1.getD i []) ((ofB p.1).idxOf (c:Int))=true then [(i:Int)] else [])) ((i+1:Nat):Int):=by
    intro rec;unfold z4g;rw[z27 (by omega),z19 hi,Int.toNat_natCast,z1cf N _ _ (by rw[zoz];omega) (by omega),z193 hr hc,z1a (by omega)];simp only[cond_true,Option.bind_some];rw[hwr,z1e6 N hset hci.2];simp only[Option.bind_some];cases ze1 (p.1.getD i []) ((ofB p.1).idxOf (c:Int))
    . simp
    . simp only[cond_true,if_true];rw[zw (decide_eq_true (show (out.length+1)*8<=70368744177664 by omega))]
   rw[iter];refine (hstep _).trans ((zpx hN h b x43 x44 hc k0 k M (i+1) _ (by omega) (by omega) (by rw[List.length_append];split<;>simp<;>omega)).trans ?_);rw[List.range'_succ,List.filter_cons];cases ze1 (p.1.getD i []) ((ofB p.1).idxOf (c:Int))<;>simp
theorem zve {N:Nat} (hN:400<=N) {p:SpT} (h:FewP p) (k0:BlT->Option (Option BlT)):∀ (k N' i:Nat),k<N'->i+k=(z2b (ofB p.1)).toNat →
 iter (fun (v:(BlT×Int)) r=>z4h N p (ofB p.1) (z2b (ofB p.1)) v.1 v.2 (fun b x44=>(r (b,x44))) k0) N' (zkl p (z5y p) (((z2d p).rd.map enc).take i),(i:Int))=k0 (zkl p (z5y p) ((z2d p).rd.map enc))
 | 0,N',i,h1,h2=>by
   obtain⟨M,rfl⟩:∃ M,N'=M+1:=⟨N' - 1,by omega⟩
   have hcl:=zgb p.1;rw[iter];dsimp only;unfold z4h;rw[z32 (by omega),List.take_of_length_le (by simp[z2d];omega)];rfl
 | k + 1,N',i,h1,h2=>by
   obtain⟨M,rfl⟩:∃ M,N'=M+1:=⟨N' - 1,by omega⟩
   have hcl:=zgb p.1;have h7:=h.n7;have hi:(i:Int)<z2b (ofB p.1):=by omega
   have hin:i<(z2b (ofB p.1)).toNat:=by omega
   have hstep:∀ rec,z4h N p (ofB p.1) (z2b (ofB p.1)) (zkl p (z5y p) (((z2d p).rd.map enc).take i)) (i:Int) rec k0=rec (zkl p (z5y p) (((z2d p).rd.map enc).take (i+1))) ((i+1:Nat):Int):=by
    intro rec;unfold z4h zhf;rw[z27 (by omega),cond_true];have hl:=zpx hN h (zkl p (z5y p) (((z2d p).rd.map enc).take i)) (z2b (ofB p.1)) (i:Int) hi (fun readers=>(z58 N readers).bind fun y =>
     cond (decide ((((List.length (zkl p (z5y p) (((z2d p).rd.map enc).take i)).2.2.2.1)+1)*64)<=70368744177664))
     (rec ((zkl p (z5y p) (((z2d p).rd.map enc).take i)).1,((zkl p (z5y p) (((z2d p).rd.map enc).take i)).2.1,((zkl p (z5y p) (((z2d p).rd.map enc).take i)).2.2.1,(((zkl p (z5y p) (((z2d p).rd.map enc).take i)).2.2.2.1++([y]:List (List Int))),(zkl p (z5y p) (((z2d p).rd.map enc).take i)).2.2.2.2)))) (Go.IntKind.wrap .i64 ((i:Int)+(1:Int))))
     (none)) p.1.length N 0 [] (by omega) (by omega) (Nat.le_refl _)
    refine hl.trans ?_;rw[List.nil_append,<- List.range_eq_range',zpy _ (by
     rw[List.length_map];have:=List.length_filter_le (fun j=>ze1 (p.1.getD j []) ((ofB p.1).idxOf (i:Int))) (List.range p.1.length);rw[List.length_range] at this;omega) (by
     rw[List.length_map];have:=List.length_filter_le (fun j=>ze1 (p.1.getD j []) ((ofB p.1).idxOf (i:Int))) (List.range p.1.length);rw[List.length_range] at this;omega) (fun x hx=>by
     simp only[List.mem_map,List.mem_filter,List.mem_range] at hx;obtain⟨j,⟨h1,_⟩,rfl⟩:=hx;omega),Option.bind_some,z1a (by omega)]
    have el:(zkl p (z5y p) (((z2d p).rd.map enc).take i)).2.2.2.1=((z2d p).rd.map enc).take i:=rfl;rw[el,zw (decide_eq_true (show ((((z2d p).rd.map enc).take i).length+1)*64<=70368744177664 by rw[List.length_take];omega))];have et:((z2d p).rd.map enc).take (i+1)=((z2d p).rd.map enc).take i++[enc (z150 p.1 ((ofB p.1).idxOf (i:Int)))]:=by
     rw[List.take_succ];congr 1;simp[z2d,hin]
    rw[et];rfl
   rw[iter];exact (hstep _).trans (zve hN h k0 k M (i+1) (by omega) (by omega))
theorem z1h4 (k:Nat){p:SpT}(h:FewP p):z9a (k+700) p=some (some (mkB (z2d p) (z5y p) [] 0 [p.2.1] [])):=by
 have h7:=h.n7;have hcl:=zgb p.1;unfold z9a zhg z83;rw[z101 h7 (by omega) h.first,z101 h7 (by omega) h.last,Option.bind_some,Option.bind_some];have h1:=zxx (N:=k+700) (by omega) h (fun b=>(zb5 (k+700) p.1).bind fun y2 =>
  (z44 (k+700) y2).bind fun y3 =>
  z83 (k+700) p b y2 y3 (0:Int)
  (fun b1=>some (Option.some (b1.1,(b1.2.1,(b1.2.2.1,(b1.2.2.2.1,(b1.2.2.2.2.1,(b1.2.2.2.2.2.1,(((0:Int),(([p.2.1]:List Bool),(y2,(([]:List (List Int)),())))),b1.2.2.2.2.2.2.2)))))))))) p.1.length (k+700) 0 (by omega) (by omega)
 refine h1.trans ?_;rw[show k+700=(k+400)+300 by omega,Of_eq (k+400) p.1 (by omega) h.sets,Option.bind_some,z15r _ _ (by omega),Option.bind_some,show (k+400)+300=k+700 by omega];unfold z83;have h2:=zve (N:=k+700) (by omega) h (fun b1=>some (Option.some (b1.1,(b1.2.1,(b1.2.2.1,(b1.2.2.2.1,(b1.2.2.2.2.1,(b1.2.2.2.2.2.1,(((0:Int),(([p.2.1]:List Bool),(ofB p.1,(([]:List (List Int)),())))),b1.2.2.2.2.2.2.2))))))))) (z2b (ofB p.1)).toNat (k+700) 0 (by omega) (by omega);exact h2
end
end Go.Proofs.YtgbcebmahbieoaaDoorLg
set_option linter.all false
set_option maxRecDepth 100000
namespace Go.Proofs.YtgbcebmahbieoaaDoorLg
noncomputable section
open Go Go.Lift Go.Proofs.YtgbcebmahbieoaaDoorPx
theorem zp8 {α:Type}[BEq α][LawfulBEq α]{a d:α}:∀ (l:List α) (i:Nat),i<l.idxOf a->l.getD i d≠a
 | [],i,h=>by simp at h
 | x :: l,i,h=>by
   rw[List.idxOf_cons] at h;cases hx:x == a
   . rw[hx,cond_false] at h;cases i with
     | zero=>simpa using hx
     | succ i=>simpa using zp8 l i (by omega)
   . rw[hx,cond_true] at h;omega
theorem zsv (a b:List Int):∀ (k n:Nat),zy8 a b k n=((List.range' n k).filter fun (i:Nat)=>inL a (i:Int) || inL b (i:Int)).map fun (i:Nat)=>(i:Int)
 | 0,n=>rfl
 | k+1,n=>by
   rw[zy8,zsv a b k (n+1),List.range'_succ,List.filter_cons];cases inL a (n:Int) || inL b (n:Int)<;>simp
theorem z159 {n m:Nat}{f:Nat->Bool}(h:∀ i,i<n->f i=m.testBit i):((List.range n).filter f).map (fun (i:Nat)=>(i:Int))=z9b n m:=by
 unfold z9b;rw[List.filter_congr (fun i hi=>h i (List.mem_range.1 hi))]
theorem z1c9 {n m:Nat}{l:List Int}(h:∀ x∈l,0<=x/\x<(n:Int)):zy8 (z9b n m) l n 0=z9b n (m ||| maskL l):=by
 rw[zsv,<- List.range_eq_range'];exact z159 (fun i hi=>by rw[z10p hi,Nat.testBit_or,znv h])
theorem zr7 (n:Nat):z9b n 0=[]:=by
 unfold z9b;rw[List.filter_eq_nil_iff.2 (fun i _=>by simp)];rfl
theorem zmc {N:Nat} (a b:List Int) (ha:a.length<N) (hl:a.length<=1000000):z2o N a b=some (decide (a=b)):=by
 unfold z2o;rw[z10h];by_cases h:a.length=b.length
 case neg=>rw[z32 h,z32 (fun e=>h (by rw[e]))];rfl
 rw[z27 h,Bool.not_true,cond_false];unfold zbg;rw[z17f (bad:=fun i=>a.getD i 0 != b.getD i 0) (n:=a.length) (F:=some false) (T:=some true) ?_ ?_ ha]
 . cases hb:(List.range a.length).any fun i=>a.getD i 0 != b.getD i 0
   . rw[List.any_eq_false] at hb;have:a=b:=by
      apply List.ext_getElem h;intro i h1 h2;have:=hb i (List.mem_range.2 h1);simp only[List.getD_eq_getElem?_getD,List.getElem?_eq_getElem h1,List.getElem?_eq_getElem h2,Option.getD_some,bne_iff_ne,ne_eq,Decidable.not_not] at this;exact this
     rw[z27 this];rfl
   . have:¬ a=b:=fun e=>by
      subst e;rw[List.any_eq_true] at hb;obtain⟨i,_,h2⟩:=hb;simp at h2
     rw[z32 this];rfl
 . intro i r hi;unfold z4t;rw[z27 (by omega),z19 hi,z19 (show i<b.length by omega),Int.toNat_natCast,z1a (by omega)];rfl
 . intro r;unfold z4t;rw[z32 (by omega)];rfl
theorem z1jv {N:Nat} (l:List Int) (x:Int) (ha:l.length<N) (hl:l.length<=1000000):z95 N l x=some (inL l x):=by
 unfold z95 zh0;rw[z17f (bad:=fun i=>l.getD i 0 == x) (n:=l.length) (F:=some true) (T:=some false) ?_ ?_ ha]
 . have:(List.range l.length).any (fun i=>l.getD i 0 == x)=inL l x:=by
    rw[Bool.eq_iff_iff,zk7,List.any_eq_true];constructor
    . rintro⟨i,h1,h2⟩;have hi:=List.mem_range.1 h1;rw[<- beq_iff_eq.1 h2,List.getD_eq_getElem?_getD,List.getElem?_eq_getElem hi];exact List.getElem_mem hi
    . intro h;obtain⟨i,hi,e⟩:=List.getElem_of_mem h;exact⟨i,List.mem_range.2 hi,by rw[List.getD_eq_getElem?_getD,List.getElem?_eq_getElem hi];simpa using e⟩
   rw[this];cases inL l x<;>rfl
 . intro i r hi;unfold z7u;rw[z27 (by omega),z19 hi,Int.toNat_natCast,z1a (by omega)];rfl
 . intro r;unfold z7u;rw[z32 (by omega)];rfl
theorem zyg {N n:Nat} (hN:300<N) (hn:n<=64) (z:List Int) {kn:List Nat} (hk:∀ m∈kn,m<2^n) {w:Nat} (hw:w<2^n) (hl:kn.length<=200):∀ (k N' i:Nat),k<N'->i+k=kn.length->(∀ j,j<i->kn.getD j 0≠w) →
 iter (fun (v:Int) r=>z37 N (z::kn.map (z9b n)) (z9b n w) v (fun i=>(r i)) (fun x4=>some x4) (some (-(1:Int)))) N' ((i+1:Nat):Int)=some (cond (kn.contains w) (((kn.idxOf w:Nat):Int)+1) (-1))
 | 0,N',i,h1,h2,h3=>by
   obtain⟨M,rfl⟩:∃ M,N'=M+1:=⟨N' - 1,by omega⟩
   rw[iter];unfold z37;have hc:kn.contains w=false:=by
    rw[Bool.eq_false_iff];intro h;obtain⟨j,hj,e⟩:=List.getElem_of_mem (List.contains_iff_mem.1 h);exact h3 j (by omega) (by rw[List.getD_eq_getElem?_getD,List.getElem?_eq_getElem hj];exact e)
   rw[z32 (by simp;omega),hc];rfl
 | k + 1,N',i,h1,h2,h3=>by
   obtain⟨M,rfl⟩:∃ M,N'=M+1:=⟨N' - 1,by omega⟩
   have hi:i<kn.length:=by omega
   have hm:kn.getD i 0<2^n:=hk _ (by rw[List.getD_eq_getElem?_getD,List.getElem?_eq_getElem hi];exact List.getElem_mem hi);have hlen:=zmr n (kn.getD i 0);have hstep:∀ rec,z37 N (z::kn.map (z9b n)) (z9b n w) ((i+1:Nat):Int) rec (fun x4=>some x4) (some (-(1:Int)))=cond (decide (kn.getD i 0=w)) (some ((i+1:Nat):Int)) (rec (((i+1)+1:Nat):Int)):=by
    intro rec;unfold z37;have eg:(z::kn.map (z9b n)).getD (i+1) []=z9b n (kn.getD i 0):=by simp[List.getD,hi]
    rw[z27 (by simp;omega),z19 (by simp;omega),Int.toNat_natCast,eg,zmc _ _ (by omega) (by omega),z1a (by omega)];simp only[cond_true,Option.bind_some];by_cases he:kn.getD i 0=w
    . rw[he,z27 rfl,z27 rfl]
    . rw[z32 he,z32 (fun e=>he (z1ha hm hw e))]
   rw[iter];refine (hstep _).trans ?_;by_cases he:kn.getD i 0=w
   . have hmem:w∈kn:=by rw[<- he,List.getD_eq_getElem?_getD,List.getElem?_eq_getElem hi];exact List.getElem_mem hi
     have hidx:kn.idxOf w=i:=by
      have h4:=List.idxOf_lt_length_of_mem hmem;rcases Nat.lt_trichotomy (kn.idxOf w) i with h|h|h
      . exact absurd (by rw[List.getD_eq_getElem?_getD,List.getElem?_eq_getElem h4];exact List.getElem_idxOf h4) (h3 _ h)
      . exact h
      . exact absurd he (zp8 kn i h)
     rw[z27 he,cond_true,List.contains_iff_mem.2 hmem,cond_true,hidx];rfl
   . rw[z32 he,cond_false];exact zyg hN hn z hk hw hl k M (i+1) (by omega) (by omega) (fun j hj=>by
      rcases Nat.lt_or_ge j i with h|h
      . exact h3 j h
      . rw[show j=i by omega];exact he)
theorem z1jz {N n:Nat}(hN:300<N)(hn:n<=64)(z:List Int){kn:List Nat}(hk:∀ m∈kn,m<2^n){w:Nat}(hw:w<2^n)(hl:kn.length<=200) :
 z6k N (z::kn.map (z9b n)) (z9b n w)=some (cond (kn.contains w) (((kn.idxOf w:Nat):Int)+1) (-1)):=by
 unfold z6k zf4;exact zyg hN hn z hk hw hl kn.length N 0 (by omega) (by omega) (fun j hj=>absurd hj (Nat.not_lt_zero _))
abbrev RdT:=Option (DfT×Int×Unit)
theorem zwg {N:Nat}(hN:300<N){p:SpT}(h:FewP p)(most:Int)(x4 d:DfT)(wide:Int)(sets:List (List Int)){n:Nat}(hn:n<sets.length){w:Nat}(hs:sets.getD n []=z9b p.1.length w)(k0:List Int->RdT):∀ (k N' i m:Nat),k<N'->i+k=(z9b p.1.length w).length →
 iter (fun (v:((List Int)×Int)) r=>z4a N most p x4 d wide sets (n:Int) v.1 v.2 (fun may i=>(r (may,i))) k0) N' (z9b p.1.length m,(i:Int))=k0 (z9b p.1.length (((z9b p.1.length w).drop i).foldl (fun m x=>m ||| (z2d p).nx x.toNat) m))
 | 0,N',i,m,h1,h2=>by
   obtain⟨M,rfl⟩:∃ M,N'=M+1:=⟨N' - 1,by omega⟩
   rw[iter];dsimp only;unfold z4a;rw[z19 hn,Int.toNat_natCast,z27 hn,hs,z32 (by omega),List.drop_eq_nil_of_le (by omega)];rfl
 | k + 1,N',i,m,h1,h2=>by
   obtain⟨M,rfl⟩:∃ M,N'=M+1:=⟨N' - 1,by omega⟩
   have h7:=h.n7;have hi:i<(z9b p.1.length w).length:=by omega
   have hll:=zmr p.1.length w;obtain⟨x,hx1,_,hx3⟩:=zsm.1 (show (z9b p.1.length w).getD i 0∈z9b p.1.length w by rw[List.getD_eq_getElem?_getD,List.getElem?_eq_getElem hi];exact List.getElem_mem hi);have hrow:=h.rows x hx1;have hrl:=zzx hrow;have hml:=zmr p.1.length m;have hstep:∀ rec,z4a N most p x4 d wide sets (n:Int) (z9b p.1.length m) (i:Int) rec k0=rec (z9b p.1.length (m ||| (z2d p).nx x)) ((i+1:Nat):Int):=by
    intro rec;unfold z4a;rw[z19 hn,Int.toNat_natCast,z27 hn,hs,z27 (by omega),z19 hi,Int.toNat_natCast,hx3,z19 (show x<p.2.2.2.2.1.length by rw[h.next];exact hx1),Int.toNat_natCast,z18q _ _ _ (by omega) (by omega) (by omega) (by omega),z1a (by omega),z1c9 (fun y hy=>zjm _ _ _ hrow y hy)];rfl
   rw[iter];refine (hstep _).trans ((zwg hN h most x4 d wide sets hn hs k0 k M (i+1) _ (by omega) (by omega)).trans ?_);rw[z4q (z9b p.1.length w) 0 i hi,hx3,List.foldl_cons,Int.toNat_natCast]
theorem zp9 (nx:Nat->Nat)(w:Nat):∀ (l:List Nat) (acc:Nat),((l.filter fun i=>w.testBit i).map fun (i:Nat)=>(i:Int)).foldl (fun m x=>m ||| nx x.toNat) acc=l.foldl (fun acc i=>cond (w.testBit i) (acc ||| nx i) acc) acc
 | [],_=>rfl
 | i :: l,acc=>by
   rw[List.filter_cons,List.foldl_cons];cases hb:w.testBit i
   . rw[if_neg (by simp)];exact zp9 nx w l acc
   . rw[if_pos rfl,List.map_cons,List.foldl_cons,zp9 nx w l];rfl
theorem zz2 {N:Nat}(most:Int)(p:SpT)(x4 d:DfT)(wide:Int)(sets:List (List Int))(n:Int)(may row:List Int){c:Nat}(hc:(c:Int)∈d.2.2.1)(hl:d.2.2.1.length<=1000)(k0:Int->RdT):∀ (k N' i:Nat),k<N'->i+k=d.2.2.1.idxOf (c:Int) →
 iter (fun (v:Int) r=>z48 N most p x4 d wide sets n may row (c:Int) v (fun b=>(r b)) k0) N' (i:Int)=k0 ((d.2.2.1.idxOf (c:Int):Nat):Int)
 | 0,N',i,h1,h2=>by
   obtain⟨M,rfl⟩:∃ M,N'=M+1:=⟨N' - 1,by omega⟩
   have hlt:=List.idxOf_lt_length_of_mem hc;rw[iter];unfold z48;obtain rfl:i=d.2.2.1.idxOf (c:Int):=by omega
   have e:d.2.2.1.getD (d.2.2.1.idxOf (c:Int)) 0=(c:Int):=by rw[List.getD_eq_getElem?_getD,List.getElem?_eq_getElem hlt];exact List.getElem_idxOf hlt
   rw[z19 hlt,Int.toNat_natCast,e,bne_self_eq_false];rfl
 | k + 1,N',i,h1,h2=>by
   obtain⟨M,rfl⟩:∃ M,N'=M+1:=⟨N' - 1,by omega⟩
   have hlt:=List.idxOf_lt_length_of_mem hc;have hi:i<d.2.2.1.length:=by omega
   have e:(d.2.2.1.getD i 0 != (c:Int))=true:=by
    rw[bne_iff_ne];exact zp8 _ _ (by omega)
   have hstep:∀ rec,z48 N most p x4 d wide sets n may row (c:Int) (i:Int) rec k0=rec ((i+1:Nat):Int):=by
    intro rec;unfold z48;rw[z19 hi,Int.toNat_natCast,e,z1a (by omega)];rfl
   rw[iter];exact (hstep _).trans (zz2 most p x4 d wide sets n may row hc hl k0 k M (i+1) (by omega) (by omega))
theorem zvv {N:Nat}(hN:300<N){p:SpT}(h:FewP p)(most:Int)(x4 d:DfT)(wide:Int)(sets:List (List Int))(n:Int)(row:List Int)(kk:Int){b w:Nat}(hb:b<256)(k0:List Int->Bool->RdT):∀ (k N' i:Nat) (out:List Int) (tk:Bool),k<N'->i+k=(z9b p.1.length w).length->out.length<=i →
 iter (fun (v:((List Int)×Bool×Int)) r=>z47 N most p x4 d wide sets n (z9b p.1.length w) row kk (b:Int) v.1 v.2.1 v.2.2 (fun set_ takes i=>(r (set_,takes,i))) k0) N' (out,tk,(i:Int)) =
  k0 (out++((z9b p.1.length w).drop i).filter fun x=>ze1 (p.1.getD x.toNat []) b) (tk || (((z9b p.1.length w).drop i).filter fun x=>ze1 (p.1.getD x.toNat []) b).any fun x=>inL p.2.2.2.1 x)
 | 0,N',i,out,tk,h1,h2,h3=>by
   obtain⟨M,rfl⟩:∃ M,N'=M+1:=⟨N' - 1,by omega⟩
   rw[iter];dsimp only;unfold z47;rw[z32 (by omega),List.drop_eq_nil_of_le (by omega)];simp
 | k + 1,N',i,out,tk,h1,h2,h3=>by
   obtain⟨M,rfl⟩:∃ M,N'=M+1:=⟨N' - 1,by omega⟩
   have h7:=h.n7;have hi:i<(z9b p.1.length w).length:=by omega
   have hll:=zmr p.1.length w;have hlast:=zzx h.last;obtain⟨x,hx1,_,hx3⟩:=zsm.1 (show (z9b p.1.length w).getD i 0∈z9b p.1.length w by rw[List.getD_eq_getElem?_getD,List.getElem?_eq_getElem hi];exact List.getElem_mem hi);have hset:SetOk (p.1.getD x []):=h.sets _ (by rw[List.getD_eq_getElem?_getD,List.getElem?_eq_getElem hx1];exact List.getElem_mem hx1);have hstep:∀ rec,z47 N most p x4 d wide sets n (z9b p.1.length w) row kk (b:Int) out tk (i:Int) rec k0=cond (ze1 (p.1.getD x []) b) (rec (out++[(x:Int)]) (tk || inL p.2.2.2.1 (x:Int)) ((i+1:Nat):Int)) (rec out tk ((i+1:Nat):Int)):=by
    intro rec;unfold z47 zbt;rw[z27 (by omega),z19 hi,Int.toNat_natCast,hx3,z19 hx1,Int.toNat_natCast,zs7 N hset hb (by omega),z1a (by omega),z1jv p.2.2.2.1 (x:Int) (by omega) (by omega)];simp only[cond_true,Option.bind_some];rw[z27 (by omega)];cases ze1 (p.1.getD x []) b<;>cases tk<;>simp
   rw[iter];refine (hstep _).trans ?_;rw[z4q (z9b p.1.length w) 0 i hi,hx3,List.filter_cons,Int.toNat_natCast];cases hh:ze1 (p.1.getD x []) b
   . rw[cond_false,if_neg (by simp)];exact zvv hN h most x4 d wide sets n row kk hb k0 k M (i+1) out tk (by omega) (by omega) (by omega)
   . rw[cond_true,if_pos rfl];refine (zvv hN h most x4 d wide sets n row kk hb k0 k M (i+1) _ _ (by omega) (by omega) (by rw[List.length_append];simp;omega)).trans ?_;rw[List.any_cons,List.append_assoc,Bool.or_assoc];rfl
theorem z15m {n w r:Nat}{f:Int->Bool}(h:∀ i,i<n->f (i:Int)=r.testBit i):(z9b n w).filter f=z9b n (w &&& r):=by
 unfold z9b;rw[List.filter_map,List.filter_filter];congr 1;apply List.filter_congr;intro i hi;rw[Nat.testBit_and,Bool.and_comm];congr 1;exact h i (List.mem_range.1 hi)
theorem z1ks {n m:Nat}(hm:m<2^n){l:List Int}(hl:∀ x∈l,0<=x/\x<(n:Int)):(z9b n m).any (fun x=>inL l x)=decide (m &&& maskL l≠0):=by
 rw[Bool.eq_iff_iff,List.any_eq_true,decide_eq_true_eq];constructor
 . rintro⟨x,h1,h2⟩ h0;obtain⟨i,g1,g2,rfl⟩:=zsm.1 h1;have:=congrArg (fun z=>z.testBit i) h0;simp only[Nat.testBit_and,g2,znv hl,h2,Nat.zero_testBit] at this;cases this
 . intro h0;obtain⟨i,hi⟩:=Nat.exists_testBit_of_ne_zero h0;rw[Nat.testBit_and,Bool.and_eq_true,znv hl] at hi;refine⟨(i:Int),zsm.2 ⟨i,?_,hi.1,rfl⟩,hi.2⟩;rcases Nat.lt_or_ge i n with h|h
   . exact h
   . rw[Nat.testBit_lt_two_pow (Nat.lt_of_lt_of_le hm (Nat.pow_le_pow_right (by omega) h))] at hi;cases hi.1
end
end Go.Proofs.YtgbcebmahbieoaaDoorLg
set_option linter.all false
set_option maxRecDepth 100000
namespace Go.Proofs.YtgbcebmahbieoaaDoorLg
noncomputable section
open Go Go.Lift Go.Proofs.YtgbcebmahbieoaaDoorPx
def zvd (p:SpT)(fi:List Bool)(rows:List (List Int)):DfT:=(0,(fi,(ofB p.1,(rows,()))))
def zl6 (p:SpT)(kn:List Nat):List (List Int):=[]::kn.map (z9b p.1.length)
theorem z1ch (p:SpT)(kn:List Nat)(m:Nat):zl6 p kn++[z9b p.1.length m]=zl6 p (kn++[m]):=by
 unfold zl6;rw[List.map_append];rfl
theorem z17m {N:Nat} (hN:400<=N) {p:SpT} (h:FewP p) (x4:DfT) (n:Int) {rows:List (List Int)} {mm:Nat} (hmm:mm<2^p.1.length) (k0:DfT->Int->RdT) (k1:DfT->List (List Int)->List Int->RdT) :
 ∀ (k N' i:Nat) (kn:List Nat) (fi:List Bool) (row:List Int),k<N'->i+k=(z2b (ofB p.1)).toNat->row.length=i->KnM (z2d p) kn fi →
 iter (fun (v:(DfT×(List (List Int))×(List Int)×Int)) r=>z49 N 4096 p x4 (z2b (ofB p.1)) n (z9b p.1.length mm) v.1 v.2.1 v.2.2.1 v.2.2.2 (fun d sets row k=>(r (d,sets,row,k))) k0 k1) N' (zvd p fi rows,zl6 p kn,row,(i:Int)) =
  k1 (zvd p (zu2 (z2d p) mm ((z2d p).rd.drop i) (kn,fi) row).1.2 rows) (zl6 p (zu2 (z2d p) mm ((z2d p).rd.drop i) (kn,fi) row).1.1) (zu2 (z2d p) mm ((z2d p).rd.drop i) (kn,fi) row).2
 | 0,N',i,kn,fi,row,h1,h2,h3,h4=>by
   obtain⟨M,rfl⟩:∃ M,N'=M+1:=⟨N' - 1,by omega⟩
   have hcl:=zgb p.1;rw[iter];dsimp only;unfold z49;rw[z32 (by omega),List.drop_eq_nil_of_le (by simp[z2d];omega)];rfl
 | k + 1,N',i,kn,fi,row,h1,h2,h3,h4=>by
   obtain⟨M,rfl⟩:∃ M,N'=M+1:=⟨N' - 1,by omega⟩
   have h7:=h.n7;have hcl:=zgb p.1;have hP:=zur h;have hkl:=h4.le hP;have hci:(i:Int)<z2b (ofB p.1):=by omega
   have hin:i<(z2b (ofB p.1)).toNat:=by omega
   have hcls:=zwx (zsi p.1) hci;have hll:=zmr p.1.length mm;have hrd:(z2d p).rd.getD i 0=z150 p.1 ((ofB p.1).idxOf (i:Int)):=by simp[z2d,List.getD,hin]
   have hil:i<(z2d p).rd.length:=by simp[z2d];omega
   obtain⟨w,hw⟩:∃ w,w=mm &&& (z2d p).rd.getD i 0:=⟨_,rfl⟩
   have hwl:w<2^p.1.length:=by rw[hw];exact Nat.lt_of_le_of_lt Nat.and_le_left hmm
   have hset:(z9b p.1.length mm).filter (fun x=>ze1 (p.1.getD x.toNat []) ((ofB p.1).idxOf (i:Int)))=z9b p.1.length w:=by
    rw[hw,hrd];exact z15m (fun j hj=>by rw[Int.toNat_natCast,z1bk _ _ _ hj])
   have htk:(z9b p.1.length w).any (fun x=>inL p.2.2.2.1 x)=decide (w &&& (z2d p).last≠0):=z1ks hwl (fun x hx=>zjm _ _ _ h.last x hx);have hstep:∀ rec,z49 N 4096 p x4 (z2b (ofB p.1)) n (z9b p.1.length mm) (zvd p fi rows) (zl6 p kn) row (i:Int) rec k0 k1 =
    rec (zvd p (zue (z2d p) (kn,fi) w).2 rows) (zl6 p (zue (z2d p) (kn,fi) w).1) (row++[(((zue (z2d p) (kn,fi) w).1.idxOf w:Nat):Int)+1]) ((i+1:Nat):Int):=by
    intro rec;unfold z49 zbv;rw[z27 hci,cond_true];unfold zh1;refine (zz2 (N:=N) 4096 p x4 (zvd p fi rows) (z2b (ofB p.1)) (zl6 p kn) n (z9b p.1.length mm) row (c:=i) hcls.1 (by show (ofB p.1).length<=1000;rw[zoz];omega) _ ((ofB p.1).idxOf (i:Int)) N 0 (by omega) (by show 0+_=(ofB p.1).idxOf (i:Int);omega)).trans ?_;show zbu N 4096 p x4 (zvd p fi rows) (z2b (ofB p.1)) (zl6 p kn) n (z9b p.1.length mm) row (i:Int) (((ofB p.1).idxOf (i:Int):Nat):Int) [] false 0 _=_;unfold zbu;refine (zvv (N:=N) (by omega) h 4096 x4 (zvd p fi rows) (z2b (ofB p.1)) (zl6 p kn) n row (i:Int) (w:=mm) hcls.2 _ (z9b p.1.length mm).length N 0 [] false (by omega) (by omega) (Nat.le_refl _)).trans ?_;rw[List.drop_zero,List.nil_append,Bool.false_or,hset,htk];have hf:=z1jz (N:=N) (n:=p.1.length) (by omega) (by omega) [] (kn:=kn) (fun m hm=>h4.lt m hm) hwl (by omega);rw[show zl6 p kn=[]::kn.map (z9b p.1.length) from rfl,hf,Option.bind_some,<- show zl6 p kn=[]::kn.map (z9b p.1.length) from rfl];unfold zap zue;have hsl:(zl6 p kn).length=kn.length+1:=by simp[zl6]
    cases hc:kn.contains w
    . have e2:(kn++[w]).idxOf w=kn.length:=by
       rw[List.idxOf_append,if_neg (by simpa using hc)];simp
      simp only[cond_false];rw[show decide ((-1:Int)<0)=true from rfl];simp only[cond_true];rw[zw (decide_eq_true (show ((zl6 p kn).length+1)*24<=70368744177664 by omega)),zw (decide_eq_true (show ((zvd p fi rows).2.1.length+1)*1<=70368744177664 by show (fi.length+1)*1<=_;have:=h4.len;omega)),z1ch];have hsl2:(zl6 p (kn++[w])).length=kn.length+2:=by simp[zl6]
      rw[z2c (decide_eq_false (by omega)),zw (decide_eq_true (show (row.length+1)*8<=70368744177664 by omega)),e2,z1a (by omega),hsl];rfl
    . simp only[cond_true];rw[z32 (by omega)];simp only[cond_false];rw[z2c (decide_eq_false (by omega)),zw (decide_eq_true (show (row.length+1)*8<=70368744177664 by omega)),z1a (by omega)]
   have hadd:=h4.add (m:=w) hwl;rw[iter];refine (hstep _).trans ((z17m hN h x4 n hmm k0 k1 k M (i+1) _ _ _ (by omega) (by omega) (by simp[h3]) hadd).trans ?_);rw[z4q (z2d p).rd 0 i hil,zu2,<- hw]
theorem z176 {N:Nat} (hN:400<=N) {p:SpT} (h:FewP p) (x4:DfT) {st:StM} (hk:KnM (z2d p) st.1 st.2.1) (hr:st.2.2.length<=st.1.length) (k0:DfT->Int->RdT) (k1:DfT->List (List Int)->RdT) :
 z7w N 4096 p x4 (zvd p st.2.1 st.2.2) (z2b (ofB p.1)) (zl6 p st.1) (st.2.2.length:Int) k0 k1=k1 (zvd p (zgl (z2d p) st).2.1 (zgl (z2d p) st).2.2) (zl6 p (zgl (z2d p) st).1):=by
 have h7:=h.n7;have hP:=zur h;have hkl:=hk.le hP;have hcl:=zgb p.1;have hsl:(zl6 p st.1).length=st.1.length+1:=by simp[zl6]
 have hmay:=z13v hP st.1 st.2.2.length;have key:∀ f:List Int->RdT,z7v N 4096 p x4 (zvd p st.2.1 st.2.2) (z2b (ofB p.1)) (zl6 p st.1) (st.2.2.length:Int) [] (fun may=>zbw N 4096 p x4 (zvd p st.2.1 st.2.2) (z2b (ofB p.1)) (zl6 p st.1) (st.2.2.length:Int) may 0 f)=f (z9b p.1.length (z1m9 (z2d p) st.1 st.2.2.length)):=by
  intro f;unfold z7v zbw;cases hn:st.2.2.length with
  | zero =>
    have hs0:(zl6 p st.1).getD 0 []=z9b p.1.length 0:=by rw[zr7];rfl
    have e:p.2.2.1=z9b p.1.length (z2d p).first:=z17r h.first
    rw[show (((0:Nat):Int) == (0:Int))=true from rfl,cond_true,e];have:=zwg (N:=N) (by omega) h 4096 x4 (zvd p st.2.1 st.2.2) (z2b (ofB p.1)) (zl6 p st.1) (n:=0) (by omega) hs0 f 0 N 0 (z2d p).first (by omega) (by rw[zr7];rfl)
    refine this.trans ?_;rw[zr7];rfl
  | succ j =>
    have hj:j<st.1.length:=by omega
    have hs0:(zl6 p st.1).getD (j+1) []=z9b p.1.length (st.1.getD j 0):=by simp[zl6,List.getD,hj]
    have hll:=zmr p.1.length (st.1.getD j 0);rw[show (((j+1:Nat):Int) == (0:Int))=false from by rw[beq_eq_false_iff_ne];omega,cond_false];have:=zwg (N:=N) (by omega) h 4096 x4 (zvd p st.2.1 st.2.2) (z2b (ofB p.1)) (zl6 p st.1) (n:=j+1) (by omega) hs0 f (z9b p.1.length (st.1.getD j 0)).length N 0 0 (by omega) (by omega);rw[zr7] at this;refine this.trans ?_;rw[List.drop_zero,z1m9,afterM];congr 2;exact zp9 (z2d p).nx (st.1.getD j 0) (List.range p.1.length) 0
 unfold z7w;refine (key _).trans ?_;unfold zh2;have hrow:=z17m (N:=N) hN h x4 (st.2.2.length:Int) (rows:=st.2.2) hmay (fun x41 x5=>k0 x41 x5) (fun d1 sets1 row=>cond (decide ((((List.length d1.2.2.2.1)+1)*24)<=70368744177664))
  (k1 (d1.1,(d1.2.1,(d1.2.2.1,((d1.2.2.2.1++([row]:List (List Int))),d1.2.2.2.2)))) sets1)
  (none)) (z2b (ofB p.1)).toNat N 0 st.1 st.2.1 [] (by omega) (by omega) rfl hk
 refine hrow.trans ?_;rw[List.drop_zero];exact (zw (decide_eq_true (show (st.2.2.length+1)*24<=70368744177664 by omega)) _ _).trans rfl
def z21m (p:SpT)(st:StM):RdT:=some (zvd p st.2.1 st.2.2,(0,()))
theorem z13h {N:Nat} (hN:400<=N) {p:SpT} (h:FewP p) (x4:DfT):∀ (k N':Nat) (st:StM),k<N'->130<=st.2.2.length+k->st.2.2.length<=st.1.length+1->KnM (z2d p) st.1 st.2.1 →
 iter (fun (v:(DfT×(List (List Int))×Int)) r=>z38 N 4096 p x4 (z2b (ofB p.1)) v.1 v.2.1 v.2.2 (fun d sets n=>(r (d,sets,n))) (fun x4 x5=>some (x4,(x5,()))) (fun d=>some ((d.1,(d.2.1,(d.2.2.1,(d.2.2.2.1,d.2.2.2.2)))),((0:Int),())))) N' (zvd p st.2.1 st.2.2,zl6 p st.1,(st.2.2.length:Int))=z21m p (z17i (z2d p) st)
 | 0,N',st,h1,h2,h3,h4=>by
   have:=h4.le (zur h);omega
 | k + 1,N',st,h1,h2,h3,h4=>by
   obtain⟨M,rfl⟩:∃ M,N'=M+1:=⟨N' - 1,by omega⟩
   have hP:=zur h;have hkl:=h4.le hP;have hsl:(zl6 p st.1).length=st.1.length+1:=by simp[zl6]
   obtain⟨g1,⟨ys,g2⟩,g3⟩:=zoq hP h4;rw[iter];by_cases hs:st.2.2.length<=st.1.length
   . have hstep:∀ rec,z38 N 4096 p x4 (z2b (ofB p.1)) (zvd p st.2.1 st.2.2) (zl6 p st.1) (st.2.2.length:Int) rec (fun x4 x5=>some (x4,(x5,()))) (fun d=>some ((d.1,(d.2.1,(d.2.2.1,(d.2.2.2.1,d.2.2.2.2)))),((0:Int),())))=rec (zvd p (zgl (z2d p) st).2.1 (zgl (z2d p) st).2.2) (zl6 p (zgl (z2d p) st).1) (((zgl (z2d p) st).2.2.length:Nat):Int):=by
      intro rec;unfold z38;rw[z27 (by omega),cond_true,z176 hN h x4 h4 hs,z1a (by omega),g3]
     refine (hstep _).trans ((z13h hN h x4 k M _ (by omega) (by omega) (by rw[g2,List.length_append];omega) g1).trans ?_);rw[<- zvy hs hkl g3]
   . rw[z139 (by omega)];have:∀ rec,z38 N 4096 p x4 (z2b (ofB p.1)) (zvd p st.2.1 st.2.2) (zl6 p st.1) (st.2.2.length:Int) rec (fun x4 x5=>some (x4,(x5,()))) (fun d=>some ((d.1,(d.2.1,(d.2.2.1,(d.2.2.2.1,d.2.2.2.2)))),((0:Int),())))=z21m p st:=by
      intro rec;unfold z38;rw[z32 (by omega)];rfl
     exact this _
def z1k0 (p:SpT):StM:=z17i (z2d p) ([],([p.2.1],[]))
theorem z1bj (k:Nat){p:SpT}(h:FewP p)(hr:z4c (k+700) p=some true):z5e (k+700) p 4096=z21m p (z1k0 p):=by
 have h7:=h.n7;unfold z5e zh3;rw[hr,Option.bind_some,Bool.not_true,cond_false,z1bs _ p.1 h.sets (by omega) (by omega),Option.bind_some,z19d _ _ (by rw[zoz];omega) (by omega),Option.bind_some];have h0:KnM (z2d p) [] [p.2.1]:=⟨.nil,fun m hm=>(by cases hm),rfl⟩
 exact z13h (N:=k+700) (by omega) h ((0:Int),(([]:List Bool),(([]:List Int),(([]:List (List Int)),())))) 130 (k+700) ([],([p.2.1],[])) (by omega) (by simp) (by simp) h0
theorem z1cj (k:Nat){p:SpT}(h:FewP p)(hr:zbm (k+700) p=some true):zqg (k+700) p=z21m p (z1k0 p):=by
 have h7:=h.n7;have hcl:=zgb p.1;unfold zqg;rw[hr,Option.bind_some,Bool.not_true,cond_false,z1h4 k h,Option.bind_some];simp only[Option.isSome_some,cond_true,Option.getD_some];have hrl:(z2d p).rd.length<=256:=by simp[z2d];omega
 rw[z19n (N:=k+700) (zur h) (z1h2 h) (by omega) (by omega) p.2.1];rfl
end
end Go.Proofs.YtgbcebmahbieoaaDoorLg
set_option linter.all false
set_option maxRecDepth 100000
namespace Go.Proofs.YtgbcebmahbieoaaDoorLg
noncomputable section
open Go Go.Lift
theorem z14k (k:Nat):z4d (k+400)=some true:=by kernel_rfl
end
end Go.Proofs.YtgbcebmahbieoaaDoorLg
