import Derived.Test.YtjbcpimnlgogiaaDoorLgPrDw2
import Derived.Test.YtjbcpimnlgogiaaDoorLgPn
import Derived.WalkKit
import Derived.Tactics
import Derived.Tactics2
import Derived.Defers
import Derived.Lib.Hide
import Derived.Below
import Derived.Recover
import Derived.Orders
import Derived.WalkSmall
import Derived.LoopN
import Derived.Test.YtjbcpimnlgogiaaDoorChecked
import Derived.KernelRfl
import Derived.Test.YtjbcpimnlgogiaaDoorLgPrDw4
import Derived.Deep.RegionHeld3
import Derived.Deep.Cut
import Derived.Deep.OwnRows
import Derived.Deep.LoopGhost
import Derived.Deep.Light
import Derived.Deep.CutRange
import Derived.Laws.Rows
set_option linter.all false
set_option maxRecDepth 100000
namespace Go.Proofs.YtjbcpimnlgogiaaDoorLg
noncomputable section
open Go Go.Lift
abbrev PrsT:T:=.pair .str TT1
theorem fail_walk {w:World}{v:Value}{e at_:Int} :
 Calls Tryd.prog 18 #[v,.int .i64 e,.int .i64 at_] w fun r w'=>r=.panicked [{ v:=.iface 41 (.agg #[.int .i64 e,.int .i64 at_]),recovered:=false }]/\w'=w:=by
 go_enter Tryd.func18,Tryd.ntmps18
 go_wp2
 exact⟨rfl,rfl,rfl⟩
def zq (N:Nat):List A->PnRes:=zgm [(0,.box (.pair .str TT1)),(0,.v (.int .i64)),(0,.v (.int .i64))] (fun x=>some ((x.2.1,(x.2.2.1,())):Int×(Int×Unit))) (fun z=>⟨.pair (.int .i64) (.pair (.int .i64) .unit),z⟩)
theorem zz (N:Nat):ContractP Tryd.prog glob 18 41 (zq N):=by
 refine ContractP.hand ⟨_,Tryd.func18,by kernel_rfl,by decide⟩ ?_;intro w S vals ob x y har hS hg hy;obtain⟨x,n,m,u⟩:=x;cases u;obtain⟨⟨v0,hv0,hA0⟩,_⟩:=har.rel 0 _ rfl;obtain⟨⟨v1,hv1,hA1⟩,_⟩:=har.rel 1 _ rfl;obtain⟨⟨v2,hv2,hA2⟩,_⟩:=har.rel 2 _ rfl;have hlen:=har.len;have hvals:vals=[v0,v1,v2]:=by
  match vals,hlen with
  | [a,b,c],_=>cases hv0;cases hv1;cases hv2;rfl
 have e1:=VR.int_inv hA1.1;have e2:=VR.int_inv hA2.1;subst e1;subst e2;subst hvals;cases hy;refine fail_walk.mono ?_;rintro r w' ⟨rfl,rfl⟩;exact⟨rfl,WF.refl _ _,hS⟩
def zw4:Code:=(Tryd.f73.body).getD .skip
def L_67:List (List Nat×List Nat):=[([0],[0]),([0,0,1],[12,0]),([1,0,1],[0]),([0,1,0,1],[0]),([0,1,1],[2,0]),([1,1,1],[2,0])]
def E_67 (N:Nat):Env:=z1m tys glob [] [] [] [0] false [] []
theorem z1p1 (N:Nat):EnvOk Tryd.prog (E_67 N):=zi mixed zr (FnsOk.nil) (ItsOk.nil)
def z39 (N:Nat):PnT:=pnT [(18,41,zq N)]
theorem z6p (N:Nat):PnOk Tryd.prog glob (z39 N):=PnOk.cons (zz N) (PnOk.nil)
def z7b (N:Nat)(p:DT4)(k0:(Int×(Int×Unit))->Option (Int×(Int×Unit)))(k1:Option (Int×(Int×Unit))):Option (Int×(Int×Unit)) :=
 cond (p.2.1 == (((List.length p.1):Nat):Int))
 (k0 ((1:Int),(p.2.1,())))
 (k1)
def z1mm (N:Nat)(x:z16 SQ0)(K:ExP->List A->Option (Int×(Int×Unit))):Option (Int×(Int×Unit)) :=
 z7b N x.1 (fun a0=>(K (.pan 41) (mkS [(0,.v TT1)] 0 (a0,())))) (K .normal (mkS SQ0 27 (x.1,())))
def z1jd (N:Nat):HdP (Int×(Int×Unit)):=fun st K=>(unS SQ0 27 (restr [0] 0 st)).bind fun x=>z1mm N x K
def t1_67 (N:Nat):zb0 (Int×(Int×Unit)):=[]
theorem z1fj {N:Nat}{c:Ctx}(hb:Base Tryd.prog (E_67 N) c)(hP:PnOk Tryd.prog glob (z39 N)):z1x Tryd.prog c (zh zw4 [0,1]) (z1jd N) :=
 z21 (s:=SQ0) (m:=27) (g:=z1mm N) [0] (z1n hb hP N (t1_67 N) L_67 zw4 TabOkP.nil [0,1] _ rfl) (fun x K=>by kernel_rfl)
def z1z (N:Nat)(p:DT4):Option (Int×(Int×Unit)) :=
 z7b N p
 (fun p1=>some p1)
 (cond (inR p.2.1 (List.length p.1))
 (none)
 (none))
def t_67 (N:Nat):zb0 (Int×(Int×Unit)):=[([0,1],z1jd N)]
theorem z18q (N:Nat)(x:z16 SQ0):zgn (E_67 N) (z39 N) N (t_67 N) L_67 Tryd.f73 41 TT1 (mkS SQ0 0 x) (fun z=>some z)=z1z N x.1:=by kernel_rfl
def z1u (N:Nat):List A->PnRes:=zgm SQ0 (fun x=>z1z N x.1) (fun z=>⟨TT1,z⟩)
theorem z2e (N:Nat):ContractP Tryd.prog glob 73 41 (z1u N) :=
 ContractP.of (E:=E_67 N) (Pn:=z39 N) (H:=t_67 N) (L:=L_67) (N:=N) (body:=zw4) (t:=TT1) (z1p1 N) (z6p N) Tryd.func73 (by kernel_rfl) (by decide) (fun _ hb=>(TabOkP.cons (z1fj hb (z6p N)) TabOkP.nil)) (fun x y h=>by rw[z18q];exact h)
def zw3:Code:=(Tryd.f68.body).getD .skip
def L_68:List (List Nat×List Nat):=[([0,0],[7,0]),([1,0],[0]),([0,1,0],[0]),([1],[0])]
def E_68 (N:Nat):Env:=z1m tys glob [(73,z14 N)] [] [] [0] false [] []
theorem z1p0 (N:Nat):EnvOk Tryd.prog (E_68 N):=zi mixed zr (FnsOk.cons (z1c N) (FnsOk.nil)) (ItsOk.nil)
def z3a (N:Nat):PnT:=pnT [(73,41,z1u N),(18,41,zq N)]
theorem z6q (N:Nat):PnOk Tryd.prog glob (z3a N):=PnOk.cons (z2e N) (PnOk.cons (zz N) (PnOk.nil))
def z7c (N:Nat)(p:DT4)(b:Int)(k0:(Int×(Int×Unit))->Option (Int×(Int×Unit)))(k1:DT4->Option (Int×(Int×Unit))):Option (Int×(Int×Unit)) :=
 orP ((z1z N p)) (fun z=>k0 z)
 ((z1g N p).bind fun y =>
 cond (y.1 != b)
 (k0 ((2:Int),(y.2.1.2.1,())))
 (k1 y.2.1))
def z1ml (N:Nat)(x:z16 SQ6)(K:ExP->List A->Option (Int×(Int×Unit))):Option (Int×(Int×Unit)) :=
 z7c N x.1 x.2.1 (fun a0=>(K (.pan 41) (mkS [(0,.v TT1)] 0 (a0,())))) (fun a0=>(K .normal (mkS SQ0 20 (a0,()))))
def z1jc (N:Nat):HdP (Int×(Int×Unit)):=fun st K=>(unS SQ6 19 (restr [0,1] 0 st)).bind fun x=>z1ml N x K
def t1_68 (N:Nat):zb0 (Int×(Int×Unit)):=[]
theorem z1fi {N:Nat}{c:Ctx}(hb:Base Tryd.prog (E_68 N) c)(hP:PnOk Tryd.prog glob (z3a N)):z1x Tryd.prog c (zh zw3 [0]) (z1jc N) :=
 z21 (s:=SQ6) (m:=19) (g:=z1ml N) [0,1] (z1n hb hP N (t1_68 N) L_68 zw3 TabOkP.nil [0] _ rfl) (fun x K=>by kernel_rfl)
def z20 (N:Nat)(p:DT4)(b:Int):Option (Int×(Int×Unit)) :=
 z7c N p b
 (fun p1=>some p1)
 (fun p2=>none)
def t_68 (N:Nat):zb0 (Int×(Int×Unit)):=[([0],z1jc N)]
theorem z18p (N:Nat)(x:z16 SQ6):zgn (E_68 N) (z3a N) N (t_68 N) L_68 Tryd.f68 41 TT1 (mkS SQ6 0 x) (fun z=>some z)=z20 N x.1 x.2.1:=by kernel_rfl
def z27 (N:Nat):List A->PnRes:=zgm SQ6 (fun x=>z20 N x.1 x.2.1) (fun z=>⟨TT1,z⟩)
theorem z33 (N:Nat):ContractP Tryd.prog glob 68 41 (z27 N) :=
 ContractP.of (E:=E_68 N) (Pn:=z3a N) (H:=t_68 N) (L:=L_68) (N:=N) (body:=zw3) (t:=TT1) (z1p0 N) (z6q N) Tryd.func68 (by kernel_rfl) (by decide) (fun _ hb=>(TabOkP.cons (z1fi hb (z6q N)) TabOkP.nil)) (fun x y h=>by rw[z18p];exact h)
def z9e:Code:=(Tryd.f67.body).getD .skip
def z16g:List (List Nat×List Nat):=[([0],[0]),([0,1],[0,3]),([0,0,1,1],[12,0,3]),([1,0,1,1],[0,3]),([0,1,0,1,1],[0,3]),([0,1,1,1],[0,4,3]),([0,0,1,1,1,1],[0,4,3]),(z13l,[37,4,0,3]),(z13k,[4,0,3]),(z13m,[0,3,4]),([0,0,1,0,0,0,1,1,1,1],[0,4,3]),([1,0,1,0,0,0,1,1,1,1],[0,4,3]),(z13i,[0,4,3]),([0,1,1,1,1],[0,3,4]),(zq4,[75,0,3,4]),(z159,[4,0,3]),(z105,[4,0,3]),([0,0,1,1,1,1,1,1],[80,0,3,4]),([1,0,1,1,1,1,1,1],[4,0]),(z13j,[4,0]),(z10i,[2,0]),(z16d,[2,0])]
def z15e (N:Nat):Env:=z1m tys glob [(73,z14 N),(77,z5v N)] [] [] [0] false [] []
theorem z1oz (N:Nat):EnvOk Tryd.prog (z15e N):=zi mixed zr (FnsOk.cons (z1c N) (FnsOk.cons (z9h N) (FnsOk.nil))) (ItsOk.nil)
def z1b (N:Nat):PnT:=pnT [(73,41,z1u N),(18,41,zq N)]
theorem z32 (N:Nat):PnOk Tryd.prog glob (z1b N):=PnOk.cons (z2e N) (PnOk.cons (zz N) (PnOk.nil))
def z84 (N:Nat)(p:DT4)(from_:Int)(k0:(Int×(Int×Unit))->Option (Int×(Int×Unit)))(k1:DT4->Option (Int×(Int×Unit))):Option (Int×(Int×Unit)) :=
 orP ((z1z N p)) (fun z=>k0 z)
 ((z1g N p).bind fun y =>
 (z5w N y.1).bind fun y1 =>
 cond (!y1)
 (k0 ((2:Int),(from_,())))
 (k1 y.2.1))
def z1mk (N:Nat)(x:z16 z16a)(K:ExP->List A->Option (Int×(Int×Unit))):Option (Int×(Int×Unit)) :=
 z84 N x.1 x.2.1 (fun a0=>(K (.pan 41) (mkS [(0,.v TT1)] 0 (a0,())))) (fun a0=>(K .normal (mkS z16a 81 (a0,x.2.1,()))))
def z1jb (N:Nat):HdP (Int×(Int×Unit)):=fun st K=>(unS z16a 81 (restr [0,3] 0 st)).bind fun x=>z1mk N x K
def t1_69 (N:Nat):zb0 (Int×(Int×Unit)):=[]
theorem z1fh {N:Nat}{c:Ctx}(hb:Base Tryd.prog (z15e N) c)(hP:PnOk Tryd.prog glob (z1b N)):z1x Tryd.prog c (zh z9e [0,1,1]) (z1jb N) :=
 z21 (s:=z16a) (m:=81) (g:=z1mk N) [0,3] (z1n hb hP N (t1_69 N) z16g z9e TabOkP.nil [0,1,1] _ rfl) (fun x K=>by kernel_rfl)
def z82 (N:Nat)(p:DT4)(from_:Int)(n:Int)(k0:Option (Int×(Int×Unit)))(k1:Option (Int×(Int×Unit))):Option (Int×(Int×Unit)) :=
 cond (decide (p.2.1<(((List.length p.1):Nat):Int)))
 (cond (inR p.2.1 (List.length p.1))
 ((z5w N (((UInt8.toNat (List.getD p.1 (Int.toNat p.2.1) (0:UInt8))):Nat):Int)).bind fun y =>
 cond y
 (k0)
 (k1))
 (none))
 (k1)
def z1ks (N:Nat)(x:z16 SQ1)(K:ExP->List A->Option (Int×(Int×Unit))):Option (Int×(Int×Unit)) :=
 z82 N x.1 x.2.1 x.2.2.1 (K .normal (mkS SQ1 80 (x.1,x.2.1,x.2.2.1,()))) (K (.exit 0) (mkS SQ1 80 (x.1,x.2.1,x.2.2.1,())))
def z1hj (N:Nat):HdP (Int×(Int×Unit)):=fun st K=>(unS SQ1 80 (restr [0,4,3] 0 st)).bind fun x=>z1ks N x K
def t4_69 (N:Nat):zb0 (Int×(Int×Unit)):=[]
theorem z1dp {N:Nat}{c:Ctx}(hb:Base Tryd.prog (z15e N) c)(hP:PnOk Tryd.prog glob (z1b N)):z1x Tryd.prog c (zh z9e z104) (z1hj N) :=
 z21 (s:=SQ1) (m:=80) (g:=z1ks N) [0,4,3] (z1n hb hP N (t4_69 N) z16g z9e TabOkP.nil z104 _ rfl) (fun x K=>by kernel_rfl)
def z7z (N:Nat)(from_:Int)(p:DT4)(n:Int)(rec:DT4->Int->Option (Int×(Int×Unit)))(k0:DT4->Int->Option (Int×(Int×Unit))):Option (Int×(Int×Unit)) :=
 z82 N p from_ n
 (cond (inR p.2.1 (List.length p.1))
 (rec (p.1,((IntKind.wrap IntKind.i64 (p.2.1+(1:Int))),p.2.2)) (if ((17:Int)<(IntKind.wrap IntKind.i64 ((IntKind.wrap IntKind.i64 ((10:Int)*n))+(IntKind.wrap IntKind.i64 (IntKind.wrap IntKind.u8 ((((UInt8.toNat (List.getD p.1 (Int.toNat p.2.1) (0:UInt8))):Nat):Int) - (48:Int))))))) then (17:Int) else (IntKind.wrap IntKind.i64 ((IntKind.wrap IntKind.i64 ((10:Int)*n))+(IntKind.wrap IntKind.i64 (IntKind.wrap IntKind.u8 ((((UInt8.toNat (List.getD p.1 (Int.toNat p.2.1) (0:UInt8))):Nat):Int) - (48:Int))))))))
 (none))
 (k0 p n)
def zel (N:Nat)(p:DT4)(from_:Int)(n:Int)(k0:DT4->Int->Option (Int×(Int×Unit))):Option (Int×(Int×Unit)) :=
 iter (fun (v:(DT4×Int)) r=>z7z N from_ v.1 v.2 (fun p n=>(r (p,n))) k0) N (p,n)
def z1l3 (N:Nat)(i:Int)(v:(DT4×Int))(r:(DT4×Int)->Option (Int×(Int×Unit)))(K:ExP->List A->Option (Int×(Int×Unit))):Option (Int×(Int×Unit)) :=
 z7z N i v.1 v.2 (fun p n=>(r (p,n))) (fun a0 a2=>(K (.exit 0) (mkS SQ1 80 (a0,i,a2,()))))
def z1hu (N:Nat):HdP (Int×(Int×Unit)):=fun st K=>(unS SQ1 80 (restr [0,4,3] 0 st)).bind fun x=>iter (fun v r=>z1l3 N ((fun x=>x.2.1) x) v r K) N ((fun x=>(x.1,x.2.2.1)) x)
def t3_69 (N:Nat):zb0 (Int×(Int×Unit)):=[(z104,z1hj N)]
theorem z1e0 {N:Nat}{c:Ctx}(hb:Base Tryd.prog (z15e N) c)(hP:PnOk Tryd.prog glob (z1b N)):z1x Tryd.prog c (zh z9e [0,0,1,1,1,1]) (z1hu N) :=
 znd (s:=SQ1) (m:=80) (z1l3 N) [0,4,3] N (fun x=>x.2.1) (fun x=>(x.1,x.2.2.1)) (fun i v=>(v.1,i,v.2,())) (fun _=>rfl) (z1n hb hP N (t3_69 N) z16g z9e (TabOkP.cons (z1dp hb hP) TabOkP.nil) [0,0,0,1,1,1,1] _ rfl) (fun i v r K=>by kernel_rfl)
def z83 (N:Nat)(p:DT4)(from_:Int)(n:Int)(k0:DT4->Int->Option (Int×(Int×Unit))):Option (Int×(Int×Unit)) :=
 zel N p from_ n
 (fun p1 n1=>k0 p1 n1)
def z1lm (N:Nat)(x:z16 SQ1)(K:ExP->List A->Option (Int×(Int×Unit))):Option (Int×(Int×Unit)) :=
 z83 N x.1 x.2.1 x.2.2.1 (fun a0 a2=>(K .normal (mkS SQ1 80 (a0,x.2.1,a2,()))))
def z1id (N:Nat):HdP (Int×(Int×Unit)):=fun st K=>(unS SQ1 80 (restr [0,4,3] 0 st)).bind fun x=>z1lm N x K
def t2_69 (N:Nat):zb0 (Int×(Int×Unit)):=[([0,0,1,1,1,1],z1hu N)]
theorem z1ej {N:Nat}{c:Ctx}(hb:Base Tryd.prog (z15e N) c)(hP:PnOk Tryd.prog glob (z1b N)):z1x Tryd.prog c (zh z9e [0,1,1,1,1]) (z1id N) :=
 z21 (s:=SQ1) (m:=80) (g:=z1lm N) [0,4,3] (z1n hb hP N (t2_69 N) z16g z9e (TabOkP.cons (z1e0 hb hP) TabOkP.nil) [0,1,1,1,1] _ rfl) (fun x K=>by kernel_rfl)
def z80 (N:Nat)(p:DT4)(from_:Int)(n:Int)(k0:Bool->Option (Int×(Int×Unit))):Option (Int×(Int×Unit)) :=
 cond (inR from_ (List.length p.1))
 (cond ((((UInt8.toNat (List.getD p.1 (Int.toNat from_) (0:UInt8))):Nat):Int) == (48:Int))
 (k0 (decide ((IntKind.wrap IntKind.i64 (from_+(1:Int)))<p.2.1)))
 (k0 false))
 (none)
def z1kl (N:Nat)(x:z16 SQ1)(K:ExP->List A->Option (Int×(Int×Unit))):Option (Int×(Int×Unit)) :=
 z80 N x.1 x.2.1 x.2.2.1 (fun a3=>(K .normal (mkS z1o7 9 (x.1,x.2.1,x.2.2.1,a3,()))))
def z1hc (N:Nat):HdP (Int×(Int×Unit)):=fun st K=>(unS SQ1 80 (restr [0,3,4] 0 st)).bind fun x=>z1kl N x K
def t6_69 (N:Nat):zb0 (Int×(Int×Unit)):=[]
theorem z1di {N:Nat}{c:Ctx}(hb:Base Tryd.prog (z15e N) c)(hP:PnOk Tryd.prog glob (z1b N)):z1x Tryd.prog c (zh z9e zq4) (z1hc N) :=
 z21 (s:=SQ1) (m:=80) (g:=z1kl N) [0,3,4] (z1n hb hP N (t6_69 N) z16g z9e TabOkP.nil zq4 _ rfl) (fun x K=>by kernel_rfl)
def z81 (N:Nat)(p:DT4)(from_:Int)(n:Int)(k0:(Int×(Int×Unit))->Option (Int×(Int×Unit)))(k1:Option (Int×(Int×Unit))):Option (Int×(Int×Unit)) :=
 z80 N p from_ n
 (fun x75=>cond x75
 (k0 ((2:Int),(from_,())))
 (k1))
def z1kn (N:Nat)(x:z16 SQ1)(K:ExP->List A->Option (Int×(Int×Unit))):Option (Int×(Int×Unit)) :=
 z81 N x.1 x.2.1 x.2.2.1 (fun a0=>(K (.pan 41) (mkS [(0,.v TT1)] 0 (a0,())))) (K .normal (mkS SQ1 80 (x.1,x.2.1,x.2.2.1,())))
def z1he (N:Nat):HdP (Int×(Int×Unit)):=fun st K=>(unS SQ1 80 (restr [0,3,4] 0 st)).bind fun x=>z1kn N x K
def t5_69 (N:Nat):zb0 (Int×(Int×Unit)):=[(zq4,z1hc N)]
theorem z1dk {N:Nat}{c:Ctx}(hb:Base Tryd.prog (z15e N) c)(hP:PnOk Tryd.prog glob (z1b N)):z1x Tryd.prog c (zh z9e [0,1,1,1,1,1]) (z1he N) :=
 z21 (s:=SQ1) (m:=80) (g:=z1kn N) [0,3,4] (z1n hb hP N (t5_69 N) z16g z9e (TabOkP.cons (z1di hb hP) TabOkP.nil) [0,1,1,1,1,1] _ rfl) (fun x K=>by kernel_rfl)
def z4c (N:Nat)(p:DT4):Option (Int×(Int×Unit)) :=
 z84 N p p.2.1
 (fun p1=>some p1)
 (fun p2=>z83 N p2 p.2.1 (0:Int)
 (fun p3 n=>z81 N p3 p.2.1 n
 (fun p4=>some p4)
 (cond (decide ((16:Int)<n))
 (some ((3:Int),(p.2.1,())))
 (none))))
def t_69 (N:Nat):zb0 (Int×(Int×Unit)):=[([0,1,1],z1jb N),([0,1,1,1,1],z1id N),([0,1,1,1,1,1],z1he N)]
theorem z18o (N:Nat)(x:z16 SQ0):zgn (z15e N) (z1b N) N (t_69 N) z16g Tryd.f67 41 TT1 (mkS SQ0 0 x) (fun z=>some z)=z4c N x.1:=by kernel_rfl
def z7a (N:Nat):List A->PnRes:=zgm SQ0 (fun x=>z4c N x.1) (fun z=>⟨TT1,z⟩)
theorem zem (N:Nat):ContractP Tryd.prog glob 67 41 (z7a N) :=
 ContractP.of (E:=z15e N) (Pn:=z1b N) (H:=t_69 N) (L:=z16g) (N:=N) (body:=z9e) (t:=TT1) (z1oz N) (z32 N) Tryd.func67 (by kernel_rfl) (by decide) (fun _ hb=>(TabOkP.cons (z1fh hb (z32 N)) (TabOkP.cons (z1ej hb (z32 N)) (TabOkP.cons (z1dk hb (z32 N)) TabOkP.nil)))) (fun x y h=>by rw[z18o];exact h)
def zp7:Code:=(Tryd.f75.body).getD .skip
def L_70:List (List Nat×List Nat):=[([0],[0,1]),([0,1],[0,5,1]),([0,1,1],[5,0,1]),([0,0,1,1,1],[16,5,0,1]),([1,0,1,1,1],[5,0,1]),(zwv,[4,0]),(zue,[4,0]),([0,0,1,1,1,1],[24,0,1,5]),([1,0,1,1,1,1],[5,0]),(z13p,[5,0]),([0,1,1,1,1,1],[4,0]),([1,1,1,1,1,1],[4,0])]
def z1qq (N:Nat):Env:=z1m tys glob [(73,z14 N),(77,z5v N)] [] [] [0] false [] []
theorem z1oy (N:Nat):EnvOk Tryd.prog (z1qq N):=zi mixed zr (FnsOk.cons (z1c N) (FnsOk.cons (z9h N) (FnsOk.nil))) (ItsOk.nil)
def z2q (N:Nat):PnT:=pnT [(73,41,z1u N),(18,41,zq N)]
theorem z7i (N:Nat):PnOk Tryd.prog glob (z2q N):=PnOk.cons (z2e N) (PnOk.cons (zz N) (PnOk.nil))
def z85 (N:Nat)(p:DT4)(from_:Int)(b:Int)(k0:Bool->Option (Int×(Int×Unit))):Option (Int×(Int×Unit)) :=
 cond (decide (b<(97:Int)))
 (k0 true)
 (k0 (decide ((102:Int)<b)))
def z1ll (N:Nat)(x:z16 SQ8)(K:ExP->List A->Option (Int×(Int×Unit))):Option (Int×(Int×Unit)) :=
 z85 N x.1 x.2.1 x.2.2.1 (fun a3=>(K .normal (mkS [(0,.box (.pair .str TT1)),(0,.v (.int .i64)),(3,.v (.int .u8)),(18,.v .bool)] 6 (x.1,x.2.1,x.2.2.1,a3,()))))
def z1ic (N:Nat):HdP (Int×(Int×Unit)):=fun st K=>(unS SQ8 25 (restr [5,0,1] 0 st)).bind fun x=>z1ll N x K
def t2_70 (N:Nat):zb0 (Int×(Int×Unit)):=[]
theorem z1ei {N:Nat}{c:Ctx}(hb:Base Tryd.prog (z1qq N) c)(hP:PnOk Tryd.prog glob (z2q N)):z1x Tryd.prog c (zh zp7 [0,0,1,1,1,1]) (z1ic N) :=
 z21 (s:=SQ8) (m:=25) (g:=z1ll N) [5,0,1] (z1n hb hP N (t2_70 N) L_70 zp7 TabOkP.nil [0,0,1,1,1,1] _ rfl) (fun x K=>by kernel_rfl)
def z86 (N:Nat)(p:DT4)(from_:Int)(b:Int)(k0:(Int×(Int×Unit))->Option (Int×(Int×Unit)))(k1:Option (Int×(Int×Unit))):Option (Int×(Int×Unit)) :=
 z85 N p from_ b
 (fun x24=>cond x24
 (k0 ((2:Int),(from_,())))
 (k1))
def z1mj (N:Nat)(x:z16 SQ8)(K:ExP->List A->Option (Int×(Int×Unit))):Option (Int×(Int×Unit)) :=
 z86 N x.1 x.2.1 x.2.2.1 (fun a0=>(K (.pan 41) (mkS [(0,.v TT1)] 0 (a0,())))) (K .normal (mkS [(0,.box (.pair .str TT1)),(4,.v (.int .u8))] 25 (x.1,x.2.2.1,())))
def z1ja (N:Nat):HdP (Int×(Int×Unit)):=fun st K=>(unS SQ8 25 (restr [5,0,1] 0 st)).bind fun x=>z1mj N x K
def t1_70 (N:Nat):zb0 (Int×(Int×Unit)):=[([0,0,1,1,1,1],z1ic N)]
theorem z1fg {N:Nat}{c:Ctx}(hb:Base Tryd.prog (z1qq N) c)(hP:PnOk Tryd.prog glob (z2q N)):z1x Tryd.prog c (zh zp7 [0,1,1,1,1]) (z1ja N) :=
 z21 (s:=SQ8) (m:=25) (g:=z1mj N) [5,0,1] (z1n hb hP N (t1_70 N) L_70 zp7 (TabOkP.cons (z1ei hb hP) TabOkP.nil) [0,1,1,1,1] _ rfl) (fun x K=>by kernel_rfl)
def z4d (N:Nat)(p:DT4)(from_:Int):Option (Int×(Int×Unit)) :=
 orP ((z1z N p)) (fun z=>some z)
 ((z1g N p).bind fun y =>
 (z5w N y.1).bind fun y1 =>
 cond y1
 (none)
 (z86 N (y.2.1.1,((IntKind.wrap IntKind.i64 (y.2.1.2.1+(1:Int))),y.2.1.2.2)) from_ y.1
 (fun p1=>some p1)
 (none)))
def t_70 (N:Nat):zb0 (Int×(Int×Unit)):=[([0,1,1,1,1],z1ja N)]
theorem z18n (N:Nat)(x:z16 z1c3):zgn (z1qq N) (z2q N) N (t_70 N) L_70 Tryd.f75 41 TT1 (mkS z1c3 0 x) (fun z=>some z)=z4d N x.1 x.2.1:=by kernel_rfl
def z7h (N:Nat):List A->PnRes:=zgm z1c3 (fun x=>z4d N x.1 x.2.1) (fun z=>⟨TT1,z⟩)
theorem zen (N:Nat):ContractP Tryd.prog glob 75 41 (z7h N) :=
 ContractP.of (E:=z1qq N) (Pn:=z2q N) (H:=t_70 N) (L:=L_70) (N:=N) (body:=zp7) (t:=TT1) (z1oy N) (z7i N) Tryd.func75 (by kernel_rfl) (by decide) (fun _ hb=>(TabOkP.cons (z1fg hb (z7i N)) TabOkP.nil)) (fun x y h=>by rw[z18n];exact h)
def zw2:Code:=(Tryd.f65.body).getD .skip
def L_71:List (List Nat×List Nat):=[([0],[0,2]),([0,1],[0,2,4]),([0,1,1],[0,2,4]),([0,1,1,1],[0,5,2,4]),([0,1,1,1,1],[5,2,0,4]),([0,0,0,1,1,1,1,1],[22,2,0,5,4]),([1,0,0,1,1,1,1,1],[5,2,0]),([0,1,1,0,0,1,1,1,1,1],[26,2,0,5,4]),([1,1,1,0,0,1,1,1,1,1],[5,2,0]),([0,1,1,1,1,0,0,1,1,1,1,1],[30,0,4,2,5]),([1,1,1,1,1,0,0,1,1,1,1,1],[5,2,0]),([0,1,1,1,1,1,1,0,0,1,1,1,1,1],[42,0,4,5,2]),([1,1,1,1,1,1,1,0,0,1,1,1,1,1],[5,2,0]),([0,1,1,1,1,1,1,1,0,0,1,1,1,1,1],[5,2,0]),([0,0,1,1,1,1,1,0,0,1,1,1,1,1],[6,0,4,2]),([1,0,1,1,1,1,1,0,0,1,1,1,1,1],[5,2,0]),([0,0,1,1,1,0,0,1,1,1,1,1],[2,3,0]),([1,0,1,1,1,0,0,1,1,1,1,1],[2,3,0]),([0,0,1,0,0,1,1,1,1,1],[2,3,0]),([1,0,1,0,0,1,1,1,1,1],[2,3,0]),([0,1,1,1,1,1],[5,2,0]),(z100,[2,3,0]),(zwy,[2,3,0])]
def E_71 (N:Nat):Env:=z1m tys glob [(11,z2w N),(66,z2y N),(68,z1k N),(73,z14 N),(74,z9b N),(75,z6i N)] [] [] [0] false [] []
theorem z1ox (N:Nat):EnvOk Tryd.prog (E_71 N):=zi mixed zr (FnsOk.cons (z3e N) (FnsOk.cons (z4b N) (FnsOk.cons (z1w N) (FnsOk.cons (z1c N) (FnsOk.cons (zfs N) (FnsOk.cons (zbu N) (FnsOk.nil))))))) (ItsOk.nil)
def z2u (N:Nat):PnT:=pnT [(75,41,z7h N),(68,41,z27 N),(73,41,z1u N),(18,41,zq N)]
theorem z5r (N:Nat):PnOk Tryd.prog glob (z2u N):=PnOk.cons (zen N) (PnOk.cons (z33 N) (PnOk.cons (z2e N) (PnOk.cons (zz N) (PnOk.nil))))
def z6c (N:Nat)(p:DT4)(set_:(List Int))(from_:Int)(b:Int)(k0:(List Int)->Bool->Option (Int×(Int×Unit)))(k1:(Int×(Int×Unit))->Option (Int×(Int×Unit)))(k2:DT4->Int->Option (Int×(Int×Unit))):Option (Int×(Int×Unit)) :=
 cond (b == (100:Int))
 ((z22 N (48:Int) (57:Int)).bind fun y =>
 k0 y true)
 (cond (b == (119:Int))
 ((zb8 N ((48:UInt8)::(49:UInt8)::(50:UInt8)::(51:UInt8)::(52:UInt8)::(53:UInt8)::(54:UInt8)::(55:UInt8)::(56:UInt8)::(57:UInt8)::(65:UInt8)::(66:UInt8)::(67:UInt8)::(68:UInt8)::(69:UInt8)::(70:UInt8)::(71:UInt8)::(72:UInt8)::(73:UInt8)::(74:UInt8)::(75:UInt8)::(76:UInt8)::(77:UInt8)::(78:UInt8)::(79:UInt8)::(80:UInt8)::(81:UInt8)::(82:UInt8)::(83:UInt8)::(84:UInt8)::(85:UInt8)::(86:UInt8)::(87:UInt8)::(88:UInt8)::(89:UInt8)::(90:UInt8)::(95:UInt8)::(97:UInt8)::(98:UInt8)::(99:UInt8)::(100:UInt8)::(101:UInt8)::(102:UInt8)::(103:UInt8)::(104:UInt8)::(105:UInt8)::(106:UInt8)::(107:UInt8)::(108:UInt8)::(109:UInt8)::(110:UInt8)::(111:UInt8)::(112:UInt8)::(113:UInt8)::(114:UInt8)::(115:UInt8)::(116:UInt8)::(117:UInt8)::(118:UInt8)::(119:UInt8)::(120:UInt8)::(121:UInt8)::(122:UInt8)::([]:List UInt8))).bind fun y1 =>
 k0 y1 true)
 (cond (b == (120:Int))
 (orP ((z4d N p from_)) (fun z=>k1 z)
 ((z3v N p from_).bind fun y2 =>
 orP ((z4d N y2.2.1 from_)) (fun z1=>k1 z1)
 ((z3v N y2.2.1 from_).bind fun y3 =>
 k2 y3.2.1 (zd Go.BinOp.or IntKind.u8 (zsh IntKind.u8 y2.1 (4:Int)) y3.1))))
 (cond (decide ((Go.Lib.indexByte ([(92:UInt8),(46:UInt8),(91:UInt8),(93:UInt8),(40:UInt8),(41:UInt8),(123:UInt8),(125:UInt8),(124:UInt8),(42:UInt8),(43:UInt8),(63:UInt8),(45:UInt8),(94:UInt8)]:List UInt8) (Nat.toUInt8 (Int.toNat b)))<(0:Int)))
 (k1 ((2:Int),(from_,())))
 (k2 p b))))
def z1mi (N:Nat)(x:z16 z1c9)(K:ExP->List A->Option (Int×(Int×Unit))):Option (Int×(Int×Unit)) :=
 z6c N x.1 x.2.1 x.2.2.1 x.2.2.2.1 (fun a1 a2=>(K .ret (mkS SQ43 48 (x.1,a1,a2,())))) (fun a0=>(K (.pan 41) (mkS [(0,.v TT1)] 0 (a0,())))) (fun a0 a2=>(K .normal (mkS [(0,.box (.pair .str TT1)),(1,.box (.arr 4 (.int .u64))),(2,.v (.int .u8))] 46 (a0,x.2.1,a2,()))))
def z1j9 (N:Nat):HdP (Int×(Int×Unit)):=fun st K=>(unS z1c9 46 (restr [5,2,0,4] 0 st)).bind fun x=>z1mi N x K
def t1_71 (N:Nat):zb0 (Int×(Int×Unit)):=[]
theorem z1ff {N:Nat}{c:Ctx}(hb:Base Tryd.prog (E_71 N) c)(hP:PnOk Tryd.prog glob (z2u N)):z1x Tryd.prog c (zh zw2 [0,1,1,1,1,1]) (z1j9 N) :=
 z21 (s:=z1c9) (m:=46) (g:=z1mi N) [5,2,0,4] (z1n hb hP N (t1_71 N) L_71 zw2 TabOkP.nil [0,1,1,1,1,1] _ rfl) (fun x K=>by kernel_rfl)
def z3b (N:Nat)(p:DT4):Option (Int×(Int×Unit)) :=
 orP ((z20 N p (92:Int))) (fun z=>some z)
 ((z1h N p (92:Int)).bind fun y =>
 orP ((z1z N y.2.1)) (fun z1=>some z1)
 ((z1g N y.2.1).bind fun y1 =>
 z6c N (y1.2.1.1,((IntKind.wrap IntKind.i64 (y1.2.1.2.1+(1:Int))),y1.2.1.2.2)) ([(0:Int),(0:Int),(0:Int),(0:Int)]:List Int) p.2.1 y1.1
 (fun set_ class_=>none)
 (fun p1=>some p1)
 (fun p2 b=>(z22 N b b).bind fun y2 =>
 none)))
def t_71 (N:Nat):zb0 (Int×(Int×Unit)):=[([0,1,1,1,1,1],z1j9 N)]
theorem z18m (N:Nat)(x:z16 SQ0):zgn (E_71 N) (z2u N) N (t_71 N) L_71 Tryd.f65 41 TT1 (mkS SQ0 0 x) (fun z=>some z)=z3b N x.1:=by kernel_rfl
def z3l (N:Nat):List A->PnRes:=zgm SQ0 (fun x=>z3b N x.1) (fun z=>⟨TT1,z⟩)
theorem z6d (N:Nat):ContractP Tryd.prog glob 65 41 (z3l N) :=
 ContractP.of (E:=E_71 N) (Pn:=z2u N) (H:=t_71 N) (L:=L_71) (N:=N) (body:=zw2) (t:=TT1) (z1ox N) (z5r N) Tryd.func65 (by kernel_rfl) (by decide) (fun _ hb=>(TabOkP.cons (z1ff hb (z5r N)) TabOkP.nil)) (fun x y h=>by rw[z18m];exact h)
def zp6:Code:=(Tryd.f78.body).getD .skip
def L_72:List (List Nat×List Nat):=[([0],[0,2]),([0,1],[4,0,2]),([0,0,1,1],[7,0,2,4]),([0,0,1,0,1,1],[8,0,2,7,4]),([1,0,1,0,1,1],[0,4,2]),([0,0,1,1,0,1,0,1,1],[14,0,4,2,7]),([1,0,1,1,0,1,0,1,1],[14,0,4,2]),([0,1,1,0,1,1,0,1,0,1,1],[14,0,4,2,7]),([1,1,1,0,1,1,0,1,0,1,1],[14,0,4,2]),([0,1,1,1,1,0,1,1,0,1,0,1,1],[14,0,4,2,7]),([1,1,1,1,1,0,1,1,0,1,0,1,1],[14,0,4,2]),([1,1,1,1,1,1,0,1,1,0,1,0,1,1],[14,0,4,2]),([1,1,1,0,1,0,1,1],[0,4,2]),([0,1,1,1,0,1,0,1,1],[0,4,2]),([0,0,1,0,1,0,1,1],[2,3,0]),([1,0,1,0,1,0,1,1],[2,3,0]),([1,0,1,1],[0,4,2]),([0,1,1,1],[4,2,0]),([0,1,1,1,1],[2,3,0]),([1,1,1,1,1],[2,3,0])]
def z1qp (N:Nat):Env:=z1m tys glob [(11,z2w N),(65,z2k N),(73,z14 N)] [] [] [0] false [] []
theorem z1ow (N:Nat):EnvOk Tryd.prog (z1qp N):=zi mixed zr (FnsOk.cons (z3e N) (FnsOk.cons (z3q N) (FnsOk.cons (z1c N) (FnsOk.nil)))) (ItsOk.nil)
def z2j (N:Nat):PnT:=pnT [(65,41,z3l N),(73,41,z1u N),(18,41,zq N)]
theorem z6n (N:Nat):PnOk Tryd.prog glob (z2j N):=PnOk.cons (z6d N) (PnOk.cons (z2e N) (PnOk.cons (zz N) (PnOk.nil)))
def z78 (N:Nat)(p:DT4)(set_:(List Int))(b:Int)(x7:Int)(k0:Bool->Option (Int×(Int×Unit))):Option (Int×(Int×Unit)) :=
 cond (x7 == (91:Int))
 (k0 (x7 == (91:Int)))
 (cond (x7 == (93:Int))
 (k0 (x7 == (93:Int)))
 (cond (x7 == (45:Int))
 (k0 (x7 == (45:Int)))
 (k0 (x7 == (94:Int)))))
def z1lk (N:Nat)(x:z16 z1c8)(K:ExP->List A->Option (Int×(Int×Unit))):Option (Int×(Int×Unit)) :=
 z78 N x.1 x.2.1 x.2.2.1 x.2.2.2.1 (fun a3=>(K .normal (mkS SQ89 20 (x.1,x.2.1,x.2.2.1,a3,()))))
def z1ib (N:Nat):HdP (Int×(Int×Unit)):=fun st K=>(unS z1c8 27 (restr [7,0,4,2] 0 st)).bind fun x=>z1lk N x K
def t2_72 (N:Nat):zb0 (Int×(Int×Unit)):=[]
theorem z1eh {N:Nat}{c:Ctx}(hb:Base Tryd.prog (z1qp N) c)(hP:PnOk Tryd.prog glob (z2j N)):z1x Tryd.prog c (zh zp6 zx2) (z1ib N) :=
 z21 (s:=z1c8) (m:=27) (g:=z1lk N) [7,0,4,2] (z1n hb hP N (t2_72 N) L_72 zp6 TabOkP.nil zx2 _ rfl) (fun x K=>by kernel_rfl)
def z79 (N:Nat)(p:DT4)(set_:(List Int))(b:Int)(k0:(Int×(Int×Unit))->Option (Int×(Int×Unit)))(k1:DT4->(List Int)->Bool->Option (Int×(Int×Unit)))(k2:Option (Int×(Int×Unit))):Option (Int×(Int×Unit)) :=
 cond (b == (92:Int))
 (orP ((z3b N p)) (fun z=>k0 z)
 ((z2r N p).bind fun y =>
 k1 y.2.1 y.1.1 y.1.2.1))
 (z78 N p set_ b b
 (fun x14=>cond x14
 (k0 ((2:Int),(p.2.1,())))
 (k2)))
def z1mh (N:Nat)(x:z16 z16c)(K:ExP->List A->Option (Int×(Int×Unit))):Option (Int×(Int×Unit)) :=
 z79 N x.1 x.2.1 x.2.2.1 (fun a0=>(K (.pan 41) (mkS [(0,.v TT1)] 0 (a0,())))) (fun a0 a1 a2=>(K .ret (mkS SQ43 31 (a0,a1,a2,())))) (K .normal (mkS z16c 30 (x.1,x.2.1,x.2.2.1,())))
def z1j8 (N:Nat):HdP (Int×(Int×Unit)):=fun st K=>(unS z16c 30 (restr [4,0,2] 0 st)).bind fun x=>z1mh N x K
def t1_72 (N:Nat):zb0 (Int×(Int×Unit)):=[(zx2,z1ib N)]
theorem z1fe {N:Nat}{c:Ctx}(hb:Base Tryd.prog (z1qp N) c)(hP:PnOk Tryd.prog glob (z2j N)):z1x Tryd.prog c (zh zp6 [0,1,1]) (z1j8 N) :=
 z21 (s:=z16c) (m:=30) (g:=z1mh N) [4,0,2] (z1n hb hP N (t1_72 N) L_72 zp6 (TabOkP.cons (z1eh hb hP) TabOkP.nil) [0,1,1] _ rfl) (fun x K=>by kernel_rfl)
def z3z (N:Nat)(p:DT4):Option (Int×(Int×Unit)) :=
 orP ((z1z N p)) (fun z=>some z)
 ((z1g N p).bind fun y =>
 z79 N y.2.1 ([(0:Int),(0:Int),(0:Int),(0:Int)]:List Int) y.1
 (fun p1=>some p1)
 (fun p2 set_ class_=>none)
 ((z22 N y.1 y.1).bind fun y1 =>
 none))
def t_72 (N:Nat):zb0 (Int×(Int×Unit)):=[([0,1,1],z1j8 N)]
theorem z18l (N:Nat)(x:z16 SQ0):zgn (z1qp N) (z2j N) N (t_72 N) L_72 Tryd.f78 41 TT1 (mkS SQ0 0 x) (fun z=>some z)=z3z N x.1:=by kernel_rfl
def z6m (N:Nat):List A->PnRes:=zgm SQ0 (fun x=>z3z N x.1) (fun z=>⟨TT1,z⟩)
theorem zdm (N:Nat):ContractP Tryd.prog glob 78 41 (z6m N) :=
 ContractP.of (E:=z1qp N) (Pn:=z2j N) (H:=t_72 N) (L:=L_72) (N:=N) (body:=zp6) (t:=TT1) (z1ow N) (z6n N) Tryd.func78 (by kernel_rfl) (by decide) (fun _ hb=>(TabOkP.cons (z1fe hb (z6n N)) TabOkP.nil)) (fun x y h=>by rw[z18l];exact h)
def zfa:Code:=(Tryd.f70.body).getD .skip
def z1ch:List (List Nat×List Nat):=[([0],[0,2]),([0,1],[4,0,3,2]),([0,0,1,1],[17,3,2,0]),([1,0,1,1],[0,3,2]),([0,0,1,0,1,1],[2,0]),([1,0,1,0,1,1],[2,0]),([0,1,1,1],[0,3,5,2]),([0,1,1,1,1],[4,6,3,0,5,2]),(zq4,[35,0,5,3,6,2]),(z159,[3,6,2,0]),(z105,[3,6,2,0]),(z100,[2,0]),(zwy,[2,0])]
def z1br (N:Nat):Env:=z1m tys glob [(11,z2w N),(30,z1j N),(78,z5p N),(79,z9d N)] [] [] [0] false [] []
theorem z1ov (N:Nat):EnvOk Tryd.prog (z1br N):=zi mixed zr (FnsOk.cons (z3e N) (FnsOk.cons (z1v N) (FnsOk.cons (zak N) (FnsOk.cons (zfv N) (FnsOk.nil))))) (ItsOk.nil)
def z1s (N:Nat):PnT:=pnT [(78,41,z6m N),(18,41,zq N)]
theorem z44 (N:Nat):PnOk Tryd.prog glob (z1s N):=PnOk.cons (zdm N) (PnOk.cons (zz N) (PnOk.nil))
def z7f (N:Nat)(p:DT4)(x2:(List Int))(first:(List Int))(class_:Bool)(k0:DT4->Bool->Option (Int×(Int×Unit))):Option (Int×(Int×Unit)) :=
 cond class_
 (k0 p true)
 ((z15 N p (45:Int)).bind fun y =>
 k0 y.2.1 (!y.1))
def z1lj (N:Nat)(x:z16 SQ4)(K:ExP->List A->Option (Int×(Int×Unit))):Option (Int×(Int×Unit)) :=
 z7f N x.1 x.2.1 x.2.2.1 x.2.2.2.1 (fun a0 a3=>(K .normal (mkS SQ74 28 (a0,x.2.1,x.2.2.1,a3,()))))
def z1ia (N:Nat):HdP (Int×(Int×Unit)):=fun st K=>(unS SQ4 41 (restr [4,0,3,2] 0 st)).bind fun x=>z1lj N x K
def t2_73 (N:Nat):zb0 (Int×(Int×Unit)):=[]
theorem z1eg {N:Nat}{c:Ctx}(hb:Base Tryd.prog (z1br N) c)(hP:PnOk Tryd.prog glob (z1s N)):z1x Tryd.prog c (zh zfa [0,0,1,1]) (z1ia N) :=
 z21 (s:=SQ4) (m:=41) (g:=z1lj N) [4,0,3,2] (z1n hb hP N (t2_73 N) z1ch zfa TabOkP.nil [0,0,1,1] _ rfl) (fun x K=>by kernel_rfl)
def z7g (N:Nat)(p:DT4)(x2:(List Int))(first:(List Int))(class_:Bool)(k0:DT4->Option (Int×(Int×Unit)))(k1:DT4->Option (Int×(Int×Unit))):Option (Int×(Int×Unit)) :=
 z7f N p x2 first class_
 (fun p1 x17=>cond x17
 (k0 p1)
 (k1 p1))
def z1mg (N:Nat)(x:z16 SQ4)(K:ExP->List A->Option (Int×(Int×Unit))):Option (Int×(Int×Unit)) :=
 z7g N x.1 x.2.1 x.2.2.1 x.2.2.2.1 (fun a0=>(K .ret (mkS [(0,.box (.pair .str TT1)),(1,.box (.arr 4 (.int .u64)))] 43 (a0,x.2.2.1,())))) (fun a0=>(K .normal (mkS SQ95 42 (a0,x.2.1,x.2.2.1,()))))
def z1j7 (N:Nat):HdP (Int×(Int×Unit)):=fun st K=>(unS SQ4 41 (restr [4,0,3,2] 0 st)).bind fun x=>z1mg N x K
def t1_73 (N:Nat):zb0 (Int×(Int×Unit)):=[([0,0,1,1],z1ia N)]
theorem z1fd {N:Nat}{c:Ctx}(hb:Base Tryd.prog (z1br N) c)(hP:PnOk Tryd.prog glob (z1s N)):z1x Tryd.prog c (zh zfa [0,1,1]) (z1j7 N) :=
 z21 (s:=SQ4) (m:=41) (g:=z1mg N) [4,0,3,2] (z1n hb hP N (t1_73 N) z1ch zfa (TabOkP.cons (z1eg hb hP) TabOkP.nil) [0,1,1] _ rfl) (fun x K=>by kernel_rfl)
def z7d (N:Nat)(p:DT4)(x2:(List Int))(first:(List Int))(class_:Bool)(from_:Int)(last:(List Int))(k0:Bool->Option (Int×(Int×Unit))):Option (Int×(Int×Unit)) :=
 cond class_
 (k0 true)
 ((z2x N last).bind fun y =>
 (z2x N first).bind fun y1 =>
 k0 (decide (y<y1)))
def z1kr (N:Nat)(x:z16 SQ2)(K:ExP->List A->Option (Int×(Int×Unit))):Option (Int×(Int×Unit)) :=
 z7d N x.1 x.2.1 x.2.2.1 x.2.2.2.1 x.2.2.2.2.1 x.2.2.2.2.2.1 (fun a5=>(K .normal (mkS SQ39 10 (x.1,x.2.1,x.2.2.1,x.2.2.2.2.1,x.2.2.2.2.2.1,a5,()))))
def z1hi (N:Nat):HdP (Int×(Int×Unit)):=fun st K=>(unS SQ2 39 (restr [4,6,3,0,5,2] 0 st)).bind fun x=>z1kr N x K
def t4_73 (N:Nat):zb0 (Int×(Int×Unit)):=[]
theorem z1do {N:Nat}{c:Ctx}(hb:Base Tryd.prog (z1br N) c)(hP:PnOk Tryd.prog glob (z1s N)):z1x Tryd.prog c (zh zfa zq4) (z1hi N) :=
 z21 (s:=SQ2) (m:=39) (g:=z1kr N) [4,6,3,0,5,2] (z1n hb hP N (t4_73 N) z1ch zfa TabOkP.nil zq4 _ rfl) (fun x K=>by kernel_rfl)
def z7e (N:Nat)(p:DT4)(x2:(List Int))(first:(List Int))(class_:Bool)(from_:Int)(last:(List Int))(k0:(Int×(Int×Unit))->Option (Int×(Int×Unit)))(k1:Option (Int×(Int×Unit))):Option (Int×(Int×Unit)) :=
 z7d N p x2 first class_ from_ last
 (fun x35=>cond x35
 (k0 ((2:Int),(from_,())))
 (k1))
def z1l2 (N:Nat)(x:z16 SQ2)(K:ExP->List A->Option (Int×(Int×Unit))):Option (Int×(Int×Unit)) :=
 z7e N x.1 x.2.1 x.2.2.1 x.2.2.2.1 x.2.2.2.2.1 x.2.2.2.2.2.1 (fun a0=>(K (.pan 41) (mkS [(0,.v TT1)] 0 (a0,())))) (K .normal (mkS SQ62 39 (x.1,x.2.1,x.2.2.1,x.2.2.2.2.2.1,())))
def z1ht (N:Nat):HdP (Int×(Int×Unit)):=fun st K=>(unS SQ2 39 (restr [4,6,3,0,5,2] 0 st)).bind fun x=>z1l2 N x K
def t3_73 (N:Nat):zb0 (Int×(Int×Unit)):=[(zq4,z1hi N)]
theorem z1dz {N:Nat}{c:Ctx}(hb:Base Tryd.prog (z1br N) c)(hP:PnOk Tryd.prog glob (z1s N)):z1x Tryd.prog c (zh zfa [0,1,1,1,1,1]) (z1ht N) :=
 z21 (s:=SQ2) (m:=39) (g:=z1l2 N) [4,6,3,0,5,2] (z1n hb hP N (t3_73 N) z1ch zfa (TabOkP.cons (z1do hb hP) TabOkP.nil) [0,1,1,1,1,1] _ rfl) (fun x K=>by kernel_rfl)
def z40 (N:Nat)(p:DT4):Option (Int×(Int×Unit)) :=
 orP ((z3z N p)) (fun z=>some z)
 ((z3g N p).bind fun y =>
 z7g N y.2.1 ([(0:Int),(0:Int),(0:Int),(0:Int)]:List Int) y.1.1 y.1.2.1
 (fun p1=>none)
 (fun p2=>orP ((z3z N p2)) (fun z1=>some z1)
 ((z3g N p2).bind fun y1 =>
 z7e N y1.2.1 ([(0:Int),(0:Int),(0:Int),(0:Int)]:List Int) y.1.1 y1.1.2.1 p2.2.1 y1.1.1
 (fun p3=>some p3)
 ((z2x N y.1.1).bind fun y2 =>
 (z2x N y1.1.1).bind fun y3 =>
 (z22 N (IntKind.wrap IntKind.u8 y2) (IntKind.wrap IntKind.u8 y3)).bind fun y4 =>
 none))))
def t_73 (N:Nat):zb0 (Int×(Int×Unit)):=[([0,1,1],z1j7 N),([0,1,1,1,1,1],z1ht N)]
theorem z18k (N:Nat)(x:z16 SQ0):zgn (z1br N) (z1s N) N (t_73 N) z1ch Tryd.f70 41 TT1 (mkS SQ0 0 x) (fun z=>some z)=z40 N x.1:=by kernel_rfl
def z6r (N:Nat):List A->PnRes:=zgm SQ0 (fun x=>z40 N x.1) (fun z=>⟨TT1,z⟩)
theorem zdn (N:Nat):ContractP Tryd.prog glob 70 41 (z6r N) :=
 ContractP.of (E:=z1br N) (Pn:=z1s N) (H:=t_73 N) (L:=z1ch) (N:=N) (body:=zfa) (t:=TT1) (z1ov N) (z44 N) Tryd.func70 (by kernel_rfl) (by decide) (fun _ hb=>(TabOkP.cons (z1fd hb (z44 N)) (TabOkP.cons (z1dz hb (z44 N)) TabOkP.nil))) (fun x y h=>by rw[z18k];exact h)
def zw1:Code:=(Tryd.f64.body).getD .skip
def L_74:List (List Nat×List Nat):=[([0],[0,2]),([0,1],[0,2]),([0,1,1],[0,3,2]),([0,1,1,1],[0,4,3,2]),([0,0,1,1,1,1],[0,4,3,2]),(z13l,[13,4,0,3,2]),(z13k,[4,0,3,2]),(z13m,[3,4,2,0]),([0,1,0,0,0,1,1,1,1],[0,4,3,2]),(z13i,[0,4,3,2]),([0,1,1,1,1],[3,4,2,0]),(zq4,[18,4,2,0]),(z159,[4,2,0]),([0,0,1,0,1,1,1,1,1],[2,0]),([1,0,1,0,1,1,1,1,1],[2,0]),(z100,[2,0]),(zwy,[2,0])]
def E_74 (N:Nat):Env:=z1m tys glob [(30,z1j N),(68,z1k N),(70,z5q N),(71,zde N),(72,zc9 N)] [] [] [0] false [] []
theorem z1ou (N:Nat):EnvOk Tryd.prog (E_74 N):=zi mixed zr (FnsOk.cons (z1v N) (FnsOk.cons (z1w N) (FnsOk.cons (zar N) (FnsOk.cons (zkq N) (FnsOk.cons (ziw N) (FnsOk.nil)))))) (ItsOk.nil)
def z2l (N:Nat):PnT:=pnT [(70,41,z6r N),(68,41,z27 N)]
theorem z51 (N:Nat):PnOk Tryd.prog glob (z2l N):=PnOk.cons (zdn N) (PnOk.cons (z33 N) (PnOk.nil))
def z5g (N:Nat)(x2:(List Int))(not_:Bool)(p:DT4)(set_:(List Int))(rec:DT4->(List Int)->Option (Int×(Int×Unit)))(k0:(Int×(Int×Unit))->Option (Int×(Int×Unit)))(k1:DT4->(List Int)->Option (Int×(Int×Unit))):Option (Int×(Int×Unit)) :=
 (z15 N p (93:Int)).bind fun y =>
 cond (!y.1)
 (orP ((z40 N y.2.1)) (fun z=>k0 z)
 ((z3h N y.2.1).bind fun y1 =>
 (zi0 N set_ y1.1).bind fun y2 =>
 rec y1.2.1 y2))
 (k1 y.2.1 set_)
def zb2 (N:Nat)(p:DT4)(x2:(List Int))(not_:Bool)(set_:(List Int))(k0:(Int×(Int×Unit))->Option (Int×(Int×Unit)))(k1:DT4->(List Int)->Option (Int×(Int×Unit))):Option (Int×(Int×Unit)) :=
 iter (fun (v:(DT4×(List Int))) r=>z5g N x2 not_ v.1 v.2 (fun p set_=>(r (p,set_))) k0 k1) N (p,set_)
def z1mf (N:Nat)(i:((List Int)×Bool))(v:(DT4×(List Int)))(r:(DT4×(List Int))->Option (Int×(Int×Unit)))(K:ExP->List A->Option (Int×(Int×Unit))):Option (Int×(Int×Unit)) :=
 z5g N i.1 i.2 v.1 v.2 (fun p set_=>(r (p,set_))) (fun a0=>(K (.pan 41) (mkS [(0,.v TT1)] 0 (a0,())))) (fun a0 a3=>(K (.exit 0) (mkS z1ca 17 (a0,i.1,i.2,a3,()))))
def z1j6 (N:Nat):HdP (Int×(Int×Unit)):=fun st K=>(unS z1ca 17 (restr [0,4,3,2] 0 st)).bind fun x=>iter (fun v r=>z1mf N ((fun x=>(x.2.1,x.2.2.1)) x) v r K) N ((fun x=>(x.1,x.2.2.2.1)) x)
def t1_74 (N:Nat):zb0 (Int×(Int×Unit)):=[]
theorem z1fc {N:Nat}{c:Ctx}(hb:Base Tryd.prog (E_74 N) c)(hP:PnOk Tryd.prog glob (z2l N)):z1x Tryd.prog c (zh zw1 [0,0,1,1,1,1]) (z1j6 N) :=
 znd (s:=z1ca) (m:=17) (z1mf N) [0,4,3,2] N (fun x=>(x.2.1,x.2.2.1)) (fun x=>(x.1,x.2.2.2.1)) (fun i v=>(v.1,i.1,i.2,v.2,())) (fun _=>rfl) (z1n hb hP N (t1_74 N) L_74 zw1 TabOkP.nil [0,0,0,1,1,1,1] _ rfl) (fun i v r K=>by kernel_rfl)
def z46 (N:Nat)(p:DT4):Option (Int×(Int×Unit)) :=
 orP ((z20 N p (91:Int))) (fun z=>some z)
 ((z1h N p (91:Int)).bind fun y =>
 (z15 N y.2.1 (94:Int)).bind fun y1 =>
 orP ((z40 N y1.2.1)) (fun z1=>some z1)
 ((z3h N y1.2.1).bind fun y2 =>
 zb2 N y2.2.1 ([(0:Int),(0:Int),(0:Int),(0:Int)]:List Int) y1.1 y2.1
 (fun p1=>some p1)
 (fun p2 set_=>cond y1.1
 ((zf8 N set_).bind fun y3 =>
 none)
 (none))))
def t_74 (N:Nat):zb0 (Int×(Int×Unit)):=[([0,0,1,1,1,1],z1j6 N)]
theorem z18j (N:Nat)(x:z16 SQ0):zgn (E_74 N) (z2l N) N (t_74 N) L_74 Tryd.f64 41 TT1 (mkS SQ0 0 x) (fun z=>some z)=z46 N x.1:=by kernel_rfl
def z50 (N:Nat):List A->PnRes:=zgm SQ0 (fun x=>z46 N x.1) (fun z=>⟨TT1,z⟩)
theorem zb3 (N:Nat):ContractP Tryd.prog glob 64 41 (z50 N) :=
 ContractP.of (E:=E_74 N) (Pn:=z2l N) (H:=t_74 N) (L:=L_74) (N:=N) (body:=zw1) (t:=TT1) (z1ou N) (z51 N) Tryd.func64 (by kernel_rfl) (by decide) (fun _ hb=>(TabOkP.cons (z1fc hb (z51 N)) TabOkP.nil)) (fun x y h=>by rw[z18j];exact h)
def zp5:Code:=(Tryd.f59.body).getD .skip
def L_75:List (List Nat×List Nat):=[([0],[0]),([0,1],[0,4]),([0,1,1],[2,0,4]),([0,1,1,1],[0,2,3,4]),([0,0,1,1,1,1],[13,0,2,3,4]),([1,0,1,1,1,1],[3,2,0,4]),([0,0,0,1,0,1,1,1,1],[15,2,0]),([1,0,0,1,0,1,1,1,1],[0,2]),([0,0,1,0,0,1,0,1,1,1,1],[2,3,0]),(z15b,[2,3,0]),([0,1,0,1,0,1,1,1,1],[0,2,4]),([1,1,0,1,0,1,1,1,1],[3,2,0,4]),(zq4,[26,0,4,2,3]),(z159,[0,2,3]),(z105,[0,2,3]),(z100,[2,3,0]),(z10i,[2,3,0]),(z16d,[2,3,0])]
def z1qo (N:Nat):Env:=z1m tys glob [(30,z1j N),(67,z6h N),(68,z1k N)] [] [] [0] false [] []
theorem z1ot (N:Nat):EnvOk Tryd.prog (z1qo N):=zi mixed zr (FnsOk.cons (z1v N) (FnsOk.cons (zbr N) (FnsOk.cons (z1w N) (FnsOk.nil)))) (ItsOk.nil)
def z28 (N:Nat):PnT:=pnT [(67,41,z7a N),(68,41,z27 N),(18,41,zq N)]
theorem z3m (N:Nat):PnOk Tryd.prog glob (z28 N):=PnOk.cons (zem N) (PnOk.cons (z33 N) (PnOk.cons (zz N) (PnOk.nil)))
def z6f (N:Nat)(p:DT4)(low:Int)(high:Int)(from_:Int)(k0:DT4->Int->Option (Int×(Int×Unit)))(k1:(Int×(Int×Unit))->Option (Int×(Int×Unit)))(k2:DT4->Int->Int->Option (Int×(Int×Unit))):Option (Int×(Int×Unit)) :=
 (z15 N p (44:Int)).bind fun y =>
 cond y.1
 ((z15 N y.2.1 (125:Int)).bind fun y1 =>
 cond y1.1
 (k0 y1.2.1 (-(1:Int)))
 (orP ((z4c N y1.2.1)) (fun z=>k1 z)
 ((z3u N y1.2.1).bind fun y2 =>
 k2 y2.2.1 y2.1 y1.2.1.2.1)))
 (k2 y.2.1 high from_)
def z1me (N:Nat)(x:z16 SQ5)(K:ExP->List A->Option (Int×(Int×Unit))):Option (Int×(Int×Unit)) :=
 z6f N x.1 x.2.1 x.2.2.1 x.2.2.2.1 (fun a0 a2=>(K .ret (mkS SQ54 30 (a0,x.2.1,a2,())))) (fun a0=>(K (.pan 41) (mkS [(0,.v TT1)] 0 (a0,())))) (fun a0 a2 a3=>(K .normal (mkS SQ5 29 (a0,x.2.1,a2,a3,()))))
def z1j5 (N:Nat):HdP (Int×(Int×Unit)):=fun st K=>(unS SQ5 29 (restr [0,2,3,4] 0 st)).bind fun x=>z1me N x K
def t1_75 (N:Nat):zb0 (Int×(Int×Unit)):=[]
theorem z1fb {N:Nat}{c:Ctx}(hb:Base Tryd.prog (z1qo N) c)(hP:PnOk Tryd.prog glob (z28 N)):z1x Tryd.prog c (zh zp5 [0,1,1,1,1]) (z1j5 N) :=
 z21 (s:=SQ5) (m:=29) (g:=z1me N) [0,2,3,4] (z1n hb hP N (t1_75 N) L_75 zp5 TabOkP.nil [0,1,1,1,1] _ rfl) (fun x K=>by kernel_rfl)
def z6e (N:Nat)(p:DT4)(low:Int)(high:Int)(from_:Int)(k0:(Int×(Int×Unit))->Option (Int×(Int×Unit)))(k1:Option (Int×(Int×Unit))):Option (Int×(Int×Unit)) :=
 cond (decide (high<(if ((1:Int) > low) then (1:Int) else low)))
 (k0 ((2:Int),(from_,())))
 (k1)
def z1li (N:Nat)(x:z16 SQ5)(K:ExP->List A->Option (Int×(Int×Unit))):Option (Int×(Int×Unit)) :=
 z6e N x.1 x.2.1 x.2.2.1 x.2.2.2.1 (fun a0=>(K (.pan 41) (mkS [(0,.v TT1)] 0 (a0,())))) (K .normal (mkS SQ54 30 (x.1,x.2.1,x.2.2.1,())))
def z1i9 (N:Nat):HdP (Int×(Int×Unit)):=fun st K=>(unS SQ5 29 (restr [3,2,0,4] 0 st)).bind fun x=>z1li N x K
def t2_75 (N:Nat):zb0 (Int×(Int×Unit)):=[]
theorem z1ef {N:Nat}{c:Ctx}(hb:Base Tryd.prog (z1qo N) c)(hP:PnOk Tryd.prog glob (z28 N)):z1x Tryd.prog c (zh zp5 [0,1,1,1,1,1]) (z1i9 N) :=
 z21 (s:=SQ5) (m:=29) (g:=z1li N) [3,2,0,4] (z1n hb hP N (t2_75 N) L_75 zp5 TabOkP.nil [0,1,1,1,1,1] _ rfl) (fun x K=>by kernel_rfl)
def z4r (N:Nat)(p:DT4):Option (Int×(Int×Unit)) :=
 orP ((z4c N p)) (fun z=>some z)
 ((z3u N p).bind fun y =>
 z6f N y.2.1 y.1 y.1 p.2.1
 (fun p1 high=>none)
 (fun p2=>some p2)
 (fun p3 high1 from_=>z6e N p3 y.1 high1 from_
 (fun p4=>some p4)
 (orP ((z20 N p3 (125:Int))) (fun z1=>some z1)
 ((z1h N p3 (125:Int)).bind fun y1 =>
 none))))
def t_75 (N:Nat):zb0 (Int×(Int×Unit)):=[([0,1,1,1,1],z1j5 N),([0,1,1,1,1,1],z1i9 N)]
theorem z18i (N:Nat)(x:z16 SQ0):zgn (z1qo N) (z28 N) N (t_75 N) L_75 Tryd.f59 41 TT1 (mkS SQ0 0 x) (fun z=>some z)=z4r N x.1:=by kernel_rfl
def z5s (N:Nat):List A->PnRes:=zgm SQ0 (fun x=>z4r N x.1) (fun z=>⟨TT1,z⟩)
theorem zcl (N:Nat):ContractP Tryd.prog glob 59 41 (z5s N) :=
 ContractP.of (E:=z1qo N) (Pn:=z28 N) (H:=t_75 N) (L:=L_75) (N:=N) (body:=zp5) (t:=TT1) (z1ot N) (z3m N) Tryd.func59 (by kernel_rfl) (by decide) (fun _ hb=>(TabOkP.cons (z1fb hb (z3m N)) (TabOkP.cons (z1ef hb (z3m N)) TabOkP.nil))) (fun x y h=>by rw[z18i];exact h)
abbrev z6:Type:=DT4->Option (Int×(Int×Unit))
def zw0:Code:=(Tryd.f62.body).getD .skip
def L_76:List (List Nat×List Nat):=[([0],[0,2]),([0,0,1],[8,0,2]),([1,0,1],[0,2]),([0,1,0,1],[0,2]),([0,1,1],[0,2]),([0,1,1,1],[0,2]),([0,1,1,1,1],[0,3,2]),([0,1,1,1,1,1],[0,3,2]),(z100,[3,2,0]),(z10i,[2,0]),(z16d,[2,0])]
def E_76 (N:Nat)(self:z6):Env:=z1m tys glob [(17,zau N),(68,z1k N)] [] [] [0] false [] []
theorem z1os (N:Nat)(self:z6):EnvOk Tryd.prog (E_76 N self):=zi mixed zr (FnsOk.cons (z2d N) (FnsOk.cons (z1w N) (FnsOk.nil))) (ItsOk.nil)
def z34 (N:Nat)(self:z6):PnT:=pnT [(68,41,z27 N),(18,41,zq N),(17,41,zgm SQ0 (fun x=>self x.1) (fun z=>⟨TT1,z⟩))]
theorem z6b (N:Nat)(self:z6)(hself:ContractP Tryd.prog glob 17 41 (zgm SQ0 (fun x=>self x.1) (fun z=>⟨TT1,z⟩))):PnOk Tryd.prog glob (z34 N self):=PnOk.cons (z33 N) (PnOk.cons (zz N) (PnOk.cons (hself) (PnOk.nil)))
def z6s (N:Nat)(self:z6)(p:DT4)(x2:DT5)(k0:(Int×(Int×Unit))->Option (Int×(Int×Unit)))(k1:Option (Int×(Int×Unit))):Option (Int×(Int×Unit)) :=
 cond (p.2.2.1 == (16:Int))
 (k0 ((3:Int),(p.2.1,())))
 (k1)
def z1md (N:Nat)(self:z6)(x:z16 z169)(K:ExP->List A->Option (Int×(Int×Unit))):Option (Int×(Int×Unit)) :=
 z6s N self x.1 x.2.1 (fun a0=>(K (.pan 41) (mkS [(0,.v TT1)] 0 (a0,())))) (K .normal (mkS z169 33 (x.1,x.2.1,())))
def z1j4 (N:Nat)(self:z6):HdP (Int×(Int×Unit)):=fun st K=>(unS z169 33 (restr [0,2] 0 st)).bind fun x=>z1md N self x K
def t1_76 (N:Nat)(self:z6):zb0 (Int×(Int×Unit)):=[]
theorem z1fa {N:Nat}{self:z6}{c:Ctx}(hb:Base Tryd.prog (E_76 N self) c)(hP:PnOk Tryd.prog glob (z34 N self)):z1x Tryd.prog c (zh zw0 [0,1]) (z1j4 N self) :=
 z21 (s:=z169) (m:=33) (g:=z1md N self) [0,2] (z1n hb hP N (t1_76 N self) L_76 zw0 TabOkP.nil [0,1] _ rfl) (fun x K=>by kernel_rfl)
def z5a (N:Nat)(self:z6)(p:DT4):Option (Int×(Int×Unit)) :=
 z6s N self p ((0:Int),(([(0:Int),(0:Int),(0:Int),(0:Int)]:List Int),(([]:List Tree),((0:Int),((0:Int),())))))
 (fun p1=>some p1)
 (orP ((z20 N (p.1,(p.2.1,((IntKind.wrap IntKind.i64 (p.2.2.1+(1:Int))),p.2.2.2))) (40:Int))) (fun z=>some z)
 ((z1h N (p.1,(p.2.1,((IntKind.wrap IntKind.i64 (p.2.2.1+(1:Int))),p.2.2.2))) (40:Int)).bind fun y =>
 orP ((self y.2.1)) (fun z1=>some z1)
 ((zo N y.2.1).bind fun y1 =>
 orP ((z20 N y1.2.1 (41:Int))) (fun z2=>some z2)
 ((z1h N y1.2.1 (41:Int)).bind fun y2 =>
 none))))
def t_76 (N:Nat)(self:z6):zb0 (Int×(Int×Unit)):=[([0,1],z1j4 N self)]
theorem z18h (N:Nat)(self:z6)(x:z16 SQ0):zgn (E_76 N self) (z34 N self) N (t_76 N self) L_76 Tryd.f62 41 TT1 (mkS SQ0 0 x) (fun z=>some z)=z5a N self x.1:=by kernel_rfl
def z6a (N:Nat)(self:z6):List A->PnRes:=zgm SQ0 (fun x=>z5a N self x.1) (fun z=>⟨TT1,z⟩)
theorem zda (N:Nat)(self:z6)(hself:ContractP Tryd.prog glob 17 41 (zgm SQ0 (fun x=>self x.1) (fun z=>⟨TT1,z⟩))):ContractP Tryd.prog glob 62 41 (z6a N self) :=
 ContractP.of (E:=E_76 N self) (Pn:=z34 N self) (H:=t_76 N self) (L:=L_76) (N:=N) (body:=zw0) (t:=TT1) (z1os N self) (z6b N self hself) Tryd.func62 (by kernel_rfl) (by decide) (fun _ hb=>(TabOkP.cons (z1fa hb (z6b N self hself)) TabOkP.nil)) (fun x y h=>by rw[z18h];exact h)
def zvz:Code:=(Tryd.f58.body).getD .skip
def L_77:List (List Nat×List Nat):=[([0],[0,2]),([0,1],[3,0,2]),([0,1,1],[15,0,2,3]),([0,0,1,1,1],[36,0,2,15,3]),([1,0,1,1,1],[2,0]),([0,1,1,0,1,1,1],[40,0,2,15,3]),([1,1,1,0,1,1,1],[2,0]),([0,1,1,1,1,0,1,1,1],[51,0,2,15,3]),([1,1,1,1,1,0,1,1,1],[2,0]),([0,1,1,1,1,1,1,0,1,1,1],[56,0,2,3]),([1,1,1,1,1,1,1,0,1,1,1],[2,0]),([0,0,1,1,1,1,1,1,1,1,0,1,1,1],[18,0,3,2]),([1,0,1,1,1,1,1,1,1,1,0,1,1,1],[0,3,2]),([0,1,0,1,1,1,1,1,1,1,1,0,1,1,1],[0,3,2]),([0,1,1,1,1,1,1,1,1,1,0,1,1,1],[3,2,0]),([0,1,1,1,1,1,1,1,1,1,1,0,1,1,1],[2,0]),([1,1,1,1,1,1,1,1,1,1,1,0,1,1,1],[2,0]),([0,0,1,1,1,1,1,1,1,0,1,1,1],[4,2,0]),([0,1,0,1,1,1,1,1,1,1,0,1,1,1],[2,0]),([1,1,0,1,1,1,1,1,1,1,0,1,1,1],[2,0]),([0,0,1,1,1,1,1,0,1,1,1],[2,0]),([1,0,1,1,1,1,1,0,1,1,1],[2,0]),([0,0,1,1,1,0,1,1,1],[2,0]),([0,1,0,1,1,1,0,1,1,1],[2,0]),([1,1,0,1,1,1,0,1,1,1],[2,0]),(zwv,[2,0]),(zue,[2,0]),([1,1,1],[2,0])]
def E_77 (N:Nat)(self:z6):Env:=z1m tys glob [(11,z2w N),(62,z59 N (zo N)),(63,zes N),(64,z45 N),(65,z2k N),(66,z2y N)] [] [] [0] false [] []
theorem z1or (N:Nat)(self:z6):EnvOk Tryd.prog (E_77 N self):=zi mixed zr (FnsOk.cons (z3e N) (FnsOk.cons (z9w N (zo N) (z2d N)) (FnsOk.cons (zm8 N) (FnsOk.cons (z7m N) (FnsOk.cons (z3q N) (FnsOk.cons (z4b N) (FnsOk.nil))))))) (ItsOk.nil)
def z3c (N:Nat)(self:z6):PnT:=pnT [(62,41,z6a N self),(64,41,z50 N),(65,41,z3l N),(18,41,zq N),(17,41,zgm SQ0 (fun x=>self x.1) (fun z=>⟨TT1,z⟩))]
theorem z6u (N:Nat)(self:z6)(hself:ContractP Tryd.prog glob 17 41 (zgm SQ0 (fun x=>self x.1) (fun z=>⟨TT1,z⟩))):PnOk Tryd.prog glob (z3c N self):=PnOk.cons (zda N self hself) (PnOk.cons (zb3 N) (PnOk.cons (z6d N) (PnOk.cons (zz N) (PnOk.cons (hself) (PnOk.nil)))))
def z7n (N:Nat)(self:z6)(p:DT4)(x2:DT5)(b:Int)(k0:(Int×(Int×Unit))->Option (Int×(Int×Unit)))(k1:Option (Int×(Int×Unit))):Option (Int×(Int×Unit)) :=
 cond (decide ((0:Int)<=(Go.Lib.indexByte ([(92:UInt8),(46:UInt8),(91:UInt8),(93:UInt8),(40:UInt8),(41:UInt8),(123:UInt8),(125:UInt8),(124:UInt8),(42:UInt8),(43:UInt8),(63:UInt8)]:List UInt8) (Nat.toUInt8 (Int.toNat b)))))
 (k0 ((2:Int),(p.2.1,())))
 (k1)
def z1mc (N:Nat)(self:z6)(x:z16 z16b)(K:ExP->List A->Option (Int×(Int×Unit))):Option (Int×(Int×Unit)) :=
 z7n N self x.1 x.2.1 x.2.2.1 (fun a0=>(K (.pan 41) (mkS [(0,.v TT1)] 0 (a0,())))) (K .normal (mkS z16b 61 (x.1,x.2.1,x.2.2.1,())))
def z1j3 (N:Nat)(self:z6):HdP (Int×(Int×Unit)):=fun st K=>(unS z16b 61 (restr [3,0,2] 0 st)).bind fun x=>z1mc N self x K
def t1_77 (N:Nat)(self:z6):zb0 (Int×(Int×Unit)):=[]
theorem z1f9 {N:Nat}{self:z6}{c:Ctx}(hb:Base Tryd.prog (E_77 N self) c)(hP:PnOk Tryd.prog glob (z3c N self)):z1x Tryd.prog c (zh zvz z1ce) (z1j3 N self) :=
 z21 (s:=z16b) (m:=61) (g:=z1mc N self) [3,0,2] (z1n hb hP N (t1_77 N self) L_77 zvz TabOkP.nil z1ce _ rfl) (fun x K=>by kernel_rfl)
def z5u (N:Nat)(self:z6)(p:DT4):Option (Int×(Int×Unit)) :=
 cond (inR p.2.1 (List.length p.1))
 (cond ((((UInt8.toNat (List.getD p.1 (Int.toNat p.2.1) (0:UInt8))):Nat):Int) == (40:Int))
 (orP ((z5a N self p)) (fun z=>some z)
 ((z5f N (zo N) p).bind fun y =>
 none))
 (cond ((((UInt8.toNat (List.getD p.1 (Int.toNat p.2.1) (0:UInt8))):Nat):Int) == (46:Int))
 ((z22 N (0:Int) (255:Int)).bind fun y1 =>
 none)
 (cond ((((UInt8.toNat (List.getD p.1 (Int.toNat p.2.1) (0:UInt8))):Nat):Int) == (91:Int))
 (orP ((z46 N p)) (fun z1=>some z1)
 ((z41 N p).bind fun y2 =>
 none))
 (cond ((((UInt8.toNat (List.getD p.1 (Int.toNat p.2.1) (0:UInt8))):Nat):Int) == (92:Int))
 (orP ((z3b N p)) (fun z2=>some z2)
 ((z2r N p).bind fun y3 =>
 none))
 (z7n N self p ((0:Int),(([(0:Int),(0:Int),(0:Int),(0:Int)]:List Int),(([]:List Tree),((0:Int),((0:Int),()))))) (((UInt8.toNat (List.getD p.1 (Int.toNat p.2.1) (0:UInt8))):Nat):Int)
 (fun p1=>some p1)
 ((z22 N (((UInt8.toNat (List.getD p.1 (Int.toNat p.2.1) (0:UInt8))):Nat):Int) (((UInt8.toNat (List.getD p.1 (Int.toNat p.2.1) (0:UInt8))):Nat):Int)).bind fun y4 =>
 none))))))
 (none)
def t_77 (N:Nat)(self:z6):zb0 (Int×(Int×Unit)):=[(z1ce,z1j3 N self)]
theorem z18g (N:Nat)(self:z6)(x:z16 SQ0):zgn (E_77 N self) (z3c N self) N (t_77 N self) L_77 Tryd.f58 41 TT1 (mkS SQ0 0 x) (fun z=>some z)=z5u N self x.1:=by kernel_rfl
def z6t (N:Nat)(self:z6):List A->PnRes:=zgm SQ0 (fun x=>z5u N self x.1) (fun z=>⟨TT1,z⟩)
theorem zdp (N:Nat)(self:z6)(hself:ContractP Tryd.prog glob 17 41 (zgm SQ0 (fun x=>self x.1) (fun z=>⟨TT1,z⟩))):ContractP Tryd.prog glob 58 41 (z6t N self) :=
 ContractP.of (E:=E_77 N self) (Pn:=z3c N self) (H:=t_77 N self) (L:=L_77) (N:=N) (body:=zvz) (t:=TT1) (z1or N self) (z6u N self hself) Tryd.func58 (by kernel_rfl) (by decide) (fun _ hb=>(TabOkP.cons (z1f9 hb (z6u N self hself)) TabOkP.nil)) (fun x y h=>by rw[z18g];exact h)
def zvy:Code:=(Tryd.f47.body).getD .skip
def L_78:List (List Nat×List Nat):=[([0],[0,2]),([0,1],[0,3,2]),([0,0,1,1],[16,3,2,0]),([1,0,1,1],[3,0,2]),([0,0,1,0,1,1],[2,0]),([1,0,1,0,1,1],[2,0]),([0,1,1,1],[0,4,2,3]),([0,0,1,1,1,1],[29,4,0,2,3]),([0,0,0,0,0,0,0,0,0,0,0,0,0,0,1,0,1,1,1,1],[30,4,0,2,29,3]),([1,0,0,0,0,0,0,0,0,0,0,0,0,0,1,0,1,1,1,1],[29,0,4,2,3]),([0,1,0,0,0,0,0,0,0,0,0,0,0,0,0,1,0,1,1,1,1],[4,0,2]),([0,0,1,0,0,0,0,0,0,0,0,0,0,0,0,1,0,1,1,1,1],[32,0,4,2,29,3]),([1,0,1,0,0,0,0,0,0,0,0,0,0,0,0,1,0,1,1,1,1],[29,0,4,2,3]),([0,1,0,1,0,0,0,0,0,0,0,0,0,0,0,0,1,0,1,1,1,1],[0,4,2]),([0,0,1,1,0,0,0,0,0,0,0,0,0,0,0,0,1,0,1,1,1,1],[34,0,4,2,29,3]),([1,0,1,1,0,0,0,0,0,0,0,0,0,0,0,0,1,0,1,1,1,1],[29,0,4,2,3]),([0,1,0,1,1,0,0,0,0,0,0,0,0,0,0,0,0,1,0,1,1,1,1],[0,4,2]),([0,1,1,1,0,0,0,0,0,0,0,0,0,0,0,0,1,0,1,1,1,1],[36,0,4,2,3]),([1,1,1,1,0,0,0,0,0,0,0,0,0,0,0,0,1,0,1,1,1,1],[3,2,0]),([0,1,1,1,1,0,0,0,0,0,0,0,0,0,0,0,0,1,0,1,1,1,1],[0,4,2]),([1,0,0,0,0,0,0,0,0,0,0,0,1,0,1,1,1,1],[3,2,0]),([0,0,0,0,0,0,0,0,0,0,1,0,1,1,1,1],[4,0,2]),([1,0,0,0,0,0,0,0,0,0,1,0,1,1,1,1],[0,4,2]),(z16f,[0,4,2]),([0,1,0,0,0,0,0,0,0,1,0,1,1,1,1],[4,2,0]),([1,1,0,0,0,0,0,0,0,1,0,1,1,1,1],[4,2,0]),([0,0,0,0,0,0,1,0,1,1,1,1],[0,4,2]),([0,0,1,0,0,0,0,0,1,0,1,1,1,1],[4,2,0]),([1,0,1,0,0,0,0,0,1,0,1,1,1,1],[4,2,0]),([1,1,0,0,0,0,0,1,0,1,1,1,1],[4,2,0]),([0,0,0,0,1,0,1,1,1,1],[0,4,2]),([0,0,1,0,0,0,1,0,1,1,1,1],[0,4,2]),([1,0,1,0,0,0,1,0,1,1,1,1],[4,2,0]),([1,1,0,0,0,1,0,1,1,1,1],[4,2,0]),(z107,[3,2,0]),([0,0,1,0,1,0,1,1,1,1],[2,0]),([1,0,1,0,1,0,1,1,1,1],[2,0]),([1,1,0,1,0,1,1,1,1],[4,2,0]),([1,0,1,1,1,1],[4,2,0]),([0,1,1,1,1,1],[2,0]),([1,1,1,1,1,1],[2,0])]
def E_78 (N:Nat)(self:z6):Env:=z1m tys glob [(58,z5t N (zo N)),(59,z4q N)] [] [] [0] false [] []
theorem z1oq (N:Nat)(self:z6):EnvOk Tryd.prog (E_78 N self):=zi mixed zr (FnsOk.cons (zat N (zo N) (z2d N)) (FnsOk.cons (z8w N) (FnsOk.nil))) (ItsOk.nil)
def z31 (N:Nat)(self:z6):PnT:=pnT [(58,41,z6t N self),(59,41,z5s N),(17,41,zgm SQ0 (fun x=>self x.1) (fun z=>⟨TT1,z⟩))]
theorem z69 (N:Nat)(self:z6)(hself:ContractP Tryd.prog glob 17 41 (zgm SQ0 (fun x=>self x.1) (fun z=>⟨TT1,z⟩))):PnOk Tryd.prog glob (z31 N self):=PnOk.cons (zdp N self hself) (PnOk.cons (zcl N) (PnOk.cons (hself) (PnOk.nil)))
def z6o (N:Nat)(self:z6)(p:DT4)(x2:DT5)(kid:DT5)(rep:DT5)(x29:Int)(k0:DT5->Option (Int×(Int×Unit)))(k1:Option (Int×(Int×Unit)))(k2:Option (Int×(Int×Unit)))(k3:Option (Int×(Int×Unit))):Option (Int×(Int×Unit)) :=
 cond (x29 == (43:Int))
 (k0 (rep.1,(rep.2.1,(rep.2.2.1,((1:Int),rep.2.2.2.2)))))
 (cond (x29 == (42:Int))
 (k0 rep)
 (cond (x29 == (63:Int))
 (k1)
 (cond (x29 == (123:Int))
 (k2)
 (k3))))
def z1mb (N:Nat)(self:z6)(x:z16 z1c7)(K:ExP->List A->Option (Int×(Int×Unit))):Option (Int×(Int×Unit)) :=
 z6o N self x.1 x.2.1 x.2.2.1 x.2.2.2.1 x.2.2.2.2.1 (fun a2=>(K .normal (mkS z1c5 65 (x.1,x.2.1,a2,())))) (K (.exit 3) (mkS z1c5 65 (x.1,x.2.1,x.2.2.2.1,()))) (K (.exit 4) (mkS z1c5 65 (x.1,x.2.1,x.2.2.2.1,()))) (K (.exit 5) (mkS [(0,.box (.pair .str TT1)),(1,.box TT3),(0,.box TT3)] 66 (x.1,x.2.1,x.2.2.1,())))
def z1j2 (N:Nat)(self:z6):HdP (Int×(Int×Unit)):=fun st K=>(unS z1c7 40 (restr [29,4,0,2,3] 0 st)).bind fun x=>z1mb N self x K
def t1_78 (N:Nat)(self:z6):zb0 (Int×(Int×Unit)):=[]
theorem z1f8 {N:Nat}{self:z6}{c:Ctx}(hb:Base Tryd.prog (E_78 N self) c)(hP:PnOk Tryd.prog glob (z31 N self)):z1x Tryd.prog c (zh zvy z16f) (z1j2 N self) :=
 z21 (s:=z1c7) (m:=40) (g:=z1mb N self) [29,4,0,2,3] (z1n hb hP N (t1_78 N self) L_78 zvy TabOkP.nil z16f _ rfl) (fun x K=>by kernel_rfl)
def z58 (N:Nat)(self:z6)(p:DT4):Option (Int×(Int×Unit)) :=
 orP ((z5u N self p)) (fun z=>some z)
 ((z62 N (zo N) p).bind fun y =>
 cond (y.2.1.2.1 == (((List.length y.2.1.1):Nat):Int))
 (none)
 (cond (inR y.2.1.2.1 (List.length y.2.1.1))
 (z6o N self y.2.1 ((0:Int),(([(0:Int),(0:Int),(0:Int),(0:Int)]:List Int),(([]:List Tree),((0:Int),((0:Int),()))))) y.1 ((4:Int),(([(0:Int),(0:Int),(0:Int),(0:Int)]:List Int),((List.map foN ([y.1]:List zyp)),((0:Int),((-(1:Int)),()))))) (((UInt8.toNat (List.getD y.2.1.1 (Int.toNat y.2.1.2.1) (0:UInt8))):Nat):Int)
 (fun rep=>none)
 (none)
 (orP ((z4r N (y.2.1.1,((IntKind.wrap IntKind.i64 (y.2.1.2.1+(1:Int))),y.2.1.2.2)))) (fun z1=>some z1)
 ((z4s N (y.2.1.1,((IntKind.wrap IntKind.i64 (y.2.1.2.1+(1:Int))),y.2.1.2.2))).bind fun y1 =>
 none))
 (none))
 (none)))
def t_78 (N:Nat)(self:z6):zb0 (Int×(Int×Unit)):=[(z16f,z1j2 N self)]
theorem z18f (N:Nat)(self:z6)(x:z16 SQ0):zgn (E_78 N self) (z31 N self) N (t_78 N self) L_78 Tryd.f47 41 TT1 (mkS SQ0 0 x) (fun z=>some z)=z58 N self x.1:=by kernel_rfl
def z68 (N:Nat)(self:z6):List A->PnRes:=zgm SQ0 (fun x=>z58 N self x.1) (fun z=>⟨TT1,z⟩)
theorem zd9 (N:Nat)(self:z6)(hself:ContractP Tryd.prog glob 17 41 (zgm SQ0 (fun x=>self x.1) (fun z=>⟨TT1,z⟩))):ContractP Tryd.prog glob 47 41 (z68 N self) :=
 ContractP.of (E:=E_78 N self) (Pn:=z31 N self) (H:=t_78 N self) (L:=L_78) (N:=N) (body:=zvy) (t:=TT1) (z1oq N self) (z69 N self hself) Tryd.func47 (by kernel_rfl) (by decide) (fun _ hb=>(TabOkP.cons (z1f8 hb (z69 N self hself)) TabOkP.nil)) (fun x y h=>by rw[z18f];exact h)
def zjn:Code:=(Tryd.f29.body).getD .skip
def z1od:List (List Nat×List Nat):=[([0],[0,2]),([0,1],[0,3,2]),([0,0,1,1],[0,3,2]),(z102,[37,3,0,2]),(z101,[3,0,2]),(z106,[3,2,0]),([0,1,0,0,0,1,1],[0,3,2]),([1,0,0,0,1,1],[0,3,2]),([0,1,1],[3,2,0]),([0,1,1,1],[2,0]),([1,1,1,1],[2,0])]
def z1cn (N:Nat)(self:z6):Env:=z1m tys glob [(31,z6v N),(47,z57 N (zo N))] [(3,TT3)] [] [0] false [] []
theorem z1op (N:Nat)(self:z6):EnvOk Tryd.prog (z1cn N self):=zi mixed zr (FnsOk.cons (zb4 N) (FnsOk.cons (z9u N (zo N) (z2d N)) (FnsOk.nil))) (ItsOk.nil)
def z25 (N:Nat)(self:z6):PnT:=pnT [(47,41,z68 N self),(17,41,zgm SQ0 (fun x=>self x.1) (fun z=>⟨TT1,z⟩))]
theorem z7k (N:Nat)(self:z6)(hself:ContractP Tryd.prog glob 17 41 (zgm SQ0 (fun x=>self x.1) (fun z=>⟨TT1,z⟩))):PnOk Tryd.prog glob (z25 N self):=PnOk.cons (zd9 N self hself) (PnOk.cons (hself) (PnOk.nil))
def z88 (N:Nat)(self:z6)(p:DT4)(x2:DT5)(parts:(List DT5))(k0:Option (Int×(Int×Unit)))(k1:Option (Int×(Int×Unit))):Option (Int×(Int×Unit)) :=
 cond (decide (p.2.1<(((List.length p.1):Nat):Int)))
 (cond (inR p.2.1 (List.length p.1))
 (cond ((((UInt8.toNat (List.getD p.1 (Int.toNat p.2.1) (0:UInt8))):Nat):Int) != (124:Int))
 (cond (inR p.2.1 (List.length p.1))
 (cond ((((UInt8.toNat (List.getD p.1 (Int.toNat p.2.1) (0:UInt8))):Nat):Int) != (41:Int))
 (k0)
 (k1))
 (none))
 (k1))
 (none))
 (k1)
def z1l1 (N:Nat)(self:z6)(x:z16 SQ3)(K:ExP->List A->Option (Int×(Int×Unit))):Option (Int×(Int×Unit)) :=
 z88 N self x.1 x.2.1 x.2.2.1 (K .normal (mkS SQ3 41 (x.1,x.2.1,x.2.2.1,()))) (K (.exit 0) (mkS SQ3 41 (x.1,x.2.1,x.2.2.1,())))
def z1hs (N:Nat)(self:z6):HdP (Int×(Int×Unit)):=fun st K=>(unS SQ3 41 (restr [0,3,2] 0 st)).bind fun x=>z1l1 N self x K
def t3_79 (N:Nat)(self:z6):zb0 (Int×(Int×Unit)):=[]
theorem z1dy {N:Nat}{self:z6}{c:Ctx}(hb:Base Tryd.prog (z1cn N self) c)(hP:PnOk Tryd.prog glob (z25 N self)):z1x Tryd.prog c (zh zjn [0,0,0,0,1,1]) (z1hs N self) :=
 z21 (s:=SQ3) (m:=41) (g:=z1l1 N self) [0,3,2] (z1n hb hP N (t3_79 N self) z1od zjn TabOkP.nil [0,0,0,0,1,1] _ rfl) (fun x K=>by kernel_rfl)
def z87 (N:Nat)(self:z6)(x2:DT5)(p:DT4)(parts:(List DT5))(rec:DT4->(List DT5)->Option (Int×(Int×Unit)))(k0:(Int×(Int×Unit))->Option (Int×(Int×Unit)))(k1:DT4->(List DT5)->Option (Int×(Int×Unit))):Option (Int×(Int×Unit)) :=
 z88 N self p x2 parts
 (orP ((z58 N self p)) (fun z=>k0 z)
 ((z5e N (zo N) p).bind fun y =>
 cond (decide ((((List.length parts)+1)*80)<=70368744177664))
 (rec y.2.1 (parts++([y.1]:List zyp)))
 (none)))
 (k1 p parts)
def zeo (N:Nat)(self:z6)(p:DT4)(x2:DT5)(parts:(List DT5))(k0:(Int×(Int×Unit))->Option (Int×(Int×Unit)))(k1:DT4->(List DT5)->Option (Int×(Int×Unit))):Option (Int×(Int×Unit)) :=
 iter (fun (v:(DT4×(List DT5))) r=>z87 N self x2 v.1 v.2 (fun p parts=>(r (p,parts))) k0 k1) N (p,parts)
def z1lh (N:Nat)(self:z6)(i:DT5)(v:(DT4×(List DT5)))(r:(DT4×(List DT5))->Option (Int×(Int×Unit)))(K:ExP->List A->Option (Int×(Int×Unit))):Option (Int×(Int×Unit)) :=
 z87 N self i v.1 v.2 (fun p parts=>(r (p,parts))) (fun a0=>(K (.pan 41) (mkS [(0,.v TT1)] 0 (a0,())))) (fun a0 a2=>(K (.exit 0) (mkS SQ3 41 (a0,i,a2,()))))
def z1i8 (N:Nat)(self:z6):HdP (Int×(Int×Unit)):=fun st K=>(unS SQ3 41 (restr [0,3,2] 0 st)).bind fun x=>iter (fun v r=>z1lh N self ((fun x=>x.2.1) x) v r K) N ((fun x=>(x.1,x.2.2.1)) x)
def t2_79 (N:Nat)(self:z6):zb0 (Int×(Int×Unit)):=[([0,0,0,0,1,1],z1hs N self)]
theorem z1ee {N:Nat}{self:z6}{c:Ctx}(hb:Base Tryd.prog (z1cn N self) c)(hP:PnOk Tryd.prog glob (z25 N self)):z1x Tryd.prog c (zh zjn [0,0,1,1]) (z1i8 N self) :=
 znd (s:=SQ3) (m:=41) (z1lh N self) [0,3,2] N (fun x=>x.2.1) (fun x=>(x.1,x.2.2.1)) (fun i v=>(v.1,i,v.2,())) (fun _=>rfl) (z1n hb hP N (t2_79 N self) z1od zjn (TabOkP.cons (z1dy hb hP) TabOkP.nil) [0,0,0,1,1] _ rfl) (fun i v r K=>by kernel_rfl)
def z89 (N:Nat)(self:z6)(p:DT4)(x2:DT5)(parts:(List DT5))(k0:(Int×(Int×Unit))->Option (Int×(Int×Unit)))(k1:DT4->(List DT5)->Option (Int×(Int×Unit))):Option (Int×(Int×Unit)) :=
 zeo N self p x2 parts
 (fun p1=>k0 p1)
 (fun p2 zk8=>k1 p2 zk8)
def z1ma (N:Nat)(self:z6)(x:z16 SQ3)(K:ExP->List A->Option (Int×(Int×Unit))):Option (Int×(Int×Unit)) :=
 z89 N self x.1 x.2.1 x.2.2.1 (fun a0=>(K (.pan 41) (mkS [(0,.v TT1)] 0 (a0,())))) (fun a0 a2=>(K .normal (mkS SQ3 41 (a0,x.2.1,a2,()))))
def z1j1 (N:Nat)(self:z6):HdP (Int×(Int×Unit)):=fun st K=>(unS SQ3 41 (restr [0,3,2] 0 st)).bind fun x=>z1ma N self x K
def t1_79 (N:Nat)(self:z6):zb0 (Int×(Int×Unit)):=[([0,0,1,1],z1i8 N self)]
theorem z1f7 {N:Nat}{self:z6}{c:Ctx}(hb:Base Tryd.prog (z1cn N self) c)(hP:PnOk Tryd.prog glob (z25 N self)):z1x Tryd.prog c (zh zjn [0,1,1]) (z1j1 N self) :=
 z21 (s:=SQ3) (m:=41) (g:=z1ma N self) [0,3,2] (z1n hb hP N (t1_79 N self) z1od zjn (TabOkP.cons (z1ee hb hP) TabOkP.nil) [0,1,1] _ rfl) (fun x K=>by kernel_rfl)
def z4e (N:Nat)(self:z6)(p:DT4):Option (Int×(Int×Unit)) :=
 z89 N self p ((0:Int),(([(0:Int),(0:Int),(0:Int),(0:Int)]:List Int),(([]:List Tree),((0:Int),((0:Int),()))))) ([]:List zyp)
 (fun p1=>some p1)
 (fun p2 parts=>(zbd N (2:Int) (List.map foN parts)).bind fun y =>
 none)
def t_79 (N:Nat)(self:z6):zb0 (Int×(Int×Unit)):=[([0,1,1],z1j1 N self)]
theorem z18e (N:Nat)(self:z6)(x:z16 SQ0):zgn (z1cn N self) (z25 N self) N (t_79 N self) z1od Tryd.f29 41 TT1 (mkS SQ0 0 x) (fun z=>some z)=z4e N self x.1:=by kernel_rfl
def z7j (N:Nat)(self:z6):List A->PnRes:=zgm SQ0 (fun x=>z4e N self x.1) (fun z=>⟨TT1,z⟩)
theorem zep (N:Nat)(self:z6)(hself:ContractP Tryd.prog glob 17 41 (zgm SQ0 (fun x=>self x.1) (fun z=>⟨TT1,z⟩))):ContractP Tryd.prog glob 29 41 (z7j N self) :=
 ContractP.of (E:=z1cn N self) (Pn:=z25 N self) (H:=t_79 N self) (L:=z1od) (N:=N) (body:=zjn) (t:=TT1) (z1op N self) (z7k N self hself) Tryd.func29 (by kernel_rfl) (by decide) (fun _ hb=>(TabOkP.cons (z1f7 hb (z7k N self hself)) TabOkP.nil)) (fun x y h=>by rw[z18e];exact h)
def zsc:Code:=(Tryd.f17.body).getD .skip
def L_80:List (List Nat×List Nat):=[([0],[0,2]),([0,1],[0,3,2]),([0,0,1,1],[0,3,2]),(z102,[8,3,0,2]),(z101,[3,0,2]),(z106,[3,2,0]),([0,1,0,0,0,1,1],[0,3,2]),([1,0,0,0,1,1],[0,3,2]),([0,1,1],[3,2,0]),([0,1,1,1],[2,0]),([1,1,1,1],[2,0])]
def E_80 (N:Nat)(self:DT4->Option (Int×(Int×Unit))):Env:=z1m tys glob [(29,z6j N (zo N)),(30,z1j N),(31,z6v N)] [(3,TT3)] [] [0] false [] []
theorem z1oo (N:Nat)(self:DT4->Option (Int×(Int×Unit))):EnvOk Tryd.prog (E_80 N self):=zi mixed zr (FnsOk.cons (zby N (zo N) (z2d N)) (FnsOk.cons (z1v N) (FnsOk.cons (zb4 N) (FnsOk.nil)))) (ItsOk.nil)
def z3r (N:Nat)(self:DT4->Option (Int×(Int×Unit))):PnT:=pnT [(29,41,z7j N self),(17,41,zgm SQ0 (fun x=>self x.1) (fun z=>⟨TT1,z⟩))]
theorem z7o (N:Nat)(self:DT4->Option (Int×(Int×Unit)))(hself:ContractP Tryd.prog glob 17 41 (zgm SQ0 (fun x=>self x.1) (fun z=>⟨TT1,z⟩))):PnOk Tryd.prog glob (z3r N self):=PnOk.cons (zep N self hself) (PnOk.cons (hself) (PnOk.nil))
def z8a (N:Nat)(self:DT4->Option (Int×(Int×Unit)))(x2:DT5)(p:DT4)(parts:(List DT5))(rec:DT4->(List DT5)->Option (Int×(Int×Unit)))(k0:(Int×(Int×Unit))->Option (Int×(Int×Unit)))(k1:DT4->(List DT5)->Option (Int×(Int×Unit))):Option (Int×(Int×Unit)) :=
 (z15 N p (124:Int)).bind fun y =>
 cond y.1
 (orP ((z4e N self y.2.1)) (fun z=>k0 z)
 ((z3w N (zo N) y.2.1).bind fun y1 =>
 cond (decide ((((List.length parts)+1)*80)<=70368744177664))
 (rec y1.2.1 (parts++([y1.1]:List zyp)))
 (none)))
 (k1 y.2.1 parts)
def zer (N:Nat)(self:DT4->Option (Int×(Int×Unit)))(p:DT4)(x2:DT5)(parts:(List DT5))(k0:(Int×(Int×Unit))->Option (Int×(Int×Unit)))(k1:DT4->(List DT5)->Option (Int×(Int×Unit))):Option (Int×(Int×Unit)) :=
 iter (fun (v:(DT4×(List DT5))) r=>z8a N self x2 v.1 v.2 (fun p parts=>(r (p,parts))) k0 k1) N (p,parts)
def z1m9 (N:Nat)(self:DT4->Option (Int×(Int×Unit)))(i:DT5)(v:(DT4×(List DT5)))(r:(DT4×(List DT5))->Option (Int×(Int×Unit)))(K:ExP->List A->Option (Int×(Int×Unit))):Option (Int×(Int×Unit)) :=
 z8a N self i v.1 v.2 (fun p parts=>(r (p,parts))) (fun a0=>(K (.pan 41) (mkS [(0,.v TT1)] 0 (a0,())))) (fun a0 a2=>(K (.exit 0) (mkS SQ3 12 (a0,i,a2,()))))
def z1j0 (N:Nat)(self:DT4->Option (Int×(Int×Unit))):HdP (Int×(Int×Unit)):=fun st K=>(unS SQ3 12 (restr [0,3,2] 0 st)).bind fun x=>iter (fun v r=>z1m9 N self ((fun x=>x.2.1) x) v r K) N ((fun x=>(x.1,x.2.2.1)) x)
def t1_80 (N:Nat)(self:DT4->Option (Int×(Int×Unit))):zb0 (Int×(Int×Unit)):=[]
theorem z1f6 {N:Nat}{self:DT4->Option (Int×(Int×Unit))}{c:Ctx}(hb:Base Tryd.prog (E_80 N self) c)(hP:PnOk Tryd.prog glob (z3r N self)):z1x Tryd.prog c (zh zsc [0,0,1,1]) (z1j0 N self) :=
 znd (s:=SQ3) (m:=12) (z1m9 N self) [0,3,2] N (fun x=>x.2.1) (fun x=>(x.1,x.2.2.1)) (fun i v=>(v.1,i,v.2,())) (fun _=>rfl) (z1n hb hP N (t1_80 N self) L_80 zsc TabOkP.nil [0,0,0,1,1] _ rfl) (fun i v r K=>by kernel_rfl)
def z8x (N:Nat)(self:DT4->Option (Int×(Int×Unit)))(p:DT4):Option (Int×(Int×Unit)) :=
 orP ((z4e N self p)) (fun z=>some z)
 ((z3w N (zo N) p).bind fun y =>
 zer N self y.2.1 ((0:Int),(([(0:Int),(0:Int),(0:Int),(0:Int)]:List Int),(([]:List Tree),((0:Int),((0:Int),()))))) ([y.1]:List zyp)
 (fun p1=>some p1)
 (fun p2 parts=>(zbd N (3:Int) (List.map foN parts)).bind fun y1 =>
 none))
def t_80 (N:Nat)(self:DT4->Option (Int×(Int×Unit))):zb0 (Int×(Int×Unit)):=[([0,0,1,1],z1j0 N self)]
theorem z18d (N:Nat)(self:DT4->Option (Int×(Int×Unit)))(x:z16 SQ0):zgn (E_80 N self) (z3r N self) N (t_80 N self) L_80 Tryd.f17 41 TT1 (mkS SQ0 0 x) (fun z=>some z)=z8x N self x.1:=by kernel_rfl
def z1o:Nat->DT4->Option (Int×(Int×Unit))
 | 0=>fun _=>none
 | N+1=>z8x (N+1) (z1o N)
def zdq (N:Nat):List A->PnRes:=zgm SQ0 (fun x=>z1o N x.1) (fun z=>⟨TT1,z⟩)
theorem z4t:∀ N:Nat,ContractP Tryd.prog glob 17 41 (zdq N)
 | 0=>ContractP.zero Tryd.func17 (body:=zsc) (by kernel_rfl) (by decide) (fun _=>rfl)
 | N+1=>ContractP.of (E:=E_80 (N+1) (z1o N)) (Pn:=z3r (N+1) (z1o N)) (H:=t_80 (N+1) (z1o N)) (L:=L_80) (N:=(N+1)) (body:=zsc) (t:=TT1) (z1oo (N+1) (z1o N)) (z7o (N+1) (z1o N) (z4t N)) Tryd.func17 (by kernel_rfl) (by decide) (fun _ hb=>(TabOkP.cons (z1f6 hb (z7o (N+1) (z1o N) (z4t N))) TabOkP.nil)) (fun x y h=>by rw[z18d];exact h)
end
end Go.Proofs.YtjbcpimnlgogiaaDoorLg
set_option linter.all false
set_option maxRecDepth 100000
namespace Go.Proofs.YtjbcpimnlgogiaaDoorLg
noncomputable section
open Go Go.Lift
def Cl (w:World)(n:Nat)(cs:List Value):Prop:=∀ i v,cs[i]?=some v->w.cell? ⟨n,i,none⟩=some v/\w.frozen? ⟨n,i,none⟩=false
def PsW (w0:World)(S0 S:Hp)(W:World):Prop:=WF w0 (fun _=>False) W/\Lift.Sub S0 S/\Lift.Sub S (hp W)/\∀ k,S k≠none->S0 k≠none\/w0.heap.size<=k
theorem PsW.drew {w0 W:World}{S0 S:Hp}(h:PsW w0 S0 S W):PsW w0 S0 S W.drew:=by
 obtain⟨h1,h2,h3,h4⟩:=h;exact⟨⟨h1.size,h1.same,h1.tape,h1.os,h1.output⟩,h2,h3,h4⟩
theorem PsW.alloc {w0 W:World}{S0 S:Hp}(h:PsW w0 S0 S W)(cs:Array Value)(E:Nat):PsW w0 S0 S (W.alloc (.cells cs E)):=by
 obtain⟨h1,h2,h3,h4⟩:=h;have hh:(W.alloc (.cells cs E)).heap=W.heap.push (.cells cs E (0,0)):=rfl;have hk:∀ k,k<W.heap.size->(W.alloc (.cells cs E)).heap[k]?=W.heap[k]?:=fun k hk=>by
  rw[hh,Array.getElem?_push,if_neg (by omega)]
 refine⟨⟨by rw[hh,Array.size_push];have:=h1.size;omega,fun k h1' h2'=>by rw[hk k (by have:=h1.size;omega)];exact h1.same k h1' h2',h1.tape,h1.os,h1.output⟩,h2,fun k q ho=>?_,h4⟩;have:=h3 k q ho;simp only[hp] at this ⊢;rw[hk k (Array.getElem?_eq_some_iff.1 this).1];exact this
theorem zgu {W:World}{p i:Nat}{v:Value}{k:Nat}(hk:k≠p):(W.setCell ⟨p,i,none⟩ v).heap[k]?=W.heap[k]?:=by
 unfold World.setCell;split<;>simp[Array.getElem?_modify,Ne.symm hk]
theorem PsW.setCell {w0 W:World}{S0 S:Hp}{p i:Nat}{v:Value}(h:PsW w0 S0 S W)(hp':w0.heap.size<=p)(hS:S p=none):PsW w0 S0 S (W.setCell ⟨p,i,none⟩ v):=by
 obtain⟨h1,h2,h3,h4⟩:=h;have hsz:(W.setCell ⟨p,i,none⟩ v).heap.size=W.heap.size:=by
  unfold World.setCell;split<;>simp
 have ht:(W.setCell ⟨p,i,none⟩ v).tape=W.tape/\(W.setCell ⟨p,i,none⟩ v).os=W.os/\(W.setCell ⟨p,i,none⟩ v).output=W.output:=by
  unfold World.setCell;split
  . exact⟨rfl,rfl,rfl⟩
  . exact⟨rfl,rfl,rfl⟩
 refine⟨⟨by rw[hsz];exact h1.size,fun k h1' h2'=>by rw[zgu (by omega)];exact h1.same k h1' h2',by rw[ht.1];exact h1.tape,by rw[ht.2.1];exact h1.os,by rw[ht.2.2];exact h1.output⟩,h2,fun k q ho=>?_,h4⟩;have hk:k≠p:=fun e=>by rw[e,hS] at ho;cases ho
 have:=h3 k q ho;simp only[hp] at this ⊢;rw[zgu hk];exact this
theorem z4o {w:World}{n:Nat}{cs:List Value}(h:Cl w n cs)(i:Nat)(v:Value):Cl (w.setCell ⟨n,i,none⟩ v) n (cs.set i v):=by
 intro j u hj;rw[List.getElem?_set] at hj;by_cases e:i=j
 . subst e;rw[if_pos rfl] at hj;split at hj
   . rename_i hl;cases hj;obtain⟨h1,h2⟩:=h i _ (List.getElem?_eq_getElem hl);constructor<;>simp[go_sem,h1,h2]
   . cases hj
 . rw[if_neg e] at hj;obtain⟨h1,h2⟩:=h j _ hj;have e':j≠i:=fun h=>e h.symm
   constructor<;>simp[go_sem,h1,h2,e,e']
theorem z1r {w:World}{n m:Nat}{cs:List Value}(h:Cl w n cs)(hne:m≠n)(i:Nat)(v:Value):Cl (w.setCell ⟨m,i,none⟩ v) n cs:=by
 intro j u hj;obtain⟨h1,h2⟩:=h j _ hj;have e':n≠m:=fun h=>hne h.symm
 constructor<;>simp[go_sem,h1,h2,hne,e']
theorem zhz {w:World}{n:Nat}{c:Value}{cs:List Value}(h:Cl w n (c::cs))(o:Obj):Cl (w.alloc o) n (c::cs):=by
 have hlt:n<w.heap.size:=by
  have h0:=(h 0 c rfl).1;rcases Nat.lt_or_ge n w.heap.size with h1|h1
  . exact h1
  . simp[World.cell?,Array.getElem?_eq_none h1] at h0
 intro i v hi;obtain⟨h1,h2⟩:=h i v hi;exact⟨by rw[World.cell?_alloc_past _ _ _ hlt];exact h1,by rw[World.frozen?_alloc_past _ _ _ hlt];exact h2⟩
theorem zu2 {w:World}{n:Nat}{c:Value}{cs:List Value}(h:Cl w n (c::cs)):n<w.heap.size:=by
 have h0:=(h 0 c rfl).1;rcases Nat.lt_or_ge n w.heap.size with h1|h1
 . exact h1
 . simp[World.cell?,Array.getElem?_eq_none h1] at h0
theorem ps_idle {w:World}{n0 n1:Nat} :
 CallsD Go.Proofs.Tryd.prog 16 #[.pointer (some ⟨n0,0,none⟩),.pointer (some ⟨n1,0,none⟩)] .returning w fun e u w'=>(∃ v,e=.returned v)/\u=.returning/\w'=w.alloc (Obj.cells #[Value.int IntKind.i64 0,Value.int IntKind.i64 0] 41):=by
 refine callsD_of_wpS Go.Proofs.Tryd.func16 rfl fun c₀ cs hu=>?_
 have ha:∀ W:World,(Instr.typeAssert .nilIface 20 41 true).run Go.Proofs.Tryd.prog W=.ok (.tuple #[.agg #[.int .i64 0,.int .i64 0],.bool false]) W:=fun W=>by kernel_rfl
 apply wpS_seq;apply wpS_region;simp only[Go.Proofs.Tryd.ntmps16,List.size_toArray,List.length_cons,List.length_nil,Nat.reduceAdd,Nat.reduceSub,Array.replicate_succ,
  Array.replicate_zero,List.push_toArray,List.append_toArray,List.nil_append,List.cons_append]
 simp[wpOpsS,go_sem,recoverD,hu,Exit.thenS,ha,List.range_succ];refine wpS_of_wp ?_
 go_wp2
 cases c₀
 simp_all [bodyPostS,results,Go.Proofs.Tryd.results16]
set_option maxHeartbeats 16000000 in
theorem zt3 {w:World}{n0 n1:Nat}{e a:Int}{y0 y1:Value}{c0 c1 c2 c3 c4 c5 c6 c7:Value}{R:World->Prop}(h0:Cl (w.alloc (Obj.cells #[Value.int IntKind.i64 e,Value.int IntKind.i64 a] 41)) n0 [c0,c1,c2,c3,c4,c5,c6,c7])(h1:Cl (w.alloc (Obj.cells #[Value.int IntKind.i64 e,Value.int IntKind.i64 a] 41)) n1 [y0,y1])(hne:n0≠n1)(hn2:n0≠w.heap.size)(hn3:n1≠w.heap.size)
 (hR:∀ w',Cl w' n0 [.int .i64 0,.int .u64 0,.int .u64 0,.int .u64 0,.int .u64 0,.slice none 0 0,.int .i64 0,.int .i64 0]->Cl w' n1 [.int .i64 e,.int .i64 a] →
  (∀ (w0:World) (S0 S:Hp),PsW w0 S0 S w->w0.heap.size<=n0->w0.heap.size<=n1->S n0=none->S n1=none->PsW w0 S0 S w')->R w') :
 CallsD Go.Proofs.Tryd.prog 16 #[.pointer (some ⟨n0,0,none⟩),.pointer (some ⟨n1,0,none⟩)] (.panicking [{ v:=.iface 41 (.agg #[.int .i64 e,.int .i64 a]),recovered:=false }]) w fun r u w'=>(∃ v,r=.returned v)/\u=.panicking [{ v:=.iface 41 (.agg #[.int .i64 e,.int .i64 a]),recovered:=true }]/\R w':=by
 refine callsD_of_wpS Go.Proofs.Tryd.func16 rfl fun c₀ cs hu=>?_
 have ha:∀ W:World,(Instr.typeAssert (.iface 41 (.agg #[.int .i64 e,.int .i64 a])) 20 41 true).run Go.Proofs.Tryd.prog W=.ok (.tuple #[.agg #[.int .i64 e,.int .i64 a],.bool true]) W:=fun W=>by kernel_rfl
 have c00:(w.alloc (Obj.cells #[Value.int IntKind.i64 e,Value.int IntKind.i64 a] 41)).cell? ⟨n0,0,none⟩=some (c0):=(h0 0 _ rfl).1;have z00:(w.alloc (Obj.cells #[Value.int IntKind.i64 e,Value.int IntKind.i64 a] 41)).frozen? ⟨n0,0,none⟩=false:=(h0 0 _ rfl).2;have c01:(w.alloc (Obj.cells #[Value.int IntKind.i64 e,Value.int IntKind.i64 a] 41)).cell? ⟨n0,1,none⟩=some (c1):=(h0 1 _ rfl).1;have z01:(w.alloc (Obj.cells #[Value.int IntKind.i64 e,Value.int IntKind.i64 a] 41)).frozen? ⟨n0,1,none⟩=false:=(h0 1 _ rfl).2;have c02:(w.alloc (Obj.cells #[Value.int IntKind.i64 e,Value.int IntKind.i64 a] 41)).cell? ⟨n0,2,none⟩=some (c2):=(h0 2 _ rfl).1;have z02:(w.alloc (Obj.cells #[Value.int IntKind.i64 e,Value.int IntKind.i64 a] 41)).frozen? ⟨n0,2,none⟩=false:=(h0 2 _ rfl).2;have c03:(w.alloc (Obj.cells #[Value.int IntKind.i64 e,Value.int IntKind.i64 a] 41)).cell? ⟨n0,3,none⟩=some (c3):=(h0 3 _ rfl).1;have z03:(w.alloc (Obj.cells #[Value.int IntKind.i64 e,Value.int IntKind.i64 a] 41)).frozen? ⟨n0,3,none⟩=false:=(h0 3 _ rfl).2;have c04:(w.alloc (Obj.cells #[Value.int IntKind.i64 e,Value.int IntKind.i64 a] 41)).cell? ⟨n0,4,none⟩=some (c4):=(h0 4 _ rfl).1;have z04:(w.alloc (Obj.cells #[Value.int IntKind.i64 e,Value.int IntKind.i64 a] 41)).frozen? ⟨n0,4,none⟩=false:=(h0 4 _ rfl).2;have c05:(w.alloc (Obj.cells #[Value.int IntKind.i64 e,Value.int IntKind.i64 a] 41)).cell? ⟨n0,5,none⟩=some (c5):=(h0 5 _ rfl).1;have z05:(w.alloc (Obj.cells #[Value.int IntKind.i64 e,Value.int IntKind.i64 a] 41)).frozen? ⟨n0,5,none⟩=false:=(h0 5 _ rfl).2;have c06:(w.alloc (Obj.cells #[Value.int IntKind.i64 e,Value.int IntKind.i64 a] 41)).cell? ⟨n0,6,none⟩=some (c6):=(h0 6 _ rfl).1;have z06:(w.alloc (Obj.cells #[Value.int IntKind.i64 e,Value.int IntKind.i64 a] 41)).frozen? ⟨n0,6,none⟩=false:=(h0 6 _ rfl).2;have c07:(w.alloc (Obj.cells #[Value.int IntKind.i64 e,Value.int IntKind.i64 a] 41)).cell? ⟨n0,7,none⟩=some (c7):=(h0 7 _ rfl).1;have z07:(w.alloc (Obj.cells #[Value.int IntKind.i64 e,Value.int IntKind.i64 a] 41)).frozen? ⟨n0,7,none⟩=false:=(h0 7 _ rfl).2;have c10:(w.alloc (Obj.cells #[Value.int IntKind.i64 e,Value.int IntKind.i64 a] 41)).cell? ⟨n1,0,none⟩=some (y0):=(h1 0 _ rfl).1;have z10:(w.alloc (Obj.cells #[Value.int IntKind.i64 e,Value.int IntKind.i64 a] 41)).frozen? ⟨n1,0,none⟩=false:=(h1 0 _ rfl).2;have c11:(w.alloc (Obj.cells #[Value.int IntKind.i64 e,Value.int IntKind.i64 a] 41)).cell? ⟨n1,1,none⟩=some (y1):=(h1 1 _ rfl).1;have z11:(w.alloc (Obj.cells #[Value.int IntKind.i64 e,Value.int IntKind.i64 a] 41)).frozen? ⟨n1,1,none⟩=false:=(h1 1 _ rfl).2;apply wpS_seq;apply wpS_region;simp only[Go.Proofs.Tryd.ntmps16,List.size_toArray,List.length_cons,List.length_nil,Nat.reduceAdd,Nat.reduceSub,Array.replicate_succ,
  Array.replicate_zero,List.push_toArray,List.append_toArray,List.nil_append,List.cons_append]
 simp[wpOpsS,go_sem,recoverD,hu,Exit.thenS,ha,List.range_succ];refine wpS_of_wp ?_
 go_wp2
 go_region
 have hfin:R ((((((((((((w.alloc (Obj.cells #[Value.int IntKind.i64 e,Value.int IntKind.i64 a] 41)).setCell { block:=n0,off:=0 } (.int .i64 0)).setCell { block:=n0,off:=1 } (.int .u64 0)).setCell { block:=n0,off:=2 } (.int .u64 0)).setCell { block:=n0,off:=3 } (.int .u64 0)).setCell { block:=n0,off:=4 } (.int .u64 0)).setCell { block:=n0,off:=5 } (.slice none 0 0)).setCell { block:=n0,off:=6 } (.int .i64 0)).setCell { block:=n0,off:=7 } (.int .i64 0)).setCell { block:=n1,off:=0 } (.int .i64 e)).setCell { block:=n1,off:=1 } (.int .i64 a)).drew):=by
  refine hR _ ?_ ?_ ?_
  . intro i v hi;rcases i with _|_|_|_|_|_|_|_|i
    case succ.succ.succ.succ.succ.succ.succ.succ=>simp at hi
    all_goals (simp only[List.getElem?_cons_zero,List.getElem?_cons_succ,Option.some.injEq] at hi;subst hi;constructor<;>simp[go_sem, *])
  . intro i v hi;rcases i with _|_|i
    case succ.succ=>simp at hi
    all_goals (simp only[List.getElem?_cons_zero,List.getElem?_cons_succ,Option.some.injEq] at hi;subst hi;constructor<;>simp[go_sem, *])
  . intro w0 S0 S hw hl0 hl1 hS0 hS1;exact (((((((((((hw.alloc _ _).setCell hl0 hS0).setCell hl0 hS0).setCell hl0 hS0).setCell hl0 hS0).setCell hl0 hS0).setCell hl0 hS0).setCell hl0 hS0).setCell hl0 hS0).setCell hl1 hS1).setCell hl1 hS1).drew
 change bodyPostS Go.Proofs.Tryd.prog Go.Proofs.Tryd.f16 c₀ cs _ _ _ _ _;clear hR h0 h1 c00 z00 c01 z01 c02 z02 c03 z03 c04 z04 c05 z05 c06 z06 c07 z07 c10 z10 c11 z11;cases c₀
 simp_all [bodyPostS,results,Go.Proofs.Tryd.results16]
theorem z17u {w:World}{s:List UInt8}{S:Hp}(hS:Lift.Sub S (hp w))(hlen:(256:Int)<s.length) :
 Calls Go.Proofs.Tryd.prog 8 #[.string ⟨⟨s⟩⟩] w fun r w'=>r=.returned (.tuple #[.agg #[Value.int IntKind.i64 0,Value.int IntKind.u64 0,Value.int IntKind.u64 0,Value.int IntKind.u64 0,Value.int IntKind.u64 0,Value.slice none 0 0,Value.int IntKind.i64 0,Value.int IntKind.i64 0],.agg #[.int .i64 3,.int .i64 256]])/\PsW w S S w':=by
 have h0:PsW w S S w:=⟨WF.refl _ _,Lift.Sub.refl _,hS,fun k hk=>.inl hk⟩
 have hn0:S w.heap.size=none:=by
  cases hx:S w.heap.size with
  | none=>rfl
  | some o=>exact absurd (z6x (hS _ _ hx)) (Nat.lt_irrefl _)
 have hn1:S (w.heap.size+1)=none:=by
  cases hx:S (w.heap.size+1) with
  | none=>rfl
  | some o=>exact absurd (z6x (hS _ _ hx)) (by omega)
 go_enter Go.Proofs.Tryd.func8,Go.Proofs.Tryd.ntmps8
 go_wp2
 simp[bodyPost,results,Go.Proofs.Tryd.results8,go_sem];exact (h0.alloc _ _).alloc _ _
set_option maxHeartbeats 16000000 in
theorem ps_ok {w:World}{s:List UInt8}{S:Hp}{at_:Int}{F:Hp->Value->Prop}(hlen:¬ (256:Int)<s.length)
 (hc:Calls Go.Proofs.Tryd.prog 17 #[.pointer (some ⟨w.heap.size+1+1,0,none⟩)] (((w.alloc (Obj.cells #[Value.int IntKind.i64 0,Value.int IntKind.u64 0,Value.int IntKind.u64 0,Value.int IntKind.u64 0,Value.int IntKind.u64 0,Value.slice none 0 0,Value.int IntKind.i64 0,Value.int IntKind.i64 0] 39)).alloc (Obj.cells #[Value.int IntKind.i64 0,Value.int IntKind.i64 0] 41)).alloc (Obj.cells #[Value.string ⟨⟨s⟩⟩,Value.int IntKind.i64 0,Value.int IntKind.i64 0] 58)) fun r w2=>∃ (k a0 a1 a2 a3 lo hi:Int) (sp:Option Addr) (sn sc:Nat) (S':Hp),r=.returned (.agg #[.int .i64 k,.int .u64 a0,.int .u64 a1,.int .u64 a2,.int .u64 a3,.slice sp sn sc,.int .i64 lo,.int .i64 hi])/\Cl w2 (w.heap.size) [.int .i64 0,.int .u64 0,.int .u64 0,.int .u64 0,.int .u64 0,.slice none 0 0,.int .i64 0,.int .i64 0]/\Cl w2 (w.heap.size+1) [.int .i64 0,.int .i64 0]/\w2.cell? ⟨w.heap.size+1+1,1,none⟩=some (.int .i64 at_)/\S' (w.heap.size)=none/\S' (w.heap.size+1)=none/\PsW w S S' w2/\F S' (.agg #[.int .i64 k,.int .u64 a0,.int .u64 a1,.int .u64 a2,.int .u64 a3,.slice sp sn sc,.int .i64 lo,.int .i64 hi]))
 (hat:¬ at_<s.length) :
 Calls Go.Proofs.Tryd.prog 8 #[.string ⟨⟨s⟩⟩] w fun r w'=>∃ v S',r=.returned (.tuple #[v,.agg #[.int .i64 0,.int .i64 0]])/\F S' v/\PsW w S S' w':=by
 have hmf:∀ (fn:Fn) (first cap:Array Value) (w:World),(Instr.makeFunc fn first cap).run Go.Proofs.Tryd.prog w=.ok (.func fn first cap) w:=fun _ _ _ _=>rfl
 have p1:w.heap.size+1+1≠w.heap.size:=by omega
 have p2:w.heap.size+1≠w.heap.size:=by omega
 go_enter_defers Go.Proofs.Tryd.func8,Go.Proofs.Tryd.ntmps8
 go_wp2_with (first
  | (go_at_call 17;refine hc.mono ?_;rintro r w2 ⟨k,a0,a1,a2,a3,lo,hi,sp,sn,sc,S',rfl,hC0,hC1,hat2,hs0,hs1,hP,hFF⟩;have c00:=(hC0 0 _ rfl).1;have z00:=(hC0 0 _ rfl).2;have c01:=(hC0 1 _ rfl).1;have z01:=(hC0 1 _ rfl).2;have c02:=(hC0 2 _ rfl).1;have z02:=(hC0 2 _ rfl).2;have c03:=(hC0 3 _ rfl).1;have z03:=(hC0 3 _ rfl).2;have c04:=(hC0 4 _ rfl).1;have z04:=(hC0 4 _ rfl).2;have c05:=(hC0 5 _ rfl).1;have z05:=(hC0 5 _ rfl).2;have c06:=(hC0 6 _ rfl).1;have z06:=(hC0 6 _ rfl).2;have c07:=(hC0 7 _ rfl).1;have z07:=(hC0 7 _ rfl).2;have c10:=(hC1 0 _ rfl).1;have z10:=(hC1 0 _ rfl).2;have c11:=(hC1 1 _ rfl).1;have z11:=(hC1 1 _ rfl).2;have hl0:w.heap.size<w2.heap.size:=zu2 hC0;have hl1:w.heap.size+1<w2.heap.size:=zu2 hC1;have H0:=Go.Lib.hid hC0;have H1:=Go.Lib.hid hC1;have HP:=Go.Lib.hid hP;have HF:=Go.Lib.hid hFF;clear hc hC0 hC1 hP hFF))
 have k0:Cl (((((((((((((((((((w2).setCell { block:=w.heap.size,off:=0 } (Value.int IntKind.i64 k)).setCell { block:=w.heap.size,off:=1 } (Value.int IntKind.u64 a0)).setCell { block:=w.heap.size,off:=2 } (Value.int IntKind.u64 a1)).setCell { block:=w.heap.size,off:=3 } (Value.int IntKind.u64 a2)).setCell { block:=w.heap.size,off:=4 } (Value.int IntKind.u64 a3)).setCell { block:=w.heap.size,off:=5 } (Value.slice sp sn sc)).setCell { block:=w.heap.size,off:=6 } (Value.int IntKind.i64 lo)).setCell { block:=w.heap.size,off:=7 } (Value.int IntKind.i64 hi)).setCell { block:=w.heap.size,off:=0 } (Value.int IntKind.i64 k)).setCell { block:=w.heap.size,off:=1 } (Value.int IntKind.u64 a0)).setCell { block:=w.heap.size,off:=2 } (Value.int IntKind.u64 a1)).setCell { block:=w.heap.size,off:=3 } (Value.int IntKind.u64 a2)).setCell { block:=w.heap.size,off:=4 } (Value.int IntKind.u64 a3)).setCell { block:=w.heap.size,off:=5 } (Value.slice sp sn sc)).setCell { block:=w.heap.size,off:=6 } (Value.int IntKind.i64 lo)).setCell { block:=w.heap.size,off:=7 } (Value.int IntKind.i64 hi)).setCell { block:=w.heap.size+1,off:=0 } (Value.int IntKind.i64 0)).setCell { block:=w.heap.size+1,off:=1 } (Value.int IntKind.i64 0)) (w.heap.size) [.int .i64 k,.int .u64 a0,.int .u64 a1,.int .u64 a2,.int .u64 a3,.slice sp sn sc,.int .i64 lo,.int .i64 hi]:=(z1r (z1r (z4o (z4o (z4o (z4o (z4o (z4o (z4o (z4o (z4o (z4o (z4o (z4o (z4o (z4o (z4o (z4o H0.out 0 _) 1 _) 2 _) 3 _) 4 _) 5 _) 6 _) 7 _) 0 _) 1 _) 2 _) 3 _) 4 _) 5 _) 6 _) 7 _) p2 0 _) p2 1 _)
 have k1:Cl (((((((((((((((((((w2).setCell { block:=w.heap.size,off:=0 } (Value.int IntKind.i64 k)).setCell { block:=w.heap.size,off:=1 } (Value.int IntKind.u64 a0)).setCell { block:=w.heap.size,off:=2 } (Value.int IntKind.u64 a1)).setCell { block:=w.heap.size,off:=3 } (Value.int IntKind.u64 a2)).setCell { block:=w.heap.size,off:=4 } (Value.int IntKind.u64 a3)).setCell { block:=w.heap.size,off:=5 } (Value.slice sp sn sc)).setCell { block:=w.heap.size,off:=6 } (Value.int IntKind.i64 lo)).setCell { block:=w.heap.size,off:=7 } (Value.int IntKind.i64 hi)).setCell { block:=w.heap.size,off:=0 } (Value.int IntKind.i64 k)).setCell { block:=w.heap.size,off:=1 } (Value.int IntKind.u64 a0)).setCell { block:=w.heap.size,off:=2 } (Value.int IntKind.u64 a1)).setCell { block:=w.heap.size,off:=3 } (Value.int IntKind.u64 a2)).setCell { block:=w.heap.size,off:=4 } (Value.int IntKind.u64 a3)).setCell { block:=w.heap.size,off:=5 } (Value.slice sp sn sc)).setCell { block:=w.heap.size,off:=6 } (Value.int IntKind.i64 lo)).setCell { block:=w.heap.size,off:=7 } (Value.int IntKind.i64 hi)).setCell { block:=w.heap.size+1,off:=0 } (Value.int IntKind.i64 0)).setCell { block:=w.heap.size+1,off:=1 } (Value.int IntKind.i64 0)) (w.heap.size+1) [.int .i64 0,.int .i64 0]:=(z4o (z4o (z1r (z1r (z1r (z1r (z1r (z1r (z1r (z1r (z1r (z1r (z1r (z1r (z1r (z1r (z1r (z1r H1.out p2.symm 0 _) p2.symm 1 _) p2.symm 2 _) p2.symm 3 _) p2.symm 4 _) p2.symm 5 _) p2.symm 6 _) p2.symm 7 _) p2.symm 0 _) p2.symm 1 _) p2.symm 2 _) p2.symm 3 _) p2.symm 4 _) p2.symm 5 _) p2.symm 6 _) p2.symm 7 _) 0 _) 1 _)
 have k2:PsW w S S' (((((((((((((((((((w2).setCell { block:=w.heap.size,off:=0 } (Value.int IntKind.i64 k)).setCell { block:=w.heap.size,off:=1 } (Value.int IntKind.u64 a0)).setCell { block:=w.heap.size,off:=2 } (Value.int IntKind.u64 a1)).setCell { block:=w.heap.size,off:=3 } (Value.int IntKind.u64 a2)).setCell { block:=w.heap.size,off:=4 } (Value.int IntKind.u64 a3)).setCell { block:=w.heap.size,off:=5 } (Value.slice sp sn sc)).setCell { block:=w.heap.size,off:=6 } (Value.int IntKind.i64 lo)).setCell { block:=w.heap.size,off:=7 } (Value.int IntKind.i64 hi)).setCell { block:=w.heap.size,off:=0 } (Value.int IntKind.i64 k)).setCell { block:=w.heap.size,off:=1 } (Value.int IntKind.u64 a0)).setCell { block:=w.heap.size,off:=2 } (Value.int IntKind.u64 a1)).setCell { block:=w.heap.size,off:=3 } (Value.int IntKind.u64 a2)).setCell { block:=w.heap.size,off:=4 } (Value.int IntKind.u64 a3)).setCell { block:=w.heap.size,off:=5 } (Value.slice sp sn sc)).setCell { block:=w.heap.size,off:=6 } (Value.int IntKind.i64 lo)).setCell { block:=w.heap.size,off:=7 } (Value.int IntKind.i64 hi)).setCell { block:=w.heap.size+1,off:=0 } (Value.int IntKind.i64 0)).setCell { block:=w.heap.size+1,off:=1 } (Value.int IntKind.i64 0)):=by
  have HQ:=HP.out;have hn0:w.heap.size<=w.heap.size:=Nat.le_refl _;have hn1:w.heap.size<=w.heap.size+1:=by omega
  exact ((((((((((((((((((HQ.setCell hn0 hs0).setCell hn0 hs0).setCell hn0 hs0).setCell hn0 hs0).setCell hn0 hs0).setCell hn0 hs0).setCell hn0 hs0).setCell hn0 hs0).setCell hn0 hs0).setCell hn0 hs0).setCell hn0 hs0).setCell hn0 hs0).setCell hn0 hs0).setCell hn0 hs0).setCell hn0 hs0).setCell hn0 hs0).setCell hn1 hs1).setCell hn1 hs1)
 clear c00 z00 c01 z01 c02 z02 c03 z03 c04 z04 c05 z05 c06 z06 c07 z07 c10 z10 c11 z11;generalize (((((((((((((((((((w2).setCell { block:=w.heap.size,off:=0 } (Value.int IntKind.i64 k)).setCell { block:=w.heap.size,off:=1 } (Value.int IntKind.u64 a0)).setCell { block:=w.heap.size,off:=2 } (Value.int IntKind.u64 a1)).setCell { block:=w.heap.size,off:=3 } (Value.int IntKind.u64 a2)).setCell { block:=w.heap.size,off:=4 } (Value.int IntKind.u64 a3)).setCell { block:=w.heap.size,off:=5 } (Value.slice sp sn sc)).setCell { block:=w.heap.size,off:=6 } (Value.int IntKind.i64 lo)).setCell { block:=w.heap.size,off:=7 } (Value.int IntKind.i64 hi)).setCell { block:=w.heap.size,off:=0 } (Value.int IntKind.i64 k)).setCell { block:=w.heap.size,off:=1 } (Value.int IntKind.u64 a0)).setCell { block:=w.heap.size,off:=2 } (Value.int IntKind.u64 a1)).setCell { block:=w.heap.size,off:=3 } (Value.int IntKind.u64 a2)).setCell { block:=w.heap.size,off:=4 } (Value.int IntKind.u64 a3)).setCell { block:=w.heap.size,off:=5 } (Value.slice sp sn sc)).setCell { block:=w.heap.size,off:=6 } (Value.int IntKind.i64 lo)).setCell { block:=w.heap.size,off:=7 } (Value.int IntKind.i64 hi)).setCell { block:=w.heap.size+1,off:=0 } (Value.int IntKind.i64 0)).setCell { block:=w.heap.size+1,off:=1 } (Value.int IntKind.i64 0))=W3 at *;refine leaves_cons (f:=16) (args:=#[.pointer (some ⟨w.heap.size,0,none⟩),.pointer (some ⟨w.heap.size+1,0,none⟩)]) (by simp) (by simp[go_sem]) ?_;refine ps_idle.mono ?_;rintro r u w5 ⟨⟨v,rfl⟩,rfl,rfl⟩;have m0:=zhz k0 (Obj.cells #[Value.int IntKind.i64 0,Value.int IntKind.i64 0] 41);have m1:=zhz k1 (Obj.cells #[Value.int IntKind.i64 0,Value.int IntKind.i64 0] 41);have e00:=(m0 0 _ rfl).1;have e01:=(m0 1 _ rfl).1;have e02:=(m0 2 _ rfl).1;have e03:=(m0 3 _ rfl).1;have e04:=(m0 4 _ rfl).1;have e05:=(m0 5 _ rfl).1;have e06:=(m0 6 _ rfl).1;have e07:=(m0 7 _ rfl).1;have e10:=(m1 0 _ rfl).1;have e11:=(m1 1 _ rfl).1;refine⟨_,?_,_,S',rfl,HF.out,k2.alloc _ _⟩;clear k0 k1 k2 m0 m1 hmf;simp[results,Go.Proofs.Tryd.results8,go_sem,e00,e01,e02,e03,e04,e05,e06,e07,e10,e11]
set_option maxHeartbeats 16000000 in
theorem z1d9 {w:World}{s:List UInt8}{S:Hp}{e a:Int}(hlen:¬ (256:Int)<s.length)(hs0:S (w.heap.size)=none)(hs1:S (w.heap.size+1)=none)
 (hc:Calls Go.Proofs.Tryd.prog 17 #[.pointer (some ⟨w.heap.size+1+1,0,none⟩)] (((w.alloc (Obj.cells #[Value.int IntKind.i64 0,Value.int IntKind.u64 0,Value.int IntKind.u64 0,Value.int IntKind.u64 0,Value.int IntKind.u64 0,Value.slice none 0 0,Value.int IntKind.i64 0,Value.int IntKind.i64 0] 39)).alloc (Obj.cells #[Value.int IntKind.i64 0,Value.int IntKind.i64 0] 41)).alloc (Obj.cells #[Value.string ⟨⟨s⟩⟩,Value.int IntKind.i64 0,Value.int IntKind.i64 0] 58)) fun r w2=>r=.panicked [{ v:=.iface 41 (.agg #[.int .i64 e,.int .i64 a]),recovered:=false }]/\Cl w2 (w.heap.size) [.int .i64 0,.int .u64 0,.int .u64 0,.int .u64 0,.int .u64 0,.slice none 0 0,.int .i64 0,.int .i64 0]/\Cl w2 (w.heap.size+1) [.int .i64 0,.int .i64 0]/\PsW w S S w2) :
 Calls Go.Proofs.Tryd.prog 8 #[.string ⟨⟨s⟩⟩] w fun r w'=>r=.returned (.tuple #[.agg #[Value.int IntKind.i64 0,Value.int IntKind.u64 0,Value.int IntKind.u64 0,Value.int IntKind.u64 0,Value.int IntKind.u64 0,Value.slice none 0 0,Value.int IntKind.i64 0,Value.int IntKind.i64 0],.agg #[.int .i64 e,.int .i64 a]])/\PsW w S S w':=by
 have hmf:∀ (fn:Fn) (first cap:Array Value) (w:World),(Instr.makeFunc fn first cap).run Go.Proofs.Tryd.prog w=.ok (.func fn first cap) w:=fun _ _ _ _=>rfl
 have p1:w.heap.size+1+1≠w.heap.size:=by omega
 have p2:w.heap.size+1≠w.heap.size:=by omega
 go_enter_defers Go.Proofs.Tryd.func8,Go.Proofs.Tryd.ntmps8
 go_wp2_with (first
  | (go_at_call 17;refine hc.mono ?_;rintro r w2 ⟨rfl,hC0,hC1,hP⟩;have H0:=Go.Lib.hid hC0;have H1:=Go.Lib.hid hC1;have HP:=Go.Lib.hid hP;clear hc hC0 hC1 hP))
 refine leaves_cons (f:=16) (args:=#[.pointer (some ⟨w.heap.size,0,none⟩),.pointer (some ⟨w.heap.size+1,0,none⟩)]) (by simp) (by simp[go_sem]) ?_;refine (zt3 (R:=fun w'=>Cl w' (w.heap.size) [.int .i64 0,.int .u64 0,.int .u64 0,.int .u64 0,.int .u64 0,.slice none 0 0,.int .i64 0,.int .i64 0]/\Cl w' (w.heap.size+1) [.int .i64 e,.int .i64 a]/\PsW w S S w') (zhz H0.out _) (zhz H1.out _) p2.symm (Nat.ne_of_lt (zu2 H0.out)) (Nat.ne_of_lt (zu2 H1.out)) (fun w' g0 g1 g2=>⟨g0,g1,g2 w S S HP.out (Nat.le_refl _) (Nat.le_succ _) hs0 hs1⟩)).mono ?_;rintro r u w5 ⟨⟨v,rfl⟩,rfl,m0,m1,hP5⟩;have e00:=(m0 0 _ rfl).1;have e01:=(m0 1 _ rfl).1;have e02:=(m0 2 _ rfl).1;have e03:=(m0 3 _ rfl).1;have e04:=(m0 4 _ rfl).1;have e05:=(m0 5 _ rfl).1;have e06:=(m0 6 _ rfl).1;have e07:=(m0 7 _ rfl).1;have e10:=(m1 0 _ rfl).1;have e11:=(m1 1 _ rfl).1;clear m0 m1 hmf H0 H1;simp[Leaves,settle,results,Go.Proofs.Tryd.results8,go_sem,e00,e01,e02,e03,e04,e05,e06,e07,e10,e11];exact hP5
set_option maxHeartbeats 16000000 in
theorem z1da {w:World}{s:List UInt8}{S:Hp}{at_:Int}(hlen:¬ (256:Int)<s.length)
 (hc:Calls Go.Proofs.Tryd.prog 17 #[.pointer (some ⟨w.heap.size+1+1,0,none⟩)] (((w.alloc (Obj.cells #[Value.int IntKind.i64 0,Value.int IntKind.u64 0,Value.int IntKind.u64 0,Value.int IntKind.u64 0,Value.int IntKind.u64 0,Value.slice none 0 0,Value.int IntKind.i64 0,Value.int IntKind.i64 0] 39)).alloc (Obj.cells #[Value.int IntKind.i64 0,Value.int IntKind.i64 0] 41)).alloc (Obj.cells #[Value.string ⟨⟨s⟩⟩,Value.int IntKind.i64 0,Value.int IntKind.i64 0] 58)) fun r w2=>∃ (k a0 a1 a2 a3 lo hi:Int) (sp:Option Addr) (sn sc:Nat) (S':Hp),r=.returned (.agg #[.int .i64 k,.int .u64 a0,.int .u64 a1,.int .u64 a2,.int .u64 a3,.slice sp sn sc,.int .i64 lo,.int .i64 hi])/\Cl w2 (w.heap.size) [.int .i64 0,.int .u64 0,.int .u64 0,.int .u64 0,.int .u64 0,.slice none 0 0,.int .i64 0,.int .i64 0]/\Cl w2 (w.heap.size+1) [.int .i64 0,.int .i64 0]/\w2.cell? ⟨w.heap.size+1+1,1,none⟩=some (.int .i64 at_)/\S' (w.heap.size)=none/\S' (w.heap.size+1)=none/\PsW w S S' w2)
 (hat:at_<s.length) :
 Calls Go.Proofs.Tryd.prog 8 #[.string ⟨⟨s⟩⟩] w fun r w'=>r=.returned (.tuple #[.agg #[Value.int IntKind.i64 0,Value.int IntKind.u64 0,Value.int IntKind.u64 0,Value.int IntKind.u64 0,Value.int IntKind.u64 0,Value.slice none 0 0,Value.int IntKind.i64 0,Value.int IntKind.i64 0],.agg #[.int .i64 2,.int .i64 at_]])/\∃ S',PsW w S S' w':=by
 have hmf:∀ (fn:Fn) (first cap:Array Value) (w:World),(Instr.makeFunc fn first cap).run Go.Proofs.Tryd.prog w=.ok (.func fn first cap) w:=fun _ _ _ _=>rfl
 have p1:w.heap.size+1+1≠w.heap.size:=by omega
 have p2:w.heap.size+1≠w.heap.size:=by omega
 go_enter_defers Go.Proofs.Tryd.func8,Go.Proofs.Tryd.ntmps8
 go_wp2_with (first
  | (go_at_call 17;refine hc.mono ?_;rintro r w2 ⟨k,a0,a1,a2,a3,lo,hi,sp,sn,sc,S',rfl,hC0,hC1,hat2,hs0,hs1,hP⟩;have c00:=(hC0 0 _ rfl).1;have z00:=(hC0 0 _ rfl).2;have c01:=(hC0 1 _ rfl).1;have z01:=(hC0 1 _ rfl).2;have c02:=(hC0 2 _ rfl).1;have z02:=(hC0 2 _ rfl).2;have c03:=(hC0 3 _ rfl).1;have z03:=(hC0 3 _ rfl).2;have c04:=(hC0 4 _ rfl).1;have z04:=(hC0 4 _ rfl).2;have c05:=(hC0 5 _ rfl).1;have z05:=(hC0 5 _ rfl).2;have c06:=(hC0 6 _ rfl).1;have z06:=(hC0 6 _ rfl).2;have c07:=(hC0 7 _ rfl).1;have z07:=(hC0 7 _ rfl).2;have c10:=(hC1 0 _ rfl).1;have z10:=(hC1 0 _ rfl).2;have c11:=(hC1 1 _ rfl).1;have z11:=(hC1 1 _ rfl).2;have hl0:w.heap.size<w2.heap.size:=zu2 hC0;have hl1:w.heap.size+1<w2.heap.size:=zu2 hC1;have H0:=Go.Lib.hid hC0;have H1:=Go.Lib.hid hC1;have HP:=Go.Lib.hid hP;clear hc hC0 hC1 hP)
  | (go_at_call 18;refine fail_walk.mono ?_;rintro r w3 ⟨rfl,rfl⟩))
 have k0:Cl (((((((((w2).setCell { block:=w.heap.size,off:=0 } (Value.int IntKind.i64 k)).setCell { block:=w.heap.size,off:=1 } (Value.int IntKind.u64 a0)).setCell { block:=w.heap.size,off:=2 } (Value.int IntKind.u64 a1)).setCell { block:=w.heap.size,off:=3 } (Value.int IntKind.u64 a2)).setCell { block:=w.heap.size,off:=4 } (Value.int IntKind.u64 a3)).setCell { block:=w.heap.size,off:=5 } (Value.slice sp sn sc)).setCell { block:=w.heap.size,off:=6 } (Value.int IntKind.i64 lo)).setCell { block:=w.heap.size,off:=7 } (Value.int IntKind.i64 hi)) (w.heap.size) [.int .i64 k,.int .u64 a0,.int .u64 a1,.int .u64 a2,.int .u64 a3,.slice sp sn sc,.int .i64 lo,.int .i64 hi]:=(z4o (z4o (z4o (z4o (z4o (z4o (z4o (z4o H0.out 0 _) 1 _) 2 _) 3 _) 4 _) 5 _) 6 _) 7 _)
 have k1:Cl (((((((((w2).setCell { block:=w.heap.size,off:=0 } (Value.int IntKind.i64 k)).setCell { block:=w.heap.size,off:=1 } (Value.int IntKind.u64 a0)).setCell { block:=w.heap.size,off:=2 } (Value.int IntKind.u64 a1)).setCell { block:=w.heap.size,off:=3 } (Value.int IntKind.u64 a2)).setCell { block:=w.heap.size,off:=4 } (Value.int IntKind.u64 a3)).setCell { block:=w.heap.size,off:=5 } (Value.slice sp sn sc)).setCell { block:=w.heap.size,off:=6 } (Value.int IntKind.i64 lo)).setCell { block:=w.heap.size,off:=7 } (Value.int IntKind.i64 hi)) (w.heap.size+1) [.int .i64 0,.int .i64 0]:=(z1r (z1r (z1r (z1r (z1r (z1r (z1r (z1r H1.out p2.symm 0 _) p2.symm 1 _) p2.symm 2 _) p2.symm 3 _) p2.symm 4 _) p2.symm 5 _) p2.symm 6 _) p2.symm 7 _)
 have k2:PsW w S S' (((((((((w2).setCell { block:=w.heap.size,off:=0 } (Value.int IntKind.i64 k)).setCell { block:=w.heap.size,off:=1 } (Value.int IntKind.u64 a0)).setCell { block:=w.heap.size,off:=2 } (Value.int IntKind.u64 a1)).setCell { block:=w.heap.size,off:=3 } (Value.int IntKind.u64 a2)).setCell { block:=w.heap.size,off:=4 } (Value.int IntKind.u64 a3)).setCell { block:=w.heap.size,off:=5 } (Value.slice sp sn sc)).setCell { block:=w.heap.size,off:=6 } (Value.int IntKind.i64 lo)).setCell { block:=w.heap.size,off:=7 } (Value.int IntKind.i64 hi)):=((((((((HP.out.setCell (Nat.le_refl _) hs0).setCell (Nat.le_refl _) hs0).setCell (Nat.le_refl _) hs0).setCell (Nat.le_refl _) hs0).setCell (Nat.le_refl _) hs0).setCell (Nat.le_refl _) hs0).setCell (Nat.le_refl _) hs0).setCell (Nat.le_refl _) hs0)
 clear c00 z00 c01 z01 c02 z02 c03 z03 c04 z04 c05 z05 c06 z06 c07 z07 c10 z10 c11 z11;generalize (((((((((w2).setCell { block:=w.heap.size,off:=0 } (Value.int IntKind.i64 k)).setCell { block:=w.heap.size,off:=1 } (Value.int IntKind.u64 a0)).setCell { block:=w.heap.size,off:=2 } (Value.int IntKind.u64 a1)).setCell { block:=w.heap.size,off:=3 } (Value.int IntKind.u64 a2)).setCell { block:=w.heap.size,off:=4 } (Value.int IntKind.u64 a3)).setCell { block:=w.heap.size,off:=5 } (Value.slice sp sn sc)).setCell { block:=w.heap.size,off:=6 } (Value.int IntKind.i64 lo)).setCell { block:=w.heap.size,off:=7 } (Value.int IntKind.i64 hi))=W3 at *;refine leaves_cons (f:=16) (args:=#[.pointer (some ⟨w.heap.size,0,none⟩),.pointer (some ⟨w.heap.size+1,0,none⟩)]) (by simp) (by simp[go_sem]) ?_;refine (zt3 (R:=fun w'=>Cl w' (w.heap.size) [.int .i64 0,.int .u64 0,.int .u64 0,.int .u64 0,.int .u64 0,.slice none 0 0,.int .i64 0,.int .i64 0]/\Cl w' (w.heap.size+1) [.int .i64 2,.int .i64 at_]/\PsW w S S' w') (zhz k0 _) (zhz k1 _) p2.symm (Nat.ne_of_lt (zu2 k0)) (Nat.ne_of_lt (zu2 k1)) (fun w' g0 g1 g2=>⟨g0,g1,g2 w S S' k2 (Nat.le_refl _) (Nat.le_succ _) hs0 hs1⟩)).mono ?_;rintro r u w5 ⟨⟨v,rfl⟩,rfl,m0,m1,hP5⟩;have e00:=(m0 0 _ rfl).1;have e01:=(m0 1 _ rfl).1;have e02:=(m0 2 _ rfl).1;have e03:=(m0 3 _ rfl).1;have e04:=(m0 4 _ rfl).1;have e05:=(m0 5 _ rfl).1;have e06:=(m0 6 _ rfl).1;have e07:=(m0 7 _ rfl).1;have e10:=(m1 0 _ rfl).1;have e11:=(m1 1 _ rfl).1;clear m0 m1 hmf k0 k1 H0 H1;simp[Leaves,settle,results,Go.Proofs.Tryd.results8,go_sem,e00,e01,e02,e03,e04,e05,e06,e07,e10,e11];exact⟨S',hP5⟩
theorem zy5 {S:Hp}{y:NodT.den}{v:Value}(h:VR S NodT y v):∃ (k a0 a1 a2 a3 lo hi:Int) (sp:Option Addr) (sn sc:Nat),v=.agg #[.int .i64 k,.int .u64 a0,.int .u64 a1,.int .u64 a2,.int .u64 a3,.slice sp sn sc,.int .i64 lo,.int .i64 hi]:=by
 unfold VR at h;simp only[T.isAgg,if_true] at h;obtain⟨cs,e,h⟩:=h;obtain⟨c1,d1,e1,h1,c2,d2,e2,h2,c3,d3,e3,h3,c4,d4,e4,h4,c5,d5,e5,h5,h6⟩:=h;have h1:c1=[.int .i64 y.1]:=h1;have h4:c4=[.int .i64 y.2.2.2.1]:=h4;have h5:c5=[.int .i64 y.2.2.2.2.1]:=h5;have h6:d5=[]:=h6;obtain⟨hl,ha⟩:=h2;obtain⟨sp,sc,h3,_⟩:=h3;obtain⟨k,arr,sl,lo,hi,u⟩:=y
 match arr,hl with
 | [a0,a1,a2,a3],_ =>
   obtain⟨q0,r0,f0,g0,q1,r1,f1,g1,q2,r2,f2,g2,q3,r3,f3,g3,g4⟩:=ha;have g0:q0=[.int .u64 a0]:=g0;have g1:q1=[.int .u64 a1]:=g1;have g2:q2=[.int .u64 a2]:=g2;have g3:q3=[.int .u64 a3]:=g3;have g4:r3=[]:=g4;refine⟨k,a0,a1,a2,a3,lo,hi,sp,List.length sl,sc,?_⟩;rw[e];congr 1;apply Array.toList_inj.1;rw[e1,h1,e2,f0,g0,f1,g1,f2,g2,f3,g3,g4,e3,h3,e4,h4,e5,h5,h6];rfl
abbrev z16i:T:=.pair (.int .i64) (.pair (.int .i64) .unit)
def z1gs:NodT.den:=((0:Int),(([(0:Int),0,0,0]:List Int),(([]:List Go.Lift.Tree),((0:Int),((0:Int),())))))
theorem zul (S:Hp):VR S NodT z1gs (.agg #[Value.int IntKind.i64 0,Value.int IntKind.u64 0,Value.int IntKind.u64 0,Value.int IntKind.u64 0,Value.int IntKind.u64 0,Value.slice none 0 0,Value.int IntKind.i64 0,Value.int IntKind.i64 0]):=(z16l (t:=NodT) (x:=z1gs) rfl).mono (zb6 _)
theorem zx9 (S:Hp)(e a:Int):VR S z16i (e,a,()) (.agg #[.int .i64 e,.int .i64 a]):=(z16l (t:=z16i) (x:=(e,a,())) rfl).mono (zb6 _)
def zet (N:Nat)(s:List UInt8):Option (z43 [NodT,z16i]) :=
 cond (decide ((256:Int)<s.length))
 (some (z1gs,((3,256,()),())))
 (orP (z1o N (s,(0,(0,())))) (fun z=>some (z1gs,(z,())))
 ((zo N (s,(0,(0,())))).bind fun y =>
 cond (decide (y.2.1.2.1<(s.length:Int)))
 (some (z1gs,((2,y.2.1.2.1,()),())))
 (some (y.1,((0,0,()),())))))
def zgi (N:Nat):List A->Res:=z12 [(0,.v .str)] (fun x=>zet N x.1) (z7r (.tup [NodT,z16i]) 1)
theorem z1ny {w:World}{n:Nat}{cs:Array Value}{E:Nat}(h:w.heap[n]?=some (.cells cs E (0,0))):Cl w n cs.toList:=by
 intro i v hi;have hi':cs[i]?=some v:=by rw[<- Array.getElem?_toList];exact hi
 constructor
 . simp[World.cell?,h,hi']
 . simp[World.frozen?,h]
def psW (w:World)(s:List UInt8):World:=((w.alloc (Obj.cells #[Value.int IntKind.i64 0,Value.int IntKind.u64 0,Value.int IntKind.u64 0,Value.int IntKind.u64 0,Value.int IntKind.u64 0,Value.slice none 0 0,Value.int IntKind.i64 0,Value.int IntKind.i64 0] 39)).alloc (Obj.cells #[Value.int IntKind.i64 0,Value.int IntKind.i64 0] 41)).alloc (Obj.cells #[Value.string ⟨⟨s⟩⟩,Value.int IntKind.i64 0,Value.int IntKind.i64 0] 58)
theorem zt4 (w:World)(s:List UInt8):(psW w s).heap.size=w.heap.size+3/\(psW w s).heap[w.heap.size]?=some (.cells #[Value.int IntKind.i64 0,Value.int IntKind.u64 0,Value.int IntKind.u64 0,Value.int IntKind.u64 0,Value.int IntKind.u64 0,Value.slice none 0 0,Value.int IntKind.i64 0,Value.int IntKind.i64 0] 39 (0,0))/\(psW w s).heap[w.heap.size+1]?=some (.cells #[Value.int IntKind.i64 0,Value.int IntKind.i64 0] 41 (0,0)) ∧
 (psW w s).heap[w.heap.size+1+1]?=some (.cells #[Value.string ⟨⟨s⟩⟩,Value.int IntKind.i64 0,Value.int IntKind.i64 0] 58 (0,0))/\(∀ k,k<w.heap.size->(psW w s).heap[k]?=w.heap[k]?) ∧
 (psW w s).tape=w.tape/\(psW w s).os=w.os/\(psW w s).output=w.output:=by
 have hh:(psW w s).heap=((w.heap.push (.cells #[Value.int IntKind.i64 0,Value.int IntKind.u64 0,Value.int IntKind.u64 0,Value.int IntKind.u64 0,Value.int IntKind.u64 0,Value.slice none 0 0,Value.int IntKind.i64 0,Value.int IntKind.i64 0] 39 (0,0))).push (.cells #[Value.int IntKind.i64 0,Value.int IntKind.i64 0] 41 (0,0))).push (.cells #[Value.string ⟨⟨s⟩⟩,Value.int IntKind.i64 0,Value.int IntKind.i64 0] 58 (0,0)):=rfl;refine⟨by rw[hh];simp,?_,?_,?_,fun k hk=>?_,rfl,rfl,rfl⟩
 . rw[hh,Array.getElem?_push,if_neg (by simp;omega),Array.getElem?_push,if_neg (by simp),Array.getElem?_push,if_pos rfl]
 . rw[hh,Array.getElem?_push,if_neg (by simp),Array.getElem?_push,if_pos (by simp)]
 . rw[hh,Array.getElem?_push,if_pos (by simp)]
 . rw[hh,Array.getElem?_push,if_neg (by simp;omega),Array.getElem?_push,if_neg (by simp;omega),Array.getElem?_push,if_neg (by omega)]
theorem z17v {w:World}{s:List UInt8}{S:Hp}(hS:Lift.Sub S (hp w)):ArgsRel (hp (psW w s)) S [.box PrsT (s,(0,(0,())))] [.pointer (some ⟨w.heap.size+1+1,0,none⟩)] (fun i=>if i=0 then [w.heap.size+1+1] else [])/\Lift.Sub S (hp (psW w s)):=by
 obtain⟨f1,f2,f3,f4,f5,_⟩:=zt4 w s;have hsub:Lift.Sub S (hp (psW w s)):=fun k q hk=>by
  have:=hS k q hk;simp only[hp] at this ⊢;rw[f5 k (z6x (hS k q hk))];exact this
 refine⟨z155 (w:=psW w s) (args:=[]) (vals:=[]) ?_ (by simp) (fun k hk=>?_) ⟨rfl,fun i x h=>(by cases h),fun _ _=>rfl,fun i j b hb=>(by cases hb),fun _=>.nil,fun i b hb=>(by cases hb)⟩,hsub⟩
 . refine⟨w.heap.size+1+1,_,_,_,[],rfl,rfl,f4,zgw _,RdO.of_rd PrsT _ _ ?_⟩;exact⟨[.string ⟨⟨s⟩⟩],_,rfl,rfl,[.int .i64 0],_,rfl,rfl,[.int .i64 0],[],rfl,rfl,rfl⟩
 . have:k=w.heap.size+1+1:=by simpa using hk
   subst this;cases hx:S (w.heap.size+1+1) with
   | none=>rfl
   | some o=>exact absurd (z6x (hS _ _ hx)) (by omega)
theorem zrl {w:World}{S:Hp}(hS:Lift.Sub S (hp w)){k:Nat}(hk:w.heap.size<=k):S k=none:=by
 cases hx:S k with
 | none=>rfl
 | some o=>exact absurd (z6x (hS _ _ hx)) (by omega)
theorem zxy {w w2:World}{s:List UInt8}{S S':Hp}(hS:Lift.Sub S (hp w))(hwf:WF (psW w s) (fun b=>∃ i,b∈(fun i=>if i=0 then [w.heap.size+1+1] else []) i) w2)(hSS:Lift.Sub S S')(hSw:Lift.Sub S' (hp w2))
 (hnew:∀ b,S' b≠none->S b≠none\/b=w.heap.size+1+1\/(psW w s).heap.size<=b) :
 Cl w2 w.heap.size [.int .i64 0,.int .u64 0,.int .u64 0,.int .u64 0,.int .u64 0,.slice none 0 0,.int .i64 0,.int .i64 0]/\Cl w2 (w.heap.size+1) [.int .i64 0,.int .i64 0]/\S' w.heap.size=none/\S' (w.heap.size+1)=none/\PsW w S S' w2:=by
 obtain⟨f1,f2,f3,f4,f5,f6,f7,f8⟩:=zt4 w s;have hin:∀ k,(∃ i,k∈(fun i=>if i=0 then [w.heap.size+1+1] else []) i)->k=w.heap.size+1+1:=by
  rintro k ⟨i,hi⟩;by_cases hi0:i=0
  . simpa[hi0] using hi
  . simp[hi0] at hi
 have g0:=hwf.same w.heap.size (by omega) (fun h=>by have:=hin _ h;omega);have g1:=hwf.same (w.heap.size+1) (by omega) (fun h=>by have:=hin _ h;omega);rw[f2] at g0;rw[f3] at g1;refine⟨z1ny g0,z1ny g1,?_,?_,⟨by have:=hwf.size;omega,fun k hk _=>?_,hwf.tape.trans f6,hwf.os.trans f7,hwf.output.trans f8⟩,hSS,hSw,fun k hk=>?_⟩
 . cases hx:S' w.heap.size with
   | none=>rfl
   | some o =>
     rcases hnew _ (by rw[hx];simp) with h|h|h
     . exact absurd (zrl hS (Nat.le_refl _)) h
     . omega
     . omega
 . cases hx:S' (w.heap.size+1) with
   | none=>rfl
   | some o =>
     rcases hnew _ (by rw[hx];simp) with h|h|h
     . exact absurd (zrl hS (by omega)) h
     . omega
     . omega
 . rw[hwf.same k (by omega) (fun h=>by have:=hin _ h;omega),f5 k hk]
 . rcases hnew k hk with h|h|h
   . exact .inl h
   . exact .inr (by omega)
   . exact .inr (by omega)
theorem z1db {w:World}{S:Hp}{x:PrsT.den}{b:Nat}{o:List Nat}(h:ARel (hp w) S (fun _=>undef) (.box PrsT x) (.pointer (some ⟨b,0,none⟩)) o):w.cell? ⟨b,1,none⟩=some (.int .i64 x.2.1):=by
 obtain⟨b',cs,E,fr,bs,e,e',hb,hf,hr⟩:=h;cases e';obtain⟨_,c1,d1,hc,h1,c2,d2,hc2,h2,h3⟩:=RdO.rd PrsT x _ _ rfl hr;have k1:c1=[.string ⟨⟨x.1⟩⟩]:=h1;have k2:c2=[.int .i64 x.2.1]:=h2;have:cs[1]?=some (.int .i64 x.2.1):=by
  rw[<- Array.getElem?_toList,hc,k1,hc2,k2];rfl
 have hb:w.heap[b]?=some (.cells cs E fr):=hb;simp[World.cell?,hb,this]
theorem zrm {w w':World}{s:List UInt8}{S S':Hp}{ob:Nat->List Nat}{y:z43 [NodT,z16i]}{v1 v2:Value}(hob:∀ i,ob i=[])(hP:PsW w S S' w')(h1:VR S' NodT y.1 v1)(h2:VR S' z16i y.2.1 v2) :
 Lift.Ends w S (mkS [(0,.v .str)] 0 (s,())) [.string ⟨⟨s⟩⟩] ob (z7r (.tup [NodT,z16i]) 1 y).1 (z7r (.tup [NodT,z16i]) 1 y).2 (.returned (.tuple #[v1,v2])) w':=by
 obtain⟨k1,k2,k3,k4⟩:=hP;refine⟨_,S',[],ob,rfl,⟨k1.size,fun k hk _=>k1.same k hk (fun h=>h),k1.tape,k1.os,k1.output⟩,k2,k3,fun k hk=>?_,⟨⟨rfl,_,rfl,.cons h1 (.cons h2 .nil)⟩,rfl⟩,(fun k hk=>by cases hk),.nil,?_,?_,?_,?_,fun _ h=>h⟩
 . rcases k4 k hk with h|h
   . exact .inl h
   . exact .inr (.inr h)
 . intro i x hx hbx
   match i with
   | 0=>simp[mkS,zcm,AS.mk] at hx;subst hx;simp[zcy] at hbx
   | i+1=>simp[mkS,zcm] at hx
 . intro i k hk;rw[hob i] at hk;cases hk
 . intro i j k hi;rw[hob i] at hi;cases hi
 . intro i;rw[hob i];exact .nil
theorem zpv (N:Nat):Contract Go.Proofs.Tryd.prog glob 8 (zgi N):=by
 refine Contract.hand ⟨_,Go.Proofs.Tryd.func8,by kernel_rfl,by decide⟩ ?_;intro w S vals ob x y har hS hg hy;obtain⟨s,u⟩:=x;cases u;have hob:∀ i,ob i=[]:=by
  intro i;rcases i with _|i
  . obtain⟨⟨v,hv,hA⟩,_⟩:=har.rel 0 _ rfl;exact hA.2
  . exact har.out _ (by simp[mkS,zcm])
 have hvals:vals=[.string ⟨⟨s⟩⟩]:=by
  have hlen:=har.len;obtain⟨⟨v0,hv0,hA0⟩,_⟩:=har.rel 0 _ rfl;have e0:v0=.string ⟨⟨s⟩⟩:=VR.str_inv hA0.1
  match vals,hlen with
  | [a],_=>cases hv0;rw[e0]
 subst hvals;have hy:zet N s=some y:=hy;unfold zet at hy;by_cases hlen:(256:Int)<s.length
 . rw[decide_eq_true hlen] at hy;cases hy;refine (z17u hS hlen).mono ?_;rintro r w' ⟨rfl,hP⟩;exact zrm hob hP (zul _) (zx9 _ _ _)
 . rw[decide_eq_false hlen] at hy;simp only[cond_false] at hy;obtain⟨hA,hSB⟩:=z17v (s:=s) hS;rcases zrq hy with⟨z,hz,hK⟩|⟨_,hK⟩
   . cases hK;have hc:=(z4t N).2 (psW w s) S _ _ _ hA hSB hg z hz;refine (z1d9 hlen (zrl hS (Nat.le_refl _)) (zrl hS (Nat.le_succ _)) (e:=z.1) (a:=z.2.1) (hc.mono ?_)).mono ?_
     . rintro e w2 ⟨rfl,hwf,hsub⟩;obtain⟨q1,q2,q3,q4,q5⟩:=zxy hS hwf (Lift.Sub.refl S) hsub (fun b hb=>.inl hb);exact⟨rfl,q1,q2,q5⟩
     . rintro r w' ⟨rfl,hP⟩;obtain⟨z1,z2,u⟩:=z;exact zrm hob hP (zul _) (zx9 _ _ _)
   . obtain⟨q,hq,hK⟩:=Option.bind_eq_some_iff.1 hK;have hc:=(z2d N).2 (psW w s) S _ _ _ hA hSB hg q hq;have key:∀ e w2,Lift.Ends (psW w s) S [.box PrsT (s,(0,(0,())))] [.pointer (some ⟨w.heap.size+1+1,0,none⟩)] (fun i=>if i=0 then [w.heap.size+1+1] else []) (.v NodT q.1) [.box PrsT q.2.1] e w2 →
      ∃ v S',e=.returned v/\VR S' NodT q.1 v/\Cl w2 w.heap.size [.int .i64 0,.int .u64 0,.int .u64 0,.int .u64 0,.int .u64 0,.slice none 0 0,.int .i64 0,.int .i64 0]/\Cl w2 (w.heap.size+1) [.int .i64 0,.int .i64 0]/\w2.cell? ⟨w.heap.size+1+1,1,none⟩=some (.int .i64 q.2.1.2.1)/\S' w.heap.size=none/\S' (w.heap.size+1)=none/\PsW w S S' w2:=by
      rintro e w2 ⟨v,S',o,ob',rfl,hwf,hSS,hSw,hnew,⟨hr,_⟩,_,_,hbox,_⟩;obtain⟨x2,v2,g1,g2,_,g4⟩:=hbox 0 _ rfl rfl;simp at g1 g2;subst g1;subst g2;obtain⟨q1,q2,q3,q4,q5⟩:=zxy hS hwf hSS hSw (fun b hb=>by
       rcases hnew b hb with h|⟨i,hi⟩|h
       . exact .inl h
       . by_cases hi0:i=0
         . simp[hi0] at hi;exact .inr (.inl hi)
         . simp[hi0] at hi
       . exact .inr (.inr h))
      exact⟨v,S',rfl,hr.1,q1,q2,z1db g4,q3,q4,q5⟩
     by_cases hat:q.2.1.2.1<(s.length:Int)
     . rw[decide_eq_true hat] at hK;cases hK;refine (z1da (S:=S) hlen (at_:=q.2.1.2.1) (hc.mono ?_) hat).mono ?_
       . intro e w2 h;obtain⟨v,S',rfl,hv,q1,q2,q3,q4,q5,q6⟩:=key e w2 h;obtain⟨k,a0,a1,a2,a3,lo,hi,sp,sn,sc,rfl⟩:=zy5 hv;exact⟨k,a0,a1,a2,a3,lo,hi,sp,sn,sc,S',rfl,q1,q2,q3,q4,q5,q6⟩
       . rintro r w' ⟨rfl,S',hP⟩;exact zrm hob hP (zul _) (zx9 _ _ _)
     . rw[decide_eq_false hat] at hK;cases hK;refine (ps_ok (S:=S) hlen (at_:=q.2.1.2.1) (F:=fun S' v=>VR S' NodT q.1 v) (hc.mono ?_) hat).mono ?_
       . intro e w2 h;obtain⟨v,S',rfl,hv,q1,q2,q3,q4,q5,q6⟩:=key e w2 h;obtain⟨k,a0,a1,a2,a3,lo,hi,sp,sn,sc,rfl⟩:=zy5 hv;exact⟨k,a0,a1,a2,a3,lo,hi,sp,sn,sc,S',rfl,q1,q2,q3,q4,q5,q6,hv⟩
       . rintro r w' ⟨v,S',rfl,hv,hP⟩;exact zrm hob hP hv (zx9 _ _ _)
end
end Go.Proofs.YtjbcpimnlgogiaaDoorLg
set_option linter.all false
set_option maxRecDepth 100000
namespace Go.Proofs.YtjbcpimnlgogiaaDoorLg
noncomputable section
open Go Go.Lift Go.Proofs
abbrev E8:T:=.arr 8 (.int .u64)
abbrev BR:T:=.pair (.mp E8 (.int .i64)) (.pair (.own E8) (.pair (.pair (.int .i64) (.pair (.own .bool) (.pair (.sl (.int .i64)) (.pair (.own (.sl (.int .i64))) .unit)))) .unit))
abbrev B1:T:=.pair E8 (.pair E8 (.pair (.own E8) (.pair (.own E8) BR)))
abbrev B2:T:=.pair E8 (.pair E8 (.pair (.sl E8) (.pair (.sl E8) BR)))
abbrev B3:T:=.pair E8 (.pair E8 (.pair (.sl E8) (.pair (.sl E8) (.pair (.mp E8 (.int .i64)) (.pair (.own E8) (.pair D18 .unit))))))
theorem z1nt {m:Nat×Nat}{h S:Hp}{x:B2.den}{cs:List Value}{bs:List Nat}(hr:RdO m h S B2 x cs bs):∃ b1 b2,bs=b2++b1/\∀ S',Lift.Sub S S'->(∀ k∈b1,S' k=h k)->RdO m h S' B3 x cs b2:=by
 obtain⟨c1,c2,q1,q2,rfl,rfl,h1,c3,c4,q3,q4,rfl,rfl,h2,c5,c6,q5,q6,rfl,rfl,h3,c7,c8,q7,q8,rfl,rfl,h4,c9,c10,q9,q10,rfl,rfl,h5,c11,c12,q11,q12,rfl,rfl,h6,c13,c14,q13,q14,rfl,rfl,⟨d1,d2,r1,r2,rfl,rfl,g1,d3,d4,r3,r4,rfl,rfl,g2,d5,d6,r5,r6,rfl,rfl,g3,d7,d8,r7,r8,rfl,rfl,g4,g5⟩,h8⟩:=hr;obtain rfl:q1=[]:=h1.1;obtain rfl:q3=[]:=h2.1;obtain rfl:q5=[]:=h3.1;obtain rfl:q7=[]:=h4.1;obtain rfl:q14=[]:=h8.1;obtain rfl:r1=[]:=g1.1;obtain rfl:r5=[]:=g3.1;obtain rfl:r8=[]:=g5.1;obtain⟨v3,rfl,k3⟩:=g2;obtain⟨v7,rfl,k7⟩:=g4;refine⟨r3++r7,q9++q11,by simp,fun S' hS hb=>?_⟩;have e1:RdO m h S' E8 x.1 c1 []:=⟨rfl,h1.2.mono hS⟩
 have e2:RdO m h S' E8 x.2.1 c3 []:=⟨rfl,h2.2.mono hS⟩
 have e3:RdO m h S' (.sl E8) x.2.2.1 c5 []:=⟨rfl,h3.2.mono hS⟩
 have e4:RdO m h S' (.sl E8) x.2.2.2.1 c7 []:=⟨rfl,h4.2.mono hS⟩
 have e5:=RdO.mono hS (.mp E8 (.int .i64)) _ _ _ (fun k hk=>rfl) h5;have e6:=RdO.mono hS (.own E8) _ _ _ (fun k hk=>rfl) h6;have e8:RdO m h S' .unit x.2.2.2.2.2.2.2 c14 []:=⟨rfl,h8.2.mono hS⟩
 have f1:RdO m h S' (.int .i64) x.2.2.2.2.2.2.1.1 d1 []:=⟨rfl,g1.2.mono hS⟩
 have f2:RdO m h S' (.sl .bool) x.2.2.2.2.2.2.1.2.1 [v3] []:=⟨rfl,k3.shared hS (fun k hk=>hb k (List.mem_append_left _ hk))⟩
 have f3:RdO m h S' (.sl (.int .i64)) x.2.2.2.2.2.2.1.2.2.1 d5 []:=⟨rfl,g3.2.mono hS⟩
 have f4:RdO m h S' (.sl (.sl (.int .i64))) x.2.2.2.2.2.2.1.2.2.2.1 [v7] []:=⟨rfl,k7.shared hS (fun k hk=>hb k (List.mem_append_right _ hk))⟩
 have f5:RdO m h S' .unit x.2.2.2.2.2.2.1.2.2.2.2 d8 []:=⟨rfl,g5.2.mono hS⟩
 exact⟨c1,_,[],_,rfl,rfl,e1,c3,_,[],_,rfl,rfl,e2,c5,_,[],_,rfl,rfl,e3,c7,_,[],_,rfl,rfl,e4,c9,_,q9,q11,rfl,rfl,e5,c11,_,q11,[],rfl,by simp,e6,_,c14,[],[],rfl,rfl,⟨d1,_,[],[],rfl,rfl,f1,[v3],_,[],[],rfl,rfl,f2,d5,_,[],[],rfl,rfl,f3,[v7],d8,[],[],rfl,rfl,f4,f5⟩,e8⟩
theorem frz18 {m:Nat×Nat}{h S:Hp}{x:B1.den}{cs:List Value}{bs:List Nat}(hr:RdO m h S B1 x cs bs):∃ b1 b2,bs=b1++b2/\∀ S',Lift.Sub S S'->(∀ k∈b1,S' k=h k)->RdO m h S' B2 x cs b2:=by
 obtain⟨c1,c2,q1,q2,rfl,rfl,h1,c3,c4,q3,q4,rfl,rfl,h2,c5,c6,q5,q6,rfl,rfl,h3,c7,c8,q7,q8,rfl,rfl,h4,h5⟩:=hr;obtain rfl:q1=[]:=h1.1;obtain rfl:q3=[]:=h2.1;obtain⟨v3,rfl,r3⟩:=h3;obtain⟨v4,rfl,r4⟩:=h4;refine⟨q5++q7,q8,by simp,fun S' hS hb=>?_⟩;have e1:RdO m h S' E8 x.1 c1 []:=⟨rfl,h1.2.mono hS⟩
 have e2:RdO m h S' E8 x.2.1 c3 []:=⟨rfl,h2.2.mono hS⟩
 have e3:RdO m h S' (.sl E8) x.2.2.1 [v3] []:=⟨rfl,r3.shared hS (fun k hk=>hb k (List.mem_append_left _ hk))⟩
 have e4:RdO m h S' (.sl E8) x.2.2.2.1 [v4] []:=⟨rfl,r4.shared hS (fun k hk=>hb k (List.mem_append_right _ hk))⟩
 exact⟨c1,_,[],q8,rfl,rfl,e1,c3,_,[],q8,rfl,rfl,e2,[v3],_,[],q8,rfl,rfl,e3,[v4],c8,[],q8,rfl,rfl,e4,RdO.mono hS BR _ _ _ (fun k hk=>rfl) h5⟩
def zr2 (N:Nat):List A->Res:=z12 [(0,.box B1)] (fun x=>z65 N x.1) (z3t (.v .bool) [(0,.box B3)] 0)
set_option maxHeartbeats 2000000 in
theorem z12y (N:Nat):Contract Go.Proofs.Tryd.prog glob 24 (zr2 N):=by
 refine Contract.hand (zax N).1 ?_;intro w S vals ob x y har hS hg hy;obtain⟨x,u⟩:=x;cases u;dsimp only at hy;obtain⟨⟨v,hv,hA⟩,_⟩:=har.rel 0 _ rfl;have hvals:vals=[v]:=by
  match vals,har.len,hv with
  | [a],_,h1=>simp at h1;rw[h1]
 subst hvals;obtain⟨b,cs,E,fr,bs,hob,rfl,hb,hfr,hr⟩:=hA;obtain⟨b1,b2,rfl,hz⟩:=frz18 hr;have hnd:=har.nd 0;rw[hob] at hnd;have hhid:∀ k∈b::(b1++b2),S k=none:=fun k hk=>har.hid 0 k (by rw[hob];exact hk)
 have hS1:Lift.Sub S (fun k=>if k∈b1 then hp w k else S k):=by
  intro k o hk;dsimp only;rw[if_neg (fun hm=>by rw[hhid k (by simp[hm])] at hk;cases hk)];exact hk
 have hS2:Lift.Sub (fun k=>if k∈b1 then hp w k else S k) (hp w):=by
  intro k o hk;dsimp only at hk;split at hk
  . exact hk
  . exact hS k o hk
 have hr2:=hz _ hS1 (fun k hk=>if_pos hk);have hdis:∀ k∈b::b2,k∉b1:=by
  intro k hk h1;rw[List.nodup_cons,List.nodup_append] at hnd;rcases List.mem_cons.1 hk with rfl|hk
  . exact hnd.1 (List.mem_append_left _ h1)
  . exact hnd.2.2.2 k h1 k hk rfl
 have har2:ArgsRel (hp w) (fun k=>if k∈b1 then hp w k else S k) [.box B2 x] [.pointer (some ⟨b,0,none⟩)] (fun i=>if i=0 then b::b2 else []):=by
  refine⟨rfl,fun i z hi=>?_,fun i hi=>if_neg (by intro e;subst e;simp at hi),fun i j k hi hj=>?_,fun i=>?_,fun i k hk=>?_⟩
  . match i with
    | 0 =>
      simp at hi;subst hi;exact⟨⟨_,rfl,b,cs,E,fr,b2,rfl,rfl,hb,hfr,hr2⟩,rfl⟩
    | i+1=>simp at hi
  . by_cases hi0:i=0<;>by_cases hj0:j=0<;>simp_all
  . by_cases hi0:i=0
    . simp only[hi0,if_true];rw[List.nodup_cons,List.nodup_append] at hnd;exact List.nodup_cons.2 ⟨fun h=>hnd.1 (List.mem_append_right _ h),hnd.2.2.1⟩
    . simp[hi0]
  . by_cases hi0:i=0
    . simp only[hi0,if_true] at hk;rw[if_neg (hdis k hk)];refine hhid k ?_;simp only[List.mem_cons,List.mem_append] at hk ⊢;rcases hk with h|h
      . exact .inl h
      . exact .inr (.inr h)
    . simp[hi0] at hk
 have hin:∀ k,(∃ i,k∈(fun i=>if i=0 then b::b2 else []:Nat->List Nat) i)->∃ i,k∈ob i:=by
  rintro k ⟨i,hi⟩;by_cases hi0:i=0
  . simp only[hi0,if_true] at hi;refine⟨0,?_⟩;rw[hob];simp only[List.mem_cons,List.mem_append] at hi ⊢;rcases hi with h|h
    . exact .inl h
    . exact .inr (.inr h)
  . simp[hi0] at hi
 refine ((zax N).2 w _ _ _ _ har2 hS2 (hg.mono hS1) y hy).mono ?_;rintro e w' ⟨v',S'',o,ob'',rfl,hwf,hSS,hSw,hnew,hrr,ho,hod,hbox,hobc,hinj,hndc,hnil⟩;obtain⟨z1,z2,hz1,hz2,_,hA1⟩:=hbox 0 _ rfl rfl;cases hz1;simp at hz2;subst hz2;obtain⟨b',cs',E',fr',bs',hob1,hpt,hb',hfr',hr'⟩:=hA1;cases hpt;obtain⟨d1,d2,rfl,hw2⟩:=z1nt hr';have hn0:=hndc 0;rw[hob1] at hn0;have hc0:∀ k∈b::(d2++d1),(k∈b::b2\/w.heap.size<=k)/\S'' k=none/\k∉o:=fun k hk=>by
  obtain⟨g1,g2,g3⟩:=hobc 0 k (by rw[hob1];exact hk);refine⟨?_,g2,g3⟩;rcases g1 with⟨j,hj⟩|h
  . by_cases hj0:j=0
    . simp only[hj0,if_true] at hj;exact .inl hj
    . simp[hj0] at hj
  . exact .inr h
 have hT1:Lift.Sub S'' (fun k=>if k∈d1 then hp w' k else S'' k):=by
  intro k q hk;dsimp only;rw[if_neg (fun hm=>by rw[(hc0 k (by simp[hm])).2.1] at hk;cases hk)];exact hk
 have hT2:Lift.Sub (fun k=>if k∈d1 then hp w' k else S'' k) (hp w'):=by
  intro k q hk;dsimp only at hk;split at hk
  . exact hk
  . exact hSw k q hk
 have hr3:=hw2 _ hT1 (fun k hk=>if_pos hk);have hin2:∀ k∈b::b2,∃ i,k∈ob i:=fun k hk=>hin k ⟨0,by simpa using hk⟩
 have hin3:∀ k,k∈b::(d2++d1)->(∃ i,k∈ob i)\/w.heap.size<=k:=fun k hk=>by
  rcases (hc0 k hk).1 with h|h
  . exact .inl (hin2 k h)
  . exact .inr h
 have hd3:∀ k∈b::d2,k∉d1:=by
  intro k hk h1;rw[List.nodup_cons,List.nodup_append] at hn0;rcases List.mem_cons.1 hk with rfl|hk
  . exact hn0.1 (List.mem_append_right _ h1)
  . exact hn0.2.2.2 k hk k h1 rfl
 have ho0:o=[]:=hrr.1.2;subst ho0;refine⟨v',fun k=>if k∈d1 then hp w' k else S'' k,[],fun i=>if i=0 then b::d2 else [],rfl,⟨hwf.size,fun k hk hn=>hwf.same k hk (fun h=>hn (hin k h)),hwf.tape,hwf.os,hwf.output⟩,(hS1.trans hSS).trans hT1,hT2,fun k hk=>?_,⟨⟨hrr.1.1.mono hT1,rfl⟩,rfl⟩,(fun k hk=>by cases hk),.nil,fun i z hi hbx=>?_,fun i k hk=>?_,fun i j k hi hj=>?_,fun i=>?_,fun i hi=>?_⟩
 . dsimp only at hk;by_cases hkd:k∈d1
   . rcases hin3 k (List.mem_cons_of_mem _ (List.mem_append_right _ hkd)) with h|h
     . exact .inr (.inl h)
     . exact .inr (.inr h)
   . rw[if_neg hkd] at hk;rcases hnew k hk with h|h|h
     . dsimp only at h;by_cases hkb:k∈b1
       . exact .inr (.inl ⟨0,by rw[hob];exact List.mem_cons_of_mem _ (List.mem_append_left _ hkb)⟩)
       . rw[if_neg hkb] at h;exact .inl h
     . exact .inr (.inl (hin k h))
     . exact .inr (.inr h)
 . match i with
   | 0=>exact⟨_,_,rfl,rfl,rfl,b,cs',E',fr',d2,rfl,rfl,hb',hfr',hr3⟩
   | i+1=>simp[mkS,zcm] at hi
 . by_cases hi0:i=0
   . simp only[hi0,if_true] at hk;have hk':k∈b::(d2++d1):=by
      simp only[List.mem_cons,List.mem_append] at hk ⊢;rcases hk with h|h
      . exact .inl h
      . exact .inr (.inl h)
     exact⟨hin3 k hk',by dsimp only;rw[if_neg (hd3 k hk)];exact (hc0 k hk').2.1,by simp⟩
   . simp[hi0] at hk
 . by_cases hi0:i=0<;>by_cases hj0:j=0<;>simp_all
 . by_cases hi0:i=0
   . simp only[hi0,if_true];rw[List.nodup_cons,List.nodup_append] at hn0;exact List.nodup_cons.2 ⟨fun h=>hn0.1 (List.mem_append_left _ h),hn0.2.1⟩
   . simp[hi0]
 . by_cases hi0:i=0
   . subst hi0;rw[hob] at hi;cases hi
   . dsimp only;rw[if_neg hi0]
end
end Go.Proofs.YtjbcpimnlgogiaaDoorLg
set_option linter.all false
set_option maxRecDepth 100000
namespace Go.Proofs.YtjbcpimnlgogiaaDoorLg
noncomputable section
open Go Go.Lift
def zjm:Code:=(Tryd.f38.body).getD .skip
def z1oc:List (List Nat×List Nat):=[([0],[0,1]),([0,1],[0,4,1]),([0,0,1,1],[9,8,7,4,1]),([0,1,0,1,1],[9,8,7,4,1]),(z13d,[10,7,9,4,1,8]),(z10h,[7,9,4,1,8]),(z13g,[1]),(z13h,[6,4,1,9,8,7]),(z1o9,[22,1,6,9,8,7]),([1,0,1,0,0,1,1,0,0,1,0,1,1],[6,9,8,7,1]),([0,0,1,0,1,0,0,1,1,0,0,1,0,1,1],[3,1]),([1,0,1,0,1,0,0,1,1,0,0,1,0,1,1],[3,1]),(z15c,[9,8,7,4,1]),(z13f,[9,8,7,4,1]),(z13e,[9,8,7,4,1]),([1,0,1,1],[1]),([0,1,1,1],[3,1]),([1,1,1,1],[3,1])]
def z1cm (N:Nat):Env:=z1m tys glob [] [] [] [1] false [] [(44,za N)]
theorem z1on (N:Nat):EnvOk Tryd.prog (z1cm N):=zi mixed zr (FnsOk.nil) (ItsOk.cons (zb N) (ItsOk.nil))
def zfi (N:Nat)(x1:z8q)(low:Int)(i:Int)(x7:(List Int))(x8:Int)(x9:Int)(k0:Bool->Option (Bool×(z8q×Unit))):Option (Bool×(z8q×Unit)) :=
 cond (decide (i<low))
 (k0 true)
 (k0 (decide ((((List.length x1.1):Nat):Int)<=i)))
def z1l0 (N:Nat)(x:z16 z1cb)(K:Ex->List A->Option (Bool×(z8q×Unit))):Option (Bool×(z8q×Unit)) :=
 zfi N x.1 x.2.1 x.2.2.1 x.2.2.2.1 x.2.2.2.2.1 x.2.2.2.2.2.1 (fun a5=>(K .normal (mkS [(1,.box TT8),(4,.v (.int .i64)),(0,.v (.sl (.int .i64))),(0,.v (.int .i64)),(0,.v (.int .i64)),(12,.v .bool)] 3 (x.1,x.2.2.1,x.2.2.2.1,x.2.2.2.2.1,x.2.2.2.2.2.1,a5,()))))
def z1hr (N:Nat):Hd (Bool×(z8q×Unit)):=fun st K=>(unS z1cb 16 (restr [6,4,1,9,8,7] 0 st)).bind fun x=>z1l0 N x K
def t3_81 (N:Nat):Tab (Bool×(z8q×Unit)):=[]
theorem z1dx {N:Nat}{c:Ctx}(hb:Base Tryd.prog (z1cm N) c):zk Tryd.prog c (zh zjm z1o9) (z1hr N) :=
 zw (s:=z1cb) (m:=16) (g:=z1l0 N) [6,4,1,9,8,7] (zg hb N (t3_81 N) z1oc zjm TabOk.nil z1o9 _ rfl) (fun x K=>by kernel_rfl)
def zfj (N:Nat)(x1:z8q)(low:Int)(i:Int)(x7:(List Int))(x8:Int)(x9:Int)(k0:Bool->Option (Bool×(z8q×Unit)))(k1:Option (Bool×(z8q×Unit))):Option (Bool×(z8q×Unit)) :=
 zfi N x1 low i x7 x8 x9
 (fun x22=>cond x22
 (k0 false)
 (k1))
def z1lg (N:Nat)(x:z16 z1cb)(K:Ex->List A->Option (Bool×(z8q×Unit))):Option (Bool×(z8q×Unit)) :=
 zfj N x.1 x.2.1 x.2.2.1 x.2.2.2.1 x.2.2.2.2.1 x.2.2.2.2.2.1 (fun a1=>(K .ret (mkS [(1,.box TT8),(1,.v .bool)] 22 (x.1,a1,())))) (K .normal (mkS [(1,.box TT8),(4,.v (.int .i64)),(0,.v (.sl (.int .i64))),(0,.v (.int .i64)),(0,.v (.int .i64))] 16 (x.1,x.2.2.1,x.2.2.2.1,x.2.2.2.2.1,x.2.2.2.2.2.1,())))
def z1i7 (N:Nat):Hd (Bool×(z8q×Unit)):=fun st K=>(unS z1cb 16 (restr [6,4,1,9,8,7] 0 st)).bind fun x=>z1lg N x K
def t2_81 (N:Nat):Tab (Bool×(z8q×Unit)):=[(z1o9,z1hr N)]
theorem z1ed {N:Nat}{c:Ctx}(hb:Base Tryd.prog (z1cm N) c):zk Tryd.prog c (zh zjm z13q) (z1i7 N) :=
 zw (s:=z1cb) (m:=16) (g:=z1lg N) [6,4,1,9,8,7] (zg hb N (t2_81 N) z1oc zjm (TabOk.cons (z1dx hb) TabOk.nil) z13q _ rfl) (fun x K=>by kernel_rfl)
def zfh (N:Nat)(x1:z8q)(x7:(List Int))(x8:Int)(low:Int)(x9:Int)(rec:Int->Int->Option (Bool×(z8q×Unit)))(k0:Bool->Option (Bool×(z8q×Unit)))(k1:Option (Bool×(z8q×Unit))):Option (Bool×(z8q×Unit)) :=
 cond (decide (x9<x8))
 (cond (inR x9 (List.length x7))
 (zfj N x1 low (List.getD x7 (Int.toNat x9) (0:Int)) x7 x8 x9
 (fun x3=>k0 x3)
 (rec (IntKind.wrap IntKind.i64 ((List.getD x7 (Int.toNat x9) (0:Int))+(1:Int))) (IntKind.wrap IntKind.i64 (x9+(1:Int)))))
 (none))
 (k1)
def zmv (N:Nat)(x1:z8q)(low:Int)(x7:(List Int))(x8:Int)(x9:Int)(k0:Bool->Option (Bool×(z8q×Unit)))(k1:Option (Bool×(z8q×Unit))):Option (Bool×(z8q×Unit)) :=
 iter (fun (v:(Int×Int)) r=>zfh N x1 x7 x8 v.1 v.2 (fun low x9=>(r (low,x9))) k0 k1) N (low,x9)
def z1m8 (N:Nat)(i:(z8q×(List Int)×Int))(v:(Int×Int))(r:(Int×Int)->Option (Bool×(z8q×Unit)))(K:Ex->List A->Option (Bool×(z8q×Unit))):Option (Bool×(z8q×Unit)) :=
 zfh N i.1 i.2.1 i.2.2 v.1 v.2 (fun low x9=>(r (low,x9))) (fun a1=>(K .ret (mkS [(1,.box TT8),(1,.v .bool)] 22 (i.1,a1,())))) (K (.exit 0) (mkS [(1,.box TT8)] 24 (i.1,())))
def z1iz (N:Nat):Hd (Bool×(z8q×Unit)):=fun st K=>(unS SQ79 16 (restr [9,8,7,4,1] 0 st)).bind fun x=>iter (fun v r=>z1m8 N ((fun x=>(x.1,x.2.2.1,x.2.2.2.1)) x) v r K) N ((fun x=>(x.2.1,x.2.2.2.2.1)) x)
def t1_81 (N:Nat):Tab (Bool×(z8q×Unit)):=[(z13q,z1i7 N)]
theorem z1f5 {N:Nat}{c:Ctx}(hb:Base Tryd.prog (z1cm N) c):zk Tryd.prog c (zh zjm [0,1,0,1,1]) (z1iz N) :=
 z1e (s:=SQ79) (m:=16) (z1m8 N) [9,8,7,4,1] N (fun x=>(x.1,x.2.2.1,x.2.2.2.1)) (fun x=>(x.2.1,x.2.2.2.2.1)) (fun i v=>(i.1,v.1,i.2.1,i.2.2,v.2,())) (fun _=>rfl) (zg hb N (t1_81 N) z1oc zjm (TabOk.cons (z1ed hb) TabOk.nil) [0,0,1,0,1,1] _ rfl) (fun i v r K=>by kernel_rfl)
def z7w (N:Nat)(l:(List Int))(x1:z8q):Option (Bool×(z8q×Unit)) :=
 zmv N x1 (0:Int) l (((List.length l):Nat):Int) (0:Int)
 (fun x3=>some (x3,(x1,())))
 (some (true,(x1,())))
def t_81 (N:Nat):Tab (Bool×(z8q×Unit)):=[([0,1,0,1,1],z1iz N)]
theorem z18c (N:Nat)(x:z16 [(0,.v (.sl (.int .i64))),(0,.box TT8)]):z52 (z1cm N) N (t_81 N) z1oc Tryd.f38 (mkS [(0,.v (.sl (.int .i64))),(0,.box TT8)] 0 x) (z37 (.v .bool) [(1,.box TT8)] 0)=z7w N x.1 x.2.1:=by kernel_rfl
def zdi (N:Nat):List A->Res:=z12 [(0,.v (.sl (.int .i64))),(0,.box TT8)] (fun x=>z7w N x.1 x.2.1) (z3t (.v .bool) [(1,.box TT8)] 0)
theorem zmw (N:Nat):Contract Tryd.prog glob 38 (zdi N) :=
 Contract.of (E:=z1cm N) (H:=t_81 N) (L:=z1oc) (N:=N) (body:=zjm) (K:=(z37 (.v .bool) [(1,.box TT8)] 0)) (z1on N) Tryd.func38 (by kernel_rfl) (by decide) (fun _ hb=>(TabOk.cons (z1f5 hb) TabOk.nil)) (fun x y h=>by rw[z18c];exact h) (z2f (s:=(.v .bool)) (os:=[(1,.box TT8)]) (m:=0))
def zjl:Code:=(Tryd.f22.body).getD .skip
def z1ob:List (List Nat×List Nat):=[([0],[1]),([0,0,1],[18,1]),([1,0,1],[1]),([0,0,1,0,1],[2]),([1,0,1,0,1],[2]),([0,1,1],[1,3]),([0,0,1,1,1],[23,22,21,3,1]),([0,1,0,1,1,1],[23,22,21,3,1]),(zx3,[24,21,23,3,22,1]),(z1bg,[21,23,3,22,1]),(z1bi,[3,1]),(z1cd,[3,5,23,22,21,1]),(z1cf,[30,23,22,21,3,1]),([1,1,0,0,1,1,0,0,1,0,1,1,1],[23,22,21,3,1]),(z1bl,[2]),([1,0,1,1,0,0,1,1,0,0,1,0,1,1,1],[2]),(z10c,[23,22,21,3,1]),(z10b,[23,22,21,3,1]),([1,0,1,1,1],[3,1]),([0,1,1,1,1],[2]),([1,1,1,1,1],[2])]
def z1cl (N:Nat):Env:=z1m tys glob [(38,zdi N)] [(3,.unit)] [] [] false [] [(44,za N)]
theorem z1om (N:Nat):EnvOk Tryd.prog (z1cl N):=zi mixed zr (FnsOk.cons (zmw N) (FnsOk.nil)) (ItsOk.cons (zb N) (ItsOk.nil))
def zij (N:Nat)(p:z8q)(k0:Bool->Option Bool):Option Bool :=
 cond ((((List.length p.2.2.2.2.1):Nat):Int) != (((List.length p.1):Nat):Int))
 (k0 true)
 (k0 (decide ((512:Int)<(((List.length p.1):Nat):Int))))
def z1lf (N:Nat)(x:z16 [(1,.box TT8)])(K:Ex->List A->Option Bool):Option Bool :=
 zij N x.1 (fun a1=>(K .normal (mkS [(1,.box TT8),(16,.v .bool)] 23 (x.1,a1,()))))
def z1i6 (N:Nat):Hd Bool:=fun st K=>(unS [(1,.box TT8)] 40 (restr [1] 0 st)).bind fun x=>z1lf N x K
def t2_82 (N:Nat):Tab Bool:=[]
theorem z1ec {N:Nat}{c:Ctx}(hb:Base Tryd.prog (z1cl N) c):zk Tryd.prog c (zh zjl [0,0,1]) (z1i6 N) :=
 zw (s:=[(1,.box TT8)]) (m:=40) (g:=z1lf N) [1] (zg hb N (t2_82 N) z1ob zjl TabOk.nil [0,0,1] _ rfl) (fun x K=>by kernel_rfl)
def zik (N:Nat)(p:z8q)(k0:Bool->Option Bool)(k1:Option Bool):Option Bool :=
 zij N p
 (fun x18=>cond x18
 (k0 false)
 (k1))
def z1m7 (N:Nat)(x:z16 [(1,.box TT8)])(K:Ex->List A->Option Bool):Option Bool :=
 zik N x.1 (fun a0=>(K .ret (mkS [(2,.v .bool)] 39 (a0,())))) (K .normal (mkS [(1,.box TT8)] 40 (x.1,())))
def z1iy (N:Nat):Hd Bool:=fun st K=>(unS [(1,.box TT8)] 40 (restr [1] 0 st)).bind fun x=>z1m7 N x K
def t1_82 (N:Nat):Tab Bool:=[([0,0,1],z1i6 N)]
theorem z1f4 {N:Nat}{c:Ctx}(hb:Base Tryd.prog (z1cl N) c):zk Tryd.prog c (zh zjl [0,1]) (z1iy N) :=
 zw (s:=[(1,.box TT8)]) (m:=40) (g:=z1m7 N) [1] (zg hb N (t1_82 N) z1ob zjl (TabOk.cons (z1ec hb) TabOk.nil) [0,1] _ rfl) (fun x K=>by kernel_rfl)
def zii (N:Nat)(x21:(List (List Int)))(x22:Int)(p:z8q)(x23:Int)(rec:z8q->Int->Option Bool)(k0:Bool->Option Bool)(k1:z8q->Option Bool):Option Bool :=
 cond (decide (x23<x22))
 (cond (inR x23 (List.length x21))
 ((z7w N (List.getD x21 (Int.toNat x23) ([]:List Int)) p).bind fun y =>
 cond (!y.1)
 (k0 false)
 (rec y.2.1 (IntKind.wrap IntKind.i64 (x23+(1:Int)))))
 (none))
 (k1 p)
def zpq (N:Nat)(p:z8q)(x21:(List (List Int)))(x22:Int)(x23:Int)(k0:Bool->Option Bool)(k1:z8q->Option Bool):Option Bool :=
 iter (fun (v:(z8q×Int)) r=>zii N x21 x22 v.1 v.2 (fun p x23=>(r (p,x23))) k0 k1) N (p,x23)
def z1kz (N:Nat)(i:((List (List Int))×Int))(v:(z8q×Int))(r:(z8q×Int)->Option Bool)(K:Ex->List A->Option Bool):Option Bool :=
 zii N i.1 i.2 v.1 v.2 (fun p x23=>(r (p,x23))) (fun a0=>(K .ret (mkS [(2,.v .bool)] 39 (a0,())))) (fun a0=>(K (.exit 0) (mkS [(1,.box TT8),(1,.clo 38 [1])] 38 (a0,(),()))))
def z1hq (N:Nat):Hd Bool:=fun st K=>(unS [(1,.box TT8),(1,.clo 38 [1]),(17,.v (.sl (.sl (.int .i64)))),(0,.v (.int .i64)),(0,.v (.int .i64))] 18 (restr [23,22,21,3,1] 0 st)).bind fun x=>iter (fun v r=>z1kz N ((fun x=>(x.2.2.1,x.2.2.2.1)) x) v r K) N ((fun x=>(x.1,x.2.2.2.2.1)) x)
def t3_82 (N:Nat):Tab Bool:=[]
theorem z1dw {N:Nat}{c:Ctx}(hb:Base Tryd.prog (z1cl N) c):zk Tryd.prog c (zh zjl [0,1,0,1,1,1]) (z1hq N) :=
 z1e (s:=[(1,.box TT8),(1,.clo 38 [1]),(17,.v (.sl (.sl (.int .i64)))),(0,.v (.int .i64)),(0,.v (.int .i64))]) (m:=18) (z1kz N) [23,22,21,3,1] N (fun x=>(x.2.2.1,x.2.2.2.1)) (fun x=>(x.1,x.2.2.2.2.1)) (fun i v=>(v.1,(),i.1,i.2,v.2,())) (fun _=>rfl) (zg hb N (t3_82 N) z1ob zjl TabOk.nil zwv _ rfl) (fun i v r K=>by kernel_rfl)
def zj1 (N:Nat)(p:z8q):Option Bool :=
 zik N p
 (fun x2=>some x2)
 (zpq N p p.2.2.2.2.1 (((List.length p.2.2.2.2.1):Nat):Int) (0:Int)
 (fun x21=>some x21)
 (fun p1=>(z7w N p1.2.2.1 p1).bind fun y =>
 cond y.1
 ((z7w N y.2.1.2.2.2.1 y.2.1).bind fun y1 =>
 some y1.1)
 (some false)))
def t_82 (N:Nat):Tab Bool:=[([0,1],z1iy N),([0,1,0,1,1,1],z1hq N)]
theorem z18b (N:Nat)(x:z16 [(0,.v TT8)]):z52 (z1cl N) N (t_82 N) z1ob Tryd.f22 (mkS [(0,.v TT8)] 0 x) (z3j (.v .bool) 1)=zj1 N x.1:=by kernel_rfl
def zg7 (N:Nat):List A->Res:=z12 [(0,.v TT8)] (fun x=>zj1 N x.1) (z7r (.v .bool) 1)
theorem zpr (N:Nat):Contract Tryd.prog glob 22 (zg7 N) :=
 Contract.of (E:=z1cl N) (H:=t_82 N) (L:=z1ob) (N:=N) (body:=zjl) (K:=(z3j (.v .bool) 1)) (z1om N) Tryd.func22 (by kernel_rfl) (by decide) (fun _ hb=>(TabOk.cons (z1f4 hb) (TabOk.cons (z1dw hb) TabOk.nil))) (fun x y h=>by rw[z18b];exact h) (z1a (s:=(.v .bool)) (m:=1))
def z1aq:Code:=(Tryd.f10.body).getD .skip
def L_84:List (List Nat×List Nat):=[([0],[1,2]),([0,0,1],[7,2,1]),([1,0,1],[1,2]),([0,0,1,0,1],[2,3]),([1,0,1,0,1],[2,3]),([0,1,1],[4,2]),([0,0,1,1,1],[13,2,4]),([1,0,1,1,1],[4,2]),(zwv,[2,3]),(zue,[2,3]),([0,1,1,1,1],[2,3]),([1,1,1,1,1],[2,3])]
def E_84 (N:Nat):Env:=z1m tys glob [(22,zg7 N),(23,zd0 N),(24,zr2 N)] [] [] [] false [(4,TT9),(10,(.nb .unit))] [(44,za N)]
theorem z1ol (N:Nat):EnvOk Tryd.prog (E_84 N):=zi mixed zr (FnsOk.cons (zpr N) (FnsOk.cons (zlt N) (FnsOk.cons (z12y N) (FnsOk.nil)))) (ItsOk.cons (zb N) (ItsOk.nil))
def z12l (N:Nat)(p:z8q):Option (zug×Int×Unit) :=
 (zj1 N p).bind fun y =>
 cond (!y)
 (some (((0:Int),(([]:List Bool),(([]:List Int),(([]:List (List Int)),())))),((7:Int),())))
 ((zdc N p).bind fun y1 =>
 cond (Option.isSome y1)
 ((z65 N (Option.getD y1 (([]:List Int),(([]:List Int),(([]:List (List Int)),(([]:List (List Int)),((Option.none),(([]:List (List Int)),(((0:Int),(([]:List Bool),(([]:List Int),(([]:List (List Int)),())))),()))))))))).bind fun y2 =>
 cond (!y2.1)
 (some (((0:Int),(([]:List Bool),(([]:List Int),(([]:List (List Int)),())))),((16:Int),())))
 (some (y2.2.1.2.2.2.2.2.2.1,((0:Int),()))))
 (none))
def t_84 (N:Nat):Tab (zug×Int×Unit):=[]
theorem z18a (N:Nat)(x:z16 [(0,.v TT8)]):z52 (E_84 N) N (t_84 N) L_84 Tryd.f10 (mkS [(0,.v TT8)] 0 x) (z3j (.tup [zud,(.int .i64)]) 1)=z12l N x.1:=by kernel_rfl
def zqy (N:Nat):List A->Res:=z12 [(0,.v TT8)] (fun x=>z12l N x.1) (z7r (.tup [zud,(.int .i64)]) 1)
theorem z12k (N:Nat):Contract Tryd.prog glob 10 (zqy N) :=
 Contract.of (E:=E_84 N) (H:=t_84 N) (L:=L_84) (N:=N) (body:=z1aq) (K:=(z3j (.tup [zud,(.int .i64)]) 1)) (z1ol N) Tryd.func10 (by kernel_rfl) (by decide) (fun _ hb=>TabOk.nil) (fun x y h=>by rw[z18a];exact h) (z1a (s:=(.tup [zud,(.int .i64)])) (m:=1))
def z1ap:Code:=(Tryd.f4.body).getD .skip
def L_85:List (List Nat×List Nat):=[([0],[]),([0,1],[1,2]),([0,1,1],[3,2,4]),([0,1,1,1],[2,4,6,5]),([0,1,1,1,1],[2,4,6,5,8,7]),([0,1,1,1,1,1],[0]),([1,1,1,1,1,1],[0])]
def E_85 (N:Nat):Env:=z1m tys glob [(10,zqy N),(5,zh0 N),(7,zjk N),(8,zgi N),(9,zm1 N)] [] [] [] false [] [(44,za N)]
theorem z1ok (N:Nat):EnvOk Tryd.prog (E_85 N):=zi mixed zr (FnsOk.cons (z12k N) (FnsOk.cons (zox N) (FnsOk.cons (zqx N) (FnsOk.cons (zpv N) (FnsOk.cons (zuo N) (FnsOk.nil)))))) (ItsOk.cons (zb N) (ItsOk.nil))
def z2s (N:Nat):Option Bool :=
 (zet N ([(97:UInt8),(42:UInt8)]:List UInt8)).bind fun y =>
 (zrb N y.1).bind fun y1 =>
 (z12l N y1.1).bind fun y2 =>
 (zd2 N ([(97:UInt8),(98:UInt8)]:List UInt8)).bind fun y3 =>
 cond (eqD (T.pair (T.int IntKind.i64) (T.pair (T.int IntKind.i64) T.unit)) y.2.1 ((0:Int),((0:Int),())))
 (cond (y1.2.1 == (0:Int))
 (cond (y2.2.1 == (0:Int))
 (cond ((((List.length y2.1.2.2.2.1):Nat):Int) == (3:Int))
 ((zdd N y2.1 ([(97:UInt8),(97:UInt8)]:List UInt8)).bind fun y4 =>
 cond y4
 ((zdd N y2.1 ([(97:UInt8),(98:UInt8)]:List UInt8)).bind fun y5 =>
 cond (!y5)
 ((zdd N y2.1 ([]:List UInt8)).bind fun y6 =>
 cond y6
 (cond (y3.2.1 == (0:Int))
 ((zdd N y3.1 ([(97:UInt8),(98:UInt8)]:List UInt8)).bind fun y7 =>
 cond y7
 ((zdd N y3.1 ([(97:UInt8)]:List UInt8)).bind fun y8 =>
 some (!y8))
 (some false))
 (some false))
 (some false))
 (some false))
 (some false))
 (some false))
 (some false))
 (some false))
 (some false)
def t_85 (N:Nat):Tab Bool:=[]
theorem z189 (N:Nat)(x:z16 []):z52 (E_85 N) N (t_85 N) L_85 Tryd.f4 (mkS [] 0 x) (z3j (.v .bool) 0)=z2s N:=by kernel_rfl
def z9x (N:Nat):List A->Res:=z12 [] (fun x=>z2s N) (z7r (.v .bool) 0)
theorem zi7 (N:Nat):Contract Tryd.prog glob 4 (z9x N) :=
 Contract.of (E:=E_85 N) (H:=t_85 N) (L:=L_85) (N:=N) (body:=z1ap) (K:=(z3j (.v .bool) 0)) (z1ok N) Tryd.func4 (by kernel_rfl) (by decide) (fun _ hb=>TabOk.nil) (fun x y h=>by rw[z189];exact h) (z1a (s:=(.v .bool)) (m:=0))
def zp4:Code:=(Tryd.f3.body).getD .skip
def L_86:List (List Nat×List Nat):=[([0],[0,1]),([0,0,1],[24,0,1]),([1,0,1],[0,1]),([0,0,1,0,1],[4]),([1,0,1,0,1],[4]),([0,1,1],[0,6,5,1]),([0,0,1,1,1],[33,6,5,0,1]),([1,0,1,1,1],[6,5,0,1]),(zwv,[4]),(zue,[4]),([0,1,1,1,1],[4]),([1,1,1,1,1],[4])]
def z1qn (N:Nat):Env:=z1m tys glob [(4,z9x N),(5,zh0 N),(6,zf7 N),(7,zjk N)] [] [] [] false [] [(44,za N)]
theorem z1oj (N:Nat):EnvOk Tryd.prog (z1qn N):=zi mixed zr (FnsOk.cons (zi7 N) (FnsOk.cons (zox N) (FnsOk.cons (zmm N) (FnsOk.cons (zqx N) (FnsOk.nil))))) (ItsOk.cons (zb N) (ItsOk.nil))
def z4u (N:Nat)(s:(List UInt8))(t:(List UInt8))(k0:Bool->Option Bool):Option Bool :=
 cond (decide ((100:Int)<(((List.length s):Nat):Int)))
 (cond (decide ((((List.length s):Nat):Int)<=(1024:Int)))
 (k0 true)
 (cond (decide ((2000:Int)<(((List.length s):Nat):Int)))
 (k0 true)
 (k0 (decide ((100:Int)<(((List.length t):Nat):Int))))))
 (cond (decide ((2000:Int)<(((List.length s):Nat):Int)))
 (k0 true)
 (k0 (decide ((100:Int)<(((List.length t):Nat):Int)))))
def z1le (N:Nat)(x:z16 z13o)(K:Ex->List A->Option Bool):Option Bool :=
 z4u N x.1 x.2.1 (fun a2=>(K .normal (mkS [(0,.v .str),(0,.v .str),(22,.v .bool)] 52 (x.1,x.2.1,a2,()))))
def z1i5 (N:Nat):Hd Bool:=fun st K=>(unS z13o 75 (restr [0,1] 0 st)).bind fun x=>z1le N x K
def t2_86 (N:Nat):Tab Bool:=[]
theorem z1eb {N:Nat}{c:Ctx}(hb:Base Tryd.prog (z1qn N) c):zk Tryd.prog c (zh zp4 [0,0,1]) (z1i5 N) :=
 zw (s:=z13o) (m:=75) (g:=z1le N) [0,1] (zg hb N (t2_86 N) L_86 zp4 TabOk.nil [0,0,1] _ rfl) (fun x K=>by kernel_rfl)
def z4v (N:Nat)(s:(List UInt8))(t:(List UInt8))(k0:Bool->Option Bool)(k1:Option Bool):Option Bool :=
 z4u N s t
 (fun x24=>cond x24
 ((z2s N).bind fun y =>
 k0 y)
 (k1))
def z1m6 (N:Nat)(x:z16 z13o)(K:Ex->List A->Option Bool):Option Bool :=
 z4v N x.1 x.2.1 (fun a0=>(K .ret (mkS [(4,.v .bool)] 72 (a0,())))) (K .normal (mkS z13o 75 (x.1,x.2.1,())))
def z1ix (N:Nat):Hd Bool:=fun st K=>(unS z13o 75 (restr [0,1] 0 st)).bind fun x=>z1m6 N x K
def t1_86 (N:Nat):Tab Bool:=[([0,0,1],z1i5 N)]
theorem z1f3 {N:Nat}{c:Ctx}(hb:Base Tryd.prog (z1qn N) c):zk Tryd.prog c (zh zp4 [0,1]) (z1ix N) :=
 zw (s:=z13o) (m:=75) (g:=z1m6 N) [0,1] (zg hb N (t1_86 N) L_86 zp4 (TabOk.cons (z1eb hb) TabOk.nil) [0,1] _ rfl) (fun x K=>by kernel_rfl)
def z2n (N:Nat)(s:(List UInt8))(t:(List UInt8)):Option Bool :=
 z4v N s t
 (fun x4=>some x4)
 ((zd2 N s).bind fun y =>
 cond (decide ((1024:Int)<(((List.length s):Nat):Int)))
 (cond (y.2.1 == (3:Int))
 (cond ((((List.length y.1.2.2.2.1):Nat):Int) == (0:Int))
 ((z2s N).bind fun y1 =>
 some y1)
 (some false))
 (some false))
 (cond (y.2.1 == (0:Int))
 ((ze5 N y.1).bind fun y2 =>
 cond y2
 (cond ((((List.length y.1.2.2.2.1):Nat):Int) == (IntKind.wrap IntKind.i64 ((((List.length s):Nat):Int)+(2:Int))))
 ((zdd N y.1 s).bind fun y3 =>
 cond y3
 ((zdd N y.1 t).bind fun y4 =>
 cond (y4 == (s == t))
 ((z2s N).bind fun y5 =>
 some y5)
 (some false))
 (some false))
 (some false))
 (some false))
 (some false)))
def t_86 (N:Nat):Tab Bool:=[([0,1],z1ix N)]
theorem z188 (N:Nat)(x:z16 z13o):z52 (z1qn N) N (t_86 N) L_86 Tryd.f3 (mkS z13o 0 x) (z3j (.v .bool) 2)=z2n N x.1 x.2.1:=by kernel_rfl
def zds (N:Nat):List A->Res:=z12 z13o (fun x=>z2n N x.1 x.2.1) (z7r (.v .bool) 2)
theorem zeu (N:Nat):Contract Tryd.prog glob 3 (zds N) :=
 Contract.of (E:=z1qn N) (H:=t_86 N) (L:=L_86) (N:=N) (body:=zp4) (K:=(z3j (.v .bool) 2)) (z1oj N) Tryd.func3 (by kernel_rfl) (by decide) (fun _ hb=>(TabOk.cons (z1f3 hb) TabOk.nil)) (fun x y h=>by rw[z188];exact h) (z1a (s:=(.v .bool)) (m:=2))
end
end Go.Proofs.YtjbcpimnlgogiaaDoorLg
set_option linter.all false
set_option maxRecDepth 100000
namespace Go.Proofs.YtjbcpimnlgogiaaDoorLg
noncomputable section
open Go Go.Lift Go.Proofs.YtjbcpimnlgogiaaDoorPx
theorem zyq (k:Nat):z2s (k+400)=some true:=by kernel_rfl
theorem z10k (s t:List UInt8):z2n 2500 s t=some true:=by
 have hw:z2s 2500=some true:=zyq 2100;rw[z2n,z4v,z4u,hw];simp only[Option.bind_some];by_cases c1:100<s.length
 . rw[z3p (p:=(100:Int)<((s.length:Nat):Int)) (by omega)];by_cases c2:s.length<=1024
   . rw[z3p (p:=((s.length:Nat):Int)<=1024) (by omega)];rfl
   rw[z3s (p:=((s.length:Nat):Int)<=1024) (by omega)];by_cases c3:2000<s.length
   . rw[z3p (p:=(2000:Int)<((s.length:Nat):Int)) (by omega)];rfl
   rw[z3s (p:=(2000:Int)<((s.length:Nat):Int)) (by omega)];by_cases c4:100<t.length
   . rw[z3p (p:=(100:Int)<((t.length:Nat):Int)) (by omega)];rfl
   rw[z3s (p:=(100:Int)<((t.length:Nat):Int)) (by omega)];have hd:zd2 2500 s=some ((0,([],([],([],())))),(3,())):=by
    unfold zd2;rw[z3p (show 1024<s.length by omega)];rfl
   rw[hd,z3p (p:=(1024:Int)<((s.length:Nat):Int)) (by omega)];rfl
 . rw[z3s (p:=(100:Int)<((s.length:Nat):Int)) (by omega),z3s (p:=(2000:Int)<((s.length:Nat):Int)) (by omega)];by_cases c4:100<t.length
   . rw[z3p (p:=(100:Int)<((t.length:Nat):Int)) (by omega)];rfl
   have hs:s.length<=128:=by omega
   have hsm:=z16o s hs (N:=2500) (by omega) (by omega);have hl:(za6 s).2.2.2.1.length=s.length+2:=zn9 ..;rw[z3s (p:=(100:Int)<((t.length:Nat):Int)) (by omega),z16p 1800 s hs,z3s (p:=(1024:Int)<((s.length:Nat):Int)) (by omega)];simp only[Option.bind_some,cond_false];rw[zoy _ hsm,(zhq _).2 (zuj s hs),zty _ s hsm (by omega),zty _ t hsm (by omega),zsj s s hs,zsj s t hs,hl,z90 (x:=((s.length:Nat):Int)+2) (by unfold I64;omega),z3p rfl];have e1:(decide (t=s) == (s == t))=true:=by
    rw[beq_iff_eq,Bool.eq_iff_iff,decide_eq_true_eq,beq_iff_eq];exact eq_comm
   rw[show (((s.length+2:Nat):Int) == ((s.length:Nat):Int)+2)=true from by rw[beq_iff_eq];omega];simp only[Option.bind_some,cond_true,e1];rfl
end
end Go.Proofs.YtjbcpimnlgogiaaDoorLg
