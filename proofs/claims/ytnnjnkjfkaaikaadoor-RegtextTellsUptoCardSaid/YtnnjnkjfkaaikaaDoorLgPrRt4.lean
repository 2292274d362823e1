import Derived.Test.YtnnjnkjfkaaikaaDoorLgPrRt3
import Derived.Test.YtnnjnkjfkaaikaaDoorLgW
set_option linter.all false
set_option maxRecDepth 100000
namespace Go.Proofs.YtnnjnkjfkaaikaaDoorLg
noncomputable section
open Go Go.Lift
def z14y (N:Nat)(self:DT2->Option DT4):Env:=z1d tys glob [(42,zba N),(9,z8s N),(23,zy [(0,.v TT1)] (fun x=>self x.1) (z6e (.tup [.str,(.int .i64)]) 1))] [] [] [] false [] []
theorem z1sk (N:Nat)(self:DT2->Option DT4)(hself:Contract Tryd.prog glob 23 (zy [(0,.v TT1)] (fun x=>self x.1) (z6e (.tup [.str,(.int .i64)]) 1))):EnvOk Tryd.prog (z14y N self):=zg mixed zn (FnsOk.cons (zjb N) (FnsOk.cons (zev N) (FnsOk.cons (hself) (FnsOk.nil)))) (ItsOk.nil)
def z3s (N:Nat)(self:DT2->Option DT4)(n:DT2)(out:(List UInt8))(deep:Int)(i:Int)(k:DT2)(s:(List UInt8))(d:Int)(k0:Bool->Option DT4):Option DT4 :=
 cond (n.1 == (2:Int))
 (cond (k.1 == (3:Int))
 (k0 true)
 (cond (n.1 == (4:Int))
 (k0 (k.1 != (1:Int)))
 (k0 false)))
 (cond (n.1 == (4:Int))
 (k0 (k.1 != (1:Int)))
 (k0 false))
def z1nm (N:Nat)(self:DT2->Option DT4)(x:zw z1e7)(K:Ex->List A->Option DT4):Option DT4 :=
 z3s N self x.1 x.2.1 x.2.2.1 x.2.2.2.1 x.2.2.2.2.1 x.2.2.2.2.2.1 x.2.2.2.2.2.2.1 (fun a6=>(K .normal (mkS [(1,.box TT1),(2,.v .str),(0,.v (.int .i64)),(0,.v (.int .i64)),(1,.v .str),(0,.v (.int .i64)),(40,.v .bool)] 33 (x.1,x.2.1,x.2.2.1,x.2.2.2.1,x.2.2.2.2.2.1,x.2.2.2.2.2.2.1,a6,()))))
def z1k0 (N:Nat)(self:DT2->Option DT4):Hd DT4:=fun st K=>(unS z1e7 74 (restr [1,7,8,9,6,4,5] 0 st)).bind fun x=>z1nm N self x K
def t4_50 (N:Nat)(self:DT2->Option DT4):Tab DT4:=[]
theorem z1fw {N:Nat}{self:DT2->Option DT4}{c:Ctx}(hb:Base Tryd.prog (z14y N self) c):zi Tryd.prog c (zf z80 PQ86) (z1k0 N self) :=
 zh (s:=z1e7) (m:=74) (g:=z1nm N self) [1,7,8,9,6,4,5] (ze hb N (t4_50 N self) z16x z80 TabOk.nil PQ86 _ rfl) (fun x K=>by kernel_rfl)
def z8n (N:Nat)(self:DT2->Option DT4)(n:DT2)(out:(List UInt8))(deep:Int)(i:Int)(k:DT2)(s:(List UInt8))(d:Int)(k0:(List UInt8)->Int->Option DT4):Option DT4 :=
 z3s N self n out deep i k s d
 (fun x50=>cond x50
 (cond (decide ((1+(List.length s))<=9223372036854775807))
 (cond (decide (((List.length (([(40:UInt8)]:List UInt8)++s))+1)<=9223372036854775807))
 (k0 ((([(40:UInt8)]:List UInt8)++s)++([(41:UInt8)]:List UInt8)) (IntKind.wrap IntKind.i64 (d+(1:Int))))
 (none))
 (none))
 (k0 s d))
def z1nx (N:Nat)(self:DT2->Option DT4)(x:zw z1e7)(K:Ex->List A->Option DT4):Option DT4 :=
 z8n N self x.1 x.2.1 x.2.2.1 x.2.2.2.1 x.2.2.2.2.1 x.2.2.2.2.2.1 x.2.2.2.2.2.2.1 (fun a4 a5=>(K .normal (mkS z17y 74 (x.1,x.2.1,x.2.2.1,x.2.2.2.1,a4,a5,()))))
def z1kb (N:Nat)(self:DT2->Option DT4):Hd DT4:=fun st K=>(unS z1e7 74 (restr [1,7,8,9,6,4,5] 0 st)).bind fun x=>z1nx N self x K
def t3_50 (N:Nat)(self:DT2->Option DT4):Tab DT4:=[(PQ86,z1k0 N self)]
theorem z1g7 {N:Nat}{self:DT2->Option DT4}{c:Ctx}(hb:Base Tryd.prog (z14y N self) c):zi Tryd.prog c (zf z80 z1db) (z1kb N self) :=
 zh (s:=z1e7) (m:=74) (g:=z1nx N self) [1,7,8,9,6,4,5] (ze hb N (t3_50 N self) z16x z80 (TabOk.cons (z1fw hb) TabOk.nil) z1db _ rfl) (fun x K=>by kernel_rfl)
def z8m (N:Nat)(self:DT2->Option DT4)(n:DT2)(out:(List UInt8))(deep:Int)(i:Int)(s:(List UInt8))(d:Int)(k0:Bool->Option DT4):Option DT4 :=
 cond (decide ((0:Int)<i))
 (k0 (n.1 == (3:Int)))
 (k0 false)
def z1n7 (N:Nat)(self:DT2->Option DT4)(x:zw z17y)(K:Ex->List A->Option DT4):Option DT4 :=
 z8m N self x.1 x.2.1 x.2.2.1 x.2.2.2.1 x.2.2.2.2.1 x.2.2.2.2.2.1 (fun a6=>(K .normal (mkS [(1,.box TT1),(2,.v .str),(0,.v (.int .i64)),(0,.v (.int .i64)),(1,.v .str),(0,.v (.int .i64)),(52,.v .bool)] 21 (x.1,x.2.1,x.2.2.1,x.2.2.2.1,x.2.2.2.2.1,x.2.2.2.2.2.1,a6,()))))
def z1jl (N:Nat)(self:DT2->Option DT4):Hd DT4:=fun st K=>(unS z17y 74 (restr [6,1,4,8,9,5] 0 st)).bind fun x=>z1n7 N self x K
def t6_50 (N:Nat)(self:DT2->Option DT4):Tab DT4:=[]
theorem z1fh {N:Nat}{self:DT2->Option DT4}{c:Ctx}(hb:Base Tryd.prog (z14y N self) c):zi Tryd.prog c (zf z80 PQ80) (z1jl N self) :=
 zh (s:=z17y) (m:=74) (g:=z1n7 N self) [6,1,4,8,9,5] (ze hb N (t6_50 N self) z16x z80 TabOk.nil PQ80 _ rfl) (fun x K=>by kernel_rfl)
def z3r (N:Nat)(self:DT2->Option DT4)(n:DT2)(out:(List UInt8))(deep:Int)(i:Int)(s:(List UInt8))(d:Int)(k0:(List UInt8)->Option DT4):Option DT4 :=
 z8m N self n out deep i s d
 (fun x62=>cond x62
 (cond (decide (((List.length out)+1)<=9223372036854775807))
 (k0 (out++([(124:UInt8)]:List UInt8)))
 (none))
 (k0 out))
def z1nd (N:Nat)(self:DT2->Option DT4)(x:zw z17y)(K:Ex->List A->Option DT4):Option DT4 :=
 z3r N self x.1 x.2.1 x.2.2.1 x.2.2.2.1 x.2.2.2.2.1 x.2.2.2.2.2.1 (fun a1=>(K .normal (mkS z17y 74 (x.1,a1,x.2.2.1,x.2.2.2.1,x.2.2.2.2.1,x.2.2.2.2.2.1,()))))
def z1jr (N:Nat)(self:DT2->Option DT4):Hd DT4:=fun st K=>(unS z17y 74 (restr [6,1,4,8,9,5] 0 st)).bind fun x=>z1nd N self x K
def t5_50 (N:Nat)(self:DT2->Option DT4):Tab DT4:=[(PQ80,z1jl N self)]
theorem z1fn {N:Nat}{self:DT2->Option DT4}{c:Ctx}(hb:Base Tryd.prog (z14y N self) c):zi Tryd.prog c (zf z80 z1dd) (z1jr N self) :=
 zh (s:=z17y) (m:=74) (g:=z1nd N self) [6,1,4,8,9,5] (ze hb N (t5_50 N self) z16x z80 (TabOk.cons (z1fh hb) TabOk.nil) z1dd _ rfl) (fun x K=>by kernel_rfl)
def z8o (N:Nat)(self:DT2->Option DT4)(n:DT2)(out:(List UInt8))(deep:Int)(i:Int)(k0:(List UInt8)->Int->Option DT4):Option DT4 :=
 cond (inR i (List.length n.2.2.1))
 ((self (unN (List.getD n.2.2.1 (Int.toNat i) (Tree.mk (0:Int) ([]:List Int) ([]:List Tree) (0:Int) (0:Int))))).bind fun y =>
 z8n N self n out deep i (unN (List.getD n.2.2.1 (Int.toNat i) (Tree.mk (0:Int) ([]:List Int) ([]:List Tree) (0:Int) (0:Int)))) y.1 y.2.1
 (fun s d=>z3r N self n out deep i s d
 (fun out1=>cond (decide (((List.length out1)+(List.length s))<=9223372036854775807))
 (cond (decide (deep<d))
 (k0 (out1++s) d)
 (k0 (out1++s) deep))
 (none))))
 (none)
def z1om (N:Nat)(self:DT2->Option DT4)(x:zw z1dz)(K:Ex->List A->Option DT4):Option DT4 :=
 z8o N self x.1 x.2.1 x.2.2.1 x.2.2.2.1 (fun a1 a2=>(K .normal (mkS z1dz 77 (x.1,a1,a2,x.2.2.2.1,()))))
def z1l0 (N:Nat)(self:DT2->Option DT4):Hd DT4:=fun st K=>(unS z1dz 77 (restr [1,6,4,5] 0 st)).bind fun x=>z1om N self x K
def t2_50 (N:Nat)(self:DT2->Option DT4):Tab DT4:=[(z1db,z1kb N self),(z1dd,z1jr N self)]
theorem z1gw {N:Nat}{self:DT2->Option DT4}{c:Ctx}(hb:Base Tryd.prog (z14y N self) c):zi Tryd.prog c (zf z80 z16s) (z1l0 N self) :=
 zh (s:=z1dz) (m:=77) (g:=z1om N self) [1,6,4,5] (ze hb N (t2_50 N self) z16x z80 (TabOk.cons (z1g7 hb) (TabOk.cons (z1fn hb) TabOk.nil)) z16s _ rfl) (fun x K=>by kernel_rfl)
def z8k (N:Nat)(self:DT2->Option DT4)(n:DT2)(out:(List UInt8))(deep:Int)(i:Int)(rec:(List UInt8)->Int->Int->Option DT4)(k0:(List UInt8)->Int->Option DT4):Option DT4 :=
 cond (decide (i<(((List.length n.2.2.1):Nat):Int)))
 (z8o N self n out deep i
 (fun out1 deep1=>rec out1 deep1 (IntKind.wrap IntKind.i64 (i+(1:Int)))))
 (k0 out deep)
def z8p (N:Nat)(self:DT2->Option DT4)(n:DT2)(out:(List UInt8))(deep:Int)(i:Int)(k0:(List UInt8)->Int->Option DT4):Option DT4 :=
 iter (fun (v:((List UInt8)×Int×Int)) r=>z8k N self n v.1 v.2.1 v.2.2 (fun out deep i=>(r (out,deep,i))) k0) N (out,deep,i)
def z1pz (N:Nat)(self:DT2->Option DT4)(i:DT2)(v:((List UInt8)×Int×Int))(r:((List UInt8)×Int×Int)->Option DT4)(K:Ex->List A->Option DT4):Option DT4 :=
 z8k N self i v.1 v.2.1 v.2.2 (fun out deep i=>(r (out,deep,i))) (fun a1 a2=>(K (.exit 0) (mkS SQ74 78 (i,a1,a2,()))))
def z1md (N:Nat)(self:DT2->Option DT4):Hd DT4:=fun st K=>(unS z1dz 77 (restr [6,1,4,5] 0 st)).bind fun x=>iter (fun v r=>z1pz N self ((fun x=>x.1) x) v r K) N ((fun x=>(x.2.1,x.2.2.1,x.2.2.2.1)) x)
def t1_50 (N:Nat)(self:DT2->Option DT4):Tab DT4:=[(z16s,z1l0 N self)]
theorem z1i9 {N:Nat}{self:DT2->Option DT4}{c:Ctx}(hb:Base Tryd.prog (z14y N self) c):zi Tryd.prog c (zf z80 z14q) (z1md N self) :=
 z2p (s:=z1dz) (m:=77) (z1pz N self) [6,1,4,5] N (fun x=>x.1) (fun x=>(x.2.1,x.2.2.1,x.2.2.2.1)) (fun i v=>(i,v.1,v.2.1,v.2.2,())) (fun _=>rfl) (ze hb N (t1_50 N self) z16x z80 (TabOk.cons (z1gw hb) TabOk.nil) z14t _ rfl) (fun i v r K=>by kernel_rfl)
def z8l (N:Nat)(self:DT2->Option DT4)(n:DT2)(out:(List UInt8))(deep:Int)(k0:(List UInt8)->Option DT4):Option DT4 :=
 cond (n.1 == (4:Int))
 ((z4l N n.2.2.2.1 n.2.2.2.2.1).bind fun y =>
 cond (decide (((List.length out)+(List.length y))<=9223372036854775807))
 (k0 (out++y))
 (none))
 (k0 out)
def z1n2 (N:Nat)(self:DT2->Option DT4)(x:zw SQ74)(K:Ex->List A->Option DT4):Option DT4 :=
 z8l N self x.1 x.2.1 x.2.2.1 (fun a0=>(K .normal (mkS z1d5 78 (a0,x.2.2.1,()))))
def z1jg (N:Nat)(self:DT2->Option DT4):Hd DT4:=fun st K=>(unS SQ74 78 (restr [1,4,5] 0 st)).bind fun x=>z1n2 N self x K
def t7_50 (N:Nat)(self:DT2->Option DT4):Tab DT4:=[]
theorem z1fc {N:Nat}{self:DT2->Option DT4}{c:Ctx}(hb:Base Tryd.prog (z14y N self) c):zi Tryd.prog c (zf z80 [0,1,1,1,1,1]) (z1jg N self) :=
 zh (s:=SQ74) (m:=78) (g:=z1n2 N self) [1,4,5] (ze hb N (t7_50 N self) z16x z80 TabOk.nil [0,1,1,1,1,1] _ rfl) (fun x K=>by kernel_rfl)
def z67 (N:Nat)(self:DT2->Option DT4)(n:DT2):Option DT4 :=
 cond (n.1 == (1:Int))
 ((z4m N n.2.1).bind fun y =>
 some (y,((0:Int),())))
 (z8p N self n ([]:List UInt8) (0:Int) (0:Int)
 (fun out deep=>z8l N self n out deep
 (fun out1=>some (out1,(deep,())))))
def t_50 (N:Nat)(self:DT2->Option DT4):Tab DT4:=[(z14q,z1md N self),([0,1,1,1,1,1],z1jg N self)]
theorem z1as (N:Nat)(self:DT2->Option DT4)(x:zw [(0,.v TT1)]):z4x (z14y N self) N (t_50 N self) z16x Tryd.f23 (mkS [(0,.v TT1)] 0 x) (z2u (.tup [.str,(.int .i64)]) 1)=z67 N self x.1:=by kernel_rfl
def z1v:Nat->DT2->Option DT4
 | 0=>fun _=>none
 | N+1=>z67 (N+1) (z1v N)
def zcc (N:Nat):List A->Res:=zy [(0,.v TT1)] (fun x=>z1v N x.1) (z6e (.tup [.str,(.int .i64)]) 1)
theorem zdy:∀ N:Nat,Contract Tryd.prog glob 23 (zcc N)
 | 0=>Contract.zero Tryd.func23 (body:=z80) (by kernel_rfl) (by decide) (fun _=>rfl)
 | N+1=>Contract.of (E:=z14y (N+1) (z1v N)) (H:=t_50 (N+1) (z1v N)) (L:=z16x) (N:=(N+1)) (body:=z80) (K:=(z2u (.tup [.str,(.int .i64)]) 1)) (z1sk (N+1) (z1v N) (zdy N)) Tryd.func23 (by kernel_rfl) (by decide) (fun _ hb=>(TabOk.cons (z1i9 hb) (TabOk.cons (z1fc hb) TabOk.nil))) (fun x y h=>by rw[z1as];exact h) (zz (s:=(.tup [.str,(.int .i64)])) (m:=1))
def zpv:Code:=(Tryd.f7.body).getD .skip
def L_51:List (List Nat×List Nat):=[([0],[1]),([0,0,1],[8,1]),([1,0,1],[1]),([0,0,1,0,1],[2,3]),([1,0,1,0,1],[2,3]),([0,1,1],[4,5]),([0,0,1,1,1],[20,4]),([1,0,1,1,1],[4]),(z115,[2,3]),(z14m,[2,3]),([0,1,1,1,1],[2,3]),([1,1,1,1,1],[2,3])]
def z1tv (N:Nat):Env:=z1d tys glob [(23,zcc N),(22,zbd N)] [] [] [] false [] []
theorem z1sj (N:Nat):EnvOk Tryd.prog (z1tv N):=zg mixed zn (FnsOk.cons (zdy N) (FnsOk.cons (zcl N) (FnsOk.nil))) (ItsOk.nil)
def z8q (N:Nat)(s:(List UInt8))(deep:Int)(k0:Bool->Option ((List UInt8)×Bool×Unit)):Option ((List UInt8)×Bool×Unit) :=
 cond (decide ((256:Int)<(((List.length s):Nat):Int)))
 (k0 true)
 (k0 (decide ((16:Int)<deep)))
def z1ol (N:Nat)(x:zw z1d5)(K:Ex->List A->Option ((List UInt8)×Bool×Unit)):Option ((List UInt8)×Bool×Unit) :=
 z8q N x.1 x.2.1 (fun a1=>(K .normal (mkS [(4,.v .str),(15,.v .bool)] 1 (x.1,a1,()))))
def z1kz (N:Nat):Hd ((List UInt8)×Bool×Unit):=fun st K=>(unS z1d5 16 (restr [4,5] 0 st)).bind fun x=>z1ol N x K
def t2_51 (N:Nat):Tab ((List UInt8)×Bool×Unit):=[]
theorem z1gv {N:Nat}{c:Ctx}(hb:Base Tryd.prog (z1tv N) c):zi Tryd.prog c (zf zpv [0,0,1,1,1]) (z1kz N) :=
 zh (s:=z1d5) (m:=16) (g:=z1ol N) [4,5] (ze hb N (t2_51 N) L_51 zpv TabOk.nil [0,0,1,1,1] _ rfl) (fun x K=>by kernel_rfl)
def z8r (N:Nat)(s:(List UInt8))(deep:Int)(k0:(List UInt8)->Bool->Option ((List UInt8)×Bool×Unit))(k1:Option ((List UInt8)×Bool×Unit)):Option ((List UInt8)×Bool×Unit) :=
 z8q N s deep
 (fun x20=>cond x20
 (k0 ([]:List UInt8) false)
 (k1))
def z1py (N:Nat)(x:zw z1d5)(K:Ex->List A->Option ((List UInt8)×Bool×Unit)):Option ((List UInt8)×Bool×Unit) :=
 z8r N x.1 x.2.1 (fun a0 a1=>(K .ret (mkS [(2,.v .str),(0,.v .bool)] 18 (a0,a1,())))) (K .normal (mkS [(4,.v .str)] 17 (x.1,())))
def z1mc (N:Nat):Hd ((List UInt8)×Bool×Unit):=fun st K=>(unS z1d5 16 (restr [4,5] 0 st)).bind fun x=>z1py N x K
def t1_51 (N:Nat):Tab ((List UInt8)×Bool×Unit):=[([0,0,1,1,1],z1kz N)]
theorem z1i8 {N:Nat}{c:Ctx}(hb:Base Tryd.prog (z1tv N) c):zi Tryd.prog c (zf zpv [0,1,1,1]) (z1mc N) :=
 zh (s:=z1d5) (m:=16) (g:=z1py N) [4,5] (ze hb N (t1_51 N) L_51 zpv (TabOk.cons (z1gv hb) TabOk.nil) [0,1,1,1] _ rfl) (fun x K=>by kernel_rfl)
def z5o (N:Nat)(n:DT2):Option ((List UInt8)×Bool×Unit) :=
 (z28 N n).bind fun y =>
 cond (!y)
 (some (([]:List UInt8),(false,())))
 ((z1v N n).bind fun y1 =>
 z8r N y1.1 y1.2.1
 (fun x2 x3=>some (x2,(x3,())))
 (some (y1.1,(true,()))))
def t_51 (N:Nat):Tab ((List UInt8)×Bool×Unit):=[([0,1,1,1],z1mc N)]
theorem z1ar (N:Nat)(x:zw [(0,.v TT1)]):z4x (z1tv N) N (t_51 N) L_51 Tryd.f7 (mkS [(0,.v TT1)] 0 x) (z2u (.tup [.str,.bool]) 1)=z5o N x.1:=by kernel_rfl
def zcj (N:Nat):List A->Res:=zy [(0,.v TT1)] (fun x=>z5o N x.1) (z6e (.tup [.str,.bool]) 1)
theorem zk7 (N:Nat):Contract Tryd.prog glob 7 (zcj N) :=
 Contract.of (E:=z1tv N) (H:=t_51 N) (L:=L_51) (N:=N) (body:=zpv) (K:=(z2u (.tup [.str,.bool]) 1)) (z1sj N) Tryd.func7 (by kernel_rfl) (by decide) (fun _ hb=>(TabOk.cons (z1i8 hb) TabOk.nil)) (fun x y h=>by rw[z1ar];exact h) (zz (s:=(.tup [.str,.bool])) (m:=1))
def zxk:Code:=(Tryd.f58.body).getD .skip
def L_52:List (List Nat×List Nat):=[([0],[2,1]),([0,0,1],[10,9,8,1]),([0,1,0,1],[10,9,8,1]),([0,0,0,1,0,1],[11,8,10,1,9]),(z14n,[8,10,1,9]),(z118,[]),(z1r3,[6,1,10,9,8]),(z1r5,[17,10,9,8,1]),([1,1,0,0,1,1,0,0,1,0,1],[10,9,8,1]),([0,0,1,1,0,0,1,1,0,0,1,0,1],[4]),([1,0,1,1,0,0,1,1,0,0,1,0,1],[4]),(z14p,[10,9,8,1]),(z14o,[10,9,8,1]),([1,0,1],[]),([0,1,1],[4]),([1,1,1],[4])]
def E_52 (N:Nat):Env:=z1d tys glob [] [] [] [] false [] []
theorem z1si (N:Nat):EnvOk Tryd.prog (E_52 N):=zg mixed zn (FnsOk.nil) (ItsOk.nil)
def zdf (N:Nat)(kind:Int)(x8:(List Tree))(x9:Int)(x10:Int)(rec:Int->Option Bool)(k0:Bool->Option Bool)(k1:Option Bool):Option Bool :=
 cond (decide (x10<x9))
 (cond (inR x10 (List.length x8))
 (cond ((unN (List.getD x8 (Int.toNat x10) (Tree.mk (0:Int) ([]:List Int) ([]:List Tree) (0:Int) (0:Int)))).1 == kind)
 (k0 true)
 (rec (IntKind.wrap IntKind.i64 (x10+(1:Int)))))
 (none))
 (k1)
def zhy (N:Nat)(kind:Int)(x8:(List Tree))(x9:Int)(x10:Int)(k0:Bool->Option Bool)(k1:Option Bool):Option Bool :=
 iter (fun (v:Int) r=>zdf N kind x8 x9 v (fun x10=>(r x10)) k0 k1) N x10
def z1px (N:Nat)(i:(Int×(List Tree)×Int))(v:Int)(r:Int->Option Bool)(K:Ex->List A->Option Bool):Option Bool :=
 zdf N i.1 i.2.1 i.2.2 v (fun x10=>(r x10)) (fun a0=>(K .ret (mkS [(4,.v .bool)] 14 (a0,())))) (K (.exit 0) (mkS [] 19 ()))
def z1mb (N:Nat):Hd Bool:=fun st K=>(unS [(1,.v (.int .i64)),(6,.v (.sl .nod)),(0,.v (.int .i64)),(0,.v (.int .i64))] 8 (restr [10,9,8,1] 0 st)).bind fun x=>iter (fun v r=>z1px N ((fun x=>(x.1,x.2.1,x.2.2.1)) x) v r K) N ((fun x=>x.2.2.2.1) x)
def t1_52 (N:Nat):Tab Bool:=[]
theorem z1i7 {N:Nat}{c:Ctx}(hb:Base Tryd.prog (E_52 N) c):zi Tryd.prog c (zf zxk [0,1,0,1]) (z1mb N) :=
 z2p (s:=[(1,.v (.int .i64)),(6,.v (.sl .nod)),(0,.v (.int .i64)),(0,.v (.int .i64))]) (m:=8) (z1px N) [10,9,8,1] N (fun x=>(x.1,x.2.1,x.2.2.1)) (fun x=>x.2.2.2.1) (fun i v=>(i.1,i.2.1,i.2.2,v,())) (fun _=>rfl) (ze hb N (t1_52 N) L_52 zxk TabOk.nil [0,0,1,0,1] _ rfl) (fun i v r K=>by kernel_rfl)
def z8y (N:Nat)(n:DT2)(kind:Int):Option Bool :=
 zhy N kind n.2.2.1 (((List.length n.2.2.1):Nat):Int) (0:Int)
 (fun x4=>some x4)
 (some false)
def t_52 (N:Nat):Tab Bool:=[([0,1,0,1],z1mb N)]
theorem z1aq (N:Nat)(x:zw [(0,.v TT1),(0,.v (.int .i64))]):z4x (E_52 N) N (t_52 N) L_52 Tryd.f58 (mkS [(0,.v TT1),(0,.v (.int .i64))] 0 x) (z2u (.v .bool) 2)=z8y N x.1 x.2.1:=by kernel_rfl
def zh9 (N:Nat):List A->Res:=zy [(0,.v TT1),(0,.v (.int .i64))] (fun x=>z8y N x.1 x.2.1) (z6e (.v .bool) 2)
theorem zol (N:Nat):Contract Tryd.prog glob 58 (zh9 N) :=
 Contract.of (E:=E_52 N) (H:=t_52 N) (L:=L_52) (N:=N) (body:=zxk) (K:=(z2u (.v .bool) 2)) (z1si N) Tryd.func58 (by kernel_rfl) (by decide) (fun _ hb=>(TabOk.cons (z1i7 hb) TabOk.nil)) (fun x y h=>by rw[z1aq];exact h) (zz (s:=(.v .bool)) (m:=2))
def zpu:Code:=(Tryd.f59.body).getD .skip
def L_53:List (List Nat×List Nat):=[([0],[0,1]),([0,0,1],[10,1,0]),([1,0,1],[1,0]),([0,0,1,0,1],[4]),([1,0,1,0,1],[4]),([0,1,1],[4]),([1,1,1],[4])]
def z1tu (N:Nat):Env:=z1d tys glob [] [] [] [] false [] []
theorem z1sh (N:Nat):EnvOk Tryd.prog (z1tu N):=zg mixed zn (FnsOk.nil) (ItsOk.nil)
def zf6 (N:Nat)(low:Int)(high:Int)(k0:Bool->Option Bool):Option Bool :=
 cond (decide (low<(0:Int)))
 (k0 true)
 (k0 (decide ((16:Int)<low)))
def z1ok (N:Nat)(x:zw SQ2)(K:Ex->List A->Option Bool):Option Bool :=
 zf6 N x.1 x.2.1 (fun a2=>(K .normal (mkS [(0,.v (.int .i64)),(0,.v (.int .i64)),(8,.v .bool)] 12 (x.1,x.2.1,a2,()))))
def z1ky (N:Nat):Hd Bool:=fun st K=>(unS SQ2 21 (restr [0,1] 0 st)).bind fun x=>z1ok N x K
def t2_53 (N:Nat):Tab Bool:=[]
theorem z1gu {N:Nat}{c:Ctx}(hb:Base Tryd.prog (z1tu N) c):zi Tryd.prog c (zf zpu [0,0,1]) (z1ky N) :=
 zh (s:=SQ2) (m:=21) (g:=z1ok N) [0,1] (ze hb N (t2_53 N) L_53 zpu TabOk.nil [0,0,1] _ rfl) (fun x K=>by kernel_rfl)
def zf7 (N:Nat)(low:Int)(high:Int)(k0:Bool->Option Bool)(k1:Option Bool):Option Bool :=
 zf6 N low high
 (fun x10=>cond x10
 (k0 false)
 (k1))
def z1pw (N:Nat)(x:zw SQ2)(K:Ex->List A->Option Bool):Option Bool :=
 zf7 N x.1 x.2.1 (fun a0=>(K .ret (mkS [(4,.v .bool)] 18 (a0,())))) (K .normal (mkS SQ2 21 (x.1,x.2.1,())))
def z1ma (N:Nat):Hd Bool:=fun st K=>(unS SQ2 21 (restr [0,1] 0 st)).bind fun x=>z1pw N x K
def t1_53 (N:Nat):Tab Bool:=[([0,0,1],z1ky N)]
theorem z1i6 {N:Nat}{c:Ctx}(hb:Base Tryd.prog (z1tu N) c):zi Tryd.prog c (zf zpu [0,1]) (z1ma N) :=
 zh (s:=SQ2) (m:=21) (g:=z1pw N) [0,1] (ze hb N (t1_53 N) L_53 zpu (TabOk.cons (z1gu hb) TabOk.nil) [0,1] _ rfl) (fun x K=>by kernel_rfl)
def zdg (N:Nat)(low:Int)(high:Int):Option Bool :=
 zf7 N low high
 (fun x4=>some x4)
 (cond (high == (-(1:Int)))
 (some true)
 (cond (decide ((if ((1:Int) > low) then (1:Int) else low)<=high))
 (some (decide (high<=(16:Int))))
 (some false)))
def t_53 (N:Nat):Tab Bool:=[([0,1],z1ma N)]
theorem z1ap (N:Nat)(x:zw SQ2):z4x (z1tu N) N (t_53 N) L_53 Tryd.f59 (mkS SQ2 0 x) (z2u (.v .bool) 2)=zdg N x.1 x.2.1:=by kernel_rfl
def zhz (N:Nat):List A->Res:=zy SQ2 (fun x=>zdg N x.1 x.2.1) (z6e (.v .bool) 2)
theorem zq7 (N:Nat):Contract Tryd.prog glob 59 (zhz N) :=
 Contract.of (E:=z1tu N) (H:=t_53 N) (L:=L_53) (N:=N) (body:=zpu) (K:=(z2u (.v .bool) 2)) (z1sh N) Tryd.func59 (by kernel_rfl) (by decide) (fun _ hb=>(TabOk.cons (z1i6 hb) TabOk.nil)) (fun x y h=>by rw[z1ap];exact h) (zz (s:=(.v .bool)) (m:=2))
def zxj:Code:=(Tryd.f38.body).getD .skip
def L_54:List (List Nat×List Nat):=[([0],[1]),([0,1],[1,4,3]),([0,0,1,1],[18,1,4,3]),([0,0,1,0,1,1],[19,1,4,18,3]),([1,0,1,0,1,1],[]),(z180,[28,3,4,1,18]),([1,1,1,0,1,0,1,1],[]),([0,1,1,1,1,0,1,0,1,1],[45,3,4,1,18]),([1,1,1,1,1,0,1,0,1,1],[]),([0,1,1,1,1,1,1,0,1,0,1,1],[62,3,1]),([1,1,1,1,1,1,1,0,1,0,1,1],[]),([0,0,1,1,1,1,1,1,1,0,1,0,1,1],[2]),([1,0,1,1,1,1,1,1,1,0,1,0,1,1],[2]),([0,0,1,1,1,1,1,0,1,0,1,1],[2]),([1,0,1,1,1,1,1,0,1,0,1,1],[2]),([0,0,1,1,1,0,1,0,1,1],[2]),([1,0,1,1,1,0,1,0,1,1],[2]),([0,0,1,0,1,0,1,1],[2]),([1,0,1,0,1,0,1,1],[2]),([1,0,1,1],[]),([0,1,1,1],[2]),([1,1,1,1],[2])]
def E_54 (N:Nat):Env:=z1d tys glob [(59,zhz N),(58,zh9 N)] [] [] [] false [] []
theorem z1sg (N:Nat):EnvOk Tryd.prog (E_54 N):=zg mixed zn (FnsOk.cons (zq7 N) (FnsOk.cons (zol N) (FnsOk.nil))) (ItsOk.nil)
def zdh (N:Nat)(n:DT2)(k0:Bool->Bool->Option Bool):Option Bool :=
 cond (n.2.2.2.1 == (0:Int))
 (k0 (eqD (T.arr 4 (T.int IntKind.u64)) n.2.1 ([(0:Int),(0:Int),(0:Int),(0:Int)]:List Int)) (n.2.2.2.2.1 == (0:Int)))
 (k0 (eqD (T.arr 4 (T.int IntKind.u64)) n.2.1 ([(0:Int),(0:Int),(0:Int),(0:Int)]:List Int)) false)
def z1pv (N:Nat)(x:zw [(1,.box TT1)])(K:Ex->List A->Option Bool):Option Bool :=
 zdh N x.1 (fun a1 a2=>(K .normal (mkS [(1,.box TT1),(1,.v .bool),(0,.v .bool)] 73 (x.1,a1,a2,()))))
def z1m9 (N:Nat):Hd Bool:=fun st K=>(unS [(1,.box TT1)] 76 (restr [1] 0 st)).bind fun x=>z1pv N x K
def t1_54 (N:Nat):Tab Bool:=[]
theorem z1i5 {N:Nat}{c:Ctx}(hb:Base Tryd.prog (E_54 N) c):zi Tryd.prog c (zf zxj [0,1]) (z1m9 N) :=
 zh (s:=[(1,.box TT1)]) (m:=76) (g:=z1pv N) [1] (ze hb N (t1_54 N) L_54 zxj TabOk.nil [0,1] _ rfl) (fun x K=>by kernel_rfl)
def zb5 (N:Nat)(n:DT2):Option Bool :=
 zdh N n
 (fun empty once=>cond (n.1 == (1:Int))
 (cond ((((List.length n.2.2.1):Nat):Int) == (0:Int))
 (some once)
 (some false))
 (cond (n.1 == (2:Int))
 (cond empty
 (cond once
 (cond ((((List.length n.2.2.1):Nat):Int) != (1:Int))
 ((z8y N n (2:Int)).bind fun y =>
 some (!y))
 (some false))
 (some false))
 (some false))
 (cond (n.1 == (3:Int))
 (cond empty
 (cond once
 (cond (decide ((2:Int)<=(((List.length n.2.2.1):Nat):Int)))
 ((z8y N n (3:Int)).bind fun y1 =>
 some (!y1))
 (some false))
 (some false))
 (some false))
 (cond (n.1 == (4:Int))
 (cond empty
 (cond ((((List.length n.2.2.1):Nat):Int) == (1:Int))
 ((zdg N n.2.2.2.1 n.2.2.2.2.1).bind fun y2 =>
 some y2)
 (some false))
 (some false))
 (some false)))))
def t_54 (N:Nat):Tab Bool:=[([0,1],z1m9 N)]
theorem z1ao (N:Nat)(x:zw [(0,.v TT1)]):z4x (E_54 N) N (t_54 N) L_54 Tryd.f38 (mkS [(0,.v TT1)] 0 x) (z2u (.v .bool) 1)=zb5 N x.1:=by kernel_rfl
def zha (N:Nat):List A->Res:=zy [(0,.v TT1)] (fun x=>zb5 N x.1) (z6e (.v .bool) 1)
theorem zom (N:Nat):Contract Tryd.prog glob 38 (zha N) :=
 Contract.of (E:=E_54 N) (H:=t_54 N) (L:=L_54) (N:=N) (body:=zxj) (K:=(z2u (.v .bool) 1)) (z1sg N) Tryd.func38 (by kernel_rfl) (by decide) (fun _ hb=>(TabOk.cons (z1i5 hb) TabOk.nil)) (fun x y h=>by rw[z1ao];exact h) (zz (s:=(.v .bool)) (m:=1))
def zt3:Code:=(Tryd.f14.body).getD .skip
def L_55:List (List Nat×List Nat):=[([0],[1]),([0,0,1],[7,1]),([1,0,1],[1]),([0,0,1,0,1],[2]),([1,0,1,0,1],[2]),([0,0,1,1],[11,10,9]),([0,1,0,1,1],[11,10,9]),([0,0,0,1,0,1,1],[12,9,11,10]),(ztb,[9,11,10]),([1,0,1,0,0,1,0,1,1],[]),(z16v,[4,11,10,9]),([0,1,0,0,1,1,0,0,1,0,1,1],[17,11,10,9]),([1,1,0,0,1,1,0,0,1,0,1,1],[11,10,9]),([0,0,1,1,0,0,1,1,0,0,1,0,1,1],[2]),([1,0,1,1,0,0,1,1,0,0,1,0,1,1],[2]),([0,1,1,0,0,1,0,1,1],[11,10,9]),([1,1,1,0,0,1,0,1,1],[11,10,9]),([1,0,1,1],[]),([0,1,1,1],[2]),([1,1,1,1],[2])]
def E_55 (N:Nat)(self:DT2->Option Bool):Env:=z1d tys glob [(38,zha N),(14,zy [(0,.v TT1)] (fun x=>self x.1) (z6e (.v .bool) 1))] [] [] [] false [] []
theorem z1sf (N:Nat)(self:DT2->Option Bool)(hself:Contract Tryd.prog glob 14 (zy [(0,.v TT1)] (fun x=>self x.1) (z6e (.v .bool) 1))):EnvOk Tryd.prog (E_55 N self):=zg mixed zn (FnsOk.cons (zom N) (FnsOk.cons (hself) (FnsOk.nil))) (ItsOk.nil)
def zfa (N:Nat)(self:DT2->Option Bool)(x9:(List Tree))(x10:Int)(x11:Int)(rec:Int->Option Bool)(k0:Bool->Option Bool)(k1:Option Bool):Option Bool :=
 cond (decide (x11<x10))
 (cond (inR x11 (List.length x9))
 ((self (unN (List.getD x9 (Int.toNat x11) (Tree.mk (0:Int) ([]:List Int) ([]:List Tree) (0:Int) (0:Int))))).bind fun y =>
 cond (!y)
 (k0 false)
 (rec (IntKind.wrap IntKind.i64 (x11+(1:Int)))))
 (none))
 (k1)
def zjl (N:Nat)(self:DT2->Option Bool)(x9:(List Tree))(x10:Int)(x11:Int)(k0:Bool->Option Bool)(k1:Option Bool):Option Bool :=
 iter (fun (v:Int) r=>zfa N self x9 x10 v (fun x11=>(r x11)) k0 k1) N x11
def z1pu (N:Nat)(self:DT2->Option Bool)(i:((List Tree)×Int))(v:Int)(r:Int->Option Bool)(K:Ex->List A->Option Bool):Option Bool :=
 zfa N self i.1 i.2 v (fun x11=>(r x11)) (fun a0=>(K .ret (mkS [(2,.v .bool)] 16 (a0,())))) (K (.exit 0) (mkS [] 19 ()))
def z1m8 (N:Nat)(self:DT2->Option Bool):Hd Bool:=fun st K=>(unS [(9,.v (.sl .nod)),(0,.v (.int .i64)),(0,.v (.int .i64))] 7 (restr [11,10,9] 0 st)).bind fun x=>iter (fun v r=>z1pu N self ((fun x=>(x.1,x.2.1)) x) v r K) N ((fun x=>x.2.2.1) x)
def t1_55 (N:Nat)(self:DT2->Option Bool):Tab Bool:=[]
theorem z1i4 {N:Nat}{self:DT2->Option Bool}{c:Ctx}(hb:Base Tryd.prog (E_55 N self) c):zi Tryd.prog c (zf zt3 [0,1,0,1,1]) (z1m8 N self) :=
 z2p (s:=[(9,.v (.sl .nod)),(0,.v (.int .i64)),(0,.v (.int .i64))]) (m:=7) (z1pu N self) [11,10,9] N (fun x=>(x.1,x.2.1)) (fun x=>x.2.2.1) (fun i v=>(i.1,i.2,v,())) (fun _=>rfl) (ze hb N (t1_55 N self) L_55 zt3 TabOk.nil [0,0,1,0,1,1] _ rfl) (fun i v r K=>by kernel_rfl)
def zcu (N:Nat)(self:DT2->Option Bool)(n:DT2):Option Bool :=
 (zb5 N n).bind fun y =>
 cond (!y)
 (some false)
 (zjl N self n.2.2.1 (((List.length n.2.2.1):Nat):Int) (0:Int)
 (fun x2=>some x2)
 (some true))
def t_55 (N:Nat)(self:DT2->Option Bool):Tab Bool:=[([0,1,0,1,1],z1m8 N self)]
theorem z1an (N:Nat)(self:DT2->Option Bool)(x:zw [(0,.v TT1)]):z4x (E_55 N self) N (t_55 N self) L_55 Tryd.f14 (mkS [(0,.v TT1)] 0 x) (z2u (.v .bool) 1)=zcu N self x.1:=by kernel_rfl
def z5c:Nat->DT2->Option Bool
 | 0=>fun _=>none
 | N+1=>zcu (N+1) (z5c N)
def zon (N:Nat):List A->Res:=zy [(0,.v TT1)] (fun x=>z5c N x.1) (z6e (.v .bool) 1)
theorem zjm:∀ N:Nat,Contract Tryd.prog glob 14 (zon N)
 | 0=>Contract.zero Tryd.func14 (body:=zt3) (by kernel_rfl) (by decide) (fun _=>rfl)
 | N+1=>Contract.of (E:=E_55 (N+1) (z5c N)) (H:=t_55 (N+1) (z5c N)) (L:=L_55) (N:=(N+1)) (body:=zt3) (K:=(z2u (.v .bool) 1)) (z1sf (N+1) (z5c N) (zjm N)) Tryd.func14 (by kernel_rfl) (by decide) (fun _ hb=>(TabOk.cons (z1i4 hb) TabOk.nil)) (fun x y h=>by rw[z1an];exact h) (zz (s:=(.v .bool)) (m:=1))
def zxi:Code:=(Tryd.f84.body).getD .skip
def L_56:List (List Nat×List Nat):=[([0],[0]),([0,0,1],[12,0]),([1,0,1],[0]),([0,1,0,1],[0]),([0,1,1],[2,0]),([1,1,1],[2,0])]
def E_56 (N:Nat):Env:=z1d tys glob [] [] [] [0] false [] []
theorem z1se (N:Nat):EnvOk Tryd.prog (E_56 N):=zg mixed zn (FnsOk.nil) (ItsOk.nil)
def zc2 (N:Nat)(p:DT3)(k0:Option (Int×(DT3×Unit))):Option (Int×(DT3×Unit)) :=
 cond (p.2.1 == (((List.length p.1):Nat):Int))
 (none)
 (k0)
def z1pt (N:Nat)(x:zw SQ0)(K:Ex->List A->Option (Int×(DT3×Unit))):Option (Int×(DT3×Unit)) :=
 zc2 N x.1 (K .normal (mkS SQ0 27 (x.1,())))
def z1m7 (N:Nat):Hd (Int×(DT3×Unit)):=fun st K=>(unS SQ0 27 (restr [0] 0 st)).bind fun x=>z1pt N x K
def t1_56 (N:Nat):Tab (Int×(DT3×Unit)):=[]
theorem z1i3 {N:Nat}{c:Ctx}(hb:Base Tryd.prog (E_56 N) c):zi Tryd.prog c (zf zxi [0,1]) (z1m7 N) :=
 zh (s:=SQ0) (m:=27) (g:=z1pt N) [0] (ze hb N (t1_56 N) L_56 zxi TabOk.nil [0,1] _ rfl) (fun x K=>by kernel_rfl)
def z1e (N:Nat)(p:DT3):Option (Int×(DT3×Unit)) :=
 zc2 N p
 (cond (inR p.2.1 (List.length p.1))
 (some ((((UInt8.toNat (List.getD p.1 (Int.toNat p.2.1) (0:UInt8))):Nat):Int),(p,())))
 (none))
def t_56 (N:Nat):Tab (Int×(DT3×Unit)):=[([0,1],z1m7 N)]
theorem z1am (N:Nat)(x:zw SQ0):z4x (E_56 N) N (t_56 N) L_56 Tryd.f84 (mkS SQ0 0 x) (z5r (.v (.int .u8)) SQ0 0)=z1e N x.1:=by kernel_rfl
def z15 (N:Nat):List A->Res:=zy SQ0 (fun x=>z1e N x.1) (z6u (.v (.int .u8)) SQ0 0)
theorem z1c (N:Nat):Contract Tryd.prog glob 84 (z15 N) :=
 Contract.of (E:=E_56 N) (H:=t_56 N) (L:=L_56) (N:=N) (body:=zxi) (K:=(z5r (.v (.int .u8)) SQ0 0)) (z1se N) Tryd.func84 (by kernel_rfl) (by decide) (fun _ hb=>(TabOk.cons (z1i3 hb) TabOk.nil)) (fun x y h=>by rw[z1am];exact h) (z3x (s:=(.v (.int .u8))) (os:=SQ0) (m:=0))
def zxh:Code:=(Tryd.f77.body).getD .skip
def L_57:List (List Nat×List Nat):=[([0,0],[7,0]),([1,0],[0]),([0,1,0],[0]),([1],[0])]
def E_57 (N:Nat):Env:=z1d tys glob [(84,z15 N)] [] [] [0] false [] []
theorem z1sd (N:Nat):EnvOk Tryd.prog (E_57 N):=zg mixed zn (FnsOk.cons (z1c N) (FnsOk.nil)) (ItsOk.nil)
def zc3 (N:Nat)(p:DT3)(b:Int)(k0:DT3->Option ((Unit)×(DT3×Unit))):Option ((Unit)×(DT3×Unit)) :=
 (z1e N p).bind fun y =>
 cond (y.1 != b)
 (none)
 (k0 y.2.1)
def z1ps (N:Nat)(x:zw zqn)(K:Ex->List A->Option ((Unit)×(DT3×Unit))):Option ((Unit)×(DT3×Unit)) :=
 zc3 N x.1 x.2.1 (fun a0=>(K .normal (mkS SQ0 20 (a0,()))))
def z1m6 (N:Nat):Hd ((Unit)×(DT3×Unit)):=fun st K=>(unS zqn 19 (restr [0,1] 0 st)).bind fun x=>z1ps N x K
def t1_57 (N:Nat):Tab ((Unit)×(DT3×Unit)):=[]
theorem z1i2 {N:Nat}{c:Ctx}(hb:Base Tryd.prog (E_57 N) c):zi Tryd.prog c (zf zxh [0]) (z1m6 N) :=
 zh (s:=zqn) (m:=19) (g:=z1ps N) [0,1] (ze hb N (t1_57 N) L_57 zxh TabOk.nil [0] _ rfl) (fun x K=>by kernel_rfl)
def z1f (N:Nat)(p:DT3)(b:Int):Option ((Unit)×(DT3×Unit)) :=
 zc3 N p b
 (fun p1=>some ((),((p1.1,((IntKind.wrap IntKind.i64 (p1.2.1+(1:Int))),p1.2.2)),())))
def t_57 (N:Nat):Tab ((Unit)×(DT3×Unit)):=[([0],z1m6 N)]
theorem z1al (N:Nat)(x:zw zqn):z4x (E_57 N) N (t_57 N) L_57 Tryd.f77 (mkS zqn 0 x) (z5r (.tup []) SQ0 1)=z1f N x.1 x.2.1:=by kernel_rfl
def z1j (N:Nat):List A->Res:=zy zqn (fun x=>z1f N x.1 x.2.1) (z6u (.tup []) SQ0 1)
theorem z1z (N:Nat):Contract Tryd.prog glob 77 (z1j N) :=
 Contract.of (E:=E_57 N) (H:=t_57 N) (L:=L_57) (N:=N) (body:=zxh) (K:=(z5r (.tup []) SQ0 1)) (z1sd N) Tryd.func77 (by kernel_rfl) (by decide) (fun _ hb=>(TabOk.cons (z1i2 hb) TabOk.nil)) (fun x y h=>by rw[z1al];exact h) (z3x (s:=(.tup [])) (os:=SQ0) (m:=1))
abbrev z8:Type:=DT3->Option (DT2×(DT3×Unit))
def zxg:Code:=(Tryd.f72.body).getD .skip
def L_58:List (List Nat×List Nat):=[([0],[0,2]),([0,0,1],[8,0,2]),([1,0,1],[0,2]),([0,1,0,1],[0,2]),([0,1,1],[0,2]),([0,1,1,1],[0,2]),([0,1,1,1,1],[0,3,2]),([0,1,1,1,1,1],[0,3,2]),(z116,[3,2,0]),(z182,[2,0]),(z181,[2,0])]
def E_58 (N:Nat)(self:z8):Env:=z1d tys glob [(77,z1j N),(36,zy SQ0 (fun x=>self x.1) (z6u (.v TT1) SQ0 0))] [] [] [0] false [] []
theorem z1sc (N:Nat)(self:z8)(hself:Contract Tryd.prog glob 36 (zy SQ0 (fun x=>self x.1) (z6u (.v TT1) SQ0 0))):EnvOk Tryd.prog (E_58 N self):=zg mixed zn (FnsOk.cons (z1z N) (FnsOk.cons (hself) (FnsOk.nil))) (ItsOk.nil)
def zb8 (N:Nat)(self:z8)(p:DT3)(x2:DT2)(k0:Option (DT2×(DT3×Unit))):Option (DT2×(DT3×Unit)) :=
 cond (p.2.2.1 == (16:Int))
 (none)
 (k0)
def z1pr (N:Nat)(self:z8)(x:zw z17u)(K:Ex->List A->Option (DT2×(DT3×Unit))):Option (DT2×(DT3×Unit)) :=
 zb8 N self x.1 x.2.1 (K .normal (mkS z17u 33 (x.1,x.2.1,())))
def z1m5 (N:Nat)(self:z8):Hd (DT2×(DT3×Unit)):=fun st K=>(unS z17u 33 (restr [0,2] 0 st)).bind fun x=>z1pr N self x K
def t1_58 (N:Nat)(self:z8):Tab (DT2×(DT3×Unit)):=[]
theorem z1i1 {N:Nat}{self:z8}{c:Ctx}(hb:Base Tryd.prog (E_58 N self) c):zi Tryd.prog c (zf zxg [0,1]) (z1m5 N self) :=
 zh (s:=z17u) (m:=33) (g:=z1pr N self) [0,2] (ze hb N (t1_58 N self) L_58 zxg TabOk.nil [0,1] _ rfl) (fun x K=>by kernel_rfl)
def z65 (N:Nat)(self:z8)(p:DT3):Option (DT2×(DT3×Unit)) :=
 zb8 N self p ((0:Int),(([(0:Int),(0:Int),(0:Int),(0:Int)]:List Int),(([]:List Tree),((0:Int),((0:Int),())))))
 ((z1f N (p.1,(p.2.1,((IntKind.wrap IntKind.i64 (p.2.2.1+(1:Int))),p.2.2.2))) (40:Int)).bind fun y =>
 (self y.2.1).bind fun y1 =>
 (z1f N y1.2.1 (41:Int)).bind fun y2 =>
 some (y1.1,((y2.2.1.1,(y2.2.1.2.1,((IntKind.wrap IntKind.i64 (y2.2.1.2.2.1 - (1:Int))),y2.2.1.2.2.2))),())))
def t_58 (N:Nat)(self:z8):Tab (DT2×(DT3×Unit)):=[([0,1],z1m5 N self)]
theorem z1ak (N:Nat)(self:z8)(x:zw SQ0):z4x (E_58 N self) N (t_58 N self) L_58 Tryd.f72 (mkS SQ0 0 x) (z5r (.v TT1) SQ0 0)=z65 N self x.1:=by kernel_rfl
def z60 (N:Nat)(self:z8):List A->Res:=zy SQ0 (fun x=>z65 N self x.1) (z6u (.v TT1) SQ0 0)
theorem zb9 (N:Nat)(self:z8)(hself:Contract Tryd.prog glob 36 (zy SQ0 (fun x=>self x.1) (z6u (.v TT1) SQ0 0))):Contract Tryd.prog glob 72 (z60 N self) :=
 Contract.of (E:=E_58 N self) (H:=t_58 N self) (L:=L_58) (N:=N) (body:=zxg) (K:=(z5r (.v TT1) SQ0 0)) (z1sc N self hself) Tryd.func72 (by kernel_rfl) (by decide) (fun _ hb=>(TabOk.cons (z1i1 hb) TabOk.nil)) (fun x y h=>by rw[z1ak];exact h) (z3x (s:=(.v TT1)) (os:=SQ0) (m:=0))
def z1cf:Code:=(Tryd.f73.body).getD .skip
def L_59:List (List Nat×List Nat):=[([0],[1,2]),([0,1],[2]),([1,1],[2])]
def E_59 (N:Nat):Env:=z1d tys glob [] [] [] [] false [] []
theorem z1sb (N:Nat):EnvOk Tryd.prog (E_59 N):=zg mixed zn (FnsOk.nil) (ItsOk.nil)
def zty (N:Nat)(s:(List Int)):Option DT2 :=
 some ((1:Int),(s,(([]:List Tree),((0:Int),((0:Int),())))))
def t_59 (N:Nat):Tab DT2:=[]
theorem z1aj (N:Nat)(x:zw zo0):z4x (E_59 N) N (t_59 N) L_59 Tryd.f73 (mkS zo0 0 x) (z2u (.v TT1) 1)=zty N x.1:=by kernel_rfl
def zgm (N:Nat):List A->Res:=zy zo0 (fun x=>zty N x.1) (z6e (.v TT1) 1)
theorem zmy (N:Nat):Contract Tryd.prog glob 73 (zgm N) :=
 Contract.of (E:=E_59 N) (H:=t_59 N) (L:=L_59) (N:=N) (body:=z1cf) (K:=(z2u (.v TT1) 1)) (z1sb N) Tryd.func73 (by kernel_rfl) (by decide) (fun _ hb=>TabOk.nil) (fun x y h=>by rw[z1aj];exact h) (zz (s:=(.v TT1)) (m:=1))
def zpt:Code:=(Tryd.f56.body).getD .skip
def L_60:List (List Nat×List Nat):=[([0],[0,1]),([0,0,1],[27,0]),([1,0,1],[0]),([0,0,1,0,1],[4,0]),([1,0,1,0,1],[4,0]),([0,1,1],[0]),([0,1,1,1],[4,0]),([1,1,1,1],[4,0])]
def z1tt (N:Nat):Env:=z1d tys glob [] [] [] [0] false [] []
theorem z1sa (N:Nat):EnvOk Tryd.prog (z1tt N):=zg mixed zn (FnsOk.nil) (ItsOk.nil)
def zbx (N:Nat)(p:DT3)(b:Int)(k0:Bool->Option (Bool×(DT3×Unit))):Option (Bool×(DT3×Unit)) :=
 cond (p.2.1 == (((List.length p.1):Nat):Int))
 (k0 true)
 (cond (inR p.2.1 (List.length p.1))
 (k0 ((((UInt8.toNat (List.getD p.1 (Int.toNat p.2.1) (0:UInt8))):Nat):Int) != b))
 (none))
def z1oj (N:Nat)(x:zw zqn)(K:Ex->List A->Option (Bool×(DT3×Unit))):Option (Bool×(DT3×Unit)) :=
 zbx N x.1 x.2.1 (fun a1=>(K .normal (mkS [(0,.box (.pair .str TT0)),(26,.v .bool)] 7 (x.1,a1,()))))
def z1kx (N:Nat):Hd (Bool×(DT3×Unit)):=fun st K=>(unS zqn 33 (restr [0,1] 0 st)).bind fun x=>z1oj N x K
def t2_60 (N:Nat):Tab (Bool×(DT3×Unit)):=[]
theorem z1gt {N:Nat}{c:Ctx}(hb:Base Tryd.prog (z1tt N) c):zi Tryd.prog c (zf zpt [0,0,1]) (z1kx N) :=
 zh (s:=zqn) (m:=33) (g:=z1oj N) [0,1] (ze hb N (t2_60 N) L_60 zpt TabOk.nil [0,0,1] _ rfl) (fun x K=>by kernel_rfl)
def zby (N:Nat)(p:DT3)(b:Int)(k0:Bool->Option (Bool×(DT3×Unit)))(k1:Option (Bool×(DT3×Unit))):Option (Bool×(DT3×Unit)) :=
 zbx N p b
 (fun x27=>cond x27
 (k0 false)
 (k1))
def z1pq (N:Nat)(x:zw zqn)(K:Ex->List A->Option (Bool×(DT3×Unit))):Option (Bool×(DT3×Unit)) :=
 zby N x.1 x.2.1 (fun a1=>(K .ret (mkS [(0,.box (.pair .str TT0)),(3,.v .bool)] 30 (x.1,a1,())))) (K .normal (mkS SQ0 34 (x.1,())))
def z1m4 (N:Nat):Hd (Bool×(DT3×Unit)):=fun st K=>(unS zqn 33 (restr [0,1] 0 st)).bind fun x=>z1pq N x K
def t1_60 (N:Nat):Tab (Bool×(DT3×Unit)):=[([0,0,1],z1kx N)]
theorem z1i0 {N:Nat}{c:Ctx}(hb:Base Tryd.prog (z1tt N) c):zi Tryd.prog c (zf zpt [0,1]) (z1m4 N) :=
 zh (s:=zqn) (m:=33) (g:=z1pq N) [0,1] (ze hb N (t1_60 N) L_60 zpt (TabOk.cons (z1gt hb) TabOk.nil) [0,1] _ rfl) (fun x K=>by kernel_rfl)
def z16 (N:Nat)(p:DT3)(b:Int):Option (Bool×(DT3×Unit)) :=
 zby N p b
 (fun x4=>some (x4,(p,())))
 (some (true,((p.1,((IntKind.wrap IntKind.i64 (p.2.1+(1:Int))),p.2.2)),())))
def t_60 (N:Nat):Tab (Bool×(DT3×Unit)):=[([0,1],z1m4 N)]
theorem z1ai (N:Nat)(x:zw zqn):z4x (z1tt N) N (t_60 N) L_60 Tryd.f56 (mkS zqn 0 x) (z5r (.v .bool) SQ0 1)=z16 N x.1 x.2.1:=by kernel_rfl
def z1i (N:Nat):List A->Res:=zy zqn (fun x=>z16 N x.1 x.2.1) (z6u (.v .bool) SQ0 1)
theorem z1y (N:Nat):Contract Tryd.prog glob 56 (z1i N) :=
 Contract.of (E:=z1tt N) (H:=t_60 N) (L:=L_60) (N:=N) (body:=zpt) (K:=(z5r (.v .bool) SQ0 1)) (z1sa N) Tryd.func56 (by kernel_rfl) (by decide) (fun _ hb=>(TabOk.cons (z1i0 hb) TabOk.nil)) (fun x y h=>by rw[z1ai];exact h) (z3x (s:=(.v .bool)) (os:=SQ0) (m:=1))
def z1ce:Code:=(Tryd.f86.body).getD .skip
def L_61:List (List Nat×List Nat):=[([0],[0]),([0,1],[2]),([1,1],[2])]
def E_61 (N:Nat):Env:=z1d tys glob [] [] [] [] false [] []
theorem z1s9 (N:Nat):EnvOk Tryd.prog (E_61 N):=zg mixed zn (FnsOk.nil) (ItsOk.nil)
def z6t (N:Nat)(b:Int):Option Bool :=
 cond (decide ((48:Int)<=b))
 (some (decide (b<=(57:Int))))
 (some false)
def t_61 (N:Nat):Tab Bool:=[]
theorem z1ah (N:Nat)(x:zw [(0,.v (.int .u8))]):z4x (E_61 N) N (t_61 N) L_61 Tryd.f86 (mkS [(0,.v (.int .u8))] 0 x) (z2u (.v .bool) 1)=z6t N x.1:=by kernel_rfl
def z6s (N:Nat):List A->Res:=zy [(0,.v (.int .u8))] (fun x=>z6t N x.1) (z6e (.v .bool) 1)
theorem zb0 (N:Nat):Contract Tryd.prog glob 86 (z6s N) :=
 Contract.of (E:=E_61 N) (H:=t_61 N) (L:=L_61) (N:=N) (body:=z1ce) (K:=(z2u (.v .bool) 1)) (z1s9 N) Tryd.func86 (by kernel_rfl) (by decide) (fun _ hb=>TabOk.nil) (fun x y h=>by rw[z1ah];exact h) (zz (s:=(.v .bool)) (m:=1))
def zps:Code:=(Tryd.f85.body).getD .skip
def L_62:List (List Nat×List Nat):=[([0],[0,1]),([0,1],[0,5,1]),([0,1,1],[5,0,1]),([0,0,1,1,1],[16,5,0,1]),([1,0,1,1,1],[5,0,1]),(z115,[4,0]),(z14m,[4,0]),([0,0,1,1,1,1],[24,0,1,5]),([1,0,1,1,1,1],[5,0]),(z14q,[5,0]),([0,1,1,1,1,1],[4,0]),([1,1,1,1,1,1],[4,0])]
def z1ts (N:Nat):Env:=z1d tys glob [(86,z6s N),(84,z15 N)] [] [] [0] false [] []
theorem z1s8 (N:Nat):EnvOk Tryd.prog (z1ts N):=zg mixed zn (FnsOk.cons (zb0 N) (FnsOk.cons (z1c N) (FnsOk.nil))) (ItsOk.nil)
def zdp (N:Nat)(p:DT3)(from_:Int)(b:Int)(k0:Bool->Option (Int×(DT3×Unit))):Option (Int×(DT3×Unit)) :=
 cond (decide (b<(97:Int)))
 (k0 true)
 (k0 (decide ((102:Int)<b)))
def z1oi (N:Nat)(x:zw z11j)(K:Ex->List A->Option (Int×(DT3×Unit))):Option (Int×(DT3×Unit)) :=
 zdp N x.1 x.2.1 x.2.2.1 (fun a3=>(K .normal (mkS [(0,.box (.pair .str TT0)),(0,.v (.int .i64)),(3,.v (.int .u8)),(18,.v .bool)] 6 (x.1,x.2.1,x.2.2.1,a3,()))))
def z1kw (N:Nat):Hd (Int×(DT3×Unit)):=fun st K=>(unS z11j 25 (restr [5,0,1] 0 st)).bind fun x=>z1oi N x K
def t2_62 (N:Nat):Tab (Int×(DT3×Unit)):=[]
theorem z1gs {N:Nat}{c:Ctx}(hb:Base Tryd.prog (z1ts N) c):zi Tryd.prog c (zf zps [0,0,1,1,1,1]) (z1kw N) :=
 zh (s:=z11j) (m:=25) (g:=z1oi N) [5,0,1] (ze hb N (t2_62 N) L_62 zps TabOk.nil [0,0,1,1,1,1] _ rfl) (fun x K=>by kernel_rfl)
def zdq (N:Nat)(p:DT3)(from_:Int)(b:Int)(k0:Option (Int×(DT3×Unit))):Option (Int×(DT3×Unit)) :=
 zdp N p from_ b
 (fun x24=>cond x24
 (none)
 (k0))
def z1pp (N:Nat)(x:zw z11j)(K:Ex->List A->Option (Int×(DT3×Unit))):Option (Int×(DT3×Unit)) :=
 zdq N x.1 x.2.1 x.2.2.1 (K .normal (mkS [(0,.box (.pair .str TT0)),(4,.v (.int .u8))] 25 (x.1,x.2.2.1,())))
def z1m3 (N:Nat):Hd (Int×(DT3×Unit)):=fun st K=>(unS z11j 25 (restr [5,0,1] 0 st)).bind fun x=>z1pp N x K
def t1_62 (N:Nat):Tab (Int×(DT3×Unit)):=[([0,0,1,1,1,1],z1kw N)]
theorem z1hz {N:Nat}{c:Ctx}(hb:Base Tryd.prog (z1ts N) c):zi Tryd.prog c (zf zps [0,1,1,1,1]) (z1m3 N) :=
 zh (s:=z11j) (m:=25) (g:=z1pp N) [5,0,1] (ze hb N (t1_62 N) L_62 zps (TabOk.cons (z1gs hb) TabOk.nil) [0,1,1,1,1] _ rfl) (fun x K=>by kernel_rfl)
def z41 (N:Nat)(p:DT3)(from_:Int):Option (Int×(DT3×Unit)) :=
 (z1e N p).bind fun y =>
 (z6t N y.1).bind fun y1 =>
 cond y1
 (some ((IntKind.wrap IntKind.u8 (y.1 - (48:Int))),((y.2.1.1,((IntKind.wrap IntKind.i64 (y.2.1.2.1+(1:Int))),y.2.1.2.2)),())))
 (zdq N (y.2.1.1,((IntKind.wrap IntKind.i64 (y.2.1.2.1+(1:Int))),y.2.1.2.2)) from_ y.1
 (some ((IntKind.wrap IntKind.u8 ((IntKind.wrap IntKind.u8 (y.1 - (97:Int)))+(10:Int))),((y.2.1.1,((IntKind.wrap IntKind.i64 (y.2.1.2.1+(1:Int))),y.2.1.2.2)),()))))
def t_62 (N:Nat):Tab (Int×(DT3×Unit)):=[([0,1,1,1,1],z1m3 N)]
theorem z1ag (N:Nat)(x:zw z1du):z4x (z1ts N) N (t_62 N) L_62 Tryd.f85 (mkS z1du 0 x) (z5r (.v (.int .u8)) SQ0 1)=z41 N x.1 x.2.1:=by kernel_rfl
def z7j (N:Nat):List A->Res:=zy z1du (fun x=>z41 N x.1 x.2.1) (z6u (.v (.int .u8)) SQ0 1)
theorem zdr (N:Nat):Contract Tryd.prog glob 85 (z7j N) :=
 Contract.of (E:=z1ts N) (H:=t_62 N) (L:=L_62) (N:=N) (body:=zps) (K:=(z5r (.v (.int .u8)) SQ0 1)) (z1s8 N) Tryd.func85 (by kernel_rfl) (by decide) (fun _ hb=>(TabOk.cons (z1hz hb) TabOk.nil)) (fun x y h=>by rw[z1ag];exact h) (z3x (s:=(.v (.int .u8))) (os:=SQ0) (m:=1))
def zxf:Code:=(Tryd.f75.body).getD .skip
def L_63:List (List Nat×List Nat):=[([0],[0,2]),([0,1],[0,2,4]),([0,1,1],[0,2,4]),([0,1,1,1],[0,5,2,4]),([0,1,1,1,1],[5,2,0,4]),([0,0,0,1,1,1,1,1],[22,2,0,5,4]),([1,0,0,1,1,1,1,1],[5,2,0]),([0,1,1,0,0,1,1,1,1,1],[26,2,0,5,4]),([1,1,1,0,0,1,1,1,1,1],[5,2,0]),([0,1,1,1,1,0,0,1,1,1,1,1],[30,0,4,2,5]),([1,1,1,1,1,0,0,1,1,1,1,1],[5,2,0]),([0,1,1,1,1,1,1,0,0,1,1,1,1,1],[42,0,4,5,2]),([1,1,1,1,1,1,1,0,0,1,1,1,1,1],[5,2,0]),([0,1,1,1,1,1,1,1,0,0,1,1,1,1,1],[5,2,0]),([0,0,1,1,1,1,1,0,0,1,1,1,1,1],[6,0,4,2]),([1,0,1,1,1,1,1,0,0,1,1,1,1,1],[5,2,0]),([0,0,1,1,1,0,0,1,1,1,1,1],[2,3,0]),([1,0,1,1,1,0,0,1,1,1,1,1],[2,3,0]),([0,0,1,0,0,1,1,1,1,1],[2,3,0]),([1,0,1,0,0,1,1,1,1,1],[2,3,0]),([0,1,1,1,1,1],[5,2,0]),(z116,[2,3,0]),(z17z,[2,3,0])]
def E_63 (N:Nat):Env:=z1d tys glob [(85,z7j N),(77,z1j N),(84,z15 N),(27,z76 N),(26,z2j N),(54,z2m N)] [] [] [0] false [] []
theorem z1s7 (N:Nat):EnvOk Tryd.prog (E_63 N):=zg mixed zn (FnsOk.cons (zdr N) (FnsOk.cons (z1z N) (FnsOk.cons (z1c N) (FnsOk.cons (zbv N) (FnsOk.cons (z34 N) (FnsOk.cons (z3c N) (FnsOk.nil))))))) (ItsOk.nil)
def zag (N:Nat)(p:DT3)(set_:(List Int))(from_:Int)(b:Int)(k0:(List Int)->Bool->Option DT7)(k1:DT3->Int->Option DT7):Option DT7 :=
 cond (b == (100:Int))
 ((z29 N (48:Int) (57:Int)).bind fun y =>
 k0 y true)
 (cond (b == (119:Int))
 ((z48 N ((48:UInt8)::(49:UInt8)::(50:UInt8)::(51:UInt8)::(52:UInt8)::(53:UInt8)::(54:UInt8)::(55:UInt8)::(56:UInt8)::(57:UInt8)::(65:UInt8)::(66:UInt8)::(67:UInt8)::(68:UInt8)::(69:UInt8)::(70:UInt8)::(71:UInt8)::(72:UInt8)::(73:UInt8)::(74:UInt8)::(75:UInt8)::(76:UInt8)::(77:UInt8)::(78:UInt8)::(79:UInt8)::(80:UInt8)::(81:UInt8)::(82:UInt8)::(83:UInt8)::(84:UInt8)::(85:UInt8)::(86:UInt8)::(87:UInt8)::(88:UInt8)::(89:UInt8)::(90:UInt8)::(95:UInt8)::(97:UInt8)::(98:UInt8)::(99:UInt8)::(100:UInt8)::(101:UInt8)::(102:UInt8)::(103:UInt8)::(104:UInt8)::(105:UInt8)::(106:UInt8)::(107:UInt8)::(108:UInt8)::(109:UInt8)::(110:UInt8)::(111:UInt8)::(112:UInt8)::(113:UInt8)::(114:UInt8)::(115:UInt8)::(116:UInt8)::(117:UInt8)::(118:UInt8)::(119:UInt8)::(120:UInt8)::(121:UInt8)::(122:UInt8)::([]:List UInt8))).bind fun y1 =>
 k0 y1 true)
 (cond (b == (120:Int))
 ((z41 N p from_).bind fun y2 =>
 (z41 N y2.2.1 from_).bind fun y3 =>
 k1 y3.2.1 (zb Go.BinOp.or IntKind.u8 (z11d IntKind.u8 y2.1 (4:Int)) y3.1))
 (cond (decide ((Go.Lib.indexByte ([(92:UInt8),(46:UInt8),(91:UInt8),(93:UInt8),(40:UInt8),(41:UInt8),(123:UInt8),(125:UInt8),(124:UInt8),(42:UInt8),(43:UInt8),(63:UInt8),(45:UInt8),(94:UInt8)]:List UInt8) (Nat.toUInt8 (Int.toNat b)))<(0:Int)))
 (none)
 (k1 p b))))
def z1po (N:Nat)(x:zw z1e4)(K:Ex->List A->Option DT7):Option DT7 :=
 zag N x.1 x.2.1 x.2.2.1 x.2.2.2.1 (fun a1 a2=>(K .ret (mkS SQ49 48 (x.1,a1,a2,())))) (fun a0 a2=>(K .normal (mkS [(0,.box (.pair .str TT0)),(1,.box (.arr 4 (.int .u64))),(2,.v (.int .u8))] 46 (a0,x.2.1,a2,()))))
def z1m2 (N:Nat):Hd DT7:=fun st K=>(unS z1e4 46 (restr [5,2,0,4] 0 st)).bind fun x=>z1po N x K
def t1_63 (N:Nat):Tab DT7:=[]
theorem z1hy {N:Nat}{c:Ctx}(hb:Base Tryd.prog (E_63 N) c):zi Tryd.prog c (zf zxf [0,1,1,1,1,1]) (z1m2 N) :=
 zh (s:=z1e4) (m:=46) (g:=z1po N) [5,2,0,4] (ze hb N (t1_63 N) L_63 zxf TabOk.nil [0,1,1,1,1,1] _ rfl) (fun x K=>by kernel_rfl)
def z2y (N:Nat)(p:DT3):Option DT7 :=
 (z1f N p (92:Int)).bind fun y =>
 (z1e N y.2.1).bind fun y1 =>
 zag N (y1.2.1.1,((IntKind.wrap IntKind.i64 (y1.2.1.2.1+(1:Int))),y1.2.1.2.2)) ([(0:Int),(0:Int),(0:Int),(0:Int)]:List Int) p.2.1 y1.1
 (fun set_ class_=>some ((set_,(class_,())),((y1.2.1.1,((IntKind.wrap IntKind.i64 (y1.2.1.2.1+(1:Int))),y1.2.1.2.2)),())))
 (fun p1 b=>(z29 N b b).bind fun y2 =>
 some ((y2,(false,())),(p1,())))
def t_63 (N:Nat):Tab DT7:=[([0,1,1,1,1,1],z1m2 N)]
theorem z1af (N:Nat)(x:zw SQ0):z4x (E_63 N) N (t_63 N) L_63 Tryd.f75 (mkS SQ0 0 x) (z5r (.tup [(.arr 4 (.int .u64)),.bool]) SQ0 0)=z2y N x.1:=by kernel_rfl
def z2r (N:Nat):List A->Res:=zy SQ0 (fun x=>z2y N x.1) (z6u (.tup [(.arr 4 (.int .u64)),.bool]) SQ0 0)
theorem z3v (N:Nat):Contract Tryd.prog glob 75 (z2r N) :=
 Contract.of (E:=E_63 N) (H:=t_63 N) (L:=L_63) (N:=N) (body:=zxf) (K:=(z5r (.tup [(.arr 4 (.int .u64)),.bool]) SQ0 0)) (z1s7 N) Tryd.func75 (by kernel_rfl) (by decide) (fun _ hb=>(TabOk.cons (z1hy hb) TabOk.nil)) (fun x y h=>by rw[z1af];exact h) (z3x (s:=(.tup [(.arr 4 (.int .u64)),.bool])) (os:=SQ0) (m:=0))
def zpr:Code:=(Tryd.f92.body).getD .skip
def L_64:List (List Nat×List Nat):=[([0],[0,2]),([0,1],[4,0,2]),([0,0,1,1],[7,0,2,4]),([0,0,1,0,1,1],[8,0,2,7,4]),([1,0,1,0,1,1],[0,4,2]),([0,0,1,1,0,1,0,1,1],[14,0,4,2,7]),([1,0,1,1,0,1,0,1,1],[14,0,4,2]),([0,1,1,0,1,1,0,1,0,1,1],[14,0,4,2,7]),([1,1,1,0,1,1,0,1,0,1,1],[14,0,4,2]),([0,1,1,1,1,0,1,1,0,1,0,1,1],[14,0,4,2,7]),([1,1,1,1,1,0,1,1,0,1,0,1,1],[14,0,4,2]),([1,1,1,1,1,1,0,1,1,0,1,0,1,1],[14,0,4,2]),([1,1,1,0,1,0,1,1],[0,4,2]),([0,1,1,1,0,1,0,1,1],[0,4,2]),([0,0,1,0,1,0,1,1],[2,3,0]),([1,0,1,0,1,0,1,1],[2,3,0]),([1,0,1,1],[0,4,2]),([0,1,1,1],[4,2,0]),([0,1,1,1,1],[2,3,0]),([1,1,1,1,1],[2,3,0])]
def z1tr (N:Nat):Env:=z1d tys glob [(75,z2r N),(84,z15 N),(26,z2j N)] [] [] [0] false [] []
theorem z1s6 (N:Nat):EnvOk Tryd.prog (z1tr N):=zg mixed zn (FnsOk.cons (z3v N) (FnsOk.cons (z1c N) (FnsOk.cons (z34 N) (FnsOk.nil)))) (ItsOk.nil)
def zbz (N:Nat)(p:DT3)(set_:(List Int))(b:Int)(x7:Int)(k0:Bool->Option DT7):Option DT7 :=
 cond (x7 == (91:Int))
 (k0 (x7 == (91:Int)))
 (cond (x7 == (93:Int))
 (k0 (x7 == (93:Int)))
 (cond (x7 == (45:Int))
 (k0 (x7 == (45:Int)))
 (k0 (x7 == (94:Int)))))
def z1oh (N:Nat)(x:zw z1e3)(K:Ex->List A->Option DT7):Option DT7 :=
 zbz N x.1 x.2.1 x.2.2.1 x.2.2.2.1 (fun a3=>(K .normal (mkS SQ81 20 (x.1,x.2.1,x.2.2.1,a3,()))))
def z1kv (N:Nat):Hd DT7:=fun st K=>(unS z1e3 27 (restr [7,0,4,2] 0 st)).bind fun x=>z1oh N x K
def t2_64 (N:Nat):Tab DT7:=[]
theorem z1gr {N:Nat}{c:Ctx}(hb:Base Tryd.prog (z1tr N) c):zi Tryd.prog c (zf zpr z180) (z1kv N) :=
 zh (s:=z1e3) (m:=27) (g:=z1oh N) [7,0,4,2] (ze hb N (t2_64 N) L_64 zpr TabOk.nil z180 _ rfl) (fun x K=>by kernel_rfl)
def zc0 (N:Nat)(p:DT3)(set_:(List Int))(b:Int)(k0:DT3->(List Int)->Bool->Option DT7)(k1:Option DT7):Option DT7 :=
 cond (b == (92:Int))
 ((z2y N p).bind fun y =>
 k0 y.2.1 y.1.1 y.1.2.1)
 (zbz N p set_ b b
 (fun x14=>cond x14
 (none)
 (k1)))
def z1pn (N:Nat)(x:zw z17x)(K:Ex->List A->Option DT7):Option DT7 :=
 zc0 N x.1 x.2.1 x.2.2.1 (fun a0 a1 a2=>(K .ret (mkS SQ49 31 (a0,a1,a2,())))) (K .normal (mkS z17x 30 (x.1,x.2.1,x.2.2.1,())))
def z1m1 (N:Nat):Hd DT7:=fun st K=>(unS z17x 30 (restr [4,0,2] 0 st)).bind fun x=>z1pn N x K
def t1_64 (N:Nat):Tab DT7:=[(z180,z1kv N)]
theorem z1hx {N:Nat}{c:Ctx}(hb:Base Tryd.prog (z1tr N) c):zi Tryd.prog c (zf zpr [0,1,1]) (z1m1 N) :=
 zh (s:=z17x) (m:=30) (g:=z1pn N) [4,0,2] (ze hb N (t1_64 N) L_64 zpr (TabOk.cons (z1gr hb) TabOk.nil) [0,1,1] _ rfl) (fun x K=>by kernel_rfl)
def z3k (N:Nat)(p:DT3):Option DT7 :=
 (z1e N p).bind fun y =>
 zc0 N y.2.1 ([(0:Int),(0:Int),(0:Int),(0:Int)]:List Int) y.1
 (fun p1 set_ class_=>some ((set_,(class_,())),(p1,())))
 ((z29 N y.1 y.1).bind fun y1 =>
 some ((y1,(false,())),((y.2.1.1,((IntKind.wrap IntKind.i64 (y.2.1.2.1+(1:Int))),y.2.1.2.2)),())))
def t_64 (N:Nat):Tab DT7:=[([0,1,1],z1m1 N)]
theorem z1ae (N:Nat)(x:zw SQ0):z4x (z1tr N) N (t_64 N) L_64 Tryd.f92 (mkS SQ0 0 x) (z5r (.tup [(.arr 4 (.int .u64)),.bool]) SQ0 0)=z3k N x.1:=by kernel_rfl
def z6m (N:Nat):List A->Res:=zy SQ0 (fun x=>z3k N x.1) (z6u (.tup [(.arr 4 (.int .u64)),.bool]) SQ0 0)
theorem zc1 (N:Nat):Contract Tryd.prog glob 92 (z6m N) :=
 Contract.of (E:=z1tr N) (H:=t_64 N) (L:=L_64) (N:=N) (body:=zpr) (K:=(z5r (.tup [(.arr 4 (.int .u64)),.bool]) SQ0 0)) (z1s6 N) Tryd.func92 (by kernel_rfl) (by decide) (fun _ hb=>(TabOk.cons (z1hx hb) TabOk.nil)) (fun x y h=>by rw[z1ae];exact h) (z3x (s:=(.tup [(.arr 4 (.int .u64)),.bool])) (os:=SQ0) (m:=0))
def zh2:Code:=(Tryd.f82.body).getD .skip
def z1ec:List (List Nat×List Nat):=[([0],[0,2]),([0,1],[4,0,3,2]),([0,0,1,1],[17,3,2,0]),([1,0,1,1],[0,3,2]),([0,0,1,0,1,1],[2,0]),([1,0,1,0,1,1],[2,0]),([0,1,1,1],[0,3,5,2]),([0,1,1,1,1],[4,6,3,0,5,2]),(zms,[35,0,5,3,6,2]),(z11k,[3,6,2,0]),(z1da,[3,6,2,0]),(z116,[2,0]),(z17z,[2,0])]
def z1di (N:Nat):Env:=z1d tys glob [(92,z6m N),(56,z1i N),(26,z2j N),(25,z4t N)] [] [] [0] false [] []
theorem z1s5 (N:Nat):EnvOk Tryd.prog (z1di N):=zg mixed zn (FnsOk.cons (zc1 N) (FnsOk.cons (z1y N) (FnsOk.cons (z34 N) (FnsOk.cons (z8h N) (FnsOk.nil))))) (ItsOk.nil)
def zc6 (N:Nat)(p:DT3)(x2:(List Int))(first:(List Int))(class_:Bool)(k0:DT3->Bool->Option DT8):Option DT8 :=
 cond class_
 (k0 p true)
 ((z16 N p (45:Int)).bind fun y =>
 k0 y.2.1 (!y.1))
def z1og (N:Nat)(x:zw SQ7)(K:Ex->List A->Option DT8):Option DT8 :=
 zc6 N x.1 x.2.1 x.2.2.1 x.2.2.2.1 (fun a0 a3=>(K .normal (mkS SQ69 28 (a0,x.2.1,x.2.2.1,a3,()))))
def z1ku (N:Nat):Hd DT8:=fun st K=>(unS SQ7 41 (restr [4,0,3,2] 0 st)).bind fun x=>z1og N x K
def t2_65 (N:Nat):Tab DT8:=[]
theorem z1gq {N:Nat}{c:Ctx}(hb:Base Tryd.prog (z1di N) c):zi Tryd.prog c (zf zh2 [0,0,1,1]) (z1ku N) :=
 zh (s:=SQ7) (m:=41) (g:=z1og N) [4,0,3,2] (ze hb N (t2_65 N) z1ec zh2 TabOk.nil [0,0,1,1] _ rfl) (fun x K=>by kernel_rfl)
def zc7 (N:Nat)(p:DT3)(x2:(List Int))(first:(List Int))(class_:Bool)(k0:DT3->Option DT8)(k1:DT3->Option DT8):Option DT8 :=
 zc6 N p x2 first class_
 (fun p1 x17=>cond x17
 (k0 p1)
 (k1 p1))
def z1pm (N:Nat)(x:zw SQ7)(K:Ex->List A->Option DT8):Option DT8 :=
 zc7 N x.1 x.2.1 x.2.2.1 x.2.2.2.1 (fun a0=>(K .ret (mkS [(0,.box (.pair .str TT0)),(1,.box (.arr 4 (.int .u64)))] 43 (a0,x.2.2.1,())))) (fun a0=>(K .normal (mkS SQ83 42 (a0,x.2.1,x.2.2.1,()))))
def z1m0 (N:Nat):Hd DT8:=fun st K=>(unS SQ7 41 (restr [4,0,3,2] 0 st)).bind fun x=>z1pm N x K
def t1_65 (N:Nat):Tab DT8:=[([0,0,1,1],z1ku N)]
theorem z1hw {N:Nat}{c:Ctx}(hb:Base Tryd.prog (z1di N) c):zi Tryd.prog c (zf zh2 [0,1,1]) (z1m0 N) :=
 zh (s:=SQ7) (m:=41) (g:=z1pm N) [4,0,3,2] (ze hb N (t1_65 N) z1ec zh2 (TabOk.cons (z1gq hb) TabOk.nil) [0,1,1] _ rfl) (fun x K=>by kernel_rfl)
def zc4 (N:Nat)(p:DT3)(x2:(List Int))(first:(List Int))(class_:Bool)(from_:Int)(last:(List Int))(k0:Bool->Option DT8):Option DT8 :=
 cond class_
 (k0 true)
 ((z1l N last).bind fun y =>
 (z1l N first).bind fun y1 =>
 k0 (decide (y<y1)))
def z1nl (N:Nat)(x:zw SQ4)(K:Ex->List A->Option DT8):Option DT8 :=
 zc4 N x.1 x.2.1 x.2.2.1 x.2.2.2.1 x.2.2.2.2.1 x.2.2.2.2.2.1 (fun a5=>(K .normal (mkS SQ44 10 (x.1,x.2.1,x.2.2.1,x.2.2.2.2.1,x.2.2.2.2.2.1,a5,()))))
def z1jz (N:Nat):Hd DT8:=fun st K=>(unS SQ4 39 (restr [4,6,3,0,5,2] 0 st)).bind fun x=>z1nl N x K
def t4_65 (N:Nat):Tab DT8:=[]
theorem z1fv {N:Nat}{c:Ctx}(hb:Base Tryd.prog (z1di N) c):zi Tryd.prog c (zf zh2 zms) (z1jz N) :=
 zh (s:=SQ4) (m:=39) (g:=z1nl N) [4,6,3,0,5,2] (ze hb N (t4_65 N) z1ec zh2 TabOk.nil zms _ rfl) (fun x K=>by kernel_rfl)
def zc5 (N:Nat)(p:DT3)(x2:(List Int))(first:(List Int))(class_:Bool)(from_:Int)(last:(List Int))(k0:Option DT8):Option DT8 :=
 zc4 N p x2 first class_ from_ last
 (fun x35=>cond x35
 (none)
 (k0))
def z1nw (N:Nat)(x:zw SQ4)(K:Ex->List A->Option DT8):Option DT8 :=
 zc5 N x.1 x.2.1 x.2.2.1 x.2.2.2.1 x.2.2.2.2.1 x.2.2.2.2.2.1 (K .normal (mkS SQ59 39 (x.1,x.2.1,x.2.2.1,x.2.2.2.2.2.1,())))
def z1ka (N:Nat):Hd DT8:=fun st K=>(unS SQ4 39 (restr [4,6,3,0,5,2] 0 st)).bind fun x=>z1nw N x K
def t3_65 (N:Nat):Tab DT8:=[(zms,z1jz N)]
theorem z1g6 {N:Nat}{c:Ctx}(hb:Base Tryd.prog (z1di N) c):zi Tryd.prog c (zf zh2 [0,1,1,1,1,1]) (z1ka N) :=
 zh (s:=SQ4) (m:=39) (g:=z1nw N) [4,6,3,0,5,2] (ze hb N (t3_65 N) z1ec zh2 (TabOk.cons (z1fv hb) TabOk.nil) [0,1,1,1,1,1] _ rfl) (fun x K=>by kernel_rfl)
def z3l (N:Nat)(p:DT3):Option DT8 :=
 (z3k N p).bind fun y =>
 zc7 N y.2.1 ([(0:Int),(0:Int),(0:Int),(0:Int)]:List Int) y.1.1 y.1.2.1
 (fun p1=>some (y.1.1,(p1,())))
 (fun p2=>(z3k N p2).bind fun y1 =>
 zc5 N y1.2.1 ([(0:Int),(0:Int),(0:Int),(0:Int)]:List Int) y.1.1 y1.1.2.1 p2.2.1 y1.1.1
 ((z1l N y.1.1).bind fun y2 =>
 (z1l N y1.1.1).bind fun y3 =>
 (z29 N (IntKind.wrap IntKind.u8 y2) (IntKind.wrap IntKind.u8 y3)).bind fun y4 =>
 some (y4,(y1.2.1,()))))
def t_65 (N:Nat):Tab DT8:=[([0,1,1],z1m0 N),([0,1,1,1,1,1],z1ka N)]
theorem z1ad (N:Nat)(x:zw SQ0):z4x (z1di N) N (t_65 N) z1ec Tryd.f82 (mkS SQ0 0 x) (z5r (.v (.arr 4 (.int .u64))) SQ0 0)=z3l N x.1:=by kernel_rfl
def z6n (N:Nat):List A->Res:=zy SQ0 (fun x=>z3l N x.1) (z6u (.v (.arr 4 (.int .u64))) SQ0 0)
theorem zc8 (N:Nat):Contract Tryd.prog glob 82 (z6n N) :=
 Contract.of (E:=z1di N) (H:=t_65 N) (L:=z1ec) (N:=N) (body:=zh2) (K:=(z5r (.v (.arr 4 (.int .u64))) SQ0 0)) (z1s5 N) Tryd.func82 (by kernel_rfl) (by decide) (fun _ hb=>(TabOk.cons (z1hw hb) (TabOk.cons (z1g6 hb) TabOk.nil))) (fun x y h=>by rw[z1ad];exact h) (z3x (s:=(.v (.arr 4 (.int .u64)))) (os:=SQ0) (m:=0))
def zxe:Code:=(Tryd.f83.body).getD .skip
def L_66:List (List Nat×List Nat):=[([0],[2,3,4]),([0,0,1],[6,2,3,4]),([0,1,0,1],[6,2,3,4]),([0,0,0,1,0,1],[7,6,2,3,4]),(z14n,[6,2,3,4]),(z118,[2,4]),(z1r3,[5,2,3,6,4]),([1,0,0,1,1,0,0,1,0,1],[6,2,3,4]),(z14p,[6,2,3,4]),(z14o,[6,2,3,4]),([1,0,1],[2,4]),([0,1,1],[4]),([1,1,1],[4])]
def E_66 (N:Nat):Env:=z1d tys glob [] [] [] [] false [] []
theorem z1s4 (N:Nat):EnvOk Tryd.prog (E_66 N):=zg mixed zn (FnsOk.nil) (ItsOk.nil)
def zlk (N:Nat)(t:(List Int))(x4:(List Int))(s:(List Int))(x6:Int)(rec:(List Int)->Int->Option (List Int))(k0:(List Int)->Option (List Int)):Option (List Int) :=
 cond (decide (x6<(4:Int)))
 (cond (inR x6 4)
 (cond (decide ((Int.toNat x6)<(List.length s)))
 (cond (inR x6 4)
 (cond (decide ((Int.toNat x6)<(List.length t)))
 (cond (inR x6 4)
 (cond (decide ((Int.toNat x6)<(List.length s)))
 (rec (List.set s (Int.toNat x6) (zb Go.BinOp.or IntKind.u64 (List.getD s (Int.toNat x6) (0:Int)) (List.getD t (Int.toNat x6) (0:Int)))) (IntKind.wrap IntKind.i64 (x6+(1:Int))))
 (none))
 (none))
 (none))
 (none))
 (none))
 (none))
 (k0 s)
def zsz (N:Nat)(s:(List Int))(t:(List Int))(x4:(List Int))(x6:Int)(k0:(List Int)->Option (List Int)):Option (List Int) :=
 iter (fun (v:((List Int)×Int)) r=>zlk N t x4 v.1 v.2 (fun s x6=>(r (s,x6))) k0) N (s,x6)
def z1pl (N:Nat)(i:((List Int)×(List Int)))(v:((List Int)×Int))(r:((List Int)×Int)->Option (List Int))(K:Ex->List A->Option (List Int)):Option (List Int) :=
 zlk N i.1 i.2 v.1 v.2 (fun s x6=>(r (s,x6))) (fun a0=>(K (.exit 0) (mkS SQ76 14 (a0,i.2,()))))
def z1lz (N:Nat):Hd (List Int):=fun st K=>(unS SQ30 12 (restr [6,2,3,4] 0 st)).bind fun x=>iter (fun v r=>z1pl N ((fun x=>(x.2.1,x.2.2.1)) x) v r K) N ((fun x=>(x.1,x.2.2.2.1)) x)
def t1_66 (N:Nat):Tab (List Int):=[]
theorem z1hv {N:Nat}{c:Ctx}(hb:Base Tryd.prog (E_66 N) c):zi Tryd.prog c (zf zxe [0,1,0,1]) (z1lz N) :=
 z2p (s:=SQ30) (m:=12) (z1pl N) [6,2,3,4] N (fun x=>(x.2.1,x.2.2.1)) (fun x=>(x.1,x.2.2.2.1)) (fun i v=>(v.1,i.1,i.2,v.2,())) (fun _=>rfl) (ze hb N (t1_66 N) L_66 zxe TabOk.nil [0,0,1,0,1] _ rfl) (fun i v r K=>by kernel_rfl)
def zj5 (N:Nat)(s:(List Int))(t:(List Int)):Option (List Int) :=
 zsz N s t ([(0:Int),(0:Int),(0:Int),(0:Int)]:List Int) (0:Int)
 (fun s1=>some s1)
def t_66 (N:Nat):Tab (List Int):=[([0,1,0,1],z1lz N)]
theorem z1ac (N:Nat)(x:zw z11i):z4x (E_66 N) N (t_66 N) L_66 Tryd.f83 (mkS z11i 0 x) (z2u (.v (.arr 4 (.int .u64))) 2)=zj5 N x.1 x.2.1:=by kernel_rfl
def zfd (N:Nat):List A->Res:=zy z11i (fun x=>zj5 N x.1 x.2.1) (z6e (.v (.arr 4 (.int .u64))) 2)
theorem zll (N:Nat):Contract Tryd.prog glob 83 (zfd N) :=
 Contract.of (E:=E_66 N) (H:=t_66 N) (L:=L_66) (N:=N) (body:=zxe) (K:=(z2u (.v (.arr 4 (.int .u64))) 2)) (z1s4 N) Tryd.func83 (by kernel_rfl) (by decide) (fun _ hb=>(TabOk.cons (z1hv hb) TabOk.nil)) (fun x y h=>by rw[z1ac];exact h) (zz (s:=(.v (.arr 4 (.int .u64)))) (m:=2))
def zxd:Code:=(Tryd.f74.body).getD .skip
def L_67:List (List Nat×List Nat):=[([0],[0,2]),([0,1],[0,2]),([0,1,1],[0,3,2]),([0,1,1,1],[0,4,3,2]),([0,0,1,1,1,1],[0,4,3,2]),([0,0,0,0,0,1,1,1,1],[13,4,0,3,2]),([1,0,0,0,0,1,1,1,1],[4,0,3,2]),(z16r,[3,4,2,0]),([0,1,0,0,0,1,1,1,1],[0,4,3,2]),([1,0,0,0,1,1,1,1],[0,4,3,2]),([0,1,1,1,1],[3,4,2,0]),(zms,[18,4,2,0]),(z11k,[4,2,0]),(z1r4,[2,0]),(z14s,[2,0]),(z116,[2,0]),(z17z,[2,0])]
def E_67 (N:Nat):Env:=z1d tys glob [(83,zfd N),(82,z6n N),(56,z1i N),(77,z1j N),(64,zac N)] [] [] [0] false [] []
theorem z1s3 (N:Nat):EnvOk Tryd.prog (E_67 N):=zg mixed zn (FnsOk.cons (zll N) (FnsOk.cons (zc8 N) (FnsOk.cons (z1y N) (FnsOk.cons (z1z N) (FnsOk.cons (zfe N) (FnsOk.nil)))))) (ItsOk.nil)
def z9c (N:Nat)(x2:(List Int))(not_:Bool)(p:DT3)(set_:(List Int))(rec:DT3->(List Int)->Option DT8)(k0:DT3->(List Int)->Option DT8):Option DT8 :=
 (z16 N p (93:Int)).bind fun y =>
 cond (!y.1)
 ((z3l N y.2.1).bind fun y1 =>
 (zj5 N set_ y1.1).bind fun y2 =>
 rec y1.2.1 y2)
 (k0 y.2.1 set_)
def zfs (N:Nat)(p:DT3)(x2:(List Int))(not_:Bool)(set_:(List Int))(k0:DT3->(List Int)->Option DT8):Option DT8 :=
 iter (fun (v:(DT3×(List Int))) r=>z9c N x2 not_ v.1 v.2 (fun p set_=>(r (p,set_))) k0) N (p,set_)
def z1pk (N:Nat)(i:((List Int)×Bool))(v:(DT3×(List Int)))(r:(DT3×(List Int))->Option DT8)(K:Ex->List A->Option DT8):Option DT8 :=
 z9c N i.1 i.2 v.1 v.2 (fun p set_=>(r (p,set_))) (fun a0 a3=>(K (.exit 0) (mkS z1e5 17 (a0,i.1,i.2,a3,()))))
def z1ly (N:Nat):Hd DT8:=fun st K=>(unS z1e5 17 (restr [0,4,3,2] 0 st)).bind fun x=>iter (fun v r=>z1pk N ((fun x=>(x.2.1,x.2.2.1)) x) v r K) N ((fun x=>(x.1,x.2.2.2.1)) x)
def t1_67 (N:Nat):Tab DT8:=[]
theorem z1hu {N:Nat}{c:Ctx}(hb:Base Tryd.prog (E_67 N) c):zi Tryd.prog c (zf zxd [0,0,1,1,1,1]) (z1ly N) :=
 z2p (s:=z1e5) (m:=17) (z1pk N) [0,4,3,2] N (fun x=>(x.2.1,x.2.2.1)) (fun x=>(x.1,x.2.2.2.1)) (fun i v=>(v.1,i.1,i.2,v.2,())) (fun _=>rfl) (ze hb N (t1_67 N) L_67 zxd TabOk.nil [0,0,0,1,1,1,1] _ rfl) (fun i v r K=>by kernel_rfl)
def z46 (N:Nat)(p:DT3):Option DT8 :=
 (z1f N p (91:Int)).bind fun y =>
 (z16 N y.2.1 (94:Int)).bind fun y1 =>
 (z3l N y1.2.1).bind fun y2 =>
 zfs N y2.2.1 ([(0:Int),(0:Int),(0:Int),(0:Int)]:List Int) y1.1 y2.1
 (fun p1 set_=>cond y1.1
 ((zek N set_).bind fun y3 =>
 some (y3,(p1,())))
 (some (set_,(p1,()))))
def t_67 (N:Nat):Tab DT8:=[([0,0,1,1,1,1],z1ly N)]
theorem z1ab (N:Nat)(x:zw SQ0):z4x (E_67 N) N (t_67 N) L_67 Tryd.f74 (mkS SQ0 0 x) (z5r (.v (.arr 4 (.int .u64))) SQ0 0)=z46 N x.1:=by kernel_rfl
def z4c (N:Nat):List A->Res:=zy SQ0 (fun x=>z46 N x.1) (z6u (.v (.arr 4 (.int .u64))) SQ0 0)
theorem z9d (N:Nat):Contract Tryd.prog glob 74 (z4c N) :=
 Contract.of (E:=E_67 N) (H:=t_67 N) (L:=L_67) (N:=N) (body:=zxd) (K:=(z5r (.v (.arr 4 (.int .u64))) SQ0 0)) (z1s3 N) Tryd.func74 (by kernel_rfl) (by decide) (fun _ hb=>(TabOk.cons (z1hu hb) TabOk.nil)) (fun x y h=>by rw[z1ab];exact h) (z3x (s:=(.v (.arr 4 (.int .u64)))) (os:=SQ0) (m:=0))
def zxc:Code:=(Tryd.f69.body).getD .skip
def L_68:List (List Nat×List Nat):=[([0],[0,2]),([0,1],[3,0,2]),([0,1,1],[15,0,2,3]),([0,0,1,1,1],[36,0,2,15,3]),([1,0,1,1,1],[2,0]),([0,1,1,0,1,1,1],[40,0,2,15,3]),([1,1,1,0,1,1,1],[2,0]),([0,1,1,1,1,0,1,1,1],[51,0,2,15,3]),([1,1,1,1,1,0,1,1,1],[2,0]),([0,1,1,1,1,1,1,0,1,1,1],[56,0,2,3]),([1,1,1,1,1,1,1,0,1,1,1],[2,0]),([0,0,1,1,1,1,1,1,1,1,0,1,1,1],[18,0,3,2]),([1,0,1,1,1,1,1,1,1,1,0,1,1,1],[0,3,2]),([0,1,0,1,1,1,1,1,1,1,1,0,1,1,1],[0,3,2]),([0,1,1,1,1,1,1,1,1,1,0,1,1,1],[3,2,0]),([0,1,1,1,1,1,1,1,1,1,1,0,1,1,1],[2,0]),([1,1,1,1,1,1,1,1,1,1,1,0,1,1,1],[2,0]),([0,0,1,1,1,1,1,1,1,0,1,1,1],[4,2,0]),([0,1,0,1,1,1,1,1,1,1,0,1,1,1],[2,0]),([1,1,0,1,1,1,1,1,1,1,0,1,1,1],[2,0]),([0,0,1,1,1,1,1,0,1,1,1],[2,0]),([1,0,1,1,1,1,1,0,1,1,1],[2,0]),([0,0,1,1,1,0,1,1,1],[2,0]),([0,1,0,1,1,1,0,1,1,1],[2,0]),([1,1,0,1,1,1,0,1,1,1],[2,0]),(z115,[2,0]),(z14m,[2,0]),([1,1,1],[2,0])]
def E_68 (N:Nat)(self:z8):Env:=z1d tys glob [(74,z4c N),(75,z2r N),(73,zgm N),(72,z60 N self),(26,z2j N),(54,z2m N),(36,zy SQ0 (fun x=>self x.1) (z6u (.v TT1) SQ0 0))] [] [] [0] false [] []
theorem z1s2 (N:Nat)(self:z8)(hself:Contract Tryd.prog glob 36 (zy SQ0 (fun x=>self x.1) (z6u (.v TT1) SQ0 0))):EnvOk Tryd.prog (E_68 N self):=zg mixed zn (FnsOk.cons (z9d N) (FnsOk.cons (z3v N) (FnsOk.cons (zmy N) (FnsOk.cons (zb9 N self hself) (FnsOk.cons (z34 N) (FnsOk.cons (z3c N) (FnsOk.cons (hself) (FnsOk.nil)))))))) (ItsOk.nil)
def zc9 (N:Nat)(self:z8)(p:DT3)(x2:DT2)(b:Int)(k0:Option (DT2×(DT3×Unit))):Option (DT2×(DT3×Unit)) :=
 cond (decide ((0:Int)<=(Go.Lib.indexByte ([(92:UInt8),(46:UInt8),(91:UInt8),(93:UInt8),(40:UInt8),(41:UInt8),(123:UInt8),(125:UInt8),(124:UInt8),(42:UInt8),(43:UInt8),(63:UInt8)]:List UInt8) (Nat.toUInt8 (Int.toNat b)))))
 (none)
 (k0)
def z1pj (N:Nat)(self:z8)(x:zw z17w)(K:Ex->List A->Option (DT2×(DT3×Unit))):Option (DT2×(DT3×Unit)) :=
 zc9 N self x.1 x.2.1 x.2.2.1 (K .normal (mkS z17w 61 (x.1,x.2.1,x.2.2.1,())))
def z1lx (N:Nat)(self:z8):Hd (DT2×(DT3×Unit)):=fun st K=>(unS z17w 61 (restr [3,0,2] 0 st)).bind fun x=>z1pj N self x K
def t1_68 (N:Nat)(self:z8):Tab (DT2×(DT3×Unit)):=[]
theorem z1ht {N:Nat}{self:z8}{c:Ctx}(hb:Base Tryd.prog (E_68 N self) c):zi Tryd.prog c (zf zxc z1ea) (z1lx N self) :=
 zh (s:=z17w) (m:=61) (g:=z1pj N self) [3,0,2] (ze hb N (t1_68 N self) L_68 zxc TabOk.nil z1ea _ rfl) (fun x K=>by kernel_rfl)
def z70 (N:Nat)(self:z8)(p:DT3):Option (DT2×(DT3×Unit)) :=
 cond (inR p.2.1 (List.length p.1))
 (cond ((((UInt8.toNat (List.getD p.1 (Int.toNat p.2.1) (0:UInt8))):Nat):Int) == (40:Int))
 ((z65 N self p).bind fun y =>
 some (y.1,(y.2.1,())))
 (cond ((((UInt8.toNat (List.getD p.1 (Int.toNat p.2.1) (0:UInt8))):Nat):Int) == (46:Int))
 ((z29 N (0:Int) (255:Int)).bind fun y1 =>
 some (((1:Int),(y1,(([]:List Tree),((0:Int),((0:Int),()))))),((p.1,((IntKind.wrap IntKind.i64 (p.2.1+(1:Int))),p.2.2)),())))
 (cond ((((UInt8.toNat (List.getD p.1 (Int.toNat p.2.1) (0:UInt8))):Nat):Int) == (91:Int))
 ((z46 N p).bind fun y2 =>
 some (((1:Int),(y2.1,(([]:List Tree),((0:Int),((0:Int),()))))),(y2.2.1,())))
 (cond ((((UInt8.toNat (List.getD p.1 (Int.toNat p.2.1) (0:UInt8))):Nat):Int) == (92:Int))
 ((z2y N p).bind fun y3 =>
 some (((1:Int),(y3.1.1,(([]:List Tree),((0:Int),((0:Int),()))))),(y3.2.1,())))
 (zc9 N self p ((0:Int),(([(0:Int),(0:Int),(0:Int),(0:Int)]:List Int),(([]:List Tree),((0:Int),((0:Int),()))))) (((UInt8.toNat (List.getD p.1 (Int.toNat p.2.1) (0:UInt8))):Nat):Int)
 ((z29 N (((UInt8.toNat (List.getD p.1 (Int.toNat p.2.1) (0:UInt8))):Nat):Int) (((UInt8.toNat (List.getD p.1 (Int.toNat p.2.1) (0:UInt8))):Nat):Int)).bind fun y4 =>
 some (((1:Int),(y4,(([]:List Tree),((0:Int),((0:Int),()))))),((p.1,((IntKind.wrap IntKind.i64 (p.2.1+(1:Int))),p.2.2)),()))))))))
 (none)
def t_68 (N:Nat)(self:z8):Tab (DT2×(DT3×Unit)):=[(z1ea,z1lx N self)]
theorem z1aa (N:Nat)(self:z8)(x:zw SQ0):z4x (E_68 N self) N (t_68 N self) L_68 Tryd.f69 (mkS SQ0 0 x) (z5r (.v TT1) SQ0 0)=z70 N self x.1:=by kernel_rfl
def z6q (N:Nat)(self:z8):List A->Res:=zy SQ0 (fun x=>z70 N self x.1) (z6u (.v TT1) SQ0 0)
theorem zca (N:Nat)(self:z8)(hself:Contract Tryd.prog glob 36 (zy SQ0 (fun x=>self x.1) (z6u (.v TT1) SQ0 0))):Contract Tryd.prog glob 69 (z6q N self) :=
 Contract.of (E:=E_68 N self) (H:=t_68 N self) (L:=L_68) (N:=N) (body:=zxc) (K:=(z5r (.v TT1) SQ0 0)) (z1s2 N self hself) Tryd.func69 (by kernel_rfl) (by decide) (fun _ hb=>(TabOk.cons (z1ht hb) TabOk.nil)) (fun x y h=>by rw[z1aa];exact h) (z3x (s:=(.v TT1)) (os:=SQ0) (m:=0))
def zay:Code:=(Tryd.f76.body).getD .skip
def z185:List (List Nat×List Nat):=[([0],[0]),([0,1],[0,3]),([0,0,1,1],[12,0,3]),([1,0,1,1],[0,3]),([0,1,0,1,1],[0,3]),([0,1,1,1],[0,4,3]),([0,0,1,1,1,1],[0,4,3]),([0,0,0,0,0,1,1,1,1],[37,4,0,3]),([1,0,0,0,0,1,1,1,1],[4,0,3]),(z16r,[0,3,4]),([0,0,1,0,0,0,1,1,1,1],[0,4,3]),([1,0,1,0,0,0,1,1,1,1],[0,4,3]),([1,0,0,0,1,1,1,1],[0,4,3]),([0,1,1,1,1],[0,3,4]),(zms,[75,0,3,4]),(z11k,[4,0,3]),(z1da,[4,0,3]),(z16u,[80,0,3,4]),(z16t,[4,0]),(z14r,[4,0]),(z182,[2,0]),(z181,[2,0])]
def z16z (N:Nat):Env:=z1d tys glob [(86,z6s N),(84,z15 N)] [] [] [0] false [] []
theorem z1s1 (N:Nat):EnvOk Tryd.prog (z16z N):=zg mixed zn (FnsOk.cons (zb0 N) (FnsOk.cons (z1c N) (FnsOk.nil))) (ItsOk.nil)
def zdn (N:Nat)(p:DT3)(from_:Int)(k0:DT3->Option (Int×(DT3×Unit))):Option (Int×(DT3×Unit)) :=
 (z1e N p).bind fun y =>
 (z6t N y.1).bind fun y1 =>
 cond (!y1)
 (none)
 (k0 y.2.1)
def z1pi (N:Nat)(x:zw z17v)(K:Ex->List A->Option (Int×(DT3×Unit))):Option (Int×(DT3×Unit)) :=
 zdn N x.1 x.2.1 (fun a0=>(K .normal (mkS z17v 81 (a0,x.2.1,()))))
def z1lw (N:Nat):Hd (Int×(DT3×Unit)):=fun st K=>(unS z17v 81 (restr [0,3] 0 st)).bind fun x=>z1pi N x K
def t1_69 (N:Nat):Tab (Int×(DT3×Unit)):=[]
theorem z1hs {N:Nat}{c:Ctx}(hb:Base Tryd.prog (z16z N) c):zi Tryd.prog c (zf zay [0,1,1]) (z1lw N) :=
 zh (s:=z17v) (m:=81) (g:=z1pi N) [0,3] (ze hb N (t1_69 N) z185 zay TabOk.nil [0,1,1] _ rfl) (fun x K=>by kernel_rfl)
def zdl (N:Nat)(p:DT3)(from_:Int)(n:Int)(k0:Option (Int×(DT3×Unit)))(k1:Option (Int×(DT3×Unit))):Option (Int×(DT3×Unit)) :=
 cond (decide (p.2.1<(((List.length p.1):Nat):Int)))
 (cond (inR p.2.1 (List.length p.1))
 ((z6t N (((UInt8.toNat (List.getD p.1 (Int.toNat p.2.1) (0:UInt8))):Nat):Int)).bind fun y =>
 cond y
 (k0)
 (k1))
 (none))
 (k1)
def z1nk (N:Nat)(x:zw SQ1)(K:Ex->List A->Option (Int×(DT3×Unit))):Option (Int×(DT3×Unit)) :=
 zdl N x.1 x.2.1 x.2.2.1 (K .normal (mkS SQ1 80 (x.1,x.2.1,x.2.2.1,()))) (K (.exit 0) (mkS SQ1 80 (x.1,x.2.1,x.2.2.1,())))
def z1jy (N:Nat):Hd (Int×(DT3×Unit)):=fun st K=>(unS SQ1 80 (restr [0,4,3] 0 st)).bind fun x=>z1nk N x K
def t4_69 (N:Nat):Tab (Int×(DT3×Unit)):=[]
theorem z1fu {N:Nat}{c:Ctx}(hb:Base Tryd.prog (z16z N) c):zi Tryd.prog c (zf zay z117) (z1jy N) :=
 zh (s:=SQ1) (m:=80) (g:=z1nk N) [0,4,3] (ze hb N (t4_69 N) z185 zay TabOk.nil z117 _ rfl) (fun x K=>by kernel_rfl)
def zdi (N:Nat)(from_:Int)(p:DT3)(n:Int)(rec:DT3->Int->Option (Int×(DT3×Unit)))(k0:DT3->Int->Option (Int×(DT3×Unit))):Option (Int×(DT3×Unit)) :=
 zdl N p from_ n
 (cond (inR p.2.1 (List.length p.1))
 (rec (p.1,((IntKind.wrap IntKind.i64 (p.2.1+(1:Int))),p.2.2)) (if ((17:Int)<(IntKind.wrap IntKind.i64 ((IntKind.wrap IntKind.i64 ((10:Int)*n))+(IntKind.wrap IntKind.i64 (IntKind.wrap IntKind.u8 ((((UInt8.toNat (List.getD p.1 (Int.toNat p.2.1) (0:UInt8))):Nat):Int) - (48:Int))))))) then (17:Int) else (IntKind.wrap IntKind.i64 ((IntKind.wrap IntKind.i64 ((10:Int)*n))+(IntKind.wrap IntKind.i64 (IntKind.wrap IntKind.u8 ((((UInt8.toNat (List.getD p.1 (Int.toNat p.2.1) (0:UInt8))):Nat):Int) - (48:Int))))))))
 (none))
 (k0 p n)
def zk2 (N:Nat)(p:DT3)(from_:Int)(n:Int)(k0:DT3->Int->Option (Int×(DT3×Unit))):Option (Int×(DT3×Unit)) :=
 iter (fun (v:(DT3×Int)) r=>zdi N from_ v.1 v.2 (fun p n=>(r (p,n))) k0) N (p,n)
def z1nv (N:Nat)(i:Int)(v:(DT3×Int))(r:(DT3×Int)->Option (Int×(DT3×Unit)))(K:Ex->List A->Option (Int×(DT3×Unit))):Option (Int×(DT3×Unit)) :=
 zdi N i v.1 v.2 (fun p n=>(r (p,n))) (fun a0 a2=>(K (.exit 0) (mkS SQ1 80 (a0,i,a2,()))))
def z1k9 (N:Nat):Hd (Int×(DT3×Unit)):=fun st K=>(unS SQ1 80 (restr [0,4,3] 0 st)).bind fun x=>iter (fun v r=>z1nv N ((fun x=>x.2.1) x) v r K) N ((fun x=>(x.1,x.2.2.1)) x)
def t3_69 (N:Nat):Tab (Int×(DT3×Unit)):=[(z117,z1jy N)]
theorem z1g5 {N:Nat}{c:Ctx}(hb:Base Tryd.prog (z16z N) c):zi Tryd.prog c (zf zay [0,0,1,1,1,1]) (z1k9 N) :=
 z2p (s:=SQ1) (m:=80) (z1nv N) [0,4,3] N (fun x=>x.2.1) (fun x=>(x.1,x.2.2.1)) (fun i v=>(v.1,i,v.2,())) (fun _=>rfl) (ze hb N (t3_69 N) z185 zay (TabOk.cons (z1fu hb) TabOk.nil) [0,0,0,1,1,1,1] _ rfl) (fun i v r K=>by kernel_rfl)
def zdm (N:Nat)(p:DT3)(from_:Int)(n:Int)(k0:DT3->Int->Option (Int×(DT3×Unit))):Option (Int×(DT3×Unit)) :=
 zk2 N p from_ n
 (fun p1 n1=>k0 p1 n1)
def z1of (N:Nat)(x:zw SQ1)(K:Ex->List A->Option (Int×(DT3×Unit))):Option (Int×(DT3×Unit)) :=
 zdm N x.1 x.2.1 x.2.2.1 (fun a0 a2=>(K .normal (mkS SQ1 80 (a0,x.2.1,a2,()))))
def z1kt (N:Nat):Hd (Int×(DT3×Unit)):=fun st K=>(unS SQ1 80 (restr [0,4,3] 0 st)).bind fun x=>z1of N x K
def t2_69 (N:Nat):Tab (Int×(DT3×Unit)):=[([0,0,1,1,1,1],z1k9 N)]
theorem z1gp {N:Nat}{c:Ctx}(hb:Base Tryd.prog (z16z N) c):zi Tryd.prog c (zf zay [0,1,1,1,1]) (z1kt N) :=
 zh (s:=SQ1) (m:=80) (g:=z1of N) [0,4,3] (ze hb N (t2_69 N) z185 zay (TabOk.cons (z1g5 hb) TabOk.nil) [0,1,1,1,1] _ rfl) (fun x K=>by kernel_rfl)
def zdj (N:Nat)(p:DT3)(from_:Int)(n:Int)(k0:Bool->Option (Int×(DT3×Unit))):Option (Int×(DT3×Unit)) :=
 cond (inR from_ (List.length p.1))
 (cond ((((UInt8.toNat (List.getD p.1 (Int.toNat from_) (0:UInt8))):Nat):Int) == (48:Int))
 (k0 (decide ((IntKind.wrap IntKind.i64 (from_+(1:Int)))<p.2.1)))
 (k0 false))
 (none)
def z1n6 (N:Nat)(x:zw SQ1)(K:Ex->List A->Option (Int×(DT3×Unit))):Option (Int×(DT3×Unit)) :=
 zdj N x.1 x.2.1 x.2.2.1 (fun a3=>(K .normal (mkS SQ88 9 (x.1,x.2.1,x.2.2.1,a3,()))))
def z1jk (N:Nat):Hd (Int×(DT3×Unit)):=fun st K=>(unS SQ1 80 (restr [0,3,4] 0 st)).bind fun x=>z1n6 N x K
def t6_69 (N:Nat):Tab (Int×(DT3×Unit)):=[]
theorem z1fg {N:Nat}{c:Ctx}(hb:Base Tryd.prog (z16z N) c):zi Tryd.prog c (zf zay zms) (z1jk N) :=
 zh (s:=SQ1) (m:=80) (g:=z1n6 N) [0,3,4] (ze hb N (t6_69 N) z185 zay TabOk.nil zms _ rfl) (fun x K=>by kernel_rfl)
def zdk (N:Nat)(p:DT3)(from_:Int)(n:Int)(k0:Option (Int×(DT3×Unit))):Option (Int×(DT3×Unit)) :=
 zdj N p from_ n
 (fun x75=>cond x75
 (none)
 (k0))
def z1nc (N:Nat)(x:zw SQ1)(K:Ex->List A->Option (Int×(DT3×Unit))):Option (Int×(DT3×Unit)) :=
 zdk N x.1 x.2.1 x.2.2.1 (K .normal (mkS SQ1 80 (x.1,x.2.1,x.2.2.1,())))
def z1jq (N:Nat):Hd (Int×(DT3×Unit)):=fun st K=>(unS SQ1 80 (restr [0,3,4] 0 st)).bind fun x=>z1nc N x K
def t5_69 (N:Nat):Tab (Int×(DT3×Unit)):=[(zms,z1jk N)]
theorem z1fm {N:Nat}{c:Ctx}(hb:Base Tryd.prog (z16z N) c):zi Tryd.prog c (zf zay [0,1,1,1,1,1]) (z1jq N) :=
 zh (s:=SQ1) (m:=80) (g:=z1nc N) [0,3,4] (ze hb N (t5_69 N) z185 zay (TabOk.cons (z1fg hb) TabOk.nil) [0,1,1,1,1,1] _ rfl) (fun x K=>by kernel_rfl)
def z40 (N:Nat)(p:DT3):Option (Int×(DT3×Unit)) :=
 zdn N p p.2.1
 (fun p1=>zdm N p1 p.2.1 (0:Int)
 (fun p2 n=>zdk N p2 p.2.1 n
 (cond (decide ((16:Int)<n))
 (none)
 (some (n,(p2,()))))))
def t_69 (N:Nat):Tab (Int×(DT3×Unit)):=[([0,1,1],z1lw N),([0,1,1,1,1],z1kt N),([0,1,1,1,1,1],z1jq N)]
theorem z1a9 (N:Nat)(x:zw SQ0):z4x (z16z N) N (t_69 N) z185 Tryd.f76 (mkS SQ0 0 x) (z5r (.v (.int .i64)) SQ0 0)=z40 N x.1:=by kernel_rfl
def z7i (N:Nat):List A->Res:=zy SQ0 (fun x=>z40 N x.1) (z6u (.v (.int .i64)) SQ0 0)
theorem zdo (N:Nat):Contract Tryd.prog glob 76 (z7i N) :=
 Contract.of (E:=z16z N) (H:=t_69 N) (L:=z185) (N:=N) (body:=zay) (K:=(z5r (.v (.int .i64)) SQ0 0)) (z1s1 N) Tryd.func76 (by kernel_rfl) (by decide) (fun _ hb=>(TabOk.cons (z1hs hb) (TabOk.cons (z1gp hb) (TabOk.cons (z1fm hb) TabOk.nil)))) (fun x y h=>by rw[z1a9];exact h) (z3x (s:=(.v (.int .i64))) (os:=SQ0) (m:=0))
def zpq:Code:=(Tryd.f70.body).getD .skip
def L_70:List (List Nat×List Nat):=[([0],[0]),([0,1],[0,4]),([0,1,1],[2,0,4]),([0,1,1,1],[0,2,3,4]),([0,0,1,1,1,1],[13,0,2,3,4]),([1,0,1,1,1,1],[3,2,0,4]),([0,0,0,1,0,1,1,1,1],[15,2,0]),([1,0,0,1,0,1,1,1,1],[0,2]),([0,0,1,0,0,1,0,1,1,1,1],[2,3,0]),([1,0,1,0,0,1,0,1,1,1,1],[2,3,0]),([0,1,0,1,0,1,1,1,1],[0,2,4]),([1,1,0,1,0,1,1,1,1],[3,2,0,4]),(zms,[26,0,4,2,3]),(z11k,[0,2,3]),(z1da,[0,2,3]),(z116,[2,3,0]),(z182,[2,3,0]),(z181,[2,3,0])]
def z1tq (N:Nat):Env:=z1d tys glob [(76,z7i N),(56,z1i N),(77,z1j N)] [] [] [0] false [] []
theorem z1s0 (N:Nat):EnvOk Tryd.prog (z1tq N):=zg mixed zn (FnsOk.cons (zdo N) (FnsOk.cons (z1y N) (FnsOk.cons (z1z N) (FnsOk.nil)))) (ItsOk.nil)
def zai (N:Nat)(p:DT3)(low:Int)(high:Int)(from_:Int)(k0:DT3->Int->Option ((Int×Int×Unit)×(DT3×Unit)))(k1:DT3->Int->Int->Option ((Int×Int×Unit)×(DT3×Unit))):Option ((Int×Int×Unit)×(DT3×Unit)) :=
 (z16 N p (44:Int)).bind fun y =>
 cond y.1
 ((z16 N y.2.1 (125:Int)).bind fun y1 =>
 cond y1.1
 (k0 y1.2.1 (-(1:Int)))
 ((z40 N y1.2.1).bind fun y2 =>
 k1 y2.2.1 y2.1 y1.2.1.2.1))
 (k1 y.2.1 high from_)
def z1ph (N:Nat)(x:zw SQ8)(K:Ex->List A->Option ((Int×Int×Unit)×(DT3×Unit))):Option ((Int×Int×Unit)×(DT3×Unit)) :=
 zai N x.1 x.2.1 x.2.2.1 x.2.2.2.1 (fun a0 a2=>(K .ret (mkS SQ55 30 (a0,x.2.1,a2,())))) (fun a0 a2 a3=>(K .normal (mkS SQ8 29 (a0,x.2.1,a2,a3,()))))
def z1lv (N:Nat):Hd ((Int×Int×Unit)×(DT3×Unit)):=fun st K=>(unS SQ8 29 (restr [0,2,3,4] 0 st)).bind fun x=>z1ph N x K
def t1_70 (N:Nat):Tab ((Int×Int×Unit)×(DT3×Unit)):=[]
theorem z1hr {N:Nat}{c:Ctx}(hb:Base Tryd.prog (z1tq N) c):zi Tryd.prog c (zf zpq [0,1,1,1,1]) (z1lv N) :=
 zh (s:=SQ8) (m:=29) (g:=z1ph N) [0,2,3,4] (ze hb N (t1_70 N) L_70 zpq TabOk.nil [0,1,1,1,1] _ rfl) (fun x K=>by kernel_rfl)
def zah (N:Nat)(p:DT3)(low:Int)(high:Int)(from_:Int)(k0:Option ((Int×Int×Unit)×(DT3×Unit))):Option ((Int×Int×Unit)×(DT3×Unit)) :=
 cond (decide (high<(if ((1:Int) > low) then (1:Int) else low)))
 (none)
 (k0)
def z1oe (N:Nat)(x:zw SQ8)(K:Ex->List A->Option ((Int×Int×Unit)×(DT3×Unit))):Option ((Int×Int×Unit)×(DT3×Unit)) :=
 zah N x.1 x.2.1 x.2.2.1 x.2.2.2.1 (K .normal (mkS SQ55 30 (x.1,x.2.1,x.2.2.1,())))
def z1ks (N:Nat):Hd ((Int×Int×Unit)×(DT3×Unit)):=fun st K=>(unS SQ8 29 (restr [3,2,0,4] 0 st)).bind fun x=>z1oe N x K
def t2_70 (N:Nat):Tab ((Int×Int×Unit)×(DT3×Unit)):=[]
theorem z1go {N:Nat}{c:Ctx}(hb:Base Tryd.prog (z1tq N) c):zi Tryd.prog c (zf zpq [0,1,1,1,1,1]) (z1ks N) :=
 zh (s:=SQ8) (m:=29) (g:=z1oe N) [3,2,0,4] (ze hb N (t2_70 N) L_70 zpq TabOk.nil [0,1,1,1,1,1] _ rfl) (fun x K=>by kernel_rfl)
def z5a (N:Nat)(p:DT3):Option ((Int×Int×Unit)×(DT3×Unit)) :=
 (z40 N p).bind fun y =>
 zai N y.2.1 y.1 y.1 p.2.1
 (fun p1 high=>some ((y.1,(high,())),(p1,())))
 (fun p2 high1 from_=>zah N p2 y.1 high1 from_
 ((z1f N p2 (125:Int)).bind fun y1 =>
 some ((y.1,(high1,())),(y1.2.1,()))))
def t_70 (N:Nat):Tab ((Int×Int×Unit)×(DT3×Unit)):=[([0,1,1,1,1],z1lv N),([0,1,1,1,1,1],z1ks N)]
theorem z1a8 (N:Nat)(x:zw SQ0):z4x (z1tq N) N (t_70 N) L_70 Tryd.f70 (mkS SQ0 0 x) (z5r (.tup [(.int .i64),(.int .i64)]) SQ0 0)=z5a N x.1:=by kernel_rfl
def z58 (N:Nat):List A->Res:=zy SQ0 (fun x=>z5a N x.1) (z6u (.tup [(.int .i64),(.int .i64)]) SQ0 0)
theorem zaj (N:Nat):Contract Tryd.prog glob 70 (z58 N) :=
 Contract.of (E:=z1tq N) (H:=t_70 N) (L:=L_70) (N:=N) (body:=zpq) (K:=(z5r (.tup [(.int .i64),(.int .i64)]) SQ0 0)) (z1s0 N) Tryd.func70 (by kernel_rfl) (by decide) (fun _ hb=>(TabOk.cons (z1hr hb) (TabOk.cons (z1go hb) TabOk.nil))) (fun x y h=>by rw[z1a8];exact h) (z3x (s:=(.tup [(.int .i64),(.int .i64)])) (os:=SQ0) (m:=0))
def zxb:Code:=(Tryd.f66.body).getD .skip
def L_71:List (List Nat×List Nat):=[([0],[0,2]),([0,1],[0,3,2]),([0,0,1,1],[16,3,2,0]),([1,0,1,1],[3,0,2]),([0,0,1,0,1,1],[2,0]),([1,0,1,0,1,1],[2,0]),([0,1,1,1],[0,4,2,3]),([0,0,1,1,1,1],[29,4,0,2,3]),([0,0,0,0,0,0,0,0,0,0,0,0,0,0,1,0,1,1,1,1],[30,4,0,2,29,3]),([1,0,0,0,0,0,0,0,0,0,0,0,0,0,1,0,1,1,1,1],[29,0,4,2,3]),([0,1,0,0,0,0,0,0,0,0,0,0,0,0,0,1,0,1,1,1,1],[4,0,2]),([0,0,1,0,0,0,0,0,0,0,0,0,0,0,0,1,0,1,1,1,1],[32,0,4,2,29,3]),([1,0,1,0,0,0,0,0,0,0,0,0,0,0,0,1,0,1,1,1,1],[29,0,4,2,3]),([0,1,0,1,0,0,0,0,0,0,0,0,0,0,0,0,1,0,1,1,1,1],[0,4,2]),([0,0,1,1,0,0,0,0,0,0,0,0,0,0,0,0,1,0,1,1,1,1],[34,0,4,2,29,3]),([1,0,1,1,0,0,0,0,0,0,0,0,0,0,0,0,1,0,1,1,1,1],[29,0,4,2,3]),([0,1,0,1,1,0,0,0,0,0,0,0,0,0,0,0,0,1,0,1,1,1,1],[0,4,2]),([0,1,1,1,0,0,0,0,0,0,0,0,0,0,0,0,1,0,1,1,1,1],[36,0,4,2,3]),([1,1,1,1,0,0,0,0,0,0,0,0,0,0,0,0,1,0,1,1,1,1],[3,2,0]),([0,1,1,1,1,0,0,0,0,0,0,0,0,0,0,0,0,1,0,1,1,1,1],[0,4,2]),([1,0,0,0,0,0,0,0,0,0,0,0,1,0,1,1,1,1],[3,2,0]),([0,0,0,0,0,0,0,0,0,0,1,0,1,1,1,1],[4,0,2]),([1,0,0,0,0,0,0,0,0,0,1,0,1,1,1,1],[0,4,2]),(z183,[0,4,2]),([0,1,0,0,0,0,0,0,0,1,0,1,1,1,1],[4,2,0]),([1,1,0,0,0,0,0,0,0,1,0,1,1,1,1],[4,2,0]),([0,0,0,0,0,0,1,0,1,1,1,1],[0,4,2]),([0,0,1,0,0,0,0,0,1,0,1,1,1,1],[4,2,0]),([1,0,1,0,0,0,0,0,1,0,1,1,1,1],[4,2,0]),([1,1,0,0,0,0,0,1,0,1,1,1,1],[4,2,0]),([0,0,0,0,1,0,1,1,1,1],[0,4,2]),([0,0,1,0,0,0,1,0,1,1,1,1],[0,4,2]),([1,0,1,0,0,0,1,0,1,1,1,1],[4,2,0]),([1,1,0,0,0,1,0,1,1,1,1],[4,2,0]),(z14t,[3,2,0]),([0,0,1,0,1,0,1,1,1,1],[2,0]),([1,0,1,0,1,0,1,1,1,1],[2,0]),([1,1,0,1,0,1,1,1,1],[4,2,0]),([1,0,1,1,1,1],[4,2,0]),([0,1,1,1,1,1],[2,0]),([1,1,1,1,1,1],[2,0])]
def E_71 (N:Nat)(self:z8):Env:=z1d tys glob [(70,z58 N),(69,z6q N self),(36,zy SQ0 (fun x=>self x.1) (z6u (.v TT1) SQ0 0))] [] [] [0] false [] []
theorem z1rz (N:Nat)(self:z8)(hself:Contract Tryd.prog glob 36 (zy SQ0 (fun x=>self x.1) (z6u (.v TT1) SQ0 0))):EnvOk Tryd.prog (E_71 N self):=zg mixed zn (FnsOk.cons (zaj N) (FnsOk.cons (zca N self hself) (FnsOk.cons (hself) (FnsOk.nil)))) (ItsOk.nil)
def zb6 (N:Nat)(self:z8)(p:DT3)(x2:DT2)(kid:DT2)(rep:DT2)(x29:Int)(k0:DT2->Option (DT2×(DT3×Unit)))(k1:Option (DT2×(DT3×Unit)))(k2:Option (DT2×(DT3×Unit)))(k3:Option (DT2×(DT3×Unit))):Option (DT2×(DT3×Unit)) :=
 cond (x29 == (43:Int))
 (k0 (rep.1,(rep.2.1,(rep.2.2.1,((1:Int),rep.2.2.2.2)))))
 (cond (x29 == (42:Int))
 (k0 rep)
 (cond (x29 == (63:Int))
 (k1)
 (cond (x29 == (123:Int))
 (k2)
 (k3))))
def z1pg (N:Nat)(self:z8)(x:zw z1e2)(K:Ex->List A->Option (DT2×(DT3×Unit))):Option (DT2×(DT3×Unit)) :=
 zb6 N self x.1 x.2.1 x.2.2.1 x.2.2.2.1 x.2.2.2.2.1 (fun a2=>(K .normal (mkS z1dy 65 (x.1,x.2.1,a2,())))) (K (.exit 3) (mkS z1dy 65 (x.1,x.2.1,x.2.2.2.1,()))) (K (.exit 4) (mkS z1dy 65 (x.1,x.2.1,x.2.2.2.1,()))) (K (.exit 5) (mkS [(0,.box (.pair .str TT0)),(1,.box TT1),(0,.box TT1)] 66 (x.1,x.2.1,x.2.2.1,())))
def z1lu (N:Nat)(self:z8):Hd (DT2×(DT3×Unit)):=fun st K=>(unS z1e2 40 (restr [29,4,0,2,3] 0 st)).bind fun x=>z1pg N self x K
def t1_71 (N:Nat)(self:z8):Tab (DT2×(DT3×Unit)):=[]
theorem z1hq {N:Nat}{self:z8}{c:Ctx}(hb:Base Tryd.prog (E_71 N self) c):zi Tryd.prog c (zf zxb z183) (z1lu N self) :=
 zh (s:=z1e2) (m:=40) (g:=z1pg N self) [29,4,0,2,3] (ze hb N (t1_71 N self) L_71 zxb TabOk.nil z183 _ rfl) (fun x K=>by kernel_rfl)
def z64 (N:Nat)(self:z8)(p:DT3):Option (DT2×(DT3×Unit)) :=
 (z70 N self p).bind fun y =>
 cond (y.2.1.2.1 == (((List.length y.2.1.1):Nat):Int))
 (some (y.1,(y.2.1,())))
 (cond (inR y.2.1.2.1 (List.length y.2.1.1))
 (zb6 N self y.2.1 ((0:Int),(([(0:Int),(0:Int),(0:Int),(0:Int)]:List Int),(([]:List Tree),((0:Int),((0:Int),()))))) y.1 ((4:Int),(([(0:Int),(0:Int),(0:Int),(0:Int)]:List Int),((List.map foN ([y.1]:List DT9)),((0:Int),((-(1:Int)),()))))) (((UInt8.toNat (List.getD y.2.1.1 (Int.toNat y.2.1.2.1) (0:UInt8))):Nat):Int)
 (fun rep=>some (rep,((y.2.1.1,((IntKind.wrap IntKind.i64 (y.2.1.2.1+(1:Int))),y.2.1.2.2)),())))
 (some (((4:Int),(([(0:Int),(0:Int),(0:Int),(0:Int)]:List Int),((List.map foN ([y.1]:List DT9)),((0:Int),((1:Int),()))))),((y.2.1.1,((IntKind.wrap IntKind.i64 (y.2.1.2.1+(1:Int))),y.2.1.2.2)),())))
 ((z5a N (y.2.1.1,((IntKind.wrap IntKind.i64 (y.2.1.2.1+(1:Int))),y.2.1.2.2))).bind fun y1 =>
 some (((4:Int),(([(0:Int),(0:Int),(0:Int),(0:Int)]:List Int),((List.map foN ([y.1]:List DT9)),(y1.1.1,(y1.1.2.1,()))))),(y1.2.1,())))
 (some (y.1,(y.2.1,()))))
 (none))
def t_71 (N:Nat)(self:z8):Tab (DT2×(DT3×Unit)):=[(z183,z1lu N self)]
theorem z1a7 (N:Nat)(self:z8)(x:zw SQ0):z4x (E_71 N self) N (t_71 N self) L_71 Tryd.f66 (mkS SQ0 0 x) (z5r (.v TT1) SQ0 0)=z64 N self x.1:=by kernel_rfl
def z5y (N:Nat)(self:z8):List A->Res:=zy SQ0 (fun x=>z64 N self x.1) (z6u (.v TT1) SQ0 0)
theorem zb7 (N:Nat)(self:z8)(hself:Contract Tryd.prog glob 36 (zy SQ0 (fun x=>self x.1) (z6u (.v TT1) SQ0 0))):Contract Tryd.prog glob 66 (z5y N self) :=
 Contract.of (E:=E_71 N self) (H:=t_71 N self) (L:=L_71) (N:=N) (body:=zxb) (K:=(z5r (.v TT1) SQ0 0)) (z1rz N self hself) Tryd.func66 (by kernel_rfl) (by decide) (fun _ hb=>(TabOk.cons (z1hq hb) TabOk.nil)) (fun x y h=>by rw[z1a7];exact h) (z3x (s:=(.v TT1)) (os:=SQ0) (m:=0))
def zxa:Code:=(Tryd.f57.body).getD .skip
def L_72:List (List Nat×List Nat):=[([0],[1,0,4]),([0,1],[1,0,5,4]),([0,0,1,1],[10,9,8,0,5,4]),([0,1,0,1,1],[10,9,8,0,5,4]),([0,0,0,1,0,1,1],[11,8,10,0,5,9,4]),(ztb,[8,10,0,5,9,4]),([1,0,1,0,0,1,0,1,1],[5,4,0]),(z16v,[7,0,5,10,9,8,4]),([0,1,0,0,1,1,0,0,1,0,1,1],[17,5,7,10,9,8,0,4]),([1,1,0,0,1,1,0,0,1,0,1,1],[10,9,8,0,5,4]),([1,1,1,0,0,1,1,0,0,1,0,1,1],[10,9,8,0,5,4]),([0,1,1,0,0,1,1,0,0,1,0,1,1],[10,9,8,0,5,4]),([0,1,1,0,0,1,0,1,1],[10,9,8,0,5,4]),([1,1,1,0,0,1,0,1,1],[10,9,8,0,5,4]),([1,0,1,1],[5,4,0]),([0,0,1,1,1],[29,5,4,0]),([1,0,1,1,1],[0,5,4]),(z115,[4]),(z14m,[4]),([0,1,1,1,1],[4]),([1,1,1,1,1],[4])]
def E_72 (N:Nat):Env:=z1d tys glob [] [(5,TT1)] [] [] false [] []
theorem z1ry (N:Nat):EnvOk Tryd.prog (E_72 N):=zg mixed zn (FnsOk.nil) (ItsOk.nil)
def zl6 (N:Nat)(kind:Int)(x4:DT2)(x8:(List Tree))(x9:Int)(kids:(List DT2))(x10:Int)(rec:(List DT2)->Int->Option DT2)(k0:(List DT2)->Option DT2):Option DT2 :=
 cond (decide (x10<x9))
 (cond (inR x10 (List.length x8))
 (cond ((unN (List.getD x8 (Int.toNat x10) (Tree.mk (0:Int) ([]:List Int) ([]:List Tree) (0:Int) (0:Int)))).1 == kind)
 (cond (decide ((((List.length kids)+(List.length (List.map unN (unN (List.getD x8 (Int.toNat x10) (Tree.mk (0:Int) ([]:List Int) ([]:List Tree) (0:Int) (0:Int)))).2.2.1)))*80)<=70368744177664))
 (rec (kids++(List.map unN (unN (List.getD x8 (Int.toNat x10) (Tree.mk (0:Int) ([]:List Int) ([]:List Tree) (0:Int) (0:Int)))).2.2.1)) (IntKind.wrap IntKind.i64 (x10+(1:Int))))
 (none))
 (cond (decide ((((List.length kids)+1)*80)<=70368744177664))
 (rec (kids++([(unN (List.getD x8 (Int.toNat x10) (Tree.mk (0:Int) ([]:List Int) ([]:List Tree) (0:Int) (0:Int))))]:List DT9)) (IntKind.wrap IntKind.i64 (x10+(1:Int))))
 (none)))
 (none))
 (k0 kids)
def zs4 (N:Nat)(kind:Int)(x4:DT2)(kids:(List DT2))(x8:(List Tree))(x9:Int)(x10:Int)(k0:(List DT2)->Option DT2):Option DT2 :=
 iter (fun (v:((List DT2)×Int)) r=>zl6 N kind x4 x8 x9 v.1 v.2 (fun kids x10=>(r (kids,x10))) k0) N (kids,x10)
def z1pf (N:Nat)(i:(Int×DT2×(List Tree)×Int))(v:((List DT2)×Int))(r:((List DT2)×Int)->Option DT2)(K:Ex->List A->Option DT2):Option DT2 :=
 zl6 N i.1 i.2.1 i.2.2.1 i.2.2.2 v.1 v.2 (fun kids x10=>(r (kids,x10))) (fun a2=>(K (.exit 0) (mkS [(0,.v (.int .i64)),(3,.box TT1),(0,.row TT1)] 30 (i.1,i.2.1,a2,()))))
def z1lt (N:Nat):Hd DT2:=fun st K=>(unS SQ67 25 (restr [10,9,8,0,5,4] 0 st)).bind fun x=>iter (fun v r=>z1pf N ((fun x=>(x.1,x.2.1,x.2.2.2.1,x.2.2.2.2.1)) x) v r K) N ((fun x=>(x.2.2.1,x.2.2.2.2.2.1)) x)
def t1_72 (N:Nat):Tab DT2:=[]
theorem z1hp {N:Nat}{c:Ctx}(hb:Base Tryd.prog (E_72 N) c):zi Tryd.prog c (zf zxa [0,1,0,1,1]) (z1lt N) :=
 z2p (s:=SQ67) (m:=25) (z1pf N) [10,9,8,0,5,4] N (fun x=>(x.1,x.2.1,x.2.2.2.1,x.2.2.2.2.1)) (fun x=>(x.2.2.1,x.2.2.2.2.2.1)) (fun i v=>(i.1,i.2.1,v.1,i.2.2.1,i.2.2.2,v.2,())) (fun _=>rfl) (ze hb N (t1_72 N) L_72 zxa TabOk.nil [0,0,1,0,1,1] _ rfl) (fun i v r K=>by kernel_rfl)
def zd0 (N:Nat)(kind:Int)(parts:(List Tree)):Option DT2 :=
 zs4 N kind ((0:Int),(([(0:Int),(0:Int),(0:Int),(0:Int)]:List Int),(([]:List Tree),((0:Int),((0:Int),()))))) ([]:List DT9) parts (((List.length parts):Nat):Int) (0:Int)
 (fun kids=>cond ((((List.length kids):Nat):Int) == (1:Int))
 (cond (inR (0:Int) (List.length kids))
 (cond (decide (0<(List.length kids)))
 (some (List.getD kids 0 ((0:Int),(([]:List Int),(([]:List Tree),((0:Int),((0:Int),())))))))
 (none))
 (none))
 (some (kind,(([(0:Int),(0:Int),(0:Int),(0:Int)]:List Int),((List.map foN kids),((0:Int),((0:Int),())))))))
def t_72 (N:Nat):Tab DT2:=[([0,1,0,1,1],z1lt N)]
theorem z1a6 (N:Nat)(x:zw [(0,.v (.int .i64)),(0,.v (.sl .nod))]):z4x (E_72 N) N (t_72 N) L_72 Tryd.f57 (mkS [(0,.v (.int .i64)),(0,.v (.sl .nod))] 0 x) (z2u (.v TT1) 2)=zd0 N x.1 x.2.1:=by kernel_rfl
def z8c (N:Nat):List A->Res:=zy [(0,.v (.int .i64)),(0,.v (.sl .nod))] (fun x=>zd0 N x.1 x.2.1) (z6e (.v TT1) 2)
theorem zct (N:Nat):Contract Tryd.prog glob 57 (z8c N) :=
 Contract.of (E:=E_72 N) (H:=t_72 N) (L:=L_72) (N:=N) (body:=zxa) (K:=(z2u (.v TT1) 2)) (z1ry N) Tryd.func57 (by kernel_rfl) (by decide) (fun _ hb=>(TabOk.cons (z1hp hb) TabOk.nil)) (fun x y h=>by rw[z1a6];exact h) (zz (s:=(.v TT1)) (m:=2))
def zkp:Code:=(Tryd.f55.body).getD .skip
def z1r7:List (List Nat×List Nat):=[([0],[0,2]),([0,1],[0,3,2]),([0,0,1,1],[0,3,2]),([0,0,0,0,0,1,1],[37,3,0,2]),([1,0,0,0,0,1,1],[3,0,2]),([1,1,0,0,0,0,1,1],[3,2,0]),([0,1,0,0,0,1,1],[0,3,2]),([1,0,0,0,1,1],[0,3,2]),([0,1,1],[3,2,0]),([0,1,1,1],[2,0]),([1,1,1,1],[2,0])]
def z1ee (N:Nat)(self:z8):Env:=z1d tys glob [(57,z8c N),(66,z5y N self),(36,zy SQ0 (fun x=>self x.1) (z6u (.v TT1) SQ0 0))] [(3,TT1)] [] [0] false [] []
theorem z1rx (N:Nat)(self:z8)(hself:Contract Tryd.prog glob 36 (zy SQ0 (fun x=>self x.1) (z6u (.v TT1) SQ0 0))):EnvOk Tryd.prog (z1ee N self):=zg mixed zn (FnsOk.cons (zct N) (FnsOk.cons (zb7 N self hself) (FnsOk.cons (hself) (FnsOk.nil)))) (ItsOk.nil)
def zdt (N:Nat)(self:z8)(p:DT3)(x2:DT2)(parts:(List DT2))(k0:Option (DT2×(DT3×Unit)))(k1:Option (DT2×(DT3×Unit))):Option (DT2×(DT3×Unit)) :=
 cond (decide (p.2.1<(((List.length p.1):Nat):Int)))
 (cond (inR p.2.1 (List.length p.1))
 (cond ((((UInt8.toNat (List.getD p.1 (Int.toNat p.2.1) (0:UInt8))):Nat):Int) != (124:Int))
 (cond (inR p.2.1 (List.length p.1))
 (cond ((((UInt8.toNat (List.getD p.1 (Int.toNat p.2.1) (0:UInt8))):Nat):Int) != (41:Int))
 (k0)
 (k1))
 (none))
 (k1))
 (none))
 (k1)
def z1nu (N:Nat)(self:z8)(x:zw SQ5)(K:Ex->List A->Option (DT2×(DT3×Unit))):Option (DT2×(DT3×Unit)) :=
 zdt N self x.1 x.2.1 x.2.2.1 (K .normal (mkS SQ5 41 (x.1,x.2.1,x.2.2.1,()))) (K (.exit 0) (mkS SQ5 41 (x.1,x.2.1,x.2.2.1,())))
def z1k8 (N:Nat)(self:z8):Hd (DT2×(DT3×Unit)):=fun st K=>(unS SQ5 41 (restr [0,3,2] 0 st)).bind fun x=>z1nu N self x K
def t3_73 (N:Nat)(self:z8):Tab (DT2×(DT3×Unit)):=[]
theorem z1g4 {N:Nat}{self:z8}{c:Ctx}(hb:Base Tryd.prog (z1ee N self) c):zi Tryd.prog c (zf zkp [0,0,0,0,1,1]) (z1k8 N self) :=
 zh (s:=SQ5) (m:=41) (g:=z1nu N self) [0,3,2] (ze hb N (t3_73 N self) z1r7 zkp TabOk.nil [0,0,0,0,1,1] _ rfl) (fun x K=>by kernel_rfl)
def zds (N:Nat)(self:z8)(x2:DT2)(p:DT3)(parts:(List DT2))(rec:DT3->(List DT2)->Option (DT2×(DT3×Unit)))(k0:DT3->(List DT2)->Option (DT2×(DT3×Unit))):Option (DT2×(DT3×Unit)) :=
 zdt N self p x2 parts
 ((z64 N self p).bind fun y =>
 cond (decide ((((List.length parts)+1)*80)<=70368744177664))
 (rec y.2.1 (parts++([y.1]:List DT9)))
 (none))
 (k0 p parts)
def zk3 (N:Nat)(self:z8)(p:DT3)(x2:DT2)(parts:(List DT2))(k0:DT3->(List DT2)->Option (DT2×(DT3×Unit))):Option (DT2×(DT3×Unit)) :=
 iter (fun (v:(DT3×(List DT2))) r=>zds N self x2 v.1 v.2 (fun p parts=>(r (p,parts))) k0) N (p,parts)
def z1od (N:Nat)(self:z8)(i:DT2)(v:(DT3×(List DT2)))(r:(DT3×(List DT2))->Option (DT2×(DT3×Unit)))(K:Ex->List A->Option (DT2×(DT3×Unit))):Option (DT2×(DT3×Unit)) :=
 zds N self i v.1 v.2 (fun p parts=>(r (p,parts))) (fun a0 a2=>(K (.exit 0) (mkS SQ5 41 (a0,i,a2,()))))
def z1kr (N:Nat)(self:z8):Hd (DT2×(DT3×Unit)):=fun st K=>(unS SQ5 41 (restr [0,3,2] 0 st)).bind fun x=>iter (fun v r=>z1od N self ((fun x=>x.2.1) x) v r K) N ((fun x=>(x.1,x.2.2.1)) x)
def t2_73 (N:Nat)(self:z8):Tab (DT2×(DT3×Unit)):=[([0,0,0,0,1,1],z1k8 N self)]
theorem z1gn {N:Nat}{self:z8}{c:Ctx}(hb:Base Tryd.prog (z1ee N self) c):zi Tryd.prog c (zf zkp [0,0,1,1]) (z1kr N self) :=
 z2p (s:=SQ5) (m:=41) (z1od N self) [0,3,2] N (fun x=>x.2.1) (fun x=>(x.1,x.2.2.1)) (fun i v=>(v.1,i,v.2,())) (fun _=>rfl) (ze hb N (t2_73 N self) z1r7 zkp (TabOk.cons (z1g4 hb) TabOk.nil) [0,0,0,1,1] _ rfl) (fun i v r K=>by kernel_rfl)
def zdu (N:Nat)(self:z8)(p:DT3)(x2:DT2)(parts:(List DT2))(k0:DT3->(List DT2)->Option (DT2×(DT3×Unit))):Option (DT2×(DT3×Unit)) :=
 zk3 N self p x2 parts
 (fun p1 zl9=>k0 p1 zl9)
def z1pe (N:Nat)(self:z8)(x:zw SQ5)(K:Ex->List A->Option (DT2×(DT3×Unit))):Option (DT2×(DT3×Unit)) :=
 zdu N self x.1 x.2.1 x.2.2.1 (fun a0 a2=>(K .normal (mkS SQ5 41 (a0,x.2.1,a2,()))))
def z1ls (N:Nat)(self:z8):Hd (DT2×(DT3×Unit)):=fun st K=>(unS SQ5 41 (restr [0,3,2] 0 st)).bind fun x=>z1pe N self x K
def t1_73 (N:Nat)(self:z8):Tab (DT2×(DT3×Unit)):=[([0,0,1,1],z1kr N self)]
theorem z1ho {N:Nat}{self:z8}{c:Ctx}(hb:Base Tryd.prog (z1ee N self) c):zi Tryd.prog c (zf zkp [0,1,1]) (z1ls N self) :=
 zh (s:=SQ5) (m:=41) (g:=z1pe N self) [0,3,2] (ze hb N (t1_73 N self) z1r7 zkp (TabOk.cons (z1gn hb) TabOk.nil) [0,1,1] _ rfl) (fun x K=>by kernel_rfl)
def z42 (N:Nat)(self:z8)(p:DT3):Option (DT2×(DT3×Unit)) :=
 zdu N self p ((0:Int),(([(0:Int),(0:Int),(0:Int),(0:Int)]:List Int),(([]:List Tree),((0:Int),((0:Int),()))))) ([]:List DT9)
 (fun p1 parts=>(zd0 N (2:Int) (List.map foN parts)).bind fun y =>
 some (y,(p1,())))
def t_73 (N:Nat)(self:z8):Tab (DT2×(DT3×Unit)):=[([0,1,1],z1ls N self)]
theorem z1a5 (N:Nat)(self:z8)(x:zw SQ0):z4x (z1ee N self) N (t_73 N self) z1r7 Tryd.f55 (mkS SQ0 0 x) (z5r (.v TT1) SQ0 0)=z42 N self x.1:=by kernel_rfl
def z7k (N:Nat)(self:z8):List A->Res:=zy SQ0 (fun x=>z42 N self x.1) (z6u (.v TT1) SQ0 0)
theorem zdv (N:Nat)(self:z8)(hself:Contract Tryd.prog glob 36 (zy SQ0 (fun x=>self x.1) (z6u (.v TT1) SQ0 0))):Contract Tryd.prog glob 55 (z7k N self) :=
 Contract.of (E:=z1ee N self) (H:=t_73 N self) (L:=z1r7) (N:=N) (body:=zkp) (K:=(z5r (.v TT1) SQ0 0)) (z1rx N self hself) Tryd.func55 (by kernel_rfl) (by decide) (fun _ hb=>(TabOk.cons (z1ho hb) TabOk.nil)) (fun x y h=>by rw[z1a5];exact h) (z3x (s:=(.v TT1)) (os:=SQ0) (m:=0))
def zt2:Code:=(Tryd.f36.body).getD .skip
def L_74:List (List Nat×List Nat):=[([0],[0,2]),([0,1],[0,3,2]),([0,0,1,1],[0,3,2]),([0,0,0,0,0,1,1],[8,3,0,2]),([1,0,0,0,0,1,1],[3,0,2]),([1,1,0,0,0,0,1,1],[3,2,0]),([0,1,0,0,0,1,1],[0,3,2]),([1,0,0,0,1,1],[0,3,2]),([0,1,1],[3,2,0]),([0,1,1,1],[2,0]),([1,1,1,1],[2,0])]
def E_74 (N:Nat)(self:DT3->Option (DT2×(DT3×Unit))):Env:=z1d tys glob [(55,z7k N self),(57,z8c N),(56,z1i N),(36,zy SQ0 (fun x=>self x.1) (z6u (.v TT1) SQ0 0))] [(3,TT1)] [] [0] false [] []
theorem z1rw (N:Nat)(self:DT3->Option (DT2×(DT3×Unit)))(hself:Contract Tryd.prog glob 36 (zy SQ0 (fun x=>self x.1) (z6u (.v TT1) SQ0 0))):EnvOk Tryd.prog (E_74 N self):=zg mixed zn (FnsOk.cons (zdv N self hself) (FnsOk.cons (zct N) (FnsOk.cons (z1y N) (FnsOk.cons (hself) (FnsOk.nil))))) (ItsOk.nil)
def zdw (N:Nat)(self:DT3->Option (DT2×(DT3×Unit)))(x2:DT2)(p:DT3)(parts:(List DT2))(rec:DT3->(List DT2)->Option (DT2×(DT3×Unit)))(k0:DT3->(List DT2)->Option (DT2×(DT3×Unit))):Option (DT2×(DT3×Unit)) :=
 (z16 N p (124:Int)).bind fun y =>
 cond y.1
 ((z42 N self y.2.1).bind fun y1 =>
 cond (decide ((((List.length parts)+1)*80)<=70368744177664))
 (rec y1.2.1 (parts++([y1.1]:List DT9)))
 (none))
 (k0 y.2.1 parts)
def zk4 (N:Nat)(self:DT3->Option (DT2×(DT3×Unit)))(p:DT3)(x2:DT2)(parts:(List DT2))(k0:DT3->(List DT2)->Option (DT2×(DT3×Unit))):Option (DT2×(DT3×Unit)) :=
 iter (fun (v:(DT3×(List DT2))) r=>zdw N self x2 v.1 v.2 (fun p parts=>(r (p,parts))) k0) N (p,parts)
def z1pd (N:Nat)(self:DT3->Option (DT2×(DT3×Unit)))(i:DT2)(v:(DT3×(List DT2)))(r:(DT3×(List DT2))->Option (DT2×(DT3×Unit)))(K:Ex->List A->Option (DT2×(DT3×Unit))):Option (DT2×(DT3×Unit)) :=
 zdw N self i v.1 v.2 (fun p parts=>(r (p,parts))) (fun a0 a2=>(K (.exit 0) (mkS SQ5 12 (a0,i,a2,()))))
def z1lr (N:Nat)(self:DT3->Option (DT2×(DT3×Unit))):Hd (DT2×(DT3×Unit)):=fun st K=>(unS SQ5 12 (restr [0,3,2] 0 st)).bind fun x=>iter (fun v r=>z1pd N self ((fun x=>x.2.1) x) v r K) N ((fun x=>(x.1,x.2.2.1)) x)
def t1_74 (N:Nat)(self:DT3->Option (DT2×(DT3×Unit))):Tab (DT2×(DT3×Unit)):=[]
theorem z1hn {N:Nat}{self:DT3->Option (DT2×(DT3×Unit))}{c:Ctx}(hb:Base Tryd.prog (E_74 N self) c):zi Tryd.prog c (zf zt2 [0,0,1,1]) (z1lr N self) :=
 z2p (s:=SQ5) (m:=12) (z1pd N self) [0,3,2] N (fun x=>x.2.1) (fun x=>(x.1,x.2.2.1)) (fun i v=>(v.1,i,v.2,())) (fun _=>rfl) (ze hb N (t1_74 N self) L_74 zt2 TabOk.nil [0,0,0,1,1] _ rfl) (fun i v r K=>by kernel_rfl)
def zet (N:Nat)(self:DT3->Option (DT2×(DT3×Unit)))(p:DT3):Option (DT2×(DT3×Unit)) :=
 (z42 N self p).bind fun y =>
 zk4 N self y.2.1 ((0:Int),(([(0:Int),(0:Int),(0:Int),(0:Int)]:List Int),(([]:List Tree),((0:Int),((0:Int),()))))) ([y.1]:List DT9)
 (fun p1 parts=>(zd0 N (3:Int) (List.map foN parts)).bind fun y1 =>
 some (y1,(p1,())))
def t_74 (N:Nat)(self:DT3->Option (DT2×(DT3×Unit))):Tab (DT2×(DT3×Unit)):=[([0,0,1,1],z1lr N self)]
theorem z1a4 (N:Nat)(self:DT3->Option (DT2×(DT3×Unit)))(x:zw SQ0):z4x (E_74 N self) N (t_74 N self) L_74 Tryd.f36 (mkS SQ0 0 x) (z5r (.v TT1) SQ0 0)=zet N self x.1:=by kernel_rfl
def zo:Nat->DT3->Option (DT2×(DT3×Unit))
 | 0=>fun _=>none
 | N+1=>zet (N+1) (zo N)
def zcb (N:Nat):List A->Res:=zy SQ0 (fun x=>zo N x.1) (z6u (.v TT1) SQ0 0)
theorem z2l:∀ N:Nat,Contract Tryd.prog glob 36 (zcb N)
 | 0=>Contract.zero Tryd.func36 (body:=zt2) (by kernel_rfl) (by decide) (fun _=>rfl)
 | N+1=>Contract.of (E:=E_74 (N+1) (zo N)) (H:=t_74 (N+1) (zo N)) (L:=L_74) (N:=(N+1)) (body:=zt2) (K:=(z5r (.v TT1) SQ0 0)) (z1rw (N+1) (zo N) (z2l N)) Tryd.func36 (by kernel_rfl) (by decide) (fun _ hb=>(TabOk.cons (z1hn hb) TabOk.nil)) (fun x y h=>by rw[z1a4];exact h) (z3x (s:=(.v TT1)) (os:=SQ0) (m:=0))
end
end Go.Proofs.YtnnjnkjfkaaikaaDoorLg
set_option linter.all false
set_option maxRecDepth 100000
namespace Go.Lift
noncomputable section
def BSt (t:T)(w0:World)(S0:Hp)(ob0:List Nat)(bf:Nat)(w:World)(x:t.den)(L:List (Nat×Array Value×Nat)):Prop :=
 ∃ S o,WF w0 (fun k=>k∈ob0) w/\Sub S0 S/\Sub S (hp w)/\(∀ k,S k≠none->S0 k≠none\/k∈ob0\/w0.heap.size<=k)/\ARel (hp w) S (fun _=>undef) (.box t x) (.pointer (some ⟨bf,0,none⟩)) o/\o.Nodup ∧
 (∀ k∈o,S k=none/\(k∈ob0\/w0.heap.size<=k))/\∀ p∈L,S p.1=none/\p.1∉o/\w0.heap.size<=p.1/\w.heap[p.1]?=some (.cells p.2.1 p.2.2 (0,0))
variable {P:Program} {glob:Nat->Option Dat} {t:T} {w0 w:World} {S0:Hp} {ob0:List Nat} {bf:Nat} {x:t.den} {L:List (Nat×Array Value×Nat)}
theorem BSt.lt (h:BSt t w0 S0 ob0 bf w x L):∀ p∈L,p.1<w.heap.size:=by
 obtain⟨S,o,_,_,_,_,_,_,_,hL⟩:=h;exact fun p hp=>(Array.getElem?_eq_some_iff.1 (hL p hp).2.2.2).1
theorem BSt.drew (h:BSt t w0 S0 ob0 bf w x L):BSt t w0 S0 ob0 bf w.drew x L:=by
 obtain⟨S,o,k1,k2⟩:=h;exact⟨S,o,⟨k1.size,k1.same,k1.tape,k1.os,k1.output⟩,k2⟩
theorem BSt.swap {L':List (Nat×Array Value×Nat)}(h:BSt t w0 S0 ob0 bf w x L)(hm:∀ p∈L',p∈L):BSt t w0 S0 ob0 bf w x L':=by
 obtain⟨S,o,h1,h2,h3,h4,h5,h6,h7,hL⟩:=h;exact⟨S,o,h1,h2,h3,h4,h5,h6,h7,fun p hp=>hL p (hm p hp)⟩
theorem BSt.cell (h:BSt t w0 S0 ob0 bf w x L){p:Nat}{cs:Array Value}{E i:Nat}{v:Value}(hm:(p,cs,E)∈L)(hi:cs[i]?=some v):w.cell? ⟨p,i,none⟩=some v:=by
 obtain⟨S,o,_,_,_,_,_,_,_,hL⟩:=h;have:=(hL _ hm).2.2.2;simp only at this;simp[World.cell?,this,hi]
theorem BSt.free (h:BSt t w0 S0 ob0 bf w x L){p:Nat}{cs:Array Value}{E i:Nat}(hm:(p,cs,E)∈L):w.frozen? ⟨p,i,none⟩=false:=by
 obtain⟨S,o,_,_,_,_,_,_,_,hL⟩:=h;have:=(hL _ hm).2.2.2;simp only at this;simp[World.frozen?,this]
theorem z1qr {w':World} {x':t.den} {S S':Hp} {o o':List Nat} (h1:WF w0 (fun k=>k∈ob0) w) (h2:Sub S0 S) (h4:∀ k,S k≠none->S0 k≠none\/k∈ob0\/w0.heap.size<=k)
 (h7:∀ k∈o,S k=none/\(k∈ob0\/w0.heap.size<=k)) (hL:∀ p∈L,S p.1=none/\p.1∉o/\w0.heap.size<=p.1/\w.heap[p.1]?=some (.cells p.2.1 p.2.2 (0,0)))
 (k1:WF w (fun k=>k∈o) w') (k2:Sub S S') (k3:Sub S' (hp w')) (k4:∀ k,S' k≠none->S k≠none\/k∈o\/w.heap.size<=k) (k5:ARel (hp w') S' (fun _=>undef) (.box t x') (.pointer (some ⟨bf,0,none⟩)) o')
 (k6:o'.Nodup) (k7:∀ k∈o',S' k=none/\(k∈o\/w.heap.size<=k)):BSt t w0 S0 ob0 bf w' x' L:=by
 refine⟨S',o',h1.trans k1 (fun k hk=>(h7 k hk).2),h2.trans k2,k3,fun k hk=>?_,k5,k6,fun k hk=>⟨(k7 k hk).1,?_⟩,fun p hp=>?_⟩
 . rcases k4 k hk with h|h|h
   . exact h4 k h
   . exact .inr (h7 k h).2
   . exact .inr (.inr (Nat.le_trans h1.size h))
 . rcases (k7 k hk).2 with h|h
   . exact (h7 k h).2
   . exact .inr (Nat.le_trans h1.size h)
 . obtain⟨p1,p2,p3,p4⟩:=hL p hp;have hl:=(Array.getElem?_eq_some_iff.1 p4).1;refine⟨?_,fun hk=>?_,p3,?_⟩
   . cases hs:S' p.1 with
     | none=>rfl
     | some q =>
       rcases k4 p.1 (by rw[hs];simp) with h|h|h
       . exact absurd p1 h
       . exact absurd h p2
       . omega
   . rcases (k7 _ hk).2 with h|h
     . exact p2 h
     . omega
   . rw[k1.same p.1 hl p2];exact p4
theorem BSt.plain {f:FuncId}{g:List A->Res}(ct:Contract P glob f g)(hg:∀ S,GlobOk glob S)(h:BSt t w0 S0 ob0 bf w x L){args:List A}{vals:List Value}
 (hrel:∀ S,Sub S (hp w)->ArgsRel (hp w) S args vals (fun _=>[])) {y:(g args).X} (hy:(g args).val=some y) :
 Calls P f vals.toArray w fun e w'=>∃ v S' o',e=.returned v/\ARel (hp w') S' (fun _=>undef) ((g args).out y).1 v o'/\BSt t w0 S0 ob0 bf w' x L:=by
 have h':=h;obtain⟨S,o,h1,h2,h3,h4,h5,h6,h7,hL⟩:=h';refine ((ct.2 w S args vals _ (hrel S h3) h3 (hg S) y hy)).mono ?_;rintro e w' ⟨v,S',q,ob',rfl,hwf,hSS,hSw,hnew,⟨hr,_⟩,_⟩;refine⟨v,S',q,rfl,hr,?_⟩;have hwf':WF w (fun _=>False) w':=⟨hwf.size,fun k hk _=>hwf.same k hk (by rintro⟨i,hi⟩;cases hi),hwf.tape,hwf.os,hwf.output⟩
 have hlt:∀ k∈o,k<w.heap.size:=fun k hk=>by
  obtain⟨ob,hob⟩:=h5.obj k hk;exact (Array.getElem?_eq_some_iff.1 hob.1).1
 have hnw:∀ k,k<w.heap.size->S' k≠none->S k≠none:=fun k hk hs=>by
  rcases hnew k hs with h|⟨i,hi⟩|h
  . exact h
  . cases hi
  . omega
 refine⟨S',o,h1.trans hwf' (fun _ h=>h.elim),h2.trans hSS,hSw,fun k hk=>?_,?_,h6,fun k hk=>⟨?_,(h7 k hk).2⟩,fun p hp=>?_⟩
 . rcases hnew k hk with h|⟨i,hi⟩|h
   . exact h4 k h
   . cases hi
   . exact .inr (.inr (Nat.le_trans h1.size h))
 . obtain⟨b,cs,E,fr,bs,rfl,e1,e2,e3,e4⟩:=h5;refine⟨b,cs,E,fr,bs,rfl,e1,?_,e3,e4.mono hSS _ _ _ _ (fun k hk=>hwf'.same k (hlt k (by simp[hk])) (fun h=>h))⟩;have:=hwf'.same b (hlt b (by simp)) (fun h=>h);simp only[hp] at e2 ⊢;rw[this];exact e2
 . cases hs:S' k with
   | none=>rfl
   | some q=>exact absurd (h7 k hk).1 (hnw k (hlt k hk) (by rw[hs];simp))
 . obtain⟨p1,p2,p3,p4⟩:=hL p hp;have hl:=(Array.getElem?_eq_some_iff.1 p4).1;refine⟨?_,p2,p3,?_⟩
   . cases hs:S' p.1 with
     | none=>rfl
     | some q=>exact absurd p1 (hnw _ hl (by rw[hs];simp))
   . rw[hwf'.same p.1 hl (fun h=>h)];exact p4
theorem zt6 {S:Hp}{v:Value}{o:List Nat}{args:List A}{vals:List Value}(h5:ARel (hp w) S (fun _=>undef) (.box t x) v o)(h6:o.Nodup)(h7:∀ k∈o,S k=none)(hr0:ArgsRel (hp w) S args vals (fun _=>[])) :
 ArgsRel (hp w) S (.box t x::args) (v::vals) (fun i=>if i=0 then o else []):=by
 refine⟨by simp[hr0.len],fun i q hq=>?_,fun i hi=>?_,fun i j b hi hj=>?_,fun i=>?_,fun i b hb=>?_⟩
 . cases i with
   | zero =>
     simp at hq;subst hq;exact⟨⟨_,rfl,by simpa using h5⟩,rfl⟩
   | succ i =>
     obtain⟨⟨v,hv,ha⟩,hrf⟩:=hr0.rel i q (by simpa using hq);exact⟨⟨v,by simpa using hv,by simpa using ha⟩,hrf⟩
 . rw[if_neg (by intro e;subst e;simp at hi)]
 . by_cases hi0:i=0<;>by_cases hj0:j=0<;>simp_all
 . by_cases hi0:i=0<;>simp[hi0,h6]
 . by_cases hi0:i=0
   . rw[if_pos hi0] at hb;exact h7 b hb
   . rw[if_neg hi0] at hb;cases hb
theorem BSt.boxed {f:FuncId}{g:List A->Res}(ct:Contract P glob f g)(hg:∀ S,GlobOk glob S)(h:BSt t w0 S0 ob0 bf w x L){args:List A}{vals:List Value}
 (hrel:∀ S,Sub S (hp w)->ArgsRel (hp w) S args vals (fun _=>[])) {y:(g (.box t x::args)).X} (hy:(g (.box t x::args)).val=some y) {x':t.den} (ho:((g (.box t x::args)).out y).2[0]?=some (.box t x')) :
 Calls P f (.pointer (some ⟨bf,0,none⟩)::vals).toArray w fun e w'=>∃ v S' o',e=.returned v/\ARel (hp w') S' (fun _=>undef) ((g (.box t x::args)).out y).1 v o'/\BSt t w0 S0 ob0 bf w' x' L:=by
 have h':=h;obtain⟨S,o,h1,h2,h3,h4,h5,h6,h7,hL⟩:=h';have har:=zt6 h5 h6 (fun k hk=>(h7 k hk).1) (hrel S h3);refine ((ct.2 w S _ _ _ har h3 (hg S) y hy)).mono ?_;rintro e w' ⟨v,S',q,ob',rfl,hwf,hSS,hSw,hnew,⟨hr,_⟩,hq,_,hbox,hob1,hob2,hob3,_⟩;have hin:∀ k,(∃ i,k∈(fun i=>if i=0 then o else []) i)->k∈o:=by
  rintro k ⟨i,hi⟩;by_cases hi0:i=0
  . simpa[hi0] using hi
  . simp[hi0] at hi
 refine⟨v,S',q,rfl,hr,?_⟩;obtain⟨x2,v2,g1,g2,_,g4⟩:=hbox 0 _ rfl rfl;rw[ho] at g1;cases g1;simp at g2;subst g2;refine z1qr h1 h2 h4 h7 hL ⟨hwf.size,fun k hk hn=>hwf.same k hk (fun hh=>hn (hin k hh)),hwf.tape,hwf.os,hwf.output⟩ hSS hSw (fun k hk=>?_) g4 (hob3 0) (fun k hk=>⟨(hob1 0 k hk).2.1,?_⟩)
 . rcases hnew k hk with h|h|h
   . exact .inl h
   . exact .inr (.inl (hin k h))
   . exact .inr (.inr h)
 . rcases (hob1 0 k hk).1 with h|h
   . exact .inl (hin k h)
   . exact .inr h
theorem BSt.alloc (h:BSt t w0 S0 ob0 bf w x L) (cs:Array Value) (E:Nat):BSt t w0 S0 ob0 bf (w.alloc (.cells cs E)) x ((w.heap.size,cs,E)::L):=by
 have hlt:=h.lt;obtain⟨S,o,h1,h2,h3,h4,h5,h6,h7,hL⟩:=h;have hh:(w.alloc (.cells cs E)).heap=w.heap.push (.cells cs E (0,0)):=rfl;have hk:∀ k,k<w.heap.size->(w.alloc (.cells cs E)).heap[k]?=w.heap[k]?:=fun k hk=>by
  rw[hh,Array.getElem?_push,if_neg (by omega)]
 have hol:∀ k∈o,k<w.heap.size:=fun k hk=>by
  obtain⟨ob,hob⟩:=h5.obj k hk;exact (Array.getElem?_eq_some_iff.1 hob.1).1
 refine⟨S,o,⟨by rw[hh,Array.size_push];have:=h1.size;omega,fun k h1' h2'=>by rw[hk k (by have:=h1.size;omega)];exact h1.same k h1' h2',h1.tape,h1.os,h1.output⟩,h2,fun k q ho=>?_,h4,?_,h6,h7,fun p hpm=>?_⟩
 . have:=h3 k q ho;simp only[hp] at this ⊢;rw[hk k (Array.getElem?_eq_some_iff.1 this).1];exact this
 . obtain⟨b,c1,E',fr,bs,rfl,e1,e2,e3,e4⟩:=h5;refine⟨b,c1,E',fr,bs,rfl,e1,?_,e3,e4.mono (Sub.refl _) _ _ _ _ (fun k hkm=>hk k (hol k (by simp[hkm])))⟩;simp only[hp] at e2 ⊢;rw[hk b (hol b (by simp))];exact e2
 . rcases List.mem_cons.1 hpm with rfl|hpm
   . refine⟨?_,fun hm=>absurd (hol _ hm) (by simp),h1.size,?_⟩
     . cases hs:S w.heap.size with
       | none=>rfl
       | some q =>
         have:=h3 _ _ hs;simp only[hp] at this;have:=(Array.getElem?_eq_some_iff.1 this).1;omega
     . simp only;rw[hh,Array.getElem?_push,if_pos rfl]
   . obtain⟨p1,p2,p3,p4⟩:=hL p hpm;exact⟨p1,p2,p3,by rw[hk p.1 (hlt p hpm)];exact p4⟩
theorem BSt.put {p:Nat}{cs:Array Value}{E:Nat}(h:BSt t w0 S0 ob0 bf w x ((p,cs,E)::L))(hd:∀ q∈L,q.1≠p){w':World}{cs':Array Value}(hw:w'=z1h w p (.cells cs' E (0,0))):BSt t w0 S0 ob0 bf w' x ((p,cs',E)::L):=by
 obtain⟨S,o,h1,h2,h3,h4,h5,h6,h7,hL⟩:=h;obtain⟨q1,q2,q3,q4⟩:=hL (p,cs,E) (List.mem_cons_self ..);simp only at q1 q2 q3 q4;have hne:∀ k,k≠p->w'.heap[k]?=w.heap[k]?:=fun k hk=>by
  have:=zl (w:=w) (o:=.cells cs' E (0,0)) hk;rw[hw];exact this
 have hsz:w'.heap.size=w.heap.size:=by rw[hw];simp[z1h]
 refine⟨S,o,⟨by rw[hsz];exact h1.size,fun k h1' h2'=>by rw[hne k (by omega)];exact h1.same k h1' h2',by rw[hw];exact h1.tape,by rw[hw];exact h1.os,by rw[hw];exact h1.output⟩,h2,fun k q ho=>?_,h4,?_,h6,h7,fun u hu=>?_⟩
 . have hk:k≠p:=fun e=>by rw[e,q1] at ho;cases ho
   have:=h3 k q ho;simp only[hp] at this ⊢;rw[hne k hk];exact this
 . obtain⟨b,c1,E',fr,bs,rfl,e1,e2,e3,e4⟩:=h5;refine⟨b,c1,E',fr,bs,rfl,e1,?_,e3,e4.mono (Sub.refl _) _ _ _ _ (fun k hkm=>hne k (fun e=>q2 (by simp[<- e,hkm])))⟩;simp only[hp] at e2 ⊢;rw[hne b (fun e=>q2 (by simp[<- e]))];exact e2
 . rcases List.mem_cons.1 hu with rfl|hu
   . refine⟨q1,q2,q3,?_⟩;rw[hw];exact z2g q4
   . obtain⟨p1,p2,p3,p4⟩:=hL u (List.mem_cons_of_mem _ hu);exact⟨p1,p2,p3,by rw[hne u.1 (hd u hu)];exact p4⟩
theorem BSt.setCell {p:Nat}{cs:Array Value}{E:Nat}(h:BSt t w0 S0 ob0 bf w x ((p,cs,E)::L))(hd:∀ q∈L,q.1≠p)(i:Nat)(v:Value) :
 BSt t w0 S0 ob0 bf (w.setCell ⟨p,i,none⟩ v) x ((p,cs.setIfInBounds i v,E)::L):=by
 have hb:hp w p=some (.cells cs E (0,0)):=by
  obtain⟨S,o,_,_,_,_,_,_,_,hL⟩:=h;exact (hL _ (List.mem_cons_self ..)).2.2.2
 exact h.put hd (zm1 v hb)
theorem BSt.start {args:List A}{vals:List Value}{ob:Nat->List Nat}(har:ArgsRel (hp w) S0 (.box t x::args) vals ob)(hS:Sub S0 (hp w)) :
 ∃ bf vs,vals=.pointer (some ⟨bf,0,none⟩)::vs/\ob 0≠[]/\BSt t w S0 (ob 0) bf w x []:=by
 obtain⟨⟨v,hv,hr⟩,_⟩:=har.rel 0 _ rfl;have hr':=hr;obtain⟨b,cs,E,fr,bs,hob,rfl,_⟩:=hr';cases vals with
 | nil=>cases hv
 | cons v vs =>
   cases hv;exact⟨b,vs,rfl,by rw[hob];simp,S0,ob 0,WF.refl _ _,Sub.refl _,hS,fun _ h=>.inl h,hr,har.nd 0,fun k hk=>⟨har.hid 0 k hk,.inl hk⟩,fun p hp=>by cases hp⟩
theorem BSt.ends {args outs:List A}{vs:List Value}{ob:Nat->List Nat}{x0:t.den}{r:A}{v:Value}(h:BSt t w0 S0 (ob 0) bf w x L)(hob:∀ i,ob (i+1)=[])(hne:ob 0≠[])(hargs:∀ y∈args,zco y=false)
 (hr:∀ S',ARel (hp w) S' (fun _=>undef) r v []) (hrr:r.refs=[]):Ends w0 S0 (.box t x0::args) (.pointer (some ⟨bf,0,none⟩)::vs) ob r (.box t x::outs) (.returned v) w:=by
 obtain⟨S,o,h1,h2,h3,h4,h5,h6,h7,hL⟩:=h;have hz:∀ k,(∃ i,k∈ob i)->k∈ob 0:=by
  rintro k ⟨i,hi⟩;cases i with
  | zero=>exact hi
  | succ i=>rw[hob i] at hi;cases hi
 refine⟨v,S,[],fun i=>if i=0 then o else [],rfl,⟨h1.size,fun k hk hn=>h1.same k hk (fun hh=>hn ⟨0,hh⟩),h1.tape,h1.os,h1.output⟩,h2,h3,fun k hk=>?_,⟨hr S,hrr⟩,(fun k hk=>by cases hk),.nil,?_,?_,?_,?_,?_⟩
 . rcases h4 k hk with h|h|h
   . exact .inl h
   . exact .inr (.inl ⟨0,h⟩)
   . exact .inr (.inr h)
 . intro i y hy hbx;cases i with
   | zero=>exact⟨_,_,rfl,rfl,rfl,by simpa using h5⟩
   | succ i =>
     have:=hargs y (List.mem_of_getElem? (by simpa using hy));rw[hbx] at this;cases this
 . intro i k hk;dsimp only at hk;by_cases hi0:i=0
   . rw[if_pos hi0] at hk;obtain⟨g1,g2⟩:=h7 k hk;refine⟨?_,g1,by simp⟩;rcases g2 with h|h
     . exact .inl ⟨0,h⟩
     . exact .inr h
   . rw[if_neg hi0] at hk;cases hk
 . intro i j k hi hj;by_cases hi0:i=0<;>by_cases hj0:j=0<;>simp_all
 . intro i;by_cases hi0:i=0<;>simp[hi0,h6]
 . intro i hi;by_cases hi0:i=0
   . subst hi0;exact absurd hi hne
   . dsimp only;rw[if_neg hi0]
end
end Go.Lift
set_option linter.all false
set_option maxRecDepth 100000
namespace Go.Lift
noncomputable section
structure NSt (w0:World) (S0:Hp) (w:World) (S:Hp) (L:List (Nat×Array Value×Nat)):Prop where
 wf:WF w0 (fun _=>False) w
 sub:Sub S0 S
 inw:Sub S (hp w)
 new:∀ k,S k≠none->S0 k≠none\/w0.heap.size<=k
 own:∀ p∈L,S p.1=none/\w0.heap.size<=p.1/\w.heap[p.1]?=some (.cells p.2.1 p.2.2 (0,0))
variable {P:Program} {glob:Nat->Option Dat} {w0 w:World} {S0 S:Hp} {L:List (Nat×Array Value×Nat)}
theorem NSt.start (hS:Sub S0 (hp w)):NSt w S0 w S0 []:=⟨WF.refl _ _,Sub.refl _,hS,fun _ h=>.inl h,fun p hp=>by cases hp⟩
theorem NSt.lt (h:NSt w0 S0 w S L):∀ p∈L,p.1<w.heap.size:=fun p hp=>(Array.getElem?_eq_some_iff.1 (h.own p hp).2.2).1
theorem NSt.drew (h:NSt w0 S0 w S L):NSt w0 S0 w.drew S L:=⟨⟨h.wf.size,h.wf.same,h.wf.tape,h.wf.os,h.wf.output⟩,h.sub,h.inw,h.new,h.own⟩
theorem NSt.swap {L':List (Nat×Array Value×Nat)}(h:NSt w0 S0 w S L)(hm:∀ p∈L',p∈L):NSt w0 S0 w S L':=⟨h.wf,h.sub,h.inw,h.new,fun p hp=>h.own p (hm p hp)⟩
theorem NSt.cell (h:NSt w0 S0 w S L){p:Nat}{cs:Array Value}{E i:Nat}{v:Value}(hm:(p,cs,E)∈L)(hi:cs[i]?=some v):w.cell? ⟨p,i,none⟩=some v:=by
 have:=(h.own _ hm).2.2;simp only at this;simp[World.cell?,this,hi]
theorem NSt.free (h:NSt w0 S0 w S L){p:Nat}{cs:Array Value}{E i:Nat}(hm:(p,cs,E)∈L):w.frozen? ⟨p,i,none⟩=false:=by
 have:=(h.own _ hm).2.2;simp only at this;simp[World.frozen?,this]
theorem NSt.alloc (h:NSt w0 S0 w S L) (cs:Array Value) (E:Nat):NSt w0 S0 (w.alloc (.cells cs E)) S ((w.heap.size,cs,E)::L):=by
 have hlt:=h.lt;have hh:(w.alloc (.cells cs E)).heap=w.heap.push (.cells cs E (0,0)):=rfl;have hk:∀ k,k<w.heap.size->(w.alloc (.cells cs E)).heap[k]?=w.heap[k]?:=fun k hk=>by
  rw[hh,Array.getElem?_push,if_neg (by omega)]
 refine⟨⟨by rw[hh,Array.size_push];have:=h.wf.size;omega,fun k h1' h2'=>by rw[hk k (by have:=h.wf.size;omega)];exact h.wf.same k h1' h2',h.wf.tape,h.wf.os,h.wf.output⟩,h.sub,fun k q ho=>?_,h.new,fun p hpm=>?_⟩
 . have:=h.inw k q ho;simp only[hp] at this ⊢;rw[hk k (Array.getElem?_eq_some_iff.1 this).1];exact this
 . rcases List.mem_cons.1 hpm with rfl|hpm
   . refine⟨?_,h.wf.size,?_⟩
     . cases hs:S w.heap.size with
       | none=>rfl
       | some q =>
         have:=h.inw _ _ hs;simp only[hp] at this;have:=(Array.getElem?_eq_some_iff.1 this).1;omega
     . simp only;rw[hh,Array.getElem?_push,if_pos rfl]
   . obtain⟨p1,p3,p4⟩:=h.own p hpm;exact⟨p1,p3,by rw[hk p.1 (hlt p hpm)];exact p4⟩
theorem NSt.set {p:Nat}{cs:Array Value}{E:Nat}(h:NSt w0 S0 w S ((p,cs,E)::L))(hd:∀ q∈L,q.1≠p)(i:Nat)(v:Value) :
 NSt w0 S0 (w.setCell ⟨p,i,none⟩ v) S ((p,cs.setIfInBounds i v,E)::L):=by
 obtain⟨q1,q3,q4⟩:=h.own (p,cs,E) (List.mem_cons_self ..);simp only at q1 q3 q4;have hw:=zm1 (off:=i) v (show hp w p=some (.cells cs E (0,0)) from q4);obtain⟨w',hw'⟩:∃ w',w'=w.setCell ⟨p,i,none⟩ v:=⟨_,rfl⟩
 rw[<- hw'] at hw ⊢;have hne:∀ k,k≠p->w'.heap[k]?=w.heap[k]?:=fun k hk=>by
  have:=zl (w:=w) (o:=.cells (cs.setIfInBounds i v) E (0,0)) hk;rw[hw];exact this
 have hsz:w'.heap.size=w.heap.size:=by rw[hw];simp[z1h]
 refine⟨⟨by rw[hsz];exact h.wf.size,fun k h1' h2'=>by rw[hne k (by omega)];exact h.wf.same k h1' h2',by rw[hw];exact h.wf.tape,by rw[hw];exact h.wf.os,by rw[hw];exact h.wf.output⟩,h.sub,fun k q ho=>?_,h.new,fun u hu=>?_⟩
 . have hk:k≠p:=fun e=>by rw[e,q1] at ho;cases ho
   have:=h.inw k q ho;simp only[hp] at this ⊢;rw[hne k hk];exact this
 . rcases List.mem_cons.1 hu with rfl|hu
   . refine⟨q1,q3,?_⟩;rw[hw];exact z2g q4
   . obtain⟨p1,p3,p4⟩:=h.own u (List.mem_cons_of_mem _ hu);exact⟨p1,p3,by rw[hne u.1 (hd u hu)];exact p4⟩
theorem NSt.plain {f:FuncId}{g:List A->Res}(ct:Contract P glob f g)(hg:GlobOk glob S)(h:NSt w0 S0 w S L){args:List A}{vals:List Value}
 (hrel:ArgsRel (hp w) S args vals (fun _=>[])) {y:(g args).X} (hy:(g args).val=some y) :
 Calls P f vals.toArray w fun e w'=>∃ v S' o',e=.returned v/\ARel (hp w') S' (fun _=>undef) ((g args).out y).1 v o'/\Sub S S'/\NSt w0 S0 w' S' L:=by
 refine ((ct.2 w S args vals _ hrel h.inw hg y hy)).mono ?_;rintro e w' ⟨v,S',q,ob',rfl,hwf,hSS,hSw,hnew,⟨hr,_⟩,_⟩;refine⟨v,S',q,rfl,hr,hSS,?_⟩;have hwf':WF w (fun _=>False) w':=⟨hwf.size,fun k hk _=>hwf.same k hk (by rintro⟨i,hi⟩;cases hi),hwf.tape,hwf.os,hwf.output⟩
 have hnw:∀ k,k<w.heap.size->S' k≠none->S k≠none:=fun k hk hs=>by
  rcases hnew k hs with h|⟨i,hi⟩|h
  . exact h
  . cases hi
  . omega
 refine⟨h.wf.trans hwf' (fun _ h=>h.elim),h.sub.trans hSS,hSw,fun k hk=>?_,fun p hp=>?_⟩
 . rcases hnew k hk with h'|⟨i,hi⟩|h'
   . exact h.new k h'
   . cases hi
   . exact .inr (Nat.le_trans h.wf.size h')
 . obtain⟨p1,p3,p4⟩:=h.own p hp;have hl:=(Array.getElem?_eq_some_iff.1 p4).1;refine⟨?_,p3,?_⟩
   . cases hs:S' p.1 with
     | none=>rfl
     | some q=>exact absurd p1 (hnw _ hl (by rw[hs];simp))
   . rw[hwf'.same p.1 hl (fun h=>h)];exact p4
theorem NSt.ends {args outs:List A}{vals:List Value}{ob:Nat->List Nat}{r:A}{v:Value}(h:NSt w0 S0 w S L)(hob:∀ i,ob i=[])(hargs:∀ y∈args,zco y=false)
 (hr:ARel (hp w) S (fun _=>undef) r v []) (hrr:r.refs=[]):Ends w0 S0 args vals ob r outs (.returned v) w:=by
 refine⟨v,S,[],fun _=>[],rfl,⟨h.wf.size,fun k hk _=>h.wf.same k hk (fun h=>h),h.wf.tape,h.wf.os,h.wf.output⟩,h.sub,h.inw,fun k hk=>?_,⟨hr,hrr⟩,(fun k hk=>by cases hk),.nil,fun i y hy hbx=>?_,(fun i k hk=>by cases hk),(fun i j k hi=>by cases hi),fun i=>.nil,fun i hi=>rfl⟩
 . rcases h.new k hk with h|h
   . exact .inl h
   . exact .inr (.inr h)
 . have:=hargs y (List.mem_of_getElem? hy);rw[hbx] at this;cases this
end
end Go.Lift
