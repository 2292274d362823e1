import Derived.Test.YtjbcpimnlgogiaaDoorLgPrDw1
import Derived.Test.YtjbcpimnlgogiaaDoorLgW
import Derived.KernelRfl
set_option linter.all false
set_option maxRecDepth 100000
namespace Go.Proofs.YtjbcpimnlgogiaaDoorLg
noncomputable section
open Go Go.Lift
def z1lu (N:Nat)(self:z4a->DT5->Option DT6)(i:(z49×(List Tree)×Int))(v:(z4a×z49×Int))(r:(z4a×z49×Int)->Option DT6)(K:Ex->List A->Option DT6):Option DT6 :=
 z7t N self i.1 i.2.1 i.2.2 v.1 v.2.1 v.2.2 (fun b whole x70=>(r (b,whole,x70))) (fun a0 a2=>(K (.exit 3) (mkS [(0,.box zea),(3,.box TT7),(4,.box TT7)] 74 (a0,i.1,a2,()))))
def z1il (N:Nat)(self:z4a->DT5->Option DT6):Hd DT6:=fun st K=>(unS SQ73 13 (restr zwx 0 st)).bind fun x=>iter (fun v r=>z1lu N self ((fun x=>(x.2.1,x.2.2.2.1,x.2.2.2.2.1)) x) v r K) N ((fun x=>(x.1,x.2.2.1,x.2.2.2.2.2.1)) x)
def t2_40 (N:Nat)(self:z4a->DT5->Option DT6):Tab DT6:=[]
theorem z1er {N:Nat}{self:z4a->DT5->Option DT6}{c:Ctx}(hb:Base Tryd.prog (z1qv N self) c):zk Tryd.prog c (zh zlx z1bk) (z1il N self) :=
 z1e (s:=SQ73) (m:=13) (z1lu N self) zwx N (fun x=>(x.2.1,x.2.2.2.1,x.2.2.2.2.1)) (fun x=>(x.1,x.2.2.1,x.2.2.2.2.2.1)) (fun i v=>(v.1,i.1,v.2.1,i.2.1,i.2.2,v.2.2,())) (fun _=>rfl) (zg hb N (t2_40 N self) L_40 zlx TabOk.nil [0,0,1,0,1,0,1,1,1,1,1,0,1,0,1] _ rfl) (fun i v r K=>by kernel_rfl)
def z8r (N:Nat)(self:z4a->DT5->Option DT6)(b:z4a)(n:DT5):Option DT6 :=
 cond (n.1 == (1:Int))
 (cond (decide ((((List.length b.1)+1)*32)<=70368744177664))
 (cond (decide ((((List.length b.2.1)+1)*24)<=70368744177664))
 (some ((false,(([(((List.length b.1):Nat):Int)]:List Int),(([(((List.length b.1):Nat):Int)]:List Int),()))),(((b.1++([n.2.1]:List (List Int))),((b.2.1++([([]:List Int)]:List (List Int))),b.2.2)),())))
 (none))
 (none))
 (cond (n.1 == (2:Int))
 (zee N self b (false,(([]:List Int),(([]:List Int),()))) (true,(([]:List Int),(([]:List Int),()))) n.2.2.1 (((List.length n.2.2.1):Nat):Int) (0:Int)
 (fun b1 whole=>some (whole,(b1,()))))
 (cond (n.1 == (3:Int))
 (zed N self b (false,(([]:List Int),(([]:List Int),()))) (false,(([]:List Int),(([]:List Int),()))) n.2.2.1 (((List.length n.2.2.1):Nat):Int) (0:Int)
 (fun b2 whole1=>some (whole1,(b2,()))))
 ((z93 N self b n).bind fun y =>
 some (y.1,(y.2.1,())))))
def t_40 (N:Nat)(self:z4a->DT5->Option DT6):Tab DT6:=[([0,1,0,1,0,1,1,1,0,1,0,1],z1jz N self),(z1bk,z1il N self)]
theorem z19h (N:Nat)(self:z4a->DT5->Option DT6)(x:z16 z13c):z52 (z1qv N self) N (t_40 N self) L_40 Tryd.f21 (mkS z13c 0 x) (z37 (.v TT7) [(0,.box zea)] 1)=z8r N self x.1 x.2.1:=by kernel_rfl
def z2m:Nat->z4a->DT5->Option DT6
 | 0=>fun _ _=>none
 | N+1=>z8r (N+1) (z2m N)
def z73 (N:Nat):List A->Res:=z12 z13c (fun x=>z2m N x.1 x.2.1) (z3t (.v TT7) [(0,.box zea)] 1)
theorem z7v:∀ N:Nat,Contract Tryd.prog glob 21 (z73 N)
 | 0=>Contract.zero Tryd.func21 (body:=zlx) (by kernel_rfl) (by decide) (fun _=>rfl)
 | N+1=>Contract.of (E:=z1qv (N+1) (z2m N)) (H:=t_40 (N+1) (z2m N)) (L:=L_40) (N:=(N+1)) (body:=zlx) (K:=(z37 (.v TT7) [(0,.box zea)] 1)) (z1ps (N+1) (z2m N) (z7v N)) Tryd.func21 (by kernel_rfl) (by decide) (fun _ hb=>(TabOk.cons (z1g5 hb) (TabOk.cons (z1er hb) TabOk.nil))) (fun x y h=>by rw[z19h];exact h) (z2f (s:=(.v TT7)) (os:=[(0,.box zea)]) (m:=1))
def z1av:Code:=(Tryd.f9.body).getD .skip
def L_41:List (List Nat×List Nat):=[([0],[1,2]),([0,0,1],[8,2,1]),([1,0,1],[1,2]),([0,0,1,0,1],[2,3]),([1,0,1,0,1],[2,3]),([0,0,1,1],[12,2,1]),([1,0,1,1],[1,2]),([0,0,1,0,1,1],[2,3]),([1,0,1,0,1,1],[2,3]),([0,1,1,1],[4,1,2]),([0,1,1,1,1],[4,5,2]),([0,1,1,1,1,1],[2,3]),([1,1,1,1,1,1],[2,3])]
def E_41 (N:Nat):Env:=z1m tys glob [(21,z73 N),(20,zg4 N),(19,zgh N)] [] [] [] false [(14,zea),(15,zea)] [(44,za N)]
theorem z1pr (N:Nat):EnvOk Tryd.prog (E_41 N):=zi mixed zr (FnsOk.cons (z7v N) (FnsOk.cons (zih N) (FnsOk.cons (zir N) (FnsOk.nil)))) (ItsOk.cons (zb N) (ItsOk.nil))
def zrb (N:Nat)(n:DT5):Option (z8q×Int×Unit) :=
 (z97 N n).bind fun y =>
 cond (!y)
 (some ((([]:List (List Int)),(false,(([]:List Int),(([]:List Int),(([]:List (List Int)),()))))),((7:Int),())))
 ((z92 N n).bind fun y1 =>
 cond (decide ((512:Int)<y1))
 (some ((([]:List (List Int)),(false,(([]:List Int),(([]:List Int),(([]:List (List Int)),()))))),((16:Int),())))
 ((z2m N (([]:List (List Int)),(([]:List (List Int)),())) n).bind fun y2 =>
 some ((y2.2.1.1,(y2.1.1,(y2.1.2.1,(y2.1.2.2.1,(y2.2.1.2.1,()))))),((0:Int),()))))
def t_41 (N:Nat):Tab (z8q×Int×Unit):=[]
theorem z19g (N:Nat)(x:z16 [(0,.v TT3)]):z52 (E_41 N) N (t_41 N) L_41 Tryd.f9 (mkS [(0,.v TT3)] 0 x) (z3j (.tup [TT8,(.int .i64)]) 1)=zrb N x.1:=by kernel_rfl
def zm1 (N:Nat):List A->Res:=z12 [(0,.v TT3)] (fun x=>zrb N x.1) (z7r (.tup [TT8,(.int .i64)]) 1)
theorem zuo (N:Nat):Contract Tryd.prog glob 9 (zm1 N) :=
 Contract.of (E:=E_41 N) (H:=t_41 N) (L:=L_41) (N:=N) (body:=z1av) (K:=(z3j (.tup [TT8,(.int .i64)]) 1)) (z1pr N) Tryd.func9 (by kernel_rfl) (by decide) (fun _ hb=>TabOk.nil) (fun x y h=>by rw[z19g];exact h) (z1a (s:=(.tup [TT8,(.int .i64)])) (m:=1))
def zwh:Code:=(Tryd.f73.body).getD .skip
def L_42:List (List Nat×List Nat):=[([0],[0]),([0,0,1],[12,0]),([1,0,1],[0]),([0,1,0,1],[0]),([0,1,1],[2,0]),([1,1,1],[2,0])]
def E_42 (N:Nat):Env:=z1m tys glob [] [] [] [0] false [] [(44,za N)]
theorem z1pq (N:Nat):EnvOk Tryd.prog (E_42 N):=zi mixed zr (FnsOk.nil) (ItsOk.cons (zb N) (ItsOk.nil))
def zal (N:Nat)(p:DT4)(k0:Option (Int×(DT4×Unit))):Option (Int×(DT4×Unit)) :=
 cond (p.2.1 == (((List.length p.1):Nat):Int))
 (none)
 (k0)
def z1n7 (N:Nat)(x:z16 SQ0)(K:Ex->List A->Option (Int×(DT4×Unit))):Option (Int×(DT4×Unit)) :=
 zal N x.1 (K .normal (mkS SQ0 27 (x.1,())))
def z1jy (N:Nat):Hd (Int×(DT4×Unit)):=fun st K=>(unS SQ0 27 (restr [0] 0 st)).bind fun x=>z1n7 N x K
def t1_42 (N:Nat):Tab (Int×(DT4×Unit)):=[]
theorem z1g4 {N:Nat}{c:Ctx}(hb:Base Tryd.prog (E_42 N) c):zk Tryd.prog c (zh zwh [0,1]) (z1jy N) :=
 zw (s:=SQ0) (m:=27) (g:=z1n7 N) [0] (zg hb N (t1_42 N) L_42 zwh TabOk.nil [0,1] _ rfl) (fun x K=>by kernel_rfl)
def z1g (N:Nat)(p:DT4):Option (Int×(DT4×Unit)) :=
 zal N p
 (cond (inR p.2.1 (List.length p.1))
 (some ((((UInt8.toNat (List.getD p.1 (Int.toNat p.2.1) (0:UInt8))):Nat):Int),(p,())))
 (none))
def t_42 (N:Nat):Tab (Int×(DT4×Unit)):=[([0,1],z1jy N)]
theorem z19f (N:Nat)(x:z16 SQ0):z52 (E_42 N) N (t_42 N) L_42 Tryd.f73 (mkS SQ0 0 x) (z37 (.v (.int .u8)) SQ0 0)=z1g N x.1:=by kernel_rfl
def z14 (N:Nat):List A->Res:=z12 SQ0 (fun x=>z1g N x.1) (z3t (.v (.int .u8)) SQ0 0)
theorem z1c (N:Nat):Contract Tryd.prog glob 73 (z14 N) :=
 Contract.of (E:=E_42 N) (H:=t_42 N) (L:=L_42) (N:=N) (body:=zwh) (K:=(z37 (.v (.int .u8)) SQ0 0)) (z1pq N) Tryd.func73 (by kernel_rfl) (by decide) (fun _ hb=>(TabOk.cons (z1g4 hb) TabOk.nil)) (fun x y h=>by rw[z19f];exact h) (z2f (s:=(.v (.int .u8))) (os:=SQ0) (m:=0))
def zwg:Code:=(Tryd.f68.body).getD .skip
def L_43:List (List Nat×List Nat):=[([0,0],[7,0]),([1,0],[0]),([0,1,0],[0]),([1],[0])]
def E_43 (N:Nat):Env:=z1m tys glob [(73,z14 N)] [] [] [0] false [] [(44,za N)]
theorem z1pp (N:Nat):EnvOk Tryd.prog (E_43 N):=zi mixed zr (FnsOk.cons (z1c N) (FnsOk.nil)) (ItsOk.cons (zb N) (ItsOk.nil))
def zam (N:Nat)(p:DT4)(b:Int)(k0:DT4->Option ((Unit)×(DT4×Unit))):Option ((Unit)×(DT4×Unit)) :=
 (z1g N p).bind fun y =>
 cond (y.1 != b)
 (none)
 (k0 y.2.1)
def z1n6 (N:Nat)(x:z16 SQ6)(K:Ex->List A->Option ((Unit)×(DT4×Unit))):Option ((Unit)×(DT4×Unit)) :=
 zam N x.1 x.2.1 (fun a0=>(K .normal (mkS SQ0 20 (a0,()))))
def z1jx (N:Nat):Hd ((Unit)×(DT4×Unit)):=fun st K=>(unS SQ6 19 (restr [0,1] 0 st)).bind fun x=>z1n6 N x K
def t1_43 (N:Nat):Tab ((Unit)×(DT4×Unit)):=[]
theorem z1g3 {N:Nat}{c:Ctx}(hb:Base Tryd.prog (E_43 N) c):zk Tryd.prog c (zh zwg [0]) (z1jx N) :=
 zw (s:=SQ6) (m:=19) (g:=z1n6 N) [0,1] (zg hb N (t1_43 N) L_43 zwg TabOk.nil [0] _ rfl) (fun x K=>by kernel_rfl)
def z1h (N:Nat)(p:DT4)(b:Int):Option ((Unit)×(DT4×Unit)) :=
 zam N p b
 (fun p1=>some ((),((p1.1,((IntKind.wrap IntKind.i64 (p1.2.1+(1:Int))),p1.2.2)),())))
def t_43 (N:Nat):Tab ((Unit)×(DT4×Unit)):=[([0],z1jx N)]
theorem z19e (N:Nat)(x:z16 SQ6):z52 (E_43 N) N (t_43 N) L_43 Tryd.f68 (mkS SQ6 0 x) (z37 (.tup []) SQ0 1)=z1h N x.1 x.2.1:=by kernel_rfl
def z1k (N:Nat):List A->Res:=z12 SQ6 (fun x=>z1h N x.1 x.2.1) (z3t (.tup []) SQ0 1)
theorem z1w (N:Nat):Contract Tryd.prog glob 68 (z1k N) :=
 Contract.of (E:=E_43 N) (H:=t_43 N) (L:=L_43) (N:=N) (body:=zwg) (K:=(z37 (.tup []) SQ0 1)) (z1pp N) Tryd.func68 (by kernel_rfl) (by decide) (fun _ hb=>(TabOk.cons (z1g3 hb) TabOk.nil)) (fun x y h=>by rw[z19e];exact h) (z2f (s:=(.tup [])) (os:=SQ0) (m:=1))
abbrev z7:Type:=DT4->Option (DT5×(DT4×Unit))
def zwf:Code:=(Tryd.f62.body).getD .skip
def L_44:List (List Nat×List Nat):=[([0],[0,2]),([0,0,1],[8,0,2]),([1,0,1],[0,2]),([0,1,0,1],[0,2]),([0,1,1],[0,2]),([0,1,1,1],[0,2]),([0,1,1,1,1],[0,3,2]),([0,1,1,1,1,1],[0,3,2]),(z100,[3,2,0]),(z10i,[2,0]),(z16d,[2,0])]
def E_44 (N:Nat)(self:z7):Env:=z1m tys glob [(68,z1k N),(17,z12 SQ0 (fun x=>self x.1) (z3t (.v TT3) SQ0 0))] [] [] [0] false [] [(44,za N)]
theorem z1po (N:Nat)(self:z7)(hself:Contract Tryd.prog glob 17 (z12 SQ0 (fun x=>self x.1) (z3t (.v TT3) SQ0 0))):EnvOk Tryd.prog (E_44 N self):=zi mixed zr (FnsOk.cons (z1w N) (FnsOk.cons (hself) (FnsOk.nil))) (ItsOk.cons (zb N) (ItsOk.nil))
def z9v (N:Nat)(self:z7)(p:DT4)(x2:DT5)(k0:Option (DT5×(DT4×Unit))):Option (DT5×(DT4×Unit)) :=
 cond (p.2.2.1 == (16:Int))
 (none)
 (k0)
def z1n5 (N:Nat)(self:z7)(x:z16 z169)(K:Ex->List A->Option (DT5×(DT4×Unit))):Option (DT5×(DT4×Unit)) :=
 z9v N self x.1 x.2.1 (K .normal (mkS z169 33 (x.1,x.2.1,())))
def z1jw (N:Nat)(self:z7):Hd (DT5×(DT4×Unit)):=fun st K=>(unS z169 33 (restr [0,2] 0 st)).bind fun x=>z1n5 N self x K
def t1_44 (N:Nat)(self:z7):Tab (DT5×(DT4×Unit)):=[]
theorem z1g2 {N:Nat}{self:z7}{c:Ctx}(hb:Base Tryd.prog (E_44 N self) c):zk Tryd.prog c (zh zwf [0,1]) (z1jw N self) :=
 zw (s:=z169) (m:=33) (g:=z1n5 N self) [0,2] (zg hb N (t1_44 N self) L_44 zwf TabOk.nil [0,1] _ rfl) (fun x K=>by kernel_rfl)
def z5f (N:Nat)(self:z7)(p:DT4):Option (DT5×(DT4×Unit)) :=
 z9v N self p ((0:Int),(([(0:Int),(0:Int),(0:Int),(0:Int)]:List Int),(([]:List Tree),((0:Int),((0:Int),())))))
 ((z1h N (p.1,(p.2.1,((IntKind.wrap IntKind.i64 (p.2.2.1+(1:Int))),p.2.2.2))) (40:Int)).bind fun y =>
 (self y.2.1).bind fun y1 =>
 (z1h N y1.2.1 (41:Int)).bind fun y2 =>
 some (y1.1,((y2.2.1.1,(y2.2.1.2.1,((IntKind.wrap IntKind.i64 (y2.2.1.2.2.1 - (1:Int))),y2.2.1.2.2.2))),())))
def t_44 (N:Nat)(self:z7):Tab (DT5×(DT4×Unit)):=[([0,1],z1jw N self)]
theorem z19d (N:Nat)(self:z7)(x:z16 SQ0):z52 (E_44 N self) N (t_44 N self) L_44 Tryd.f62 (mkS SQ0 0 x) (z37 (.v TT3) SQ0 0)=z5f N self x.1:=by kernel_rfl
def z59 (N:Nat)(self:z7):List A->Res:=z12 SQ0 (fun x=>z5f N self x.1) (z3t (.v TT3) SQ0 0)
theorem z9w (N:Nat)(self:z7)(hself:Contract Tryd.prog glob 17 (z12 SQ0 (fun x=>self x.1) (z3t (.v TT3) SQ0 0))):Contract Tryd.prog glob 62 (z59 N self) :=
 Contract.of (E:=E_44 N self) (H:=t_44 N self) (L:=L_44) (N:=N) (body:=zwf) (K:=(z37 (.v TT3) SQ0 0)) (z1po N self hself) Tryd.func62 (by kernel_rfl) (by decide) (fun _ hb=>(TabOk.cons (z1g2 hb) TabOk.nil)) (fun x y h=>by rw[z19d];exact h) (z2f (s:=(.v TT3)) (os:=SQ0) (m:=0))
def z1au:Code:=(Tryd.f25.body).getD .skip
def L_45:List (List Nat×List Nat):=[([0],[1,2,4]),([0,1],[2,4]),([0,1,1],[4]),([1,1,1],[4])]
def E_45 (N:Nat):Env:=z1m tys glob [] [] [] [] false [] [(44,za N)]
theorem z1pn (N:Nat):EnvOk Tryd.prog (E_45 N):=zi mixed zr (FnsOk.nil) (ItsOk.cons (zb N) (ItsOk.nil))
def z7q (N:Nat)(s:(List Int))(b:Int):Option (List Int) :=
 cond (inR (IntKind.wrap IntKind.u8 (Int.tdiv b (64:Int))) 4)
 (cond (decide ((Int.toNat (IntKind.wrap IntKind.u8 (Int.tdiv b (64:Int))))<(List.length s)))
 (cond (decide ((0:Int)<=(Int.tmod b (64:Int))))
 (cond (inR (IntKind.wrap IntKind.u8 (Int.tdiv b (64:Int))) 4)
 (cond (decide ((Int.toNat (IntKind.wrap IntKind.u8 (Int.tdiv b (64:Int))))<(List.length s)))
 (some (List.set s (Int.toNat (IntKind.wrap IntKind.u8 (Int.tdiv b (64:Int)))) (zd Go.BinOp.or IntKind.u64 (List.getD s (Int.toNat (IntKind.wrap IntKind.u8 (Int.tdiv b (64:Int)))) (0:Int)) (zsh IntKind.u64 (1:Int) (Int.tmod b (64:Int))))))
 (none))
 (none))
 (none))
 (none))
 (none)
def t_45 (N:Nat):Tab (List Int):=[]
theorem z19c (N:Nat)(x:z16 z1c4):z52 (E_45 N) N (t_45 N) L_45 Tryd.f25 (mkS z1c4 0 x) (z3j (.v (.arr 4 (.int .u64))) 2)=z7q N x.1 x.2.1:=by kernel_rfl
def za9 (N:Nat):List A->Res:=z12 z1c4 (fun x=>z7q N x.1 x.2.1) (z7r (.v (.arr 4 (.int .u64))) 2)
theorem zh5 (N:Nat):Contract Tryd.prog glob 25 (za9 N) :=
 Contract.of (E:=E_45 N) (H:=t_45 N) (L:=L_45) (N:=N) (body:=z1au) (K:=(z3j (.v (.arr 4 (.int .u64))) 2)) (z1pn N) Tryd.func25 (by kernel_rfl) (by decide) (fun _ hb=>TabOk.nil) (fun x y h=>by rw[z19c];exact h) (z1a (s:=(.v (.arr 4 (.int .u64)))) (m:=2))
def zwe:Code:=(Tryd.f11.body).getD .skip
def L_46:List (List Nat×List Nat):=[([0],[0,1,4]),([0,1],[0,1,5,4]),([0,0,1,1],[6,1,5,4]),([0,1,0,1,1],[6,1,5,4]),([0,0,0,0,1,0,1,1],[12,5,6,1,4]),([1,0,0,0,1,0,1,1],[5,6,1,4]),([1,1,0,0,0,1,0,1,1],[5,4]),([0,0,1,0,0,1,0,1,1],[6,1,5,4]),(z10h,[6,1,5,4]),([1,1,0,0,1,0,1,1],[6,1,5,4]),([1,0,1,1],[5,4]),([0,1,1,1],[4]),([1,1,1,1],[4])]
def E_46 (N:Nat):Env:=z1m tys glob [(25,za9 N)] [] [] [] false [] [(44,za N)]
theorem z1pm (N:Nat):EnvOk Tryd.prog (E_46 N):=zi mixed zr (FnsOk.cons (zh5 N) (FnsOk.nil)) (ItsOk.cons (zb N) (ItsOk.nil))
def zb9 (N:Nat)(hi:Int)(x4:(List Int))(s:(List Int))(b:Int)(rec:(List Int)->Int->Option (List Int))(k0:(List Int)->Option (List Int)):Option (List Int) :=
 cond (decide (b<=(IntKind.wrap IntKind.i64 hi)))
 ((z7q N s (IntKind.wrap IntKind.u8 b)).bind fun y =>
 rec y (IntKind.wrap IntKind.i64 (b+(1:Int))))
 (k0 s)
def zkr (N:Nat)(hi:Int)(x4:(List Int))(s:(List Int))(b:Int)(k0:(List Int)->Option (List Int)):Option (List Int) :=
 iter (fun (v:((List Int)×Int)) r=>zb9 N hi x4 v.1 v.2 (fun s b=>(r (s,b))) k0) N (s,b)
def z1n4 (N:Nat)(i:(Int×(List Int)))(v:((List Int)×Int))(r:((List Int)×Int)->Option (List Int))(K:Ex->List A->Option (List Int)):Option (List Int) :=
 zb9 N i.1 i.2 v.1 v.2 (fun s b=>(r (s,b))) (fun a1=>(K (.exit 0) (mkS [(4,.box (.arr 4 (.int .u64))),(0,.box (.arr 4 (.int .u64)))] 14 (i.2,a1,()))))
def z1jv (N:Nat):Hd (List Int):=fun st K=>(unS SQ78 13 (restr [6,1,5,4] 0 st)).bind fun x=>iter (fun v r=>z1n4 N ((fun x=>(x.1,x.2.1)) x) v r K) N ((fun x=>(x.2.2.1,x.2.2.2.1)) x)
def t1_46 (N:Nat):Tab (List Int):=[]
theorem z1g1 {N:Nat}{c:Ctx}(hb:Base Tryd.prog (E_46 N) c):zk Tryd.prog c (zh zwe [0,1,0,1,1]) (z1jv N) :=
 z1e (s:=SQ78) (m:=13) (z1n4 N) [6,1,5,4] N (fun x=>(x.1,x.2.1)) (fun x=>(x.2.2.1,x.2.2.2.1)) (fun i v=>(i.1,i.2,v.1,v.2,())) (fun _=>rfl) (zg hb N (t1_46 N) L_46 zwe TabOk.nil [0,0,1,0,1,1] _ rfl) (fun i v r K=>by kernel_rfl)
def z22 (N:Nat)(lo:Int)(hi:Int):Option (List Int) :=
 zkr N hi ([(0:Int),(0:Int),(0:Int),(0:Int)]:List Int) ([(0:Int),(0:Int),(0:Int),(0:Int)]:List Int) (IntKind.wrap IntKind.i64 lo)
 (fun s=>some s)
def t_46 (N:Nat):Tab (List Int):=[([0,1,0,1,1],z1jv N)]
theorem z19b (N:Nat)(x:z16 [(0,.v (.int .u8)),(0,.v (.int .u8))]):z52 (E_46 N) N (t_46 N) L_46 Tryd.f11 (mkS [(0,.v (.int .u8)),(0,.v (.int .u8))] 0 x) (z3j (.v (.arr 4 (.int .u64))) 2)=z22 N x.1 x.2.1:=by kernel_rfl
def z2w (N:Nat):List A->Res:=z12 [(0,.v (.int .u8)),(0,.v (.int .u8))] (fun x=>z22 N x.1 x.2.1) (z7r (.v (.arr 4 (.int .u64))) 2)
theorem z3e (N:Nat):Contract Tryd.prog glob 11 (z2w N) :=
 Contract.of (E:=E_46 N) (H:=t_46 N) (L:=L_46) (N:=N) (body:=zwe) (K:=(z3j (.v (.arr 4 (.int .u64))) 2)) (z1pm N) Tryd.func11 (by kernel_rfl) (by decide) (fun _ hb=>(TabOk.cons (z1g1 hb) TabOk.nil)) (fun x y h=>by rw[z19b];exact h) (z1a (s:=(.v (.arr 4 (.int .u64)))) (m:=2))
def z1at:Code:=(Tryd.f63.body).getD .skip
def L_47:List (List Nat×List Nat):=[([0],[1,2]),([0,1],[2]),([1,1],[2])]
def E_47 (N:Nat):Env:=z1m tys glob [] [] [] [] false [] [(44,za N)]
theorem z1pl (N:Nat):EnvOk Tryd.prog (E_47 N):=zi mixed zr (FnsOk.nil) (ItsOk.cons (zb N) (ItsOk.nil))
def zt1 (N:Nat)(s:(List Int)):Option DT5 :=
 some ((1:Int),(s,(([]:List Tree),((0:Int),((0:Int),())))))
def t_47 (N:Nat):Tab DT5:=[]
theorem z19a (N:Nat)(x:z16 zwu):z52 (E_47 N) N (t_47 N) L_47 Tryd.f63 (mkS zwu 0 x) (z3j (.v TT3) 1)=zt1 N x.1:=by kernel_rfl
def zes (N:Nat):List A->Res:=z12 zwu (fun x=>zt1 N x.1) (z7r (.v TT3) 1)
theorem zm8 (N:Nat):Contract Tryd.prog glob 63 (zes N) :=
 Contract.of (E:=E_47 N) (H:=t_47 N) (L:=L_47) (N:=N) (body:=z1at) (K:=(z3j (.v TT3) 1)) (z1pl N) Tryd.func63 (by kernel_rfl) (by decide) (fun _ hb=>TabOk.nil) (fun x y h=>by rw[z19a];exact h) (z1a (s:=(.v TT3)) (m:=1))
def zpb:Code:=(Tryd.f30.body).getD .skip
def L_48:List (List Nat×List Nat):=[([0],[0,1]),([0,0,1],[27,0]),([1,0,1],[0]),([0,0,1,0,1],[4,0]),([1,0,1,0,1],[4,0]),([0,1,1],[0]),([0,1,1,1],[4,0]),([1,1,1,1],[4,0])]
def z1qu (N:Nat):Env:=z1m tys glob [] [] [] [0] false [] [(44,za N)]
theorem z1pk (N:Nat):EnvOk Tryd.prog (z1qu N):=zi mixed zr (FnsOk.nil) (ItsOk.cons (zb N) (ItsOk.nil))
def zag (N:Nat)(p:DT4)(b:Int)(k0:Bool->Option (Bool×(DT4×Unit))):Option (Bool×(DT4×Unit)) :=
 cond (p.2.1 == (((List.length p.1):Nat):Int))
 (k0 true)
 (cond (inR p.2.1 (List.length p.1))
 (k0 ((((UInt8.toNat (List.getD p.1 (Int.toNat p.2.1) (0:UInt8))):Nat):Int) != b))
 (none))
def z1lt (N:Nat)(x:z16 SQ6)(K:Ex->List A->Option (Bool×(DT4×Unit))):Option (Bool×(DT4×Unit)) :=
 zag N x.1 x.2.1 (fun a1=>(K .normal (mkS [(0,.box (.pair .str TT1)),(26,.v .bool)] 7 (x.1,a1,()))))
def z1ik (N:Nat):Hd (Bool×(DT4×Unit)):=fun st K=>(unS SQ6 33 (restr [0,1] 0 st)).bind fun x=>z1lt N x K
def t2_48 (N:Nat):Tab (Bool×(DT4×Unit)):=[]
theorem z1eq {N:Nat}{c:Ctx}(hb:Base Tryd.prog (z1qu N) c):zk Tryd.prog c (zh zpb [0,0,1]) (z1ik N) :=
 zw (s:=SQ6) (m:=33) (g:=z1lt N) [0,1] (zg hb N (t2_48 N) L_48 zpb TabOk.nil [0,0,1] _ rfl) (fun x K=>by kernel_rfl)
def zah (N:Nat)(p:DT4)(b:Int)(k0:Bool->Option (Bool×(DT4×Unit)))(k1:Option (Bool×(DT4×Unit))):Option (Bool×(DT4×Unit)) :=
 zag N p b
 (fun x27=>cond x27
 (k0 false)
 (k1))
def z1n3 (N:Nat)(x:z16 SQ6)(K:Ex->List A->Option (Bool×(DT4×Unit))):Option (Bool×(DT4×Unit)) :=
 zah N x.1 x.2.1 (fun a1=>(K .ret (mkS [(0,.box (.pair .str TT1)),(3,.v .bool)] 30 (x.1,a1,())))) (K .normal (mkS SQ0 34 (x.1,())))
def z1ju (N:Nat):Hd (Bool×(DT4×Unit)):=fun st K=>(unS SQ6 33 (restr [0,1] 0 st)).bind fun x=>z1n3 N x K
def t1_48 (N:Nat):Tab (Bool×(DT4×Unit)):=[([0,0,1],z1ik N)]
theorem z1g0 {N:Nat}{c:Ctx}(hb:Base Tryd.prog (z1qu N) c):zk Tryd.prog c (zh zpb [0,1]) (z1ju N) :=
 zw (s:=SQ6) (m:=33) (g:=z1n3 N) [0,1] (zg hb N (t1_48 N) L_48 zpb (TabOk.cons (z1eq hb) TabOk.nil) [0,1] _ rfl) (fun x K=>by kernel_rfl)
def z15 (N:Nat)(p:DT4)(b:Int):Option (Bool×(DT4×Unit)) :=
 zah N p b
 (fun x4=>some (x4,(p,())))
 (some (true,((p.1,((IntKind.wrap IntKind.i64 (p.2.1+(1:Int))),p.2.2)),())))
def t_48 (N:Nat):Tab (Bool×(DT4×Unit)):=[([0,1],z1ju N)]
theorem z199 (N:Nat)(x:z16 SQ6):z52 (z1qu N) N (t_48 N) L_48 Tryd.f30 (mkS SQ6 0 x) (z37 (.v .bool) SQ0 1)=z15 N x.1 x.2.1:=by kernel_rfl
def z1j (N:Nat):List A->Res:=z12 SQ6 (fun x=>z15 N x.1 x.2.1) (z3t (.v .bool) SQ0 1)
theorem z1v (N:Nat):Contract Tryd.prog glob 30 (z1j N) :=
 Contract.of (E:=z1qu N) (H:=t_48 N) (L:=L_48) (N:=N) (body:=zpb) (K:=(z37 (.v .bool) SQ0 1)) (z1pk N) Tryd.func30 (by kernel_rfl) (by decide) (fun _ hb=>(TabOk.cons (z1g0 hb) TabOk.nil)) (fun x y h=>by rw[z199];exact h) (z2f (s:=(.v .bool)) (os:=SQ0) (m:=1))
def zwd:Code:=(Tryd.f74.body).getD .skip
def L_49:List (List Nat×List Nat):=[([0],[0,2]),([0,1],[0,3,2]),([0,0,1,1],[7,6,3,0,2]),([0,1,0,1,1],[7,6,3,0,2]),(z13d,[8,7,3,0,6,2]),(z10h,[7,3,0,6,2]),(z13g,[3,2]),(z13h,[3,0,4,7,6,2]),(z1cc,[7,6,3,0,2]),(z13f,[7,6,3,0,2]),(z13e,[7,6,3,0,2]),([1,0,1,1],[3,2]),([0,1,1,1],[2]),([1,1,1,1],[2])]
def E_49 (N:Nat):Env:=z1m tys glob [(25,za9 N)] [] [] [] false [] [(44,za N)]
theorem z1pj (N:Nat):EnvOk Tryd.prog (E_49 N):=zi mixed zr (FnsOk.cons (zh5 N) (FnsOk.nil)) (ItsOk.cons (zb N) (ItsOk.nil))
def zfr (N:Nat)(s:(List UInt8))(x2:(List Int))(x6:Int)(set_:(List Int))(x7:Int)(rec:(List Int)->Int->Option (List Int))(k0:(List Int)->Option (List Int)):Option (List Int) :=
 cond (decide (x7<x6))
 (cond (inR x7 (List.length s))
 ((z7q N set_ (((UInt8.toNat (List.getD s (Int.toNat x7) (0:UInt8))):Nat):Int)).bind fun y =>
 rec y (IntKind.wrap IntKind.i64 (x7+(1:Int))))
 (none))
 (k0 set_)
def zn1 (N:Nat)(s:(List UInt8))(x2:(List Int))(set_:(List Int))(x6:Int)(x7:Int)(k0:(List Int)->Option (List Int)):Option (List Int) :=
 iter (fun (v:((List Int)×Int)) r=>zfr N s x2 x6 v.1 v.2 (fun set_ x7=>(r (set_,x7))) k0) N (set_,x7)
def z1n2 (N:Nat)(i:((List UInt8)×(List Int)×Int))(v:((List Int)×Int))(r:((List Int)×Int)->Option (List Int))(K:Ex->List A->Option (List Int)):Option (List Int) :=
 zfr N i.1 i.2.1 i.2.2 v.1 v.2 (fun set_ x7=>(r (set_,x7))) (fun a1=>(K (.exit 0) (mkS [(2,.box (.arr 4 (.int .u64))),(0,.box (.arr 4 (.int .u64)))] 13 (i.2.1,a1,()))))
def z1jt (N:Nat):Hd (List Int):=fun st K=>(unS SQ64 9 (restr [7,6,3,0,2] 0 st)).bind fun x=>iter (fun v r=>z1n2 N ((fun x=>(x.1,x.2.1,x.2.2.2.1)) x) v r K) N ((fun x=>(x.2.2.1,x.2.2.2.2.1)) x)
def t1_49 (N:Nat):Tab (List Int):=[]
theorem z1fz {N:Nat}{c:Ctx}(hb:Base Tryd.prog (E_49 N) c):zk Tryd.prog c (zh zwd [0,1,0,1,1]) (z1jt N) :=
 z1e (s:=SQ64) (m:=9) (z1n2 N) [7,6,3,0,2] N (fun x=>(x.1,x.2.1,x.2.2.2.1)) (fun x=>(x.2.2.1,x.2.2.2.2.1)) (fun i v=>(i.1,i.2.1,v.1,i.2.2,v.2,())) (fun _=>rfl) (zg hb N (t1_49 N) L_49 zwd TabOk.nil [0,0,1,0,1,1] _ rfl) (fun i v r K=>by kernel_rfl)
def zb8 (N:Nat)(s:(List UInt8)):Option (List Int) :=
 zn1 N s ([(0:Int),(0:Int),(0:Int),(0:Int)]:List Int) ([(0:Int),(0:Int),(0:Int),(0:Int)]:List Int) (((List.length s):Nat):Int) (0:Int)
 (fun set_=>some set_)
def t_49 (N:Nat):Tab (List Int):=[([0,1,0,1,1],z1jt N)]
theorem z198 (N:Nat)(x:z16 [(0,.v .str)]):z52 (E_49 N) N (t_49 N) L_49 Tryd.f74 (mkS [(0,.v .str)] 0 x) (z3j (.v (.arr 4 (.int .u64))) 1)=zb8 N x.1:=by kernel_rfl
def z9b (N:Nat):List A->Res:=z12 [(0,.v .str)] (fun x=>zb8 N x.1) (z7r (.v (.arr 4 (.int .u64))) 1)
theorem zfs (N:Nat):Contract Tryd.prog glob 74 (z9b N) :=
 Contract.of (E:=E_49 N) (H:=t_49 N) (L:=L_49) (N:=N) (body:=zwd) (K:=(z3j (.v (.arr 4 (.int .u64))) 1)) (z1pj N) Tryd.func74 (by kernel_rfl) (by decide) (fun _ hb=>(TabOk.cons (z1fz hb) TabOk.nil)) (fun x y h=>by rw[z198];exact h) (z1a (s:=(.v (.arr 4 (.int .u64)))) (m:=1))
def z1as:Code:=(Tryd.f77.body).getD .skip
def L_50:List (List Nat×List Nat):=[([0],[0]),([0,1],[2]),([1,1],[2])]
def E_50 (N:Nat):Env:=z1m tys glob [] [] [] [] false [] [(44,za N)]
theorem z1pi (N:Nat):EnvOk Tryd.prog (E_50 N):=zi mixed zr (FnsOk.nil) (ItsOk.cons (zb N) (ItsOk.nil))
def z5w (N:Nat)(b:Int):Option Bool :=
 cond (decide ((48:Int)<=b))
 (some (decide (b<=(57:Int))))
 (some false)
def t_50 (N:Nat):Tab Bool:=[]
theorem z197 (N:Nat)(x:z16 [(0,.v (.int .u8))]):z52 (E_50 N) N (t_50 N) L_50 Tryd.f77 (mkS [(0,.v (.int .u8))] 0 x) (z3j (.v .bool) 1)=z5w N x.1:=by kernel_rfl
def z5v (N:Nat):List A->Res:=z12 [(0,.v (.int .u8))] (fun x=>z5w N x.1) (z7r (.v .bool) 1)
theorem z9h (N:Nat):Contract Tryd.prog glob 77 (z5v N) :=
 Contract.of (E:=E_50 N) (H:=t_50 N) (L:=L_50) (N:=N) (body:=z1as) (K:=(z3j (.v .bool) 1)) (z1pi N) Tryd.func77 (by kernel_rfl) (by decide) (fun _ hb=>TabOk.nil) (fun x y h=>by rw[z197];exact h) (z1a (s:=(.v .bool)) (m:=1))
def zpa:Code:=(Tryd.f75.body).getD .skip
def L_51:List (List Nat×List Nat):=[([0],[0,1]),([0,1],[0,5,1]),([0,1,1],[5,0,1]),([0,0,1,1,1],[16,5,0,1]),([1,0,1,1,1],[5,0,1]),(zwv,[4,0]),(zue,[4,0]),([0,0,1,1,1,1],[24,0,1,5]),([1,0,1,1,1,1],[5,0]),(z13p,[5,0]),([0,1,1,1,1,1],[4,0]),([1,1,1,1,1,1],[4,0])]
def z1qt (N:Nat):Env:=z1m tys glob [(77,z5v N),(73,z14 N)] [] [] [0] false [] [(44,za N)]
theorem z1ph (N:Nat):EnvOk Tryd.prog (z1qt N):=zi mixed zr (FnsOk.cons (z9h N) (FnsOk.cons (z1c N) (FnsOk.nil))) (ItsOk.cons (zb N) (ItsOk.nil))
def zbs (N:Nat)(p:DT4)(from_:Int)(b:Int)(k0:Bool->Option (Int×(DT4×Unit))):Option (Int×(DT4×Unit)) :=
 cond (decide (b<(97:Int)))
 (k0 true)
 (k0 (decide ((102:Int)<b)))
def z1ls (N:Nat)(x:z16 SQ8)(K:Ex->List A->Option (Int×(DT4×Unit))):Option (Int×(DT4×Unit)) :=
 zbs N x.1 x.2.1 x.2.2.1 (fun a3=>(K .normal (mkS [(0,.box (.pair .str TT1)),(0,.v (.int .i64)),(3,.v (.int .u8)),(18,.v .bool)] 6 (x.1,x.2.1,x.2.2.1,a3,()))))
def z1ij (N:Nat):Hd (Int×(DT4×Unit)):=fun st K=>(unS SQ8 25 (restr [5,0,1] 0 st)).bind fun x=>z1ls N x K
def t2_51 (N:Nat):Tab (Int×(DT4×Unit)):=[]
theorem z1ep {N:Nat}{c:Ctx}(hb:Base Tryd.prog (z1qt N) c):zk Tryd.prog c (zh zpa [0,0,1,1,1,1]) (z1ij N) :=
 zw (s:=SQ8) (m:=25) (g:=z1ls N) [5,0,1] (zg hb N (t2_51 N) L_51 zpa TabOk.nil [0,0,1,1,1,1] _ rfl) (fun x K=>by kernel_rfl)
def zbt (N:Nat)(p:DT4)(from_:Int)(b:Int)(k0:Option (Int×(DT4×Unit))):Option (Int×(DT4×Unit)) :=
 zbs N p from_ b
 (fun x24=>cond x24
 (none)
 (k0))
def z1n1 (N:Nat)(x:z16 SQ8)(K:Ex->List A->Option (Int×(DT4×Unit))):Option (Int×(DT4×Unit)) :=
 zbt N x.1 x.2.1 x.2.2.1 (K .normal (mkS [(0,.box (.pair .str TT1)),(4,.v (.int .u8))] 25 (x.1,x.2.2.1,())))
def z1js (N:Nat):Hd (Int×(DT4×Unit)):=fun st K=>(unS SQ8 25 (restr [5,0,1] 0 st)).bind fun x=>z1n1 N x K
def t1_51 (N:Nat):Tab (Int×(DT4×Unit)):=[([0,0,1,1,1,1],z1ij N)]
theorem z1fy {N:Nat}{c:Ctx}(hb:Base Tryd.prog (z1qt N) c):zk Tryd.prog c (zh zpa [0,1,1,1,1]) (z1js N) :=
 zw (s:=SQ8) (m:=25) (g:=z1n1 N) [5,0,1] (zg hb N (t1_51 N) L_51 zpa (TabOk.cons (z1ep hb) TabOk.nil) [0,1,1,1,1] _ rfl) (fun x K=>by kernel_rfl)
def z3v (N:Nat)(p:DT4)(from_:Int):Option (Int×(DT4×Unit)) :=
 (z1g N p).bind fun y =>
 (z5w N y.1).bind fun y1 =>
 cond y1
 (some ((IntKind.wrap IntKind.u8 (y.1 - (48:Int))),((y.2.1.1,((IntKind.wrap IntKind.i64 (y.2.1.2.1+(1:Int))),y.2.1.2.2)),())))
 (zbt N (y.2.1.1,((IntKind.wrap IntKind.i64 (y.2.1.2.1+(1:Int))),y.2.1.2.2)) from_ y.1
 (some ((IntKind.wrap IntKind.u8 ((IntKind.wrap IntKind.u8 (y.1 - (97:Int)))+(10:Int))),((y.2.1.1,((IntKind.wrap IntKind.i64 (y.2.1.2.1+(1:Int))),y.2.1.2.2)),()))))
def t_51 (N:Nat):Tab (Int×(DT4×Unit)):=[([0,1,1,1,1],z1js N)]
theorem z196 (N:Nat)(x:z16 z1c3):z52 (z1qt N) N (t_51 N) L_51 Tryd.f75 (mkS z1c3 0 x) (z37 (.v (.int .u8)) SQ0 1)=z3v N x.1 x.2.1:=by kernel_rfl
def z6i (N:Nat):List A->Res:=z12 z1c3 (fun x=>z3v N x.1 x.2.1) (z3t (.v (.int .u8)) SQ0 1)
theorem zbu (N:Nat):Contract Tryd.prog glob 75 (z6i N) :=
 Contract.of (E:=z1qt N) (H:=t_51 N) (L:=L_51) (N:=N) (body:=zpa) (K:=(z37 (.v (.int .u8)) SQ0 1)) (z1ph N) Tryd.func75 (by kernel_rfl) (by decide) (fun _ hb=>(TabOk.cons (z1fy hb) TabOk.nil)) (fun x y h=>by rw[z196];exact h) (z2f (s:=(.v (.int .u8))) (os:=SQ0) (m:=1))
def z1ar:Code:=(Tryd.f66.body).getD .skip
def L_52:List (List Nat×List Nat):=[([0],[0,1]),([0,1],[4]),([1,1],[4])]
def E_52 (N:Nat):Env:=z1m tys glob [(76,z128)] [] [] [] false [] [(44,za N)]
theorem z1pg (N:Nat):EnvOk Tryd.prog (E_52 N):=zi mixed zr (FnsOk.cons (z1h9 glob) (FnsOk.nil)) (ItsOk.cons (zb N) (ItsOk.nil))
def zdh (N:Nat)(s:(List UInt8))(c:Int):Option Int :=
 some (Go.Lib.indexByte s (Nat.toUInt8 (Int.toNat c)))
def t_52 (N:Nat):Tab Int:=[]
theorem z195 (N:Nat)(x:z16 [(0,.v .str),(0,.v (.int .u8))]):z52 (E_52 N) N (t_52 N) L_52 Tryd.f66 (mkS [(0,.v .str),(0,.v (.int .u8))] 0 x) (z3j (.v (.int .i64)) 2)=zdh N x.1 x.2.1:=by kernel_rfl
def z2y (N:Nat):List A->Res:=z12 [(0,.v .str),(0,.v (.int .u8))] (fun x=>zdh N x.1 x.2.1) (z7r (.v (.int .i64)) 2)
theorem z4b (N:Nat):Contract Tryd.prog glob 66 (z2y N) :=
 Contract.of (E:=E_52 N) (H:=t_52 N) (L:=L_52) (N:=N) (body:=z1ar) (K:=(z3j (.v (.int .i64)) 2)) (z1pg N) Tryd.func66 (by kernel_rfl) (by decide) (fun _ hb=>TabOk.nil) (fun x y h=>by rw[z195];exact h) (z1a (s:=(.v (.int .i64))) (m:=2))
def zwc:Code:=(Tryd.f65.body).getD .skip
def L_53:List (List Nat×List Nat):=[([0],[0,2]),([0,1],[0,2,4]),([0,1,1],[0,2,4]),([0,1,1,1],[0,5,2,4]),([0,1,1,1,1],[5,2,0,4]),([0,0,0,1,1,1,1,1],[22,2,0,5,4]),([1,0,0,1,1,1,1,1],[5,2,0]),([0,1,1,0,0,1,1,1,1,1],[26,2,0,5,4]),([1,1,1,0,0,1,1,1,1,1],[5,2,0]),([0,1,1,1,1,0,0,1,1,1,1,1],[30,0,4,2,5]),([1,1,1,1,1,0,0,1,1,1,1,1],[5,2,0]),([0,1,1,1,1,1,1,0,0,1,1,1,1,1],[42,0,4,5,2]),([1,1,1,1,1,1,1,0,0,1,1,1,1,1],[5,2,0]),([0,1,1,1,1,1,1,1,0,0,1,1,1,1,1],[5,2,0]),([0,0,1,1,1,1,1,0,0,1,1,1,1,1],[6,0,4,2]),([1,0,1,1,1,1,1,0,0,1,1,1,1,1],[5,2,0]),([0,0,1,1,1,0,0,1,1,1,1,1],[2,3,0]),([1,0,1,1,1,0,0,1,1,1,1,1],[2,3,0]),([0,0,1,0,0,1,1,1,1,1],[2,3,0]),([1,0,1,0,0,1,1,1,1,1],[2,3,0]),([0,1,1,1,1,1],[5,2,0]),(z100,[2,3,0]),(zwy,[2,3,0])]
def E_53 (N:Nat):Env:=z1m tys glob [(66,z2y N),(75,z6i N),(74,z9b N),(11,z2w N),(68,z1k N),(73,z14 N)] [] [] [0] false [] [(44,za N)]
theorem z1pf (N:Nat):EnvOk Tryd.prog (E_53 N):=zi mixed zr (FnsOk.cons (z4b N) (FnsOk.cons (zbu N) (FnsOk.cons (zfs N) (FnsOk.cons (z3e N) (FnsOk.cons (z1w N) (FnsOk.cons (z1c N) (FnsOk.nil))))))) (ItsOk.cons (zb N) (ItsOk.nil))
def z8t (N:Nat)(p:DT4)(set_:(List Int))(from_:Int)(b:Int)(k0:(List Int)->Bool->Option znk)(k1:DT4->Int->Option znk):Option znk :=
 cond (b == (100:Int))
 ((z22 N (48:Int) (57:Int)).bind fun y =>
 k0 y true)
 (cond (b == (119:Int))
 ((zb8 N ((48:UInt8)::(49:UInt8)::(50:UInt8)::(51:UInt8)::(52:UInt8)::(53:UInt8)::(54:UInt8)::(55:UInt8)::(56:UInt8)::(57:UInt8)::(65:UInt8)::(66:UInt8)::(67:UInt8)::(68:UInt8)::(69:UInt8)::(70:UInt8)::(71:UInt8)::(72:UInt8)::(73:UInt8)::(74:UInt8)::(75:UInt8)::(76:UInt8)::(77:UInt8)::(78:UInt8)::(79:UInt8)::(80:UInt8)::(81:UInt8)::(82:UInt8)::(83:UInt8)::(84:UInt8)::(85:UInt8)::(86:UInt8)::(87:UInt8)::(88:UInt8)::(89:UInt8)::(90:UInt8)::(95:UInt8)::(97:UInt8)::(98:UInt8)::(99:UInt8)::(100:UInt8)::(101:UInt8)::(102:UInt8)::(103:UInt8)::(104:UInt8)::(105:UInt8)::(106:UInt8)::(107:UInt8)::(108:UInt8)::(109:UInt8)::(110:UInt8)::(111:UInt8)::(112:UInt8)::(113:UInt8)::(114:UInt8)::(115:UInt8)::(116:UInt8)::(117:UInt8)::(118:UInt8)::(119:UInt8)::(120:UInt8)::(121:UInt8)::(122:UInt8)::([]:List UInt8))).bind fun y1 =>
 k0 y1 true)
 (cond (b == (120:Int))
 ((z3v N p from_).bind fun y2 =>
 (z3v N y2.2.1 from_).bind fun y3 =>
 k1 y3.2.1 (zd Go.BinOp.or IntKind.u8 (zsh IntKind.u8 y2.1 (4:Int)) y3.1))
 (cond (decide ((Go.Lib.indexByte ([(92:UInt8),(46:UInt8),(91:UInt8),(93:UInt8),(40:UInt8),(41:UInt8),(123:UInt8),(125:UInt8),(124:UInt8),(42:UInt8),(43:UInt8),(63:UInt8),(45:UInt8),(94:UInt8)]:List UInt8) (Nat.toUInt8 (Int.toNat b)))<(0:Int)))
 (none)
 (k1 p b))))
def z1n0 (N:Nat)(x:z16 z1c9)(K:Ex->List A->Option znk):Option znk :=
 z8t N x.1 x.2.1 x.2.2.1 x.2.2.2.1 (fun a1 a2=>(K .ret (mkS SQ43 48 (x.1,a1,a2,())))) (fun a0 a2=>(K .normal (mkS [(0,.box (.pair .str TT1)),(1,.box (.arr 4 (.int .u64))),(2,.v (.int .u8))] 46 (a0,x.2.1,a2,()))))
def z1jr (N:Nat):Hd znk:=fun st K=>(unS z1c9 46 (restr [5,2,0,4] 0 st)).bind fun x=>z1n0 N x K
def t1_53 (N:Nat):Tab znk:=[]
theorem z1fx {N:Nat}{c:Ctx}(hb:Base Tryd.prog (E_53 N) c):zk Tryd.prog c (zh zwc [0,1,1,1,1,1]) (z1jr N) :=
 zw (s:=z1c9) (m:=46) (g:=z1n0 N) [5,2,0,4] (zg hb N (t1_53 N) L_53 zwc TabOk.nil [0,1,1,1,1,1] _ rfl) (fun x K=>by kernel_rfl)
def z2r (N:Nat)(p:DT4):Option znk :=
 (z1h N p (92:Int)).bind fun y =>
 (z1g N y.2.1).bind fun y1 =>
 z8t N (y1.2.1.1,((IntKind.wrap IntKind.i64 (y1.2.1.2.1+(1:Int))),y1.2.1.2.2)) ([(0:Int),(0:Int),(0:Int),(0:Int)]:List Int) p.2.1 y1.1
 (fun set_ class_=>some ((set_,(class_,())),((y1.2.1.1,((IntKind.wrap IntKind.i64 (y1.2.1.2.1+(1:Int))),y1.2.1.2.2)),())))
 (fun p1 b=>(z22 N b b).bind fun y2 =>
 some ((y2,(false,())),(p1,())))
def t_53 (N:Nat):Tab znk:=[([0,1,1,1,1,1],z1jr N)]
theorem z194 (N:Nat)(x:z16 SQ0):z52 (E_53 N) N (t_53 N) L_53 Tryd.f65 (mkS SQ0 0 x) (z37 (.tup [(.arr 4 (.int .u64)),.bool]) SQ0 0)=z2r N x.1:=by kernel_rfl
def z2k (N:Nat):List A->Res:=z12 SQ0 (fun x=>z2r N x.1) (z3t (.tup [(.arr 4 (.int .u64)),.bool]) SQ0 0)
theorem z3q (N:Nat):Contract Tryd.prog glob 65 (z2k N) :=
 Contract.of (E:=E_53 N) (H:=t_53 N) (L:=L_53) (N:=N) (body:=zwc) (K:=(z37 (.tup [(.arr 4 (.int .u64)),.bool]) SQ0 0)) (z1pf N) Tryd.func65 (by kernel_rfl) (by decide) (fun _ hb=>(TabOk.cons (z1fx hb) TabOk.nil)) (fun x y h=>by rw[z194];exact h) (z2f (s:=(.tup [(.arr 4 (.int .u64)),.bool])) (os:=SQ0) (m:=0))
def zp9:Code:=(Tryd.f78.body).getD .skip
def L_54:List (List Nat×List Nat):=[([0],[0,2]),([0,1],[4,0,2]),([0,0,1,1],[7,0,2,4]),([0,0,1,0,1,1],[8,0,2,7,4]),([1,0,1,0,1,1],[0,4,2]),([0,0,1,1,0,1,0,1,1],[14,0,4,2,7]),([1,0,1,1,0,1,0,1,1],[14,0,4,2]),([0,1,1,0,1,1,0,1,0,1,1],[14,0,4,2,7]),([1,1,1,0,1,1,0,1,0,1,1],[14,0,4,2]),([0,1,1,1,1,0,1,1,0,1,0,1,1],[14,0,4,2,7]),([1,1,1,1,1,0,1,1,0,1,0,1,1],[14,0,4,2]),([1,1,1,1,1,1,0,1,1,0,1,0,1,1],[14,0,4,2]),([1,1,1,0,1,0,1,1],[0,4,2]),([0,1,1,1,0,1,0,1,1],[0,4,2]),([0,0,1,0,1,0,1,1],[2,3,0]),([1,0,1,0,1,0,1,1],[2,3,0]),([1,0,1,1],[0,4,2]),([0,1,1,1],[4,2,0]),([0,1,1,1,1],[2,3,0]),([1,1,1,1,1],[2,3,0])]
def z1qs (N:Nat):Env:=z1m tys glob [(65,z2k N),(11,z2w N),(73,z14 N)] [] [] [0] false [] [(44,za N)]
theorem z1pe (N:Nat):EnvOk Tryd.prog (z1qs N):=zi mixed zr (FnsOk.cons (z3q N) (FnsOk.cons (z3e N) (FnsOk.cons (z1c N) (FnsOk.nil)))) (ItsOk.cons (zb N) (ItsOk.nil))
def zai (N:Nat)(p:DT4)(set_:(List Int))(b:Int)(x7:Int)(k0:Bool->Option znk):Option znk :=
 cond (x7 == (91:Int))
 (k0 (x7 == (91:Int)))
 (cond (x7 == (93:Int))
 (k0 (x7 == (93:Int)))
 (cond (x7 == (45:Int))
 (k0 (x7 == (45:Int)))
 (k0 (x7 == (94:Int)))))
def z1lr (N:Nat)(x:z16 z1c8)(K:Ex->List A->Option znk):Option znk :=
 zai N x.1 x.2.1 x.2.2.1 x.2.2.2.1 (fun a3=>(K .normal (mkS SQ89 20 (x.1,x.2.1,x.2.2.1,a3,()))))
def z1ii (N:Nat):Hd znk:=fun st K=>(unS z1c8 27 (restr [7,0,4,2] 0 st)).bind fun x=>z1lr N x K
def t2_54 (N:Nat):Tab znk:=[]
theorem z1eo {N:Nat}{c:Ctx}(hb:Base Tryd.prog (z1qs N) c):zk Tryd.prog c (zh zp9 zx2) (z1ii N) :=
 zw (s:=z1c8) (m:=27) (g:=z1lr N) [7,0,4,2] (zg hb N (t2_54 N) L_54 zp9 TabOk.nil zx2 _ rfl) (fun x K=>by kernel_rfl)
def zaj (N:Nat)(p:DT4)(set_:(List Int))(b:Int)(k0:DT4->(List Int)->Bool->Option znk)(k1:Option znk):Option znk :=
 cond (b == (92:Int))
 ((z2r N p).bind fun y =>
 k0 y.2.1 y.1.1 y.1.2.1)
 (zai N p set_ b b
 (fun x14=>cond x14
 (none)
 (k1)))
def z1mz (N:Nat)(x:z16 z16c)(K:Ex->List A->Option znk):Option znk :=
 zaj N x.1 x.2.1 x.2.2.1 (fun a0 a1 a2=>(K .ret (mkS SQ43 31 (a0,a1,a2,())))) (K .normal (mkS z16c 30 (x.1,x.2.1,x.2.2.1,())))
def z1jq (N:Nat):Hd znk:=fun st K=>(unS z16c 30 (restr [4,0,2] 0 st)).bind fun x=>z1mz N x K
def t1_54 (N:Nat):Tab znk:=[(zx2,z1ii N)]
theorem z1fw {N:Nat}{c:Ctx}(hb:Base Tryd.prog (z1qs N) c):zk Tryd.prog c (zh zp9 [0,1,1]) (z1jq N) :=
 zw (s:=z16c) (m:=30) (g:=z1mz N) [4,0,2] (zg hb N (t1_54 N) L_54 zp9 (TabOk.cons (z1eo hb) TabOk.nil) [0,1,1] _ rfl) (fun x K=>by kernel_rfl)
def z3g (N:Nat)(p:DT4):Option znk :=
 (z1g N p).bind fun y =>
 zaj N y.2.1 ([(0:Int),(0:Int),(0:Int),(0:Int)]:List Int) y.1
 (fun p1 set_ class_=>some ((set_,(class_,())),(p1,())))
 ((z22 N y.1 y.1).bind fun y1 =>
 some ((y1,(false,())),((y.2.1.1,((IntKind.wrap IntKind.i64 (y.2.1.2.1+(1:Int))),y.2.1.2.2)),())))
def t_54 (N:Nat):Tab znk:=[([0,1,1],z1jq N)]
theorem z193 (N:Nat)(x:z16 SQ0):z52 (z1qs N) N (t_54 N) L_54 Tryd.f78 (mkS SQ0 0 x) (z37 (.tup [(.arr 4 (.int .u64)),.bool]) SQ0 0)=z3g N x.1:=by kernel_rfl
def z5p (N:Nat):List A->Res:=z12 SQ0 (fun x=>z3g N x.1) (z3t (.tup [(.arr 4 (.int .u64)),.bool]) SQ0 0)
theorem zak (N:Nat):Contract Tryd.prog glob 78 (z5p N) :=
 Contract.of (E:=z1qs N) (H:=t_54 N) (L:=L_54) (N:=N) (body:=zp9) (K:=(z37 (.tup [(.arr 4 (.int .u64)),.bool]) SQ0 0)) (z1pe N) Tryd.func78 (by kernel_rfl) (by decide) (fun _ hb=>(TabOk.cons (z1fw hb) TabOk.nil)) (fun x y h=>by rw[z193];exact h) (z2f (s:=(.tup [(.arr 4 (.int .u64)),.bool])) (os:=SQ0) (m:=0))
def zwb:Code:=(Tryd.f79.body).getD .skip
def L_55:List (List Nat×List Nat):=[([0],[1]),([0,0,1],[6,1]),([1,0,1],[1]),([0,0,1,0,1],[2]),([1,0,1,0,1],[2]),([0,1,1],[3,1]),([0,0,1,1,1],[3,1]),([0,0,0,0,0,1,1,1],[10,3,1]),([1,0,0,0,0,1,1,1],[3,1]),([1,1,0,0,0,0,1,1,1],[3,1]),([0,1,0,0,0,1,1,1],[3,1]),([1,0,0,0,1,1,1],[3,1]),([0,1,1,1],[3,1]),([0,1,1,1,1],[2]),([1,1,1,1,1],[2])]
def E_55 (N:Nat):Env:=z1m tys glob [(56,z36 N)] [] [] [] false [] [(44,za N)]
theorem z1pd (N:Nat):EnvOk Tryd.prog (E_55 N):=zi mixed zr (FnsOk.cons (z5h N) (FnsOk.nil)) (ItsOk.cons (zb N) (ItsOk.nil))
def zfu (N:Nat)(s:(List Int))(i:Int)(rec:Int->Option Int)(k0:Int->Option Int):Option Int :=
 cond (inR i 4)
 (cond (decide ((Int.toNat i)<(List.length s)))
 (cond ((List.getD s (Int.toNat i) (0:Int)) == (0:Int))
 (rec (IntKind.wrap IntKind.i64 (i+(1:Int))))
 (k0 i))
 (none))
 (none)
def zn2 (N:Nat)(s:(List Int))(i:Int)(k0:Int->Option Int):Option Int :=
 iter (fun (v:Int) r=>zfu N s v (fun i=>(r i)) k0) N i
def z1my (N:Nat)(i:(List Int))(v:Int)(r:Int->Option Int)(K:Ex->List A->Option Int):Option Int :=
 zfu N i v (fun i=>(r i)) (fun a1=>(K (.exit 0) (mkS z1bc 16 (i,a1,()))))
def z1jp (N:Nat):Hd Int:=fun st K=>(unS z1bc 16 (restr [3,1] 0 st)).bind fun x=>iter (fun v r=>z1my N ((fun x=>x.1) x) v r K) N ((fun x=>x.2.1) x)
def t1_55 (N:Nat):Tab Int:=[]
theorem z1fv {N:Nat}{c:Ctx}(hb:Base Tryd.prog (E_55 N) c):zk Tryd.prog c (zh zwb [0,0,1,1,1]) (z1jp N) :=
 z1e (s:=z1bc) (m:=16) (z1my N) [3,1] N (fun x=>x.1) (fun x=>x.2.1) (fun i v=>(i,v,())) (fun _=>rfl) (zg hb N (t1_55 N) L_55 zwb TabOk.nil [0,0,0,1,1,1] _ rfl) (fun i v r K=>by kernel_rfl)
def z2x (N:Nat)(s:(List Int)):Option Int :=
 cond (eqD (T.arr 4 (T.int IntKind.u64)) s ([(0:Int),(0:Int),(0:Int),(0:Int)]:List Int))
 (some (-(1:Int)))
 (zn2 N s (0:Int)
 (fun i=>cond (inR i 4)
 (cond (decide ((Int.toNat i)<(List.length s)))
 ((z2v N (List.getD s (Int.toNat i) (0:Int))).bind fun y =>
 some (IntKind.wrap IntKind.i64 ((IntKind.wrap IntKind.i64 (i*(64:Int)))+y)))
 (none))
 (none)))
def t_55 (N:Nat):Tab Int:=[([0,0,1,1,1],z1jp N)]
theorem z192 (N:Nat)(x:z16 zwu):z52 (E_55 N) N (t_55 N) L_55 Tryd.f79 (mkS zwu 0 x) (z3j (.v (.int .i64)) 1)=z2x N x.1:=by kernel_rfl
def z9d (N:Nat):List A->Res:=z12 zwu (fun x=>z2x N x.1) (z7r (.v (.int .i64)) 1)
theorem zfv (N:Nat):Contract Tryd.prog glob 79 (z9d N) :=
 Contract.of (E:=E_55 N) (H:=t_55 N) (L:=L_55) (N:=N) (body:=zwb) (K:=(z3j (.v (.int .i64)) 1)) (z1pd N) Tryd.func79 (by kernel_rfl) (by decide) (fun _ hb=>(TabOk.cons (z1fv hb) TabOk.nil)) (fun x y h=>by rw[z192];exact h) (z1a (s:=(.v (.int .i64))) (m:=1))
def zfb:Code:=(Tryd.f70.body).getD .skip
def z1ci:List (List Nat×List Nat):=[([0],[0,2]),([0,1],[4,0,3,2]),([0,0,1,1],[17,3,2,0]),([1,0,1,1],[0,3,2]),([0,0,1,0,1,1],[2,0]),([1,0,1,0,1,1],[2,0]),([0,1,1,1],[0,3,5,2]),([0,1,1,1,1],[4,6,3,0,5,2]),(zq4,[35,0,5,3,6,2]),(z159,[3,6,2,0]),(z105,[3,6,2,0]),(z100,[2,0]),(zwy,[2,0])]
def z1bs (N:Nat):Env:=z1m tys glob [(79,z9d N),(78,z5p N),(30,z1j N),(11,z2w N)] [] [] [0] false [] [(44,za N)]
theorem z1pc (N:Nat):EnvOk Tryd.prog (z1bs N):=zi mixed zr (FnsOk.cons (zfv N) (FnsOk.cons (zak N) (FnsOk.cons (z1v N) (FnsOk.cons (z3e N) (FnsOk.nil))))) (ItsOk.cons (zb N) (ItsOk.nil))
def zap (N:Nat)(p:DT4)(x2:(List Int))(first:(List Int))(class_:Bool)(k0:DT4->Bool->Option zfe):Option zfe :=
 cond class_
 (k0 p true)
 ((z15 N p (45:Int)).bind fun y =>
 k0 y.2.1 (!y.1))
def z1lq (N:Nat)(x:z16 SQ4)(K:Ex->List A->Option zfe):Option zfe :=
 zap N x.1 x.2.1 x.2.2.1 x.2.2.2.1 (fun a0 a3=>(K .normal (mkS SQ74 28 (a0,x.2.1,x.2.2.1,a3,()))))
def z1ih (N:Nat):Hd zfe:=fun st K=>(unS SQ4 41 (restr [4,0,3,2] 0 st)).bind fun x=>z1lq N x K
def t2_56 (N:Nat):Tab zfe:=[]
theorem z1en {N:Nat}{c:Ctx}(hb:Base Tryd.prog (z1bs N) c):zk Tryd.prog c (zh zfb [0,0,1,1]) (z1ih N) :=
 zw (s:=SQ4) (m:=41) (g:=z1lq N) [4,0,3,2] (zg hb N (t2_56 N) z1ci zfb TabOk.nil [0,0,1,1] _ rfl) (fun x K=>by kernel_rfl)
def zaq (N:Nat)(p:DT4)(x2:(List Int))(first:(List Int))(class_:Bool)(k0:DT4->Option zfe)(k1:DT4->Option zfe):Option zfe :=
 zap N p x2 first class_
 (fun p1 x17=>cond x17
 (k0 p1)
 (k1 p1))
def z1mx (N:Nat)(x:z16 SQ4)(K:Ex->List A->Option zfe):Option zfe :=
 zaq N x.1 x.2.1 x.2.2.1 x.2.2.2.1 (fun a0=>(K .ret (mkS [(0,.box (.pair .str TT1)),(1,.box (.arr 4 (.int .u64)))] 43 (a0,x.2.2.1,())))) (fun a0=>(K .normal (mkS SQ95 42 (a0,x.2.1,x.2.2.1,()))))
def z1jo (N:Nat):Hd zfe:=fun st K=>(unS SQ4 41 (restr [4,0,3,2] 0 st)).bind fun x=>z1mx N x K
def t1_56 (N:Nat):Tab zfe:=[([0,0,1,1],z1ih N)]
theorem z1fu {N:Nat}{c:Ctx}(hb:Base Tryd.prog (z1bs N) c):zk Tryd.prog c (zh zfb [0,1,1]) (z1jo N) :=
 zw (s:=SQ4) (m:=41) (g:=z1mx N) [4,0,3,2] (zg hb N (t1_56 N) z1ci zfb (TabOk.cons (z1en hb) TabOk.nil) [0,1,1] _ rfl) (fun x K=>by kernel_rfl)
def zan (N:Nat)(p:DT4)(x2:(List Int))(first:(List Int))(class_:Bool)(from_:Int)(last:(List Int))(k0:Bool->Option zfe):Option zfe :=
 cond class_
 (k0 true)
 ((z2x N last).bind fun y =>
 (z2x N first).bind fun y1 =>
 k0 (decide (y<y1)))
def z1ku (N:Nat)(x:z16 SQ2)(K:Ex->List A->Option zfe):Option zfe :=
 zan N x.1 x.2.1 x.2.2.1 x.2.2.2.1 x.2.2.2.2.1 x.2.2.2.2.2.1 (fun a5=>(K .normal (mkS SQ39 10 (x.1,x.2.1,x.2.2.1,x.2.2.2.2.1,x.2.2.2.2.2.1,a5,()))))
def z1hl (N:Nat):Hd zfe:=fun st K=>(unS SQ2 39 (restr [4,6,3,0,5,2] 0 st)).bind fun x=>z1ku N x K
def t4_56 (N:Nat):Tab zfe:=[]
theorem z1dr {N:Nat}{c:Ctx}(hb:Base Tryd.prog (z1bs N) c):zk Tryd.prog c (zh zfb zq4) (z1hl N) :=
 zw (s:=SQ2) (m:=39) (g:=z1ku N) [4,6,3,0,5,2] (zg hb N (t4_56 N) z1ci zfb TabOk.nil zq4 _ rfl) (fun x K=>by kernel_rfl)
def zao (N:Nat)(p:DT4)(x2:(List Int))(first:(List Int))(class_:Bool)(from_:Int)(last:(List Int))(k0:Option zfe):Option zfe :=
 zan N p x2 first class_ from_ last
 (fun x35=>cond x35
 (none)
 (k0))
def z1l6 (N:Nat)(x:z16 SQ2)(K:Ex->List A->Option zfe):Option zfe :=
 zao N x.1 x.2.1 x.2.2.1 x.2.2.2.1 x.2.2.2.2.1 x.2.2.2.2.2.1 (K .normal (mkS SQ62 39 (x.1,x.2.1,x.2.2.1,x.2.2.2.2.2.1,())))
def z1hx (N:Nat):Hd zfe:=fun st K=>(unS SQ2 39 (restr [4,6,3,0,5,2] 0 st)).bind fun x=>z1l6 N x K
def t3_56 (N:Nat):Tab zfe:=[(zq4,z1hl N)]
theorem z1e3 {N:Nat}{c:Ctx}(hb:Base Tryd.prog (z1bs N) c):zk Tryd.prog c (zh zfb [0,1,1,1,1,1]) (z1hx N) :=
 zw (s:=SQ2) (m:=39) (g:=z1l6 N) [4,6,3,0,5,2] (zg hb N (t3_56 N) z1ci zfb (TabOk.cons (z1dr hb) TabOk.nil) [0,1,1,1,1,1] _ rfl) (fun x K=>by kernel_rfl)
def z3h (N:Nat)(p:DT4):Option zfe :=
 (z3g N p).bind fun y =>
 zaq N y.2.1 ([(0:Int),(0:Int),(0:Int),(0:Int)]:List Int) y.1.1 y.1.2.1
 (fun p1=>some (y.1.1,(p1,())))
 (fun p2=>(z3g N p2).bind fun y1 =>
 zao N y1.2.1 ([(0:Int),(0:Int),(0:Int),(0:Int)]:List Int) y.1.1 y1.1.2.1 p2.2.1 y1.1.1
 ((z2x N y.1.1).bind fun y2 =>
 (z2x N y1.1.1).bind fun y3 =>
 (z22 N (IntKind.wrap IntKind.u8 y2) (IntKind.wrap IntKind.u8 y3)).bind fun y4 =>
 some (y4,(y1.2.1,()))))
def t_56 (N:Nat):Tab zfe:=[([0,1,1],z1jo N),([0,1,1,1,1,1],z1hx N)]
theorem z191 (N:Nat)(x:z16 SQ0):z52 (z1bs N) N (t_56 N) z1ci Tryd.f70 (mkS SQ0 0 x) (z37 (.v (.arr 4 (.int .u64))) SQ0 0)=z3h N x.1:=by kernel_rfl
def z5q (N:Nat):List A->Res:=z12 SQ0 (fun x=>z3h N x.1) (z3t (.v (.arr 4 (.int .u64))) SQ0 0)
theorem zar (N:Nat):Contract Tryd.prog glob 70 (z5q N) :=
 Contract.of (E:=z1bs N) (H:=t_56 N) (L:=z1ci) (N:=N) (body:=zfb) (K:=(z37 (.v (.arr 4 (.int .u64))) SQ0 0)) (z1pc N) Tryd.func70 (by kernel_rfl) (by decide) (fun _ hb=>(TabOk.cons (z1fu hb) (TabOk.cons (z1e3 hb) TabOk.nil))) (fun x y h=>by rw[z191];exact h) (z2f (s:=(.v (.arr 4 (.int .u64)))) (os:=SQ0) (m:=0))
def zwa:Code:=(Tryd.f71.body).getD .skip
def L_57:List (List Nat×List Nat):=[([0],[2,3,4]),([0,0,1],[6,2,3,4]),([0,1,0,1],[6,2,3,4]),([0,0,0,1,0,1],[7,6,2,3,4]),(z103,[6,2,3,4]),(z10a,[2,4]),(z10d,[5,2,3,6,4]),(z15a,[6,2,3,4]),(z109,[6,2,3,4]),(z108,[6,2,3,4]),([1,0,1],[2,4]),([0,1,1],[4]),([1,1,1],[4])]
def E_57 (N:Nat):Env:=z1m tys glob [] [] [] [] false [] [(44,za N)]
theorem z1pb (N:Nat):EnvOk Tryd.prog (E_57 N):=zi mixed zr (FnsOk.nil) (ItsOk.cons (zb N) (ItsOk.nil))
def zkp (N:Nat)(t:(List Int))(x4:(List Int))(s:(List Int))(x6:Int)(rec:(List Int)->Int->Option (List Int))(k0:(List Int)->Option (List Int)):Option (List Int) :=
 cond (decide (x6<(4:Int)))
 (cond (inR x6 4)
 (cond (decide ((Int.toNat x6)<(List.length s)))
 (cond (inR x6 4)
 (cond (decide ((Int.toNat x6)<(List.length t)))
 (cond (inR x6 4)
 (cond (decide ((Int.toNat x6)<(List.length s)))
 (rec (List.set s (Int.toNat x6) (zd Go.BinOp.or IntKind.u64 (List.getD s (Int.toNat x6) (0:Int)) (List.getD t (Int.toNat x6) (0:Int)))) (IntKind.wrap IntKind.i64 (x6+(1:Int))))
 (none))
 (none))
 (none))
 (none))
 (none))
 (none))
 (k0 s)
def zsa (N:Nat)(s:(List Int))(t:(List Int))(x4:(List Int))(x6:Int)(k0:(List Int)->Option (List Int)):Option (List Int) :=
 iter (fun (v:((List Int)×Int)) r=>zkp N t x4 v.1 v.2 (fun s x6=>(r (s,x6))) k0) N (s,x6)
def z1mw (N:Nat)(i:((List Int)×(List Int)))(v:((List Int)×Int))(r:((List Int)×Int)->Option (List Int))(K:Ex->List A->Option (List Int)):Option (List Int) :=
 zkp N i.1 i.2 v.1 v.2 (fun s x6=>(r (s,x6))) (fun a0=>(K (.exit 0) (mkS [(2,.box (.arr 4 (.int .u64))),(1,.box (.arr 4 (.int .u64)))] 14 (a0,i.2,()))))
def z1jn (N:Nat):Hd (List Int):=fun st K=>(unS SQ65 12 (restr [6,2,3,4] 0 st)).bind fun x=>iter (fun v r=>z1mw N ((fun x=>(x.2.1,x.2.2.1)) x) v r K) N ((fun x=>(x.1,x.2.2.2.1)) x)
def t1_57 (N:Nat):Tab (List Int):=[]
theorem z1ft {N:Nat}{c:Ctx}(hb:Base Tryd.prog (E_57 N) c):zk Tryd.prog c (zh zwa [0,1,0,1]) (z1jn N) :=
 z1e (s:=SQ65) (m:=12) (z1mw N) [6,2,3,4] N (fun x=>(x.2.1,x.2.2.1)) (fun x=>(x.1,x.2.2.2.1)) (fun i v=>(v.1,i.1,i.2,v.2,())) (fun _=>rfl) (zg hb N (t1_57 N) L_57 zwa TabOk.nil [0,0,1,0,1] _ rfl) (fun i v r K=>by kernel_rfl)
def zi0 (N:Nat)(s:(List Int))(t:(List Int)):Option (List Int) :=
 zsa N s t ([(0:Int),(0:Int),(0:Int),(0:Int)]:List Int) (0:Int)
 (fun s1=>some s1)
def t_57 (N:Nat):Tab (List Int):=[([0,1,0,1],z1jn N)]
theorem z190 (N:Nat)(x:z16 z1bf):z52 (E_57 N) N (t_57 N) L_57 Tryd.f71 (mkS z1bf 0 x) (z3j (.v (.arr 4 (.int .u64))) 2)=zi0 N x.1 x.2.1:=by kernel_rfl
def zde (N:Nat):List A->Res:=z12 z1bf (fun x=>zi0 N x.1 x.2.1) (z7r (.v (.arr 4 (.int .u64))) 2)
theorem zkq (N:Nat):Contract Tryd.prog glob 71 (zde N) :=
 Contract.of (E:=E_57 N) (H:=t_57 N) (L:=L_57) (N:=N) (body:=zwa) (K:=(z3j (.v (.arr 4 (.int .u64))) 2)) (z1pb N) Tryd.func71 (by kernel_rfl) (by decide) (fun _ hb=>(TabOk.cons (z1ft hb) TabOk.nil)) (fun x y h=>by rw[z190];exact h) (z1a (s:=(.v (.arr 4 (.int .u64)))) (m:=2))
def zw9:Code:=(Tryd.f72.body).getD .skip
def L_58:List (List Nat×List Nat):=[([0],[1,2]),([0,0,1],[4,1,2]),([0,1,0,1],[4,1,2]),([0,0,0,1,0,1],[5,4,1,2]),(z103,[4,1,2]),(z10a,[1,2]),(z10d,[3,1,4,2]),(z15a,[4,1,2]),(z109,[4,1,2]),(z108,[4,1,2]),([1,0,1],[1,2]),([0,1,1],[2]),([1,1,1],[2])]
def E_58 (N:Nat):Env:=z1m tys glob [] [] [] [] false [] [(44,za N)]
theorem z1pa (N:Nat):EnvOk Tryd.prog (E_58 N):=zi mixed zr (FnsOk.nil) (ItsOk.cons (zb N) (ItsOk.nil))
def ziv (N:Nat)(x2:(List Int))(s:(List Int))(x4:Int)(rec:(List Int)->Int->Option (List Int))(k0:(List Int)->Option (List Int)):Option (List Int) :=
 cond (decide (x4<(4:Int)))
 (cond (inR x4 4)
 (cond (decide ((Int.toNat x4)<(List.length s)))
 (cond (inR x4 4)
 (cond (decide ((Int.toNat x4)<(List.length s)))
 (rec (List.set s (Int.toNat x4) (zd Go.BinOp.xor IntKind.u64 (if ((IntKind.signed IntKind.u64)=true) then (-(1:Int)) else (IntKind.max IntKind.u64)) (List.getD s (Int.toNat x4) (0:Int)))) (IntKind.wrap IntKind.i64 (x4+(1:Int))))
 (none))
 (none))
 (none))
 (none))
 (k0 s)
def zq3 (N:Nat)(s:(List Int))(x2:(List Int))(x4:Int)(k0:(List Int)->Option (List Int)):Option (List Int) :=
 iter (fun (v:((List Int)×Int)) r=>ziv N x2 v.1 v.2 (fun s x4=>(r (s,x4))) k0) N (s,x4)
def z1mv (N:Nat)(i:(List Int))(v:((List Int)×Int))(r:((List Int)×Int)->Option (List Int))(K:Ex->List A->Option (List Int)):Option (List Int) :=
 ziv N i v.1 v.2 (fun s x4=>(r (s,x4))) (fun a0=>(K (.exit 0) (mkS [(1,.box (.arr 4 (.int .u64))),(0,.box (.arr 4 (.int .u64)))] 12 (a0,i,()))))
def z1jm (N:Nat):Hd (List Int):=fun st K=>(unS [(1,.box (.arr 4 (.int .u64))),(0,.box (.arr 4 (.int .u64))),(1,.v (.int .i64))] 10 (restr [4,1,2] 0 st)).bind fun x=>iter (fun v r=>z1mv N ((fun x=>x.2.1) x) v r K) N ((fun x=>(x.1,x.2.2.1)) x)
def t1_58 (N:Nat):Tab (List Int):=[]
theorem z1fs {N:Nat}{c:Ctx}(hb:Base Tryd.prog (E_58 N) c):zk Tryd.prog c (zh zw9 [0,1,0,1]) (z1jm N) :=
 z1e (s:=[(1,.box (.arr 4 (.int .u64))),(0,.box (.arr 4 (.int .u64))),(1,.v (.int .i64))]) (m:=10) (z1mv N) [4,1,2] N (fun x=>x.2.1) (fun x=>(x.1,x.2.2.1)) (fun i v=>(v.1,i,v.2,())) (fun _=>rfl) (zg hb N (t1_58 N) L_58 zw9 TabOk.nil [0,0,1,0,1] _ rfl) (fun i v r K=>by kernel_rfl)
def zf8 (N:Nat)(s:(List Int)):Option (List Int) :=
 zq3 N s ([(0:Int),(0:Int),(0:Int),(0:Int)]:List Int) (0:Int)
 (fun s1=>some s1)
def t_58 (N:Nat):Tab (List Int):=[([0,1,0,1],z1jm N)]
theorem z18z (N:Nat)(x:z16 zwu):z52 (E_58 N) N (t_58 N) L_58 Tryd.f72 (mkS zwu 0 x) (z3j (.v (.arr 4 (.int .u64))) 1)=zf8 N x.1:=by kernel_rfl
def zc9 (N:Nat):List A->Res:=z12 zwu (fun x=>zf8 N x.1) (z7r (.v (.arr 4 (.int .u64))) 1)
theorem ziw (N:Nat):Contract Tryd.prog glob 72 (zc9 N) :=
 Contract.of (E:=E_58 N) (H:=t_58 N) (L:=L_58) (N:=N) (body:=zw9) (K:=(z3j (.v (.arr 4 (.int .u64))) 1)) (z1pa N) Tryd.func72 (by kernel_rfl) (by decide) (fun _ hb=>(TabOk.cons (z1fs hb) TabOk.nil)) (fun x y h=>by rw[z18z];exact h) (z1a (s:=(.v (.arr 4 (.int .u64)))) (m:=1))
def zw8:Code:=(Tryd.f64.body).getD .skip
def L_59:List (List Nat×List Nat):=[([0],[0,2]),([0,1],[0,2]),([0,1,1],[0,3,2]),([0,1,1,1],[0,4,3,2]),([0,0,1,1,1,1],[0,4,3,2]),(z13l,[13,4,0,3,2]),(z13k,[4,0,3,2]),(z13m,[3,4,2,0]),([0,1,0,0,0,1,1,1,1],[0,4,3,2]),(z13i,[0,4,3,2]),([0,1,1,1,1],[3,4,2,0]),(zq4,[18,4,2,0]),(z159,[4,2,0]),([0,0,1,0,1,1,1,1,1],[2,0]),([1,0,1,0,1,1,1,1,1],[2,0]),(z100,[2,0]),(zwy,[2,0])]
def E_59 (N:Nat):Env:=z1m tys glob [(72,zc9 N),(71,zde N),(70,z5q N),(30,z1j N),(68,z1k N)] [] [] [0] false [] [(44,za N)]
theorem z1p9 (N:Nat):EnvOk Tryd.prog (E_59 N):=zi mixed zr (FnsOk.cons (ziw N) (FnsOk.cons (zkq N) (FnsOk.cons (zar N) (FnsOk.cons (z1v N) (FnsOk.cons (z1w N) (FnsOk.nil)))))) (ItsOk.cons (zb N) (ItsOk.nil))
def z7l (N:Nat)(x2:(List Int))(not_:Bool)(p:DT4)(set_:(List Int))(rec:DT4->(List Int)->Option zfe)(k0:DT4->(List Int)->Option zfe):Option zfe :=
 (z15 N p (93:Int)).bind fun y =>
 cond (!y.1)
 ((z3h N y.2.1).bind fun y1 =>
 (zi0 N set_ y1.1).bind fun y2 =>
 rec y1.2.1 y2)
 (k0 y.2.1 set_)
def zdo (N:Nat)(p:DT4)(x2:(List Int))(not_:Bool)(set_:(List Int))(k0:DT4->(List Int)->Option zfe):Option zfe :=
 iter (fun (v:(DT4×(List Int))) r=>z7l N x2 not_ v.1 v.2 (fun p set_=>(r (p,set_))) k0) N (p,set_)
def z1mu (N:Nat)(i:((List Int)×Bool))(v:(DT4×(List Int)))(r:(DT4×(List Int))->Option zfe)(K:Ex->List A->Option zfe):Option zfe :=
 z7l N i.1 i.2 v.1 v.2 (fun p set_=>(r (p,set_))) (fun a0 a3=>(K (.exit 0) (mkS z1ca 17 (a0,i.1,i.2,a3,()))))
def z1jl (N:Nat):Hd zfe:=fun st K=>(unS z1ca 17 (restr [0,4,3,2] 0 st)).bind fun x=>iter (fun v r=>z1mu N ((fun x=>(x.2.1,x.2.2.1)) x) v r K) N ((fun x=>(x.1,x.2.2.2.1)) x)
def t1_59 (N:Nat):Tab zfe:=[]
theorem z1fr {N:Nat}{c:Ctx}(hb:Base Tryd.prog (E_59 N) c):zk Tryd.prog c (zh zw8 [0,0,1,1,1,1]) (z1jl N) :=
 z1e (s:=z1ca) (m:=17) (z1mu N) [0,4,3,2] N (fun x=>(x.2.1,x.2.2.1)) (fun x=>(x.1,x.2.2.2.1)) (fun i v=>(v.1,i.1,i.2,v.2,())) (fun _=>rfl) (zg hb N (t1_59 N) L_59 zw8 TabOk.nil [0,0,0,1,1,1,1] _ rfl) (fun i v r K=>by kernel_rfl)
def z41 (N:Nat)(p:DT4):Option zfe :=
 (z1h N p (91:Int)).bind fun y =>
 (z15 N y.2.1 (94:Int)).bind fun y1 =>
 (z3h N y1.2.1).bind fun y2 =>
 zdo N y2.2.1 ([(0:Int),(0:Int),(0:Int),(0:Int)]:List Int) y1.1 y2.1
 (fun p1 set_=>cond y1.1
 ((zf8 N set_).bind fun y3 =>
 some (y3,(p1,())))
 (some (set_,(p1,()))))
def t_59 (N:Nat):Tab zfe:=[([0,0,1,1,1,1],z1jl N)]
theorem z18y (N:Nat)(x:z16 SQ0):z52 (E_59 N) N (t_59 N) L_59 Tryd.f64 (mkS SQ0 0 x) (z37 (.v (.arr 4 (.int .u64))) SQ0 0)=z41 N x.1:=by kernel_rfl
def z45 (N:Nat):List A->Res:=z12 SQ0 (fun x=>z41 N x.1) (z3t (.v (.arr 4 (.int .u64))) SQ0 0)
theorem z7m (N:Nat):Contract Tryd.prog glob 64 (z45 N) :=
 Contract.of (E:=E_59 N) (H:=t_59 N) (L:=L_59) (N:=N) (body:=zw8) (K:=(z37 (.v (.arr 4 (.int .u64))) SQ0 0)) (z1p9 N) Tryd.func64 (by kernel_rfl) (by decide) (fun _ hb=>(TabOk.cons (z1fr hb) TabOk.nil)) (fun x y h=>by rw[z18y];exact h) (z2f (s:=(.v (.arr 4 (.int .u64)))) (os:=SQ0) (m:=0))
def zw7:Code:=(Tryd.f58.body).getD .skip
def L_60:List (List Nat×List Nat):=[([0],[0,2]),([0,1],[3,0,2]),([0,1,1],[15,0,2,3]),([0,0,1,1,1],[36,0,2,15,3]),([1,0,1,1,1],[2,0]),([0,1,1,0,1,1,1],[40,0,2,15,3]),([1,1,1,0,1,1,1],[2,0]),([0,1,1,1,1,0,1,1,1],[51,0,2,15,3]),([1,1,1,1,1,0,1,1,1],[2,0]),([0,1,1,1,1,1,1,0,1,1,1],[56,0,2,3]),([1,1,1,1,1,1,1,0,1,1,1],[2,0]),([0,0,1,1,1,1,1,1,1,1,0,1,1,1],[18,0,3,2]),([1,0,1,1,1,1,1,1,1,1,0,1,1,1],[0,3,2]),([0,1,0,1,1,1,1,1,1,1,1,0,1,1,1],[0,3,2]),([0,1,1,1,1,1,1,1,1,1,0,1,1,1],[3,2,0]),([0,1,1,1,1,1,1,1,1,1,1,0,1,1,1],[2,0]),([1,1,1,1,1,1,1,1,1,1,1,0,1,1,1],[2,0]),([0,0,1,1,1,1,1,1,1,0,1,1,1],[4,2,0]),([0,1,0,1,1,1,1,1,1,1,0,1,1,1],[2,0]),([1,1,0,1,1,1,1,1,1,1,0,1,1,1],[2,0]),([0,0,1,1,1,1,1,0,1,1,1],[2,0]),([1,0,1,1,1,1,1,0,1,1,1],[2,0]),([0,0,1,1,1,0,1,1,1],[2,0]),([0,1,0,1,1,1,0,1,1,1],[2,0]),([1,1,0,1,1,1,0,1,1,1],[2,0]),(zwv,[2,0]),(zue,[2,0]),([1,1,1],[2,0])]
def E_60 (N:Nat)(self:z7):Env:=z1m tys glob [(64,z45 N),(65,z2k N),(66,z2y N),(63,zes N),(11,z2w N),(62,z59 N self),(17,z12 SQ0 (fun x=>self x.1) (z3t (.v TT3) SQ0 0))] [] [] [0] false [] [(44,za N)]
theorem z1p8 (N:Nat)(self:z7)(hself:Contract Tryd.prog glob 17 (z12 SQ0 (fun x=>self x.1) (z3t (.v TT3) SQ0 0))):EnvOk Tryd.prog (E_60 N self):=zi mixed zr (FnsOk.cons (z7m N) (FnsOk.cons (z3q N) (FnsOk.cons (z4b N) (FnsOk.cons (zm8 N) (FnsOk.cons (z3e N) (FnsOk.cons (z9w N self hself) (FnsOk.cons (hself) (FnsOk.nil)))))))) (ItsOk.cons (zb N) (ItsOk.nil))
def zas (N:Nat)(self:z7)(p:DT4)(x2:DT5)(b:Int)(k0:Option (DT5×(DT4×Unit))):Option (DT5×(DT4×Unit)) :=
 cond (decide ((0:Int)<=(Go.Lib.indexByte ([(92:UInt8),(46:UInt8),(91:UInt8),(93:UInt8),(40:UInt8),(41:UInt8),(123:UInt8),(125:UInt8),(124:UInt8),(42:UInt8),(43:UInt8),(63:UInt8)]:List UInt8) (Nat.toUInt8 (Int.toNat b)))))
 (none)
 (k0)
def z1mt (N:Nat)(self:z7)(x:z16 z16b)(K:Ex->List A->Option (DT5×(DT4×Unit))):Option (DT5×(DT4×Unit)) :=
 zas N self x.1 x.2.1 x.2.2.1 (K .normal (mkS z16b 61 (x.1,x.2.1,x.2.2.1,())))
def z1jk (N:Nat)(self:z7):Hd (DT5×(DT4×Unit)):=fun st K=>(unS z16b 61 (restr [3,0,2] 0 st)).bind fun x=>z1mt N self x K
def t1_60 (N:Nat)(self:z7):Tab (DT5×(DT4×Unit)):=[]
theorem z1fq {N:Nat}{self:z7}{c:Ctx}(hb:Base Tryd.prog (E_60 N self) c):zk Tryd.prog c (zh zw7 z1ce) (z1jk N self) :=
 zw (s:=z16b) (m:=61) (g:=z1mt N self) [3,0,2] (zg hb N (t1_60 N self) L_60 zw7 TabOk.nil z1ce _ rfl) (fun x K=>by kernel_rfl)
def z62 (N:Nat)(self:z7)(p:DT4):Option (DT5×(DT4×Unit)) :=
 cond (inR p.2.1 (List.length p.1))
 (cond ((((UInt8.toNat (List.getD p.1 (Int.toNat p.2.1) (0:UInt8))):Nat):Int) == (40:Int))
 ((z5f N self p).bind fun y =>
 some (y.1,(y.2.1,())))
 (cond ((((UInt8.toNat (List.getD p.1 (Int.toNat p.2.1) (0:UInt8))):Nat):Int) == (46:Int))
 ((z22 N (0:Int) (255:Int)).bind fun y1 =>
 some (((1:Int),(y1,(([]:List Tree),((0:Int),((0:Int),()))))),((p.1,((IntKind.wrap IntKind.i64 (p.2.1+(1:Int))),p.2.2)),())))
 (cond ((((UInt8.toNat (List.getD p.1 (Int.toNat p.2.1) (0:UInt8))):Nat):Int) == (91:Int))
 ((z41 N p).bind fun y2 =>
 some (((1:Int),(y2.1,(([]:List Tree),((0:Int),((0:Int),()))))),(y2.2.1,())))
 (cond ((((UInt8.toNat (List.getD p.1 (Int.toNat p.2.1) (0:UInt8))):Nat):Int) == (92:Int))
 ((z2r N p).bind fun y3 =>
 some (((1:Int),(y3.1.1,(([]:List Tree),((0:Int),((0:Int),()))))),(y3.2.1,())))
 (zas N self p ((0:Int),(([(0:Int),(0:Int),(0:Int),(0:Int)]:List Int),(([]:List Tree),((0:Int),((0:Int),()))))) (((UInt8.toNat (List.getD p.1 (Int.toNat p.2.1) (0:UInt8))):Nat):Int)
 ((z22 N (((UInt8.toNat (List.getD p.1 (Int.toNat p.2.1) (0:UInt8))):Nat):Int) (((UInt8.toNat (List.getD p.1 (Int.toNat p.2.1) (0:UInt8))):Nat):Int)).bind fun y4 =>
 some (((1:Int),(y4,(([]:List Tree),((0:Int),((0:Int),()))))),((p.1,((IntKind.wrap IntKind.i64 (p.2.1+(1:Int))),p.2.2)),()))))))))
 (none)
def t_60 (N:Nat)(self:z7):Tab (DT5×(DT4×Unit)):=[(z1ce,z1jk N self)]
theorem z18x (N:Nat)(self:z7)(x:z16 SQ0):z52 (E_60 N self) N (t_60 N self) L_60 Tryd.f58 (mkS SQ0 0 x) (z37 (.v TT3) SQ0 0)=z62 N self x.1:=by kernel_rfl
def z5t (N:Nat)(self:z7):List A->Res:=z12 SQ0 (fun x=>z62 N self x.1) (z3t (.v TT3) SQ0 0)
theorem zat (N:Nat)(self:z7)(hself:Contract Tryd.prog glob 17 (z12 SQ0 (fun x=>self x.1) (z3t (.v TT3) SQ0 0))):Contract Tryd.prog glob 58 (z5t N self) :=
 Contract.of (E:=E_60 N self) (H:=t_60 N self) (L:=L_60) (N:=N) (body:=zw7) (K:=(z37 (.v TT3) SQ0 0)) (z1p8 N self hself) Tryd.func58 (by kernel_rfl) (by decide) (fun _ hb=>(TabOk.cons (z1fq hb) TabOk.nil)) (fun x y h=>by rw[z18x];exact h) (z2f (s:=(.v TT3)) (os:=SQ0) (m:=0))
def z9f:Code:=(Tryd.f67.body).getD .skip
def z16h:List (List Nat×List Nat):=[([0],[0]),([0,1],[0,3]),([0,0,1,1],[12,0,3]),([1,0,1,1],[0,3]),([0,1,0,1,1],[0,3]),([0,1,1,1],[0,4,3]),([0,0,1,1,1,1],[0,4,3]),(z13l,[37,4,0,3]),(z13k,[4,0,3]),(z13m,[0,3,4]),([0,0,1,0,0,0,1,1,1,1],[0,4,3]),([1,0,1,0,0,0,1,1,1,1],[0,4,3]),(z13i,[0,4,3]),([0,1,1,1,1],[0,3,4]),(zq4,[75,0,3,4]),(z159,[4,0,3]),(z105,[4,0,3]),([0,0,1,1,1,1,1,1],[80,0,3,4]),([1,0,1,1,1,1,1,1],[4,0]),(z13j,[4,0]),(z10i,[2,0]),(z16d,[2,0])]
def z15f (N:Nat):Env:=z1m tys glob [(77,z5v N),(73,z14 N)] [] [] [0] false [] [(44,za N)]
theorem z1p7 (N:Nat):EnvOk Tryd.prog (z15f N):=zi mixed zr (FnsOk.cons (z9h N) (FnsOk.cons (z1c N) (FnsOk.nil))) (ItsOk.cons (zb N) (ItsOk.nil))
def zbq (N:Nat)(p:DT4)(from_:Int)(k0:DT4->Option (Int×(DT4×Unit))):Option (Int×(DT4×Unit)) :=
 (z1g N p).bind fun y =>
 (z5w N y.1).bind fun y1 =>
 cond (!y1)
 (none)
 (k0 y.2.1)
def z1ms (N:Nat)(x:z16 z16a)(K:Ex->List A->Option (Int×(DT4×Unit))):Option (Int×(DT4×Unit)) :=
 zbq N x.1 x.2.1 (fun a0=>(K .normal (mkS z16a 81 (a0,x.2.1,()))))
def z1jj (N:Nat):Hd (Int×(DT4×Unit)):=fun st K=>(unS z16a 81 (restr [0,3] 0 st)).bind fun x=>z1ms N x K
def t1_61 (N:Nat):Tab (Int×(DT4×Unit)):=[]
theorem z1fp {N:Nat}{c:Ctx}(hb:Base Tryd.prog (z15f N) c):zk Tryd.prog c (zh z9f [0,1,1]) (z1jj N) :=
 zw (s:=z16a) (m:=81) (g:=z1ms N) [0,3] (zg hb N (t1_61 N) z16h z9f TabOk.nil [0,1,1] _ rfl) (fun x K=>by kernel_rfl)
def zbo (N:Nat)(p:DT4)(from_:Int)(n:Int)(k0:Option (Int×(DT4×Unit)))(k1:Option (Int×(DT4×Unit))):Option (Int×(DT4×Unit)) :=
 cond (decide (p.2.1<(((List.length p.1):Nat):Int)))
 (cond (inR p.2.1 (List.length p.1))
 ((z5w N (((UInt8.toNat (List.getD p.1 (Int.toNat p.2.1) (0:UInt8))):Nat):Int)).bind fun y =>
 cond y
 (k0)
 (k1))
 (none))
 (k1)
def z1kt (N:Nat)(x:z16 SQ1)(K:Ex->List A->Option (Int×(DT4×Unit))):Option (Int×(DT4×Unit)) :=
 zbo N x.1 x.2.1 x.2.2.1 (K .normal (mkS SQ1 80 (x.1,x.2.1,x.2.2.1,()))) (K (.exit 0) (mkS SQ1 80 (x.1,x.2.1,x.2.2.1,())))
def z1hk (N:Nat):Hd (Int×(DT4×Unit)):=fun st K=>(unS SQ1 80 (restr [0,4,3] 0 st)).bind fun x=>z1kt N x K
def t4_61 (N:Nat):Tab (Int×(DT4×Unit)):=[]
theorem z1dq {N:Nat}{c:Ctx}(hb:Base Tryd.prog (z15f N) c):zk Tryd.prog c (zh z9f z104) (z1hk N) :=
 zw (s:=SQ1) (m:=80) (g:=z1kt N) [0,4,3] (zg hb N (t4_61 N) z16h z9f TabOk.nil z104 _ rfl) (fun x K=>by kernel_rfl)
def zbl (N:Nat)(from_:Int)(p:DT4)(n:Int)(rec:DT4->Int->Option (Int×(DT4×Unit)))(k0:DT4->Int->Option (Int×(DT4×Unit))):Option (Int×(DT4×Unit)) :=
 zbo N p from_ n
 (cond (inR p.2.1 (List.length p.1))
 (rec (p.1,((IntKind.wrap IntKind.i64 (p.2.1+(1:Int))),p.2.2)) (if ((17:Int)<(IntKind.wrap IntKind.i64 ((IntKind.wrap IntKind.i64 ((10:Int)*n))+(IntKind.wrap IntKind.i64 (IntKind.wrap IntKind.u8 ((((UInt8.toNat (List.getD p.1 (Int.toNat p.2.1) (0:UInt8))):Nat):Int) - (48:Int))))))) then (17:Int) else (IntKind.wrap IntKind.i64 ((IntKind.wrap IntKind.i64 ((10:Int)*n))+(IntKind.wrap IntKind.i64 (IntKind.wrap IntKind.u8 ((((UInt8.toNat (List.getD p.1 (Int.toNat p.2.1) (0:UInt8))):Nat):Int) - (48:Int))))))))
 (none))
 (k0 p n)
def zj7 (N:Nat)(p:DT4)(from_:Int)(n:Int)(k0:DT4->Int->Option (Int×(DT4×Unit))):Option (Int×(DT4×Unit)) :=
 iter (fun (v:(DT4×Int)) r=>zbl N from_ v.1 v.2 (fun p n=>(r (p,n))) k0) N (p,n)
def z1l5 (N:Nat)(i:Int)(v:(DT4×Int))(r:(DT4×Int)->Option (Int×(DT4×Unit)))(K:Ex->List A->Option (Int×(DT4×Unit))):Option (Int×(DT4×Unit)) :=
 zbl N i v.1 v.2 (fun p n=>(r (p,n))) (fun a0 a2=>(K (.exit 0) (mkS SQ1 80 (a0,i,a2,()))))
def z1hw (N:Nat):Hd (Int×(DT4×Unit)):=fun st K=>(unS SQ1 80 (restr [0,4,3] 0 st)).bind fun x=>iter (fun v r=>z1l5 N ((fun x=>x.2.1) x) v r K) N ((fun x=>(x.1,x.2.2.1)) x)
def t3_61 (N:Nat):Tab (Int×(DT4×Unit)):=[(z104,z1hk N)]
theorem z1e2 {N:Nat}{c:Ctx}(hb:Base Tryd.prog (z15f N) c):zk Tryd.prog c (zh z9f [0,0,1,1,1,1]) (z1hw N) :=
 z1e (s:=SQ1) (m:=80) (z1l5 N) [0,4,3] N (fun x=>x.2.1) (fun x=>(x.1,x.2.2.1)) (fun i v=>(v.1,i,v.2,())) (fun _=>rfl) (zg hb N (t3_61 N) z16h z9f (TabOk.cons (z1dq hb) TabOk.nil) [0,0,0,1,1,1,1] _ rfl) (fun i v r K=>by kernel_rfl)
def zbp (N:Nat)(p:DT4)(from_:Int)(n:Int)(k0:DT4->Int->Option (Int×(DT4×Unit))):Option (Int×(DT4×Unit)) :=
 zj7 N p from_ n
 (fun p1 n1=>k0 p1 n1)
def z1lp (N:Nat)(x:z16 SQ1)(K:Ex->List A->Option (Int×(DT4×Unit))):Option (Int×(DT4×Unit)) :=
 zbp N x.1 x.2.1 x.2.2.1 (fun a0 a2=>(K .normal (mkS SQ1 80 (a0,x.2.1,a2,()))))
def z1ig (N:Nat):Hd (Int×(DT4×Unit)):=fun st K=>(unS SQ1 80 (restr [0,4,3] 0 st)).bind fun x=>z1lp N x K
def t2_61 (N:Nat):Tab (Int×(DT4×Unit)):=[([0,0,1,1,1,1],z1hw N)]
theorem z1em {N:Nat}{c:Ctx}(hb:Base Tryd.prog (z15f N) c):zk Tryd.prog c (zh z9f [0,1,1,1,1]) (z1ig N) :=
 zw (s:=SQ1) (m:=80) (g:=z1lp N) [0,4,3] (zg hb N (t2_61 N) z16h z9f (TabOk.cons (z1e2 hb) TabOk.nil) [0,1,1,1,1] _ rfl) (fun x K=>by kernel_rfl)
def zbm (N:Nat)(p:DT4)(from_:Int)(n:Int)(k0:Bool->Option (Int×(DT4×Unit))):Option (Int×(DT4×Unit)) :=
 cond (inR from_ (List.length p.1))
 (cond ((((UInt8.toNat (List.getD p.1 (Int.toNat from_) (0:UInt8))):Nat):Int) == (48:Int))
 (k0 (decide ((IntKind.wrap IntKind.i64 (from_+(1:Int)))<p.2.1)))
 (k0 false))
 (none)
def z1km (N:Nat)(x:z16 SQ1)(K:Ex->List A->Option (Int×(DT4×Unit))):Option (Int×(DT4×Unit)) :=
 zbm N x.1 x.2.1 x.2.2.1 (fun a3=>(K .normal (mkS z1o7 9 (x.1,x.2.1,x.2.2.1,a3,()))))
def z1hd (N:Nat):Hd (Int×(DT4×Unit)):=fun st K=>(unS SQ1 80 (restr [0,3,4] 0 st)).bind fun x=>z1km N x K
def t6_61 (N:Nat):Tab (Int×(DT4×Unit)):=[]
theorem z1dj {N:Nat}{c:Ctx}(hb:Base Tryd.prog (z15f N) c):zk Tryd.prog c (zh z9f zq4) (z1hd N) :=
 zw (s:=SQ1) (m:=80) (g:=z1km N) [0,3,4] (zg hb N (t6_61 N) z16h z9f TabOk.nil zq4 _ rfl) (fun x K=>by kernel_rfl)
def zbn (N:Nat)(p:DT4)(from_:Int)(n:Int)(k0:Option (Int×(DT4×Unit))):Option (Int×(DT4×Unit)) :=
 zbm N p from_ n
 (fun x75=>cond x75
 (none)
 (k0))
def z1ko (N:Nat)(x:z16 SQ1)(K:Ex->List A->Option (Int×(DT4×Unit))):Option (Int×(DT4×Unit)) :=
 zbn N x.1 x.2.1 x.2.2.1 (K .normal (mkS SQ1 80 (x.1,x.2.1,x.2.2.1,())))
def z1hf (N:Nat):Hd (Int×(DT4×Unit)):=fun st K=>(unS SQ1 80 (restr [0,3,4] 0 st)).bind fun x=>z1ko N x K
def t5_61 (N:Nat):Tab (Int×(DT4×Unit)):=[(zq4,z1hd N)]
theorem z1dl {N:Nat}{c:Ctx}(hb:Base Tryd.prog (z15f N) c):zk Tryd.prog c (zh z9f [0,1,1,1,1,1]) (z1hf N) :=
 zw (s:=SQ1) (m:=80) (g:=z1ko N) [0,3,4] (zg hb N (t5_61 N) z16h z9f (TabOk.cons (z1dj hb) TabOk.nil) [0,1,1,1,1,1] _ rfl) (fun x K=>by kernel_rfl)
def z3u (N:Nat)(p:DT4):Option (Int×(DT4×Unit)) :=
 zbq N p p.2.1
 (fun p1=>zbp N p1 p.2.1 (0:Int)
 (fun p2 n=>zbn N p2 p.2.1 n
 (cond (decide ((16:Int)<n))
 (none)
 (some (n,(p2,()))))))
def t_61 (N:Nat):Tab (Int×(DT4×Unit)):=[([0,1,1],z1jj N),([0,1,1,1,1],z1ig N),([0,1,1,1,1,1],z1hf N)]
theorem z18w (N:Nat)(x:z16 SQ0):z52 (z15f N) N (t_61 N) z16h Tryd.f67 (mkS SQ0 0 x) (z37 (.v (.int .i64)) SQ0 0)=z3u N x.1:=by kernel_rfl
def z6h (N:Nat):List A->Res:=z12 SQ0 (fun x=>z3u N x.1) (z3t (.v (.int .i64)) SQ0 0)
theorem zbr (N:Nat):Contract Tryd.prog glob 67 (z6h N) :=
 Contract.of (E:=z15f N) (H:=t_61 N) (L:=z16h) (N:=N) (body:=z9f) (K:=(z37 (.v (.int .i64)) SQ0 0)) (z1p7 N) Tryd.func67 (by kernel_rfl) (by decide) (fun _ hb=>(TabOk.cons (z1fp hb) (TabOk.cons (z1em hb) (TabOk.cons (z1dl hb) TabOk.nil)))) (fun x y h=>by rw[z18w];exact h) (z2f (s:=(.v (.int .i64))) (os:=SQ0) (m:=0))
def zp8:Code:=(Tryd.f59.body).getD .skip
def L_62:List (List Nat×List Nat):=[([0],[0]),([0,1],[0,4]),([0,1,1],[2,0,4]),([0,1,1,1],[0,2,3,4]),([0,0,1,1,1,1],[13,0,2,3,4]),([1,0,1,1,1,1],[3,2,0,4]),([0,0,0,1,0,1,1,1,1],[15,2,0]),([1,0,0,1,0,1,1,1,1],[0,2]),([0,0,1,0,0,1,0,1,1,1,1],[2,3,0]),(z15b,[2,3,0]),([0,1,0,1,0,1,1,1,1],[0,2,4]),([1,1,0,1,0,1,1,1,1],[3,2,0,4]),(zq4,[26,0,4,2,3]),(z159,[0,2,3]),(z105,[0,2,3]),(z100,[2,3,0]),(z10i,[2,3,0]),(z16d,[2,3,0])]
def z1qr (N:Nat):Env:=z1m tys glob [(67,z6h N),(30,z1j N),(68,z1k N)] [] [] [0] false [] [(44,za N)]
theorem z1p6 (N:Nat):EnvOk Tryd.prog (z1qr N):=zi mixed zr (FnsOk.cons (zbr N) (FnsOk.cons (z1v N) (FnsOk.cons (z1w N) (FnsOk.nil)))) (ItsOk.cons (zb N) (ItsOk.nil))
def z8v (N:Nat)(p:DT4)(low:Int)(high:Int)(from_:Int)(k0:DT4->Int->Option ((Int×Int×Unit)×(DT4×Unit)))(k1:DT4->Int->Int->Option ((Int×Int×Unit)×(DT4×Unit))):Option ((Int×Int×Unit)×(DT4×Unit)) :=
 (z15 N p (44:Int)).bind fun y =>
 cond y.1
 ((z15 N y.2.1 (125:Int)).bind fun y1 =>
 cond y1.1
 (k0 y1.2.1 (-(1:Int)))
 ((z3u N y1.2.1).bind fun y2 =>
 k1 y2.2.1 y2.1 y1.2.1.2.1))
 (k1 y.2.1 high from_)
def z1mr (N:Nat)(x:z16 SQ5)(K:Ex->List A->Option ((Int×Int×Unit)×(DT4×Unit))):Option ((Int×Int×Unit)×(DT4×Unit)) :=
 z8v N x.1 x.2.1 x.2.2.1 x.2.2.2.1 (fun a0 a2=>(K .ret (mkS SQ54 30 (a0,x.2.1,a2,())))) (fun a0 a2 a3=>(K .normal (mkS SQ5 29 (a0,x.2.1,a2,a3,()))))
def z1ji (N:Nat):Hd ((Int×Int×Unit)×(DT4×Unit)):=fun st K=>(unS SQ5 29 (restr [0,2,3,4] 0 st)).bind fun x=>z1mr N x K
def t1_62 (N:Nat):Tab ((Int×Int×Unit)×(DT4×Unit)):=[]
theorem z1fo {N:Nat}{c:Ctx}(hb:Base Tryd.prog (z1qr N) c):zk Tryd.prog c (zh zp8 [0,1,1,1,1]) (z1ji N) :=
 zw (s:=SQ5) (m:=29) (g:=z1mr N) [0,2,3,4] (zg hb N (t1_62 N) L_62 zp8 TabOk.nil [0,1,1,1,1] _ rfl) (fun x K=>by kernel_rfl)
def z8u (N:Nat)(p:DT4)(low:Int)(high:Int)(from_:Int)(k0:Option ((Int×Int×Unit)×(DT4×Unit))):Option ((Int×Int×Unit)×(DT4×Unit)) :=
 cond (decide (high<(if ((1:Int) > low) then (1:Int) else low)))
 (none)
 (k0)
def z1lo (N:Nat)(x:z16 SQ5)(K:Ex->List A->Option ((Int×Int×Unit)×(DT4×Unit))):Option ((Int×Int×Unit)×(DT4×Unit)) :=
 z8u N x.1 x.2.1 x.2.2.1 x.2.2.2.1 (K .normal (mkS SQ54 30 (x.1,x.2.1,x.2.2.1,())))
def z1if (N:Nat):Hd ((Int×Int×Unit)×(DT4×Unit)):=fun st K=>(unS SQ5 29 (restr [3,2,0,4] 0 st)).bind fun x=>z1lo N x K
def t2_62 (N:Nat):Tab ((Int×Int×Unit)×(DT4×Unit)):=[]
theorem z1el {N:Nat}{c:Ctx}(hb:Base Tryd.prog (z1qr N) c):zk Tryd.prog c (zh zp8 [0,1,1,1,1,1]) (z1if N) :=
 zw (s:=SQ5) (m:=29) (g:=z1lo N) [3,2,0,4] (zg hb N (t2_62 N) L_62 zp8 TabOk.nil [0,1,1,1,1,1] _ rfl) (fun x K=>by kernel_rfl)
def z4s (N:Nat)(p:DT4):Option ((Int×Int×Unit)×(DT4×Unit)) :=
 (z3u N p).bind fun y =>
 z8v N y.2.1 y.1 y.1 p.2.1
 (fun p1 high=>some ((y.1,(high,())),(p1,())))
 (fun p2 high1 from_=>z8u N p2 y.1 high1 from_
 ((z1h N p2 (125:Int)).bind fun y1 =>
 some ((y.1,(high1,())),(y1.2.1,()))))
def t_62 (N:Nat):Tab ((Int×Int×Unit)×(DT4×Unit)):=[([0,1,1,1,1],z1ji N),([0,1,1,1,1,1],z1if N)]
theorem z18v (N:Nat)(x:z16 SQ0):z52 (z1qr N) N (t_62 N) L_62 Tryd.f59 (mkS SQ0 0 x) (z37 (.tup [(.int .i64),(.int .i64)]) SQ0 0)=z4s N x.1:=by kernel_rfl
def z4q (N:Nat):List A->Res:=z12 SQ0 (fun x=>z4s N x.1) (z3t (.tup [(.int .i64),(.int .i64)]) SQ0 0)
theorem z8w (N:Nat):Contract Tryd.prog glob 59 (z4q N) :=
 Contract.of (E:=z1qr N) (H:=t_62 N) (L:=L_62) (N:=N) (body:=zp8) (K:=(z37 (.tup [(.int .i64),(.int .i64)]) SQ0 0)) (z1p6 N) Tryd.func59 (by kernel_rfl) (by decide) (fun _ hb=>(TabOk.cons (z1fo hb) (TabOk.cons (z1el hb) TabOk.nil))) (fun x y h=>by rw[z18v];exact h) (z2f (s:=(.tup [(.int .i64),(.int .i64)])) (os:=SQ0) (m:=0))
def zw6:Code:=(Tryd.f47.body).getD .skip
def L_63:List (List Nat×List Nat):=[([0],[0,2]),([0,1],[0,3,2]),([0,0,1,1],[16,3,2,0]),([1,0,1,1],[3,0,2]),([0,0,1,0,1,1],[2,0]),([1,0,1,0,1,1],[2,0]),([0,1,1,1],[0,4,2,3]),([0,0,1,1,1,1],[29,4,0,2,3]),([0,0,0,0,0,0,0,0,0,0,0,0,0,0,1,0,1,1,1,1],[30,4,0,2,29,3]),([1,0,0,0,0,0,0,0,0,0,0,0,0,0,1,0,1,1,1,1],[29,0,4,2,3]),([0,1,0,0,0,0,0,0,0,0,0,0,0,0,0,1,0,1,1,1,1],[4,0,2]),([0,0,1,0,0,0,0,0,0,0,0,0,0,0,0,1,0,1,1,1,1],[32,0,4,2,29,3]),([1,0,1,0,0,0,0,0,0,0,0,0,0,0,0,1,0,1,1,1,1],[29,0,4,2,3]),([0,1,0,1,0,0,0,0,0,0,0,0,0,0,0,0,1,0,1,1,1,1],[0,4,2]),([0,0,1,1,0,0,0,0,0,0,0,0,0,0,0,0,1,0,1,1,1,1],[34,0,4,2,29,3]),([1,0,1,1,0,0,0,0,0,0,0,0,0,0,0,0,1,0,1,1,1,1],[29,0,4,2,3]),([0,1,0,1,1,0,0,0,0,0,0,0,0,0,0,0,0,1,0,1,1,1,1],[0,4,2]),([0,1,1,1,0,0,0,0,0,0,0,0,0,0,0,0,1,0,1,1,1,1],[36,0,4,2,3]),([1,1,1,1,0,0,0,0,0,0,0,0,0,0,0,0,1,0,1,1,1,1],[3,2,0]),([0,1,1,1,1,0,0,0,0,0,0,0,0,0,0,0,0,1,0,1,1,1,1],[0,4,2]),([1,0,0,0,0,0,0,0,0,0,0,0,1,0,1,1,1,1],[3,2,0]),([0,0,0,0,0,0,0,0,0,0,1,0,1,1,1,1],[4,0,2]),([1,0,0,0,0,0,0,0,0,0,1,0,1,1,1,1],[0,4,2]),(z16f,[0,4,2]),([0,1,0,0,0,0,0,0,0,1,0,1,1,1,1],[4,2,0]),([1,1,0,0,0,0,0,0,0,1,0,1,1,1,1],[4,2,0]),([0,0,0,0,0,0,1,0,1,1,1,1],[0,4,2]),([0,0,1,0,0,0,0,0,1,0,1,1,1,1],[4,2,0]),([1,0,1,0,0,0,0,0,1,0,1,1,1,1],[4,2,0]),([1,1,0,0,0,0,0,1,0,1,1,1,1],[4,2,0]),([0,0,0,0,1,0,1,1,1,1],[0,4,2]),([0,0,1,0,0,0,1,0,1,1,1,1],[0,4,2]),([1,0,1,0,0,0,1,0,1,1,1,1],[4,2,0]),([1,1,0,0,0,1,0,1,1,1,1],[4,2,0]),(z107,[3,2,0]),([0,0,1,0,1,0,1,1,1,1],[2,0]),([1,0,1,0,1,0,1,1,1,1],[2,0]),([1,1,0,1,0,1,1,1,1],[4,2,0]),([1,0,1,1,1,1],[4,2,0]),([0,1,1,1,1,1],[2,0]),([1,1,1,1,1,1],[2,0])]
def E_63 (N:Nat)(self:z7):Env:=z1m tys glob [(59,z4q N),(58,z5t N self),(17,z12 SQ0 (fun x=>self x.1) (z3t (.v TT3) SQ0 0))] [] [] [0] false [] [(44,za N)]
theorem z1p5 (N:Nat)(self:z7)(hself:Contract Tryd.prog glob 17 (z12 SQ0 (fun x=>self x.1) (z3t (.v TT3) SQ0 0))):EnvOk Tryd.prog (E_63 N self):=zi mixed zr (FnsOk.cons (z8w N) (FnsOk.cons (zat N self hself) (FnsOk.cons (hself) (FnsOk.nil)))) (ItsOk.cons (zb N) (ItsOk.nil))
def z9t (N:Nat)(self:z7)(p:DT4)(x2:DT5)(kid:DT5)(rep:DT5)(x29:Int)(k0:DT5->Option (DT5×(DT4×Unit)))(k1:Option (DT5×(DT4×Unit)))(k2:Option (DT5×(DT4×Unit)))(k3:Option (DT5×(DT4×Unit))):Option (DT5×(DT4×Unit)) :=
 cond (x29 == (43:Int))
 (k0 (rep.1,(rep.2.1,(rep.2.2.1,((1:Int),rep.2.2.2.2)))))
 (cond (x29 == (42:Int))
 (k0 rep)
 (cond (x29 == (63:Int))
 (k1)
 (cond (x29 == (123:Int))
 (k2)
 (k3))))
def z1mq (N:Nat)(self:z7)(x:z16 z1c7)(K:Ex->List A->Option (DT5×(DT4×Unit))):Option (DT5×(DT4×Unit)) :=
 z9t N self x.1 x.2.1 x.2.2.1 x.2.2.2.1 x.2.2.2.2.1 (fun a2=>(K .normal (mkS z1c5 65 (x.1,x.2.1,a2,())))) (K (.exit 3) (mkS z1c5 65 (x.1,x.2.1,x.2.2.2.1,()))) (K (.exit 4) (mkS z1c5 65 (x.1,x.2.1,x.2.2.2.1,()))) (K (.exit 5) (mkS [(0,.box (.pair .str TT1)),(1,.box TT3),(0,.box TT3)] 66 (x.1,x.2.1,x.2.2.1,())))
def z1jh (N:Nat)(self:z7):Hd (DT5×(DT4×Unit)):=fun st K=>(unS z1c7 40 (restr [29,4,0,2,3] 0 st)).bind fun x=>z1mq N self x K
def t1_63 (N:Nat)(self:z7):Tab (DT5×(DT4×Unit)):=[]
theorem z1fn {N:Nat}{self:z7}{c:Ctx}(hb:Base Tryd.prog (E_63 N self) c):zk Tryd.prog c (zh zw6 z16f) (z1jh N self) :=
 zw (s:=z1c7) (m:=40) (g:=z1mq N self) [29,4,0,2,3] (zg hb N (t1_63 N self) L_63 zw6 TabOk.nil z16f _ rfl) (fun x K=>by kernel_rfl)
def z5e (N:Nat)(self:z7)(p:DT4):Option (DT5×(DT4×Unit)) :=
 (z62 N self p).bind fun y =>
 cond (y.2.1.2.1 == (((List.length y.2.1.1):Nat):Int))
 (some (y.1,(y.2.1,())))
 (cond (inR y.2.1.2.1 (List.length y.2.1.1))
 (z9t N self y.2.1 ((0:Int),(([(0:Int),(0:Int),(0:Int),(0:Int)]:List Int),(([]:List Tree),((0:Int),((0:Int),()))))) y.1 ((4:Int),(([(0:Int),(0:Int),(0:Int),(0:Int)]:List Int),((List.map foN ([y.1]:List zyp)),((0:Int),((-(1:Int)),()))))) (((UInt8.toNat (List.getD y.2.1.1 (Int.toNat y.2.1.2.1) (0:UInt8))):Nat):Int)
 (fun rep=>some (rep,((y.2.1.1,((IntKind.wrap IntKind.i64 (y.2.1.2.1+(1:Int))),y.2.1.2.2)),())))
 (some (((4:Int),(([(0:Int),(0:Int),(0:Int),(0:Int)]:List Int),((List.map foN ([y.1]:List zyp)),((0:Int),((1:Int),()))))),((y.2.1.1,((IntKind.wrap IntKind.i64 (y.2.1.2.1+(1:Int))),y.2.1.2.2)),())))
 ((z4s N (y.2.1.1,((IntKind.wrap IntKind.i64 (y.2.1.2.1+(1:Int))),y.2.1.2.2))).bind fun y1 =>
 some (((4:Int),(([(0:Int),(0:Int),(0:Int),(0:Int)]:List Int),((List.map foN ([y.1]:List zyp)),(y1.1.1,(y1.1.2.1,()))))),(y1.2.1,())))
 (some (y.1,(y.2.1,()))))
 (none))
def t_63 (N:Nat)(self:z7):Tab (DT5×(DT4×Unit)):=[(z16f,z1jh N self)]
theorem z18u (N:Nat)(self:z7)(x:z16 SQ0):z52 (E_63 N self) N (t_63 N self) L_63 Tryd.f47 (mkS SQ0 0 x) (z37 (.v TT3) SQ0 0)=z5e N self x.1:=by kernel_rfl
def z57 (N:Nat)(self:z7):List A->Res:=z12 SQ0 (fun x=>z5e N self x.1) (z3t (.v TT3) SQ0 0)
theorem z9u (N:Nat)(self:z7)(hself:Contract Tryd.prog glob 17 (z12 SQ0 (fun x=>self x.1) (z3t (.v TT3) SQ0 0))):Contract Tryd.prog glob 47 (z57 N self) :=
 Contract.of (E:=E_63 N self) (H:=t_63 N self) (L:=L_63) (N:=N) (body:=zw6) (K:=(z37 (.v TT3) SQ0 0)) (z1p5 N self hself) Tryd.func47 (by kernel_rfl) (by decide) (fun _ hb=>(TabOk.cons (z1fn hb) TabOk.nil)) (fun x y h=>by rw[z18u];exact h) (z2f (s:=(.v TT3)) (os:=SQ0) (m:=0))
def zw5:Code:=(Tryd.f31.body).getD .skip
def L_64:List (List Nat×List Nat):=[([0],[1,0,4]),([0,1],[1,0,5,4]),([0,0,1,1],[10,9,8,0,5,4]),([0,1,0,1,1],[10,9,8,0,5,4]),(z13d,[11,8,10,0,5,9,4]),(z10h,[8,10,0,5,9,4]),(z13g,[5,4,0]),(z13h,[7,0,5,10,9,8,4]),(z13q,[17,5,7,10,9,8,0,4]),(z15c,[10,9,8,0,5,4]),([1,1,1,0,0,1,1,0,0,1,0,1,1],[10,9,8,0,5,4]),([0,1,1,0,0,1,1,0,0,1,0,1,1],[10,9,8,0,5,4]),(z13f,[10,9,8,0,5,4]),(z13e,[10,9,8,0,5,4]),([1,0,1,1],[5,4,0]),([0,0,1,1,1],[29,5,4,0]),([1,0,1,1,1],[0,5,4]),(zwv,[4]),(zue,[4]),([0,1,1,1,1],[4]),([1,1,1,1,1],[4])]
def E_64 (N:Nat):Env:=z1m tys glob [] [(5,TT3)] [] [] false [] [(44,za N)]
theorem z1p4 (N:Nat):EnvOk Tryd.prog (E_64 N):=zi mixed zr (FnsOk.nil) (ItsOk.cons (zb N) (ItsOk.nil))
def zk6 (N:Nat)(kind:Int)(x4:DT5)(x8:(List Tree))(x9:Int)(kids:(List DT5))(x10:Int)(rec:(List DT5)->Int->Option DT5)(k0:(List DT5)->Option DT5):Option DT5 :=
 cond (decide (x10<x9))
 (cond (inR x10 (List.length x8))
 (cond ((unN (List.getD x8 (Int.toNat x10) (Tree.mk (0:Int) ([]:List Int) ([]:List Tree) (0:Int) (0:Int)))).1 == kind)
 (cond (decide ((((List.length kids)+(List.length (List.map unN (unN (List.getD x8 (Int.toNat x10) (Tree.mk (0:Int) ([]:List Int) ([]:List Tree) (0:Int) (0:Int)))).2.2.1)))*80)<=70368744177664))
 (rec (kids++(List.map unN (unN (List.getD x8 (Int.toNat x10) (Tree.mk (0:Int) ([]:List Int) ([]:List Tree) (0:Int) (0:Int)))).2.2.1)) (IntKind.wrap IntKind.i64 (x10+(1:Int))))
 (none))
 (cond (decide ((((List.length kids)+1)*80)<=70368744177664))
 (rec (kids++([(unN (List.getD x8 (Int.toNat x10) (Tree.mk (0:Int) ([]:List Int) ([]:List Tree) (0:Int) (0:Int))))]:List zyp)) (IntKind.wrap IntKind.i64 (x10+(1:Int))))
 (none)))
 (none))
 (k0 kids)
def zrk (N:Nat)(kind:Int)(x4:DT5)(kids:(List DT5))(x8:(List Tree))(x9:Int)(x10:Int)(k0:(List DT5)->Option DT5):Option DT5 :=
 iter (fun (v:((List DT5)×Int)) r=>zk6 N kind x4 x8 x9 v.1 v.2 (fun kids x10=>(r (kids,x10))) k0) N (kids,x10)
def z1mp (N:Nat)(i:(Int×DT5×(List Tree)×Int))(v:((List DT5)×Int))(r:((List DT5)×Int)->Option DT5)(K:Ex->List A->Option DT5):Option DT5 :=
 zk6 N i.1 i.2.1 i.2.2.1 i.2.2.2 v.1 v.2 (fun kids x10=>(r (kids,x10))) (fun a2=>(K (.exit 0) (mkS [(0,.v (.int .i64)),(3,.box TT3),(0,.row TT3)] 30 (i.1,i.2.1,a2,()))))
def z1jg (N:Nat):Hd DT5:=fun st K=>(unS SQ70 25 (restr [10,9,8,0,5,4] 0 st)).bind fun x=>iter (fun v r=>z1mp N ((fun x=>(x.1,x.2.1,x.2.2.2.1,x.2.2.2.2.1)) x) v r K) N ((fun x=>(x.2.2.1,x.2.2.2.2.2.1)) x)
def t1_64 (N:Nat):Tab DT5:=[]
theorem z1fm {N:Nat}{c:Ctx}(hb:Base Tryd.prog (E_64 N) c):zk Tryd.prog c (zh zw5 [0,1,0,1,1]) (z1jg N) :=
 z1e (s:=SQ70) (m:=25) (z1mp N) [10,9,8,0,5,4] N (fun x=>(x.1,x.2.1,x.2.2.2.1,x.2.2.2.2.1)) (fun x=>(x.2.2.1,x.2.2.2.2.2.1)) (fun i v=>(i.1,i.2.1,v.1,i.2.2.1,i.2.2.2,v.2,())) (fun _=>rfl) (zg hb N (t1_64 N) L_64 zw5 TabOk.nil [0,0,1,0,1,1] _ rfl) (fun i v r K=>by kernel_rfl)
def zbd (N:Nat)(kind:Int)(parts:(List Tree)):Option DT5 :=
 zrk N kind ((0:Int),(([(0:Int),(0:Int),(0:Int),(0:Int)]:List Int),(([]:List Tree),((0:Int),((0:Int),()))))) ([]:List zyp) parts (((List.length parts):Nat):Int) (0:Int)
 (fun kids=>cond ((((List.length kids):Nat):Int) == (1:Int))
 (cond (inR (0:Int) (List.length kids))
 (cond (decide (0<(List.length kids)))
 (some (List.getD kids 0 ((0:Int),(([]:List Int),(([]:List Tree),((0:Int),((0:Int),())))))))
 (none))
 (none))
 (some (kind,(([(0:Int),(0:Int),(0:Int),(0:Int)]:List Int),((List.map foN kids),((0:Int),((0:Int),())))))))
def t_64 (N:Nat):Tab DT5:=[([0,1,0,1,1],z1jg N)]
theorem z18t (N:Nat)(x:z16 [(0,.v (.int .i64)),(0,.v (.sl .nod))]):z52 (E_64 N) N (t_64 N) L_64 Tryd.f31 (mkS [(0,.v (.int .i64)),(0,.v (.sl .nod))] 0 x) (z3j (.v TT3) 2)=zbd N x.1 x.2.1:=by kernel_rfl
def z6v (N:Nat):List A->Res:=z12 [(0,.v (.int .i64)),(0,.v (.sl .nod))] (fun x=>zbd N x.1 x.2.1) (z7r (.v TT3) 2)
theorem zb4 (N:Nat):Contract Tryd.prog glob 31 (z6v N) :=
 Contract.of (E:=E_64 N) (H:=t_64 N) (L:=L_64) (N:=N) (body:=zw5) (K:=(z3j (.v TT3) 2)) (z1p4 N) Tryd.func31 (by kernel_rfl) (by decide) (fun _ hb=>(TabOk.cons (z1fm hb) TabOk.nil)) (fun x y h=>by rw[z18t];exact h) (z1a (s:=(.v TT3)) (m:=2))
def zjo:Code:=(Tryd.f29.body).getD .skip
def z1oe:List (List Nat×List Nat):=[([0],[0,2]),([0,1],[0,3,2]),([0,0,1,1],[0,3,2]),(z102,[37,3,0,2]),(z101,[3,0,2]),(z106,[3,2,0]),([0,1,0,0,0,1,1],[0,3,2]),([1,0,0,0,1,1],[0,3,2]),([0,1,1],[3,2,0]),([0,1,1,1],[2,0]),([1,1,1,1],[2,0])]
def z1co (N:Nat)(self:z7):Env:=z1m tys glob [(31,z6v N),(47,z57 N self),(17,z12 SQ0 (fun x=>self x.1) (z3t (.v TT3) SQ0 0))] [(3,TT3)] [] [0] false [] [(44,za N)]
theorem z1p3 (N:Nat)(self:z7)(hself:Contract Tryd.prog glob 17 (z12 SQ0 (fun x=>self x.1) (z3t (.v TT3) SQ0 0))):EnvOk Tryd.prog (z1co N self):=zi mixed zr (FnsOk.cons (zb4 N) (FnsOk.cons (z9u N self hself) (FnsOk.cons (hself) (FnsOk.nil)))) (ItsOk.cons (zb N) (ItsOk.nil))
def zbw (N:Nat)(self:z7)(p:DT4)(x2:DT5)(parts:(List DT5))(k0:Option (DT5×(DT4×Unit)))(k1:Option (DT5×(DT4×Unit))):Option (DT5×(DT4×Unit)) :=
 cond (decide (p.2.1<(((List.length p.1):Nat):Int)))
 (cond (inR p.2.1 (List.length p.1))
 (cond ((((UInt8.toNat (List.getD p.1 (Int.toNat p.2.1) (0:UInt8))):Nat):Int) != (124:Int))
 (cond (inR p.2.1 (List.length p.1))
 (cond ((((UInt8.toNat (List.getD p.1 (Int.toNat p.2.1) (0:UInt8))):Nat):Int) != (41:Int))
 (k0)
 (k1))
 (none))
 (k1))
 (none))
 (k1)
def z1l4 (N:Nat)(self:z7)(x:z16 SQ3)(K:Ex->List A->Option (DT5×(DT4×Unit))):Option (DT5×(DT4×Unit)) :=
 zbw N self x.1 x.2.1 x.2.2.1 (K .normal (mkS SQ3 41 (x.1,x.2.1,x.2.2.1,()))) (K (.exit 0) (mkS SQ3 41 (x.1,x.2.1,x.2.2.1,())))
def z1hv (N:Nat)(self:z7):Hd (DT5×(DT4×Unit)):=fun st K=>(unS SQ3 41 (restr [0,3,2] 0 st)).bind fun x=>z1l4 N self x K
def t3_65 (N:Nat)(self:z7):Tab (DT5×(DT4×Unit)):=[]
theorem z1e1 {N:Nat}{self:z7}{c:Ctx}(hb:Base Tryd.prog (z1co N self) c):zk Tryd.prog c (zh zjo [0,0,0,0,1,1]) (z1hv N self) :=
 zw (s:=SQ3) (m:=41) (g:=z1l4 N self) [0,3,2] (zg hb N (t3_65 N self) z1oe zjo TabOk.nil [0,0,0,0,1,1] _ rfl) (fun x K=>by kernel_rfl)
def zbv (N:Nat)(self:z7)(x2:DT5)(p:DT4)(parts:(List DT5))(rec:DT4->(List DT5)->Option (DT5×(DT4×Unit)))(k0:DT4->(List DT5)->Option (DT5×(DT4×Unit))):Option (DT5×(DT4×Unit)) :=
 zbw N self p x2 parts
 ((z5e N self p).bind fun y =>
 cond (decide ((((List.length parts)+1)*80)<=70368744177664))
 (rec y.2.1 (parts++([y.1]:List zyp)))
 (none))
 (k0 p parts)
def zj8 (N:Nat)(self:z7)(p:DT4)(x2:DT5)(parts:(List DT5))(k0:DT4->(List DT5)->Option (DT5×(DT4×Unit))):Option (DT5×(DT4×Unit)) :=
 iter (fun (v:(DT4×(List DT5))) r=>zbv N self x2 v.1 v.2 (fun p parts=>(r (p,parts))) k0) N (p,parts)
def z1ln (N:Nat)(self:z7)(i:DT5)(v:(DT4×(List DT5)))(r:(DT4×(List DT5))->Option (DT5×(DT4×Unit)))(K:Ex->List A->Option (DT5×(DT4×Unit))):Option (DT5×(DT4×Unit)) :=
 zbv N self i v.1 v.2 (fun p parts=>(r (p,parts))) (fun a0 a2=>(K (.exit 0) (mkS SQ3 41 (a0,i,a2,()))))
def z1ie (N:Nat)(self:z7):Hd (DT5×(DT4×Unit)):=fun st K=>(unS SQ3 41 (restr [0,3,2] 0 st)).bind fun x=>iter (fun v r=>z1ln N self ((fun x=>x.2.1) x) v r K) N ((fun x=>(x.1,x.2.2.1)) x)
def t2_65 (N:Nat)(self:z7):Tab (DT5×(DT4×Unit)):=[([0,0,0,0,1,1],z1hv N self)]
theorem z1ek {N:Nat}{self:z7}{c:Ctx}(hb:Base Tryd.prog (z1co N self) c):zk Tryd.prog c (zh zjo [0,0,1,1]) (z1ie N self) :=
 z1e (s:=SQ3) (m:=41) (z1ln N self) [0,3,2] N (fun x=>x.2.1) (fun x=>(x.1,x.2.2.1)) (fun i v=>(v.1,i,v.2,())) (fun _=>rfl) (zg hb N (t2_65 N self) z1oe zjo (TabOk.cons (z1e1 hb) TabOk.nil) [0,0,0,1,1] _ rfl) (fun i v r K=>by kernel_rfl)
def zbx (N:Nat)(self:z7)(p:DT4)(x2:DT5)(parts:(List DT5))(k0:DT4->(List DT5)->Option (DT5×(DT4×Unit))):Option (DT5×(DT4×Unit)) :=
 zj8 N self p x2 parts
 (fun p1 zk8=>k0 p1 zk8)
def z1mo (N:Nat)(self:z7)(x:z16 SQ3)(K:Ex->List A->Option (DT5×(DT4×Unit))):Option (DT5×(DT4×Unit)) :=
 zbx N self x.1 x.2.1 x.2.2.1 (fun a0 a2=>(K .normal (mkS SQ3 41 (a0,x.2.1,a2,()))))
def z1jf (N:Nat)(self:z7):Hd (DT5×(DT4×Unit)):=fun st K=>(unS SQ3 41 (restr [0,3,2] 0 st)).bind fun x=>z1mo N self x K
def t1_65 (N:Nat)(self:z7):Tab (DT5×(DT4×Unit)):=[([0,0,1,1],z1ie N self)]
theorem z1fl {N:Nat}{self:z7}{c:Ctx}(hb:Base Tryd.prog (z1co N self) c):zk Tryd.prog c (zh zjo [0,1,1]) (z1jf N self) :=
 zw (s:=SQ3) (m:=41) (g:=z1mo N self) [0,3,2] (zg hb N (t1_65 N self) z1oe zjo (TabOk.cons (z1ek hb) TabOk.nil) [0,1,1] _ rfl) (fun x K=>by kernel_rfl)
def z3w (N:Nat)(self:z7)(p:DT4):Option (DT5×(DT4×Unit)) :=
 zbx N self p ((0:Int),(([(0:Int),(0:Int),(0:Int),(0:Int)]:List Int),(([]:List Tree),((0:Int),((0:Int),()))))) ([]:List zyp)
 (fun p1 parts=>(zbd N (2:Int) (List.map foN parts)).bind fun y =>
 some (y,(p1,())))
def t_65 (N:Nat)(self:z7):Tab (DT5×(DT4×Unit)):=[([0,1,1],z1jf N self)]
theorem z18s (N:Nat)(self:z7)(x:z16 SQ0):z52 (z1co N self) N (t_65 N self) z1oe Tryd.f29 (mkS SQ0 0 x) (z37 (.v TT3) SQ0 0)=z3w N self x.1:=by kernel_rfl
def z6j (N:Nat)(self:z7):List A->Res:=z12 SQ0 (fun x=>z3w N self x.1) (z3t (.v TT3) SQ0 0)
theorem zby (N:Nat)(self:z7)(hself:Contract Tryd.prog glob 17 (z12 SQ0 (fun x=>self x.1) (z3t (.v TT3) SQ0 0))):Contract Tryd.prog glob 29 (z6j N self) :=
 Contract.of (E:=z1co N self) (H:=t_65 N self) (L:=z1oe) (N:=N) (body:=zjo) (K:=(z37 (.v TT3) SQ0 0)) (z1p3 N self hself) Tryd.func29 (by kernel_rfl) (by decide) (fun _ hb=>(TabOk.cons (z1fl hb) TabOk.nil)) (fun x y h=>by rw[z18s];exact h) (z2f (s:=(.v TT3)) (os:=SQ0) (m:=0))
def zsd:Code:=(Tryd.f17.body).getD .skip
def L_66:List (List Nat×List Nat):=[([0],[0,2]),([0,1],[0,3,2]),([0,0,1,1],[0,3,2]),(z102,[8,3,0,2]),(z101,[3,0,2]),(z106,[3,2,0]),([0,1,0,0,0,1,1],[0,3,2]),([1,0,0,0,1,1],[0,3,2]),([0,1,1],[3,2,0]),([0,1,1,1],[2,0]),([1,1,1,1],[2,0])]
def E_66 (N:Nat)(self:DT4->Option (DT5×(DT4×Unit))):Env:=z1m tys glob [(29,z6j N self),(31,z6v N),(30,z1j N),(17,z12 SQ0 (fun x=>self x.1) (z3t (.v TT3) SQ0 0))] [(3,TT3)] [] [0] false [] [(44,za N)]
theorem z1p2 (N:Nat)(self:DT4->Option (DT5×(DT4×Unit)))(hself:Contract Tryd.prog glob 17 (z12 SQ0 (fun x=>self x.1) (z3t (.v TT3) SQ0 0))):EnvOk Tryd.prog (E_66 N self):=zi mixed zr (FnsOk.cons (zby N self hself) (FnsOk.cons (zb4 N) (FnsOk.cons (z1v N) (FnsOk.cons (hself) (FnsOk.nil))))) (ItsOk.cons (zb N) (ItsOk.nil))
def zbz (N:Nat)(self:DT4->Option (DT5×(DT4×Unit)))(x2:DT5)(p:DT4)(parts:(List DT5))(rec:DT4->(List DT5)->Option (DT5×(DT4×Unit)))(k0:DT4->(List DT5)->Option (DT5×(DT4×Unit))):Option (DT5×(DT4×Unit)) :=
 (z15 N p (124:Int)).bind fun y =>
 cond y.1
 ((z3w N self y.2.1).bind fun y1 =>
 cond (decide ((((List.length parts)+1)*80)<=70368744177664))
 (rec y1.2.1 (parts++([y1.1]:List zyp)))
 (none))
 (k0 y.2.1 parts)
def zj9 (N:Nat)(self:DT4->Option (DT5×(DT4×Unit)))(p:DT4)(x2:DT5)(parts:(List DT5))(k0:DT4->(List DT5)->Option (DT5×(DT4×Unit))):Option (DT5×(DT4×Unit)) :=
 iter (fun (v:(DT4×(List DT5))) r=>zbz N self x2 v.1 v.2 (fun p parts=>(r (p,parts))) k0) N (p,parts)
def z1mn (N:Nat)(self:DT4->Option (DT5×(DT4×Unit)))(i:DT5)(v:(DT4×(List DT5)))(r:(DT4×(List DT5))->Option (DT5×(DT4×Unit)))(K:Ex->List A->Option (DT5×(DT4×Unit))):Option (DT5×(DT4×Unit)) :=
 zbz N self i v.1 v.2 (fun p parts=>(r (p,parts))) (fun a0 a2=>(K (.exit 0) (mkS SQ3 12 (a0,i,a2,()))))
def z1je (N:Nat)(self:DT4->Option (DT5×(DT4×Unit))):Hd (DT5×(DT4×Unit)):=fun st K=>(unS SQ3 12 (restr [0,3,2] 0 st)).bind fun x=>iter (fun v r=>z1mn N self ((fun x=>x.2.1) x) v r K) N ((fun x=>(x.1,x.2.2.1)) x)
def t1_66 (N:Nat)(self:DT4->Option (DT5×(DT4×Unit))):Tab (DT5×(DT4×Unit)):=[]
theorem z1fk {N:Nat}{self:DT4->Option (DT5×(DT4×Unit))}{c:Ctx}(hb:Base Tryd.prog (E_66 N self) c):zk Tryd.prog c (zh zsd [0,0,1,1]) (z1je N self) :=
 z1e (s:=SQ3) (m:=12) (z1mn N self) [0,3,2] N (fun x=>x.2.1) (fun x=>(x.1,x.2.2.1)) (fun i v=>(v.1,i,v.2,())) (fun _=>rfl) (zg hb N (t1_66 N self) L_66 zsd TabOk.nil [0,0,0,1,1] _ rfl) (fun i v r K=>by kernel_rfl)
def zcw (N:Nat)(self:DT4->Option (DT5×(DT4×Unit)))(p:DT4):Option (DT5×(DT4×Unit)) :=
 (z3w N self p).bind fun y =>
 zj9 N self y.2.1 ((0:Int),(([(0:Int),(0:Int),(0:Int),(0:Int)]:List Int),(([]:List Tree),((0:Int),((0:Int),()))))) ([y.1]:List zyp)
 (fun p1 parts=>(zbd N (3:Int) (List.map foN parts)).bind fun y1 =>
 some (y1,(p1,())))
def t_66 (N:Nat)(self:DT4->Option (DT5×(DT4×Unit))):Tab (DT5×(DT4×Unit)):=[([0,0,1,1],z1je N self)]
theorem z18r (N:Nat)(self:DT4->Option (DT5×(DT4×Unit)))(x:z16 SQ0):z52 (E_66 N self) N (t_66 N self) L_66 Tryd.f17 (mkS SQ0 0 x) (z37 (.v TT3) SQ0 0)=zcw N self x.1:=by kernel_rfl
def zo:Nat->DT4->Option (DT5×(DT4×Unit))
 | 0=>fun _=>none
 | N+1=>zcw (N+1) (zo N)
def zau (N:Nat):List A->Res:=z12 SQ0 (fun x=>zo N x.1) (z3t (.v TT3) SQ0 0)
theorem z2d:∀ N:Nat,Contract Tryd.prog glob 17 (zau N)
 | 0=>Contract.zero Tryd.func17 (body:=zsd) (by kernel_rfl) (by decide) (fun _=>rfl)
 | N+1=>Contract.of (E:=E_66 (N+1) (zo N)) (H:=t_66 (N+1) (zo N)) (L:=L_66) (N:=(N+1)) (body:=zsd) (K:=(z37 (.v TT3) SQ0 0)) (z1p2 (N+1) (zo N) (z2d N)) Tryd.func17 (by kernel_rfl) (by decide) (fun _ hb=>(TabOk.cons (z1fk hb) TabOk.nil)) (fun x y h=>by rw[z18r];exact h) (z2f (s:=(.v TT3)) (os:=SQ0) (m:=0))
end
end Go.Proofs.YtjbcpimnlgogiaaDoorLg
set_option linter.all false
namespace Go.Proofs.YtjbcpimnlgogiaaDoorPx
noncomputable section
open Go Go.Lift
theorem zli {σ β:Type}{step:σ->(σ->Option β)->Option β}(I:σ->Prop)(m:σ->Nat)(R:σ->Option β)
 (h:∀ v r,I v->(∀ v',I v'->m v'<m v->r v'=R v')->step v r=R v):∀ (n:Nat) (v:σ),I v->m v<n->iter step n v=R v
 | 0,v,_,hm=>by omega
 | n+1,v,hv,hm=>h v (iter step n) hv fun v' hv' hlt=>zli I m R h n v' hv' (by omega)
theorem zkh {σ β:Type}{step:σ->(σ->Option β)->Option β}(I:σ->Prop)(m:σ->Nat)(p:Option β->Prop)
 (h:∀ v r,I v->(∀ v',I v'->m v'<m v->p (r v'))->p (step v r)):∀ (n:Nat) (v:σ),I v->m v<n->p (iter step n v)
 | 0,v,_,hm=>by omega
 | n+1,v,hv,hm=>h v (iter step n) hv fun v' hv' hlt=>zkh I m p h n v' hv' (by omega)
theorem z1ct (x:Int):IntKind.wrap .i64 x=(x+9223372036854775808) % 18446744073709551616 - 9223372036854775808:=by
 simp only[IntKind.wrap,IntKind.bits,IntKind.signed,Bool.true_and,decide_eq_true_eq,Nat.add_one_sub_one,Int.reducePow,ge_iff_le];split<;>omega
def I64 (x:Int):Prop:=-9223372036854775808<=x/\x<=9223372036854775807
instance (x:Int):Decidable (I64 x):=by unfold I64;infer_instance
theorem z90 {x:Int}(h:I64 x):IntKind.wrap .i64 x=x:=by
 rw[z1ct];unfold I64 at h;omega
theorem z1d {α:Type}{b:Bool}(h:b=true)(x y:α):cond b x y=x:=by rw[h];rfl
theorem z6z {α:Type}{b:Bool}(h:b=false)(x y:α):cond b x y=y:=by rw[h];rfl
theorem z3d {n len:Nat}(h:n<len):inR (n:Int) len=true:=by simp only[inR,decide_eq_true_eq];omega
theorem z15t {i:Int}{len:Nat}(h:0<=i)(h':i<len):inR i len=true:=by simp only[inR,decide_eq_true_eq];omega
def zs5:T->Bool
 | .int _=>true
 | .bool=>true
 | .str=>true
 | .unit=>true
 | .pair a b=>zs5 a && zs5 b
 | .arr _ t=>zs5 t
 | _=>false
theorem zou:∀ (t:T) (x y:t.den),zs5 t=true->(eqD t x y=true ↔ x=y)
 | .int _,x,y,_=>by simp[eqD]
 | .bool,x,y,_=>by simp[eqD]
 | .str,x,y,_=>by simp[eqD]
 | .unit,x,y,_=>by simp[eqD]
 | .pair a b,x,y,h=>by
   simp only[zs5,Bool.and_eq_true] at h;have h1:=zou a x.1 y.1 h.1;have h2:=zou b x.2 y.2 h.2;simp only[eqD];cases hq:eqD a x.1 y.1 with
   | false =>
     rw[hq] at h1;simp only[cond_false,Bool.false_eq_true,false_iff];intro e;exact absurd (h1.2 (by rw[e])) (by simp)
   | true =>
     rw[cond_true,h2];constructor
     . intro e;exact Prod.ext (h1.1 hq) e
     . intro e;rw[e]
 | .arr n t,xs,ys,h=>by
   have h:zs5 t=true:=h;simp only[eqD]
   induction xs generalizing ys with
   | nil=>cases ys<;>simp[zye]
   | cons x xs ih =>
     cases ys with
     | nil=>simp[zye]
     | cons y ys =>
       have h1:=zou t x y h;simp only[zye];cases hq:eqD t x y with
       | false =>
         rw[hq] at h1;simp only[cond_false,Bool.false_eq_true,false_iff];intro e;exact absurd (h1.2 (List.cons.inj e).1) (by simp)
       | true =>
         rw[cond_true];have h2:zye (eqD t) xs ys=true ↔ xs=ys:=ih ys;constructor
         . intro e;rw[h1.1 hq,h2.1 e]
         . intro e;exact h2.2 (List.cons.inj e).2
 | .opq,x,y,h=>by simp[zs5] at h
 | .sl _,x,y,h=>by simp[zs5] at h
 | .ptr _,x,y,h=>by simp[zs5] at h
end
end Go.Proofs.YtjbcpimnlgogiaaDoorPx
set_option linter.all false
namespace Go.Proofs.YtjbcpimnlgogiaaDoorPx
noncomputable section
open Go Go.Lift
theorem z16m (x:Int):IntKind.wrap .u8 x=x % 256:=by
 simp only[IntKind.wrap,IntKind.bits,IntKind.signed,Bool.false_and,Bool.false_eq_true,if_false];rfl
theorem zky {x:Int}(h0:0<=x)(h1:x<256):IntKind.wrap .u8 x=x:=by rw[z16m];omega
theorem u8_lt (u:UInt8):u.toNat<256:=u.toNat_lt
theorem z5k {i:Nat}(h:i<9223372036854775807):IntKind.wrap .i64 ((i:Int)+1)=((i+1:Nat):Int):=by
 rw[z90 (by unfold I64;omega)];omega
theorem zsk (a b:List Int):zg1 (a++b)=zg1 a++zg1 b:=by simp[zg1]
theorem zyr (u:UInt8):zg1 [((u.toNat:Nat):Int)]=[u]:=by simp[zg1]
theorem zt8 (s:List UInt8):(zdt s).length=s.length:=by simp[zdt]
theorem zyb {α:Type}(l:List α)(d:α)(i:Nat)(h:i<l.length):l.getD i d∈l:=by
 rw[List.getD_eq_getElem?_getD,List.getElem?_eq_getElem h];simp
theorem za1 {α:Type}(l:List α)(d:α)(i:Nat)(h:i<l.length):l.drop i=l.getD i d::l.drop (i+1):=by
 rw[List.getD_eq_getElem?_getD,List.getElem?_eq_getElem h,Option.getD_some,List.drop_eq_getElem_cons h]
theorem z3p {p:Prop}[Decidable p](h:p):decide p=true:=decide_eq_true h
theorem z3s {p:Prop}[Decidable p](h:¬ p):decide p=false:=decide_eq_false h
theorem take_succ {α:Type}(l:List α)(d:α)(i:Nat)(h:i<l.length):l.take (i+1)=l.take i++[l.getD i d]:=by
 rw[List.getD_eq_getElem?_getD,List.getElem?_eq_getElem h,Option.getD_some,List.take_succ_eq_append_getElem h]
theorem zju {α:Type}(l:List α)(x:α)(i:Nat)(h:i<l.length):(l.set i x).take (i+1)=l.take i++[x]:=by
 rw[List.take_succ_eq_append_getElem (by simpa using h),List.getElem_set_self];congr 1;apply List.ext_getElem?;intro j;rw[List.getElem?_take,List.getElem?_take];split
 . rw[List.getElem?_set_ne (by omega)]
 . rfl
end
end Go.Proofs.YtjbcpimnlgogiaaDoorPx
set_option linter.all false
namespace Go.Proofs.YtjbcpimnlgogiaaDoorPx
noncomputable section
open Go Go.Lift
def U64 (x:Int):Prop:=0<=x/\x<18446744073709551616
instance (x:Int):Decidable (U64 x):=by unfold U64;infer_instance
def bit (w:Int)(i:Nat):Bool:=w.toNat.testBit i
theorem zx5 (x:Int):IntKind.wrap .u64 x=x % 18446744073709551616:=rfl
theorem z13t (x:Int):U64 (IntKind.wrap .u64 x):=by rw[zx5];unfold U64;omega
theorem z72 {x:Int}(h:U64 x):IntKind.wrap .u64 x=x:=by rw[zx5];unfold U64 at h;omega
theorem zrs {x:Int}(h:U64 x):(BitVec.ofInt 64 x).toNat=x.toNat:=by
 unfold U64 at h;rw[BitVec.toNat_ofInt];omega
theorem z160 (v:BitVec 64):U64 ((v.toNat:Nat):Int):=by
 have:=v.isLt;unfold U64;omega
theorem z139 {x y:Int}(hx:U64 x)(hy:U64 y):zd .and .u64 x y=((x.toNat &&& y.toNat:Nat):Int):=by
 have e:zd .and .u64 x y=IntKind.wrap .u64 ((BitVec.ofInt 64 x &&& BitVec.ofInt 64 y).toNat:Int):=rfl;rw[e,z72 (z160 _),BitVec.toNat_and,zrs hx,zrs hy]
theorem z1df {x y:Int}(hx:U64 x)(hy:U64 y):zd .or .u64 x y=((x.toNat ||| y.toNat:Nat):Int):=by
 have e:zd .or .u64 x y=IntKind.wrap .u64 ((BitVec.ofInt 64 x ||| BitVec.ofInt 64 y).toNat:Int):=rfl;rw[e,z72 (z160 _),BitVec.toNat_or,zrs hx,zrs hy]
theorem u64_or {x y:Int}(hx:U64 x)(hy:U64 y):U64 (zd .or .u64 x y):=by
 have e:zd .or .u64 x y=IntKind.wrap .u64 ((BitVec.ofInt 64 x ||| BitVec.ofInt 64 y).toNat:Int):=rfl;rw[e];exact z13t _
theorem z1o2 {x y:Int}(hx:U64 x)(hy:U64 y)(i:Nat):bit (zd .or .u64 x y) i=(bit x i || bit y i):=by
 rw[z1df hx hy];simp only[bit,Int.toNat_natCast,Nat.testBit_or]
theorem u64_pow {n:Nat}(hn:n<64):U64 ((2^n:Nat):Int):=by
 have hp:2^n<2^64:=Nat.pow_lt_pow_right (by omega) hn;have e:(2:Nat)^64=18446744073709551616:=rfl;rw[e] at hp;generalize 2^n=q at hp;unfold U64;omega
theorem shl1 {n:Nat}(hn:n<64):zsh .u64 1 (n:Int)=((2^n:Nat):Int):=by
 have e:zsh .u64 1 (n:Int)=IntKind.wrap .u64 (1*2^(min (n:Int).toNat 64)):=rfl;have hp:2^n<2^64:=Nat.pow_lt_pow_right (by omega) hn;rw[e,Int.toNat_natCast,Nat.min_eq_left (by omega),Int.one_mul];have e2:((2:Int)^n)=((2^n:Nat):Int):=by rw[Int.natCast_pow];rfl
 rw[e2,z72 (u64_pow hn)]
theorem z1b7 (n i:Nat):bit ((2^n:Nat):Int) i=decide (n=i):=by
 simp only[bit,Int.toNat_natCast,Nat.testBit_two_pow]
theorem z137 {x:Int}(hx:U64 x){n:Nat}(hn:n<64)(i:Nat):bit (zd .or .u64 x (zsh .u64 1 (n:Int))) i=(bit x i || decide (n=i)):=by
 rw[shl1 hn,z1o2 hx (u64_pow hn),z1b7]
theorem zup {x:Int}(hx:0<=x){n:Nat}(hn:n<64):z1y .u64 x (n:Int)=((x.toNat >>> n:Nat):Int):=by
 have e:z1y .u64 x (n:Int)=x.fdiv (2^(min (n:Int).toNat 64)):=rfl;rw[e,Int.toNat_natCast,Nat.min_eq_left (by omega),Nat.shiftRight_eq_div_pow];have e2:((2:Int)^n)=((2^n:Nat):Int):=by rw[Int.natCast_pow];rfl
 rw[e2,Int.fdiv_eq_ediv_of_nonneg _ (Int.natCast_nonneg _),Int.natCast_ediv];congr 1;omega
theorem z1ah {x:Int}(hx:U64 x){n:Nat}(hn:n<64):(zd .and .u64 (z1y .u64 x (n:Int)) 1 == 1)=bit x n:=by
 have hs:U64 (z1y .u64 x (n:Int)):=by
  rw[zup hx.1 hn,Nat.shiftRight_eq_div_pow];have h:=Nat.div_le_self x.toNat (2^n);generalize x.toNat / 2^n=q at *;unfold U64 at *;omega
 rw[z139 hs (by unfold U64;omega),zup hx.1 hn];simp only[Int.toNat_natCast,bit,Nat.testBit];have e:(1:Int).toNat=1:=rfl;rw[e,Nat.and_comm (x.toNat >>> n) 1];have h01:1 &&& (x.toNat >>> n)=(x.toNat >>> n) % 2:=by rw[Nat.and_comm];exact Nat.and_one_is_mod _
 rw[h01];have:(x.toNat >>> n) % 2<2:=Nat.mod_lt _ (by omega);rcases Nat.lt_or_ge ((x.toNat >>> n) % 2) 1 with h|h
 . have h0:(x.toNat >>> n) % 2=0:=by omega
   rw[h0];rfl
 . have h0:(x.toNat >>> n) % 2=1:=by omega
   rw[h0];rfl
def SetOk (s:List Int):Prop:=∃ a b c d,s=[a,b,c,d]/\U64 a/\U64 b/\U64 c/\U64 d
def zc2 (s:List Int)(b:Nat):Bool:=bit (s.getD (b / 64) 0) (b % 64)
theorem SetOk.length {s:List Int}(h:SetOk s):s.length=4:=by
 obtain⟨a,b,c,d,rfl,_⟩:=h;rfl
theorem SetOk.word {s:List Int}(h:SetOk s){i:Nat}(hi:i<4):U64 (s.getD i 0):=by
 obtain⟨a,b,c,d,rfl,ha,hb,hc,hd⟩:=h
 match i,hi with
 | 0,_=>exact ha
 | 1,_=>exact hb
 | 2,_=>exact hc
 | 3,_=>exact hd
theorem SetOk.set {s:List Int}(h:SetOk s){i:Nat}(hi:i<4){x:Int}(hx:U64 x):SetOk (s.set i x):=by
 obtain⟨a,b,c,d,rfl,ha,hb,hc,hd⟩:=h
 match i,hi with
 | 0,_=>exact⟨x,b,c,d,rfl,hx,hb,hc,hd⟩
 | 1,_=>exact⟨a,x,c,d,rfl,ha,hx,hc,hd⟩
 | 2,_=>exact⟨a,b,x,d,rfl,ha,hb,hx,hd⟩
 | 3,_=>exact⟨a,b,c,x,rfl,ha,hb,hc,hx⟩
theorem SetOk.map {s:List Int}(f:Int->Int)(hf:∀ x,U64 x->U64 (f x))(hs:SetOk s):SetOk (s.map f):=by
 obtain⟨a,b,c,d,rfl,ha,hb,hc,hd⟩:=hs;exact⟨_,_,_,_,rfl,hf _ ha,hf _ hb,hf _ hc,hf _ hd⟩
def z10m (s:List Int)(b:Nat):List Int:=s.set (b / 64) (zd .or .u64 (s.getD (b / 64) 0) (zsh .u64 1 ((b % 64:Nat):Int)))
theorem zuk {s:List Int}(hs:SetOk s){b:Nat}(hb:b<256):SetOk (z10m s b):=by
 have hi:b / 64<4:=by omega
 exact hs.set hi (u64_or (hs.word hi) (by rw[shl1 (by omega)];exact u64_pow (by omega)))
theorem z14n {s:List Int}(hs:SetOk s){b c:Nat}(hb:b<256)(hc:c<256):zc2 (z10m s b) c=(zc2 s c || decide (b=c)):=by
 have hi:b / 64<4:=by omega
 have hl:=hs.length;unfold zc2 z10m;by_cases h:b / 64=c / 64
 . rw[h];have e:(s.set (c / 64) (zd .or .u64 (s.getD (c / 64) 0) (zsh .u64 1 ((b % 64:Nat):Int)))).getD (c / 64) 0=zd .or .u64 (s.getD (c / 64) 0) (zsh .u64 1 ((b % 64:Nat):Int)):=by
    rw[List.getD_eq_getElem?_getD,List.getElem?_set_self (by omega)];rfl
   rw[e,z137 (hs.word (by omega)) (by omega)];congr 1;exact decide_eq_decide.2 (by omega)
 . have e:(s.set (b / 64) (zd .or .u64 (s.getD (b / 64) 0) (zsh .u64 1 ((b % 64:Nat):Int)))).getD (c / 64) 0=s.getD (c / 64) 0:=by
    rw[List.getD_eq_getElem?_getD,List.getElem?_set_ne h,<- List.getD_eq_getElem?_getD]
   rw[e,decide_eq_false (by omega),Bool.or_false]
theorem zv2:SetOk [0,0,0,0]:=⟨0,0,0,0,rfl,by decide,by decide,by decide,by decide⟩
end
end Go.Proofs.YtjbcpimnlgogiaaDoorPx
set_option linter.all false
namespace Go.Proofs.YtjbcpimnlgogiaaDoorPx
noncomputable section
open Go Go.Lift
theorem zuc {j a b c d:Nat}(ha:a<2^j)(hc:c<2^j):(a+2^j*b) &&& (c+2^j*d)=(a &&& c)+2^j*(b &&& d):=by
 have hp:0<2^j:=Nat.two_pow_pos j;have hac:a &&& c<2^j:=Nat.lt_of_le_of_lt Nat.and_le_left ha;have h1:((a+2^j*b) &&& (c+2^j*d)) % 2^j=a &&& c:=by
  rw[Nat.and_mod_two_pow,Nat.add_mul_mod_self_left,Nat.add_mul_mod_self_left,Nat.mod_eq_of_lt ha,Nat.mod_eq_of_lt hc]
 have h2:((a+2^j*b) &&& (c+2^j*d)) / 2^j=b &&& d:=by
  rw[Nat.and_div_two_pow,Nat.add_mul_div_left _ _ hp,Nat.add_mul_div_left _ _ hp,Nat.div_eq_of_lt ha,Nat.div_eq_of_lt hc,Nat.zero_add,Nat.zero_add]
 have h3:=Nat.mod_add_div ((a+2^j*b) &&& (c+2^j*d)) (2^j);rw[h1,h2] at h3;exact h3.symm
def zi8 (k:Nat):Nat->Nat
 | 0=>0
 | n+1=>(2^k - 1)+2^(2*k)*zi8 k n
def z5m (k:Nat):Nat->Nat->Nat
 | 0,_=>0
 | n+1,x=>(x % 2^k+x / 2^k % 2^k)+2^(2*k)*z5m k n (x / 2^(2*k))
def zvm (k:Nat):Nat->Nat->Nat
 | 0,_=>0
 | n+1,x=>x % 2^k+zvm k n (x / 2^k)
def dle (k m:Nat):Nat->Nat->Prop
 | 0,_=>True
 | n+1,x=>x % 2^k<=m/\dle k m n (x / 2^k)
theorem zbj (k:Nat):2^(2*k)=2^k*2^k:=by rw[Nat.two_mul,Nat.pow_add]
theorem z1dc {k:Nat}(hk:0<k):2<=2^k:=by
 have:=Nat.pow_le_pow_right (n:=2) (by omega) hk;simpa using this
theorem z15o {k:Nat}:2^k - 1<2^(2*k):=by
 have h:2^k<=2^(2*k):=Nat.pow_le_pow_right (by omega) (by omega);have:=Nat.two_pow_pos k;omega
theorem z1b9 (k x:Nat):(x % 2^(2*k)) &&& (2^k - 1)=x % 2^k:=by
 rw[Nat.and_two_pow_sub_one_eq_mod,zbj,Nat.mod_mul_left_mod]
theorem zyk (k:Nat):∀ n x,x &&& zi8 k n=0+(match n with|0=>0|n+1=>x % 2^k+2^(2*k)*((x / 2^(2*k)) &&& zi8 k n))
 | 0,x=>by simp only[zi8,Nat.and_zero]
 | n+1,x=>by
   have h:=zuc (j:=2*k) (a:=x % 2^(2*k)) (b:=x / 2^(2*k)) (c:=2^k - 1) (d:=zi8 k n) (Nat.mod_lt _ (Nat.two_pow_pos _)) z15o;rw[Nat.mod_add_div] at h;rw[zi8,h,z1b9,Nat.zero_add]
theorem zun (k:Nat):∀ n x,((x / 2^k) &&& zi8 k n)+(x &&& zi8 k n)=z5m k n x
 | 0,x=>by simp only[zi8,Nat.and_zero,z5m]
 | n+1,x=>by
   have e:x / 2^k / 2^(2*k)=x / 2^(2*k) / 2^k:=by rw[Nat.div_div_eq_div_mul,Nat.div_div_eq_div_mul,Nat.mul_comm]
   have h:=zun k n (x / 2^(2*k));have h1:=zyk k (n+1) (x / 2^k);have h2:=zyk k (n+1) x;simp only[Nat.zero_add] at h1 h2;rw[h1,h2,z5m,<- h,e,Nat.mul_add];omega
theorem zs7 (x k:Nat):x / 2^(2*k)=x / 2^k / 2^k:=by rw[zbj,Nat.div_div_eq_div_mul]
theorem zs3 {k:Nat}(hk:0<k)(x y:Nat):x % 2^k+y % 2^k<2^(2*k):=by
 have h1:=Nat.mod_lt x (Nat.two_pow_pos k);have h2:=Nat.mod_lt y (Nat.two_pow_pos k);have h3:=z1dc hk;rw[zbj];have:2*2^k<=2^k*2^k:=Nat.mul_le_mul_right _ h3;omega
theorem zsn {k:Nat}(hk:0<k)(n x:Nat):z5m k (n+1) x % 2^(2*k)=x % 2^k+x / 2^k % 2^k:=by
 rw[z5m,Nat.add_mul_mod_self_left,Nat.mod_eq_of_lt (zs3 hk _ _)]
theorem zso {k:Nat}(hk:0<k)(n x:Nat):z5m k (n+1) x / 2^(2*k)=z5m k n (x / 2^(2*k)):=by
 rw[z5m,Nat.add_mul_div_left _ _ (Nat.two_pow_pos _),Nat.div_eq_of_lt (zs3 hk _ _),Nat.zero_add]
theorem zkj {k:Nat}(hk:0<k):∀ n x,zvm (2*k) n (z5m k n x)=zvm k (2*n) x
 | 0,x=>rfl
 | n+1,x=>by
   rw[zvm,zsn hk,zso hk,zkj hk n,Nat.mul_add,Nat.mul_one];simp only[zvm];rw[zs7,Nat.add_assoc]
theorem zng {k m:Nat}(hk:0<k):∀ n x,dle k m (2*n) x->dle (2*k) (m+m) n (z5m k n x)
 | 0,x,_=>trivial
 | n+1,x,h=>by
   rw[Nat.mul_add,Nat.mul_one] at h;simp only[dle] at h;rw[dle,zsn hk,zso hk];refine⟨by omega,zng hk n _ ?_⟩;rw[zs7];exact h.2.2
theorem zxh {k m:Nat}(hm:m+m<2^k):∀ n x,dle k m (2*n+1) x->((x / 2^k+x) &&& zi8 k n)=z5m k n x
 | 0,x,_=>by simp only[zi8,Nat.and_zero,z5m]
 | n + 1,x,h=>by
   have e2:2*(n+1)+1=(2*n+1)+1+1:=by omega
   rw[e2] at h;simp only[dle] at h;obtain⟨h0,h1,h2⟩:=h;have ih:=zxh hm n (x / 2^k / 2^k) h2;have h3:=h2.1;have d0:=Nat.mod_add_div x (2^k);have d1:=Nat.mod_add_div (x / 2^k) (2^k);have d2:=Nat.mod_add_div (x / 2^k / 2^k) (2^k);have hB:=Nat.two_pow_pos k;have e:x / 2^k+x=((x % 2^k+x / 2^k % 2^k)+2^k*(x / 2^k % 2^k+x / 2^k / 2^k % 2^k))+2^(2*k)*(x / 2^k / 2^k / 2^k+x / 2^k / 2^k):=by
    rw[zbj];generalize 2^k=B at *;generalize x / B / B / B=r2 at *;generalize x / B / B % B=c at *;generalize x / B / B=r1 at *;generalize x / B % B=b at *;generalize x / B=r0 at *;generalize x % B=a at *;subst d0;subst d2;subst d1;simp only[Nat.mul_add,Nat.mul_assoc];omega
   have hlt:(x % 2^k+x / 2^k % 2^k)+2^k*(x / 2^k % 2^k+x / 2^k / 2^k % 2^k)<2^(2*k):=by
    have g1:x % 2^k+x / 2^k % 2^k<2^k:=by omega
    have g2:x / 2^k % 2^k+x / 2^k / 2^k % 2^k+1<=2^k:=by omega
    have g3:=Nat.mul_le_mul_left (2^k) g2;rw[Nat.mul_add,Nat.mul_one] at g3;rw[zbj];omega
   have hs:=zuc (j:=2*k) (b:=x / 2^k / 2^k / 2^k+x / 2^k / 2^k) (d:=zi8 k n) hlt (z15o (k:=k));rw[e,zi8,hs,Nat.and_two_pow_sub_one_eq_mod,Nat.add_mul_mod_self_left,Nat.mod_eq_of_lt (by omega),ih,z5m,zs7]
theorem zhl {k:Nat}(hk:0<k):∀ n x,z5m k n x<2^(2*k*n)
 | 0,x=>by simp only[z5m,Nat.mul_zero,Nat.pow_zero];omega
 | n+1,x=>by
   have h:=zs3 hk x (x / 2^k);have ih:=zhl hk n (x / 2^(2*k));rw[z5m,Nat.mul_add,Nat.mul_one,Nat.pow_add,Nat.mul_comm (2^(2*k*n))];have g:=Nat.mul_le_mul_left (2^(2*k)) (show z5m k n (x / 2^(2*k))+1<=2^(2*k*n) from ih);rw[Nat.mul_add,Nat.mul_one] at g;omega
theorem zyi {k m:Nat}:∀ n x,dle k m n x->x<2^(k*n)->dle k m (n+1) x
 | 0,x,_,h=>by
   simp only[Nat.mul_zero,Nat.pow_zero] at h;have:x=0:=by omega
   subst this;simp only[dle,Nat.zero_mod];exact⟨Nat.zero_le _,trivial⟩
 | n+1,x,hd,h=>by
   refine⟨hd.1,zyi n _ hd.2 ?_⟩;rw[Nat.mul_add,Nat.mul_one,Nat.pow_add,Nat.mul_comm] at h;exact Nat.div_lt_of_lt_mul h
def pop:Nat->Nat->Nat
 | 0,_=>0
 | n+1,x=>x % 2+pop n (x / 2)
theorem zyh:∀ n x,zvm 1 n x=pop n x
 | 0,_=>rfl
 | n+1,x=>by
   rw[zvm,pop,zyh n]
theorem z12i:∀ n x,dle 1 1 n x
 | 0,_=>trivial
 | n+1,x=>⟨by omega,z12i n _⟩
def fld (x i:Nat):Nat:=x / 256^i % 256
theorem zhw (x i:Nat):fld x (i+1)=fld (x / 256) i:=by
 unfold fld;rw[Nat.pow_succ,Nat.mul_comm,Nat.div_div_eq_div_mul]
theorem zhv (x:Nat):fld x 0=x % 256:=by
 unfold fld;rw[Nat.pow_zero,Nat.div_one]
theorem hop {m:Nat}(j:Nat)(hm:m+m<256):∀ i x,(∀ i,fld x i<=m)->fld (x+x / 256^j) i=fld x i+fld x (i+j)
 | 0,x,h=>by
   have h0:=h 0;have hj:=h j;have e0:fld x 0=x % 256:=zhv x;have ej:fld x j=x / 256^j % 256:=rfl;rw[Nat.zero_add,zhv (x+x / 256^j),Nat.add_mod,<- e0,<- ej];exact Nat.mod_eq_of_lt (by omega)
 | i + 1,x,h=>by
   have h0:=h 0;have hj:=h j;have e0:fld x 0=x % 256:=zhv x;have ej:fld x j=x / 256^j % 256:=rfl;have ed:x / 256^j / 256=x / 256 / 256^j:=by rw[Nat.div_div_eq_div_mul,Nat.div_div_eq_div_mul,Nat.mul_comm]
   have e:(x+x / 256^j) / 256=x / 256+x / 256 / 256^j:=by
    rw[<- ed];rw[e0] at h0;rw[ej] at hj;generalize x / 256^j=r at *;omega
   have e1:i+1+j=(i+j)+1:=by omega
   rw[zhw,e,hop j hm i (x / 256) (fun i=>by rw[<- zhw];exact h _),e1,zhw x i,zhw x (i+j)]
theorem z12c {m:Nat}:∀ n x,dle 8 m n x->x<2^(8*n)->∀ i,fld x i<=m
 | 0,x,_,hx,i=>by
   simp only[Nat.mul_zero,Nat.pow_zero] at hx;have:x=0:=by omega
   subst this;unfold fld;rw[Nat.zero_div];exact Nat.zero_le _
 | n+1,x,h,hx,0=>by
   rw[zhv];exact h.1
 | n+1,x,h,hx,i+1=>by
   rw[zhw];refine z12c n _ h.2 ?_ i;rw[Nat.mul_add,Nat.mul_one,Nat.pow_add,Nat.mul_comm] at hx;exact Nat.div_lt_of_lt_mul hx
theorem z14s:∀ n x,zvm 8 (n+1) x=fld x 0+zvm 8 n (x / 256)
 | _,x=>by rw[zvm,zhv]
theorem fold8 {x:Nat}(h:dle 8 8 8 x)(hx:x<18446744073709551616) :
 ((x+x / 256)+(x+x / 256) / 65536+((x+x / 256)+(x+x / 256) / 65536) / 4294967296) % 128=zvm 8 8 x:=by
 have hf:=z12c 8 x h (by simp only[Nat.reduceMul,Nat.reducePow];exact hx);have p1:(256:Nat)=256^1:=rfl;have p2:(65536:Nat)=256^2:=rfl;have p4:(4294967296:Nat)=256^4:=rfl;have s1:∀ i,fld (x+x / 256) i=fld x i+fld x (i+1):=fun i=>by
  have:=hop 1 (m:=8) (by omega) i x hf
  rwa [<- p1] at this
 have l1:∀ i,fld (x+x / 256) i<=16:=fun i=>by
  have:=hf i;have:=hf (i+1);rw[s1];omega
 generalize x+x / 256=y at *;have s2:∀ i,fld (y+y / 65536) i=fld y i+fld y (i+2):=fun i=>by
  have:=hop 2 (m:=16) (by omega) i y l1
  rwa [<- p2] at this
 have l2:∀ i,fld (y+y / 65536) i<=32:=fun i=>by
  have:=l1 i;have:=l1 (i+2);rw[s2];omega
 generalize y+y / 65536=z at *;have s3:fld (z+z / 4294967296) 0=fld z 0+fld z (0+4):=by
  have:=hop 4 (m:=32) (by omega) 0 z l2
  rwa [<- p4] at this
 have e:(z+z / 4294967296) % 128=fld (z+z / 4294967296) 0 % 128:=by
  rw[zhv,Nat.mod_mod_of_dvd];exact⟨2,rfl⟩
 have h0:=l2 0;have h4:=l2 4;rw[e,s3,Nat.zero_add,Nat.mod_eq_of_lt (by omega),s2,s2,s1,s1,s1,s1];simp only[z14s];simp only[<- zhw];simp only[zvm,Nat.zero_add,Nat.reduceAdd];omega
theorem z14q {x:Nat}(hx:x<1085102592571150096) :
 x+x / 256<18446744073709551616/\(x+x / 256)+(x+x / 256) / 65536<18446744073709551616
 /\ (x+x / 256)+(x+x / 256) / 65536+((x+x / 256)+(x+x / 256) / 65536) / 4294967296<9223372036854775808:=by
 have h1:x+x / 256<1200000000000000000:=by omega
 generalize x+x / 256=y at *;have h2:y+y / 65536<1300000000000000000:=by omega
 generalize y+y / 65536=z at *;refine⟨by omega,by omega,by omega⟩
end
end Go.Proofs.YtjbcpimnlgogiaaDoorPx
set_option linter.all false
namespace Go.Proofs.YtjbcpimnlgogiaaDoorPx
noncomputable section
open Go Go.Lift
theorem z12j {k m:Nat}:∀ n x,dle k m (n+1) x->x<2^(k*(n+1))->x<(m+1)*2^(k*n)
 | 0,x,h,hx=>by
   have h0:=h.1;rw[Nat.zero_add,Nat.mul_one] at hx;rw[Nat.mod_eq_of_lt hx] at h0;rw[Nat.mul_zero,Nat.pow_zero,Nat.mul_one];omega
 | n+1,x,h,hx=>by
   rw[Nat.mul_add,Nat.mul_one,Nat.pow_add,Nat.mul_comm (2^(k*(n+1)))] at hx;have ih:=z12j n (x / 2^k) h.2 (Nat.div_lt_of_lt_mul hx);have e:=(Nat.div_lt_iff_lt_mul (Nat.two_pow_pos k)).1 ih;rw[Nat.mul_add,Nat.mul_one,Nat.pow_add,<- Nat.mul_assoc];exact e
def s1I (x:Int):Int:=IntKind.wrap .u64 (zd .and .u64 (z1y .u64 x 1) 6148914691236517205+zd .and .u64 x 6148914691236517205)
def s2I (x:Int):Int:=IntKind.wrap .u64 (zd .and .u64 (z1y .u64 x 2) 3689348814741910323+zd .and .u64 x 3689348814741910323)
def s3I (x:Int):Int:=zd .and .u64 (IntKind.wrap .u64 (z1y .u64 x 4+x)) 1085102592571150095
def s4I (k x:Int):Int:=IntKind.wrap .u64 (x+z1y .u64 x k)
def zuz (x:Int):Int:=zd .and .i64 (IntKind.wrap .i64 (s4I 32 (s4I 16 (s4I 8 (s3I (s2I (s1I x))))))) 127
theorem zl1 {n:Nat}(h:n<18446744073709551616):U64 (n:Int):=by unfold U64;omega
theorem zrd {n k:Nat}(hk:k<64):z1y .u64 (n:Int) (k:Int)=((n / 2^k:Nat):Int):=by
 rw[zup (by omega) hk,Int.toNat_natCast,Nat.shiftRight_eq_div_pow]
theorem zpl {n m:Nat}(hn:n<18446744073709551616)(hm:m<18446744073709551616):zd .and .u64 (n:Int) (m:Int)=((n &&& m:Nat):Int):=by
 rw[z139 (zl1 hn) (zl1 hm),Int.toNat_natCast,Int.toNat_natCast]
theorem z1ba {n:Nat}(hn:n<9223372036854775808):zd .and .i64 (n:Int) 127=((n % 128:Nat):Int):=by
 have e:zd .and .i64 (n:Int) 127=IntKind.wrap .i64 ((BitVec.ofInt 64 (n:Int) &&& BitVec.ofInt 64 127).toNat:Int):=rfl;have e1:(BitVec.ofInt 64 (n:Int)).toNat=n:=by rw[BitVec.toNat_ofInt];omega
 have e2:(BitVec.ofInt 64 (127:Int)).toNat=127:=rfl;have e3:n &&& 127=n % 128:=Nat.and_two_pow_sub_one_eq_mod n 7;rw[e,BitVec.toNat_and,e1,e2,e3,z90 (by unfold I64;omega)]
theorem m1:(6148914691236517205:Nat)=zi8 1 32:=by decide
theorem m2:(3689348814741910323:Nat)=zi8 2 16:=by decide
theorem m3:(1085102592571150095:Nat)=zi8 4 8:=by decide
theorem z1d7 {n:Nat}(h:n<18446744073709551616):s1I (n:Int)=((z5m 1 32 n:Nat):Int):=by
 have hs:z5m 1 32 n<18446744073709551616:=zhl (by omega) 32 n;have hd:n / 2^1<18446744073709551616:=Nat.lt_of_le_of_lt (Nat.div_le_self _ _) h;have e:=zun 1 32 n;have a1:z1y .u64 (n:Int) 1=((n / 2^1:Nat):Int):=zrd (k:=1) (by omega);have a2:=zpl hd (m:=6148914691236517205) (by omega);have a3:=zpl h (m:=6148914691236517205) (by omega);rw[m1] at a2 a3;unfold s1I;rw[a1];show IntKind.wrap .u64 (zd .and .u64 _ ((6148914691236517205:Nat):Int)+zd .and .u64 _ ((6148914691236517205:Nat):Int))=_;rw[m1,a2,a3,<- e,z72]
 . rw[Int.natCast_add]
 . rw[<- Int.natCast_add,e];exact zl1 hs
theorem z1d6 {n:Nat}(h:n<18446744073709551616):s2I (n:Int)=((z5m 2 16 n:Nat):Int):=by
 have hs:z5m 2 16 n<18446744073709551616:=zhl (by omega) 16 n;have hd:n / 2^2<18446744073709551616:=Nat.lt_of_le_of_lt (Nat.div_le_self _ _) h;have e:=zun 2 16 n;have a1:z1y .u64 (n:Int) 2=((n / 2^2:Nat):Int):=zrd (k:=2) (by omega);have a2:=zpl hd (m:=3689348814741910323) (by omega);have a3:=zpl h (m:=3689348814741910323) (by omega);rw[m2] at a2 a3;unfold s2I;rw[a1];show IntKind.wrap .u64 (zd .and .u64 _ ((3689348814741910323:Nat):Int)+zd .and .u64 _ ((3689348814741910323:Nat):Int))=_;rw[m2,a2,a3,<- e,z72]
 . rw[Int.natCast_add]
 . rw[<- Int.natCast_add,e];exact zl1 hs
theorem z1d5 {n:Nat}(h:n<18446744073709551616)(hd:dle 4 4 16 n):s3I (n:Int)=((z5m 4 8 n:Nat):Int):=by
 have hb:n<(4+1)*2^(4*15):=z12j 15 n hd h;simp only[Nat.reduceAdd,Nat.reduceMul,Nat.reducePow] at hb;have e:=zxh (k:=4) (m:=4) (by decide) 8 n (zyi 16 n hd h);have a1:z1y .u64 (n:Int) 4=((n / 2^4:Nat):Int):=zrd (k:=4) (by omega);have hd2:n / 2^4+n<18446744073709551616:=by
  have:=Nat.div_le_self n (2^4);omega
 have a2:=zpl hd2 (m:=1085102592571150095) (by omega);rw[m3,e] at a2;unfold s3I;rw[a1,<- Int.natCast_add,z72 (zl1 hd2)];show zd .and .u64 _ ((1085102592571150095:Nat):Int)=_;rw[m3,a2]
theorem z113 {n k:Nat}(hk:k<64)(h:n+n / 2^k<18446744073709551616):s4I (k:Int) (n:Int)=((n+n / 2^k:Nat):Int):=by
 unfold s4I;rw[zrd hk,<- Int.natCast_add,z72 (zl1 h)]
theorem z14e {n:Nat}(h:n<18446744073709551616):zuz (n:Int)=((pop 64 n:Nat):Int):=by
 have h1:z5m 1 32 n<18446744073709551616:=zhl (by omega) 32 n;have d1:dle 2 2 32 (z5m 1 32 n):=zng (by omega) 32 n (z12i 64 n);have u1:zvm 2 32 (z5m 1 32 n)=pop 64 n:=by rw[<- zyh];exact zkj (by omega) 32 n
 unfold zuz;rw[z1d7 h];generalize z5m 1 32 n=x at *;have h2:z5m 2 16 x<18446744073709551616:=zhl (by omega) 16 x;have d2:dle 4 4 16 (z5m 2 16 x):=zng (by omega) 16 x d1;have u2:zvm 4 16 (z5m 2 16 x)=pop 64 n:=by rw[<- u1];exact zkj (by omega) 16 x
 rw[z1d6 h1];generalize z5m 2 16 x=y at *;have h3:z5m 4 8 y<18446744073709551616:=zhl (by omega) 8 y;have d3:dle 8 8 8 (z5m 4 8 y):=zng (by omega) 8 y d2;have u3:zvm 8 8 (z5m 4 8 y)=pop 64 n:=by rw[<- u2];exact zkj (by omega) 8 y
 rw[z1d5 h2 d2];generalize z5m 4 8 y=z at *;have hb:z<(8+1)*2^(8*7):=z12j 7 z d3 h3;simp only[Nat.reduceAdd,Nat.reduceMul,Nat.reducePow] at hb;obtain⟨l1,l2,l3⟩:=z14q (x:=z) (by omega);have f:=fold8 d3 h3;have q1:s4I 8 (z:Int)=((z+z / 256:Nat):Int):=z113 (k:=8) (by omega) l1;rw[q1];generalize z+z / 256=a at *;have q2:s4I 16 (a:Int)=((a+a / 65536:Nat):Int):=z113 (k:=16) (by omega) l2;rw[q2];generalize a+a / 65536=b at *;have q3:s4I 32 (b:Int)=((b+b / 4294967296:Nat):Int):=z113 (k:=32) (by omega) (by omega);rw[q3,z90 (by unfold I64;omega),z1ba l3,f,u3]
theorem zrr {x:Int}(h:U64 x):zuz x=((pop 64 x.toNat:Nat):Int):=by
 obtain⟨n,rfl⟩:=Int.eq_ofNat_of_zero_le h.1;have:=h.2;rw[Int.toNat_natCast,z14e (by omega)]
def cnt (f:Nat->Bool):Nat->Nat
 | 0=>0
 | n+1=>cnt f n+(f n).toNat
theorem z15y (f:Nat->Bool):∀ n,cnt f n<=n
 | 0=>Nat.le_refl _
 | n+1=>by
   have:=z15y f n;have:(f n).toNat<=1:=by cases f n<;>decide
   simp only[cnt];omega
theorem zp1 {f g:Nat->Bool}:∀ n,(∀ i,i<n->f i=g i)->cnt f n=cnt g n
 | 0,_=>rfl
 | n+1,h=>by rw[cnt,cnt,zp1 n (fun i hi=>h i (by omega)),h n (by omega)]
theorem zlu (f:Nat->Bool)(m:Nat):∀ n,cnt f (m+n)=cnt f m+cnt (fun i=>f (m+i)) n
 | 0=>rfl
 | n+1=>by rw[<- Nat.add_assoc,cnt,cnt,zlu f m n,Nat.add_assoc]
theorem zo5:∀ n x,pop n x=cnt (fun i=>x.testBit i) n
 | 0,_=>rfl
 | n+1,x=>by
   have h:cnt (fun i=>x.testBit i) (1+n)=cnt (fun i=>x.testBit i) 1+cnt (fun i=>x.testBit (1+i)) n:=zlu _ 1 n;have e:cnt (fun i=>x.testBit (1+i)) n=cnt (fun i=>(x / 2).testBit i) n:=zp1 n (fun i _=>by rw[Nat.add_comm,Nat.testBit_succ]);rw[Nat.add_comm n 1,h,e,<- zo5 n,Nat.add_comm 1 n,pop];congr 1;simp only[cnt,Nat.testBit_zero,Nat.zero_add];have:=Nat.mod_lt x (show 0<2 by omega);obtain h|h:x % 2=0\/x % 2=1:=by omega
   . rw[h];rfl
   . rw[h];rfl
def z1bz (s:List Int):Nat:=cnt (zc2 s) 256
theorem z12r {s:List Int}{a b c d:Int}(e:s=[a,b,c,d]):z1bz s=pop 64 a.toNat+pop 64 b.toNat+pop 64 c.toNat+pop 64 d.toNat:=by
 subst e;have h1:cnt (zc2 [a,b,c,d]) (64+(64+(64+64)))=_:=zlu _ 64 _;rw[zlu _ 64 (64+64),zlu _ 64 64] at h1;unfold z1bz;rw[show (256:Nat)=64+(64+(64+64)) from rfl,h1,zo5,zo5,zo5,zo5,Nat.add_assoc,Nat.add_assoc];have k (w:Nat) (hw:w<4):cnt (fun i=>zc2 [a,b,c,d] (64*w+i)) 64=cnt (fun i=>([a,b,c,d].getD w 0).toNat.testBit i) 64:=zp1 64 (fun i hi=>by
  unfold zc2 bit;rw[show (64*w+i) / 64=w by omega,show (64*w+i) % 64=i by omega])
 have k0:=k 0 (by omega);have k1:=k 1 (by omega);have k2:=k 2 (by omega);have k3:=k 3 (by omega);simp only[Nat.mul_zero,Nat.zero_add,Nat.mul_one,Nat.reduceMul] at k0 k1 k2 k3;have e2:(fun i=>zc2 [a,b,c,d] (64+(64+i)))=fun i=>zc2 [a,b,c,d] (128+i):=by funext i;rw[<- Nat.add_assoc]
 have e3:(fun i=>zc2 [a,b,c,d] (64+(64+(64+i))))=fun i=>zc2 [a,b,c,d] (192+i):=by funext i;rw[<- Nat.add_assoc,<- Nat.add_assoc]
 have e0:cnt (zc2 [a,b,c,d]) 64=cnt (fun i=>zc2 [a,b,c,d] i) 64:=rfl;rw[e0,k0,k1,e2,k2,e3,k3];rfl
theorem zvs (s:List Int):z1bz s<=256:=z15y _ _
theorem zx8 {x y:Int}(hx:U64 x)(hy:U64 y)(h:∀ i,i<64->bit x i=bit y i):x=y:=by
 have e:x.toNat=y.toNat:=Nat.eq_of_testBit_eq (fun i=>by
  by_cases hi:i<64
  . exact h i hi
  . have e64:(18446744073709551616:Nat)<=2^i:=Nat.le_trans (by decide) (Nat.pow_le_pow_right (n:=2) (by omega) (show 64<=i by omega));rw[Nat.testBit_lt_two_pow (Nat.lt_of_lt_of_le (by have:=hx.2;omega) e64),Nat.testBit_lt_two_pow (Nat.lt_of_lt_of_le (by have:=hy.2;omega) e64)])
 have:=hx.1;have:=hy.1;omega
end
end Go.Proofs.YtjbcpimnlgogiaaDoorPx
set_option linter.all false
namespace Go.Proofs.YtjbcpimnlgogiaaDoorPx
noncomputable section
open Go Go.Lift
def zmu (s:List Int):Nat->Nat->List Nat
 | 0,_=>[]
 | n+1,b=>if zc2 s b=true then b::zmu s n (b+1) else zmu s n (b+1)
theorem zn6 (s:List Int):∀ n b c,c∈zmu s n b ↔ b<=c/\c<b+n/\zc2 s c=true
 | 0,b,c=>by simp only[zmu,List.not_mem_nil,false_iff];omega
 | n + 1,b,c=>by
   have ih:=zn6 s n (b+1) c;rw[zmu];split
   . rename_i h;rw[List.mem_cons,ih];constructor
     . rintro (rfl|h1)
       . exact⟨Nat.le_refl _,by omega,h⟩
       . exact⟨by omega,by omega,h1.2.2⟩
     . rintro⟨h1,h2,h3⟩;by_cases e:c=b
       . exact .inl e
       . exact .inr ⟨by omega,by omega,h3⟩
   . rename_i h;rw[ih];constructor
     . rintro⟨h1,h2,h3⟩;exact⟨by omega,by omega,h3⟩
     . rintro⟨h1,h2,h3⟩;have:c≠b:=fun e=>h (e ▸ h3)
       exact⟨by omega,by omega,h3⟩
theorem zxf (s:List Int):∀ n b,(zmu s n b).length=cnt (fun i=>zc2 s (b+i)) n
 | 0,_=>rfl
 | n + 1,b=>by
   have e:cnt (fun i=>zc2 s (b+i)) (1+n)=cnt (fun i=>zc2 s (b+i)) 1+cnt (fun i=>zc2 s (b+(1+i))) n:=zlu _ 1 n;have e2:cnt (fun i=>zc2 s (b+(1+i))) n=cnt (fun i=>zc2 s (b+1+i)) n:=by simp only[Nat.add_assoc]
   rw[Nat.add_comm n 1,e,e2,<- zxf s n (b+1),Nat.add_comm 1 n,zmu];simp only[cnt,Nat.add_zero,Nat.zero_add];cases h:zc2 s b
   . rw[if_neg (by decide)];show _=0+_;omega
   . rw[if_pos rfl,List.length_cons];show _=1+_;omega
def zmt (s:List Int):List UInt8:=(zmu s 256 0).map UInt8.ofNat
theorem z13y (s:List Int):(zmt s).length=z1bz s:=by
 have e:(fun i=>zc2 s (0+i))=zc2 s:=by funext i;rw[Nat.zero_add]
 rw[zmt,List.length_map,zxf,e,z1bz]
def inS (l:List UInt8)(c:Nat):Bool:=l.any fun u=>u.toNat == c
theorem z17n {s:List Int}{c:Nat}(hc:c<256):inS (zmt s) c=zc2 s c:=by
 rw[Bool.eq_iff_iff];unfold inS zmt;rw[List.any_eq_true];constructor
 . rintro⟨u,hu,he⟩;obtain⟨n,hn,rfl⟩:=List.mem_map.1 hu;have hm:=(zn6 s 256 0 n).1 hn;rw[UInt8.toNat_ofNat'] at he;have:=eq_of_beq he;have e:n=c:=by omega
   exact e ▸ hm.2.2
 . intro h;refine⟨UInt8.ofNat c,List.mem_map.2 ⟨c,(zn6 s 256 0 c).2 ⟨Nat.zero_le _,by omega,h⟩,rfl⟩,?_⟩;rw[UInt8.toNat_ofNat',Nat.mod_eq_of_lt hc,beq_self_eq_true]
end
end Go.Proofs.YtjbcpimnlgogiaaDoorPx
set_option linter.all false
set_option maxRecDepth 100000
namespace Go.Proofs.YtjbcpimnlgogiaaDoorLg
noncomputable section
open Go Go.Lift Go.Proofs.YtjbcpimnlgogiaaDoorPx
theorem z1nw {b:Nat}(hb:b<256):Go.IntKind.wrap .u8 (Int.tdiv (b:Int) (64:Int))=((b / 64:Nat):Int):=by
 rw[Int.tdiv_eq_ediv_of_nonneg (by omega),zky (by omega) (by omega)];omega
theorem z1gu (b:Nat):Int.tmod (b:Int) (64:Int)=((b % 64:Nat):Int):=by
 rw[Int.tmod_eq_emod_of_nonneg (by omega)];omega
theorem z1hb (N:Nat){s:List Int}(hs:SetOk s){b:Nat}(hb:b<256):z9c N s (b:Int)=some (zc2 s b):=by
 have hi:b / 64<4:=by omega
 rw[z9c,z1nw hb,z1gu,Int.toNat_natCast,z1d (z3d hi),z1d (decide_eq_true (by rw[hs.length];exact hi)),z1d (decide_eq_true (by omega)),
  z1ah (hs.word hi) (by omega)]
 rfl
theorem z1nx (N:Nat)(a b c d:Int):z8i (N+5) [a,b,c,d] =
 some (Go.IntKind.wrap .i64 (Go.IntKind.wrap .i64 (Go.IntKind.wrap .i64 (Go.IntKind.wrap .i64 (0+zuz a)+zuz b)+zuz c)+zuz d)):=by kernel_rfl
theorem z14u (N:Nat){s:List Int}(hs:SetOk s):z8i (N+5) s=some ((z1bz s:Nat):Int):=by
 obtain⟨a,b,c,d,rfl,ha,hb,hc,hd⟩:=hs;have h:=zvs [a,b,c,d];rw[z12r rfl] at h;rw[z1nx,zrr ha,zrr hb,zrr hc,zrr hd,z12r rfl];generalize pop 64 a.toNat=p at *;generalize pop 64 b.toNat=q at *;generalize pop 64 c.toNat=r at *;generalize pop 64 d.toNat=t at *;rw[z90 (x:=0+(p:Int)) (by unfold I64;omega),z90 (x:=0+(p:Int)+q) (by unfold I64;omega),z90 (x:=0+(p:Int)+q+r) (by unfold I64;omega),
  z90 (by unfold I64;omega)]
 congr 1;omega
def zvv (l:List Nat):List Int:=l.map Int.ofNat
theorem zq5:∀ l:List Nat,(∀ n∈l,n<256)->zg1 (zvv l)=l.map UInt8.ofNat
 | [],_=>rfl
 | n::l,h=>by
   have ih:=zq5 l (fun m hm=>h m (List.mem_cons_of_mem _ hm));have e:=zyr (UInt8.ofNat n);have hn:=h n (List.mem_cons_self ..);rw[UInt8.toNat_ofNat',Nat.mod_eq_of_lt hn] at e;have e1:zvv (n::l)=[(n:Int)]++zvv l:=rfl;rw[e1,zsk,e,ih];rfl
theorem z17o (N:Nat) {s:List Int} (hs:SetOk s) (hN:256<N+5):za3 (N+5) s=some (zmt s):=by
 have hc:=zvs s;rw[za3,z14u N hs];simp only[Option.bind_some];rw[z1d (decide_eq_true ⟨Int.le_refl _,by omega,by omega,by omega⟩),zh6]
 let R:List Int×Int->Option (List UInt8):=fun v=>some (zg1 (v.1++zvv (zmu s (256 - v.2.toNat) v.2.toNat)))
 have h:=zli (step:=fun (v:((List Int)×Int)) r=>z8h (N+5) s v.1 v.2 (fun out x8=>(r (out,x8))) (fun out=>some (zg1 out)))
  (I:=fun v=>(v.1.length:Int)<=v.2/\v.2<=256) (m:=fun v=>256 - v.2.toNat) (R:=R)
  (by
   rintro⟨out,b⟩ r ⟨h0,h1⟩ hr;simp only at h0 h1;obtain⟨b,rfl⟩:=Int.eq_ofNat_of_zero_le (show 0<=b by omega);simp only;rw[z8h];by_cases hb:b<256
   . have wb:Go.IntKind.wrap .u8 (b:Int)=(b:Int):=zky (by omega) (by omega);have wb1:Go.IntKind.wrap .i64 ((b:Int)+1)=((b+1:Nat):Int):=z5k (by omega);have e:256 - b=(256 - (b+1))+1:=by omega
     rw[z1d (decide_eq_true (by omega)),wb,z1hb (N+5) hs hb,wb1];simp only[Option.bind_some];rw[show R (out,(b:Int))=some (zg1 (out++zvv (zmu s (256 - b) b))) from rfl,e,zmu];cases hh:zc2 s b
     . rw[z6z rfl,if_neg (by decide),hr _ ⟨by simp only;omega,by simp only;omega⟩ (by simp only[Int.toNat_natCast];omega)];rfl
     . rw[z1d rfl,if_pos rfl,z1d (decide_eq_true (by omega)),hr _ ⟨by simp only[List.length_append,List.length_cons,List.length_nil];omega,by simp only;omega⟩ (by simp only[Int.toNat_natCast];omega)];simp only[R,Int.toNat_natCast,zvv,List.map_cons,List.append_assoc,List.singleton_append];rfl
   . rw[z6z (decide_eq_false (by omega))];have e:256 - b=0:=by omega
     simp only[R,Int.toNat_natCast,e,zmu,zvv,List.map_nil,List.append_nil]) (N+5) ([],(0:Int)) ⟨Int.le_refl _,by simp only;omega⟩ (by simp only[Int.toNat_zero];omega)
 rw[h];simp only[R,Int.toNat_zero,Nat.sub_zero,List.nil_append];rw[zq5 _ (fun n hn=>by have:=((zn6 s 256 0 n).1 hn).2.1;omega)];rfl
end
end Go.Proofs.YtjbcpimnlgogiaaDoorLg
set_option linter.all false
namespace Go.Proofs.YtjbcpimnlgogiaaDoorPx
noncomputable section
open Go Go.Lift
def z4m (f:Nat->Nat->Bool)(out:List Int)(i:Nat):Nat->Nat->Option Int
 | _,0=>none
 | j,n+1=>cond (f j i) (some (out.getD j 0)) (z4m f out i (j+1) n)
def zb7 (f:Nat->Nat->Bool):Nat->List Int×Nat
 | 0=>([],0)
 | n+1=>match z4m f (zb7 f n).1 n 0 n with
   | some c=>((zb7 f n).1++[c],(zb7 f n).2)
   | none=>((zb7 f n).1++[((zb7 f n).2:Int)],(zb7 f n).2+1)
theorem zht (f:Nat->Nat->Bool):∀ n,(zb7 f n).1.length=n
 | 0=>rfl
 | n+1=>by
   have ih:=zht f n;rw[zb7];cases z4m f (zb7 f n).1 n 0 n<;>simp only[List.length_append,ih,List.length_singleton]
theorem ztl (f:Nat->Nat->Bool):∀ n,(zb7 f n).2<=n
 | 0=>Nat.le_refl _
 | n+1=>by
   have ih:=ztl f n;rw[zb7];cases z4m f (zb7 f n).1 n 0 n
   . simp only;omega
   . simp only;omega
theorem zmg {f g:Nat->Nat->Bool}(out:List Int)(i:Nat):∀ n j,(∀ k,j<=k->k<j+n->f k i=g k i)->z4m f out i j n=z4m g out i j n
 | 0,_,_=>rfl
 | n+1,j,h=>by
   rw[z4m,z4m,h j (Nat.le_refl _) (by omega),zmg out i n (j+1) (fun k h1 h2=>h k (by omega) (by omega))]
theorem zqq {f g:Nat->Nat->Bool}:∀ n,(∀ k i,k<i->i<n->f k i=g k i)->zb7 f n=zb7 g n
 | 0,_=>rfl
 | n+1,h=>by
   have ih:=zqq n (fun k i h1 h2=>h k i h1 (by omega));rw[zb7,zb7,ih,zmg _ n n 0 (fun k _ h2=>h k n (by omega) (by omega))]
theorem zf4 {f:Nat->Nat->Bool}{out:List Int}{i:Nat}{c:Int}:∀ n j,z4m f out i j n=some c->∃ k,j<=k/\k<j+n/\f k i=true/\c=out.getD k 0
 | 0,_,h=>by simp[z4m] at h
 | n + 1,j,h=>by
   rw[z4m] at h;cases hf:f j i
   . rw[hf,z6z rfl] at h;obtain⟨k,h1,h2,h3⟩:=zf4 n (j+1) h;exact⟨k,by omega,by omega,h3⟩
   . rw[hf,z1d rfl] at h;exact⟨j,Nat.le_refl _,by omega,hf,(Option.some.inj h).symm⟩
theorem zot {f:Nat->Nat->Bool}{out:List Int}{i:Nat}:∀ n j,z4m f out i j n=none->∀ k,j<=k->k<j+n->f k i=false
 | 0,_,_,k,h1,h2=>by omega
 | n + 1,j,h,k,h1,h2=>by
   rw[z4m] at h;cases hf:f j i
   . rw[hf,z6z rfl] at h;by_cases hk:k=j
     . rw[hk];exact hf
     . exact zot n (j+1) h k (by omega) (by omega)
   . rw[hf,z1d rfl] at h;exact absurd h (by simp)
theorem z3o {α:Type}(l:List α)(x d:α){k:Nat}(h:k<l.length):(l++[x]).getD k d=l.getD k d:=by
 simp only[List.getD_eq_getElem?_getD,List.getElem?_append_left h]
theorem z5y {α:Type}(l:List α)(x d:α){k:Nat}(h:k=l.length):(l++[x]).getD k d=x:=by
 subst h;simp[List.getD_eq_getElem?_getD]
theorem zvi (f:Nat->Nat->Bool):∀ n k,k<n->0<=(zb7 f n).1.getD k 0/\(zb7 f n).1.getD k 0<((zb7 f n).2:Int)
 | 0,k,h=>by omega
 | n + 1,k,h=>by
   have hl:=zht f n;have ih:=zvi f n;rw[zb7];cases hc:z4m f (zb7 f n).1 n 0 n with
   | none =>
     simp only;by_cases hk:k<n
     . rw[z3o _ _ _ (by omega)];have:=ih k hk;omega
     . rw[z5y _ _ _ (by omega)];omega
   | some c =>
     simp only;by_cases hk:k<n
     . rw[z3o _ _ _ (by omega)];exact ih k hk
     . rw[z5y _ _ _ (by omega)];obtain⟨j,_,h2,_,h4⟩:=zf4 n 0 hc;rw[h4];exact ih j (by omega)
theorem zya {f:Nat->Nat->Bool} (hr:∀ i,f i i=true) (hs:∀ i j,f i j=f j i) (ht:∀ i j k,f i j=true->f j k=true->f i k=true) :
 ∀ n i j,i<n->j<n->((zb7 f n).1.getD i 0=(zb7 f n).1.getD j 0 ↔ f i j=true)
 | 0,i,j,h,_=>by omega
 | n + 1,i,j,hi,hj=>by
   have hl:=zht f n;have ih:=zya hr hs ht n;have hlt:=zvi f n;rw[zb7];cases hc:z4m f (zb7 f n).1 n 0 n with
   | none =>
     have hn:=zot n 0 hc;simp only;by_cases h1:i<n<;>by_cases h2:j<n
     . rw[z3o _ _ _ (by omega),z3o _ _ _ (by omega)];exact ih i j h1 h2
     . have e:j=n:=by omega
       subst e;rw[z3o _ _ _ (by omega),z5y _ _ _ (by omega),hn i (by omega) (by omega)];have:=hlt i h1;constructor
       . intro;omega
       . intro h;exact absurd h (by decide)
     . have e:i=n:=by omega
       subst e;rw[z5y _ _ _ (by omega),z3o _ _ _ (by omega),hs,hn j (by omega) (by omega)];have:=hlt j h2;constructor
       . intro;omega
       . intro h;exact absurd h (by decide)
     . have e1:i=n:=by omega
       have e2:j=n:=by omega
       rw[e1,e2];exact⟨fun _=>hr n,fun _=>rfl⟩
   | some c =>
     obtain⟨k,_,h2,h3,h4⟩:=zf4 n 0 hc;simp only;have hk:k<n:=by omega
     have key:∀ m,m<n->((zb7 f n).1.getD m 0=c ↔ f m n=true):=by
      intro m hm;rw[h4,ih m k hm hk];exact⟨fun h=>ht _ _ _ h h3,fun h=>ht _ _ _ h (by rw[hs];exact h3)⟩
     by_cases h1:i<n<;>by_cases h2:j<n
     . rw[z3o _ _ _ (by omega),z3o _ _ _ (by omega)];exact ih i j h1 h2
     . have e:j=n:=by omega
       rw[e,z3o _ _ _ (by omega),z5y _ _ _ (by omega)];exact key i h1
     . have e:i=n:=by omega
       rw[e,z5y _ _ _ (by omega),z3o _ _ _ (by omega),hs];constructor
       . intro h;exact (key j h2).1 h.symm
       . intro h;exact ((key j h2).2 h).symm
     . have e1:i=n:=by omega
       have e2:j=n:=by omega
       rw[e1,e2];exact⟨fun _=>hr n,fun _=>rfl⟩
def z76:Int->List Int->Bool
 | _,[]=>true
 | t,x::l=>cond (decide (x<0)) false (cond (decide (t+1<x)) false (z76 (if x > t then x else t) l))
def zm0 (t:Int)(l:List Int):Int:=l.foldl (fun t x=>if x > t then x else t) t
theorem zxc (t:Int)(l:List Int)(x:Int):zm0 t (l++[x])=if x > zm0 t l then x else zm0 t l:=by
 simp[zm0,List.foldl_append]
theorem zl5:∀ (l:List Int) (t x:Int),z76 t (l++[x])=(z76 t l && (decide (0<=x) && decide (x<=zm0 t l+1)))
 | [],t,x=>by
   have e:z76 t ([]++[x])=cond (decide (x<0)) false (cond (decide (t+1<x)) false true):=rfl;have e0:z76 t []=true:=rfl;have e1:decide (0<=x)=!decide (x<0):=by
    rcases Decidable.em (x<0) with h|h
    . rw[z3p h,z3s (p:=0<=x) (by omega)];rfl
    . rw[z3s h,z3p (p:=0<=x) (by omega)];rfl
   have e2:decide (x<=zm0 t []+1)=!decide (t+1<x):=by
    show decide (x<=t+1)=_;rcases Decidable.em (t+1<x) with h|h
    . rw[z3p h,z3s (p:=x<=t+1) (by omega)];rfl
    . rw[z3s h,z3p (p:=x<=t+1) (by omega)];rfl
   rw[e,e0,e1,e2];cases decide (x<0)<;>cases decide (t+1<x)<;>rfl
 | y::l,t,x=>by
   have ih:=zl5 l (if y > t then y else t) x;have e:zm0 t (y::l)=zm0 (if y > t then y else t) l:=rfl;rw[List.cons_append,z76,z76,ih,e];cases decide (y<0)<;>cases decide (t+1<y)<;>rfl
theorem zr8:∀ (l:List Int) (t:Int),t<=zm0 t l
 | [],t=>Int.le_refl _
 | x::l,t=>by
   have:=zr8 l (if x > t then x else t);show t<=zm0 (if x > t then x else t) l;split at this<;>split<;>omega
theorem zum:∀ (l:List Int) (t:Int),z76 t l=true->zm0 t l<=t+l.length
 | [],t,_=>by show t<=_;omega
 | x :: l,t,h=>by
   have e:zm0 t (x::l)=zm0 (if x > t then x else t) l:=rfl;rw[z76] at h;cases h1:decide (x<0)
   . cases h2:decide (t+1<x)
     . rw[h1,h2] at h;have ih:=zum l _ h;have h3:=of_decide_eq_false h2;rw[e,List.length_cons];split at ih<;>split<;>omega
     . rw[h1,h2] at h;exact absurd h Bool.false_ne_true
   . rw[h1] at h;exact absurd h Bool.false_ne_true
theorem zsx (x:Int)(l:List Int):z76 (-1) (x::l)=cond (x != 0) false (z76 0 (x::l)):=by
 rw[z76,z76];by_cases h:x=0
 . subst h;rfl
 . have h1:(x != 0)=true:=bne_iff_ne.2 h;rw[h1];by_cases h2:x<0
   . rw[z3p h2];rfl
   . rw[z3s h2,z3p (p:=(-1:Int)+1<x) (by omega)];rfl
theorem zqp (f:Nat->Nat->Bool):∀ n,z76 (-1) (zb7 f n).1=true/\zm0 (-1) (zb7 f n).1=((zb7 f n).2:Int) - 1
 | 0=>⟨rfl,rfl⟩
 | n + 1=>by
   obtain⟨h1,h2⟩:=zqp f n;rw[zb7];cases hc:z4m f (zb7 f n).1 n 0 n with
   | none =>
     simp only;rw[zl5,zxc,h1,h2];refine⟨?_,?_⟩
     . rw[z3p (by omega),z3p (by omega)];rfl
     . rw[if_pos (by omega)];omega
   | some c =>
     simp only;obtain⟨k,_,h3,_,h5⟩:=zf4 n 0 hc;have:=zvi f n k (by omega);rw[zl5,zxc,h1,h2];refine⟨?_,?_⟩
     . rw[z3p (by omega),z3p (by omega)];rfl
     . rw[if_neg (by omega)]
theorem zkf {α β:Type}{g:α->α->Bool}(hg:∀ x y,g x y=true ↔ x=y)(k:α)(v:β):∀ l,z5j g k (zrg g k v l)=some v
 | []=>by simp[zrg,z5j,(hg k k).2 rfl]
 | x::l=>by
   rw[zrg];cases h:g k x.1
   . simp only[z5j,h,zkf hg k v l]
   . simp only[z5j,(hg k k).2 rfl]
theorem zit {α β:Type} {g:α->α->Bool} (hg:∀ x y,g x y=true ↔ x=y) {k y:α} (h:k≠y) (v:β):∀ l,z5j g y (zrg g k v l)=z5j g y l
 | []=>by
   have:g y k=false:=by
    cases e:g y k
    . rfl
    . exact absurd ((hg y k).1 e).symm h
   simp[zrg,z5j,this]
 | x :: l=>by
   rw[zrg];cases e:g k x.1
   . simp only[z5j,zit hg h v l]
   . have e1:=(hg k x.1).1 e;have:g y x.1=false:=by
      cases e2:g y x.1
      . rfl
      . exact absurd (e1.trans ((hg y x.1).1 e2).symm) h
     have e3:g y k=false:=by rw[e1];exact this
     simp only[z5j,this,e3]
theorem zom {α β:Type}{g:α->α->Bool}(k:α)(v:β):∀ l,z5j g k l=none->(zrg g k v l).length=l.length+1
 | [],_=>rfl
 | x :: l,h=>by
   rw[zrg];rw[z5j] at h;cases e:g k x.1
   . rw[e] at h;simp only at h ⊢;rw[List.length_cons,List.length_cons,zom k v l h]
   . rw[e] at h;exact absurd h (by simp)
theorem zji (f:Nat->Nat->Bool)(out:List Int)(i:Nat):∀ n j,z4m f out i j (n+1)=(z4m f out i j n).orElse (fun _=>cond (f (j+n) i) (some (out.getD (j+n) 0)) none)
 | 0,j=>by simp[z4m]
 | n+1,j=>by
   have ih:=zji f out i n (j+1);rw[z4m,ih,z4m];have e:j+1+n=j+(n+1):=by omega
   rw[e];cases f j i<;>rfl
theorem zlk (f:Nat->Nat->Bool)(out:List Int)(x:Int)(i:Nat):∀ n j,j+n<=out.length->z4m f (out++[x]) i j n=z4m f out i j n
 | 0,_,_=>rfl
 | n+1,j,h=>by rw[z4m,z4m,zlk f out x i n (j+1) (by omega),z3o _ _ _ (by omega)]
def zyt {α:Type}(g:α->α->Bool)(key:Nat->α)(cl:List (α×Int))(n:Nat):Prop :=
 cl.length=(zb7 (fun k i=>g (key k) (key i)) n).2 ∧
 ∀ i,z5j g (key i) cl=z4m (fun k i=>g (key k) (key i)) (zb7 (fun k i=>g (key k) (key i)) n).1 i 0 n
theorem zys {α:Type}(g:α->α->Bool)(key:Nat->α):zyt g key [] 0:=⟨rfl,fun _=>rfl⟩
theorem z10r {α:Type}{g:α->α->Bool}(hg:∀ x y,g x y=true ↔ x=y){key:Nat->α}{cl:List (α×Int)}{n:Nat}(h:zyt g key cl n){c:Int}(hc:z5j g (key n) cl=some c) :
 zyt g key cl (n+1)/\(zb7 (fun k i=>g (key k) (key i)) (n+1)).1=(zb7 (fun k i=>g (key k) (key i)) n).1++[c]:=by
 have hl:=zht (fun k i=>g (key k) (key i)) n;have e:=h.2 n;rw[hc] at e;have e2:zb7 (fun k i=>g (key k) (key i)) (n+1)=((zb7 (fun k i=>g (key k) (key i)) n).1++[c],(zb7 (fun k i=>g (key k) (key i)) n).2):=by
  rw[zb7,<- e]
 refine⟨⟨by rw[e2];exact h.1,fun i=>?_⟩,by rw[e2]⟩;rw[e2,zji,zlk _ _ _ _ _ _ (by omega),<- h.2 i,Nat.zero_add,z5y _ _ _ (by omega)];cases hh:g (key n) (key i)
 . cases z5j g (key i) cl<;>rfl
 . rw[<- (hg _ _).1 hh,hc];rfl
theorem z10s {α:Type}{g:α->α->Bool}(hg:∀ x y,g x y=true ↔ x=y){key:Nat->α}{cl:List (α×Int)}{n:Nat}(h:zyt g key cl n)(hc:z5j g (key n) cl=none) :
 zyt g key (zrg g (key n) (cl.length:Int) cl) (n+1)/\(zb7 (fun k i=>g (key k) (key i)) (n+1)).1=(zb7 (fun k i=>g (key k) (key i)) n).1++[(cl.length:Int)]:=by
 have hl:=zht (fun k i=>g (key k) (key i)) n;have e:=h.2 n;rw[hc] at e;have e2:zb7 (fun k i=>g (key k) (key i)) (n+1)=((zb7 (fun k i=>g (key k) (key i)) n).1++[(cl.length:Int)],(zb7 (fun k i=>g (key k) (key i)) n).2+1):=by
  rw[zb7,<- e,h.1]
 refine⟨⟨by rw[e2,zom _ _ _ hc,h.1],fun i=>?_⟩,by rw[e2]⟩;rw[e2,zji,zlk _ _ _ _ _ _ (by omega),<- h.2 i,Nat.zero_add,z5y _ _ _ (by omega)];cases hh:g (key n) (key i)
 . rw[zit hg (fun e=>by rw[(hg _ _).2 e] at hh;exact absurd hh (by decide))];cases z5j g (key i) cl<;>rfl
 . rw[<- (hg _ _).1 hh,zkf hg,hc];rfl
end
end Go.Proofs.YtjbcpimnlgogiaaDoorPx
set_option linter.all false
set_option maxRecDepth 100000
namespace Go.Proofs.YtjbcpimnlgogiaaDoorLg
noncomputable section
open Go Go.Lift Go.Proofs.YtjbcpimnlgogiaaDoorPx
theorem zs1 {α:Type}(l:List α)(x d:α)(i j:Nat)(hi:i<l.length):(l.set i x).getD j d=if j=i then x else l.getD j d:=by
 simp only[List.getD_eq_getElem?_getD,List.getElem?_set];by_cases h:j=i
 . subst h;rw[if_pos rfl,if_pos rfl,if_pos hi];rfl
 . rw[if_neg (fun e=>h e.symm),if_neg h]
theorem z180 (N:Nat) (keys:List (List Int)) (hl:keys.length<=1000000) (hN:keys.length<N) :
 z3f N keys=some (zb7 (fun k i=>eqD (T.arr 5 (T.int Go.IntKind.u64)) (keys.getD k []) (keys.getD i [])) keys.length).1:=by
 let n:=keys.length
 let f:Nat->Nat->Bool:=fun k i=>eqD (T.arr 5 (T.int Go.IntKind.u64)) (keys.getD k []) (keys.getD i [])
 have hg:∀ x y,eqD (T.arr 5 (T.int Go.IntKind.u64)) x y=true ↔ x=y:=fun x y=>zou (T.arr 5 (T.int Go.IntKind.u64)) x y rfl
 rw[z3f,z1d (decide_eq_true ⟨by omega,by omega,by omega,by omega⟩),ze8];exact zli (step:=fun (v:((Option (List ((List Int)×Int)))×(List Int)×Int)) r=>z67 N keys (keys.length:Int) v.1 v.2.1 v.2.2 (fun classes b x15=>(r (classes,b,x15))) (fun b=>some b))
  (I:=fun v=>0<=v.2.2/\v.2.2<=keys.length/\v.2.1.length=keys.length/\v.2.1.take v.2.2.toNat=(zb7 f v.2.2.toNat).1/\∃ cl,v.1=some cl/\zyt (eqD (T.arr 5 (T.int Go.IntKind.u64))) (fun k=>keys.getD k []) cl v.2.2.toNat)
  (m:=fun v=>keys.length - v.2.2.toNat) (R:=fun _=>some (zb7 f keys.length).1)
  (by
   rintro⟨cls,b,i⟩ r ⟨h0,h1,hb,ht,cl,hcl,htl⟩ hr;obtain⟨i,rfl⟩:=Int.eq_ofNat_of_zero_le h0;simp only[Int.toNat_natCast] at h1 hb ht hcl htl ⊢;subst hcl;rw[z67];by_cases hi:i<keys.length
   . have wi:=z5k (i:=i) (by omega);have hlen:=htl.1;have hmany:=ztl (fun k i=>eqD (T.arr 5 (T.int Go.IntKind.u64)) (keys.getD k []) (keys.getD i [])) i;rw[z1d (decide_eq_true (by omega)),z1d (z3d hi),z9g,wi];simp only[Int.toNat_natCast,Option.getD_some];cases hc:z5j (eqD (T.arr 5 (T.int Go.IntKind.u64))) (keys.getD i []) cl with
     | none =>
       obtain⟨t1,t2⟩:=z10s hg htl hc;simp only[Option.isSome_none,Option.isSome_some,Bool.not_false,cond_true];rw[z1d (z3d (by omega)),z1d (decide_eq_true (by omega)),hr _ ⟨by simp only;omega,by simp only;omega,by simp only[List.length_set];exact hb,by
        simp only[Int.toNat_natCast];rw[zju b _ i (by omega),ht];exact t2.symm,_,rfl,t1⟩ (by simp only[Int.toNat_natCast];omega)]
     | some c =>
       obtain⟨t1,t2⟩:=z10r hg htl hc;simp only[Option.isSome_some,Bool.not_true,cond_false,Option.getD_some];rw[z1d (z3d (by omega)),z1d (decide_eq_true (by omega)),hr _ ⟨by simp only;omega,by simp only;omega,by simp only[List.length_set];exact hb,by
        simp only[Int.toNat_natCast];rw[zju b _ i (by omega),ht];exact t2.symm,_,rfl,t1⟩ (by simp only[Int.toNat_natCast];omega)]
   . have e:i=keys.length:=by omega
     subst e;rw[z6z (decide_eq_false (by omega)),<- ht,List.take_of_length_le (by omega)]) N _ ⟨by simp only;omega,by simp only;omega,by simp only[List.length_replicate];omega,rfl,[],rfl,zys _ _⟩ (by simp only[Int.toNat_zero];omega)
def ze9 (sets:List (List Int))(k i:Nat):Bool:=sets.all fun s=>zc2 s k == zc2 s i
theorem zz8 (s:List UInt8)(i:Nat)(h:i<s.length):(zdt s).getD i 0=((s.getD i 0).toNat:Int):=by
 simp[zdt,List.getD_eq_getElem?_getD,List.getElem?_map,List.getElem?_eq_getElem h]
theorem z14m (l:List UInt8)(p:Nat)(h:p<l.length)(e:Nat):inS (l.take (p+1)) e=(inS (l.take p) e || decide ((l.getD p 0).toNat=e)):=by
 rw[take_succ l 0 p h];simp[inS,List.any_append];rfl
theorem zjr (sets:List (List Int))(k i:Nat):ze9 sets k i=true ↔ ∀ j,j<sets.length->zc2 (sets.getD j []) k=zc2 (sets.getD j []) i:=by
 rw[ze9,List.all_eq_true];constructor
 . intro h j hj;exact eq_of_beq (h _ (zyb sets [] j hj))
 . intro h s hs;obtain⟨j,hj,rfl⟩:=List.getElem_of_mem hs;have:=h j hj;rw[List.getD_eq_getElem?_getD,List.getElem?_eq_getElem hj] at this;exact beq_iff_eq.2 this
theorem zzx (sets:List (List Int))(i:Nat):ze9 sets i i=true:=(zjr ..).2 fun _ _=>rfl
theorem zzw (sets:List (List Int))(i j:Nat):ze9 sets i j=ze9 sets j i:=by
 rw[Bool.eq_iff_iff,zjr,zjr];exact⟨fun h k hk=>(h k hk).symm,fun h k hk=>(h k hk).symm⟩
theorem zws (sets:List (List Int))(i j k:Nat)(h:ze9 sets i j=true)(h':ze9 sets j k=true):ze9 sets i k=true :=
 (zjr ..).2 fun m hm=>((zjr ..).1 h m hm).trans ((zjr ..).1 h' m hm)
def ofB (sets:List (List Int)):List Int:=(zb7 (ze9 sets) 256).1
theorem z1gr (k:Nat):ofB []=List.replicate 256 (0:Int):=by kernel_rfl
end
end Go.Proofs.YtjbcpimnlgogiaaDoorLg
set_option linter.all false
set_option maxRecDepth 100000
namespace Go.Proofs.YtjbcpimnlgogiaaDoorLg
noncomputable section
open Go Go.Lift Go.Proofs.YtjbcpimnlgogiaaDoorPx
def zcu (a:List Int):Bool:=decide (a.length=256) && z76 (-1) a
theorem z136 {n m:Nat}:(((n:Nat):Int) != (m:Int))=!decide (n=m):=by
 by_cases h:n=m
 . rw[z3p h,h];simp
 . rw[z3s h];exact bne_iff_ne.2 (by omega)
theorem zxt (N:Nat) (a:List Int) (hN:257<N):z5z N a=some (zcu a):=by
 rw[z5z,zci,zch,show ((256:Int))=((256:Nat):Int) from rfl,z136,zcu];by_cases hl:a.length=256
 . have hx := za1 a 0 0 (by omega);rw[List.drop_zero] at hx;rw[z3p hl,Bool.not_true,z6z rfl,z1d (z15t (by omega) (by omega)),Bool.true_and];rw[hx,zsx,<- hx];by_cases h0:(a.getD 0 0 != 0)=true
   . rw[h0];rfl
   . have h0 : (a.getD 0 0 != 0)=false:=by simpa using h0
     rw[h0,z6z rfl,z6z rfl,zh8];have h := zli (step:=fun (v:(Int×Int)) r=>z8o N a (((List.length a):Nat):Int) v.1 v.2 (fun most x17=>(r (most,x17))) (fun x21=>some x21) (some true))
      (I:=fun v=>0<=v.2/\v.2<=256/\0<=v.1/\v.1<=v.2) (m:=fun v=>256 - v.2.toNat) (R:=fun v=>some (z76 v.1 (a.drop v.2.toNat)))
      (by
       rintro⟨t,i⟩ r ⟨h0,h1,h2,h3⟩ hr;obtain⟨i,rfl⟩:=Int.eq_ofNat_of_zero_le h0;simp only[Int.toNat_natCast] at h1 h2 h3 ⊢;rw[z8o];by_cases hi:i<256
       . have wi:=z5k (i:=i) (by omega);have wt:Go.IntKind.wrap .i64 (t+1)=t+1:=z90 (by unfold I64;omega);rw[z1d (decide_eq_true (by omega)),z1d (z3d (by omega)),zcg,zcf,wi,wt,za1 a 0 i (by omega)];simp only[Int.toNat_natCast];rw[z76];by_cases h4:a.getD i 0<0
         . rw[z1d (z3p h4),z1d (z3p h4)];rfl
         . rw[z6z (z3s h4),z6z (z3s h4)];by_cases h5:t+1<a.getD i 0
           . rw[z3p h5];rfl
           . rw[z3s h5,z6z rfl,z6z rfl,hr _ ⟨by simp only;omega,by simp only;omega,by simp only;split<;>omega,by simp only;split<;>omega⟩ (by simp only[Int.toNat_natCast];omega)];rfl
       . have e:i=256:=by omega
         subst e;rw[z6z (decide_eq_false (by omega)),List.drop_of_length_le (by omega)];rfl) N ((0:Int),(0:Int)) ⟨by simp only;omega,by simp only;omega,by simp only;omega,by simp only;omega⟩ (by simp only[Int.toNat_zero];omega)
     rw[h];rfl
 . rw[z3s hl];rfl
def z4g (a:List Int):Int:=cond (zcu a) (zm0 (-1) a+1) 0
theorem z1gw (N:Nat) (a:List Int) (hl:a.length=256) (hN:257<N):z3y N a=some (zm0 (a.getD 0 0) (a.drop 1)):=by
 rw[z3y,z5n,z6z (decide_eq_false (by omega)),z1d (z15t (by omega) (by omega)),z9r];exact zli (step:=fun (v:(Int×Int)) r=>z3x N a v.1 v.2 (fun m i=>(r (m,i))) (fun m=>some m))
  (I:=fun v=>0<=v.2/\v.2<=256) (m:=fun v=>256 - v.2.toNat) (R:=fun v=>some (zm0 v.1 (a.drop v.2.toNat)))
  (by
   rintro⟨t,i⟩ r ⟨h0,h1⟩ hr;obtain⟨i,rfl⟩:=Int.eq_ofNat_of_zero_le h0;simp only[Int.toNat_natCast] at h1 ⊢;rw[z3x];by_cases hi:i<256
   . have wi:=z5k (i:=i) (by omega);rw[z1d (decide_eq_true (by omega)),z1d (z3d (by omega)),wi,hr _ ⟨by simp only;omega,by simp only;omega⟩ (by simp only[Int.toNat_natCast];omega),za1 a 0 i (by omega)];rfl
   . have e:i=256:=by omega
     subst e;rw[z6z (decide_eq_false (by omega)),List.drop_of_length_le (by omega)];rfl) N (a.getD 0 0,(1:Int)) ⟨by simp only;omega,by simp only;omega⟩ (by show 256 - 1<N;omega)
theorem zbc {a:List Int}(h:zcu a=true):a.length=256/\a.getD 0 0=0/\z76 (-1) a=true:=by
 rw[zcu,Bool.and_eq_true,decide_eq_true_eq] at h;obtain⟨hl,hr⟩:=h;refine⟨hl,?_,hr⟩;have hx:=za1 a 0 0 (by omega);rw[List.drop_zero] at hx;rw[hx,zsx] at hr;by_cases h0:(a.getD 0 0 != 0)=true
 . rw[h0] at hr;exact absurd hr Bool.false_ne_true
 . simpa using h0
theorem z10q {a:List Int}(h:zcu a=true):zm0 (a.getD 0 0) (a.drop 1)=zm0 (-1) a:=by
 obtain⟨hl,h0,hr⟩:=zbc h;have hx:=za1 a 0 0 (by omega);rw[List.drop_zero] at hx;have e:zm0 (-1) a=zm0 (-1) (a.getD 0 0::a.drop (0+1)):=by rw[<- hx]
 rw[e,h0];rfl
theorem zqz (N:Nat)(a:List Int)(hN:257<N):z42 N a=some (z4g a):=by
 rw[z42,zxt N a hN,Option.bind_some,z4g];cases h:zcu a
 . rfl
 . obtain⟨hl,h0,hr⟩:=zbc h;have h1:=zum a (-1) hr;have h2:=zr8 a (-1);rw[Bool.not_true,z6z rfl,z1gw N a hl hN,z10q h,Option.bind_some,z90 (by unfold I64;omega)];rfl
theorem zru (sets:List (List Int)):(ofB sets).length=256:=zht _ _
theorem zgp (sets:List (List Int)):zcu (ofB sets)=true:=by
 rw[zcu,zru,ofB,(zqp _ _).1];rfl
theorem z17z (sets:List (List Int)){i j:Nat}(hi:i<256)(hj:j<256):((ofB sets).getD i 0 == (ofB sets).getD j 0)=ze9 sets i j:=by
 rw[Bool.eq_iff_iff,beq_iff_eq];exact zya (zzx sets) (zzw sets) (zws sets) 256 i j hi hj
end
end Go.Proofs.YtjbcpimnlgogiaaDoorLg
set_option linter.all false
set_option maxRecDepth 100000
namespace Go.Proofs.YtjbcpimnlgogiaaDoorLg
noncomputable section
open Go Go.Lift Go.Proofs.YtjbcpimnlgogiaaDoorPx
abbrev DfT:=Int×((List Bool)×((List Int)×((List (List Int))×Unit)))
theorem scan {β:Type}{f:Int->(Int->Option β)->Option β}{n:Nat}{bad:Nat->Bool}{F T:Option β}(hs:∀ (i:Nat) r,i<n->f (i:Int) r=cond (bad i) F (r ((i+1:Nat):Int)))(he:∀ r,f (n:Int) r=T) :
 ∀ (k N i:Nat),i+k=n->k<N->iter f N (i:Int)=cond ((List.range' i k).any bad) F T
 | 0,N,i,h,hN=>by
   obtain⟨M,rfl⟩:∃ M,N=M+1:=⟨N - 1,by omega⟩
   obtain rfl:i=n:=by omega
   rw[iter,he];rfl
 | k+1,N,i,h,hN=>by
   obtain⟨M,rfl⟩:∃ M,N=M+1:=⟨N - 1,by omega⟩
   rw[iter,hs i _ (by omega),scan hs he k M (i+1) (by omega) (by omega),List.range'_succ,List.any_cons];cases bad i<;>rfl
theorem z1d4 {β:Type}{f:Int->(Int->Option β)->Option β}{n N:Nat}{bad:Nat->Bool}{F T:Option β}(hs:∀ (i:Nat) r,i<n->f (i:Int) r=cond (bad i) F (r ((i+1:Nat):Int)))(he:∀ r,f (n:Int) r=T)(hN:n<N) :
 iter f N (0:Int)=cond ((List.range n).any bad) F T:=by
 have:=scan hs he n N 0 (by omega) hN;rw[List.range_eq_range'];exact this
def z138 (n:Nat)(row:List Int)(k:Nat):Bool:=cond (decide (row.getD k 0<0)) true (decide ((n:Int)<=row.getD k 0))
def zr4 (n:Nat)(c:Int)(rows:List (List Int))(i:Nat):Bool:=cond (((rows.getD i []).length:Int) != c) true ((List.range (rows.getD i []).length).any (z138 n (rows.getD i [])))
def zm5 (d:DfT):Bool :=
 decide (1<=d.2.2.2.1.length) && decide (d.2.2.2.1.length<=4096) && decide (d.2.1.length=d.2.2.2.1.length) && zcu d.2.2.1 &&
 (!(List.range d.2.2.2.1.length).any (zr4 d.2.2.2.1.length (z4g d.2.2.1) d.2.2.2.1)) && decide (0<=d.1) && decide (d.1<(d.2.2.2.1.length:Int))
structure SmD (d:DfT) (N:Nat):Prop where
 next:d.2.2.2.1.length<N
 rows:∀ i,(d.2.2.2.1.getD i []).length<N
 block:d.2.2.1.length<=300
 big:302<=N
 lim:N<=100000
theorem z1ad (n m:Nat):(((n:Nat):Int) != (m:Int))=!decide (n=m):=z136
theorem zoy {N:Nat}(d:DfT)(h:SmD d N):ze5 N d=some (zm5 d):=by
 have hb:=h.big;have hl:=h.lim;have hn:=h.next;unfold ze5 zh4 zh3 zm5;rw[zxt N _ (by omega),zqz N _ (by omega)];by_cases h1:d.2.2.2.1.length<1
 . rw[z3p (p:=((d.2.2.2.1.length:Nat):Int)<1) (by omega),z3s (p:=1<=d.2.2.2.1.length) (by omega)];rfl
 rw[z3s (p:=((d.2.2.2.1.length:Nat):Int)<1) (by omega),z3p (p:=1<=d.2.2.2.1.length) (by omega)];by_cases h2:4096<d.2.2.2.1.length
 . rw[z3p (p:=(4096:Int)<((d.2.2.2.1.length:Nat):Int)) (by omega),z3s (p:=d.2.2.2.1.length<=4096) (by omega)];rfl
 rw[z3s (p:=(4096:Int)<((d.2.2.2.1.length:Nat):Int)) (by omega),z3p (p:=d.2.2.2.1.length<=4096) (by omega),z1ad];by_cases h3:d.2.1.length=d.2.2.2.1.length
 case neg=>rw[z3s h3];rfl
 rw[z3p h3];simp only[cond_false,Bool.not_true,Option.bind_some,Bool.true_and];cases hr:zcu d.2.2.1
 . rfl
 simp only[Bool.not_true,cond_false,Bool.true_and];unfold zml;rw[z1d4 (bad:=zr4 d.2.2.2.1.length (z4g d.2.2.1) d.2.2.2.1) (n:=d.2.2.2.1.length) (F:=some false) (T:=cond (decide ((0:Int)<=d.1)) (some (decide (d.1<((d.2.2.2.1.length:Nat):Int)))) (some false)) ?_ ?_ hn]
 . cases (List.range d.2.2.2.1.length).any (zr4 d.2.2.2.1.length (z4g d.2.2.1) d.2.2.2.1)
   . cases decide ((0:Int)<=d.1)<;>rfl
   . rfl
 . intro i r hi;have hri:=h.rows i;unfold zd5 zr4;rw[z3p (p:=(i:Int)<((d.2.2.2.1.length:Nat):Int)) (by omega),z3d hi,Int.toNat_natCast,z5k (i:=i) (by omega)];simp only[cond_true];cases hc:((((d.2.2.2.1.getD i []).length:Nat):Int) != z4g d.2.2.1)
   case true=>rfl
   simp only[cond_false];unfold zmk;rw[z1d4 (bad:=z138 d.2.2.2.1.length (d.2.2.2.1.getD i [])) (n:=(d.2.2.2.1.getD i []).length) (F:=some false) (T:=r ((i+1:Nat):Int)) ?_ ?_ hri]
   . intro k r' hk;unfold zd4 zh2 z138;rw[z3p (p:=(k:Int)<(((d.2.2.2.1.getD i []).length:Nat):Int)) (by omega),z3d hk,Int.toNat_natCast,z5k (i:=k) (by omega)];simp only[cond_true];cases decide ((d.2.2.2.1.getD i []).getD k 0<0)
     . cases decide (((d.2.2.2.1.length:Nat):Int)<=(d.2.2.2.1.getD i []).getD k 0)<;>rfl
     . rfl
   . intro r';unfold zd4;rw[z3s (by omega)];rfl
 . intro r;unfold zd5;rw[z3s (by omega)];rfl
theorem z12n {a:List Int}(h:zcu a=true):1<=z4g a:=by
 obtain⟨h1,h2,h3⟩:=zbc h;unfold z4g;rw[h,cond_true];have hx:=za1 a 0 0 (by omega);rw[List.drop_zero,h2] at hx;rw[hx];show 1<=zm0 (if (0:Int) > -1 then 0 else -1) (a.drop 1)+1;rw[if_pos (by decide)];have:=zr8 (a.drop 1) 0;omega
theorem zm4:∀ (l:List Int) (t:Int),z76 t l=true->∀ x∈l,0<=x/\x<=zm0 t l
 | [],_,_,x,hx=>by cases hx
 | y :: l,t,h,x,hx=>by
   rw[z76] at h;cases h1:decide (y<0)
   case true=>rw[h1] at h;exact absurd h Bool.false_ne_true
   cases h2:decide (t+1<y)
   case true=>rw[h1,h2] at h;exact absurd h Bool.false_ne_true
   rw[h1,h2] at h;have e:zm0 t (y::l)=zm0 (if y > t then y else t) l:=rfl;rw[e];rcases List.mem_cons.1 hx with rfl|hx
   . have h3:=of_decide_eq_false h1;have h4:=zr8 l (if x > t then x else t);refine⟨by omega,Int.le_trans ?_ h4⟩;split<;>omega
   . exact zm4 l _ h x hx
theorem zni {a:List Int}(h:zcu a=true){i:Nat}(hi:i<256):0<=a.getD i 0/\a.getD i 0<z4g a:=by
 obtain⟨h1,_,h3⟩:=zbc h;have:=zm4 a (-1) h3 (a.getD i 0) (by rw[List.getD_eq_getElem?_getD,List.getElem?_eq_getElem (by omega)];exact List.getElem_mem _);unfold z4g;rw[h,cond_true];omega
def z12s (d:DfT)(b:Nat):Nat:=(d.2.2.1.getD b 0).toNat
def zra (d:DfT)(q:Nat)(b:Nat):Nat:=((d.2.2.2.1.getD q []).getD (z12s d b) 0).toNat
def z141 (d:DfT)(q:Nat)(s:List UInt8):Nat:=s.foldl (fun q b=>zra d q b.toNat) q
structure RtD (d:DfT):Prop where
 pos:1<=d.2.2.2.1.length
 lim:d.2.2.2.1.length<=4096
 fin:d.2.1.length=d.2.2.2.1.length
 block:zcu d.2.2.1=true
 row:∀ q,q<d.2.2.2.1.length->((d.2.2.2.1.getD q []).length:Int)=z4g d.2.2.1/\∀ k,k<(d.2.2.2.1.getD q []).length->0<=(d.2.2.2.1.getD q []).getD k 0/\(d.2.2.2.1.getD q []).getD k 0<(d.2.2.2.1.length:Int)
 start:0<=d.1/\d.1<(d.2.2.2.1.length:Int)
theorem zhq (d:DfT):zm5 d=true ↔ RtD d:=by
 unfold zm5;simp only[Bool.and_eq_true,decide_eq_true_eq,Bool.not_eq_true',List.any_eq_false,List.mem_range];constructor
 . rintro⟨⟨⟨⟨⟨⟨h1,h2⟩,h3⟩,h4⟩,h5⟩,h6⟩,h7⟩;refine⟨h1,h2,h3,h4,fun q hq=>?_,h6,h7⟩;have:=h5 q hq;unfold zr4 at this;cases hc:((((d.2.2.2.1.getD q []).length:Nat):Int) != z4g d.2.2.1)
   case true=>rw[hc] at this;exact absurd rfl this
   rw[hc,cond_false] at this;refine⟨by simpa using hc,fun k hk=>?_⟩;simp only[Bool.not_eq_true,List.any_eq_false,List.mem_range] at this;have:=this k hk;unfold z138 at this;by_cases h8:(d.2.2.2.1.getD q []).getD k 0<0
   . rw[z3p h8] at this;cases this
   . rw[z3s h8,cond_false] at this;have:=of_decide_eq_false this;omega
 . intro h;refine⟨⟨⟨⟨⟨⟨h.pos,h.lim⟩,h.fin⟩,h.block⟩,fun q hq=>?_⟩,h.start.1⟩,h.start.2⟩;obtain⟨g1,g2⟩:=h.row q hq;unfold zr4;rw[show ((((d.2.2.2.1.getD q []).length:Nat):Int) != z4g d.2.2.1)=false by rw[g1];exact bne_self_eq_false _,cond_false];simp only[Bool.not_eq_true,List.any_eq_false,List.mem_range];intro k hk;have:=g2 k hk;unfold z138;rw[z3s (by omega),cond_false,z3s (by omega)]
theorem RtD.cls {d:DfT}(h:RtD d){b:Nat}(hb:b<256):d.2.2.1.getD b 0=(z12s d b:Int)/\(z12s d b:Int)<z4g d.2.2.1:=by
 have:=zni h.block hb;unfold z12s;omega
theorem RtD.step {d:DfT}(h:RtD d){q b:Nat}(hq:q<d.2.2.2.1.length)(hb:b<256):z12s d b<(d.2.2.2.1.getD q []).length/\(d.2.2.2.1.getD q []).getD (z12s d b) 0=(zra d q b:Int)/\zra d q b<d.2.2.2.1.length:=by
 obtain⟨h1,h2⟩:=h.cls hb;obtain⟨g1,g2⟩:=h.row q hq;have hc:z12s d b<(d.2.2.2.1.getD q []).length:=by omega
 have:=g2 _ hc;unfold zra;omega
theorem RtD.run {d:DfT}(h:RtD d):∀ (s:List UInt8) (q:Nat),q<d.2.2.2.1.length->z141 d q s<d.2.2.2.1.length
 | [],q,hq=>hq
 | b::s,q,hq=>h.run s _ (h.step hq (UInt8.toNat_lt b)).2.2
theorem z1o3 {d:DfT}(hd:RtD d)(s:List UInt8){f:(Int×Int)->((Int×Int)->Option Int)->Option Int}
 (hs:∀ (q i:Nat) r,q<d.2.2.2.1.length->i<s.length->f ((q:Int),(i:Int)) r=r ((zra d q (s.getD i 0).toNat:Int),((i+1:Nat):Int))) (he:∀ (q:Nat) r,f ((q:Int),(s.length:Int)) r=some (q:Int)) :
 ∀ (k N q i:Nat),i+k=s.length->q<d.2.2.2.1.length->k<N->iter f N ((q:Int),(i:Int))=some (z141 d q (s.drop i):Int)
 | 0,N,q,i,h,hq,hN=>by
   obtain⟨M,rfl⟩:∃ M,N=M+1:=⟨N - 1,by omega⟩
   obtain rfl:i=s.length:=by omega
   rw[iter,he,List.drop_length];rfl
 | k+1,N,q,i,h,hq,hN=>by
   obtain⟨M,rfl⟩:∃ M,N=M+1:=⟨N - 1,by omega⟩
   rw[iter,hs q i _ hq (by omega),z1o3 hd s hs he k M _ (i+1) (by omega) (hd.step hq (UInt8.toNat_lt _)).2.2 (by omega),za1 s 0 i (by omega)];rfl
def zxi (d:DfT)(s:List UInt8):Int:=cond (zm5 d) (z141 d d.1.toNat s:Int) (-1)
theorem zvo {N:Nat}(d:DfT)(s:List UInt8)(h:SmD d N)(hs:s.length<N):zh1 N d s=some (zxi d s):=by
 unfold zh1 zxi;rw[zoy d h,Option.bind_some];have hl:=h.lim;cases hr:zm5 d
 . rfl
 have hd:=(zhq d).1 hr;obtain⟨q,hq⟩:=Int.eq_ofNat_of_zero_le hd.start.1;have hq2:q<d.2.2.2.1.length:=by have:=hd.start.2;omega
 simp only[Bool.not_true,cond_false,cond_true];unfold zmj;rw[hq];refine z1o3 hd s (fun q i r hq hi=>?_) (fun q r=>?_) s.length N q 0 (by omega) hq2 hs
 . have hb:=UInt8.toNat_lt (s.getD i 0);obtain⟨c1,c2⟩:=hd.cls hb;obtain⟨s1,s2,s3⟩:=hd.step hq hb;have hbl:=(zbc hd.block).1;unfold zd3;rw[z3p (p:=(i:Int)<((s.length:Nat):Int)) (by omega),z3d hq,z3d hi,Int.toNat_natCast,Int.toNat_natCast,z3d (show (s.getD i 0).toNat<d.2.2.1.length by omega),Int.toNat_natCast,c1,z3d s1,Int.toNat_natCast,s2,z5k (i:=i) (by omega)];rfl
 . unfold zd3;rw[z3s (by omega)];rfl
def z1d8 (d:DfT)(s:List UInt8):Bool:=cond (zm5 d) (d.2.1.getD (z141 d d.1.toNat s) false) false
theorem z17s {d:DfT}{s:List UInt8}{o:Option Int}(ho:o=some (zxi d s)):(o.bind fun y=>cond (decide ((0:Int)<=y)) (cond (inR y (List.length d.2.1)) (some (List.getD d.2.1 (Int.toNat y) false)) none) (some false))=some (z1d8 d s):=by
 rw[ho,Option.bind_some];unfold zxi z1d8;cases hr:zm5 d
 . rfl
 have hd:=(zhq d).1 hr;have hq2:d.1.toNat<d.2.2.2.1.length:=by have:=hd.start;omega
 have h:=hd.run s _ hq2;have hf:=hd.fin;simp only[cond_true];rw[z3p (by omega),z3d (by omega),Int.toNat_natCast];rfl
theorem zty {N:Nat}(d:DfT)(s:List UInt8)(h:SmD d N)(hs:s.length<N):zdd N d s=some (z1d8 d s):=z17s (zvo d s h hs)
end
end Go.Proofs.YtjbcpimnlgogiaaDoorLg
set_option linter.all false
set_option maxRecDepth 100000
namespace Go.Proofs.YtjbcpimnlgogiaaDoorLg
noncomputable section
open Go Go.Lift Go.Proofs.YtjbcpimnlgogiaaDoorPx
def zyn (sets:List (List Int))(i:Nat)(g:Nat->Bool)(T:List (List Int)):Prop :=
 T.length=256/\∀ e,e<256->∃ w v,T.getD e []=[0,w,v,0,0]/\(U64 w/\U64 v)/\∀ j,j<64->bit w j=((decide (j<i) && zc2 (sets.getD j []) e) || (decide (j=i) && g e))/\bit v j=((decide (64+j<i) && zc2 (sets.getD (64+j) []) e) || (decide (64+j=i) && g e))
theorem z10o (N:Nat) (sets:List (List Int)) (k0:List (List Int)->Option (List Int)) (hN:256<N) :
 ∃ T,zyn sets 0 (fun _=>false) T/\zce N sets (List.replicate 256 ([(0:Int),(0:Int),(0:Int),(0:Int),(0:Int)]:List Int)) (List.replicate 256 (0:Int)) (((List.length (List.replicate 256 (0:Int))):Nat):Int) (0:Int) k0=k0 T:=by
 rw[zce];have hlen:List.length (List.replicate 256 (0:Int))=256:=List.length_replicate ..;have hx:∀ i,(List.replicate 256 (0:Int)).getD i 0=0:=fun i=>by
  simp only[List.getD_eq_getElem?_getD,List.getElem?_replicate];split<;>rfl
 rw[hlen];generalize hz:List.replicate 256 (0:Int)=z at *;exact zkh (step:=fun (v:((List (List Int))×Int)) r=>z8m N sets z ((256:Nat):Int) v.1 v.2 (fun traits x15=>(r (traits,x15))) k0)
  (I:=fun v=>0<=v.2/\v.2<=256/\zyn sets 0 (fun _=>false) v.1) (m:=fun v=>256 - v.2.toNat) (p:=fun o=>∃ T,zyn sets 0 (fun _=>false) T/\o=k0 T)
  (by
   rintro⟨T,i⟩ r ⟨h0,h1,hT⟩ hr;obtain⟨i,rfl⟩:=Int.eq_ofNat_of_zero_le h0;simp only at h1 hT ⊢;rw[z8m];by_cases hi:i<256
   . have wi:=z5k (i:=i) (by omega);obtain⟨w,v,hw,hu,hb⟩:=hT.2 i hi;have hd:z1t (decide (i<T.length)) (decide (0<(T.getD i []).length))=true:=by
      rw[hw,hT.1,decide_eq_true hi];rfl
     rw[z1d (decide_eq_true (by omega)),z1d (z3d (by rw[hlen];exact hi)),z1d (z3d (by rw[hT.1];exact hi)),wi];simp only[Int.toNat_natCast];rw[z1d hd];refine hr _ ⟨by simp only;omega,by simp only;omega,?_⟩ (by simp only[Int.toNat_natCast];omega);refine⟨by simp only[List.length_set];exact hT.1,fun e he=>?_⟩;rw[zs1 _ _ _ _ _ (by rw[hT.1];exact hi)];by_cases hei:e=i
     . rw[if_pos hei,hw,hx];subst hei;exact⟨w,v,rfl,hu,hb⟩
     . rw[if_neg hei];exact hT.2 e he
   . rw[z6z (decide_eq_false (by omega))];exact⟨T,hT,rfl⟩) N _ ⟨by simp only;omega,by simp only;omega,by
   refine⟨List.length_replicate ..,fun e he=>⟨0,0,?_,by decide,fun j _=>?_⟩⟩
   . simp only[List.getD_eq_getElem?_getD,List.getElem?_replicate,if_pos he];rfl
   . rw[show (decide (j<0))=false from rfl,show (decide (64+j<0))=false from rfl,Bool.and_false];simp[bit]⟩ (by simp only[Int.toNat_zero];omega)
theorem z17l (N:Nat) (sets:List (List Int)) {i:Nat} (hi:i<sets.length) (hi':i<128) (hs:SetOk (sets.getD i [])) (x27:List (List Int)) (x28 x29:Int) (k0:List (List Int)->Option (List Int)) (hN:257<N)
 {T0:List (List Int)} (hT0:zyn sets i (fun _=>false) T0) :
 ∃ T,zyn sets (i+1) (fun _=>false) T/\zcd N T0 (i:Int) x27 x28 x29 (zdt (zmt (sets.getD i []))) (((List.length (zdt (zmt (sets.getD i [])))):Nat):Int) (0:Int) k0=k0 T:=by
 rw[zcd];have hlen:=zt8 (zmt (sets.getD i []));have htl:=z13y (sets.getD i []);have hc:=zvs (sets.getD i []);have hgo:=zz8 (zmt (sets.getD i []));have hin:=@z17n (sets.getD i []);have step1:∀ (q e:Nat),e<256->((decide (q<i) && zc2 (sets.getD q []) e) || (decide (q=i) && inS (zmt (sets.getD i [])) e))=((decide (q<i+1) && zc2 (sets.getD q []) e) || (decide (q=i+1) && false)):=by
  intro q e he;rw[hin he,Bool.and_false,Bool.or_false];by_cases hji:q=i
  . subst hji;rw[z3s (p:=q<q) (by omega),z3p (p:=q=q) rfl,z3p (p:=q<q+1) (by omega)];rfl
  . rw[z3s (p:=q=i) hji];by_cases hlt:q<i
    . rw[z3p hlt,z3p (p:=q<i+1) (by omega),Bool.false_and,Bool.or_false]
    . rw[z3s hlt,z3s (p:=q<i+1) (by omega)];rfl
 have hfin:∀ T,zyn sets i (inS (zmt (sets.getD i []))) T->zyn sets (i+1) (fun _=>false) T:=by
  rintro T ⟨h1,h2⟩;refine⟨h1,fun e he=>?_⟩;obtain⟨w,v,hw,hu,hb⟩:=h2 e he;exact⟨w,v,hw,hu,fun j hj=>⟨by rw[(hb j hj).1,step1 j e he],by rw[(hb j hj).2,step1 (64+j) e he]⟩⟩
 rw[hlen];generalize htx:zmt (sets.getD i [])=tx at *;have hmod:Int.tmod (i:Int) 64=((i % 64:Nat):Int):=by rw[Int.tmod_eq_emod_of_nonneg (by omega)];omega
 have hm64:i % 64<64:=Nat.mod_lt _ (by omega);have hpos:(i<64/\Go.IntKind.wrap .i64 (1+Go.IntKind.wrap .i64 (Int.tdiv (i:Int) 64))=1)\/(64<=i/\Go.IntKind.wrap .i64 (1+Go.IntKind.wrap .i64 (Int.tdiv (i:Int) 64))=2):=by
  by_cases h:i<64
  . refine .inl ⟨h,?_⟩;have e:Int.tdiv (i:Int) 64=0:=by rw[Int.tdiv_eq_ediv_of_nonneg (by omega)];omega
    rw[e];decide
  . refine .inr ⟨by omega,?_⟩;have e:Int.tdiv (i:Int) 64=1:=by rw[Int.tdiv_eq_ediv_of_nonneg (by omega)];omega
    rw[e];decide
 exact zkh (step:=fun (v:((List (List Int))×Int)) r=>z8k N (i:Int) x27 x28 x29 (zdt tx) ((tx.length:Nat):Int) v.1 v.2 (fun traits x38=>(r (traits,x38))) k0)
  (I:=fun v=>0<=v.2/\v.2<=tx.length/\zyn sets i (inS (tx.take v.2.toNat)) v.1) (m:=fun v=>tx.length - v.2.toNat) (p:=fun o=>∃ T,zyn sets (i+1) (fun _=>false) T/\o=k0 T)
  (by
   rintro⟨T,q⟩ r ⟨h0,h1,hT⟩ hr;obtain⟨q,rfl⟩:=Int.eq_ofNat_of_zero_le h0;simp only[Int.toNat_natCast] at h1 hT ⊢;rw[z8k];by_cases hq:q<tx.length
   . have wi:=z5k (i:=q) (by omega);have hg:=hgo q hq;have hu8:=u8_lt (tx.getD q 0);have hst:=fun e=>z14m tx q hq e
     generalize (tx.getD q 0).toNat=u at *;obtain⟨w,v,hw,hu,hb⟩:=hT.2 u hu8;have hTl:=hT.1;have oth:∀ e,e<256->e≠u->∃ w v,T.getD e []=[0,w,v,0,0]/\(U64 w/\U64 v)/\∀ j,j<64->bit w j=((decide (j<i) && zc2 (sets.getD j []) e) || (decide (j=i) && inS (tx.take (q+1)) e))/\bit v j=((decide (64+j<i) && zc2 (sets.getD (64+j) []) e) || (decide (64+j=i) && inS (tx.take (q+1)) e)):=by
      intro e he heu;obtain⟨w',v',hw',hu',hb'⟩:=hT.2 e he;have hx:inS (tx.take (q+1)) e=inS (tx.take q) e:=by rw[hst e,z3s (p:=u=e) (fun h=>heu h.symm),Bool.or_false]
      exact⟨w',v',hw',hu',fun j hj=>by rw[hx];exact hb' j hj⟩
     have bits:∀ (z:Int) (p:Nat),U64 z->i=p+i % 64->(∀ j,j<64->bit z j=((decide (p+j<i) && zc2 (sets.getD (p+j) []) u) || (decide (p+j=i) && inS (tx.take q) u)))->∀ j,j<64->bit (zd .or .u64 z (zsh .u64 1 ((i % 64:Nat):Int))) j=((decide (p+j<i) && zc2 (sets.getD (p+j) []) u) || (decide (p+j=i) && inS (tx.take (q+1)) u)):=by
      intro z p hz hp hbz j hj;rw[z137 hz hm64,hbz j hj,hst u,z3p (p:=u=u) rfl,Bool.or_true,Bool.and_true];by_cases hji:p+j=i
      . rw[z3p hji,z3p (p:=i % 64=j) (by omega),Bool.or_true,Bool.or_true]
      . rw[z3s hji,z3s (p:=i % 64=j) (by omega),Bool.or_false,Bool.false_and]
     have same:∀ (z:Int) (p:Nat),(∀ j,j<64->p+j≠i)->(∀ j,j<64->bit z j=((decide (p+j<i) && zc2 (sets.getD (p+j) []) u) || (decide (p+j=i) && inS (tx.take q) u)))->∀ j,j<64->bit z j=((decide (p+j<i) && zc2 (sets.getD (p+j) []) u) || (decide (p+j=i) && inS (tx.take (q+1)) u)):=by
      intro z p hp hbz j hj;rw[hbz j hj,z3s (hp j hj),Bool.false_and,Bool.false_and]
     have b1:∀ j,j<64->bit w j=((decide (0+j<i) && zc2 (sets.getD (0+j) []) u) || (decide (0+j=i) && inS (tx.take q) u)):=fun j hj=>by rw[Nat.zero_add];exact (hb j hj).1
     have b2:=fun j hj=>(hb j hj).2
     have hor:∀ {z:Int},U64 z->U64 (zd .or .u64 z (zsh .u64 1 ((i % 64:Nat):Int))):=fun {z} hz=>Go.Proofs.YtjbcpimnlgogiaaDoorPx.u64_or hz (by rw[shl1 hm64];exact Go.Proofs.YtjbcpimnlgogiaaDoorPx.u64_pow hm64)
     rw[z1d (decide_eq_true (by omega)),wi];rcases hpos with⟨hp,h64⟩|⟨hp,h64⟩
     . have hd:z1t (decide (u<T.length)) (decide (1<(T.getD u []).length))=true:=by
        rw[hw,hT.1,decide_eq_true hu8];rfl
       have h1n:Int.toNat 1=1:=rfl;simp only[Int.toNat_natCast,hg,h64,hmod,h1n];rw[z1d (z3d (by omega)),z1d (decide_eq_true (by omega)),z1d (z3d (by omega)),z1d (by decide),z1d hd,z1d (decide_eq_true (by omega)),z1d (z3d (by omega)),z1d (by decide),z1d hd];refine hr _ ⟨by simp only;omega,by simp only;omega,?_⟩ (by simp only[Int.toNat_natCast];omega);simp only[Int.toNat_natCast];refine⟨by simp only[List.length_set];exact hT.1,fun e he=>?_⟩;rw[zs1 _ _ _ _ _ (by rw[hT.1];exact hu8)];by_cases heu:e=u
       . rw[if_pos heu,hw];subst heu;have c1:=bits w 0 hu.1 (by omega) b1;have c2:=same v 64 (fun j hj=>by omega) b2;exact⟨zd .or .u64 w (zsh .u64 1 ((i % 64:Nat):Int)),v,rfl,⟨hor hu.1,hu.2⟩,fun j hj=>⟨by have:=c1 j hj;rwa [Nat.zero_add] at this,c2 j hj⟩⟩
       . rw[if_neg heu];exact oth e he heu
     . have hd:z1t (decide (u<T.length)) (decide (2<(T.getD u []).length))=true:=by
        rw[hw,hT.1,decide_eq_true hu8];rfl
       have h1n:Int.toNat 2=2:=rfl;simp only[Int.toNat_natCast,hg,h64,hmod,h1n];rw[z1d (z3d (by omega)),z1d (decide_eq_true (by omega)),z1d (z3d (by omega)),z1d (by decide),z1d hd,z1d (decide_eq_true (by omega)),z1d (z3d (by omega)),z1d (by decide),z1d hd];refine hr _ ⟨by simp only;omega,by simp only;omega,?_⟩ (by simp only[Int.toNat_natCast];omega);simp only[Int.toNat_natCast];refine⟨by simp only[List.length_set];exact hT.1,fun e he=>?_⟩;rw[zs1 _ _ _ _ _ (by rw[hT.1];exact hu8)];by_cases heu:e=u
       . rw[if_pos heu,hw];subst heu;have c1:=same w 0 (fun j hj=>by omega) b1;have c2:=bits v 64 hu.2 (by omega) b2;exact⟨w,zd .or .u64 v (zsh .u64 1 ((i % 64:Nat):Int)),rfl,⟨hu.1,hor hu.2⟩,fun j hj=>⟨by have:=c1 j hj;rwa [Nat.zero_add] at this,c2 j hj⟩⟩
       . rw[if_neg heu];exact oth e he heu
   . rw[z6z (decide_eq_false (by omega))];have e:tx.take q=tx:=List.take_of_length_le (by omega);rw[e] at hT;exact⟨T,hfin T hT,rfl⟩) N _ ⟨by simp only;omega,by simp only;omega,by
   refine⟨hT0.1,fun e he=>?_⟩;obtain⟨w,v,hw,hu,hb⟩:=hT0.2 e he;exact⟨w,v,hw,hu,hb⟩⟩ (by simp only[Int.toNat_zero];omega)
theorem z17m (k:Nat) (sets:List (List Int)) (hl:sets.length<=128) (hs:∀ s∈sets,SetOk s) (k0:List (List Int)->Option (List Int)) {T0:List (List Int)} (hT0:zyn sets 0 (fun _=>false) T0) :
 ∃ T,zyn sets sets.length (fun _=>false) T/\z8n (k+300) T0 sets (((List.length sets):Nat):Int) (0:Int) k0=k0 T:=by
 rw[z8n];exact zkh (step:=fun (v:((List (List Int))×Int)) r=>z8l (k+300) sets (((List.length sets):Nat):Int) v.1 v.2 (fun traits x29=>(r (traits,x29))) k0)
  (I:=fun v=>0<=v.2/\v.2<=sets.length/\zyn sets v.2.toNat (fun _=>false) v.1) (m:=fun v=>sets.length - v.2.toNat) (p:=fun o=>∃ T,zyn sets sets.length (fun _=>false) T/\o=k0 T)
  (by
   rintro⟨T,i⟩ r ⟨h0,h1,hT⟩ hr;obtain⟨i,rfl⟩:=Int.eq_ofNat_of_zero_le h0;simp only[Int.toNat_natCast] at h1 hT ⊢;rw[z8l];by_cases hi:i<sets.length
   . have wi:=z5k (i:=i) (by omega);have hsi:=hs _ (zyb sets [] i hi);have ht:=z17o (k+295) hsi (by omega);rw[z1d (decide_eq_true (by omega)),z1d (z3d hi)];simp only[Int.toNat_natCast];rw[ht,Option.bind_some,wi];obtain⟨T1,hT1,e1⟩:=z17l (k+300) sets hi (by omega) hsi sets (((List.length sets):Nat):Int) (i:Int) (fun traits1=>r (traits1,((i+1:Nat):Int))) (by omega) hT;rw[e1];exact hr _ ⟨by simp only;omega,by simp only;omega,hT1⟩ (by simp only[Int.toNat_natCast];omega)
   . have e:i=sets.length:=by omega
     subst e;rw[z6z (decide_eq_false (by omega))];exact⟨T,hT,rfl⟩) (k+300) _ ⟨by simp only;omega,by simp only;omega,hT0⟩ (by simp only[Int.toNat_zero];omega)
theorem z10p {sets T:List (List Int)}(hl:sets.length<=128)(hT:zyn sets sets.length (fun _=>false) T){k i:Nat}(hk:k<256)(hi:i<256) :
 eqD (Go.Lift.T.arr 5 (Go.Lift.T.int Go.IntKind.u64)) (T.getD k []) (T.getD i [])=ze9 sets k i:=by
 obtain⟨w,w2,hw,hu,hb⟩:=hT.2 k hk;obtain⟨x,x2,hx,hv,hc⟩:=hT.2 i hi;rw[Bool.eq_iff_iff,zou _ _ _ rfl,zjr,hw,hx];simp only[Bool.and_false,Bool.or_false] at hb hc;constructor
 . intro e j hj;have e1:w=x/\w2=x2:=by
    injection e with _ e;injection e with e1 e;injection e with e2 e;exact⟨e1,e2⟩
   by_cases hj64:j<64
   . have h1:=(hb j hj64).1;have h2:=(hc j hj64).1;rw[z3p hj,Bool.true_and] at h1 h2;rw[<- h1,<- h2,e1.1]
   . have h1:=(hb (j - 64) (by omega)).2;have h2:=(hc (j - 64) (by omega)).2;rw[show 64+(j - 64)=j by omega,z3p hj,Bool.true_and] at h1 h2;rw[<- h1,<- h2,e1.2]
 . intro h;have e1:w=x:=zx8 hu.1 hv.1 (fun j hj=>by
    rw[(hb j hj).1,(hc j hj).1];by_cases hlt:j<sets.length
    . rw[h j hlt]
    . rw[z3s hlt];rfl)
   have e2:w2=x2:=zx8 hu.2 hv.2 (fun j hj=>by
    rw[(hb j hj).2,(hc j hj).2];by_cases hlt:64+j<sets.length
    . rw[h _ hlt]
    . rw[z3s hlt];rfl)
   rw[e1,e2]
theorem z10x (k:Nat)(sets:List (List Int))(hl:sets.length<=128)(hs:∀ s∈sets,SetOk s):za4 (k+300) (List.replicate 256 (0:Int)) sets=some (ofB sets):=by
 rw[za4];obtain⟨T0,hT0,e0⟩:=z10o (k+300) sets (fun traits=>z8n (k+300) traits sets (((List.length sets):Nat):Int) (0:Int)
  (fun traits1=>(z3f (k+300) traits1).bind fun y=>some y)) (by omega)
 rw[e0];obtain⟨T1,hT1,e1⟩:=z17m k sets hl hs (fun traits1=>(z3f (k+300) traits1).bind fun y=>some y) hT0;rw[e1];show ((z3f (k+300) T1).bind fun y=>some y)=_;rw[z180 (k+300) T1 (by rw[hT1.1];omega) (by rw[hT1.1];omega),Option.bind_some,hT1.1,ofB];rw[zqq 256 (fun a b h1 h2=>z10p hl hT1 (by omega) h2)]
theorem z12t (N:Nat)(l:List (List Int))(hl:l.length<=128)(hN:1<N):z7y N l 256=some (match l with|[]=>[]|l=>[(l,())]):=by
 obtain⟨N,rfl⟩:∃ M,N=M+2:=⟨N - 2,by omega⟩
 rw[z7y,zfl,iter,z4z];cases l with
 | nil=>rfl
 | cons s l =>
   generalize hll:s::l=m at *;have hm:0<m.length:=by rw[<- hll];simp
   have hne:m≠[]:=by rw[<- hll];simp
   have hcut:cut m (Int.toNat 0) m.length=m:=by simp[cut]
   have hmin:(if ((m.length:Nat):Int)<256 then ((m.length:Nat):Int) else 256)=(m.length:Int):=by rw[if_pos (by omega)]
   have hw:Go.IntKind.wrap .i64 (0+(m.length:Int))=(m.length:Int):=by rw[z90 (by unfold I64;omega)];omega
   rw[hcut,hmin,hw];have hn:((m.length:Nat):Int).toNat=m.length:=Int.toNat_natCast _;rw[hn,hcut,z1d (decide_eq_true (by omega)),z1d (decide_eq_true (by omega)),z1d (decide_eq_true (by omega)),z1d (decide_eq_true (by omega)),z1d (decide_eq_true (by omega))];have hit:iter (fun (v:Int) r=>z4z (N+2) m 256 v (fun i=>(r i)) (some []) (some [])) (N+1) (Go.IntKind.wrap .i64 (0+256))=some []:=by
    rw[iter,z4z,show Go.IntKind.wrap .i64 (0+256)=256 from by decide,z6z (decide_eq_false (by omega))]
   rw[hit];cases m with
   | nil=>exact absurd rfl hne
   | cons a b=>rfl
theorem z1oa (k:Nat)(l:List (List Int))(hl:l.length<=128)(hs:∀ s∈l,SetOk s):za5 (k+300) l=some (ofB l):=by
 rw[za5,zmq,z9j];simp only;rw[z12t _ l hl (by omega),Option.bind_some];cases l with
 | nil=>rw[z1gr k];rfl
 | cons s l =>
   simp only[zvb,zh9];rw[z10x k _ hl hs];rfl
end
end Go.Proofs.YtjbcpimnlgogiaaDoorLg
set_option linter.all false
set_option maxRecDepth 100000
namespace Go.Lift
noncomputable section
def BSt (t:T)(w0:World)(S0:Hp)(ob0:List Nat)(bf:Nat)(w:World)(x:t.den)(L:List (Nat×Array Value×Nat)):Prop :=
 ∃ S o,WF w0 (fun k=>k∈ob0) w/\Sub S0 S/\Sub S (hp w)/\(∀ k,S k≠none->S0 k≠none\/k∈ob0\/w0.heap.size<=k)/\ARel (hp w) S (fun _=>undef) (.box t x) (.pointer (some ⟨bf,0,none⟩)) o/\o.Nodup ∧
 (∀ k∈o,S k=none/\(k∈ob0\/w0.heap.size<=k))/\∀ p∈L,S p.1=none/\p.1∉o/\w0.heap.size<=p.1/\w.heap[p.1]?=some (.cells p.2.1 p.2.2 (0,0))
variable {P:Program} {glob:Nat->Option Dat} {t:T} {w0 w:World} {S0:Hp} {ob0:List Nat} {bf:Nat} {x:t.den} {L:List (Nat×Array Value×Nat)}
theorem BSt.lt (h:BSt t w0 S0 ob0 bf w x L):∀ p∈L,p.1<w.heap.size:=by
 obtain⟨S,o,_,_,_,_,_,_,_,hL⟩:=h;exact fun p hp=>(Array.getElem?_eq_some_iff.1 (hL p hp).2.2.2).1
theorem BSt.drew (h:BSt t w0 S0 ob0 bf w x L):BSt t w0 S0 ob0 bf w.drew x L:=by
 obtain⟨S,o,k1,k2⟩:=h;exact⟨S,o,⟨k1.size,k1.same,k1.tape,k1.os,k1.output⟩,k2⟩
theorem BSt.swap {L':List (Nat×Array Value×Nat)}(h:BSt t w0 S0 ob0 bf w x L)(hm:∀ p∈L',p∈L):BSt t w0 S0 ob0 bf w x L':=by
 obtain⟨S,o,h1,h2,h3,h4,h5,h6,h7,hL⟩:=h;exact⟨S,o,h1,h2,h3,h4,h5,h6,h7,fun p hp=>hL p (hm p hp)⟩
theorem BSt.cell (h:BSt t w0 S0 ob0 bf w x L){p:Nat}{cs:Array Value}{E i:Nat}{v:Value}(hm:(p,cs,E)∈L)(hi:cs[i]?=some v):w.cell? ⟨p,i,none⟩=some v:=by
 obtain⟨S,o,_,_,_,_,_,_,_,hL⟩:=h;have:=(hL _ hm).2.2.2;simp only at this;simp[World.cell?,this,hi]
theorem BSt.free (h:BSt t w0 S0 ob0 bf w x L){p:Nat}{cs:Array Value}{E i:Nat}(hm:(p,cs,E)∈L):w.frozen? ⟨p,i,none⟩=false:=by
 obtain⟨S,o,_,_,_,_,_,_,_,hL⟩:=h;have:=(hL _ hm).2.2.2;simp only at this;simp[World.frozen?,this]
theorem BSt.plain {f:FuncId}{g:List A->Res}(ct:Contract P glob f g)(hg:∀ S,GlobOk glob S)(h:BSt t w0 S0 ob0 bf w x L){args:List A}{vals:List Value}
 (hrel:∀ S,Sub S (hp w)->ArgsRel (hp w) S args vals (fun _=>[])) {y:(g args).X} (hy:(g args).val=some y) :
 Calls P f vals.toArray w fun e w'=>∃ v S' o',e=.returned v/\ARel (hp w') S' (fun _=>undef) ((g args).out y).1 v o'/\BSt t w0 S0 ob0 bf w' x L:=by
 have h':=h;obtain⟨S,o,h1,h2,h3,h4,h5,h6,h7,hL⟩:=h';refine ((ct.2 w S args vals _ (hrel S h3) h3 (hg S) y hy)).mono ?_;rintro e w' ⟨v,S',q,ob',rfl,hwf,hSS,hSw,hnew,⟨hr,_⟩,_⟩;refine⟨v,S',q,rfl,hr,?_⟩;have hwf':WF w (fun _=>False) w':=⟨hwf.size,fun k hk _=>hwf.same k hk (by rintro⟨i,hi⟩;cases hi),hwf.tape,hwf.os,hwf.output⟩
 have hlt:∀ k∈o,k<w.heap.size:=fun k hk=>by
  obtain⟨ob,hob⟩:=h5.obj k hk;exact (Array.getElem?_eq_some_iff.1 hob.1).1
 have hnw:∀ k,k<w.heap.size->S' k≠none->S k≠none:=fun k hk hs=>by
  rcases hnew k hs with h|⟨i,hi⟩|h
  . exact h
  . cases hi
  . omega
 refine⟨S',o,h1.trans hwf' (fun _ h=>h.elim),h2.trans hSS,hSw,fun k hk=>?_,?_,h6,fun k hk=>⟨?_,(h7 k hk).2⟩,fun p hp=>?_⟩
 . rcases hnew k hk with h|⟨i,hi⟩|h
   . exact h4 k h
   . cases hi
   . exact .inr (.inr (Nat.le_trans h1.size h))
 . obtain⟨b,cs,E,fr,bs,rfl,e1,e2,e3,e4⟩:=h5;refine⟨b,cs,E,fr,bs,rfl,e1,?_,e3,e4.mono hSS _ _ _ _ (fun k hk=>hwf'.same k (hlt k (by simp[hk])) (fun h=>h))⟩;have:=hwf'.same b (hlt b (by simp)) (fun h=>h);simp only[hp] at e2 ⊢;rw[this];exact e2
 . cases hs:S' k with
   | none=>rfl
   | some q=>exact absurd (h7 k hk).1 (hnw k (hlt k hk) (by rw[hs];simp))
 . obtain⟨p1,p2,p3,p4⟩:=hL p hp;have hl:=(Array.getElem?_eq_some_iff.1 p4).1;refine⟨?_,p2,p3,?_⟩
   . cases hs:S' p.1 with
     | none=>rfl
     | some q=>exact absurd p1 (hnw _ hl (by rw[hs];simp))
   . rw[hwf'.same p.1 hl (fun h=>h)];exact p4
theorem z155 {S:Hp}{v:Value}{o:List Nat}{args:List A}{vals:List Value}(h5:ARel (hp w) S (fun _=>undef) (.box t x) v o)(h6:o.Nodup)(h7:∀ k∈o,S k=none)(hr0:ArgsRel (hp w) S args vals (fun _=>[])) :
 ArgsRel (hp w) S (.box t x::args) (v::vals) (fun i=>if i=0 then o else []):=by
 refine⟨by simp[hr0.len],fun i q hq=>?_,fun i hi=>?_,fun i j b hi hj=>?_,fun i=>?_,fun i b hb=>?_⟩
 . cases i with
   | zero =>
     simp at hq;subst hq;exact⟨⟨_,rfl,by simpa using h5⟩,rfl⟩
   | succ i =>
     obtain⟨⟨v,hv,ha⟩,hrf⟩:=hr0.rel i q (by simpa using hq);exact⟨⟨v,by simpa using hv,by simpa using ha⟩,hrf⟩
 . rw[if_neg (by intro e;subst e;simp at hi)]
 . by_cases hi0:i=0<;>by_cases hj0:j=0<;>simp_all
 . by_cases hi0:i=0<;>simp[hi0,h6]
 . by_cases hi0:i=0
   . rw[if_pos hi0] at hb;exact h7 b hb
   . rw[if_neg hi0] at hb;cases hb
theorem BSt.alloc (h:BSt t w0 S0 ob0 bf w x L) (cs:Array Value) (E:Nat):BSt t w0 S0 ob0 bf (w.alloc (.cells cs E)) x ((w.heap.size,cs,E)::L):=by
 have hlt:=h.lt;obtain⟨S,o,h1,h2,h3,h4,h5,h6,h7,hL⟩:=h;have hh:(w.alloc (.cells cs E)).heap=w.heap.push (.cells cs E (0,0)):=rfl;have hk:∀ k,k<w.heap.size->(w.alloc (.cells cs E)).heap[k]?=w.heap[k]?:=fun k hk=>by
  rw[hh,Array.getElem?_push,if_neg (by omega)]
 have hol:∀ k∈o,k<w.heap.size:=fun k hk=>by
  obtain⟨ob,hob⟩:=h5.obj k hk;exact (Array.getElem?_eq_some_iff.1 hob.1).1
 refine⟨S,o,⟨by rw[hh,Array.size_push];have:=h1.size;omega,fun k h1' h2'=>by rw[hk k (by have:=h1.size;omega)];exact h1.same k h1' h2',h1.tape,h1.os,h1.output⟩,h2,fun k q ho=>?_,h4,?_,h6,h7,fun p hpm=>?_⟩
 . have:=h3 k q ho;simp only[hp] at this ⊢;rw[hk k (Array.getElem?_eq_some_iff.1 this).1];exact this
 . obtain⟨b,c1,E',fr,bs,rfl,e1,e2,e3,e4⟩:=h5;refine⟨b,c1,E',fr,bs,rfl,e1,?_,e3,e4.mono (Sub.refl _) _ _ _ _ (fun k hkm=>hk k (hol k (by simp[hkm])))⟩;simp only[hp] at e2 ⊢;rw[hk b (hol b (by simp))];exact e2
 . rcases List.mem_cons.1 hpm with rfl|hpm
   . refine⟨?_,fun hm=>absurd (hol _ hm) (by simp),h1.size,?_⟩
     . cases hs:S w.heap.size with
       | none=>rfl
       | some q =>
         have:=h3 _ _ hs;simp only[hp] at this;have:=(Array.getElem?_eq_some_iff.1 this).1;omega
     . simp only;rw[hh,Array.getElem?_push,if_pos rfl]
   . obtain⟨p1,p2,p3,p4⟩:=hL p hpm;exact⟨p1,p2,p3,by rw[hk p.1 (hlt p hpm)];exact p4⟩
theorem BSt.put {p:Nat}{cs:Array Value}{E:Nat}(h:BSt t w0 S0 ob0 bf w x ((p,cs,E)::L))(hd:∀ q∈L,q.1≠p){w':World}{cs':Array Value}(hw:w'=z1i w p (.cells cs' E (0,0))):BSt t w0 S0 ob0 bf w' x ((p,cs',E)::L):=by
 obtain⟨S,o,h1,h2,h3,h4,h5,h6,h7,hL⟩:=h;obtain⟨q1,q2,q3,q4⟩:=hL (p,cs,E) (List.mem_cons_self ..);simp only at q1 q2 q3 q4;have hne:∀ k,k≠p->w'.heap[k]?=w.heap[k]?:=fun k hk=>by
  have:=zm (w:=w) (o:=.cells cs' E (0,0)) hk;rw[hw];exact this
 have hsz:w'.heap.size=w.heap.size:=by rw[hw];simp[z1i]
 refine⟨S,o,⟨by rw[hsz];exact h1.size,fun k h1' h2'=>by rw[hne k (by omega)];exact h1.same k h1' h2',by rw[hw];exact h1.tape,by rw[hw];exact h1.os,by rw[hw];exact h1.output⟩,h2,fun k q ho=>?_,h4,?_,h6,h7,fun u hu=>?_⟩
 . have hk:k≠p:=fun e=>by rw[e,q1] at ho;cases ho
   have:=h3 k q ho;simp only[hp] at this ⊢;rw[hne k hk];exact this
 . obtain⟨b,c1,E',fr,bs,rfl,e1,e2,e3,e4⟩:=h5;refine⟨b,c1,E',fr,bs,rfl,e1,?_,e3,e4.mono (Sub.refl _) _ _ _ _ (fun k hkm=>hne k (fun e=>q2 (by simp[<- e,hkm])))⟩;simp only[hp] at e2 ⊢;rw[hne b (fun e=>q2 (by simp[<- e]))];exact e2
 . rcases List.mem_cons.1 hu with rfl|hu
   . refine⟨q1,q2,q3,?_⟩;rw[hw];exact z2a q4
   . obtain⟨p1,p2,p3,p4⟩:=hL u (List.mem_cons_of_mem _ hu);exact⟨p1,p2,p3,by rw[hne u.1 (hd u hu)];exact p4⟩
theorem BSt.setCell {p:Nat}{cs:Array Value}{E:Nat}(h:BSt t w0 S0 ob0 bf w x ((p,cs,E)::L))(hd:∀ q∈L,q.1≠p)(i:Nat)(v:Value) :
 BSt t w0 S0 ob0 bf (w.setCell ⟨p,i,none⟩ v) x ((p,cs.setIfInBounds i v,E)::L):=by
 have hb:hp w p=some (.cells cs E (0,0)):=by
  obtain⟨S,o,_,_,_,_,_,_,_,hL⟩:=h;exact (hL _ (List.mem_cons_self ..)).2.2.2
 exact h.put hd (zl3 v hb)
theorem BSt.start {args:List A}{vals:List Value}{ob:Nat->List Nat}(har:ArgsRel (hp w) S0 (.box t x::args) vals ob)(hS:Sub S0 (hp w)) :
 ∃ bf vs,vals=.pointer (some ⟨bf,0,none⟩)::vs/\ob 0≠[]/\BSt t w S0 (ob 0) bf w x []:=by
 obtain⟨⟨v,hv,hr⟩,_⟩:=har.rel 0 _ rfl;have hr':=hr;obtain⟨b,cs,E,fr,bs,hob,rfl,_⟩:=hr';cases vals with
 | nil=>cases hv
 | cons v vs =>
   cases hv;exact⟨b,vs,rfl,by rw[hob];simp,S0,ob 0,WF.refl _ _,Sub.refl _,hS,fun _ h=>.inl h,hr,har.nd 0,fun k hk=>⟨har.hid 0 k hk,.inl hk⟩,fun p hp=>by cases hp⟩
end
end Go.Lift
set_option linter.all false
set_option maxRecDepth 100000
namespace Go.Lift
noncomputable section
structure NSt (w0:World) (S0:Hp) (w:World) (S:Hp) (L:List (Nat×Array Value×Nat)):Prop where
 wf:WF w0 (fun _=>False) w
 sub:Sub S0 S
 inw:Sub S (hp w)
 new:∀ k,S k≠none->S0 k≠none\/w0.heap.size<=k
 own:∀ p∈L,S p.1=none/\w0.heap.size<=p.1/\w.heap[p.1]?=some (.cells p.2.1 p.2.2 (0,0))
variable {P:Program} {glob:Nat->Option Dat} {w0 w:World} {S0 S:Hp} {L:List (Nat×Array Value×Nat)}
theorem NSt.start (hS:Sub S0 (hp w)):NSt w S0 w S0 []:=⟨WF.refl _ _,Sub.refl _,hS,fun _ h=>.inl h,fun p hp=>by cases hp⟩
theorem NSt.lt (h:NSt w0 S0 w S L):∀ p∈L,p.1<w.heap.size:=fun p hp=>(Array.getElem?_eq_some_iff.1 (h.own p hp).2.2).1
theorem NSt.drew (h:NSt w0 S0 w S L):NSt w0 S0 w.drew S L:=⟨⟨h.wf.size,h.wf.same,h.wf.tape,h.wf.os,h.wf.output⟩,h.sub,h.inw,h.new,h.own⟩
theorem NSt.swap {L':List (Nat×Array Value×Nat)}(h:NSt w0 S0 w S L)(hm:∀ p∈L',p∈L):NSt w0 S0 w S L':=⟨h.wf,h.sub,h.inw,h.new,fun p hp=>h.own p (hm p hp)⟩
theorem NSt.cell (h:NSt w0 S0 w S L){p:Nat}{cs:Array Value}{E i:Nat}{v:Value}(hm:(p,cs,E)∈L)(hi:cs[i]?=some v):w.cell? ⟨p,i,none⟩=some v:=by
 have:=(h.own _ hm).2.2;simp only at this;simp[World.cell?,this,hi]
theorem NSt.free (h:NSt w0 S0 w S L){p:Nat}{cs:Array Value}{E i:Nat}(hm:(p,cs,E)∈L):w.frozen? ⟨p,i,none⟩=false:=by
 have:=(h.own _ hm).2.2;simp only at this;simp[World.frozen?,this]
theorem NSt.alloc (h:NSt w0 S0 w S L) (cs:Array Value) (E:Nat):NSt w0 S0 (w.alloc (.cells cs E)) S ((w.heap.size,cs,E)::L):=by
 have hlt:=h.lt;have hh:(w.alloc (.cells cs E)).heap=w.heap.push (.cells cs E (0,0)):=rfl;have hk:∀ k,k<w.heap.size->(w.alloc (.cells cs E)).heap[k]?=w.heap[k]?:=fun k hk=>by
  rw[hh,Array.getElem?_push,if_neg (by omega)]
 refine⟨⟨by rw[hh,Array.size_push];have:=h.wf.size;omega,fun k h1' h2'=>by rw[hk k (by have:=h.wf.size;omega)];exact h.wf.same k h1' h2',h.wf.tape,h.wf.os,h.wf.output⟩,h.sub,fun k q ho=>?_,h.new,fun p hpm=>?_⟩
 . have:=h.inw k q ho;simp only[hp] at this ⊢;rw[hk k (Array.getElem?_eq_some_iff.1 this).1];exact this
 . rcases List.mem_cons.1 hpm with rfl|hpm
   . refine⟨?_,h.wf.size,?_⟩
     . cases hs:S w.heap.size with
       | none=>rfl
       | some q =>
         have:=h.inw _ _ hs;simp only[hp] at this;have:=(Array.getElem?_eq_some_iff.1 this).1;omega
     . simp only;rw[hh,Array.getElem?_push,if_pos rfl]
   . obtain⟨p1,p3,p4⟩:=h.own p hpm;exact⟨p1,p3,by rw[hk p.1 (hlt p hpm)];exact p4⟩
theorem zeh (w:World)(o:Obj):w.heap.size+1=(w.alloc o).heap.size:=by
 show _=(w.heap.push _).size;rw[Array.size_push]
theorem NSt.new' (h:NSt w0 S0 w S L){p:Nat}(hp:p=w.heap.size)(cs:Array Value)(E:Nat):NSt w0 S0 (w.alloc (.cells cs E)) S ((p,cs,E)::L):=by
 subst hp;exact h.alloc cs E
theorem NSt.set {p:Nat}{cs:Array Value}{E:Nat}(h:NSt w0 S0 w S ((p,cs,E)::L))(hd:∀ q∈L,q.1≠p)(i:Nat)(v:Value) :
 NSt w0 S0 (w.setCell ⟨p,i,none⟩ v) S ((p,cs.setIfInBounds i v,E)::L):=by
 obtain⟨q1,q3,q4⟩:=h.own (p,cs,E) (List.mem_cons_self ..);simp only at q1 q3 q4;have hw:=zl3 (off:=i) v (show hp w p=some (.cells cs E (0,0)) from q4);obtain⟨w',hw'⟩:∃ w',w'=w.setCell ⟨p,i,none⟩ v:=⟨_,rfl⟩
 rw[<- hw'] at hw ⊢;have hne:∀ k,k≠p->w'.heap[k]?=w.heap[k]?:=fun k hk=>by
  have:=zm (w:=w) (o:=.cells (cs.setIfInBounds i v) E (0,0)) hk;rw[hw];exact this
 have hsz:w'.heap.size=w.heap.size:=by rw[hw];simp[z1i]
 refine⟨⟨by rw[hsz];exact h.wf.size,fun k h1' h2'=>by rw[hne k (by omega)];exact h.wf.same k h1' h2',by rw[hw];exact h.wf.tape,by rw[hw];exact h.wf.os,by rw[hw];exact h.wf.output⟩,h.sub,fun k q ho=>?_,h.new,fun u hu=>?_⟩
 . have hk:k≠p:=fun e=>by rw[e,q1] at ho;cases ho
   have:=h.inw k q ho;simp only[hp] at this ⊢;rw[hne k hk];exact this
 . rcases List.mem_cons.1 hu with rfl|hu
   . refine⟨q1,q3,?_⟩;rw[hw];exact z2a q4
   . obtain⟨p1,p3,p4⟩:=h.own u (List.mem_cons_of_mem _ hu);exact⟨p1,p3,by rw[hne u.1 (hd u hu)];exact p4⟩
theorem NSt.give {p:Nat}{cs:Array Value}{E:Nat}(h:NSt w0 S0 w S ((p,cs,E)::L))(hd:∀ q∈L,q.1≠p) :
 NSt w0 S0 w (fun k=>if k=p then some (.cells cs E (0,0)) else S k) L/\Sub S (fun k=>if k=p then some (.cells cs E (0,0)) else S k):=by
 obtain⟨q1,q3,q4⟩:=h.own (p,cs,E) (List.mem_cons_self ..);simp only at q1 q3 q4;have hs:Sub S (fun k=>if k=p then some (.cells cs E (0,0)) else S k):=fun k o hk=>by
  refine (if_neg (fun e=>?_)).trans hk;rw[e,q1] at hk;cases hk
 refine⟨⟨h.wf,h.sub.trans hs,fun k o hk=>?_,fun k hk=>?_,fun u hu=>?_⟩,hs⟩
 . split at hk
   . subst_vars
     simp only[hp];rw[q4];exact hk
   . exact h.inw k o hk
 . split at hk
   . subst_vars;exact .inr q3
   . exact h.new k hk
 . obtain⟨p1,p3,p4⟩:=h.own u (List.mem_cons_of_mem _ hu);exact⟨by rw[if_neg (hd u hu)];exact p1,p3,p4⟩
theorem NSt.plain {f:FuncId}{g:List A->Res}(ct:Contract P glob f g)(hg:GlobOk glob S)(h:NSt w0 S0 w S L){args:List A}{vals:List Value}
 (hrel:ArgsRel (hp w) S args vals (fun _=>[])) {y:(g args).X} (hy:(g args).val=some y) :
 Calls P f vals.toArray w fun e w'=>∃ v S' o',e=.returned v/\ARel (hp w') S' (fun _=>undef) ((g args).out y).1 v o'/\Sub S S'/\NSt w0 S0 w' S' L:=by
 refine ((ct.2 w S args vals _ hrel h.inw hg y hy)).mono ?_;rintro e w' ⟨v,S',q,ob',rfl,hwf,hSS,hSw,hnew,⟨hr,_⟩,_⟩;refine⟨v,S',q,rfl,hr,hSS,?_⟩;have hwf':WF w (fun _=>False) w':=⟨hwf.size,fun k hk _=>hwf.same k hk (by rintro⟨i,hi⟩;cases hi),hwf.tape,hwf.os,hwf.output⟩
 have hnw:∀ k,k<w.heap.size->S' k≠none->S k≠none:=fun k hk hs=>by
  rcases hnew k hs with h|⟨i,hi⟩|h
  . exact h
  . cases hi
  . omega
 refine⟨h.wf.trans hwf' (fun _ h=>h.elim),h.sub.trans hSS,hSw,fun k hk=>?_,fun p hp=>?_⟩
 . rcases hnew k hk with h'|⟨i,hi⟩|h'
   . exact h.new k h'
   . cases hi
   . exact .inr (Nat.le_trans h.wf.size h')
 . obtain⟨p1,p3,p4⟩:=h.own p hp;have hl:=(Array.getElem?_eq_some_iff.1 p4).1;refine⟨?_,p3,?_⟩
   . cases hs:S' p.1 with
     | none=>rfl
     | some q=>exact absurd p1 (hnw _ hl (by rw[hs];simp))
   . rw[hwf'.same p.1 hl (fun h=>h)];exact p4
end
end Go.Lift
