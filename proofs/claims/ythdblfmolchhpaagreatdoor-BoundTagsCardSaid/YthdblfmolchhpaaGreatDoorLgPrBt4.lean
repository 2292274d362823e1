import Derived.Test.YthdblfmolchhpaaGreatDoorLgPrBt3
import Derived.Test.YthdblfmolchhpaaGreatDoorLgW
set_option linter.all false
set_option maxRecDepth 100000
namespace Go.Proofs.YthdblfmolchhpaaGreatDoorLg
noncomputable section
open Go Go.Lift
def zvl:Code:=(Tryz.f80.body).getD .skip
def L_64:List (List Nat×List Nat):=[([0],[0,1]),([0,1],[5,0,1]),([0,0,1,1],[15,14,5,0,1]),([0,1,0,1,1],[15,14,5,0,1]),(z13i,[16,15,5,0,1,14]),(zzg,[15,5,0,1,14]),(z13j,[5]),(z16s,[5,6,0,1,15,14]),(z1nj,[15,14,5,0,1]),(z16r,[15,14,5,0,1]),(z16q,[15,14,5,0,1]),([1,0,1,1],[5]),([0,1,1,1],[4]),([1,1,1,1],[4])]
def E_64 (N:Nat):Env:=z14 tys glob [] [(5,(.int .u8))] [] [] false [] [(108,z8 N)]
theorem z1or (N:Nat):EnvOk Tryz.prog (E_64 N):=ze mixed zq (FnsOk.nil) (ItsOk.cons (zb N) (ItsOk.nil))
def zdd (N:Nat)(a:(List UInt8))(b:(List UInt8))(x14:Int)(out:(List Int))(x15:Int)(rec:(List Int)->Int->Option (List UInt8))(k0:(List Int)->Option (List UInt8)):Option (List UInt8):=cond (decide (x15<x14)) (cond (inR x15 (List.length a)) (cond (inR x15 (List.length b)) (cond (inR x15 (List.length out)) (cond (decide ((Int.toNat x15)<(List.length out))) (rec (List.set out (Int.toNat x15) (zr Go.BinOp.xor IntKind.u8 (UInt8.toNat (List.getD a (Int.toNat x15) (0:UInt8)):Int) (UInt8.toNat (List.getD b (Int.toNat x15) (0:UInt8)):Int))) (IntKind.wrap IntKind.i64 (x15+1))) none) none) none) none) (k0 out)
def zjr (N:Nat)(a:(List UInt8))(b:(List UInt8))(out:(List Int))(x14:Int)(x15:Int)(k0:(List Int)->Option (List UInt8)):Option (List UInt8):=iter (fun (v:((List Int)×Int)) r=>zdd N a b x14 v.1 v.2 (fun out x15=>(r (out,x15))) k0) N (out,x15)
def z1me (N:Nat)(i:((List UInt8)×(List UInt8)×Int))(v:((List Int)×Int))(r:((List Int)×Int)->Option (List UInt8))(K:Ex->List A->Option (List UInt8)):Option (List UInt8):=zdd N i.1 i.2.1 i.2.2 v.1 v.2 (fun out x15=>(r (out,x15))) (fun a0=>(K (.exit 0) (mkS [(5,.row (.int .u8))] 25 (a0,()))))
def z1kl (N:Nat):Hd (List UInt8):=fun st K=>(unS SQ48 15 (restr [15,14,5,0,1] 0 st)).bind fun x=>iter (fun v r=>z1me N ((fun x=>(x.1,x.2.1,x.2.2.2.1)) x) v r K) N ((fun x=>(x.2.2.1,x.2.2.2.2.1)) x)
def t1_64 (N:Nat):Tab (List UInt8):=[]
theorem z1ie {N:Nat}{c:Ctx}(hb:Base Tryz.prog (E_64 N) c):zw Tryz.prog c (zk zvl [0,1,0,1,1]) (z1kl N) :=
 z1v (s:=SQ48) (m:=15) (z1me N) [15,14,5,0,1] N (fun x=>(x.1,x.2.1,x.2.2.2.1)) (fun x=>(x.2.2.1,x.2.2.2.2.1)) (fun i v=>(i.1,i.2.1,v.1,i.2.2,v.2,())) (fun _=>rfl) (zf hb N (t1_64 N) L_64 zvl TabOk.nil [0,0,1,0,1,1] _ rfl) (fun i v r K=>by kernel_rfl)
def zaa (N:Nat)(a:(List UInt8))(b:(List UInt8)):Option (List UInt8):=cond (decide (((0:Int)<=(if ((List.length b:Int)<(List.length a:Int)) then (List.length b:Int) else (List.length a:Int)))/\(((if ((List.length b:Int)<(List.length a:Int)) then (List.length b:Int) else (List.length a:Int))<=(if ((List.length b:Int)<(List.length a:Int)) then (List.length b:Int) else (List.length a:Int)))/\((((if ((List.length b:Int)<(List.length a:Int)) then (List.length b:Int) else (List.length a:Int))*(1:Int))<=(281474976710656:Int))/\((if ((List.length b:Int)<(List.length a:Int)) then (List.length b:Int) else (List.length a:Int))<=(9223372036854775807:Int)))))) (zjr N a b (List.replicate (Int.toNat (if ((List.length b:Int)<(List.length a:Int)) then (List.length b:Int) else (List.length a:Int))) (0:Int)) (((List.length (List.replicate (Int.toNat (if ((List.length b:Int)<(List.length a:Int)) then (List.length b:Int) else (List.length a:Int))) (0:Int))):Nat):Int) (0:Int) (fun out=>some (z2e out))) none
def t_64 (N:Nat):Tab (List UInt8):=[([0,1,0,1,1],z1kl N)]
theorem z1b8 (N:Nat)(x:z1b SQ1):z2b (E_64 N) N (t_64 N) L_64 Tryz.f80 (mkS SQ1 0 x) (z1c (.v .str) 2)=zaa N x.1 x.2.1:=by kernel_rfl
def zb9 (N:Nat):List A->Res:=z11 SQ1 (fun x=>zaa N x.1 x.2.1) (z2i (.v .str) 2)
theorem zjs (N:Nat):Contract Tryz.prog glob 80 (zb9 N) :=
 Contract.of (E:=E_64 N) (H:=t_64 N) (L:=L_64) (N:=N) (body:=zvl) (K:=(z1c (.v .str) 2)) (z1or N) Tryz.func80 (by kernel_rfl) (by decide) (fun _ hb=>(TabOk.cons (z1ie hb) TabOk.nil)) (fun x y h=>by rw[z1b8];exact h) (zm (s:=(.v .str)) (m:=2))
def z1dj:Code:=(Tryz.f96.body).getD .skip
def L_65:List (List Nat×List Nat):=[([0],[0,1,2]),([0,1],[7,0,1,2]),([0,1,1],[7,2]),([0,1,1,1],[7]),([0,1,1,1,1],[6]),([1,1,1,1,1],[6])]
def E_65 (N:Nat):Env:=z14 tys glob [(80,zb9 N),(106,z79 N),(105,z4g N),(104,zg0 N),(107,zoo)] [] [] [] false [] [(108,z8 N)]
theorem z1oq (N:Nat):EnvOk Tryz.prog (E_65 N):=ze mixed zq (FnsOk.cons (zjs N) (FnsOk.cons (zcn N) (FnsOk.cons (z5t N) (FnsOk.cons (zob N) (FnsOk.cons ((Contract.up (z10q z17) glob)) (FnsOk.nil)))))) (ItsOk.cons (zb N) (ItsOk.nil))
def z7t (N:Nat)(key:(List UInt8))(mask:(List UInt8))(text:(List UInt8)):Option (List UInt8):=(zku (mask,(64,()))).bind fun y=>(zaa N key y).bind fun y1=>(z3o N (true,(([1779033703,3144134277,1013904242,2773480762,1359893119,2600822924,528734635,1541459225]:List Int),([],(0,())))) y1).bind fun y2=>(z3o N y2.2.1 text).bind fun y3=>(z57 N y3.2.1).bind fun y4=>some y4.1
def t_65 (N:Nat):Tab (List UInt8):=[]
theorem z1b7 (N:Nat)(x:z1b z1fe):z2b (E_65 N) N (t_65 N) L_65 Tryz.f96 (mkS z1fe 0 x) (z1c (.v .str) 3)=z7t N x.1 x.2.1 x.2.2.1:=by kernel_rfl
def zfh (N:Nat):List A->Res:=z11 z1fe (fun x=>z7t N x.1 x.2.1 x.2.2.1) (z2i (.v .str) 3)
theorem zqc (N:Nat):Contract Tryz.prog glob 96 (zfh N) :=
 Contract.of (E:=E_65 N) (H:=t_65 N) (L:=L_65) (N:=N) (body:=z1dj) (K:=(z1c (.v .str) 3)) (z1oq N) Tryz.func96 (by kernel_rfl) (by decide) (fun _ hb=>TabOk.nil) (fun x y h=>by rw[z1b7];exact h) (zm (s:=(.v .str)) (m:=3))
def zvk:Code:=(Tryz.f83.body).getD .skip
def L_66:List (List Nat×List Nat):=[([0],[0,1]),([0,0,1],[8,0,1]),([1,0,1],[0,1]),([0,1,0,1],[0,1]),([0,1,1],[0,1]),([0,1,1,1],[0,5]),([0,1,1,1,1],[4]),([1,1,1,1,1],[4])]
def E_66 (N:Nat):Env:=z14 tys glob [(96,zfh N),(94,zay N),(95,zba N)] [] [] [] false [] [(108,z8 N)]
theorem z1op (N:Nat):EnvOk Tryz.prog (E_66 N):=ze mixed zq (FnsOk.cons (zqc N) (FnsOk.cons (zil N) (FnsOk.cons (zjt N) (FnsOk.nil)))) (ItsOk.cons (zb N) (ItsOk.nil))
def zbm (N:Nat)(key:(List UInt8))(text:(List UInt8))(k0:(List UInt8)->Option (List UInt8)):Option (List UInt8):=cond (decide (64<(List.length key:Int))) ((zfz N key).bind fun y=>k0 y) (k0 key)
def z1md (N:Nat)(x:z1b SQ1)(K:Ex->List A->Option (List UInt8)):Option (List UInt8):=zbm N x.1 x.2.1 (fun a0=>(K .normal (mkS SQ1 17 (a0,x.2.1,()))))
def z1kk (N:Nat):Hd (List UInt8):=fun st K=>(unS SQ1 17 (restr [0,1] 0 st)).bind fun x=>z1md N x K
def t1_66 (N:Nat):Tab (List UInt8):=[]
theorem z1id {N:Nat}{c:Ctx}(hb:Base Tryz.prog (E_66 N) c):zw Tryz.prog c (zk zvk [0,1]) (z1kk N) :=
 z13 (s:=SQ1) (m:=17) (g:=z1md N) [0,1] (zf hb N (t1_66 N) L_66 zvk TabOk.nil [0,1] _ rfl) (fun x K=>by kernel_rfl)
def zej (N:Nat)(key:(List UInt8))(text:(List UInt8)):Option (List UInt8):=zbm N key text (fun z17d=>(zab N z17d 64).bind fun y=>(z7t N y ([(54:UInt8)]:List UInt8) text).bind fun y1=>(z7t N y ([(92:UInt8)]:List UInt8) y1).bind fun y2=>some y2)
def t_66 (N:Nat):Tab (List UInt8):=[([0,1],z1kk N)]
theorem z1b6 (N:Nat)(x:z1b SQ1):z2b (E_66 N) N (t_66 N) L_66 Tryz.f83 (mkS SQ1 0 x) (z1c (.v .str) 2)=zej N x.1 x.2.1:=by kernel_rfl
def zdq (N:Nat):List A->Res:=z11 SQ1 (fun x=>zej N x.1 x.2.1) (z2i (.v .str) 2)
theorem zml (N:Nat):Contract Tryz.prog glob 83 (zdq N) :=
 Contract.of (E:=E_66 N) (H:=t_66 N) (L:=L_66) (N:=N) (body:=zvk) (K:=(z1c (.v .str) 2)) (z1op N) Tryz.func83 (by kernel_rfl) (by decide) (fun _ hb=>(TabOk.cons (z1id hb) TabOk.nil)) (fun x y h=>by rw[z1b6];exact h) (zm (s:=(.v .str)) (m:=2))
def z1di:Code:=(Tryz.f73.body).getD .skip
def L_67:List (List Nat×List Nat):=[([0],[0,1]),([0,1],[4]),([1,1],[4])]
def E_67 (N:Nat):Env:=z14 tys glob [(83,zdq N),(84,zfi N)] [] [] [] false [] [(108,z8 N)]
theorem z1oo (N:Nat):EnvOk Tryz.prog (E_67 N):=ze mixed zq (FnsOk.cons (zml N) (FnsOk.cons (zqd N) (FnsOk.nil))) (ItsOk.cons (zb N) (ItsOk.nil))
def z21 (N:Nat)(key:(List UInt8))(parts:(List (List UInt8))):Option (List UInt8):=(z7u N parts).bind fun y=>(zej N key y).bind fun y1=>some y1
def t_67 (N:Nat):Tab (List UInt8):=[]
theorem z1b5 (N:Nat)(x:z1b [(0,.v .str),(0,.v (.sl .str))]):z2b (E_67 N) N (t_67 N) L_67 Tryz.f73 (mkS [(0,.v .str),(0,.v (.sl .str))] 0 x) (z1c (.v .str) 2)=z21 N x.1 x.2.1:=by kernel_rfl
def z2g (N:Nat):List A->Res:=z11 [(0,.v .str),(0,.v (.sl .str))] (fun x=>z21 N x.1 x.2.1) (z2i (.v .str) 2)
theorem z38 (N:Nat):Contract Tryz.prog glob 73 (z2g N) :=
 Contract.of (E:=E_67 N) (H:=t_67 N) (L:=L_67) (N:=N) (body:=z1di) (K:=(z1c (.v .str) 2)) (z1oo N) Tryz.func73 (by kernel_rfl) (by decide) (fun _ hb=>TabOk.nil) (fun x y h=>by rw[z1b5];exact h) (zm (s:=(.v .str)) (m:=2))
def z1dh:Code:=(Tryz.f66.body).getD .skip
def L_68:List (List Nat×List Nat):=[([0],[0,1]),([0,1],[4]),([1,1],[4])]
def E_68 (N:Nat):Env:=z14 tys glob [(73,z2g N)] [] [] [] false [] [(108,z8 N)]
theorem z1on (N:Nat):EnvOk Tryz.prog (E_68 N):=ze mixed zq (FnsOk.cons (z38 N) (FnsOk.nil)) (ItsOk.cons (zb N) (ItsOk.nil))
def zak (N:Nat)(key:(List UInt8))(id_:(List UInt8)):Option (List UInt8):=(z21 N key ([([(114:UInt8),(111:UInt8),(111:UInt8),(116:UInt8)]:List UInt8),id_]:List (List UInt8))).bind fun y=>some y
def t_68 (N:Nat):Tab (List UInt8):=[]
theorem z1b4 (N:Nat)(x:z1b SQ1):z2b (E_68 N) N (t_68 N) L_68 Tryz.f66 (mkS SQ1 0 x) (z1c (.v .str) 2)=zak N x.1 x.2.1:=by kernel_rfl
def zfl (N:Nat):List A->Res:=z11 SQ1 (fun x=>zak N x.1 x.2.1) (z2i (.v .str) 2)
theorem zqo (N:Nat):Contract Tryz.prog glob 66 (zfl N) :=
 Contract.of (E:=E_68 N) (H:=t_68 N) (L:=L_68) (N:=N) (body:=z1dh) (K:=(z1c (.v .str) 2)) (z1on N) Tryz.func66 (by kernel_rfl) (by decide) (fun _ hb=>TabOk.nil) (fun x y h=>by rw[z1b4];exact h) (zm (s:=(.v .str)) (m:=2))
def z1dg:Code:=(Tryz.f67.body).getD .skip
def L_69:List (List Nat×List Nat):=[([0],[3,0]),([0,0,1],[7,0,3]),([1,0,1],[0,3]),([0,0,1,0,1],[4]),([1,0,1,0,1],[4]),([0,1,1],[4]),([1,1,1],[4])]
def E_69 (N:Nat):Env:=z14 tys glob [(73,z2g N)] [] [] [] false [] [(108,z8 N)]
theorem z1om (N:Nat):EnvOk Tryz.prog (E_69 N):=ze mixed zq (FnsOk.cons (z38 N) (FnsOk.nil)) (ItsOk.cons (zb N) (ItsOk.nil))
def z4v (N:Nat)(t:(List UInt8))(l:((List UInt8)×DT4)):Option (List UInt8):=cond (l.2.1 == []) ((z21 N t ([([(102:UInt8),(105:UInt8),(114:UInt8),(115:UInt8),(116:UInt8)]:List UInt8),l.1]:List (List UInt8))).bind fun y=>some y) ((z21 N t ([([(116:UInt8),(104:UInt8),(105:UInt8),(114:UInt8),(100:UInt8)]:List UInt8),l.2.1,l.1]:List (List UInt8))).bind fun y1=>some y1)
def t_69 (N:Nat):Tab (List UInt8):=[]
theorem z1b3 (N:Nat)(x:z1b [(0,.v .str),(0,.v zgo)]):z2b (E_69 N) N (t_69 N) L_69 Tryz.f67 (mkS [(0,.v .str),(0,.v zgo)] 0 x) (z1c (.v .str) 2)=z4v N x.1 x.2.1:=by kernel_rfl
def z3j (N:Nat):List A->Res:=z11 [(0,.v .str),(0,.v zgo)] (fun x=>z4v N x.1 x.2.1) (z2i (.v .str) 2)
theorem z68 (N:Nat):Contract Tryz.prog glob 67 (z3j N) :=
 Contract.of (E:=E_69 N) (H:=t_69 N) (L:=L_69) (N:=N) (body:=z1dg) (K:=(z1c (.v .str) 2)) (z1om N) Tryz.func67 (by kernel_rfl) (by decide) (fun _ hb=>TabOk.nil) (fun x y h=>by rw[z1b3];exact h) (zm (s:=(.v .str)) (m:=2))
def zvj:Code:=(Tryz.f79.body).getD .skip
def L_70:List (List Nat×List Nat):=[([0],[0,5,2,3]),([0,0,1],[12,0,2,3,5]),([1,0,1],[2,3,5,0]),([0,1,0,1],[0]),([0,1,1],z1ed),([0,1,1,1],z1ed),([0,0,0,1,1,1],[16,13,15,3,5,0,14]),([0,1,0,0,1,1,1],[13,15,3,5,0,14]),([1,0,1,0,0,1,1,1],[0]),([0,0,0,1,1,0,0,1,1,1],[3,5,7,0,15,14,13]),([0,1,0,0,1,1,0,0,1,1,1],[0,5,15,14,13,3]),([0,1,1,0,0,1,1,0,0,1,1,1],[26,0,15,14,13,3,5]),([1,1,1,0,0,1,1,0,0,1,1,1],z1ed),([0,1,1,1,0,0,1,1,0,0,1,1,1],[0]),([0,1,1,0,0,1,1,1],z1ed),([1,1,1,0,0,1,1,1],z1ed),([1,1,1],[0])]
def E_70 (N:Nat):Env:=z14 tys glob [(67,z3j N)] [] [] [0] false [] []
theorem z1ol (N:Nat):EnvOk Tryz.prog (E_70 N):=ze mixed zq (FnsOk.cons (z68 N) (FnsOk.nil)) ItsOk.nil
def z3s (N:Nat)(x3:Unit)(x13:zgq)(x14:Int)(t:(List UInt8))(x15:Int)(rec:(List UInt8)->Int->Option (List DT4))(k0:Option (List DT4))(k1:Option (List DT4)):Option (List DT4):=cond (decide (x15<x14)) (cond (inR x15 (List.length x13)) ((z4v N t (List.getD x13 (Int.toNat x15) ([],([],())))).bind fun y=>ztt (y,()) (rec y (IntKind.wrap IntKind.i64 (x15+1))) k0) none) k1
def zdz (N:Nat)(x3:Unit)(t:(List UInt8))(x13:zgq)(x14:Int)(x15:Int)(k0:Option (List DT4))(k1:Option (List DT4)):Option (List DT4):=iter (fun (v:((List UInt8)×Int)) r=>z3s N x3 x13 x14 v.1 v.2 (fun t x15=>(r (t,x15))) k0 k1) N (t,x15)
def z1mc (N:Nat)(i:(Unit×zgq×Int))(v:((List UInt8)×Int))(r:((List UInt8)×Int)->Option (List DT4))(K:Ex->List A->Option (List DT4)):Option (List DT4):=z3s N i.1 i.2.1 i.2.2 v.1 v.2 (fun t x15=>(r (t,x15))) (K .ret (mkS [(0,.yld)] 27 ((),()))) (K (.exit 0) (mkS [(0,.yld)] 27 ((),())))
def z1kj (N:Nat):Hd (List DT4):=fun st K=>(unS [(0,.yld),(2,.v (.ptr (.fn 67 .unit))),(1,.v .str),(7,.v (.sl zgo)),(0,.v (.int .i64)),(0,.v (.int .i64))] 12 (restr z1ed 0 st)).bind fun x=>iter (fun v r=>z1mc N ((fun x=>(x.2.1,x.2.2.2.1,x.2.2.2.2.1)) x) v r K) N ((fun x=>(x.2.2.1,x.2.2.2.2.2.1)) x)
def t1_70 (N:Nat):Tab (List DT4):=[]
theorem z1ic {N:Nat}{G:GY [.str]}(hG:zgp G)(hev:EvOk G Tryz.prog (E_70 N) N L_70 zvj):YOk G Tryz.prog (zk zvj [0,1,1,1]) (z1kj N) :=
 zq8 hG (s:=[(0,.yld),(2,.v (.ptr (.fn 67 .unit))),(1,.v .str),(7,.v (.sl zgo)),(0,.v (.int .i64)),(0,.v (.int .i64))]) (m:=12) (z1mc N) z1ed N (fun x=>(x.2.1,x.2.2.2.1,x.2.2.2.2.1)) (fun x=>(x.2.2.1,x.2.2.2.2.2.1)) (fun i v=>((),i.1,v.1,i.2.1,i.2.2,v.2,())) (fun _=>rfl) (hev (t1_70 N) TabOkY.nil [0,0,1,1,1]) (fun i v r K=>by kernel_rfl)
def z6u (N:Nat)(x1:(List UInt8))(x2:zgq)(x3:Unit):Option (List DT4):=ztt (x1,()) (zdz N x3 x1 x2 (List.length x2:Int) 0 (some []) (some [])) (some [])
def t_70 (N:Nat):Tab (List DT4):=[([0,1,1,1],z1kj N)]
theorem z1b2 (N:Nat)(x:T.den z188):z1n6 (E_70 N) [.str] ztt N (t_70 N) L_70 Tryz.f79 [.v (.ptr .str) x.1,.v (.ptr (.sl zgo)) x.2.1,.v (.ptr (.fn 67 .unit)) x.2.2.1]=z6u N x.1 x.2.1 x.2.2.1:=by kernel_rfl
def zd (N:Nat):Dat->ItRes:=z11x (ts:=[.str]) z188 (fun x=>z6u N x.1 x.2.1 x.2.2.1)
theorem zg (N:Nat):ItOk Tryz.prog glob 79 (zd N):=ItOk.of (ts:=[.str]) (E:=E_70 N) (H:=t_70 N) (L:=L_70) (N:=N) (body:=zvj) (z1ol N) rfl Tryz.func79 (by kernel_rfl) (by decide) (fun G hG hev=>(TabOkY.cons (z1ic hG hev) TabOkY.nil)) (fun x y h=>⟨_,rfl,by rw[z1b2];exact h⟩)
def z1df:Code:=(Tryz.f65.body).getD .skip
def L_71:List (List Nat×List Nat):=[([0],[3,4,5]),([0,1],[6]),([1,1],[6])]
def E_71 (N:Nat):Env:=z14 tys glob [(67,z3j N)] [] [] [] false [(5,(.fn 67 .unit))] [(79,zd N),(108,z8 N)]
theorem z1ok (N:Nat):EnvOk Tryz.prog (E_71 N):=ze mixed zq (FnsOk.cons (z68 N) (FnsOk.nil)) (ItsOk.cons (zg N) (ItsOk.cons (zb N) (ItsOk.nil)))
def zmu (N:Nat)(first:(List UInt8))(links:zgq):Option ((List UInt8)×(zgq×(Unit×Unit))):=some (first,(links,((),())))
def t_71 (N:Nat):Tab ((List UInt8)×(zgq×(Unit×Unit))):=[]
theorem z1b1 (N:Nat)(x:z1b [(0,.v .str),(0,.v (.sl zgo)),(0,.fnc 67)]):z2b (E_71 N) N (t_71 N) L_71 Tryz.f65 (mkS [(0,.v .str),(0,.v (.sl zgo)),(0,.fnc 67)] 0 x) (z1c (.v (.fn 79 z188)) 3)=zmu N x.1 x.2.1:=by kernel_rfl
def zdy (N:Nat):List A->Res:=z11 [(0,.v .str),(0,.v (.sl zgo)),(0,.fnc 67)] (fun x=>zmu N x.1 x.2.1) (z2i (.v (.fn 79 z188)) 3)
theorem zo3 (N:Nat):Contract Tryz.prog glob 65 (zdy N) :=
 Contract.of (E:=E_71 N) (H:=t_71 N) (L:=L_71) (N:=N) (body:=z1df) (K:=(z1c (.v (.fn 79 z188)) 3)) (z1ok N) Tryz.func65 (by kernel_rfl) (by decide) (fun _ hb=>TabOk.nil) (fun x y h=>by rw[z1b1];exact h) (zm (s:=(.v (.fn 79 z188))) (m:=3))
def zqx:Code:=(Tryz.f48.body).getD .skip
def L_72:List (List Nat×List Nat):=[([0],[3,0]),([0,1],[0,3,5]),([0,0,1,1],[18,5]),([0,1,0,1,1],[5]),([0,0,1,0,1,1],[5,6]),([0,1,0,1,0,1,1],[5]),([1,0,1,0,1,1],[5]),([1,0,1,1],[5]),([0,1,1,1],[4]),([1,1,1,1],[4])]
def z1q3 (N:Nat):Env:=z14 tys glob [(65,zdy N),(67,z3j N),(66,zfl N)] [(4,.str)] [] [] false [(5,(.own .str))] [(79,zd N),(108,z8 N)]
theorem z1oj (N:Nat):EnvOk Tryz.prog (z1q3 N):=ze mixed zq (FnsOk.cons (zo3 N) (FnsOk.cons (z68 N) (FnsOk.cons (zqo N) (FnsOk.nil)))) (ItsOk.cons (zg N) (ItsOk.cons (zb N) (ItsOk.nil)))
def zbt (N:Nat)(tags_1:(List (List UInt8)))(y:DT4)(rec:(List (List UInt8))->Option (List (List UInt8)))(k0:(List (List UInt8))->Option (List (List UInt8))):Option (List (List UInt8)):=cond (decide ((((List.length tags_1)+1)*16)<=70368744177664)) (rec (tags_1++([y.1]:List (List UInt8)))) none
def z5r (N:Nat)(tags:(List (List UInt8)))(x18:((List UInt8)×(zgq×(Unit×Unit)))):Option (List DT4):=(z6u N x18.1 x18.2.1 x18.2.2.1)
def zbu (N:Nat)(tags:(List (List UInt8)))(x18:((List UInt8)×(zgq×(Unit×Unit)))):Unit:=()
def zi5 (N:Nat)(tags:(List (List UInt8)))(x18:((List UInt8)×(zgq×(Unit×Unit)))):(List (List UInt8)):=tags
def zi6 (N:Nat)(tags:(List (List UInt8)))(x18:((List UInt8)×(zgq×(Unit×Unit))))(k0:(List (List UInt8))->Option (List (List UInt8))):Option (List (List UInt8)):=(z5r N tags x18).bind fun ys=>zht (fun (y:DT4) (v:(List (List UInt8))) r=>zbt N v y (fun tags_1=>(r tags_1)) k0) (fun (v:(List (List UInt8)))=>k0 v) ys tags
def z1mb (N:Nat)(y:DT4)(i:Unit)(v:(List (List UInt8)))(r:(List (List UInt8))->Option (List (List UInt8)))(K:Ex->List A->Option (List (List UInt8))):Option (List (List UInt8)):=zbt N v y (fun tags_1=>(r tags_1)) (fun a0=>(K .normal (mkS [(5,.box (.own .str))] 19 (a0,()))))
def z1ki (N:Nat):Hd (List (List UInt8)):=fun st K=>(unS [(5,.box (.own .str)),(12,.v (.fn 79 z188))] 6 (restr [18,5] 0 st)).bind fun x=>((fun x=>z5r N x.1 x.2.1) x).bind fun xs=>zht (fun y v r=>z1mb N y ((fun x=>zbu N x.1 x.2.1) x) v r K) (fun v=>K .normal (mkS [(5,.box (.own .str))] 19 ((fun i v=>(v,())) ((fun x=>zbu N x.1 x.2.1) x) v))) xs ((fun x=>zi5 N x.1 x.2.1) x)
theorem z1ib {N:Nat}{c:Ctx}(hb:Base Tryz.prog (z1q3 N) c):zw Tryz.prog c (zk zqx [0,1,0,1,1]) (z1ki N) :=
 z19q (ts:=[.str]) (s:=[(5,.box (.own .str)),(12,.v (.fn 79 z188))]) (m:=6) (s2:=[(5,.box (.own .str))]) (m2:=19) [18,5] (fun x=>z5r N x.1 x.2.1) (fun x=>zbu N x.1 x.2.1) (fun x=>zi5 N x.1 x.2.1) (fun i v=>(v,())) (rfF (z1q3 N) N [.str] (zk zqx [0,1,0,1,1])) (z1mb N) (zf hb N [] L_72 zqx TabOk.nil [0,1,0,1,1] _ rfl) (fun x K=>by kernel_rfl) (fun y i v r K=>by kernel_rfl)
def zai (N:Nat)(key:(List UInt8))(t:DT6):Option (List (List UInt8)):=cond (decide (((0:Int)<=0)/\((0<=(IntKind.wrap IntKind.i64 (1+(List.length t.2.1:Int))))/\((((IntKind.wrap IntKind.i64 (1+(List.length t.2.1:Int)))*16)<=281474976710656)/\((IntKind.wrap IntKind.i64 (1+(List.length t.2.1:Int)))<=9223372036854775807))))) ((zak N key t.1).bind fun y=>zi6 N [] (y,(t.2.1,((),()))) (fun tags_1=>some tags_1)) none
def t_72 (N:Nat):Tab (List (List UInt8)):=[([0,1,0,1,1],z1ki N)]
theorem z1b0 (N:Nat)(x:z1b [(0,.v .str),(0,.v TT1)]):z2b (z1q3 N) N (t_72 N) L_72 Tryz.f48 (mkS [(0,.v .str),(0,.v TT1)] 0 x) (z1c (.v (.sl .str)) 2)=zai N x.1 x.2.1:=by kernel_rfl
def zfj (N:Nat):List A->Res:=z11 [(0,.v .str),(0,.v TT1)] (fun x=>zai N x.1 x.2.1) (z2i (.v (.sl .str)) 2)
theorem zqm (N:Nat):Contract Tryz.prog glob 48 (zfj N) :=
 Contract.of (E:=z1q3 N) (H:=t_72 N) (L:=L_72) (N:=N) (body:=zqx) (K:=(z1c (.v (.sl .str)) 2)) (z1oj N) Tryz.func48 (by kernel_rfl) (by decide) (fun _ hb=>(TabOk.cons (z1ib hb) TabOk.nil)) (fun x y h=>by rw[z1b0];exact h) (zm (s:=(.v (.sl .str))) (m:=2))
def z1de:Code:=(Tryz.f33.body).getD .skip
def L_73:List (List Nat×List Nat):=[([0],[1,5,0]),([0,1],[0,8]),([0,1,1],[8,0]),([0,1,1,1],[6,7,0]),([1,1,1,1],[6,7,0])]
def E_73 (N:Nat):Env:=z14 tys glob [(48,zfj N)] [(8,.str),(6,.str)] [] [0] false [] [(79,zd N),(108,z8 N)]
theorem z1oi (N:Nat):EnvOk Tryz.prog (E_73 N):=ze mixed zq (FnsOk.cons (zqm N) (FnsOk.nil)) (ItsOk.cons (zg N) (ItsOk.cons (zb N) (ItsOk.nil)))
def z2t (N:Nat)(r_:DT0)(key:(List UInt8))(t:DT6):Option (((List (List UInt8))×(List UInt8)×Unit)×(DT0×Unit)):=(zai N key t).bind fun y=>cond (inR (IntKind.wrap IntKind.i64 ((List.length y:Int) - 1)) (List.length y)) (some ((y,((List.getD y (Int.toNat (IntKind.wrap IntKind.i64 ((List.length y:Int) - 1))) []),())),((r_.1,(r_.2.1,(r_.2.2.1,(r_.2.2.2.1,((IntKind.wrap IntKind.i64 (r_.2.2.2.2.1+(List.length y:Int))),r_.2.2.2.2.2))))),()))) none
def t_73 (N:Nat):Tab (((List (List UInt8))×(List UInt8)×Unit)×(DT0×Unit)):=[]
theorem z1az (N:Nat)(x:z1b [(0,.box TT2),(0,.v .str),(0,.v TT1)]):z2b (E_73 N) N (t_73 N) L_73 Tryz.f33 (mkS [(0,.box TT2),(0,.v .str),(0,.v TT1)] 0 x) (z7l (.tup [(.sl .str),.str]) [(0,.box TT2)] 2)=z2t N x.1 x.2.1 x.2.2.1:=by kernel_rfl
def z52 (N:Nat):List A->Res:=z11 [(0,.box TT2),(0,.v .str),(0,.v TT1)] (fun x=>z2t N x.1 x.2.1 x.2.2.1) (zgd (.tup [(.sl .str),.str]) [(0,.box TT2)] 2)
theorem z8t (N:Nat):Contract Tryz.prog glob 33 (z52 N) :=
 Contract.of (E:=E_73 N) (H:=t_73 N) (L:=L_73) (N:=N) (body:=z1de) (K:=(z7l (.tup [(.sl .str),.str]) [(0,.box TT2)] 2)) (z1oi N) Tryz.func33 (by kernel_rfl) (by decide) (fun _ hb=>TabOk.nil) (fun x y h=>by rw[z1az];exact h) (z5l (s:=(.tup [(.sl .str),.str])) (os:=[(0,.box TT2)]) (m:=2))
def zvi:Code:=(Tryz.f49.body).getD .skip
def L_74:List (List Nat×List Nat):=[([0],[0,1]),([0,0,1],[11,0,1]),([1,0,1],[0,1]),([0,0,1,0,1],[4]),([1,0,1,0,1],[4]),([0,1,1],[0,5,1]),([0,0,1,1,1],[14,13,5,0,1]),([0,1,0,1,1,1],[14,13,5,0,1]),([0,0,0,1,0,1,1,1],[15,14,5,0,1,13]),(z18b,[14,5,0,1,13]),([1,0,1,0,0,1,0,1,1,1],[5]),([0,0,0,1,1,0,0,1,0,1,1,1],[5,0,6,1,14,13]),([1,0,0,1,1,0,0,1,0,1,1,1],[14,13,5,0,1]),([0,1,1,0,0,1,0,1,1,1],[14,13,5,0,1]),([1,1,1,0,0,1,0,1,1,1],[14,13,5,0,1]),([1,0,1,1,1],[5]),([0,1,1,1,1],[4]),([1,1,1,1,1],[4])]
def E_74 (N:Nat):Env:=z14 tys glob [] [] [] [] false [] [(79,zd N),(108,z8 N)]
theorem z1oh (N:Nat):EnvOk Tryz.prog (E_74 N):=ze mixed zq (FnsOk.nil) (ItsOk.cons (zg N) (ItsOk.cons (zb N) (ItsOk.nil)))
def z9n (N:Nat)(a:(List UInt8))(b:(List UInt8))(x13:Int)(differ:Int)(x14:Int)(rec:Int->Int->Option Bool)(k0:Int->Option Bool):Option Bool:=cond (decide (x14<x13)) (cond (inR x14 (List.length a)) (cond (inR x14 (List.length b)) (rec (zr Go.BinOp.or IntKind.u8 differ (zr Go.BinOp.xor IntKind.u8 (UInt8.toNat (List.getD a (Int.toNat x14) (0:UInt8)):Int) (UInt8.toNat (List.getD b (Int.toNat x14) (0:UInt8)):Int))) (IntKind.wrap IntKind.i64 (x14+1))) none) none) (k0 differ)
def zfd (N:Nat)(a:(List UInt8))(b:(List UInt8))(differ:Int)(x13:Int)(x14:Int)(k0:Int->Option Bool):Option Bool:=iter (fun (v:(Int×Int)) r=>z9n N a b x13 v.1 v.2 (fun differ x14=>(r (differ,x14))) k0) N (differ,x14)
def z1ma (N:Nat)(i:((List UInt8)×(List UInt8)×Int))(v:(Int×Int))(r:(Int×Int)->Option Bool)(K:Ex->List A->Option Bool):Option Bool:=z9n N i.1 i.2.1 i.2.2 v.1 v.2 (fun differ x14=>(r (differ,x14))) (fun a0=>(K (.exit 0) (mkS [(5,.v (.int .u8))] 23 (a0,()))))
def z1kh (N:Nat):Hd Bool:=fun st K=>(unS SQ49 14 (restr [14,13,5,0,1] 0 st)).bind fun x=>iter (fun v r=>z1ma N ((fun x=>(x.1,x.2.1,x.2.2.2.1)) x) v r K) N ((fun x=>(x.2.2.1,x.2.2.2.2.1)) x)
def t1_74 (N:Nat):Tab Bool:=[]
theorem z1ia {N:Nat}{c:Ctx}(hb:Base Tryz.prog (E_74 N) c):zw Tryz.prog c (zk zvi [0,1,0,1,1,1]) (z1kh N) :=
 z1v (s:=SQ49) (m:=14) (z1ma N) [14,13,5,0,1] N (fun x=>(x.1,x.2.1,x.2.2.2.1)) (fun x=>(x.2.2.1,x.2.2.2.2.1)) (fun i v=>(i.1,i.2.1,v.1,i.2.2,v.2,())) (fun _=>rfl) (zf hb N (t1_74 N) L_74 zvi TabOk.nil z1ea _ rfl) (fun i v r K=>by kernel_rfl)
def z8k (N:Nat)(a:(List UInt8))(b:(List UInt8)):Option Bool:=cond ((List.length a:Int) != (List.length b:Int)) (some false) (zfd N a b 0 (List.length a:Int) 0 (fun differ=>some (differ == 0)))
def t_74 (N:Nat):Tab Bool:=[([0,1,0,1,1,1],z1kh N)]
theorem z1ay (N:Nat)(x:z1b SQ1):z2b (E_74 N) N (t_74 N) L_74 Tryz.f49 (mkS SQ1 0 x) (z1c (.v .bool) 2)=z8k N x.1 x.2.1:=by kernel_rfl
def zde (N:Nat):List A->Res:=z11 SQ1 (fun x=>z8k N x.1 x.2.1) (z2i (.v .bool) 2)
theorem zno (N:Nat):Contract Tryz.prog glob 49 (zde N) :=
 Contract.of (E:=E_74 N) (H:=t_74 N) (L:=L_74) (N:=N) (body:=zvi) (K:=(z1c (.v .bool) 2)) (z1oh N) Tryz.func49 (by kernel_rfl) (by decide) (fun _ hb=>(TabOk.cons (z1ia hb) TabOk.nil)) (fun x y h=>by rw[z1ay];exact h) (zm (s:=(.v .bool)) (m:=2))
def z1dd:Code:=(Tryz.f34.body).getD .skip
def L_75:List (List Nat×List Nat):=[([0],[0,1]),([0,1],[4]),([1,1],[4])]
def E_75 (N:Nat):Env:=z14 tys glob [(49,zde N)] [] [] [] false [] [(79,zd N),(108,z8 N)]
theorem z1og (N:Nat):EnvOk Tryz.prog (E_75 N):=ze mixed zq (FnsOk.cons (zno N) (FnsOk.nil)) (ItsOk.cons (zg N) (ItsOk.cons (zb N) (ItsOk.nil)))
def z8m (N:Nat)(a:(List UInt8))(b:(List UInt8)):Option Bool:=cond ((List.length a:Int) == 32) (cond ((List.length b:Int) == 32) ((z8k N a b).bind fun y=>some y) (some false)) (some false)
def t_75 (N:Nat):Tab Bool:=[]
theorem z1ax (N:Nat)(x:z1b SQ1):z2b (E_75 N) N (t_75 N) L_75 Tryz.f34 (mkS SQ1 0 x) (z1c (.v .bool) 2)=z8m N x.1 x.2.1:=by kernel_rfl
def z7m (N:Nat):List A->Res:=z11 SQ1 (fun x=>z8m N x.1 x.2.1) (z2i (.v .bool) 2)
theorem zdr (N:Nat):Contract Tryz.prog glob 34 (z7m N) :=
 Contract.of (E:=E_75 N) (H:=t_75 N) (L:=L_75) (N:=N) (body:=z1dd) (K:=(z1c (.v .bool) 2)) (z1og N) Tryz.func34 (by kernel_rfl) (by decide) (fun _ hb=>TabOk.nil) (fun x y h=>by rw[z1ax];exact h) (zm (s:=(.v .bool)) (m:=2))
def z1dc:Code:=(Tryz.f21.body).getD .skip
def L_76:List (List Nat×List Nat):=[([0],[1]),([0,1],[2]),([1,1],[2])]
def E_76 (N:Nat):Env:=z14 tys glob [] [] [] [] false [] [(79,zd N),(108,z8 N)]
theorem z1of (N:Nat):EnvOk Tryz.prog (E_76 N):=ze mixed zq (FnsOk.nil) (ItsOk.cons (zg N) (ItsOk.cons (zb N) (ItsOk.nil)))
def zo7 (N:Nat)(l:((List UInt8)×DT4)):Option Bool:=some (eqD (T.pair T.str (T.pair T.str T.unit)) l (l.1,([],())))
def t_76 (N:Nat):Tab Bool:=[]
theorem z1aw (N:Nat)(x:z1b [(0,.v zgo)]):z2b (E_76 N) N (t_76 N) L_76 Tryz.f21 (mkS [(0,.v zgo)] 0 x) (z1c (.v .bool) 1)=zo7 N x.1:=by kernel_rfl
def z99 (N:Nat):List A->Res:=z11 [(0,.v zgo)] (fun x=>zo7 N x.1) (z2i (.v .bool) 1)
theorem zgt (N:Nat):Contract Tryz.prog glob 21 (z99 N) :=
 Contract.of (E:=E_76 N) (H:=t_76 N) (L:=L_76) (N:=N) (body:=z1dc) (K:=(z1c (.v .bool) 1)) (z1of N) Tryz.func21 (by kernel_rfl) (by decide) (fun _ hb=>TabOk.nil) (fun x y h=>by rw[z1aw];exact h) (zm (s:=(.v .bool)) (m:=1))
def z1db:Code:=(Tryz.f51.body).getD .skip
def L_77:List (List Nat×List Nat):=[([0],[0]),([0,1],[2]),([1,1],[2])]
def E_77 (N:Nat):Env:=z14 tys glob [(73,z2g N)] [] [] [] false [] [(79,zd N),(108,z8 N)]
theorem z1oe (N:Nat):EnvOk Tryz.prog (E_77 N):=ze mixed zq (FnsOk.cons (z38 N) (FnsOk.nil)) (ItsOk.cons (zg N) (ItsOk.cons (zb N) (ItsOk.nil)))
def zaj (N:Nat)(of:(List UInt8)):Option (List UInt8):=(z21 N of ([([(115:UInt8),(101:UInt8),(97:UInt8),(108:UInt8)]:List UInt8)]:List (List UInt8))).bind fun y=>some y
def t_77 (N:Nat):Tab (List UInt8):=[]
theorem z1av (N:Nat)(x:z1b [(0,.v .str)]):z2b (E_77 N) N (t_77 N) L_77 Tryz.f51 (mkS [(0,.v .str)] 0 x) (z1c (.v .str) 1)=zaj N x.1:=by kernel_rfl
def zfk (N:Nat):List A->Res:=z11 [(0,.v .str)] (fun x=>zaj N x.1) (z2i (.v .str) 1)
theorem zqn (N:Nat):Contract Tryz.prog glob 51 (zfk N) :=
 Contract.of (E:=E_77 N) (H:=t_77 N) (L:=L_77) (N:=N) (body:=z1db) (K:=(z1c (.v .str) 1)) (z1oe N) Tryz.func51 (by kernel_rfl) (by decide) (fun _ hb=>TabOk.nil) (fun x y h=>by rw[z1av];exact h) (zm (s:=(.v .str)) (m:=1))
def z1da:Code:=(Tryz.f70.body).getD .skip
def L_78:List (List Nat×List Nat):=[([0],[0]),([0,1],[2]),([1,1],[2])]
def E_78 (N:Nat):Env:=z14 tys glob [(73,z2g N)] [] [] [] false [] [(79,zd N),(108,z8 N)]
theorem z1od (N:Nat):EnvOk Tryz.prog (E_78 N):=ze mixed zq (FnsOk.cons (z38 N) (FnsOk.nil)) (ItsOk.cons (zg N) (ItsOk.cons (zb N) (ItsOk.nil)))
def z8s (N:Nat)(key:(List UInt8)):Option (List UInt8):=(z21 N key ([([(104:UInt8),(105:UInt8),(100:UInt8),(101:UInt8)]:List UInt8)]:List (List UInt8))).bind fun y=>some y
def t_78 (N:Nat):Tab (List UInt8):=[]
theorem z1au (N:Nat)(x:z1b [(0,.v .str)]):z2b (E_78 N) N (t_78 N) L_78 Tryz.f70 (mkS [(0,.v .str)] 0 x) (z1c (.v .str) 1)=z8s N x.1:=by kernel_rfl
def ze1 (N:Nat):List A->Res:=z11 [(0,.v .str)] (fun x=>z8s N x.1) (z2i (.v .str) 1)
theorem zo4 (N:Nat):Contract Tryz.prog glob 70 (ze1 N) :=
 Contract.of (E:=E_78 N) (H:=t_78 N) (L:=L_78) (N:=N) (body:=z1da) (K:=(z1c (.v .str) 1)) (z1od N) Tryz.func70 (by kernel_rfl) (by decide) (fun _ hb=>TabOk.nil) (fun x y h=>by rw[z1au];exact h) (zm (s:=(.v .str)) (m:=1))
def z1d9:Code:=(Tryz.f71.body).getD .skip
def L_79:List (List Nat×List Nat):=[([0],[0]),([0,0,1],[5,0]),([1,0,1],[0]),([0,0,1,0,1],[2]),([1,0,1,0,1],[2]),([0,1,1],[2]),([1,1,1],[2])]
def E_79 (N:Nat):Env:=z14 tys glob [] [] [] [] false [] [(79,zd N),(108,z8 N)]
theorem z1oc (N:Nat):EnvOk Tryz.prog (E_79 N):=ze mixed zq (FnsOk.nil) (ItsOk.cons (zg N) (ItsOk.cons (zb N) (ItsOk.nil)))
def ze2 (N:Nat)(s:(List UInt8)):Option (List UInt8):=cond (decide ((List.length s:Int)<16)) (some []) (cond (decide (((0:Int)<=16)/\(16<=(List.length s:Int)))) (some (cut s 0 16)) none)
def t_79 (N:Nat):Tab (List UInt8):=[]
theorem z1at (N:Nat)(x:z1b [(0,.v .str)]):z2b (E_79 N) N (t_79 N) L_79 Tryz.f71 (mkS [(0,.v .str)] 0 x) (z1c (.v .str) 1)=ze2 N x.1:=by kernel_rfl
def zi9 (N:Nat):List A->Res:=z11 [(0,.v .str)] (fun x=>ze2 N x.1) (z2i (.v .str) 1)
theorem zti (N:Nat):Contract Tryz.prog glob 71 (zi9 N) :=
 Contract.of (E:=E_79 N) (H:=t_79 N) (L:=L_79) (N:=N) (body:=z1d9) (K:=(z1c (.v .str) 1)) (z1oc N) Tryz.func71 (by kernel_rfl) (by decide) (fun _ hb=>TabOk.nil) (fun x y h=>by rw[z1at];exact h) (zm (s:=(.v .str)) (m:=1))
def zvh:Code:=(Tryz.f110.body).getD .skip
def L_80:List (List Nat×List Nat):=[([0],[0]),([0,1],[3,0]),([0,0,1,1],[6,3,0]),([0,1,0,1,1],[6,3,0]),(z13i,[7,6,3,0]),(zzg,[6,3,0]),(z13j,[3]),(z16s,[3,4,0,6]),(z1nj,[6,3,0]),(z16r,[6,3,0]),(z16q,[6,3,0]),([1,0,1,1],[3]),([0,1,1,1],[2]),([1,1,1,1],[2])]
def E_80 (N:Nat):Env:=z14 tys glob [] [(3,(.int .u8))] [] [] false [] [(79,zd N),(108,z8 N)]
theorem z1ob (N:Nat):EnvOk Tryz.prog (E_80 N):=ze mixed zq (FnsOk.nil) (ItsOk.cons (zg N) (ItsOk.cons (zb N) (ItsOk.nil)))
def zc4 (N:Nat)(n:Int)(out:(List Int))(x6:Int)(rec:(List Int)->Int->Option (List UInt8))(k0:(List Int)->Option (List UInt8)):Option (List UInt8):=cond (decide (x6<8)) (cond (decide (0<=(IntKind.wrap IntKind.i64 (8*(IntKind.wrap IntKind.i64 (7 - x6)))))) (cond (inR x6 (List.length out)) (cond (decide ((Int.toNat x6)<(List.length out))) (rec (List.set out (Int.toNat x6) (IntKind.wrap IntKind.u8 (z8w IntKind.i64 n (IntKind.wrap IntKind.i64 (8*(IntKind.wrap IntKind.i64 (7 - x6))))))) (IntKind.wrap IntKind.i64 (x6+1))) none) none) none) (k0 out)
def zke (N:Nat)(n:Int)(out:(List Int))(x6:Int)(k0:(List Int)->Option (List UInt8)):Option (List UInt8):=iter (fun (v:((List Int)×Int)) r=>zc4 N n v.1 v.2 (fun out x6=>(r (out,x6))) k0) N (out,x6)
def z1m9 (N:Nat)(i:Int)(v:((List Int)×Int))(r:((List Int)×Int)->Option (List UInt8))(K:Ex->List A->Option (List UInt8)):Option (List UInt8):=zc4 N i v.1 v.2 (fun out x6=>(r (out,x6))) (fun a0=>(K (.exit 0) (mkS [(3,.row (.int .u8))] 17 (a0,()))))
def z1kg (N:Nat):Hd (List UInt8):=fun st K=>(unS [(0,.v (.int .i64)),(2,.row (.int .u8)),(2,.v (.int .i64))] 14 (restr [6,3,0] 0 st)).bind fun x=>iter (fun v r=>z1m9 N ((fun x=>x.1) x) v r K) N ((fun x=>(x.2.1,x.2.2.1)) x)
def t1_80 (N:Nat):Tab (List UInt8):=[]
theorem z1i9 {N:Nat}{c:Ctx}(hb:Base Tryz.prog (E_80 N) c):zw Tryz.prog c (zk zvh [0,1,0,1,1]) (z1kg N) :=
 z1v (s:=[(0,.v (.int .i64)),(2,.row (.int .u8)),(2,.v (.int .i64))]) (m:=14) (z1m9 N) [6,3,0] N (fun x=>x.1) (fun x=>(x.2.1,x.2.2.1)) (fun i v=>(i,v.1,v.2,())) (fun _=>rfl) (zf hb N (t1_80 N) L_80 zvh TabOk.nil [0,0,1,0,1,1] _ rfl) (fun i v r K=>by kernel_rfl)
def z3w (N:Nat)(n:Int):Option (List UInt8):=zke N n ([0,0,0,0,0,0,0,0]:List Int) 0 (fun out=>some (z2e out))
def t_80 (N:Nat):Tab (List UInt8):=[([0,1,0,1,1],z1kg N)]
theorem z1as (N:Nat)(x:z1b [(0,.v (.int .i64))]):z2b (E_80 N) N (t_80 N) L_80 Tryz.f110 (mkS [(0,.v (.int .i64))] 0 x) (z1c (.v .str) 1)=z3w N x.1:=by kernel_rfl
def z9z (N:Nat):List A->Res:=z11 [(0,.v (.int .i64))] (fun x=>z3w N x.1) (z2i (.v .str) 1)
theorem zkf (N:Nat):Contract Tryz.prog glob 110 (z9z N) :=
 Contract.of (E:=E_80 N) (H:=t_80 N) (L:=L_80) (N:=N) (body:=zvh) (K:=(z1c (.v .str) 1)) (z1ob N) Tryz.func110 (by kernel_rfl) (by decide) (fun _ hb=>(TabOk.cons (z1i9 hb) TabOk.nil)) (fun x y h=>by rw[z1as];exact h) (zm (s:=(.v .str)) (m:=1))
def z1d8:Code:=(Tryz.f103.body).getD .skip
def L_81:List (List Nat×List Nat):=[([0],[2,0,1]),([0,0,1],[8,0,1,2]),([1,0,1],[0,1,2]),([0,0,1,0,1],[6]),([1,0,1,0,1],[6]),([0,1,1],[6]),([1,1,1],[6])]
def E_81 (N:Nat):Env:=z14 tys glob [(110,z9z N),(73,z2g N)] [] [] [] false [] [(79,zd N),(108,z8 N)]
theorem z1oa (N:Nat):EnvOk Tryz.prog (E_81 N):=ze mixed zq (FnsOk.cons (zkf N) (FnsOk.cons (z38 N) (FnsOk.nil))) (ItsOk.cons (zg N) (ItsOk.cons (zb N) (ItsOk.nil)))
def z6i (N:Nat)(key:(List UInt8))(nonce:(List UInt8))(i:Int):Option (List UInt8):=cond (decide (i<0)) (some []) ((z3w N i).bind fun y=>(z21 N key ([([(115:UInt8),(116:UInt8),(114:UInt8),(101:UInt8),(97:UInt8),(109:UInt8)]:List UInt8),nonce,y]:List (List UInt8))).bind fun y1=>some y1)
def t_81 (N:Nat):Tab (List UInt8):=[]
theorem z1ar (N:Nat)(x:z1b SQ5):z2b (E_81 N) N (t_81 N) L_81 Tryz.f103 (mkS SQ5 0 x) (z1c (.v .str) 3)=z6i N x.1 x.2.1 x.2.2.1:=by kernel_rfl
def zc5 (N:Nat):List A->Res:=z11 SQ5 (fun x=>z6i N x.1 x.2.1 x.2.2.1) (z2i (.v .str) 3)
theorem zl9 (N:Nat):Contract Tryz.prog glob 103 (zc5 N) :=
 Contract.of (E:=E_81 N) (H:=t_81 N) (L:=L_81) (N:=N) (body:=z1d8) (K:=(z1c (.v .str) 3)) (z1oa N) Tryz.func103 (by kernel_rfl) (by decide) (fun _ hb=>TabOk.nil) (fun x y h=>by rw[z1ar];exact h) (zm (s:=(.v .str)) (m:=3))
def zvg:Code:=(Tryz.f102.body).getD .skip
def L_82:List (List Nat×List Nat):=[([0],[10,9,0,2,3]),([0,1],[10,9,0,2,3]),([0,0,0,1],[11,10,0,2,3,9]),([0,1,0,0,1],[10,0,2,3,9]),([1,0,1,0,0,1],[0]),([0,0,0,1,1,0,0,1],[0,2,3,5,10,9]),([0,1,0,0,1,1,0,0,1],[19,0,10,9,2,3]),([1,1,0,0,1,1,0,0,1],[10,9,0,2,3]),([0,1,1,0,0,1,1,0,0,1],[0]),([0,1,1,0,0,1],[10,9,0,2,3]),([1,1,1,0,0,1],[10,9,0,2,3]),([1],[0])]
def E_82 (N:Nat):Env:=z14 tys glob [(103,zc5 N)] [] [] [0] false [] []
theorem z1o9 (N:Nat):EnvOk Tryz.prog (E_82 N):=ze mixed zq (FnsOk.cons (zl9 N) (FnsOk.nil)) ItsOk.nil
def z3x (N:Nat)(x2:(List UInt8))(x3:(List UInt8))(x9:Int)(x10:Int)(rec:Int->Option (List DT4))(k0:Option (List DT4))(k1:Option (List DT4)):Option (List DT4):=cond (decide (x10<x9)) ((z6i N x2 x3 x10).bind fun y=>ztt (y,()) (rec (IntKind.wrap IntKind.i64 (x10+1))) k0) k1
def za1 (N:Nat)(x2:(List UInt8))(x3:(List UInt8))(x9:Int)(x10:Int)(k0:Option (List DT4))(k1:Option (List DT4)):Option (List DT4):=iter (fun (v:Int) r=>z3x N x2 x3 x9 v (fun x10=>(r x10)) k0 k1) N x10
def z1m8 (N:Nat)(i:((List UInt8)×(List UInt8)×Int))(v:Int)(r:Int->Option (List DT4))(K:Ex->List A->Option (List DT4)):Option (List DT4):=z3x N i.1 i.2.1 i.2.2 v (fun x10=>(r x10)) (K .ret (mkS [(0,.yld)] 20 ((),()))) (K (.exit 0) (mkS [(0,.yld)] 20 ((),())))
def z1kf (N:Nat):Hd (List DT4):=fun st K=>(unS [(0,.yld),(1,.v (.ptr .str)),(0,.v (.ptr .str)),(5,.v (.int .i64)),(0,.v (.int .i64))] 10 (restr [10,9,0,2,3] 0 st)).bind fun x=>iter (fun v r=>z1m8 N ((fun x=>(x.2.1,x.2.2.1,x.2.2.2.1)) x) v r K) N ((fun x=>x.2.2.2.2.1) x)
def t1_82 (N:Nat):Tab (List DT4):=[]
theorem z1i8 {N:Nat}{G:GY [.str]}(hG:zgp G)(hev:EvOk G Tryz.prog (E_82 N) N L_82 zvg):YOk G Tryz.prog (zk zvg [0,1]) (z1kf N) :=
 zq8 hG (s:=[(0,.yld),(1,.v (.ptr .str)),(0,.v (.ptr .str)),(5,.v (.int .i64)),(0,.v (.int .i64))]) (m:=10) (z1m8 N) [10,9,0,2,3] N (fun x=>(x.2.1,x.2.2.1,x.2.2.2.1)) (fun x=>x.2.2.2.2.1) (fun i v=>((),i.1,i.2.1,i.2.2,v,())) (fun _=>rfl) (hev (t1_82 N) TabOkY.nil [0,0,1]) (fun i v r K=>by kernel_rfl)
def z4q (N:Nat)(x1:Int)(x2:(List UInt8))(x3:(List UInt8)):Option (List DT4):=za1 N x2 x3 (IntKind.wrap IntKind.i64 (Int.tdiv (IntKind.wrap IntKind.i64 ((IntKind.wrap IntKind.i64 (x1+32)) - 1)) 32)) 0 (some []) (some [])
def t_82 (N:Nat):Tab (List DT4):=[([0,1],z1kf N)]
theorem z1aq (N:Nat)(x:T.den (.pair (.ptr (.int .i64)) (.pair (.ptr .str) (.pair (.ptr .str) .unit)))):z1n6 (E_82 N) [.str] ztt N (t_82 N) L_82 Tryz.f102 [.v (.ptr (.int .i64)) x.1,.v (.ptr .str) x.2.1,.v (.ptr .str) x.2.2.1]=z4q N x.1 x.2.1 x.2.2.1:=by kernel_rfl
def zi (N:Nat):Dat->ItRes:=z11x (ts:=[.str]) (.pair (.ptr (.int .i64)) (.pair (.ptr .str) (.pair (.ptr .str) .unit))) (fun x=>z4q N x.1 x.2.1 x.2.2.1)
theorem zj (N:Nat):ItOk Tryz.prog glob 102 (zi N):=ItOk.of (ts:=[.str]) (E:=E_82 N) (H:=t_82 N) (L:=L_82) (N:=N) (body:=zvg) (z1o9 N) rfl Tryz.func102 (by kernel_rfl) (by decide) (fun G hG hev=>(TabOkY.cons (z1i8 hG hev) TabOkY.nil)) (fun x y h=>⟨_,rfl,by rw[z1aq];exact h⟩)
def z1d7:Code:=(Tryz.f93.body).getD .skip
def L_83:List (List Nat×List Nat):=[([0],[5,3,4]),([0,1],[6]),([1,1],[6])]
def E_83 (N:Nat):Env:=z14 tys glob [] [] [] [] false [] [(102,zi N),(79,zd N),(108,z8 N)]
theorem z1o8 (N:Nat):EnvOk Tryz.prog (E_83 N):=ze mixed zq (FnsOk.nil) (ItsOk.cons (zj N) (ItsOk.cons (zg N) (ItsOk.cons (zb N) (ItsOk.nil))))
def zh1 (N:Nat)(key:(List UInt8))(nonce:(List UInt8))(n:Int):Option (Int×((List UInt8)×DT4)):=some (n,(key,(nonce,())))
def t_83 (N:Nat):Tab (Int×((List UInt8)×DT4)):=[]
theorem z1ap (N:Nat)(x:z1b SQ5):z2b (E_83 N) N (t_83 N) L_83 Tryz.f93 (mkS SQ5 0 x) (z1c (.v (.fn 102 (.pair (.ptr (.int .i64)) (.pair (.ptr .str) (.pair (.ptr .str) .unit))))) 3)=zh1 N x.1 x.2.1 x.2.2.1:=by kernel_rfl
def za0 (N:Nat):List A->Res:=z11 SQ5 (fun x=>zh1 N x.1 x.2.1 x.2.2.1) (z2i (.v (.fn 102 (.pair (.ptr (.int .i64)) (.pair (.ptr .str) (.pair (.ptr .str) .unit))))) 3)
theorem zkg (N:Nat):Contract Tryz.prog glob 93 (za0 N) :=
 Contract.of (E:=E_83 N) (H:=t_83 N) (L:=L_83) (N:=N) (body:=z1d7) (K:=(z1c (.v (.fn 102 (.pair (.ptr (.int .i64)) (.pair (.ptr .str) (.pair (.ptr .str) .unit))))) 3)) (z1o8 N) Tryz.func93 (by kernel_rfl) (by decide) (fun _ hb=>TabOk.nil) (fun x y h=>by rw[z1ap];exact h) (zm (s:=(.v (.fn 102 (.pair (.ptr (.int .i64)) (.pair (.ptr .str) (.pair (.ptr .str) .unit)))))) (m:=3))
def zqw:Code:=(Tryz.f81.body).getD .skip
def L_84:List (List Nat×List Nat):=[([0],[2,0,1]),([0,0,1],[10,2,0,1]),([1,0,1],[2,0,1]),([0,0,1,0,1],[6]),([1,0,1,0,1],[6]),([0,1,1],[0,1,2]),([0,1,1,1],[0,1,2,7]),([0,0,1,1,1,1],[16,7,2]),(PQ8,[7,2]),(z1eb,[8,7,2]),([0,1,0,1,0,1,1,1,1],[7,2]),([1,0,1,0,1,1,1,1],[7,2]),([1,0,1,1,1,1],[7,2]),([0,1,1,1,1,1],[6]),([1,1,1,1,1,1],[6])]
def z1q2 (N:Nat):Env:=z14 tys glob [(93,za0 N),(29,z1d N),(30,zla)] [] [] [] false [(7,zen)] [(102,zi N),(79,zd N),(108,z8 N)]
theorem z1o7 (N:Nat):EnvOk Tryz.prog (z1q2 N):=ze mixed zq (FnsOk.cons (zkg N) (FnsOk.cons ((Contract.up (z1g N) glob)) (FnsOk.cons ((Contract.up (zrl z17) glob)) (FnsOk.nil)))) (ItsOk.cons (zj N) (ItsOk.cons (zg N) (ItsOk.cons (zb N) (ItsOk.nil))))
def z9g (N:Nat)(n_1:Int)(out_1:z7w)(y:DT4)(rec:z7w->Option (List UInt8))(k0:z7w->Option (List UInt8)):Option (List UInt8):=(zh N out_1 y.1).bind fun y1=>rec y1.2.1
def z4x (N:Nat)(n:Int)(out:z7w)(x16:(Int×((List UInt8)×DT4))):Option (List DT4):=(z4q N x16.1 x16.2.1 x16.2.2.1)
def z9h (N:Nat)(n:Int)(out:z7w)(x16:(Int×((List UInt8)×DT4))):Int:=n
def zf1 (N:Nat)(n:Int)(out:z7w)(x16:(Int×((List UInt8)×DT4))):z7w:=out
def zf2 (N:Nat)(n:Int)(out:z7w)(x16:(Int×((List UInt8)×DT4)))(k0:z7w->Option (List UInt8)):Option (List UInt8):=(z4x N n out x16).bind fun ys=>zht (fun (y:DT4) (v:z7w) r=>z9g N n v y (fun out_1=>(r out_1)) k0) (fun (v:z7w)=>k0 v) ys out
def z1m7 (N:Nat)(y:DT4)(i:Int)(v:z7w)(r:z7w->Option (List UInt8))(K:Ex->List A->Option (List UInt8)):Option (List UInt8):=z9g N i v y (fun out_1=>(r out_1)) (fun a1=>(K .normal (mkS [(2,.v (.int .i64)),(4,.box zen)] 15 (i,a1,()))))
def z1ke (N:Nat):Hd (List UInt8):=fun st K=>(unS [(2,.v (.int .i64)),(4,.box zen),(8,.v (.fn 102 (.pair (.ptr (.int .i64)) (.pair (.ptr .str) (.pair (.ptr .str) .unit)))))] 6 (restr [16,7,2] 0 st)).bind fun x=>((fun x=>z4x N x.1 x.2.1 x.2.2.1) x).bind fun xs=>zht (fun y v r=>z1m7 N y ((fun x=>z9h N x.1 x.2.1 x.2.2.1) x) v r K) (fun v=>K .normal (mkS [(2,.v (.int .i64)),(4,.box zen)] 15 ((fun i v=>(i,v,())) ((fun x=>z9h N x.1 x.2.1 x.2.2.1) x) v))) xs ((fun x=>zf1 N x.1 x.2.1 x.2.2.1) x)
theorem z1i7 {N:Nat}{c:Ctx}(hb:Base Tryz.prog (z1q2 N) c):zw Tryz.prog c (zk zqw PQ8) (z1ke N) :=
 z19q (ts:=[.str]) (s:=[(2,.v (.int .i64)),(4,.box zen),(8,.v (.fn 102 (.pair (.ptr (.int .i64)) (.pair (.ptr .str) (.pair (.ptr .str) .unit)))))]) (m:=6) (s2:=[(2,.v (.int .i64)),(4,.box zen)]) (m2:=15) [16,7,2] (fun x=>z4x N x.1 x.2.1 x.2.2.1) (fun x=>z9h N x.1 x.2.1 x.2.2.1) (fun x=>zf1 N x.1 x.2.1 x.2.2.1) (fun i v=>(i,v,())) (rfF (z1q2 N) N [.str] (zk zqw PQ8)) (z1m7 N) (zf hb N [] L_84 zqw TabOk.nil PQ8 _ rfl) (fun x K=>by kernel_rfl) (fun y i v r K=>by kernel_rfl)
def z85 (N:Nat)(key:(List UInt8))(nonce:(List UInt8))(n:Int):Option (List UInt8):=cond (decide (n<1)) (some []) (zf2 N (if (65536<n) then 65536 else n) ((),([],())) ((if (65536<n) then 65536 else n),(key,(nonce,()))) (fun out_1=>(zii (out_1,())).bind fun y=>cond (decide ((0<=(if (65536<n) then 65536 else n))/\((if (65536<n) then 65536 else n)<=(List.length y.1:Int)))) (some (cut y.1 0 (Int.toNat (if (65536<n) then 65536 else n)))) none))
def t_84 (N:Nat):Tab (List UInt8):=[(PQ8,z1ke N)]
theorem z1ao (N:Nat)(x:z1b SQ5):z2b (z1q2 N) N (t_84 N) L_84 Tryz.f81 (mkS SQ5 0 x) (z1c (.v .str) 3)=z85 N x.1 x.2.1 x.2.2.1:=by kernel_rfl
def zd0 (N:Nat):List A->Res:=z11 SQ5 (fun x=>z85 N x.1 x.2.1 x.2.2.1) (z2i (.v .str) 3)
theorem znm (N:Nat):Contract Tryz.prog glob 81 (zd0 N) :=
 Contract.of (E:=z1q2 N) (H:=t_84 N) (L:=L_84) (N:=N) (body:=zqw) (K:=(z1c (.v .str) 3)) (z1o7 N) Tryz.func81 (by kernel_rfl) (by decide) (fun _ hb=>(TabOk.cons (z1i7 hb) TabOk.nil)) (fun x y h=>by rw[z1ao];exact h) (zm (s:=(.v .str)) (m:=3))
def z1d6:Code:=(Tryz.f69.body).getD .skip
def L_85:List (List Nat×List Nat):=[([0],[2,0,1]),([0,0,1],[9,2,0,1]),([1,0,1],[2,0,1]),([0,0,1,0,1],[6]),([1,0,1,0,1],[6]),([0,1,1],[6]),([1,1,1],[6])]
def E_85 (N:Nat):Env:=z14 tys glob [(81,zd0 N),(80,zb9 N)] [] [] [] false [] [(102,zi N),(79,zd N),(108,z8 N)]
theorem z1o6 (N:Nat):EnvOk Tryz.prog (E_85 N):=ze mixed zq (FnsOk.cons (znm N) (FnsOk.cons (zjs N) (FnsOk.nil))) (ItsOk.cons (zj N) (ItsOk.cons (zg N) (ItsOk.cons (zb N) (ItsOk.nil))))
def za2 (N:Nat)(key:(List UInt8))(nonce:(List UInt8))(text:(List UInt8)):Option (List UInt8):=cond (decide (65536<(List.length text:Int))) (some []) ((z85 N key nonce (List.length text:Int)).bind fun y=>(zaa N text y).bind fun y1=>some y1)
def t_85 (N:Nat):Tab (List UInt8):=[]
theorem z1an (N:Nat)(x:z1b z1fe):z2b (E_85 N) N (t_85 N) L_85 Tryz.f69 (mkS z1fe 0 x) (z1c (.v .str) 3)=za2 N x.1 x.2.1 x.2.2.1:=by kernel_rfl
def zf3 (N:Nat):List A->Res:=z11 z1fe (fun x=>za2 N x.1 x.2.1 x.2.2.1) (z2i (.v .str) 3)
theorem zpi (N:Nat):Contract Tryz.prog glob 69 (zf3 N) :=
 Contract.of (E:=E_85 N) (H:=t_85 N) (L:=L_85) (N:=N) (body:=z1d6) (K:=(z1c (.v .str) 3)) (z1o6 N) Tryz.func69 (by kernel_rfl) (by decide) (fun _ hb=>TabOk.nil) (fun x y h=>by rw[z1an];exact h) (zm (s:=(.v .str)) (m:=3))
def z1d5:Code:=(Tryz.f68.body).getD .skip
def L_86:List (List Nat×List Nat):=[([0],[5,1,2,3,0]),([1],[0,1,2,3]),([0,1],[0,1,2,3])]
def E_86 (N:Nat):Env:=z14 tys glob [(69,zf3 N),(71,zi9 N),(70,ze1 N)] [] [] [0,1,2,3] false [] [(102,zi N),(79,zd N),(108,z8 N)]
theorem z1o5 (N:Nat):EnvOk Tryz.prog (E_86 N):=ze mixed zq (FnsOk.cons (zpi N) (FnsOk.cons (zti N) (FnsOk.cons (zo4 N) (FnsOk.nil)))) (ItsOk.cons (zj N) (ItsOk.cons (zg N) (ItsOk.cons (zb N) (ItsOk.nil))))
def zam (N:Nat)(x0:Int)(x1:(List UInt8))(x2:(List UInt8))(x3:(List UInt8)):Option ((Unit)×(Int×(List UInt8)×(List UInt8)×(List UInt8)×Unit)):=cond (x0 == 0) ((z8s N x1).bind fun y=>(ze2 N x2).bind fun y1=>cond (decide ((0<=(IntKind.wrap IntKind.i64 ((List.length x2:Int) - 32)))/\((IntKind.wrap IntKind.i64 ((List.length x2:Int) - 32))<=(List.length x2:Int)))) (cond (decide (((0:Int)<=16)/\(16<=(IntKind.wrap IntKind.i64 ((List.length x2:Int) - 32))))) ((za2 N y y1 (cut x2 16 (Int.toNat (IntKind.wrap IntKind.i64 ((List.length x2:Int) - 32))))).bind fun y2=>some ((),(x0,(x1,(x2,(y2,())))))) none) none) (some ((),(x0,(x1,(x2,(x3,()))))))
def t_86 (N:Nat):Tab ((Unit)×(Int×(List UInt8)×(List UInt8)×(List UInt8)×Unit)):=[]
theorem z1am (N:Nat)(x:z1b SQ3):z2b (E_86 N) N (t_86 N) L_86 Tryz.f68 (mkS SQ3 0 x) (z7l (.tup []) SQ3 0)=zam N x.1 x.2.1 x.2.2.1 x.2.2.2.1:=by kernel_rfl
def zqt (N:Nat):List A->Res:=z11 SQ3 (fun x=>zam N x.1 x.2.1 x.2.2.1 x.2.2.2.1) (zgd (.tup []) SQ3 0)
theorem zqu (N:Nat):ContractD Tryz.prog glob 68 (zqt N) :=
 ContractD.of (E:=E_86 N) (H:=t_86 N) (L:=L_86) (N:=N) (body:=z1d5) (K:=(z7l (.tup []) SQ3 0)) (z1o5 N) Tryz.func68 (by kernel_rfl) (by decide) (fun _ hb=>TabOk.nil) (fun x y h=>by rw[z1am];exact h) (z5l (s:=(.tup [])) (os:=SQ3) (m:=0))
def z1d4:Code:=(Tryz.f82.body).getD .skip
def L_87:List (List Nat×List Nat):=[([0],[0,1]),([0,1],[4]),([1,1],[4])]
def E_87 (N:Nat):Env:=z14 tys glob [(73,z2g N),(83,zdq N)] [] [] [] false [] [(102,zi N),(79,zd N),(108,z8 N)]
theorem z1o4 (N:Nat):EnvOk Tryz.prog (E_87 N):=ze mixed zq (FnsOk.cons (z38 N) (FnsOk.cons (zml N) (FnsOk.nil))) (ItsOk.cons (zj N) (ItsOk.cons (zg N) (ItsOk.cons (zb N) (ItsOk.nil))))
def zmy (N:Nat)(key:(List UInt8))(body:(List UInt8)):Option (List UInt8):=(z21 N key ([([(116:UInt8),(97:UInt8),(103:UInt8)]:List UInt8)]:List (List UInt8))).bind fun y=>(zej N y body).bind fun y1=>some y1
def t_87 (N:Nat):Tab (List UInt8):=[]
theorem z1al (N:Nat)(x:z1b SQ1):z2b (E_87 N) N (t_87 N) L_87 Tryz.f82 (mkS SQ1 0 x) (z1c (.v .str) 2)=zmy N x.1 x.2.1:=by kernel_rfl
def zmx (N:Nat):List A->Res:=z11 SQ1 (fun x=>zmy N x.1 x.2.1) (z2i (.v .str) 2)
theorem zz9 (N:Nat):Contract Tryz.prog glob 82 (zmx N) :=
 Contract.of (E:=E_87 N) (H:=t_87 N) (L:=L_87) (N:=N) (body:=z1d4) (K:=(z1c (.v .str) 2)) (z1o4 N) Tryz.func82 (by kernel_rfl) (by decide) (fun _ hb=>TabOk.nil) (fun x y h=>by rw[z1al];exact h) (zm (s:=(.v .str)) (m:=2))
def z1d3:Code:=(Tryz.f72.body).getD .skip
def L_88:List (List Nat×List Nat):=[([0],[1,0]),([0,0,1],[8,1,0]),([1,0,1],[1,0]),([0,0,1,0,1],[4]),([1,0,1,0,1],[4]),([0,0,1,1],[11,1,0]),([1,0,1,1],[1,0]),([0,0,1,0,1,1],[4]),([1,0,1,0,1,1],[4]),([0,1,1,1],[1,5,0]),([0,0,1,1,1,1],[24]),([1,0,1,1,1,1],[]),(z1eb,[4]),([1,0,1,0,1,1,1,1],[4]),([0,1,1,1,1,1],[4]),([1,1,1,1,1,1],[4])]
def E_88 (N:Nat):Env:=z14 tys glob [(82,zmx N),(34,z7m N)] [] [] [] false [] [(102,zi N),(79,zd N),(108,z8 N)]
theorem z1o3 (N:Nat):EnvOk Tryz.prog (E_88 N):=ze mixed zq (FnsOk.cons (zz9 N) (FnsOk.cons (zdr N) (FnsOk.nil))) (ItsOk.cons (zj N) (ItsOk.cons (zg N) (ItsOk.cons (zb N) (ItsOk.nil))))
def z4w (N:Nat)(key:(List UInt8))(s:(List UInt8)):Option Int:=cond (decide ((List.length s:Int)<48)) (some 1) (cond (decide (4144<(List.length s:Int))) (some 3) (cond (decide ((0<=(IntKind.wrap IntKind.i64 ((List.length s:Int) - 32)))/\((IntKind.wrap IntKind.i64 ((List.length s:Int) - 32))<=(List.length s:Int)))) (cond (decide ((0<=(IntKind.wrap IntKind.i64 ((List.length s:Int) - 32)))/\((IntKind.wrap IntKind.i64 ((List.length s:Int) - 32))<=(List.length s:Int)))) ((zmy N key (cut s 0 (Int.toNat (IntKind.wrap IntKind.i64 ((List.length s:Int) - 32))))).bind fun y=>(z8m N (cut s (Int.toNat (IntKind.wrap IntKind.i64 ((List.length s:Int) - 32))) (List.length s)) y).bind fun y1=>cond (!y1) (some 8) (some 0)) none) none))
def t_88 (N:Nat):Tab Int:=[]
theorem z1ak (N:Nat)(x:z1b SQ1):z2b (E_88 N) N (t_88 N) L_88 Tryz.f72 (mkS SQ1 0 x) (z1c (.v (.int .i64)) 2)=z4w N x.1 x.2.1:=by kernel_rfl
def zqs (N:Nat):List A->Res:=z11 SQ1 (fun x=>z4w N x.1 x.2.1) (z2i (.v (.int .i64)) 2)
theorem zth (N:Nat):Contract Tryz.prog glob 72 (zqs N) :=
 Contract.of (E:=E_88 N) (H:=t_88 N) (L:=L_88) (N:=N) (body:=z1d3) (K:=(z1c (.v (.int .i64)) 2)) (z1o3 N) Tryz.func72 (by kernel_rfl) (by decide) (fun _ hb=>TabOk.nil) (fun x y h=>by rw[z1ak];exact h) (zm (s:=(.v (.int .i64))) (m:=2))
def z7p (N:Nat)(key s:List UInt8):Option (List UInt8×Int×Unit):=(z4w N key s).bind fun e=>(zam N e key s []).bind fun y=>some (y.2.2.2.2.1,y.2.1,())
def zk7 (N:Nat):List A->Res:=z11 SQ1 (fun x=>z7p N x.1 x.2.1) (z2i (.tup [.str,(.int .i64)]) 2)
theorem zo5 {N:Nat}{key s:List UInt8}{e:Int}{w:World}{S:Hp}(hS:Sub S (hp w))(hg:GlobOk glob S)(he:z4w N key s=some e) :
 Calls Tryz.prog 72 #[.string ⟨⟨key⟩⟩,.string ⟨⟨s⟩⟩] w fun r w'=>r=.returned (.int .i64 e)/\Go.RowKit.Below w.heap.size w w'/\∃ S',Sub S S'/\Sub S' (hp w')/\∀ b,S' b≠none->S b≠none\/w.heap.size<=b:=by
 have h:=(zth N).2 w S (mkS SQ1 0 (key,s,())) [.string ⟨⟨key⟩⟩,.string ⟨⟨s⟩⟩] (fun _=>[]) ⟨rfl,fun i x hx=>?_,fun _ _=>rfl,(fun i j b hb=>by cases hb),fun _=>.nil,(fun i b hb=>by cases hb)⟩ hS hg
 . have h2:=h e (by show z4w N key s=some e;exact he);refine h2.mono ?_;rintro r w' ⟨v,S',o,ob',rfl,hwf,h3,h4,h5,⟨⟨hv,_⟩,_⟩,_⟩;have hv':=VR.int_inv hv;subst hv';refine⟨rfl,⟨hwf.os,hwf.tape,hwf.output,hwf.size,fun k hk=>hwf.same k hk (by rintro⟨i,hi⟩;cases hi)⟩,S',h3,h4,fun b hb=>?_⟩;rcases h5 b hb with h|⟨i,hi⟩|h
   . exact .inl h
   . cases hi
   . exact .inr h
 . match i with
   | 0=>simp[mkS,z2p,AS.mk] at hx;subst hx;exact⟨⟨_,rfl,VR.str,rfl⟩,rfl⟩
   | 1=>simp[mkS,z2p,AS.mk] at hx;subst hx;exact⟨⟨_,rfl,VR.str,rfl⟩,rfl⟩
   | i+2=>simp[mkS,z2p] at hx
theorem z96 {h S:Hp}{tv:Nat->Value}{b E:Nat}{t:T}{x:t.den}{v:Value}(ht:t.isAgg=false)(hb:h b=some (.cells #[v] E (0,0)))(hv:Rd S t x [v]):ARel h S tv (.box t x) (.pointer (some ⟨b,0,none⟩)) [b] :=
 ⟨b,#[v],E,(0,0),[],rfl,rfl,hb,⟨Nat.le_refl _,fun i _ hq=>absurd hq.2 (Nat.not_lt_zero i)⟩,RdO.of_rd t x _ hv⟩
theorem zi8 {h S:Hp}{tv:Nat->Value}{t:T}{x:t.den}{b:Nat}{o:List Nat}(ht:noOwn t=true)(hs:t.size=1)(hx:ARel h S tv (.box t x) (.pointer (some ⟨b,0,none⟩)) o):∃ v E fr,h b=some (.cells #[v] E fr)/\Rd S t x [v]:=by
 obtain⟨b',cs,E,fr,bs,_,e,hb,_,hr⟩:=hx;cases e;obtain⟨_,hr⟩:=RdO.rd t x _ _ ht hr;have hl:=hr.length;rw[hs] at hl;obtain⟨v,hv⟩:=List.length_eq_one_iff.1 hl;have:cs=#[v]:=by apply Array.toList_inj.1;rw[hv]
 subst this;exact⟨v,E,fr,hb,hr⟩
theorem zve (N:Nat):Contract Tryz.prog glob 50 (zk7 N):=by
 refine Contract.hand ⟨_,Tryz.func50,by kernel_rfl,by decide⟩ ?_;intro w S vals ob x y har hS hg hy;obtain⟨key,s,u⟩:=x;cases u;unfold z7p at hy;dsimp only at hy;cases he:z4w N key s with
 | none=>rw[he] at hy;cases hy
 | some e =>
 rw[he,Option.bind_some] at hy;cases ho:zam N e key s [] with
 | none=>rw[ho] at hy;cases hy
 | some z =>
 rw[ho,Option.bind_some] at hy;cases hy;obtain⟨⟨v0,hv0,hA0,ho0⟩,_⟩:=har.rel 0 _ rfl;obtain⟨⟨v1,hv1,hA1,ho1⟩,_⟩:=har.rel 1 _ rfl;have hlen:=har.len;obtain⟨u0,u1,rfl⟩:∃ u0 u1,vals=[u0,u1]:=by
  have:vals.length=2:=by simpa[mkS,z2p] using hlen.symm
  match vals,this with
  | [a,b],_=>exact⟨a,b,rfl⟩
 simp at hv0 hv1;subst hv0;subst hv1;have e0:=hA0.str_inv;have e1:=hA1.str_inv;subst e0;subst e1;have hnone:∀ i,ob i=[]:=by
  intro i
  match i with
  | 0=>exact ho0
  | 1=>exact ho1
  | i+2=>exact har.out _ (by simp[mkS,z2p])
 have hmf:∀ (fn:Fn) (first cap:Array Value) (w:World),(Instr.makeFunc fn first cap).run Tryz.prog w=.ok (.func fn first cap) w:=fun _ _ _ _=>rfl
 obtain⟨n,hn⟩:∃ n,n=w.heap.size:=⟨_,rfl⟩
 have hltS:∀ b,S b≠none->b<n:=fun b hb=>by
  cases hs:S b with
  | none=>exact absurd hs hb
  | some o=>rw[hn];exact z5c (hS b o hs)
 obtain⟨W4,hW4⟩:∃ W4,W4=(((w.alloc (.cells #[.string ⟨⟨key⟩⟩] 9)).alloc (.cells #[.string ⟨⟨s⟩⟩] 9)).alloc (.cells #[.string ⟨#[]⟩] 9)).alloc (.cells #[.int .i64 0] 30):=⟨_,rfl⟩
 have hh:W4.heap=(((w.heap.push (.cells #[.string ⟨⟨key⟩⟩] 9 (0,0))).push (.cells #[.string ⟨⟨s⟩⟩] 9 (0,0))).push (.cells #[.string ⟨#[]⟩] 9 (0,0))).push (.cells #[.int .i64 0] 30 (0,0)):=by rw[hW4];rfl
 have z4:W4.heap.size=n+4:=by rw[hh,hn];simp only[Array.size_push]
 have k0:W4.heap[n]?=some (.cells #[.string ⟨⟨key⟩⟩] 9 (0,0)):=by rw[hh,hn];simp only[Array.getElem?_push,Array.size_push];rw[if_neg (by omega),if_neg (by omega),if_neg (by omega),if_pos trivial]
 have k1:W4.heap[n+1]?=some (.cells #[.string ⟨⟨s⟩⟩] 9 (0,0)):=by rw[hh,hn];simp only[Array.getElem?_push,Array.size_push];rw[if_neg (by omega),if_neg (by omega),if_pos trivial]
 have k2:W4.heap[n+2]?=some (.cells #[.string ⟨#[]⟩] 9 (0,0)):=by rw[hh,hn];simp only[Array.getElem?_push,Array.size_push];rw[if_neg (by omega),if_pos (by first|omega|trivial)]
 have k3:W4.heap[n+3]?=some (.cells #[.int .i64 0] 30 (0,0)):=by rw[hh,hn];simp only[Array.getElem?_push,Array.size_push];rw[if_pos (by first|omega|trivial)]
 have kl:∀ b,b<n->W4.heap[b]?=w.heap[b]?:=fun b hb=>by
  rw[hh];simp only[Array.getElem?_push,Array.size_push];rw[if_neg (by omega),if_neg (by omega),if_neg (by omega),if_neg (by omega)]
 have hS4:Sub S (hp W4):=fun b o hb=>by
  have h1:=hS b o hb;simp only[hp] at h1 ⊢;rw[kl b (hltS b (by rw[hb];simp))];exact h1
 have t4:W4.tape=w.tape/\W4.os=w.os/\W4.output=w.output:=by rw[hW4];exact⟨rfl,rfl,rfl⟩
 have hck:=zo5 (N:=N) hS4 hg he;have main:∀ w5,Go.RowKit.Below W4.heap.size W4 w5->(∃ S',Sub S S'/\Sub S' (hp w5)/\∀ b,S' b≠none->S b≠none\/W4.heap.size<=b) →
  CallsD Tryz.prog 68 #[.pointer (some ⟨n+3,0,none⟩),.pointer (some ⟨n,0,none⟩),.pointer (some ⟨n+1,0,none⟩),.pointer (some ⟨n+2,0,none⟩)] .returning
   ((w5.setCell ⟨n+2,0,none⟩ (.string ⟨#[]⟩)).setCell ⟨n+3,0,none⟩ (.int .i64 e)) fun r u w7=>(∃ v,r=.returned v)/\u=.returning/\w7.cell? ⟨n+2,0,none⟩=some (.string ⟨⟨z.2.2.2.2.1⟩⟩)/\w7.cell? ⟨n+3,0,none⟩=some (.int .i64 z.2.1) ∧
     Lift.Ends w S (mkS SQ1 0 (key,s,())) [.string ⟨⟨key⟩⟩,.string ⟨⟨s⟩⟩] ob (z2i (.tup [.str,.int .i64]) 2 (z.2.2.2.2.1,z.2.1,())).1 (z2i (.tup [.str,.int .i64]) 2 (z.2.2.2.2.1,z.2.1,())).2 (.returned (.tuple #[.string ⟨⟨z.2.2.2.2.1⟩⟩,.int .i64 z.2.1])) w7:=by
  rintro w5 hbel ⟨S5,hS5,hS5w,hnew⟩;have b0:=hbel.block n (by omega);have b1:=hbel.block (n+1) (by omega);have b2:=hbel.block (n+2) (by omega);have b3:=hbel.block (n+3) (by omega);rw[k0] at b0;rw[k1] at b1;rw[k2] at b2;rw[k3] at b3;have hz5:=hbel.size;obtain⟨w6,hw6⟩:∃ w6,w6=(w5.setCell ⟨n+2,0,none⟩ (.string ⟨#[]⟩)).setCell ⟨n+3,0,none⟩ (.int .i64 e):=⟨_,rfl⟩
  rw[<- hw6];have e5:=zed (w:=w5) (b:=n+2) (off:=0) (.string ⟨#[]⟩) b2;have e6:=zed (w:=w5.setCell ⟨n+2,0,none⟩ (.string ⟨#[]⟩)) (b:=n+3) (off:=0) (.int .i64 e) (by rw[e5,zp (by omega)];exact b3);rw[e6,e5] at hw6;have m2:hp w6 (n+2)=some (.cells #[.string ⟨#[]⟩] 9 (0,0)):=by rw[hw6,zp (by omega)];exact z1m b2
  have m3:hp w6 (n+3)=some (.cells #[.int .i64 e] 30 (0,0)):=by rw[hw6];exact z1m (o':=.cells #[.int .i64 0] 30 (0,0)) (by rw[zp (by omega)];exact b3)
  have mo:∀ b,b≠n+2->b≠n+3->hp w6 b=hp w5 b:=fun b h1 h2=>by rw[hw6,zp h2,zp h1]
  have m0:hp w6 n=some (.cells #[.string ⟨⟨key⟩⟩] 9 (0,0)):=by rw[mo n (by omega) (by omega)];exact b0
  have m1:hp w6 (n+1)=some (.cells #[.string ⟨⟨s⟩⟩] 9 (0,0)):=by rw[mo (n+1) (by omega) (by omega)];exact b1
  have mz:w6.heap.size=w5.heap.size:=by rw[hw6];simp[z19]
  have mt:w6.tape=w5.tape/\w6.os=w5.os/\w6.output=w5.output:=by rw[hw6];exact⟨rfl,rfl,rfl⟩
  have hS5none:∀ b,n<=b->b<n+4->S5 b=none:=fun b h1 h2=>by
   cases hs:S5 b with
   | none=>rfl
   | some o =>
     rcases hnew b (by rw[hs];simp) with h|h
     . have:=hltS b h;omega
     . omega
  have hS6:Sub S5 (hp w6):=fun b o hb=>by
   rw[mo b (fun h=>by subst h;rw[hS5none (n+2) (by omega) (by omega)] at hb;cases hb) (fun h=>by subst h;rw[hS5none (n+3) (by omega) (by omega)] at hb;cases hb)];exact hS5w b o hb
  have hc:=zqu N w6 S5 (mkS SQ3 0 (e,key,s,[],())) [.pointer (some ⟨n+3,0,none⟩),.pointer (some ⟨n,0,none⟩),.pointer (some ⟨n+1,0,none⟩),.pointer (some ⟨n+2,0,none⟩)]
   (fun i=>match i with|0=>[n+3]|1=>[n]|2=>[n+1]|3=>[n+2]|_=>[]) ⟨rfl,fun i x hx=>?_,fun i hi=>?_,fun i j b hi hj=>?_,fun i=>?_,fun i b hb=>?_⟩ hS6 (hg.mono hS5) z (by show zam N e key s []=some z;exact ho)
  . refine CallsD.mono hc ?_;rintro r u w7 ⟨rfl,v,S7,o,ob7,rfl,hwf,hS57,hS7,hnew7,_,_,_,houts,_⟩;obtain⟨x3,v3,hx3,hv3,_,hA3⟩:=houts 3 _ rfl rfl;obtain⟨x0,v0,hx0,hv0',_,hA0'⟩:=houts 0 _ rfl rfl;have hx3':x3=.box .str z.2.2.2.2.1:=(Option.some.inj hx3).symm;have hx0':x0=.box (.int .i64) z.2.1:=(Option.some.inj hx0).symm;have hv3':v3=.pointer (some ⟨n+2,0,none⟩):=(Option.some.inj hv3).symm;have hv0'':v0=.pointer (some ⟨n+3,0,none⟩):=(Option.some.inj hv0').symm;subst hx3';subst hx0';subst hv3';subst hv0'';obtain⟨q3,E3,f3,g3,h3⟩:=zi8 rfl rfl hA3;obtain⟨q0,E0,f0,g0,h0⟩:=zi8 rfl rfl hA0';have h3':q3=.string ⟨⟨z.2.2.2.2.1⟩⟩:=by simpa[Rd] using h3
    have h0':q0=.int .i64 z.2.1:=by simpa[Rd] using h0
    subst h3';subst h0';refine⟨⟨v,rfl⟩,rfl,by simp only[hp] at g3;simp[World.cell?,g3],by simp only[hp] at g0;simp[World.cell?,g0],_,S7,[],ob,rfl,⟨?_,fun b hb _=>?_,?_,?_,?_⟩,hS5.trans hS57,hS7,fun b hb=>?_,⟨⟨rfl,_,rfl,.cons VR.str (.cons VR.int .nil)⟩,rfl⟩,(fun k hk=>by cases hk),.nil,?_,?_,har.inj,har.nd,fun i hi=>hi⟩
    . have:=hwf.size;omega
    . have h1:=hwf.same b (by omega) (by
       rintro⟨i,hi⟩
       match i with
       | 0=>simp at hi;omega
       | 1=>simp at hi;omega
       | 2=>simp at hi;omega
       | 3=>simp at hi;omega
       | i+4=>simp at hi)
      have h2:=mo b (by omega) (by omega);simp only[hp] at h2;rw[h1,h2,hbel.block b (by omega),kl b (by omega)]
    . rw[hwf.tape,mt.1,hbel.tape,t4.1]
    . rw[hwf.os,mt.2.1,hbel.os,t4.2.1]
    . rw[hwf.output,mt.2.2,hbel.output,t4.2.2]
    . rcases hnew7 b hb with h|⟨i,hi⟩|h
      . rcases hnew b h with h|h
        . exact .inl h
        . exact .inr (.inr (by omega))
      . refine .inr (.inr ?_)
        match i with
        | 0=>simp at hi;omega
        | 1=>simp at hi;omega
        | 2=>simp at hi;omega
        | 3=>simp at hi;omega
        | i+4=>simp at hi
      . exact .inr (.inr (by omega))
    . intro i x hx hbx
      match i with
      | 0=>simp[mkS,z2p,AS.mk] at hx;subst hx;cases hbx
      | 1=>simp[mkS,z2p,AS.mk] at hx;subst hx;cases hbx
      | i+2=>simp[mkS,z2p] at hx
    . intro i k hk;rw[hnone i] at hk;cases hk
  . match i with
    | 0=>simp[mkS,z2p,AS.mk] at hx;subst hx;exact⟨⟨_,rfl,z96 rfl m3 rfl⟩,rfl⟩
    | 1=>simp[mkS,z2p,AS.mk] at hx;subst hx;exact⟨⟨_,rfl,z96 rfl m0 rfl⟩,rfl⟩
    | 2=>simp[mkS,z2p,AS.mk] at hx;subst hx;exact⟨⟨_,rfl,z96 rfl m1 rfl⟩,rfl⟩
    | 3=>simp[mkS,z2p,AS.mk] at hx;subst hx;exact⟨⟨_,rfl,z96 rfl m2 rfl⟩,rfl⟩
    | i+4=>simp[mkS,z2p] at hx
  . match i with
    | 0=>simp[mkS,z2p] at hi
    | 1=>simp[mkS,z2p] at hi
    | 2=>simp[mkS,z2p] at hi
    | 3=>simp[mkS,z2p] at hi
    | i+4=>rfl
  . match i,j with
    | 0,0=>rfl
    | 1,1=>rfl
    | 2,2=>rfl
    | 3,3=>rfl
    | i+4,_=>cases hi
    | 0,1=>simp at hi hj;omega
    | 0,2=>simp at hi hj;omega
    | 0,3=>simp at hi hj;omega
    | 1,0=>simp at hi hj;omega
    | 1,2=>simp at hi hj;omega
    | 1,3=>simp at hi hj;omega
    | 2,0=>simp at hi hj;omega
    | 2,1=>simp at hi hj;omega
    | 2,3=>simp at hi hj;omega
    | 3,0=>simp at hi hj;omega
    | 3,1=>simp at hi hj;omega
    | 3,2=>simp at hi hj;omega
    | 0,j+4=>cases hj
    | 1,j+4=>cases hj
    | 2,j+4=>cases hj
    | 3,j+4=>cases hj
  . match i with
    | 0=>simp
    | 1=>simp
    | 2=>simp
    | 3=>simp
    | i+4=>exact .nil
  . match i with
    | 0=>simp at hb;subst hb;exact hS5none _ (by omega) (by omega)
    | 1=>simp at hb;subst hb;exact hS5none _ (by omega) (by omega)
    | 2=>simp at hb;subst hb;exact hS5none _ (by omega) (by omega)
    | 3=>simp at hb;subst hb;exact hS5none _ (by omega) (by omega)
    | i+4=>cases hb
 have cells:∀ w5,Go.RowKit.Below W4.heap.size W4 w5->w5.cell? ⟨n+2,0,none⟩=some (.string ⟨#[]⟩)/\w5.frozen? ⟨n+2,0,none⟩=false/\w5.cell? ⟨n+3,0,none⟩=some (.int .i64 0)/\w5.frozen? ⟨n+3,0,none⟩=false:=by
  intro w5 hbel;have b2:=hbel.block (n+2) (by omega);have b3:=hbel.block (n+3) (by omega);rw[k2] at b2;rw[k3] at b3;exact⟨by simp[World.cell?,b2],by simp[World.frozen?,b2],by simp[World.cell?,b3],by simp[World.frozen?,b3]⟩
 clear k0 k1 k2 k3 kl z4 t4 hS4 hlen har hnone ho he hA0 hA1;subst hW4;subst hn
 go_enter_defers Tryz.func50,Tryz.ntmps50
 go_wp2_with (go_at_call 72;refine hck.mono ?_;rintro r w5 ⟨rfl,hbel,hS5⟩;obtain⟨d2,d2',d3,d3'⟩:=cells w5 hbel;have HM:=Go.Lib.hid (main w5 hbel hS5);clear hck cells main hbel hS5)
 refine leaves_cons (f:=68) (args:=#[.pointer (some ⟨w.heap.size+1+1+1,0,none⟩),.pointer (some ⟨w.heap.size,0,none⟩),.pointer (some ⟨w.heap.size+1,0,none⟩),.pointer (some ⟨w.heap.size+1+1,0,none⟩)]) (by simp) (by simp[go_sem]) ?_;refine (HM.out).mono ?_;rintro r u w7 ⟨⟨v,rfl⟩,rfl,c2,c3,hend⟩;refine⟨_,?_,hend⟩;simp[results,Tryz.results50,go_sem,c2,c3]
def zn1:Code:=(Tryz.f52.body).getD .skip
def L_89:List (List Nat×List Nat):=[([0],[0,1]),([0,0,1],[13,12,11,1,0]),([0,1,0,1],[13,12,11,1,0]),([0,0,0,1,0,1],[14,13,11,1,0,12]),([0,1,0,0,1,0,1],[13,11,1,0,12]),([1,0,1,0,0,1,0,1],[0]),([0,0,0,1,1,0,0,1,0,1],[6,1,0,5,13,12,11]),(z1fh,[31,5,0,13,12,11,1]),([1,1,0,0,1,1,0,0,1,0,1],[13,12,11,1,0]),([0,0,1,1,0,0,1,1,0,0,1,0,1],[4,0]),([1,0,1,1,0,0,1,1,0,0,1,0,1],[4,0]),([0,1,1,0,0,1,0,1],[13,12,11,1,0]),([1,1,1,0,0,1,0,1],[13,12,11,1,0]),([1,0,1],[0]),([0,1,1],[4,0]),([1,1,1],[4,0])]
def z1q1 (N:Nat):Env:=z14 tys glob [] [] [] [0] false [] [(102,zi N),(79,zd N),(108,z8 N)]
theorem z1o2 (N:Nat):EnvOk Tryz.prog (z1q1 N):=ze mixed zq (FnsOk.nil) (ItsOk.cons (zj N) (ItsOk.cons (zg N) (ItsOk.cons (zb N) (ItsOk.nil))))
def z4f (N:Nat)(r_:DT0)(id_:(List UInt8))(i:Int)(t:DT6)(x11:(List DT6))(x12:Int)(x13:Int)(k0:Bool->Option (Int×(DT0×Unit))):Option (Int×(DT0×Unit)):=cond (t.1 == id_) (cond (inR i (List.length r_.2.1)) (cond (decide ((Int.toNat i)<(List.length r_.2.1))) (k0 (!(List.getD r_.2.1 (Int.toNat i) false))) none) none) (k0 false)
def z1lp (N:Nat)(x:z1b SQ7)(K:Ex->List A->Option (Int×(DT0×Unit))):Option (Int×(DT0×Unit)):=z4f N x.1 x.2.1 x.2.2.1 x.2.2.2.1 x.2.2.2.2.1 x.2.2.2.2.2.1 x.2.2.2.2.2.2.1 (fun a6=>(K .normal (mkS [(0,.box TT2),(0,.v .str),(3,.v (.int .i64)),(5,.v (.sl TT1)),(0,.v (.int .i64)),(0,.v (.int .i64)),(17,.v .bool)] 2 (x.1,x.2.1,x.2.2.1,x.2.2.2.2.1,x.2.2.2.2.2.1,x.2.2.2.2.2.2.1,a6,()))))
def z1jw (N:Nat):Hd (Int×(DT0×Unit)):=fun st K=>(unS SQ7 20 (restr [6,1,0,5,13,12,11] 0 st)).bind fun x=>z1lp N x K
def t2_89 (N:Nat):Tab (Int×(DT0×Unit)):=[]
theorem z1hp {N:Nat}{c:Ctx}(hb:Base Tryz.prog (z1q1 N) c):zw Tryz.prog c (zk zn1 z1fh) (z1jw N) :=
 z13 (s:=SQ7) (m:=20) (g:=z1lp N) [6,1,0,5,13,12,11] (zf hb N (t2_89 N) L_89 zn1 TabOk.nil z1fh _ rfl) (fun x K=>by kernel_rfl)
def z4e (N:Nat)(r_:DT0)(id_:(List UInt8))(x11:(List DT6))(x12:Int)(x13:Int)(rec:Int->Option (Int×(DT0×Unit)))(k0:Int->Option (Int×(DT0×Unit)))(k1:Option (Int×(DT0×Unit))):Option (Int×(DT0×Unit)):=cond (decide (x13<x12)) (cond (inR x13 (List.length x11)) (z4f N r_ id_ x13 (List.getD x11 (Int.toNat x13) ([],(([]:List ((List UInt8)×DT4)),([],())))) x11 x12 x13 (fun x31=>cond x31 (k0 x13) (rec (IntKind.wrap IntKind.i64 (x13+1))))) none) k1
def z77 (N:Nat)(r_:DT0)(id_:(List UInt8))(x11:(List DT6))(x12:Int)(x13:Int)(k0:Int->Option (Int×(DT0×Unit)))(k1:Option (Int×(DT0×Unit))):Option (Int×(DT0×Unit)):=iter (fun (v:Int) r=>z4e N r_ id_ x11 x12 v (fun x13=>(r x13)) k0 k1) N x13
def z1m6 (N:Nat)(i:(DT0×(List UInt8)×(List DT6)×Int))(v:Int)(r:Int->Option (Int×(DT0×Unit)))(K:Ex->List A->Option (Int×(DT0×Unit))):Option (Int×(DT0×Unit)):=z4e N i.1 i.2.1 i.2.2.1 i.2.2.2 v (fun x13=>(r x13)) (fun a1=>(K .ret (mkS [(0,.box TT2),(3,.v (.int .i64))] 29 (i.1,a1,())))) (K (.exit 0) (mkS [(0,.box TT2)] 33 (i.1,())))
def z1kd (N:Nat):Hd (Int×(DT0×Unit)):=fun st K=>(unS SQ50 20 (restr [13,12,11,1,0] 0 st)).bind fun x=>iter (fun v r=>z1m6 N ((fun x=>(x.1,x.2.1,x.2.2.1,x.2.2.2.1)) x) v r K) N ((fun x=>x.2.2.2.2.1) x)
def t1_89 (N:Nat):Tab (Int×(DT0×Unit)):=[(z1fh,z1jw N)]
theorem z1i6 {N:Nat}{c:Ctx}(hb:Base Tryz.prog (z1q1 N) c):zw Tryz.prog c (zk zn1 [0,1,0,1]) (z1kd N) :=
 z1v (s:=SQ50) (m:=20) (z1m6 N) [13,12,11,1,0] N (fun x=>(x.1,x.2.1,x.2.2.1,x.2.2.2.1)) (fun x=>x.2.2.2.2.1) (fun i v=>(i.1,i.2.1,i.2.2.1,i.2.2.2,v,())) (fun _=>rfl) (zf hb N (t1_89 N) L_89 zn1 (TabOk.cons (z1hp hb) TabOk.nil) [0,0,1,0,1] _ rfl) (fun i v r K=>by kernel_rfl)
def z2s (N:Nat)(r_:DT0)(id_:(List UInt8)):Option (Int×(DT0×Unit)):=z77 N r_ id_ r_.1.2.1 (List.length r_.1.2.1:Int) 0 (fun x4=>some (x4,(r_,()))) (some ((-1),(r_,())))
def t_89 (N:Nat):Tab (Int×(DT0×Unit)):=[([0,1,0,1],z1kd N)]
theorem z1aj (N:Nat)(x:z1b z1fa):z2b (z1q1 N) N (t_89 N) L_89 Tryz.f52 (mkS z1fa 0 x) (z7l (.v (.int .i64)) [(0,.box TT2)] 1)=z2s N x.1 x.2.1:=by kernel_rfl
def z6e (N:Nat):List A->Res:=z11 z1fa (fun x=>z2s N x.1 x.2.1) (zgd (.v (.int .i64)) [(0,.box TT2)] 1)
theorem zep (N:Nat):Contract Tryz.prog glob 52 (z6e N) :=
 Contract.of (E:=z1q1 N) (H:=t_89 N) (L:=L_89) (N:=N) (body:=zn1) (K:=(z7l (.v (.int .i64)) [(0,.box TT2)] 1)) (z1o2 N) Tryz.func52 (by kernel_rfl) (by decide) (fun _ hb=>(TabOk.cons (z1i6 hb) TabOk.nil)) (fun x y h=>by rw[z1aj];exact h) (z5l (s:=(.v (.int .i64))) (os:=[(0,.box TT2)]) (m:=1))
def z1d2:Code:=(Tryz.f53.body).getD .skip
def L_90:List (List Nat×List Nat):=[([0],[0,1]),([0,1],[4]),([1,1],[4])]
def E_90 (N:Nat):Env:=z14 tys glob [(73,z2g N)] [] [] [] false [] [(102,zi N),(79,zd N),(108,z8 N)]
theorem z1o1 (N:Nat):EnvOk Tryz.prog (E_90 N):=ze mixed zq (FnsOk.cons (z38 N) (FnsOk.nil)) (ItsOk.cons (zj N) (ItsOk.cons (zg N) (ItsOk.cons (zb N) (ItsOk.nil))))
def zal (N:Nat)(of:(List UInt8))(other:(List UInt8)):Option (List UInt8):=(z21 N of ([([(98:UInt8),(105:UInt8),(110:UInt8),(100:UInt8)]:List UInt8),other]:List (List UInt8))).bind fun y=>some y
def t_90 (N:Nat):Tab (List UInt8):=[]
theorem z1ai (N:Nat)(x:z1b SQ1):z2b (E_90 N) N (t_90 N) L_90 Tryz.f53 (mkS SQ1 0 x) (z1c (.v .str) 2)=zal N x.1 x.2.1:=by kernel_rfl
def zfm (N:Nat):List A->Res:=z11 SQ1 (fun x=>zal N x.1 x.2.1) (z2i (.v .str) 2)
theorem zqp (N:Nat):Contract Tryz.prog glob 53 (zfm N) :=
 Contract.of (E:=E_90 N) (H:=t_90 N) (L:=L_90) (N:=N) (body:=z1d2) (K:=(z1c (.v .str) 2)) (z1o1 N) Tryz.func53 (by kernel_rfl) (by decide) (fun _ hb=>TabOk.nil) (fun x y h=>by rw[z1ai];exact h) (zm (s:=(.v .str)) (m:=2))
def z1d1:Code:=(Tryz.f35.body).getD .skip
def L_91:List (List Nat×List Nat):=[([0],[0,1,5]),([0,1],[1,5,0]),([0,1,1],[8,0,5,7]),([0,0,1,1,1],[29,0,5,7]),([1,0,1,1,1],[0,5,7]),(z1ea,[6,0]),([1,0,1,0,1,1,1],[6,0]),([0,1,1,1,1],[9,0,7]),([0,0,1,1,1,1,1],[35,0,9,7]),([1,0,1,1,1,1,1],[0,9,7]),([0,0,1,0,1,1,1,1,1],[6,0]),([1,0,1,0,1,1,1,1,1],[6,0]),([0,1,1,1,1,1,1],[0,9,7,10]),([0,1,1,1,1,1,1,1],[0,7,10]),([0,1,1,1,1,1,1,1,1],[0,10,12,11]),([0,1,1,1,1,1,1,1,1,1],[10,0,12,11]),([0,0,1,1,1,1,1,1,1,1,1,1],[75,0,10,11]),([1,0,1,1,1,1,1,1,1,1,1,1],[0,10,11]),([0,0,1,0,1,1,1,1,1,1,1,1,1,1],[6,0]),([1,0,1,0,1,1,1,1,1,1,1,1,1,1],[6,0]),([0,1,1,1,1,1,1,1,1,1,1,1],[0]),([0,1,1,1,1,1,1,1,1,1,1,1,1],[6,0]),([1,1,1,1,1,1,1,1,1,1,1,1,1],[6,0])]
def E_91 (N:Nat):Env:=z14 tys glob [(53,zfm N),(52,z6e N),(50,zk7 N),(51,zfk N),(34,z7m N),(33,z52 N)] [(11,.str)] [] [0] false [] [(102,zi N),(79,zd N),(108,z8 N)]
theorem z1o0 (N:Nat):EnvOk Tryz.prog (E_91 N):=ze mixed zq (FnsOk.cons (zqp N) (FnsOk.cons (zep N) (FnsOk.cons (zve N) (FnsOk.cons (zqn N) (FnsOk.cons (zdr N) (FnsOk.cons (z8t N) (FnsOk.nil))))))) (ItsOk.cons (zj N) (ItsOk.cons (zg N) (ItsOk.cons (zb N) (ItsOk.nil))))
def z3c (N:Nat)(r_:DT0)(before:(List UInt8))(l:((List UInt8)×DT4)):Option (Bool×(DT0×Unit)):=(zaj N before).bind fun y=>(z7p N y l.2.1).bind fun y1=>cond (y1.2.1 != 0) (some (false,((r_.1,(r_.2.1,(r_.2.2.1,(r_.2.2.2.1,((IntKind.wrap IntKind.i64 (r_.2.2.2.2.1+1)),r_.2.2.2.2.2))))),()))) ((z2s N (r_.1,(r_.2.1,(r_.2.2.1,(r_.2.2.2.1,((IntKind.wrap IntKind.i64 (r_.2.2.2.2.1+1)),r_.2.2.2.2.2))))) l.1).bind fun y2=>cond (decide (y2.1<0)) (some (false,(y2.2.1,()))) (cond (inR y2.1 (List.length y2.2.1.1.2.1)) (cond (inR y2.1 (List.length y2.2.1.2.1)) (cond (decide ((Int.toNat y2.1)<(List.length y2.2.1.2.1))) ((z2t N (y2.2.1.1,((List.set y2.2.1.2.1 (Int.toNat y2.1) true),y2.2.1.2.2)) y1.1 (List.getD y2.2.1.1.2.1 (Int.toNat y2.1) ([],(([]:List ((List UInt8)×DT4)),([],()))))).bind fun y3=>(zal N y3.2.1.1.1.2.2.1 y3.1.2.1).bind fun y4=>(z8m N (List.getD y2.2.1.1.2.1 (Int.toNat y2.1) ([],(([]:List ((List UInt8)×DT4)),([],())))).2.2.1 y4).bind fun y5=>cond (!y5) (some (false,((y3.2.1.1,(y3.2.1.2.1,(y3.2.1.2.2.1,(y3.2.1.2.2.2.1,((IntKind.wrap IntKind.i64 (y3.2.1.2.2.2.2.1+1)),y3.2.1.2.2.2.2.2))))),()))) (cond (decide ((((List.length y3.2.1.2.2.1)+1)*48)<=70368744177664)) (some (true,((y3.2.1.1,(y3.2.1.2.1,((y3.2.1.2.2.1++([((List.getD y2.2.1.1.2.1 (Int.toNat y2.1) ([],(([]:List ((List UInt8)×DT4)),([],())))).2.1,(y3.1.1,()))]:List (zgq×((List (List UInt8))×Unit)))),(y3.2.1.2.2.2.1,((IntKind.wrap IntKind.i64 (y3.2.1.2.2.2.2.1+1)),y3.2.1.2.2.2.2.2))))),()))) none)) none) none) none))
def t_91 (N:Nat):Tab (Bool×(DT0×Unit)):=[]
theorem z1ah (N:Nat)(x:z1b [(0,.box TT2),(0,.v .str),(0,.v zgo)]):z2b (E_91 N) N (t_91 N) L_91 Tryz.f35 (mkS [(0,.box TT2),(0,.v .str),(0,.v zgo)] 0 x) (z7l (.v .bool) [(0,.box TT2)] 2)=z3c N x.1 x.2.1 x.2.2.1:=by kernel_rfl
def z78 (N:Nat):List A->Res:=z11 [(0,.box TT2),(0,.v .str),(0,.v zgo)] (fun x=>z3c N x.1 x.2.1 x.2.2.1) (zgd (.v .bool) [(0,.box TT2)] 2)
theorem zft (N:Nat):Contract Tryz.prog glob 35 (z78 N) :=
 Contract.of (E:=E_91 N) (H:=t_91 N) (L:=L_91) (N:=N) (body:=z1d1) (K:=(z7l (.v .bool) [(0,.box TT2)] 2)) (z1o0 N) Tryz.func35 (by kernel_rfl) (by decide) (fun _ hb=>TabOk.nil) (fun x y h=>by rw[z1ah];exact h) (z5l (s:=(.v .bool)) (os:=[(0,.box TT2)]) (m:=2))
def zvf:Code:=(Tryz.f54.body).getD .skip
def L_92:List (List Nat×List Nat):=[([0],[0,1]),([0,0,1],[8,7,1,0]),([0,1,0,1],[8,7,1,0]),([0,0,0,1,0,1],[9,8,1,0,7]),([0,1,0,0,1,0,1],[8,1,0,7]),([1,0,1,0,0,1,0,1],[]),([0,0,0,1,1,0,0,1,0,1],[1,0,5,8,7]),(z1fh,[16,5,8,7,1,0]),([1,1,0,0,1,1,0,0,1,0,1],[8,7,1,0]),([0,0,1,1,0,0,1,1,0,0,1,0,1],[4]),([1,0,1,1,0,0,1,1,0,0,1,0,1],[4]),([0,1,1,0,0,1,0,1],[8,7,1,0]),([1,1,1,0,0,1,0,1],[8,7,1,0]),([1,0,1],[]),([0,1,1],[4]),([1,1,1],[4])]
def E_92 (N:Nat):Env:=z14 tys glob [] [] [] [] false [] [(102,zi N),(79,zd N),(108,z8 N)]
theorem z1nz (N:Nat):EnvOk Tryz.prog (E_92 N):=ze mixed zq (FnsOk.nil) (ItsOk.cons (zj N) (ItsOk.cons (zg N) (ItsOk.cons (zb N) (ItsOk.nil))))
def z2m (N:Nat)(s:(List Bool))(v_:Bool)(x7:Int)(x8:Int)(rec:Int->Option Int)(k0:Int->Option Int)(k1:Option Int):Option Int:=cond (decide (x8<x7)) (cond (inR x8 (List.length s)) (cond (v_ == (List.getD s (Int.toNat x8) false)) (k0 x8) (rec (IntKind.wrap IntKind.i64 (x8+1)))) none) k1
def z4r (N:Nat)(s:(List Bool))(v_:Bool)(x7:Int)(x8:Int)(k0:Int->Option Int)(k1:Option Int):Option Int:=iter (fun (v:Int) r=>z2m N s v_ x7 v (fun x8=>(r x8)) k0 k1) N x8
def z1m5 (N:Nat)(i:((List Bool)×Bool×Int))(v:Int)(r:Int->Option Int)(K:Ex->List A->Option Int):Option Int:=z2m N i.1 i.2.1 i.2.2 v (fun x8=>(r x8)) (fun a0=>(K .ret (mkS [(4,.v (.int .i64))] 14 (a0,())))) (K (.exit 0) (mkS [] 19 ()))
def z1kc (N:Nat):Hd Int:=fun st K=>(unS [(0,.v (.sl .bool)),(0,.v .bool),(5,.v (.int .i64)),(0,.v (.int .i64))] 10 (restr [8,7,1,0] 0 st)).bind fun x=>iter (fun v r=>z1m5 N ((fun x=>(x.1,x.2.1,x.2.2.1)) x) v r K) N ((fun x=>x.2.2.2.1) x)
def t1_92 (N:Nat):Tab Int:=[]
theorem z1i5 {N:Nat}{c:Ctx}(hb:Base Tryz.prog (E_92 N) c):zw Tryz.prog c (zk zvf [0,1,0,1]) (z1kc N) :=
 z1v (s:=[(0,.v (.sl .bool)),(0,.v .bool),(5,.v (.int .i64)),(0,.v (.int .i64))]) (m:=10) (z1m5 N) [8,7,1,0] N (fun x=>(x.1,x.2.1,x.2.2.1)) (fun x=>x.2.2.2.1) (fun i v=>(i.1,i.2.1,i.2.2,v,())) (fun _=>rfl) (zf hb N (t1_92 N) L_92 zvf TabOk.nil [0,0,1,0,1] _ rfl) (fun i v r K=>by kernel_rfl)
def z24 (N:Nat)(s:(List Bool))(v_:Bool):Option Int:=z4r N s v_ (List.length s:Int) 0 (fun x4=>some x4) (some (-1))
def t_92 (N:Nat):Tab Int:=[([0,1,0,1],z1kc N)]
theorem z1ag (N:Nat)(x:z1b z1fc):z2b (E_92 N) N (t_92 N) L_92 Tryz.f54 (mkS z1fc 0 x) (z1c (.v (.int .i64)) 2)=z24 N x.1 x.2.1:=by kernel_rfl
def z47 (N:Nat):List A->Res:=z11 z1fc (fun x=>z24 N x.1 x.2.1) (z2i (.v (.int .i64)) 2)
theorem z9i (N:Nat):Contract Tryz.prog glob 54 (z47 N) :=
 Contract.of (E:=E_92 N) (H:=t_92 N) (L:=L_92) (N:=N) (body:=zvf) (K:=(z1c (.v (.int .i64)) 2)) (z1nz N) Tryz.func54 (by kernel_rfl) (by decide) (fun _ hb=>(TabOk.cons (z1i5 hb) TabOk.nil)) (fun x y h=>by rw[z1ag];exact h) (zm (s:=(.v (.int .i64))) (m:=2))
def z1d0:Code:=(Tryz.f36.body).getD .skip
def L_93:List (List Nat×List Nat):=[([0],[0,1]),([0,1],[4]),([1,1],[4])]
def E_93 (N:Nat):Env:=z14 tys glob [(54,z47 N)] [] [] [] false [] [(102,zi N),(79,zd N),(108,z8 N)]
theorem z1ny (N:Nat):EnvOk Tryz.prog (E_93 N):=ze mixed zq (FnsOk.cons (z9i N) (FnsOk.nil)) (ItsOk.cons (zj N) (ItsOk.cons (zg N) (ItsOk.cons (zb N) (ItsOk.nil))))
def z1q (N:Nat)(s:(List Bool))(v_:Bool):Option Bool:=(z24 N s v_).bind fun y=>some (decide (0<=y))
def t_93 (N:Nat):Tab Bool:=[]
theorem z1af (N:Nat)(x:z1b z1fc):z2b (E_93 N) N (t_93 N) L_93 Tryz.f36 (mkS z1fc 0 x) (z1c (.v .bool) 2)=z1q N x.1 x.2.1:=by kernel_rfl
def z3e (N:Nat):List A->Res:=z11 z1fc (fun x=>z1q N x.1 x.2.1) (z2i (.v .bool) 2)
theorem z7i (N:Nat):Contract Tryz.prog glob 36 (z3e N) :=
 Contract.of (E:=E_93 N) (H:=t_93 N) (L:=L_93) (N:=N) (body:=z1d0) (K:=(z1c (.v .bool) 2)) (z1ny N) Tryz.func36 (by kernel_rfl) (by decide) (fun _ hb=>TabOk.nil) (fun x y h=>by rw[z1af];exact h) (zm (s:=(.v .bool)) (m:=2))
def zbw:Code:=(Tryz.f18.body).getD .skip
def z1fi:List (List Nat×List Nat):=[([0],[0,1]),([0,0,1],[0,6,5]),([0,0,1,0,1],[31,0,5]),([1,0,1,0,1],[0,5]),([0,0,1,0,1,0,1],[4,0]),([1,0,1,0,1,0,1],[4,0]),([0,1,1,0,1],[0]),([0,1,1,1,0,1],[0,7]),([0,0,1,1,1,1,1,0,1],[8,0,7]),([0,1,0,1,1,1,1,1,0,1],[8,0,7]),([0,0,0,0,1,0,1,1,1,1,1,0,1],[50,0,8,7]),([1,0,0,0,1,0,1,1,1,1,1,0,1],[0,8,7]),([1,1,0,0,0,1,0,1,1,1,1,1,0,1],[7,0]),([0,0,0,1,0,0,1,0,1,1,1,1,1,0,1],[9,0,8,7]),([0,1,0,0,1,0,0,1,0,1,1,1,1,1,0,1],z16p),(PQ60,z16p),([0,0,0,1,1,0,0,1,0,0,1,0,1,1,1,1,1,0,1],[64,63,61,0,62,9,8,7]),([0,1,0,0,1,1,0,0,1,0,0,1,0,1,1,1,1,1,0,1],[63,61,0,62,9,8,7]),([1,0,1,0,0,1,1,0,0,1,0,0,1,0,1,1,1,1,1,0,1],[8,0,7]),([0,0,0,1,1,0,0,1,1,0,0,1,0,0,1,0,1,1,1,1,1,0,1],[11,0,63,62,61,9,8,7,10]),([0,0,1,0,0,1,1,0,0,1,1,0,0,1,0,0,1,0,1,1,1,1,1,0,1],[69,0,11,63,62,61,9,8,7,10]),([1,0,1,0,0,1,1,0,0,1,1,0,0,1,0,0,1,0,1,1,1,1,1,0,1],[0,9,10,11,63,62,61,8,7]),([0,0,1,0,1,0,0,1,1,0,0,1,1,0,0,1,0,0,1,0,1,1,1,1,1,0,1],z16p),([1,0,1,0,1,0,0,1,1,0,0,1,1,0,0,1,0,0,1,0,1,1,1,1,1,0,1],z16p),([0,1,1,0,0,1,1,0,0,1,1,0,0,1,0,0,1,0,1,1,1,1,1,0,1],[89,0,63,62,61,9,8,7]),([1,1,1,0,0,1,1,0,0,1,1,0,0,1,0,0,1,0,1,1,1,1,1,0,1],z16p),([0,0,1,1,1,0,0,1,1,0,0,1,1,0,0,1,0,0,1,0,1,1,1,1,1,0,1],[7,0]),([1,0,1,1,1,0,0,1,1,0,0,1,1,0,0,1,0,0,1,0,1,1,1,1,1,0,1],[7,0]),([0,1,1,0,0,1,1,0,0,1,0,0,1,0,1,1,1,1,1,0,1],z16p),([1,1,1,0,0,1,1,0,0,1,0,0,1,0,1,1,1,1,1,0,1],z16p),([1,1,0,0,1,0,0,1,0,1,1,1,1,1,0,1],[8,0,7]),([0,1,0,0,1,0,1,1,1,1,1,0,1],[8,0,7]),([1,1,0,0,1,0,1,1,1,1,1,0,1],[8,0,7]),([1,0,1,1,1,1,1,0,1],[7,0]),(PQ74,[99,0]),([1,0,1,1,1,1,1,1,0,1],[0]),([0,0,1,0,1,1,1,1,1,1,0,1],[4,0]),([1,0,1,0,1,1,1,1,1,1,0,1],[4,0]),([0,1,1,1,1,1,1,1,0,1],[4,0]),([1,1,1,1,1,1,1,1,0,1],[4,0]),([1],[4,0])]
def z1et (N:Nat):Env:=z14 tys glob [(36,z3e N),(35,z78 N),(21,z99 N),(34,z7m N),(33,z52 N)] [(5,.str)] [] [0] false [(98,.unit)] [(102,zi N),(79,zd N),(108,z8 N)]
theorem z1nx (N:Nat):EnvOk Tryz.prog (z1et N):=ze mixed zq (FnsOk.cons (z7i N) (FnsOk.cons (zft N) (FnsOk.cons (zgt N) (FnsOk.cons (zdr N) (FnsOk.cons (z8t N) (FnsOk.nil)))))) (ItsOk.cons (zj N) (ItsOk.cons (zg N) (ItsOk.cons (zb N) (ItsOk.nil))))
def z49 (N:Nat)(complete:Bool)(i:Int)(t:(zgq×((List (List UInt8))×Unit)))(x61:zgq)(x62:Int)(r_:DT0)(x63:Int)(rec:DT0->Int->Option (Int×(DT0×Unit)))(k0:DT0->Bool->Option (Int×(DT0×Unit)))(k1:DT0->Option (Int×(DT0×Unit))):Option (Int×(DT0×Unit)):=cond (decide (x63<x62)) (cond (inR x63 (List.length x61)) (cond (eqD (T.pair T.str (T.pair T.str T.unit)) (List.getD x61 (Int.toNat x63) ([],([],()))) ((List.getD x61 (Int.toNat x63) ([],([],()))).1,([],()))) (cond (decide ((((List.length r_.2.2.2.1)+1)*16)<=70368744177664)) (rec (r_.1,(r_.2.1,(r_.2.2.1,((r_.2.2.2.1++([(List.getD x61 (Int.toNat x63) ([],([],()))).1]:List (List UInt8))),r_.2.2.2.2)))) (IntKind.wrap IntKind.i64 (x63+1))) none) (cond (inR x63 (List.length t.2.1)) ((z3c N r_ (List.getD t.2.1 (Int.toNat x63) []) (List.getD x61 (Int.toNat x63) ([],([],())))).bind fun y=>cond (!y.1) (k0 y.2.1 false) (rec y.2.1 (IntKind.wrap IntKind.i64 (x63+1)))) none)) none) (k1 r_)
def z2q (N:Nat)(r_:DT0)(complete:Bool)(i:Int)(t:(zgq×((List (List UInt8))×Unit)))(x61:zgq)(x62:Int)(x63:Int)(k0:DT0->Bool->Option (Int×(DT0×Unit)))(k1:DT0->Option (Int×(DT0×Unit))):Option (Int×(DT0×Unit)):=iter (fun (v:(DT0×Int)) r=>z49 N complete i t x61 x62 v.1 v.2 (fun r_ x63=>(r (r_,x63))) k0 k1) N (r_,x63)
def z1li (N:Nat)(i:(Bool×Int×(zgq×((List (List UInt8))×Unit))×zgq×Int))(v:(DT0×Int))(r:(DT0×Int)->Option (Int×(DT0×Unit)))(K:Ex->List A->Option (Int×(DT0×Unit))):Option (Int×(DT0×Unit)):=z49 N i.1 i.2.1 i.2.2.1 i.2.2.2.1 i.2.2.2.2 v.1 v.2 (fun r_ x63=>(r (r_,x63))) (fun a0 a1=>(K (.exit 0) (mkS z16n 92 (a0,a1,())))) (fun a0=>(K (.exit 2) (mkS SQ59 91 (a0,i.1,i.2.1,()))))
def z1jp (N:Nat):Hd (Int×(DT0×Unit)):=fun st K=>(unS SQ10 36 (restr z16p 0 st)).bind fun x=>iter (fun v r=>z1li N ((fun x=>(x.2.1,x.2.2.1,x.2.2.2.1,x.2.2.2.2.1,x.2.2.2.2.2.1)) x) v r K) N ((fun x=>(x.1,x.2.2.2.2.2.2.1)) x)
def t3_94 (N:Nat):Tab (Int×(DT0×Unit)):=[]
theorem z1hi {N:Nat}{c:Ctx}(hb:Base Tryz.prog (z1et N) c):zw Tryz.prog c (zk zbw PQ60) (z1jp N) :=
 z1v (s:=SQ10) (m:=36) (z1li N) z16p N (fun x=>(x.2.1,x.2.2.1,x.2.2.2.1,x.2.2.2.2.1,x.2.2.2.2.2.1)) (fun x=>(x.1,x.2.2.2.2.2.2.1)) (fun i v=>(v.1,i.1,i.2.1,i.2.2.1,i.2.2.2.1,i.2.2.2.2,v.2,())) (fun _=>rfl) (zf hb N (t3_94 N) z1fi zbw TabOk.nil [0,0,1,1,0,0,1,0,0,1,0,1,1,1,1,1,0,1] _ rfl) (fun i v r K=>by kernel_rfl)
def z4a (N:Nat)(complete:Bool)(r_:DT0)(i:Int)(rec:DT0->Int->Option (Int×(DT0×Unit)))(k0:DT0->Bool->Option (Int×(DT0×Unit))):Option (Int×(DT0×Unit)):=cond (decide (i<(List.length r_.2.2.1:Int))) (cond (inR i (List.length r_.2.2.1)) (cond (decide ((Int.toNat i)<(List.length r_.2.2.1))) (z2q N r_ complete i (List.getD r_.2.2.1 (Int.toNat i) (([]:List ((List UInt8)×DT4)),([],()))) (List.getD r_.2.2.1 (Int.toNat i) (([]:List ((List UInt8)×DT4)),([],()))).1 (((List.length (List.getD r_.2.2.1 (Int.toNat i) (([]:List ((List UInt8)×DT4)),([],()))).1):Nat):Int) 0 (fun r_1 complete1=>k0 r_1 complete1) (fun r_2=>rec r_2 (IntKind.wrap IntKind.i64 (i+1)))) none) none) (k0 r_ complete)
def z4c (N:Nat)(r_:DT0)(complete:Bool)(i:Int)(k0:DT0->Bool->Option (Int×(DT0×Unit))):Option (Int×(DT0×Unit)):=iter (fun (v:(DT0×Int)) r=>z4a N complete v.1 v.2 (fun r_ i=>(r (r_,i))) k0) N (r_,i)
def z1lo (N:Nat)(i:Bool)(v:(DT0×Int))(r:(DT0×Int)->Option (Int×(DT0×Unit)))(K:Ex->List A->Option (Int×(DT0×Unit))):Option (Int×(DT0×Unit)):=z4a N i v.1 v.2 (fun r_ i=>(r (r_,i))) (fun a0 a1=>(K (.exit 0) (mkS z16n 92 (a0,a1,()))))
def z1jv (N:Nat):Hd (Int×(DT0×Unit)):=fun st K=>(unS SQ59 91 (restr [8,0,7] 0 st)).bind fun x=>iter (fun v r=>z1lo N ((fun x=>x.2.1) x) v r K) N ((fun x=>(x.1,x.2.2.1)) x)
def t2_94 (N:Nat):Tab (Int×(DT0×Unit)):=[(PQ60,z1jp N)]
theorem z1ho {N:Nat}{c:Ctx}(hb:Base Tryz.prog (z1et N) c):zw Tryz.prog c (zk zbw [0,1,0,1,1,1,1,1,0,1]) (z1jv N) :=
 z1v (s:=SQ59) (m:=91) (z1lo N) [8,0,7] N (fun x=>x.2.1) (fun x=>(x.1,x.2.2.1)) (fun i v=>(v.1,i,v.2,())) (fun _=>rfl) (zf hb N (t2_94 N) z1fi zbw (TabOk.cons (z1hi hb) TabOk.nil) [0,0,1,0,1,1,1,1,1,0,1] _ rfl) (fun i v r K=>by kernel_rfl)
def z4d (N:Nat)(r_:DT0)(complete:Bool)(k0:DT0->Bool->Option (Int×(DT0×Unit))):Option (Int×(DT0×Unit)):=z4c N r_ complete 0 (fun r_1 complete1=>k0 r_1 complete1)
def z1m4 (N:Nat)(x:z1b z16n)(K:Ex->List A->Option (Int×(DT0×Unit))):Option (Int×(DT0×Unit)):=z4d N x.1 x.2.1 (fun a0 a1=>(K .normal (mkS z16n 92 (a0,a1,()))))
def z1kb (N:Nat):Hd (Int×(DT0×Unit)):=fun st K=>(unS z16n 92 (restr [0,7] 0 st)).bind fun x=>z1m4 N x K
def t1_94 (N:Nat):Tab (Int×(DT0×Unit)):=[([0,1,0,1,1,1,1,1,0,1],z1jv N)]
theorem z1i4 {N:Nat}{c:Ctx}(hb:Base Tryz.prog (z1et N) c):zw Tryz.prog c (zk zbw [0,1,1,1,1,1,0,1]) (z1kb N) :=
 z13 (s:=z16n) (m:=92) (g:=z1m4 N) [0,7] (zf hb N (t1_94 N) z1fi zbw (TabOk.cons (z1ho hb) TabOk.nil) [0,1,1,1,1,1,0,1] _ rfl) (fun x K=>by kernel_rfl)
def z4b (N:Nat)(r_:DT0)(complete:Bool)(k0:Bool->Option (Int×(DT0×Unit))):Option (Int×(DT0×Unit)):=cond (!complete) (k0 true) ((z1q N r_.2.1 false).bind fun y=>k0 y)
def z1ld (N:Nat)(x:z1b z16n)(K:Ex->List A->Option (Int×(DT0×Unit))):Option (Int×(DT0×Unit)):=z4b N x.1 x.2.1 (fun a1=>(K .normal (mkS [(0,.box TT2),(98,.v .bool)] 0 (x.1,a1,()))))
def z1jk (N:Nat):Hd (Int×(DT0×Unit)):=fun st K=>(unS z16n 92 (restr [7,0] 0 st)).bind fun x=>z1ld N x K
def t4_94 (N:Nat):Tab (Int×(DT0×Unit)):=[]
theorem z1hd {N:Nat}{c:Ctx}(hb:Base Tryz.prog (z1et N) c):zw Tryz.prog c (zk zbw PQ74) (z1jk N) :=
 z13 (s:=z16n) (m:=92) (g:=z1ld N) [7,0] (zf hb N (t4_94 N) z1fi zbw TabOk.nil PQ74 _ rfl) (fun x K=>by kernel_rfl)
def z2r (N:Nat)(r_:DT0)(key:(List UInt8)):Option (Int×(DT0×Unit)):=(z2t N r_ key r_.1.1).bind fun y=>(z8m N y.2.1.1.1.2.2.1 y.1.2.1).bind fun y1=>cond (!y1) (some (8,(y.2.1,()))) (z4d N (y.2.1.1,(y.2.1.2.1,(([(y.2.1.1.1.2.1,(y.1.1,()))]:List (zgq×((List (List UInt8))×Unit))),y.2.1.2.2.2))) true (fun r_1 complete=>z4b N r_1 complete (fun x99=>cond x99 (some (11,(r_1,()))) (some (0,(r_1,()))))))
def t_94 (N:Nat):Tab (Int×(DT0×Unit)):=[([0,1,1,1,1,1,0,1],z1kb N),(PQ74,z1jk N)]
theorem z1ae (N:Nat)(x:z1b z1fa):z2b (z1et N) N (t_94 N) z1fi Tryz.f18 (mkS z1fa 0 x) (z7l (.v (.int .i64)) [(0,.box TT2)] 1)=z2r N x.1 x.2.1:=by kernel_rfl
def z6d (N:Nat):List A->Res:=z11 z1fa (fun x=>z2r N x.1 x.2.1) (zgd (.v (.int .i64)) [(0,.box TT2)] 1)
theorem zeo (N:Nat):Contract Tryz.prog glob 18 (z6d N) :=
 Contract.of (E:=z1et N) (H:=t_94 N) (L:=z1fi) (N:=N) (body:=zbw) (K:=(z7l (.v (.int .i64)) [(0,.box TT2)] 1)) (z1nx N) Tryz.func18 (by kernel_rfl) (by decide) (fun _ hb=>(TabOk.cons (z1i4 hb) (TabOk.cons (z1hd hb) TabOk.nil))) (fun x y h=>by rw[z1ae];exact h) (z5l (s:=(.v (.int .i64))) (os:=[(0,.box TT2)]) (m:=1))
def z1cz:Code:=(Tryz.f7.body).getD .skip
def L_95:List (List Nat×List Nat):=[([0],[3,0]),([0,0,1],[8,3,0]),([1,0,1],[3,0]),([0,0,1,0,1],[4]),([1,0,1,0,1],[4]),([0,1,1],[5,0]),([0,1,1,1],[5]),([0,1,1,1,1],[4]),([1,1,1,1,1],[4])]
def E_95 (N:Nat):Env:=z14 tys glob [(18,z6d N),(17,z9v N),(16,z9u N)] [] [] [] false [] [(102,zi N),(79,zd N),(108,z8 N)]
theorem z1nw (N:Nat):EnvOk Tryz.prog (E_95 N):=ze mixed zq (FnsOk.cons (zeo N) (FnsOk.cons (zkd N) (FnsOk.cons (zkc N) (FnsOk.nil)))) (ItsOk.cons (zj N) (ItsOk.cons (zg N) (ItsOk.cons (zb N) (ItsOk.nil))))
def z7x (N:Nat)(key:(List UInt8))(b:(DT6×((List DT6)×Unit))):Option Int:=(z5e N b).bind fun y=>cond (!y) (some 0) ((z3v N b).bind fun y1=>(z2r N y1 key).bind fun y2=>some y2.2.1.2.2.2.2.1)
def t_95 (N:Nat):Tab Int:=[]
theorem z1ad (N:Nat)(x:z1b z1f9):z2b (E_95 N) N (t_95 N) L_95 Tryz.f7 (mkS z1f9 0 x) (z1c (.v (.int .i64)) 2)=z7x N x.1 x.2.1:=by kernel_rfl
def zcp (N:Nat):List A->Res:=z11 z1f9 (fun x=>z7x N x.1 x.2.1) (z2i (.v (.int .i64)) 2)
theorem znh (N:Nat):Contract Tryz.prog glob 7 (zcp N) :=
 Contract.of (E:=E_95 N) (H:=t_95 N) (L:=L_95) (N:=N) (body:=z1cz) (K:=(z1c (.v (.int .i64)) 2)) (z1nw N) Tryz.func7 (by kernel_rfl) (by decide) (fun _ hb=>TabOk.nil) (fun x y h=>by rw[z1ad];exact h) (zm (s:=(.v (.int .i64))) (m:=2))
def zn0:Code:=(Tryz.f9.body).getD .skip
def L_96:List (List Nat×List Nat):=[([0],[1]),([0,1],[1,3]),([0,0,1,1],[14,13,12,3]),([0,1,0,1,1],[14,13,12,3]),(z13i,[15,12,14,3,13]),(zzg,[12,14,3,13]),(z13j,[3]),(z16s,[3,5,14,13,12]),(z1ee,[5,3,14,13,12]),([0,1,1,0,0,1,1,0,0,1,0,1,1],z18a),(PQ71,z18a),([0,0,0,1,1,1,0,0,1,1,0,0,1,0,1,1],[28,25,27,3,26,14,13,12]),([0,1,0,0,1,1,1,0,0,1,1,0,0,1,0,1,1],[25,27,3,26,14,13,12]),([1,0,1,0,0,1,1,1,0,0,1,1,0,0,1,0,1,1],[14,13,12,3]),([0,0,0,1,1,0,0,1,1,1,0,0,1,1,0,0,1,0,1,1],[7,3,27,26,25,14,13,12]),([0,1,0,0,1,1,0,0,1,1,1,0,0,1,1,0,0,1,0,1,1],[33,3,27,26,25,14,13,12]),([1,1,0,0,1,1,0,0,1,1,1,0,0,1,1,0,0,1,0,1,1],z18a),([0,1,1,0,0,1,1,0,0,1,1,1,0,0,1,1,0,0,1,0,1,1],z18a),([0,1,1,0,0,1,1,1,0,0,1,1,0,0,1,0,1,1],z18a),([1,1,1,0,0,1,1,1,0,0,1,1,0,0,1,0,1,1],z18a),([1,1,1,0,0,1,1,0,0,1,0,1,1],[14,13,12,3]),(z16r,[14,13,12,3]),(z16q,[14,13,12,3]),([1,0,1,1],[3]),([0,1,1,1],[2]),([1,1,1,1],[2])]
def z1q0 (N:Nat):Env:=z14 tys glob [(21,z99 N),(20,z5w N)] [] [] [] false [] [(102,zi N),(79,zd N),(108,z8 N)]
theorem z1nv (N:Nat):EnvOk Tryz.prog (z1q0 N):=ze mixed zq (FnsOk.cons (zgt N) (FnsOk.cons (zc2 N) (FnsOk.nil))) (ItsOk.cons (zj N) (ItsOk.cons (zg N) (ItsOk.cons (zb N) (ItsOk.nil))))
def z9a (N:Nat)(x12:(List DT6))(x13:Int)(x14:Int)(x25:zgq)(x26:Int)(most:Int)(x27:Int)(rec:Int->Int->Option Int)(k0:Int->Option Int):Option Int:=cond (decide (x27<x26)) (cond (inR x27 (List.length x25)) (cond (!(eqD (T.pair T.str (T.pair T.str T.unit)) (List.getD x25 (Int.toNat x27) ([],([],()))) ((List.getD x25 (Int.toNat x27) ([],([],()))).1,([],())))) (rec (IntKind.wrap IntKind.i64 (most+1)) (IntKind.wrap IntKind.i64 (x27+1))) (rec most (IntKind.wrap IntKind.i64 (x27+1)))) none) (k0 most)
def z9c (N:Nat)(most:Int)(x12:(List DT6))(x13:Int)(x14:Int)(x25:zgq)(x26:Int)(x27:Int)(k0:Int->Option Int):Option Int:=iter (fun (v:(Int×Int)) r=>z9a N x12 x13 x14 x25 x26 v.1 v.2 (fun most x27=>(r (most,x27))) k0) N (most,x27)
def z1ln (N:Nat)(i:((List DT6)×Int×Int×zgq×Int))(v:(Int×Int))(r:(Int×Int)->Option Int)(K:Ex->List A->Option Int):Option Int:=z9a N i.1 i.2.1 i.2.2.1 i.2.2.2.1 i.2.2.2.2 v.1 v.2 (fun most x27=>(r (most,x27))) (fun a0=>(K (.exit 2) (mkS SQ27 24 (a0,i.1,i.2.1,i.2.2.1,()))))
def z1ju (N:Nat):Hd Int:=fun st K=>(unS SQ15 11 (restr z18a 0 st)).bind fun x=>iter (fun v r=>z1ln N ((fun x=>(x.2.1,x.2.2.1,x.2.2.2.1,x.2.2.2.2.1,x.2.2.2.2.2.1)) x) v r K) N ((fun x=>(x.1,x.2.2.2.2.2.2.1)) x)
def t2_96 (N:Nat):Tab Int:=[]
theorem z1hn {N:Nat}{c:Ctx}(hb:Base Tryz.prog (z1q0 N) c):zw Tryz.prog c (zk zn0 PQ71) (z1ju N) :=
 z1v (s:=SQ15) (m:=11) (z1ln N) z18a N (fun x=>(x.2.1,x.2.2.1,x.2.2.2.1,x.2.2.2.2.1,x.2.2.2.2.2.1)) (fun x=>(x.1,x.2.2.2.2.2.2.1)) (fun i v=>(v.1,i.1,i.2.1,i.2.2.1,i.2.2.2.1,i.2.2.2.2,v.2,())) (fun _=>rfl) (zf hb N (t2_96 N) L_96 zn0 TabOk.nil [0,0,1,1,1,0,0,1,1,0,0,1,0,1,1] _ rfl) (fun i v r K=>by kernel_rfl)
def z9b (N:Nat)(x12:(List DT6))(x13:Int)(most:Int)(x14:Int)(rec:Int->Int->Option Int)(k0:Int->Option Int):Option Int:=cond (decide (x14<x13)) (cond (inR x14 (List.length x12)) (z9c N (IntKind.wrap IntKind.i64 (most+(IntKind.wrap IntKind.i64 ((((List.length (List.getD x12 (Int.toNat x14) ([],(([]:List ((List UInt8)×DT4)),([],())))).2.1):Nat):Int)+1)))) x12 x13 x14 (List.getD x12 (Int.toNat x14) ([],(([]:List ((List UInt8)×DT4)),([],())))).2.1 (((List.length (List.getD x12 (Int.toNat x14) ([],(([]:List ((List UInt8)×DT4)),([],())))).2.1):Nat):Int) 0 (fun most1=>rec most1 (IntKind.wrap IntKind.i64 (x14+1)))) none) (k0 most)
def z9d (N:Nat)(most:Int)(x12:(List DT6))(x13:Int)(x14:Int)(k0:Int->Option Int):Option Int:=iter (fun (v:(Int×Int)) r=>z9b N x12 x13 v.1 v.2 (fun most x14=>(r (most,x14))) k0) N (most,x14)
def z1m3 (N:Nat)(i:((List DT6)×Int))(v:(Int×Int))(r:(Int×Int)->Option Int)(K:Ex->List A->Option Int):Option Int:=z9b N i.1 i.2 v.1 v.2 (fun most x14=>(r (most,x14))) (fun a0=>(K (.exit 0) (mkS [(3,.v (.int .i64))] 35 (a0,()))))
def z1ka (N:Nat):Hd Int:=fun st K=>(unS SQ27 24 (restr [14,13,12,3] 0 st)).bind fun x=>iter (fun v r=>z1m3 N ((fun x=>(x.2.1,x.2.2.1)) x) v r K) N ((fun x=>(x.1,x.2.2.2.1)) x)
def t1_96 (N:Nat):Tab Int:=[(PQ71,z1ju N)]
theorem z1i3 {N:Nat}{c:Ctx}(hb:Base Tryz.prog (z1q0 N) c):zw Tryz.prog c (zk zn0 [0,1,0,1,1]) (z1ka N) :=
 z1v (s:=SQ27) (m:=24) (z1m3 N) [14,13,12,3] N (fun x=>(x.2.1,x.2.2.1)) (fun x=>(x.1,x.2.2.2.1)) (fun i v=>(v.1,i.1,i.2,v.2,())) (fun _=>rfl) (zf hb N (t1_96 N) L_96 zn0 (TabOk.cons (z1hn hb) TabOk.nil) [0,0,1,0,1,1] _ rfl) (fun i v r K=>by kernel_rfl)
def z7y (N:Nat)(b:(DT6×((List DT6)×Unit))):Option Int:=(z3u N b).bind fun y=>z9d N (List.length b.2.1:Int) y (List.length y:Int) 0 (fun most=>some most)
def t_96 (N:Nat):Tab Int:=[([0,1,0,1,1],z1ka N)]
theorem z1ac (N:Nat)(x:z1b [(0,.v zfq)]):z2b (z1q0 N) N (t_96 N) L_96 Tryz.f9 (mkS [(0,.v zfq)] 0 x) (z1c (.v (.int .i64)) 1)=z7y N x.1:=by kernel_rfl
def zcq (N:Nat):List A->Res:=z11 [(0,.v zfq)] (fun x=>z7y N x.1) (z2i (.v (.int .i64)) 1)
theorem zni (N:Nat):Contract Tryz.prog glob 9 (zcq N) :=
 Contract.of (E:=z1q0 N) (H:=t_96 N) (L:=L_96) (N:=N) (body:=zn0) (K:=(z1c (.v (.int .i64)) 1)) (z1nv N) Tryz.func9 (by kernel_rfl) (by decide) (fun _ hb=>(TabOk.cons (z1i3 hb) TabOk.nil)) (fun x y h=>by rw[z1ac];exact h) (zm (s:=(.v (.int .i64))) (m:=1))
def z1cy:Code:=(Tryz.f19.body).getD .skip
def L_97:List (List Nat×List Nat):=[([0],[1,0]),([0,0,1],[7,0,1]),([1,0,1],[0,1]),([0,0,1,0,1],[4]),([1,0,1,0,1],[4]),([0,1,1],[0,1,5]),([0,0,1,1,1],[14,5]),([1,0,1,1,1],[5]),(z1ea,[4]),([1,0,1,0,1,1,1],[4]),([0,1,1,1,1],[4]),([1,1,1,1,1],[4])]
def E_97 (N:Nat):Env:=z14 tys glob [] [] [] [] false [] [(102,zi N),(79,zd N),(108,z8 N)]
theorem z1nu (N:Nat):EnvOk Tryz.prog (E_97 N):=ze mixed zq (FnsOk.nil) (ItsOk.cons (zj N) (ItsOk.cons (zg N) (ItsOk.cons (zb N) (ItsOk.nil))))
def zu7 (N:Nat)(a:Int)(b:Int):Option Int:=cond (decide (b<1)) (some 0) (cond (b == 0) none (cond (b == 0) none (cond (decide ((Int.tmod a b)<0)) (some (IntKind.wrap IntKind.i64 ((IntKind.wrap IntKind.i64 (Int.tdiv a b)) - 1))) (some (IntKind.wrap IntKind.i64 (Int.tdiv a b))))))
def t_97 (N:Nat):Tab Int:=[]
theorem z1ab (N:Nat)(x:z1b SQ0):z2b (E_97 N) N (t_97 N) L_97 Tryz.f19 (mkS SQ0 0 x) (z1c (.v (.int .i64)) 2)=zu7 N x.1 x.2.1:=by kernel_rfl
def zlp (N:Nat):List A->Res:=z11 SQ0 (fun x=>zu7 N x.1 x.2.1) (z2i (.v (.int .i64)) 2)
theorem zy4 (N:Nat):Contract Tryz.prog glob 19 (zlp N) :=
 Contract.of (E:=E_97 N) (H:=t_97 N) (L:=L_97) (N:=N) (body:=z1cy) (K:=(z1c (.v (.int .i64)) 2)) (z1nu N) Tryz.func19 (by kernel_rfl) (by decide) (fun _ hb=>TabOk.nil) (fun x y h=>by rw[z1ab];exact h) (zm (s:=(.v (.int .i64))) (m:=2))
def z1cx:Code:=(Tryz.f8.body).getD .skip
def L_98:List (List Nat×List Nat):=[([0],[0]),([0,1],[2]),([1,1],[2])]
def E_98 (N:Nat):Env:=z14 tys glob [(19,zlp N)] [] [] [] false [] [(102,zi N),(79,zd N),(108,z8 N)]
theorem z1nt (N:Nat):EnvOk Tryz.prog (E_98 N):=ze mixed zq (FnsOk.cons (zy4 N) (FnsOk.nil)) (ItsOk.cons (zj N) (ItsOk.cons (zg N) (ItsOk.cons (zb N) (ItsOk.nil))))
def zpa (N:Nat)(bytes:Int):Option Int:=(zu7 N (if (0 > bytes) then 0 else bytes) 2).bind fun y=>some y
def t_98 (N:Nat):Tab Int:=[]
theorem z1aa (N:Nat)(x:z1b [(0,.v (.int .i64))]):z2b (E_98 N) N (t_98 N) L_98 Tryz.f8 (mkS [(0,.v (.int .i64))] 0 x) (z1c (.v (.int .i64)) 1)=zpa N x.1:=by kernel_rfl
def z9r (N:Nat):List A->Res:=z11 [(0,.v (.int .i64))] (fun x=>zpa N x.1) (z2i (.v (.int .i64)) 1)
theorem zia (N:Nat):Contract Tryz.prog glob 8 (z9r N) :=
 Contract.of (E:=E_98 N) (H:=t_98 N) (L:=L_98) (N:=N) (body:=z1cx) (K:=(z1c (.v (.int .i64)) 1)) (z1nt N) Tryz.func8 (by kernel_rfl) (by decide) (fun _ hb=>TabOk.nil) (fun x y h=>by rw[z1aa];exact h) (zm (s:=(.v (.int .i64))) (m:=1))
def z6b:Code:=(Tryz.f10.body).getD .skip
def z18c:List (List Nat×List Nat):=[([0],[1]),([0,0,1],[20,1]),([1,0,1],[1]),([0,0,1,0,1],[2]),([1,0,1,0,1],[2]),([0,1,1],[1,3]),([0,0,1,1,1],[4,1,3]),([0,1,0,1,1,1],[4,1,3]),([0,0,0,0,1,0,1,1,1],[25,1,4,3]),([1,0,0,0,1,0,1,1,1],[1,4,3]),([1,1,0,0,0,1,0,1,1,1],[3]),(PQ65,[45,3,1,4]),([1,0,0,0,1,0,0,1,0,1,1,1],[3,1,4]),([0,0,1,0,0,0,1,0,0,1,0,1,1,1],[2]),([1,0,1,0,0,0,1,0,0,1,0,1,1,1],[2]),([1,0,0,1,0,0,1,0,1,1,1],[4,1,3]),(z18b,[4,1,3]),([1,1,0,0,1,0,1,1,1],[4,1,3]),([1,0,1,1,1],[3]),([0,1,1,1,1],[2]),([1,1,1,1,1],[2])]
def z16u (N:Nat):Env:=z14 tys glob [] [] [] [] false [] [(102,zi N),(79,zd N),(108,z8 N)]
theorem z1ns (N:Nat):EnvOk Tryz.prog (z16u N):=ze mixed zq (FnsOk.nil) (ItsOk.cons (zj N) (ItsOk.cons (zg N) (ItsOk.cons (zb N) (ItsOk.nil))))
def z4o (N:Nat)(t:DT6)(k0:Bool->Option Bool):Option Bool:=cond (decide (4200<(List.length t.1:Int))) (k0 true) (cond (decide (100<(List.length t.2.2.1:Int))) (k0 true) (k0 (decide (70<(List.length t.2.1:Int)))))
def z1lm (N:Nat)(x:z1b [(1,.box TT1)])(K:Ex->List A->Option Bool):Option Bool:=z4o N x.1 (fun a1=>(K .normal (mkS [(1,.box TT1),(18,.v .bool)] 44 (x.1,a1,()))))
def z1jt (N:Nat):Hd Bool:=fun st K=>(unS [(1,.box TT1)] 63 (restr [1] 0 st)).bind fun x=>z1lm N x K
def t2_99 (N:Nat):Tab Bool:=[]
theorem z1hm {N:Nat}{c:Ctx}(hb:Base Tryz.prog (z16u N) c):zw Tryz.prog c (zk z6b [0,0,1]) (z1jt N) :=
 z13 (s:=[(1,.box TT1)]) (m:=63) (g:=z1lm N) [1] (zf hb N (t2_99 N) z18c z6b TabOk.nil [0,0,1] _ rfl) (fun x K=>by kernel_rfl)
def z4p (N:Nat)(t:DT6)(k0:Bool->Option Bool)(k1:Option Bool):Option Bool:=z4o N t (fun x20=>cond x20 (k0 true) k1)
def z1m2 (N:Nat)(x:z1b [(1,.box TT1)])(K:Ex->List A->Option Bool):Option Bool:=z4p N x.1 (fun a0=>(K .ret (mkS [(2,.v .bool)] 62 (a0,())))) (K .normal (mkS [(1,.box TT1)] 63 (x.1,())))
def z1k9 (N:Nat):Hd Bool:=fun st K=>(unS [(1,.box TT1)] 63 (restr [1] 0 st)).bind fun x=>z1m2 N x K
def t1_99 (N:Nat):Tab Bool:=[([0,0,1],z1jt N)]
theorem z1i2 {N:Nat}{c:Ctx}(hb:Base Tryz.prog (z16u N) c):zw Tryz.prog c (zk z6b [0,1]) (z1k9 N) :=
 z13 (s:=[(1,.box TT1)]) (m:=63) (g:=z1m2 N) [1] (zf hb N (t1_99 N) z18c z6b (TabOk.cons (z1hm hb) TabOk.nil) [0,1] _ rfl) (fun x K=>by kernel_rfl)
def z4l (N:Nat)(t:DT6)(all:Int)(i:Int)(k0:Bool->Option Bool):Option Bool:=cond (inR i (List.length t.2.1)) (cond (decide (4200<(List.length (List.getD t.2.1 (Int.toNat i) ([],([],()))).1:Int))) (k0 true) (cond (inR i (List.length t.2.1)) (k0 (decide (4200<(List.length (List.getD t.2.1 (Int.toNat i) ([],([],()))).2.1:Int)))) none)) none
def z1la (N:Nat)(x:z1b SQ2)(K:Ex->List A->Option Bool):Option Bool:=z4l N x.1 x.2.1 x.2.2.1 (fun a3=>(K .normal (mkS [(1,.box TT1),(1,.v (.int .i64)),(0,.v (.int .i64)),(40,.v .bool)] 19 (x.1,x.2.1,x.2.2.1,a3,()))))
def z1jh (N:Nat):Hd Bool:=fun st K=>(unS SQ2 60 (restr [1,4,3] 0 st)).bind fun x=>z1la N x K
def t6_99 (N:Nat):Tab Bool:=[]
theorem z1ha {N:Nat}{c:Ctx}(hb:Base Tryz.prog (z16u N) c):zw Tryz.prog c (zk z6b PQ65) (z1jh N) :=
 z13 (s:=SQ2) (m:=60) (g:=z1la N) [1,4,3] (zf hb N (t6_99 N) z18c z6b TabOk.nil PQ65 _ rfl) (fun x K=>by kernel_rfl)
def z4m (N:Nat)(t:DT6)(all:Int)(i:Int)(k0:Bool->Option Bool)(k1:Option Bool):Option Bool:=z4l N t all i (fun x45=>cond x45 (k0 true) k1)
def z1lb (N:Nat)(x:z1b SQ2)(K:Ex->List A->Option Bool):Option Bool:=z4m N x.1 x.2.1 x.2.2.1 (fun a0=>(K .ret (mkS [(2,.v .bool)] 62 (a0,())))) (K .normal (mkS SQ2 60 (x.1,x.2.1,x.2.2.1,())))
def z1ji (N:Nat):Hd Bool:=fun st K=>(unS SQ2 60 (restr [1,4,3] 0 st)).bind fun x=>z1lb N x K
def t5_99 (N:Nat):Tab Bool:=[(PQ65,z1jh N)]
theorem z1hb {N:Nat}{c:Ctx}(hb:Base Tryz.prog (z16u N) c):zw Tryz.prog c (zk z6b PQ70) (z1ji N) :=
 z13 (s:=SQ2) (m:=60) (g:=z1lb N) [1,4,3] (zf hb N (t5_99 N) z18c z6b (TabOk.cons (z1ha hb) TabOk.nil) PQ70 _ rfl) (fun x K=>by kernel_rfl)
def z4n (N:Nat)(t:DT6)(all:Int)(i:Int)(k0:Bool->Option Bool)(k1:Int->Option Bool):Option Bool:=z4m N t all i (fun x2=>k0 x2) (cond (inR i (List.length t.2.1)) (cond (inR i (List.length t.2.1)) (k1 (IntKind.wrap IntKind.i64 ((IntKind.wrap IntKind.i64 (all+(List.length (List.getD t.2.1 (Int.toNat i) ([],([],()))).1:Int)))+(List.length (List.getD t.2.1 (Int.toNat i) ([],([],()))).2.1:Int)))) none) none)
def z1lc (N:Nat)(x:z1b SQ2)(K:Ex->List A->Option Bool):Option Bool:=z4n N x.1 x.2.1 x.2.2.1 (fun a0=>(K .ret (mkS [(2,.v .bool)] 62 (a0,())))) (fun a1=>(K .normal (mkS SQ2 60 (x.1,a1,x.2.2.1,()))))
def z1jj (N:Nat):Hd Bool:=fun st K=>(unS SQ2 60 (restr [1,4,3] 0 st)).bind fun x=>z1lc N x K
def t4_99 (N:Nat):Tab Bool:=[(PQ70,z1ji N)]
theorem z1hc {N:Nat}{c:Ctx}(hb:Base Tryz.prog (z16u N) c):zw Tryz.prog c (zk z6b z18b) (z1jj N) :=
 z13 (s:=SQ2) (m:=60) (g:=z1lc N) [1,4,3] (zf hb N (t4_99 N) z18c z6b (TabOk.cons (z1hb hb) TabOk.nil) z18b _ rfl) (fun x K=>by kernel_rfl)
def z4k (N:Nat)(t:DT6)(all:Int)(i:Int)(rec:Int->Int->Option Bool)(k0:Bool->Option Bool)(k1:Int->Option Bool):Option Bool:=cond (decide (i<(List.length t.2.1:Int))) (z4n N t all i (fun x2=>k0 x2) (fun all1=>rec all1 (IntKind.wrap IntKind.i64 (i+1)))) (k1 all)
def z7c (N:Nat)(t:DT6)(all:Int)(i:Int)(k0:Bool->Option Bool)(k1:Int->Option Bool):Option Bool:=iter (fun (v:(Int×Int)) r=>z4k N t v.1 v.2 (fun all i=>(r (all,i))) k0 k1) N (all,i)
def z1lh (N:Nat)(i:DT6)(v:(Int×Int))(r:(Int×Int)->Option Bool)(K:Ex->List A->Option Bool):Option Bool:=z4k N i v.1 v.2 (fun all i=>(r (all,i))) (fun a0=>(K .ret (mkS [(2,.v .bool)] 62 (a0,())))) (fun a0=>(K (.exit 0) (mkS [(3,.v (.int .i64))] 61 (a0,()))))
def z1jo (N:Nat):Hd Bool:=fun st K=>(unS SQ2 60 (restr [4,1,3] 0 st)).bind fun x=>iter (fun v r=>z1lh N ((fun x=>x.1) x) v r K) N ((fun x=>(x.2.1,x.2.2.1)) x)
def t3_99 (N:Nat):Tab Bool:=[(z18b,z1jj N)]
theorem z1hh {N:Nat}{c:Ctx}(hb:Base Tryz.prog (z16u N) c):zw Tryz.prog c (zk z6b [0,1,0,1,1,1]) (z1jo N) :=
 z1v (s:=SQ2) (m:=60) (z1lh N) [4,1,3] N (fun x=>x.1) (fun x=>(x.2.1,x.2.2.1)) (fun i v=>(i,v.1,v.2,())) (fun _=>rfl) (zf hb N (t3_99 N) z18c z6b (TabOk.cons (z1hc hb) TabOk.nil) z1ea _ rfl) (fun i v r K=>by kernel_rfl)
def z25 (N:Nat)(t:DT6):Option Bool:=z4p N t (fun x2=>some x2) (z7c N t 0 0 (fun x21=>some x21) (fun all=>some (decide (20000<all))))
def t_99 (N:Nat):Tab Bool:=[([0,1],z1k9 N),([0,1,0,1,1,1],z1jo N)]
theorem z1a9 (N:Nat)(x:z1b [(0,.v TT1)]):z2b (z16u N) N (t_99 N) z18c Tryz.f10 (mkS [(0,.v TT1)] 0 x) (z1c (.v .bool) 1)=z25 N x.1:=by kernel_rfl
def z6o (N:Nat):List A->Res:=z11 [(0,.v TT1)] (fun x=>z25 N x.1) (z2i (.v .bool) 1)
theorem zew (N:Nat):Contract Tryz.prog glob 10 (z6o N) :=
 Contract.of (E:=z16u N) (H:=t_99 N) (L:=z18c) (N:=N) (body:=z6b) (K:=(z1c (.v .bool) 1)) (z1ns N) Tryz.func10 (by kernel_rfl) (by decide) (fun _ hb=>(TabOk.cons (z1i2 hb) (TabOk.cons (z1hh hb) TabOk.nil))) (fun x y h=>by rw[z1a9];exact h) (zm (s:=(.v .bool)) (m:=1))
def zc0:Code:=(Tryz.f4.body).getD .skip
def z13c:List (List Nat×List Nat):=[([0],[1]),([0,0,1],[12,1]),([1,0,1],[1]),([0,0,1,0,1],[2]),([1,0,1,0,1],[2]),([0,0,1,1],[3,1]),([0,1,0,1,1],[3,1]),([0,0,0,0,1,0,1,1],[17,1,3]),([1,0,0,0,1,0,1,1],[1,3]),([1,1,0,0,0,1,0,1,1],[]),([0,0,0,1,0,0,1,0,1,1],[25,3,1]),([1,0,0,1,0,0,1,0,1,1],[3,1]),([0,0,1,0,0,1,0,0,1,0,1,1],[2]),([1,0,1,0,0,1,0,0,1,0,1,1],[2]),(zzg,[3,1]),([1,1,0,0,1,0,1,1],[3,1]),([1,0,1,1],[]),([0,1,1,1],[2]),([1,1,1,1],[2])]
def zzi (N:Nat):Env:=z14 tys glob [(10,z6o N)] [] [] [] false [] [(102,zi N),(79,zd N),(108,z8 N)]
theorem z1es (N:Nat):EnvOk Tryz.prog (zzi N):=ze mixed zq (FnsOk.cons (zew N) (FnsOk.nil)) (ItsOk.cons (zj N) (ItsOk.cons (zg N) (ItsOk.cons (zb N) (ItsOk.nil))))
def z4i (N:Nat)(b:(DT6×((List DT6)×Unit)))(k0:Bool->Option Bool):Option Bool:=cond (decide (12<(List.length b.2.1:Int))) (k0 true) ((z25 N b.1).bind fun y=>k0 y)
def z17r (N:Nat)(x:z1b [(1,.box zfq)])(K:Ex->List A->Option Bool):Option Bool:=z4i N x.1 (fun a1=>(K .normal (mkS [(1,.box zfq),(10,.v .bool)] 13 (x.1,a1,()))))
def z17i (N:Nat):Hd Bool:=fun st K=>(unS [(1,.box zfq)] 24 (restr [1] 0 st)).bind fun x=>z17r N x K
def z1gy (N:Nat):Tab Bool:=[]
theorem z19x {N:Nat}{c:Ctx}(hb:Base Tryz.prog (zzi N) c):zw Tryz.prog c (zk zc0 [0,0,1]) (z17i N) :=
 z13 (s:=[(1,.box zfq)]) (m:=24) (g:=z17r N) [1] (zf hb N (z1gy N) z13c zc0 TabOk.nil [0,0,1] _ rfl) (fun x K=>by kernel_rfl)
def z4j (N:Nat)(b:(DT6×((List DT6)×Unit)))(k0:Bool->Option Bool)(k1:Option Bool):Option Bool:=z4i N b (fun x12=>cond x12 (k0 true) k1)
def z17v (N:Nat)(x:z1b [(1,.box zfq)])(K:Ex->List A->Option Bool):Option Bool:=z4j N x.1 (fun a0=>(K .ret (mkS [(2,.v .bool)] 23 (a0,())))) (K .normal (mkS [(1,.box zfq)] 24 (x.1,())))
def z17m (N:Nat):Hd Bool:=fun st K=>(unS [(1,.box zfq)] 24 (restr [1] 0 st)).bind fun x=>z17v N x K
def z1h2 (N:Nat):Tab Bool:=[([0,0,1],z17i N)]
theorem z1a1 {N:Nat}{c:Ctx}(hb:Base Tryz.prog (zzi N) c):zw Tryz.prog c (zk zc0 [0,1]) (z17m N) :=
 z13 (s:=[(1,.box zfq)]) (m:=24) (g:=z17v N) [1] (zf hb N (z1h2 N) z13c zc0 (TabOk.cons (z19x hb) TabOk.nil) [0,1] _ rfl) (fun x K=>by kernel_rfl)
def z4h (N:Nat)(b:(DT6×((List DT6)×Unit)))(i:Int)(rec:Int->Option Bool)(k0:Bool->Option Bool)(k1:Option Bool):Option Bool:=cond (decide (i<(List.length b.2.1:Int))) (cond (inR i (List.length b.2.1)) ((z25 N (List.getD b.2.1 (Int.toNat i) ([],(([]:List ((List UInt8)×DT4)),([],()))))).bind fun y=>cond y (k0 true) (rec (IntKind.wrap IntKind.i64 (i+1)))) none) k1
def z7b (N:Nat)(b:(DT6×((List DT6)×Unit)))(i:Int)(k0:Bool->Option Bool)(k1:Option Bool):Option Bool:=iter (fun (v:Int) r=>z4h N b v (fun i=>(r i)) k0 k1) N i
def z17p (N:Nat)(i:(DT6×((List DT6)×Unit)))(v:Int)(r:Int->Option Bool)(K:Ex->List A->Option Bool):Option Bool:=z4h N i v (fun i=>(r i)) (fun a0=>(K .ret (mkS [(2,.v .bool)] 23 (a0,())))) (K (.exit 0) (mkS [] 26 ()))
def z17g (N:Nat):Hd Bool:=fun st K=>(unS [(1,.box zfq),(1,.v (.int .i64))] 22 (restr [3,1] 0 st)).bind fun x=>iter (fun v r=>z17p N ((fun x=>x.1) x) v r K) N ((fun x=>x.2.1) x)
def z1gw (N:Nat):Tab Bool:=[]
theorem z19v {N:Nat}{c:Ctx}(hb:Base Tryz.prog (zzi N) c):zw Tryz.prog c (zk zc0 [0,1,0,1,1]) (z17g N) :=
 z1v (s:=[(1,.box zfq),(1,.v (.int .i64))]) (m:=22) (z17p N) [3,1] N (fun x=>x.1) (fun x=>x.2.1) (fun i v=>(i,v,())) (fun _=>rfl) (zf hb N (z1gw N) z13c zc0 TabOk.nil [0,0,1,0,1,1] _ rfl) (fun i v r K=>by kernel_rfl)
def z2u (N:Nat)(b:(DT6×((List DT6)×Unit))):Option Bool:=z4j N b (fun x2=>some x2) (z7b N b 0 (fun x21=>some x21) (some false))
def z1gu (N:Nat):Tab Bool:=[([0,1],z17m N),([0,1,0,1,1],z17g N)]
theorem z15k (N:Nat)(x:z1b [(0,.v zfq)]):z2b (zzi N) N (z1gu N) z13c Tryz.f4 (mkS [(0,.v zfq)] 0 x) (z1c (.v .bool) 1)=z2u N x.1:=by kernel_rfl
def z6n (N:Nat):List A->Res:=z11 [(0,.v zfq)] (fun x=>z2u N x.1) (z2i (.v .bool) 1)
theorem zev (N:Nat):Contract Tryz.prog glob 4 (z6n N) :=
 Contract.of (E:=zzi N) (H:=z1gu N) (L:=z13c) (N:=N) (body:=zc0) (K:=(z1c (.v .bool) 1)) (z1es N) Tryz.func4 (by kernel_rfl) (by decide) (fun _ hb=>(TabOk.cons (z1a1 hb) (TabOk.cons (z19v hb) TabOk.nil))) (fun x y h=>by rw[z15k];exact h) (zm (s:=(.v .bool)) (m:=1))
def z166:Code:=(Tryz.f78.body).getD .skip
def z1nq:List (List Nat×List Nat):=[([0],[0,1]),([0,1],[0,1]),([0,1,1],[0]),([0,1,1,1],[4,0]),([1,1,1,1],[4,0])]
def z1f1 (N:Nat):Env:=z14 tys glob [(46,z12l)] [] [] [0] false [] [(102,zi N),(79,zd N),(108,z8 N)]
theorem z1er (N:Nat):EnvOk Tryz.prog (z1f1 N):=ze mixed zq (FnsOk.cons ((Contract.up (z1n7 z17) glob)) (FnsOk.nil)) (ItsOk.cons (zj N) (ItsOk.cons (zg N) (ItsOk.cons (zb N) (ItsOk.nil))))
def z1h (N:Nat)(b:z7w)(c:Int):Option (Go.Value×(z7w×Unit)):=cond (decide ((((List.length b.2.1)+1)*1)<=70368744177664)) (some (Go.Value.nilIface,((b.1,((b.2.1++([c]:List Int)),b.2.2)),()))) none
def z1gt (N:Nat):Tab (Go.Value×(z7w×Unit)):=[]
theorem z15j (N:Nat)(x:z1b [(0,.box zen),(0,.v (.int .u8))]):z2b (z1f1 N) N (z1gt N) z1nq Tryz.f78 (mkS [(0,.box zen),(0,.v (.int .u8))] 0 x) (z7l (.v .opq) [(0,.box zen)] 1)=z1h N x.1 x.2.1:=by kernel_rfl
def z3d (N:Nat):List A->Res:=z11 [(0,.box zen),(0,.v (.int .u8))] (fun x=>z1h N x.1 x.2.1) (zgd (.v .opq) [(0,.box zen)] 1)
theorem z7g (N:Nat):Contract Tryz.prog glob 78 (z3d N) :=
 Contract.of (E:=z1f1 N) (H:=z1gt N) (L:=z1nq) (N:=N) (body:=z166) (K:=(z7l (.v .opq) [(0,.box zen)] 1)) (z1er N) Tryz.func78 (by kernel_rfl) (by decide) (fun _ hb=>TabOk.nil) (fun x y h=>by rw[z15j];exact h) (z5l (s:=(.v .opq)) (os:=[(0,.box zen)]) (m:=1))
def z165:Code:=(Tryz.f92.body).getD .skip
def z1np:List (List Nat×List Nat):=[([0],[0,1]),([0,0,1],[8]),([1,0,1],[]),([0,0,1,0,1],[4]),([1,0,1,0,1],[4]),([0,1,1],[4]),([1,1,1],[4])]
def z1f0 (N:Nat):Env:=z14 tys glob [] [] [] [] false [] [(102,zi N),(79,zd N),(108,z8 N)]
theorem z1eq (N:Nat):EnvOk Tryz.prog (z1f0 N):=ze mixed zq (FnsOk.nil) (ItsOk.cons (zj N) (ItsOk.cons (zg N) (ItsOk.cons (zb N) (ItsOk.nil))))
def z33 (N:Nat)(s:(List UInt8))(most:Int):Option Go.Value:=cond (decide (most<(List.length s:Int))) (some (Go.Value.iface 135 (Go.Value.agg (List.toArray (([(Go.Value.int IntKind.i64 3)]:List Go.Value)++([]:List Go.Value)))))) (some Go.Value.nilIface)
def z1gs (N:Nat):Tab Go.Value:=[]
theorem z15i (N:Nat)(x:z1b z1fb):z2b (z1f0 N) N (z1gs N) z1np Tryz.f92 (mkS z1fb 0 x) (z1c (.v .opq) 2)=z33 N x.1 x.2.1:=by kernel_rfl
def z6v (N:Nat):List A->Res:=z11 z1fb (fun x=>z33 N x.1 x.2.1) (z2i (.v .opq) 2)
theorem zcw (N:Nat):Contract Tryz.prog glob 92 (z6v N) :=
 Contract.of (E:=z1f0 N) (H:=z1gs N) (L:=z1np) (N:=N) (body:=z165) (K:=(z1c (.v .opq) 2)) (z1eq N) Tryz.func92 (by kernel_rfl) (by decide) (fun _ hb=>TabOk.nil) (fun x y h=>by rw[z15i];exact h) (zm (s:=(.v .opq)) (m:=2))
def z163:Code:=(Tryz.f91.body).getD .skip
def z1no:List (List Nat×List Nat):=[([0],[1]),([0,0,1],[6,1]),([1,0,1],[1]),([0,0,1,0,1],[2]),([1,0,1,0,1],[2]),([0,0,1,1],[3,1]),([0,1,0,1,1],[14,3,1]),([1,1,0,1,1],[1]),([0,0,1,1,0,1,1],[2]),([1,0,1,1,0,1,1],[2]),([0,1,1,1],[2]),([1,1,1,1],[2])]
def z1ez (N:Nat):Env:=z14 tys glob [(92,z6v N)] [] [] [] false [] [(102,zi N),(79,zd N),(108,z8 N)]
theorem z1ep (N:Nat):EnvOk Tryz.prog (z1ez N):=ze mixed zq (FnsOk.cons (zcw N) (FnsOk.nil)) (ItsOk.cons (zj N) (ItsOk.cons (zg N) (ItsOk.cons (zb N) (ItsOk.nil))))
def z3l (N:Nat)(l:((List UInt8)×DT4)):Option Go.Value:=cond (l.2.1 == []) ((z33 N l.1 2048).bind fun y=>some y) ((z33 N l.1 4144).bind fun y1=>cond (zhu y1) (cond (!(zff y1)) (some y1) ((z33 N l.2.1 4144).bind fun y2=>some y2)) none)
def z1gr (N:Nat):Tab Go.Value:=[]
theorem z15h (N:Nat)(x:z1b [(0,.v zgo)]):z2b (z1ez N) N (z1gr N) z1no Tryz.f91 (mkS [(0,.v zgo)] 0 x) (z1c (.v .opq) 1)=z3l N x.1:=by kernel_rfl
def z81 (N:Nat):List A->Res:=z11 [(0,.v zgo)] (fun x=>z3l N x.1) (z2i (.v .opq) 1)
theorem zgx (N:Nat):Contract Tryz.prog glob 91 (z81 N) :=
 Contract.of (E:=z1ez N) (H:=z1gr N) (L:=z1no) (N:=N) (body:=z163) (K:=(z1c (.v .opq) 1)) (z1ep N) Tryz.func91 (by kernel_rfl) (by decide) (fun _ hb=>TabOk.nil) (fun x y h=>by rw[z15h];exact h) (zm (s:=(.v .opq)) (m:=1))
def zr0:Code:=(Tryz.f77.body).getD .skip
def z1eh:List (List Nat×List Nat):=[([0],[1]),([0,0,1],[9,1]),([1,0,1],[1]),([0,0,1,0,1],[2]),([1,0,1,0,1],[2]),([0,0,1,1],[15,14,13,1]),([0,1,0,1,1],[15,14,13,1]),(z13i,[16,13,15,14,1]),(zzg,[13,15,14,1]),(z13j,[1]),(z16s,[4,15,14,13,1]),(z1ee,[5,15,14,13,1]),([0,1,1,0,0,1,1,0,0,1,0,1,1],[22,5,15,14,13,1]),([1,1,1,0,0,1,1,0,0,1,0,1,1],[15,14,13,1]),([0,0,1,1,1,0,0,1,1,0,0,1,0,1,1],[2]),([1,0,1,1,1,0,0,1,1,0,0,1,0,1,1],[2]),(z16r,[15,14,13,1]),(z16q,[15,14,13,1]),([1,0,1,1],[1]),([0,1,1,1],[2]),([1,1,1,1],[2])]
def z16w (N:Nat):Env:=z14 tys glob [(91,z81 N),(92,z6v N)] [] [] [] false [] [(102,zi N),(79,zd N),(108,z8 N)]
theorem z1eo (N:Nat):EnvOk Tryz.prog (z16w N):=ze mixed zq (FnsOk.cons (zgx N) (FnsOk.cons (zcw N) (FnsOk.nil))) (ItsOk.cons (zj N) (ItsOk.cons (zg N) (ItsOk.cons (zb N) (ItsOk.nil))))
def z5f (N:Nat)(t:DT6)(x13:zgq)(x14:Int)(x15:Int)(rec:Int->Option Go.Value)(k0:Go.Value->Option Go.Value)(k1:Option Go.Value):Option Go.Value:=cond (decide (x15<x14)) (cond (inR x15 (List.length x13)) ((z3l N (List.getD x13 (Int.toNat x15) ([],([],())))).bind fun y=>cond (zhu y) (cond (!(zff y)) (k0 y) (rec (IntKind.wrap IntKind.i64 (x15+1)))) none) none) k1
def z5g (N:Nat)(t:DT6)(x13:zgq)(x14:Int)(x15:Int)(k0:Go.Value->Option Go.Value)(k1:Option Go.Value):Option Go.Value:=iter (fun (v:Int) r=>z5f N t x13 x14 v (fun x15=>(r x15)) k0 k1) N x15
def z17u (N:Nat)(i:(DT6×zgq×Int))(v:Int)(r:Int->Option Go.Value)(K:Ex->List A->Option Go.Value):Option Go.Value:=z5f N i.1 i.2.1 i.2.2 v (fun x15=>(r x15)) (fun a0=>(K .ret (mkS [(2,.v .opq)] 25 (a0,())))) (K (.exit 0) (mkS [(1,.box TT1)] 26 (i.1,())))
def z17l (N:Nat):Hd Go.Value:=fun st K=>(unS [(1,.box TT1),(11,.v (.sl zgo)),(0,.v (.int .i64)),(0,.v (.int .i64))] 12 (restr [15,14,13,1] 0 st)).bind fun x=>iter (fun v r=>z17u N ((fun x=>(x.1,x.2.1,x.2.2.1)) x) v r K) N ((fun x=>x.2.2.2.1) x)
def z1h1 (N:Nat):Tab Go.Value:=[]
theorem z1a0 {N:Nat}{c:Ctx}(hb:Base Tryz.prog (z16w N) c):zw Tryz.prog c (zk zr0 [0,1,0,1,1]) (z17l N) :=
 z1v (s:=[(1,.box TT1),(11,.v (.sl zgo)),(0,.v (.int .i64)),(0,.v (.int .i64))]) (m:=12) (z17u N) [15,14,13,1] N (fun x=>(x.1,x.2.1,x.2.2.1)) (fun x=>x.2.2.2.1) (fun i v=>(i.1,i.2.1,i.2.2,v,())) (fun _=>rfl) (zf hb N (z1h1 N) z1eh zr0 TabOk.nil [0,0,1,0,1,1] _ rfl) (fun i v r K=>by kernel_rfl)
def z3m (N:Nat)(t:DT6):Option Go.Value:=cond (decide (64<(List.length t.2.1:Int))) (some (Go.Value.iface 135 (Go.Value.agg (List.toArray (([(Go.Value.int IntKind.i64 3)]:List Go.Value)++([]:List Go.Value)))))) (z5g N t t.2.1 (List.length t.2.1:Int) 0 (fun x2=>some x2) ((z33 N t.1 4144).bind fun y=>some y))
def z1gq (N:Nat):Tab Go.Value:=[([0,1,0,1,1],z17l N)]
theorem z15g (N:Nat)(x:z1b [(0,.v TT1)]):z2b (z16w N) N (z1gq N) z1eh Tryz.f77 (mkS [(0,.v TT1)] 0 x) (z1c (.v .opq) 1)=z3m N x.1:=by kernel_rfl
def z82 (N:Nat):List A->Res:=z11 [(0,.v TT1)] (fun x=>z3m N x.1) (z2i (.v .opq) 1)
theorem zgy (N:Nat):Contract Tryz.prog glob 77 (z82 N) :=
 Contract.of (E:=z16w N) (H:=z1gq N) (L:=z1eh) (N:=N) (body:=zr0) (K:=(z1c (.v .opq) 1)) (z1eo N) Tryz.func77 (by kernel_rfl) (by decide) (fun _ hb=>(TabOk.cons (z1a0 hb) TabOk.nil)) (fun x y h=>by rw[z15g];exact h) (zm (s:=(.v .opq)) (m:=1))
def z162:Code:=(Tryz.f61.body).getD .skip
def z1nn:List (List Nat×List Nat):=[([0],[1]),([0,0,1],[3,1]),([0,1,0,1],[7,3,1]),([1,1,0,1],[1]),([0,0,1,1,0,1],[2]),([1,0,1,1,0,1],[2]),([0,0,1,1],[12]),([1,0,1,1],[]),([0,0,1,0,1,1],[2]),([1,0,1,0,1,1],[2]),([0,1,1,1],[2]),([1,1,1,1],[2])]
def z1ey (N:Nat):Env:=z14 tys glob [(77,z82 N)] [] [] [] false [] [(102,zi N),(79,zd N),(108,z8 N)]
theorem z1en (N:Nat):EnvOk Tryz.prog (z1ey N):=ze mixed zq (FnsOk.cons (zgy N) (FnsOk.nil)) (ItsOk.cons (zj N) (ItsOk.cons (zg N) (ItsOk.cons (zb N) (ItsOk.nil))))
def z83 (N:Nat)(t:DT6):Option Go.Value:=(z3m N t).bind fun y=>cond (zhu y) (cond (!(zff y)) (some y) (cond ((List.length t.2.2.1:Int) != 32) (some (Go.Value.iface 135 (Go.Value.agg (List.toArray (([(Go.Value.int IntKind.i64 7)]:List Go.Value)++([]:List Go.Value)))))) (some Go.Value.nilIface))) none
def z1gp (N:Nat):Tab Go.Value:=[]
theorem z15f (N:Nat)(x:z1b [(0,.v TT1)]):z2b (z1ey N) N (z1gp N) z1nn Tryz.f61 (mkS [(0,.v TT1)] 0 x) (z1c (.v .opq) 1)=z83 N x.1:=by kernel_rfl
def zcy (N:Nat):List A->Res:=z11 [(0,.v TT1)] (fun x=>z83 N x.1) (z2i (.v .opq) 1)
theorem znl (N:Nat):Contract Tryz.prog glob 61 (zcy N) :=
 Contract.of (E:=z1ey N) (H:=z1gp N) (L:=z1nn) (N:=N) (body:=z162) (K:=(z1c (.v .opq) 1)) (z1en N) Tryz.func61 (by kernel_rfl) (by decide) (fun _ hb=>TabOk.nil) (fun x y h=>by rw[z15f];exact h) (zm (s:=(.v .opq)) (m:=1))
open Go.RowKit Go.Extern.Stop Go.Stop Go.Extern
theorem z1ng (t:Value)(w:World) :
 Calls Tryz.prog 76 #[.nilIface,t] w fun e w'=>e=.returned (.bool false)/\w'=w:=by
 go_enter Tryz.func76,Tryz.ntmps76
 go_wp2
 go_ret
 exact⟨rfl,rfl⟩
theorem zvx (t:Addr)(w:World):(ReflectliteValue.unpack (.iface 137 (.pointer (some t)))).run Tryz.prog w
 = .ok (.agg #[.pointer (some ⟨3,137,none⟩),.pointer (some ⟨w.heap.size,0,none⟩),.int .u64 150]) (w.alloc (.cells #[.pointer (some t)] 137)):=by kernel_rfl
theorem z16d (a : Addr) (w : World) : (ReflectliteValue.methodAny (ReflectliteValue.valueError "reflectlite.Value.Type" 0) (fun t _ _ _ => ReflectliteType.toType t) #[.agg #[.pointer (some ⟨3, 137, none⟩), .pointer (some a), .int .u64 150]]).run Tryz.prog w
 = .ok (.iface 164 (.agg #[.pointer (some ⟨3,137,none⟩)])) w:=by kernel_rfl
theorem zr2 (h : Value) (w : World) : (Go.method 329 164 (.agg #[h]) "Kind").run Tryz.prog w = .ok (144, h) w := by kernel_rfl
theorem z16e (w:World):((ReflectliteType.abiMethod fun t=>(fun a:Nat=>Value.int IntKind.u8 (a:Int)) <$> Rtype.kind t) #[.pointer (some ⟨3,137,none⟩)]).run Tryz.prog w=.ok (.int .u8 22) w:=by kernel_rfl
theorem z16f (w:World):((ReflectliteType.abiMethod fun t=>(fun a:Nat=>Value.int IntKind.u8 (a:Int)) <$> Rtype.kind t) #[.pointer (some ⟨3,135,none⟩)]).run Tryz.prog w=.ok (.int .u8 25) w:=by kernel_rfl
theorem z184 (z:Sem Value)(f:TypeId->Addr->Nat->Nat->Sem Value)(v:Value) :
 ReflectliteValue.method z f #[v]=(do match <- ReflectliteValue.parts v with|none=>z|some (t,a,fl)=>f t a fl (fl % 32)):=rfl
theorem ztp (a:Addr)(w:World):(ReflectliteValue.parts (.agg #[.pointer (some ⟨3,137,none⟩),.pointer (some a),.int .u64 150])).run Tryz.prog w=.ok (some (137,a,150)) w:=by kernel_rfl
theorem z134 (a p:Addr)(W:World)(ha:W.cell? a=some (.pointer (some p))) :
 (ReflectliteValue.method (ReflectliteValue.valueError "reflectlite.Value.IsNil" 0) ReflectliteValue.isNil #[.agg #[.pointer (some ⟨3, 137, none⟩), .pointer (some a), .int .u64 150]]).run Tryz.prog W = .ok (.bool false) W := by
 rw[z184];simp only[Sem.run_bind,ztp,Result.andThen];simp[ReflectliteValue.isNil,loadVar,isAgg,underlying,Tryz.underlying137,ha,Result.andThen]
theorem zr3 (h : Value) (w : World) : (Go.method 329 164 (.agg #[h]) "Elem").run Tryz.prog w = .ok (155, .agg #[h]) w := by kernel_rfl
theorem zgn (h : Value) (w : World) : (Go.method 329 164 (.agg #[h]) "Implements").run Tryz.prog w = .ok (156, .agg #[h]) w := by kernel_rfl
theorem ze6 (h : Value) (w : World) : (Go.method 329 164 (.agg #[h]) "AssignableTo").run Tryz.prog w = .ok (153, .agg #[h]) w := by kernel_rfl
theorem z16h (w:World):(ReflectliteType.method ReflectliteType.elem #[.agg #[.pointer (some ⟨3,137,none⟩)]]).run Tryz.prog w=.ok (.iface 164 (.agg #[.pointer (some ⟨3,135,none⟩)])) w:=by kernel_rfl
theorem z1e5 (w : World) : (ReflectliteType.relation "Implements" ReflectliteType.implements_ #[.agg #[.pointer (some ⟨3, 135, none⟩)], .iface 164 (.agg #[.pointer (some ⟨3, 74, none⟩)])]).run Tryz.prog w = .ok (.bool true) w := by kernel_rfl
theorem z131 (v:Value)(w:World):(ReflectliteType.typeOf #[.iface 135 v]).run Tryz.prog w=.ok (.iface 164 (.agg #[.pointer (some ⟨3,135,none⟩)])) w:=by kernel_rfl
theorem zr4 (w : World) : (ReflectliteType.relation "AssignableTo" ReflectliteType.assignableTo #[.agg #[.pointer (some ⟨3, 135, none⟩)], .iface 164 (.agg #[.pointer (some ⟨3, 135, none⟩)])]).run Tryz.prog w = .ok (.bool true) w := by kernel_rfl
theorem zvy (c:Int)(w:World):(ReflectliteValue.unpack (.iface 135 (.agg #[.int .i64 c]))).run Tryz.prog w
 = .ok (.agg #[.pointer (some ⟨3,135,none⟩),.pointer (some ⟨w.heap.size,0,none⟩),.int .u64 153]) (w.alloc (.cells #[.int .i64 c] 135)):=by kernel_rfl
theorem z135 (w:World):(Rtype.elem? 137).run Tryz.prog w=.ok (some 135) w:=by kernel_rfl
theorem as_mk (p:Addr)(w:World):(ReflectliteValue.mk 135 p ReflectliteValue.flagAddr).run Tryz.prog w=.ok (.agg #[.pointer (some ⟨3,135,none⟩),.pointer (some p),.int .u64 409]) w:=by kernel_rfl
theorem z16g (a p:Addr)(W:World)(ha:W.cell? a=some (.pointer (some p))) :
 (ReflectliteValue.method (ReflectliteValue.valueError "reflectlite.Value.Elem" 0) ReflectliteValue.elem #[.agg #[.pointer (some ⟨3, 137, none⟩), .pointer (some a), .int .u64 150]]).run Tryz.prog W
  = .ok (.agg #[.pointer (some ⟨3,135,none⟩),.pointer (some p),.int .u64 409]) W:=by
 rw[z184];simp only[Sem.run_bind,ztp,Result.andThen];simp[ReflectliteValue.elem,loadVar,isAgg,underlying,Tryz.underlying137,ha,Result.andThen,z135,as_mk]
theorem z1nf (v x:Value):ReflectliteValue.set #[v,x]=(do
 let (some (dst,a,fl),some (src,b,_)):=(<- ReflectliteValue.parts v,<- ReflectliteValue.parts x)
  | unsupported (.noEntry "extern/(internal/reflectlite.Value).Set.zeroValue")
 if fl / ReflectliteValue.flagAddr % 2 == 0 then unsupported (.noEntry "extern/(internal/reflectlite.Value).Set.unaddressable")
 let val <- loadVar src b
 if <- Rtype.directlyAssignable dst src then storeVar dst a val
 else if <- Rtype.implements dst src then
  if (<- Rtype.kind src) == 20 then
   match val with
   | .nilIface => unsupported (.noEntry "extern/reflectlite: a nil value of one interface type handed on as a value of another")
   | _=>storeVar dst a val
  else storeVar dst a (.iface src val)
 else panicString ("reflectlite.Set: value of type " ++ (<- Rtype.spelt src) ++ " is not assignable to type " ++ (<- Rtype.spelt dst))
 pure (.tuple #[])):=rfl
theorem z133 (a:Addr)(w:World):(ReflectliteValue.parts (.agg #[.pointer (some ⟨3,135,none⟩),.pointer (some a),.int .u64 409])).run Tryz.prog w=.ok (some (135,a,409)) w:=by kernel_rfl
theorem z132 (a:Addr)(w:World):(ReflectliteValue.parts (.agg #[.pointer (some ⟨3,135,none⟩),.pointer (some a),.int .u64 153])).run Tryz.prog w=.ok (some (135,a,153)) w:=by kernel_rfl
theorem z136 (w:World):(Rtype.directlyAssignable 135 135).run Tryz.prog w=.ok true w:=by kernel_rfl
theorem z1ne (ta b:Addr)(c:Int)(old:Value)(W:World)(hb:W.cell? b=some (.int .i64 c))(ht:W.cell? ta=some old)(hf:W.frozen? ta=false) :
 (ReflectliteValue.set #[.agg #[.pointer (some ⟨3,135,none⟩),.pointer (some ta),.int .u64 409],.agg #[.pointer (some ⟨3,135,none⟩),.pointer (some b),.int .u64 153]]).run Tryz.prog W
  = .ok (.tuple #[]) (W.setCell ta (.int .i64 c)):=by
 have lc:(loadCells b 1).run Tryz.prog W=.ok #[.int .i64 c] W:=by
  simp[loadCells,loadCellsFrom,hb,Result.andThen,Addr.add]
 rw[z1nf];simp only[Sem.run_bind,z133,z132,Result.andThen];simp[ReflectliteValue.flagAddr,loadVar,isAgg,underlying,Tryz.underlying135,lc,Result.andThen,z136,storeVar,Value.cells,storeCells,Addr.add];rw[run_store Tryz.prog W ta _ _ (by rfl)];simp[ht,hf]
set_option maxHeartbeats 4000000 in
theorem z1nh (c:Int)(t:Addr)(old:Value)(w:World)(hg:w.cell? ⟨0,0,none⟩=some (.iface 164 (.agg #[.pointer (some ⟨3,74,none⟩)])))(ht0:w.cell? t=some old)(hf0:w.frozen? t=false) :
 Calls Tryz.prog 76 #[.iface 135 (.agg #[.int .i64 c]),.iface 137 (.pointer (some t))] w fun ev w'=>ev=.returned (.bool true)/\w'=((((w.alloc (.cells #[.pointer (some t)] 137)).alloc (.cells #[.pointer (some ⟨3,137,none⟩),.pointer (some ⟨w.heap.size,0,none⟩),.int .u64 150] 146)).alloc (.cells #[.pointer (some ⟨3,137,none⟩),.pointer (some ⟨w.heap.size,0,none⟩),.int .u64 150] 146)).alloc (.cells #[.int .i64 c] 135)).setCell t (.int .i64 c):=by
 have h6:=@run_callFunc_extern Tryz.prog 87 _ (fun args=>ReflectliteValue.unpack (args.getD 0 (.tuple #[]))) Tryz.func87 (by kernel_rfl) (by kernel_rfl) (by kernel_rfl) (by kernel_rfl);have h7 := @run_callFunc_extern Tryz.prog 88 _ (ReflectliteValue.methodAny (ReflectliteValue.valueError "reflectlite.Value.Type" 0) (fun t _ _ _ => ReflectliteType.toType t)) Tryz.func88 (by kernel_rfl) (by kernel_rfl) (by kernel_rfl) (by kernel_rfl)
 have h8 := @run_callFunc_extern Tryz.prog 89 _ (ReflectliteValue.method (ReflectliteValue.valueError "reflectlite.Value.IsNil" 0) ReflectliteValue.isNil) Tryz.func89 (by kernel_rfl) (by kernel_rfl) (by kernel_rfl) (by kernel_rfl)
 have h27:=@run_callFunc_extern Tryz.prog 144 _ (ReflectliteType.abiMethod fun t=>do pure (.int .u8 (<- Rtype.kind t))) Tryz.func144 (by kernel_rfl) (by kernel_rfl) (by kernel_rfl) (by kernel_rfl);have h37:=@run_callFunc_extern Tryz.prog 155 _ (ReflectliteType.method ReflectliteType.elem) Tryz.func155 (by kernel_rfl) (by kernel_rfl) (by kernel_rfl) (by kernel_rfl);have h38 := @run_callFunc_extern Tryz.prog 156 _ (ReflectliteType.relation "Implements" ReflectliteType.implements_) Tryz.func156 (by kernel_rfl) (by kernel_rfl) (by kernel_rfl) (by kernel_rfl)
 have h10:=@run_callFunc_extern Tryz.prog 99 _ ReflectliteType.typeOf Tryz.func99 (by kernel_rfl) (by kernel_rfl) (by kernel_rfl) (by kernel_rfl);have h35 := @run_callFunc_extern Tryz.prog 153 _ (ReflectliteType.relation "AssignableTo" ReflectliteType.assignableTo) Tryz.func153 (by kernel_rfl) (by kernel_rfl) (by kernel_rfl) (by kernel_rfl)
 have h11 := @run_callFunc_extern Tryz.prog 100 _ (ReflectliteValue.method (ReflectliteValue.valueError "reflectlite.Value.Elem" 0) ReflectliteValue.elem) Tryz.func100 (by kernel_rfl) (by kernel_rfl) (by kernel_rfl) (by kernel_rfl)
 have h12:=@run_callFunc_extern Tryz.prog 101 _ ReflectliteValue.set Tryz.func101 (by kernel_rfl) (by kernel_rfl) (by kernel_rfl) (by kernel_rfl);have tO:=z131;have mA:=ze6;have a25:=zr4;have v25:=zvy;have f6:=zvx;have f7:=z16d;have mK:=zr2;have mE:=zr3;have mI:=zgn;have k27:=z16e;have k25:=z16f;have e27:=z16h;have i25:=z1e5;have n8:=z134 ⟨w.heap.size,0,none⟩ t ((w.alloc (.cells #[.pointer (some t)] 137)).alloc (.cells #[.pointer (some ⟨3,137,none⟩),.pointer (some ⟨w.heap.size,0,none⟩),.int .u64 150] 146)) (by simp);have hlt:0<w.heap.size:=by
  rcases Nat.eq_zero_or_pos w.heap.size with h0|h
  . simp[World.cell?,h0] at hg
  . exact h
 have hg2:((w.alloc (.cells #[.pointer (some t)] 137)).alloc (.cells #[.pointer (some ⟨3,137,none⟩),.pointer (some ⟨w.heap.size,0,none⟩),.int .u64 150] 146)).cell? ⟨0,0,none⟩=some (.iface 164 (.agg #[.pointer (some ⟨3,74,none⟩)])):=by
  rw[World.cell?_alloc_lt _ _ ⟨0,0,none⟩ (by simp),World.cell?_alloc_lt _ _ ⟨0,0,none⟩ hlt];exact hg
 have htl:t.block<w.heap.size:=by
  rcases Nat.lt_or_ge t.block w.heap.size with h|h
  . exact h
  . simp[World.cell?,Array.getElem?_eq_none h] at ht0
 have el:=z16g ⟨w.heap.size,0,none⟩ t (((w.alloc (.cells #[.pointer (some t)] 137)).alloc (.cells #[.pointer (some ⟨3,137,none⟩),.pointer (some ⟨w.heap.size,0,none⟩),.int .u64 150] 146)).alloc (.cells #[.pointer (some ⟨3,137,none⟩),.pointer (some ⟨w.heap.size,0,none⟩),.int .u64 150] 146)) (by rw[World.cell?_alloc_lt _ _ ⟨w.heap.size,0,none⟩ (by simp;omega)];simp);have st:=z1ne t ⟨w.heap.size+1+1+1,0,none⟩ c old ((((w.alloc (.cells #[.pointer (some t)] 137)).alloc (.cells #[.pointer (some ⟨3,137,none⟩),.pointer (some ⟨w.heap.size,0,none⟩),.int .u64 150] 146)).alloc (.cells #[.pointer (some ⟨3,137,none⟩),.pointer (some ⟨w.heap.size,0,none⟩),.int .u64 150] 146)).alloc (.cells #[.int .i64 c] 135))
  (by rw[World.cell?_alloc_at _ _ _ _ (by simp)];rfl)
  (by rw[World.cell?_alloc_lt _ _ t (by simp;omega),World.cell?_alloc_lt _ _ t (by simp;omega),World.cell?_alloc_lt _ _ t (by simp;omega),World.cell?_alloc_lt _ _ t htl];exact ht0)
  (by rw[World.frozen?_alloc_old _ _ t (by simp;omega),World.frozen?_alloc_old _ _ t (by simp;omega),World.frozen?_alloc_old _ _ t (by simp;omega),World.frozen?_alloc_old _ _ t (Nat.ne_of_lt htl)];exact hf0)
 go_enter Tryz.func76,Tryz.ntmps76
 go_wp2
 refine wp_loop_rounds 1 ?_;rw[rounds_succ]
 go_wp2
 go_ret
 exact⟨rfl,rfl⟩
theorem zz3 (w:World):Calls Tryz.prog 60 #[.nilIface] w fun e w'=>e=.returned (.int .i64 0)/\w'=w.alloc (.cells #[.int .i64 0] 135):=by
 go_enter Tryz.func60,Tryz.ntmps60
 go_wp2_with (first|(go_at_call 76;refine (z1ng _ _).mono ?_;rintro e w' ⟨rfl,rfl⟩))
 go_ret
 exact⟨rfl,rfl⟩
def asW (w:World)(c:Int):World:=(((((w.alloc (.cells #[.int .i64 0] 135)).alloc (.cells #[.pointer (some ⟨w.heap.size,0,none⟩)] 137)).alloc (.cells #[.pointer (some ⟨3,137,none⟩),.pointer (some ⟨w.heap.size+1,0,none⟩),.int .u64 150] 146)).alloc (.cells #[.pointer (some ⟨3,137,none⟩),.pointer (some ⟨w.heap.size+1,0,none⟩),.int .u64 150] 146)).alloc (.cells #[.int .i64 c] 135)).setCell ⟨w.heap.size,0,none⟩ (.int .i64 c)
theorem z1e6 (c:Int)(w:World)(hg:w.cell? ⟨0,0,none⟩=some (.iface 164 (.agg #[.pointer (some ⟨3,74,none⟩)]))):Calls Tryz.prog 76 #[.iface 135 (.agg #[.int .i64 c]),.iface 137 (.pointer (some ⟨w.heap.size,0,none⟩))] (w.alloc (.cells #[.int .i64 0] 135)) fun e w'=>e=.returned (.bool true)/\w'=asW w c:=by
 have hlt:0<w.heap.size:=by
  rcases Nat.eq_zero_or_pos w.heap.size with h0|h
  . simp[World.cell?,h0] at hg
  . exact h
 have h1:(w.alloc (.cells #[.int .i64 0] 135)).cell? ⟨0,0,none⟩=some (.iface 164 (.agg #[.pointer (some ⟨3,74,none⟩)])):=by
  rw[World.cell?_alloc_lt _ _ ⟨0,0,none⟩ hlt];exact hg
 have hs:(w.alloc (.cells #[.int .i64 0] 135)).heap.size=w.heap.size+1:=by simp
 refine (z1nh c ⟨w.heap.size,0,none⟩ (.int .i64 0) (w.alloc (.cells #[.int .i64 0] 135)) h1 (by simp) (by simp)).mono fun e w' ⟨h2,h3⟩=>⟨h2,?_⟩
 rw[h3,hs];rfl
theorem z16j (w:World)(c:Int):(asW w c).cell? ⟨w.heap.size,0,none⟩=some (.int .i64 c):=by
 have h:(((((w.alloc (.cells #[.int .i64 0] 135)).alloc (.cells #[.pointer (some ⟨w.heap.size,0,none⟩)] 137)).alloc (.cells #[.pointer (some ⟨3,137,none⟩),.pointer (some ⟨w.heap.size+1,0,none⟩),.int .u64 150] 146)).alloc (.cells #[.pointer (some ⟨3,137,none⟩),.pointer (some ⟨w.heap.size+1,0,none⟩),.int .u64 150] 146)).alloc (.cells #[.int .i64 c] 135)).heap[w.heap.size]?=some (.cells #[.int .i64 0] 135 (0,0)):=by
  simp only[World.alloc,Array.getElem?_push,Array.size_push];rw[if_neg (by omega),if_neg (by omega),if_neg (by omega),if_neg (by omega),if_pos trivial]
 unfold asW;simp only[World.setCell,World.cell?];rw[Array.getElem?_modify,if_pos rfl,h];rfl
theorem zz4 (c:Int)(w:World)(hg:w.cell? ⟨0,0,none⟩=some (.iface 164 (.agg #[.pointer (some ⟨3,74,none⟩)]))):Calls Tryz.prog 60 #[.iface 135 (.agg #[.int .i64 c])] w fun e w'=>e=.returned (.int .i64 c)/\w'=asW w c:=by
 have hc:=z16j w c
 go_enter Tryz.func60,Tryz.ntmps60
 go_wp2_with (first|(go_at_call 76;refine (z1e6 c w hg).mono ?_;rintro e w' ⟨rfl,rfl⟩))
 go_ret
 exact⟨rfl,rfl⟩
theorem z16i (w:World)(c:Int):w.heap.size<=(asW w c).heap.size/\(∀ k,k<w.heap.size->(asW w c).heap[k]?=w.heap[k]?)/\(asW w c).tape=w.tape/\(asW w c).os=w.os/\(asW w c).output=w.output:=by
 unfold asW;refine⟨by simp[World.setCell];omega,fun k hk=>?_,rfl,rfl,rfl⟩;simp only[World.setCell,World.alloc,Array.getElem?_modify,Array.getElem?_push,Array.size_push];rw[if_neg (by omega),if_neg (by omega),if_neg (by omega),if_neg (by omega),if_neg (by omega),if_neg (by omega)]
def errP (v:Value):Option Int:=match v with
 | .nilIface=>some 0
 | .iface t (.agg cs)=>match cs.toList with
   | [.int .i64 c]=>cond (Nat.beq t 135) (some c) none
   | _=>none
 | _=>none
def eV (c:Int):Value:=.iface 135 (.agg #[.int .i64 c])
theorem z15s {v:Value} {c:Int} (h:errP v=some c):(v=.nilIface/\c=0)\/v=.iface 135 (.agg #[.int .i64 c]):=by
 unfold errP at h;split at h
 . exact .inl ⟨rfl,(Option.some.inj h).symm⟩
 . rename_i t cs;split at h
   . rename_i c' hc;cases ht:Nat.beq t 135 with
     | false=>rw[ht] at h;cases h
     | true =>
       rw[ht] at h;have e1:=Nat.eq_of_beq_eq_true ht;have e2:c'=c:=Option.some.inj h;refine .inr ?_;rw[e1,<- e2];congr 2;apply Array.toList_inj.1;rw[hc]
   . cases h
 . cases h
theorem zmv {w w':World}{S:Hp}{args:List A}{vals:List Value}{ob:Nat->List Nat}{rA:A}{rV:Value}{outs:List A}(hS:Lift.Sub S (hp w))
 (hb:∀ y∈args,z6r y=false) (hob:∀ i,ob i=[]) (hw:w.heap.size<=w'.heap.size/\(∀ k,k<w.heap.size->w'.heap[k]?=w.heap[k]?)/\w'.tape=w.tape/\w'.os=w.os/\w'.output=w.output) (hr:∀ S',ARel (hp w') S' (fun _=>undef) rA rV []) (hrr:rA.refs=[]):Lift.Ends w S args vals ob rA outs (.returned rV) w':=by
 obtain⟨h1,h2,h3,h4,h5⟩:=hw;refine⟨rV,S,[],ob,rfl,⟨h1,fun k hk _=>h2 k hk,h3,h4,h5⟩,Lift.Sub.refl S,fun k q hq=>?_,fun k hk=>.inl hk,⟨hr S,hrr⟩,(fun k hk=>by cases hk),.nil,?_,?_,?_,?_,fun _ h=>h⟩
 . have:=hS k q hq;simp only[hp] at this ⊢;rw[h2 k (Array.getElem?_eq_some_iff.1 this).1];exact this
 . intro i y hy hbx;have:=hb y (List.mem_of_getElem? hy);rw[hbx] at this;cases this
 . intro i k hk;rw[hob i] at hk;cases hk
 . intro i j k hi;rw[hob i] at hi;cases hi
 . intro i;rw[hob i];exact .nil
theorem zny {w:World}{S:Hp}(hS:Lift.Sub S (hp w))(hg:GlobOk glob S):w.cell? ⟨0,0,none⟩=some (.iface 164 (.agg #[.pointer (some ⟨3,74,none⟩)])):=by
 have h:=hg 0 ⟨.opq,.iface 164 (.agg #[.pointer (some ⟨3,74,none⟩)])⟩ rfl;obtain⟨b,off,c1,e,⟨all,E,fr,c0,c2,h1,h2,h3⟩,h4,_⟩:=VR.ptr_inv h;have e0:(some (⟨0,0,none⟩:Addr))=some ⟨b,off,none⟩:=Value.pointer.inj e;have e1:=Option.some.inj e0;have eb:b=0:=(congrArg Addr.block e1).symm;have eo:off=0:=(congrArg Addr.off e1).symm;subst eb eo;have hw:w.heap[0]?=some (.cells all E fr):=hS 0 _ h1;simp only[World.cell?,hw];have hc0:c0=[]:=List.length_eq_zero_iff.1 h3;have:all.toList[0]?=some (.iface 164 (.agg #[.pointer (some ⟨3,74,none⟩)])):=by
  rw[h2,hc0,h4];rfl
 simpa using this
def zcx (N:Nat)(v:Value):Option Int:=errP v
def zc3 (N:Nat):List A->Res:=z11 [(0,.v .opq)] (fun x=>zcx N x.1) (z2i (.v (.int .i64)) 1)
theorem zl5 (N:Nat):Contract Tryz.prog glob 60 (zc3 N):=by
 refine Contract.hand ⟨_,Tryz.func60,by kernel_rfl,by decide⟩ ?_;rintro w S vals ob ⟨v,⟨⟩⟩ y har hS hg hy;have hy':errP v=some y:=hy;obtain⟨⟨u1,e1,r1⟩,_⟩:=har.rel 0 _ rfl;have hob:∀ i,ob i=[]:=by
  intro i
  match i with
  | 0=>exact r1.2
  | i+1=>exact har.out _ (by simp[mkS,z2p])
 have hv:vals=[u1]:=by
  match vals,har.len,e1 with
  | [a],_,h1=>simp at h1;rw[h1]
 subst hv;have hu:=VR.opq_inv r1.1;subst hu;have hbx:∀ y∈(mkS [(0,.v .opq)] 0 ((u1,()):z1b [(0,.v .opq)])),z6r y=false:=by
  intro y hy;have hy:y∈[A.v .opq u1]:=hy;rw[List.mem_singleton.1 hy];rfl
 rcases z15s hy' with⟨rfl,rfl⟩|rfl
 . refine (zz3 w).mono fun e w' ⟨h1,h2⟩=>?_
   subst h1 h2;exact zmv hS hbx hob ⟨by simp,fun k hk=>by simp only[World.alloc,Array.getElem?_push];rw[if_neg (by omega)],rfl,rfl,rfl⟩ (fun S'=>⟨VR.int,rfl⟩) rfl
 . refine (zz4 y w (zny hS hg)).mono fun e w' ⟨h1,h2⟩=>?_
   subst h1 h2;exact zmv hS hbx hob (z16i w y) (fun S'=>⟨VR.int,rfl⟩) rfl
def zqz:Code:=(Tryz.f62.body).getD .skip
def z1eg:List (List Nat×List Nat):=[([0],[1]),([0,1],[1,3]),([0,1,1],[1,3]),([0,1,1,1],[1,3]),([0,0,1,1,1,1],[19,18,17,3]),(PQ8,[19,18,17,3]),([0,0,0,1,0,1,1,1,1],[20,17,19,3,18]),(PQ73,[17,19,3,18]),(PQ67,[3]),(PQ57,[5,3,19,18,17]),([0,0,1,0,0,1,1,0,0,1,0,1,1,1,1],[25,3,5,19,18,17]),([1,0,1,0,0,1,1,0,0,1,0,1,1,1,1],[3,5,19,18,17]),([0,0,1,0,1,0,0,1,1,0,0,1,0,1,1,1,1],[5,3,19,18,17]),([0,1,0,1,0,1,0,0,1,1,0,0,1,0,1,1,1,1],[19,18,17,3]),([1,1,0,1,0,1,0,0,1,1,0,0,1,0,1,1,1,1],[19,18,17,3]),([0,1,1,0,0,1,1,0,0,1,0,1,1,1,1],[5,3,19,18,17]),([0,1,1,1,0,0,1,1,0,0,1,0,1,1,1,1],[5,3,19,18,17]),([1,1,1,1,0,0,1,1,0,0,1,0,1,1,1,1],[19,18,17,3]),(PQ68,[19,18,17,3]),(PQ69,[19,18,17,3]),([1,0,1,1,1,1],[3]),([0,1,1,1,1,1],[2]),([1,1,1,1,1,1],[2])]
def z16v (N:Nat):Env:=z14 tys glob [(78,z3d N),(29,z1d N),(43,z9p N),(28,zbs N),(30,zla)] [] [] [] false [(3,zen)] [(102,zi N),(79,zd N),(108,z8 N)]
theorem z1em (N:Nat):EnvOk Tryz.prog (z16v N):=ze mixed zq (FnsOk.cons (z7g N) (FnsOk.cons ((Contract.up (z1g N) glob)) (FnsOk.cons ((Contract.up (z7n N) glob)) (FnsOk.cons ((Contract.up (z95 N) glob)) (FnsOk.cons ((Contract.up (zrl z17) glob)) (FnsOk.nil)))))) (ItsOk.cons (zj N) (ItsOk.cons (zg N) (ItsOk.cons (zb N) (ItsOk.nil))))
def zar (N:Nat)(x17:zgq)(x18:Int)(out:z7w)(x19:Int)(rec:z7w->Int->Option (List UInt8))(k0:z7w->Option (List UInt8)):Option (List UInt8):=cond (decide (x19<x18)) (cond (inR x19 (List.length x17)) (cond ((List.getD x17 (Int.toNat x19) ([],([],()))).2.1 == []) ((z1h N out 0).bind fun y=>(z1k N (List.getD x17 (Int.toNat x19) ([],([],()))).1).bind fun y1=>(zh N y.2.1 y1).bind fun y2=>rec y2.2.1 (IntKind.wrap IntKind.i64 (x19+1))) ((z1h N out 1).bind fun y3=>(z1k N (List.getD x17 (Int.toNat x19) ([],([],()))).1).bind fun y4=>(zh N y3.2.1 y4).bind fun y5=>(z1k N (List.getD x17 (Int.toNat x19) ([],([],()))).2.1).bind fun y6=>(zh N y5.2.1 y6).bind fun y7=>rec y7.2.1 (IntKind.wrap IntKind.i64 (x19+1)))) none) (k0 out)
def zas (N:Nat)(out:z7w)(x17:zgq)(x18:Int)(x19:Int)(k0:z7w->Option (List UInt8)):Option (List UInt8):=iter (fun (v:(z7w×Int)) r=>zar N x17 x18 v.1 v.2 (fun out x19=>(r (out,x19))) k0) N (out,x19)
def z17t (N:Nat)(i:(zgq×Int))(v:(z7w×Int))(r:(z7w×Int)->Option (List UInt8))(K:Ex->List A->Option (List UInt8)):Option (List UInt8):=zar N i.1 i.2 v.1 v.2 (fun out x19=>(r (out,x19))) (fun a0=>(K (.exit 0) (mkS [(3,.box zen)] 38 (a0,()))))
def z17k (N:Nat):Hd (List UInt8):=fun st K=>(unS [(3,.box zen),(13,.v (.sl zgo)),(0,.v (.int .i64)),(0,.v (.int .i64))] 22 (restr [19,18,17,3] 0 st)).bind fun x=>iter (fun v r=>z17t N ((fun x=>(x.2.1,x.2.2.1)) x) v r K) N ((fun x=>(x.1,x.2.2.2.1)) x)
def z1h0 (N:Nat):Tab (List UInt8):=[]
theorem z19z {N:Nat}{c:Ctx}(hb:Base Tryz.prog (z16v N) c):zw Tryz.prog c (zk zqz PQ8) (z17k N) :=
 z1v (s:=[(3,.box zen),(13,.v (.sl zgo)),(0,.v (.int .i64)),(0,.v (.int .i64))]) (m:=22) (z17t N) [19,18,17,3] N (fun x=>(x.2.1,x.2.2.1)) (fun x=>(x.1,x.2.2.2.1)) (fun i v=>(v.1,i.1,i.2,v.2,())) (fun _=>rfl) (zf hb N (z1h0 N) z1eg zqz TabOk.nil z1eb _ rfl) (fun i v r K=>by kernel_rfl)
def z9w (N:Nat)(t:DT6):Option (List UInt8):=(z1k N t.1).bind fun y=>(zh N ((),([],())) y).bind fun y1=>(z1z N (IntKind.wrap IntKind.u64 (List.length t.2.1:Int))).bind fun y2=>(zh N y1.2.1 y2).bind fun y3=>zas N y3.2.1 t.2.1 (List.length t.2.1:Int) 0 (fun out=>(zii (out,())).bind fun y4=>some y4.1)
def z1go (N:Nat):Tab (List UInt8):=[(PQ8,z17k N)]
theorem z15e (N:Nat)(x:z1b [(0,.v TT1)]):z2b (z16v N) N (z1go N) z1eg Tryz.f62 (mkS [(0,.v TT1)] 0 x) (z1c (.v .str) 1)=z9w N x.1:=by kernel_rfl
def zez (N:Nat):List A->Res:=z11 [(0,.v TT1)] (fun x=>z9w N x.1) (z2i (.v .str) 1)
theorem zpf (N:Nat):Contract Tryz.prog glob 62 (zez N) :=
 Contract.of (E:=z16v N) (H:=z1go N) (L:=z1eg) (N:=N) (body:=zqz) (K:=(z1c (.v .str) 1)) (z1em N) Tryz.func62 (by kernel_rfl) (by decide) (fun _ hb=>(TabOk.cons (z19z hb) TabOk.nil)) (fun x y h=>by rw[z15e];exact h) (zm (s:=(.v .str)) (m:=1))
def z161:Code:=(Tryz.f44.body).getD .skip
def z1nm:List (List Nat×List Nat):=[([0],[1]),([0,0,1],[4,1]),([0,1,0,1],[9,4,1]),([1,1,0,1],[1]),([0,0,1,1,0,1],[2,3]),([1,0,1,1,0,1],[2,3]),([0,1,1],[2,3]),([1,1,1],[2,3])]
def z1ex (N:Nat):Env:=z14 tys glob [(62,zez N),(60,zc3 N),(61,zcy N)] [] [] [] false [] [(102,zi N),(79,zd N),(108,z8 N)]
theorem z1el (N:Nat):EnvOk Tryz.prog (z1ex N):=ze mixed zq (FnsOk.cons (zpf N) (FnsOk.cons (zl5 N) (FnsOk.cons (znl N) (FnsOk.nil)))) (ItsOk.cons (zj N) (ItsOk.cons (zg N) (ItsOk.cons (zb N) (ItsOk.nil))))
def z9x (N:Nat)(t:DT6):Option ((List UInt8)×Int×Unit):=(z83 N t).bind fun y=>(zcx N y).bind fun y1=>cond (y1 != 0) (some ([],(y1,()))) ((z9w N t).bind fun y2=>cond (decide (((List.length y2)+(List.length t.2.2.1))<=9223372036854775807)) (some ((y2++t.2.2.1),(0,()))) none)
def z1gn (N:Nat):Tab ((List UInt8)×Int×Unit):=[]
theorem z15d (N:Nat)(x:z1b [(0,.v TT1)]):z2b (z1ex N) N (z1gn N) z1nm Tryz.f44 (mkS [(0,.v TT1)] 0 x) (z1c (.tup [.str,(.int .i64)]) 1)=z9x N x.1:=by kernel_rfl
def zpg (N:Nat):List A->Res:=z11 [(0,.v TT1)] (fun x=>z9x N x.1) (z2i (.tup [.str,(.int .i64)]) 1)
theorem zrc (N:Nat):Contract Tryz.prog glob 44 (zpg N) :=
 Contract.of (E:=z1ex N) (H:=z1gn N) (L:=z1nm) (N:=N) (body:=z161) (K:=(z1c (.tup [.str,(.int .i64)]) 1)) (z1el N) Tryz.func44 (by kernel_rfl) (by decide) (fun _ hb=>TabOk.nil) (fun x y h=>by rw[z15d];exact h) (zm (s:=(.tup [.str,(.int .i64)])) (m:=1))
end
end Go.Proofs.YthdblfmolchhpaaGreatDoorLg
set_option linter.all false
set_option maxRecDepth 100000
namespace Go.Lift
noncomputable section
def BSt (t:T)(w0:World)(S0:Hp)(ob0:List Nat)(bf:Nat)(w:World)(x:t.den)(L:List (Nat×Array Value×Nat)):Prop:=∃ S o,WF w0 (fun k=>k∈ob0) w/\Sub S0 S/\Sub S (hp w)/\(∀ k,S k≠none->S0 k≠none\/k∈ob0\/w0.heap.size<=k)/\ARel (hp w) S (fun _=>undef) (.box t x) (.pointer (some ⟨bf,0,none⟩)) o/\o.Nodup ∧ (∀ k∈o,S k=none/\(k∈ob0\/w0.heap.size<=k))/\∀ p∈L,S p.1=none/\p.1∉o/\w0.heap.size<=p.1/\w.heap[p.1]?=some (.cells p.2.1 p.2.2 (0,0))
variable {P:Program} {glob:Nat->Option Dat} {t:T} {w0 w:World} {S0:Hp} {ob0:List Nat} {bf:Nat} {x:t.den} {L:List (Nat×Array Value×Nat)}
theorem BSt.lt (h:BSt t w0 S0 ob0 bf w x L):∀ p∈L,p.1<w.heap.size:=by
 obtain⟨S,o,_,_,_,_,_,_,_,hL⟩:=h;exact fun p hp=>(Array.getElem?_eq_some_iff.1 (hL p hp).2.2.2).1
theorem BSt.drew (h:BSt t w0 S0 ob0 bf w x L):BSt t w0 S0 ob0 bf w.drew x L:=by
 obtain⟨S,o,k1,k2⟩:=h;exact⟨S,o,⟨k1.size,k1.same,k1.tape,k1.os,k1.output⟩,k2⟩
theorem BSt.cell (h:BSt t w0 S0 ob0 bf w x L){p:Nat}{cs:Array Value}{E i:Nat}{v:Value}(hm:(p,cs,E)∈L)(hi:cs[i]?=some v):w.cell? ⟨p,i,none⟩=some v:=by
 obtain⟨S,o,_,_,_,_,_,_,_,hL⟩:=h;have:=(hL _ hm).2.2.2;simp only at this;simp[World.cell?,this,hi]
theorem BSt.plain {f:FuncId}{g:List A->Res}(ct:Contract P glob f g)(hg:∀ S,GlobOk glob S)(h:BSt t w0 S0 ob0 bf w x L){args:List A}{vals:List Value}
 (hrel:∀ S,Sub S (hp w)->ArgsRel (hp w) S args vals (fun _=>[])) {y:(g args).X} (hy:(g args).val=some y) :
 Calls P f vals.toArray w fun e w'=>∃ v S' o',e=.returned v/\ARel (hp w') S' (fun _=>undef) ((g args).out y).1 v o'/\BSt t w0 S0 ob0 bf w' x L:=by
 have h':=h;obtain⟨S,o,h1,h2,h3,h4,h5,h6,h7,hL⟩:=h';refine ((ct.2 w S args vals _ (hrel S h3) h3 (hg S) y hy)).mono ?_;rintro e w' ⟨v,S',q,ob',rfl,hwf,hSS,hSw,hnew,⟨hr,_⟩,_⟩;refine⟨v,S',q,rfl,hr,?_⟩;have hwf':WF w (fun _=>False) w':=⟨hwf.size,fun k hk _=>hwf.same k hk (by rintro⟨i,hi⟩;cases hi),hwf.tape,hwf.os,hwf.output⟩
 have hlt:∀ k∈o,k<w.heap.size:=fun k hk=>by
  obtain⟨ob,hob⟩:=h5.obj k hk;exact (Array.getElem?_eq_some_iff.1 hob.1).1
 have hnw:∀ k,k<w.heap.size->S' k≠none->S k≠none:=fun k hk hs=>by
  rcases hnew k hs with h|⟨i,hi⟩|h
  . exact h
  . cases hi
  . omega
 refine⟨S',o,h1.trans hwf' (fun _ h=>h.elim),h2.trans hSS,hSw,fun k hk=>?_,?_,h6,fun k hk=>⟨?_,(h7 k hk).2⟩,fun p hp=>?_⟩
 . rcases hnew k hk with h|⟨i,hi⟩|h
   . exact h4 k h
   . cases hi
   . exact .inr (.inr (Nat.le_trans h1.size h))
 . obtain⟨b,cs,E,fr,bs,rfl,e1,e2,e3,e4⟩:=h5;refine⟨b,cs,E,fr,bs,rfl,e1,?_,e3,e4.mono hSS _ _ _ _ (fun k hk=>hwf'.same k (hlt k (by simp[hk])) (fun h=>h))⟩;have:=hwf'.same b (hlt b (by simp)) (fun h=>h);simp only[hp] at e2 ⊢;rw[this];exact e2
 . cases hs:S' k with
   | none=>rfl
   | some q=>exact absurd (h7 k hk).1 (hnw k (hlt k hk) (by rw[hs];simp))
 . obtain⟨p1,p2,p3,p4⟩:=hL p hp;have hl:=(Array.getElem?_eq_some_iff.1 p4).1;refine⟨?_,p2,p3,?_⟩
   . cases hs:S' p.1 with
     | none=>rfl
     | some q=>exact absurd p1 (hnw _ hl (by rw[hs];simp))
   . rw[hwf'.same p.1 hl (fun h=>h)];exact p4
theorem zxm {S:Hp}{v:Value}{o:List Nat}{args:List A}{vals:List Value}(h5:ARel (hp w) S (fun _=>undef) (.box t x) v o)(h6:o.Nodup)(h7:∀ k∈o,S k=none)(hr0:ArgsRel (hp w) S args vals (fun _=>[])) :
 ArgsRel (hp w) S (.box t x::args) (v::vals) (fun i=>if i=0 then o else []):=by
 refine⟨by simp[hr0.len],fun i q hq=>?_,fun i hi=>?_,fun i j b hi hj=>?_,fun i=>?_,fun i b hb=>?_⟩
 . cases i with
   | zero =>
     simp at hq;subst hq;exact⟨⟨_,rfl,by simpa using h5⟩,rfl⟩
   | succ i =>
     obtain⟨⟨v,hv,ha⟩,hrf⟩:=hr0.rel i q (by simpa using hq);exact⟨⟨v,by simpa using hv,by simpa using ha⟩,hrf⟩
 . rw[if_neg (by intro e;subst e;simp at hi)]
 . by_cases hi0:i=0<;>by_cases hj0:j=0<;>simp_all
 . by_cases hi0:i=0<;>simp[hi0,h6]
 . by_cases hi0:i=0
   . rw[if_pos hi0] at hb;exact h7 b hb
   . rw[if_neg hi0] at hb;cases hb
theorem BSt.alloc (h:BSt t w0 S0 ob0 bf w x L) (cs:Array Value) (E:Nat):BSt t w0 S0 ob0 bf (w.alloc (.cells cs E)) x ((w.heap.size,cs,E)::L):=by
 have hlt:=h.lt;obtain⟨S,o,h1,h2,h3,h4,h5,h6,h7,hL⟩:=h;have hh:(w.alloc (.cells cs E)).heap=w.heap.push (.cells cs E (0,0)):=rfl;have hk:∀ k,k<w.heap.size->(w.alloc (.cells cs E)).heap[k]?=w.heap[k]?:=fun k hk=>by
  rw[hh,Array.getElem?_push,if_neg (by omega)]
 have hol:∀ k∈o,k<w.heap.size:=fun k hk=>by
  obtain⟨ob,hob⟩:=h5.obj k hk;exact (Array.getElem?_eq_some_iff.1 hob.1).1
 refine⟨S,o,⟨by rw[hh,Array.size_push];have:=h1.size;omega,fun k h1' h2'=>by rw[hk k (by have:=h1.size;omega)];exact h1.same k h1' h2',h1.tape,h1.os,h1.output⟩,h2,fun k q ho=>?_,h4,?_,h6,h7,fun p hpm=>?_⟩
 . have:=h3 k q ho;simp only[hp] at this ⊢;rw[hk k (Array.getElem?_eq_some_iff.1 this).1];exact this
 . obtain⟨b,c1,E',fr,bs,rfl,e1,e2,e3,e4⟩:=h5;refine⟨b,c1,E',fr,bs,rfl,e1,?_,e3,e4.mono (Sub.refl _) _ _ _ _ (fun k hkm=>hk k (hol k (by simp[hkm])))⟩;simp only[hp] at e2 ⊢;rw[hk b (hol b (by simp))];exact e2
 . rcases List.mem_cons.1 hpm with rfl|hpm
   . refine⟨?_,fun hm=>absurd (hol _ hm) (by simp),h1.size,?_⟩
     . cases hs:S w.heap.size with
       | none=>rfl
       | some q =>
         have:=h3 _ _ hs;simp only[hp] at this;have:=(Array.getElem?_eq_some_iff.1 this).1;omega
     . simp only;rw[hh,Array.getElem?_push,if_pos rfl]
   . obtain⟨p1,p2,p3,p4⟩:=hL p hpm;exact⟨p1,p2,p3,by rw[hk p.1 (hlt p hpm)];exact p4⟩
theorem BSt.put {p:Nat}{cs:Array Value}{E:Nat}(h:BSt t w0 S0 ob0 bf w x ((p,cs,E)::L))(hd:∀ q∈L,q.1≠p){w':World}{cs':Array Value}(hw:w'=z19 w p (.cells cs' E (0,0))):BSt t w0 S0 ob0 bf w' x ((p,cs',E)::L):=by
 obtain⟨S,o,h1,h2,h3,h4,h5,h6,h7,hL⟩:=h;obtain⟨q1,q2,q3,q4⟩:=hL (p,cs,E) (List.mem_cons_self ..);simp only at q1 q2 q3 q4;have hne:∀ k,k≠p->w'.heap[k]?=w.heap[k]?:=fun k hk=>by
  have:=zp (w:=w) (o:=.cells cs' E (0,0)) hk;rw[hw];exact this
 have hsz:w'.heap.size=w.heap.size:=by rw[hw];simp[z19]
 refine⟨S,o,⟨by rw[hsz];exact h1.size,fun k h1' h2'=>by rw[hne k (by omega)];exact h1.same k h1' h2',by rw[hw];exact h1.tape,by rw[hw];exact h1.os,by rw[hw];exact h1.output⟩,h2,fun k q ho=>?_,h4,?_,h6,h7,fun u hu=>?_⟩
 . have hk:k≠p:=fun e=>by rw[e,q1] at ho;cases ho
   have:=h3 k q ho;simp only[hp] at this ⊢;rw[hne k hk];exact this
 . obtain⟨b,c1,E',fr,bs,rfl,e1,e2,e3,e4⟩:=h5;refine⟨b,c1,E',fr,bs,rfl,e1,?_,e3,e4.mono (Sub.refl _) _ _ _ _ (fun k hkm=>hne k (fun e=>q2 (by simp[<- e,hkm])))⟩;simp only[hp] at e2 ⊢;rw[hne b (fun e=>q2 (by simp[<- e]))];exact e2
 . rcases List.mem_cons.1 hu with rfl|hu
   . refine⟨q1,q2,q3,?_⟩;rw[hw];exact z1m q4
   . obtain⟨p1,p2,p3,p4⟩:=hL u (List.mem_cons_of_mem _ hu);exact⟨p1,p2,p3,by rw[hne u.1 (hd u hu)];exact p4⟩
theorem BSt.setCell {p:Nat}{cs:Array Value}{E:Nat}(h:BSt t w0 S0 ob0 bf w x ((p,cs,E)::L))(hd:∀ q∈L,q.1≠p)(i:Nat)(v:Value) :
 BSt t w0 S0 ob0 bf (w.setCell ⟨p,i,none⟩ v) x ((p,cs.setIfInBounds i v,E)::L):=by
 have hb:hp w p=some (.cells cs E (0,0)):=by
  obtain⟨S,o,_,_,_,_,_,_,_,hL⟩:=h;exact (hL _ (List.mem_cons_self ..)).2.2.2
 exact h.put hd (zed v hb)
theorem BSt.start {args:List A}{vals:List Value}{ob:Nat->List Nat}(har:ArgsRel (hp w) S0 (.box t x::args) vals ob)(hS:Sub S0 (hp w)) :
 ∃ bf vs,vals=.pointer (some ⟨bf,0,none⟩)::vs/\ob 0≠[]/\BSt t w S0 (ob 0) bf w x []:=by
 obtain⟨⟨v,hv,hr⟩,_⟩:=har.rel 0 _ rfl;have hr':=hr;obtain⟨b,cs,E,fr,bs,hob,rfl,_⟩:=hr';cases vals with
 | nil=>cases hv
 | cons v vs =>
   cases hv;exact⟨b,vs,rfl,by rw[hob];simp,S0,ob 0,WF.refl _ _,Sub.refl _,hS,fun _ h=>.inl h,hr,har.nd 0,fun k hk=>⟨har.hid 0 k hk,.inl hk⟩,fun p hp=>by cases hp⟩
end
end Go.Lift
