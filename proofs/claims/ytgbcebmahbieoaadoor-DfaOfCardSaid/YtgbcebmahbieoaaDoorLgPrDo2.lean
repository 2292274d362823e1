import Derived.Test.YtgbcebmahbieoaaDoorLgPrDo1
import Derived.Test.YtgbcebmahbieoaaDoorLgW
set_option linter.all false
set_option maxRecDepth 100000
namespace Go.Proofs.YtgbcebmahbieoaaDoorLg
noncomputable section
open Go Go.Lift
def E_36 (N:Nat):Env:=z1c tys glob [] [] [] [] false [] [(76,z7 N)]
theorem z24k (N:Nat):EnvOk Tryd.prog (E_36 N):=zi mixed zn (FnsOk.nil) (ItsOk.cons (za N) (ItsOk.nil))
def z4b (N:Nat)(l:(List Int))(n:Int)(i:Int)(rec:Int->Option Bool)(k0:Bool->Option Bool)(k1:Option Bool):Option Bool:=cond (decide (i<(List.length l:Int))) (cond (inR i (List.length l)) (cond ((List.getD l (Int.toNat i) 0) == n) (k0 true) (rec (IntKind.wrap IntKind.i64 (i+1)))) none) k1
def zh5 (N:Nat)(l:(List Int))(n:Int)(i:Int)(k0:Bool->Option Bool)(k1:Option Bool):Option Bool:=iter (fun (v:Int) r=>z4b N l n v (fun i=>(r i)) k0 k1) N i
def z210 (N:Nat)(i:((List Int)×Int))(v:Int)(r:Int->Option Bool)(K:Ex->List A->Option Bool):Option Bool:=z4b N i.1 i.2 v (fun i=>(r i)) (fun a0=>(K .ret (mkS [(4,.v .bool)] 13 (a0,())))) (K (.exit 0) (mkS [] 18 ()))
def z1wv (N:Nat):Hd Bool:=fun st K=>(unS z162 12 (restr [5,0,1] 0 st)).bind fun x=>iter (fun v r=>z210 N ((fun x=>(x.1,x.2.1)) x) v r K) N ((fun x=>x.2.2.1) x)
def t1_36 (N:Nat):Tab Bool:=[]
theorem z1s6 {N:Nat}{c:Ctx}(hb:Base Tryd.prog (E_36 N) c):zj Tryd.prog c (zh z11z [0,1,0,1]) (z1wv N) :=
 zu (s:=z162) (m:=12) (z210 N) [5,0,1] N (fun x=>(x.1,x.2.1)) (fun x=>x.2.2.1) (fun i v=>(i.1,i.2,v,())) (fun _=>rfl) (zd hb N (t1_36 N) L_36 z11z TabOk.nil [0,0,1,0,1] _ rfl) (fun i v r K=>by kernel_rfl)
def z6r (N:Nat)(l:(List Int))(n:Int):Option Bool:=zh5 N l n 0 (fun x4=>some x4) (some false)
def t_36 (N:Nat):Tab Bool:=[([0,1,0,1],z1wv N)]
theorem z1j3 (N:Nat)(x:z15 z12c):z4u (E_36 N) N (t_36 N) L_36 Tryd.f53 (mkS z12c 0 x) (z2l (.v .bool) 2)=z6r N x.1 x.2.1:=by kernel_rfl
def zg4 (N:Nat):List A->Res:=zz z12c (fun x=>z6r N x.1 x.2.1) (z6n (.v .bool) 2)
theorem zou (N:Nat):Contract Tryd.prog glob 53 (zg4 N) :=
 Contract.of (E:=E_36 N) (H:=t_36 N) (L:=L_36) (N:=N) (body:=z11z) (K:=(z2l (.v .bool) 2)) (z24k N) Tryd.func53 (by kernel_rfl) (by decide) (fun _ hb=>(TabOk.cons (z1s6 hb) TabOk.nil)) (fun x y h=>by rw[z1j3];exact h) (z13 (s:=(.v .bool)) (m:=2))
def zn2:Code:=(Tryd.f28.body).getD .skip
def z22l:List (List Nat×List Nat):=[([0],[2,0,1]),([0,1],[2,0,1,7]),([0,0,1,1],[8,2,0,1,7]),([0,1,0,1,1],[8,2,0,1,7]),(zzj,[11,0,8,1,7,2]),(zzi,[0,8,1,7,2]),(z1fb,[7]),(z1d8,[21,7,8,2,0,1]),(z16i,[8,2,0,1,7]),([0,1,0,0,1,0,0,1,0,1,1],[8,2,0,1,7]),(zqy,[8,2,0,1,7]),(zzh,[8,2,0,1,7]),([1,0,1,1],[7]),([0,1,1,1],[6]),([1,1,1,1],[6])]
def z1n4 (N:Nat):Env:=z1c tys glob [(53,zg4 N)] [(7,(.int .i64)),(6,(.int .i64))] [] [] false [] [(76,z7 N)]
theorem z24j (N:Nat):EnvOk Tryd.prog (z1n4 N):=zi mixed zn (FnsOk.cons (zou N) (FnsOk.nil)) (ItsOk.cons (za N) (ItsOk.nil))
def z9f (N:Nat)(a:(List Int))(b:(List Int))(many:Int)(out:(List Int))(n:Int)(k0:Bool->Option (List Int)):Option (List Int):=(z6r N a n).bind fun y=>cond y (k0 true) ((z6r N b n).bind fun y1=>k0 y1)
def z1yf (N:Nat)(x:z15 z1d6)(K:Ex->List A->Option (List Int)):Option (List Int):=z9f N x.1 x.2.1 x.2.2.1 x.2.2.2.1 x.2.2.2.2.1 (fun a5=>(K .normal (mkS [(0,.v (.sl (.int .i64))),(0,.v (.sl (.int .i64))),(0,.v (.int .i64)),(4,.row (.int .i64)),(0,.v (.int .i64)),(12,.v .bool)] 5 (x.1,x.2.1,x.2.2.1,x.2.2.2.1,x.2.2.2.2.1,a5,()))))
def z1ua (N:Nat):Hd (List Int):=fun st K=>(unS z1d6 18 (restr [0,8,1,7,2] 0 st)).bind fun x=>z1yf N x K
def t3_37 (N:Nat):Tab (List Int):=[]
theorem z1pl {N:Nat}{c:Ctx}(hb:Base Tryd.prog (z1n4 N) c):zj Tryd.prog c (zh zn2 z1d8) (z1ua N) :=
 zk (s:=z1d6) (m:=18) (g:=z1yf N) [0,8,1,7,2] (zd hb N (t3_37 N) z22l zn2 TabOk.nil z1d8 _ rfl) (fun x K=>by kernel_rfl)
def z9g (N:Nat)(a:(List Int))(b:(List Int))(many:Int)(out:(List Int))(n:Int)(k0:(List Int)->Option (List Int)):Option (List Int):=z9f N a b many out n (fun x21=>cond x21 (cond (decide ((((List.length out)+1)*8)<=70368744177664)) (k0 (out++([n]:List Int))) none) (k0 out))
def z1z9 (N:Nat)(x:z15 z1d6)(K:Ex->List A->Option (List Int)):Option (List Int):=z9g N x.1 x.2.1 x.2.2.1 x.2.2.2.1 x.2.2.2.2.1 (fun a3=>(K .normal (mkS z1d6 18 (x.1,x.2.1,x.2.2.1,a3,x.2.2.2.2.1,()))))
def z1v4 (N:Nat):Hd (List Int):=fun st K=>(unS z1d6 18 (restr [0,8,1,7,2] 0 st)).bind fun x=>z1z9 N x K
def t2_37 (N:Nat):Tab (List Int):=[(z1d8,z1ua N)]
theorem z1qf {N:Nat}{c:Ctx}(hb:Base Tryd.prog (z1n4 N) c):zj Tryd.prog c (zh zn2 zqy) (z1v4 N) :=
 zk (s:=z1d6) (m:=18) (g:=z1z9 N) [0,8,1,7,2] (zd hb N (t2_37 N) z22l zn2 (TabOk.cons (z1pl hb) TabOk.nil) zqy _ rfl) (fun x K=>by kernel_rfl)
def z39 (N:Nat)(a:(List Int))(b:(List Int))(many:Int)(out:(List Int))(n:Int)(rec:(List Int)->Int->Option (List Int))(k0:(List Int)->Option (List Int)):Option (List Int):=cond (decide (n<many)) (z9g N a b many out n (fun out1=>rec out1 (IntKind.wrap IntKind.i64 (n+1)))) (k0 out)
def zf5 (N:Nat)(a:(List Int))(b:(List Int))(many:Int)(out:(List Int))(n:Int)(k0:(List Int)->Option (List Int)):Option (List Int):=iter (fun (v:((List Int)×Int)) r=>z39 N a b many v.1 v.2 (fun out n=>(r (out,n))) k0) N (out,n)
def z20z (N:Nat)(i:((List Int)×(List Int)×Int))(v:((List Int)×Int))(r:((List Int)×Int)->Option (List Int))(K:Ex->List A->Option (List Int)):Option (List Int):=z39 N i.1 i.2.1 i.2.2 v.1 v.2 (fun out n=>(r (out,n))) (fun a0=>(K (.exit 0) (mkS [(7,.row (.int .i64))] 19 (a0,()))))
def z1wu (N:Nat):Hd (List Int):=fun st K=>(unS z1d6 18 (restr [8,2,0,1,7] 0 st)).bind fun x=>iter (fun v r=>z20z N ((fun x=>(x.1,x.2.1,x.2.2.1)) x) v r K) N ((fun x=>(x.2.2.2.1,x.2.2.2.2.1)) x)
def t1_37 (N:Nat):Tab (List Int):=[(zqy,z1v4 N)]
theorem z1s5 {N:Nat}{c:Ctx}(hb:Base Tryd.prog (z1n4 N) c):zj Tryd.prog c (zh zn2 [0,1,0,1,1]) (z1wu N) :=
 zu (s:=z1d6) (m:=18) (z20z N) [8,2,0,1,7] N (fun x=>(x.1,x.2.1,x.2.2.1)) (fun x=>(x.2.2.2.1,x.2.2.2.2.1)) (fun i v=>(i.1,i.2.1,i.2.2,v.1,v.2,())) (fun _=>rfl) (zd hb N (t1_37 N) z22l zn2 (TabOk.cons (z1qf hb) TabOk.nil) [0,0,1,0,1,1] _ rfl) (fun i v r K=>by kernel_rfl)
def z6m (N:Nat)(a:(List Int))(b:(List Int))(many:Int):Option (List Int):=zf5 N a b many [] 0 (fun out=>some out)
def t_37 (N:Nat):Tab (List Int):=[([0,1,0,1,1],z1wu N)]
theorem z1j2 (N:Nat)(x:z15 z1la):z4u (z1n4 N) N (t_37 N) z22l Tryd.f28 (mkS z1la 0 x) (z2l (.v (.sl (.int .i64))) 3)=z6m N x.1 x.2.1 x.2.2.1:=by kernel_rfl
def zdz (N:Nat):List A->Res:=zz z1la (fun x=>z6m N x.1 x.2.1 x.2.2.1) (z6n (.v (.sl (.int .i64))) 3)
theorem zmn (N:Nat):Contract Tryd.prog glob 28 (zdz N) :=
 Contract.of (E:=z1n4 N) (H:=t_37 N) (L:=z22l) (N:=N) (body:=zn2) (K:=(z2l (.v (.sl (.int .i64))) 3)) (z24j N) Tryd.func28 (by kernel_rfl) (by decide) (fun _ hb=>(TabOk.cons (z1s5 hb) TabOk.nil)) (fun x y h=>by rw[z1j2];exact h) (z13 (s:=(.v (.sl (.int .i64)))) (m:=3))
def z11y:Code:=(Tryd.f30.body).getD .skip
def L_38:List (List Nat×List Nat):=[([0],[0,1]),([0,0,1],[5,0,1]),([0,1,0,1],[5,0,1]),([0,0,0,0,1,0,1],[9,0,5,1]),([1,0,0,0,1,0,1],[0,5,1]),(z1a8,[]),(zzg,[17,5,0,1]),(z1ac,[5,0,1]),(z1af,[4]),(z1ae,[4]),(z14i,[5,0,1]),([1,1,0,0,1,0,1],[5,0,1]),([1,0,1],[]),([0,1,1],[4]),([1,1,1],[4])]
def E_38 (N:Nat):Env:=z1c tys glob [] [] [] [] false [] [(76,z7 N)]
theorem z24i (N:Nat):EnvOk Tryd.prog (E_38 N):=zi mixed zn (FnsOk.nil) (ItsOk.cons (za N) (ItsOk.nil))
def z7u (N:Nat)(l:(List Int))(n:Int)(i:Int)(rec:Int->Option Bool)(k0:Bool->Option Bool)(k1:Option Bool):Option Bool:=cond (decide (i<(List.length l:Int))) (cond (inR i (List.length l)) (cond ((List.getD l (Int.toNat i) 0) == n) (k0 true) (rec (IntKind.wrap IntKind.i64 (i+1)))) none) k1
def zh0 (N:Nat)(l:(List Int))(n:Int)(i:Int)(k0:Bool->Option Bool)(k1:Option Bool):Option Bool:=iter (fun (v:Int) r=>z7u N l n v (fun i=>(r i)) k0 k1) N i
def z20y (N:Nat)(i:((List Int)×Int))(v:Int)(r:Int->Option Bool)(K:Ex->List A->Option Bool):Option Bool:=z7u N i.1 i.2 v (fun i=>(r i)) (fun a0=>(K .ret (mkS [(4,.v .bool)] 13 (a0,())))) (K (.exit 0) (mkS [] 18 ()))
def z1wt (N:Nat):Hd Bool:=fun st K=>(unS z162 12 (restr [5,0,1] 0 st)).bind fun x=>iter (fun v r=>z20y N ((fun x=>(x.1,x.2.1)) x) v r K) N ((fun x=>x.2.2.1) x)
def t1_38 (N:Nat):Tab Bool:=[]
theorem z1s4 {N:Nat}{c:Ctx}(hb:Base Tryd.prog (E_38 N) c):zj Tryd.prog c (zh z11y [0,1,0,1]) (z1wt N) :=
 zu (s:=z162) (m:=12) (z20y N) [5,0,1] N (fun x=>(x.1,x.2.1)) (fun x=>x.2.2.1) (fun i v=>(i.1,i.2,v,())) (fun _=>rfl) (zd hb N (t1_38 N) L_38 z11y TabOk.nil [0,0,1,0,1] _ rfl) (fun i v r K=>by kernel_rfl)
def z95 (N:Nat)(l:(List Int))(n:Int):Option Bool:=zh0 N l n 0 (fun x4=>some x4) (some false)
def t_38 (N:Nat):Tab Bool:=[([0,1,0,1],z1wt N)]
theorem z1j1 (N:Nat)(x:z15 z12c):z4u (E_38 N) N (t_38 N) L_38 Tryd.f30 (mkS z12c 0 x) (z2l (.v .bool) 2)=z95 N x.1 x.2.1:=by kernel_rfl
def zg1 (N:Nat):List A->Res:=zz z12c (fun x=>z95 N x.1 x.2.1) (z6n (.v .bool) 2)
theorem zor (N:Nat):Contract Tryd.prog glob 30 (zg1 N) :=
 Contract.of (E:=E_38 N) (H:=t_38 N) (L:=L_38) (N:=N) (body:=z11y) (K:=(z2l (.v .bool) 2)) (z24i N) Tryd.func30 (by kernel_rfl) (by decide) (fun _ hb=>(TabOk.cons (z1s4 hb) TabOk.nil)) (fun x y h=>by rw[z1j1];exact h) (z13 (s:=(.v .bool)) (m:=2))
def z11x:Code:=(Tryd.f33.body).getD .skip
def L_39:List (List Nat×List Nat):=[([0],[0,1]),([0,0,1],[10,0,1]),([1,0,1],[0,1]),([0,0,1,0,1],[4]),([1,0,1,0,1],[4]),([0,0,1,1],[5,0,1]),([0,1,0,1,1],[5,0,1]),(zzj,[14,0,5,1]),(zzi,[0,5,1]),(z1fb,[]),(z1d8,[25,5,0,1]),(z16i,[5,0,1]),(z1dm,[4]),(z1dl,[4]),(zqy,[5,0,1]),(zzh,[5,0,1]),([1,0,1,1],[]),([0,1,1,1],[4]),([1,1,1,1],[4])]
def E_39 (N:Nat):Env:=z1c tys glob [] [] [] [] false [] [(76,z7 N)]
theorem z24h (N:Nat):EnvOk Tryd.prog (E_39 N):=zi mixed zn (FnsOk.nil) (ItsOk.cons (za N) (ItsOk.nil))
def z4t (N:Nat)(a:(List Int))(b:(List Int))(i:Int)(rec:Int->Option Bool)(k0:Bool->Option Bool)(k1:Option Bool):Option Bool:=cond (decide (i<(List.length a:Int))) (cond (inR i (List.length a)) (cond (inR i (List.length b)) (cond ((List.getD a (Int.toNat i) 0) != (List.getD b (Int.toNat i) 0)) (k0 false) (rec (IntKind.wrap IntKind.i64 (i+1)))) none) none) k1
def zbg (N:Nat)(a:(List Int))(b:(List Int))(i:Int)(k0:Bool->Option Bool)(k1:Option Bool):Option Bool:=iter (fun (v:Int) r=>z4t N a b v (fun i=>(r i)) k0 k1) N i
def z20x (N:Nat)(i:((List Int)×(List Int)))(v:Int)(r:Int->Option Bool)(K:Ex->List A->Option Bool):Option Bool:=z4t N i.1 i.2 v (fun i=>(r i)) (fun a0=>(K .ret (mkS [(4,.v .bool)] 21 (a0,())))) (K (.exit 0) (mkS [] 26 ()))
def z1ws (N:Nat):Hd Bool:=fun st K=>(unS [(0,.v (.sl (.int .i64))),(0,.v (.sl (.int .i64))),(3,.v (.int .i64))] 20 (restr [5,0,1] 0 st)).bind fun x=>iter (fun v r=>z20x N ((fun x=>(x.1,x.2.1)) x) v r K) N ((fun x=>x.2.2.1) x)
def t1_39 (N:Nat):Tab Bool:=[]
theorem z1s3 {N:Nat}{c:Ctx}(hb:Base Tryd.prog (E_39 N) c):zj Tryd.prog c (zh z11x [0,1,0,1,1]) (z1ws N) :=
 zu (s:=[(0,.v (.sl (.int .i64))),(0,.v (.sl (.int .i64))),(3,.v (.int .i64))]) (m:=20) (z20x N) [5,0,1] N (fun x=>(x.1,x.2.1)) (fun x=>x.2.2.1) (fun i v=>(i.1,i.2,v,())) (fun _=>rfl) (zd hb N (t1_39 N) L_39 z11x TabOk.nil [0,0,1,0,1,1] _ rfl) (fun i v r K=>by kernel_rfl)
def z2o (N:Nat)(a:(List Int))(b:(List Int)):Option Bool:=cond ((List.length a:Int) != (List.length b:Int)) (some false) (zbg N a b 0 (fun x4=>some x4) (some true))
def t_39 (N:Nat):Tab Bool:=[([0,1,0,1,1],z1ws N)]
theorem z1j0 (N:Nat)(x:z15 z1mh):z4u (E_39 N) N (t_39 N) L_39 Tryd.f33 (mkS z1mh 0 x) (z2l (.v .bool) 2)=z2o N x.1 x.2.1:=by kernel_rfl
def z40 (N:Nat):List A->Res:=zz z1mh (fun x=>z2o N x.1 x.2.1) (z6n (.v .bool) 2)
theorem z6y (N:Nat):Contract Tryd.prog glob 33 (z40 N) :=
 Contract.of (E:=E_39 N) (H:=t_39 N) (L:=L_39) (N:=N) (body:=z11x) (K:=(z2l (.v .bool) 2)) (z24h N) Tryd.func33 (by kernel_rfl) (by decide) (fun _ hb=>(TabOk.cons (z1s3 hb) TabOk.nil)) (fun x y h=>by rw[z1j0];exact h) (z13 (s:=(.v .bool)) (m:=2))
def z11w:Code:=(Tryd.f31.body).getD .skip
def L_40:List (List Nat×List Nat):=[([0],[0,1]),([0,0,1],[5,0,1]),([0,1,0,1],[5,0,1]),([0,0,0,0,1,0,1],[9,0,5,1]),([1,0,0,0,1,0,1],[0,5,1]),(z1a8,[]),(zzg,[17,5,0,1]),(z1ac,[5,0,1]),(z1af,[4]),(z1ae,[4]),(z14i,[5,0,1]),([1,1,0,0,1,0,1],[5,0,1]),([1,0,1],[]),([0,1,1],[4]),([1,1,1],[4])]
def E_40 (N:Nat):Env:=z1c tys glob [(33,z40 N)] [] [] [] false [] [(76,z7 N)]
theorem z24g (N:Nat):EnvOk Tryd.prog (E_40 N):=zi mixed zn (FnsOk.cons (z6y N) (FnsOk.nil)) (ItsOk.cons (za N) (ItsOk.nil))
def z37 (N:Nat)(l:(List (List Int)))(x1:(List Int))(i:Int)(rec:Int->Option Int)(k0:Int->Option Int)(k1:Option Int):Option Int:=cond (decide (i<(List.length l:Int))) (cond (inR i (List.length l)) ((z2o N (List.getD l (Int.toNat i) []) x1).bind fun y=>cond y (k0 i) (rec (IntKind.wrap IntKind.i64 (i+1)))) none) k1
def zf4 (N:Nat)(l:(List (List Int)))(x1:(List Int))(i:Int)(k0:Int->Option Int)(k1:Option Int):Option Int:=iter (fun (v:Int) r=>z37 N l x1 v (fun i=>(r i)) k0 k1) N i
def z20w (N:Nat)(i:((List (List Int))×(List Int)))(v:Int)(r:Int->Option Int)(K:Ex->List A->Option Int):Option Int:=z37 N i.1 i.2 v (fun i=>(r i)) (fun a0=>(K .ret (mkS [(4,.v (.int .i64))] 14 (a0,())))) (K (.exit 0) (mkS [] 19 ()))
def z1wr (N:Nat):Hd Int:=fun st K=>(unS [(0,.v (.sl (.sl (.int .i64)))),(0,.v (.sl (.int .i64))),(3,.v (.int .i64))] 13 (restr [5,0,1] 0 st)).bind fun x=>iter (fun v r=>z20w N ((fun x=>(x.1,x.2.1)) x) v r K) N ((fun x=>x.2.2.1) x)
def t1_40 (N:Nat):Tab Int:=[]
theorem z1s2 {N:Nat}{c:Ctx}(hb:Base Tryd.prog (E_40 N) c):zj Tryd.prog c (zh z11w [0,1,0,1]) (z1wr N) :=
 zu (s:=[(0,.v (.sl (.sl (.int .i64)))),(0,.v (.sl (.int .i64))),(3,.v (.int .i64))]) (m:=13) (z20w N) [5,0,1] N (fun x=>(x.1,x.2.1)) (fun x=>x.2.2.1) (fun i v=>(i.1,i.2,v,())) (fun _=>rfl) (zd hb N (t1_40 N) L_40 z11w TabOk.nil [0,0,1,0,1] _ rfl) (fun i v r K=>by kernel_rfl)
def z6k (N:Nat)(l:(List (List Int)))(x1:(List Int)):Option Int:=zf4 N l x1 1 (fun x4=>some x4) (some (-1))
def t_40 (N:Nat):Tab Int:=[([0,1,0,1],z1wr N)]
theorem z1iz (N:Nat)(x:z15 z1l4):z4u (E_40 N) N (t_40 N) L_40 Tryd.f31 (mkS z1l4 0 x) (z2l (.v (.int .i64)) 2)=z6k N x.1 x.2.1:=by kernel_rfl
def zdt (N:Nat):List A->Res:=zz z1l4 (fun x=>z6k N x.1 x.2.1) (z6n (.v (.int .i64)) 2)
theorem zml (N:Nat):Contract Tryd.prog glob 31 (zdt N) :=
 Contract.of (E:=E_40 N) (H:=t_40 N) (L:=L_40) (N:=N) (body:=z11w) (K:=(z2l (.v (.int .i64)) 2)) (z24g N) Tryd.func31 (by kernel_rfl) (by decide) (fun _ hb=>(TabOk.cons (z1s2 hb) TabOk.nil)) (fun x y h=>by rw[z1iz];exact h) (z13 (s:=(.v (.int .i64))) (m:=2))
def z5j:Code:=(Tryd.f15.body).getD .skip
def z16v:List (List Nat×List Nat):=[([0],[2,4,1]),([0,0,1],[21,4,2,1]),([1,0,1],[2,1,4]),([0,0,1,0,1],[4,5]),([1,0,1,0,1],[4,5]),([0,1,1],[6,2,1,4]),([0,1,1,1],[2,7,6,1,4]),([0,1,1,1,1],[8,2,7,6,1,4]),(ztw,z12f),(zx5,z12f),([0,0,0,0,1,0,1,1,1,1,1],[37,9,2,8,7,6,1,4]),([1,0,0,0,1,0,1,1,1,1,1],[9,2,8,7,6,1,4]),([1,1,0,0,0,1,0,1,1,1,1,1],[6,4]),([0,0,0,1,0,0,1,0,1,1,1,1,1],[9,2,8,7,6,1,4,10]),([0,0,1,0,0,1,0,0,1,0,1,1,1,1,1],[41,2,8,9,7,6,1,4,10]),([1,0,1,0,0,1,0,0,1,0,1,1,1,1,1],[8,9,10,2,7,6,1,4]),([0,1,0,1,0,0,1,0,0,1,0,1,1,1,1,1],[8,9,10,2,7,6,1,4]),([0,0,1,1,0,0,1,0,0,1,0,1,1,1,1,1],z12m),(z1lk,z12m),([0,0,0,0,1,0,1,1,0,0,1,0,0,1,0,1,1,1,1,1],[50,10,2,8,9,11,7,6,1,4]),([1,0,0,0,1,0,1,1,0,0,1,0,0,1,0,1,1,1,1,1],[10,2,8,9,11,7,6,1,4]),([1,1,0,0,0,1,0,1,1,0,0,1,0,0,1,0,1,1,1,1,1],[7,6,10,2,8,1,4,9]),([0,0,1,0,0,1,0,1,1,0,0,1,0,0,1,0,1,1,1,1,1],z12m),([0,1,0,0,1,0,1,1,0,0,1,0,0,1,0,1,1,1,1,1],z12m),([1,1,0,0,1,0,1,1,0,0,1,0,0,1,0,1,1,1,1,1],z12m),([1,0,1,1,0,0,1,0,0,1,0,1,1,1,1,1],[7,6,10,2,8,1,4,9]),([0,1,1,1,0,0,1,0,0,1,0,1,1,1,1,1],[7,6,10,2,8,1,4,12,9]),([0,0,1,1,1,1,0,0,1,0,0,1,0,1,1,1,1,1],z12p),(z1lm,z12p),([0,0,0,0,1,0,1,1,1,1,0,0,1,0,0,1,0,1,1,1,1,1],[71,6,13,10,2,8,1,4,12,7,9]),([1,0,0,0,1,0,1,1,1,1,0,0,1,0,0,1,0,1,1,1,1,1],[6,13,10,2,8,1,4,12,7,9]),([1,1,0,0,0,1,0,1,1,1,1,0,0,1,0,0,1,0,1,1,1,1,1],[6,12,9,8,2,7,1,4]),([0,0,0,1,0,0,1,0,1,1,1,1,0,0,1,0,0,1,0,1,1,1,1,1],z16k),(PQ97,z16k),([0,0,0,0,0,1,0,0,1,0,0,1,0,1,1,1,1,0,0,1,0,0,1,0,1,1,1,1,1],[80,14,6,13,10,2,8,1,4,12,7,9]),([1,0,0,0,0,1,0,0,1,0,0,1,0,1,1,1,1,0,0,1,0,0,1,0,1,1,1,1,1],[14,6,13,10,2,8,1,4,12,7,9]),([1,1,0,0,0,0,1,0,0,1,0,0,1,0,1,1,1,1,0,0,1,0,0,1,0,1,1,1,1,1],[10,2,14,8,6,1,4,12,13,7,9]),([0,1,0,0,0,1,0,0,1,0,0,1,0,1,1,1,1,0,0,1,0,0,1,0,1,1,1,1,1],z16k),([1,0,0,0,1,0,0,1,0,0,1,0,1,1,1,1,0,0,1,0,0,1,0,1,1,1,1,1],z16k),([0,1,0,0,1,0,0,1,0,1,1,1,1,0,0,1,0,0,1,0,1,1,1,1,1],[10,2,14,8,6,1,4,12,13,7,9]),([0,1,1,0,0,1,0,0,1,0,1,1,1,1,0,0,1,0,0,1,0,1,1,1,1,1],[10,2,14,15,8,6,1,4,12,13,7,9]),([0,1,1,1,0,0,1,0,0,1,0,1,1,1,1,0,0,1,0,0,1,0,1,1,1,1,1],[10,2,14,15,16,8,6,1,4,12,13,7,9]),([0,0,1,1,1,1,0,0,1,0,0,1,0,1,1,1,1,0,0,1,0,0,1,0,1,1,1,1,1],z1fe),(PQ83,z1fe),([0,0,0,0,1,0,1,1,1,1,0,0,1,0,0,1,0,1,1,1,1,0,0,1,0,0,1,0,1,1,1,1,1],[86,2,10,17,14,15,16,8,6,1,4,12,13,7,9]),([1,0,0,0,1,0,1,1,1,1,0,0,1,0,0,1,0,1,1,1,1,0,0,1,0,0,1,0,1,1,1,1,1],z1lj),([1,1,0,0,0,1,0,1,1,1,1,0,0,1,0,0,1,0,1,1,1,1,0,0,1,0,0,1,0,1,1,1,1,1],[8,15,6,16,1,4,12,13,7,10,2,9]),([0,0,0,1,0,0,1,0,1,1,1,1,0,0,1,0,0,1,0,1,1,1,1,0,0,1,0,0,1,0,1,1,1,1,1],[98,15,10,17,16,2,14,8,6,1,4,12,13,7,9]),([1,0,0,1,0,0,1,0,1,1,1,1,0,0,1,0,0,1,0,1,1,1,1,0,0,1,0,0,1,0,1,1,1,1,1],z1fe),([0,0,1,0,0,1,0,0,1,0,1,1,1,1,0,0,1,0,0,1,0,1,1,1,1,0,0,1,0,0,1,0,1,1,1,1,1],[16,2,10,17,14,15,8,6,1,4,12,13,7,9]),([1,0,1,0,0,1,0,0,1,0,1,1,1,1,0,0,1,0,0,1,0,1,1,1,1,0,0,1,0,0,1,0,1,1,1,1,1],z1fe),(PQ47,z1fe),([1,1,0,0,1,0,1,1,1,1,0,0,1,0,0,1,0,1,1,1,1,0,0,1,0,0,1,0,1,1,1,1,1],z1fe),([1,0,1,1,1,1,0,0,1,0,0,1,0,1,1,1,1,0,0,1,0,0,1,0,1,1,1,1,1],[8,15,6,16,1,4,12,13,7,10,2,9]),([0,1,1,1,1,1,0,0,1,0,0,1,0,1,1,1,1,0,0,1,0,0,1,0,1,1,1,1,1],z1lf),([0,0,1,1,1,1,1,1,0,0,1,0,0,1,0,1,1,1,1,0,0,1,0,0,1,0,1,1,1,1,1],[120,8,15,6,16,1,4,12,13,7,10,2,9,18]),([1,0,1,1,1,1,1,1,0,0,1,0,0,1,0,1,1,1,1,0,0,1,0,0,1,0,1,1,1,1,1],[8,1,4,12,18,13,7,6,10,2,9]),([0,0,1,0,1,1,1,1,1,1,0,0,1,0,0,1,0,1,1,1,1,0,0,1,0,0,1,0,1,1,1,1,1],[8,15,6,16,1,4,12,18,13,7,10,2,9]),([0,1,0,1,0,1,1,1,1,1,1,0,0,1,0,0,1,0,1,1,1,1,0,0,1,0,0,1,0,1,1,1,1,1],[6,16,8,1,4,12,18,13,7,10,2,9]),([1,1,0,1,0,1,1,1,1,1,1,0,0,1,0,0,1,0,1,1,1,1,0,0,1,0,0,1,0,1,1,1,1,1],[8,1,4,12,18,13,7,6,10,2,9]),([0,0,1,1,1,1,1,1,1,0,0,1,0,0,1,0,1,1,1,1,0,0,1,0,0,1,0,1,1,1,1,1],[136,4,12,18,13,7,6,10,2,8,1,9]),([1,0,1,1,1,1,1,1,1,0,0,1,0,0,1,0,1,1,1,1,0,0,1,0,0,1,0,1,1,1,1,1],[12,18,13,7,6,10,2,8,1,4,9]),([0,0,1,0,1,1,1,1,1,1,1,0,0,1,0,0,1,0,1,1,1,1,0,0,1,0,0,1,0,1,1,1,1,1],[4,5]),([1,0,1,0,1,1,1,1,1,1,1,0,0,1,0,0,1,0,1,1,1,1,0,0,1,0,0,1,0,1,1,1,1,1],[4,5]),([1,1,1,1,1,1,1,1,0,0,1,0,0,1,0,1,1,1,1,0,0,1,0,0,1,0,1,1,1,1,1],z12p),(PQ86,z12p),([1,1,0,0,1,0,1,1,1,1,0,0,1,0,0,1,0,1,1,1,1,1],z12p),([1,0,1,1,1,1,0,0,1,0,0,1,0,1,1,1,1,1],[6,12,9,8,2,7,1,4]),([1,1,1,1,1,0,0,1,0,0,1,0,1,1,1,1,1],z12f),(z1da,z12f),([1,1,0,0,1,0,1,1,1,1,1],z12f),(zug,[6,4]),(z14h,[4,5]),(zze,[4,5])]
def z16l (N:Nat):Env:=z1c tys glob [(31,zdt N),(30,zg1 N),(28,zdz N),(27,zg3 N),(29,z9h N),(26,zcr N),(22,zcp N)] [(8,(.sl (.int .i64))),(12,(.int .i64)),(15,(.int .i64))] [] [] false [(10,(.sl (.int .i64))),(118,.unit),(6,z14d),(29,z14d)] [(76,z7 N)]
theorem z24f (N:Nat):EnvOk Tryd.prog (z16l N):=zi mixed zn (FnsOk.cons (zml N) (FnsOk.cons (zor N) (FnsOk.cons (zmn N) (FnsOk.cons (zot N) (FnsOk.cons (zg5 N) (FnsOk.cons (zlj N) (FnsOk.cons (zli N) (FnsOk.nil)))))))) (ItsOk.cons (za N) (ItsOk.nil))
def z7v (N:Nat)(most:Int)(p:z4y)(x4:DT8)(d:DT8)(wide:Int)(sets:(List (List Int)))(n:Int)(may:(List Int))(k0:(List Int)->Option (DT8×Int×Unit)):Option (DT8×Int×Unit):=cond (n == 0) (k0 p.2.2.1) (k0 may)
def z1ye (N:Nat)(x:z15 z21w)(K:Ex->List A->Option (DT8×Int×Unit)):Option (DT8×Int×Unit):=z7v N x.1 x.2.1 x.2.2.1 x.2.2.2.1 x.2.2.2.2.1 x.2.2.2.2.2.1 x.2.2.2.2.2.2.1 x.2.2.2.2.2.2.2.1 (fun a7=>(K .normal (mkS z21w 138 (x.1,x.2.1,x.2.2.1,x.2.2.2.1,x.2.2.2.2.1,x.2.2.2.2.2.1,x.2.2.2.2.2.2.1,a7,()))))
def z1u9 (N:Nat):Hd (DT8×Int×Unit):=fun st K=>(unS z21w 138 (restr [9,2,8,7,6,1,4,10] 0 st)).bind fun x=>z1ye N x K
def t3_41 (N:Nat):Tab (DT8×Int×Unit):=[]
set_option maxHeartbeats 4000000 in
theorem z1pk {N:Nat}{c:Ctx}(hb:Base Tryd.prog (z16l N) c):zj Tryd.prog c (zh z5j z1ld) (z1u9 N) :=
 zk (s:=z21w) (m:=138) (g:=z1ye N) [9,2,8,7,6,1,4,10] (zd hb N (t3_41 N) z16v z5j TabOk.nil z1ld _ rfl) (fun x K=>by kernel_rfl)
def z4a (N:Nat)(most:Int)(p:z4y)(x4:DT8)(d:DT8)(wide:Int)(sets:(List (List Int)))(n:Int)(may:(List Int))(i:Int)(rec:(List Int)->Int->Option (DT8×Int×Unit))(k0:(List Int)->Option (DT8×Int×Unit)):Option (DT8×Int×Unit):=cond (inR n (List.length sets)) (cond (decide ((Int.toNat n)<(List.length sets))) (cond (decide (i<(List.length (List.getD sets (Int.toNat n) []):Int))) (cond (inR n (List.length sets)) (cond (decide ((Int.toNat n)<(List.length sets))) (cond (inR i (List.length (List.getD sets (Int.toNat n) []))) (cond (inR (List.getD (List.getD sets (Int.toNat n) []) (Int.toNat i) 0) (List.length p.2.2.2.2.1)) ((z6m N may (List.getD p.2.2.2.2.1 (Int.toNat (List.getD (List.getD sets (Int.toNat n) []) (Int.toNat i) 0)) []) (List.length p.1:Int)).bind fun y=>rec y (IntKind.wrap IntKind.i64 (i+1))) none) none) none) none) (k0 may)) none) none
def zbw (N:Nat)(most:Int)(p:z4y)(x4:DT8)(d:DT8)(wide:Int)(sets:(List (List Int)))(n:Int)(may:(List Int))(i:Int)(k0:(List Int)->Option (DT8×Int×Unit)):Option (DT8×Int×Unit):=iter (fun (v:((List Int)×Int)) r=>z4a N most p x4 d wide sets n v.1 v.2 (fun may i=>(r (may,i))) k0) N (may,i)
def z1xz (N:Nat)(i:(Int×z4y×DT8×DT8×Int×(List (List Int))×Int))(v:((List Int)×Int))(r:((List Int)×Int)->Option (DT8×Int×Unit))(K:Ex->List A->Option (DT8×Int×Unit)):Option (DT8×Int×Unit):=z4a N i.1 i.2.1 i.2.2.1 i.2.2.2.1 i.2.2.2.2.1 i.2.2.2.2.2.1 i.2.2.2.2.2.2 v.1 v.2 (fun may i=>(r (may,i))) (fun a7=>(K (.exit 2) (mkS z21w 138 (i.1,i.2.1,i.2.2.1,i.2.2.2.1,i.2.2.2.2.1,i.2.2.2.2.2.1,i.2.2.2.2.2.2,a7,()))))
def z1tu (N:Nat):Hd (DT8×Int×Unit):=fun st K=>(unS SQ53 137 (restr z12m 0 st)).bind fun x=>iter (fun v r=>z1xz N ((fun x=>(x.1,x.2.1,x.2.2.1,x.2.2.2.1,x.2.2.2.2.1,x.2.2.2.2.2.1,x.2.2.2.2.2.2.1)) x) v r K) N ((fun x=>(x.2.2.2.2.2.2.2.1,x.2.2.2.2.2.2.2.2.1)) x)
def t4_41 (N:Nat):Tab (DT8×Int×Unit):=[]
set_option maxHeartbeats 4000000 in
theorem z1p5 {N:Nat}{c:Ctx}(hb:Base Tryd.prog (z16l N) c):zj Tryd.prog c (zh z5j z1lk) (z1tu N) :=
 zu (s:=SQ53) (m:=137) (z1xz N) z12m N (fun x=>(x.1,x.2.1,x.2.2.1,x.2.2.2.1,x.2.2.2.2.1,x.2.2.2.2.2.1,x.2.2.2.2.2.2.1)) (fun x=>(x.2.2.2.2.2.2.2.1,x.2.2.2.2.2.2.2.2.1)) (fun i v=>(i.1,i.2.1,i.2.2.1,i.2.2.2.1,i.2.2.2.2.1,i.2.2.2.2.2.1,i.2.2.2.2.2.2,v.1,v.2,())) (fun _=>rfl) (zd hb N (t4_41 N) z16v z5j TabOk.nil [0,0,1,0,1,1,0,0,1,0,0,1,0,1,1,1,1,1] _ rfl) (fun i v r K=>by kernel_rfl)
def z48 (N:Nat)(most:Int)(p:z4y)(x4:DT8)(d:DT8)(wide:Int)(sets:(List (List Int)))(n:Int)(may:(List Int))(row:(List Int))(k:Int)(b:Int)(rec:Int->Option (DT8×Int×Unit))(k0:Int->Option (DT8×Int×Unit)):Option (DT8×Int×Unit):=cond (inR b (List.length d.2.2.1)) (cond ((List.getD d.2.2.1 (Int.toNat b) 0) != k) (rec (IntKind.wrap IntKind.i64 (b+1))) (k0 b)) none
def zh1 (N:Nat)(most:Int)(p:z4y)(x4:DT8)(d:DT8)(wide:Int)(sets:(List (List Int)))(n:Int)(may:(List Int))(row:(List Int))(k:Int)(b:Int)(k0:Int->Option (DT8×Int×Unit)):Option (DT8×Int×Unit):=iter (fun (v:Int) r=>z48 N most p x4 d wide sets n may row k v (fun b=>(r b)) k0) N b
def z1xh (N:Nat)(i:(Int×z4y×DT8×DT8×Int×(List (List Int))×Int×(List Int)×(List Int)×Int))(v:Int)(r:Int->Option (DT8×Int×Unit))(K:Ex->List A->Option (DT8×Int×Unit)):Option (DT8×Int×Unit):=z48 N i.1 i.2.1 i.2.2.1 i.2.2.2.1 i.2.2.2.2.1 i.2.2.2.2.2.1 i.2.2.2.2.2.2.1 i.2.2.2.2.2.2.2.1 i.2.2.2.2.2.2.2.2.1 i.2.2.2.2.2.2.2.2.2 v (fun b=>(r b)) (fun a10=>(K (.exit 6) (mkS SQ24 134 (i.1,i.2.1,i.2.2.1,i.2.2.2.1,i.2.2.2.2.1,i.2.2.2.2.2.1,i.2.2.2.2.2.2.1,i.2.2.2.2.2.2.2.1,i.2.2.2.2.2.2.2.2.1,i.2.2.2.2.2.2.2.2.2,a10,()))))
def z1tc (N:Nat):Hd (DT8×Int×Unit):=fun st K=>(unS SQ24 134 (restr z16k 0 st)).bind fun x=>iter (fun v r=>z1xh N ((fun x=>(x.1,x.2.1,x.2.2.1,x.2.2.2.1,x.2.2.2.2.1,x.2.2.2.2.2.1,x.2.2.2.2.2.2.1,x.2.2.2.2.2.2.2.1,x.2.2.2.2.2.2.2.2.1,x.2.2.2.2.2.2.2.2.2.1)) x) v r K) N ((fun x=>x.2.2.2.2.2.2.2.2.2.2.1) x)
def t7_41 (N:Nat):Tab (DT8×Int×Unit):=[]
set_option maxHeartbeats 4000000 in
theorem z1on {N:Nat}{c:Ctx}(hb:Base Tryd.prog (z16l N) c):zj Tryd.prog c (zh z5j PQ97) (z1tc N) :=
 zu (s:=SQ24) (m:=134) (z1xh N) z16k N (fun x=>(x.1,x.2.1,x.2.2.1,x.2.2.2.1,x.2.2.2.2.1,x.2.2.2.2.2.1,x.2.2.2.2.2.2.1,x.2.2.2.2.2.2.2.1,x.2.2.2.2.2.2.2.2.1,x.2.2.2.2.2.2.2.2.2.1)) (fun x=>x.2.2.2.2.2.2.2.2.2.2.1) (fun i v=>(i.1,i.2.1,i.2.2.1,i.2.2.2.1,i.2.2.2.2.1,i.2.2.2.2.2.1,i.2.2.2.2.2.2.1,i.2.2.2.2.2.2.2.1,i.2.2.2.2.2.2.2.2.1,i.2.2.2.2.2.2.2.2.2,v,())) (fun _=>rfl) (zd hb N (t7_41 N) z16v z5j TabOk.nil [0,0,0,1,0,0,1,0,0,1,0,1,1,1,1,0,0,1,0,0,1,0,1,1,1,1,1] _ rfl) (fun i v r K=>by kernel_rfl)
def zbt (N:Nat)(most:Int)(p:z4y)(x4:DT8)(d:DT8)(wide:Int)(sets:(List (List Int)))(n:Int)(may:(List Int))(row:(List Int))(k:Int)(b:Int)(set_:(List Int))(takes:Bool)(i:Int)(k0:(List Int)->Bool->Option (DT8×Int×Unit)):Option (DT8×Int×Unit):=cond (inR i (List.length may)) (cond (inR (List.getD may (Int.toNat i) 0) (List.length p.1)) ((z4o N (List.getD p.1 (Int.toNat (List.getD may (Int.toNat i) 0)) []) b).bind fun y=>cond y (cond (inR i (List.length may)) (cond (decide ((((List.length set_)+1)*8)<=70368744177664)) (cond takes (k0 (set_++([(List.getD may (Int.toNat i) 0)]:List Int)) true) (cond (inR i (List.length may)) ((z95 N p.2.2.2.1 (List.getD may (Int.toNat i) 0)).bind fun y1=>k0 (set_++([(List.getD may (Int.toNat i) 0)]:List Int)) y1) none)) none) none) (k0 set_ takes)) none) none
def z1xf (N:Nat)(x:z15 SQ4)(K:Ex->List A->Option (DT8×Int×Unit)):Option (DT8×Int×Unit):=zbt N x.1 x.2.1 x.2.2.1 x.2.2.2.1 x.2.2.2.2.1 x.2.2.2.2.2.1 x.2.2.2.2.2.2.1 x.2.2.2.2.2.2.2.1 x.2.2.2.2.2.2.2.2.1 x.2.2.2.2.2.2.2.2.2.1 x.2.2.2.2.2.2.2.2.2.2.1 x.2.2.2.2.2.2.2.2.2.2.2.1 x.2.2.2.2.2.2.2.2.2.2.2.2.1 x.2.2.2.2.2.2.2.2.2.2.2.2.2.1 (fun a11 a12=>(K .normal (mkS SQ4 131 (x.1,x.2.1,x.2.2.1,x.2.2.2.1,x.2.2.2.2.1,x.2.2.2.2.2.1,x.2.2.2.2.2.2.1,x.2.2.2.2.2.2.2.1,x.2.2.2.2.2.2.2.2.1,x.2.2.2.2.2.2.2.2.2.1,x.2.2.2.2.2.2.2.2.2.2.1,a11,a12,x.2.2.2.2.2.2.2.2.2.2.2.2.2.1,()))))
def z1ta (N:Nat):Hd (DT8×Int×Unit):=fun st K=>(unS SQ4 131 (restr z1lj 0 st)).bind fun x=>z1xf N x K
def t9_41 (N:Nat):Tab (DT8×Int×Unit):=[]
set_option maxHeartbeats 4000000 in
theorem z1ol {N:Nat}{c:Ctx}(hb:Base Tryd.prog (z16l N) c):zj Tryd.prog c (zh z5j PQ47) (z1ta N) :=
 zk (s:=SQ4) (m:=131) (g:=z1xf N) z1lj (zd hb N (t9_41 N) z16v z5j TabOk.nil PQ47 _ rfl) (fun x K=>by kernel_rfl)
def z47 (N:Nat)(most:Int)(p:z4y)(x4:DT8)(d:DT8)(wide:Int)(sets:(List (List Int)))(n:Int)(may:(List Int))(row:(List Int))(k:Int)(b:Int)(set_:(List Int))(takes:Bool)(i:Int)(rec:(List Int)->Bool->Int->Option (DT8×Int×Unit))(k0:(List Int)->Bool->Option (DT8×Int×Unit)):Option (DT8×Int×Unit):=cond (decide (i<(List.length may:Int))) (zbt N most p x4 d wide sets n may row k b set_ takes i (fun set_1 takes1=>rec set_1 takes1 (IntKind.wrap IntKind.i64 (i+1)))) (k0 set_ takes)
def zbu (N:Nat)(most:Int)(p:z4y)(x4:DT8)(d:DT8)(wide:Int)(sets:(List (List Int)))(n:Int)(may:(List Int))(row:(List Int))(k:Int)(b:Int)(set_:(List Int))(takes:Bool)(i:Int)(k0:(List Int)->Bool->Option (DT8×Int×Unit)):Option (DT8×Int×Unit):=iter (fun (v:((List Int)×Bool×Int)) r=>z47 N most p x4 d wide sets n may row k b v.1 v.2.1 v.2.2 (fun set_ takes i=>(r (set_,takes,i))) k0) N (set_,takes,i)
def z1xg (N:Nat)(i:(Int×z4y×DT8×DT8×Int×(List (List Int))×Int×(List Int)×(List Int)×Int×Int))(v:((List Int)×Bool×Int))(r:((List Int)×Bool×Int)->Option (DT8×Int×Unit))(K:Ex->List A->Option (DT8×Int×Unit)):Option (DT8×Int×Unit):=z47 N i.1 i.2.1 i.2.2.1 i.2.2.2.1 i.2.2.2.2.1 i.2.2.2.2.2.1 i.2.2.2.2.2.2.1 i.2.2.2.2.2.2.2.1 i.2.2.2.2.2.2.2.2.1 i.2.2.2.2.2.2.2.2.2.1 i.2.2.2.2.2.2.2.2.2.2 v.1 v.2.1 v.2.2 (fun set_ takes i=>(r (set_,takes,i))) (fun a10 a11=>(K (.exit 8) (mkS [(1,.v (.int .i64)),(0,.box TT2),(1,.box TT6),(1,.box z14d),(0,.v (.int .i64)),(0,.row (.sl (.int .i64))),(0,.v (.int .i64)),(0,.v (.sl (.int .i64))),(1,.row (.int .i64)),(0,.v (.int .i64)),(1,.row (.int .i64)),(0,.v .bool)] 132 (i.1,i.2.1,i.2.2.1,i.2.2.2.1,i.2.2.2.2.1,i.2.2.2.2.2.1,i.2.2.2.2.2.2.1,i.2.2.2.2.2.2.2.1,i.2.2.2.2.2.2.2.2.1,i.2.2.2.2.2.2.2.2.2.1,a10,a11,()))))
def z1tb (N:Nat):Hd (DT8×Int×Unit):=fun st K=>(unS SQ4 131 (restr z1fe 0 st)).bind fun x=>iter (fun v r=>z1xg N ((fun x=>(x.1,x.2.1,x.2.2.1,x.2.2.2.1,x.2.2.2.2.1,x.2.2.2.2.2.1,x.2.2.2.2.2.2.1,x.2.2.2.2.2.2.2.1,x.2.2.2.2.2.2.2.2.1,x.2.2.2.2.2.2.2.2.2.1,x.2.2.2.2.2.2.2.2.2.2.1)) x) v r K) N ((fun x=>(x.2.2.2.2.2.2.2.2.2.2.2.1,x.2.2.2.2.2.2.2.2.2.2.2.2.1,x.2.2.2.2.2.2.2.2.2.2.2.2.2.1)) x)
def t8_41 (N:Nat):Tab (DT8×Int×Unit):=[(PQ47,z1ta N)]
set_option maxHeartbeats 4000000 in
theorem z1om {N:Nat}{c:Ctx}(hb:Base Tryd.prog (z16l N) c):zj Tryd.prog c (zh z5j PQ83) (z1tb N) :=
 zu (s:=SQ4) (m:=131) (z1xg N) z1fe N (fun x=>(x.1,x.2.1,x.2.2.1,x.2.2.2.1,x.2.2.2.2.1,x.2.2.2.2.2.1,x.2.2.2.2.2.2.1,x.2.2.2.2.2.2.2.1,x.2.2.2.2.2.2.2.2.1,x.2.2.2.2.2.2.2.2.2.1,x.2.2.2.2.2.2.2.2.2.2.1)) (fun x=>(x.2.2.2.2.2.2.2.2.2.2.2.1,x.2.2.2.2.2.2.2.2.2.2.2.2.1,x.2.2.2.2.2.2.2.2.2.2.2.2.2.1)) (fun i v=>(i.1,i.2.1,i.2.2.1,i.2.2.2.1,i.2.2.2.2.1,i.2.2.2.2.2.1,i.2.2.2.2.2.2.1,i.2.2.2.2.2.2.2.1,i.2.2.2.2.2.2.2.2.1,i.2.2.2.2.2.2.2.2.2.1,i.2.2.2.2.2.2.2.2.2.2,v.1,v.2.1,v.2.2,())) (fun _=>rfl) (zd hb N (t8_41 N) z16v z5j (TabOk.cons (z1ol hb) TabOk.nil) [0,0,1,0,1,1,1,1,0,0,1,0,0,1,0,1,1,1,1,0,0,1,0,0,1,0,1,1,1,1,1] _ rfl) (fun i v r K=>by kernel_rfl)
def zap (N:Nat)(most:Int)(p:z4y)(x4:DT8)(d:DT8)(wide:Int)(sets:(List (List Int)))(n:Int)(may:(List Int))(row:(List Int))(k:Int)(set_:(List Int))(takes:Bool)(at_:Int)(k0:DT8->(List (List Int))->Int->Option (DT8×Int×Unit)):Option (DT8×Int×Unit):=cond (decide (at_<0)) (cond (decide ((((List.length sets)+1)*24)<=70368744177664)) (cond (decide ((((List.length d.2.1)+1)*1)<=70368744177664)) (k0 (d.1,((d.2.1++([takes]:List Bool)),d.2.2)) (sets++([set_]:List (List Int))) (List.length sets:Int)) none) none) (k0 d sets at_)
def z1et (N:Nat)(x:z15 SQ19)(K:Ex->List A->Option (DT8×Int×Unit)):Option (DT8×Int×Unit):=zap N x.1 x.2.1 x.2.2.1 x.2.2.2.1 x.2.2.2.2.1 x.2.2.2.2.2.1 x.2.2.2.2.2.2.1 x.2.2.2.2.2.2.2.1 x.2.2.2.2.2.2.2.2.1 x.2.2.2.2.2.2.2.2.2.1 x.2.2.2.2.2.2.2.2.2.2.1 x.2.2.2.2.2.2.2.2.2.2.2.1 x.2.2.2.2.2.2.2.2.2.2.2.2.1 (fun a3 a5 a10=>(K .normal (mkS [(1,.v (.int .i64)),(0,.box TT2),(1,.box TT6),(1,.box z14d),(0,.v (.int .i64)),(0,.row (.sl (.int .i64))),(0,.v (.int .i64)),(0,.v (.sl (.int .i64))),(1,.row (.int .i64)),(0,.v (.int .i64)),(4,.v (.int .i64))] 130 (x.1,x.2.1,x.2.2.1,a3,x.2.2.2.2.1,a5,x.2.2.2.2.2.2.1,x.2.2.2.2.2.2.2.1,x.2.2.2.2.2.2.2.2.1,x.2.2.2.2.2.2.2.2.2.1,a10,()))))
def z1eh (N:Nat):Hd (DT8×Int×Unit):=fun st K=>(unS SQ19 130 (restr z1lf 0 st)).bind fun x=>z1et N x K
def z1o8 (N:Nat):Tab (DT8×Int×Unit):=[]
set_option maxHeartbeats 4000000 in
theorem z1h0 {N:Nat}{c:Ctx}(hb:Base Tryd.prog (z16l N) c):zj Tryd.prog c (zh z5j PQ84) (z1eh N) :=
 zk (s:=SQ19) (m:=130) (g:=z1et N) z1lf (zd hb N (z1o8 N) z16v z5j TabOk.nil PQ84 _ rfl) (fun x K=>by kernel_rfl)
def zbv (N:Nat)(most:Int)(p:z4y)(x4:DT8)(d:DT8)(wide:Int)(sets:(List (List Int)))(n:Int)(may:(List Int))(row:(List Int))(k:Int)(k0:DT8->Int->Option (DT8×Int×Unit))(k1:DT8->(List (List Int))->(List Int)->Option (DT8×Int×Unit)):Option (DT8×Int×Unit):=zh1 N most p x4 d wide sets n may row k 0 (fun b=>zbu N most p x4 d wide sets n may row k b [] false 0 (fun set_ takes=>(z6k N sets set_).bind fun y=>zap N most p x4 d wide sets n may row k set_ takes y (fun d1 sets1 at_=>cond (decide (most<(List.length sets1:Int))) (k0 (0,([],([],([],())))) 16) (cond (decide ((((List.length row)+1)*8)<=70368744177664)) (k1 d1 sets1 (row++([at_]:List Int))) none))))
def z1xl (N:Nat)(x:z15 SQ9)(K:Ex->List A->Option (DT8×Int×Unit)):Option (DT8×Int×Unit):=zbv N x.1 x.2.1 x.2.2.1 x.2.2.2.1 x.2.2.2.2.1 x.2.2.2.2.2.1 x.2.2.2.2.2.2.1 x.2.2.2.2.2.2.2.1 x.2.2.2.2.2.2.2.2.1 x.2.2.2.2.2.2.2.2.2.1 (fun a0 a1=>(K .ret (mkS z1d5 143 (a0,a1,())))) (fun a3 a5 a8=>(K .normal (mkS SQ9 135 (x.1,x.2.1,x.2.2.1,a3,x.2.2.2.2.1,a5,x.2.2.2.2.2.2.1,x.2.2.2.2.2.2.2.1,a8,x.2.2.2.2.2.2.2.2.2.1,()))))
def z1tg (N:Nat):Hd (DT8×Int×Unit):=fun st K=>(unS SQ9 135 (restr [6,13,10,2,8,1,4,12,7,9] 0 st)).bind fun x=>z1xl N x K
def t6_41 (N:Nat):Tab (DT8×Int×Unit):=[(PQ97,z1tc N),(PQ83,z1tb N),(PQ84,z1eh N)]
set_option maxHeartbeats 4000000 in
theorem z1or {N:Nat}{c:Ctx}(hb:Base Tryd.prog (z16l N) c):zj Tryd.prog c (zh z5j PQ86) (z1tg N) :=
 zk (s:=SQ9) (m:=135) (g:=z1xl N) [6,13,10,2,8,1,4,12,7,9] (zd hb N (t6_41 N) z16v z5j (TabOk.cons (z1on hb) (TabOk.cons (z1om hb) (TabOk.cons (z1h0 hb) TabOk.nil))) PQ86 _ rfl) (fun x K=>by kernel_rfl)
def z49 (N:Nat)(most:Int)(p:z4y)(x4:DT8)(wide:Int)(n:Int)(may:(List Int))(d:DT8)(sets:(List (List Int)))(row:(List Int))(k:Int)(rec:DT8->(List (List Int))->(List Int)->Int->Option (DT8×Int×Unit))(k0:DT8->Int->Option (DT8×Int×Unit))(k1:DT8->(List (List Int))->(List Int)->Option (DT8×Int×Unit)):Option (DT8×Int×Unit):=cond (decide (k<wide)) (zbv N most p x4 d wide sets n may row k (fun x41 x5=>k0 x41 x5) (fun d1 sets1 row1=>rec d1 sets1 row1 (IntKind.wrap IntKind.i64 (k+1)))) (k1 d sets row)
def zh2 (N:Nat)(most:Int)(p:z4y)(x4:DT8)(d:DT8)(wide:Int)(sets:(List (List Int)))(n:Int)(may:(List Int))(row:(List Int))(k:Int)(k0:DT8->Int->Option (DT8×Int×Unit))(k1:DT8->(List (List Int))->(List Int)->Option (DT8×Int×Unit)):Option (DT8×Int×Unit):=iter (fun (v:(DT8×(List (List Int))×(List Int)×Int)) r=>z49 N most p x4 wide n may v.1 v.2.1 v.2.2.1 v.2.2.2 (fun d sets row k=>(r (d,sets,row,k))) k0 k1) N (d,sets,row,k)
def z1xp (N:Nat)(i:(Int×z4y×DT8×Int×Int×(List Int)))(v:(DT8×(List (List Int))×(List Int)×Int))(r:(DT8×(List (List Int))×(List Int)×Int)->Option (DT8×Int×Unit))(K:Ex->List A->Option (DT8×Int×Unit)):Option (DT8×Int×Unit):=z49 N i.1 i.2.1 i.2.2.1 i.2.2.2.1 i.2.2.2.2.1 i.2.2.2.2.2 v.1 v.2.1 v.2.2.1 v.2.2.2 (fun d sets row k=>(r (d,sets,row,k))) (fun a0 a1=>(K .ret (mkS z1d5 143 (a0,a1,())))) (fun a3 a5 a7=>(K (.exit 4) (mkS [(1,.v (.int .i64)),(0,.box TT2),(1,.box TT6),(1,.box z14d),(0,.v (.int .i64)),(0,.row (.sl (.int .i64))),(0,.v (.int .i64)),(2,.row (.int .i64))] 136 (i.1,i.2.1,i.2.2.1,a3,i.2.2.2.1,a5,i.2.2.2.2.1,a7,()))))
def z1tk (N:Nat):Hd (DT8×Int×Unit):=fun st K=>(unS SQ9 135 (restr z12p 0 st)).bind fun x=>iter (fun v r=>z1xp N ((fun x=>(x.1,x.2.1,x.2.2.1,x.2.2.2.2.1,x.2.2.2.2.2.2.1,x.2.2.2.2.2.2.2.1)) x) v r K) N ((fun x=>(x.2.2.2.1,x.2.2.2.2.2.1,x.2.2.2.2.2.2.2.2.1,x.2.2.2.2.2.2.2.2.2.1)) x)
def t5_41 (N:Nat):Tab (DT8×Int×Unit):=[(PQ86,z1tg N)]
set_option maxHeartbeats 4000000 in
theorem z1ov {N:Nat}{c:Ctx}(hb:Base Tryd.prog (z16l N) c):zj Tryd.prog c (zh z5j z1lm) (z1tk N) :=
 zu (s:=SQ9) (m:=135) (z1xp N) z12p N (fun x=>(x.1,x.2.1,x.2.2.1,x.2.2.2.2.1,x.2.2.2.2.2.2.1,x.2.2.2.2.2.2.2.1)) (fun x=>(x.2.2.2.1,x.2.2.2.2.2.1,x.2.2.2.2.2.2.2.2.1,x.2.2.2.2.2.2.2.2.2.1)) (fun i v=>(i.1,i.2.1,i.2.2.1,v.1,i.2.2.2.1,v.2.1,i.2.2.2.2.1,i.2.2.2.2.2,v.2.2.1,v.2.2.2,())) (fun _=>rfl) (zd hb N (t5_41 N) z16v z5j (TabOk.cons (z1or hb) TabOk.nil) [0,0,1,0,1,1,1,1,0,0,1,0,0,1,0,1,1,1,1,1] _ rfl) (fun i v r K=>by kernel_rfl)
def z7w (N:Nat)(most:Int)(p:z4y)(x4:DT8)(d:DT8)(wide:Int)(sets:(List (List Int)))(n:Int)(k0:DT8->Int->Option (DT8×Int×Unit))(k1:DT8->(List (List Int))->Option (DT8×Int×Unit)):Option (DT8×Int×Unit):=z7v N most p x4 d wide sets n [] (fun may=>zbw N most p x4 d wide sets n may 0 (fun may1=>zh2 N most p x4 d wide sets n may1 [] 0 (fun x41 x5=>k0 x41 x5) (fun d1 sets1 row=>cond (decide ((((List.length d1.2.2.2.1)+1)*24)<=70368744177664)) (k1 (d1.1,(d1.2.1,(d1.2.2.1,((d1.2.2.2.1++([row]:List (List Int))),d1.2.2.2.2)))) sets1) none)))
def z1z8 (N:Nat)(x:z15 z1mr)(K:Ex->List A->Option (DT8×Int×Unit)):Option (DT8×Int×Unit):=z7w N x.1 x.2.1 x.2.2.1 x.2.2.2.1 x.2.2.2.2.1 x.2.2.2.2.2.1 x.2.2.2.2.2.2.1 (fun a0 a1=>(K .ret (mkS z1d5 143 (a0,a1,())))) (fun a3 a5=>(K .normal (mkS z1mr 139 (x.1,x.2.1,x.2.2.1,a3,x.2.2.2.2.1,a5,x.2.2.2.2.2.2.1,()))))
def z1v3 (N:Nat):Hd (DT8×Int×Unit):=fun st K=>(unS z1mr 139 (restr [9,2,8,7,6,1,4] 0 st)).bind fun x=>z1z8 N x K
def t2_41 (N:Nat):Tab (DT8×Int×Unit):=[(z1ld,z1u9 N),(z1lk,z1tu N),(z1lm,z1tk N)]
set_option maxHeartbeats 4000000 in
theorem z1qe {N:Nat}{c:Ctx}(hb:Base Tryd.prog (z16l N) c):zj Tryd.prog c (zh z5j z1da) (z1v3 N) :=
 zk (s:=z1mr) (m:=139) (g:=z1z8 N) [9,2,8,7,6,1,4] (zd hb N (t2_41 N) z16v z5j (TabOk.cons (z1pk hb) (TabOk.cons (z1p5 hb) (TabOk.cons (z1ov hb) TabOk.nil))) z1da _ rfl) (fun x K=>by kernel_rfl)
def z38 (N:Nat)(most:Int)(p:z4y)(x4:DT8)(wide:Int)(d:DT8)(sets:(List (List Int)))(n:Int)(rec:DT8->(List (List Int))->Int->Option (DT8×Int×Unit))(k0:DT8->Int->Option (DT8×Int×Unit))(k1:DT8->Option (DT8×Int×Unit)):Option (DT8×Int×Unit):=cond (decide (n<(List.length sets:Int))) (z7w N most p x4 d wide sets n (fun x41 x5=>k0 x41 x5) (fun d1 sets1=>rec d1 sets1 (IntKind.wrap IntKind.i64 (n+1)))) (k1 d)
def zh3 (N:Nat)(most:Int)(p:z4y)(x4:DT8)(d:DT8)(wide:Int)(sets:(List (List Int)))(n:Int)(k0:DT8->Int->Option (DT8×Int×Unit))(k1:DT8->Option (DT8×Int×Unit)):Option (DT8×Int×Unit):=iter (fun (v:(DT8×(List (List Int))×Int)) r=>z38 N most p x4 wide v.1 v.2.1 v.2.2 (fun d sets n=>(r (d,sets,n))) k0 k1) N (d,sets,n)
def z20v (N:Nat)(i:(Int×z4y×DT8×Int))(v:(DT8×(List (List Int))×Int))(r:(DT8×(List (List Int))×Int)->Option (DT8×Int×Unit))(K:Ex->List A->Option (DT8×Int×Unit)):Option (DT8×Int×Unit):=z38 N i.1 i.2.1 i.2.2.1 i.2.2.2 v.1 v.2.1 v.2.2 (fun d sets n=>(r (d,sets,n))) (fun a0 a1=>(K .ret (mkS z1d5 143 (a0,a1,())))) (fun a1=>(K (.exit 0) (mkS [(4,.box TT6),(1,.box z14d)] 142 (i.2.2.1,a1,()))))
def z1wq (N:Nat):Hd (DT8×Int×Unit):=fun st K=>(unS z1mr 139 (restr z12f 0 st)).bind fun x=>iter (fun v r=>z20v N ((fun x=>(x.1,x.2.1,x.2.2.1,x.2.2.2.2.1)) x) v r K) N ((fun x=>(x.2.2.2.1,x.2.2.2.2.2.1,x.2.2.2.2.2.2.1)) x)
def t1_41 (N:Nat):Tab (DT8×Int×Unit):=[(z1da,z1v3 N)]
set_option maxHeartbeats 4000000 in
theorem z1s1 {N:Nat}{c:Ctx}(hb:Base Tryd.prog (z16l N) c):zj Tryd.prog c (zh z5j zx5) (z1wq N) :=
 zu (s:=z1mr) (m:=139) (z20v N) z12f N (fun x=>(x.1,x.2.1,x.2.2.1,x.2.2.2.2.1)) (fun x=>(x.2.2.2.1,x.2.2.2.2.2.1,x.2.2.2.2.2.2.1)) (fun i v=>(i.1,i.2.1,i.2.2.1,v.1,i.2.2.2,v.2.1,v.2.2,())) (fun _=>rfl) (zd hb N (t1_41 N) z16v z5j (TabOk.cons (z1qe hb) TabOk.nil) [0,0,1,0,1,1,1,1,1] _ rfl) (fun i v r K=>by kernel_rfl)
def z5e (N:Nat)(p:z4y)(most:Int):Option (DT8×Int×Unit):=(z4c N p).bind fun y=>cond (!y) (some ((0,([],([],([],())))),(7,()))) ((z96 N p.1).bind fun y1=>(z5w N y1).bind fun y2=>zh3 N most p (0,([],([],([],())))) (0,(([p.2.1]:List Bool),(y1,([],())))) y2 ([[]]:List (List Int)) 0 (fun x4 x5=>some (x4,(x5,()))) (fun d=>some ((d.1,(d.2.1,(d.2.2.1,(d.2.2.2.1,d.2.2.2.2)))),(0,()))))
def t_41 (N:Nat):Tab (DT8×Int×Unit):=[(zx5,z1wq N)]
theorem z1iy (N:Nat)(x:z15 z163):z4u (z16l N) N (t_41 N) z16v Tryd.f15 (mkS z163 0 x) (z2l (.tup [TT6,(.int .i64)]) 2)=z5e N x.1 x.2.1:=by kernel_rfl
def zg2 (N:Nat):List A->Res:=zz z163 (fun x=>z5e N x.1 x.2.1) (z6n (.tup [TT6,(.int .i64)]) 2)
theorem zos (N:Nat):Contract Tryd.prog glob 15 (zg2 N) :=
 Contract.of (E:=z16l N) (H:=t_41 N) (L:=z16v) (N:=N) (body:=z5j) (K:=(z2l (.tup [TT6,(.int .i64)]) 2)) (z24f N) Tryd.func15 (by kernel_rfl) (by decide) (fun _ hb=>(TabOk.cons (z1s1 hb) TabOk.nil)) (fun x y h=>by rw[z1iy];exact h) (z13 (s:=(.tup [TT6,(.int .i64)])) (m:=2))
def z11v:Code:=(Tryd.f32.body).getD .skip
def L_42:List (List Nat×List Nat):=[([0],[0,1]),([0,0,1],[10,0,1]),([1,0,1],[0,1]),([0,0,1,0,1],[4]),([1,0,1,0,1],[4]),([0,0,1,1],[5,0,1]),([0,1,0,1,1],[5,0,1]),(zzj,[14,0,5,1]),(zzi,[0,5,1]),(z1fb,[]),(z1d8,[25,5,0,1]),(z16i,[5,0,1]),(z1dm,[4]),(z1dl,[4]),(zqy,[5,0,1]),(zzh,[5,0,1]),([1,0,1,1],[]),([0,1,1,1],[4]),([1,1,1,1],[4])]
def E_42 (N:Nat):Env:=z1c tys glob [] [] [] [] false [] [(76,z7 N)]
theorem z24e (N:Nat):EnvOk Tryd.prog (E_42 N):=zi mixed zn (FnsOk.nil) (ItsOk.cons (za N) (ItsOk.nil))
def z41 (N:Nat)(a:(List Bool))(b:(List Bool))(i:Int)(rec:Int->Option Bool)(k0:Bool->Option Bool)(k1:Option Bool):Option Bool:=cond (decide (i<(List.length a:Int))) (cond (inR i (List.length a)) (cond (inR i (List.length b)) (cond (!((List.getD a (Int.toNat i) false) == (List.getD b (Int.toNat i) false))) (k0 false) (rec (IntKind.wrap IntKind.i64 (i+1)))) none) none) k1
def zar (N:Nat)(a:(List Bool))(b:(List Bool))(i:Int)(k0:Bool->Option Bool)(k1:Option Bool):Option Bool:=iter (fun (v:Int) r=>z41 N a b v (fun i=>(r i)) k0 k1) N i
def z20u (N:Nat)(i:((List Bool)×(List Bool)))(v:Int)(r:Int->Option Bool)(K:Ex->List A->Option Bool):Option Bool:=z41 N i.1 i.2 v (fun i=>(r i)) (fun a0=>(K .ret (mkS [(4,.v .bool)] 21 (a0,())))) (K (.exit 0) (mkS [] 26 ()))
def z1wp (N:Nat):Hd Bool:=fun st K=>(unS [(0,.v (.sl .bool)),(0,.v (.sl .bool)),(3,.v (.int .i64))] 20 (restr [5,0,1] 0 st)).bind fun x=>iter (fun v r=>z20u N ((fun x=>(x.1,x.2.1)) x) v r K) N ((fun x=>x.2.2.1) x)
def t1_42 (N:Nat):Tab Bool:=[]
theorem z1s0 {N:Nat}{c:Ctx}(hb:Base Tryd.prog (E_42 N) c):zj Tryd.prog c (zh z11v [0,1,0,1,1]) (z1wp N) :=
 zu (s:=[(0,.v (.sl .bool)),(0,.v (.sl .bool)),(3,.v (.int .i64))]) (m:=20) (z20u N) [5,0,1] N (fun x=>(x.1,x.2.1)) (fun x=>x.2.2.1) (fun i v=>(i.1,i.2,v,())) (fun _=>rfl) (zd hb N (t1_42 N) L_42 z11v TabOk.nil [0,0,1,0,1,1] _ rfl) (fun i v r K=>by kernel_rfl)
def z3q (N:Nat)(a:(List Bool))(b:(List Bool)):Option Bool:=cond ((List.length a:Int) != (List.length b:Int)) (some false) (zar N a b 0 (fun x4=>some x4) (some true))
def t_42 (N:Nat):Tab Bool:=[([0,1,0,1,1],z1wp N)]
theorem z1ix (N:Nat)(x:z15 [(0,.v (.sl .bool)),(0,.v (.sl .bool))]):z4u (E_42 N) N (t_42 N) L_42 Tryd.f32 (mkS [(0,.v (.sl .bool)),(0,.v (.sl .bool))] 0 x) (z2l (.v .bool) 2)=z3q N x.1 x.2.1:=by kernel_rfl
def za5 (N:Nat):List A->Res:=zz [(0,.v (.sl .bool)),(0,.v (.sl .bool))] (fun x=>z3q N x.1 x.2.1) (z6n (.v .bool) 2)
theorem zi3 (N:Nat):Contract Tryd.prog glob 32 (za5 N) :=
 Contract.of (E:=E_42 N) (H:=t_42 N) (L:=L_42) (N:=N) (body:=z11v) (K:=(z2l (.v .bool) 2)) (z24e N) Tryd.func32 (by kernel_rfl) (by decide) (fun _ hb=>(TabOk.cons (z1s0 hb) TabOk.nil)) (fun x y h=>by rw[z1ix];exact h) (z13 (s:=(.v .bool)) (m:=2))
def z11u:Code:=(Tryd.f34.body).getD .skip
def L_43:List (List Nat×List Nat):=[([0],[0,1]),([0,0,1],[10,0,1]),([1,0,1],[0,1]),([0,0,1,0,1],[4]),([1,0,1,0,1],[4]),([0,0,1,1],[5,0,1]),([0,1,0,1,1],[5,0,1]),(zzj,[14,0,5,1]),(zzi,[0,5,1]),(z1fb,[]),(z1d8,[26,5,0,1]),(z16i,[5,0,1]),(z1dm,[4]),(z1dl,[4]),(zqy,[5,0,1]),(zzh,[5,0,1]),([1,0,1,1],[]),([0,1,1,1],[4]),([1,1,1,1],[4])]
def E_43 (N:Nat):Env:=z1c tys glob [(33,z40 N)] [] [] [] false [] [(76,z7 N)]
theorem z24d (N:Nat):EnvOk Tryd.prog (E_43 N):=zi mixed zn (FnsOk.cons (z6y N) (FnsOk.nil)) (ItsOk.cons (za N) (ItsOk.nil))
def z3z (N:Nat)(a:(List (List Int)))(b:(List (List Int)))(i:Int)(rec:Int->Option Bool)(k0:Bool->Option Bool)(k1:Option Bool):Option Bool:=cond (decide (i<(List.length a:Int))) (cond (inR i (List.length a)) (cond (inR i (List.length b)) ((z2o N (List.getD a (Int.toNat i) []) (List.getD b (Int.toNat i) [])).bind fun y=>cond (!y) (k0 false) (rec (IntKind.wrap IntKind.i64 (i+1)))) none) none) k1
def zao (N:Nat)(a:(List (List Int)))(b:(List (List Int)))(i:Int)(k0:Bool->Option Bool)(k1:Option Bool):Option Bool:=iter (fun (v:Int) r=>z3z N a b v (fun i=>(r i)) k0 k1) N i
def z20t (N:Nat)(i:((List (List Int))×(List (List Int))))(v:Int)(r:Int->Option Bool)(K:Ex->List A->Option Bool):Option Bool:=z3z N i.1 i.2 v (fun i=>(r i)) (fun a0=>(K .ret (mkS [(4,.v .bool)] 22 (a0,())))) (K (.exit 0) (mkS [] 27 ()))
def z1wo (N:Nat):Hd Bool:=fun st K=>(unS z21y 21 (restr [5,0,1] 0 st)).bind fun x=>iter (fun v r=>z20t N ((fun x=>(x.1,x.2.1)) x) v r K) N ((fun x=>x.2.2.1) x)
def t1_43 (N:Nat):Tab Bool:=[]
theorem z1rz {N:Nat}{c:Ctx}(hb:Base Tryd.prog (E_43 N) c):zj Tryd.prog c (zh z11u [0,1,0,1,1]) (z1wo N) :=
 zu (s:=z21y) (m:=21) (z20t N) [5,0,1] N (fun x=>(x.1,x.2.1)) (fun x=>x.2.2.1) (fun i v=>(i.1,i.2,v,())) (fun _=>rfl) (zd hb N (t1_43 N) L_43 z11u TabOk.nil [0,0,1,0,1,1] _ rfl) (fun i v r K=>by kernel_rfl)
def z3p (N:Nat)(a:(List (List Int)))(b:(List (List Int))):Option Bool:=cond ((List.length a:Int) != (List.length b:Int)) (some false) (zao N a b 0 (fun x4=>some x4) (some true))
def t_43 (N:Nat):Tab Bool:=[([0,1,0,1,1],z1wo N)]
theorem z1iw (N:Nat)(x:z15 z1l8):z4u (E_43 N) N (t_43 N) L_43 Tryd.f34 (mkS z1l8 0 x) (z2l (.v .bool) 2)=z3p N x.1 x.2.1:=by kernel_rfl
def za4 (N:Nat):List A->Res:=zz z1l8 (fun x=>z3p N x.1 x.2.1) (z6n (.v .bool) 2)
theorem zi2 (N:Nat):Contract Tryd.prog glob 34 (za4 N) :=
 Contract.of (E:=E_43 N) (H:=t_43 N) (L:=L_43) (N:=N) (body:=z11u) (K:=(z2l (.v .bool) 2)) (z24d N) Tryd.func34 (by kernel_rfl) (by decide) (fun _ hb=>(TabOk.cons (z1rz hb) TabOk.nil)) (fun x y h=>by rw[z1iw];exact h) (z13 (s:=(.v .bool)) (m:=2))
def z1ki:Code:=(Tryd.f16.body).getD .skip
def L_44:List (List Nat×List Nat):=[([0],[2,3]),([0,1],[4]),([1,1],[4])]
def E_44 (N:Nat):Env:=z1c tys glob [(34,za4 N),(32,za5 N),(33,z40 N)] [] [] [] false [] [(76,z7 N)]
theorem z24c (N:Nat):EnvOk Tryd.prog (E_44 N):=zi mixed zn (FnsOk.cons (zi2 N) (FnsOk.cons (zi3 N) (FnsOk.cons (z6y N) (FnsOk.nil)))) (ItsOk.cons (za N) (ItsOk.nil))
def z6l (N:Nat)(a:DT8)(b:DT8):Option Bool:=cond (a.1 == b.1) ((z3q N a.2.1 b.2.1).bind fun y=>cond y ((z2o N a.2.2.1 b.2.2.1).bind fun y1=>cond y1 ((z3p N a.2.2.2.1 b.2.2.2.1).bind fun y2=>some y2) (some false)) (some false)) (some false)
def t_44 (N:Nat):Tab Bool:=[]
theorem z1iv (N:Nat)(x:z15 [(0,.v TT6),(0,.v TT6)]):z4u (E_44 N) N (t_44 N) L_44 Tryd.f16 (mkS [(0,.v TT6),(0,.v TT6)] 0 x) (z2l (.v .bool) 2)=z6l N x.1 x.2.1:=by kernel_rfl
def zdu (N:Nat):List A->Res:=zz [(0,.v TT6),(0,.v TT6)] (fun x=>z6l N x.1 x.2.1) (z6n (.v .bool) 2)
theorem zmm (N:Nat):Contract Tryd.prog glob 16 (zdu N) :=
 Contract.of (E:=E_44 N) (H:=t_44 N) (L:=L_44) (N:=N) (body:=z1ki) (K:=(z2l (.v .bool) 2)) (z24c N) Tryd.func16 (by kernel_rfl) (by decide) (fun _ hb=>TabOk.nil) (fun x y h=>by rw[z1iv];exact h) (z13 (s:=(.v .bool)) (m:=2))
def zn1:Code:=(Tryd.f13.body).getD .skip
def z22k:List (List Nat×List Nat):=[([0],[2,1]),([0,0,1],[29,2]),([1,0,1],[2]),([0,0,1,0,1],[4]),([1,0,1,0,1],[4]),([0,0,1,1],[5,2]),([0,1,0,1,1],[5,2]),(zzj,[34,2,5]),(zzi,[2,5]),(z1fb,[]),(z1d8,[43,5,2]),(z16i,[5,2]),(z1dm,[4]),(z1dl,[4]),(zqy,[5,2]),(zzh,[5,2]),([1,0,1,1],[]),([0,1,1,1],[4]),([1,1,1,1],[4])]
def z1n3 (N:Nat):Env:=z1c tys glob [] [] [] [] false [] [(76,z7 N)]
theorem z24b (N:Nat):EnvOk Tryd.prog (z1n3 N):=zi mixed zn (FnsOk.nil) (ItsOk.cons (za N) (ItsOk.nil))
def z8q (N:Nat)(most:Int)(p:z4y)(k0:Bool->Option Bool):Option Bool:=cond (decide (most<(List.length p.1:Int))) (k0 true) (cond (decide (most<(List.length p.2.2.2.2.1:Int))) (k0 true) (cond (decide (40<(List.length p.2.2.1:Int))) (k0 true) (k0 (decide (40<(List.length p.2.2.2.1:Int))))))
def z1z7 (N:Nat)(x:z15 z164)(K:Ex->List A->Option Bool):Option Bool:=z8q N x.1 x.2.1 (fun a1=>(K .normal (mkS [(2,.box TT2),(26,.v .bool)] 14 (x.2.1,a1,()))))
def z1v2 (N:Nat):Hd Bool:=fun st K=>(unS z164 41 (restr [2,1] 0 st)).bind fun x=>z1z7 N x K
def t2_46 (N:Nat):Tab Bool:=[]
theorem z1qd {N:Nat}{c:Ctx}(hb:Base Tryd.prog (z1n3 N) c):zj Tryd.prog c (zh zn1 [0,0,1]) (z1v2 N) :=
 zk (s:=z164) (m:=41) (g:=z1z7 N) [2,1] (zd hb N (t2_46 N) z22k zn1 TabOk.nil [0,0,1] _ rfl) (fun x K=>by kernel_rfl)
def z8r (N:Nat)(most:Int)(p:z4y)(k0:Bool->Option Bool)(k1:Option Bool):Option Bool:=z8q N most p (fun x29=>cond x29 (k0 false) k1)
def z20s (N:Nat)(x:z15 z164)(K:Ex->List A->Option Bool):Option Bool:=z8r N x.1 x.2.1 (fun a0=>(K .ret (mkS [(4,.v .bool)] 39 (a0,())))) (K .normal (mkS [(2,.box TT2)] 41 (x.2.1,())))
def z1wn (N:Nat):Hd Bool:=fun st K=>(unS z164 41 (restr [2,1] 0 st)).bind fun x=>z20s N x K
def t1_46 (N:Nat):Tab Bool:=[([0,0,1],z1v2 N)]
theorem z1ry {N:Nat}{c:Ctx}(hb:Base Tryd.prog (z1n3 N) c):zj Tryd.prog c (zh zn1 [0,1]) (z1wn N) :=
 zk (s:=z164) (m:=41) (g:=z20s N) [2,1] (zd hb N (t1_46 N) z22k zn1 (TabOk.cons (z1qd hb) TabOk.nil) [0,1] _ rfl) (fun x K=>by kernel_rfl)
def z5t (N:Nat)(p:z4y)(i:Int)(rec:Int->Option Bool)(k0:Bool->Option Bool)(k1:Option Bool):Option Bool:=cond (decide (i<(List.length p.2.2.2.2.1:Int))) (cond (inR i (List.length p.2.2.2.2.1)) (cond (decide (40<(List.length (List.getD p.2.2.2.2.1 (Int.toNat i) []):Int))) (k0 false) (rec (IntKind.wrap IntKind.i64 (i+1)))) none) k1
def ze0 (N:Nat)(p:z4y)(i:Int)(k0:Bool->Option Bool)(k1:Option Bool):Option Bool:=iter (fun (v:Int) r=>z5t N p v (fun i=>(r i)) k0 k1) N i
def z1yd (N:Nat)(i:z4y)(v:Int)(r:Int->Option Bool)(K:Ex->List A->Option Bool):Option Bool:=z5t N i v (fun i=>(r i)) (fun a0=>(K .ret (mkS [(4,.v .bool)] 39 (a0,())))) (K (.exit 0) (mkS [] 44 ()))
def z1u8 (N:Nat):Hd Bool:=fun st K=>(unS [(2,.box TT2),(2,.v (.int .i64))] 38 (restr [5,2] 0 st)).bind fun x=>iter (fun v r=>z1yd N ((fun x=>x.1) x) v r K) N ((fun x=>x.2.1) x)
def t3_46 (N:Nat):Tab Bool:=[]
theorem z1pj {N:Nat}{c:Ctx}(hb:Base Tryd.prog (z1n3 N) c):zj Tryd.prog c (zh zn1 [0,1,0,1,1]) (z1u8 N) :=
 zu (s:=[(2,.box TT2),(2,.v (.int .i64))]) (m:=38) (z1yd N) [5,2] N (fun x=>x.1) (fun x=>x.2.1) (fun i v=>(i,v,())) (fun _=>rfl) (zd hb N (t3_46 N) z22k zn1 TabOk.nil [0,0,1,0,1,1] _ rfl) (fun i v r K=>by kernel_rfl)
def z5x (N:Nat)(p:z4y)(most:Int):Option Bool:=z8r N most p (fun x4=>some x4) (ze0 N p 0 (fun x41=>some x41) (some true))
def t_46 (N:Nat):Tab Bool:=[([0,1],z1wn N),([0,1,0,1,1],z1u8 N)]
theorem z1iu (N:Nat)(x:z15 z163):z4u (z1n3 N) N (t_46 N) z22k Tryd.f13 (mkS z163 0 x) (z2l (.v .bool) 2)=z5x N x.1 x.2.1:=by kernel_rfl
def zct (N:Nat):List A->Res:=zz z163 (fun x=>z5x N x.1 x.2.1) (z6n (.v .bool) 2)
theorem zll (N:Nat):Contract Tryd.prog glob 13 (zct N) :=
 Contract.of (E:=z1n3 N) (H:=t_46 N) (L:=z22k) (N:=N) (body:=zn1) (K:=(z2l (.v .bool) 2)) (z24b N) Tryd.func13 (by kernel_rfl) (by decide) (fun _ hb=>(TabOk.cons (z1ry hb) (TabOk.cons (z1pj hb) TabOk.nil))) (fun x y h=>by rw[z1iu];exact h) (z13 (s:=(.v .bool)) (m:=2))
def z11t:Code:=(Tryd.f72.body).getD .skip
def L_47:List (List Nat×List Nat):=[([0],[2,1]),([0,0,1],[10,9,8,1]),([0,1,0,1],[10,9,8,1]),([0,0,0,1,0,1],[11,8,10,1,9]),(z14i,[8,10,1,9]),(z16c,[]),(z16g,[6,1,10,9,8]),([0,1,0,0,1,1,0,0,1,0,1],[17,10,9,8,1]),([1,1,0,0,1,1,0,0,1,0,1],[10,9,8,1]),([0,0,1,1,0,0,1,1,0,0,1,0,1],[4]),([1,0,1,1,0,0,1,1,0,0,1,0,1],[4]),(z16b,[10,9,8,1]),(z16a,[10,9,8,1]),([1,0,1],[]),([0,1,1],[4]),([1,1,1],[4])]
def E_47 (N:Nat):Env:=z1c tys glob [] [] [] [] false [] [(76,z7 N)]
theorem z24a (N:Nat):EnvOk Tryd.prog (E_47 N):=zi mixed zn (FnsOk.nil) (ItsOk.cons (za N) (ItsOk.nil))
def zjq (N:Nat)(kind:Int)(x8:(List Tree))(x9:Int)(x10:Int)(rec:Int->Option Bool)(k0:Bool->Option Bool)(k1:Option Bool):Option Bool:=cond (decide (x10<x9)) (cond (inR x10 (List.length x8)) (cond ((unN (List.getD x8 (Int.toNat x10) (Tree.mk 0 [] [] 0 0))).1 == kind) (k0 true) (rec (IntKind.wrap IntKind.i64 (x10+1)))) none) k1
def zs4 (N:Nat)(kind:Int)(x8:(List Tree))(x9:Int)(x10:Int)(k0:Bool->Option Bool)(k1:Option Bool):Option Bool:=iter (fun (v:Int) r=>zjq N kind x8 x9 v (fun x10=>(r x10)) k0 k1) N x10
def z20r (N:Nat)(i:(Int×(List Tree)×Int))(v:Int)(r:Int->Option Bool)(K:Ex->List A->Option Bool):Option Bool:=zjq N i.1 i.2.1 i.2.2 v (fun x10=>(r x10)) (fun a0=>(K .ret (mkS [(4,.v .bool)] 14 (a0,())))) (K (.exit 0) (mkS [] 19 ()))
def z1wm (N:Nat):Hd Bool:=fun st K=>(unS [(1,.v (.int .i64)),(6,.v (.sl .nod)),(0,.v (.int .i64)),(0,.v (.int .i64))] 8 (restr [10,9,8,1] 0 st)).bind fun x=>iter (fun v r=>z20r N ((fun x=>(x.1,x.2.1,x.2.2.1)) x) v r K) N ((fun x=>x.2.2.2.1) x)
def t1_47 (N:Nat):Tab Bool:=[]
theorem z1rx {N:Nat}{c:Ctx}(hb:Base Tryd.prog (E_47 N) c):zj Tryd.prog c (zh z11t [0,1,0,1]) (z1wm N) :=
 zu (s:=[(1,.v (.int .i64)),(6,.v (.sl .nod)),(0,.v (.int .i64)),(0,.v (.int .i64))]) (m:=8) (z20r N) [10,9,8,1] N (fun x=>(x.1,x.2.1,x.2.2.1)) (fun x=>x.2.2.2.1) (fun i v=>(i.1,i.2.1,i.2.2,v,())) (fun _=>rfl) (zd hb N (t1_47 N) L_47 z11t TabOk.nil [0,0,1,0,1] _ rfl) (fun i v r K=>by kernel_rfl)
def zfz (N:Nat)(n:DT7)(kind:Int):Option Bool:=zs4 N kind n.2.2.1 (List.length n.2.2.1:Int) 0 (fun x4=>some x4) (some false)
def t_47 (N:Nat):Tab Bool:=[([0,1,0,1],z1wm N)]
theorem z1it (N:Nat)(x:z15 [(0,.v TT4),(0,.v (.int .i64))]):z4u (E_47 N) N (t_47 N) L_47 Tryd.f72 (mkS [(0,.v TT4),(0,.v (.int .i64))] 0 x) (z2l (.v .bool) 2)=zfz N x.1 x.2.1:=by kernel_rfl
def ziy (N:Nat):List A->Res:=zz [(0,.v TT4),(0,.v (.int .i64))] (fun x=>zfz N x.1 x.2.1) (z6n (.v .bool) 2)
theorem zs5 (N:Nat):Contract Tryd.prog glob 72 (ziy N) :=
 Contract.of (E:=E_47 N) (H:=t_47 N) (L:=L_47) (N:=N) (body:=z11t) (K:=(z2l (.v .bool) 2)) (z24a N) Tryd.func72 (by kernel_rfl) (by decide) (fun _ hb=>(TabOk.cons (z1rx hb) TabOk.nil)) (fun x y h=>by rw[z1it];exact h) (z13 (s:=(.v .bool)) (m:=2))
def ztj:Code:=(Tryd.f73.body).getD .skip
def L_48:List (List Nat×List Nat):=[([0],[0,1]),([0,0,1],[10,1,0]),([1,0,1],[1,0]),([0,0,1,0,1],[4]),([1,0,1,0,1],[4]),([0,1,1],[4]),([1,1,1],[4])]
def z25h (N:Nat):Env:=z1c tys glob [] [] [] [] false [] [(76,z7 N)]
theorem z249 (N:Nat):EnvOk Tryd.prog (z25h N):=zi mixed zn (FnsOk.nil) (ItsOk.cons (za N) (ItsOk.nil))
def zly (N:Nat)(low:Int)(high:Int)(k0:Bool->Option Bool):Option Bool:=cond (decide (low<0)) (k0 true) (k0 (decide (16<low)))
def z1z6 (N:Nat)(x:z15 z161)(K:Ex->List A->Option Bool):Option Bool:=zly N x.1 x.2.1 (fun a2=>(K .normal (mkS [(0,.v (.int .i64)),(0,.v (.int .i64)),(8,.v .bool)] 12 (x.1,x.2.1,a2,()))))
def z1v1 (N:Nat):Hd Bool:=fun st K=>(unS z161 21 (restr [0,1] 0 st)).bind fun x=>z1z6 N x K
def t2_48 (N:Nat):Tab Bool:=[]
theorem z1qc {N:Nat}{c:Ctx}(hb:Base Tryd.prog (z25h N) c):zj Tryd.prog c (zh ztj [0,0,1]) (z1v1 N) :=
 zk (s:=z161) (m:=21) (g:=z1z6 N) [0,1] (zd hb N (t2_48 N) L_48 ztj TabOk.nil [0,0,1] _ rfl) (fun x K=>by kernel_rfl)
def zlz (N:Nat)(low:Int)(high:Int)(k0:Bool->Option Bool)(k1:Option Bool):Option Bool:=zly N low high (fun x10=>cond x10 (k0 false) k1)
def z20q (N:Nat)(x:z15 z161)(K:Ex->List A->Option Bool):Option Bool:=zlz N x.1 x.2.1 (fun a0=>(K .ret (mkS [(4,.v .bool)] 18 (a0,())))) (K .normal (mkS z161 21 (x.1,x.2.1,())))
def z1wl (N:Nat):Hd Bool:=fun st K=>(unS z161 21 (restr [0,1] 0 st)).bind fun x=>z20q N x K
def t1_48 (N:Nat):Tab Bool:=[([0,0,1],z1v1 N)]
theorem z1rw {N:Nat}{c:Ctx}(hb:Base Tryd.prog (z25h N) c):zj Tryd.prog c (zh ztj [0,1]) (z1wl N) :=
 zk (s:=z161) (m:=21) (g:=z20q N) [0,1] (zd hb N (t1_48 N) L_48 ztj (TabOk.cons (z1qc hb) TabOk.nil) [0,1] _ rfl) (fun x K=>by kernel_rfl)
def zmg (N:Nat)(low:Int)(high:Int):Option Bool:=zlz N low high (fun x4=>some x4) (cond (high == (-1)) (some true) (cond (decide ((if (1 > low) then 1 else low)<=high)) (some (decide (high<=16))) (some false)))
def t_48 (N:Nat):Tab Bool:=[([0,1],z1wl N)]
theorem z1is (N:Nat)(x:z15 z161):z4u (z25h N) N (t_48 N) L_48 Tryd.f73 (mkS z161 0 x) (z2l (.v .bool) 2)=zmg N x.1 x.2.1:=by kernel_rfl
def zjr (N:Nat):List A->Res:=zz z161 (fun x=>zmg N x.1 x.2.1) (z6n (.v .bool) 2)
theorem zu3 (N:Nat):Contract Tryd.prog glob 73 (zjr N) :=
 Contract.of (E:=z25h N) (H:=t_48 N) (L:=L_48) (N:=N) (body:=ztj) (K:=(z2l (.v .bool) 2)) (z249 N) Tryd.func73 (by kernel_rfl) (by decide) (fun _ hb=>(TabOk.cons (z1rw hb) TabOk.nil)) (fun x y h=>by rw[z1is];exact h) (z13 (s:=(.v .bool)) (m:=2))
def z11s:Code:=(Tryd.f57.body).getD .skip
def L_49:List (List Nat×List Nat):=[([0],[1]),([0,1],[1,4,3]),([0,0,1,1],[18,1,4,3]),([0,0,1,0,1,1],[19,1,4,18,3]),([1,0,1,0,1,1],[]),(z12j,[28,3,4,1,18]),([1,1,1,0,1,0,1,1],[]),([0,1,1,1,1,0,1,0,1,1],[45,3,4,1,18]),([1,1,1,1,1,0,1,0,1,1],[]),([0,1,1,1,1,1,1,0,1,0,1,1],[62,3,1]),([1,1,1,1,1,1,1,0,1,0,1,1],[]),([0,0,1,1,1,1,1,1,1,0,1,0,1,1],[2]),([1,0,1,1,1,1,1,1,1,0,1,0,1,1],[2]),([0,0,1,1,1,1,1,0,1,0,1,1],[2]),([1,0,1,1,1,1,1,0,1,0,1,1],[2]),([0,0,1,1,1,0,1,0,1,1],[2]),([1,0,1,1,1,0,1,0,1,1],[2]),([0,0,1,0,1,0,1,1],[2]),([1,0,1,0,1,0,1,1],[2]),([1,0,1,1],[]),([0,1,1,1],[2]),([1,1,1,1],[2])]
def E_49 (N:Nat):Env:=z1c tys glob [(73,zjr N),(72,ziy N)] [] [] [] false [] [(76,z7 N)]
theorem z248 (N:Nat):EnvOk Tryd.prog (E_49 N):=zi mixed zn (FnsOk.cons (zu3 N) (FnsOk.cons (zs5 N) (FnsOk.nil))) (ItsOk.cons (za N) (ItsOk.nil))
def zjs (N:Nat)(n:DT7)(k0:Bool->Bool->Option Bool):Option Bool:=cond (n.2.2.2.1 == 0) (k0 (eqD (T.arr 4 (T.int IntKind.u64)) n.2.1 ([0,0,0,0]:List Int)) (n.2.2.2.2.1 == 0)) (k0 (eqD (T.arr 4 (T.int IntKind.u64)) n.2.1 ([0,0,0,0]:List Int)) false)
def z20p (N:Nat)(x:z15 [(1,.box TT4)])(K:Ex->List A->Option Bool):Option Bool:=zjs N x.1 (fun a1 a2=>(K .normal (mkS [(1,.box TT4),(1,.v .bool),(0,.v .bool)] 73 (x.1,a1,a2,()))))
def z1wk (N:Nat):Hd Bool:=fun st K=>(unS [(1,.box TT4)] 76 (restr [1] 0 st)).bind fun x=>z20p N x K
def t1_49 (N:Nat):Tab Bool:=[]
theorem z1rv {N:Nat}{c:Ctx}(hb:Base Tryd.prog (E_49 N) c):zj Tryd.prog c (zh z11s [0,1]) (z1wk N) :=
 zk (s:=[(1,.box TT4)]) (m:=76) (g:=z20p N) [1] (zd hb N (t1_49 N) L_49 z11s TabOk.nil [0,1] _ rfl) (fun x K=>by kernel_rfl)
def zjt (N:Nat)(n:DT7):Option Bool:=zjs N n (fun empty once=>cond (n.1 == 1) (cond ((List.length n.2.2.1:Int) == 0) (some once) (some false)) (cond (n.1 == 2) (cond empty (cond once (cond ((List.length n.2.2.1:Int) != 1) ((zfz N n 2).bind fun y=>some (!y)) (some false)) (some false)) (some false)) (cond (n.1 == 3) (cond empty (cond once (cond (decide (2<=(List.length n.2.2.1:Int))) ((zfz N n 3).bind fun y1=>some (!y1)) (some false)) (some false)) (some false)) (cond (n.1 == 4) (cond empty (cond ((List.length n.2.2.1:Int) == 1) ((zmg N n.2.2.2.1 n.2.2.2.2.1).bind fun y2=>some y2) (some false)) (some false)) (some false)))))
def t_49 (N:Nat):Tab Bool:=[([0,1],z1wk N)]
theorem z1ir (N:Nat)(x:z15 [(0,.v TT4)]):z4u (E_49 N) N (t_49 N) L_49 Tryd.f57 (mkS [(0,.v TT4)] 0 x) (z2l (.v .bool) 1)=zjt N x.1:=by kernel_rfl
def ziz (N:Nat):List A->Res:=zz [(0,.v TT4)] (fun x=>zjt N x.1) (z6n (.v .bool) 1)
theorem zs6 (N:Nat):Contract Tryd.prog glob 57 (ziz N) :=
 Contract.of (E:=E_49 N) (H:=t_49 N) (L:=L_49) (N:=N) (body:=z11s) (K:=(z2l (.v .bool) 1)) (z248 N) Tryd.func57 (by kernel_rfl) (by decide) (fun _ hb=>(TabOk.cons (z1rv hb) TabOk.nil)) (fun x y h=>by rw[z1ir];exact h) (z13 (s:=(.v .bool)) (m:=1))
def zx2:Code:=(Tryd.f38.body).getD .skip
def L_50:List (List Nat×List Nat):=[([0],[1]),([0,0,1],[7,1]),([1,0,1],[1]),([0,0,1,0,1],[2]),([1,0,1,0,1],[2]),([0,0,1,1],[11,10,9]),([0,1,0,1,1],[11,10,9]),(z14g,[12,9,11,10]),(zqy,[9,11,10]),(z1a5,[]),(z1a6,[4,11,10,9]),(z1ao,[17,11,10,9]),(z1dh,[11,10,9]),([0,0,1,1,0,0,1,1,0,0,1,0,1,1],[2]),([1,0,1,1,0,0,1,1,0,0,1,0,1,1],[2]),(z1a4,[11,10,9]),(z1a3,[11,10,9]),([1,0,1,1],[]),([0,1,1,1],[2]),([1,1,1,1],[2])]
def E_50 (N:Nat)(self:DT7->Option Bool):Env:=z1c tys glob [(57,ziz N),(38,zz [(0,.v TT4)] (fun x=>self x.1) (z6n (.v .bool) 1))] [] [] [] false [] [(76,z7 N)]
theorem z247 (N:Nat)(self:DT7->Option Bool)(hself:Contract Tryd.prog glob 38 (zz [(0,.v TT4)] (fun x=>self x.1) (z6n (.v .bool) 1))):EnvOk Tryd.prog (E_50 N self):=zi mixed zn (FnsOk.cons (zs6 N) (FnsOk.cons (hself) (FnsOk.nil))) (ItsOk.cons (za N) (ItsOk.nil))
def zm0 (N:Nat)(self:DT7->Option Bool)(x9:(List Tree))(x10:Int)(x11:Int)(rec:Int->Option Bool)(k0:Bool->Option Bool)(k1:Option Bool):Option Bool:=cond (decide (x11<x10)) (cond (inR x11 (List.length x9)) ((self (unN (List.getD x9 (Int.toNat x11) (Tree.mk 0 [] [] 0 0)))).bind fun y=>cond (!y) (k0 false) (rec (IntKind.wrap IntKind.i64 (x11+1)))) none) k1
def zu4 (N:Nat)(self:DT7->Option Bool)(x9:(List Tree))(x10:Int)(x11:Int)(k0:Bool->Option Bool)(k1:Option Bool):Option Bool:=iter (fun (v:Int) r=>zm0 N self x9 x10 v (fun x11=>(r x11)) k0 k1) N x11
def z20o (N:Nat)(self:DT7->Option Bool)(i:((List Tree)×Int))(v:Int)(r:Int->Option Bool)(K:Ex->List A->Option Bool):Option Bool:=zm0 N self i.1 i.2 v (fun x11=>(r x11)) (fun a0=>(K .ret (mkS [(2,.v .bool)] 16 (a0,())))) (K (.exit 0) (mkS [] 19 ()))
def z1wj (N:Nat)(self:DT7->Option Bool):Hd Bool:=fun st K=>(unS [(9,.v (.sl .nod)),(0,.v (.int .i64)),(0,.v (.int .i64))] 7 (restr [11,10,9] 0 st)).bind fun x=>iter (fun v r=>z20o N self ((fun x=>(x.1,x.2.1)) x) v r K) N ((fun x=>x.2.2.1) x)
def t1_50 (N:Nat)(self:DT7->Option Bool):Tab Bool:=[]
theorem z1ru {N:Nat}{self:DT7->Option Bool}{c:Ctx}(hb:Base Tryd.prog (E_50 N self) c):zj Tryd.prog c (zh zx2 [0,1,0,1,1]) (z1wj N self) :=
 zu (s:=[(9,.v (.sl .nod)),(0,.v (.int .i64)),(0,.v (.int .i64))]) (m:=7) (z20o N self) [11,10,9] N (fun x=>(x.1,x.2.1)) (fun x=>x.2.2.1) (fun i v=>(i.1,i.2,v,())) (fun _=>rfl) (zd hb N (t1_50 N self) L_50 zx2 TabOk.nil [0,0,1,0,1,1] _ rfl) (fun i v r K=>by kernel_rfl)
def znm (N:Nat)(self:DT7->Option Bool)(n:DT7):Option Bool:=(zjt N n).bind fun y=>cond (!y) (some false) (zu4 N self n.2.2.1 (List.length n.2.2.1:Int) 0 (fun x2=>some x2) (some true))
def t_50 (N:Nat)(self:DT7->Option Bool):Tab Bool:=[([0,1,0,1,1],z1wj N self)]
theorem z1iq (N:Nat)(self:DT7->Option Bool)(x:z15 [(0,.v TT4)]):z4u (E_50 N self) N (t_50 N self) L_50 Tryd.f38 (mkS [(0,.v TT4)] 0 x) (z2l (.v .bool) 1)=znm N self x.1:=by kernel_rfl
def zbr:Nat->DT7->Option Bool
 | 0=>fun _=>none
 | N+1=>znm (N+1) (zbr N)
def zju (N:Nat):List A->Res:=zz [(0,.v TT4)] (fun x=>zbr N x.1) (z6n (.v .bool) 1)
theorem zm1:∀ N:Nat,Contract Tryd.prog glob 38 (zju N)
 | 0=>Contract.zero Tryd.func38 (body:=zx2) (by kernel_rfl) (by decide) (fun _=>rfl)
 | N+1=>Contract.of (E:=E_50 (N+1) (zbr N)) (H:=t_50 (N+1) (zbr N)) (L:=L_50) (N:=(N+1)) (body:=zx2) (K:=(z2l (.v .bool) 1)) (z247 (N+1) (zbr N) (zm1 N)) Tryd.func38 (by kernel_rfl) (by decide) (fun _ hb=>(TabOk.cons (z1ru hb) TabOk.nil)) (fun x y h=>by rw[z1iq];exact h) (z13 (s:=(.v .bool)) (m:=1))
def z1kh:Code:=(Tryd.f58.body).getD .skip
def L_51:List (List Nat×List Nat):=[([0],[1]),([0,0,1],[5,1]),([1,0,1],[1]),([0,0,1,0,1],[2]),([1,0,1,0,1],[2]),([0,1,1],[2]),([1,1,1],[2])]
def E_51 (N:Nat):Env:=z1c tys glob [] [] [] [] false [] [(76,z7 N)]
theorem z246 (N:Nat):EnvOk Tryd.prog (E_51 N):=zi mixed zn (FnsOk.nil) (ItsOk.cons (za N) (ItsOk.nil))
def zfx (N:Nat)(n:DT7):Option Int:=cond (n.2.2.2.2.1 == (-1)) (some (IntKind.wrap IntKind.i64 (n.2.2.2.1+1))) (some n.2.2.2.2.1)
def t_51 (N:Nat):Tab Int:=[]
theorem z1ip (N:Nat)(x:z15 [(0,.v TT4)]):z4u (E_51 N) N (t_51 N) L_51 Tryd.f58 (mkS [(0,.v TT4)] 0 x) (z2l (.v (.int .i64)) 1)=zfx N x.1:=by kernel_rfl
def zd2 (N:Nat):List A->Res:=zz [(0,.v TT4)] (fun x=>zfx N x.1) (z6n (.v (.int .i64)) 1)
theorem zjh (N:Nat):Contract Tryd.prog glob 58 (zd2 N) :=
 Contract.of (E:=E_51 N) (H:=t_51 N) (L:=L_51) (N:=N) (body:=z1kh) (K:=(z2l (.v (.int .i64)) 1)) (z246 N) Tryd.func58 (by kernel_rfl) (by decide) (fun _ hb=>TabOk.nil) (fun x y h=>by rw[z1ip];exact h) (z13 (s:=(.v (.int .i64))) (m:=1))
def zkg:Code:=(Tryd.f39.body).getD .skip
def z22j:List (List Nat×List Nat):=[([0],[1]),([0,1],[1,3]),([0,0,1,1],[8,1,3]),([1,0,1,1],[1,3]),([0,1,0,1,1],[1,3]),([0,0,1,1,1],[12,11,10,3,1]),([0,1,0,1,1,1],[12,11,10,3,1]),(z12l,[13,10,12,3,11,1]),(zzl,[10,12,3,11,1]),(z12o,[1,3]),(z16j,[3,5,12,11,10,1]),([1,0,0,1,1,0,0,1,0,1,1,1],[12,11,10,3,1]),(z16f,[12,11,10,3,1]),(z16e,[12,11,10,3,1]),([1,0,1,1,1],[1,3]),([0,0,1,1,1,1],[24,3,1]),([1,0,1,1,1,1],[3]),(z1an,[3]),([0,1,1,1,1,1],[2]),([1,1,1,1,1,1],[2])]
def z1n2 (N:Nat)(self:DT7->Option Int):Env:=z1c tys glob [(58,zd2 N),(39,zz [(0,.v TT4)] (fun x=>self x.1) (z6n (.v (.int .i64)) 1))] [] [] [] false [] [(76,z7 N)]
theorem z245 (N:Nat)(self:DT7->Option Int)(hself:Contract Tryd.prog glob 39 (zz [(0,.v TT4)] (fun x=>self x.1) (z6n (.v (.int .i64)) 1))):EnvOk Tryd.prog (z1n2 N self):=zi mixed zn (FnsOk.cons (zjh N) (FnsOk.cons (hself) (FnsOk.nil))) (ItsOk.cons (za N) (ItsOk.nil))
def zlr (N:Nat)(self:DT7->Option Int)(n:DT7)(total:Int)(k0:Int->Option Int):Option Int:=cond (n.1 == 1) (k0 1) (k0 total)
def z20n (N:Nat)(self:DT7->Option Int)(x:z15 z1f5)(K:Ex->List A->Option Int):Option Int:=zlr N self x.1 x.2.1 (fun a1=>(K .normal (mkS z1f5 27 (x.1,a1,()))))
def z1wi (N:Nat)(self:DT7->Option Int):Hd Int:=fun st K=>(unS z1f5 27 (restr [1,3] 0 st)).bind fun x=>z20n N self x K
def t1_52 (N:Nat)(self:DT7->Option Int):Tab Int:=[]
theorem z1rt {N:Nat}{self:DT7->Option Int}{c:Ctx}(hb:Base Tryd.prog (z1n2 N self) c):zj Tryd.prog c (zh zkg [0,1,1]) (z1wi N self) :=
 zk (s:=z1f5) (m:=27) (g:=z20n N self) [1,3] (zd hb N (t1_52 N self) z22j zkg TabOk.nil [0,1,1] _ rfl) (fun x K=>by kernel_rfl)
def zlp (N:Nat)(self:DT7->Option Int)(n:DT7)(x10:(List Tree))(x11:Int)(total:Int)(x12:Int)(rec:Int->Int->Option Int)(k0:Int->Option Int):Option Int:=cond (decide (x12<x11)) (cond (inR x12 (List.length x10)) ((self (unN (List.getD x10 (Int.toNat x12) (Tree.mk 0 [] [] 0 0)))).bind fun y=>rec (if (513<(IntKind.wrap IntKind.i64 (total+y))) then 513 else (IntKind.wrap IntKind.i64 (total+y))) (IntKind.wrap IntKind.i64 (x12+1))) none) (k0 total)
def ztx (N:Nat)(self:DT7->Option Int)(n:DT7)(total:Int)(x10:(List Tree))(x11:Int)(x12:Int)(k0:Int->Option Int):Option Int:=iter (fun (v:(Int×Int)) r=>zlp N self n x10 x11 v.1 v.2 (fun total x12=>(r (total,x12))) k0) N (total,x12)
def z1z5 (N:Nat)(self:DT7->Option Int)(i:(DT7×(List Tree)×Int))(v:(Int×Int))(r:(Int×Int)->Option Int)(K:Ex->List A->Option Int):Option Int:=zlp N self i.1 i.2.1 i.2.2 v.1 v.2 (fun total x12=>(r (total,x12))) (fun a1=>(K (.exit 0) (mkS z1f5 27 (i.1,a1,()))))
def z1v0 (N:Nat)(self:DT7->Option Int):Hd Int:=fun st K=>(unS z225 18 (restr [12,11,10,3,1] 0 st)).bind fun x=>iter (fun v r=>z1z5 N self ((fun x=>(x.1,x.2.2.1,x.2.2.2.1)) x) v r K) N ((fun x=>(x.2.1,x.2.2.2.2.1)) x)
def t2_52 (N:Nat)(self:DT7->Option Int):Tab Int:=[]
theorem z1qb {N:Nat}{self:DT7->Option Int}{c:Ctx}(hb:Base Tryd.prog (z1n2 N self) c):zj Tryd.prog c (zh zkg [0,1,0,1,1,1]) (z1v0 N self) :=
 zu (s:=z225) (m:=18) (z1z5 N self) [12,11,10,3,1] N (fun x=>(x.1,x.2.2.1,x.2.2.2.1)) (fun x=>(x.2.1,x.2.2.2.2.1)) (fun i v=>(i.1,v.1,i.2.1,i.2.2,v.2,())) (fun _=>rfl) (zd hb N (t2_52 N self) z22j zkg TabOk.nil zzc _ rfl) (fun i v r K=>by kernel_rfl)
def zlq (N:Nat)(self:DT7->Option Int)(n:DT7)(total:Int)(k0:Int->Option Int):Option Int:=cond (n.1 == 4) ((zfx N n).bind fun y=>k0 (IntKind.wrap IntKind.i64 (total*y))) (k0 total)
def z1yc (N:Nat)(self:DT7->Option Int)(x:z15 z1f5)(K:Ex->List A->Option Int):Option Int:=zlq N self x.1 x.2.1 (fun a0=>(K .normal (mkS [(3,.v (.int .i64))] 27 (a0,()))))
def z1u7 (N:Nat)(self:DT7->Option Int):Hd Int:=fun st K=>(unS z1f5 27 (restr [1,3] 0 st)).bind fun x=>z1yc N self x K
def t3_52 (N:Nat)(self:DT7->Option Int):Tab Int:=[]
theorem z1pi {N:Nat}{self:DT7->Option Int}{c:Ctx}(hb:Base Tryd.prog (z1n2 N self) c):zj Tryd.prog c (zh zkg [0,1,1,1,1]) (z1u7 N self) :=
 zk (s:=z1f5) (m:=27) (g:=z1yc N self) [1,3] (zd hb N (t3_52 N self) z22j zkg TabOk.nil [0,1,1,1,1] _ rfl) (fun x K=>by kernel_rfl)
def znc (N:Nat)(self:DT7->Option Int)(n:DT7):Option Int:=zlr N self n 0 (fun total=>ztx N self n total n.2.2.1 (List.length n.2.2.1:Int) 0 (fun total1=>zlq N self n total1 (fun total2=>some (if (513<total2) then 513 else total2))))
def t_52 (N:Nat)(self:DT7->Option Int):Tab Int:=[([0,1,1],z1wi N self),([0,1,0,1,1,1],z1v0 N self),([0,1,1,1,1],z1u7 N self)]
theorem z1io (N:Nat)(self:DT7->Option Int)(x:z15 [(0,.v TT4)]):z4u (z1n2 N self) N (t_52 N self) z22j Tryd.f39 (mkS [(0,.v TT4)] 0 x) (z2l (.v (.int .i64)) 1)=znc N self x.1:=by kernel_rfl
def zbk:Nat->DT7->Option Int
 | 0=>fun _=>none
 | N+1=>znc (N+1) (zbk N)
def zjg (N:Nat):List A->Res:=zz [(0,.v TT4)] (fun x=>zbk N x.1) (z6n (.v (.int .i64)) 1)
theorem zls:∀ N:Nat,Contract Tryd.prog glob 39 (zjg N)
 | 0=>Contract.zero Tryd.func39 (body:=zkg) (by kernel_rfl) (by decide) (fun _=>rfl)
 | N+1=>Contract.of (E:=z1n2 (N+1) (zbk N)) (H:=t_52 (N+1) (zbk N)) (L:=z22j) (N:=(N+1)) (body:=zkg) (K:=(z2l (.v (.int .i64)) 1)) (z245 (N+1) (zbk N) (zls N)) Tryd.func39 (by kernel_rfl) (by decide) (fun _ hb=>(TabOk.cons (z1rt hb) (TabOk.cons (z1qb hb) (TabOk.cons (z1pi hb) TabOk.nil)))) (fun x y h=>by rw[z1io];exact h) (z13 (s:=(.v (.int .i64))) (m:=1))
def z1kg:Code:=(Tryd.f59.body).getD .skip
def L_53:List (List Nat×List Nat):=[([0],[0]),([0,1],[0]),([1,1],[0])]
def E_53 (N:Nat):Env:=z1c tys glob [] [] [] [] false [] [(76,z7 N)]
theorem z244 (N:Nat):EnvOk Tryd.prog (E_53 N):=zi mixed zn (FnsOk.nil) (ItsOk.cons (za N) (ItsOk.nil))
def zna (N:Nat):Option z5k:=some (true,([],([],())))
def t_53 (N:Nat):Tab z5k:=[]
theorem z1in (N:Nat)(x:z15 []):z4u (E_53 N) N (t_53 N) L_53 Tryd.f59 (mkS [] 0 x) (z2l (.v z7r) 0)=zna N:=by kernel_rfl
def zbj (N:Nat):List A->Res:=zz [] (fun x=>zna N) (z6n (.v z7r) 0)
theorem zit (N:Nat):Contract Tryd.prog glob 59 (zbj N) :=
 Contract.of (E:=E_53 N) (H:=t_53 N) (L:=L_53) (N:=N) (body:=z1kg) (K:=(z2l (.v z7r) 0)) (z244 N) Tryd.func59 (by kernel_rfl) (by decide) (fun _ hb=>TabOk.nil) (fun x y h=>by rw[z1in];exact h) (z13 (s:=(.v z7r)) (m:=0))
def z1kf:Code:=(Tryd.f90.body).getD .skip
def L_54:List (List Nat×List Nat):=[([0],[0]),([0,1],[2]),([1,1],[2])]
def E_54 (N:Nat):Env:=z1c tys glob [] [] [] [] false [] [(76,z7 N)]
theorem z243 (N:Nat):EnvOk Tryd.prog (E_54 N):=zi mixed zn (FnsOk.nil) (ItsOk.cons (za N) (ItsOk.nil))
def zo6 (N:Nat)(x0:Int):Option Bool:=some (x0 != x0)
def t_54 (N:Nat):Tab Bool:=[]
theorem z1im (N:Nat)(x:z15 [(0,.v (.int .i64))]):z4u (E_54 N) N (t_54 N) L_54 Tryd.f90 (mkS [(0,.v (.int .i64))] 0 x) (z2l (.v .bool) 1)=zo6 N x.1:=by kernel_rfl
def zhh (N:Nat):List A->Res:=zz [(0,.v (.int .i64))] (fun x=>zo6 N x.1) (z6n (.v .bool) 1)
theorem zqs (N:Nat):Contract Tryd.prog glob 90 (zhh N) :=
 Contract.of (E:=E_54 N) (H:=t_54 N) (L:=L_54) (N:=N) (body:=z1kf) (K:=(z2l (.v .bool) 1)) (z243 N) Tryd.func90 (by kernel_rfl) (by decide) (fun _ hb=>TabOk.nil) (fun x y h=>by rw[z1im];exact h) (z13 (s:=(.v .bool)) (m:=1))
def z1ke:Code:=(Tryd.f81.body).getD .skip
def L_55:List (List Nat×List Nat):=[([0],[0,1]),([0,1],[1,5,0]),([0,1,1],[5,6,0,1]),([0,0,1,1,1],[11,6,0,1]),([1,0,1,1,1],[6,0,1]),(z12l,[12]),([1,0,0,1,0,1,1,1],[]),([0,0,1,0,0,1,0,1,1,1],[4]),(z12o,[4]),([0,1,0,1,0,1,1,1],[4]),([1,1,0,1,0,1,1,1],[4]),([0,0,1,1,1,1],[13,0,1]),([1,0,1,1,1,1],[0,1]),(z16d,[4]),([1,0,1,0,1,1,1,1],[4]),(ztw,[16,0,1]),(zug,[0,1]),([0,0,1,0,1,1,1,1,1],[4]),([1,0,1,0,1,1,1,1,1],[4]),([0,0,1,1,1,1,1,1],[19]),([1,0,1,1,1,1,1,1],[]),([0,0,1,0,1,1,1,1,1,1],[4]),([1,0,1,0,1,1,1,1,1,1],[4]),(z16u,[4]),(zzf,[4])]
def E_55 (N:Nat):Env:=z1c tys glob [(90,zhh N)] [] [] [] false [] [(76,z7 N)]
theorem z242 (N:Nat):EnvOk Tryd.prog (E_55 N):=zi mixed zn (FnsOk.cons (zqs N) (FnsOk.nil)) (ItsOk.cons (za N) (ItsOk.nil))
def zfd (N:Nat)(x0:Int)(y:Int):Option Int:=cond (x0 != x0) (cond (y != y) (some 0) (some (-1))) (cond (y != y) (some 1) (cond (decide (x0<y)) (some (-1)) (cond (decide (y<x0)) (some 1) (some 0))))
def t_55 (N:Nat):Tab Int:=[]
theorem z1il (N:Nat)(x:z15 z161):z4u (E_55 N) N (t_55 N) L_55 Tryd.f81 (mkS z161 0 x) (z2l (.v (.int .i64)) 2)=zfd N x.1 x.2.1:=by kernel_rfl
def zfc (N:Nat):List A->Res:=zz z161 (fun x=>zfd N x.1 x.2.1) (z6n (.v (.int .i64)) 2)
theorem zo7 (N:Nat):Contract Tryd.prog glob 81 (zfc N) :=
 Contract.of (E:=E_55 N) (H:=t_55 N) (L:=L_55) (N:=N) (body:=z1ke) (K:=(z2l (.v (.int .i64)) 2)) (z242 N) Tryd.func81 (by kernel_rfl) (by decide) (fun _ hb=>TabOk.nil) (fun x y h=>by rw[z1il];exact h) (z13 (s:=(.v (.int .i64))) (m:=2))
def zil:Code:=(Tryd.f75.body).getD .skip
def z1my:List (List Nat×List Nat):=[([0],[0,1]),([0,1],[0,1,5]),([0,0,1,1],[0,1,5]),(z167,[20,0,1,5]),(z166,[0,1,5]),(z169,[5,0,1]),([0,0,1,0,0,0,1,1],[6,5,0,1]),([0,0,1,0,1,0,0,0,1,1],[29,5,0,6,1]),([1,0,1,0,1,0,0,0,1,1],[6,1,0,5]),([1,1,0,1,0,1,0,0,0,1,1],[6,1,0,5]),([0,0,1,0,1,0,1,0,0,0,1,1],[0,6,1,5]),([1,0,1,0,1,0,1,0,0,0,1,1],[6,1,0,5]),([0,1,1,0,1,0,0,0,1,1],[45,1,0,5]),([1,1,1,0,1,0,0,0,1,1],[0,1,5]),([0,1,1,1,0,1,0,0,0,1,1],[0,1,5]),([1,0,0,0,1,1],[0,1,5]),([0,1,1],[5,0,1]),([0,1,1,1],[5,1]),([0,1,1,1,1],[4]),([1,1,1,1,1],[4])]
def z1m1 (N:Nat):Env:=z1c tys glob [(81,zfc N)] [(0,(.int .i64)),(1,(.int .i64)),(5,(.int .i64)),(4,(.int .i64))] [] [] false [] [(76,z7 N)]
theorem z241 (N:Nat):EnvOk Tryd.prog (z1m1 N):=zi mixed zn (FnsOk.cons (zo7 N) (FnsOk.nil)) (ItsOk.cons (za N) (ItsOk.nil))
def zfv (N:Nat)(a:(List Int))(b:(List Int))(l:(List Int))(k0:Option (List Int))(k1:Option (List Int)):Option (List Int):=cond (decide (0<(List.length a:Int))) (cond (decide (0<(List.length b:Int))) k0 k1) k1
def z1yb (N:Nat)(x:z15 z16t)(K:Ex->List A->Option (List Int)):Option (List Int):=zfv N x.1 x.2.1 x.2.2.1 (K .normal (mkS z16t 48 (x.1,x.2.1,x.2.2.1,()))) (K (.exit 0) (mkS z16t 48 (x.1,x.2.1,x.2.2.1,())))
def z1u6 (N:Nat):Hd (List Int):=fun st K=>(unS z16t 48 (restr [0,1,5] 0 st)).bind fun x=>z1yb N x K
def t3_56 (N:Nat):Tab (List Int):=[]
theorem z1ph {N:Nat}{c:Ctx}(hb:Base Tryd.prog (z1m1 N) c):zj Tryd.prog c (zh zil [0,0,0,0,1,1]) (z1u6 N) :=
 zk (s:=z16t) (m:=48) (g:=z1yb N) [0,1,5] (zd hb N (t3_56 N) z1my zil TabOk.nil [0,0,0,0,1,1] _ rfl) (fun x K=>by kernel_rfl)
def zfu (N:Nat)(a:(List Int))(b:(List Int))(l:(List Int))(order:Int)(k0:(List Int)->(List Int)->Option (List Int)):Option (List Int):=cond (decide (order<=0)) (cond (inR 0 (List.length a)) (cond (decide ((((List.length l)+1)*8)<=70368744177664)) (cond (decide (((0:Int)<=1)/\(1<=(List.length a:Int)))) (k0 (cut a 1 (List.length a)) (l++([(List.getD a 0 0)]:List Int))) none) none) none) (cond (inR 0 (List.length b)) (cond (decide ((((List.length l)+1)*8)<=70368744177664)) (k0 a (l++([(List.getD b 0 0)]:List Int))) none) none)
def z1xy (N:Nat)(x:z15 SQ49)(K:Ex->List A->Option (List Int)):Option (List Int):=zfu N x.1 x.2.1 x.2.2.1 x.2.2.2.1 (fun a0 a2=>(K .normal (mkS SQ49 47 (a0,x.2.1,a2,x.2.2.2.1,()))))
def z1tt (N:Nat):Hd (List Int):=fun st K=>(unS SQ49 47 (restr [6,5,0,1] 0 st)).bind fun x=>z1xy N x K
def t4_56 (N:Nat):Tab (List Int):=[]
theorem z1p4 {N:Nat}{c:Ctx}(hb:Base Tryd.prog (z1m1 N) c):zj Tryd.prog c (zh zil [0,1,0,1,0,0,0,1,1]) (z1tt N) :=
 zk (s:=SQ49) (m:=47) (g:=z1xy N) [6,5,0,1] (zd hb N (t4_56 N) z1my zil TabOk.nil [0,1,0,1,0,0,0,1,1] _ rfl) (fun x K=>by kernel_rfl)
def zft (N:Nat)(a:(List Int))(b:(List Int))(l:(List Int))(rec:(List Int)->(List Int)->(List Int)->Option (List Int))(k0:(List Int)->(List Int)->(List Int)->Option (List Int)):Option (List Int):=zfv N a b l (cond (inR 0 (List.length a)) (cond (inR 0 (List.length b)) ((zfd N (List.getD a 0 0) (List.getD b 0 0)).bind fun y=>zfu N a b l y (fun a1 l1=>cond (decide (0<=y)) (cond (decide (((0:Int)<=1)/\(1<=(List.length b:Int)))) (rec a1 (cut b 1 (List.length b)) l1) none) (rec a1 b l1))) none) none) (k0 a b l)
def znb (N:Nat)(a:(List Int))(b:(List Int))(l:(List Int))(k0:(List Int)->(List Int)->(List Int)->Option (List Int)):Option (List Int):=iter (fun (v:((List Int)×(List Int)×(List Int))) r=>zft N v.1 v.2.1 v.2.2 (fun a b l=>(r (a,b,l))) k0) N (a,b,l)
def z1z4 (N:Nat)(i:Unit)(v:((List Int)×(List Int)×(List Int)))(r:((List Int)×(List Int)×(List Int))->Option (List Int))(K:Ex->List A->Option (List Int)):Option (List Int):=zft N v.1 v.2.1 v.2.2 (fun a b l=>(r (a,b,l))) (fun a0 a1 a2=>(K (.exit 0) (mkS z16t 48 (a0,a1,a2,()))))
def z1uz (N:Nat):Hd (List Int):=fun st K=>(unS z16t 48 (restr [0,1,5] 0 st)).bind fun x=>iter (fun v r=>z1z4 N ((fun x=>()) x) v r K) N ((fun x=>(x.1,x.2.1,x.2.2.1)) x)
def t2_56 (N:Nat):Tab (List Int):=[([0,0,0,0,1,1],z1u6 N),([0,1,0,1,0,0,0,1,1],z1tt N)]
theorem z1qa {N:Nat}{c:Ctx}(hb:Base Tryd.prog (z1m1 N) c):zj Tryd.prog c (zh zil [0,0,1,1]) (z1uz N) :=
 zu (s:=z16t) (m:=48) (z1z4 N) [0,1,5] N (fun x=>()) (fun x=>(x.1,x.2.1,x.2.2.1)) (fun i v=>(v.1,v.2.1,v.2.2,())) (fun _=>rfl) (zd hb N (t2_56 N) z1my zil (TabOk.cons (z1ph hb) (TabOk.cons (z1p4 hb) TabOk.nil)) [0,0,0,1,1] _ rfl) (fun i v r K=>by kernel_rfl)
def zfw (N:Nat)(a:(List Int))(b:(List Int))(l:(List Int))(k0:(List Int)->(List Int)->(List Int)->Option (List Int)):Option (List Int):=znb N a b l (fun a1 b1 l1=>k0 a1 b1 l1)
def z20m (N:Nat)(x:z15 z16t)(K:Ex->List A->Option (List Int)):Option (List Int):=zfw N x.1 x.2.1 x.2.2.1 (fun a0 a1 a2=>(K .normal (mkS z16t 48 (a0,a1,a2,()))))
def z1wh (N:Nat):Hd (List Int):=fun st K=>(unS z16t 48 (restr [0,1,5] 0 st)).bind fun x=>z20m N x K
def t1_56 (N:Nat):Tab (List Int):=[([0,0,1,1],z1uz N)]
theorem z1rs {N:Nat}{c:Ctx}(hb:Base Tryd.prog (z1m1 N) c):zj Tryd.prog c (zh zil [0,1,1]) (z1wh N) :=
 zk (s:=z16t) (m:=48) (g:=z20m N) [0,1,5] (zd hb N (t1_56 N) z1my zil (TabOk.cons (z1qa hb) TabOk.nil) [0,1,1] _ rfl) (fun x K=>by kernel_rfl)
def z2u (N:Nat)(a:(List Int))(b:(List Int)):Option (List Int):=cond (decide (((0:Int)<=0)/\((0<=(IntKind.wrap IntKind.i64 ((List.length a:Int)+(List.length b:Int))))/\((((IntKind.wrap IntKind.i64 ((List.length a:Int)+(List.length b:Int)))*8)<=281474976710656)/\((IntKind.wrap IntKind.i64 ((List.length a:Int)+(List.length b:Int)))<=9223372036854775807))))) (zfw N a b [] (fun a1 b1 l=>cond (decide ((((List.length l)+(List.length a1))*8)<=70368744177664)) (cond (decide ((((List.length (l++a1))+(List.length b1))*8)<=70368744177664)) (some ((l++a1)++b1)) none) none)) none
def t_56 (N:Nat):Tab (List Int):=[([0,1,1],z1wh N)]
theorem z1ik (N:Nat)(x:z15 z1mh):z4u (z1m1 N) N (t_56 N) z1my Tryd.f75 (mkS z1mh 0 x) (z2l (.v (.sl (.int .i64))) 2)=z2u N x.1 x.2.1:=by kernel_rfl
def z68 (N:Nat):List A->Res:=zz z1mh (fun x=>z2u N x.1 x.2.1) (z6n (.v (.sl (.int .i64))) 2)
theorem za6 (N:Nat):Contract Tryd.prog glob 75 (z68 N) :=
 Contract.of (E:=z1m1 N) (H:=t_56 N) (L:=z1my) (N:=N) (body:=zil) (K:=(z2l (.v (.sl (.int .i64))) 2)) (z241 N) Tryd.func75 (by kernel_rfl) (by decide) (fun _ hb=>(TabOk.cons (z1rs hb) TabOk.nil)) (fun x y h=>by rw[z1ik];exact h) (z13 (s:=(.v (.sl (.int .i64)))) (m:=2))
def z11r:Code:=(Tryd.f74.body).getD .skip
def L_57:List (List Nat×List Nat):=[([0],[10,9,8,0,2]),([0,1],[10,9,8,0,2]),([0,0,0,1],[11,8,10,0,2,9]),([0,1,0,0,1],[8,10,0,2,9]),([1,0,1,0,0,1],[0]),([0,0,0,1,1,0,0,1],[0,7,2,10,9,8]),([1,0,0,1,1,0,0,1],[10,9,8,0,2]),([0,1,1,0,0,1],[10,9,8,0,2]),([1,1,1,0,0,1],[10,9,8,0,2]),([1],[0])]
def E_57 (N:Nat):Env:=z1c tys glob [(75,z68 N)] [] [] [0] false [] [(76,z7 N)]
theorem z240 (N:Nat):EnvOk Tryd.prog (E_57 N):=zi mixed zn (FnsOk.cons (za6 N) (FnsOk.nil)) (ItsOk.cons (za N) (ItsOk.nil))
def zcf (N:Nat)(first:(List Int))(x8:(List Int))(x9:Int)(b:z5l)(x10:Int)(rec:z5l->Int->Option ((Unit)×(z5l×Unit)))(k0:z5l->Option ((Unit)×(z5l×Unit))):Option ((Unit)×(z5l×Unit)):=cond (decide (x10<x9)) (cond (inR x10 (List.length x8)) (cond (inR (List.getD x8 (Int.toNat x10) 0) (List.length b.2.1)) (cond (decide ((Int.toNat (List.getD x8 (Int.toNat x10) 0))<(List.length b.2.1))) ((z2u N (List.getD b.2.1 (Int.toNat (List.getD x8 (Int.toNat x10) 0)) []) first).bind fun y=>cond (inR (List.getD x8 (Int.toNat x10) 0) (List.length b.2.1)) (cond (decide ((Int.toNat (List.getD x8 (Int.toNat x10) 0))<(List.length b.2.1))) (rec (b.1,((List.set b.2.1 (Int.toNat (List.getD x8 (Int.toNat x10) 0)) y),b.2.2)) (IntKind.wrap IntKind.i64 (x10+1))) none) none) none) none) none) (k0 b)
def zji (N:Nat)(b:z5l)(first:(List Int))(x8:(List Int))(x9:Int)(x10:Int)(k0:z5l->Option ((Unit)×(z5l×Unit))):Option ((Unit)×(z5l×Unit)):=iter (fun (v:(z5l×Int)) r=>zcf N first x8 x9 v.1 v.2 (fun b x10=>(r (b,x10))) k0) N (b,x10)
def z20l (N:Nat)(i:((List Int)×(List Int)×Int))(v:(z5l×Int))(r:(z5l×Int)->Option ((Unit)×(z5l×Unit)))(K:Ex->List A->Option ((Unit)×(z5l×Unit))):Option ((Unit)×(z5l×Unit)):=zcf N i.1 i.2.1 i.2.2 v.1 v.2 (fun b x10=>(r (b,x10))) (fun a0=>(K (.exit 0) (mkS [(0,.box zhk)] 29 (a0,()))))
def z1wg (N:Nat):Hd ((Unit)×(z5l×Unit)):=fun st K=>(unS z22f 19 (restr [10,9,8,0,2] 0 st)).bind fun x=>iter (fun v r=>z20l N ((fun x=>(x.2.1,x.2.2.1,x.2.2.2.1)) x) v r K) N ((fun x=>(x.1,x.2.2.2.2.1)) x)
def t1_57 (N:Nat):Tab ((Unit)×(z5l×Unit)):=[]
theorem z1rr {N:Nat}{c:Ctx}(hb:Base Tryd.prog (E_57 N) c):zj Tryd.prog c (zh z11r [0,1]) (z1wg N) :=
 zu (s:=z22f) (m:=19) (z20l N) [10,9,8,0,2] N (fun x=>(x.2.1,x.2.2.1,x.2.2.2.1)) (fun x=>(x.1,x.2.2.2.2.1)) (fun i v=>(v.1,i.1,i.2.1,i.2.2,v.2,())) (fun _=>rfl) (zd hb N (t1_57 N) L_57 z11r TabOk.nil [0,0,1] _ rfl) (fun i v r K=>by kernel_rfl)
def z70 (N:Nat)(b:z5l)(last:(List Int))(first:(List Int)):Option ((Unit)×(z5l×Unit)):=zji N b first last (List.length last:Int) 0 (fun b1=>some ((),(b1,())))
def t_57 (N:Nat):Tab ((Unit)×(z5l×Unit)):=[([0,1],z1wg N)]
theorem z1ij (N:Nat)(x:z15 z1l9):z4u (E_57 N) N (t_57 N) L_57 Tryd.f74 (mkS z1l9 0 x) (z3r (.tup []) [(0,.box zhk)] 2)=z70 N x.1 x.2.1 x.2.2.1:=by kernel_rfl
def z6t (N:Nat):List A->Res:=zz z1l9 (fun x=>z70 N x.1 x.2.1 x.2.2.1) (z4x (.tup []) [(0,.box zhk)] 2)
theorem zcg (N:Nat):Contract Tryd.prog glob 74 (z6t N) :=
 Contract.of (E:=E_57 N) (H:=t_57 N) (L:=L_57) (N:=N) (body:=z11r) (K:=(z3r (.tup []) [(0,.box zhk)] 2)) (z240 N) Tryd.func74 (by kernel_rfl) (by decide) (fun _ hb=>(TabOk.cons (z1rr hb) TabOk.nil)) (fun x y h=>by rw[z1ij];exact h) (z2s (s:=(.tup [])) (os:=[(0,.box zhk)]) (m:=2))
def zti:Code:=(Tryd.f60.body).getD .skip
def L_58:List (List Nat×List Nat):=[([0],[0,4,5,6]),([0,1],[4,5,6,0]),([0,1,1],[4,5,7,6,0]),([0,0,1,1,1],[26,4,5,7,6,0]),([1,0,1,1,1],[5,4,7,6,0]),([0,1,0,1,1,1],[5,4,7,6,0]),([0,0,1,1,1,1],[34,4,5,7,6,0]),([1,0,1,1,1,1],[7,6,0]),(z1an,[7,6,0]),([0,1,1,1,1,1],[6,0]),([1,1,1,1,1,1],[6,0])]
def z25g (N:Nat):Env:=z1c tys glob [(74,z6t N),(75,z68 N)] [] [] [0] false [] [(76,z7 N)]
theorem z23z (N:Nat):EnvOk Tryd.prog (z25g N):=zi mixed zn (FnsOk.cons (zcg N) (FnsOk.cons (za6 N) (FnsOk.nil))) (ItsOk.cons (za N) (ItsOk.nil))
def zcc (N:Nat)(b:z5l)(x4:z5k)(y:z5k)(x6:z5k)(k0:z5k->Option DT9):Option DT9:=cond x4.1 (k0 (y.1,(x4.2.1,(y.2.2.1,())))) (k0 (false,(x4.2.1,(y.2.2.1,()))))
def z20k (N:Nat)(x:z15 z1l7)(K:Ex->List A->Option DT9):Option DT9:=zcc N x.1 x.2.1 x.2.2.1 x.2.2.2.1 (fun a4=>(K .normal (mkS z21v 34 (x.1,x.2.1,x.2.2.1,x.2.2.2.1,a4,()))))
def z1wf (N:Nat):Hd DT9:=fun st K=>(unS z1l7 35 (restr [4,5,6,0] 0 st)).bind fun x=>z20k N x K
def t1_58 (N:Nat):Tab DT9:=[]
theorem z1rq {N:Nat}{c:Ctx}(hb:Base Tryd.prog (z25g N) c):zj Tryd.prog c (zh zti [0,1,1]) (z1wf N) :=
 zk (s:=z1l7) (m:=35) (g:=z20k N) [4,5,6,0] (zd hb N (t1_58 N) L_58 zti TabOk.nil [0,1,1] _ rfl) (fun x K=>by kernel_rfl)
def zcb (N:Nat)(b:z5l)(x4:z5k)(y:z5k)(x6:z5k)(whole:z5k)(k0:z5k->Option DT9):Option DT9:=cond x4.1 ((z2u N x4.2.1 y.2.1).bind fun y1=>k0 (whole.1,(y1,whole.2.2))) (k0 whole)
def z1z3 (N:Nat)(x:z15 z21v)(K:Ex->List A->Option DT9):Option DT9:=zcb N x.1 x.2.1 x.2.2.1 x.2.2.2.1 x.2.2.2.2.1 (fun a4=>(K .normal (mkS z21v 34 (x.1,x.2.1,x.2.2.1,x.2.2.2.1,a4,()))))
def z1uy (N:Nat):Hd DT9:=fun st K=>(unS z21v 34 (restr [4,5,7,6,0] 0 st)).bind fun x=>z1z3 N x K
def t2_58 (N:Nat):Tab DT9:=[]
theorem z1q9 {N:Nat}{c:Ctx}(hb:Base Tryd.prog (z25g N) c):zj Tryd.prog c (zh zti [0,1,1,1]) (z1uy N) :=
 zk (s:=z21v) (m:=34) (g:=z1z3 N) [4,5,7,6,0] (zd hb N (t2_58 N) L_58 zti TabOk.nil [0,1,1,1] _ rfl) (fun x K=>by kernel_rfl)
def z3f (N:Nat)(b:z5l)(x1:z5k)(y:z5k):Option DT9:=(z70 N b x1.2.2.1 y.2.1).bind fun y1=>zcc N y1.2.1 x1 y (false,([],([],()))) (fun whole=>zcb N y1.2.1 x1 y (false,([],([],()))) whole (fun whole1=>cond y.1 ((z2u N x1.2.2.1 y.2.2.1).bind fun y2=>some ((whole1.1,(whole1.2.1,(y2,whole1.2.2.2))),(y1.2.1,()))) (some (whole1,(y1.2.1,())))))
def t_58 (N:Nat):Tab DT9:=[([0,1,1],z1wf N),([0,1,1,1],z1uy N)]
theorem z1ii (N:Nat)(x:z15 [(0,.box zhk),(0,.v z7r),(0,.v z7r)]):z4u (z25g N) N (t_58 N) L_58 Tryd.f60 (mkS [(0,.box zhk),(0,.v z7r),(0,.v z7r)] 0 x) (z3r (.v z7r) [(0,.box zhk)] 2)=z3f N x.1 x.2.1 x.2.2.1:=by kernel_rfl
def z6s (N:Nat):List A->Res:=zz [(0,.box zhk),(0,.v z7r),(0,.v z7r)] (fun x=>z3f N x.1 x.2.1 x.2.2.1) (z4x (.v z7r) [(0,.box zhk)] 2)
theorem zcd (N:Nat):Contract Tryd.prog glob 60 (z6s N) :=
 Contract.of (E:=z25g N) (H:=t_58 N) (L:=L_58) (N:=N) (body:=zti) (K:=(z3r (.v z7r) [(0,.box zhk)] 2)) (z23z N) Tryd.func60 (by kernel_rfl) (by decide) (fun _ hb=>(TabOk.cons (z1rq hb) (TabOk.cons (z1q9 hb) TabOk.nil))) (fun x y h=>by rw[z1ii];exact h) (z2s (s:=(.v z7r)) (os:=[(0,.box zhk)]) (m:=2))
def z1kd:Code:=(Tryd.f61.body).getD .skip
def L_59:List (List Nat×List Nat):=[([0],[2,3,4]),([0,1],[4]),([1,1],[4])]
def E_59 (N:Nat):Env:=z1c tys glob [(75,z68 N)] [] [] [] false [] [(76,z7 N)]
theorem z23y (N:Nat):EnvOk Tryd.prog (E_59 N):=zi mixed zn (FnsOk.cons (za6 N) (FnsOk.nil)) (ItsOk.cons (za N) (ItsOk.nil))
def zjf (N:Nat)(x0:z5k)(y:z5k):Option z5k:=cond x0.1 ((z2u N x0.2.1 y.2.1).bind fun y1=>(z2u N x0.2.2.1 y.2.2.1).bind fun y2=>some (true,(y1,(y2,())))) ((z2u N x0.2.1 y.2.1).bind fun y3=>(z2u N x0.2.2.1 y.2.2.1).bind fun y4=>some (y.1,(y3,(y4,()))))
def t_59 (N:Nat):Tab z5k:=[]
theorem z1ih (N:Nat)(x:z15 [(0,.v z7r),(0,.v z7r)]):z4u (E_59 N) N (t_59 N) L_59 Tryd.f61 (mkS [(0,.v z7r),(0,.v z7r)] 0 x) (z2l (.v z7r) 2)=zjf N x.1 x.2.1:=by kernel_rfl
def ziu (N:Nat):List A->Res:=zz [(0,.v z7r),(0,.v z7r)] (fun x=>zjf N x.1 x.2.1) (z6n (.v z7r) 2)
theorem zrl (N:Nat):Contract Tryd.prog glob 61 (ziu N) :=
 Contract.of (E:=E_59 N) (H:=t_59 N) (L:=L_59) (N:=N) (body:=z1kd) (K:=(z2l (.v z7r) 2)) (z23y N) Tryd.func61 (by kernel_rfl) (by decide) (fun _ hb=>TabOk.nil) (fun x y h=>by rw[z1ih];exact h) (z13 (s:=(.v z7r)) (m:=2))
abbrev zg:Type:=z5l->DT7->Option DT9
def zik:Code:=(Tryd.f62.body).getD .skip
def z1mx:List (List Nat×List Nat):=[([0],[0,3,4]),([0,1],[0,3,5,4]),([0,1,1],[0,5,4,6,3]),([0,0,1,1,1],[30,4,0,6,3]),([1,0,1,1,1],[6,3,0,4]),(zzc,[4,0]),(z12k,[4,0]),([0,0,1,1,1,1],[6,3,0,4]),(z1ab,[36,6,0,3,4]),(z1aa,[6,0,3,4]),(z1ad,[6,3,0,4]),([0,1,0,0,0,1,1,1,1],[6,3,0,4]),(z1a7,[6,3,0,4]),([0,1,1,1,1],[6,3,0,4]),([0,1,1,1,1,1],[6,3,0,7,4]),([0,0,1,1,1,1,1,1],[8,3,0,6,7,4]),(z1a9,[8,3,0,6,7,4]),([0,0,0,0,1,0,1,1,1,1,1,1],[53,0,6,8,7,3,4]),([1,0,0,0,1,0,1,1,1,1,1,1],[0,6,8,7,3,4]),([1,1,0,0,0,1,0,1,1,1,1,1,1],[3,0,7,6,4]),([0,0,0,1,0,0,1,0,1,1,1,1,1,1],[7,8,3,0,6,4]),([1,0,0,1,0,0,1,0,1,1,1,1,1,1],[8,3,0,6,7,4]),([0,1,0,0,1,0,1,1,1,1,1,1],[8,3,0,6,7,4]),([1,1,0,0,1,0,1,1,1,1,1,1],[8,3,0,6,7,4]),([1,0,1,1,1,1,1,1],[3,0,7,6,4]),([0,0,1,1,1,1,1,1,1],[66,0,7,6,3,4]),([1,0,1,1,1,1,1,1,1],[6,3,0,7,4]),([0,1,0,1,1,1,1,1,1,1],[6,3,0,7,4]),([0,1,1,1,1,1,1,1,1],[6,3,0,9,7,4]),([0,0,1,1,1,1,1,1,1,1,1],z12i),([0,1,0,1,1,1,1,1,1,1,1,1],z12i),([0,0,0,1,0,1,1,1,1,1,1,1,1,1],[80,77,79,0,9,78,7,4]),([0,1,0,0,1,0,1,1,1,1,1,1,1,1,1],[77,79,0,9,78,7,4]),([1,0,1,0,0,1,0,1,1,1,1,1,1,1,1,1],[0,9,7,4]),([0,0,0,1,1,0,0,1,0,1,1,1,1,1,1,1,1,1],[0,9,11,79,78,77,7,4]),([1,0,0,1,1,0,0,1,0,1,1,1,1,1,1,1,1,1],z12i),([0,1,1,0,0,1,0,1,1,1,1,1,1,1,1,1],z12i),([1,1,1,0,0,1,0,1,1,1,1,1,1,1,1,1],z12i),([1,0,1,1,1,1,1,1,1,1,1],[0,9,7,4]),([0,1,1,1,1,1,1,1,1,1,1],[4,0]),([1,1,1,1,1,1,1,1,1,1,1],[4,0])]
def z1m0 (N:Nat)(self:zg):Env:=z1c tys glob [(60,z6s N),(74,z6t N),(59,zbj N),(58,zd2 N),(40,zz z1a2 (fun x=>self x.1 x.2.1) (z4x (.v z7r) [(0,.box zhk)] 1))] [(6,z7r)] [] [0] false [] [(76,z7 N)]
theorem z23x (N:Nat)(self:zg)(hself:Contract Tryd.prog glob 40 (zz z1a2 (fun x=>self x.1 x.2.1) (z4x (.v z7r) [(0,.box zhk)] 1))):EnvOk Tryd.prog (z1m0 N self):=zi mixed zn (FnsOk.cons (zcd N) (FnsOk.cons (zcg N) (FnsOk.cons (zit N) (FnsOk.cons (zjh N) (FnsOk.cons (hself) (FnsOk.nil)))))) (ItsOk.cons (za N) (ItsOk.nil))
def zdc (N:Nat)(self:zg)(n:DT7)(x4:z5k)(b:z5l)(parts:(List z5k))(rec:z5l->(List z5k)->Option DT9)(k0:z5l->(List z5k)->Option DT9):Option DT9:=(zfx N n).bind fun y=>cond (decide ((List.length parts:Int)<y)) (cond (inR 0 (List.length n.2.2.1)) ((self b (unN (List.getD n.2.2.1 0 (Tree.mk 0 [] [] 0 0)))).bind fun y1=>cond (decide ((((List.length parts)+1)*56)<=70368744177664)) (rec y1.2.1 (parts++([y1.1]:List z5k))) none) none) (k0 b parts)
def zle (N:Nat)(self:zg)(b:z5l)(n:DT7)(x4:z5k)(parts:(List z5k))(k0:z5l->(List z5k)->Option DT9):Option DT9:=iter (fun (v:(z5l×(List z5k))) r=>zdc N self n x4 v.1 v.2 (fun b parts=>(r (b,parts))) k0) N (b,parts)
def z20j (N:Nat)(self:zg)(i:(DT7×z5k))(v:(z5l×(List z5k)))(r:(z5l×(List z5k))->Option DT9)(K:Ex->List A->Option DT9):Option DT9:=zdc N self i.1 i.2 v.1 v.2 (fun b parts=>(r (b,parts))) (fun a0 a3=>(K (.exit 0) (mkS z1l5 85 (a0,i.1,i.2,a3,()))))
def z1we (N:Nat)(self:zg):Hd DT9:=fun st K=>(unS z1l5 85 (restr [6,3,0,4] 0 st)).bind fun x=>iter (fun v r=>z20j N self ((fun x=>(x.2.1,x.2.2.1)) x) v r K) N ((fun x=>(x.1,x.2.2.2.1)) x)
def t1_60 (N:Nat)(self:zg):Tab DT9:=[]
theorem z1rp {N:Nat}{self:zg}{c:Ctx}(hb:Base Tryd.prog (z1m0 N self) c):zj Tryd.prog c (zh zik [0,0,1,1,1,1]) (z1we N self) :=
 zu (s:=z1l5) (m:=85) (z20j N self) [6,3,0,4] N (fun x=>(x.2.1,x.2.2.1)) (fun x=>(x.1,x.2.2.2.1)) (fun i v=>(v.1,i.1,i.2,v.2,())) (fun _=>rfl) (zd hb N (t1_60 N self) z1mx zik TabOk.nil [0,0,0,1,1,1,1] _ rfl) (fun i v r K=>by kernel_rfl)
def zdb (N:Nat)(self:zg)(n:DT7)(x4:z5k)(parts:(List z5k))(b:z5l)(tail:z5k)(i:Int)(rec:z5l->z5k->Int->Option DT9)(k0:z5l->z5k->Option DT9):Option DT9:=cond (decide (n.2.2.2.1<=i)) (cond (inR i (List.length parts)) (cond (decide ((Int.toNat i)<(List.length parts))) ((z3f N b (List.getD parts (Int.toNat i) (false,([],([],())))) tail).bind fun y=>rec y.2.1 (true,y.1.2) (IntKind.wrap IntKind.i64 (i - 1))) none) none) (k0 b tail)
def zld (N:Nat)(self:zg)(b:z5l)(n:DT7)(x4:z5k)(parts:(List z5k))(tail:z5k)(i:Int)(k0:z5l->z5k->Option DT9):Option DT9:=iter (fun (v:(z5l×z5k×Int)) r=>zdb N self n x4 parts v.1 v.2.1 v.2.2 (fun b tail i=>(r (b,tail,i))) k0) N (b,tail,i)
def z1z2 (N:Nat)(self:zg)(i:(DT7×z5k×(List z5k)))(v:(z5l×z5k×Int))(r:(z5l×z5k×Int)->Option DT9)(K:Ex->List A->Option DT9):Option DT9:=zdb N self i.1 i.2.1 i.2.2 v.1 v.2.1 v.2.2 (fun b tail i=>(r (b,tail,i))) (fun a0 a4=>(K (.exit 2) (mkS z21u 84 (a0,i.1,i.2.1,i.2.2,a4,()))))
def z1ux (N:Nat)(self:zg):Hd DT9:=fun st K=>(unS z227 83 (restr [8,3,0,6,7,4] 0 st)).bind fun x=>iter (fun v r=>z1z2 N self ((fun x=>(x.2.1,x.2.2.1,x.2.2.2.1)) x) v r K) N ((fun x=>(x.1,x.2.2.2.2.1,x.2.2.2.2.2.1)) x)
def t2_60 (N:Nat)(self:zg):Tab DT9:=[]
theorem z1q8 {N:Nat}{self:zg}{c:Ctx}(hb:Base Tryd.prog (z1m0 N self) c):zj Tryd.prog c (zh zik z1a9) (z1ux N self) :=
 zu (s:=z227) (m:=83) (z1z2 N self) [8,3,0,6,7,4] N (fun x=>(x.2.1,x.2.2.1,x.2.2.2.1)) (fun x=>(x.1,x.2.2.2.2.1,x.2.2.2.2.2.1)) (fun i v=>(v.1,i.1,i.2.1,i.2.2,v.2.1,v.2.2,())) (fun _=>rfl) (zd hb N (t2_60 N self) z1mx zik TabOk.nil [0,0,1,0,1,1,1,1,1,1] _ rfl) (fun i v r K=>by kernel_rfl)
def zdd (N:Nat)(self:zg)(b:z5l)(n:DT7)(x4:z5k)(parts:(List z5k))(tail:z5k)(k0:z5l->Option DT9):Option DT9:=cond (n.2.2.2.2.1 == (-1)) ((z70 N b tail.2.2.1 tail.2.1).bind fun y=>k0 y.2.1) (k0 b)
def z1ya (N:Nat)(self:zg)(x:z15 z21u)(K:Ex->List A->Option DT9):Option DT9:=zdd N self x.1 x.2.1 x.2.2.1 x.2.2.2.1 x.2.2.2.2.1 (fun a0=>(K .normal (mkS z21u 84 (a0,x.2.1,x.2.2.1,x.2.2.2.1,x.2.2.2.2.1,()))))
def z1u5 (N:Nat)(self:zg):Hd DT9:=fun st K=>(unS z21u 84 (restr [3,0,7,6,4] 0 st)).bind fun x=>z1ya N self x K
def t3_60 (N:Nat)(self:zg):Tab DT9:=[]
theorem z1pg {N:Nat}{self:zg}{c:Ctx}(hb:Base Tryd.prog (z1m0 N self) c):zj Tryd.prog c (zh zik z16u) (z1u5 N self) :=
 zk (s:=z21u) (m:=84) (g:=z1ya N self) [3,0,7,6,4] (zd hb N (t3_60 N self) z1mx zik TabOk.nil z16u _ rfl) (fun x K=>by kernel_rfl)
def zda (N:Nat)(self:zg)(x4:z5k)(tail:z5k)(x77:(List z5k))(x78:Int)(b:z5l)(whole:z5k)(x79:Int)(rec:z5l->z5k->Int->Option DT9)(k0:z5l->z5k->Option DT9):Option DT9:=cond (decide (x79<x78)) (cond (inR x79 (List.length x77)) ((z3f N b whole (List.getD x77 (Int.toNat x79) (false,([],([],()))))).bind fun y=>rec y.2.1 y.1 (IntKind.wrap IntKind.i64 (x79+1))) none) (k0 b whole)
def zlc (N:Nat)(self:zg)(b:z5l)(x4:z5k)(tail:z5k)(whole:z5k)(x77:(List z5k))(x78:Int)(x79:Int)(k0:z5l->z5k->Option DT9):Option DT9:=iter (fun (v:(z5l×z5k×Int)) r=>zda N self x4 tail x77 x78 v.1 v.2.1 v.2.2 (fun b whole x79=>(r (b,whole,x79))) k0) N (b,whole,x79)
def z1xx (N:Nat)(self:zg)(i:(z5k×z5k×(List z5k)×Int))(v:(z5l×z5k×Int))(r:(z5l×z5k×Int)->Option DT9)(K:Ex->List A->Option DT9):Option DT9:=zda N self i.1 i.2.1 i.2.2.1 i.2.2.2 v.1 v.2.1 v.2.2 (fun b whole x79=>(r (b,whole,x79))) (fun a0 a3=>(K (.exit 4) (mkS [(0,.box zhk),(3,.box z7r),(2,.box z7r),(1,.box z7r)] 82 (a0,i.1,i.2.1,a3,()))))
def z1ts (N:Nat)(self:zg):Hd DT9:=fun st K=>(unS SQ87 12 (restr z12i 0 st)).bind fun x=>iter (fun v r=>z1xx N self ((fun x=>(x.2.1,x.2.2.1,x.2.2.2.2.1,x.2.2.2.2.2.1)) x) v r K) N ((fun x=>(x.1,x.2.2.2.1,x.2.2.2.2.2.2.1)) x)
def t4_60 (N:Nat)(self:zg):Tab DT9:=[]
theorem z1p3 {N:Nat}{self:zg}{c:Ctx}(hb:Base Tryd.prog (z1m0 N self) c):zj Tryd.prog c (zh zik [0,1,0,1,1,1,1,1,1,1,1,1]) (z1ts N self) :=
 zu (s:=SQ87) (m:=12) (z1xx N self) z12i N (fun x=>(x.2.1,x.2.2.1,x.2.2.2.2.1,x.2.2.2.2.2.1)) (fun x=>(x.1,x.2.2.2.1,x.2.2.2.2.2.2.1)) (fun i v=>(v.1,i.1,i.2.1,v.2.1,i.2.2.1,i.2.2.2,v.2.2,())) (fun _=>rfl) (zd hb N (t4_60 N self) z1mx zik TabOk.nil [0,0,1,0,1,1,1,1,1,1,1,1,1] _ rfl) (fun i v r K=>by kernel_rfl)
def zbl (N:Nat)(self:zg)(b:z5l)(n:DT7):Option DT9:=cond (inR 0 (List.length n.2.2.1)) ((self b (unN (List.getD n.2.2.1 0 (Tree.mk 0 [] [] 0 0)))).bind fun y=>cond ((List.length y.2.1.1:Int) == (List.length b.1:Int)) (some ((true,([],([],()))),(y.2.1,()))) (zle N self y.2.1 n (false,([],([],()))) ([y.1]:List z5k) (fun b1 parts=>zld N self b1 n (false,([],([],()))) parts (true,([],([],()))) (IntKind.wrap IntKind.i64 ((List.length parts:Int) - 1)) (fun b2 tail=>zdd N self b2 n (false,([],([],()))) parts tail (fun b3=>cond (decide ((0<=n.2.2.2.1)/\(n.2.2.2.1<=(List.length parts:Int)))) (zlc N self b3 (false,([],([],()))) tail (true,([],([],()))) (cut parts 0 (Int.toNat n.2.2.2.1)) (List.length (cut parts 0 (Int.toNat n.2.2.2.1)):Int) 0 (fun b4 whole=>(z3f N b4 whole tail).bind fun y1=>some (y1.1,(y1.2.1,())))) none))))) none
def t_60 (N:Nat)(self:zg):Tab DT9:=[([0,0,1,1,1,1],z1we N self),(z1a9,z1ux N self),(z16u,z1u5 N self),([0,1,0,1,1,1,1,1,1,1,1,1],z1ts N self)]
theorem z1ig (N:Nat)(self:zg)(x:z15 z1a2):z4u (z1m0 N self) N (t_60 N self) z1mx Tryd.f62 (mkS z1a2 0 x) (z3r (.v z7r) [(0,.box zhk)] 1)=zbl N self x.1 x.2.1:=by kernel_rfl
def zce (N:Nat)(self:zg):List A->Res:=zz z1a2 (fun x=>zbl N self x.1 x.2.1) (z4x (.v z7r) [(0,.box zhk)] 1)
theorem zlf (N:Nat)(self:zg)(hself:Contract Tryd.prog glob 40 (zz z1a2 (fun x=>self x.1 x.2.1) (z4x (.v z7r) [(0,.box zhk)] 1))):Contract Tryd.prog glob 62 (zce N self) :=
 Contract.of (E:=z1m0 N self) (H:=t_60 N self) (L:=z1mx) (N:=N) (body:=zik) (K:=(z3r (.v z7r) [(0,.box zhk)] 1)) (z23x N self hself) Tryd.func62 (by kernel_rfl) (by decide) (fun _ hb=>(TabOk.cons (z1rp hb) (TabOk.cons (z1q8 hb) (TabOk.cons (z1pg hb) (TabOk.cons (z1p3 hb) TabOk.nil))))) (fun x y h=>by rw[z1ig];exact h) (z2s (s:=(.v z7r)) (os:=[(0,.box zhk)]) (m:=1))
def zpm:Code:=(Tryd.f40.body).getD .skip
def L_61:List (List Nat×List Nat):=[([0],[3,0,4]),([0,0,1],[13,0,3,4]),([0,0,1,0,1],[14,0,3,4,13]),([1,0,1,0,1],[0,3,4]),([0,1,1,0,1,0,1],[46,3,0,4,13]),([1,1,1,0,1,0,1],[0,3,4]),([0,1,1,1,1,0,1,0,1],[64,3,0,4]),([1,1,1,1,1,0,1,0,1],[0,3,4]),([0,0,1,1,1,1,1,0,1,0,1],[3,9,0,4]),([0,0,1,0,1,1,1,1,1,0,1,0,1],z12e),(z1lc,z12e),([0,0,0,1,0,1,0,1,1,1,1,1,0,1,0,1],[71,68,70,9,0,69,4]),([0,1,0,0,1,0,1,0,1,1,1,1,1,0,1,0,1],[68,70,9,0,69,4]),([1,0,1,0,0,1,0,1,0,1,1,1,1,1,0,1,0,1],[9,4,0]),([0,0,0,1,1,0,0,1,0,1,0,1,1,1,1,1,0,1,0,1],[9,0,11,70,69,68,4]),([1,0,0,1,1,0,0,1,0,1,0,1,1,1,1,1,0,1,0,1],z12e),([0,1,1,0,0,1,0,1,0,1,1,1,1,1,0,1,0,1],z12e),([1,1,1,0,0,1,0,1,0,1,1,1,1,1,0,1,0,1],z12e),([1,0,1,0,1,1,1,1,1,0,1,0,1],[9,4,0]),([0,1,1,0,1,1,1,1,1,0,1,0,1],[4,0]),([1,1,1,0,1,1,1,1,1,0,1,0,1],[4,0]),([0,0,1,1,1,0,1,0,1],[3,0,6,4]),([0,0,1,0,1,1,1,0,1,0,1],z12d),([0,1,0,1,0,1,1,1,0,1,0,1],z12d),([0,0,0,1,0,1,0,1,1,1,0,1,0,1],[53,50,52,0,6,51,4]),([0,1,0,0,1,0,1,0,1,1,1,0,1,0,1],[50,52,0,6,51,4]),([1,0,1,0,0,1,0,1,0,1,1,1,0,1,0,1],[6,4,0]),([0,0,0,1,1,0,0,1,0,1,0,1,1,1,0,1,0,1],[0,6,8,52,51,50,4]),([1,0,0,1,1,0,0,1,0,1,0,1,1,1,0,1,0,1],z12d),([0,1,1,0,0,1,0,1,0,1,1,1,0,1,0,1],z12d),([1,1,1,0,0,1,0,1,0,1,1,1,0,1,0,1],z12d),([1,0,1,0,1,1,1,0,1,0,1],[6,4,0]),([0,1,1,0,1,1,1,0,1,0,1],[4,0]),([1,1,1,0,1,1,1,0,1,0,1],[4,0]),([0,0,1,0,1,0,1],[0,3,5,4]),([0,1,0,1,0,1,0,1],[0,5,4]),([0,1,1,0,1,0,1,0,1],[5,4,0]),([0,1,1,1,0,1,0,1,0,1],[4,0]),([1,1,1,1,0,1,0,1,0,1],[4,0]),([1,0,1],[0,3,4]),([0,1,1],[4,0]),([1,1,1],[4,0])]
def z25f (N:Nat)(self:z5l->DT7->Option DT9):Env:=z1c tys glob [(62,zce N self),(61,ziu N),(60,z6s N),(59,zbj N),(40,zz z1a2 (fun x=>self x.1 x.2.1) (z4x (.v z7r) [(0,.box zhk)] 1))] [] [] [0] false [] [(76,z7 N)]
theorem z23w (N:Nat)(self:z5l->DT7->Option DT9)(hself:Contract Tryd.prog glob 40 (zz z1a2 (fun x=>self x.1 x.2.1) (z4x (.v z7r) [(0,.box zhk)] 1))):EnvOk Tryd.prog (z25f N self):=zi mixed zn (FnsOk.cons (zlf N self hself) (FnsOk.cons (zrl N) (FnsOk.cons (zcd N) (FnsOk.cons (zit N) (FnsOk.cons (hself) (FnsOk.nil)))))) (ItsOk.cons (za N) (ItsOk.nil))
def za8 (N:Nat)(self:z5l->DT7->Option DT9)(x4:z5k)(x50:(List Tree))(x51:Int)(b:z5l)(whole:z5k)(x52:Int)(rec:z5l->z5k->Int->Option DT9)(k0:z5l->z5k->Option DT9):Option DT9:=cond (decide (x52<x51)) (cond (inR x52 (List.length x50)) ((self b (unN (List.getD x50 (Int.toNat x52) (Tree.mk 0 [] [] 0 0)))).bind fun y=>(z3f N y.2.1 whole y.1).bind fun y1=>rec y1.2.1 y1.1 (IntKind.wrap IntKind.i64 (x52+1))) none) (k0 b whole)
def zho (N:Nat)(self:z5l->DT7->Option DT9)(b:z5l)(x4:z5k)(whole:z5k)(x50:(List Tree))(x51:Int)(x52:Int)(k0:z5l->z5k->Option DT9):Option DT9:=iter (fun (v:(z5l×z5k×Int)) r=>za8 N self x4 x50 x51 v.1 v.2.1 v.2.2 (fun b whole x52=>(r (b,whole,x52))) k0) N (b,whole,x52)
def z20i (N:Nat)(self:z5l->DT7->Option DT9)(i:(z5k×(List Tree)×Int))(v:(z5l×z5k×Int))(r:(z5l×z5k×Int)->Option DT9)(K:Ex->List A->Option DT9):Option DT9:=za8 N self i.1 i.2.1 i.2.2 v.1 v.2.1 v.2.2 (fun b whole x52=>(r (b,whole,x52))) (fun a0 a2=>(K (.exit 1) (mkS [(0,.box zhk),(3,.box z7r),(1,.box z7r)] 77 (a0,i.1,a2,()))))
def z1wd (N:Nat)(self:z5l->DT7->Option DT9):Hd DT9:=fun st K=>(unS z22e 31 (restr z12d 0 st)).bind fun x=>iter (fun v r=>z20i N self ((fun x=>(x.2.1,x.2.2.2.1,x.2.2.2.2.1)) x) v r K) N ((fun x=>(x.1,x.2.2.1,x.2.2.2.2.2.1)) x)
def t1_61 (N:Nat)(self:z5l->DT7->Option DT9):Tab DT9:=[]
theorem z1ro {N:Nat}{self:z5l->DT7->Option DT9}{c:Ctx}(hb:Base Tryd.prog (z25f N self) c):zj Tryd.prog c (zh zpm [0,1,0,1,0,1,1,1,0,1,0,1]) (z1wd N self) :=
 zu (s:=z22e) (m:=31) (z20i N self) z12d N (fun x=>(x.2.1,x.2.2.2.1,x.2.2.2.2.1)) (fun x=>(x.1,x.2.2.1,x.2.2.2.2.2.1)) (fun i v=>(v.1,i.1,v.2.1,i.2.1,i.2.2,v.2.2,())) (fun _=>rfl) (zd hb N (t1_61 N self) L_61 zpm TabOk.nil [0,0,1,0,1,0,1,1,1,0,1,0,1] _ rfl) (fun i v r K=>by kernel_rfl)
def za7 (N:Nat)(self:z5l->DT7->Option DT9)(x4:z5k)(x68:(List Tree))(x69:Int)(b:z5l)(whole:z5k)(x70:Int)(rec:z5l->z5k->Int->Option DT9)(k0:z5l->z5k->Option DT9):Option DT9:=cond (decide (x70<x69)) (cond (inR x70 (List.length x68)) ((self b (unN (List.getD x68 (Int.toNat x70) (Tree.mk 0 [] [] 0 0)))).bind fun y=>(zjf N whole y.1).bind fun y1=>rec y.2.1 y1 (IntKind.wrap IntKind.i64 (x70+1))) none) (k0 b whole)
def zhn (N:Nat)(self:z5l->DT7->Option DT9)(b:z5l)(x4:z5k)(whole:z5k)(x68:(List Tree))(x69:Int)(x70:Int)(k0:z5l->z5k->Option DT9):Option DT9:=iter (fun (v:(z5l×z5k×Int)) r=>za7 N self x4 x68 x69 v.1 v.2.1 v.2.2 (fun b whole x70=>(r (b,whole,x70))) k0) N (b,whole,x70)
def z1z1 (N:Nat)(self:z5l->DT7->Option DT9)(i:(z5k×(List Tree)×Int))(v:(z5l×z5k×Int))(r:(z5l×z5k×Int)->Option DT9)(K:Ex->List A->Option DT9):Option DT9:=za7 N self i.1 i.2.1 i.2.2 v.1 v.2.1 v.2.2 (fun b whole x70=>(r (b,whole,x70))) (fun a0 a2=>(K (.exit 3) (mkS [(0,.box zhk),(3,.box z7r),(4,.box z7r)] 74 (a0,i.1,a2,()))))
def z1uw (N:Nat)(self:z5l->DT7->Option DT9):Hd DT9:=fun st K=>(unS z22d 13 (restr z12e 0 st)).bind fun x=>iter (fun v r=>z1z1 N self ((fun x=>(x.2.1,x.2.2.2.1,x.2.2.2.2.1)) x) v r K) N ((fun x=>(x.1,x.2.2.1,x.2.2.2.2.2.1)) x)
def t2_61 (N:Nat)(self:z5l->DT7->Option DT9):Tab DT9:=[]
theorem z1q7 {N:Nat}{self:z5l->DT7->Option DT9}{c:Ctx}(hb:Base Tryd.prog (z25f N self) c):zj Tryd.prog c (zh zpm z1lc) (z1uw N self) :=
 zu (s:=z22d) (m:=13) (z1z1 N self) z12e N (fun x=>(x.2.1,x.2.2.2.1,x.2.2.2.2.1)) (fun x=>(x.1,x.2.2.1,x.2.2.2.2.2.1)) (fun i v=>(v.1,i.1,v.2.1,i.2.1,i.2.2,v.2.2,())) (fun _=>rfl) (zd hb N (t2_61 N self) L_61 zpm TabOk.nil [0,0,1,0,1,0,1,1,1,1,1,0,1,0,1] _ rfl) (fun i v r K=>by kernel_rfl)
def zb8 (N:Nat)(self:z5l->DT7->Option DT9)(b:z5l)(n:DT7):Option DT9:=cond (n.1 == 1) (cond (decide ((((List.length b.1)+1)*32)<=70368744177664)) (cond (decide ((((List.length b.2.1)+1)*24)<=70368744177664)) (some ((false,(([(List.length b.1:Int)]:List Int),(([(List.length b.1:Int)]:List Int),()))),(((b.1++([n.2.1]:List (List Int))),((b.2.1++([[]]:List (List Int))),b.2.2)),()))) none) none) (cond (n.1 == 2) (zho N self b (false,([],([],()))) (true,([],([],()))) n.2.2.1 (List.length n.2.2.1:Int) 0 (fun b1 whole=>some (whole,(b1,())))) (cond (n.1 == 3) (zhn N self b (false,([],([],()))) (false,([],([],()))) n.2.2.1 (List.length n.2.2.1:Int) 0 (fun b2 whole1=>some (whole1,(b2,())))) ((zbl N self b n).bind fun y=>some (y.1,(y.2.1,())))))
def t_61 (N:Nat)(self:z5l->DT7->Option DT9):Tab DT9:=[([0,1,0,1,0,1,1,1,0,1,0,1],z1wd N self),(z1lc,z1uw N self)]
theorem z1if (N:Nat)(self:z5l->DT7->Option DT9)(x:z15 z1a2):z4u (z25f N self) N (t_61 N self) L_61 Tryd.f40 (mkS z1a2 0 x) (z3r (.v z7r) [(0,.box zhk)] 1)=zb8 N self x.1 x.2.1:=by kernel_rfl
def z2z:Nat->z5l->DT7->Option DT9
 | 0=>fun _ _=>none
 | N+1=>zb8 (N+1) (z2z N)
def z9j (N:Nat):List A->Res:=zz z1a2 (fun x=>z2z N x.1 x.2.1) (z4x (.v z7r) [(0,.box zhk)] 1)
theorem za9:∀ N:Nat,Contract Tryd.prog glob 40 (z9j N)
 | 0=>Contract.zero Tryd.func40 (body:=zpm) (by kernel_rfl) (by decide) (fun _=>rfl)
 | N+1=>Contract.of (E:=z25f (N+1) (z2z N)) (H:=t_61 (N+1) (z2z N)) (L:=L_61) (N:=(N+1)) (body:=zpm) (K:=(z3r (.v z7r) [(0,.box zhk)] 1)) (z23w (N+1) (z2z N) (za9 N)) Tryd.func40 (by kernel_rfl) (by decide) (fun _ hb=>(TabOk.cons (z1ro hb) (TabOk.cons (z1q7 hb) TabOk.nil))) (fun x y h=>by rw[z1if];exact h) (z2s (s:=(.v z7r)) (os:=[(0,.box zhk)]) (m:=1))
def z1kc:Code:=(Tryd.f18.body).getD .skip
def L_62:List (List Nat×List Nat):=[([0],[1,2]),([0,0,1],[8,2,1]),([1,0,1],[1,2]),([0,0,1,0,1],[2,3]),([1,0,1,0,1],[2,3]),([0,0,1,1],[12,2,1]),([1,0,1,1],[1,2]),([0,0,1,0,1,1],[2,3]),([1,0,1,0,1,1],[2,3]),([0,1,1,1],[4,1,2]),([0,1,1,1,1],[4,5,2]),([0,1,1,1,1,1],[2,3]),([1,1,1,1,1,1],[2,3])]
def E_62 (N:Nat):Env:=z1c tys glob [(40,z9j N),(39,zjg N),(38,zju N)] [] [] [] false [(14,zhk),(15,zhk)] [(76,z7 N)]
theorem z23v (N:Nat):EnvOk Tryd.prog (E_62 N):=zi mixed zn (FnsOk.cons (za9 N) (FnsOk.cons (zls N) (FnsOk.cons (zm1 N) (FnsOk.nil)))) (ItsOk.cons (za N) (ItsOk.nil))
def zvr (N:Nat)(n:DT7):Option (z4y×Int×Unit):=(zbr N n).bind fun y=>cond (!y) (some (([],(false,([],([],([],()))))),(7,()))) ((zbk N n).bind fun y1=>cond (decide (512<y1)) (some (([],(false,([],([],([],()))))),(16,()))) ((z2z N ([],([],())) n).bind fun y2=>some ((y2.2.1.1,(y2.1.1,(y2.1.2.1,(y2.1.2.2.1,(y2.2.1.2.1,()))))),(0,()))))
def t_62 (N:Nat):Tab (z4y×Int×Unit):=[]
theorem z1ie (N:Nat)(x:z15 [(0,.v TT4)]):z4u (E_62 N) N (t_62 N) L_62 Tryd.f18 (mkS [(0,.v TT4)] 0 x) (z2l (.tup [TT2,(.int .i64)]) 1)=zvr N x.1:=by kernel_rfl
def zpp (N:Nat):List A->Res:=zz [(0,.v TT4)] (fun x=>zvr N x.1) (z6n (.tup [TT2,(.int .i64)]) 1)
theorem zzq (N:Nat):Contract Tryd.prog glob 18 (zpp N) :=
 Contract.of (E:=E_62 N) (H:=t_62 N) (L:=L_62) (N:=N) (body:=z1kc) (K:=(z2l (.tup [TT2,(.int .i64)]) 1)) (z23v N) Tryd.func18 (by kernel_rfl) (by decide) (fun _ hb=>TabOk.nil) (fun x y h=>by rw[z1ie];exact h) (z13 (s:=(.tup [TT2,(.int .i64)])) (m:=1))
def z11q:Code:=(Tryd.f95.body).getD .skip
def L_63:List (List Nat×List Nat):=[([0],[0]),([0,0,1],[12,0]),([1,0,1],[0]),([0,1,0,1],[0]),([0,1,1],[2,0]),([1,1,1],[2,0])]
def E_63 (N:Nat):Env:=z1c tys glob [] [] [] [0] false [] [(76,z7 N)]
theorem z23u (N:Nat):EnvOk Tryd.prog (E_63 N):=zi mixed zn (FnsOk.nil) (ItsOk.cons (za N) (ItsOk.nil))
def zdj (N:Nat)(p:DT5)(k0:Option (Int×(DT5×Unit))):Option (Int×(DT5×Unit)):=cond (p.2.1 == (List.length p.1:Int)) none k0
def z20h (N:Nat)(x:z15 SQ0)(K:Ex->List A->Option (Int×(DT5×Unit))):Option (Int×(DT5×Unit)):=zdj N x.1 (K .normal (mkS SQ0 27 (x.1,())))
def z1wc (N:Nat):Hd (Int×(DT5×Unit)):=fun st K=>(unS SQ0 27 (restr [0] 0 st)).bind fun x=>z20h N x K
def t1_63 (N:Nat):Tab (Int×(DT5×Unit)):=[]
theorem z1rn {N:Nat}{c:Ctx}(hb:Base Tryd.prog (E_63 N) c):zj Tryd.prog c (zh z11q [0,1]) (z1wc N) :=
 zk (s:=SQ0) (m:=27) (g:=z20h N) [0] (zd hb N (t1_63 N) L_63 z11q TabOk.nil [0,1] _ rfl) (fun x K=>by kernel_rfl)
def z1j (N:Nat)(p:DT5):Option (Int×(DT5×Unit)):=zdj N p (cond (inR p.2.1 (List.length p.1)) (some ((UInt8.toNat (List.getD p.1 (Int.toNat p.2.1) (0:UInt8)):Int),(p,()))) none)
def t_63 (N:Nat):Tab (Int×(DT5×Unit)):=[([0,1],z1wc N)]
theorem z1id (N:Nat)(x:z15 SQ0):z4u (E_63 N) N (t_63 N) L_63 Tryd.f95 (mkS SQ0 0 x) (z3r (.v (.int .u8)) SQ0 0)=z1j N x.1:=by kernel_rfl
def z18 (N:Nat):List A->Res:=zz SQ0 (fun x=>z1j N x.1) (z4x (.v (.int .u8)) SQ0 0)
theorem z1h (N:Nat):Contract Tryd.prog glob 95 (z18 N) :=
 Contract.of (E:=E_63 N) (H:=t_63 N) (L:=L_63) (N:=N) (body:=z11q) (K:=(z3r (.v (.int .u8)) SQ0 0)) (z23u N) Tryd.func95 (by kernel_rfl) (by decide) (fun _ hb=>(TabOk.cons (z1rn hb) TabOk.nil)) (fun x y h=>by rw[z1id];exact h) (z2s (s:=(.v (.int .u8))) (os:=SQ0) (m:=0))
def z11p:Code:=(Tryd.f89.body).getD .skip
def L_64:List (List Nat×List Nat):=[([0,0],[7,0]),([1,0],[0]),([0,1,0],[0]),([1],[0])]
def E_64 (N:Nat):Env:=z1c tys glob [(95,z18 N)] [] [] [0] false [] [(76,z7 N)]
theorem z23t (N:Nat):EnvOk Tryd.prog (E_64 N):=zi mixed zn (FnsOk.cons (z1h N) (FnsOk.nil)) (ItsOk.cons (za N) (ItsOk.nil))
def zdk (N:Nat)(p:DT5)(b:Int)(k0:DT5->Option ((Unit)×(DT5×Unit))):Option ((Unit)×(DT5×Unit)):=(z1j N p).bind fun y=>cond (y.1 != b) none (k0 y.2.1)
def z20g (N:Nat)(x:z15 zuf)(K:Ex->List A->Option ((Unit)×(DT5×Unit))):Option ((Unit)×(DT5×Unit)):=zdk N x.1 x.2.1 (fun a0=>(K .normal (mkS SQ0 20 (a0,()))))
def z1wb (N:Nat):Hd ((Unit)×(DT5×Unit)):=fun st K=>(unS zuf 19 (restr [0,1] 0 st)).bind fun x=>z20g N x K
def t1_64 (N:Nat):Tab ((Unit)×(DT5×Unit)):=[]
theorem z1rm {N:Nat}{c:Ctx}(hb:Base Tryd.prog (E_64 N) c):zj Tryd.prog c (zh z11p [0]) (z1wb N) :=
 zk (s:=zuf) (m:=19) (g:=z20g N) [0,1] (zd hb N (t1_64 N) L_64 z11p TabOk.nil [0] _ rfl) (fun x K=>by kernel_rfl)
def z1k (N:Nat)(p:DT5)(b:Int):Option ((Unit)×(DT5×Unit)):=zdk N p b (fun p1=>some ((),((p1.1,((IntKind.wrap IntKind.i64 (p1.2.1+1)),p1.2.2)),())))
def t_64 (N:Nat):Tab ((Unit)×(DT5×Unit)):=[([0],z1wb N)]
theorem z1ic (N:Nat)(x:z15 zuf):z4u (E_64 N) N (t_64 N) L_64 Tryd.f89 (mkS zuf 0 x) (z3r (.tup []) SQ0 1)=z1k N x.1 x.2.1:=by kernel_rfl
def z1n (N:Nat):List A->Res:=zz zuf (fun x=>z1k N x.1 x.2.1) (z4x (.tup []) SQ0 1)
theorem z1z (N:Nat):Contract Tryd.prog glob 89 (z1n N) :=
 Contract.of (E:=E_64 N) (H:=t_64 N) (L:=L_64) (N:=N) (body:=z11p) (K:=(z3r (.tup []) SQ0 1)) (z23t N) Tryd.func89 (by kernel_rfl) (by decide) (fun _ hb=>(TabOk.cons (z1rm hb) TabOk.nil)) (fun x y h=>by rw[z1ic];exact h) (z2s (s:=(.tup [])) (os:=SQ0) (m:=1))
abbrev z8:Type:=DT5->Option (DT7×(DT5×Unit))
def z11o:Code:=(Tryd.f83.body).getD .skip
def L_65:List (List Nat×List Nat):=[([0],[0,2]),([0,0,1],[8,0,2]),([1,0,1],[0,2]),([0,1,0,1],[0,2]),([0,1,1],[0,2]),([0,1,1,1],[0,2]),([0,1,1,1,1],[0,3,2]),([0,1,1,1,1,1],[0,3,2]),(z14h,[3,2,0]),(z16u,[2,0]),(zzf,[2,0])]
def E_65 (N:Nat)(self:z8):Env:=z1c tys glob [(89,z1n N),(36,zz SQ0 (fun x=>self x.1) (z4x (.v TT4) SQ0 0))] [] [] [0] false [] [(76,z7 N)]
theorem z23s (N:Nat)(self:z8)(hself:Contract Tryd.prog glob 36 (zz SQ0 (fun x=>self x.1) (z4x (.v TT4) SQ0 0))):EnvOk Tryd.prog (E_65 N self):=zi mixed zn (FnsOk.cons (z1z N) (FnsOk.cons (hself) (FnsOk.nil))) (ItsOk.cons (za N) (ItsOk.nil))
def zcl (N:Nat)(self:z8)(p:DT5)(x2:DT7)(k0:Option (DT7×(DT5×Unit))):Option (DT7×(DT5×Unit)):=cond (p.2.2.1 == 16) none k0
def z20f (N:Nat)(self:z8)(x:z15 z1f6)(K:Ex->List A->Option (DT7×(DT5×Unit))):Option (DT7×(DT5×Unit)):=zcl N self x.1 x.2.1 (K .normal (mkS z1f6 33 (x.1,x.2.1,())))
def z1wa (N:Nat)(self:z8):Hd (DT7×(DT5×Unit)):=fun st K=>(unS z1f6 33 (restr [0,2] 0 st)).bind fun x=>z20f N self x K
def t1_65 (N:Nat)(self:z8):Tab (DT7×(DT5×Unit)):=[]
theorem z1rl {N:Nat}{self:z8}{c:Ctx}(hb:Base Tryd.prog (E_65 N self) c):zj Tryd.prog c (zh z11o [0,1]) (z1wa N self) :=
 zk (s:=z1f6) (m:=33) (g:=z20f N self) [0,2] (zd hb N (t1_65 N self) L_65 z11o TabOk.nil [0,1] _ rfl) (fun x K=>by kernel_rfl)
def z73 (N:Nat)(self:z8)(p:DT5):Option (DT7×(DT5×Unit)):=zcl N self p (0,(([0,0,0,0]:List Int),([],(0,(0,()))))) ((z1k N (p.1,(p.2.1,((IntKind.wrap IntKind.i64 (p.2.2.1+1)),p.2.2.2))) 40).bind fun y=>(self y.2.1).bind fun y1=>(z1k N y1.2.1 41).bind fun y2=>some (y1.1,((y2.2.1.1,(y2.2.1.2.1,((IntKind.wrap IntKind.i64 (y2.2.1.2.2.1 - 1)),y2.2.1.2.2.2))),())))
def t_65 (N:Nat)(self:z8):Tab (DT7×(DT5×Unit)):=[([0,1],z1wa N self)]
theorem z1ib (N:Nat)(self:z8)(x:z15 SQ0):z4u (E_65 N self) N (t_65 N self) L_65 Tryd.f83 (mkS SQ0 0 x) (z3r (.v TT4) SQ0 0)=z73 N self x.1:=by kernel_rfl
def z6w (N:Nat)(self:z8):List A->Res:=zz SQ0 (fun x=>z73 N self x.1) (z4x (.v TT4) SQ0 0)
theorem zcm (N:Nat)(self:z8)(hself:Contract Tryd.prog glob 36 (zz SQ0 (fun x=>self x.1) (z4x (.v TT4) SQ0 0))):Contract Tryd.prog glob 83 (z6w N self) :=
 Contract.of (E:=E_65 N self) (H:=t_65 N self) (L:=L_65) (N:=N) (body:=z11o) (K:=(z3r (.v TT4) SQ0 0)) (z23s N self hself) Tryd.func83 (by kernel_rfl) (by decide) (fun _ hb=>(TabOk.cons (z1rl hb) TabOk.nil)) (fun x y h=>by rw[z1ib];exact h) (z2s (s:=(.v TT4)) (os:=SQ0) (m:=0))
def z1kb:Code:=(Tryd.f63.body).getD .skip
def L_66:List (List Nat×List Nat):=[([0],[1,2,4]),([0,1],[2,4]),([0,1,1],[4]),([1,1,1],[4])]
def E_66 (N:Nat):Env:=z1c tys glob [] [] [] [] false [] [(76,z7 N)]
theorem z23r (N:Nat):EnvOk Tryd.prog (E_66 N):=zi mixed zn (FnsOk.nil) (ItsOk.cons (za N) (ItsOk.nil))
def zgd (N:Nat)(s:(List Int))(b:Int):Option (List Int):=cond (inR (IntKind.wrap IntKind.u8 (Int.tdiv b 64)) 4) (cond (decide ((Int.toNat (IntKind.wrap IntKind.u8 (Int.tdiv b 64)))<(List.length s))) (cond (decide (0<=(Int.tmod b 64))) (cond (inR (IntKind.wrap IntKind.u8 (Int.tdiv b 64)) 4) (cond (decide ((Int.toNat (IntKind.wrap IntKind.u8 (Int.tdiv b 64)))<(List.length s))) (some (List.set s (Int.toNat (IntKind.wrap IntKind.u8 (Int.tdiv b 64))) (ze Go.BinOp.or IntKind.u64 (List.getD s (Int.toNat (IntKind.wrap IntKind.u8 (Int.tdiv b 64))) 0) (z17a IntKind.u64 1 (Int.tmod b 64))))) none) none) none) none) none
def t_66 (N:Nat):Tab (List Int):=[]
theorem z1ia (N:Nat)(x:z15 z1mg):z4u (E_66 N) N (t_66 N) L_66 Tryd.f63 (mkS z1mg 0 x) (z2l (.v (.arr 4 (.int .u64))) 2)=zgd N x.1 x.2.1:=by kernel_rfl
def zd7 (N:Nat):List A->Res:=zz z1mg (fun x=>zgd N x.1 x.2.1) (z6n (.v (.arr 4 (.int .u64))) 2)
theorem zke (N:Nat):Contract Tryd.prog glob 63 (zd7 N) :=
 Contract.of (E:=E_66 N) (H:=t_66 N) (L:=L_66) (N:=N) (body:=z1kb) (K:=(z2l (.v (.arr 4 (.int .u64))) 2)) (z23r N) Tryd.func63 (by kernel_rfl) (by decide) (fun _ hb=>TabOk.nil) (fun x y h=>by rw[z1ia];exact h) (z13 (s:=(.v (.arr 4 (.int .u64)))) (m:=2))
def z11n:Code:=(Tryd.f41.body).getD .skip
def L_67:List (List Nat×List Nat):=[([0],[0,1,4]),([0,1],[0,1,5,4]),([0,0,1,1],[6,1,5,4]),([0,1,0,1,1],[6,1,5,4]),(zzj,[12,5,6,1,4]),(zzi,[5,6,1,4]),(z1fb,[5,4]),([0,0,1,0,0,1,0,1,1],[6,1,5,4]),(zqy,[6,1,5,4]),(zzh,[6,1,5,4]),([1,0,1,1],[5,4]),([0,1,1,1],[4]),([1,1,1,1],[4])]
def E_67 (N:Nat):Env:=z1c tys glob [(63,zd7 N)] [] [] [] false [] [(76,z7 N)]
theorem z23q (N:Nat):EnvOk Tryd.prog (E_67 N):=zi mixed zn (FnsOk.cons (zke N) (FnsOk.nil)) (ItsOk.cons (za N) (ItsOk.nil))
def zoa (N:Nat)(hi:Int)(x4:(List Int))(s:(List Int))(b:Int)(rec:(List Int)->Int->Option (List Int))(k0:(List Int)->Option (List Int)):Option (List Int):=cond (decide (b<=(IntKind.wrap IntKind.i64 hi))) ((zgd N s (IntKind.wrap IntKind.u8 b)).bind fun y=>rec y (IntKind.wrap IntKind.i64 (b+1))) (k0 s)
def zwz (N:Nat)(hi:Int)(x4:(List Int))(s:(List Int))(b:Int)(k0:(List Int)->Option (List Int)):Option (List Int):=iter (fun (v:((List Int)×Int)) r=>zoa N hi x4 v.1 v.2 (fun s b=>(r (s,b))) k0) N (s,b)
def z20e (N:Nat)(i:(Int×(List Int)))(v:((List Int)×Int))(r:((List Int)×Int)->Option (List Int))(K:Ex->List A->Option (List Int)):Option (List Int):=zoa N i.1 i.2 v.1 v.2 (fun s b=>(r (s,b))) (fun a1=>(K (.exit 0) (mkS [(4,.box (.arr 4 (.int .u64))),(0,.box (.arr 4 (.int .u64)))] 14 (i.2,a1,()))))
def z1w9 (N:Nat):Hd (List Int):=fun st K=>(unS z22a 13 (restr [6,1,5,4] 0 st)).bind fun x=>iter (fun v r=>z20e N ((fun x=>(x.1,x.2.1)) x) v r K) N ((fun x=>(x.2.2.1,x.2.2.2.1)) x)
def t1_67 (N:Nat):Tab (List Int):=[]
theorem z1rk {N:Nat}{c:Ctx}(hb:Base Tryd.prog (E_67 N) c):zj Tryd.prog c (zh z11n [0,1,0,1,1]) (z1w9 N) :=
 zu (s:=z22a) (m:=13) (z20e N) [6,1,5,4] N (fun x=>(x.1,x.2.1)) (fun x=>(x.2.2.1,x.2.2.2.1)) (fun i v=>(i.1,i.2,v.1,v.2,())) (fun _=>rfl) (zd hb N (t1_67 N) L_67 z11n TabOk.nil [0,0,1,0,1,1] _ rfl) (fun i v r K=>by kernel_rfl)
def z2r (N:Nat)(lo:Int)(hi:Int):Option (List Int):=zwz N hi ([0,0,0,0]:List Int) ([0,0,0,0]:List Int) (IntKind.wrap IntKind.i64 lo) (fun s=>some s)
def t_67 (N:Nat):Tab (List Int):=[([0,1,0,1,1],z1w9 N)]
theorem z1i9 (N:Nat)(x:z15 [(0,.v (.int .u8)),(0,.v (.int .u8))]):z4u (E_67 N) N (t_67 N) L_67 Tryd.f41 (mkS [(0,.v (.int .u8)),(0,.v (.int .u8))] 0 x) (z2l (.v (.arr 4 (.int .u64))) 2)=z2r N x.1 x.2.1:=by kernel_rfl
def z3c (N:Nat):List A->Res:=zz [(0,.v (.int .u8)),(0,.v (.int .u8))] (fun x=>z2r N x.1 x.2.1) (z6n (.v (.arr 4 (.int .u64))) 2)
theorem z42 (N:Nat):Contract Tryd.prog glob 41 (z3c N) :=
 Contract.of (E:=E_67 N) (H:=t_67 N) (L:=L_67) (N:=N) (body:=z11n) (K:=(z2l (.v (.arr 4 (.int .u64))) 2)) (z23q N) Tryd.func41 (by kernel_rfl) (by decide) (fun _ hb=>(TabOk.cons (z1rk hb) TabOk.nil)) (fun x y h=>by rw[z1i9];exact h) (z13 (s:=(.v (.arr 4 (.int .u64)))) (m:=2))
def z1ka:Code:=(Tryd.f84.body).getD .skip
def L_68:List (List Nat×List Nat):=[([0],[1,2]),([0,1],[2]),([1,1],[2])]
def E_68 (N:Nat):Env:=z1c tys glob [] [] [] [] false [] [(76,z7 N)]
theorem z23p (N:Nat):EnvOk Tryd.prog (E_68 N):=zi mixed zn (FnsOk.nil) (ItsOk.cons (za N) (ItsOk.nil))
def zxo (N:Nat)(s:(List Int)):Option DT7:=some (1,(s,([],(0,(0,())))))
def t_68 (N:Nat):Tab DT7:=[]
theorem z1i8 (N:Nat)(x:z15 z12b):z4u (E_68 N) N (t_68 N) L_68 Tryd.f84 (mkS z12b 0 x) (z2l (.v TT4) 1)=zxo N x.1:=by kernel_rfl
def zi0 (N:Nat):List A->Res:=zz z12b (fun x=>zxo N x.1) (z6n (.v TT4) 1)
theorem zpv (N:Nat):Contract Tryd.prog glob 84 (zi0 N) :=
 Contract.of (E:=E_68 N) (H:=t_68 N) (L:=L_68) (N:=N) (body:=z1ka) (K:=(z2l (.v TT4) 1)) (z23p N) Tryd.func84 (by kernel_rfl) (by decide) (fun _ hb=>TabOk.nil) (fun x y h=>by rw[z1i8];exact h) (z13 (s:=(.v TT4)) (m:=1))
def zth:Code:=(Tryd.f55.body).getD .skip
def L_69:List (List Nat×List Nat):=[([0],[0,1]),([0,0,1],[27,0]),([1,0,1],[0]),([0,0,1,0,1],[4,0]),([1,0,1,0,1],[4,0]),([0,1,1],[0]),([0,1,1,1],[4,0]),([1,1,1,1],[4,0])]
def z25e (N:Nat):Env:=z1c tys glob [] [] [] [0] false [] [(76,z7 N)]
theorem z23o (N:Nat):EnvOk Tryd.prog (z25e N):=zi mixed zn (FnsOk.nil) (ItsOk.cons (za N) (ItsOk.nil))
def zde (N:Nat)(p:DT5)(b:Int)(k0:Bool->Option (Bool×(DT5×Unit))):Option (Bool×(DT5×Unit)):=cond (p.2.1 == (List.length p.1:Int)) (k0 true) (cond (inR p.2.1 (List.length p.1)) (k0 ((UInt8.toNat (List.getD p.1 (Int.toNat p.2.1) (0:UInt8)):Int) != b)) none)
def z1z0 (N:Nat)(x:z15 zuf)(K:Ex->List A->Option (Bool×(DT5×Unit))):Option (Bool×(DT5×Unit)):=zde N x.1 x.2.1 (fun a1=>(K .normal (mkS [(0,.box (.pair .str TT1)),(26,.v .bool)] 7 (x.1,a1,()))))
def z1uv (N:Nat):Hd (Bool×(DT5×Unit)):=fun st K=>(unS zuf 33 (restr [0,1] 0 st)).bind fun x=>z1z0 N x K
def t2_69 (N:Nat):Tab (Bool×(DT5×Unit)):=[]
theorem z1q6 {N:Nat}{c:Ctx}(hb:Base Tryd.prog (z25e N) c):zj Tryd.prog c (zh zth [0,0,1]) (z1uv N) :=
 zk (s:=zuf) (m:=33) (g:=z1z0 N) [0,1] (zd hb N (t2_69 N) L_69 zth TabOk.nil [0,0,1] _ rfl) (fun x K=>by kernel_rfl)
def zdf (N:Nat)(p:DT5)(b:Int)(k0:Bool->Option (Bool×(DT5×Unit)))(k1:Option (Bool×(DT5×Unit))):Option (Bool×(DT5×Unit)):=zde N p b (fun x27=>cond x27 (k0 false) k1)
def z20d (N:Nat)(x:z15 zuf)(K:Ex->List A->Option (Bool×(DT5×Unit))):Option (Bool×(DT5×Unit)):=zdf N x.1 x.2.1 (fun a1=>(K .ret (mkS [(0,.box (.pair .str TT1)),(3,.v .bool)] 30 (x.1,a1,())))) (K .normal (mkS SQ0 34 (x.1,())))
def z1w8 (N:Nat):Hd (Bool×(DT5×Unit)):=fun st K=>(unS zuf 33 (restr [0,1] 0 st)).bind fun x=>z20d N x K
def t1_69 (N:Nat):Tab (Bool×(DT5×Unit)):=[([0,0,1],z1uv N)]
theorem z1rj {N:Nat}{c:Ctx}(hb:Base Tryd.prog (z25e N) c):zj Tryd.prog c (zh zth [0,1]) (z1w8 N) :=
 zk (s:=zuf) (m:=33) (g:=z20d N) [0,1] (zd hb N (t1_69 N) L_69 zth (TabOk.cons (z1q6 hb) TabOk.nil) [0,1] _ rfl) (fun x K=>by kernel_rfl)
def z1b (N:Nat)(p:DT5)(b:Int):Option (Bool×(DT5×Unit)):=zdf N p b (fun x4=>some (x4,(p,()))) (some (true,((p.1,((IntKind.wrap IntKind.i64 (p.2.1+1)),p.2.2)),())))
def t_69 (N:Nat):Tab (Bool×(DT5×Unit)):=[([0,1],z1w8 N)]
theorem z1i7 (N:Nat)(x:z15 zuf):z4u (z25e N) N (t_69 N) L_69 Tryd.f55 (mkS zuf 0 x) (z3r (.v .bool) SQ0 1)=z1b N x.1 x.2.1:=by kernel_rfl
def z1m (N:Nat):List A->Res:=zz zuf (fun x=>z1b N x.1 x.2.1) (z4x (.v .bool) SQ0 1)
theorem z1y (N:Nat):Contract Tryd.prog glob 55 (z1m N) :=
 Contract.of (E:=z25e N) (H:=t_69 N) (L:=L_69) (N:=N) (body:=zth) (K:=(z3r (.v .bool) SQ0 1)) (z23o N) Tryd.func55 (by kernel_rfl) (by decide) (fun _ hb=>(TabOk.cons (z1rj hb) TabOk.nil)) (fun x y h=>by rw[z1i7];exact h) (z2s (s:=(.v .bool)) (os:=SQ0) (m:=1))
def z11m:Code:=(Tryd.f96.body).getD .skip
def L_70:List (List Nat×List Nat):=[([0],[0,2]),([0,1],[0,3,2]),([0,0,1,1],[7,6,3,0,2]),([0,1,0,1,1],[7,6,3,0,2]),(z14g,[8,7,3,0,6,2]),(zqy,[7,3,0,6,2]),(z1a5,[3,2]),(z1a6,[3,0,4,7,6,2]),(z16h,[7,6,3,0,2]),(z1a4,[7,6,3,0,2]),(z1a3,[7,6,3,0,2]),([1,0,1,1],[3,2]),([0,1,1,1],[2]),([1,1,1,1],[2])]
def E_70 (N:Nat):Env:=z1c tys glob [(63,zd7 N)] [] [] [] false [] [(76,z7 N)]
theorem z23n (N:Nat):EnvOk Tryd.prog (E_70 N):=zi mixed zn (FnsOk.cons (zke N) (FnsOk.nil)) (ItsOk.cons (za N) (ItsOk.nil))
def zj3 (N:Nat)(s:(List UInt8))(x2:(List Int))(x6:Int)(set_:(List Int))(x7:Int)(rec:(List Int)->Int->Option (List Int))(k0:(List Int)->Option (List Int)):Option (List Int):=cond (decide (x7<x6)) (cond (inR x7 (List.length s)) ((zgd N set_ (UInt8.toNat (List.getD s (Int.toNat x7) (0:UInt8)):Int)).bind fun y=>rec y (IntKind.wrap IntKind.i64 (x7+1))) none) (k0 set_)
def zqt (N:Nat)(s:(List UInt8))(x2:(List Int))(set_:(List Int))(x6:Int)(x7:Int)(k0:(List Int)->Option (List Int)):Option (List Int):=iter (fun (v:((List Int)×Int)) r=>zj3 N s x2 x6 v.1 v.2 (fun set_ x7=>(r (set_,x7))) k0) N (set_,x7)
def z20c (N:Nat)(i:((List UInt8)×(List Int)×Int))(v:((List Int)×Int))(r:((List Int)×Int)->Option (List Int))(K:Ex->List A->Option (List Int)):Option (List Int):=zj3 N i.1 i.2.1 i.2.2 v.1 v.2 (fun set_ x7=>(r (set_,x7))) (fun a1=>(K (.exit 0) (mkS [(2,.box (.arr 4 (.int .u64))),(0,.box (.arr 4 (.int .u64)))] 13 (i.2.1,a1,()))))
def z1w7 (N:Nat):Hd (List Int):=fun st K=>(unS SQ92 9 (restr [7,6,3,0,2] 0 st)).bind fun x=>iter (fun v r=>z20c N ((fun x=>(x.1,x.2.1,x.2.2.2.1)) x) v r K) N ((fun x=>(x.2.2.1,x.2.2.2.2.1)) x)
def t1_70 (N:Nat):Tab (List Int):=[]
theorem z1ri {N:Nat}{c:Ctx}(hb:Base Tryd.prog (E_70 N) c):zj Tryd.prog c (zh z11m [0,1,0,1,1]) (z1w7 N) :=
 zu (s:=SQ92) (m:=9) (z20c N) [7,6,3,0,2] N (fun x=>(x.1,x.2.1,x.2.2.2.1)) (fun x=>(x.2.2.1,x.2.2.2.2.1)) (fun i v=>(i.1,i.2.1,v.1,i.2.2,v.2,())) (fun _=>rfl) (zd hb N (t1_70 N) L_70 z11m TabOk.nil [0,0,1,0,1,1] _ rfl) (fun i v r K=>by kernel_rfl)
def zed (N:Nat)(s:(List UInt8)):Option (List Int):=zqt N s ([0,0,0,0]:List Int) ([0,0,0,0]:List Int) (List.length s:Int) 0 (fun set_=>some set_)
def t_70 (N:Nat):Tab (List Int):=[([0,1,0,1,1],z1w7 N)]
theorem z1i6 (N:Nat)(x:z15 [(0,.v .str)]):z4u (E_70 N) N (t_70 N) L_70 Tryd.f96 (mkS [(0,.v .str)] 0 x) (z2l (.v (.arr 4 (.int .u64))) 1)=zed N x.1:=by kernel_rfl
def zc2 (N:Nat):List A->Res:=zz [(0,.v .str)] (fun x=>zed N x.1) (z6n (.v (.arr 4 (.int .u64))) 1)
theorem zj4 (N:Nat):Contract Tryd.prog glob 96 (zc2 N) :=
 Contract.of (E:=E_70 N) (H:=t_70 N) (L:=L_70) (N:=N) (body:=z11m) (K:=(z2l (.v (.arr 4 (.int .u64))) 1)) (z23n N) Tryd.func96 (by kernel_rfl) (by decide) (fun _ hb=>(TabOk.cons (z1ri hb) TabOk.nil)) (fun x y h=>by rw[z1i6];exact h) (z13 (s:=(.v (.arr 4 (.int .u64)))) (m:=1))
def z1k9:Code:=(Tryd.f99.body).getD .skip
def L_71:List (List Nat×List Nat):=[([0],[0]),([0,1],[2]),([1,1],[2])]
def E_71 (N:Nat):Env:=z1c tys glob [] [] [] [] false [] [(76,z7 N)]
theorem z23m (N:Nat):EnvOk Tryd.prog (E_71 N):=zi mixed zn (FnsOk.nil) (ItsOk.cons (za N) (ItsOk.nil))
def z7k (N:Nat)(b:Int):Option Bool:=cond (decide (48<=b)) (some (decide (b<=57))) (some false)
def t_71 (N:Nat):Tab Bool:=[]
theorem z1i5 (N:Nat)(x:z15 [(0,.v (.int .u8))]):z4u (E_71 N) N (t_71 N) L_71 Tryd.f99 (mkS [(0,.v (.int .u8))] 0 x) (z2l (.v .bool) 1)=z7k N x.1:=by kernel_rfl
def z7j (N:Nat):List A->Res:=zz [(0,.v (.int .u8))] (fun x=>z7k N x.1) (z6n (.v .bool) 1)
theorem zc8 (N:Nat):Contract Tryd.prog glob 99 (z7j N) :=
 Contract.of (E:=E_71 N) (H:=t_71 N) (L:=L_71) (N:=N) (body:=z1k9) (K:=(z2l (.v .bool) 1)) (z23m N) Tryd.func99 (by kernel_rfl) (by decide) (fun _ hb=>TabOk.nil) (fun x y h=>by rw[z1i5];exact h) (z13 (s:=(.v .bool)) (m:=1))
def ztg:Code:=(Tryd.f97.body).getD .skip
def L_72:List (List Nat×List Nat):=[([0],[0,1]),([0,1],[0,5,1]),([0,1,1],[5,0,1]),([0,0,1,1,1],[16,5,0,1]),([1,0,1,1,1],[5,0,1]),(zzc,[4,0]),(z12k,[4,0]),([0,0,1,1,1,1],[24,0,1,5]),([1,0,1,1,1,1],[5,0]),(z1an,[5,0]),([0,1,1,1,1,1],[4,0]),([1,1,1,1,1,1],[4,0])]
def z25d (N:Nat):Env:=z1c tys glob [(99,z7j N),(95,z18 N)] [] [] [0] false [] [(76,z7 N)]
theorem z23l (N:Nat):EnvOk Tryd.prog (z25d N):=zi mixed zn (FnsOk.cons (zc8 N) (FnsOk.cons (z1h N) (FnsOk.nil))) (ItsOk.cons (za N) (ItsOk.nil))
def zew (N:Nat)(p:DT5)(from_:Int)(b:Int)(k0:Bool->Option (Int×(DT5×Unit))):Option (Int×(DT5×Unit)):=cond (decide (b<97)) (k0 true) (k0 (decide (102<b)))
def z1yz (N:Nat)(x:z15 z16s)(K:Ex->List A->Option (Int×(DT5×Unit))):Option (Int×(DT5×Unit)):=zew N x.1 x.2.1 x.2.2.1 (fun a3=>(K .normal (mkS [(0,.box (.pair .str TT1)),(0,.v (.int .i64)),(3,.v (.int .u8)),(18,.v .bool)] 6 (x.1,x.2.1,x.2.2.1,a3,()))))
def z1uu (N:Nat):Hd (Int×(DT5×Unit)):=fun st K=>(unS z16s 25 (restr [5,0,1] 0 st)).bind fun x=>z1yz N x K
def t2_72 (N:Nat):Tab (Int×(DT5×Unit)):=[]
theorem z1q5 {N:Nat}{c:Ctx}(hb:Base Tryd.prog (z25d N) c):zj Tryd.prog c (zh ztg [0,0,1,1,1,1]) (z1uu N) :=
 zk (s:=z16s) (m:=25) (g:=z1yz N) [5,0,1] (zd hb N (t2_72 N) L_72 ztg TabOk.nil [0,0,1,1,1,1] _ rfl) (fun x K=>by kernel_rfl)
def zex (N:Nat)(p:DT5)(from_:Int)(b:Int)(k0:Option (Int×(DT5×Unit))):Option (Int×(DT5×Unit)):=zew N p from_ b (fun x24=>cond x24 none k0)
def z20b (N:Nat)(x:z15 z16s)(K:Ex->List A->Option (Int×(DT5×Unit))):Option (Int×(DT5×Unit)):=zex N x.1 x.2.1 x.2.2.1 (K .normal (mkS [(0,.box (.pair .str TT1)),(4,.v (.int .u8))] 25 (x.1,x.2.2.1,())))
def z1w6 (N:Nat):Hd (Int×(DT5×Unit)):=fun st K=>(unS z16s 25 (restr [5,0,1] 0 st)).bind fun x=>z20b N x K
def t1_72 (N:Nat):Tab (Int×(DT5×Unit)):=[([0,0,1,1,1,1],z1uu N)]
theorem z1rh {N:Nat}{c:Ctx}(hb:Base Tryd.prog (z25d N) c):zj Tryd.prog c (zh ztg [0,1,1,1,1]) (z1w6 N) :=
 zk (s:=z16s) (m:=25) (g:=z20b N) [5,0,1] (zd hb N (t1_72 N) L_72 ztg (TabOk.cons (z1q5 hb) TabOk.nil) [0,1,1,1,1] _ rfl) (fun x K=>by kernel_rfl)
def z50 (N:Nat)(p:DT5)(from_:Int):Option (Int×(DT5×Unit)):=(z1j N p).bind fun y=>(z7k N y.1).bind fun y1=>cond y1 (some ((IntKind.wrap IntKind.u8 (y.1 - 48)),((y.2.1.1,((IntKind.wrap IntKind.i64 (y.2.1.2.1+1)),y.2.1.2.2)),()))) (zex N (y.2.1.1,((IntKind.wrap IntKind.i64 (y.2.1.2.1+1)),y.2.1.2.2)) from_ y.1 (some ((IntKind.wrap IntKind.u8 ((IntKind.wrap IntKind.u8 (y.1 - 97))+10)),((y.2.1.1,((IntKind.wrap IntKind.i64 (y.2.1.2.1+1)),y.2.1.2.2)),()))))
def t_72 (N:Nat):Tab (Int×(DT5×Unit)):=[([0,1,1,1,1],z1w6 N)]
theorem z1i4 (N:Nat)(x:z15 z1mf):z4u (z25d N) N (t_72 N) L_72 Tryd.f97 (mkS z1mf 0 x) (z3r (.v (.int .u8)) SQ0 1)=z50 N x.1 x.2.1:=by kernel_rfl
def z8g (N:Nat):List A->Res:=zz z1mf (fun x=>z50 N x.1 x.2.1) (z4x (.v (.int .u8)) SQ0 1)
theorem zey (N:Nat):Contract Tryd.prog glob 97 (z8g N) :=
 Contract.of (E:=z25d N) (H:=t_72 N) (L:=L_72) (N:=N) (body:=ztg) (K:=(z3r (.v (.int .u8)) SQ0 1)) (z23l N) Tryd.func97 (by kernel_rfl) (by decide) (fun _ hb=>(TabOk.cons (z1rh hb) TabOk.nil)) (fun x y h=>by rw[z1i4];exact h) (z2s (s:=(.v (.int .u8))) (os:=SQ0) (m:=1))
def z1k8:Code:=(Tryd.f87.body).getD .skip
def L_73:List (List Nat×List Nat):=[([0],[0,1]),([0,1],[4]),([1,1],[4])]
def E_73 (N:Nat):Env:=z1c tys glob [(98,z18x)] [] [] [] false [] [(76,z7 N)]
theorem z23k (N:Nat):EnvOk Tryd.prog (E_73 N):=zi mixed zn (FnsOk.cons (z1t8 glob) (FnsOk.nil)) (ItsOk.cons (za N) (ItsOk.nil))
def zgp (N:Nat)(s:(List UInt8))(c:Int):Option Int:=some (Go.Lib.indexByte s (Nat.toUInt8 (Int.toNat c)))
def t_73 (N:Nat):Tab Int:=[]
theorem z1i3 (N:Nat)(x:z15 [(0,.v .str),(0,.v (.int .u8))]):z4u (E_73 N) N (t_73 N) L_73 Tryd.f87 (mkS [(0,.v .str),(0,.v (.int .u8))] 0 x) (z2l (.v (.int .i64)) 2)=zgp N x.1 x.2.1:=by kernel_rfl
def z3e (N:Nat):List A->Res:=zz [(0,.v .str),(0,.v (.int .u8))] (fun x=>zgp N x.1 x.2.1) (z6n (.v (.int .i64)) 2)
theorem z5m (N:Nat):Contract Tryd.prog glob 87 (z3e N) :=
 Contract.of (E:=E_73 N) (H:=t_73 N) (L:=L_73) (N:=N) (body:=z1k8) (K:=(z2l (.v (.int .i64)) 2)) (z23k N) Tryd.func87 (by kernel_rfl) (by decide) (fun _ hb=>TabOk.nil) (fun x y h=>by rw[z1i3];exact h) (z13 (s:=(.v (.int .i64))) (m:=2))
def z11l:Code:=(Tryd.f86.body).getD .skip
def L_74:List (List Nat×List Nat):=[([0],[0,2]),([0,1],[0,2,4]),([0,1,1],[0,2,4]),([0,1,1,1],[0,5,2,4]),([0,1,1,1,1],[5,2,0,4]),([0,0,0,1,1,1,1,1],[22,2,0,5,4]),([1,0,0,1,1,1,1,1],[5,2,0]),([0,1,1,0,0,1,1,1,1,1],[26,2,0,5,4]),([1,1,1,0,0,1,1,1,1,1],[5,2,0]),([0,1,1,1,1,0,0,1,1,1,1,1],[30,0,4,2,5]),([1,1,1,1,1,0,0,1,1,1,1,1],[5,2,0]),([0,1,1,1,1,1,1,0,0,1,1,1,1,1],[42,0,4,5,2]),([1,1,1,1,1,1,1,0,0,1,1,1,1,1],[5,2,0]),([0,1,1,1,1,1,1,1,0,0,1,1,1,1,1],[5,2,0]),([0,0,1,1,1,1,1,0,0,1,1,1,1,1],[6,0,4,2]),([1,0,1,1,1,1,1,0,0,1,1,1,1,1],[5,2,0]),([0,0,1,1,1,0,0,1,1,1,1,1],[2,3,0]),([1,0,1,1,1,0,0,1,1,1,1,1],[2,3,0]),([0,0,1,0,0,1,1,1,1,1],[2,3,0]),([1,0,1,0,0,1,1,1,1,1],[2,3,0]),([0,1,1,1,1,1],[5,2,0]),(z14h,[2,3,0]),(zze,[2,3,0])]
def E_74 (N:Nat):Env:=z1c tys glob [(87,z3e N),(97,z8g N),(96,zc2 N),(41,z3c N),(89,z1n N),(95,z18 N)] [] [] [0] false [] [(76,z7 N)]
theorem z23j (N:Nat):EnvOk Tryd.prog (E_74 N):=zi mixed zn (FnsOk.cons (z5m N) (FnsOk.cons (zey N) (FnsOk.cons (zj4 N) (FnsOk.cons (z42 N) (FnsOk.cons (z1z N) (FnsOk.cons (z1h N) (FnsOk.nil))))))) (ItsOk.cons (za N) (ItsOk.nil))
def zba (N:Nat)(p:DT5)(set_:(List Int))(from_:Int)(b:Int)(k0:(List Int)->Bool->Option zrf)(k1:DT5->Int->Option zrf):Option zrf:=cond (b == 100) ((z2r N 48 57).bind fun y=>k0 y true) (cond (b == 119) ((zed N ((48:UInt8)::(49:UInt8)::(50:UInt8)::(51:UInt8)::(52:UInt8)::(53:UInt8)::(54:UInt8)::(55:UInt8)::(56:UInt8)::(57:UInt8)::(65:UInt8)::(66:UInt8)::(67:UInt8)::(68:UInt8)::(69:UInt8)::(70:UInt8)::(71:UInt8)::(72:UInt8)::(73:UInt8)::(74:UInt8)::(75:UInt8)::(76:UInt8)::(77:UInt8)::(78:UInt8)::(79:UInt8)::(80:UInt8)::(81:UInt8)::(82:UInt8)::(83:UInt8)::(84:UInt8)::(85:UInt8)::(86:UInt8)::(87:UInt8)::(88:UInt8)::(89:UInt8)::(90:UInt8)::(95:UInt8)::(97:UInt8)::(98:UInt8)::(99:UInt8)::(100:UInt8)::(101:UInt8)::(102:UInt8)::(103:UInt8)::(104:UInt8)::(105:UInt8)::(106:UInt8)::(107:UInt8)::(108:UInt8)::(109:UInt8)::(110:UInt8)::(111:UInt8)::(112:UInt8)::(113:UInt8)::(114:UInt8)::(115:UInt8)::(116:UInt8)::(117:UInt8)::(118:UInt8)::(119:UInt8)::(120:UInt8)::(121:UInt8)::(122:UInt8)::[])).bind fun y1=>k0 y1 true) (cond (b == 120) ((z50 N p from_).bind fun y2=>(z50 N y2.2.1 from_).bind fun y3=>k1 y3.2.1 (ze Go.BinOp.or IntKind.u8 (z17a IntKind.u8 y2.1 4) y3.1)) (cond (decide ((Go.Lib.indexByte ([(92:UInt8),(46:UInt8),(91:UInt8),(93:UInt8),(40:UInt8),(41:UInt8),(123:UInt8),(125:UInt8),(124:UInt8),(42:UInt8),(43:UInt8),(63:UInt8),(45:UInt8),(94:UInt8)]:List UInt8) (Nat.toUInt8 (Int.toNat b)))<0)) none (k1 p b))))
def z20a (N:Nat)(x:z15 z1mn)(K:Ex->List A->Option zrf):Option zrf:=zba N x.1 x.2.1 x.2.2.1 x.2.2.2.1 (fun a1 a2=>(K .ret (mkS SQ66 48 (x.1,a1,a2,())))) (fun a0 a2=>(K .normal (mkS [(0,.box (.pair .str TT1)),(1,.box (.arr 4 (.int .u64))),(2,.v (.int .u8))] 46 (a0,x.2.1,a2,()))))
def z1w5 (N:Nat):Hd zrf:=fun st K=>(unS z1mn 46 (restr [5,2,0,4] 0 st)).bind fun x=>z20a N x K
def t1_74 (N:Nat):Tab zrf:=[]
theorem z1rg {N:Nat}{c:Ctx}(hb:Base Tryd.prog (E_74 N) c):zj Tryd.prog c (zh z11l [0,1,1,1,1,1]) (z1w5 N) :=
 zk (s:=z1mn) (m:=46) (g:=z20a N) [5,2,0,4] (zd hb N (t1_74 N) L_74 z11l TabOk.nil [0,1,1,1,1,1] _ rfl) (fun x K=>by kernel_rfl)
def z36 (N:Nat)(p:DT5):Option zrf:=(z1k N p 92).bind fun y=>(z1j N y.2.1).bind fun y1=>zba N (y1.2.1.1,((IntKind.wrap IntKind.i64 (y1.2.1.2.1+1)),y1.2.1.2.2)) ([0,0,0,0]:List Int) p.2.1 y1.1 (fun set_ class_=>some ((set_,(class_,())),((y1.2.1.1,((IntKind.wrap IntKind.i64 (y1.2.1.2.1+1)),y1.2.1.2.2)),()))) (fun p1 b=>(z2r N b b).bind fun y2=>some ((y2,(false,())),(p1,())))
def t_74 (N:Nat):Tab zrf:=[([0,1,1,1,1,1],z1w5 N)]
theorem z1i2 (N:Nat)(x:z15 SQ0):z4u (E_74 N) N (t_74 N) L_74 Tryd.f86 (mkS SQ0 0 x) (z3r (.tup [(.arr 4 (.int .u64)),.bool]) SQ0 0)=z36 N x.1:=by kernel_rfl
def z2w (N:Nat):List A->Res:=zz SQ0 (fun x=>z36 N x.1) (z4x (.tup [(.arr 4 (.int .u64)),.bool]) SQ0 0)
theorem z4r (N:Nat):Contract Tryd.prog glob 86 (z2w N) :=
 Contract.of (E:=E_74 N) (H:=t_74 N) (L:=L_74) (N:=N) (body:=z11l) (K:=(z3r (.tup [(.arr 4 (.int .u64)),.bool]) SQ0 0)) (z23j N) Tryd.func86 (by kernel_rfl) (by decide) (fun _ hb=>(TabOk.cons (z1rg hb) TabOk.nil)) (fun x y h=>by rw[z1i2];exact h) (z2s (s:=(.tup [(.arr 4 (.int .u64)),.bool])) (os:=SQ0) (m:=0))
def ztf:Code:=(Tryd.f100.body).getD .skip
def L_75:List (List Nat×List Nat):=[([0],[0,2]),([0,1],[4,0,2]),([0,0,1,1],[7,0,2,4]),([0,0,1,0,1,1],[8,0,2,7,4]),([1,0,1,0,1,1],[0,4,2]),([0,0,1,1,0,1,0,1,1],[14,0,4,2,7]),([1,0,1,1,0,1,0,1,1],[14,0,4,2]),([0,1,1,0,1,1,0,1,0,1,1],[14,0,4,2,7]),([1,1,1,0,1,1,0,1,0,1,1],[14,0,4,2]),([0,1,1,1,1,0,1,1,0,1,0,1,1],[14,0,4,2,7]),([1,1,1,1,1,0,1,1,0,1,0,1,1],[14,0,4,2]),([1,1,1,1,1,1,0,1,1,0,1,0,1,1],[14,0,4,2]),([1,1,1,0,1,0,1,1],[0,4,2]),([0,1,1,1,0,1,0,1,1],[0,4,2]),([0,0,1,0,1,0,1,1],[2,3,0]),([1,0,1,0,1,0,1,1],[2,3,0]),([1,0,1,1],[0,4,2]),([0,1,1,1],[4,2,0]),([0,1,1,1,1],[2,3,0]),([1,1,1,1,1],[2,3,0])]
def z25c (N:Nat):Env:=z1c tys glob [(86,z2w N),(41,z3c N),(95,z18 N)] [] [] [0] false [] [(76,z7 N)]
theorem z23i (N:Nat):EnvOk Tryd.prog (z25c N):=zi mixed zn (FnsOk.cons (z4r N) (FnsOk.cons (z42 N) (FnsOk.cons (z1h N) (FnsOk.nil)))) (ItsOk.cons (za N) (ItsOk.nil))
def zdg (N:Nat)(p:DT5)(set_:(List Int))(b:Int)(x7:Int)(k0:Bool->Option zrf):Option zrf:=cond (x7 == 91) (k0 (x7 == 91)) (cond (x7 == 93) (k0 (x7 == 93)) (cond (x7 == 45) (k0 (x7 == 45)) (k0 (x7 == 94))))
def z1yy (N:Nat)(x:z15 z1mm)(K:Ex->List A->Option zrf):Option zrf:=zdg N x.1 x.2.1 x.2.2.1 x.2.2.2.1 (fun a3=>(K .normal (mkS z224 20 (x.1,x.2.1,x.2.2.1,a3,()))))
def z1ut (N:Nat):Hd zrf:=fun st K=>(unS z1mm 27 (restr [7,0,4,2] 0 st)).bind fun x=>z1yy N x K
def t2_75 (N:Nat):Tab zrf:=[]
theorem z1q4 {N:Nat}{c:Ctx}(hb:Base Tryd.prog (z25c N) c):zj Tryd.prog c (zh ztf z12j) (z1ut N) :=
 zk (s:=z1mm) (m:=27) (g:=z1yy N) [7,0,4,2] (zd hb N (t2_75 N) L_75 ztf TabOk.nil z12j _ rfl) (fun x K=>by kernel_rfl)
def zdh (N:Nat)(p:DT5)(set_:(List Int))(b:Int)(k0:DT5->(List Int)->Bool->Option zrf)(k1:Option zrf):Option zrf:=cond (b == 92) ((z36 N p).bind fun y=>k0 y.2.1 y.1.1 y.1.2.1) (zdg N p set_ b b (fun x14=>cond x14 none k1))
def z209 (N:Nat)(x:z15 z1fa)(K:Ex->List A->Option zrf):Option zrf:=zdh N x.1 x.2.1 x.2.2.1 (fun a0 a1 a2=>(K .ret (mkS SQ66 31 (a0,a1,a2,())))) (K .normal (mkS z1fa 30 (x.1,x.2.1,x.2.2.1,())))
def z1w4 (N:Nat):Hd zrf:=fun st K=>(unS z1fa 30 (restr [4,0,2] 0 st)).bind fun x=>z209 N x K
def t1_75 (N:Nat):Tab zrf:=[(z12j,z1ut N)]
theorem z1rf {N:Nat}{c:Ctx}(hb:Base Tryd.prog (z25c N) c):zj Tryd.prog c (zh ztf [0,1,1]) (z1w4 N) :=
 zk (s:=z1fa) (m:=30) (g:=z209 N) [4,0,2] (zd hb N (t1_75 N) L_75 ztf (TabOk.cons (z1q4 hb) TabOk.nil) [0,1,1] _ rfl) (fun x K=>by kernel_rfl)
def z45 (N:Nat)(p:DT5):Option zrf:=(z1j N p).bind fun y=>zdh N y.2.1 ([0,0,0,0]:List Int) y.1 (fun p1 set_ class_=>some ((set_,(class_,())),(p1,()))) ((z2r N y.1 y.1).bind fun y1=>some ((y1,(false,())),((y.2.1.1,((IntKind.wrap IntKind.i64 (y.2.1.2.1+1)),y.2.1.2.2)),())))
def t_75 (N:Nat):Tab zrf:=[([0,1,1],z1w4 N)]
theorem z1i1 (N:Nat)(x:z15 SQ0):z4u (z25c N) N (t_75 N) L_75 Tryd.f100 (mkS SQ0 0 x) (z3r (.tup [(.arr 4 (.int .u64)),.bool]) SQ0 0)=z45 N x.1:=by kernel_rfl
def z7d (N:Nat):List A->Res:=zz SQ0 (fun x=>z45 N x.1) (z4x (.tup [(.arr 4 (.int .u64)),.bool]) SQ0 0)
theorem zdi (N:Nat):Contract Tryd.prog glob 100 (z7d N) :=
 Contract.of (E:=z25c N) (H:=t_75 N) (L:=L_75) (N:=N) (body:=ztf) (K:=(z3r (.tup [(.arr 4 (.int .u64)),.bool]) SQ0 0)) (z23i N) Tryd.func100 (by kernel_rfl) (by decide) (fun _ hb=>(TabOk.cons (z1rf hb) TabOk.nil)) (fun x y h=>by rw[z1i1];exact h) (z2s (s:=(.tup [(.arr 4 (.int .u64)),.bool])) (os:=SQ0) (m:=0))
def z11k:Code:=(Tryd.f101.body).getD .skip
def L_76:List (List Nat×List Nat):=[([0],[1]),([0,0,1],[6,1]),([1,0,1],[1]),([0,0,1,0,1],[2]),([1,0,1,0,1],[2]),([0,1,1],[3,1]),([0,0,1,1,1],[3,1]),([0,0,0,0,0,1,1,1],[10,3,1]),([1,0,0,0,0,1,1,1],[3,1]),([1,1,0,0,0,0,1,1,1],[3,1]),([0,1,0,0,0,1,1,1],[3,1]),([1,0,0,0,1,1,1],[3,1]),([0,1,1,1],[3,1]),([0,1,1,1,1],[2]),([1,1,1,1,1],[2])]
def E_76 (N:Nat):Env:=z1c tys glob [(70,z3n N)] [] [] [] false [] [(76,z7 N)]
theorem z23h (N:Nat):EnvOk Tryd.prog (E_76 N):=zi mixed zn (FnsOk.cons (z76 N) (FnsOk.nil)) (ItsOk.cons (za N) (ItsOk.nil))
def zj6 (N:Nat)(s:(List Int))(i:Int)(rec:Int->Option Int)(k0:Int->Option Int):Option Int:=cond (inR i 4) (cond (decide ((Int.toNat i)<(List.length s))) (cond ((List.getD s (Int.toNat i) 0) == 0) (rec (IntKind.wrap IntKind.i64 (i+1))) (k0 i)) none) none
def zqu (N:Nat)(s:(List Int))(i:Int)(k0:Int->Option Int):Option Int:=iter (fun (v:Int) r=>zj6 N s v (fun i=>(r i)) k0) N i
def z208 (N:Nat)(i:(List Int))(v:Int)(r:Int->Option Int)(K:Ex->List A->Option Int):Option Int:=zj6 N i v (fun i=>(r i)) (fun a1=>(K (.exit 0) (mkS z1l1 16 (i,a1,()))))
def z1w3 (N:Nat):Hd Int:=fun st K=>(unS z1l1 16 (restr [3,1] 0 st)).bind fun x=>iter (fun v r=>z208 N ((fun x=>x.1) x) v r K) N ((fun x=>x.2.1) x)
def t1_76 (N:Nat):Tab Int:=[]
theorem z1re {N:Nat}{c:Ctx}(hb:Base Tryd.prog (E_76 N) c):zj Tryd.prog c (zh z11k [0,0,1,1,1]) (z1w3 N) :=
 zu (s:=z1l1) (m:=16) (z208 N) [3,1] N (fun x=>x.1) (fun x=>x.2.1) (fun i v=>(i,v,())) (fun _=>rfl) (zd hb N (t1_76 N) L_76 z11k TabOk.nil [0,0,0,1,1,1] _ rfl) (fun i v r K=>by kernel_rfl)
def z3d (N:Nat)(s:(List Int)):Option Int:=cond (eqD (T.arr 4 (T.int IntKind.u64)) s ([0,0,0,0]:List Int)) (some (-1)) (zqu N s 0 (fun i=>cond (inR i 4) (cond (decide ((Int.toNat i)<(List.length s))) ((z1x N (List.getD s (Int.toNat i) 0)).bind fun y=>some (IntKind.wrap IntKind.i64 ((IntKind.wrap IntKind.i64 (i*64))+y))) none) none))
def t_76 (N:Nat):Tab Int:=[([0,0,1,1,1],z1w3 N)]
theorem z1i0 (N:Nat)(x:z15 z12b):z4u (E_76 N) N (t_76 N) L_76 Tryd.f101 (mkS z12b 0 x) (z2l (.v (.int .i64)) 1)=z3d N x.1:=by kernel_rfl
def zc4 (N:Nat):List A->Res:=zz z12b (fun x=>z3d N x.1) (z6n (.v (.int .i64)) 1)
theorem zj7 (N:Nat):Contract Tryd.prog glob 101 (zc4 N) :=
 Contract.of (E:=E_76 N) (H:=t_76 N) (L:=L_76) (N:=N) (body:=z11k) (K:=(z2l (.v (.int .i64)) 1)) (z23h N) Tryd.func101 (by kernel_rfl) (by decide) (fun _ hb=>(TabOk.cons (z1re hb) TabOk.nil)) (fun x y h=>by rw[z1i0];exact h) (z13 (s:=(.v (.int .i64))) (m:=1))
def zij:Code:=(Tryd.f92.body).getD .skip
def z1mw:List (List Nat×List Nat):=[([0],[0,2]),([0,1],[4,0,3,2]),([0,0,1,1],[17,3,2,0]),([1,0,1,1],[0,3,2]),([0,0,1,0,1,1],[2,0]),([1,0,1,0,1,1],[2,0]),([0,1,1,1],[0,3,5,2]),([0,1,1,1,1],[4,6,3,0,5,2]),(ztw,[35,0,5,3,6,2]),(zug,[3,6,2,0]),(zx5,[3,6,2,0]),(z14h,[2,0]),(zze,[2,0])]
def z1lz (N:Nat):Env:=z1c tys glob [(101,zc4 N),(100,z7d N),(55,z1m N),(41,z3c N)] [] [] [0] false [] [(76,z7 N)]
theorem z23g (N:Nat):EnvOk Tryd.prog (z1lz N):=zi mixed zn (FnsOk.cons (zj7 N) (FnsOk.cons (zdi N) (FnsOk.cons (z1y N) (FnsOk.cons (z42 N) (FnsOk.nil))))) (ItsOk.cons (za N) (ItsOk.nil))
def zdn (N:Nat)(p:DT5)(x2:(List Int))(first:(List Int))(class_:Bool)(k0:DT5->Bool->Option zis):Option zis:=cond class_ (k0 p true) ((z1b N p 45).bind fun y=>k0 y.2.1 (!y.1))
def z1yx (N:Nat)(x:z15 SQ7)(K:Ex->List A->Option zis):Option zis:=zdn N x.1 x.2.1 x.2.2.1 x.2.2.2.1 (fun a0 a3=>(K .normal (mkS z22c 28 (a0,x.2.1,x.2.2.1,a3,()))))
def z1us (N:Nat):Hd zis:=fun st K=>(unS SQ7 41 (restr [4,0,3,2] 0 st)).bind fun x=>z1yx N x K
def t2_77 (N:Nat):Tab zis:=[]
theorem z1q3 {N:Nat}{c:Ctx}(hb:Base Tryd.prog (z1lz N) c):zj Tryd.prog c (zh zij [0,0,1,1]) (z1us N) :=
 zk (s:=SQ7) (m:=41) (g:=z1yx N) [4,0,3,2] (zd hb N (t2_77 N) z1mw zij TabOk.nil [0,0,1,1] _ rfl) (fun x K=>by kernel_rfl)
def zdo (N:Nat)(p:DT5)(x2:(List Int))(first:(List Int))(class_:Bool)(k0:DT5->Option zis)(k1:DT5->Option zis):Option zis:=zdn N p x2 first class_ (fun p1 x17=>cond x17 (k0 p1) (k1 p1))
def z207 (N:Nat)(x:z15 SQ7)(K:Ex->List A->Option zis):Option zis:=zdo N x.1 x.2.1 x.2.2.1 x.2.2.2.1 (fun a0=>(K .ret (mkS [(0,.box (.pair .str TT1)),(1,.box (.arr 4 (.int .u64)))] 43 (a0,x.2.2.1,())))) (fun a0=>(K .normal (mkS z221 42 (a0,x.2.1,x.2.2.1,()))))
def z1w2 (N:Nat):Hd zis:=fun st K=>(unS SQ7 41 (restr [4,0,3,2] 0 st)).bind fun x=>z207 N x K
def t1_77 (N:Nat):Tab zis:=[([0,0,1,1],z1us N)]
theorem z1rd {N:Nat}{c:Ctx}(hb:Base Tryd.prog (z1lz N) c):zj Tryd.prog c (zh zij [0,1,1]) (z1w2 N) :=
 zk (s:=SQ7) (m:=41) (g:=z207 N) [4,0,3,2] (zd hb N (t1_77 N) z1mw zij (TabOk.cons (z1q3 hb) TabOk.nil) [0,1,1] _ rfl) (fun x K=>by kernel_rfl)
def zdl (N:Nat)(p:DT5)(x2:(List Int))(first:(List Int))(class_:Bool)(from_:Int)(last:(List Int))(k0:Bool->Option zis):Option zis:=cond class_ (k0 true) ((z3d N last).bind fun y=>(z3d N first).bind fun y1=>k0 (decide (y<y1)))
def z1xw (N:Nat)(x:z15 SQ2)(K:Ex->List A->Option zis):Option zis:=zdl N x.1 x.2.1 x.2.2.1 x.2.2.2.1 x.2.2.2.2.1 x.2.2.2.2.2.1 (fun a5=>(K .normal (mkS SQ63 10 (x.1,x.2.1,x.2.2.1,x.2.2.2.2.1,x.2.2.2.2.2.1,a5,()))))
def z1tr (N:Nat):Hd zis:=fun st K=>(unS SQ2 39 (restr [4,6,3,0,5,2] 0 st)).bind fun x=>z1xw N x K
def t4_77 (N:Nat):Tab zis:=[]
theorem z1p2 {N:Nat}{c:Ctx}(hb:Base Tryd.prog (z1lz N) c):zj Tryd.prog c (zh zij ztw) (z1tr N) :=
 zk (s:=SQ2) (m:=39) (g:=z1xw N) [4,6,3,0,5,2] (zd hb N (t4_77 N) z1mw zij TabOk.nil ztw _ rfl) (fun x K=>by kernel_rfl)
def zdm (N:Nat)(p:DT5)(x2:(List Int))(first:(List Int))(class_:Bool)(from_:Int)(last:(List Int))(k0:Option zis):Option zis:=zdl N p x2 first class_ from_ last (fun x35=>cond x35 none k0)
def z1y9 (N:Nat)(x:z15 SQ2)(K:Ex->List A->Option zis):Option zis:=zdm N x.1 x.2.1 x.2.2.1 x.2.2.2.1 x.2.2.2.2.1 x.2.2.2.2.2.1 (K .normal (mkS SQ90 39 (x.1,x.2.1,x.2.2.1,x.2.2.2.2.2.1,())))
def z1u4 (N:Nat):Hd zis:=fun st K=>(unS SQ2 39 (restr [4,6,3,0,5,2] 0 st)).bind fun x=>z1y9 N x K
def t3_77 (N:Nat):Tab zis:=[(ztw,z1tr N)]
theorem z1pf {N:Nat}{c:Ctx}(hb:Base Tryd.prog (z1lz N) c):zj Tryd.prog c (zh zij [0,1,1,1,1,1]) (z1u4 N) :=
 zk (s:=SQ2) (m:=39) (g:=z1y9 N) [4,6,3,0,5,2] (zd hb N (t3_77 N) z1mw zij (TabOk.cons (z1p2 hb) TabOk.nil) [0,1,1,1,1,1] _ rfl) (fun x K=>by kernel_rfl)
def z46 (N:Nat)(p:DT5):Option zis:=(z45 N p).bind fun y=>zdo N y.2.1 ([0,0,0,0]:List Int) y.1.1 y.1.2.1 (fun p1=>some (y.1.1,(p1,()))) (fun p2=>(z45 N p2).bind fun y1=>zdm N y1.2.1 ([0,0,0,0]:List Int) y.1.1 y1.1.2.1 p2.2.1 y1.1.1 ((z3d N y.1.1).bind fun y2=>(z3d N y1.1.1).bind fun y3=>(z2r N (IntKind.wrap IntKind.u8 y2) (IntKind.wrap IntKind.u8 y3)).bind fun y4=>some (y4,(y1.2.1,()))))
def t_77 (N:Nat):Tab zis:=[([0,1,1],z1w2 N),([0,1,1,1,1,1],z1u4 N)]
theorem z1hz (N:Nat)(x:z15 SQ0):z4u (z1lz N) N (t_77 N) z1mw Tryd.f92 (mkS SQ0 0 x) (z3r (.v (.arr 4 (.int .u64))) SQ0 0)=z46 N x.1:=by kernel_rfl
def z7e (N:Nat):List A->Res:=zz SQ0 (fun x=>z46 N x.1) (z4x (.v (.arr 4 (.int .u64))) SQ0 0)
theorem zdp (N:Nat):Contract Tryd.prog glob 92 (z7e N) :=
 Contract.of (E:=z1lz N) (H:=t_77 N) (L:=z1mw) (N:=N) (body:=zij) (K:=(z3r (.v (.arr 4 (.int .u64))) SQ0 0)) (z23g N) Tryd.func92 (by kernel_rfl) (by decide) (fun _ hb=>(TabOk.cons (z1rd hb) (TabOk.cons (z1pf hb) TabOk.nil))) (fun x y h=>by rw[z1hz];exact h) (z2s (s:=(.v (.arr 4 (.int .u64)))) (os:=SQ0) (m:=0))
def z11j:Code:=(Tryd.f93.body).getD .skip
def L_78:List (List Nat×List Nat):=[([0],[2,3,4]),([0,0,1],[6,2,3,4]),([0,1,0,1],[6,2,3,4]),([0,0,0,1,0,1],[7,6,2,3,4]),(z14i,[6,2,3,4]),(z16c,[2,4]),(z16g,[5,2,3,6,4]),(z1d9,[6,2,3,4]),(z16b,[6,2,3,4]),(z16a,[6,2,3,4]),([1,0,1],[2,4]),([0,1,1],[4]),([1,1,1],[4])]
def E_78 (N:Nat):Env:=z1c tys glob [] [] [] [] false [] [(76,z7 N)]
theorem z23f (N:Nat):EnvOk Tryd.prog (E_78 N):=zi mixed zn (FnsOk.nil) (ItsOk.cons (za N) (ItsOk.nil))
def zo8 (N:Nat)(t:(List Int))(x4:(List Int))(s:(List Int))(x6:Int)(rec:(List Int)->Int->Option (List Int))(k0:(List Int)->Option (List Int)):Option (List Int):=cond (decide (x6<4)) (cond (inR x6 4) (cond (decide ((Int.toNat x6)<(List.length s))) (cond (inR x6 4) (cond (decide ((Int.toNat x6)<(List.length t))) (cond (inR x6 4) (cond (decide ((Int.toNat x6)<(List.length s))) (rec (List.set s (Int.toNat x6) (ze Go.BinOp.or IntKind.u64 (List.getD s (Int.toNat x6) 0) (List.getD t (Int.toNat x6) 0))) (IntKind.wrap IntKind.i64 (x6+1))) none) none) none) none) none) none) (k0 s)
def zwy (N:Nat)(s:(List Int))(t:(List Int))(x4:(List Int))(x6:Int)(k0:(List Int)->Option (List Int)):Option (List Int):=iter (fun (v:((List Int)×Int)) r=>zo8 N t x4 v.1 v.2 (fun s x6=>(r (s,x6))) k0) N (s,x6)
def z206 (N:Nat)(i:((List Int)×(List Int)))(v:((List Int)×Int))(r:((List Int)×Int)->Option (List Int))(K:Ex->List A->Option (List Int)):Option (List Int):=zo8 N i.1 i.2 v.1 v.2 (fun s x6=>(r (s,x6))) (fun a0=>(K (.exit 0) (mkS [(2,.box (.arr 4 (.int .u64))),(1,.box (.arr 4 (.int .u64)))] 14 (a0,i.2,()))))
def z1w1 (N:Nat):Hd (List Int):=fun st K=>(unS SQ95 12 (restr [6,2,3,4] 0 st)).bind fun x=>iter (fun v r=>z206 N ((fun x=>(x.2.1,x.2.2.1)) x) v r K) N ((fun x=>(x.1,x.2.2.2.1)) x)
def t1_78 (N:Nat):Tab (List Int):=[]
theorem z1rc {N:Nat}{c:Ctx}(hb:Base Tryd.prog (E_78 N) c):zj Tryd.prog c (zh z11j [0,1,0,1]) (z1w1 N) :=
 zu (s:=SQ95) (m:=12) (z206 N) [6,2,3,4] N (fun x=>(x.2.1,x.2.2.1)) (fun x=>(x.1,x.2.2.2.1)) (fun i v=>(v.1,i.1,i.2,v.2,())) (fun _=>rfl) (zd hb N (t1_78 N) L_78 z11j TabOk.nil [0,0,1,0,1] _ rfl) (fun i v r K=>by kernel_rfl)
def zl8 (N:Nat)(s:(List Int))(t:(List Int)):Option (List Int):=zwy N s t ([0,0,0,0]:List Int) 0 (fun s1=>some s1)
def t_78 (N:Nat):Tab (List Int):=[([0,1,0,1],z1w1 N)]
theorem z1hy (N:Nat)(x:z15 z1l3):z4u (E_78 N) N (t_78 N) L_78 Tryd.f93 (mkS z1l3 0 x) (z2l (.v (.arr 4 (.int .u64))) 2)=zl8 N x.1 x.2.1:=by kernel_rfl
def zgm (N:Nat):List A->Res:=zz z1l3 (fun x=>zl8 N x.1 x.2.1) (z6n (.v (.arr 4 (.int .u64))) 2)
theorem zo9 (N:Nat):Contract Tryd.prog glob 93 (zgm N) :=
 Contract.of (E:=E_78 N) (H:=t_78 N) (L:=L_78) (N:=N) (body:=z11j) (K:=(z2l (.v (.arr 4 (.int .u64))) 2)) (z23f N) Tryd.func93 (by kernel_rfl) (by decide) (fun _ hb=>(TabOk.cons (z1rc hb) TabOk.nil)) (fun x y h=>by rw[z1hy];exact h) (z13 (s:=(.v (.arr 4 (.int .u64)))) (m:=2))
def z11i:Code:=(Tryd.f94.body).getD .skip
def L_79:List (List Nat×List Nat):=[([0],[1,2]),([0,0,1],[4,1,2]),([0,1,0,1],[4,1,2]),([0,0,0,1,0,1],[5,4,1,2]),(z14i,[4,1,2]),(z16c,[1,2]),(z16g,[3,1,4,2]),(z1d9,[4,1,2]),(z16b,[4,1,2]),(z16a,[4,1,2]),([1,0,1],[1,2]),([0,1,1],[2]),([1,1,1],[2])]
def E_79 (N:Nat):Env:=z1c tys glob [] [] [] [] false [] [(76,z7 N)]
theorem z23e (N:Nat):EnvOk Tryd.prog (E_79 N):=zi mixed zn (FnsOk.nil) (ItsOk.cons (za N) (ItsOk.nil))
def zm5 (N:Nat)(x2:(List Int))(s:(List Int))(x4:Int)(rec:(List Int)->Int->Option (List Int))(k0:(List Int)->Option (List Int)):Option (List Int):=cond (decide (x4<4)) (cond (inR x4 4) (cond (decide ((Int.toNat x4)<(List.length s))) (cond (inR x4 4) (cond (decide ((Int.toNat x4)<(List.length s))) (rec (List.set s (Int.toNat x4) (ze Go.BinOp.xor IntKind.u64 (if ((IntKind.signed IntKind.u64)=true) then (-1) else (IntKind.max IntKind.u64)) (List.getD s (Int.toNat x4) 0))) (IntKind.wrap IntKind.i64 (x4+1))) none) none) none) none) (k0 s)
def zud (N:Nat)(s:(List Int))(x2:(List Int))(x4:Int)(k0:(List Int)->Option (List Int)):Option (List Int):=iter (fun (v:((List Int)×Int)) r=>zm5 N x2 v.1 v.2 (fun s x4=>(r (s,x4))) k0) N (s,x4)
def z205 (N:Nat)(i:(List Int))(v:((List Int)×Int))(r:((List Int)×Int)->Option (List Int))(K:Ex->List A->Option (List Int)):Option (List Int):=zm5 N i v.1 v.2 (fun s x4=>(r (s,x4))) (fun a0=>(K (.exit 0) (mkS [(1,.box (.arr 4 (.int .u64))),(0,.box (.arr 4 (.int .u64)))] 12 (a0,i,()))))
def z1w0 (N:Nat):Hd (List Int):=fun st K=>(unS [(1,.box (.arr 4 (.int .u64))),(0,.box (.arr 4 (.int .u64))),(1,.v (.int .i64))] 10 (restr [4,1,2] 0 st)).bind fun x=>iter (fun v r=>z205 N ((fun x=>x.2.1) x) v r K) N ((fun x=>(x.1,x.2.2.1)) x)
def t1_79 (N:Nat):Tab (List Int):=[]
theorem z1rb {N:Nat}{c:Ctx}(hb:Base Tryd.prog (E_79 N) c):zj Tryd.prog c (zh z11i [0,1,0,1]) (z1w0 N) :=
 zu (s:=[(1,.box (.arr 4 (.int .u64))),(0,.box (.arr 4 (.int .u64))),(1,.v (.int .i64))]) (m:=10) (z205 N) [4,1,2] N (fun x=>x.2.1) (fun x=>(x.1,x.2.2.1)) (fun i v=>(v.1,i,v.2,())) (fun _=>rfl) (zd hb N (t1_79 N) L_79 z11i TabOk.nil [0,0,1,0,1] _ rfl) (fun i v r K=>by kernel_rfl)
def zig (N:Nat)(s:(List Int)):Option (List Int):=zud N s ([0,0,0,0]:List Int) 0 (fun s1=>some s1)
def t_79 (N:Nat):Tab (List Int):=[([0,1,0,1],z1w0 N)]
theorem z1hx (N:Nat)(x:z15 z12b):z4u (E_79 N) N (t_79 N) L_79 Tryd.f94 (mkS z12b 0 x) (z2l (.v (.arr 4 (.int .u64))) 1)=zig N x.1:=by kernel_rfl
def zfe (N:Nat):List A->Res:=zz z12b (fun x=>zig N x.1) (z6n (.v (.arr 4 (.int .u64))) 1)
theorem zm6 (N:Nat):Contract Tryd.prog glob 94 (zfe N) :=
 Contract.of (E:=E_79 N) (H:=t_79 N) (L:=L_79) (N:=N) (body:=z11i) (K:=(z2l (.v (.arr 4 (.int .u64))) 1)) (z23e N) Tryd.func94 (by kernel_rfl) (by decide) (fun _ hb=>(TabOk.cons (z1rb hb) TabOk.nil)) (fun x y h=>by rw[z1hx];exact h) (z13 (s:=(.v (.arr 4 (.int .u64)))) (m:=1))
def z11h:Code:=(Tryd.f85.body).getD .skip
def L_80:List (List Nat×List Nat):=[([0],[0,2]),([0,1],[0,2]),([0,1,1],[0,3,2]),([0,1,1,1],[0,4,3,2]),([0,0,1,1,1,1],[0,4,3,2]),(z1ab,[13,4,0,3,2]),(z1aa,[4,0,3,2]),(z1ad,[3,4,2,0]),([0,1,0,0,0,1,1,1,1],[0,4,3,2]),(z1a7,[0,4,3,2]),([0,1,1,1,1],[3,4,2,0]),(ztw,[18,4,2,0]),(zug,[4,2,0]),([0,0,1,0,1,1,1,1,1],[2,0]),([1,0,1,0,1,1,1,1,1],[2,0]),(z14h,[2,0]),(zze,[2,0])]
def E_80 (N:Nat):Env:=z1c tys glob [(94,zfe N),(93,zgm N),(92,z7e N),(55,z1m N),(89,z1n N)] [] [] [0] false [] [(76,z7 N)]
theorem z23d (N:Nat):EnvOk Tryd.prog (E_80 N):=zi mixed zn (FnsOk.cons (zm6 N) (FnsOk.cons (zo9 N) (FnsOk.cons (zdp N) (FnsOk.cons (z1y N) (FnsOk.cons (z1z N) (FnsOk.nil)))))) (ItsOk.cons (za N) (ItsOk.nil))
def za0 (N:Nat)(x2:(List Int))(not_:Bool)(p:DT5)(set_:(List Int))(rec:DT5->(List Int)->Option zis)(k0:DT5->(List Int)->Option zis):Option zis:=(z1b N p 93).bind fun y=>cond (!y.1) ((z46 N y.2.1).bind fun y1=>(zl8 N set_ y1.1).bind fun y2=>rec y1.2.1 y2) (k0 y.2.1 set_)
def zgw (N:Nat)(p:DT5)(x2:(List Int))(not_:Bool)(set_:(List Int))(k0:DT5->(List Int)->Option zis):Option zis:=iter (fun (v:(DT5×(List Int))) r=>za0 N x2 not_ v.1 v.2 (fun p set_=>(r (p,set_))) k0) N (p,set_)
def z204 (N:Nat)(i:((List Int)×Bool))(v:(DT5×(List Int)))(r:(DT5×(List Int))->Option zis)(K:Ex->List A->Option zis):Option zis:=za0 N i.1 i.2 v.1 v.2 (fun p set_=>(r (p,set_))) (fun a0 a3=>(K (.exit 0) (mkS z1mp 17 (a0,i.1,i.2,a3,()))))
def z1vz (N:Nat):Hd zis:=fun st K=>(unS z1mp 17 (restr [0,4,3,2] 0 st)).bind fun x=>iter (fun v r=>z204 N ((fun x=>(x.2.1,x.2.2.1)) x) v r K) N ((fun x=>(x.1,x.2.2.2.1)) x)
def t1_80 (N:Nat):Tab zis:=[]
theorem z1ra {N:Nat}{c:Ctx}(hb:Base Tryd.prog (E_80 N) c):zj Tryd.prog c (zh z11h [0,0,1,1,1,1]) (z1vz N) :=
 zu (s:=z1mp) (m:=17) (z204 N) [0,4,3,2] N (fun x=>(x.2.1,x.2.2.1)) (fun x=>(x.1,x.2.2.2.1)) (fun i v=>(v.1,i.1,i.2,v.2,())) (fun _=>rfl) (zd hb N (t1_80 N) L_80 z11h TabOk.nil [0,0,0,1,1,1,1] _ rfl) (fun i v r K=>by kernel_rfl)
def z56 (N:Nat)(p:DT5):Option zis:=(z1k N p 91).bind fun y=>(z1b N y.2.1 94).bind fun y1=>(z46 N y1.2.1).bind fun y2=>zgw N y2.2.1 ([0,0,0,0]:List Int) y1.1 y2.1 (fun p1 set_=>cond y1.1 ((zig N set_).bind fun y3=>some (y3,(p1,()))) (some (set_,(p1,()))))
def t_80 (N:Nat):Tab zis:=[([0,0,1,1,1,1],z1vz N)]
theorem z1hw (N:Nat)(x:z15 SQ0):z4u (E_80 N) N (t_80 N) L_80 Tryd.f85 (mkS SQ0 0 x) (z3r (.v (.arr 4 (.int .u64))) SQ0 0)=z56 N x.1:=by kernel_rfl
def z5c (N:Nat):List A->Res:=zz SQ0 (fun x=>z56 N x.1) (z4x (.v (.arr 4 (.int .u64))) SQ0 0)
theorem za1 (N:Nat):Contract Tryd.prog glob 85 (z5c N) :=
 Contract.of (E:=E_80 N) (H:=t_80 N) (L:=L_80) (N:=N) (body:=z11h) (K:=(z3r (.v (.arr 4 (.int .u64))) SQ0 0)) (z23d N) Tryd.func85 (by kernel_rfl) (by decide) (fun _ hb=>(TabOk.cons (z1ra hb) TabOk.nil)) (fun x y h=>by rw[z1hw];exact h) (z2s (s:=(.v (.arr 4 (.int .u64)))) (os:=SQ0) (m:=0))
def z11g:Code:=(Tryd.f79.body).getD .skip
def L_81:List (List Nat×List Nat):=[([0],[0,2]),([0,1],[3,0,2]),([0,1,1],[15,0,2,3]),([0,0,1,1,1],[36,0,2,15,3]),([1,0,1,1,1],[2,0]),([0,1,1,0,1,1,1],[40,0,2,15,3]),([1,1,1,0,1,1,1],[2,0]),([0,1,1,1,1,0,1,1,1],[51,0,2,15,3]),([1,1,1,1,1,0,1,1,1],[2,0]),([0,1,1,1,1,1,1,0,1,1,1],[56,0,2,3]),([1,1,1,1,1,1,1,0,1,1,1],[2,0]),([0,0,1,1,1,1,1,1,1,1,0,1,1,1],[18,0,3,2]),([1,0,1,1,1,1,1,1,1,1,0,1,1,1],[0,3,2]),([0,1,0,1,1,1,1,1,1,1,1,0,1,1,1],[0,3,2]),([0,1,1,1,1,1,1,1,1,1,0,1,1,1],[3,2,0]),([0,1,1,1,1,1,1,1,1,1,1,0,1,1,1],[2,0]),([1,1,1,1,1,1,1,1,1,1,1,0,1,1,1],[2,0]),([0,0,1,1,1,1,1,1,1,0,1,1,1],[4,2,0]),([0,1,0,1,1,1,1,1,1,1,0,1,1,1],[2,0]),([1,1,0,1,1,1,1,1,1,1,0,1,1,1],[2,0]),([0,0,1,1,1,1,1,0,1,1,1],[2,0]),([1,0,1,1,1,1,1,0,1,1,1],[2,0]),([0,0,1,1,1,0,1,1,1],[2,0]),([0,1,0,1,1,1,0,1,1,1],[2,0]),([1,1,0,1,1,1,0,1,1,1],[2,0]),(zzc,[2,0]),(z12k,[2,0]),([1,1,1],[2,0])]
def E_81 (N:Nat)(self:z8):Env:=z1c tys glob [(85,z5c N),(86,z2w N),(87,z3e N),(84,zi0 N),(41,z3c N),(83,z6w N self),(36,zz SQ0 (fun x=>self x.1) (z4x (.v TT4) SQ0 0))] [] [] [0] false [] [(76,z7 N)]
theorem z23c (N:Nat)(self:z8)(hself:Contract Tryd.prog glob 36 (zz SQ0 (fun x=>self x.1) (z4x (.v TT4) SQ0 0))):EnvOk Tryd.prog (E_81 N self):=zi mixed zn (FnsOk.cons (za1 N) (FnsOk.cons (z4r N) (FnsOk.cons (z5m N) (FnsOk.cons (zpv N) (FnsOk.cons (z42 N) (FnsOk.cons (zcm N self hself) (FnsOk.cons (hself) (FnsOk.nil)))))))) (ItsOk.cons (za N) (ItsOk.nil))
def zdq (N:Nat)(self:z8)(p:DT5)(x2:DT7)(b:Int)(k0:Option (DT7×(DT5×Unit))):Option (DT7×(DT5×Unit)):=cond (decide (0<=(Go.Lib.indexByte ([(92:UInt8),(46:UInt8),(91:UInt8),(93:UInt8),(40:UInt8),(41:UInt8),(123:UInt8),(125:UInt8),(124:UInt8),(42:UInt8),(43:UInt8),(63:UInt8)]:List UInt8) (Nat.toUInt8 (Int.toNat b))))) none k0
def z203 (N:Nat)(self:z8)(x:z15 z1f9)(K:Ex->List A->Option (DT7×(DT5×Unit))):Option (DT7×(DT5×Unit)):=zdq N self x.1 x.2.1 x.2.2.1 (K .normal (mkS z1f9 61 (x.1,x.2.1,x.2.2.1,())))
def z1vy (N:Nat)(self:z8):Hd (DT7×(DT5×Unit)):=fun st K=>(unS z1f9 61 (restr [3,0,2] 0 st)).bind fun x=>z203 N self x K
def t1_81 (N:Nat)(self:z8):Tab (DT7×(DT5×Unit)):=[]
theorem z1r9 {N:Nat}{self:z8}{c:Ctx}(hb:Base Tryd.prog (E_81 N self) c):zj Tryd.prog c (zh z11g z1ms) (z1vy N self) :=
 zk (s:=z1f9) (m:=61) (g:=z203 N self) [3,0,2] (zd hb N (t1_81 N self) L_81 z11g TabOk.nil z1ms _ rfl) (fun x K=>by kernel_rfl)
def z7t (N:Nat)(self:z8)(p:DT5):Option (DT7×(DT5×Unit)):=cond (inR p.2.1 (List.length p.1)) (cond ((UInt8.toNat (List.getD p.1 (Int.toNat p.2.1) (0:UInt8)):Int) == 40) ((z73 N self p).bind fun y=>some (y.1,(y.2.1,()))) (cond ((UInt8.toNat (List.getD p.1 (Int.toNat p.2.1) (0:UInt8)):Int) == 46) ((z2r N 0 255).bind fun y1=>some ((1,(y1,([],(0,(0,()))))),((p.1,((IntKind.wrap IntKind.i64 (p.2.1+1)),p.2.2)),()))) (cond ((UInt8.toNat (List.getD p.1 (Int.toNat p.2.1) (0:UInt8)):Int) == 91) ((z56 N p).bind fun y2=>some ((1,(y2.1,([],(0,(0,()))))),(y2.2.1,()))) (cond ((UInt8.toNat (List.getD p.1 (Int.toNat p.2.1) (0:UInt8)):Int) == 92) ((z36 N p).bind fun y3=>some ((1,(y3.1.1,([],(0,(0,()))))),(y3.2.1,()))) (zdq N self p (0,(([0,0,0,0]:List Int),([],(0,(0,()))))) (UInt8.toNat (List.getD p.1 (Int.toNat p.2.1) (0:UInt8)):Int) ((z2r N (UInt8.toNat (List.getD p.1 (Int.toNat p.2.1) (0:UInt8)):Int) (UInt8.toNat (List.getD p.1 (Int.toNat p.2.1) (0:UInt8)):Int)).bind fun y4=>some ((1,(y4,([],(0,(0,()))))),((p.1,((IntKind.wrap IntKind.i64 (p.2.1+1)),p.2.2)),())))))))) none
def t_81 (N:Nat)(self:z8):Tab (DT7×(DT5×Unit)):=[(z1ms,z1vy N self)]
theorem z1hv (N:Nat)(self:z8)(x:z15 SQ0):z4u (E_81 N self) N (t_81 N self) L_81 Tryd.f79 (mkS SQ0 0 x) (z3r (.v TT4) SQ0 0)=z7t N self x.1:=by kernel_rfl
def z7h (N:Nat)(self:z8):List A->Res:=zz SQ0 (fun x=>z7t N self x.1) (z4x (.v TT4) SQ0 0)
theorem zdr (N:Nat)(self:z8)(hself:Contract Tryd.prog glob 36 (zz SQ0 (fun x=>self x.1) (z4x (.v TT4) SQ0 0))):Contract Tryd.prog glob 79 (z7h N self) :=
 Contract.of (E:=E_81 N self) (H:=t_81 N self) (L:=L_81) (N:=N) (body:=z11g) (K:=(z3r (.v TT4) SQ0 0)) (z23c N self hself) Tryd.func79 (by kernel_rfl) (by decide) (fun _ hb=>(TabOk.cons (z1r9 hb) TabOk.nil)) (fun x y h=>by rw[z1hv];exact h) (z2s (s:=(.v TT4)) (os:=SQ0) (m:=0))
def zc6:Code:=(Tryd.f88.body).getD .skip
def z1fg:List (List Nat×List Nat):=[([0],[0]),([0,1],[0,3]),([0,0,1,1],[12,0,3]),([1,0,1,1],[0,3]),([0,1,0,1,1],[0,3]),([0,1,1,1],[0,4,3]),([0,0,1,1,1,1],[0,4,3]),(z1ab,[37,4,0,3]),(z1aa,[4,0,3]),(z1ad,[0,3,4]),([0,0,1,0,0,0,1,1,1,1],[0,4,3]),([1,0,1,0,0,0,1,1,1,1],[0,4,3]),(z1a7,[0,4,3]),([0,1,1,1,1],[0,3,4]),(ztw,[75,0,3,4]),(zug,[4,0,3]),(zx5,[4,0,3]),([0,0,1,1,1,1,1,1],[80,0,3,4]),([1,0,1,1,1,1,1,1],[4,0]),(z1a9,[4,0]),(z16u,[2,0]),(zzf,[2,0])]
def z1dq (N:Nat):Env:=z1c tys glob [(99,z7j N),(95,z18 N)] [] [] [0] false [] [(76,z7 N)]
theorem z23b (N:Nat):EnvOk Tryd.prog (z1dq N):=zi mixed zn (FnsOk.cons (zc8 N) (FnsOk.cons (z1h N) (FnsOk.nil))) (ItsOk.cons (za N) (ItsOk.nil))
def zeu (N:Nat)(p:DT5)(from_:Int)(k0:DT5->Option (Int×(DT5×Unit))):Option (Int×(DT5×Unit)):=(z1j N p).bind fun y=>(z7k N y.1).bind fun y1=>cond (!y1) none (k0 y.2.1)
def z202 (N:Nat)(x:z15 z1f8)(K:Ex->List A->Option (Int×(DT5×Unit))):Option (Int×(DT5×Unit)):=zeu N x.1 x.2.1 (fun a0=>(K .normal (mkS z1f8 81 (a0,x.2.1,()))))
def z1vx (N:Nat):Hd (Int×(DT5×Unit)):=fun st K=>(unS z1f8 81 (restr [0,3] 0 st)).bind fun x=>z202 N x K
def t1_82 (N:Nat):Tab (Int×(DT5×Unit)):=[]
theorem z1r8 {N:Nat}{c:Ctx}(hb:Base Tryd.prog (z1dq N) c):zj Tryd.prog c (zh zc6 [0,1,1]) (z1vx N) :=
 zk (s:=z1f8) (m:=81) (g:=z202 N) [0,3] (zd hb N (t1_82 N) z1fg zc6 TabOk.nil [0,1,1] _ rfl) (fun x K=>by kernel_rfl)
def zes (N:Nat)(p:DT5)(from_:Int)(n:Int)(k0:Option (Int×(DT5×Unit)))(k1:Option (Int×(DT5×Unit))):Option (Int×(DT5×Unit)):=cond (decide (p.2.1<(List.length p.1:Int))) (cond (inR p.2.1 (List.length p.1)) ((z7k N (UInt8.toNat (List.getD p.1 (Int.toNat p.2.1) (0:UInt8)):Int)).bind fun y=>cond y k0 k1) none) k1
def z1xv (N:Nat)(x:z15 SQ1)(K:Ex->List A->Option (Int×(DT5×Unit))):Option (Int×(DT5×Unit)):=zes N x.1 x.2.1 x.2.2.1 (K .normal (mkS SQ1 80 (x.1,x.2.1,x.2.2.1,()))) (K (.exit 0) (mkS SQ1 80 (x.1,x.2.1,x.2.2.1,())))
def z1tq (N:Nat):Hd (Int×(DT5×Unit)):=fun st K=>(unS SQ1 80 (restr [0,4,3] 0 st)).bind fun x=>z1xv N x K
def t4_82 (N:Nat):Tab (Int×(DT5×Unit)):=[]
theorem z1p1 {N:Nat}{c:Ctx}(hb:Base Tryd.prog (z1dq N) c):zj Tryd.prog c (zh zc6 z168) (z1tq N) :=
 zk (s:=SQ1) (m:=80) (g:=z1xv N) [0,4,3] (zd hb N (t4_82 N) z1fg zc6 TabOk.nil z168 _ rfl) (fun x K=>by kernel_rfl)
def zeo (N:Nat)(from_:Int)(p:DT5)(n:Int)(rec:DT5->Int->Option (Int×(DT5×Unit)))(k0:DT5->Int->Option (Int×(DT5×Unit))):Option (Int×(DT5×Unit)):=zes N p from_ n (cond (inR p.2.1 (List.length p.1)) (rec (p.1,((IntKind.wrap IntKind.i64 (p.2.1+1)),p.2.2)) (if (17<(IntKind.wrap IntKind.i64 ((IntKind.wrap IntKind.i64 (10*n))+(IntKind.wrap IntKind.i64 (IntKind.wrap IntKind.u8 ((UInt8.toNat (List.getD p.1 (Int.toNat p.2.1) (0:UInt8)):Int) - 48)))))) then 17 else (IntKind.wrap IntKind.i64 ((IntKind.wrap IntKind.i64 (10*n))+(IntKind.wrap IntKind.i64 (IntKind.wrap IntKind.u8 ((UInt8.toNat (List.getD p.1 (Int.toNat p.2.1) (0:UInt8)):Int) - 48))))))) none) (k0 p n)
def zmh (N:Nat)(p:DT5)(from_:Int)(n:Int)(k0:DT5->Int->Option (Int×(DT5×Unit))):Option (Int×(DT5×Unit)):=iter (fun (v:(DT5×Int)) r=>zeo N from_ v.1 v.2 (fun p n=>(r (p,n))) k0) N (p,n)
def z1y8 (N:Nat)(i:Int)(v:(DT5×Int))(r:(DT5×Int)->Option (Int×(DT5×Unit)))(K:Ex->List A->Option (Int×(DT5×Unit))):Option (Int×(DT5×Unit)):=zeo N i v.1 v.2 (fun p n=>(r (p,n))) (fun a0 a2=>(K (.exit 0) (mkS SQ1 80 (a0,i,a2,()))))
def z1u3 (N:Nat):Hd (Int×(DT5×Unit)):=fun st K=>(unS SQ1 80 (restr [0,4,3] 0 st)).bind fun x=>iter (fun v r=>z1y8 N ((fun x=>x.2.1) x) v r K) N ((fun x=>(x.1,x.2.2.1)) x)
def t3_82 (N:Nat):Tab (Int×(DT5×Unit)):=[(z168,z1tq N)]
theorem z1pe {N:Nat}{c:Ctx}(hb:Base Tryd.prog (z1dq N) c):zj Tryd.prog c (zh zc6 [0,0,1,1,1,1]) (z1u3 N) :=
 zu (s:=SQ1) (m:=80) (z1y8 N) [0,4,3] N (fun x=>x.2.1) (fun x=>(x.1,x.2.2.1)) (fun i v=>(v.1,i,v.2,())) (fun _=>rfl) (zd hb N (t3_82 N) z1fg zc6 (TabOk.cons (z1p1 hb) TabOk.nil) [0,0,0,1,1,1,1] _ rfl) (fun i v r K=>by kernel_rfl)
def zet (N:Nat)(p:DT5)(from_:Int)(n:Int)(k0:DT5->Int->Option (Int×(DT5×Unit))):Option (Int×(DT5×Unit)):=zmh N p from_ n (fun p1 n1=>k0 p1 n1)
def z1yw (N:Nat)(x:z15 SQ1)(K:Ex->List A->Option (Int×(DT5×Unit))):Option (Int×(DT5×Unit)):=zet N x.1 x.2.1 x.2.2.1 (fun a0 a2=>(K .normal (mkS SQ1 80 (a0,x.2.1,a2,()))))
def z1ur (N:Nat):Hd (Int×(DT5×Unit)):=fun st K=>(unS SQ1 80 (restr [0,4,3] 0 st)).bind fun x=>z1yw N x K
def t2_82 (N:Nat):Tab (Int×(DT5×Unit)):=[([0,0,1,1,1,1],z1u3 N)]
theorem z1q2 {N:Nat}{c:Ctx}(hb:Base Tryd.prog (z1dq N) c):zj Tryd.prog c (zh zc6 [0,1,1,1,1]) (z1ur N) :=
 zk (s:=SQ1) (m:=80) (g:=z1yw N) [0,4,3] (zd hb N (t2_82 N) z1fg zc6 (TabOk.cons (z1pe hb) TabOk.nil) [0,1,1,1,1] _ rfl) (fun x K=>by kernel_rfl)
def zep (N:Nat)(p:DT5)(from_:Int)(n:Int)(k0:Bool->Option (Int×(DT5×Unit))):Option (Int×(DT5×Unit)):=cond (inR from_ (List.length p.1)) (cond ((UInt8.toNat (List.getD p.1 (Int.toNat from_) (0:UInt8)):Int) == 48) (k0 (decide ((IntKind.wrap IntKind.i64 (from_+1))<p.2.1))) (k0 false)) none
def z1xk (N:Nat)(x:z15 SQ1)(K:Ex->List A->Option (Int×(DT5×Unit))):Option (Int×(DT5×Unit)):=zep N x.1 x.2.1 x.2.2.1 (fun a3=>(K .normal (mkS z21x 9 (x.1,x.2.1,x.2.2.1,a3,()))))
def z1tf (N:Nat):Hd (Int×(DT5×Unit)):=fun st K=>(unS SQ1 80 (restr [0,3,4] 0 st)).bind fun x=>z1xk N x K
def t6_82 (N:Nat):Tab (Int×(DT5×Unit)):=[]
theorem z1oq {N:Nat}{c:Ctx}(hb:Base Tryd.prog (z1dq N) c):zj Tryd.prog c (zh zc6 ztw) (z1tf N) :=
 zk (s:=SQ1) (m:=80) (g:=z1xk N) [0,3,4] (zd hb N (t6_82 N) z1fg zc6 TabOk.nil ztw _ rfl) (fun x K=>by kernel_rfl)
def zer (N:Nat)(p:DT5)(from_:Int)(n:Int)(k0:Option (Int×(DT5×Unit))):Option (Int×(DT5×Unit)):=zep N p from_ n (fun x75=>cond x75 none k0)
def z1xo (N:Nat)(x:z15 SQ1)(K:Ex->List A->Option (Int×(DT5×Unit))):Option (Int×(DT5×Unit)):=zer N x.1 x.2.1 x.2.2.1 (K .normal (mkS SQ1 80 (x.1,x.2.1,x.2.2.1,())))
def z1tj (N:Nat):Hd (Int×(DT5×Unit)):=fun st K=>(unS SQ1 80 (restr [0,3,4] 0 st)).bind fun x=>z1xo N x K
def t5_82 (N:Nat):Tab (Int×(DT5×Unit)):=[(ztw,z1tf N)]
theorem z1ou {N:Nat}{c:Ctx}(hb:Base Tryd.prog (z1dq N) c):zj Tryd.prog c (zh zc6 [0,1,1,1,1,1]) (z1tj N) :=
 zk (s:=SQ1) (m:=80) (g:=z1xo N) [0,3,4] (zd hb N (t5_82 N) z1fg zc6 (TabOk.cons (z1oq hb) TabOk.nil) [0,1,1,1,1,1] _ rfl) (fun x K=>by kernel_rfl)
def z4z (N:Nat)(p:DT5):Option (Int×(DT5×Unit)):=zeu N p p.2.1 (fun p1=>zet N p1 p.2.1 0 (fun p2 n=>zer N p2 p.2.1 n (cond (decide (16<n)) none (some (n,(p2,()))))))
def t_82 (N:Nat):Tab (Int×(DT5×Unit)):=[([0,1,1],z1vx N),([0,1,1,1,1],z1ur N),([0,1,1,1,1,1],z1tj N)]
theorem z1hu (N:Nat)(x:z15 SQ0):z4u (z1dq N) N (t_82 N) z1fg Tryd.f88 (mkS SQ0 0 x) (z3r (.v (.int .i64)) SQ0 0)=z4z N x.1:=by kernel_rfl
def z8f (N:Nat):List A->Res:=zz SQ0 (fun x=>z4z N x.1) (z4x (.v (.int .i64)) SQ0 0)
theorem zev (N:Nat):Contract Tryd.prog glob 88 (z8f N) :=
 Contract.of (E:=z1dq N) (H:=t_82 N) (L:=z1fg) (N:=N) (body:=zc6) (K:=(z3r (.v (.int .i64)) SQ0 0)) (z23b N) Tryd.func88 (by kernel_rfl) (by decide) (fun _ hb=>(TabOk.cons (z1r8 hb) (TabOk.cons (z1q2 hb) (TabOk.cons (z1ou hb) TabOk.nil)))) (fun x y h=>by rw[z1hu];exact h) (z2s (s:=(.v (.int .i64))) (os:=SQ0) (m:=0))
def zte:Code:=(Tryd.f80.body).getD .skip
def L_83:List (List Nat×List Nat):=[([0],[0]),([0,1],[0,4]),([0,1,1],[2,0,4]),([0,1,1,1],[0,2,3,4]),([0,0,1,1,1,1],[13,0,2,3,4]),([1,0,1,1,1,1],[3,2,0,4]),([0,0,0,1,0,1,1,1,1],[15,2,0]),([1,0,0,1,0,1,1,1,1],[0,2]),([0,0,1,0,0,1,0,1,1,1,1],[2,3,0]),(z1db,[2,3,0]),([0,1,0,1,0,1,1,1,1],[0,2,4]),([1,1,0,1,0,1,1,1,1],[3,2,0,4]),(ztw,[26,0,4,2,3]),(zug,[0,2,3]),(zx5,[0,2,3]),(z14h,[2,3,0]),(z16u,[2,3,0]),(zzf,[2,3,0])]
def z25b (N:Nat):Env:=z1c tys glob [(88,z8f N),(55,z1m N),(89,z1n N)] [] [] [0] false [] [(76,z7 N)]
theorem z23a (N:Nat):EnvOk Tryd.prog (z25b N):=zi mixed zn (FnsOk.cons (zev N) (FnsOk.cons (z1y N) (FnsOk.cons (z1z N) (FnsOk.nil)))) (ItsOk.cons (za N) (ItsOk.nil))
def zbc (N:Nat)(p:DT5)(low:Int)(high:Int)(from_:Int)(k0:DT5->Int->Option ((Int×Int×Unit)×(DT5×Unit)))(k1:DT5->Int->Int->Option ((Int×Int×Unit)×(DT5×Unit))):Option ((Int×Int×Unit)×(DT5×Unit)):=(z1b N p 44).bind fun y=>cond y.1 ((z1b N y.2.1 125).bind fun y1=>cond y1.1 (k0 y1.2.1 (-1)) ((z4z N y1.2.1).bind fun y2=>k1 y2.2.1 y2.1 y1.2.1.2.1)) (k1 y.2.1 high from_)
def z201 (N:Nat)(x:z15 SQ8)(K:Ex->List A->Option ((Int×Int×Unit)×(DT5×Unit))):Option ((Int×Int×Unit)×(DT5×Unit)):=zbc N x.1 x.2.1 x.2.2.1 x.2.2.2.1 (fun a0 a2=>(K .ret (mkS SQ78 30 (a0,x.2.1,a2,())))) (fun a0 a2 a3=>(K .normal (mkS SQ8 29 (a0,x.2.1,a2,a3,()))))
def z1vw (N:Nat):Hd ((Int×Int×Unit)×(DT5×Unit)):=fun st K=>(unS SQ8 29 (restr [0,2,3,4] 0 st)).bind fun x=>z201 N x K
def t1_83 (N:Nat):Tab ((Int×Int×Unit)×(DT5×Unit)):=[]
theorem z1r7 {N:Nat}{c:Ctx}(hb:Base Tryd.prog (z25b N) c):zj Tryd.prog c (zh zte [0,1,1,1,1]) (z1vw N) :=
 zk (s:=SQ8) (m:=29) (g:=z201 N) [0,2,3,4] (zd hb N (t1_83 N) L_83 zte TabOk.nil [0,1,1,1,1] _ rfl) (fun x K=>by kernel_rfl)
def zbb (N:Nat)(p:DT5)(low:Int)(high:Int)(from_:Int)(k0:Option ((Int×Int×Unit)×(DT5×Unit))):Option ((Int×Int×Unit)×(DT5×Unit)):=cond (decide (high<(if (1 > low) then 1 else low))) none k0
def z1yv (N:Nat)(x:z15 SQ8)(K:Ex->List A->Option ((Int×Int×Unit)×(DT5×Unit))):Option ((Int×Int×Unit)×(DT5×Unit)):=zbb N x.1 x.2.1 x.2.2.1 x.2.2.2.1 (K .normal (mkS SQ78 30 (x.1,x.2.1,x.2.2.1,())))
def z1uq (N:Nat):Hd ((Int×Int×Unit)×(DT5×Unit)):=fun st K=>(unS SQ8 29 (restr [3,2,0,4] 0 st)).bind fun x=>z1yv N x K
def t2_83 (N:Nat):Tab ((Int×Int×Unit)×(DT5×Unit)):=[]
theorem z1q1 {N:Nat}{c:Ctx}(hb:Base Tryd.prog (z25b N) c):zj Tryd.prog c (zh zte [0,1,1,1,1,1]) (z1uq N) :=
 zk (s:=SQ8) (m:=29) (g:=z1yv N) [3,2,0,4] (zd hb N (t2_83 N) L_83 zte TabOk.nil [0,1,1,1,1,1] _ rfl) (fun x K=>by kernel_rfl)
def z6b (N:Nat)(p:DT5):Option ((Int×Int×Unit)×(DT5×Unit)):=(z4z N p).bind fun y=>zbc N y.2.1 y.1 y.1 p.2.1 (fun p1 high=>some ((y.1,(high,())),(p1,()))) (fun p2 high1 from_=>zbb N p2 y.1 high1 from_ ((z1k N p2 125).bind fun y1=>some ((y.1,(high1,())),(y1.2.1,()))))
def t_83 (N:Nat):Tab ((Int×Int×Unit)×(DT5×Unit)):=[([0,1,1,1,1],z1vw N),([0,1,1,1,1,1],z1uq N)]
theorem z1ht (N:Nat)(x:z15 SQ0):z4u (z25b N) N (t_83 N) L_83 Tryd.f80 (mkS SQ0 0 x) (z3r (.tup [(.int .i64),(.int .i64)]) SQ0 0)=z6b N x.1:=by kernel_rfl
def z69 (N:Nat):List A->Res:=zz SQ0 (fun x=>z6b N x.1) (z4x (.tup [(.int .i64),(.int .i64)]) SQ0 0)
theorem zbd (N:Nat):Contract Tryd.prog glob 80 (z69 N) :=
 Contract.of (E:=z25b N) (H:=t_83 N) (L:=L_83) (N:=N) (body:=zte) (K:=(z3r (.tup [(.int .i64),(.int .i64)]) SQ0 0)) (z23a N) Tryd.func80 (by kernel_rfl) (by decide) (fun _ hb=>(TabOk.cons (z1r7 hb) (TabOk.cons (z1q1 hb) TabOk.nil))) (fun x y h=>by rw[z1ht];exact h) (z2s (s:=(.tup [(.int .i64),(.int .i64)])) (os:=SQ0) (m:=0))
def z11f:Code:=(Tryd.f71.body).getD .skip
def L_84:List (List Nat×List Nat):=[([0],[0,2]),([0,1],[0,3,2]),([0,0,1,1],[16,3,2,0]),([1,0,1,1],[3,0,2]),([0,0,1,0,1,1],[2,0]),([1,0,1,0,1,1],[2,0]),([0,1,1,1],[0,4,2,3]),([0,0,1,1,1,1],[29,4,0,2,3]),([0,0,0,0,0,0,0,0,0,0,0,0,0,0,1,0,1,1,1,1],[30,4,0,2,29,3]),([1,0,0,0,0,0,0,0,0,0,0,0,0,0,1,0,1,1,1,1],[29,0,4,2,3]),([0,1,0,0,0,0,0,0,0,0,0,0,0,0,0,1,0,1,1,1,1],[4,0,2]),([0,0,1,0,0,0,0,0,0,0,0,0,0,0,0,1,0,1,1,1,1],[32,0,4,2,29,3]),([1,0,1,0,0,0,0,0,0,0,0,0,0,0,0,1,0,1,1,1,1],[29,0,4,2,3]),([0,1,0,1,0,0,0,0,0,0,0,0,0,0,0,0,1,0,1,1,1,1],[0,4,2]),([0,0,1,1,0,0,0,0,0,0,0,0,0,0,0,0,1,0,1,1,1,1],[34,0,4,2,29,3]),([1,0,1,1,0,0,0,0,0,0,0,0,0,0,0,0,1,0,1,1,1,1],[29,0,4,2,3]),([0,1,0,1,1,0,0,0,0,0,0,0,0,0,0,0,0,1,0,1,1,1,1],[0,4,2]),([0,1,1,1,0,0,0,0,0,0,0,0,0,0,0,0,1,0,1,1,1,1],[36,0,4,2,3]),([1,1,1,1,0,0,0,0,0,0,0,0,0,0,0,0,1,0,1,1,1,1],[3,2,0]),([0,1,1,1,1,0,0,0,0,0,0,0,0,0,0,0,0,1,0,1,1,1,1],[0,4,2]),([1,0,0,0,0,0,0,0,0,0,0,0,1,0,1,1,1,1],[3,2,0]),([0,0,0,0,0,0,0,0,0,0,1,0,1,1,1,1],[4,0,2]),([1,0,0,0,0,0,0,0,0,0,1,0,1,1,1,1],[0,4,2]),(z1fd,[0,4,2]),([0,1,0,0,0,0,0,0,0,1,0,1,1,1,1],[4,2,0]),([1,1,0,0,0,0,0,0,0,1,0,1,1,1,1],[4,2,0]),([0,0,0,0,0,0,1,0,1,1,1,1],[0,4,2]),([0,0,1,0,0,0,0,0,1,0,1,1,1,1],[4,2,0]),([1,0,1,0,0,0,0,0,1,0,1,1,1,1],[4,2,0]),([1,1,0,0,0,0,0,1,0,1,1,1,1],[4,2,0]),([0,0,0,0,1,0,1,1,1,1],[0,4,2]),([0,0,1,0,0,0,1,0,1,1,1,1],[0,4,2]),([1,0,1,0,0,0,1,0,1,1,1,1],[4,2,0]),([1,1,0,0,0,1,0,1,1,1,1],[4,2,0]),(z16d,[3,2,0]),([0,0,1,0,1,0,1,1,1,1],[2,0]),([1,0,1,0,1,0,1,1,1,1],[2,0]),([1,1,0,1,0,1,1,1,1],[4,2,0]),([1,0,1,1,1,1],[4,2,0]),([0,1,1,1,1,1],[2,0]),([1,1,1,1,1,1],[2,0])]
def E_84 (N:Nat)(self:z8):Env:=z1c tys glob [(80,z69 N),(79,z7h N self),(36,zz SQ0 (fun x=>self x.1) (z4x (.v TT4) SQ0 0))] [] [] [0] false [] [(76,z7 N)]
theorem z239 (N:Nat)(self:z8)(hself:Contract Tryd.prog glob 36 (zz SQ0 (fun x=>self x.1) (z4x (.v TT4) SQ0 0))):EnvOk Tryd.prog (E_84 N self):=zi mixed zn (FnsOk.cons (zbd N) (FnsOk.cons (zdr N self hself) (FnsOk.cons (hself) (FnsOk.nil)))) (ItsOk.cons (za N) (ItsOk.nil))
def zcj (N:Nat)(self:z8)(p:DT5)(x2:DT7)(kid:DT7)(rep:DT7)(x29:Int)(k0:DT7->Option (DT7×(DT5×Unit)))(k1:Option (DT7×(DT5×Unit)))(k2:Option (DT7×(DT5×Unit)))(k3:Option (DT7×(DT5×Unit))):Option (DT7×(DT5×Unit)):=cond (x29 == 43) (k0 (rep.1,(rep.2.1,(rep.2.2.1,(1,rep.2.2.2.2))))) (cond (x29 == 42) (k0 rep) (cond (x29 == 63) k1 (cond (x29 == 123) k2 k3)))
def z200 (N:Nat)(self:z8)(x:z15 z1ml)(K:Ex->List A->Option (DT7×(DT5×Unit))):Option (DT7×(DT5×Unit)):=zcj N self x.1 x.2.1 x.2.2.1 x.2.2.2.1 x.2.2.2.2.1 (fun a2=>(K .normal (mkS z1mi 65 (x.1,x.2.1,a2,())))) (K (.exit 3) (mkS z1mi 65 (x.1,x.2.1,x.2.2.2.1,()))) (K (.exit 4) (mkS z1mi 65 (x.1,x.2.1,x.2.2.2.1,()))) (K (.exit 5) (mkS [(0,.box (.pair .str TT1)),(1,.box TT4),(0,.box TT4)] 66 (x.1,x.2.1,x.2.2.1,())))
def z1vv (N:Nat)(self:z8):Hd (DT7×(DT5×Unit)):=fun st K=>(unS z1ml 40 (restr [29,4,0,2,3] 0 st)).bind fun x=>z200 N self x K
def t1_84 (N:Nat)(self:z8):Tab (DT7×(DT5×Unit)):=[]
theorem z1r6 {N:Nat}{self:z8}{c:Ctx}(hb:Base Tryd.prog (E_84 N self) c):zj Tryd.prog c (zh z11f z1fd) (z1vv N self) :=
 zk (s:=z1ml) (m:=40) (g:=z200 N self) [29,4,0,2,3] (zd hb N (t1_84 N self) L_84 z11f TabOk.nil z1fd _ rfl) (fun x K=>by kernel_rfl)
def z72 (N:Nat)(self:z8)(p:DT5):Option (DT7×(DT5×Unit)):=(z7t N self p).bind fun y=>cond (y.2.1.2.1 == (List.length y.2.1.1:Int)) (some (y.1,(y.2.1,()))) (cond (inR y.2.1.2.1 (List.length y.2.1.1)) (zcj N self y.2.1 (0,(([0,0,0,0]:List Int),([],(0,(0,()))))) y.1 (4,(([0,0,0,0]:List Int),((List.map foN ([y.1]:List z14j)),(0,((-1),()))))) (UInt8.toNat (List.getD y.2.1.1 (Int.toNat y.2.1.2.1) (0:UInt8)):Int) (fun rep=>some (rep,((y.2.1.1,((IntKind.wrap IntKind.i64 (y.2.1.2.1+1)),y.2.1.2.2)),()))) (some ((4,(([0,0,0,0]:List Int),((List.map foN ([y.1]:List z14j)),(0,(1,()))))),((y.2.1.1,((IntKind.wrap IntKind.i64 (y.2.1.2.1+1)),y.2.1.2.2)),()))) ((z6b N (y.2.1.1,((IntKind.wrap IntKind.i64 (y.2.1.2.1+1)),y.2.1.2.2))).bind fun y1=>some ((4,(([0,0,0,0]:List Int),((List.map foN ([y.1]:List z14j)),(y1.1.1,(y1.1.2.1,()))))),(y1.2.1,()))) (some (y.1,(y.2.1,())))) none)
def t_84 (N:Nat)(self:z8):Tab (DT7×(DT5×Unit)):=[(z1fd,z1vv N self)]
theorem z1hs (N:Nat)(self:z8)(x:z15 SQ0):z4u (E_84 N self) N (t_84 N self) L_84 Tryd.f71 (mkS SQ0 0 x) (z3r (.v TT4) SQ0 0)=z72 N self x.1:=by kernel_rfl
def z6u (N:Nat)(self:z8):List A->Res:=zz SQ0 (fun x=>z72 N self x.1) (z4x (.v TT4) SQ0 0)
theorem zck (N:Nat)(self:z8)(hself:Contract Tryd.prog glob 36 (zz SQ0 (fun x=>self x.1) (z4x (.v TT4) SQ0 0))):Contract Tryd.prog glob 71 (z6u N self) :=
 Contract.of (E:=E_84 N self) (H:=t_84 N self) (L:=L_84) (N:=N) (body:=z11f) (K:=(z3r (.v TT4) SQ0 0)) (z239 N self hself) Tryd.func71 (by kernel_rfl) (by decide) (fun _ hb=>(TabOk.cons (z1r6 hb) TabOk.nil)) (fun x y h=>by rw[z1hs];exact h) (z2s (s:=(.v TT4)) (os:=SQ0) (m:=0))
def z11e:Code:=(Tryd.f56.body).getD .skip
def L_85:List (List Nat×List Nat):=[([0],[1,0,4]),([0,1],[1,0,5,4]),([0,0,1,1],[10,9,8,0,5,4]),([0,1,0,1,1],[10,9,8,0,5,4]),(z14g,[11,8,10,0,5,9,4]),(zqy,[8,10,0,5,9,4]),(z1a5,[5,4,0]),(z1a6,[7,0,5,10,9,8,4]),(z1ao,[17,5,7,10,9,8,0,4]),(z1dh,[10,9,8,0,5,4]),([1,1,1,0,0,1,1,0,0,1,0,1,1],[10,9,8,0,5,4]),([0,1,1,0,0,1,1,0,0,1,0,1,1],[10,9,8,0,5,4]),(z1a4,[10,9,8,0,5,4]),(z1a3,[10,9,8,0,5,4]),([1,0,1,1],[5,4,0]),([0,0,1,1,1],[29,5,4,0]),([1,0,1,1,1],[0,5,4]),(zzc,[4]),(z12k,[4]),([0,1,1,1,1],[4]),([1,1,1,1,1],[4])]
def E_85 (N:Nat):Env:=z1c tys glob [] [(5,TT4)] [] [] false [] [(76,z7 N)]
theorem z238 (N:Nat):EnvOk Tryd.prog (E_85 N):=zi mixed zn (FnsOk.nil) (ItsOk.cons (za N) (ItsOk.nil))
def znl (N:Nat)(kind:Int)(x4:DT7)(x8:(List Tree))(x9:Int)(kids:(List DT7))(x10:Int)(rec:(List DT7)->Int->Option DT7)(k0:(List DT7)->Option DT7):Option DT7:=cond (decide (x10<x9)) (cond (inR x10 (List.length x8)) (cond ((unN (List.getD x8 (Int.toNat x10) (Tree.mk 0 [] [] 0 0))).1 == kind) (cond (decide ((((List.length kids)+(List.length (List.map unN (unN (List.getD x8 (Int.toNat x10) (Tree.mk 0 [] [] 0 0))).2.2.1)))*80)<=70368744177664)) (rec (kids++(List.map unN (unN (List.getD x8 (Int.toNat x10) (Tree.mk 0 [] [] 0 0))).2.2.1)) (IntKind.wrap IntKind.i64 (x10+1))) none) (cond (decide ((((List.length kids)+1)*80)<=70368744177664)) (rec (kids++([(unN (List.getD x8 (Int.toNat x10) (Tree.mk 0 [] [] 0 0)))]:List z14j)) (IntKind.wrap IntKind.i64 (x10+1))) none)) none) (k0 kids)
def zw3 (N:Nat)(kind:Int)(x4:DT7)(kids:(List DT7))(x8:(List Tree))(x9:Int)(x10:Int)(k0:(List DT7)->Option DT7):Option DT7:=iter (fun (v:((List DT7)×Int)) r=>znl N kind x4 x8 x9 v.1 v.2 (fun kids x10=>(r (kids,x10))) k0) N (kids,x10)
def z1zz (N:Nat)(i:(Int×DT7×(List Tree)×Int))(v:((List DT7)×Int))(r:((List DT7)×Int)->Option DT7)(K:Ex->List A->Option DT7):Option DT7:=znl N i.1 i.2.1 i.2.2.1 i.2.2.2 v.1 v.2 (fun kids x10=>(r (kids,x10))) (fun a2=>(K (.exit 0) (mkS [(0,.v (.int .i64)),(3,.box TT4),(0,.row TT4)] 30 (i.1,i.2.1,a2,()))))
def z1vu (N:Nat):Hd DT7:=fun st K=>(unS z22g 25 (restr [10,9,8,0,5,4] 0 st)).bind fun x=>iter (fun v r=>z1zz N ((fun x=>(x.1,x.2.1,x.2.2.2.1,x.2.2.2.2.1)) x) v r K) N ((fun x=>(x.2.2.1,x.2.2.2.2.2.1)) x)
def t1_85 (N:Nat):Tab DT7:=[]
theorem z1r5 {N:Nat}{c:Ctx}(hb:Base Tryd.prog (E_85 N) c):zj Tryd.prog c (zh z11e [0,1,0,1,1]) (z1vu N) :=
 zu (s:=z22g) (m:=25) (z1zz N) [10,9,8,0,5,4] N (fun x=>(x.1,x.2.1,x.2.2.2.1,x.2.2.2.2.1)) (fun x=>(x.2.2.1,x.2.2.2.2.2.1)) (fun i v=>(i.1,i.2.1,v.1,i.2.2.1,i.2.2.2,v.2,())) (fun _=>rfl) (zd hb N (t1_85 N) L_85 z11e TabOk.nil [0,0,1,0,1,1] _ rfl) (fun i v r K=>by kernel_rfl)
def zeg (N:Nat)(kind:Int)(parts:(List Tree)):Option DT7:=zw3 N kind (0,(([0,0,0,0]:List Int),([],(0,(0,()))))) [] parts (List.length parts:Int) 0 (fun kids=>cond ((List.length kids:Int) == 1) (cond (inR 0 (List.length kids)) (cond (decide (0<(List.length kids))) (some (List.getD kids 0 (0,([],([],(0,(0,()))))))) none) none) (some (kind,(([0,0,0,0]:List Int),((List.map foN kids),(0,(0,())))))))
def t_85 (N:Nat):Tab DT7:=[([0,1,0,1,1],z1vu N)]
theorem z1hr (N:Nat)(x:z15 [(0,.v (.int .i64)),(0,.v (.sl .nod))]):z4u (E_85 N) N (t_85 N) L_85 Tryd.f56 (mkS [(0,.v (.int .i64)),(0,.v (.sl .nod))] 0 x) (z2l (.v TT4) 2)=zeg N x.1 x.2.1:=by kernel_rfl
def z94 (N:Nat):List A->Res:=zz [(0,.v (.int .i64)),(0,.v (.sl .nod))] (fun x=>zeg N x.1 x.2.1) (z6n (.v TT4) 2)
theorem zea (N:Nat):Contract Tryd.prog glob 56 (z94 N) :=
 Contract.of (E:=E_85 N) (H:=t_85 N) (L:=L_85) (N:=N) (body:=z11e) (K:=(z2l (.v TT4) 2)) (z238 N) Tryd.func56 (by kernel_rfl) (by decide) (fun _ hb=>(TabOk.cons (z1r5 hb) TabOk.nil)) (fun x y h=>by rw[z1hr];exact h) (z13 (s:=(.v TT4)) (m:=2))
def zn0:Code:=(Tryd.f54.body).getD .skip
def z22i:List (List Nat×List Nat):=[([0],[0,2]),([0,1],[0,3,2]),([0,0,1,1],[0,3,2]),(z167,[37,3,0,2]),(z166,[3,0,2]),(z169,[3,2,0]),([0,1,0,0,0,1,1],[0,3,2]),([1,0,0,0,1,1],[0,3,2]),([0,1,1],[3,2,0]),([0,1,1,1],[2,0]),([1,1,1,1],[2,0])]
def z1n1 (N:Nat)(self:z8):Env:=z1c tys glob [(56,z94 N),(71,z6u N self),(36,zz SQ0 (fun x=>self x.1) (z4x (.v TT4) SQ0 0))] [(3,TT4)] [] [0] false [] [(76,z7 N)]
theorem z237 (N:Nat)(self:z8)(hself:Contract Tryd.prog glob 36 (zz SQ0 (fun x=>self x.1) (z4x (.v TT4) SQ0 0))):EnvOk Tryd.prog (z1n1 N self):=zi mixed zn (FnsOk.cons (zea N) (FnsOk.cons (zck N self hself) (FnsOk.cons (hself) (FnsOk.nil)))) (ItsOk.cons (za N) (ItsOk.nil))
def zf0 (N:Nat)(self:z8)(p:DT5)(x2:DT7)(parts:(List DT7))(k0:Option (DT7×(DT5×Unit)))(k1:Option (DT7×(DT5×Unit))):Option (DT7×(DT5×Unit)):=cond (decide (p.2.1<(List.length p.1:Int))) (cond (inR p.2.1 (List.length p.1)) (cond ((UInt8.toNat (List.getD p.1 (Int.toNat p.2.1) (0:UInt8)):Int) != 124) (cond (inR p.2.1 (List.length p.1)) (cond ((UInt8.toNat (List.getD p.1 (Int.toNat p.2.1) (0:UInt8)):Int) != 41) k0 k1) none) k1) none) k1
def z1y7 (N:Nat)(self:z8)(x:z15 SQ3)(K:Ex->List A->Option (DT7×(DT5×Unit))):Option (DT7×(DT5×Unit)):=zf0 N self x.1 x.2.1 x.2.2.1 (K .normal (mkS SQ3 41 (x.1,x.2.1,x.2.2.1,()))) (K (.exit 0) (mkS SQ3 41 (x.1,x.2.1,x.2.2.1,())))
def z1u2 (N:Nat)(self:z8):Hd (DT7×(DT5×Unit)):=fun st K=>(unS SQ3 41 (restr [0,3,2] 0 st)).bind fun x=>z1y7 N self x K
def t3_86 (N:Nat)(self:z8):Tab (DT7×(DT5×Unit)):=[]
theorem z1pd {N:Nat}{self:z8}{c:Ctx}(hb:Base Tryd.prog (z1n1 N self) c):zj Tryd.prog c (zh zn0 [0,0,0,0,1,1]) (z1u2 N self) :=
 zk (s:=SQ3) (m:=41) (g:=z1y7 N self) [0,3,2] (zd hb N (t3_86 N self) z22i zn0 TabOk.nil [0,0,0,0,1,1] _ rfl) (fun x K=>by kernel_rfl)
def zez (N:Nat)(self:z8)(x2:DT7)(p:DT5)(parts:(List DT7))(rec:DT5->(List DT7)->Option (DT7×(DT5×Unit)))(k0:DT5->(List DT7)->Option (DT7×(DT5×Unit))):Option (DT7×(DT5×Unit)):=zf0 N self p x2 parts ((z72 N self p).bind fun y=>cond (decide ((((List.length parts)+1)*80)<=70368744177664)) (rec y.2.1 (parts++([y.1]:List z14j))) none) (k0 p parts)
def zmi (N:Nat)(self:z8)(p:DT5)(x2:DT7)(parts:(List DT7))(k0:DT5->(List DT7)->Option (DT7×(DT5×Unit))):Option (DT7×(DT5×Unit)):=iter (fun (v:(DT5×(List DT7))) r=>zez N self x2 v.1 v.2 (fun p parts=>(r (p,parts))) k0) N (p,parts)
def z1yu (N:Nat)(self:z8)(i:DT7)(v:(DT5×(List DT7)))(r:(DT5×(List DT7))->Option (DT7×(DT5×Unit)))(K:Ex->List A->Option (DT7×(DT5×Unit))):Option (DT7×(DT5×Unit)):=zez N self i v.1 v.2 (fun p parts=>(r (p,parts))) (fun a0 a2=>(K (.exit 0) (mkS SQ3 41 (a0,i,a2,()))))
def z1up (N:Nat)(self:z8):Hd (DT7×(DT5×Unit)):=fun st K=>(unS SQ3 41 (restr [0,3,2] 0 st)).bind fun x=>iter (fun v r=>z1yu N self ((fun x=>x.2.1) x) v r K) N ((fun x=>(x.1,x.2.2.1)) x)
def t2_86 (N:Nat)(self:z8):Tab (DT7×(DT5×Unit)):=[([0,0,0,0,1,1],z1u2 N self)]
theorem z1q0 {N:Nat}{self:z8}{c:Ctx}(hb:Base Tryd.prog (z1n1 N self) c):zj Tryd.prog c (zh zn0 [0,0,1,1]) (z1up N self) :=
 zu (s:=SQ3) (m:=41) (z1yu N self) [0,3,2] N (fun x=>x.2.1) (fun x=>(x.1,x.2.2.1)) (fun i v=>(v.1,i,v.2,())) (fun _=>rfl) (zd hb N (t2_86 N self) z22i zn0 (TabOk.cons (z1pd hb) TabOk.nil) [0,0,0,1,1] _ rfl) (fun i v r K=>by kernel_rfl)
def zf1 (N:Nat)(self:z8)(p:DT5)(x2:DT7)(parts:(List DT7))(k0:DT5->(List DT7)->Option (DT7×(DT5×Unit))):Option (DT7×(DT5×Unit)):=zmi N self p x2 parts (fun p1 znp=>k0 p1 znp)
end
end Go.Proofs.YtgbcebmahbieoaaDoorLg
set_option linter.all false
set_option maxRecDepth 100000
namespace Go.Proofs.YtgbcebmahbieoaaDoorLg
noncomputable section
open Go Go.Lift
def z1zy (N:Nat)(self:z8)(x:z15 SQ3)(K:Ex->List A->Option (DT7×(DT5×Unit))):Option (DT7×(DT5×Unit)):=zf1 N self x.1 x.2.1 x.2.2.1 (fun a0 a2=>(K .normal (mkS SQ3 41 (a0,x.2.1,a2,()))))
def z1vt (N:Nat)(self:z8):Hd (DT7×(DT5×Unit)):=fun st K=>(unS SQ3 41 (restr [0,3,2] 0 st)).bind fun x=>z1zy N self x K
def t1_86 (N:Nat)(self:z8):Tab (DT7×(DT5×Unit)):=[([0,0,1,1],z1up N self)]
theorem z1r4 {N:Nat}{self:z8}{c:Ctx}(hb:Base Tryd.prog (z1n1 N self) c):zj Tryd.prog c (zh zn0 [0,1,1]) (z1vt N self) :=
 zk (s:=SQ3) (m:=41) (g:=z1zy N self) [0,3,2] (zd hb N (t1_86 N self) z22i zn0 (TabOk.cons (z1q0 hb) TabOk.nil) [0,1,1] _ rfl) (fun x K=>by kernel_rfl)
def z51 (N:Nat)(self:z8)(p:DT5):Option (DT7×(DT5×Unit)):=zf1 N self p (0,(([0,0,0,0]:List Int),([],(0,(0,()))))) [] (fun p1 parts=>(zeg N 2 (List.map foN parts)).bind fun y=>some (y,(p1,())))
def t_86 (N:Nat)(self:z8):Tab (DT7×(DT5×Unit)):=[([0,1,1],z1vt N self)]
theorem z1hq (N:Nat)(self:z8)(x:z15 SQ0):z4u (z1n1 N self) N (t_86 N self) z22i Tryd.f54 (mkS SQ0 0 x) (z3r (.v TT4) SQ0 0)=z51 N self x.1:=by kernel_rfl
def z8h (N:Nat)(self:z8):List A->Res:=zz SQ0 (fun x=>z51 N self x.1) (z4x (.v TT4) SQ0 0)
theorem zf2 (N:Nat)(self:z8)(hself:Contract Tryd.prog glob 36 (zz SQ0 (fun x=>self x.1) (z4x (.v TT4) SQ0 0))):Contract Tryd.prog glob 54 (z8h N self) :=
 Contract.of (E:=z1n1 N self) (H:=t_86 N self) (L:=z22i) (N:=N) (body:=zn0) (K:=(z3r (.v TT4) SQ0 0)) (z237 N self hself) Tryd.func54 (by kernel_rfl) (by decide) (fun _ hb=>(TabOk.cons (z1r4 hb) TabOk.nil)) (fun x y h=>by rw[z1hq];exact h) (z2s (s:=(.v TT4)) (os:=SQ0) (m:=0))
def zx1:Code:=(Tryd.f36.body).getD .skip
def L_87:List (List Nat×List Nat):=[([0],[0,2]),([0,1],[0,3,2]),([0,0,1,1],[0,3,2]),(z167,[8,3,0,2]),(z166,[3,0,2]),(z169,[3,2,0]),([0,1,0,0,0,1,1],[0,3,2]),([1,0,0,0,1,1],[0,3,2]),([0,1,1],[3,2,0]),([0,1,1,1],[2,0]),([1,1,1,1],[2,0])]
def E_87 (N:Nat)(self:DT5->Option (DT7×(DT5×Unit))):Env:=z1c tys glob [(54,z8h N self),(56,z94 N),(55,z1m N),(36,zz SQ0 (fun x=>self x.1) (z4x (.v TT4) SQ0 0))] [(3,TT4)] [] [0] false [] [(76,z7 N)]
theorem z236 (N:Nat)(self:DT5->Option (DT7×(DT5×Unit)))(hself:Contract Tryd.prog glob 36 (zz SQ0 (fun x=>self x.1) (z4x (.v TT4) SQ0 0))):EnvOk Tryd.prog (E_87 N self):=zi mixed zn (FnsOk.cons (zf2 N self hself) (FnsOk.cons (zea N) (FnsOk.cons (z1y N) (FnsOk.cons (hself) (FnsOk.nil))))) (ItsOk.cons (za N) (ItsOk.nil))
def zf3 (N:Nat)(self:DT5->Option (DT7×(DT5×Unit)))(x2:DT7)(p:DT5)(parts:(List DT7))(rec:DT5->(List DT7)->Option (DT7×(DT5×Unit)))(k0:DT5->(List DT7)->Option (DT7×(DT5×Unit))):Option (DT7×(DT5×Unit)):=(z1b N p 124).bind fun y=>cond y.1 ((z51 N self y.2.1).bind fun y1=>cond (decide ((((List.length parts)+1)*80)<=70368744177664)) (rec y1.2.1 (parts++([y1.1]:List z14j))) none) (k0 y.2.1 parts)
def zmj (N:Nat)(self:DT5->Option (DT7×(DT5×Unit)))(p:DT5)(x2:DT7)(parts:(List DT7))(k0:DT5->(List DT7)->Option (DT7×(DT5×Unit))):Option (DT7×(DT5×Unit)):=iter (fun (v:(DT5×(List DT7))) r=>zf3 N self x2 v.1 v.2 (fun p parts=>(r (p,parts))) k0) N (p,parts)
def z1zx (N:Nat)(self:DT5->Option (DT7×(DT5×Unit)))(i:DT7)(v:(DT5×(List DT7)))(r:(DT5×(List DT7))->Option (DT7×(DT5×Unit)))(K:Ex->List A->Option (DT7×(DT5×Unit))):Option (DT7×(DT5×Unit)):=zf3 N self i v.1 v.2 (fun p parts=>(r (p,parts))) (fun a0 a2=>(K (.exit 0) (mkS SQ3 12 (a0,i,a2,()))))
def z1vs (N:Nat)(self:DT5->Option (DT7×(DT5×Unit))):Hd (DT7×(DT5×Unit)):=fun st K=>(unS SQ3 12 (restr [0,3,2] 0 st)).bind fun x=>iter (fun v r=>z1zx N self ((fun x=>x.2.1) x) v r K) N ((fun x=>(x.1,x.2.2.1)) x)
def t1_87 (N:Nat)(self:DT5->Option (DT7×(DT5×Unit))):Tab (DT7×(DT5×Unit)):=[]
theorem z1r3 {N:Nat}{self:DT5->Option (DT7×(DT5×Unit))}{c:Ctx}(hb:Base Tryd.prog (E_87 N self) c):zj Tryd.prog c (zh zx1 [0,0,1,1]) (z1vs N self) :=
 zu (s:=SQ3) (m:=12) (z1zx N self) [0,3,2] N (fun x=>x.2.1) (fun x=>(x.1,x.2.2.1)) (fun i v=>(v.1,i,v.2,())) (fun _=>rfl) (zd hb N (t1_87 N self) L_87 zx1 TabOk.nil [0,0,0,1,1] _ rfl) (fun i v r K=>by kernel_rfl)
def zg0 (N:Nat)(self:DT5->Option (DT7×(DT5×Unit)))(p:DT5):Option (DT7×(DT5×Unit)):=(z51 N self p).bind fun y=>zmj N self y.2.1 (0,(([0,0,0,0]:List Int),([],(0,(0,()))))) ([y.1]:List z14j) (fun p1 parts=>(zeg N 3 (List.map foN parts)).bind fun y1=>some (y1,(p1,())))
def t_87 (N:Nat)(self:DT5->Option (DT7×(DT5×Unit))):Tab (DT7×(DT5×Unit)):=[([0,0,1,1],z1vs N self)]
theorem z1hp (N:Nat)(self:DT5->Option (DT7×(DT5×Unit)))(x:z15 SQ0):z4u (E_87 N self) N (t_87 N self) L_87 Tryd.f36 (mkS SQ0 0 x) (z3r (.v TT4) SQ0 0)=zg0 N self x.1:=by kernel_rfl
def zq:Nat->DT5->Option (DT7×(DT5×Unit))
 | 0=>fun _=>none
 | N+1=>zg0 (N+1) (zq N)
def zds (N:Nat):List A->Res:=zz SQ0 (fun x=>zq N x.1) (z4x (.v TT4) SQ0 0)
theorem z2n:∀ N:Nat,Contract Tryd.prog glob 36 (zds N)
 | 0=>Contract.zero Tryd.func36 (body:=zx1) (by kernel_rfl) (by decide) (fun _=>rfl)
 | N+1=>Contract.of (E:=E_87 (N+1) (zq N)) (H:=t_87 (N+1) (zq N)) (L:=L_87) (N:=(N+1)) (body:=zx1) (K:=(z3r (.v TT4) SQ0 0)) (z236 (N+1) (zq N) (z2n N)) Tryd.func36 (by kernel_rfl) (by decide) (fun _ hb=>(TabOk.cons (z1r3 hb) TabOk.nil)) (fun x y h=>by rw[z1hp];exact h) (z2s (s:=(.v TT4)) (os:=SQ0) (m:=0))
end
end Go.Proofs.YtgbcebmahbieoaaDoorLg
set_option linter.all false
namespace Go.Proofs.YtgbcebmahbieoaaDoorPx
noncomputable section
open Go Go.Lift
theorem zd5 {σ β:Type}{step:σ->(σ->Option β)->Option β}(I:σ->Prop)(m:σ->Nat)(R:σ->Option β)
 (h:∀ v r,I v->(∀ v',I v'->m v'<m v->r v'=R v')->step v r=R v):∀ (n:Nat) (v:σ),I v->m v<n->iter step n v=R v
 | 0,v,_,hm=>by omega
 | n+1,v,hv,hm=>h v (iter step n) hv fun v' hv' hlt=>zd5 I m R h n v' hv' (by omega)
theorem znz {σ β:Type}{step:σ->(σ->Option β)->Option β}(I:σ->Prop)(m:σ->Nat)(p:Option β->Prop)
 (h:∀ v r,I v->(∀ v',I v'->m v'<m v->p (r v'))->p (step v r)):∀ (n:Nat) (v:σ),I v->m v<n->p (iter step n v)
 | 0,v,_,hm=>by omega
 | n+1,v,hv,hm=>h v (iter step n) hv fun v' hv' hlt=>znz I m p h n v' hv' (by omega)
theorem z1na (x:Int):IntKind.wrap .i64 x=(x+9223372036854775808) % 18446744073709551616 - 9223372036854775808:=by
 simp only[IntKind.wrap,IntKind.bits,IntKind.signed,Bool.true_and,decide_eq_true_eq,Nat.add_one_sub_one,Int.reducePow,ge_iff_le];split<;>omega
def I64 (x:Int):Prop:=-9223372036854775808<=x/\x<=9223372036854775807
instance (x:Int):Decidable (I64 x):=by unfold I64;infer_instance
theorem z4w {x:Int}(h:I64 x):IntKind.wrap .i64 x=x:=by
 rw[z1na];unfold I64 at h;omega
theorem zw {α:Type}{b:Bool}(h:b=true)(x y:α):cond b x y=x:=by rw[h];rfl
theorem z2c {α:Type}{b:Bool}(h:b=false)(x y:α):cond b x y=y:=by rw[h];rfl
theorem z19 {n len:Nat}(h:n<len):inR (n:Int) len=true:=by simp only[inR,decide_eq_true_eq];omega
theorem z1e5 {i:Int}{len:Nat}(h:0<=i)(h':i<len):inR i len=true:=by simp only[inR,decide_eq_true_eq];omega
def zwr:T->Bool
 | .int _=>true
 | .bool=>true
 | .str=>true
 | .unit=>true
 | .pair a b=>zwr a && zwr b
 | .arr _ t=>zwr t
 | _=>false
theorem zpe:∀ (t:T) (x y:t.den),zwr t=true->(eqD t x y=true ↔ x=y)
 | .int _,x,y,_=>by simp[eqD]
 | .bool,x,y,_=>by simp[eqD]
 | .str,x,y,_=>by simp[eqD]
 | .unit,x,y,_=>by simp[eqD]
 | .pair a b,x,y,h=>by
   simp only[zwr,Bool.and_eq_true] at h;have h1:=zpe a x.1 y.1 h.1;have h2:=zpe b x.2 y.2 h.2;simp only[eqD];cases hq:eqD a x.1 y.1 with
   | false =>
     rw[hq] at h1;simp only[cond_false,Bool.false_eq_true,false_iff];intro e;exact absurd (h1.2 (by rw[e])) (by simp)
   | true =>
     rw[cond_true,h2];constructor
     . intro e;exact Prod.ext (h1.1 hq) e
     . intro e;rw[e]
 | .arr n t,xs,ys,h=>by
   have h:zwr t=true:=h;simp only[eqD]
   induction xs generalizing ys with
   | nil=>cases ys<;>simp[z143]
   | cons x xs ih =>
     cases ys with
     | nil=>simp[z143]
     | cons y ys =>
       have h1:=zpe t x y h;simp only[z143];cases hq:eqD t x y with
       | false =>
         rw[hq] at h1;simp only[cond_false,Bool.false_eq_true,false_iff];intro e;exact absurd (h1.2 (List.cons.inj e).1) (by simp)
       | true =>
         rw[cond_true];have h2:z143 (eqD t) xs ys=true ↔ xs=ys:=ih ys;constructor
         . intro e;rw[h1.1 hq,h2.1 e]
         . intro e;exact h2.2 (List.cons.inj e).2
 | .opq,x,y,h=>by simp[zwr] at h
 | .sl _,x,y,h=>by simp[zwr] at h
 | .ptr _,x,y,h=>by simp[zwr] at h
end
end Go.Proofs.YtgbcebmahbieoaaDoorPx
set_option linter.all false
namespace Go.Proofs.YtgbcebmahbieoaaDoorPx
noncomputable section
open Go Go.Lift
theorem z1fl (x:Int):IntKind.wrap .u8 x=x % 256:=by
 simp only[IntKind.wrap,IntKind.bits,IntKind.signed,Bool.false_and,Bool.false_eq_true,if_false];rfl
theorem zoi {x:Int}(h0:0<=x)(h1:x<256):IntKind.wrap .u8 x=x:=by rw[z1fl];omega
theorem u8_lt (u:UInt8):u.toNat<256:=u.toNat_lt
theorem z1a {i:Nat}(h:i<9223372036854775807):IntKind.wrap .i64 ((i:Int)+1)=((i+1:Nat):Int):=by
 rw[z4w (by unfold I64;omega)];omega
theorem zx7 (a b:List Int):zjd (a++b)=zjd a++zjd b:=by simp[zjd]
theorem z14l (u:UInt8):zjd [((u.toNat:Nat):Int)]=[u]:=by simp[zjd]
theorem zxw (s:List UInt8):(zh6 s).length=s.length:=by simp[zh6]
theorem zwn {α:Type}(l:List α)(d:α)(i:Nat)(h:i<l.length):l.getD i d∈l:=by
 rw[List.getD_eq_getElem?_getD,List.getElem?_eq_getElem h];simp
theorem z4q {α:Type}(l:List α)(d:α)(i:Nat)(h:i<l.length):l.drop i=l.getD i d::l.drop (i+1):=by
 rw[List.getD_eq_getElem?_getD,List.getElem?_eq_getElem h,Option.getD_some,List.drop_eq_getElem_cons h]
theorem z27 {p:Prop}[Decidable p](h:p):decide p=true:=decide_eq_true h
theorem z32 {p:Prop}[Decidable p](h:¬ p):decide p=false:=decide_eq_false h
theorem take_succ {α:Type}(l:List α)(d:α)(i:Nat)(h:i<l.length):l.take (i+1)=l.take i++[l.getD i d]:=by
 rw[List.getD_eq_getElem?_getD,List.getElem?_eq_getElem h,Option.getD_some,List.take_succ_eq_append_getElem h]
theorem zn9 {α:Type}(l:List α)(x:α)(i:Nat)(h:i<l.length):(l.set i x).take (i+1)=l.take i++[x]:=by
 rw[List.take_succ_eq_append_getElem (by simpa using h),List.getElem_set_self];congr 1;apply List.ext_getElem?;intro j;rw[List.getElem?_take,List.getElem?_take];split
 . rw[List.getElem?_set_ne (by omega)]
 . rfl
end
end Go.Proofs.YtgbcebmahbieoaaDoorPx
set_option linter.all false
namespace Go.Proofs.YtgbcebmahbieoaaDoorPx
noncomputable section
open Go Go.Lift
def U64 (x:Int):Prop:=0<=x/\x<18446744073709551616
instance (x:Int):Decidable (U64 x):=by unfold U64;infer_instance
def bit (w:Int)(i:Nat):Bool:=w.toNat.testBit i
theorem zqz (x:Int):IntKind.wrap .u64 x=x % 18446744073709551616:=rfl
theorem z1at (x:Int):U64 (IntKind.wrap .u64 x):=by rw[zqz];unfold U64;omega
theorem z78 {x:Int}(h:U64 x):IntKind.wrap .u64 x=x:=by rw[zqz];unfold U64 at h;omega
theorem zwc {x:Int}(h:U64 x):(BitVec.ofInt 64 x).toNat=x.toNat:=by
 unfold U64 at h;rw[BitVec.toNat_ofInt];omega
theorem z1ey (v:BitVec 64):U64 ((v.toNat:Nat):Int):=by
 have:=v.isLt;unfold U64;omega
theorem ztr {x y:Int}(hx:U64 x)(hy:U64 y):ze .and .u64 x y=((x.toNat &&& y.toNat:Nat):Int):=by
 have e:ze .and .u64 x y=IntKind.wrap .u64 ((BitVec.ofInt 64 x &&& BitVec.ofInt 64 y).toNat:Int):=rfl;rw[e,z78 (z1ey _),BitVec.toNat_and,zwc hx,zwc hy]
theorem z185 {x y:Int}(hx:U64 x)(hy:U64 y):ze .or .u64 x y=((x.toNat ||| y.toNat:Nat):Int):=by
 have e:ze .or .u64 x y=IntKind.wrap .u64 ((BitVec.ofInt 64 x ||| BitVec.ofInt 64 y).toNat:Int):=rfl;rw[e,z78 (z1ey _),BitVec.toNat_or,zwc hx,zwc hy]
theorem u64_or {x y:Int}(hx:U64 x)(hy:U64 y):U64 (ze .or .u64 x y):=by
 have e:ze .or .u64 x y=IntKind.wrap .u64 ((BitVec.ofInt 64 x ||| BitVec.ofInt 64 y).toNat:Int):=rfl;rw[e];exact z1at _
theorem z21s {x y:Int}(hx:U64 x)(hy:U64 y)(i:Nat):bit (ze .or .u64 x y) i=(bit x i || bit y i):=by
 rw[z185 hx hy];simp only[bit,Int.toNat_natCast,Nat.testBit_or]
theorem u64_pow {n:Nat}(hn:n<64):U64 ((2^n:Nat):Int):=by
 have hp:2^n<2^64:=Nat.pow_lt_pow_right (by omega) hn;have e:(2:Nat)^64=18446744073709551616:=rfl;rw[e] at hp;generalize 2^n=q at hp;unfold U64;omega
theorem shl1 {n:Nat}(hn:n<64):z17a .u64 1 (n:Int)=((2^n:Nat):Int):=by
 have e:z17a .u64 1 (n:Int)=IntKind.wrap .u64 (1*2^(min (n:Int).toNat 64)):=rfl;have hp:2^n<2^64:=Nat.pow_lt_pow_right (by omega) hn;rw[e,Int.toNat_natCast,Nat.min_eq_left (by omega),Int.one_mul];have e2:((2:Int)^n)=((2^n:Nat):Int):=by rw[Int.natCast_pow];rfl
 rw[e2,z78 (u64_pow hn)]
theorem z1kq (n i:Nat):bit ((2^n:Nat):Int) i=decide (n=i):=by
 simp only[bit,Int.toNat_natCast,Nat.testBit_two_pow]
theorem z1kp {x:Int}(hx:U64 x){n:Nat}(hn:n<64)(i:Nat):bit (ze .or .u64 x (z17a .u64 1 (n:Int))) i=(bit x i || decide (n=i)):=by
 rw[shl1 hn,z21s hx (u64_pow hn),z1kq]
theorem zzr {x:Int}(hx:0<=x){n:Nat}(hn:n<64):z23 .u64 x (n:Int)=((x.toNat >>> n:Nat):Int):=by
 have e:z23 .u64 x (n:Int)=x.fdiv (2^(min (n:Int).toNat 64)):=rfl;rw[e,Int.toNat_natCast,Nat.min_eq_left (by omega),Nat.shiftRight_eq_div_pow];have e2:((2:Int)^n)=((2^n:Nat):Int):=by rw[Int.natCast_pow];rfl
 rw[e2,Int.fdiv_eq_ediv_of_nonneg _ (Int.natCast_nonneg _),Int.natCast_ediv];congr 1;omega
theorem z1jx {x:Int}(hx:U64 x){n:Nat}(hn:n<64):(ze .and .u64 (z23 .u64 x (n:Int)) 1 == 1)=bit x n:=by
 have hs:U64 (z23 .u64 x (n:Int)):=by
  rw[zzr hx.1 hn,Nat.shiftRight_eq_div_pow];have h:=Nat.div_le_self x.toNat (2^n);generalize x.toNat / 2^n=q at *;unfold U64 at *;omega
 rw[ztr hs (by unfold U64;omega),zzr hx.1 hn];simp only[Int.toNat_natCast,bit,Nat.testBit];have e:(1:Int).toNat=1:=rfl;rw[e,Nat.and_comm (x.toNat >>> n) 1];have h01:1 &&& (x.toNat >>> n)=(x.toNat >>> n) % 2:=by rw[Nat.and_comm];exact Nat.and_one_is_mod _
 rw[h01];have:(x.toNat >>> n) % 2<2:=Nat.mod_lt _ (by omega);rcases Nat.lt_or_ge ((x.toNat >>> n) % 2) 1 with h|h
 . have h0:(x.toNat >>> n) % 2=0:=by omega
   rw[h0];rfl
 . have h0:(x.toNat >>> n) % 2=1:=by omega
   rw[h0];rfl
def zo1:Nat->Int->Int
 | 0,w=>w
 | n+1,w=>zo1 n (w.tdiv 2)
theorem zyb:∀ (n:Nat) {w:Int},0<=w->zo1 n w=((w.toNat / 2^n:Nat):Int)
 | 0,w,h=>by simp only[zo1,Nat.pow_zero,Nat.div_one];omega
 | n+1,w,h=>by
   have h2:w.tdiv 2=((w.toNat / 2:Nat):Int):=by rw[Int.tdiv_eq_ediv_of_nonneg h];omega
   rw[zo1,zyb n (by rw[h2];omega),h2,Int.toNat_natCast,Nat.div_div_eq_div_mul,Nat.pow_succ,Nat.mul_comm 2]
theorem z15j {x:Int}(hx:0<=x)(n:Nat):((zo1 n x).tmod 2 == 1)=bit x n:=by
 rw[zyb n hx,Int.tmod_eq_emod_of_nonneg (Int.natCast_nonneg _),bit,Nat.testBit_eq_decide_div_mod_eq];generalize x.toNat / 2^n=q;rcases Nat.mod_two_eq_zero_or_one q with h|h
 . rw[h];have:((q:Nat):Int) % 2=0:=by omega
   rw[this];rfl
 . rw[h];have:((q:Nat):Int) % 2=1:=by omega
   rw[this];rfl
def SetOk (s:List Int):Prop:=∃ a b c d,s=[a,b,c,d]/\U64 a/\U64 b/\U64 c/\U64 d
def ze1 (s:List Int)(b:Nat):Bool:=bit (s.getD (b / 64) 0) (b % 64)
theorem SetOk.length {s:List Int}(h:SetOk s):s.length=4:=by
 obtain⟨a,b,c,d,rfl,_⟩:=h;rfl
theorem SetOk.word {s:List Int}(h:SetOk s){i:Nat}(hi:i<4):U64 (s.getD i 0):=by
 obtain⟨a,b,c,d,rfl,ha,hb,hc,hd⟩:=h
 match i,hi with
 | 0,_=>exact ha
 | 1,_=>exact hb
 | 2,_=>exact hc
 | 3,_=>exact hd
theorem SetOk.set {s:List Int}(h:SetOk s){i:Nat}(hi:i<4){x:Int}(hx:U64 x):SetOk (s.set i x):=by
 obtain⟨a,b,c,d,rfl,ha,hb,hc,hd⟩:=h
 match i,hi with
 | 0,_=>exact⟨x,b,c,d,rfl,hx,hb,hc,hd⟩
 | 1,_=>exact⟨a,x,c,d,rfl,ha,hx,hc,hd⟩
 | 2,_=>exact⟨a,b,x,d,rfl,ha,hb,hx,hd⟩
 | 3,_=>exact⟨a,b,c,x,rfl,ha,hb,hc,hx⟩
theorem SetOk.map {s:List Int}(f:Int->Int)(hf:∀ x,U64 x->U64 (f x))(hs:SetOk s):SetOk (s.map f):=by
 obtain⟨a,b,c,d,rfl,ha,hb,hc,hd⟩:=hs;exact⟨_,_,_,_,rfl,hf _ ha,hf _ hb,hf _ hc,hf _ hd⟩
theorem zl9 {x:Int}(h:(Lit.int .u64 x).wf=true):U64 x:=by
 simp only[Lit.wf,Bool.and_eq_true,decide_eq_true_eq] at h;have h0:(IntKind.min .u64:Int)=0:=rfl;have h1:(IntKind.max .u64:Int)=18446744073709551615:=rfl;unfold U64;omega
theorem z1ba {s:List Int}(h:s.length=4/\∀ x∈s,Wf (.int .u64) x):SetOk s:=by
 obtain⟨hl,hx⟩:=h
 match s,hl with
 | [a,b,c,d],_ =>
   exact⟨a,b,c,d,rfl,zl9 (hx a (by simp)),zl9 (hx b (by simp)),zl9 (hx c (by simp)),zl9 (hx d (by simp))⟩
end
end Go.Proofs.YtgbcebmahbieoaaDoorPx
set_option linter.all false
namespace Go.Proofs.YtgbcebmahbieoaaDoorPx
noncomputable section
open Go Go.Lift
theorem zzb {j a b c d:Nat}(ha:a<2^j)(hc:c<2^j):(a+2^j*b) &&& (c+2^j*d)=(a &&& c)+2^j*(b &&& d):=by
 have hp:0<2^j:=Nat.two_pow_pos j;have hac:a &&& c<2^j:=Nat.lt_of_le_of_lt Nat.and_le_left ha;have h1:((a+2^j*b) &&& (c+2^j*d)) % 2^j=a &&& c:=by
  rw[Nat.and_mod_two_pow,Nat.add_mul_mod_self_left,Nat.add_mul_mod_self_left,Nat.mod_eq_of_lt ha,Nat.mod_eq_of_lt hc]
 have h2:((a+2^j*b) &&& (c+2^j*d)) / 2^j=b &&& d:=by
  rw[Nat.and_div_two_pow,Nat.add_mul_div_left _ _ hp,Nat.add_mul_div_left _ _ hp,Nat.div_eq_of_lt ha,Nat.div_eq_of_lt hc,Nat.zero_add,Nat.zero_add]
 have h3:=Nat.mod_add_div ((a+2^j*b) &&& (c+2^j*d)) (2^j);rw[h1,h2] at h3;exact h3.symm
def zln (k:Nat):Nat->Nat
 | 0=>0
 | n+1=>(2^k - 1)+2^(2*k)*zln k n
def z7a (k:Nat):Nat->Nat->Nat
 | 0,_=>0
 | n+1,x=>(x % 2^k+x / 2^k % 2^k)+2^(2*k)*z7a k n (x / 2^(2*k))
def z10v (k:Nat):Nat->Nat->Nat
 | 0,_=>0
 | n+1,x=>x % 2^k+z10v k n (x / 2^k)
def dle (k m:Nat):Nat->Nat->Prop
 | 0,_=>True
 | n+1,x=>x % 2^k<=m/\dle k m n (x / 2^k)
theorem zem (k:Nat):2^(2*k)=2^k*2^k:=by rw[Nat.two_mul,Nat.pow_add]
theorem z1of {k:Nat}(hk:0<k):2<=2^k:=by
 have:=Nat.pow_le_pow_right (n:=2) (by omega) hk;simpa using this
theorem z1e0 {k:Nat}:2^k - 1<2^(2*k):=by
 have h:2^k<=2^(2*k):=Nat.pow_le_pow_right (by omega) (by omega);have:=Nat.two_pow_pos k;omega
theorem z1kt (k x:Nat):(x % 2^(2*k)) &&& (2^k - 1)=x % 2^k:=by
 rw[Nat.and_two_pow_sub_one_eq_mod,zem,Nat.mod_mul_left_mod]
theorem z149 (k:Nat):∀ n x,x &&& zln k n=0+(match n with|0=>0|n+1=>x % 2^k+2^(2*k)*((x / 2^(2*k)) &&& zln k n))
 | 0,x=>by simp only[zln,Nat.and_zero]
 | n+1,x=>by
   have h:=zzb (j:=2*k) (a:=x % 2^(2*k)) (b:=x / 2^(2*k)) (c:=2^k - 1) (d:=zln k n) (Nat.mod_lt _ (Nat.two_pow_pos _)) z1e0;rw[Nat.mod_add_div] at h;rw[zln,h,z1kt,Nat.zero_add]
theorem zzo (k:Nat):∀ n x,((x / 2^k) &&& zln k n)+(x &&& zln k n)=z7a k n x
 | 0,x=>by simp only[zln,Nat.and_zero,z7a]
 | n+1,x=>by
   have e:x / 2^k / 2^(2*k)=x / 2^(2*k) / 2^k:=by rw[Nat.div_div_eq_div_mul,Nat.div_div_eq_div_mul,Nat.mul_comm]
   have h:=zzo k n (x / 2^(2*k));have h1:=z149 k (n+1) (x / 2^k);have h2:=z149 k (n+1) x;simp only[Nat.zero_add] at h1 h2;rw[h1,h2,z7a,<- h,e,Nat.mul_add];omega
theorem zwt (x k:Nat):x / 2^(2*k)=x / 2^k / 2^k:=by rw[zem,Nat.div_div_eq_div_mul]
theorem zwp {k:Nat}(hk:0<k)(x y:Nat):x % 2^k+y % 2^k<2^(2*k):=by
 have h1:=Nat.mod_lt x (Nat.two_pow_pos k);have h2:=Nat.mod_lt y (Nat.two_pow_pos k);have h3:=z1of hk;rw[zem];have:2*2^k<=2^k*2^k:=Nat.mul_le_mul_right _ h3;omega
theorem zx9 {k:Nat}(hk:0<k)(n x:Nat):z7a k (n+1) x % 2^(2*k)=x % 2^k+x / 2^k % 2^k:=by
 rw[z7a,Nat.add_mul_mod_self_left,Nat.mod_eq_of_lt (zwp hk _ _)]
theorem zxa {k:Nat}(hk:0<k)(n x:Nat):z7a k (n+1) x / 2^(2*k)=z7a k n (x / 2^(2*k)):=by
 rw[z7a,Nat.add_mul_div_left _ _ (Nat.two_pow_pos _),Nat.div_eq_of_lt (zwp hk _ _),Nat.zero_add]
theorem zo2 {k:Nat}(hk:0<k):∀ n x,z10v (2*k) n (z7a k n x)=z10v k (2*n) x
 | 0,x=>rfl
 | n+1,x=>by
   rw[z10v,zx9 hk,zxa hk,zo2 hk n,Nat.mul_add,Nat.mul_one];simp only[z10v];rw[zwt,Nat.add_assoc]
theorem zrb {k m:Nat}(hk:0<k):∀ n x,dle k m (2*n) x->dle (2*k) (m+m) n (z7a k n x)
 | 0,x,_=>trivial
 | n+1,x,h=>by
   rw[Nat.mul_add,Nat.mul_one] at h;simp only[dle] at h;rw[dle,zx9 hk,zxa hk];refine⟨by omega,zrb hk n _ ?_⟩;rw[zwt];exact h.2.2
theorem z131 {k m:Nat}(hm:m+m<2^k):∀ n x,dle k m (2*n+1) x->((x / 2^k+x) &&& zln k n)=z7a k n x
 | 0,x,_=>by simp only[zln,Nat.and_zero,z7a]
 | n + 1,x,h=>by
   have e2:2*(n+1)+1=(2*n+1)+1+1:=by omega
   rw[e2] at h;simp only[dle] at h;obtain⟨h0,h1,h2⟩:=h;have ih:=z131 hm n (x / 2^k / 2^k) h2;have h3:=h2.1;have d0:=Nat.mod_add_div x (2^k);have d1:=Nat.mod_add_div (x / 2^k) (2^k);have d2:=Nat.mod_add_div (x / 2^k / 2^k) (2^k);have hB:=Nat.two_pow_pos k;have e:x / 2^k+x=((x % 2^k+x / 2^k % 2^k)+2^k*(x / 2^k % 2^k+x / 2^k / 2^k % 2^k))+2^(2*k)*(x / 2^k / 2^k / 2^k+x / 2^k / 2^k):=by
    rw[zem];generalize 2^k=B at *;generalize x / B / B / B=r2 at *;generalize x / B / B % B=c at *;generalize x / B / B=r1 at *;generalize x / B % B=b at *;generalize x / B=r0 at *;generalize x % B=a at *;subst d0;subst d2;subst d1;simp only[Nat.mul_add,Nat.mul_assoc];omega
   have hlt:(x % 2^k+x / 2^k % 2^k)+2^k*(x / 2^k % 2^k+x / 2^k / 2^k % 2^k)<2^(2*k):=by
    have g1:x % 2^k+x / 2^k % 2^k<2^k:=by omega
    have g2:x / 2^k % 2^k+x / 2^k / 2^k % 2^k+1<=2^k:=by omega
    have g3:=Nat.mul_le_mul_left (2^k) g2;rw[Nat.mul_add,Nat.mul_one] at g3;rw[zem];omega
   have hs:=zzb (j:=2*k) (b:=x / 2^k / 2^k / 2^k+x / 2^k / 2^k) (d:=zln k n) hlt (z1e0 (k:=k));rw[e,zln,hs,Nat.and_two_pow_sub_one_eq_mod,Nat.add_mul_mod_self_left,Nat.mod_eq_of_lt (by omega),ih,z7a,zwt]
theorem zku {k:Nat}(hk:0<k):∀ n x,z7a k n x<2^(2*k*n)
 | 0,x=>by simp only[z7a,Nat.mul_zero,Nat.pow_zero];omega
 | n+1,x=>by
   have h:=zwp hk x (x / 2^k);have ih:=zku hk n (x / 2^(2*k));rw[z7a,Nat.mul_add,Nat.mul_one,Nat.pow_add,Nat.mul_comm (2^(2*k*n))];have g:=Nat.mul_le_mul_left (2^(2*k)) (show z7a k n (x / 2^(2*k))+1<=2^(2*k*n) from ih);rw[Nat.mul_add,Nat.mul_one] at g;omega
theorem z147 {k m:Nat}:∀ n x,dle k m n x->x<2^(k*n)->dle k m (n+1) x
 | 0,x,_,h=>by
   simp only[Nat.mul_zero,Nat.pow_zero] at h;have:x=0:=by omega
   subst this;simp only[dle,Nat.zero_mod];exact⟨Nat.zero_le _,trivial⟩
 | n+1,x,hd,h=>by
   refine⟨hd.1,z147 n _ hd.2 ?_⟩;rw[Nat.mul_add,Nat.mul_one,Nat.pow_add,Nat.mul_comm] at h;exact Nat.div_lt_of_lt_mul h
def pop:Nat->Nat->Nat
 | 0,_=>0
 | n+1,x=>x % 2+pop n (x / 2)
theorem z146:∀ n x,z10v 1 n x=pop n x
 | 0,_=>rfl
 | n+1,x=>by
   rw[z10v,pop,z146 n]
theorem z199:∀ n x,dle 1 1 n x
 | 0,_=>trivial
 | n+1,x=>⟨by omega,z199 n _⟩
def fld (x i:Nat):Nat:=x / 256^i % 256
theorem zl4 (x i:Nat):fld x (i+1)=fld (x / 256) i:=by
 unfold fld;rw[Nat.pow_succ,Nat.mul_comm,Nat.div_div_eq_div_mul]
theorem zl3 (x:Nat):fld x 0=x % 256:=by
 unfold fld;rw[Nat.pow_zero,Nat.div_one]
theorem hop {m:Nat}(j:Nat)(hm:m+m<256):∀ i x,(∀ i,fld x i<=m)->fld (x+x / 256^j) i=fld x i+fld x (i+j)
 | 0,x,h=>by
   have h0:=h 0;have hj:=h j;have e0:fld x 0=x % 256:=zl3 x;have ej:fld x j=x / 256^j % 256:=rfl;rw[Nat.zero_add,zl3 (x+x / 256^j),Nat.add_mod,<- e0,<- ej];exact Nat.mod_eq_of_lt (by omega)
 | i + 1,x,h=>by
   have h0:=h 0;have hj:=h j;have e0:fld x 0=x % 256:=zl3 x;have ej:fld x j=x / 256^j % 256:=rfl;have ed:x / 256^j / 256=x / 256 / 256^j:=by rw[Nat.div_div_eq_div_mul,Nat.div_div_eq_div_mul,Nat.mul_comm]
   have e:(x+x / 256^j) / 256=x / 256+x / 256 / 256^j:=by
    rw[<- ed];rw[e0] at h0;rw[ej] at hj;generalize x / 256^j=r at *;omega
   have e1:i+1+j=(i+j)+1:=by omega
   rw[zl4,e,hop j hm i (x / 256) (fun i=>by rw[<- zl4];exact h _),e1,zl4 x i,zl4 x (i+j)]
theorem z191 {m:Nat}:∀ n x,dle 8 m n x->x<2^(8*n)->∀ i,fld x i<=m
 | 0,x,_,hx,i=>by
   simp only[Nat.mul_zero,Nat.pow_zero] at hx;have:x=0:=by omega
   subst this;unfold fld;rw[Nat.zero_div];exact Nat.zero_le _
 | n+1,x,h,hx,0=>by
   rw[zl3];exact h.1
 | n+1,x,h,hx,i+1=>by
   rw[zl4];refine z191 n _ h.2 ?_ i;rw[Nat.mul_add,Nat.mul_one,Nat.pow_add,Nat.mul_comm] at hx;exact Nat.div_lt_of_lt_mul hx
theorem z1cg:∀ n x,z10v 8 (n+1) x=fld x 0+z10v 8 n (x / 256)
 | _,x=>by rw[z10v,zl3]
theorem fold8 {x:Nat}(h:dle 8 8 8 x)(hx:x<18446744073709551616) :
 ((x+x / 256)+(x+x / 256) / 65536+((x+x / 256)+(x+x / 256) / 65536) / 4294967296) % 128=z10v 8 8 x:=by
 have hf:=z191 8 x h (by simp only[Nat.reduceMul,Nat.reducePow];exact hx);have p1:(256:Nat)=256^1:=rfl;have p2:(65536:Nat)=256^2:=rfl;have p4:(4294967296:Nat)=256^4:=rfl;have s1:∀ i,fld (x+x / 256) i=fld x i+fld x (i+1):=fun i=>by
  have:=hop 1 (m:=8) (by omega) i x hf
  rwa [<- p1] at this
 have l1:∀ i,fld (x+x / 256) i<=16:=fun i=>by
  have:=hf i;have:=hf (i+1);rw[s1];omega
 generalize x+x / 256=y at *;have s2:∀ i,fld (y+y / 65536) i=fld y i+fld y (i+2):=fun i=>by
  have:=hop 2 (m:=16) (by omega) i y l1
  rwa [<- p2] at this
 have l2:∀ i,fld (y+y / 65536) i<=32:=fun i=>by
  have:=l1 i;have:=l1 (i+2);rw[s2];omega
 generalize y+y / 65536=z at *;have s3:fld (z+z / 4294967296) 0=fld z 0+fld z (0+4):=by
  have:=hop 4 (m:=32) (by omega) 0 z l2
  rwa [<- p4] at this
 have e:(z+z / 4294967296) % 128=fld (z+z / 4294967296) 0 % 128:=by
  rw[zl3,Nat.mod_mod_of_dvd];exact⟨2,rfl⟩
 have h0:=l2 0;have h4:=l2 4;rw[e,s3,Nat.zero_add,Nat.mod_eq_of_lt (by omega),s2,s2,s1,s1,s1,s1];simp only[z1cg];simp only[<- zl4];simp only[z10v,Nat.zero_add,Nat.reduceAdd];omega
theorem z1ce {x:Nat}(hx:x<1085102592571150096) :
 x+x / 256<18446744073709551616/\(x+x / 256)+(x+x / 256) / 65536<18446744073709551616
 /\ (x+x / 256)+(x+x / 256) / 65536+((x+x / 256)+(x+x / 256) / 65536) / 4294967296<9223372036854775808:=by
 have h1:x+x / 256<1200000000000000000:=by omega
 generalize x+x / 256=y at *;have h2:y+y / 65536<1300000000000000000:=by omega
 generalize y+y / 65536=z at *;refine⟨by omega,by omega,by omega⟩
end
end Go.Proofs.YtgbcebmahbieoaaDoorPx
