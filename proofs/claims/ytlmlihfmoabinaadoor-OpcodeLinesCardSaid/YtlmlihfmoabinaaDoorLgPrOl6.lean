import Derived.Test.YtlmlihfmoabinaaDoorLgPrOl5
import Derived.Test.YtlmlihfmoabinaaDoorLgW
set_option linter.all false
set_option maxRecDepth 100000
namespace Go.Proofs.YtlmlihfmoabinaaDoorLg
noncomputable section
open Go Go.Lift
def z1j:Code:=(Go.Proofs.Tryd.f16.body).getD .skip
def z4l:List (List Nat×List Nat):=[([0],[3,2]),([0,1],[3,5,2]),([0,0,1,1],[12,5,2,3]),([1,0,1,1],[3,5,2]),([0,1,0,1,1],[3,5,2]),([0,0,1,1,1],[19,5,2,3]),([1,0,1,1,1],[3,5,2]),([0,1,0,1,1,1],[3,5,2]),([0,0,1,1,1,1],[28,5,2,3]),([1,0,1,1,1,1],[3,2,5]),([0,1,0,1,1,1,1],[3,2,5]),([0,0,1,1,1,1,1],[36,2,5]),([1,0,1,1,1,1,1],[5]),([0,0,1,0,1,1,1,1,1],[40,39,38,5]),([0,1,0,1,0,1,1,1,1,1],[40,39,38,5]),([0,0,0,1,0,1,0,1,1,1,1,1],[41,38,40,5,39]),([0,1,0,0,1,0,1,0,1,1,1,1,1],[38,40,5,39]),([1,0,1,0,0,1,0,1,0,1,1,1,1,1],[5]),([0,0,0,1,1,0,0,1,0,1,0,1,1,1,1,1],[5,7,40,39,38]),([1,0,0,1,1,0,0,1,0,1,0,1,1,1,1,1],[40,39,38,5]),([0,1,1,0,0,1,0,1,0,1,1,1,1,1],[40,39,38,5]),([1,1,1,0,0,1,0,1,0,1,1,1,1,1],[40,39,38,5]),([1,0,1,0,1,1,1,1,1],[5]),([0,1,1,1,1,1,1],[4]),([1,1,1,1,1,1,1],[4])]
def z3k (N:Nat):Env:=z3v tys glob [(38,zvk N),(36,zzu N),(39,z1ey),(37,z1ez)] [(5,.str)] [] [] false [] []
theorem zzg (N:Nat):EnvOk Go.Proofs.Tryd.prog (z3k N):=zw mixed z1v (FnsOk.cons (z19i N) (FnsOk.cons (z1b5 N) (FnsOk.cons (z1nf glob) (FnsOk.cons (z1ng glob (by kernel_rfl)) (FnsOk.nil))))) (ItsOk.nil)
def zct (N:Nat)(op:(Int×((List UInt8)×(Int×((List UInt8)×((List (List UInt8))×Unit))))))(f:((List UInt8)×(Int×(Bool×(Bool×(Bool×(Bool×Unit)))))))(parts:(List (List UInt8)))(k0:(List (List UInt8))->Option (List UInt8)):Option (List UInt8):=cond f.2.2.1 (cond (decide ((((List.length parts)+1)*16)<=70368744177664)) (k0 (parts++([op.2.1]:List (List UInt8)))) none) (k0 parts)
def zmb (N:Nat)(x:z1h [(2,.box (.pair (.int .i64) (.pair .str (.pair (.int .i64) (.pair .str (.pair (.sl .str) .unit)))))),(0,.box (.pair .str (.pair (.int .i64) (.pair .bool (.pair .bool (.pair .bool (.pair .bool .unit))))))),(1,.row .str)])(K:Ex->List A->Option (List UInt8)):Option (List UInt8):=zct N x.1 x.2.1 x.2.2.1 (fun a2=>(K .normal (mkS [(2,.box (.pair (.int .i64) (.pair .str (.pair (.int .i64) (.pair .str (.pair (.sl .str) .unit)))))),(0,.box (.pair .str (.pair (.int .i64) (.pair .bool (.pair .bool (.pair .bool (.pair .bool .unit))))))),(1,.row .str)] 46 (x.1,x.2.1,a2,()))))
def zm6 (N:Nat):Hd (List UInt8):=fun st K=>(unS [(2,.box (.pair (.int .i64) (.pair .str (.pair (.int .i64) (.pair .str (.pair (.sl .str) .unit)))))),(0,.box (.pair .str (.pair (.int .i64) (.pair .bool (.pair .bool (.pair .bool (.pair .bool .unit))))))),(1,.row .str)] 46 (restr [3,5,2] 0 st)).bind fun x=>zmb N x K
def z10u (N:Nat):Tab (List UInt8):=[]
theorem zzf {N:Nat}{c:Ctx}(hb:Base Go.Proofs.Tryd.prog (z3k N) c):zi Go.Proofs.Tryd.prog c (zf z1j [0,1,1]) (zm6 N) :=
 zd (s:=[(2,.box (.pair (.int .i64) (.pair .str (.pair (.int .i64) (.pair .str (.pair (.sl .str) .unit)))))),(0,.box (.pair .str (.pair (.int .i64) (.pair .bool (.pair .bool (.pair .bool (.pair .bool .unit))))))),(1,.row .str)]) (m:=46) (g:=zmb N) [3,5,2] (za hb N (z10u N) z4l z1j TabOk.nil [0,1,1] _ rfl) (fun x K=>by kernel_rfl)
def zcs (N:Nat)(op:(Int×((List UInt8)×(Int×((List UInt8)×((List (List UInt8))×Unit))))))(f:((List UInt8)×(Int×(Bool×(Bool×(Bool×(Bool×Unit)))))))(parts:(List (List UInt8)))(k0:(List (List UInt8))->Option (List UInt8)):Option (List UInt8):=cond f.2.2.2.1 ((zrx N op.2.2.2.1).bind fun y=>cond (decide ((1+(List.length y))<=9223372036854775807)) (cond (decide ((((List.length parts)+1)*16)<=70368744177664)) (k0 (parts++([(([(120:UInt8)]:List UInt8)++y)]:List (List UInt8)))) none) none) (k0 parts)
def zma (N:Nat)(x:z1h [(2,.box (.pair (.int .i64) (.pair .str (.pair (.int .i64) (.pair .str (.pair (.sl .str) .unit)))))),(0,.box (.pair .str (.pair (.int .i64) (.pair .bool (.pair .bool (.pair .bool (.pair .bool .unit))))))),(1,.row .str)])(K:Ex->List A->Option (List UInt8)):Option (List UInt8):=zcs N x.1 x.2.1 x.2.2.1 (fun a2=>(K .normal (mkS [(2,.box (.pair (.int .i64) (.pair .str (.pair (.int .i64) (.pair .str (.pair (.sl .str) .unit)))))),(0,.box (.pair .str (.pair (.int .i64) (.pair .bool (.pair .bool (.pair .bool (.pair .bool .unit))))))),(1,.row .str)] 46 (x.1,x.2.1,a2,()))))
def zm5 (N:Nat):Hd (List UInt8):=fun st K=>(unS [(2,.box (.pair (.int .i64) (.pair .str (.pair (.int .i64) (.pair .str (.pair (.sl .str) .unit)))))),(0,.box (.pair .str (.pair (.int .i64) (.pair .bool (.pair .bool (.pair .bool (.pair .bool .unit))))))),(1,.row .str)] 46 (restr [3,5,2] 0 st)).bind fun x=>zma N x K
def z10t (N:Nat):Tab (List UInt8):=[]
theorem zze {N:Nat}{c:Ctx}(hb:Base Go.Proofs.Tryd.prog (z3k N) c):zi Go.Proofs.Tryd.prog c (zf z1j [0,1,1,1]) (zm5 N) :=
 zd (s:=[(2,.box (.pair (.int .i64) (.pair .str (.pair (.int .i64) (.pair .str (.pair (.sl .str) .unit)))))),(0,.box (.pair .str (.pair (.int .i64) (.pair .bool (.pair .bool (.pair .bool (.pair .bool .unit))))))),(1,.row .str)]) (m:=46) (g:=zma N) [3,5,2] (za hb N (z10t N) z4l z1j TabOk.nil [0,1,1,1] _ rfl) (fun x K=>by kernel_rfl)
def zcr (N:Nat)(op:(Int×((List UInt8)×(Int×((List UInt8)×((List (List UInt8))×Unit))))))(f:((List UInt8)×(Int×(Bool×(Bool×(Bool×(Bool×Unit)))))))(parts:(List (List UInt8)))(k0:(List (List UInt8))->Option (List UInt8)):Option (List UInt8):=cond f.2.2.2.2.1 ((z1be (op.2.2.1,())).bind fun y=>cond (decide ((((List.length parts)+1)*16)<=70368744177664)) (k0 (parts++([y]:List (List UInt8)))) none) (k0 parts)
def zm9 (N:Nat)(x:z1h [(2,.box (.pair (.int .i64) (.pair .str (.pair (.int .i64) (.pair .str (.pair (.sl .str) .unit)))))),(0,.box (.pair .str (.pair (.int .i64) (.pair .bool (.pair .bool (.pair .bool (.pair .bool .unit))))))),(1,.row .str)])(K:Ex->List A->Option (List UInt8)):Option (List UInt8):=zcr N x.1 x.2.1 x.2.2.1 (fun a2=>(K .normal (mkS [(2,.box (.pair (.int .i64) (.pair .str (.pair (.int .i64) (.pair .str (.pair (.sl .str) .unit)))))),(0,.box (.pair .str (.pair (.int .i64) (.pair .bool (.pair .bool (.pair .bool (.pair .bool .unit))))))),(1,.row .str)] 46 (x.1,x.2.1,a2,()))))
def zm4 (N:Nat):Hd (List UInt8):=fun st K=>(unS [(2,.box (.pair (.int .i64) (.pair .str (.pair (.int .i64) (.pair .str (.pair (.sl .str) .unit)))))),(0,.box (.pair .str (.pair (.int .i64) (.pair .bool (.pair .bool (.pair .bool (.pair .bool .unit))))))),(1,.row .str)] 46 (restr [3,5,2] 0 st)).bind fun x=>zm9 N x K
def z10s (N:Nat):Tab (List UInt8):=[]
theorem zzd {N:Nat}{c:Ctx}(hb:Base Go.Proofs.Tryd.prog (z3k N) c):zi Go.Proofs.Tryd.prog c (zf z1j [0,1,1,1,1]) (zm4 N) :=
 zd (s:=[(2,.box (.pair (.int .i64) (.pair .str (.pair (.int .i64) (.pair .str (.pair (.sl .str) .unit)))))),(0,.box (.pair .str (.pair (.int .i64) (.pair .bool (.pair .bool (.pair .bool (.pair .bool .unit))))))),(1,.row .str)]) (m:=46) (g:=zm9 N) [3,5,2] (za hb N (z10s N) z4l z1j TabOk.nil [0,1,1,1,1] _ rfl) (fun x K=>by kernel_rfl)
def zcp (N:Nat)(x38:(List (List UInt8)))(x39:Int)(parts:(List (List UInt8)))(x40:Int)(rec:(List (List UInt8))->Int->Option (List UInt8))(k0:(List (List UInt8))->Option (List UInt8)):Option (List UInt8):=cond (decide (x40<x39)) (cond (Go.Lift.inR x40 (List.length x38)) ((zh1 N (List.getD x38 (Int.toNat x40) [])).bind fun y=>cond (decide ((((List.length parts)+1)*16)<=70368744177664)) (rec (parts++([y]:List (List UInt8))) (Go.IntKind.wrap Go.IntKind.i64 (x40+1))) none) none) (k0 parts)
def z8n (N:Nat)(parts:(List (List UInt8)))(x38:(List (List UInt8)))(x39:Int)(x40:Int)(k0:(List (List UInt8))->Option (List UInt8)):Option (List UInt8):=iter (fun (v:((List (List UInt8))×Int)) r=>zcp N x38 x39 v.1 v.2 (fun parts x40=>(r (parts,x40))) k0) N (parts,x40)
def zm7 (N:Nat)(i:((List (List UInt8))×Int))(v:((List (List UInt8))×Int))(r:((List (List UInt8))×Int)->Option (List UInt8))(K:Ex->List A->Option (List UInt8)):Option (List UInt8):=zcp N i.1 i.2 v.1 v.2 (fun parts x40=>(r (parts,x40))) (fun a0=>(K (.exit 0) (mkS [(5,.row .str)] 46 (a0,()))))
def zm2 (N:Nat):Hd (List UInt8):=fun st K=>(unS [(5,.row .str),(32,.v (.sl .str)),(0,.v (.int .i64)),(0,.v (.int .i64))] 11 (restr [40,39,38,5] 0 st)).bind fun x=>iter (fun v r=>zm7 N ((fun x=>(x.2.1,x.2.2.1)) x) v r K) N ((fun x=>(x.1,x.2.2.2.1)) x)
def z10q (N:Nat):Tab (List UInt8):=[]
theorem zzb {N:Nat}{c:Ctx}(hb:Base Go.Proofs.Tryd.prog (z3k N) c):zi Go.Proofs.Tryd.prog c (zf z1j [0,1,0,1,0,1,1,1,1,1]) (zm2 N) :=
 z3z (s:=[(5,.row .str),(32,.v (.sl .str)),(0,.v (.int .i64)),(0,.v (.int .i64))]) (m:=11) (zm7 N) [40,39,38,5] N (fun x=>(x.2.1,x.2.2.1)) (fun x=>(x.1,x.2.2.2.1)) (fun i v=>(v.1,i.1,i.2,v.2,())) (fun _=>rfl) (za hb N (z10q N) z4l z1j TabOk.nil [0,0,1,0,1,0,1,1,1,1,1] _ rfl) (fun i v r K=>by kernel_rfl)
def zcq (N:Nat)(op:(Int×((List UInt8)×(Int×((List UInt8)×((List (List UInt8))×Unit))))))(f:((List UInt8)×(Int×(Bool×(Bool×(Bool×(Bool×Unit)))))))(parts:(List (List UInt8)))(k0:(List (List UInt8))->Option (List UInt8)):Option (List UInt8):=cond f.2.2.2.2.2.1 (z8n N parts op.2.2.2.2.1 (List.length op.2.2.2.2.1:Int) 0 (fun zm1=>k0 zm1)) (k0 parts)
def zm8 (N:Nat)(x:z1h [(2,.box (.pair (.int .i64) (.pair .str (.pair (.int .i64) (.pair .str (.pair (.sl .str) .unit)))))),(0,.box (.pair .str (.pair (.int .i64) (.pair .bool (.pair .bool (.pair .bool (.pair .bool .unit))))))),(1,.row .str)])(K:Ex->List A->Option (List UInt8)):Option (List UInt8):=zcq N x.1 x.2.1 x.2.2.1 (fun a0=>(K .normal (mkS [(5,.row .str)] 46 (a0,()))))
def zm3 (N:Nat):Hd (List UInt8):=fun st K=>(unS [(2,.box (.pair (.int .i64) (.pair .str (.pair (.int .i64) (.pair .str (.pair (.sl .str) .unit)))))),(0,.box (.pair .str (.pair (.int .i64) (.pair .bool (.pair .bool (.pair .bool (.pair .bool .unit))))))),(1,.row .str)] 46 (restr [3,2,5] 0 st)).bind fun x=>zm8 N x K
def z10r (N:Nat):Tab (List UInt8):=[([0,1,0,1,0,1,1,1,1,1],zm2 N)]
theorem zzc {N:Nat}{c:Ctx}(hb:Base Go.Proofs.Tryd.prog (z3k N) c):zi Go.Proofs.Tryd.prog c (zf z1j [0,1,1,1,1,1]) (zm3 N) :=
 zd (s:=[(2,.box (.pair (.int .i64) (.pair .str (.pair (.int .i64) (.pair .str (.pair (.sl .str) .unit)))))),(0,.box (.pair .str (.pair (.int .i64) (.pair .bool (.pair .bool (.pair .bool (.pair .bool .unit))))))),(1,.row .str)]) (m:=46) (g:=zm8 N) [3,2,5] (za hb N (z10r N) z4l z1j (TabOk.cons (zzb hb) TabOk.nil) [0,1,1,1,1,1] _ rfl) (fun x K=>by kernel_rfl)
def z9x (N:Nat)(op:(Int×((List UInt8)×(Int×((List UInt8)×((List (List UInt8))×Unit))))))(f:((List UInt8)×(Int×(Bool×(Bool×(Bool×(Bool×Unit))))))):Option (List UInt8):=zct N op f ([f.1]:List (List UInt8)) (fun parts=>zcs N op f parts (fun zm1=>zcr N op f zm1 (fun zvn=>zcq N op f zvn (fun parts3=>(zwl (parts3,(([(32:UInt8)]:List UInt8),()))).bind fun y=>some y))))
def zno (N:Nat):Tab (List UInt8):=[([0,1,1],zm6 N),([0,1,1,1],zm5 N),([0,1,1,1,1],zm4 N),([0,1,1,1,1,1],zm3 N)]
theorem zxw (N:Nat)(x:z1h [(0,.v (.pair (.int .i64) (.pair .str (.pair (.int .i64) (.pair .str (.pair (.sl .str) .unit)))))),(0,.v (.pair .str (.pair (.int .i64) (.pair .bool (.pair .bool (.pair .bool (.pair .bool .unit)))))))]):zc5 (z3k N) N (zno N) z4l Go.Proofs.Tryd.f16 (mkS [(0,.v (.pair (.int .i64) (.pair .str (.pair (.int .i64) (.pair .str (.pair (.sl .str) .unit)))))),(0,.v (.pair .str (.pair (.int .i64) (.pair .bool (.pair .bool (.pair .bool (.pair .bool .unit)))))))] 0 x) (z40 (.v .str) 2)=z9x N x.1 x.2.1:=by kernel_rfl
def zl2 (N:Nat):List A->Res:=z2c [(0,.v (.pair (.int .i64) (.pair .str (.pair (.int .i64) (.pair .str (.pair (.sl .str) .unit)))))),(0,.v (.pair .str (.pair (.int .i64) (.pair .bool (.pair .bool (.pair .bool (.pair .bool .unit)))))))] (fun x=>z9x N x.1 x.2.1) (zbc (.v .str) 2)
theorem z10v (N:Nat):Contract Go.Proofs.Tryd.prog glob 16 (zl2 N) :=
 Contract.of (E:=z3k N) (H:=zno N) (L:=z4l) (N:=N) (body:=z1j) (K:=(z40 (.v .str) 2)) (zzg N) Go.Proofs.Tryd.func16 (by kernel_rfl) (by decide) (fun _ hb=>(TabOk.cons (zzf hb) (TabOk.cons (zze hb) (TabOk.cons (zzd hb) (TabOk.cons (zzc hb) TabOk.nil))))) (fun x y h=>by rw[zxw];exact h) (z1c (s:=(.v .str)) (m:=2))
def z71:Code:=(Go.Proofs.Tryd.f7.body).getD .skip
def zgw:List (List Nat×List Nat):=[([0],[1]),([0,1],[5,1,4]),([0,0,1,1],[19,1,4]),([1,0,1,1],[1,4]),([0,0,1,0,1,1],[2,3]),([1,0,1,0,1,1],[2,3]),([0,1,1,1],[2,3]),([1,1,1,1],[2,3])]
def zbw (N:Nat):Env:=z3v tys glob [(16,zl2 N),(15,zro N),(14,zmg N)] [] [] [] false [] []
theorem z156 (N:Nat):EnvOk Go.Proofs.Tryd.prog (zbw N):=zw mixed z1v (FnsOk.cons (z10v N) (FnsOk.cons (z17b N) (FnsOk.cons (z12v N) (FnsOk.nil)))) (ItsOk.nil)
def zlg (N:Nat)(op:(Int×((List UInt8)×(Int×((List UInt8)×((List (List UInt8))×Unit))))))(f:((List UInt8)×(Int×(Bool×(Bool×(Bool×(Bool×Unit)))))))(ok:Bool)(k0:Bool->Option ((List UInt8)×Bool×Unit)):Option ((List UInt8)×Bool×Unit):=cond (!ok) (k0 true) ((zjt N op f).bind fun y=>k0 (!y))
def zw5 (N:Nat)(x:z1h [(1,.box (.pair (.int .i64) (.pair .str (.pair (.int .i64) (.pair .str (.pair (.sl .str) .unit)))))),(2,.box (.pair .str (.pair (.int .i64) (.pair .bool (.pair .bool (.pair .bool (.pair .bool .unit))))))),(0,.v .bool)])(K:Ex->List A->Option ((List UInt8)×Bool×Unit)):Option ((List UInt8)×Bool×Unit):=zlg N x.1 x.2.1 x.2.2.1 (fun a2=>(K .normal (mkS [(1,.box (.pair (.int .i64) (.pair .str (.pair (.int .i64) (.pair .str (.pair (.sl .str) .unit)))))),(2,.box (.pair .str (.pair (.int .i64) (.pair .bool (.pair .bool (.pair .bool (.pair .bool .unit))))))),(14,.v .bool)] 3 (x.1,x.2.1,a2,()))))
def zw3 (N:Nat):Hd ((List UInt8)×Bool×Unit):=fun st K=>(unS [(1,.box (.pair (.int .i64) (.pair .str (.pair (.int .i64) (.pair .str (.pair (.sl .str) .unit)))))),(2,.box (.pair .str (.pair (.int .i64) (.pair .bool (.pair .bool (.pair .bool (.pair .bool .unit))))))),(0,.v .bool)] 17 (restr [5,1,4] 0 st)).bind fun x=>zw5 N x K
def z17c (N:Nat):Tab ((List UInt8)×Bool×Unit):=[]
theorem z154 {N:Nat}{c:Ctx}(hb:Base Go.Proofs.Tryd.prog (zbw N) c):zi Go.Proofs.Tryd.prog c (zf z71 [0,0,1,1]) (zw3 N) :=
 zd (s:=[(1,.box (.pair (.int .i64) (.pair .str (.pair (.int .i64) (.pair .str (.pair (.sl .str) .unit)))))),(2,.box (.pair .str (.pair (.int .i64) (.pair .bool (.pair .bool (.pair .bool (.pair .bool .unit))))))),(0,.v .bool)]) (m:=17) (g:=zw5 N) [5,1,4] (za hb N (z17c N) zgw z71 TabOk.nil [0,0,1,1] _ rfl) (fun x K=>by kernel_rfl)
def zlh (N:Nat)(op:(Int×((List UInt8)×(Int×((List UInt8)×((List (List UInt8))×Unit))))))(f:((List UInt8)×(Int×(Bool×(Bool×(Bool×(Bool×Unit)))))))(ok:Bool)(k0:(List UInt8)->Bool->Option ((List UInt8)×Bool×Unit))(k1:Option ((List UInt8)×Bool×Unit)):Option ((List UInt8)×Bool×Unit):=zlg N op f ok (fun x19=>cond x19 (k0 [] false) k1)
def zw6 (N:Nat)(x:z1h [(1,.box (.pair (.int .i64) (.pair .str (.pair (.int .i64) (.pair .str (.pair (.sl .str) .unit)))))),(2,.box (.pair .str (.pair (.int .i64) (.pair .bool (.pair .bool (.pair .bool (.pair .bool .unit))))))),(0,.v .bool)])(K:Ex->List A->Option ((List UInt8)×Bool×Unit)):Option ((List UInt8)×Bool×Unit):=zlh N x.1 x.2.1 x.2.2.1 (fun a0 a1=>(K .ret (mkS [(2,.v .str),(0,.v .bool)] 19 (a0,a1,())))) (K .normal (mkS [(1,.box (.pair (.int .i64) (.pair .str (.pair (.int .i64) (.pair .str (.pair (.sl .str) .unit)))))),(2,.box (.pair .str (.pair (.int .i64) (.pair .bool (.pair .bool (.pair .bool (.pair .bool .unit)))))))] 18 (x.1,x.2.1,())))
def zw4 (N:Nat):Hd ((List UInt8)×Bool×Unit):=fun st K=>(unS [(1,.box (.pair (.int .i64) (.pair .str (.pair (.int .i64) (.pair .str (.pair (.sl .str) .unit)))))),(2,.box (.pair .str (.pair (.int .i64) (.pair .bool (.pair .bool (.pair .bool (.pair .bool .unit))))))),(0,.v .bool)] 17 (restr [5,1,4] 0 st)).bind fun x=>zw6 N x K
def z17d (N:Nat):Tab ((List UInt8)×Bool×Unit):=[([0,0,1,1],zw3 N)]
theorem z155 {N:Nat}{c:Ctx}(hb:Base Go.Proofs.Tryd.prog (zbw N) c):zi Go.Proofs.Tryd.prog c (zf z71 [0,1,1]) (zw4 N) :=
 zd (s:=[(1,.box (.pair (.int .i64) (.pair .str (.pair (.int .i64) (.pair .str (.pair (.sl .str) .unit)))))),(2,.box (.pair .str (.pair (.int .i64) (.pair .bool (.pair .bool (.pair .bool (.pair .bool .unit))))))),(0,.v .bool)]) (m:=17) (g:=zw6 N) [5,1,4] (za hb N (z17d N) zgw z71 (TabOk.cons (z154 hb) TabOk.nil) [0,1,1] _ rfl) (fun x K=>by kernel_rfl)
def zb0 (N:Nat)(op:(Int×((List UInt8)×(Int×((List UInt8)×((List (List UInt8))×Unit)))))):Option ((List UInt8)×Bool×Unit):=(zbu N op.1).bind fun y=>zlh N op y.1 y.2.1 (fun x2 x3=>some (x2,(x3,()))) ((z9x N op y.1).bind fun y1=>some (y1,(true,())))
def zzr (N:Nat):Tab ((List UInt8)×Bool×Unit):=[([0,1,1],zw4 N)]
theorem z131 (N:Nat)(x:z1h [(0,.v (.pair (.int .i64) (.pair .str (.pair (.int .i64) (.pair .str (.pair (.sl .str) .unit))))))]):zc5 (zbw N) N (zzr N) zgw Go.Proofs.Tryd.f7 (mkS [(0,.v (.pair (.int .i64) (.pair .str (.pair (.int .i64) (.pair .str (.pair (.sl .str) .unit))))))] 0 x) (z40 (.tup [.str,.bool]) 1)=zb0 N x.1:=by kernel_rfl
def zbv (N:Nat):List A->Res:=z2c [(0,.v (.pair (.int .i64) (.pair .str (.pair (.int .i64) (.pair .str (.pair (.sl .str) .unit))))))] (fun x=>zb0 N x.1) (zbc (.tup [.str,.bool]) 1)
theorem zli (N:Nat):Contract Go.Proofs.Tryd.prog glob 7 (zbv N) :=
 Contract.of (E:=zbw N) (H:=zzr N) (L:=zgw) (N:=N) (body:=z71) (K:=(z40 (.tup [.str,.bool]) 1)) (z156 N) Go.Proofs.Tryd.func7 (by kernel_rfl) (by decide) (fun _ hb=>(TabOk.cons (z155 hb) TabOk.nil)) (fun x y h=>by rw[z131];exact h) (z1c (s:=(.tup [.str,.bool])) (m:=1))
def z67:Code:=(Go.Proofs.Tryd.f9.body).getD .skip
def zd3:List (List Nat×List Nat):=[([0],[0,2]),([0,1],[4,0,2]),([0,0,1,1],[6,5,0,2,4]),([0,1,0,1,1],[20,2,4]),([1,1,0,1,1],[4,2]),([0,0,1,1,0,1,1],[2,3]),([1,0,1,1,0,1,1],[2,3]),([0,1,1,1],[2,3]),([1,1,1,1],[2,3])]
def za5 (N:Nat):Env:=z3v tys glob [(7,zbv N),(22,zrk N)] [] [] [] false [] []
theorem z130 (N:Nat):EnvOk Go.Proofs.Tryd.prog (za5 N):=zw mixed z1v (FnsOk.cons (zli N) (FnsOk.cons (z17a N) (FnsOk.nil))) (ItsOk.nil)
def zju (N:Nat)(s:(List UInt8))(x2:(Int×((List UInt8)×(Int×((List UInt8)×((List (List UInt8))×Unit))))))(op:(Int×((List UInt8)×(Int×((List UInt8)×((List (List UInt8))×Unit))))))(line:(List UInt8))(ok:Bool)(k0:Bool->Option ((Int×((List UInt8)×(Int×((List UInt8)×((List (List UInt8))×Unit)))))×Bool×Unit)):Option ((Int×((List UInt8)×(Int×((List UInt8)×((List (List UInt8))×Unit)))))×Bool×Unit):=cond (!ok) (k0 true) (k0 (!(line == s)))
def zrr (N:Nat)(x:z1h [(0,.v .str),(1,.box (.pair (.int .i64) (.pair .str (.pair (.int .i64) (.pair .str (.pair (.sl .str) .unit)))))),(1,.box (.pair (.int .i64) (.pair .str (.pair (.int .i64) (.pair .str (.pair (.sl .str) .unit)))))),(0,.v .str),(0,.v .bool)])(K:Ex->List A->Option ((Int×((List UInt8)×(Int×((List UInt8)×((List (List UInt8))×Unit)))))×Bool×Unit)):Option ((Int×((List UInt8)×(Int×((List UInt8)×((List (List UInt8))×Unit)))))×Bool×Unit):=zju N x.1 x.2.1 x.2.2.1 x.2.2.2.1 x.2.2.2.2.1 (fun a2=>(K .normal (mkS [(2,.box (.pair (.int .i64) (.pair .str (.pair (.int .i64) (.pair .str (.pair (.sl .str) .unit)))))),(1,.box (.pair (.int .i64) (.pair .str (.pair (.int .i64) (.pair .str (.pair (.sl .str) .unit)))))),(15,.v .bool)] 2 (x.2.1,x.2.2.1,a2,()))))
def zrp (N:Nat):Hd ((Int×((List UInt8)×(Int×((List UInt8)×((List (List UInt8))×Unit)))))×Bool×Unit):=fun st K=>(unS [(0,.v .str),(1,.box (.pair (.int .i64) (.pair .str (.pair (.int .i64) (.pair .str (.pair (.sl .str) .unit)))))),(1,.box (.pair (.int .i64) (.pair .str (.pair (.int .i64) (.pair .str (.pair (.sl .str) .unit)))))),(0,.v .str),(0,.v .bool)] 16 (restr [6,5,0,2,4] 0 st)).bind fun x=>zrr N x K
def z152 (N:Nat):Tab ((Int×((List UInt8)×(Int×((List UInt8)×((List (List UInt8))×Unit)))))×Bool×Unit):=[]
theorem z12y {N:Nat}{c:Ctx}(hb:Base Go.Proofs.Tryd.prog (za5 N) c):zi Go.Proofs.Tryd.prog c (zf z67 [0,1,0,1,1]) (zrp N) :=
 zd (s:=[(0,.v .str),(1,.box (.pair (.int .i64) (.pair .str (.pair (.int .i64) (.pair .str (.pair (.sl .str) .unit)))))),(1,.box (.pair (.int .i64) (.pair .str (.pair (.int .i64) (.pair .str (.pair (.sl .str) .unit)))))),(0,.v .str),(0,.v .bool)]) (m:=16) (g:=zrr N) [6,5,0,2,4] (za hb N (z152 N) zd3 z67 TabOk.nil [0,1,0,1,1] _ rfl) (fun x K=>by kernel_rfl)
def zjv (N:Nat)(s:(List UInt8))(x2:(Int×((List UInt8)×(Int×((List UInt8)×((List (List UInt8))×Unit))))))(op:(Int×((List UInt8)×(Int×((List UInt8)×((List (List UInt8))×Unit))))))(k0:(Int×((List UInt8)×(Int×((List UInt8)×((List (List UInt8))×Unit)))))->Bool->Option ((Int×((List UInt8)×(Int×((List UInt8)×((List (List UInt8))×Unit)))))×Bool×Unit))(k1:Option ((Int×((List UInt8)×(Int×((List UInt8)×((List (List UInt8))×Unit)))))×Bool×Unit)):Option ((Int×((List UInt8)×(Int×((List UInt8)×((List (List UInt8))×Unit)))))×Bool×Unit):=(zb0 N op).bind fun y=>zju N s x2 op y.1 y.2.1 (fun x20=>cond x20 (k0 (0,([],(0,([],([],()))))) false) k1)
def zrs (N:Nat)(x:z1h [(0,.v .str),(1,.box (.pair (.int .i64) (.pair .str (.pair (.int .i64) (.pair .str (.pair (.sl .str) .unit)))))),(1,.box (.pair (.int .i64) (.pair .str (.pair (.int .i64) (.pair .str (.pair (.sl .str) .unit))))))])(K:Ex->List A->Option ((Int×((List UInt8)×(Int×((List UInt8)×((List (List UInt8))×Unit)))))×Bool×Unit)):Option ((Int×((List UInt8)×(Int×((List UInt8)×((List (List UInt8))×Unit)))))×Bool×Unit):=zjv N x.1 x.2.1 x.2.2.1 (fun a0 a1=>(K .ret (mkS [(2,.box (.pair (.int .i64) (.pair .str (.pair (.int .i64) (.pair .str (.pair (.sl .str) .unit)))))),(0,.v .bool)] 19 (a0,a1,())))) (K .normal (mkS [(2,.box (.pair (.int .i64) (.pair .str (.pair (.int .i64) (.pair .str (.pair (.sl .str) .unit)))))),(1,.box (.pair (.int .i64) (.pair .str (.pair (.int .i64) (.pair .str (.pair (.sl .str) .unit))))))] 18 (x.2.1,x.2.2.1,())))
def zrq (N:Nat):Hd ((Int×((List UInt8)×(Int×((List UInt8)×((List (List UInt8))×Unit)))))×Bool×Unit):=fun st K=>(unS [(0,.v .str),(1,.box (.pair (.int .i64) (.pair .str (.pair (.int .i64) (.pair .str (.pair (.sl .str) .unit)))))),(1,.box (.pair (.int .i64) (.pair .str (.pair (.int .i64) (.pair .str (.pair (.sl .str) .unit))))))] 18 (restr [4,0,2] 0 st)).bind fun x=>zrs N x K
def z153 (N:Nat):Tab ((Int×((List UInt8)×(Int×((List UInt8)×((List (List UInt8))×Unit)))))×Bool×Unit):=[([0,1,0,1,1],zrp N)]
theorem z12z {N:Nat}{c:Ctx}(hb:Base Go.Proofs.Tryd.prog (za5 N) c):zi Go.Proofs.Tryd.prog c (zf z67 [0,1,1]) (zrq N) :=
 zd (s:=[(0,.v .str),(1,.box (.pair (.int .i64) (.pair .str (.pair (.int .i64) (.pair .str (.pair (.sl .str) .unit)))))),(1,.box (.pair (.int .i64) (.pair .str (.pair (.int .i64) (.pair .str (.pair (.sl .str) .unit))))))]) (m:=18) (g:=zrs N) [4,0,2] (za hb N (z153 N) zd3 z67 (TabOk.cons (z12y hb) TabOk.nil) [0,1,1] _ rfl) (fun x K=>by kernel_rfl)
def z6f (N:Nat)(s:(List UInt8)):Option ((Int×((List UInt8)×(Int×((List UInt8)×((List (List UInt8))×Unit)))))×Bool×Unit):=(z6t N s).bind fun y=>zjv N s (0,([],(0,([],([],()))))) y (fun x2 x3=>some (x2,(x3,()))) (some (y,(true,())))
def zw2 (N:Nat):Tab ((Int×((List UInt8)×(Int×((List UInt8)×((List (List UInt8))×Unit)))))×Bool×Unit):=[([0,1,1],zrq N)]
theorem z111 (N:Nat)(x:z1h [(0,.v .str)]):zc5 (za5 N) N (zw2 N) zd3 Go.Proofs.Tryd.f9 (mkS [(0,.v .str)] 0 x) (z40 (.tup [(.pair (.int .i64) (.pair .str (.pair (.int .i64) (.pair .str (.pair (.sl .str) .unit))))),.bool]) 1)=z6f N x.1:=by kernel_rfl
def zed (N:Nat):List A->Res:=z2c [(0,.v .str)] (fun x=>z6f N x.1) (zbc (.tup [(.pair (.int .i64) (.pair .str (.pair (.int .i64) (.pair .str (.pair (.sl .str) .unit))))),.bool]) 1)
theorem zrt (N:Nat):Contract Go.Proofs.Tryd.prog glob 9 (zed N) :=
 Contract.of (E:=za5 N) (H:=zw2 N) (L:=zd3) (N:=N) (body:=z67) (K:=(z40 (.tup [(.pair (.int .i64) (.pair .str (.pair (.int .i64) (.pair .str (.pair (.sl .str) .unit))))),.bool]) 1)) (z130 N) Go.Proofs.Tryd.func9 (by kernel_rfl) (by decide) (fun _ hb=>(TabOk.cons (z12z hb) TabOk.nil)) (fun x y h=>by rw[z111];exact h) (z1c (s:=(.tup [(.pair (.int .i64) (.pair .str (.pair (.int .i64) (.pair .str (.pair (.sl .str) .unit))))),.bool])) (m:=1))
def zq:Code:=(Go.Proofs.Tryd.f40.body).getD .skip
def z2a:List (List Nat×List Nat):=[([0],[0]),([0,0,1],[13,0]),([1,0,1],[0]),([0,0,1,0,1],[2]),([1,0,1,0,1],[2]),([0,0,1,1],[3,0]),([0,1,0,1,1],[3,0]),([0,0,0,0,1,0,1,1],[17,0,3]),([1,0,0,0,1,0,1,1],[0,3]),([1,1,0,0,0,1,0,1,1],[]),([0,0,0,1,0,0,1,0,1,1],[0,3,4]),([0,1,0,0,1,0,0,1,0,1,1],[4,3,5,0]),([0,1,1,0,0,1,0,0,1,0,1,1],[55,3,0]),([1,1,1,0,0,1,0,0,1,0,1,1],[3,0]),([0,0,1,1,1,0,0,1,0,0,1,0,1,1],[2]),([1,0,1,1,1,0,0,1,0,0,1,0,1,1],[2]),([0,1,0,0,1,0,1,1],[3,0]),([1,1,0,0,1,0,1,1],[3,0]),([1,0,1,1],[]),([0,1,1,1],[2]),([1,1,1,1],[2])]
def z1u (N:Nat):Env:=z3v tys glob [] [] [] [] false [] []
theorem zut (N:Nat):EnvOk Go.Proofs.Tryd.prog (z1u N):=zw mixed z1v (FnsOk.nil) (ItsOk.nil)
def zau (N:Nat)(s:(List UInt8))(k0:Bool->Option Bool):Option Bool:=cond (decide ((List.length s:Int)<1)) (k0 true) (k0 (decide (32<(List.length s:Int))))
def zj9 (N:Nat)(x:z1h [(0,.v .str)])(K:Ex->List A->Option Bool):Option Bool:=zau N x.1 (fun a1=>(K .normal (mkS [(0,.v .str),(12,.v .bool)] 42 (x.1,a1,()))))
def zj2 (N:Nat):Hd Bool:=fun st K=>(unS [(0,.v .str)] 55 (restr [0] 0 st)).bind fun x=>zj9 N x K
def zxr (N:Nat):Tab Bool:=[]
theorem zur {N:Nat}{c:Ctx}(hb:Base Go.Proofs.Tryd.prog (z1u N) c):zi Go.Proofs.Tryd.prog c (zf zq [0,0,1]) (zj2 N) :=
 zd (s:=[(0,.v .str)]) (m:=55) (g:=zj9 N) [0] (za hb N (zxr N) z2a zq TabOk.nil [0,0,1] _ rfl) (fun x K=>by kernel_rfl)
def zav (N:Nat)(s:(List UInt8))(k0:Bool->Option Bool)(k1:Option Bool):Option Bool:=zau N s (fun x13=>cond x13 (k0 false) k1)
def zja (N:Nat)(x:z1h [(0,.v .str)])(K:Ex->List A->Option Bool):Option Bool:=zav N x.1 (fun a0=>(K .ret (mkS [(2,.v .bool)] 53 (a0,())))) (K .normal (mkS [(0,.v .str)] 55 (x.1,())))
def zj3 (N:Nat):Hd Bool:=fun st K=>(unS [(0,.v .str)] 55 (restr [0] 0 st)).bind fun x=>zja N x K
def zxs (N:Nat):Tab Bool:=[([0,0,1],zj2 N)]
theorem zus {N:Nat}{c:Ctx}(hb:Base Go.Proofs.Tryd.prog (z1u N) c):zi Go.Proofs.Tryd.prog c (zf zq [0,1]) (zj3 N) :=
 zd (s:=[(0,.v .str)]) (m:=55) (g:=zja N) [0] (za hb N (zxs N) z2a zq (TabOk.cons (zur hb) TabOk.nil) [0,1] _ rfl) (fun x K=>by kernel_rfl)
def z6r (N:Nat)(s:(List UInt8))(i:Int)(k0:Bool->Option Bool):Option Bool:=cond (Go.Lift.inR i (List.length s)) (cond (decide (97<=(UInt8.toNat (List.getD s (Int.toNat i) (0:UInt8)):Int))) (cond (Go.Lift.inR i (List.length s)) (k0 (decide ((UInt8.toNat (List.getD s (Int.toNat i) (0:UInt8)):Int)<=122))) none) (k0 false)) none
def zj6 (N:Nat)(x:z1h [(0,.v .str),(2,.v (.int .i64))])(K:Ex->List A->Option Bool):Option Bool:=z6r N x.1 x.2.1 (fun a2=>(K .normal (mkS [(0,.v .str),(2,.v (.int .i64)),(0,.v .bool)] 51 (x.1,x.2.1,a2,()))))
def ziz (N:Nat):Hd Bool:=fun st K=>(unS [(0,.v .str),(2,.v (.int .i64))] 52 (restr [0,3] 0 st)).bind fun x=>zj6 N x K
def zxo (N:Nat):Tab Bool:=[]
theorem zuo {N:Nat}{c:Ctx}(hb:Base Go.Proofs.Tryd.prog (z1u N) c):zi Go.Proofs.Tryd.prog c (zf zq [0,0,0,1,0,0,1,0,1,1]) (ziz N) :=
 zd (s:=[(0,.v .str),(2,.v (.int .i64))]) (m:=52) (g:=zj6 N) [0,3] (za hb N (zxo N) z2a zq TabOk.nil [0,0,0,1,0,0,1,0,1,1] _ rfl) (fun x K=>by kernel_rfl)
def z6q (N:Nat)(s:(List UInt8))(i:Int)(small:Bool)(k0:Bool->Option Bool):Option Bool:=cond (Go.Lift.inR i (List.length s)) (cond ((UInt8.toNat (List.getD s (Int.toNat i) (0:UInt8)):Int) == 45) (k0 true) (cond (Go.Lift.inR i (List.length s)) (cond (decide (48<=(UInt8.toNat (List.getD s (Int.toNat i) (0:UInt8)):Int))) (cond (Go.Lift.inR i (List.length s)) (k0 (decide ((UInt8.toNat (List.getD s (Int.toNat i) (0:UInt8)):Int)<=57))) none) (k0 false)) none)) none
def zj5 (N:Nat)(x:z1h [(0,.v .str),(2,.v (.int .i64)),(0,.v .bool)])(K:Ex->List A->Option Bool):Option Bool:=z6q N x.1 x.2.1 x.2.2.1 (fun a3=>(K .normal (mkS [(0,.v .str),(2,.v (.int .i64)),(0,.v .bool),(0,.v .bool)] 50 (x.1,x.2.1,x.2.2.1,a3,()))))
def ziy (N:Nat):Hd Bool:=fun st K=>(unS [(0,.v .str),(2,.v (.int .i64)),(0,.v .bool)] 51 (restr [0,3,4] 0 st)).bind fun x=>zj5 N x K
def zxn (N:Nat):Tab Bool:=[]
theorem zun {N:Nat}{c:Ctx}(hb:Base Go.Proofs.Tryd.prog (z1u N) c):zi Go.Proofs.Tryd.prog c (zf zq [0,1,0,0,1,0,0,1,0,1,1]) (ziy N) :=
 zd (s:=[(0,.v .str),(2,.v (.int .i64)),(0,.v .bool)]) (m:=51) (g:=zj5 N) [0,3,4] (za hb N (zxn N) z2a zq TabOk.nil [0,1,0,0,1,0,0,1,0,1,1] _ rfl) (fun x K=>by kernel_rfl)
def zas (N:Nat)(s:(List UInt8))(i:Int)(small:Bool)(other:Bool)(k0:Bool->Option Bool):Option Bool:=cond (!small) (cond (i == 0) (k0 true) (k0 (!other))) (k0 false)
def zj4 (N:Nat)(x:z1h [(0,.v .str),(2,.v (.int .i64)),(0,.v .bool),(0,.v .bool)])(K:Ex->List A->Option Bool):Option Bool:=zas N x.1 x.2.1 x.2.2.1 x.2.2.2.1 (fun a2=>(K .normal (mkS [(0,.v .str),(2,.v (.int .i64)),(51,.v .bool)] 0 (x.1,x.2.1,a2,()))))
def zix (N:Nat):Hd Bool:=fun st K=>(unS [(0,.v .str),(2,.v (.int .i64)),(0,.v .bool),(0,.v .bool)] 50 (restr [4,3,5,0] 0 st)).bind fun x=>zj4 N x K
def zxm (N:Nat):Tab Bool:=[]
theorem zum {N:Nat}{c:Ctx}(hb:Base Go.Proofs.Tryd.prog (z1u N) c):zi Go.Proofs.Tryd.prog c (zf zq [0,1,1,0,0,1,0,0,1,0,1,1]) (zix N) :=
 zd (s:=[(0,.v .str),(2,.v (.int .i64)),(0,.v .bool),(0,.v .bool)]) (m:=50) (g:=zj4 N) [4,3,5,0] (za hb N (zxm N) z2a zq TabOk.nil [0,1,1,0,0,1,0,0,1,0,1,1] _ rfl) (fun x K=>by kernel_rfl)
def zat (N:Nat)(s:(List UInt8))(i:Int)(k0:Bool->Option Bool)(k1:Option Bool):Option Bool:=z6r N s i (fun small=>z6q N s i small (fun other=>zas N s i small other (fun x55=>cond x55 (k0 false) k1)))
def zj7 (N:Nat)(x:z1h [(0,.v .str),(2,.v (.int .i64))])(K:Ex->List A->Option Bool):Option Bool:=zat N x.1 x.2.1 (fun a0=>(K .ret (mkS [(2,.v .bool)] 53 (a0,())))) (K .normal (mkS [(0,.v .str),(2,.v (.int .i64))] 52 (x.1,x.2.1,())))
def zj0 (N:Nat):Hd Bool:=fun st K=>(unS [(0,.v .str),(2,.v (.int .i64))] 52 (restr [0,3] 0 st)).bind fun x=>zj7 N x K
def zxp (N:Nat):Tab Bool:=[([0,0,0,1,0,0,1,0,1,1],ziz N),([0,1,0,0,1,0,0,1,0,1,1],ziy N),([0,1,1,0,0,1,0,0,1,0,1,1],zix N)]
theorem zup {N:Nat}{c:Ctx}(hb:Base Go.Proofs.Tryd.prog (z1u N) c):zi Go.Proofs.Tryd.prog c (zf zq [0,1,0,0,1,0,1,1]) (zj0 N) :=
 zd (s:=[(0,.v .str),(2,.v (.int .i64))]) (m:=52) (g:=zj7 N) [0,3] (za hb N (zxp N) z2a zq (TabOk.cons (zuo hb) (TabOk.cons (zun hb) (TabOk.cons (zum hb) TabOk.nil))) [0,1,0,0,1,0,1,1] _ rfl) (fun x K=>by kernel_rfl)
def zar (N:Nat)(s:(List UInt8))(i:Int)(rec:Int->Option Bool)(k0:Bool->Option Bool)(k1:Option Bool):Option Bool:=cond (decide (i<(List.length s:Int))) (zat N s i (fun x2=>k0 x2) (rec (Go.IntKind.wrap Go.IntKind.i64 (i+1)))) k1
def ziw (N:Nat)(s:(List UInt8))(i:Int)(k0:Bool->Option Bool)(k1:Option Bool):Option Bool:=iter (fun (v:Int) r=>zar N s v (fun i=>(r i)) k0 k1) N i
def zj8 (N:Nat)(i:(List UInt8))(v:Int)(r:Int->Option Bool)(K:Ex->List A->Option Bool):Option Bool:=zar N i v (fun i=>(r i)) (fun a0=>(K .ret (mkS [(2,.v .bool)] 53 (a0,())))) (K (.exit 0) (mkS [] 56 ()))
def zj1 (N:Nat):Hd Bool:=fun st K=>(unS [(0,.v .str),(2,.v (.int .i64))] 52 (restr [3,0] 0 st)).bind fun x=>iter (fun v r=>zj8 N ((fun x=>x.1) x) v r K) N ((fun x=>x.2.1) x)
def zxq (N:Nat):Tab Bool:=[([0,1,0,0,1,0,1,1],zj0 N)]
theorem zuq {N:Nat}{c:Ctx}(hb:Base Go.Proofs.Tryd.prog (z1u N) c):zi Go.Proofs.Tryd.prog c (zf zq [0,1,0,1,1]) (zj1 N) :=
 z3z (s:=[(0,.v .str),(2,.v (.int .i64))]) (m:=52) (zj8 N) [3,0] N (fun x=>x.1) (fun x=>x.2.1) (fun i v=>(i,v,())) (fun _=>rfl) (za hb N (zxq N) z2a zq (TabOk.cons (zup hb) TabOk.nil) [0,0,1,0,1,1] _ rfl) (fun i v r K=>by kernel_rfl)
def z6z (N:Nat)(s:(List UInt8)):Option Bool:=zav N s (fun x2=>some x2) (ziw N s 0 (fun x21=>some x21) (some true))
def zkv (N:Nat):Tab Bool:=[([0,1],zj3 N),([0,1,0,1,1],zj1 N)]
theorem zr4 (N:Nat)(x:z1h [(0,.v .str)]):zc5 (z1u N) N (zkv N) z2a Go.Proofs.Tryd.f40 (mkS [(0,.v .str)] 0 x) (z40 (.v .bool) 1)=z6z N x.1:=by kernel_rfl
def zgq (N:Nat):List A->Res:=z2c [(0,.v .str)] (fun x=>z6z N x.1) (zbc (.v .bool) 1)
theorem zxt (N:Nat):Contract Go.Proofs.Tryd.prog glob 40 (zgq N) :=
 Contract.of (E:=z1u N) (H:=zkv N) (L:=z2a) (N:=N) (body:=zq) (K:=(z40 (.v .bool) 1)) (zut N) Go.Proofs.Tryd.func40 (by kernel_rfl) (by decide) (fun _ hb=>(TabOk.cons (zus hb) (TabOk.cons (zuq hb) TabOk.nil))) (fun x y h=>by rw[zr4];exact h) (z1c (s:=(.v .bool)) (m:=1))
def zp:Code:=(Go.Proofs.Tryd.f17.body).getD .skip
def z1x:List (List Nat×List Nat):=[([0],[1]),([0,1],[3,1]),([0,0,1,1],[34,3,1]),([1,0,1,1],[3,1]),([0,0,1,0,1,1],[2]),([1,0,1,0,1,1],[2]),([0,0,1,1,1],[51,3,1]),([1,0,1,1,1],[3,1]),([0,0,1,0,1,1,1],[2]),([1,0,1,0,1,1,1],[2]),([0,0,1,1,1,1],[89,1]),([1,0,1,1,1,1],[1]),([0,0,1,0,1,1,1,1],[2]),([1,0,1,0,1,1,1,1],[2]),([0,0,1,1,1,1,1],[4,1]),([0,1,0,1,1,1,1,1],[4,1]),([0,0,0,0,1,0,1,1,1,1,1],[94,1,4]),([1,0,0,0,1,0,1,1,1,1,1],[1,4]),([1,1,0,0,0,1,0,1,1,1,1,1],[]),([0,0,0,1,0,0,1,0,1,1,1,1,1],[103,4,1]),([1,0,0,1,0,0,1,0,1,1,1,1,1],[4,1]),([0,0,1,0,0,1,0,0,1,0,1,1,1,1,1],[2]),([1,0,1,0,0,1,0,0,1,0,1,1,1,1,1],[2]),([0,1,0,0,1,0,1,1,1,1,1],[4,1]),([1,1,0,0,1,0,1,1,1,1,1],[4,1]),([1,0,1,1,1,1,1],[]),([0,1,1,1,1,1,1],[2]),([1,1,1,1,1,1,1],[2])]
def z1q (N:Nat):Env:=z3v tys glob [(40,zgq N)] [] [] [] false [] []
theorem zq2 (N:Nat):EnvOk Go.Proofs.Tryd.prog (z1q N):=zw mixed z1v (FnsOk.cons (zxt N) (FnsOk.nil)) (ItsOk.nil)
def z9a (N:Nat)(op:(Int×((List UInt8)×(Int×((List UInt8)×((List (List UInt8))×Unit))))))(k:Int)(k0:Bool->Option Bool):Option Bool:=cond (decide (k<1)) (k0 true) (cond (decide (9<k)) (k0 true) (cond (decide (op.2.2.1<0)) (k0 true) (cond (decide (1099511627776<op.2.2.1)) (k0 true) (cond (decide (131072<(List.length op.2.2.2.1:Int))) (k0 true) (k0 (decide (64<(List.length op.2.2.2.2.1:Int))))))))
def zf9 (N:Nat)(x:z1h [(1,.box (.pair (.int .i64) (.pair .str (.pair (.int .i64) (.pair .str (.pair (.sl .str) .unit)))))),(1,.v (.int .i64))])(K:Ex->List A->Option Bool):Option Bool:=z9a N x.1 x.2.1 (fun a2=>(K .normal (mkS [(1,.box (.pair (.int .i64) (.pair .str (.pair (.int .i64) (.pair .str (.pair (.sl .str) .unit)))))),(1,.v (.int .i64)),(30,.v .bool)] 69 (x.1,x.2.1,a2,()))))
def zf2 (N:Nat):Hd Bool:=fun st K=>(unS [(1,.box (.pair (.int .i64) (.pair .str (.pair (.int .i64) (.pair .str (.pair (.sl .str) .unit)))))),(1,.v (.int .i64))] 100 (restr [3,1] 0 st)).bind fun x=>zf9 N x K
def zt4 (N:Nat):Tab Bool:=[]
theorem zq0 {N:Nat}{c:Ctx}(hb:Base Go.Proofs.Tryd.prog (z1q N) c):zi Go.Proofs.Tryd.prog c (zf zp [0,0,1,1]) (zf2 N) :=
 zd (s:=[(1,.box (.pair (.int .i64) (.pair .str (.pair (.int .i64) (.pair .str (.pair (.sl .str) .unit)))))),(1,.v (.int .i64))]) (m:=100) (g:=zf9 N) [3,1] (za hb N (zt4 N) z1x zp TabOk.nil [0,0,1,1] _ rfl) (fun x K=>by kernel_rfl)
def z9b (N:Nat)(op:(Int×((List UInt8)×(Int×((List UInt8)×((List (List UInt8))×Unit))))))(k:Int)(k0:Bool->Option Bool)(k1:Option Bool):Option Bool:=z9a N op k (fun x34=>cond x34 (k0 false) k1)
def zfa (N:Nat)(x:z1h [(1,.box (.pair (.int .i64) (.pair .str (.pair (.int .i64) (.pair .str (.pair (.sl .str) .unit)))))),(1,.v (.int .i64))])(K:Ex->List A->Option Bool):Option Bool:=z9b N x.1 x.2.1 (fun a0=>(K .ret (mkS [(2,.v .bool)] 101 (a0,())))) (K .normal (mkS [(1,.box (.pair (.int .i64) (.pair .str (.pair (.int .i64) (.pair .str (.pair (.sl .str) .unit)))))),(1,.v (.int .i64))] 100 (x.1,x.2.1,())))
def zf3 (N:Nat):Hd Bool:=fun st K=>(unS [(1,.box (.pair (.int .i64) (.pair .str (.pair (.int .i64) (.pair .str (.pair (.sl .str) .unit)))))),(1,.v (.int .i64))] 100 (restr [3,1] 0 st)).bind fun x=>zfa N x K
def zt5 (N:Nat):Tab Bool:=[([0,0,1,1],zf2 N)]
theorem zq1 {N:Nat}{c:Ctx}(hb:Base Go.Proofs.Tryd.prog (z1q N) c):zi Go.Proofs.Tryd.prog c (zf zp [0,1,1]) (zf3 N) :=
 zd (s:=[(1,.box (.pair (.int .i64) (.pair .str (.pair (.int .i64) (.pair .str (.pair (.sl .str) .unit)))))),(1,.v (.int .i64))]) (m:=100) (g:=zfa N) [3,1] (za hb N (zt5 N) z1x zp (TabOk.cons (zq0 hb) TabOk.nil) [0,1,1] _ rfl) (fun x K=>by kernel_rfl)
def z98 (N:Nat)(op:(Int×((List UInt8)×(Int×((List UInt8)×((List (List UInt8))×Unit))))))(k:Int)(k0:Bool->Option Bool):Option Bool:=cond (decide (k<=5)) ((z6z N op.2.1).bind fun y=>cond (!y) (k0 true) (cond (decide (5<k)) (k0 (!(op.2.1 == []))) (k0 false))) (cond (decide (5<k)) (k0 (!(op.2.1 == []))) (k0 false))
def zf7 (N:Nat)(x:z1h [(1,.box (.pair (.int .i64) (.pair .str (.pair (.int .i64) (.pair .str (.pair (.sl .str) .unit)))))),(1,.v (.int .i64))])(K:Ex->List A->Option Bool):Option Bool:=z98 N x.1 x.2.1 (fun a2=>(K .normal (mkS [(1,.box (.pair (.int .i64) (.pair .str (.pair (.int .i64) (.pair .str (.pair (.sl .str) .unit)))))),(1,.v (.int .i64)),(47,.v .bool)] 52 (x.1,x.2.1,a2,()))))
def zf0 (N:Nat):Hd Bool:=fun st K=>(unS [(1,.box (.pair (.int .i64) (.pair .str (.pair (.int .i64) (.pair .str (.pair (.sl .str) .unit)))))),(1,.v (.int .i64))] 100 (restr [3,1] 0 st)).bind fun x=>zf7 N x K
def zt2 (N:Nat):Tab Bool:=[]
theorem zpy {N:Nat}{c:Ctx}(hb:Base Go.Proofs.Tryd.prog (z1q N) c):zi Go.Proofs.Tryd.prog c (zf zp [0,0,1,1,1]) (zf0 N) :=
 zd (s:=[(1,.box (.pair (.int .i64) (.pair .str (.pair (.int .i64) (.pair .str (.pair (.sl .str) .unit)))))),(1,.v (.int .i64))]) (m:=100) (g:=zf7 N) [3,1] (za hb N (zt2 N) z1x zp TabOk.nil [0,0,1,1,1] _ rfl) (fun x K=>by kernel_rfl)
def z99 (N:Nat)(op:(Int×((List UInt8)×(Int×((List UInt8)×((List (List UInt8))×Unit))))))(k:Int)(k0:Bool->Option Bool)(k1:Option Bool):Option Bool:=z98 N op k (fun x51=>cond x51 (k0 false) k1)
def zf8 (N:Nat)(x:z1h [(1,.box (.pair (.int .i64) (.pair .str (.pair (.int .i64) (.pair .str (.pair (.sl .str) .unit)))))),(1,.v (.int .i64))])(K:Ex->List A->Option Bool):Option Bool:=z99 N x.1 x.2.1 (fun a0=>(K .ret (mkS [(2,.v .bool)] 101 (a0,())))) (K .normal (mkS [(1,.box (.pair (.int .i64) (.pair .str (.pair (.int .i64) (.pair .str (.pair (.sl .str) .unit)))))),(1,.v (.int .i64))] 100 (x.1,x.2.1,())))
def zf1 (N:Nat):Hd Bool:=fun st K=>(unS [(1,.box (.pair (.int .i64) (.pair .str (.pair (.int .i64) (.pair .str (.pair (.sl .str) .unit)))))),(1,.v (.int .i64))] 100 (restr [3,1] 0 st)).bind fun x=>zf8 N x K
def zt3 (N:Nat):Tab Bool:=[([0,0,1,1,1],zf0 N)]
theorem zpz {N:Nat}{c:Ctx}(hb:Base Go.Proofs.Tryd.prog (z1q N) c):zi Go.Proofs.Tryd.prog c (zf zp [0,1,1,1]) (zf1 N) :=
 zd (s:=[(1,.box (.pair (.int .i64) (.pair .str (.pair (.int .i64) (.pair .str (.pair (.sl .str) .unit)))))),(1,.v (.int .i64))]) (m:=100) (g:=zf8 N) [3,1] (za hb N (zt3 N) z1x zp (TabOk.cons (zpy hb) TabOk.nil) [0,1,1,1] _ rfl) (fun x K=>by kernel_rfl)
def z96 (N:Nat)(op:(Int×((List UInt8)×(Int×((List UInt8)×((List (List UInt8))×Unit))))))(k:Int)(k0:Bool->Option Bool):Option Bool:=cond (k != 1) (cond (k != 2) (cond (k != 6) (cond (!(op.2.2.2.1 == [])) (k0 true) (cond (k != 3) (cond (k != 7) (cond (op.2.2.1 != 0) (k0 true) (cond (k != 5) (k0 (decide (0<(List.length op.2.2.2.2.1:Int)))) (k0 false))) (cond (k != 5) (k0 (decide (0<(List.length op.2.2.2.2.1:Int)))) (k0 false))) (cond (k != 5) (k0 (decide (0<(List.length op.2.2.2.2.1:Int)))) (k0 false)))) (cond (k != 3) (cond (k != 7) (cond (op.2.2.1 != 0) (k0 true) (cond (k != 5) (k0 (decide (0<(List.length op.2.2.2.2.1:Int)))) (k0 false))) (cond (k != 5) (k0 (decide (0<(List.length op.2.2.2.2.1:Int)))) (k0 false))) (cond (k != 5) (k0 (decide (0<(List.length op.2.2.2.2.1:Int)))) (k0 false)))) (cond (k != 3) (cond (k != 7) (cond (op.2.2.1 != 0) (k0 true) (cond (k != 5) (k0 (decide (0<(List.length op.2.2.2.2.1:Int)))) (k0 false))) (cond (k != 5) (k0 (decide (0<(List.length op.2.2.2.2.1:Int)))) (k0 false))) (cond (k != 5) (k0 (decide (0<(List.length op.2.2.2.2.1:Int)))) (k0 false)))) (cond (k != 3) (cond (k != 7) (cond (op.2.2.1 != 0) (k0 true) (cond (k != 5) (k0 (decide (0<(List.length op.2.2.2.2.1:Int)))) (k0 false))) (cond (k != 5) (k0 (decide (0<(List.length op.2.2.2.2.1:Int)))) (k0 false))) (cond (k != 5) (k0 (decide (0<(List.length op.2.2.2.2.1:Int)))) (k0 false)))
def zf5 (N:Nat)(x:z1h [(1,.box (.pair (.int .i64) (.pair .str (.pair (.int .i64) (.pair .str (.pair (.sl .str) .unit)))))),(1,.v (.int .i64))])(K:Ex->List A->Option Bool):Option Bool:=z96 N x.1 x.2.1 (fun a1=>(K .normal (mkS [(1,.box (.pair (.int .i64) (.pair .str (.pair (.int .i64) (.pair .str (.pair (.sl .str) .unit)))))),(87,.v .bool)] 14 (x.1,a1,()))))
def zey (N:Nat):Hd Bool:=fun st K=>(unS [(1,.box (.pair (.int .i64) (.pair .str (.pair (.int .i64) (.pair .str (.pair (.sl .str) .unit)))))),(1,.v (.int .i64))] 100 (restr [3,1] 0 st)).bind fun x=>zf5 N x K
def zt0 (N:Nat):Tab Bool:=[]
theorem zpw {N:Nat}{c:Ctx}(hb:Base Go.Proofs.Tryd.prog (z1q N) c):zi Go.Proofs.Tryd.prog c (zf zp [0,0,1,1,1,1]) (zey N) :=
 zd (s:=[(1,.box (.pair (.int .i64) (.pair .str (.pair (.int .i64) (.pair .str (.pair (.sl .str) .unit)))))),(1,.v (.int .i64))]) (m:=100) (g:=zf5 N) [3,1] (za hb N (zt0 N) z1x zp TabOk.nil [0,0,1,1,1,1] _ rfl) (fun x K=>by kernel_rfl)
def z97 (N:Nat)(op:(Int×((List UInt8)×(Int×((List UInt8)×((List (List UInt8))×Unit))))))(k:Int)(k0:Bool->Option Bool)(k1:Option Bool):Option Bool:=z96 N op k (fun x89=>cond x89 (k0 false) k1)
def zf6 (N:Nat)(x:z1h [(1,.box (.pair (.int .i64) (.pair .str (.pair (.int .i64) (.pair .str (.pair (.sl .str) .unit)))))),(1,.v (.int .i64))])(K:Ex->List A->Option Bool):Option Bool:=z97 N x.1 x.2.1 (fun a0=>(K .ret (mkS [(2,.v .bool)] 101 (a0,())))) (K .normal (mkS [(1,.box (.pair (.int .i64) (.pair .str (.pair (.int .i64) (.pair .str (.pair (.sl .str) .unit))))))] 102 (x.1,())))
def zez (N:Nat):Hd Bool:=fun st K=>(unS [(1,.box (.pair (.int .i64) (.pair .str (.pair (.int .i64) (.pair .str (.pair (.sl .str) .unit)))))),(1,.v (.int .i64))] 100 (restr [3,1] 0 st)).bind fun x=>zf6 N x K
def zt1 (N:Nat):Tab Bool:=[([0,0,1,1,1,1],zey N)]
theorem zpx {N:Nat}{c:Ctx}(hb:Base Go.Proofs.Tryd.prog (z1q N) c):zi Go.Proofs.Tryd.prog c (zf zp [0,1,1,1,1]) (zez N) :=
 zd (s:=[(1,.box (.pair (.int .i64) (.pair .str (.pair (.int .i64) (.pair .str (.pair (.sl .str) .unit)))))),(1,.v (.int .i64))]) (m:=100) (g:=zf6 N) [3,1] (za hb N (zt1 N) z1x zp (TabOk.cons (zpw hb) TabOk.nil) [0,1,1,1,1] _ rfl) (fun x K=>by kernel_rfl)
def z94 (N:Nat)(op:(Int×((List UInt8)×(Int×((List UInt8)×((List (List UInt8))×Unit))))))(i:Int)(rec:Int->Option Bool)(k0:Bool->Option Bool)(k1:Option Bool):Option Bool:=cond (decide (i<(List.length op.2.2.2.2.1:Int))) (cond (Go.Lift.inR i (List.length op.2.2.2.2.1)) (cond (decide (2048<(List.length (List.getD op.2.2.2.2.1 (Int.toNat i) []):Int))) (k0 false) (rec (Go.IntKind.wrap Go.IntKind.i64 (i+1)))) none) k1
def z95 (N:Nat)(op:(Int×((List UInt8)×(Int×((List UInt8)×((List (List UInt8))×Unit))))))(i:Int)(k0:Bool->Option Bool)(k1:Option Bool):Option Bool:=iter (fun (v:Int) r=>z94 N op v (fun i=>(r i)) k0 k1) N i
def zf4 (N:Nat)(i:(Int×((List UInt8)×(Int×((List UInt8)×((List (List UInt8))×Unit))))))(v:Int)(r:Int->Option Bool)(K:Ex->List A->Option Bool):Option Bool:=z94 N i v (fun i=>(r i)) (fun a0=>(K .ret (mkS [(2,.v .bool)] 101 (a0,())))) (K (.exit 0) (mkS [] 104 ()))
def zex (N:Nat):Hd Bool:=fun st K=>(unS [(1,.box (.pair (.int .i64) (.pair .str (.pair (.int .i64) (.pair .str (.pair (.sl .str) .unit)))))),(2,.v (.int .i64))] 99 (restr [4,1] 0 st)).bind fun x=>iter (fun v r=>zf4 N ((fun x=>x.1) x) v r K) N ((fun x=>x.2.1) x)
def zsz (N:Nat):Tab Bool:=[]
theorem zpv {N:Nat}{c:Ctx}(hb:Base Go.Proofs.Tryd.prog (z1q N) c):zi Go.Proofs.Tryd.prog c (zf zp [0,1,0,1,1,1,1,1]) (zex N) :=
 z3z (s:=[(1,.box (.pair (.int .i64) (.pair .str (.pair (.int .i64) (.pair .str (.pair (.sl .str) .unit)))))),(2,.v (.int .i64))]) (m:=99) (zf4 N) [4,1] N (fun x=>x.1) (fun x=>x.2.1) (fun i v=>(i,v,())) (fun _=>rfl) (za hb N (zsz N) z1x zp TabOk.nil [0,0,1,0,1,1,1,1,1] _ rfl) (fun i v r K=>by kernel_rfl)
def z62 (N:Nat)(op:(Int×((List UInt8)×(Int×((List UInt8)×((List (List UInt8))×Unit)))))):Option Bool:=z9b N op op.1 (fun x2=>some x2) (z99 N op op.1 (fun x21=>some x21) (z97 N op op.1 (fun x22=>some x22) (z95 N op 0 (fun x23=>some x23) (some true))))
def zhe (N:Nat):Tab Bool:=[([0,1,1],zf3 N),([0,1,1,1],zf1 N),([0,1,1,1,1],zez N),([0,1,0,1,1,1,1,1],zex N)]
theorem zoc (N:Nat)(x:z1h [(0,.v (.pair (.int .i64) (.pair .str (.pair (.int .i64) (.pair .str (.pair (.sl .str) .unit))))))]):zc5 (z1q N) N (zhe N) z1x Go.Proofs.Tryd.f17 (mkS [(0,.v (.pair (.int .i64) (.pair .str (.pair (.int .i64) (.pair .str (.pair (.sl .str) .unit))))))] 0 x) (z40 (.v .bool) 1)=z62 N x.1:=by kernel_rfl
def zdp (N:Nat):List A->Res:=z2c [(0,.v (.pair (.int .i64) (.pair .str (.pair (.int .i64) (.pair .str (.pair (.sl .str) .unit))))))] (fun x=>z62 N x.1) (zbc (.v .bool) 1)
theorem zt6 (N:Nat):Contract Go.Proofs.Tryd.prog glob 17 (zdp N) :=
 Contract.of (E:=z1q N) (H:=zhe N) (L:=z1x) (N:=N) (body:=zp) (K:=(z40 (.v .bool) 1)) (zq2 N) Go.Proofs.Tryd.func17 (by kernel_rfl) (by decide) (fun _ hb=>(TabOk.cons (zq1 hb) (TabOk.cons (zpz hb) (TabOk.cons (zpx hb) (TabOk.cons (zpv hb) TabOk.nil))))) (fun x y h=>by rw[zoc];exact h) (z1c (s:=(.v .bool)) (m:=1))
def zoi:Code:=(Go.Proofs.Tryd.f18.body).getD .skip
def zhv:List (List Nat×List Nat):=[([0],[0]),([0,1],[3,0]),([0,1,1],[2]),([1,1,1],[2])]
def zag (N:Nat):Env:=z3v tys glob [] [] [] [] false [] []
theorem zqm (N:Nat):EnvOk Go.Proofs.Tryd.prog (zag N):=zw mixed z1v (FnsOk.nil) (ItsOk.nil)
def z39 (N:Nat)(kind:Int):Option (List UInt8):=cond (Go.Lift.inR kind 10) (some (List.getD ([[],([(116:UInt8),(101:UInt8),(110:UInt8),(97:UInt8),(110:UInt8),(116:UInt8)]:List UInt8),([(114:UInt8),(111:UInt8),(116:UInt8),(97:UInt8),(116:UInt8),(101:UInt8)]:List UInt8),([(114:UInt8),(101:UInt8),(116:UInt8),(105:UInt8),(114:UInt8),(101:UInt8)]:List UInt8),([(114:UInt8),(101:UInt8),(118:UInt8),(111:UInt8),(107:UInt8),(101:UInt8)]:List UInt8),([(109:UInt8),(105:UInt8),(110:UInt8),(116:UInt8)]:List UInt8),([(97:UInt8),(115:UInt8),(107:UInt8)]:List UInt8),([(116:UInt8),(105:UInt8),(99:UInt8),(107:UInt8)]:List UInt8),([(99:UInt8),(111:UInt8),(109:UInt8),(112:UInt8),(97:UInt8),(99:UInt8),(116:UInt8)]:List UInt8),([(112:UInt8),(111:UInt8),(119:UInt8),(101:UInt8),(114:UInt8)]:List UInt8)]:List (List UInt8)) (Int.toNat kind) [])) none
def zhu (N:Nat):Tab (List UInt8):=[]
theorem zoh (N:Nat)(x:z1h [(0,.v (.int .i64))]):zc5 (zag N) N (zhu N) zhv Go.Proofs.Tryd.f18 (mkS [(0,.v (.int .i64))] 0 x) (z40 (.v .str) 1)=z39 N x.1:=by kernel_rfl
def z81 (N:Nat):List A->Res:=z2c [(0,.v (.int .i64))] (fun x=>z39 N x.1) (zbc (.v .str) 1)
theorem zg3 (N:Nat):Contract Go.Proofs.Tryd.prog glob 18 (z81 N) :=
 Contract.of (E:=zag N) (H:=zhu N) (L:=zhv) (N:=N) (body:=zoi) (K:=(z40 (.v .str) 1)) (zqm N) Go.Proofs.Tryd.func18 (by kernel_rfl) (by decide) (fun _ hb=>TabOk.nil) (fun x y h=>by rw[zoh];exact h) (z1c (s:=(.v .str)) (m:=1))
def z9p:Code:=(Go.Proofs.Tryd.f19.body).getD .skip
def zco:List (List Nat×List Nat):=[([0],[0]),([0,1],[0,3]),([0,1,1],[0,4,3]),([0,0,1,1,1],[5,0,4,3]),([0,1,0,1,1,1],[5,0,4,3]),([0,0,0,0,1,0,1,1,1],[11,0,5,4,3]),([1,0,0,0,1,0,1,1,1],[0,5,4,3]),([1,1,0,0,0,1,0,1,1,1],[4]),([0,0,0,1,0,0,1,0,1,1,1],[4,3,6,7,5,0]),([1,0,0,1,0,0,1,0,1,1,1],[5,0,4,3]),([0,1,0,0,1,0,1,1,1],[5,0,4,3]),([1,1,0,0,1,0,1,1,1],[5,0,4,3]),([1,0,1,1,1],[4]),([0,1,1,1,1],[2]),([1,1,1,1,1],[2])]
def z8m (N:Nat):Env:=z3v tys glob [] [] [] [] false [] []
theorem zxv (N:Nat):EnvOk Go.Proofs.Tryd.prog (z8m N):=zw mixed z1v (FnsOk.nil) (ItsOk.nil)
def zbm (N:Nat)(s:(List UInt8))(d:(List UInt8))(out:(List UInt8))(i:Int)(rec:(List UInt8)->Int->Option (List UInt8))(k0:(List UInt8)->Option (List UInt8)):Option (List UInt8):=cond (decide (i<(List.length s:Int))) (cond (Go.Lift.inR i (List.length s)) (cond (Go.Lift.inR i (List.length s)) (cond (decide ((0<=(Go.IntKind.wrap Go.IntKind.i64 ((Go.IntKind.wrap Go.IntKind.i64 (Int.tdiv (Go.IntKind.wrap Go.IntKind.i64 (UInt8.toNat (List.getD s (Int.toNat i) (0:UInt8)):Int)) 16))+1)))/\((Go.IntKind.wrap Go.IntKind.i64 ((Go.IntKind.wrap Go.IntKind.i64 (Int.tdiv (Go.IntKind.wrap Go.IntKind.i64 (UInt8.toNat (List.getD s (Int.toNat i) (0:UInt8)):Int)) 16))+1))<=(List.length d:Int)))) (cond (decide ((0<=(Go.IntKind.wrap Go.IntKind.i64 (Int.tdiv (Go.IntKind.wrap Go.IntKind.i64 (UInt8.toNat (List.getD s (Int.toNat i) (0:UInt8)):Int)) 16)))/\((Go.IntKind.wrap Go.IntKind.i64 (Int.tdiv (Go.IntKind.wrap Go.IntKind.i64 (UInt8.toNat (List.getD s (Int.toNat i) (0:UInt8)):Int)) 16))<=(Go.IntKind.wrap Go.IntKind.i64 ((Go.IntKind.wrap Go.IntKind.i64 (Int.tdiv (Go.IntKind.wrap Go.IntKind.i64 (UInt8.toNat (List.getD s (Int.toNat i) (0:UInt8)):Int)) 16))+1))))) (cond (decide (((List.length out)+(List.length (Go.Lift.cut d (Int.toNat (Go.IntKind.wrap Go.IntKind.i64 (Int.tdiv (Go.IntKind.wrap Go.IntKind.i64 (UInt8.toNat (List.getD s (Int.toNat i) (0:UInt8)):Int)) 16))) (Int.toNat (Go.IntKind.wrap Go.IntKind.i64 ((Go.IntKind.wrap Go.IntKind.i64 (Int.tdiv (Go.IntKind.wrap Go.IntKind.i64 (UInt8.toNat (List.getD s (Int.toNat i) (0:UInt8)):Int)) 16))+1))))))<=9223372036854775807)) (cond (decide ((0<=(Go.IntKind.wrap Go.IntKind.i64 ((Int.tmod (Go.IntKind.wrap Go.IntKind.i64 (UInt8.toNat (List.getD s (Int.toNat i) (0:UInt8)):Int)) 16)+1)))/\((Go.IntKind.wrap Go.IntKind.i64 ((Int.tmod (Go.IntKind.wrap Go.IntKind.i64 (UInt8.toNat (List.getD s (Int.toNat i) (0:UInt8)):Int)) 16)+1))<=(List.length d:Int)))) (cond (decide ((0<=(Int.tmod (Go.IntKind.wrap Go.IntKind.i64 (UInt8.toNat (List.getD s (Int.toNat i) (0:UInt8)):Int)) 16))/\((Int.tmod (Go.IntKind.wrap Go.IntKind.i64 (UInt8.toNat (List.getD s (Int.toNat i) (0:UInt8)):Int)) 16)<=(Go.IntKind.wrap Go.IntKind.i64 ((Int.tmod (Go.IntKind.wrap Go.IntKind.i64 (UInt8.toNat (List.getD s (Int.toNat i) (0:UInt8)):Int)) 16)+1))))) (cond (decide (((List.length (out++(Go.Lift.cut d (Int.toNat (Go.IntKind.wrap Go.IntKind.i64 (Int.tdiv (Go.IntKind.wrap Go.IntKind.i64 (UInt8.toNat (List.getD s (Int.toNat i) (0:UInt8)):Int)) 16))) (Int.toNat (Go.IntKind.wrap Go.IntKind.i64 ((Go.IntKind.wrap Go.IntKind.i64 (Int.tdiv (Go.IntKind.wrap Go.IntKind.i64 (UInt8.toNat (List.getD s (Int.toNat i) (0:UInt8)):Int)) 16))+1))))))+(List.length (Go.Lift.cut d (Int.toNat (Int.tmod (Go.IntKind.wrap Go.IntKind.i64 (UInt8.toNat (List.getD s (Int.toNat i) (0:UInt8)):Int)) 16)) (Int.toNat (Go.IntKind.wrap Go.IntKind.i64 ((Int.tmod (Go.IntKind.wrap Go.IntKind.i64 (UInt8.toNat (List.getD s (Int.toNat i) (0:UInt8)):Int)) 16)+1))))))<=9223372036854775807)) (rec ((out++(Go.Lift.cut d (Int.toNat (Go.IntKind.wrap Go.IntKind.i64 (Int.tdiv (Go.IntKind.wrap Go.IntKind.i64 (UInt8.toNat (List.getD s (Int.toNat i) (0:UInt8)):Int)) 16))) (Int.toNat (Go.IntKind.wrap Go.IntKind.i64 ((Go.IntKind.wrap Go.IntKind.i64 (Int.tdiv (Go.IntKind.wrap Go.IntKind.i64 (UInt8.toNat (List.getD s (Int.toNat i) (0:UInt8)):Int)) 16))+1)))))++(Go.Lift.cut d (Int.toNat (Int.tmod (Go.IntKind.wrap Go.IntKind.i64 (UInt8.toNat (List.getD s (Int.toNat i) (0:UInt8)):Int)) 16)) (Int.toNat (Go.IntKind.wrap Go.IntKind.i64 ((Int.tmod (Go.IntKind.wrap Go.IntKind.i64 (UInt8.toNat (List.getD s (Int.toNat i) (0:UInt8)):Int)) 16)+1))))) (Go.IntKind.wrap Go.IntKind.i64 (i+1))) none) none) none) none) none) none) none) none) (k0 out)
def zkw (N:Nat)(s:(List UInt8))(d:(List UInt8))(out:(List UInt8))(i:Int)(k0:(List UInt8)->Option (List UInt8)):Option (List UInt8):=iter (fun (v:((List UInt8)×Int)) r=>zbm N s d v.1 v.2 (fun out i=>(r (out,i))) k0) N (out,i)
def zky (N:Nat)(i:((List UInt8)×(List UInt8)))(v:((List UInt8)×Int))(r:((List UInt8)×Int)->Option (List UInt8))(K:Ex->List A->Option (List UInt8)):Option (List UInt8):=zbm N i.1 i.2 v.1 v.2 (fun out i=>(r (out,i))) (fun a0=>(K (.exit 0) (mkS [(4,.v .str)] 33 (a0,()))))
def zkx (N:Nat):Hd (List UInt8):=fun st K=>(unS [(0,.v .str),(2,.v .str),(0,.v .str),(0,.v (.int .i64))] 32 (restr [5,0,4,3] 0 st)).bind fun x=>iter (fun v r=>zky N ((fun x=>(x.1,x.2.1)) x) v r K) N ((fun x=>(x.2.2.1,x.2.2.2.1)) x)
def zz8 (N:Nat):Tab (List UInt8):=[]
theorem zxu {N:Nat}{c:Ctx}(hb:Base Go.Proofs.Tryd.prog (z8m N) c):zi Go.Proofs.Tryd.prog c (zf z9p [0,1,0,1,1,1]) (zkx N) :=
 z3z (s:=[(0,.v .str),(2,.v .str),(0,.v .str),(0,.v (.int .i64))]) (m:=32) (zky N) [5,0,4,3] N (fun x=>(x.1,x.2.1)) (fun x=>(x.2.2.1,x.2.2.2.1)) (fun i v=>(i.1,i.2,v.1,v.2,())) (fun _=>rfl) (za hb N (zz8 N) zco z9p TabOk.nil [0,0,1,0,1,1,1] _ rfl) (fun i v r K=>by kernel_rfl)
def z64 (N:Nat)(s:(List UInt8)):Option (List UInt8):=zkw N s ([(48:UInt8),(49:UInt8),(50:UInt8),(51:UInt8),(52:UInt8),(53:UInt8),(54:UInt8),(55:UInt8),(56:UInt8),(57:UInt8),(97:UInt8),(98:UInt8),(99:UInt8),(100:UInt8),(101:UInt8),(102:UInt8)]:List UInt8) [] 0 (fun out=>some out)
def zly (N:Nat):Tab (List UInt8):=[([0,1,0,1,1,1],zkx N)]
theorem zuu (N:Nat)(x:z1h [(0,.v .str)]):zc5 (z8m N) N (zly N) zco Go.Proofs.Tryd.f19 (mkS [(0,.v .str)] 0 x) (z40 (.v .str) 1)=z64 N x.1:=by kernel_rfl
def zaw (N:Nat):List A->Res:=z2c [(0,.v .str)] (fun x=>z64 N x.1) (zbc (.v .str) 1)
theorem zkz (N:Nat):Contract Go.Proofs.Tryd.prog glob 19 (zaw N) :=
 Contract.of (E:=z8m N) (H:=zly N) (L:=zco) (N:=N) (body:=z9p) (K:=(z40 (.v .str) 1)) (zxv N) Go.Proofs.Tryd.func19 (by kernel_rfl) (by decide) (fun _ hb=>(TabOk.cons (zxu hb) TabOk.nil)) (fun x y h=>by rw[zuu];exact h) (z1c (s:=(.v .str)) (m:=1))
def zbk:Code:=(Go.Proofs.Tryd.f20.body).getD .skip
def zg5:List (List Nat×List Nat):=[([0],[0]),([0,1],[0,3]),([0,0,1,1],[5,3,0]),([1,0,1,1],[0,3]),([0,0,1,0,1,1],[2]),([1,0,1,0,1,1],[2]),([0,1,1,1],[2]),([1,1,1,1],[2])]
def z9k (N:Nat)(self:Int->Option (List UInt8)):Env:=z3v tys glob [(20,z2c [(0,.v (.int .i64))] (fun x=>self x.1) (zbc (.v .str) 1))] [] [] [] false [] []
theorem zoj (N:Nat)(self:Int->Option (List UInt8))(hself:Contract Go.Proofs.Tryd.prog glob 20 (z2c [(0,.v (.int .i64))] (fun x=>self x.1) (zbc (.v .str) 1))):EnvOk Go.Proofs.Tryd.prog (z9k N self):=zw mixed z1v (FnsOk.cons (hself) (FnsOk.nil)) (ItsOk.nil)
def z9j (N:Nat)(self:Int->Option (List UInt8))(n:Int):Option (List UInt8):=cond (decide (n<10)) (cond (decide ((0<=(Go.IntKind.wrap Go.IntKind.i64 (n+1)))/\((Go.IntKind.wrap Go.IntKind.i64 (n+1))<=10))) (cond (decide ((0<=n)/\(n<=(Go.IntKind.wrap Go.IntKind.i64 (n+1))))) (some (Go.Lift.cut ([(48:UInt8),(49:UInt8),(50:UInt8),(51:UInt8),(52:UInt8),(53:UInt8),(54:UInt8),(55:UInt8),(56:UInt8),(57:UInt8)]:List UInt8) (Int.toNat n) (Int.toNat (Go.IntKind.wrap Go.IntKind.i64 (n+1))))) none) none) ((self (Go.IntKind.wrap Go.IntKind.i64 (Int.tdiv n 10))).bind fun y=>cond (decide ((0<=(Go.IntKind.wrap Go.IntKind.i64 ((Int.tmod n 10)+1)))/\((Go.IntKind.wrap Go.IntKind.i64 ((Int.tmod n 10)+1))<=10))) (cond (decide ((0<=(Int.tmod n 10))/\((Int.tmod n 10)<=(Go.IntKind.wrap Go.IntKind.i64 ((Int.tmod n 10)+1))))) (cond (decide (((List.length y)+(List.length (Go.Lift.cut ([(48:UInt8),(49:UInt8),(50:UInt8),(51:UInt8),(52:UInt8),(53:UInt8),(54:UInt8),(55:UInt8),(56:UInt8),(57:UInt8)]:List UInt8) (Int.toNat (Int.tmod n 10)) (Int.toNat (Go.IntKind.wrap Go.IntKind.i64 ((Int.tmod n 10)+1))))))<=9223372036854775807)) (some (y++(Go.Lift.cut ([(48:UInt8),(49:UInt8),(50:UInt8),(51:UInt8),(52:UInt8),(53:UInt8),(54:UInt8),(55:UInt8),(56:UInt8),(57:UInt8)]:List UInt8) (Int.toNat (Int.tmod n 10)) (Int.toNat (Go.IntKind.wrap Go.IntKind.i64 ((Int.tmod n 10)+1)))))) none) none) none)
def zg4 (N:Nat)(self:Int->Option (List UInt8)):Tab (List UInt8):=[]
theorem zn2 (N:Nat)(self:Int->Option (List UInt8))(x:z1h [(0,.v (.int .i64))]):zc5 (z9k N self) N (zg4 N self) zg5 Go.Proofs.Tryd.f20 (mkS [(0,.v (.int .i64))] 0 x) (z40 (.v .str) 1)=z9j N self x.1:=by kernel_rfl
def z28:Nat->Int->Option (List UInt8)
 | 0=>fun _=>none
 | N+1=>z9j (N+1) (z28 N)
def zcc (N:Nat):List A->Res:=z2c [(0,.v (.int .i64))] (fun x=>z28 N x.1) (zbc (.v .str) 1)
theorem zdw:∀ N:Nat,Contract Go.Proofs.Tryd.prog glob 20 (zcc N)
 | 0=>Contract.zero Go.Proofs.Tryd.func20 (body:=zbk) (by kernel_rfl) (by decide) (fun _=>rfl)
 | N+1=>Contract.of (E:=z9k (N+1) (z28 N)) (H:=zg4 (N+1) (z28 N)) (L:=zg5) (N:=(N+1)) (body:=zbk) (K:=(z40 (.v .str) 1)) (zoj (N+1) (z28 N) (zdw N)) Go.Proofs.Tryd.func20 (by kernel_rfl) (by decide) (fun _ hb=>TabOk.nil) (fun x y h=>by rw[zn2];exact h) (z1c (s:=(.v .str)) (m:=1))
def z24:Code:=(Go.Proofs.Tryd.f69.body).getD .skip
def z55:List (List Nat×List Nat):=[([0],[2,0,1]),([0,0,1],[13,1,2,0]),([1,0,1],[1,2,0]),([0,0,1,0,1],[6]),([1,0,1,0,1],[6]),([0,0,1,1],[7,1,2,0]),([0,1,0,1,1],[7,1,2,0]),([0,0,0,0,1,0,1,1],[19,0,7,1,2]),([1,0,0,0,1,0,1,1],[0,7,1,2]),([1,1,0,0,0,1,0,1,1],[]),([0,0,0,1,0,0,1,0,1,1],[31,7,1,2,0]),([1,0,0,1,0,0,1,0,1,1],[7,1,2,0]),([0,0,1,0,0,1,0,0,1,0,1,1],[6]),([1,0,1,0,0,1,0,0,1,0,1,1],[6]),([0,1,0,0,1,0,1,1],[7,1,2,0]),([1,1,0,0,1,0,1,1],[7,1,2,0]),([1,0,1,1],[]),([0,1,1,1],[6]),([1,1,1,1],[6])]
def z3p (N:Nat):Env:=z3v tys glob [] [] [] [] false [] []
theorem zqq (N:Nat):EnvOk Go.Proofs.Tryd.prog (z3p N):=zw mixed z1v (FnsOk.nil) (ItsOk.nil)
def z9m (N:Nat)(s:(List UInt8))(at_:Int)(n:Int)(i:Int)(k0:Bool->Option Bool):Option Bool:=cond (Go.Lift.inR i (List.length s)) (cond (decide ((UInt8.toNat (List.getD s (Int.toNat i) (0:UInt8)):Int)<128)) (k0 true) (cond (Go.Lift.inR i (List.length s)) (k0 (decide (191<(UInt8.toNat (List.getD s (Int.toNat i) (0:UInt8)):Int)))) none)) none
def zga (N:Nat)(x:z1h [(0,.v .str),(0,.v (.int .i64)),(0,.v (.int .i64)),(4,.v (.int .i64))])(K:Ex->List A->Option Bool):Option Bool:=z9m N x.1 x.2.1 x.2.2.1 x.2.2.2.1 (fun a4=>(K .normal (mkS [(0,.v .str),(0,.v (.int .i64)),(0,.v (.int .i64)),(4,.v (.int .i64)),(23,.v .bool)] 0 (x.1,x.2.1,x.2.2.1,x.2.2.2.1,a4,()))))
def zg7 (N:Nat):Hd Bool:=fun st K=>(unS [(0,.v .str),(0,.v (.int .i64)),(0,.v (.int .i64)),(4,.v (.int .i64))] 24 (restr [0,7,1,2] 0 st)).bind fun x=>zga N x K
def ztu (N:Nat):Tab Bool:=[]
theorem zqn {N:Nat}{c:Ctx}(hb:Base Go.Proofs.Tryd.prog (z3p N) c):zi Go.Proofs.Tryd.prog c (zf z24 [0,0,0,1,0,0,1,0,1,1]) (zg7 N) :=
 zd (s:=[(0,.v .str),(0,.v (.int .i64)),(0,.v (.int .i64)),(4,.v (.int .i64))]) (m:=24) (g:=zga N) [0,7,1,2] (za hb N (ztu N) z55 z24 TabOk.nil [0,0,0,1,0,0,1,0,1,1] _ rfl) (fun x K=>by kernel_rfl)
def z9n (N:Nat)(s:(List UInt8))(at_:Int)(n:Int)(i:Int)(k0:Bool->Option Bool)(k1:Option Bool):Option Bool:=z9m N s at_ n i (fun x31=>cond x31 (k0 false) k1)
def zgb (N:Nat)(x:z1h [(0,.v .str),(0,.v (.int .i64)),(0,.v (.int .i64)),(4,.v (.int .i64))])(K:Ex->List A->Option Bool):Option Bool:=z9n N x.1 x.2.1 x.2.2.1 x.2.2.2.1 (fun a0=>(K .ret (mkS [(6,.v .bool)] 25 (a0,())))) (K .normal (mkS [(0,.v .str),(0,.v (.int .i64)),(0,.v (.int .i64)),(4,.v (.int .i64))] 24 (x.1,x.2.1,x.2.2.1,x.2.2.2.1,())))
def zg8 (N:Nat):Hd Bool:=fun st K=>(unS [(0,.v .str),(0,.v (.int .i64)),(0,.v (.int .i64)),(4,.v (.int .i64))] 24 (restr [0,7,1,2] 0 st)).bind fun x=>zgb N x K
def ztv (N:Nat):Tab Bool:=[([0,0,0,1,0,0,1,0,1,1],zg7 N)]
theorem zqo {N:Nat}{c:Ctx}(hb:Base Go.Proofs.Tryd.prog (z3p N) c):zi Go.Proofs.Tryd.prog c (zf z24 [0,1,0,0,1,0,1,1]) (zg8 N) :=
 zd (s:=[(0,.v .str),(0,.v (.int .i64)),(0,.v (.int .i64)),(4,.v (.int .i64))]) (m:=24) (g:=zgb N) [0,7,1,2] (za hb N (ztv N) z55 z24 (TabOk.cons (zqn hb) TabOk.nil) [0,1,0,0,1,0,1,1] _ rfl) (fun x K=>by kernel_rfl)
def z9l (N:Nat)(s:(List UInt8))(at_:Int)(n:Int)(i:Int)(rec:Int->Option Bool)(k0:Bool->Option Bool)(k1:Option Bool):Option Bool:=cond (decide (i<(Go.IntKind.wrap Go.IntKind.i64 (at_+n)))) (z9n N s at_ n i (fun x6=>k0 x6) (rec (Go.IntKind.wrap Go.IntKind.i64 (i+1)))) k1
def zg6 (N:Nat)(s:(List UInt8))(at_:Int)(n:Int)(i:Int)(k0:Bool->Option Bool)(k1:Option Bool):Option Bool:=iter (fun (v:Int) r=>z9l N s at_ n v (fun i=>(r i)) k0 k1) N i
def zgc (N:Nat)(i:((List UInt8)×Int×Int))(v:Int)(r:Int->Option Bool)(K:Ex->List A->Option Bool):Option Bool:=z9l N i.1 i.2.1 i.2.2 v (fun i=>(r i)) (fun a0=>(K .ret (mkS [(6,.v .bool)] 25 (a0,())))) (K (.exit 0) (mkS [] 32 ()))
def zg9 (N:Nat):Hd Bool:=fun st K=>(unS [(0,.v .str),(0,.v (.int .i64)),(0,.v (.int .i64)),(4,.v (.int .i64))] 24 (restr [7,1,2,0] 0 st)).bind fun x=>iter (fun v r=>zgc N ((fun x=>(x.1,x.2.1,x.2.2.1)) x) v r K) N ((fun x=>x.2.2.2.1) x)
def ztw (N:Nat):Tab Bool:=[([0,1,0,0,1,0,1,1],zg8 N)]
theorem zqp {N:Nat}{c:Ctx}(hb:Base Go.Proofs.Tryd.prog (z3p N) c):zi Go.Proofs.Tryd.prog c (zf z24 [0,1,0,1,1]) (zg9 N) :=
 z3z (s:=[(0,.v .str),(0,.v (.int .i64)),(0,.v (.int .i64)),(4,.v (.int .i64))]) (m:=24) (zgc N) [7,1,2,0] N (fun x=>(x.1,x.2.1,x.2.2.1)) (fun x=>x.2.2.2.1) (fun i v=>(i.1,i.2.1,i.2.2,v,())) (fun _=>rfl) (za hb N (ztw N) z55 z24 (TabOk.cons (zqo hb) TabOk.nil) [0,0,1,0,1,1] _ rfl) (fun i v r K=>by kernel_rfl)
def z1g (N:Nat)(s:(List UInt8))(at_:Int)(n:Int):Option Bool:=cond (decide ((Go.IntKind.wrap Go.IntKind.i64 ((List.length s:Int) - at_))<n)) (some false) (zg6 N s at_ n at_ (fun x6=>some x6) (some true))
def zhw (N:Nat):Tab Bool:=[([0,1,0,1,1],zg9 N)]
theorem zol (N:Nat)(x:z1h [(0,.v .str),(0,.v (.int .i64)),(0,.v (.int .i64))]):zc5 (z3p N) N (zhw N) z55 Go.Proofs.Tryd.f69 (mkS [(0,.v .str),(0,.v (.int .i64)),(0,.v (.int .i64))] 0 x) (z40 (.v .bool) 3)=z1g N x.1 x.2.1 x.2.2.1:=by kernel_rfl
def zdx (N:Nat):List A->Res:=z2c [(0,.v .str),(0,.v (.int .i64)),(0,.v (.int .i64))] (fun x=>z1g N x.1 x.2.1 x.2.2.1) (zbc (.v .bool) 3)
theorem ztx (N:Nat):Contract Go.Proofs.Tryd.prog glob 69 (zdx N) :=
 Contract.of (E:=z3p N) (H:=zhw N) (L:=z55) (N:=N) (body:=z24) (K:=(z40 (.v .bool) 3)) (zqq N) Go.Proofs.Tryd.func69 (by kernel_rfl) (by decide) (fun _ hb=>(TabOk.cons (zqp hb) TabOk.nil)) (fun x y h=>by rw[zol];exact h) (z1c (s:=(.v .bool)) (m:=3))
def z12:Code:=(Go.Proofs.Tryd.f52.body).getD .skip
def z2v:List (List Nat×List Nat):=[([0],[0,1]),([0,1],[5,1,0]),([0,0,1,1],[12,1,0,5]),([1,0,1,1],[1,0,5]),([0,0,1,0,1,1],[4]),([1,0,1,0,1,1],[4]),([0,1,1,1],[1,0,5,6]),([0,0,1,1,1,1],[17,0,1,5,6]),([1,0,1,1,1,1],[5,0,1,6]),([0,1,0,1,1,1,1],[5,0,1,6]),([0,0,1,1,1,1,1],[34,5,0,1,6]),([1,0,1,1,1,1,1],[5,0,1,6]),([0,0,1,0,1,1,1,1,1],[4]),([1,0,1,0,1,1,1,1,1],[4]),([0,0,1,1,1,1,1,1],[62,5,0,1,6]),([1,0,1,1,1,1,1,1],[5,0,1,6]),([0,0,1,0,1,1,1,1,1,1],[4]),([1,0,1,0,1,1,1,1,1,1],[4]),([0,0,1,1,1,1,1,1,1],[90]),([1,0,1,1,1,1,1,1,1],[]),([0,0,1,0,1,1,1,1,1,1,1],[4]),([1,0,1,0,1,1,1,1,1,1,1],[4]),([0,1,1,1,1,1,1,1,1],[4]),([1,1,1,1,1,1,1,1,1],[4])]
def z29 (N:Nat):Env:=z3v tys glob [(69,zdx N)] [] [] [] false [] []
theorem zug (N:Nat):EnvOk Go.Proofs.Tryd.prog (z29 N):=zw mixed z1v (FnsOk.cons (ztx N) (FnsOk.nil)) (ItsOk.nil)
def z6n (N:Nat)(s:(List UInt8))(at_:Int)(b:Int)(next:Int)(k0:Int->Option Int):Option Int:=cond (decide ((Go.IntKind.wrap Go.IntKind.i64 (at_+1))<(List.length s:Int))) (cond (Go.Lift.inR (Go.IntKind.wrap Go.IntKind.i64 (at_+1)) (List.length s)) (k0 (Go.IntKind.wrap Go.IntKind.i64 (((UInt8.toNat (List.getD s (Int.toNat (Go.IntKind.wrap Go.IntKind.i64 (at_+1))) (0:UInt8))):Nat):Int))) none) (k0 next)
def zil (N:Nat)(x:z1h [(0,.v .str),(0,.v (.int .i64)),(3,.v (.int .i64)),(0,.v (.int .i64))])(K:Ex->List A->Option Int):Option Int:=z6n N x.1 x.2.1 x.2.2.1 x.2.2.2.1 (fun a3=>(K .normal (mkS [(0,.v .str),(0,.v (.int .i64)),(3,.v (.int .i64)),(0,.v (.int .i64))] 84 (x.1,x.2.1,x.2.2.1,a3,()))))
def zif (N:Nat):Hd Int:=fun st K=>(unS [(0,.v .str),(0,.v (.int .i64)),(3,.v (.int .i64)),(0,.v (.int .i64))] 84 (restr [1,0,5,6] 0 st)).bind fun x=>zil N x K
def zxg (N:Nat):Tab Int:=[]
theorem zuf {N:Nat}{c:Ctx}(hb:Base Go.Proofs.Tryd.prog (z29 N) c):zi Go.Proofs.Tryd.prog c (zf z12 [0,1,1,1,1]) (zif N) :=
 zd (s:=[(0,.v .str),(0,.v (.int .i64)),(3,.v (.int .i64)),(0,.v (.int .i64))]) (m:=84) (g:=zil N) [1,0,5,6] (za hb N (zxg N) z2v z12 TabOk.nil [0,1,1,1,1] _ rfl) (fun x K=>by kernel_rfl)
def z6m (N:Nat)(s:(List UInt8))(at_:Int)(b:Int)(next:Int)(k0:Bool->Option Int):Option Int:=cond (decide (194<=b)) (cond (decide (b<=223)) ((z1g N s (Go.IntKind.wrap Go.IntKind.i64 (at_+1)) 1).bind fun y=>k0 y) (k0 false)) (k0 false)
def zij (N:Nat)(x:z1h [(0,.v .str),(0,.v (.int .i64)),(3,.v (.int .i64)),(0,.v (.int .i64))])(K:Ex->List A->Option Int):Option Int:=z6m N x.1 x.2.1 x.2.2.1 x.2.2.2.1 (fun a4=>(K .normal (mkS [(0,.v .str),(0,.v (.int .i64)),(3,.v (.int .i64)),(0,.v (.int .i64)),(27,.v .bool)] 56 (x.1,x.2.1,x.2.2.1,x.2.2.2.1,a4,()))))
def zid (N:Nat):Hd Int:=fun st K=>(unS [(0,.v .str),(0,.v (.int .i64)),(3,.v (.int .i64)),(0,.v (.int .i64))] 84 (restr [5,0,1,6] 0 st)).bind fun x=>zij N x K
def zxe (N:Nat):Tab Int:=[]
theorem zud {N:Nat}{c:Ctx}(hb:Base Go.Proofs.Tryd.prog (z29 N) c):zi Go.Proofs.Tryd.prog c (zf z12 [0,0,1,1,1,1,1]) (zid N) :=
 zd (s:=[(0,.v .str),(0,.v (.int .i64)),(3,.v (.int .i64)),(0,.v (.int .i64))]) (m:=84) (g:=zij N) [5,0,1,6] (za hb N (zxe N) z2v z12 TabOk.nil [0,0,1,1,1,1,1] _ rfl) (fun x K=>by kernel_rfl)
def zan (N:Nat)(s:(List UInt8))(at_:Int)(b:Int)(next:Int)(k0:Int->Option Int)(k1:Option Int):Option Int:=z6m N s at_ b next (fun x34=>cond x34 (k0 2) k1)
def zik (N:Nat)(x:z1h [(0,.v .str),(0,.v (.int .i64)),(3,.v (.int .i64)),(0,.v (.int .i64))])(K:Ex->List A->Option Int):Option Int:=zan N x.1 x.2.1 x.2.2.1 x.2.2.2.1 (fun a0=>(K .ret (mkS [(4,.v (.int .i64))] 86 (a0,())))) (K .normal (mkS [(0,.v .str),(0,.v (.int .i64)),(3,.v (.int .i64)),(0,.v (.int .i64))] 84 (x.1,x.2.1,x.2.2.1,x.2.2.2.1,())))
def zie (N:Nat):Hd Int:=fun st K=>(unS [(0,.v .str),(0,.v (.int .i64)),(3,.v (.int .i64)),(0,.v (.int .i64))] 84 (restr [5,0,1,6] 0 st)).bind fun x=>zik N x K
def zxf (N:Nat):Tab Int:=[([0,0,1,1,1,1,1],zid N)]
theorem zue {N:Nat}{c:Ctx}(hb:Base Go.Proofs.Tryd.prog (z29 N) c):zi Go.Proofs.Tryd.prog c (zf z12 [0,1,1,1,1,1]) (zie N) :=
 zd (s:=[(0,.v .str),(0,.v (.int .i64)),(3,.v (.int .i64)),(0,.v (.int .i64))]) (m:=84) (g:=zik N) [5,0,1,6] (za hb N (zxf N) z2v z12 (TabOk.cons (zud hb) TabOk.nil) [0,1,1,1,1,1] _ rfl) (fun x K=>by kernel_rfl)
def z6l (N:Nat)(s:(List UInt8))(at_:Int)(b:Int)(next:Int)(k0:Bool->Option Int):Option Int:=cond (decide (224<=b)) (cond (decide (b<=239)) ((z1g N s (Go.IntKind.wrap Go.IntKind.i64 (at_+1)) 2).bind fun y=>cond y (cond (b != 224) (cond (b != 237) (k0 true) (k0 (decide (next<160)))) (cond (decide (160<=next)) (cond (b != 237) (k0 true) (k0 (decide (next<160)))) (k0 false))) (k0 false)) (k0 false)) (k0 false)
def zih (N:Nat)(x:z1h [(0,.v .str),(0,.v (.int .i64)),(3,.v (.int .i64)),(0,.v (.int .i64))])(K:Ex->List A->Option Int):Option Int:=z6l N x.1 x.2.1 x.2.2.1 x.2.2.2.1 (fun a4=>(K .normal (mkS [(0,.v .str),(0,.v (.int .i64)),(3,.v (.int .i64)),(0,.v (.int .i64)),(55,.v .bool)] 28 (x.1,x.2.1,x.2.2.1,x.2.2.2.1,a4,()))))
def zib (N:Nat):Hd Int:=fun st K=>(unS [(0,.v .str),(0,.v (.int .i64)),(3,.v (.int .i64)),(0,.v (.int .i64))] 84 (restr [5,0,1,6] 0 st)).bind fun x=>zih N x K
def zxc (N:Nat):Tab Int:=[]
theorem zub {N:Nat}{c:Ctx}(hb:Base Go.Proofs.Tryd.prog (z29 N) c):zi Go.Proofs.Tryd.prog c (zf z12 [0,0,1,1,1,1,1,1]) (zib N) :=
 zd (s:=[(0,.v .str),(0,.v (.int .i64)),(3,.v (.int .i64)),(0,.v (.int .i64))]) (m:=84) (g:=zih N) [5,0,1,6] (za hb N (zxc N) z2v z12 TabOk.nil [0,0,1,1,1,1,1,1] _ rfl) (fun x K=>by kernel_rfl)
def zam (N:Nat)(s:(List UInt8))(at_:Int)(b:Int)(next:Int)(k0:Int->Option Int)(k1:Option Int):Option Int:=z6l N s at_ b next (fun x62=>cond x62 (k0 3) k1)
def zii (N:Nat)(x:z1h [(0,.v .str),(0,.v (.int .i64)),(3,.v (.int .i64)),(0,.v (.int .i64))])(K:Ex->List A->Option Int):Option Int:=zam N x.1 x.2.1 x.2.2.1 x.2.2.2.1 (fun a0=>(K .ret (mkS [(4,.v (.int .i64))] 86 (a0,())))) (K .normal (mkS [(0,.v .str),(0,.v (.int .i64)),(3,.v (.int .i64)),(0,.v (.int .i64))] 84 (x.1,x.2.1,x.2.2.1,x.2.2.2.1,())))
def zic (N:Nat):Hd Int:=fun st K=>(unS [(0,.v .str),(0,.v (.int .i64)),(3,.v (.int .i64)),(0,.v (.int .i64))] 84 (restr [5,0,1,6] 0 st)).bind fun x=>zii N x K
def zxd (N:Nat):Tab Int:=[([0,0,1,1,1,1,1,1],zib N)]
theorem zuc {N:Nat}{c:Ctx}(hb:Base Go.Proofs.Tryd.prog (z29 N) c):zi Go.Proofs.Tryd.prog c (zf z12 [0,1,1,1,1,1,1]) (zic N) :=
 zd (s:=[(0,.v .str),(0,.v (.int .i64)),(3,.v (.int .i64)),(0,.v (.int .i64))]) (m:=84) (g:=zii N) [5,0,1,6] (za hb N (zxd N) z2v z12 (TabOk.cons (zub hb) TabOk.nil) [0,1,1,1,1,1,1] _ rfl) (fun x K=>by kernel_rfl)
def z6k (N:Nat)(s:(List UInt8))(at_:Int)(b:Int)(next:Int)(k0:Bool->Option Int):Option Int:=cond (decide (240<=b)) (cond (decide (b<=244)) ((z1g N s (Go.IntKind.wrap Go.IntKind.i64 (at_+1)) 3).bind fun y=>cond y (cond (b != 240) (cond (b != 244) (k0 true) (k0 (decide (next<144)))) (cond (decide (144<=next)) (cond (b != 244) (k0 true) (k0 (decide (next<144)))) (k0 false))) (k0 false)) (k0 false)) (k0 false)
def zig (N:Nat)(x:z1h [(0,.v .str),(0,.v (.int .i64)),(3,.v (.int .i64)),(0,.v (.int .i64))])(K:Ex->List A->Option Int):Option Int:=z6k N x.1 x.2.1 x.2.2.1 x.2.2.2.1 (fun a0=>(K .normal (mkS [(90,.v .bool)] 0 (a0,()))))
def zia (N:Nat):Hd Int:=fun st K=>(unS [(0,.v .str),(0,.v (.int .i64)),(3,.v (.int .i64)),(0,.v (.int .i64))] 84 (restr [5,0,1,6] 0 st)).bind fun x=>zig N x K
def zxb (N:Nat):Tab Int:=[]
theorem zua {N:Nat}{c:Ctx}(hb:Base Go.Proofs.Tryd.prog (z29 N) c):zi Go.Proofs.Tryd.prog c (zf z12 [0,0,1,1,1,1,1,1,1]) (zia N) :=
 zd (s:=[(0,.v .str),(0,.v (.int .i64)),(3,.v (.int .i64)),(0,.v (.int .i64))]) (m:=84) (g:=zig N) [5,0,1,6] (za hb N (zxb N) z2v z12 TabOk.nil [0,0,1,1,1,1,1,1,1] _ rfl) (fun x K=>by kernel_rfl)
def z4j (N:Nat)(s:(List UInt8))(at_:Int):Option Int:=cond (Go.Lift.inR at_ (List.length s)) (cond (decide ((Go.IntKind.wrap Go.IntKind.i64 (UInt8.toNat (List.getD s (Int.toNat at_) (0:UInt8)):Int))<128)) (some 1) (z6n N s at_ (Go.IntKind.wrap Go.IntKind.i64 (UInt8.toNat (List.getD s (Int.toNat at_) (0:UInt8)):Int)) 0 (fun next=>zan N s at_ (Go.IntKind.wrap Go.IntKind.i64 (UInt8.toNat (List.getD s (Int.toNat at_) (0:UInt8)):Int)) next (fun x4=>some x4) (zam N s at_ (Go.IntKind.wrap Go.IntKind.i64 (UInt8.toNat (List.getD s (Int.toNat at_) (0:UInt8)):Int)) next (fun x41=>some x41) (z6k N s at_ (Go.IntKind.wrap Go.IntKind.i64 (UInt8.toNat (List.getD s (Int.toNat at_) (0:UInt8)):Int)) next (fun x90=>cond x90 (some 4) (some 0))))))) none
def zkt (N:Nat):Tab Int:=[([0,1,1,1,1],zif N),([0,1,1,1,1,1],zie N),([0,1,1,1,1,1,1],zic N),([0,0,1,1,1,1,1,1,1],zia N)]
theorem zqz (N:Nat)(x:z1h [(0,.v .str),(0,.v (.int .i64))]):zc5 (z29 N) N (zkt N) z2v Go.Proofs.Tryd.f52 (mkS [(0,.v .str),(0,.v (.int .i64))] 0 x) (z40 (.v (.int .i64)) 2)=z4j N x.1 x.2.1:=by kernel_rfl
def z5y (N:Nat):List A->Res:=z2c [(0,.v .str),(0,.v (.int .i64))] (fun x=>z4j N x.1 x.2.1) (zbc (.v (.int .i64)) 2)
theorem zao (N:Nat):Contract Go.Proofs.Tryd.prog glob 52 (z5y N) :=
 Contract.of (E:=z29 N) (H:=zkt N) (L:=z2v) (N:=N) (body:=z12) (K:=(z40 (.v (.int .i64)) 2)) (zug N) Go.Proofs.Tryd.func52 (by kernel_rfl) (by decide) (fun _ hb=>(TabOk.cons (zuf hb) (TabOk.cons (zue hb) (TabOk.cons (zuc hb) (TabOk.cons (zua hb) TabOk.nil))))) (fun x y h=>by rw[zqz];exact h) (z1c (s:=(.v (.int .i64))) (m:=2))
def z3y:Code:=(Go.Proofs.Tryd.f41.body).getD .skip
def z7e:List (List Nat×List Nat):=[([0],[1,0]),([0,0,1],[13,0,1]),([1,0,1],[0,1]),([0,0,1,0,1],[4]),([1,0,1,0,1],[4]),([0,1,1],[5]),([0,0,1,1,1],[18,5]),([1,0,1,1,1],[5]),([0,0,1,0,1,1,1],[4]),([1,0,1,0,1,1,1],[4]),([0,1,1,1,1],[4]),([1,1,1,1,1],[4])]
def z5k (N:Nat):Env:=z3v tys glob [(52,z5y N)] [] [] [] false [] []
theorem zu5 (N:Nat):EnvOk Go.Proofs.Tryd.prog (z5k N):=zw mixed z1v (FnsOk.cons (zao N) (FnsOk.nil)) (ItsOk.nil)
def zah (N:Nat)(s:(List UInt8))(at_:Int)(k0:Bool->Option Int):Option Int:=cond (decide (at_<0)) (k0 true) (k0 (decide ((List.length s:Int)<=at_)))
def zi1 (N:Nat)(x:z1h [(0,.v .str),(0,.v (.int .i64))])(K:Ex->List A->Option Int):Option Int:=zah N x.1 x.2.1 (fun a2=>(K .normal (mkS [(0,.v .str),(0,.v (.int .i64)),(11,.v .bool)] 6 (x.1,x.2.1,a2,()))))
def zhz (N:Nat):Hd Int:=fun st K=>(unS [(0,.v .str),(0,.v (.int .i64))] 18 (restr [1,0] 0 st)).bind fun x=>zi1 N x K
def zx4 (N:Nat):Tab Int:=[]
theorem zu3 {N:Nat}{c:Ctx}(hb:Base Go.Proofs.Tryd.prog (z5k N) c):zi Go.Proofs.Tryd.prog c (zf z3y [0,0,1]) (zhz N) :=
 zd (s:=[(0,.v .str),(0,.v (.int .i64))]) (m:=18) (g:=zi1 N) [1,0] (za hb N (zx4 N) z7e z3y TabOk.nil [0,0,1] _ rfl) (fun x K=>by kernel_rfl)
def zai (N:Nat)(s:(List UInt8))(at_:Int)(k0:Int->Option Int)(k1:Option Int):Option Int:=zah N s at_ (fun x13=>cond x13 (k0 0) k1)
def zi2 (N:Nat)(x:z1h [(0,.v .str),(0,.v (.int .i64))])(K:Ex->List A->Option Int):Option Int:=zai N x.1 x.2.1 (fun a0=>(K .ret (mkS [(4,.v (.int .i64))] 15 (a0,())))) (K .normal (mkS [(0,.v .str),(0,.v (.int .i64))] 18 (x.1,x.2.1,())))
def zi0 (N:Nat):Hd Int:=fun st K=>(unS [(0,.v .str),(0,.v (.int .i64))] 18 (restr [1,0] 0 st)).bind fun x=>zi2 N x K
def zx5 (N:Nat):Tab Int:=[([0,0,1],zhz N)]
theorem zu4 {N:Nat}{c:Ctx}(hb:Base Go.Proofs.Tryd.prog (z5k N) c):zi Go.Proofs.Tryd.prog c (zf z3y [0,1]) (zi0 N) :=
 zd (s:=[(0,.v .str),(0,.v (.int .i64))]) (m:=18) (g:=zi2 N) [1,0] (za hb N (zx5 N) z7e z3y (TabOk.cons (zu3 hb) TabOk.nil) [0,1] _ rfl) (fun x K=>by kernel_rfl)
def z6y (N:Nat)(s:(List UInt8))(at_:Int):Option Int:=zai N s at_ (fun x4=>some x4) ((z4j N s at_).bind fun y=>cond (y == 0) (some 1) (some y))
def zkr (N:Nat):Tab Int:=[([0,1],zi0 N)]
theorem zqx (N:Nat)(x:z1h [(0,.v .str),(0,.v (.int .i64))]):zc5 (z5k N) N (zkr N) z7e Go.Proofs.Tryd.f41 (mkS [(0,.v .str),(0,.v (.int .i64))] 0 x) (z40 (.v (.int .i64)) 2)=z6y N x.1 x.2.1:=by kernel_rfl
def zgm (N:Nat):List A->Res:=z2c [(0,.v .str),(0,.v (.int .i64))] (fun x=>z6y N x.1 x.2.1) (zbc (.v (.int .i64)) 2)
theorem zx6 (N:Nat):Contract Go.Proofs.Tryd.prog glob 41 (zgm N) :=
 Contract.of (E:=z5k N) (H:=zkr N) (L:=z7e) (N:=N) (body:=z3y) (K:=(z40 (.v (.int .i64)) 2)) (zu5 N) Go.Proofs.Tryd.func41 (by kernel_rfl) (by decide) (fun _ hb=>(TabOk.cons (zu4 hb) TabOk.nil)) (fun x y h=>by rw[zqx];exact h) (z1c (s:=(.v (.int .i64))) (m:=2))
def zqs:Code:=(Go.Proofs.Tryd.f42.body).getD .skip
def zkq:List (List Nat×List Nat):=[([0],[0,1]),([0,1],[4]),([1,1],[4])]
def zbl (N:Nat):Env:=z3v tys glob [(52,z5y N)] [] [] [] false [] []
theorem zty (N:Nat):EnvOk Go.Proofs.Tryd.prog (zbl N):=zw mixed z1v (FnsOk.cons (zao N) (FnsOk.nil)) (ItsOk.nil)
def z5f (N:Nat)(s:(List UInt8))(at_:Int):Option Bool:=(z4j N s at_).bind fun y=>cond (decide (0<y)) (cond (Go.Lift.inR at_ (List.length s)) (cond (decide (32<=(UInt8.toNat (List.getD s (Int.toNat at_) (0:UInt8)):Int))) (cond (Go.Lift.inR at_ (List.length s)) (some ((UInt8.toNat (List.getD s (Int.toNat at_) (0:UInt8)):Int) != 127)) none) (some false)) none) (some false)
def zkp (N:Nat):Tab Bool:=[]
theorem zqr (N:Nat)(x:z1h [(0,.v .str),(0,.v (.int .i64))]):zc5 (zbl N) N (zkp N) zkq Go.Proofs.Tryd.f42 (mkS [(0,.v .str),(0,.v (.int .i64))] 0 x) (z40 (.v .bool) 2)=z5f N x.1 x.2.1:=by kernel_rfl
def z9o (N:Nat):List A->Res:=z2c [(0,.v .str),(0,.v (.int .i64))] (fun x=>z5f N x.1 x.2.1) (zbc (.v .bool) 2)
theorem zhx (N:Nat):Contract Go.Proofs.Tryd.prog glob 42 (z9o N) :=
 Contract.of (E:=zbl N) (H:=zkp N) (L:=zkq) (N:=N) (body:=zqs) (K:=(z40 (.v .bool) 2)) (zty N) Go.Proofs.Tryd.func42 (by kernel_rfl) (by decide) (fun _ hb=>TabOk.nil) (fun x y h=>by rw[zqr];exact h) (z1c (s:=(.v .bool)) (m:=2))
def z2g:Code:=(Go.Proofs.Tryd.f21.body).getD .skip
def z5l:List (List Nat×List Nat):=[([0],[0]),([0,1],[0,3]),([0,1,1],[4,0,3]),([0,0,1,1,1],[4,0,3]),([0,0,0,0,0,1,1,1],[9,0,4,3]),([1,0,0,0,0,1,1,1],[0,4,3]),([1,1,0,0,0,0,1,1,1],[3]),([0,0,1,0,0,0,1,1,1],[0,4,3,5]),([0,0,1,0,1,0,0,0,1,1,1],[22,3,0,4,5]),([1,0,1,0,1,0,0,0,1,1,1],[4,5,0,3]),([0,1,1,0,1,0,1,0,0,0,1,1,1],[33,3,0,4,5]),([1,1,1,0,1,0,1,0,0,0,1,1,1],[4,5,0,3]),([1,1,1,1,0,1,0,1,0,0,0,1,1,1],[4,5,0,3]),([0,1,1,1,0,1,0,1,0,0,0,1,1,1],[4,5,0,3]),([0,1,0,1,0,1,0,0,0,1,1,1],[4,5,0,3]),([1,1,0,1,0,0,0,1,1,1],[4,0,3]),([1,0,0,0,1,1,1],[4,0,3]),([0,1,1,1],[3]),([0,1,1,1,1],[2]),([1,1,1,1,1],[2])]
def z4g (N:Nat):Env:=z3v tys glob [(42,z9o N),(41,zgm N),(19,zaw N)] [] [] [] false [] []
theorem zu9 (N:Nat):EnvOk Go.Proofs.Tryd.prog (z4g N):=zw mixed z1v (FnsOk.cons (zhx N) (FnsOk.cons (zx6 N) (FnsOk.cons (zkz N) (FnsOk.nil)))) (ItsOk.nil)
def zak (N:Nat)(s:(List UInt8))(out:(List UInt8))(at_:Int)(n:Int)(k0:Bool->Option (List UInt8)):Option (List UInt8):=cond (Go.Lift.inR at_ (List.length s)) (cond ((UInt8.toNat (List.getD s (Int.toNat at_) (0:UInt8)):Int) == 34) (k0 true) (cond (Go.Lift.inR at_ (List.length s)) (k0 ((UInt8.toNat (List.getD s (Int.toNat at_) (0:UInt8)):Int) == 92)) none)) none
def zi7 (N:Nat)(x:z1h [(0,.v .str),(2,.v .str),(0,.v (.int .i64)),(0,.v (.int .i64))])(K:Ex->List A->Option (List UInt8)):Option (List UInt8):=zak N x.1 x.2.1 x.2.2.1 x.2.2.2.1 (fun a4=>(K .normal (mkS [(0,.v .str),(2,.v .str),(0,.v (.int .i64)),(0,.v (.int .i64)),(16,.v .bool)] 33 (x.1,x.2.1,x.2.2.1,x.2.2.2.1,a4,()))))
def zi4 (N:Nat):Hd (List UInt8):=fun st K=>(unS [(0,.v .str),(2,.v .str),(0,.v (.int .i64)),(0,.v (.int .i64))] 50 (restr [0,4,3,5] 0 st)).bind fun x=>zi7 N x K
def zx7 (N:Nat):Tab (List UInt8):=[]
theorem zu6 {N:Nat}{c:Ctx}(hb:Base Go.Proofs.Tryd.prog (z4g N) c):zi Go.Proofs.Tryd.prog c (zf z2g [0,0,1,0,1,0,0,0,1,1,1]) (zi4 N) :=
 zd (s:=[(0,.v .str),(2,.v .str),(0,.v (.int .i64)),(0,.v (.int .i64))]) (m:=50) (g:=zi7 N) [0,4,3,5] (za hb N (zx7 N) z5l z2g TabOk.nil [0,0,1,0,1,0,0,0,1,1,1] _ rfl) (fun x K=>by kernel_rfl)
def zal (N:Nat)(s:(List UInt8))(out:(List UInt8))(at_:Int)(n:Int)(k0:(List UInt8)->Option (List UInt8)):Option (List UInt8):=zak N s out at_ n (fun x22=>cond x22 (cond (decide (((List.length out)+1)<=9223372036854775807)) (cond (decide ((0<=(Go.IntKind.wrap Go.IntKind.i64 (at_+1)))/\((Go.IntKind.wrap Go.IntKind.i64 (at_+1))<=(List.length s:Int)))) (cond (decide ((0<=at_)/\(at_<=(Go.IntKind.wrap Go.IntKind.i64 (at_+1))))) (cond (decide (((List.length (out++([(92:UInt8)]:List UInt8)))+(List.length (Go.Lift.cut s (Int.toNat at_) (Int.toNat (Go.IntKind.wrap Go.IntKind.i64 (at_+1))))))<=9223372036854775807)) (k0 ((out++([(92:UInt8)]:List UInt8))++(Go.Lift.cut s (Int.toNat at_) (Int.toNat (Go.IntKind.wrap Go.IntKind.i64 (at_+1)))))) none) none) none) none) ((z5f N s at_).bind fun y=>cond y (cond (decide ((0<=(Go.IntKind.wrap Go.IntKind.i64 (at_+n)))/\((Go.IntKind.wrap Go.IntKind.i64 (at_+n))<=(List.length s:Int)))) (cond (decide ((0<=at_)/\(at_<=(Go.IntKind.wrap Go.IntKind.i64 (at_+n))))) (cond (decide (((List.length out)+(List.length (Go.Lift.cut s (Int.toNat at_) (Int.toNat (Go.IntKind.wrap Go.IntKind.i64 (at_+n))))))<=9223372036854775807)) (k0 (out++(Go.Lift.cut s (Int.toNat at_) (Int.toNat (Go.IntKind.wrap Go.IntKind.i64 (at_+n)))))) none) none) none) (cond (decide (((List.length out)+2)<=9223372036854775807)) (cond (decide ((0<=(Go.IntKind.wrap Go.IntKind.i64 (at_+1)))/\((Go.IntKind.wrap Go.IntKind.i64 (at_+1))<=(List.length s:Int)))) (cond (decide ((0<=at_)/\(at_<=(Go.IntKind.wrap Go.IntKind.i64 (at_+1))))) ((z64 N (Go.Lift.cut s (Int.toNat at_) (Int.toNat (Go.IntKind.wrap Go.IntKind.i64 (at_+1))))).bind fun y1=>cond (decide (((List.length (out++([(92:UInt8),(120:UInt8)]:List UInt8)))+(List.length y1))<=9223372036854775807)) (k0 ((out++([(92:UInt8),(120:UInt8)]:List UInt8))++y1)) none) none) none) none)))
def zi8 (N:Nat)(x:z1h [(0,.v .str),(2,.v .str),(0,.v (.int .i64)),(0,.v (.int .i64))])(K:Ex->List A->Option (List UInt8)):Option (List UInt8):=zal N x.1 x.2.1 x.2.2.1 x.2.2.2.1 (fun a1=>(K .normal (mkS [(0,.v .str),(2,.v .str),(0,.v (.int .i64)),(0,.v (.int .i64))] 50 (x.1,a1,x.2.2.1,x.2.2.2.1,()))))
def zi5 (N:Nat):Hd (List UInt8):=fun st K=>(unS [(0,.v .str),(2,.v .str),(0,.v (.int .i64)),(0,.v (.int .i64))] 50 (restr [0,4,3,5] 0 st)).bind fun x=>zi8 N x K
def zx8 (N:Nat):Tab (List UInt8):=[([0,0,1,0,1,0,0,0,1,1,1],zi4 N)]
theorem zu7 {N:Nat}{c:Ctx}(hb:Base Go.Proofs.Tryd.prog (z4g N) c):zi Go.Proofs.Tryd.prog c (zf z2g [0,1,0,1,0,0,0,1,1,1]) (zi5 N) :=
 zd (s:=[(0,.v .str),(2,.v .str),(0,.v (.int .i64)),(0,.v (.int .i64))]) (m:=50) (g:=zi8 N) [0,4,3,5] (za hb N (zx8 N) z5l z2g (TabOk.cons (zu6 hb) TabOk.nil) [0,1,0,1,0,0,0,1,1,1] _ rfl) (fun x K=>by kernel_rfl)
def zaj (N:Nat)(s:(List UInt8))(out:(List UInt8))(at_:Int)(rec:(List UInt8)->Int->Option (List UInt8))(k0:(List UInt8)->Option (List UInt8)):Option (List UInt8):=cond (decide (at_<(List.length s:Int))) ((z6y N s at_).bind fun y=>zal N s out at_ y (fun out1=>rec out1 (Go.IntKind.wrap Go.IntKind.i64 (at_+y)))) (k0 out)
def zi3 (N:Nat)(s:(List UInt8))(out:(List UInt8))(at_:Int)(k0:(List UInt8)->Option (List UInt8)):Option (List UInt8):=iter (fun (v:((List UInt8)×Int)) r=>zaj N s v.1 v.2 (fun out at_=>(r (out,at_))) k0) N (out,at_)
def zi9 (N:Nat)(i:(List UInt8))(v:((List UInt8)×Int))(r:((List UInt8)×Int)->Option (List UInt8))(K:Ex->List A->Option (List UInt8)):Option (List UInt8):=zaj N i v.1 v.2 (fun out at_=>(r (out,at_))) (fun a0=>(K (.exit 0) (mkS [(3,.v .str)] 52 (a0,()))))
def zi6 (N:Nat):Hd (List UInt8):=fun st K=>(unS [(0,.v .str),(2,.v .str),(0,.v (.int .i64))] 51 (restr [4,0,3] 0 st)).bind fun x=>iter (fun v r=>zi9 N ((fun x=>x.1) x) v r K) N ((fun x=>(x.2.1,x.2.2.1)) x)
def zx9 (N:Nat):Tab (List UInt8):=[([0,1,0,1,0,0,0,1,1,1],zi5 N)]
theorem zu8 {N:Nat}{c:Ctx}(hb:Base Go.Proofs.Tryd.prog (z4g N) c):zi Go.Proofs.Tryd.prog c (zf z2g [0,0,1,1,1]) (zi6 N) :=
 z3z (s:=[(0,.v .str),(2,.v .str),(0,.v (.int .i64))]) (m:=51) (zi9 N) [4,0,3] N (fun x=>x.1) (fun x=>(x.2.1,x.2.2.1)) (fun i v=>(i,v.1,v.2,())) (fun _=>rfl) (za hb N (zx9 N) z5l z2g (TabOk.cons (zu7 hb) TabOk.nil) [0,0,0,1,1,1] _ rfl) (fun i v r K=>by kernel_rfl)
def z5g (N:Nat)(s:(List UInt8)):Option (List UInt8):=zi3 N s ([(34:UInt8)]:List UInt8) 0 (fun out=>cond (decide (((List.length out)+1)<=9223372036854775807)) (some (out++([(34:UInt8)]:List UInt8))) none)
def zks (N:Nat):Tab (List UInt8):=[([0,0,1,1,1],zi6 N)]
theorem zqy (N:Nat)(x:z1h [(0,.v .str)]):zc5 (z4g N) N (zks N) z5l Go.Proofs.Tryd.f21 (mkS [(0,.v .str)] 0 x) (z40 (.v .str) 1)=z5g N x.1:=by kernel_rfl
def zgn (N:Nat):List A->Res:=z2c [(0,.v .str)] (fun x=>z5g N x.1) (zbc (.v .str) 1)
theorem zxa (N:Nat):Contract Go.Proofs.Tryd.prog glob 21 (zgn N) :=
 Contract.of (E:=z4g N) (H:=zks N) (L:=z5l) (N:=N) (body:=z2g) (K:=(z40 (.v .str) 1)) (zu9 N) Go.Proofs.Tryd.func21 (by kernel_rfl) (by decide) (fun _ hb=>(TabOk.cons (zu8 hb) TabOk.nil)) (fun x y h=>by rw[zqy];exact h) (z1c (s:=(.v .str)) (m:=1))
def z11:Code:=(Go.Proofs.Tryd.f8.body).getD .skip
def z2u:List (List Nat×List Nat):=[([0],[1]),([0,0,1],[8,1]),([1,0,1],[1]),([0,0,1,0,1],[2,3]),([1,0,1,0,1],[2,3]),([0,1,1],[1,4]),([0,0,1,1,1],[14,4,1]),([1,0,1,1,1],[1,4]),([0,1,0,1,1,1],[1,4]),([0,0,1,1,1,1],[27,4,1]),([1,0,1,1,1,1],[1,4]),([0,1,0,1,1,1,1],[1,4]),([0,0,1,1,1,1,1],[41,4,1]),([1,0,1,1,1,1,1],[1,4]),([0,1,0,1,1,1,1,1],[1,4]),([0,0,1,1,1,1,1,1],[5,1,4]),([0,1,0,1,1,1,1,1,1],[5,1,4]),([0,0,0,0,1,0,1,1,1,1,1,1],[52,4,1,5]),([1,0,0,0,1,0,1,1,1,1,1,1],[4,1,5]),([1,1,0,0,0,1,0,1,1,1,1,1,1],[4]),([0,0,1,0,0,1,0,1,1,1,1,1,1],[5,1,4]),([0,1,0,0,1,0,1,1,1,1,1,1],[5,1,4]),([1,1,0,0,1,0,1,1,1,1,1,1],[5,1,4]),([1,0,1,1,1,1,1,1],[4]),([0,1,1,1,1,1,1,1],[2,3]),([1,1,1,1,1,1,1,1],[2,3])]
def z27 (N:Nat):Env:=z3v tys glob [(21,zgn N),(20,zcc N),(19,zaw N),(18,z81 N),(17,zdp N)] [] [] [] false [] []
theorem ztn (N:Nat):EnvOk Go.Proofs.Tryd.prog (z27 N):=zw mixed z1v (FnsOk.cons (zxa N) (FnsOk.cons (zdw N) (FnsOk.cons (zkz N) (FnsOk.cons (zg3 N) (FnsOk.cons (zt6 N) (FnsOk.nil)))))) (ItsOk.nil)
def z6j (N:Nat)(op:(Int×((List UInt8)×(Int×((List UInt8)×((List (List UInt8))×Unit))))))(s:(List UInt8))(k0:(List UInt8)->Option ((List UInt8)×Bool×Unit)):Option ((List UInt8)×Bool×Unit):=cond (decide (op.1<=5)) (cond (decide (((List.length s)+1)<=9223372036854775807)) (cond (decide (((List.length (s++([(32:UInt8)]:List UInt8)))+(List.length op.2.1))<=9223372036854775807)) (k0 ((s++([(32:UInt8)]:List UInt8))++op.2.1)) none) none) (k0 s)
def zhr (N:Nat)(x:z1h [(1,.box (.pair (.int .i64) (.pair .str (.pair (.int .i64) (.pair .str (.pair (.sl .str) .unit)))))),(2,.v .str)])(K:Ex->List A->Option ((List UInt8)×Bool×Unit)):Option ((List UInt8)×Bool×Unit):=z6j N x.1 x.2.1 (fun a1=>(K .normal (mkS [(1,.box (.pair (.int .i64) (.pair .str (.pair (.int .i64) (.pair .str (.pair (.sl .str) .unit)))))),(2,.v .str)] 60 (x.1,a1,()))))
def zhl (N:Nat):Hd ((List UInt8)×Bool×Unit):=fun st K=>(unS [(1,.box (.pair (.int .i64) (.pair .str (.pair (.int .i64) (.pair .str (.pair (.sl .str) .unit)))))),(2,.v .str)] 60 (restr [1,4] 0 st)).bind fun x=>zhr N x K
def zx3 (N:Nat):Tab ((List UInt8)×Bool×Unit):=[]
theorem ztm {N:Nat}{c:Ctx}(hb:Base Go.Proofs.Tryd.prog (z27 N) c):zi Go.Proofs.Tryd.prog c (zf z11 [0,1,1,1]) (zhl N) :=
 zd (s:=[(1,.box (.pair (.int .i64) (.pair .str (.pair (.int .i64) (.pair .str (.pair (.sl .str) .unit)))))),(2,.v .str)]) (m:=60) (g:=zhr N) [1,4] (za hb N (zx3 N) z2u z11 TabOk.nil [0,1,1,1] _ rfl) (fun x K=>by kernel_rfl)
def zaf (N:Nat)(op:(Int×((List UInt8)×(Int×((List UInt8)×((List (List UInt8))×Unit))))))(s:(List UInt8))(k0:Bool->Option ((List UInt8)×Bool×Unit)):Option ((List UInt8)×Bool×Unit):=cond (decide (op.1<=2)) (k0 true) (k0 (op.1 == 6))
def zhp (N:Nat)(x:z1h [(1,.box (.pair (.int .i64) (.pair .str (.pair (.int .i64) (.pair .str (.pair (.sl .str) .unit)))))),(2,.v .str)])(K:Ex->List A->Option ((List UInt8)×Bool×Unit)):Option ((List UInt8)×Bool×Unit):=zaf N x.1 x.2.1 (fun a2=>(K .normal (mkS [(1,.box (.pair (.int .i64) (.pair .str (.pair (.int .i64) (.pair .str (.pair (.sl .str) .unit)))))),(2,.v .str),(22,.v .bool)] 37 (x.1,x.2.1,a2,()))))
def zhj (N:Nat):Hd ((List UInt8)×Bool×Unit):=fun st K=>(unS [(1,.box (.pair (.int .i64) (.pair .str (.pair (.int .i64) (.pair .str (.pair (.sl .str) .unit)))))),(2,.v .str)] 60 (restr [1,4] 0 st)).bind fun x=>zhp N x K
def zx1 (N:Nat):Tab ((List UInt8)×Bool×Unit):=[]
theorem ztk {N:Nat}{c:Ctx}(hb:Base Go.Proofs.Tryd.prog (z27 N) c):zi Go.Proofs.Tryd.prog c (zf z11 [0,0,1,1,1,1]) (zhj N) :=
 zd (s:=[(1,.box (.pair (.int .i64) (.pair .str (.pair (.int .i64) (.pair .str (.pair (.sl .str) .unit)))))),(2,.v .str)]) (m:=60) (g:=zhp N) [1,4] (za hb N (zx1 N) z2u z11 TabOk.nil [0,0,1,1,1,1] _ rfl) (fun x K=>by kernel_rfl)
def z6i (N:Nat)(op:(Int×((List UInt8)×(Int×((List UInt8)×((List (List UInt8))×Unit))))))(s:(List UInt8))(k0:(List UInt8)->Option ((List UInt8)×Bool×Unit)):Option ((List UInt8)×Bool×Unit):=zaf N op s (fun x27=>cond x27 (cond (decide (((List.length s)+2)<=9223372036854775807)) ((z64 N op.2.2.2.1).bind fun y=>cond (decide (((List.length (s++([(32:UInt8),(120:UInt8)]:List UInt8)))+(List.length y))<=9223372036854775807)) (k0 ((s++([(32:UInt8),(120:UInt8)]:List UInt8))++y)) none) none) (k0 s))
def zhq (N:Nat)(x:z1h [(1,.box (.pair (.int .i64) (.pair .str (.pair (.int .i64) (.pair .str (.pair (.sl .str) .unit)))))),(2,.v .str)])(K:Ex->List A->Option ((List UInt8)×Bool×Unit)):Option ((List UInt8)×Bool×Unit):=z6i N x.1 x.2.1 (fun a1=>(K .normal (mkS [(1,.box (.pair (.int .i64) (.pair .str (.pair (.int .i64) (.pair .str (.pair (.sl .str) .unit)))))),(2,.v .str)] 60 (x.1,a1,()))))
def zhk (N:Nat):Hd ((List UInt8)×Bool×Unit):=fun st K=>(unS [(1,.box (.pair (.int .i64) (.pair .str (.pair (.int .i64) (.pair .str (.pair (.sl .str) .unit)))))),(2,.v .str)] 60 (restr [1,4] 0 st)).bind fun x=>zhq N x K
def zx2 (N:Nat):Tab ((List UInt8)×Bool×Unit):=[([0,0,1,1,1,1],zhj N)]
theorem ztl {N:Nat}{c:Ctx}(hb:Base Go.Proofs.Tryd.prog (z27 N) c):zi Go.Proofs.Tryd.prog c (zf z11 [0,1,1,1,1]) (zhk N) :=
 zd (s:=[(1,.box (.pair (.int .i64) (.pair .str (.pair (.int .i64) (.pair .str (.pair (.sl .str) .unit)))))),(2,.v .str)]) (m:=60) (g:=zhq N) [1,4] (za hb N (zx2 N) z2u z11 (TabOk.cons (ztk hb) TabOk.nil) [0,1,1,1,1] _ rfl) (fun x K=>by kernel_rfl)
def zae (N:Nat)(op:(Int×((List UInt8)×(Int×((List UInt8)×((List (List UInt8))×Unit))))))(s:(List UInt8))(k0:Bool->Option ((List UInt8)×Bool×Unit)):Option ((List UInt8)×Bool×Unit):=cond (op.1 == 3) (k0 true) (k0 (op.1 == 7))
def zhn (N:Nat)(x:z1h [(1,.box (.pair (.int .i64) (.pair .str (.pair (.int .i64) (.pair .str (.pair (.sl .str) .unit)))))),(2,.v .str)])(K:Ex->List A->Option ((List UInt8)×Bool×Unit)):Option ((List UInt8)×Bool×Unit):=zae N x.1 x.2.1 (fun a2=>(K .normal (mkS [(1,.box (.pair (.int .i64) (.pair .str (.pair (.int .i64) (.pair .str (.pair (.sl .str) .unit)))))),(2,.v .str),(36,.v .bool)] 23 (x.1,x.2.1,a2,()))))
def zhh (N:Nat):Hd ((List UInt8)×Bool×Unit):=fun st K=>(unS [(1,.box (.pair (.int .i64) (.pair .str (.pair (.int .i64) (.pair .str (.pair (.sl .str) .unit)))))),(2,.v .str)] 60 (restr [1,4] 0 st)).bind fun x=>zhn N x K
def zwz (N:Nat):Tab ((List UInt8)×Bool×Unit):=[]
theorem zti {N:Nat}{c:Ctx}(hb:Base Go.Proofs.Tryd.prog (z27 N) c):zi Go.Proofs.Tryd.prog c (zf z11 [0,0,1,1,1,1,1]) (zhh N) :=
 zd (s:=[(1,.box (.pair (.int .i64) (.pair .str (.pair (.int .i64) (.pair .str (.pair (.sl .str) .unit)))))),(2,.v .str)]) (m:=60) (g:=zhn N) [1,4] (za hb N (zwz N) z2u z11 TabOk.nil [0,0,1,1,1,1,1] _ rfl) (fun x K=>by kernel_rfl)
def z6h (N:Nat)(op:(Int×((List UInt8)×(Int×((List UInt8)×((List (List UInt8))×Unit))))))(s:(List UInt8))(k0:(List UInt8)->Option ((List UInt8)×Bool×Unit)):Option ((List UInt8)×Bool×Unit):=zae N op s (fun x41=>cond x41 (cond (decide (((List.length s)+1)<=9223372036854775807)) ((z28 N op.2.2.1).bind fun y=>cond (decide (((List.length (s++([(32:UInt8)]:List UInt8)))+(List.length y))<=9223372036854775807)) (k0 ((s++([(32:UInt8)]:List UInt8))++y)) none) none) (k0 s))
def zho (N:Nat)(x:z1h [(1,.box (.pair (.int .i64) (.pair .str (.pair (.int .i64) (.pair .str (.pair (.sl .str) .unit)))))),(2,.v .str)])(K:Ex->List A->Option ((List UInt8)×Bool×Unit)):Option ((List UInt8)×Bool×Unit):=z6h N x.1 x.2.1 (fun a1=>(K .normal (mkS [(1,.box (.pair (.int .i64) (.pair .str (.pair (.int .i64) (.pair .str (.pair (.sl .str) .unit)))))),(2,.v .str)] 60 (x.1,a1,()))))
def zhi (N:Nat):Hd ((List UInt8)×Bool×Unit):=fun st K=>(unS [(1,.box (.pair (.int .i64) (.pair .str (.pair (.int .i64) (.pair .str (.pair (.sl .str) .unit)))))),(2,.v .str)] 60 (restr [1,4] 0 st)).bind fun x=>zho N x K
def zx0 (N:Nat):Tab ((List UInt8)×Bool×Unit):=[([0,0,1,1,1,1,1],zhh N)]
theorem ztj {N:Nat}{c:Ctx}(hb:Base Go.Proofs.Tryd.prog (z27 N) c):zi Go.Proofs.Tryd.prog c (zf z11 [0,1,1,1,1,1]) (zhi N) :=
 zd (s:=[(1,.box (.pair (.int .i64) (.pair .str (.pair (.int .i64) (.pair .str (.pair (.sl .str) .unit)))))),(2,.v .str)]) (m:=60) (g:=zho N) [1,4] (za hb N (zx0 N) z2u z11 (TabOk.cons (zti hb) TabOk.nil) [0,1,1,1,1,1] _ rfl) (fun x K=>by kernel_rfl)
def zac (N:Nat)(op:(Int×((List UInt8)×(Int×((List UInt8)×((List (List UInt8))×Unit))))))(s:(List UInt8))(i:Int)(rec:(List UInt8)->Int->Option ((List UInt8)×Bool×Unit))(k0:(List UInt8)->Option ((List UInt8)×Bool×Unit)):Option ((List UInt8)×Bool×Unit):=cond (decide (i<(List.length op.2.2.2.2.1:Int))) (cond (decide (((List.length s)+1)<=9223372036854775807)) (cond (Go.Lift.inR i (List.length op.2.2.2.2.1)) ((z5g N (List.getD op.2.2.2.2.1 (Int.toNat i) [])).bind fun y=>cond (decide (((List.length (s++([(32:UInt8)]:List UInt8)))+(List.length y))<=9223372036854775807)) (rec ((s++([(32:UInt8)]:List UInt8))++y) (Go.IntKind.wrap Go.IntKind.i64 (i+1))) none) none) none) (k0 s)
def zad (N:Nat)(op:(Int×((List UInt8)×(Int×((List UInt8)×((List (List UInt8))×Unit))))))(s:(List UInt8))(i:Int)(k0:(List UInt8)->Option ((List UInt8)×Bool×Unit)):Option ((List UInt8)×Bool×Unit):=iter (fun (v:((List UInt8)×Int)) r=>zac N op v.1 v.2 (fun s i=>(r (s,i))) k0) N (s,i)
def zhm (N:Nat)(i:(Int×((List UInt8)×(Int×((List UInt8)×((List (List UInt8))×Unit))))))(v:((List UInt8)×Int))(r:((List UInt8)×Int)->Option ((List UInt8)×Bool×Unit))(K:Ex->List A->Option ((List UInt8)×Bool×Unit)):Option ((List UInt8)×Bool×Unit):=zac N i v.1 v.2 (fun s i=>(r (s,i))) (fun a0=>(K (.exit 0) (mkS [(4,.v .str)] 60 (a0,()))))
def zhg (N:Nat):Hd ((List UInt8)×Bool×Unit):=fun st K=>(unS [(1,.box (.pair (.int .i64) (.pair .str (.pair (.int .i64) (.pair .str (.pair (.sl .str) .unit)))))),(2,.v .str),(0,.v (.int .i64))] 59 (restr [5,1,4] 0 st)).bind fun x=>iter (fun v r=>zhm N ((fun x=>x.1) x) v r K) N ((fun x=>(x.2.1,x.2.2.1)) x)
def zwy (N:Nat):Tab ((List UInt8)×Bool×Unit):=[]
theorem zth {N:Nat}{c:Ctx}(hb:Base Go.Proofs.Tryd.prog (z27 N) c):zi Go.Proofs.Tryd.prog c (zf z11 [0,1,0,1,1,1,1,1,1]) (zhg N) :=
 z3z (s:=[(1,.box (.pair (.int .i64) (.pair .str (.pair (.int .i64) (.pair .str (.pair (.sl .str) .unit)))))),(2,.v .str),(0,.v (.int .i64))]) (m:=59) (zhm N) [5,1,4] N (fun x=>x.1) (fun x=>(x.2.1,x.2.2.1)) (fun i v=>(i,v.1,v.2,())) (fun _=>rfl) (za hb N (zwy N) z2u z11 TabOk.nil [0,0,1,0,1,1,1,1,1,1] _ rfl) (fun i v r K=>by kernel_rfl)
def z1r (N:Nat)(op:(Int×((List UInt8)×(Int×((List UInt8)×((List (List UInt8))×Unit)))))):Option ((List UInt8)×Bool×Unit):=(z62 N op).bind fun y=>cond (!y) (some ([],(false,()))) ((z39 N op.1).bind fun y1=>z6j N op y1 (fun s=>z6i N op s (fun s1=>z6h N op s1 (fun s2=>zad N op s2 0 (fun s3=>some (s3,(true,())))))))
def zko (N:Nat):Tab ((List UInt8)×Bool×Unit):=[([0,1,1,1],zhl N),([0,1,1,1,1],zhk N),([0,1,1,1,1,1],zhi N),([0,1,0,1,1,1,1,1,1],zhg N)]
theorem zqf (N:Nat)(x:z1h [(0,.v (.pair (.int .i64) (.pair .str (.pair (.int .i64) (.pair .str (.pair (.sl .str) .unit))))))]):zc5 (z27 N) N (zko N) z2u Go.Proofs.Tryd.f8 (mkS [(0,.v (.pair (.int .i64) (.pair .str (.pair (.int .i64) (.pair .str (.pair (.sl .str) .unit))))))] 0 x) (z40 (.tup [.str,.bool]) 1)=z1r N x.1:=by kernel_rfl
def z9d (N:Nat):List A->Res:=z2c [(0,.v (.pair (.int .i64) (.pair .str (.pair (.int .i64) (.pair .str (.pair (.sl .str) .unit))))))] (fun x=>z1r N x.1) (zbc (.tup [.str,.bool]) 1)
theorem zhs (N:Nat):Contract Go.Proofs.Tryd.prog glob 8 (z9d N) :=
 Contract.of (E:=z27 N) (H:=zko N) (L:=z2u) (N:=N) (body:=z11) (K:=(z40 (.tup [.str,.bool]) 1)) (ztn N) Go.Proofs.Tryd.func8 (by kernel_rfl) (by decide) (fun _ hb=>(TabOk.cons (ztm hb) (TabOk.cons (ztl hb) (TabOk.cons (ztj hb) (TabOk.cons (zth hb) TabOk.nil))))) (fun x y h=>by rw[zqf];exact h) (z1c (s:=(.tup [.str,.bool])) (m:=1))
def z7u:Code:=(Go.Proofs.Tryd.f23.body).getD .skip
def zbj:List (List Nat×List Nat):=[([0],[0]),([0,0,1],[4,0]),([0,1,0,1],[4,0]),([0,0,0,0,1,0,1],[8,0,4]),([1,0,0,0,1,0,1],[0,4]),([1,1,0,0,0,1,0,1],[0]),([0,0,0,1,0,0,1,0,1],[14,0,4]),([1,0,0,1,0,0,1,0,1],[4,0]),([0,0,1,0,0,1,0,0,1,0,1],[2,3]),([1,0,1,0,0,1,0,0,1,0,1],[2,3]),([0,1,0,0,1,0,1],[4,0]),([1,1,0,0,1,0,1],[4,0]),([1,0,1],[0]),([0,1,1],[2,3]),([1,1,1],[2,3])]
def z7d (N:Nat):Env:=z3v tys glob [] [] [] [] false [] []
theorem zss (N:Nat):EnvOk Go.Proofs.Tryd.prog (z7d N):=zw mixed z1v (FnsOk.nil) (ItsOk.nil)
def zab (N:Nat)(s:(List UInt8))(i:Int)(rec:Int->Option ((List UInt8)×(List UInt8)×Unit))(k0:(List UInt8)->(List UInt8)->Option ((List UInt8)×(List UInt8)×Unit))(k1:Option ((List UInt8)×(List UInt8)×Unit)):Option ((List UInt8)×(List UInt8)×Unit):=cond (decide (i<(List.length s:Int))) (cond (Go.Lift.inR i (List.length s)) (cond ((UInt8.toNat (List.getD s (Int.toNat i) (0:UInt8)):Int) == 32) (cond (decide ((0<=i)/\(i<=(List.length s:Int)))) (cond (decide ((0<=(Go.IntKind.wrap Go.IntKind.i64 (i+1)))/\((Go.IntKind.wrap Go.IntKind.i64 (i+1))<=(List.length s:Int)))) (k0 (Go.Lift.cut s 0 (Int.toNat i)) (Go.Lift.cut s (Int.toNat (Go.IntKind.wrap Go.IntKind.i64 (i+1))) (List.length s))) none) none) (rec (Go.IntKind.wrap Go.IntKind.i64 (i+1)))) none) k1
def zh9 (N:Nat)(s:(List UInt8))(i:Int)(k0:(List UInt8)->(List UInt8)->Option ((List UInt8)×(List UInt8)×Unit))(k1:Option ((List UInt8)×(List UInt8)×Unit)):Option ((List UInt8)×(List UInt8)×Unit):=iter (fun (v:Int) r=>zab N s v (fun i=>(r i)) k0 k1) N i
def zhb (N:Nat)(i:(List UInt8))(v:Int)(r:Int->Option ((List UInt8)×(List UInt8)×Unit))(K:Ex->List A->Option ((List UInt8)×(List UInt8)×Unit)):Option ((List UInt8)×(List UInt8)×Unit):=zab N i v (fun i=>(r i)) (fun a0 a1=>(K .ret (mkS [(2,.v .str),(0,.v .str)] 19 (a0,a1,())))) (K (.exit 0) (mkS [(0,.v .str)] 22 (i,())))
def zha (N:Nat):Hd ((List UInt8)×(List UInt8)×Unit):=fun st K=>(unS [(0,.v .str),(3,.v (.int .i64))] 18 (restr [4,0] 0 st)).bind fun x=>iter (fun v r=>zhb N ((fun x=>x.1) x) v r K) N ((fun x=>x.2.1) x)
def zws (N:Nat):Tab ((List UInt8)×(List UInt8)×Unit):=[]
theorem zsr {N:Nat}{c:Ctx}(hb:Base Go.Proofs.Tryd.prog (z7d N) c):zi Go.Proofs.Tryd.prog c (zf z7u [0,1,0,1]) (zha N) :=
 z3z (s:=[(0,.v .str),(3,.v (.int .i64))]) (m:=18) (zhb N) [4,0] N (fun x=>x.1) (fun x=>x.2.1) (fun i v=>(i,v,())) (fun _=>rfl) (za hb N (zws N) zbj z7u TabOk.nil [0,0,1,0,1] _ rfl) (fun i v r K=>by kernel_rfl)
def z5e (N:Nat)(s:(List UInt8)):Option ((List UInt8)×(List UInt8)×Unit):=zh9 N s 0 (fun x2 x3=>some (x2,(x3,()))) (some (s,([],())))
def zke (N:Nat):Tab ((List UInt8)×(List UInt8)×Unit):=[([0,1,0,1],zha N)]
theorem zpj (N:Nat)(x:z1h [(0,.v .str)]):zc5 (z7d N) N (zke N) zbj Go.Proofs.Tryd.f23 (mkS [(0,.v .str)] 0 x) (z40 (.tup [.str,.str]) 1)=z5e N x.1:=by kernel_rfl
def zel (N:Nat):List A->Res:=z2c [(0,.v .str)] (fun x=>z5e N x.1) (zbc (.tup [.str,.str]) 1)
theorem zwt (N:Nat):Contract Go.Proofs.Tryd.prog glob 23 (zel N) :=
 Contract.of (E:=z7d N) (H:=zke N) (L:=zbj) (N:=N) (body:=z7u) (K:=(z40 (.tup [.str,.str]) 1)) (zss N) Go.Proofs.Tryd.func23 (by kernel_rfl) (by decide) (fun _ hb=>(TabOk.cons (zsr hb) TabOk.nil)) (fun x y h=>by rw[zpj];exact h) (z1c (s:=(.tup [.str,.str])) (m:=1))
def z2q:Code:=(Go.Proofs.Tryd.f49.body).getD .skip
def z60:List (List Nat×List Nat):=[([0],[0]),([0,0,1],[8,0]),([1,0,1],[0]),([0,0,1,0,1],[2]),([1,0,1,0,1],[2]),([0,0,1,1],[17,0]),([1,0,1,1],[]),([0,0,1,0,1,1],[2]),([1,0,1,0,1,1],[2]),([0,1,1,1],[2]),([1,1,1,1],[2])]
def z4y (N:Nat):Env:=z3v tys glob [] [] [] [] false [] []
theorem zwx (N:Nat):EnvOk Go.Proofs.Tryd.prog (z4y N):=zw mixed z1v (FnsOk.nil) (ItsOk.nil)
def zkg (N:Nat)(b:Int)(k0:Bool->Option Int):Option Int:=cond (decide (48<=b)) (k0 (decide (b<=57))) (k0 false)
def zkm (N:Nat)(x:z1h [(0,.v (.int .u8))])(K:Ex->List A->Option Int):Option Int:=zkg N x.1 (fun a1=>(K .normal (mkS [(0,.v (.int .u8)),(7,.v .bool)] 12 (x.1,a1,()))))
def zkj (N:Nat):Hd Int:=fun st K=>(unS [(0,.v (.int .u8))] 20 (restr [0] 0 st)).bind fun x=>zkm N x K
def zz5 (N:Nat):Tab Int:=[]
theorem zwv {N:Nat}{c:Ctx}(hb:Base Go.Proofs.Tryd.prog (z4y N) c):zi Go.Proofs.Tryd.prog c (zf z2q [0,0,1]) (zkj N) :=
 zd (s:=[(0,.v (.int .u8))]) (m:=20) (g:=zkm N) [0] (za hb N (zz5 N) z60 z2q TabOk.nil [0,0,1] _ rfl) (fun x K=>by kernel_rfl)
def zkh (N:Nat)(b:Int)(k0:Int->Option Int)(k1:Option Int):Option Int:=zkg N b (fun x8=>cond x8 (k0 (Go.IntKind.wrap Go.IntKind.i64 ((Go.IntKind.wrap Go.IntKind.i64 b) - 48))) k1)
def zkn (N:Nat)(x:z1h [(0,.v (.int .u8))])(K:Ex->List A->Option Int):Option Int:=zkh N x.1 (fun a0=>(K .ret (mkS [(2,.v (.int .i64))] 18 (a0,())))) (K .normal (mkS [(0,.v (.int .u8))] 20 (x.1,())))
def zkk (N:Nat):Hd Int:=fun st K=>(unS [(0,.v (.int .u8))] 20 (restr [0] 0 st)).bind fun x=>zkn N x K
def zz6 (N:Nat):Tab Int:=[([0,0,1],zkj N)]
theorem zww {N:Nat}{c:Ctx}(hb:Base Go.Proofs.Tryd.prog (z4y N) c):zi Go.Proofs.Tryd.prog c (zf z2q [0,1]) (zkk N) :=
 zd (s:=[(0,.v (.int .u8))]) (m:=20) (g:=zkn N) [0] (za hb N (zz6 N) z60 z2q (TabOk.cons (zwv hb) TabOk.nil) [0,1] _ rfl) (fun x K=>by kernel_rfl)
def zkf (N:Nat)(b:Int)(k0:Bool->Option Int):Option Int:=cond (decide (97<=b)) (k0 (decide (b<=102))) (k0 false)
def zkl (N:Nat)(x:z1h [(0,.v (.int .u8))])(K:Ex->List A->Option Int):Option Int:=zkf N x.1 (fun a1=>(K .normal (mkS [(0,.v (.int .u8)),(16,.v .bool)] 3 (x.1,a1,()))))
def zki (N:Nat):Hd Int:=fun st K=>(unS [(0,.v (.int .u8))] 20 (restr [0] 0 st)).bind fun x=>zkl N x K
def zz4 (N:Nat):Tab Int:=[]
theorem zwu {N:Nat}{c:Ctx}(hb:Base Go.Proofs.Tryd.prog (z4y N) c):zi Go.Proofs.Tryd.prog c (zf z2q [0,0,1,1]) (zki N) :=
 zd (s:=[(0,.v (.int .u8))]) (m:=20) (g:=zkl N) [0] (za hb N (zz4 N) z60 z2q TabOk.nil [0,0,1,1] _ rfl) (fun x K=>by kernel_rfl)
def z61 (N:Nat)(b:Int):Option Int:=zkh N b (fun x2=>some x2) (zkf N b (fun x17=>cond x17 (some (Go.IntKind.wrap Go.IntKind.i64 ((Go.IntKind.wrap Go.IntKind.i64 b) - 87))) (some (-1))))
def zlx (N:Nat):Tab Int:=[([0,1],zkk N),([0,0,1,1],zki N)]
theorem zsy (N:Nat)(x:z1h [(0,.v (.int .u8))]):zc5 (z4y N) N (zlx N) z60 Go.Proofs.Tryd.f49 (mkS [(0,.v (.int .u8))] 0 x) (z40 (.v (.int .i64)) 1)=z61 N x.1:=by kernel_rfl
def zhd (N:Nat):List A->Res:=z2c [(0,.v (.int .u8))] (fun x=>z61 N x.1) (zbc (.v (.int .i64)) 1)
theorem zz7 (N:Nat):Contract Go.Proofs.Tryd.prog glob 49 (zhd N) :=
 Contract.of (E:=z4y N) (H:=zlx N) (L:=z60) (N:=N) (body:=z2q) (K:=(z40 (.v (.int .i64)) 1)) (zwx N) Go.Proofs.Tryd.func49 (by kernel_rfl) (by decide) (fun _ hb=>(TabOk.cons (zww hb) (TabOk.cons (zwu hb) TabOk.nil))) (fun x y h=>by rw[zsy];exact h) (z1c (s:=(.v (.int .i64))) (m:=1))
def zr6:Code:=(Go.Proofs.Tryd.f50.body).getD .skip
def zl1:List (List Nat×List Nat):=[([0],[0]),([0,1],[3]),([0,1,1],[2]),([1,1,1],[2])]
def zbn (N:Nat):Env:=z3v tys glob [] [] [] [] false [] []
theorem zuv (N:Nat):EnvOk Go.Proofs.Tryd.prog (zbn N):=zw mixed z1v (FnsOk.nil) (ItsOk.nil)
def znn (N:Nat)(n:Int):Option (List UInt8):=some (Go.Lift.toStr ([(Go.IntKind.wrap Go.IntKind.u8 n)]:List Int))
def zl0 (N:Nat):Tab (List UInt8):=[]
theorem zr5 (N:Nat)(x:z1h [(0,.v (.int .i64))]):zc5 (zbn N) N (zl0 N) zl1 Go.Proofs.Tryd.f50 (mkS [(0,.v (.int .i64))] 0 x) (z40 (.v .str) 1)=znn N x.1:=by kernel_rfl
def z9q (N:Nat):List A->Res:=z2c [(0,.v (.int .i64))] (fun x=>znn N x.1) (zbc (.v .str) 1)
theorem zjb (N:Nat):Contract Go.Proofs.Tryd.prog glob 50 (z9q N) :=
 Contract.of (E:=zbn N) (H:=zl0 N) (L:=zl1) (N:=N) (body:=zr6) (K:=(z40 (.v .str) 1)) (zuv N) Go.Proofs.Tryd.func50 (by kernel_rfl) (by decide) (fun _ hb=>TabOk.nil) (fun x y h=>by rw[zr5];exact h) (z1c (s:=(.v .str)) (m:=1))
def z1k:Code:=(Go.Proofs.Tryd.f24.body).getD .skip
def z3n:List (List Nat×List Nat):=[([0],[0]),([0,1],[0,3]),([0,0,1,1],[4,0,3]),([0,1,0,1,1],[4,0,3]),([0,0,0,0,1,0,1,1],[11,0,4,3]),([1,0,0,0,1,0,1,1],[0,4,3]),([1,1,0,0,0,1,0,1,1],[3]),([0,0,0,1,0,0,1,0,1,1],[5,6,3,4,0]),([0,0,1,0,0,1,0,0,1,0,1,1],[28,3,5,6,4,0]),([1,0,1,0,0,1,0,0,1,0,1,1],[3,5,6,4,0]),([0,0,1,0,1,0,0,1,0,0,1,0,1,1],[2]),([1,0,1,0,1,0,0,1,0,0,1,0,1,1],[2]),([1,1,0,0,1,0,0,1,0,1,1],[4,0,3]),([0,1,0,0,1,0,1,1],[4,0,3]),([1,1,0,0,1,0,1,1],[4,0,3]),([1,0,1,1],[3]),([0,1,1,1],[2]),([1,1,1,1],[2])]
def z35 (N:Nat):Env:=z3v tys glob [(50,z9q N),(49,zhd N)] [] [] [] false [] []
theorem zpo (N:Nat):EnvOk Go.Proofs.Tryd.prog (z35 N):=zw mixed z1v (FnsOk.cons (zjb N) (FnsOk.cons (zz7 N) (FnsOk.nil))) (ItsOk.nil)
def z91 (N:Nat)(s:(List UInt8))(out:(List UInt8))(i:Int)(a:Int)(b:Int)(k0:Bool->Option (List UInt8)):Option (List UInt8):=cond (decide (a<0)) (k0 true) (k0 (decide (b<0)))
def zes (N:Nat)(x:z1h [(0,.v .str),(2,.v .str),(0,.v (.int .i64)),(0,.v (.int .i64)),(0,.v (.int .i64))])(K:Ex->List A->Option (List UInt8)):Option (List UInt8):=z91 N x.1 x.2.1 x.2.2.1 x.2.2.2.1 x.2.2.2.2.1 (fun a5=>(K .normal (mkS [(0,.v .str),(2,.v .str),(0,.v (.int .i64)),(0,.v (.int .i64)),(0,.v (.int .i64)),(21,.v .bool)] 9 (x.1,x.2.1,x.2.2.1,x.2.2.2.1,x.2.2.2.2.1,a5,()))))
def zen (N:Nat):Hd (List UInt8):=fun st K=>(unS [(0,.v .str),(2,.v .str),(0,.v (.int .i64)),(0,.v (.int .i64)),(0,.v (.int .i64))] 31 (restr [5,6,3,4,0] 0 st)).bind fun x=>zes N x K
def zst (N:Nat):Tab (List UInt8):=[]
theorem zpk {N:Nat}{c:Ctx}(hb:Base Go.Proofs.Tryd.prog (z35 N) c):zi Go.Proofs.Tryd.prog c (zf z1k [0,0,1,0,0,1,0,0,1,0,1,1]) (zen N) :=
 zd (s:=[(0,.v .str),(2,.v .str),(0,.v (.int .i64)),(0,.v (.int .i64)),(0,.v (.int .i64))]) (m:=31) (g:=zes N) [5,6,3,4,0] (za hb N (zst N) z3n z1k TabOk.nil [0,0,1,0,0,1,0,0,1,0,1,1] _ rfl) (fun x K=>by kernel_rfl)
def z92 (N:Nat)(s:(List UInt8))(out:(List UInt8))(i:Int)(a:Int)(b:Int)(k0:Option (List UInt8))(k1:Option (List UInt8)):Option (List UInt8):=z91 N s out i a b (fun x28=>cond x28 k0 k1)
def zet (N:Nat)(x:z1h [(0,.v .str),(2,.v .str),(0,.v (.int .i64)),(0,.v (.int .i64)),(0,.v (.int .i64))])(K:Ex->List A->Option (List UInt8)):Option (List UInt8):=z92 N x.1 x.2.1 x.2.2.1 x.2.2.2.1 x.2.2.2.2.1 (K .ret (mkS [(2,.v .str)] 35 (x.2.1,()))) (K .normal (mkS [(0,.v .str),(2,.v .str),(0,.v (.int .i64)),(0,.v (.int .i64)),(0,.v (.int .i64))] 31 (x.1,x.2.1,x.2.2.1,x.2.2.2.1,x.2.2.2.2.1,())))
def zeo (N:Nat):Hd (List UInt8):=fun st K=>(unS [(0,.v .str),(2,.v .str),(0,.v (.int .i64)),(0,.v (.int .i64)),(0,.v (.int .i64))] 31 (restr [5,6,3,4,0] 0 st)).bind fun x=>zet N x K
def zsu (N:Nat):Tab (List UInt8):=[([0,0,1,0,0,1,0,0,1,0,1,1],zen N)]
theorem zpl {N:Nat}{c:Ctx}(hb:Base Go.Proofs.Tryd.prog (z35 N) c):zi Go.Proofs.Tryd.prog c (zf z1k [0,1,0,0,1,0,0,1,0,1,1]) (zeo N) :=
 zd (s:=[(0,.v .str),(2,.v .str),(0,.v (.int .i64)),(0,.v (.int .i64)),(0,.v (.int .i64))]) (m:=31) (g:=zet N) [5,6,3,4,0] (za hb N (zsu N) z3n z1k (TabOk.cons (zpk hb) TabOk.nil) [0,1,0,0,1,0,0,1,0,1,1] _ rfl) (fun x K=>by kernel_rfl)
def z93 (N:Nat)(s:(List UInt8))(out:(List UInt8))(i:Int)(k0:Option (List UInt8))(k1:(List UInt8)->Option (List UInt8)):Option (List UInt8):=cond (Go.Lift.inR i (List.length s)) ((z61 N (UInt8.toNat (List.getD s (Int.toNat i) (0:UInt8)):Int)).bind fun y=>cond (Go.Lift.inR (Go.IntKind.wrap Go.IntKind.i64 (i+1)) (List.length s)) ((z61 N (((UInt8.toNat (List.getD s (Int.toNat (Go.IntKind.wrap Go.IntKind.i64 (i+1))) (0:UInt8))):Nat):Int)).bind fun y1=>z92 N s out i y y1 k0 (cond (decide (((List.length out)+(List.length (Go.Lift.toStr ([(Go.IntKind.wrap Go.IntKind.u8 (Go.IntKind.wrap Go.IntKind.i64 ((Go.IntKind.wrap Go.IntKind.i64 (16*y))+y1)))]:List Int))))<=9223372036854775807)) (k1 (out++(Go.Lift.toStr ([(Go.IntKind.wrap Go.IntKind.u8 (Go.IntKind.wrap Go.IntKind.i64 ((Go.IntKind.wrap Go.IntKind.i64 (16*y))+y1)))]:List Int)))) none)) none) none
def zeu (N:Nat)(x:z1h [(0,.v .str),(2,.v .str),(0,.v (.int .i64))])(K:Ex->List A->Option (List UInt8)):Option (List UInt8):=z93 N x.1 x.2.1 x.2.2.1 (K .ret (mkS [(2,.v .str)] 35 (x.2.1,()))) (fun a1=>(K .normal (mkS [(0,.v .str),(2,.v .str),(0,.v (.int .i64))] 33 (x.1,a1,x.2.2.1,()))))
def zep (N:Nat):Hd (List UInt8):=fun st K=>(unS [(0,.v .str),(2,.v .str),(0,.v (.int .i64))] 33 (restr [0,4,3] 0 st)).bind fun x=>zeu N x K
def zsv (N:Nat):Tab (List UInt8):=[([0,1,0,0,1,0,0,1,0,1,1],zeo N)]
theorem zpm {N:Nat}{c:Ctx}(hb:Base Go.Proofs.Tryd.prog (z35 N) c):zi Go.Proofs.Tryd.prog c (zf z1k [0,1,0,0,1,0,1,1]) (zep N) :=
 zd (s:=[(0,.v .str),(2,.v .str),(0,.v (.int .i64))]) (m:=33) (g:=zeu N) [0,4,3] (za hb N (zsv N) z3n z1k (TabOk.cons (zpl hb) TabOk.nil) [0,1,0,0,1,0,1,1] _ rfl) (fun x K=>by kernel_rfl)
def z90 (N:Nat)(s:(List UInt8))(out:(List UInt8))(i:Int)(rec:(List UInt8)->Int->Option (List UInt8))(k0:(List UInt8)->Option (List UInt8))(k1:(List UInt8)->Option (List UInt8)):Option (List UInt8):=cond (decide ((Go.IntKind.wrap Go.IntKind.i64 (i+1))<(List.length s:Int))) (z93 N s out i (k0 out) (fun out1=>rec out1 (Go.IntKind.wrap Go.IntKind.i64 (i+2)))) (k1 out)
def zem (N:Nat)(s:(List UInt8))(out:(List UInt8))(i:Int)(k0:(List UInt8)->Option (List UInt8))(k1:(List UInt8)->Option (List UInt8)):Option (List UInt8):=iter (fun (v:((List UInt8)×Int)) r=>z90 N s v.1 v.2 (fun out i=>(r (out,i))) k0 k1) N (out,i)
def zev (N:Nat)(i:(List UInt8))(v:((List UInt8)×Int))(r:((List UInt8)×Int)->Option (List UInt8))(K:Ex->List A->Option (List UInt8)):Option (List UInt8):=z90 N i v.1 v.2 (fun out i=>(r (out,i))) (fun a0=>(K .ret (mkS [(2,.v .str)] 35 (a0,())))) (fun a0=>(K (.exit 0) (mkS [(3,.v .str)] 34 (a0,()))))
def zer (N:Nat):Hd (List UInt8):=fun st K=>(unS [(0,.v .str),(2,.v .str),(0,.v (.int .i64))] 33 (restr [4,0,3] 0 st)).bind fun x=>iter (fun v r=>zev N ((fun x=>x.1) x) v r K) N ((fun x=>(x.2.1,x.2.2.1)) x)
def zsw (N:Nat):Tab (List UInt8):=[([0,1,0,0,1,0,1,1],zep N)]
theorem zpn {N:Nat}{c:Ctx}(hb:Base Go.Proofs.Tryd.prog (z35 N) c):zi Go.Proofs.Tryd.prog c (zf z1k [0,1,0,1,1]) (zer N) :=
 z3z (s:=[(0,.v .str),(2,.v .str),(0,.v (.int .i64))]) (m:=33) (zev N) [4,0,3] N (fun x=>x.1) (fun x=>(x.2.1,x.2.2.1)) (fun i v=>(i,v.1,v.2,())) (fun _=>rfl) (za hb N (zsw N) z3n z1k (TabOk.cons (zpm hb) TabOk.nil) [0,0,1,0,1,1] _ rfl) (fun i v r K=>by kernel_rfl)
def z3o (N:Nat)(s:(List UInt8)):Option (List UInt8):=zem N s [] 1 (fun x2=>some x2) (fun out=>some out)
def zhc (N:Nat):Tab (List UInt8):=[([0,1,0,1,1],zer N)]
theorem zo5 (N:Nat)(x:z1h [(0,.v .str)]):zc5 (z35 N) N (zhc N) z3n Go.Proofs.Tryd.f24 (mkS [(0,.v .str)] 0 x) (z40 (.v .str) 1)=z3o N x.1:=by kernel_rfl
def zdd (N:Nat):List A->Res:=z2c [(0,.v .str)] (fun x=>z3o N x.1) (zbc (.v .str) 1)
theorem zsx (N:Nat):Contract Go.Proofs.Tryd.prog glob 24 (zdd N) :=
 Contract.of (E:=z35 N) (H:=zhc N) (L:=z3n) (N:=N) (body:=z1k) (K:=(z40 (.v .str) 1)) (zpo N) Go.Proofs.Tryd.func24 (by kernel_rfl) (by decide) (fun _ hb=>(TabOk.cons (zpn hb) TabOk.nil)) (fun x y h=>by rw[zo5];exact h) (z1c (s:=(.v .str)) (m:=1))
def z14:Code:=(Go.Proofs.Tryd.f25.body).getD .skip
def z2r:List (List Nat×List Nat):=[([0],[0]),([0,1],[0,3]),([0,0,1,1],[4,0,3]),([0,1,0,1,1],[4,0,3]),([0,0,0,0,1,0,1,1],[12,0,4,3]),([1,0,0,0,1,0,1,1],[0,4,3]),([1,1,0,0,0,1,0,1,1],[3]),([0,0,0,0,1,0,0,1,0,1,1],[24,3,0,4]),([1,0,0,0,1,0,0,1,0,1,1],[3,0,4]),([0,0,1,0,0,0,1,0,0,1,0,1,1],[2]),([1,0,1,0,0,0,1,0,0,1,0,1,1],[2]),([1,0,0,1,0,0,1,0,1,1],[4,0,3]),([0,1,0,0,1,0,1,1],[4,0,3]),([1,1,0,0,1,0,1,1],[4,0,3]),([1,0,1,1],[3]),([0,1,1,1],[2]),([1,1,1,1],[2])]
def z1z (N:Nat):Env:=z3v tys glob [] [] [] [] false [] []
theorem zob (N:Nat):EnvOk Go.Proofs.Tryd.prog (z1z N):=zw mixed z1v (FnsOk.nil) (ItsOk.nil)
def z7z (N:Nat)(s:(List UInt8))(n:Int)(i:Int)(k0:Option Int)(k1:Option Int):Option Int:=cond (decide (i<(List.length s:Int))) (cond (decide (i<14)) k0 k1) k1
def zdn (N:Nat)(x:z1h [(0,.v .str),(2,.v (.int .i64)),(0,.v (.int .i64))])(K:Ex->List A->Option Int):Option Int:=z7z N x.1 x.2.1 x.2.2.1 (K .normal (mkS [(0,.v .str),(2,.v (.int .i64)),(0,.v (.int .i64))] 30 (x.1,x.2.1,x.2.2.1,()))) (K (.exit 0) (mkS [(3,.v (.int .i64))] 31 (x.2.1,())))
def zdi (N:Nat):Hd Int:=fun st K=>(unS [(0,.v .str),(2,.v (.int .i64)),(0,.v (.int .i64))] 30 (restr [4,0,3] 0 st)).bind fun x=>zdn N x K
def zps (N:Nat):Tab Int:=[]
theorem zo9 {N:Nat}{c:Ctx}(hb:Base Go.Proofs.Tryd.prog (z1z N) c):zi Go.Proofs.Tryd.prog c (zf z14 [0,0,0,1,0,1,1]) (zdi N) :=
 zd (s:=[(0,.v .str),(2,.v (.int .i64)),(0,.v (.int .i64))]) (m:=30) (g:=zdn N) [4,0,3] (za hb N (zps N) z2r z14 TabOk.nil [0,0,0,1,0,1,1] _ rfl) (fun x K=>by kernel_rfl)
def z7w (N:Nat)(s:(List UInt8))(n:Int)(i:Int)(k0:Bool->Option Int):Option Int:=cond (Go.Lift.inR i (List.length s)) (cond (decide ((UInt8.toNat (List.getD s (Int.toNat i) (0:UInt8)):Int)<48)) (k0 true) (cond (Go.Lift.inR i (List.length s)) (k0 (decide (57<(UInt8.toNat (List.getD s (Int.toNat i) (0:UInt8)):Int)))) none)) none
def zdk (N:Nat)(x:z1h [(0,.v .str),(2,.v (.int .i64)),(0,.v (.int .i64))])(K:Ex->List A->Option Int):Option Int:=z7w N x.1 x.2.1 x.2.2.1 (fun a3=>(K .normal (mkS [(0,.v .str),(2,.v (.int .i64)),(0,.v (.int .i64)),(19,.v .bool)] 10 (x.1,x.2.1,x.2.2.1,a3,()))))
def zdf (N:Nat):Hd Int:=fun st K=>(unS [(0,.v .str),(2,.v (.int .i64)),(0,.v (.int .i64))] 30 (restr [0,4,3] 0 st)).bind fun x=>zdk N x K
def zpp (N:Nat):Tab Int:=[]
theorem zo6 {N:Nat}{c:Ctx}(hb:Base Go.Proofs.Tryd.prog (z1z N) c):zi Go.Proofs.Tryd.prog c (zf z14 [0,0,0,0,1,0,0,1,0,1,1]) (zdf N) :=
 zd (s:=[(0,.v .str),(2,.v (.int .i64)),(0,.v (.int .i64))]) (m:=30) (g:=zdk N) [0,4,3] (za hb N (zpp N) z2r z14 TabOk.nil [0,0,0,0,1,0,0,1,0,1,1] _ rfl) (fun x K=>by kernel_rfl)
def z7x (N:Nat)(s:(List UInt8))(n:Int)(i:Int)(k0:Option Int)(k1:Option Int):Option Int:=z7w N s n i (fun x24=>cond x24 k0 k1)
def zdl (N:Nat)(x:z1h [(0,.v .str),(2,.v (.int .i64)),(0,.v (.int .i64))])(K:Ex->List A->Option Int):Option Int:=z7x N x.1 x.2.1 x.2.2.1 (K .ret (mkS [(2,.v (.int .i64))] 32 (x.2.1,()))) (K .normal (mkS [(0,.v .str),(2,.v (.int .i64)),(0,.v (.int .i64))] 30 (x.1,x.2.1,x.2.2.1,())))
def zdg (N:Nat):Hd Int:=fun st K=>(unS [(0,.v .str),(2,.v (.int .i64)),(0,.v (.int .i64))] 30 (restr [0,4,3] 0 st)).bind fun x=>zdl N x K
def zpq (N:Nat):Tab Int:=[([0,0,0,0,1,0,0,1,0,1,1],zdf N)]
theorem zo7 {N:Nat}{c:Ctx}(hb:Base Go.Proofs.Tryd.prog (z1z N) c):zi Go.Proofs.Tryd.prog c (zf z14 [0,0,0,1,0,0,1,0,1,1]) (zdg N) :=
 zd (s:=[(0,.v .str),(2,.v (.int .i64)),(0,.v (.int .i64))]) (m:=30) (g:=zdl N) [0,4,3] (za hb N (zpq N) z2r z14 (TabOk.cons (zo6 hb) TabOk.nil) [0,0,0,1,0,0,1,0,1,1] _ rfl) (fun x K=>by kernel_rfl)
def z7y (N:Nat)(s:(List UInt8))(n:Int)(i:Int)(k0:Option Int)(k1:Int->Option Int):Option Int:=z7x N s n i k0 (cond (Go.Lift.inR i (List.length s)) (k1 (Go.IntKind.wrap Go.IntKind.i64 ((Go.IntKind.wrap Go.IntKind.i64 ((Go.IntKind.wrap Go.IntKind.i64 (10*n))+(Go.IntKind.wrap Go.IntKind.i64 (UInt8.toNat (List.getD s (Int.toNat i) (0:UInt8)):Int)))) - 48))) none)
def zdm (N:Nat)(x:z1h [(0,.v .str),(2,.v (.int .i64)),(0,.v (.int .i64))])(K:Ex->List A->Option Int):Option Int:=z7y N x.1 x.2.1 x.2.2.1 (K .ret (mkS [(2,.v (.int .i64))] 32 (x.2.1,()))) (fun a1=>(K .normal (mkS [(0,.v .str),(2,.v (.int .i64)),(0,.v (.int .i64))] 30 (x.1,a1,x.2.2.1,()))))
def zdh (N:Nat):Hd Int:=fun st K=>(unS [(0,.v .str),(2,.v (.int .i64)),(0,.v (.int .i64))] 30 (restr [0,4,3] 0 st)).bind fun x=>zdm N x K
def zpr (N:Nat):Tab Int:=[([0,0,0,1,0,0,1,0,1,1],zdg N)]
theorem zo8 {N:Nat}{c:Ctx}(hb:Base Go.Proofs.Tryd.prog (z1z N) c):zi Go.Proofs.Tryd.prog c (zf z14 [0,1,0,0,1,0,1,1]) (zdh N) :=
 zd (s:=[(0,.v .str),(2,.v (.int .i64)),(0,.v (.int .i64))]) (m:=30) (g:=zdm N) [0,4,3] (za hb N (zpr N) z2r z14 (TabOk.cons (zo7 hb) TabOk.nil) [0,1,0,0,1,0,1,1] _ rfl) (fun x K=>by kernel_rfl)
def z7v (N:Nat)(s:(List UInt8))(n:Int)(i:Int)(rec:Int->Int->Option Int)(k0:Int->Option Int)(k1:Int->Option Int):Option Int:=z7z N s n i (z7y N s n i (k0 n) (fun n1=>rec n1 (Go.IntKind.wrap Go.IntKind.i64 (i+1)))) (k1 n)
def zde (N:Nat)(s:(List UInt8))(n:Int)(i:Int)(k0:Int->Option Int)(k1:Int->Option Int):Option Int:=iter (fun (v:(Int×Int)) r=>z7v N s v.1 v.2 (fun n i=>(r (n,i))) k0 k1) N (n,i)
def zdo (N:Nat)(i:(List UInt8))(v:(Int×Int))(r:(Int×Int)->Option Int)(K:Ex->List A->Option Int):Option Int:=z7v N i v.1 v.2 (fun n i=>(r (n,i))) (fun a0=>(K .ret (mkS [(2,.v (.int .i64))] 32 (a0,())))) (fun a0=>(K (.exit 0) (mkS [(3,.v (.int .i64))] 31 (a0,()))))
def zdj (N:Nat):Hd Int:=fun st K=>(unS [(0,.v .str),(2,.v (.int .i64)),(0,.v (.int .i64))] 30 (restr [4,0,3] 0 st)).bind fun x=>iter (fun v r=>zdo N ((fun x=>x.1) x) v r K) N ((fun x=>(x.2.1,x.2.2.1)) x)
def zpt (N:Nat):Tab Int:=[([0,0,0,1,0,1,1],zdi N),([0,1,0,0,1,0,1,1],zdh N)]
theorem zoa {N:Nat}{c:Ctx}(hb:Base Go.Proofs.Tryd.prog (z1z N) c):zi Go.Proofs.Tryd.prog c (zf z14 [0,1,0,1,1]) (zdj N) :=
 z3z (s:=[(0,.v .str),(2,.v (.int .i64)),(0,.v (.int .i64))]) (m:=30) (zdo N) [4,0,3] N (fun x=>x.1) (fun x=>(x.2.1,x.2.2.1)) (fun i v=>(i,v.1,v.2,())) (fun _=>rfl) (za hb N (zpt N) z2r z14 (TabOk.cons (zo9 hb) (TabOk.cons (zo8 hb) TabOk.nil)) [0,0,1,0,1,1] _ rfl) (fun i v r K=>by kernel_rfl)
def z5j (N:Nat)(s:(List UInt8)):Option Int:=zde N s 0 0 (fun x2=>some x2) (fun n=>some n)
def zew (N:Nat):Tab Int:=[([0,1,0,1,1],zdj N)]
theorem zn1 (N:Nat)(x:z1h [(0,.v .str)]):zc5 (z1z N) N (zew N) z2r Go.Proofs.Tryd.f25 (mkS [(0,.v .str)] 0 x) (z40 (.v (.int .i64)) 1)=z5j N x.1:=by kernel_rfl
def zcb (N:Nat):List A->Res:=z2c [(0,.v .str)] (fun x=>z5j N x.1) (zbc (.v (.int .i64)) 1)
theorem zpu (N:Nat):Contract Go.Proofs.Tryd.prog glob 25 (zcb N) :=
 Contract.of (E:=z1z N) (H:=zew N) (L:=z2r) (N:=N) (body:=z14) (K:=(z40 (.v (.int .i64)) 1)) (zob N) Go.Proofs.Tryd.func25 (by kernel_rfl) (by decide) (fun _ hb=>(TabOk.cons (zoa hb) TabOk.nil)) (fun x y h=>by rw[zn1];exact h) (z1c (s:=(.v (.int .i64))) (m:=1))
def z25:Code:=(Go.Proofs.Tryd.f68.body).getD .skip
def z56:List (List Nat×List Nat):=[([0],[0]),([0,0,1],[8,0]),([1,0,1],[0]),([0,0,1,0,1],[2]),([1,0,1,0,1],[2]),([0,0,1,1],[17,0]),([1,0,1,1],[]),([0,0,1,0,1,1],[2]),([1,0,1,0,1,1],[2]),([0,1,1,1],[2]),([1,1,1,1],[2])]
def z3q (N:Nat):Env:=z3v tys glob [] [] [] [] false [] []
theorem zqw (N:Nat):EnvOk Go.Proofs.Tryd.prog (z3q N):=zw mixed z1v (FnsOk.nil) (ItsOk.nil)
def zge (N:Nat)(b:Int)(k0:Bool->Option Int):Option Int:=cond (decide (48<=b)) (k0 (decide (b<=57))) (k0 false)
def zgk (N:Nat)(x:z1h [(0,.v (.int .u8))])(K:Ex->List A->Option Int):Option Int:=zge N x.1 (fun a1=>(K .normal (mkS [(0,.v (.int .u8)),(7,.v .bool)] 12 (x.1,a1,()))))
def zgh (N:Nat):Hd Int:=fun st K=>(unS [(0,.v (.int .u8))] 20 (restr [0] 0 st)).bind fun x=>zgk N x K
def zu0 (N:Nat):Tab Int:=[]
theorem zqu {N:Nat}{c:Ctx}(hb:Base Go.Proofs.Tryd.prog (z3q N) c):zi Go.Proofs.Tryd.prog c (zf z25 [0,0,1]) (zgh N) :=
 zd (s:=[(0,.v (.int .u8))]) (m:=20) (g:=zgk N) [0] (za hb N (zu0 N) z56 z25 TabOk.nil [0,0,1] _ rfl) (fun x K=>by kernel_rfl)
def zgf (N:Nat)(b:Int)(k0:Int->Option Int)(k1:Option Int):Option Int:=zge N b (fun x8=>cond x8 (k0 (Go.IntKind.wrap Go.IntKind.i64 ((Go.IntKind.wrap Go.IntKind.i64 b) - 48))) k1)
def zgl (N:Nat)(x:z1h [(0,.v (.int .u8))])(K:Ex->List A->Option Int):Option Int:=zgf N x.1 (fun a0=>(K .ret (mkS [(2,.v (.int .i64))] 18 (a0,())))) (K .normal (mkS [(0,.v (.int .u8))] 20 (x.1,())))
def zgi (N:Nat):Hd Int:=fun st K=>(unS [(0,.v (.int .u8))] 20 (restr [0] 0 st)).bind fun x=>zgl N x K
def zu1 (N:Nat):Tab Int:=[([0,0,1],zgh N)]
theorem zqv {N:Nat}{c:Ctx}(hb:Base Go.Proofs.Tryd.prog (z3q N) c):zi Go.Proofs.Tryd.prog c (zf z25 [0,1]) (zgi N) :=
 zd (s:=[(0,.v (.int .u8))]) (m:=20) (g:=zgl N) [0] (za hb N (zu1 N) z56 z25 (TabOk.cons (zqu hb) TabOk.nil) [0,1] _ rfl) (fun x K=>by kernel_rfl)
def zgd (N:Nat)(b:Int)(k0:Bool->Option Int):Option Int:=cond (decide (97<=b)) (k0 (decide (b<=102))) (k0 false)
def zgj (N:Nat)(x:z1h [(0,.v (.int .u8))])(K:Ex->List A->Option Int):Option Int:=zgd N x.1 (fun a1=>(K .normal (mkS [(0,.v (.int .u8)),(16,.v .bool)] 3 (x.1,a1,()))))
def zgg (N:Nat):Hd Int:=fun st K=>(unS [(0,.v (.int .u8))] 20 (restr [0] 0 st)).bind fun x=>zgj N x K
def ztz (N:Nat):Tab Int:=[]
theorem zqt {N:Nat}{c:Ctx}(hb:Base Go.Proofs.Tryd.prog (z3q N) c):zi Go.Proofs.Tryd.prog c (zf z25 [0,0,1,1]) (zgg N) :=
 zd (s:=[(0,.v (.int .u8))]) (m:=20) (g:=zgj N) [0] (za hb N (ztz N) z56 z25 TabOk.nil [0,0,1,1] _ rfl) (fun x K=>by kernel_rfl)
def z4z (N:Nat)(b:Int):Option Int:=zgf N b (fun x2=>some x2) (zgd N b (fun x17=>cond x17 (some (Go.IntKind.wrap Go.IntKind.i64 ((Go.IntKind.wrap Go.IntKind.i64 b) - 87))) (some (-1))))
def zhy (N:Nat):Tab Int:=[([0,1],zgi N),([0,0,1,1],zgg N)]
theorem zom (N:Nat)(x:z1h [(0,.v (.int .u8))]):zc5 (z3q N) N (zhy N) z56 Go.Proofs.Tryd.f68 (mkS [(0,.v (.int .u8))] 0 x) (z40 (.v (.int .i64)) 1)=z4z N x.1:=by kernel_rfl
def zdy (N:Nat):List A->Res:=z2c [(0,.v (.int .u8))] (fun x=>z4z N x.1) (zbc (.v (.int .i64)) 1)
theorem zu2 (N:Nat):Contract Go.Proofs.Tryd.prog glob 68 (zdy N) :=
 Contract.of (E:=z3q N) (H:=zhy N) (L:=z56) (N:=N) (body:=z25) (K:=(z40 (.v (.int .i64)) 1)) (zqw N) Go.Proofs.Tryd.func68 (by kernel_rfl) (by decide) (fun _ hb=>(TabOk.cons (zqv hb) (TabOk.cons (zqt hb) TabOk.nil))) (fun x y h=>by rw[zom];exact h) (z1c (s:=(.v (.int .i64))) (m:=1))
def z3g:Code:=(Go.Proofs.Tryd.f51.body).getD .skip
def z5z:List (List Nat×List Nat):=[([0],[0,1]),([0,1],[6,0,1]),([0,0,1,1],[14,0,1,6]),([1,0,1,1],[0,1,6]),([0,0,1,0,1,1],[4,5]),([1,0,1,0,1,1],[4,5]),([0,0,1,1,1],[26,0,1,6]),([1,0,1,1,1],[0,1,6]),([0,0,1,0,1,1,1],[4,5]),([1,0,1,0,1,1,1],[4,5]),([0,0,1,1,1,1],[37,6,0,1]),([1,0,1,1,1,1],[6,0,1]),([0,0,1,0,1,1,1,1],[4,5]),([1,0,1,0,1,1,1,1],[4,5]),([0,0,1,1,1,1,1],[39,0,1,6]),([1,0,1,1,1,1,1],[0,1,6]),([0,0,1,0,1,1,1,1,1],[4,5]),([1,0,1,0,1,1,1,1,1],[4,5]),([0,1,1,1,1,1,1],[7,6,0,1]),([0,0,1,1,1,1,1,1,1],[46,6,0,1,7]),([1,0,1,1,1,1,1,1,1],[6,0,1,7]),([0,0,1,0,1,1,1,1,1,1,1],[4,5]),([1,0,1,0,1,1,1,1,1,1,1],[4,5]),([0,0,1,1,1,1,1,1,1,1],[48,0,1,7]),([1,0,1,1,1,1,1,1,1,1],[0,1,7]),([0,0,1,0,1,1,1,1,1,1,1,1],[4,5]),([1,0,1,0,1,1,1,1,1,1,1,1],[4,5]),([0,1,1,1,1,1,1,1,1,1],[8,7]),([0,0,1,1,1,1,1,1,1,1,1,1],[55,7,8]),([1,0,1,1,1,1,1,1,1,1,1,1],[7,8]),([0,0,1,0,1,1,1,1,1,1,1,1,1,1],[4,5]),([1,0,1,0,1,1,1,1,1,1,1,1,1,1],[4,5]),([0,1,1,1,1,1,1,1,1,1,1,1],[4,5]),([1,1,1,1,1,1,1,1,1,1,1,1],[4,5])]
def z4q (N:Nat):Env:=z3v tys glob [(68,zdy N),(50,z9q N)] [] [] [] false [] []
theorem zop (N:Nat):EnvOk Go.Proofs.Tryd.prog (z4q N):=zw mixed z1v (FnsOk.cons (zu2 N) (FnsOk.cons (zjb N) (FnsOk.nil))) (ItsOk.nil)
def z82 (N:Nat)(s:(List UInt8))(at_:Int)(left:Int)(k0:Bool->Option ((List UInt8)×Int×Unit)):Option ((List UInt8)×Int×Unit):=cond (Go.Lift.inR (Go.IntKind.wrap Go.IntKind.i64 (at_+1)) (List.length s)) (cond ((((UInt8.toNat (List.getD s (Int.toNat (Go.IntKind.wrap Go.IntKind.i64 (at_+1))) (0:UInt8))):Nat):Int) == 34) (k0 true) (cond (Go.Lift.inR (Go.IntKind.wrap Go.IntKind.i64 (at_+1)) (List.length s)) (k0 ((((UInt8.toNat (List.getD s (Int.toNat (Go.IntKind.wrap Go.IntKind.i64 (at_+1))) (0:UInt8))):Nat):Int) == 92)) none)) none
def ze1 (N:Nat)(x:z1h [(0,.v .str),(0,.v (.int .i64)),(4,.v (.int .i64))])(K:Ex->List A->Option ((List UInt8)×Int×Unit)):Option ((List UInt8)×Int×Unit):=z82 N x.1 x.2.1 x.2.2.1 (fun a3=>(K .normal (mkS [(0,.v .str),(0,.v (.int .i64)),(4,.v (.int .i64)),(19,.v .bool)] 34 (x.1,x.2.1,x.2.2.1,a3,()))))
def zdz (N:Nat):Hd ((List UInt8)×Int×Unit):=fun st K=>(unS [(0,.v .str),(0,.v (.int .i64)),(4,.v (.int .i64))] 54 (restr [0,1,6] 0 st)).bind fun x=>ze1 N x K
def zr1 (N:Nat):Tab ((List UInt8)×Int×Unit):=[]
theorem zon {N:Nat}{c:Ctx}(hb:Base Go.Proofs.Tryd.prog (z4q N) c):zi Go.Proofs.Tryd.prog c (zf z3g [0,0,1,1,1]) (zdz N) :=
 zd (s:=[(0,.v .str),(0,.v (.int .i64)),(4,.v (.int .i64))]) (m:=54) (g:=ze1 N) [0,1,6] (za hb N (zr1 N) z5z z3g TabOk.nil [0,0,1,1,1] _ rfl) (fun x K=>by kernel_rfl)
def z83 (N:Nat)(s:(List UInt8))(at_:Int)(left:Int)(k0:(List UInt8)->Int->Option ((List UInt8)×Int×Unit))(k1:Option ((List UInt8)×Int×Unit)):Option ((List UInt8)×Int×Unit):=z82 N s at_ left (fun x26=>cond x26 (cond (decide ((0<=(Go.IntKind.wrap Go.IntKind.i64 (at_+2)))/\((Go.IntKind.wrap Go.IntKind.i64 (at_+2))<=(List.length s:Int)))) (cond (decide ((0<=(Go.IntKind.wrap Go.IntKind.i64 (at_+1)))/\((Go.IntKind.wrap Go.IntKind.i64 (at_+1))<=(Go.IntKind.wrap Go.IntKind.i64 (at_+2))))) (k0 (Go.Lift.cut s (Int.toNat (Go.IntKind.wrap Go.IntKind.i64 (at_+1))) (Int.toNat (Go.IntKind.wrap Go.IntKind.i64 (at_+2)))) 2) none) none) k1)
def ze2 (N:Nat)(x:z1h [(0,.v .str),(0,.v (.int .i64)),(4,.v (.int .i64))])(K:Ex->List A->Option ((List UInt8)×Int×Unit)):Option ((List UInt8)×Int×Unit):=z83 N x.1 x.2.1 x.2.2.1 (fun a0 a1=>(K .ret (mkS [(4,.v .str),(0,.v (.int .i64))] 55 (a0,a1,())))) (K .normal (mkS [(0,.v .str),(0,.v (.int .i64)),(4,.v (.int .i64))] 54 (x.1,x.2.1,x.2.2.1,())))
def ze0 (N:Nat):Hd ((List UInt8)×Int×Unit):=fun st K=>(unS [(0,.v .str),(0,.v (.int .i64)),(4,.v (.int .i64))] 54 (restr [0,1,6] 0 st)).bind fun x=>ze2 N x K
def zr2 (N:Nat):Tab ((List UInt8)×Int×Unit):=[([0,0,1,1,1],zdz N)]
theorem zoo {N:Nat}{c:Ctx}(hb:Base Go.Proofs.Tryd.prog (z4q N) c):zi Go.Proofs.Tryd.prog c (zf z3g [0,1,1,1]) (ze0 N) :=
 zd (s:=[(0,.v .str),(0,.v (.int .i64)),(4,.v (.int .i64))]) (m:=54) (g:=ze2 N) [0,1,6] (za hb N (zr2 N) z5z z3g (TabOk.cons (zon hb) TabOk.nil) [0,1,1,1] _ rfl) (fun x K=>by kernel_rfl)
def z5m (N:Nat)(s:(List UInt8))(at_:Int):Option ((List UInt8)×Int×Unit):=cond (decide ((Go.IntKind.wrap Go.IntKind.i64 ((List.length s:Int) - at_))<2)) (some ([],((-1),()))) (z83 N s at_ (Go.IntKind.wrap Go.IntKind.i64 ((List.length s:Int) - at_)) (fun x4 x5=>some (x4,(x5,()))) (cond (Go.Lift.inR (Go.IntKind.wrap Go.IntKind.i64 (at_+1)) (List.length s)) (cond ((((UInt8.toNat (List.getD s (Int.toNat (Go.IntKind.wrap Go.IntKind.i64 (at_+1))) (0:UInt8))):Nat):Int) != 120) (some ([],(0,()))) (cond (decide ((Go.IntKind.wrap Go.IntKind.i64 ((List.length s:Int) - at_))<3)) (some ([],((-1),()))) (cond (Go.Lift.inR (Go.IntKind.wrap Go.IntKind.i64 (at_+2)) (List.length s)) ((z4z N (((UInt8.toNat (List.getD s (Int.toNat (Go.IntKind.wrap Go.IntKind.i64 (at_+2))) (0:UInt8))):Nat):Int)).bind fun y=>cond (decide (y<0)) (some ([],(0,()))) (cond (decide ((Go.IntKind.wrap Go.IntKind.i64 ((List.length s:Int) - at_))<4)) (some ([],((-1),()))) (cond (Go.Lift.inR (Go.IntKind.wrap Go.IntKind.i64 (at_+3)) (List.length s)) ((z4z N (((UInt8.toNat (List.getD s (Int.toNat (Go.IntKind.wrap Go.IntKind.i64 (at_+3))) (0:UInt8))):Nat):Int)).bind fun y1=>cond (decide (y1<0)) (some ([],(0,()))) (some ((Go.Lift.toStr ([(Go.IntKind.wrap Go.IntKind.u8 (Go.IntKind.wrap Go.IntKind.i64 ((Go.IntKind.wrap Go.IntKind.i64 (16*y))+y1)))]:List Int)),(4,())))) none))) none))) none))
def zgp (N:Nat):Tab ((List UInt8)×Int×Unit):=[([0,1,1,1],ze0 N)]
theorem zn3 (N:Nat)(x:z1h [(0,.v .str),(0,.v (.int .i64))]):zc5 (z4q N) N (zgp N) z5z Go.Proofs.Tryd.f51 (mkS [(0,.v .str),(0,.v (.int .i64))] 0 x) (z40 (.tup [.str,(.int .i64)]) 2)=z5m N x.1 x.2.1:=by kernel_rfl
def zcd (N:Nat):List A->Res:=z2c [(0,.v .str),(0,.v (.int .i64))] (fun x=>z5m N x.1 x.2.1) (zbc (.tup [.str,(.int .i64)]) 2)
theorem zr3 (N:Nat):Contract Go.Proofs.Tryd.prog glob 51 (zcd N) :=
 Contract.of (E:=z4q N) (H:=zgp N) (L:=z5z) (N:=N) (body:=z3g) (K:=(z40 (.tup [.str,(.int .i64)]) 2)) (zop N) Go.Proofs.Tryd.func51 (by kernel_rfl) (by decide) (fun _ hb=>(TabOk.cons (zoo hb) TabOk.nil)) (fun x y h=>by rw[zn3];exact h) (z1c (s:=(.tup [.str,(.int .i64)])) (m:=2))
def z1n:Code:=(Go.Proofs.Tryd.f26.body).getD .skip
def z4h:List (List Nat×List Nat):=[([0],[1,0,6]),([0,0,1],[18,6,1,0]),([1,0,1],[1,0,6]),([0,0,1,0,1],[4,5,6]),([1,0,1,0,1],[4,5,6]),([0,0,1,1],[23,1,6,0]),([1,0,1,1],[0,1,6]),([0,0,1,0,1,1],[4,5,6]),([1,0,1,0,1,1],[4,5,6]),([0,0,1,1,1],[29,1,6,0]),([1,0,1,1,1],[1,0,6]),([0,0,1,0,1,1,1],[4,5,6]),([1,0,1,0,1,1,1],[4,5,6]),([0,1,1,1,1],[1,0,7,6]),([0,1,1,1,1,1],[8,0,7,6]),([0,0,1,1,1,1,1,1],[8,0,7,6]),([0,0,0,0,0,1,1,1,1,1,1],[37,0,8,7,6]),([1,0,0,0,0,1,1,1,1,1,1],[0,8,7,6]),([1,1,0,0,0,0,1,1,1,1,1,1],[0,6]),([0,0,0,1,0,0,0,1,1,1,1,1,1],[41,7,8,6,0]),([1,0,0,1,0,0,0,1,1,1,1,1,1],[0,8,6,7]),([0,0,1,0,0,1,0,0,0,1,1,1,1,1,1],[4,5,6]),([1,0,1,0,0,1,0,0,0,1,1,1,1,1,1],[4,5,6]),([0,1,0,1,0,0,0,1,1,1,1,1,1],[0,8,6,7,10,9]),([0,0,1,1,0,1,0,0,0,1,1,1,1,1,1],[53,0,8,6,7,10,9]),([1,0,1,1,0,1,0,0,0,1,1,1,1,1,1],[10,0,6,8,7,9]),([0,1,1,0,1,1,0,1,0,0,0,1,1,1,1,1,1],[62,0,8,6,7,10,9]),([1,1,1,0,1,1,0,1,0,0,0,1,1,1,1,1,1],[10,0,6,8,7,9]),([0,0,1,1,1,0,1,1,0,1,0,0,0,1,1,1,1,1,1],[0,8,10,6,7]),([1,0,1,1,1,0,1,1,0,1,0,0,0,1,1,1,1,1,1],[10,0,6,8,7,9]),([0,1,0,1,1,0,1,0,0,0,1,1,1,1,1,1],[10,0,6,8,7,9]),([0,0,1,1,1,0,1,0,0,0,1,1,1,1,1,1],[73,0,6,10,8,7,9]),([1,0,1,1,1,0,1,0,0,0,1,1,1,1,1,1],[10,8,6,7,9,0]),([0,0,1,0,1,1,1,0,1,0,0,0,1,1,1,1,1,1],[4,5,6]),([1,0,1,0,1,1,1,0,1,0,0,0,1,1,1,1,1,1],[4,5,6]),([0,0,1,1,1,1,0,1,0,0,0,1,1,1,1,1,1],[78,8,6,7,9,10,0]),([1,0,1,1,1,1,0,1,0,0,0,1,1,1,1,1,1],[7,9,8,10,0,6]),([0,0,1,0,1,1,1,1,0,1,0,0,0,1,1,1,1,1,1],[4,5,6]),([1,0,1,0,1,1,1,1,0,1,0,0,0,1,1,1,1,1,1],[4,5,6]),([0,1,1,1,1,1,0,1,0,0,0,1,1,1,1,1,1],[8,10,0,7,6]),([1,1,1,1,1,1,0,1,0,0,0,1,1,1,1,1,1],[8,0,7,6]),([1,0,0,0,1,1,1,1,1,1],[8,0,7,6]),([0,1,1,1,1,1,1],[0,6]),([0,1,1,1,1,1,1,1],[4,5,6]),([1,1,1,1,1,1,1,1],[4,5,6])]
def z3f (N:Nat):Env:=z3v tys glob [(51,zcd N),(42,z9o N),(52,z5y N)] [] [] [] false [] []
theorem zul (N:Nat):EnvOk Go.Proofs.Tryd.prog (z3f N):=zw mixed z1v (FnsOk.cons (zr3 N) (FnsOk.cons (zhx N) (FnsOk.cons (zao N) (FnsOk.nil)))) (ItsOk.nil)
def z6o (N:Nat)(s:(List UInt8))(at_:Int)(x6:(Int×(Int×Unit)))(k0:Bool->Option ((List UInt8)×Int×(Int×(Int×Unit))×Unit)):Option ((List UInt8)×Int×(Int×(Int×Unit))×Unit):=cond (decide (at_<0)) (k0 true) (k0 (decide ((List.length s:Int)<at_)))
def ziu (N:Nat)(x:z1h [(0,.v .str),(0,.v (.int .i64)),(4,.box (.pair (.int .i64) (.pair (.int .i64) .unit)))])(K:Ex->List A->Option ((List UInt8)×Int×(Int×(Int×Unit))×Unit)):Option ((List UInt8)×Int×(Int×(Int×Unit))×Unit):=z6o N x.1 x.2.1 x.2.2.1 (fun a3=>(K .normal (mkS [(0,.v .str),(0,.v (.int .i64)),(4,.box (.pair (.int .i64) (.pair (.int .i64) .unit))),(11,.v .bool)] 71 (x.1,x.2.1,x.2.2.1,a3,()))))
def ziq (N:Nat):Hd ((List UInt8)×Int×(Int×(Int×Unit))×Unit):=fun st K=>(unS [(0,.v .str),(0,.v (.int .i64)),(4,.box (.pair (.int .i64) (.pair (.int .i64) .unit)))] 83 (restr [1,0,6] 0 st)).bind fun x=>ziu N x K
def zxj (N:Nat):Tab ((List UInt8)×Int×(Int×(Int×Unit))×Unit):=[]
theorem zuj {N:Nat}{c:Ctx}(hb:Base Go.Proofs.Tryd.prog (z3f N) c):zi Go.Proofs.Tryd.prog c (zf z1n [0,0,1]) (ziq N) :=
 zd (s:=[(0,.v .str),(0,.v (.int .i64)),(4,.box (.pair (.int .i64) (.pair (.int .i64) .unit)))]) (m:=83) (g:=ziu N) [1,0,6] (za hb N (zxj N) z4h z1n TabOk.nil [0,0,1] _ rfl) (fun x K=>by kernel_rfl)
def z6p (N:Nat)(s:(List UInt8))(at_:Int)(x6:(Int×(Int×Unit)))(k0:(List UInt8)->Int->(Int×(Int×Unit))->Option ((List UInt8)×Int×(Int×(Int×Unit))×Unit))(k1:Option ((List UInt8)×Int×(Int×(Int×Unit))×Unit)):Option ((List UInt8)×Int×(Int×(Int×Unit))×Unit):=z6o N s at_ x6 (fun x18=>cond x18 (k0 [] 0 (7,(0,()))) k1)
def ziv (N:Nat)(x:z1h [(0,.v .str),(0,.v (.int .i64)),(4,.box (.pair (.int .i64) (.pair (.int .i64) .unit)))])(K:Ex->List A->Option ((List UInt8)×Int×(Int×(Int×Unit))×Unit)):Option ((List UInt8)×Int×(Int×(Int×Unit))×Unit):=z6p N x.1 x.2.1 x.2.2.1 (fun a0 a1 a2=>(K .ret (mkS [(4,.v .str),(0,.v (.int .i64)),(0,.box (.pair (.int .i64) (.pair (.int .i64) .unit)))] 83 (a0,a1,a2,())))) (K .normal (mkS [(0,.v .str),(0,.v (.int .i64)),(4,.box (.pair (.int .i64) (.pair (.int .i64) .unit)))] 83 (x.1,x.2.1,x.2.2.1,())))
def zir (N:Nat):Hd ((List UInt8)×Int×(Int×(Int×Unit))×Unit):=fun st K=>(unS [(0,.v .str),(0,.v (.int .i64)),(4,.box (.pair (.int .i64) (.pair (.int .i64) .unit)))] 83 (restr [1,0,6] 0 st)).bind fun x=>ziv N x K
def zxk (N:Nat):Tab ((List UInt8)×Int×(Int×(Int×Unit))×Unit):=[([0,0,1],ziq N)]
theorem zuk {N:Nat}{c:Ctx}(hb:Base Go.Proofs.Tryd.prog (z3f N) c):zi Go.Proofs.Tryd.prog c (zf z1n [0,1]) (zir N) :=
 zd (s:=[(0,.v .str),(0,.v (.int .i64)),(4,.box (.pair (.int .i64) (.pair (.int .i64) .unit)))]) (m:=83) (g:=ziv N) [1,0,6] (za hb N (zxk N) z4h z1n (TabOk.cons (zuj hb) TabOk.nil) [0,1] _ rfl) (fun x K=>by kernel_rfl)
def zaq (N:Nat)(s:(List UInt8))(x6:(Int×(Int×Unit)))(out:(List UInt8))(i:Int)(t:(List UInt8))(n:Int)(k0:(List UInt8)->Int->Option ((List UInt8)×Int×(Int×(Int×Unit))×Unit)):Option ((List UInt8)×Int×(Int×(Int×Unit))×Unit):=cond (Go.Lift.inR i (List.length s)) (cond ((UInt8.toNat (List.getD s (Int.toNat i) (0:UInt8)):Int) == 92) ((z5m N s i).bind fun y=>k0 y.1 y.2.1) ((z5f N s i).bind fun y1=>cond y1 ((z4j N s i).bind fun y2=>cond (decide ((0<=(Go.IntKind.wrap Go.IntKind.i64 (i+y2)))/\((Go.IntKind.wrap Go.IntKind.i64 (i+y2))<=(List.length s:Int)))) (cond (decide ((0<=i)/\(i<=(Go.IntKind.wrap Go.IntKind.i64 (i+y2))))) (k0 (Go.Lift.cut s (Int.toNat i) (Int.toNat (Go.IntKind.wrap Go.IntKind.i64 (i+y2)))) y2) none) none) (k0 t n))) none
def zis (N:Nat)(x:z1h [(0,.v .str),(5,.box (.pair (.int .i64) (.pair (.int .i64) .unit))),(0,.v .str),(0,.v (.int .i64)),(0,.v .str),(0,.v (.int .i64))])(K:Ex->List A->Option ((List UInt8)×Int×(Int×(Int×Unit))×Unit)):Option ((List UInt8)×Int×(Int×(Int×Unit))×Unit):=zaq N x.1 x.2.1 x.2.2.1 x.2.2.2.1 x.2.2.2.2.1 x.2.2.2.2.2.1 (fun a4 a5=>(K .normal (mkS [(0,.v .str),(5,.box (.pair (.int .i64) (.pair (.int .i64) .unit))),(0,.v .str),(0,.v (.int .i64)),(0,.v .str),(0,.v (.int .i64))] 79 (x.1,x.2.1,x.2.2.1,x.2.2.2.1,a4,a5,()))))
def zin (N:Nat):Hd ((List UInt8)×Int×(Int×(Int×Unit))×Unit):=fun st K=>(unS [(0,.v .str),(5,.box (.pair (.int .i64) (.pair (.int .i64) .unit))),(0,.v .str),(0,.v (.int .i64)),(0,.v .str),(0,.v (.int .i64))] 79 (restr [0,8,6,7,10,9] 0 st)).bind fun x=>zis N x K
def zxh (N:Nat):Tab ((List UInt8)×Int×(Int×(Int×Unit))×Unit):=[]
theorem zuh {N:Nat}{c:Ctx}(hb:Base Go.Proofs.Tryd.prog (z3f N) c):zi Go.Proofs.Tryd.prog c (zf z1n [0,1,1,0,1,0,0,0,1,1,1,1,1,1]) (zin N) :=
 zd (s:=[(0,.v .str),(5,.box (.pair (.int .i64) (.pair (.int .i64) .unit))),(0,.v .str),(0,.v (.int .i64)),(0,.v .str),(0,.v (.int .i64))]) (m:=79) (g:=zis N) [0,8,6,7,10,9] (za hb N (zxh N) z4h z1n TabOk.nil [0,1,1,0,1,0,0,0,1,1,1,1,1,1] _ rfl) (fun x K=>by kernel_rfl)
def zap (N:Nat)(s:(List UInt8))(x6:(Int×(Int×Unit)))(out:(List UInt8))(i:Int)(rec:(List UInt8)->Int->Option ((List UInt8)×Int×(Int×(Int×Unit))×Unit))(k0:(List UInt8)->Int->(Int×(Int×Unit))->Option ((List UInt8)×Int×(Int×(Int×Unit))×Unit))(k1:Option ((List UInt8)×Int×(Int×(Int×Unit))×Unit)):Option ((List UInt8)×Int×(Int×(Int×Unit))×Unit):=cond (decide (i<(List.length s:Int))) (cond (Go.Lift.inR i (List.length s)) (cond ((UInt8.toNat (List.getD s (Int.toNat i) (0:UInt8)):Int) == 34) (k0 out (Go.IntKind.wrap Go.IntKind.i64 (i+1)) (0,(0,()))) (cond (decide ((0<=i)/\(i<=(List.length s:Int)))) (cond (decide ((0<=i)/\(i<=i))) (zaq N s x6 out i (Go.Lift.cut s (Int.toNat i) (Int.toNat i)) 0 (fun t n=>cond (decide (n<0)) (k0 [] 0 (1,((List.length s:Int),()))) (cond (n == 0) (k0 [] 0 (2,(i,()))) (cond (decide (((List.length out)+(List.length t))<=9223372036854775807)) (rec (out++t) (Go.IntKind.wrap Go.IntKind.i64 (i+n))) none)))) none) none)) none) k1
def zim (N:Nat)(s:(List UInt8))(x6:(Int×(Int×Unit)))(out:(List UInt8))(i:Int)(k0:(List UInt8)->Int->(Int×(Int×Unit))->Option ((List UInt8)×Int×(Int×(Int×Unit))×Unit))(k1:Option ((List UInt8)×Int×(Int×(Int×Unit))×Unit)):Option ((List UInt8)×Int×(Int×(Int×Unit))×Unit):=iter (fun (v:((List UInt8)×Int)) r=>zap N s x6 v.1 v.2 (fun out i=>(r (out,i))) k0 k1) N (out,i)
def zit (N:Nat)(i:((List UInt8)×(Int×(Int×Unit))))(v:((List UInt8)×Int))(r:((List UInt8)×Int)->Option ((List UInt8)×Int×(Int×(Int×Unit))×Unit))(K:Ex->List A->Option ((List UInt8)×Int×(Int×(Int×Unit))×Unit)):Option ((List UInt8)×Int×(Int×(Int×Unit))×Unit):=zap N i.1 i.2 v.1 v.2 (fun out i=>(r (out,i))) (fun a0 a1 a2=>(K .ret (mkS [(4,.v .str),(0,.v (.int .i64)),(0,.box (.pair (.int .i64) (.pair (.int .i64) .unit)))] 83 (a0,a1,a2,())))) (K (.exit 0) (mkS [(0,.v .str),(5,.box (.pair (.int .i64) (.pair (.int .i64) .unit)))] 83 (i.1,i.2,())))
def zio (N:Nat):Hd ((List UInt8)×Int×(Int×(Int×Unit))×Unit):=fun st K=>(unS [(0,.v .str),(5,.box (.pair (.int .i64) (.pair (.int .i64) .unit))),(0,.v .str),(0,.v (.int .i64))] 81 (restr [8,0,7,6] 0 st)).bind fun x=>iter (fun v r=>zit N ((fun x=>(x.1,x.2.1)) x) v r K) N ((fun x=>(x.2.2.1,x.2.2.2.1)) x)
def zxi (N:Nat):Tab ((List UInt8)×Int×(Int×(Int×Unit))×Unit):=[([0,1,1,0,1,0,0,0,1,1,1,1,1,1],zin N)]
theorem zui {N:Nat}{c:Ctx}(hb:Base Go.Proofs.Tryd.prog (z3f N) c):zi Go.Proofs.Tryd.prog c (zf z1n [0,0,1,1,1,1,1,1]) (zio N) :=
 z3z (s:=[(0,.v .str),(5,.box (.pair (.int .i64) (.pair (.int .i64) .unit))),(0,.v .str),(0,.v (.int .i64))]) (m:=81) (zit N) [8,0,7,6] N (fun x=>(x.1,x.2.1)) (fun x=>(x.2.2.1,x.2.2.2.1)) (fun i v=>(i.1,i.2,v.1,v.2,())) (fun _=>rfl) (za hb N (zxi N) z4h z1n (TabOk.cons (zuh hb) TabOk.nil) [0,0,0,1,1,1,1,1,1] _ rfl) (fun i v r K=>by kernel_rfl)
def z4k (N:Nat)(s:(List UInt8))(at_:Int):Option ((List UInt8)×Int×(Int×(Int×Unit))×Unit):=z6p N s at_ (0,(0,())) (fun x4 x5 x6=>some (x4,(x5,(x6,())))) (cond (at_ == (List.length s:Int)) (some ([],(0,((1,(at_,())),())))) (cond (Go.Lift.inR at_ (List.length s)) (cond ((UInt8.toNat (List.getD s (Int.toNat at_) (0:UInt8)):Int) != 34) (some ([],(0,((2,(at_,())),())))) (zim N s (0,(0,())) [] (Go.IntKind.wrap Go.IntKind.i64 (at_+1)) (fun x41 x51 x61=>some (x41,(x51,(x61,())))) (some ([],(0,((1,((List.length s:Int),())),())))))) none))
def zku (N:Nat):Tab ((List UInt8)×Int×(Int×(Int×Unit))×Unit):=[([0,1],zir N),([0,0,1,1,1,1,1,1],zio N)]
theorem zr0 (N:Nat)(x:z1h [(0,.v .str),(0,.v (.int .i64))]):zc5 (z3f N) N (zku N) z4h Go.Proofs.Tryd.f26 (mkS [(0,.v .str),(0,.v (.int .i64))] 0 x) (z40 (.tup [.str,(.int .i64),(.pair (.int .i64) (.pair (.int .i64) .unit))]) 2)=z4k N x.1 x.2.1:=by kernel_rfl
def zgo (N:Nat):List A->Res:=z2c [(0,.v .str),(0,.v (.int .i64))] (fun x=>z4k N x.1 x.2.1) (zbc (.tup [.str,(.int .i64),(.pair (.int .i64) (.pair (.int .i64) .unit))]) 2)
theorem zxl (N:Nat):Contract Go.Proofs.Tryd.prog glob 26 (zgo N) :=
 Contract.of (E:=z3f N) (H:=zku N) (L:=z4h) (N:=N) (body:=z1n) (K:=(z40 (.tup [.str,(.int .i64),(.pair (.int .i64) (.pair (.int .i64) .unit))]) 2)) (zul N) Go.Proofs.Tryd.func26 (by kernel_rfl) (by decide) (fun _ hb=>(TabOk.cons (zuk hb) (TabOk.cons (zui hb) TabOk.nil))) (fun x y h=>by rw[zr0];exact h) (z1c (s:=(.tup [.str,(.int .i64),(.pair (.int .i64) (.pair (.int .i64) .unit))])) (m:=2))
def z17:Code:=(Go.Proofs.Tryd.f5.body).getD .skip
def z36:List (List Nat×List Nat):=[([0],[1]),([0,0,1],[25,1]),([1,0,1],[1]),([0,0,1,0,1],[2]),([1,0,1,0,1],[2]),([0,0,1,1],[3,1]),([0,1,0,1,1],[3,1]),([0,0,0,0,1,0,1,1],[30,1,3]),([1,0,0,0,1,0,1,1],[1,3]),([1,1,0,0,0,1,0,1,1],[]),([0,0,0,1,0,0,1,0,1,1],[48,3,1]),([1,0,0,1,0,0,1,0,1,1],[3,1]),([0,0,1,0,0,1,0,0,1,0,1,1],[2]),([1,0,1,0,0,1,0,0,1,0,1,1],[2]),([0,1,0,0,1,0,1,1],[3,1]),([1,1,0,0,1,0,1,1],[3,1]),([1,0,1,1],[]),([0,1,1,1],[2]),([1,1,1,1],[2])]
def z2f (N:Nat):Env:=z3v tys glob [] [] [] [] false [] []
theorem zql (N:Nat):EnvOk Go.Proofs.Tryd.prog (z2f N):=zw mixed z1v (FnsOk.nil) (ItsOk.nil)
def z9h (N:Nat)(op:(Int×((List UInt8)×(Int×((List UInt8)×((List (List UInt8))×Unit))))))(k0:Bool->Option Bool):Option Bool:=cond (decide (100<(List.length op.2.1:Int))) (k0 true) (cond (decide (70<(List.length op.2.2.2.2.1:Int))) (k0 true) (cond (decide (500<(List.length op.2.2.2.1:Int))) (k0 (decide ((List.length op.2.2.2.1:Int)<=131072))) (k0 false)))
def zg1 (N:Nat)(x:z1h [(1,.box (.pair (.int .i64) (.pair .str (.pair (.int .i64) (.pair .str (.pair (.sl .str) .unit))))))])(K:Ex->List A->Option Bool):Option Bool:=z9h N x.1 (fun a1=>(K .normal (mkS [(1,.box (.pair (.int .i64) (.pair .str (.pair (.int .i64) (.pair .str (.pair (.sl .str) .unit)))))),(23,.v .bool)] 23 (x.1,a1,()))))
def zfw (N:Nat):Hd Bool:=fun st K=>(unS [(1,.box (.pair (.int .i64) (.pair .str (.pair (.int .i64) (.pair .str (.pair (.sl .str) .unit))))))] 47 (restr [1] 0 st)).bind fun x=>zg1 N x K
def ztr (N:Nat):Tab Bool:=[]
theorem zqj {N:Nat}{c:Ctx}(hb:Base Go.Proofs.Tryd.prog (z2f N) c):zi Go.Proofs.Tryd.prog c (zf z17 [0,0,1]) (zfw N) :=
 zd (s:=[(1,.box (.pair (.int .i64) (.pair .str (.pair (.int .i64) (.pair .str (.pair (.sl .str) .unit))))))]) (m:=47) (g:=zg1 N) [1] (za hb N (ztr N) z36 z17 TabOk.nil [0,0,1] _ rfl) (fun x K=>by kernel_rfl)
def z9i (N:Nat)(op:(Int×((List UInt8)×(Int×((List UInt8)×((List (List UInt8))×Unit))))))(k0:Bool->Option Bool)(k1:Option Bool):Option Bool:=z9h N op (fun x25=>cond x25 (k0 true) k1)
def zg2 (N:Nat)(x:z1h [(1,.box (.pair (.int .i64) (.pair .str (.pair (.int .i64) (.pair .str (.pair (.sl .str) .unit))))))])(K:Ex->List A->Option Bool):Option Bool:=z9i N x.1 (fun a0=>(K .ret (mkS [(2,.v .bool)] 46 (a0,())))) (K .normal (mkS [(1,.box (.pair (.int .i64) (.pair .str (.pair (.int .i64) (.pair .str (.pair (.sl .str) .unit))))))] 47 (x.1,())))
def zfx (N:Nat):Hd Bool:=fun st K=>(unS [(1,.box (.pair (.int .i64) (.pair .str (.pair (.int .i64) (.pair .str (.pair (.sl .str) .unit))))))] 47 (restr [1] 0 st)).bind fun x=>zg2 N x K
def zts (N:Nat):Tab Bool:=[([0,0,1],zfw N)]
theorem zqk {N:Nat}{c:Ctx}(hb:Base Go.Proofs.Tryd.prog (z2f N) c):zi Go.Proofs.Tryd.prog c (zf z17 [0,1]) (zfx N) :=
 zd (s:=[(1,.box (.pair (.int .i64) (.pair .str (.pair (.int .i64) (.pair .str (.pair (.sl .str) .unit))))))]) (m:=47) (g:=zg2 N) [1] (za hb N (zts N) z36 z17 (TabOk.cons (zqj hb) TabOk.nil) [0,1] _ rfl) (fun x K=>by kernel_rfl)
def z9e (N:Nat)(op:(Int×((List UInt8)×(Int×((List UInt8)×((List (List UInt8))×Unit))))))(i:Int)(k0:Bool->Option Bool):Option Bool:=cond (Go.Lift.inR i (List.length op.2.2.2.2.1)) (cond (decide (300<(List.length (List.getD op.2.2.2.2.1 (Int.toNat i) []):Int))) (cond (Go.Lift.inR i (List.length op.2.2.2.2.1)) (k0 (decide ((List.length (List.getD op.2.2.2.2.1 (Int.toNat i) []):Int)<=2048))) none) (k0 false)) none
def zfy (N:Nat)(x:z1h [(1,.box (.pair (.int .i64) (.pair .str (.pair (.int .i64) (.pair .str (.pair (.sl .str) .unit)))))),(1,.v (.int .i64))])(K:Ex->List A->Option Bool):Option Bool:=z9e N x.1 x.2.1 (fun a2=>(K .normal (mkS [(1,.box (.pair (.int .i64) (.pair .str (.pair (.int .i64) (.pair .str (.pair (.sl .str) .unit)))))),(1,.v (.int .i64)),(44,.v .bool)] 0 (x.1,x.2.1,a2,()))))
def zft (N:Nat):Hd Bool:=fun st K=>(unS [(1,.box (.pair (.int .i64) (.pair .str (.pair (.int .i64) (.pair .str (.pair (.sl .str) .unit)))))),(1,.v (.int .i64))] 45 (restr [1,3] 0 st)).bind fun x=>zfy N x K
def zto (N:Nat):Tab Bool:=[]
theorem zqg {N:Nat}{c:Ctx}(hb:Base Go.Proofs.Tryd.prog (z2f N) c):zi Go.Proofs.Tryd.prog c (zf z17 [0,0,0,1,0,0,1,0,1,1]) (zft N) :=
 zd (s:=[(1,.box (.pair (.int .i64) (.pair .str (.pair (.int .i64) (.pair .str (.pair (.sl .str) .unit)))))),(1,.v (.int .i64))]) (m:=45) (g:=zfy N) [1,3] (za hb N (zto N) z36 z17 TabOk.nil [0,0,0,1,0,0,1,0,1,1] _ rfl) (fun x K=>by kernel_rfl)
def z9f (N:Nat)(op:(Int×((List UInt8)×(Int×((List UInt8)×((List (List UInt8))×Unit))))))(i:Int)(k0:Bool->Option Bool)(k1:Option Bool):Option Bool:=z9e N op i (fun x48=>cond x48 (k0 true) k1)
def zfz (N:Nat)(x:z1h [(1,.box (.pair (.int .i64) (.pair .str (.pair (.int .i64) (.pair .str (.pair (.sl .str) .unit)))))),(1,.v (.int .i64))])(K:Ex->List A->Option Bool):Option Bool:=z9f N x.1 x.2.1 (fun a0=>(K .ret (mkS [(2,.v .bool)] 46 (a0,())))) (K .normal (mkS [(1,.box (.pair (.int .i64) (.pair .str (.pair (.int .i64) (.pair .str (.pair (.sl .str) .unit)))))),(1,.v (.int .i64))] 45 (x.1,x.2.1,())))
def zfu (N:Nat):Hd Bool:=fun st K=>(unS [(1,.box (.pair (.int .i64) (.pair .str (.pair (.int .i64) (.pair .str (.pair (.sl .str) .unit)))))),(1,.v (.int .i64))] 45 (restr [1,3] 0 st)).bind fun x=>zfz N x K
def ztp (N:Nat):Tab Bool:=[([0,0,0,1,0,0,1,0,1,1],zft N)]
theorem zqh {N:Nat}{c:Ctx}(hb:Base Go.Proofs.Tryd.prog (z2f N) c):zi Go.Proofs.Tryd.prog c (zf z17 [0,1,0,0,1,0,1,1]) (zfu N) :=
 zd (s:=[(1,.box (.pair (.int .i64) (.pair .str (.pair (.int .i64) (.pair .str (.pair (.sl .str) .unit)))))),(1,.v (.int .i64))]) (m:=45) (g:=zfz N) [1,3] (za hb N (ztp N) z36 z17 (TabOk.cons (zqg hb) TabOk.nil) [0,1,0,0,1,0,1,1] _ rfl) (fun x K=>by kernel_rfl)
def z5x (N:Nat)(op:(Int×((List UInt8)×(Int×((List UInt8)×((List (List UInt8))×Unit))))))(i:Int)(rec:Int->Option Bool)(k0:Bool->Option Bool)(k1:Option Bool):Option Bool:=cond (decide (i<(List.length op.2.2.2.2.1:Int))) (z9f N op i (fun x2=>k0 x2) (rec (Go.IntKind.wrap Go.IntKind.i64 (i+1)))) k1
def z9g (N:Nat)(op:(Int×((List UInt8)×(Int×((List UInt8)×((List (List UInt8))×Unit))))))(i:Int)(k0:Bool->Option Bool)(k1:Option Bool):Option Bool:=iter (fun (v:Int) r=>z5x N op v (fun i=>(r i)) k0 k1) N i
def zg0 (N:Nat)(i:(Int×((List UInt8)×(Int×((List UInt8)×((List (List UInt8))×Unit))))))(v:Int)(r:Int->Option Bool)(K:Ex->List A->Option Bool):Option Bool:=z5x N i v (fun i=>(r i)) (fun a0=>(K .ret (mkS [(2,.v .bool)] 46 (a0,())))) (K (.exit 0) (mkS [] 49 ()))
def zfv (N:Nat):Hd Bool:=fun st K=>(unS [(1,.box (.pair (.int .i64) (.pair .str (.pair (.int .i64) (.pair .str (.pair (.sl .str) .unit)))))),(1,.v (.int .i64))] 45 (restr [3,1] 0 st)).bind fun x=>iter (fun v r=>zg0 N ((fun x=>x.1) x) v r K) N ((fun x=>x.2.1) x)
def ztq (N:Nat):Tab Bool:=[([0,1,0,0,1,0,1,1],zfu N)]
theorem zqi {N:Nat}{c:Ctx}(hb:Base Go.Proofs.Tryd.prog (z2f N) c):zi Go.Proofs.Tryd.prog c (zf z17 [0,1,0,1,1]) (zfv N) :=
 z3z (s:=[(1,.box (.pair (.int .i64) (.pair .str (.pair (.int .i64) (.pair .str (.pair (.sl .str) .unit)))))),(1,.v (.int .i64))]) (m:=45) (zg0 N) [3,1] N (fun x=>x.1) (fun x=>x.2.1) (fun i v=>(i,v,())) (fun _=>rfl) (za hb N (ztq N) z36 z17 (TabOk.cons (zqh hb) TabOk.nil) [0,0,1,0,1,1] _ rfl) (fun i v r K=>by kernel_rfl)
def z63 (N:Nat)(op:(Int×((List UInt8)×(Int×((List UInt8)×((List (List UInt8))×Unit)))))):Option Bool:=z9i N op (fun x2=>some x2) (z9g N op 0 (fun x21=>some x21) (some false))
def zht (N:Nat):Tab Bool:=[([0,1],zfx N),([0,1,0,1,1],zfv N)]
theorem zog (N:Nat)(x:z1h [(0,.v (.pair (.int .i64) (.pair .str (.pair (.int .i64) (.pair .str (.pair (.sl .str) .unit))))))]):zc5 (z2f N) N (zht N) z36 Go.Proofs.Tryd.f5 (mkS [(0,.v (.pair (.int .i64) (.pair .str (.pair (.int .i64) (.pair .str (.pair (.sl .str) .unit))))))] 0 x) (z40 (.v .bool) 1)=z63 N x.1:=by kernel_rfl
def zdv (N:Nat):List A->Res:=z2c [(0,.v (.pair (.int .i64) (.pair .str (.pair (.int .i64) (.pair .str (.pair (.sl .str) .unit))))))] (fun x=>z63 N x.1) (zbc (.v .bool) 1)
theorem ztt (N:Nat):Contract Go.Proofs.Tryd.prog glob 5 (zdv N) :=
 Contract.of (E:=z2f N) (H:=zht N) (L:=z36) (N:=N) (body:=z17) (K:=(z40 (.v .bool) 1)) (zql N) Go.Proofs.Tryd.func5 (by kernel_rfl) (by decide) (fun _ hb=>(TabOk.cons (zqk hb) (TabOk.cons (zqi hb) TabOk.nil))) (fun x y h=>by rw[zog];exact h) (z1c (s:=(.v .bool)) (m:=1))
def z5p:Code:=(Go.Proofs.Tryd.f27.body).getD .skip
def z7b:List (List Nat×List Nat):=[([0],[0,1]),([0,0,1],[10,0,1]),([1,0,1],[0,1]),([0,0,1,0,1],[4]),([1,0,1,0,1],[4]),([0,0,1,1],[5,0,1]),([0,1,0,1,1],[5,0,1]),([0,0,0,0,1,0,1,1],[14,0,5,1]),([1,0,0,0,1,0,1,1],[0,5,1]),([1,1,0,0,0,1,0,1,1],[]),([0,0,0,1,0,0,1,0,1,1],[25,5,0,1]),([1,0,0,1,0,0,1,0,1,1],[5,0,1]),([0,0,1,0,0,1,0,0,1,0,1,1],[4]),([1,0,1,0,0,1,0,0,1,0,1,1],[4]),([0,1,0,0,1,0,1,1],[5,0,1]),([1,1,0,0,1,0,1,1],[5,0,1]),([1,0,1,1],[]),([0,1,1,1],[4]),([1,1,1,1],[4])]
def z58 (N:Nat):Env:=z3v tys glob [] [] [] [] false [] []
theorem zm0 (N:Nat):EnvOk Go.Proofs.Tryd.prog (z58 N):=zw mixed z1v (FnsOk.nil) (ItsOk.nil)
def z6s (N:Nat)(a:(List (List UInt8)))(b:(List (List UInt8)))(i:Int)(rec:Int->Option Bool)(k0:Bool->Option Bool)(k1:Option Bool):Option Bool:=cond (decide (i<(List.length a:Int))) (cond (Go.Lift.inR i (List.length a)) (cond (Go.Lift.inR i (List.length b)) (cond (!((List.getD a (Int.toNat i) []) == (List.getD b (Int.toNat i) []))) (k0 false) (rec (Go.IntKind.wrap Go.IntKind.i64 (i+1)))) none) none) k1
def zbo (N:Nat)(a:(List (List UInt8)))(b:(List (List UInt8)))(i:Int)(k0:Bool->Option Bool)(k1:Option Bool):Option Bool:=iter (fun (v:Int) r=>z6s N a b v (fun i=>(r i)) k0 k1) N i
def zbq (N:Nat)(i:((List (List UInt8))×(List (List UInt8))))(v:Int)(r:Int->Option Bool)(K:Ex->List A->Option Bool):Option Bool:=z6s N i.1 i.2 v (fun i=>(r i)) (fun a0=>(K .ret (mkS [(4,.v .bool)] 21 (a0,())))) (K (.exit 0) (mkS [] 26 ()))
def zbp (N:Nat):Hd Bool:=fun st K=>(unS [(0,.v (.sl .str)),(0,.v (.sl .str)),(3,.v (.int .i64))] 20 (restr [5,0,1] 0 st)).bind fun x=>iter (fun v r=>zbq N ((fun x=>(x.1,x.2.1)) x) v r K) N ((fun x=>x.2.2.1) x)
def zn4 (N:Nat):Tab Bool:=[]
theorem zlz {N:Nat}{c:Ctx}(hb:Base Go.Proofs.Tryd.prog (z58 N) c):zi Go.Proofs.Tryd.prog c (zf z5p [0,1,0,1,1]) (zbp N) :=
 z3z (s:=[(0,.v (.sl .str)),(0,.v (.sl .str)),(3,.v (.int .i64))]) (m:=20) (zbq N) [5,0,1] N (fun x=>(x.1,x.2.1)) (fun x=>x.2.2.1) (fun i v=>(i.1,i.2,v,())) (fun _=>rfl) (za hb N (zn4 N) z7b z5p TabOk.nil [0,0,1,0,1,1] _ rfl) (fun i v r K=>by kernel_rfl)
def z4r (N:Nat)(a:(List (List UInt8)))(b:(List (List UInt8))):Option Bool:=cond ((List.length a:Int) != (List.length b:Int)) (some false) (zbo N a b 0 (fun x4=>some x4) (some true))
def zce (N:Nat):Tab Bool:=[([0,1,0,1,1],zbp N)]
theorem zlf (N:Nat)(x:z1h [(0,.v (.sl .str)),(0,.v (.sl .str))]):zc5 (z58 N) N (zce N) z7b Go.Proofs.Tryd.f27 (mkS [(0,.v (.sl .str)),(0,.v (.sl .str))] 0 x) (z40 (.v .bool) 2)=z4r N x.1 x.2.1:=by kernel_rfl
def zb9 (N:Nat):List A->Res:=z2c [(0,.v (.sl .str)),(0,.v (.sl .str))] (fun x=>z4r N x.1 x.2.1) (zbc (.v .bool) 2)
theorem zn5 (N:Nat):Contract Go.Proofs.Tryd.prog glob 27 (zb9 N) :=
 Contract.of (E:=z58 N) (H:=zce N) (L:=z7b) (N:=N) (body:=z5p) (K:=(z40 (.v .bool) 2)) (zm0 N) Go.Proofs.Tryd.func27 (by kernel_rfl) (by decide) (fun _ hb=>(TabOk.cons (zlz hb) TabOk.nil)) (fun x y h=>by rw[zlf];exact h) (z1c (s:=(.v .bool)) (m:=2))
def zot:Code:=(Go.Proofs.Tryd.f11.body).getD .skip
def zjj:List (List Nat×List Nat):=[([0],[2,3]),([0,1],[4]),([1,1],[4])]
def zay (N:Nat):Env:=z3v tys glob [(27,zb9 N)] [] [] [] false [] []
theorem zr8 (N:Nat):EnvOk Go.Proofs.Tryd.prog (zay N):=zw mixed z1v (FnsOk.cons (zn5 N) (FnsOk.nil)) (ItsOk.nil)
def z3r (N:Nat)(a:(Int×((List UInt8)×(Int×((List UInt8)×((List (List UInt8))×Unit))))))(b:(Int×((List UInt8)×(Int×((List UInt8)×((List (List UInt8))×Unit)))))):Option Bool:=cond (a.1 == b.1) (cond (a.2.1 == b.2.1) (cond (a.2.2.1 == b.2.2.1) (cond (a.2.2.2.1 == b.2.2.2.1) ((z4r N a.2.2.2.2.1 b.2.2.2.2.1).bind fun y=>some y) (some false)) (some false)) (some false)) (some false)
def zji (N:Nat):Tab Bool:=[]
theorem zos (N:Nat)(x:z1h [(0,.v (.pair (.int .i64) (.pair .str (.pair (.int .i64) (.pair .str (.pair (.sl .str) .unit)))))),(0,.v (.pair (.int .i64) (.pair .str (.pair (.int .i64) (.pair .str (.pair (.sl .str) .unit))))))]):zc5 (zay N) N (zji N) zjj Go.Proofs.Tryd.f11 (mkS [(0,.v (.pair (.int .i64) (.pair .str (.pair (.int .i64) (.pair .str (.pair (.sl .str) .unit)))))),(0,.v (.pair (.int .i64) (.pair .str (.pair (.int .i64) (.pair .str (.pair (.sl .str) .unit))))))] 0 x) (z40 (.v .bool) 2)=z3r N x.1 x.2.1:=by kernel_rfl
def z84 (N:Nat):List A->Res:=z2c [(0,.v (.pair (.int .i64) (.pair .str (.pair (.int .i64) (.pair .str (.pair (.sl .str) .unit)))))),(0,.v (.pair (.int .i64) (.pair .str (.pair (.int .i64) (.pair .str (.pair (.sl .str) .unit))))))] (fun x=>z3r N x.1 x.2.1) (zbc (.v .bool) 2)
theorem zgr (N:Nat):Contract Go.Proofs.Tryd.prog glob 11 (z84 N) :=
 Contract.of (E:=zay N) (H:=zji N) (L:=zjj) (N:=N) (body:=zot) (K:=(z40 (.v .bool) 2)) (zr8 N) Go.Proofs.Tryd.func11 (by kernel_rfl) (by decide) (fun _ hb=>TabOk.nil) (fun x y h=>by rw[zos];exact h) (z1c (s:=(.v .bool)) (m:=2))
end
end Go.Proofs.YtlmlihfmoabinaaDoorLg
set_option linter.all false
namespace Go.Proofs.YtlmlihfmoabinaaDoorPx
noncomputable section
open Go Go.Lift
theorem z4v {σ β:Type}{step:σ->(σ->Option β)->Option β}(I:σ->Prop)(m:σ->Nat)(R:σ->Option β)
 (h:∀ v r,I v->(∀ v',I v'->m v'<m v->r v'=R v')->step v r=R v):∀ (n:Nat) (v:σ),I v->m v<n->iter step n v=R v
 | 0,v,_,hm=>by omega
 | n+1,v,hv,hm=>h v (iter step n) hv fun v' hv' hlt=>z4v I m R h n v' hv' (by omega)
theorem zmj {σ β:Type}{step:σ->(σ->Option β)->Option β}(I:σ->Prop)(m:σ->Nat)(p:Option β->Prop)
 (h:∀ v r,I v->(∀ v',I v'->m v'<m v->p (r v'))->p (step v r)):∀ (n:Nat) (v:σ),I v->m v<n->p (iter step n v)
 | 0,v,_,hm=>by omega
 | n+1,v,hv,hm=>h v (iter step n) hv fun v' hv' hlt=>zmj I m p h n v' hv' (by omega)
theorem z1o0 (x:Int):IntKind.wrap .i64 x=(x+9223372036854775808) % 18446744073709551616 - 9223372036854775808:=by
 simp only[IntKind.wrap,IntKind.bits,IntKind.signed,Bool.true_and,decide_eq_true_eq,Nat.add_one_sub_one,Int.reducePow,ge_iff_le];split<;>omega
def I64 (x:Int):Prop:=-9223372036854775808<=x/\x<=9223372036854775807
instance (x:Int):Decidable (I64 x):=by unfold I64;infer_instance
theorem z2p {x:Int}(h:I64 x):IntKind.wrap .i64 x=x:=by
 rw[z1o0];unfold I64 at h;omega
theorem z8 {α:Type}{b:Bool}(h:b=true)(x y:α):cond b x y=x:=by rw[h];rfl
theorem zg {α:Type}{b:Bool}(h:b=false)(x y:α):cond b x y=y:=by rw[h];rfl
theorem z16 {n len:Nat}(h:n<len):inR (n:Int) len=true:=by simp only[inR,decide_eq_true_eq];omega
theorem ze8 {i:Int}{len:Nat}(h:0<=i)(h':i<len):inR i len=true:=by simp only[inR,decide_eq_true_eq];omega
end
end Go.Proofs.YtlmlihfmoabinaaDoorPx
set_option linter.all false
namespace Go.Proofs.YtlmlihfmoabinaaDoorPx
noncomputable section
open Go Go.Lift
theorem z18y (x:Int):IntKind.wrap .u8 x=x % 256:=by
 simp only[IntKind.wrap,IntKind.bits,IntKind.signed,Bool.false_and,Bool.false_eq_true,if_false];rfl
theorem z10a {x:Int}(h0:0<=x)(h1:x<256):IntKind.wrap .u8 x=x:=by rw[z18y];omega
theorem z9t (u:UInt8):u.toNat<256:=u.toNat_lt
theorem zmp (u:UInt8):IntKind.wrap .i64 ((u.toNat:Nat):Int)=((u.toNat:Nat):Int):=by
 have:=z9t u;exact z2p (by unfold I64;omega)
theorem z1b {i:Nat}(h:i<9223372036854775807):IntKind.wrap .i64 ((i:Int)+1)=((i+1:Nat):Int):=by
 rw[z2p (by unfold I64;omega)];omega
theorem z18a (u:UInt8):BitVec.ofInt 8 ((u.toNat:Nat):Int)=u.toBitVec:=by
 rw[BitVec.ofInt_natCast];apply BitVec.eq_of_toNat_eq;have h1:u.toBitVec.toNat=u.toNat:=rfl;have:=z9t u;rw[BitVec.toNat_ofNat,h1];omega
theorem z1h5 (u:UInt8):IntKind.wrap .u8 ((u.toNat:Nat):Int)=((u.toNat:Nat):Int):=by
 have:=z9t u;exact z10a (by omega) (by omega)
theorem z1p7 (a b:UInt8):bitsOp .and .u8 ((a.toNat:Nat):Int) ((b.toNat:Nat):Int)=(((a &&& b).toNat:Nat):Int):=by
 have e:bitsOp .and .u8 ((a.toNat:Nat):Int) ((b.toNat:Nat):Int)=IntKind.wrap .u8 ((BitVec.ofInt 8 ((a.toNat:Nat):Int) &&& BitVec.ofInt 8 ((b.toNat:Nat):Int)).toNat:Int):=rfl;rw[e,z18a,z18a];have h:(a.toBitVec &&& b.toBitVec).toNat=(a &&& b).toNat:=rfl;rw[h,z1h5]
theorem zp1 (a b:List Int):toStr (a++b)=toStr a++toStr b:=by simp[toStr]
theorem z1fn (u:UInt8):toStr [((u.toNat:Nat):Int)]=[u]:=by simp[toStr]
theorem zcg (s:List UInt8):toStr (ofStr s)=s:=by
 simp[toStr,ofStr,Function.comp_def]
theorem z4x (s:List UInt8):(ofStr s).length=s.length:=by simp[ofStr]
theorem z13j {α:Type}(l:List α)(d:α)(i:Nat)(h:i<l.length):l.getD i d∈l:=by
 rw[List.getD_eq_getElem?_getD,List.getElem?_eq_getElem h];simp
theorem z32 {α:Type}(l:List α)(d:α)(i:Nat)(h:i<l.length):l.drop i=l.getD i d::l.drop (i+1):=by
 rw[List.getD_eq_getElem?_getD,List.getElem?_eq_getElem h,Option.getD_some,List.drop_eq_getElem_cons h]
theorem z5o {α:Type}(l:List α){i:Nat}(h:l.length<=i):l.drop i=[]:=List.drop_of_length_le h
theorem zj {p:Prop}[Decidable p](h:p):decide p=true:=decide_eq_true h
theorem zy {p:Prop}[Decidable p](h:¬ p):decide p=false:=decide_eq_false h
theorem zp3 {α:Type}(l:List α)(d:α)(i:Nat)(h:i<l.length):l.take (i+1)=l.take i++[l.getD i d]:=by
 rw[List.getD_eq_getElem?_getD,List.getElem?_eq_getElem h,Option.getD_some,List.take_succ_eq_append_getElem h]
theorem z193 {α:Type}(l:List α)(x:α)(i:Nat)(h:i<l.length):(l.set i x).take (i+1)=l.take i++[x]:=by
 rw[List.take_succ_eq_append_getElem (by simpa using h),List.getElem_set_self];congr 1;apply List.ext_getElem?;intro j;rw[List.getElem?_take,List.getElem?_take];split
 . rw[List.getElem?_set_ne (by omega)]
 . rfl
theorem z1l9 {α:Type}(l:List α)(n:Nat):cut l 0 n=l.take n:=by simp[cut]
theorem zyb {α:Type}(l:List α)(n:Nat):cut l n l.length=l.drop n:=by simp[cut]
theorem zya {α:Type}(l:List α)(n k:Nat):cut l n (n+k)=(l.drop n).take k:=by
 unfold cut;rw[List.drop_take];congr 1;omega
end
end Go.Proofs.YtlmlihfmoabinaaDoorPx
