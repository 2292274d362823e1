import Derived.Test.YtkkkgfmjjkpjdaaGreatDoorLgPrOs7
import Derived.Test.YtkkkgfmjjkpjdaaGreatDoorLgW
set_option linter.all false
set_option maxRecDepth 100000
namespace Go.Proofs.YtkkkgfmjjkpjdaaGreatDoorLg
noncomputable section
open Go Go.Lift
def zhh (N:Nat):Hd ((Int×((List UInt8)×(Int×((List UInt8)×((List (List UInt8))×Unit)))))×Bool×Unit):=fun st K=>(unS [(0,.v .str),(1,.box (.pair (.int .i64) (.pair .str (.pair (.int .i64) (.pair .str (.pair (.sl .str) .unit)))))),(1,.v .str),(0,.v .str),(0,.v (.int .i64)),(0,.box (.pair (.int .i64) (.pair .str (.pair (.int .i64) (.pair .str (.pair (.own .str) .unit))))))] 87 (restr [6,5,7,2,0,4] 0 st)).bind fun x=>zhq N x K
def zwl (N:Nat):Tab ((Int×((List UInt8)×(Int×((List UInt8)×((List (List UInt8))×Unit)))))×Bool×Unit):=[]
theorem zt8 {N:Nat}{c:Ctx}(hb:Base Go.Proofs.Tryz.prog (z18 N) c):zi Go.Proofs.Tryz.prog c (ze zj [0,1,1,0,0,1,0,0,1,0,1,1]) (zhh N) :=
 zd (s:=[(0,.v .str),(1,.box (.pair (.int .i64) (.pair .str (.pair (.int .i64) (.pair .str (.pair (.sl .str) .unit)))))),(1,.v .str),(0,.v .str),(0,.v (.int .i64)),(0,.box (.pair (.int .i64) (.pair .str (.pair (.int .i64) (.pair .str (.pair (.own .str) .unit))))))]) (m:=87) (g:=zhq N) [6,5,7,2,0,4] (za hb N (zwl N) z1c zj TabOk.nil [0,1,1,0,0,1,0,0,1,0,1,1] _ rfl) (fun x K=>by kernel_rfl)
def z6i (N:Nat)(s:(List UInt8))(x2:(Int×((List UInt8)×(Int×((List UInt8)×((List (List UInt8))×Unit))))))(first:(List UInt8))(rest:(List UInt8))(k:Int)(op:(Int×((List UInt8)×(Int×((List UInt8)×((List (List UInt8))×Unit))))))(k0:Bool->Option ((Int×((List UInt8)×(Int×((List UInt8)×((List (List UInt8))×Unit)))))×Bool×Unit)):Option ((Int×((List UInt8)×(Int×((List UInt8)×((List (List UInt8))×Unit)))))×Bool×Unit) :=
 cond (decide (k<=(2:Int)))
 (k0 true)
 (k0 (k == (6:Int)))
def zho (N:Nat)(x:z1g [(0,.v .str),(1,.box (.pair (.int .i64) (.pair .str (.pair (.int .i64) (.pair .str (.pair (.sl .str) .unit)))))),(1,.v .str),(0,.v .str),(0,.v (.int .i64)),(0,.box (.pair (.int .i64) (.pair .str (.pair (.int .i64) (.pair .str (.pair (.own .str) .unit))))))])(K:Ex->List A->Option ((Int×((List UInt8)×(Int×((List UInt8)×((List (List UInt8))×Unit)))))×Bool×Unit)):Option ((Int×((List UInt8)×(Int×((List UInt8)×((List (List UInt8))×Unit)))))×Bool×Unit) :=
 z6i N x.1 x.2.1 x.2.2.1 x.2.2.2.1 x.2.2.2.2.1 x.2.2.2.2.2.1 (fun a6=>(K .normal (mkS [(0,.v .str),(1,.box (.pair (.int .i64) (.pair .str (.pair (.int .i64) (.pair .str (.pair (.sl .str) .unit)))))),(1,.v .str),(0,.v .str),(0,.v (.int .i64)),(0,.box (.pair (.int .i64) (.pair .str (.pair (.int .i64) (.pair .str (.pair (.own .str) .unit)))))),(34,.v .bool)] 52 (x.1,x.2.1,x.2.2.1,x.2.2.2.1,x.2.2.2.2.1,x.2.2.2.2.2.1,a6,()))))
def zhf (N:Nat):Hd ((Int×((List UInt8)×(Int×((List UInt8)×((List (List UInt8))×Unit)))))×Bool×Unit):=fun st K=>(unS [(0,.v .str),(1,.box (.pair (.int .i64) (.pair .str (.pair (.int .i64) (.pair .str (.pair (.sl .str) .unit)))))),(1,.v .str),(0,.v .str),(0,.v (.int .i64)),(0,.box (.pair (.int .i64) (.pair .str (.pair (.int .i64) (.pair .str (.pair (.own .str) .unit))))))] 87 (restr [6,5,7,2,0,4] 0 st)).bind fun x=>zho N x K
def zwj (N:Nat):Tab ((Int×((List UInt8)×(Int×((List UInt8)×((List (List UInt8))×Unit)))))×Bool×Unit):=[]
theorem zt6 {N:Nat}{c:Ctx}(hb:Base Go.Proofs.Tryz.prog (z18 N) c):zi Go.Proofs.Tryz.prog c (ze zj [0,0,1,1,1,0,0,1,0,0,1,0,1,1]) (zhf N) :=
 zd (s:=[(0,.v .str),(1,.box (.pair (.int .i64) (.pair .str (.pair (.int .i64) (.pair .str (.pair (.sl .str) .unit)))))),(1,.v .str),(0,.v .str),(0,.v (.int .i64)),(0,.box (.pair (.int .i64) (.pair .str (.pair (.int .i64) (.pair .str (.pair (.own .str) .unit))))))]) (m:=87) (g:=zho N) [6,5,7,2,0,4] (za hb N (zwj N) z1c zj TabOk.nil [0,0,1,1,1,0,0,1,0,0,1,0,1,1] _ rfl) (fun x K=>by kernel_rfl)
def z2y (N:Nat)(s:(List UInt8))(x2:(Int×((List UInt8)×(Int×((List UInt8)×((List (List UInt8))×Unit))))))(first:(List UInt8))(rest:(List UInt8))(k:Int)(op:(Int×((List UInt8)×(Int×((List UInt8)×((List (List UInt8))×Unit))))))(k0:(Int×((List UInt8)×(Int×((List UInt8)×((List (List UInt8))×Unit)))))->Option ((Int×((List UInt8)×(Int×((List UInt8)×((List (List UInt8))×Unit)))))×Bool×Unit)):Option ((Int×((List UInt8)×(Int×((List UInt8)×((List (List UInt8))×Unit)))))×Bool×Unit) :=
 z6i N s x2 first rest k op
 (fun x42=>cond x42
 ((z42 N rest).bind fun y =>
 k0 (op.1,(op.2.1,(op.2.2.1,(y,op.2.2.2.2)))))
 (k0 op))
def zhp (N:Nat)(x:z1g [(0,.v .str),(1,.box (.pair (.int .i64) (.pair .str (.pair (.int .i64) (.pair .str (.pair (.sl .str) .unit)))))),(1,.v .str),(0,.v .str),(0,.v (.int .i64)),(0,.box (.pair (.int .i64) (.pair .str (.pair (.int .i64) (.pair .str (.pair (.own .str) .unit))))))])(K:Ex->List A->Option ((Int×((List UInt8)×(Int×((List UInt8)×((List (List UInt8))×Unit)))))×Bool×Unit)):Option ((Int×((List UInt8)×(Int×((List UInt8)×((List (List UInt8))×Unit)))))×Bool×Unit) :=
 z2y N x.1 x.2.1 x.2.2.1 x.2.2.2.1 x.2.2.2.2.1 x.2.2.2.2.2.1 (fun a5=>(K .normal (mkS [(0,.v .str),(1,.box (.pair (.int .i64) (.pair .str (.pair (.int .i64) (.pair .str (.pair (.sl .str) .unit)))))),(1,.v .str),(0,.v .str),(0,.v (.int .i64)),(0,.box (.pair (.int .i64) (.pair .str (.pair (.int .i64) (.pair .str (.pair (.own .str) .unit))))))] 87 (x.1,x.2.1,x.2.2.1,x.2.2.2.1,x.2.2.2.2.1,a5,()))))
def zhg (N:Nat):Hd ((Int×((List UInt8)×(Int×((List UInt8)×((List (List UInt8))×Unit)))))×Bool×Unit):=fun st K=>(unS [(0,.v .str),(1,.box (.pair (.int .i64) (.pair .str (.pair (.int .i64) (.pair .str (.pair (.sl .str) .unit)))))),(1,.v .str),(0,.v .str),(0,.v (.int .i64)),(0,.box (.pair (.int .i64) (.pair .str (.pair (.int .i64) (.pair .str (.pair (.own .str) .unit))))))] 87 (restr [6,5,7,2,0,4] 0 st)).bind fun x=>zhp N x K
def zwk (N:Nat):Tab ((Int×((List UInt8)×(Int×((List UInt8)×((List (List UInt8))×Unit)))))×Bool×Unit):=[([0,0,1,1,1,0,0,1,0,0,1,0,1,1],zhf N)]
theorem zt7 {N:Nat}{c:Ctx}(hb:Base Go.Proofs.Tryz.prog (z18 N) c):zi Go.Proofs.Tryz.prog c (ze zj [0,1,1,1,0,0,1,0,0,1,0,1,1]) (zhg N) :=
 zd (s:=[(0,.v .str),(1,.box (.pair (.int .i64) (.pair .str (.pair (.int .i64) (.pair .str (.pair (.sl .str) .unit)))))),(1,.v .str),(0,.v .str),(0,.v (.int .i64)),(0,.box (.pair (.int .i64) (.pair .str (.pair (.int .i64) (.pair .str (.pair (.own .str) .unit))))))]) (m:=87) (g:=zhp N) [6,5,7,2,0,4] (za hb N (zwk N) z1c zj (TabOk.cons (zt6 hb) TabOk.nil) [0,1,1,1,0,0,1,0,0,1,0,1,1] _ rfl) (fun x K=>by kernel_rfl)
def z6h (N:Nat)(s:(List UInt8))(x2:(Int×((List UInt8)×(Int×((List UInt8)×((List (List UInt8))×Unit))))))(first:(List UInt8))(rest:(List UInt8))(k:Int)(op:(Int×((List UInt8)×(Int×((List UInt8)×((List (List UInt8))×Unit))))))(k0:Bool->Option ((Int×((List UInt8)×(Int×((List UInt8)×((List (List UInt8))×Unit)))))×Bool×Unit)):Option ((Int×((List UInt8)×(Int×((List UInt8)×((List (List UInt8))×Unit)))))×Bool×Unit) :=
 cond (k == (3:Int))
 (k0 true)
 (k0 (k == (7:Int)))
def zhm (N:Nat)(x:z1g [(0,.v .str),(1,.box (.pair (.int .i64) (.pair .str (.pair (.int .i64) (.pair .str (.pair (.sl .str) .unit)))))),(1,.v .str),(0,.v .str),(0,.v (.int .i64)),(0,.box (.pair (.int .i64) (.pair .str (.pair (.int .i64) (.pair .str (.pair (.own .str) .unit))))))])(K:Ex->List A->Option ((Int×((List UInt8)×(Int×((List UInt8)×((List (List UInt8))×Unit)))))×Bool×Unit)):Option ((Int×((List UInt8)×(Int×((List UInt8)×((List (List UInt8))×Unit)))))×Bool×Unit) :=
 z6h N x.1 x.2.1 x.2.2.1 x.2.2.2.1 x.2.2.2.2.1 x.2.2.2.2.2.1 (fun a6=>(K .normal (mkS [(0,.v .str),(1,.box (.pair (.int .i64) (.pair .str (.pair (.int .i64) (.pair .str (.pair (.sl .str) .unit)))))),(1,.v .str),(0,.v .str),(0,.v (.int .i64)),(0,.box (.pair (.int .i64) (.pair .str (.pair (.int .i64) (.pair .str (.pair (.own .str) .unit)))))),(43,.v .bool)] 43 (x.1,x.2.1,x.2.2.1,x.2.2.2.1,x.2.2.2.2.1,x.2.2.2.2.2.1,a6,()))))
def zhd (N:Nat):Hd ((Int×((List UInt8)×(Int×((List UInt8)×((List (List UInt8))×Unit)))))×Bool×Unit):=fun st K=>(unS [(0,.v .str),(1,.box (.pair (.int .i64) (.pair .str (.pair (.int .i64) (.pair .str (.pair (.sl .str) .unit)))))),(1,.v .str),(0,.v .str),(0,.v (.int .i64)),(0,.box (.pair (.int .i64) (.pair .str (.pair (.int .i64) (.pair .str (.pair (.own .str) .unit))))))] 87 (restr [6,5,7,2,0,4] 0 st)).bind fun x=>zhm N x K
def zwh (N:Nat):Tab ((Int×((List UInt8)×(Int×((List UInt8)×((List (List UInt8))×Unit)))))×Bool×Unit):=[]
theorem zt4 {N:Nat}{c:Ctx}(hb:Base Go.Proofs.Tryz.prog (z18 N) c):zi Go.Proofs.Tryz.prog c (ze zj [0,0,1,1,1,1,0,0,1,0,0,1,0,1,1]) (zhd N) :=
 zd (s:=[(0,.v .str),(1,.box (.pair (.int .i64) (.pair .str (.pair (.int .i64) (.pair .str (.pair (.sl .str) .unit)))))),(1,.v .str),(0,.v .str),(0,.v (.int .i64)),(0,.box (.pair (.int .i64) (.pair .str (.pair (.int .i64) (.pair .str (.pair (.own .str) .unit))))))]) (m:=87) (g:=zhm N) [6,5,7,2,0,4] (za hb N (zwh N) z1c zj TabOk.nil [0,0,1,1,1,1,0,0,1,0,0,1,0,1,1] _ rfl) (fun x K=>by kernel_rfl)
def z2b (N:Nat)(s:(List UInt8))(x2:(Int×((List UInt8)×(Int×((List UInt8)×((List (List UInt8))×Unit))))))(first:(List UInt8))(rest:(List UInt8))(k:Int)(op:(Int×((List UInt8)×(Int×((List UInt8)×((List (List UInt8))×Unit))))))(k0:(Int×((List UInt8)×(Int×((List UInt8)×((List (List UInt8))×Unit)))))->Option ((Int×((List UInt8)×(Int×((List UInt8)×((List (List UInt8))×Unit)))))×Bool×Unit)):Option ((Int×((List UInt8)×(Int×((List UInt8)×((List (List UInt8))×Unit)))))×Bool×Unit) :=
 z6h N s x2 first rest k op
 (fun x51=>cond x51
 ((z65 N rest).bind fun y =>
 k0 (op.1,(op.2.1,(y,op.2.2.2))))
 (k0 op))
def zhn (N:Nat)(x:z1g [(0,.v .str),(1,.box (.pair (.int .i64) (.pair .str (.pair (.int .i64) (.pair .str (.pair (.sl .str) .unit)))))),(1,.v .str),(0,.v .str),(0,.v (.int .i64)),(0,.box (.pair (.int .i64) (.pair .str (.pair (.int .i64) (.pair .str (.pair (.own .str) .unit))))))])(K:Ex->List A->Option ((Int×((List UInt8)×(Int×((List UInt8)×((List (List UInt8))×Unit)))))×Bool×Unit)):Option ((Int×((List UInt8)×(Int×((List UInt8)×((List (List UInt8))×Unit)))))×Bool×Unit) :=
 z2b N x.1 x.2.1 x.2.2.1 x.2.2.2.1 x.2.2.2.2.1 x.2.2.2.2.2.1 (fun a5=>(K .normal (mkS [(0,.v .str),(1,.box (.pair (.int .i64) (.pair .str (.pair (.int .i64) (.pair .str (.pair (.sl .str) .unit)))))),(1,.v .str),(0,.v .str),(0,.v (.int .i64)),(0,.box (.pair (.int .i64) (.pair .str (.pair (.int .i64) (.pair .str (.pair (.own .str) .unit))))))] 87 (x.1,x.2.1,x.2.2.1,x.2.2.2.1,x.2.2.2.2.1,a5,()))))
def zhe (N:Nat):Hd ((Int×((List UInt8)×(Int×((List UInt8)×((List (List UInt8))×Unit)))))×Bool×Unit):=fun st K=>(unS [(0,.v .str),(1,.box (.pair (.int .i64) (.pair .str (.pair (.int .i64) (.pair .str (.pair (.sl .str) .unit)))))),(1,.v .str),(0,.v .str),(0,.v (.int .i64)),(0,.box (.pair (.int .i64) (.pair .str (.pair (.int .i64) (.pair .str (.pair (.own .str) .unit))))))] 87 (restr [6,5,7,2,0,4] 0 st)).bind fun x=>zhn N x K
def zwi (N:Nat):Tab ((Int×((List UInt8)×(Int×((List UInt8)×((List (List UInt8))×Unit)))))×Bool×Unit):=[([0,0,1,1,1,1,0,0,1,0,0,1,0,1,1],zhd N)]
theorem zt5 {N:Nat}{c:Ctx}(hb:Base Go.Proofs.Tryz.prog (z18 N) c):zi Go.Proofs.Tryz.prog c (ze zj [0,1,1,1,1,0,0,1,0,0,1,0,1,1]) (zhe N) :=
 zd (s:=[(0,.v .str),(1,.box (.pair (.int .i64) (.pair .str (.pair (.int .i64) (.pair .str (.pair (.sl .str) .unit)))))),(1,.v .str),(0,.v .str),(0,.v (.int .i64)),(0,.box (.pair (.int .i64) (.pair .str (.pair (.int .i64) (.pair .str (.pair (.own .str) .unit))))))]) (m:=87) (g:=zhn N) [6,5,7,2,0,4] (za hb N (zwi N) z1c zj (TabOk.cons (zt4 hb) TabOk.nil) [0,1,1,1,1,0,0,1,0,0,1,0,1,1] _ rfl) (fun x K=>by kernel_rfl)
def z4a (N:Nat)(s:(List UInt8))(x2:(Int×((List UInt8)×(Int×((List UInt8)×((List (List UInt8))×Unit))))))(first:(List UInt8))(rest:(List UInt8))(k:Int)(op:(Int×((List UInt8)×(Int×((List UInt8)×((List (List UInt8))×Unit))))))(at_:Int)(k0:Option ((Int×((List UInt8)×(Int×((List UInt8)×((List (List UInt8))×Unit)))))×Bool×Unit))(k1:Option ((Int×((List UInt8)×(Int×((List UInt8)×((List (List UInt8))×Unit)))))×Bool×Unit)):Option ((Int×((List UInt8)×(Int×((List UInt8)×((List (List UInt8))×Unit)))))×Bool×Unit) :=
 cond (k == (5:Int))
 (cond (decide (at_<(((List.length rest):Nat):Int)))
 (k0)
 (k1))
 (k1)
def zfg (N:Nat)(x:z1g [(0,.v .str),(1,.box (.pair (.int .i64) (.pair .str (.pair (.int .i64) (.pair .str (.pair (.sl .str) .unit)))))),(1,.v .str),(0,.v .str),(0,.v (.int .i64)),(0,.box (.pair (.int .i64) (.pair .str (.pair (.int .i64) (.pair .str (.pair (.own .str) .unit)))))),(0,.v (.int .i64))])(K:Ex->List A->Option ((Int×((List UInt8)×(Int×((List UInt8)×((List (List UInt8))×Unit)))))×Bool×Unit)):Option ((Int×((List UInt8)×(Int×((List UInt8)×((List (List UInt8))×Unit)))))×Bool×Unit) :=
 z4a N x.1 x.2.1 x.2.2.1 x.2.2.2.1 x.2.2.2.2.1 x.2.2.2.2.2.1 x.2.2.2.2.2.2.1 (K .normal (mkS [(0,.v .str),(1,.box (.pair (.int .i64) (.pair .str (.pair (.int .i64) (.pair .str (.pair (.sl .str) .unit)))))),(1,.v .str),(0,.v .str),(0,.v (.int .i64)),(0,.box (.pair (.int .i64) (.pair .str (.pair (.int .i64) (.pair .str (.pair (.own .str) .unit)))))),(0,.v (.int .i64))] 86 (x.1,x.2.1,x.2.2.1,x.2.2.2.1,x.2.2.2.2.1,x.2.2.2.2.2.1,x.2.2.2.2.2.2.1,()))) (K (.exit 2) (mkS [(0,.v .str),(1,.box (.pair (.int .i64) (.pair .str (.pair (.int .i64) (.pair .str (.pair (.sl .str) .unit)))))),(1,.v .str),(0,.v .str),(0,.v (.int .i64)),(0,.box (.pair (.int .i64) (.pair .str (.pair (.int .i64) (.pair .str (.pair (.own .str) .unit))))))] 87 (x.1,x.2.1,x.2.2.1,x.2.2.2.1,x.2.2.2.2.1,x.2.2.2.2.2.1,())))
def zfe (N:Nat):Hd ((Int×((List UInt8)×(Int×((List UInt8)×((List (List UInt8))×Unit)))))×Bool×Unit):=fun st K=>(unS [(0,.v .str),(1,.box (.pair (.int .i64) (.pair .str (.pair (.int .i64) (.pair .str (.pair (.sl .str) .unit)))))),(1,.v .str),(0,.v .str),(0,.v (.int .i64)),(0,.box (.pair (.int .i64) (.pair .str (.pair (.int .i64) (.pair .str (.pair (.own .str) .unit)))))),(0,.v (.int .i64))] 86 (restr [6,8,5,2,7,0,4] 0 st)).bind fun x=>zfg N x K
def zt1 (N:Nat):Tab ((Int×((List UInt8)×(Int×((List UInt8)×((List (List UInt8))×Unit)))))×Bool×Unit):=[]
theorem zr7 {N:Nat}{c:Ctx}(hb:Base Go.Proofs.Tryz.prog (z18 N) c):zi Go.Proofs.Tryz.prog c (ze zj [0,0,0,0,1,1,1,1,1,1,0,0,1,0,0,1,0,1,1]) (zfe N) :=
 zd (s:=[(0,.v .str),(1,.box (.pair (.int .i64) (.pair .str (.pair (.int .i64) (.pair .str (.pair (.sl .str) .unit)))))),(1,.v .str),(0,.v .str),(0,.v (.int .i64)),(0,.box (.pair (.int .i64) (.pair .str (.pair (.int .i64) (.pair .str (.pair (.own .str) .unit)))))),(0,.v (.int .i64))]) (m:=86) (g:=zfg N) [6,8,5,2,7,0,4] (za hb N (zt1 N) z1c zj TabOk.nil [0,0,0,0,1,1,1,1,1,1,0,0,1,0,0,1,0,1,1] _ rfl) (fun x K=>by kernel_rfl)
def z55 (N:Nat)(s:(List UInt8))(x2:(Int×((List UInt8)×(Int×((List UInt8)×((List (List UInt8))×Unit))))))(first:(List UInt8))(rest:(List UInt8))(k:Int)(op:(Int×((List UInt8)×(Int×((List UInt8)×((List (List UInt8))×Unit))))))(at_:Int)(rec:(Int×((List UInt8)×(Int×((List UInt8)×((List (List UInt8))×Unit)))))->Int->Option ((Int×((List UInt8)×(Int×((List UInt8)×((List (List UInt8))×Unit)))))×Bool×Unit))(k0:(Int×((List UInt8)×(Int×((List UInt8)×((List (List UInt8))×Unit)))))->Bool->Option ((Int×((List UInt8)×(Int×((List UInt8)×((List (List UInt8))×Unit)))))×Bool×Unit))(k1:(Int×((List UInt8)×(Int×((List UInt8)×((List (List UInt8))×Unit)))))->Option ((Int×((List UInt8)×(Int×((List UInt8)×((List (List UInt8))×Unit)))))×Bool×Unit)):Option ((Int×((List UInt8)×(Int×((List UInt8)×((List (List UInt8))×Unit)))))×Bool×Unit) :=
 z4a N s x2 first rest k op at_
 ((z4x N rest at_).bind fun y =>
 cond (y.2.2.1.1 != (0:Int))
 (k0 ((0:Int),(([]:List UInt8),((0:Int),(([]:List UInt8),(([]:List (List UInt8)),()))))) false)
 (cond (decide ((((List.length op.2.2.2.2.1)+1)*16)<=70368744177664))
 (rec (op.1,(op.2.1,(op.2.2.1,(op.2.2.2.1,((op.2.2.2.2.1++([y.1]:List (List UInt8))),op.2.2.2.2.2))))) (Go.IntKind.wrap Go.IntKind.i64 (y.2.1+(1:Int))))
 (none)))
 (k1 op)
def z6g (N:Nat)(s:(List UInt8))(x2:(Int×((List UInt8)×(Int×((List UInt8)×((List (List UInt8))×Unit))))))(first:(List UInt8))(rest:(List UInt8))(k:Int)(op:(Int×((List UInt8)×(Int×((List UInt8)×((List (List UInt8))×Unit))))))(at_:Int)(k0:(Int×((List UInt8)×(Int×((List UInt8)×((List (List UInt8))×Unit)))))->Bool->Option ((Int×((List UInt8)×(Int×((List UInt8)×((List (List UInt8))×Unit)))))×Bool×Unit))(k1:(Int×((List UInt8)×(Int×((List UInt8)×((List (List UInt8))×Unit)))))->Option ((Int×((List UInt8)×(Int×((List UInt8)×((List (List UInt8))×Unit)))))×Bool×Unit)):Option ((Int×((List UInt8)×(Int×((List UInt8)×((List (List UInt8))×Unit)))))×Bool×Unit) :=
 iter (fun (v:((Int×((List UInt8)×(Int×((List UInt8)×((List (List UInt8))×Unit)))))×Int)) r=>z55 N s x2 first rest k v.1 v.2 (fun op at_=>(r (op,at_))) k0 k1) N (op,at_)
def zhk (N:Nat)(i:((List UInt8)×(Int×((List UInt8)×(Int×((List UInt8)×((List (List UInt8))×Unit)))))×(List UInt8)×(List UInt8)×Int))(v:((Int×((List UInt8)×(Int×((List UInt8)×((List (List UInt8))×Unit)))))×Int))(r:((Int×((List UInt8)×(Int×((List UInt8)×((List (List UInt8))×Unit)))))×Int)->Option ((Int×((List UInt8)×(Int×((List UInt8)×((List (List UInt8))×Unit)))))×Bool×Unit))(K:Ex->List A->Option ((Int×((List UInt8)×(Int×((List UInt8)×((List (List UInt8))×Unit)))))×Bool×Unit)):Option ((Int×((List UInt8)×(Int×((List UInt8)×((List (List UInt8))×Unit)))))×Bool×Unit) :=
 z55 N i.1 i.2.1 i.2.2.1 i.2.2.2.1 i.2.2.2.2 v.1 v.2 (fun op at_=>(r (op,at_))) (fun a0 a1=>(K .ret (mkS [(2,.box (.pair (.int .i64) (.pair .str (.pair (.int .i64) (.pair .str (.pair (.sl .str) .unit)))))),(0,.v .bool)] 91 (a0,a1,())))) (fun a5=>(K (.exit 2) (mkS [(0,.v .str),(1,.box (.pair (.int .i64) (.pair .str (.pair (.int .i64) (.pair .str (.pair (.sl .str) .unit)))))),(1,.v .str),(0,.v .str),(0,.v (.int .i64)),(0,.box (.pair (.int .i64) (.pair .str (.pair (.int .i64) (.pair .str (.pair (.own .str) .unit))))))] 87 (i.1,i.2.1,i.2.2.1,i.2.2.2.1,i.2.2.2.2,a5,()))))
def zhb (N:Nat):Hd ((Int×((List UInt8)×(Int×((List UInt8)×((List (List UInt8))×Unit)))))×Bool×Unit):=fun st K=>(unS [(0,.v .str),(1,.box (.pair (.int .i64) (.pair .str (.pair (.int .i64) (.pair .str (.pair (.sl .str) .unit)))))),(1,.v .str),(0,.v .str),(0,.v (.int .i64)),(0,.box (.pair (.int .i64) (.pair .str (.pair (.int .i64) (.pair .str (.pair (.own .str) .unit)))))),(0,.v (.int .i64))] 86 (restr [6,8,5,2,7,0,4] 0 st)).bind fun x=>iter (fun v r=>zhk N ((fun x=>(x.1,x.2.1,x.2.2.1,x.2.2.2.1,x.2.2.2.2.1)) x) v r K) N ((fun x=>(x.2.2.2.2.2.1,x.2.2.2.2.2.2.1)) x)
def zwf (N:Nat):Tab ((Int×((List UInt8)×(Int×((List UInt8)×((List (List UInt8))×Unit)))))×Bool×Unit):=[([0,0,0,0,1,1,1,1,1,1,0,0,1,0,0,1,0,1,1],zfe N)]
theorem zt2 {N:Nat}{c:Ctx}(hb:Base Go.Proofs.Tryz.prog (z18 N) c):zi Go.Proofs.Tryz.prog c (ze zj [0,0,1,1,1,1,1,1,0,0,1,0,0,1,0,1,1]) (zhb N) :=
 z2z (s:=[(0,.v .str),(1,.box (.pair (.int .i64) (.pair .str (.pair (.int .i64) (.pair .str (.pair (.sl .str) .unit)))))),(1,.v .str),(0,.v .str),(0,.v (.int .i64)),(0,.box (.pair (.int .i64) (.pair .str (.pair (.int .i64) (.pair .str (.pair (.own .str) .unit)))))),(0,.v (.int .i64))]) (m:=86) (zhk N) [6,8,5,2,7,0,4] N (fun x=>(x.1,x.2.1,x.2.2.1,x.2.2.2.1,x.2.2.2.2.1)) (fun x=>(x.2.2.2.2.2.1,x.2.2.2.2.2.2.1)) (fun i v=>(i.1,i.2.1,i.2.2.1,i.2.2.2.1,i.2.2.2.2,v.1,v.2,())) (fun _=>rfl) (za hb N (zwf N) z1c zj (TabOk.cons (zr7 hb) TabOk.nil) [0,0,0,1,1,1,1,1,1,0,0,1,0,0,1,0,1,1] _ rfl) (fun i v r K=>by kernel_rfl)
def z1d (N:Nat)(s:(List UInt8))(x2:(Int×((List UInt8)×(Int×((List UInt8)×((List (List UInt8))×Unit))))))(first:(List UInt8))(rest:(List UInt8))(k:Int)(op:(Int×((List UInt8)×(Int×((List UInt8)×((List (List UInt8))×Unit))))))(at_:Int)(k0:(Int×((List UInt8)×(Int×((List UInt8)×((List (List UInt8))×Unit)))))->Bool->Option ((Int×((List UInt8)×(Int×((List UInt8)×((List (List UInt8))×Unit)))))×Bool×Unit))(k1:(Int×((List UInt8)×(Int×((List UInt8)×((List (List UInt8))×Unit)))))->Option ((Int×((List UInt8)×(Int×((List UInt8)×((List (List UInt8))×Unit)))))×Bool×Unit)):Option ((Int×((List UInt8)×(Int×((List UInt8)×((List (List UInt8))×Unit)))))×Bool×Unit) :=
 z6g N s x2 first rest k op at_
 (fun x21 x3=>k0 x21 x3)
 (fun op1=>k1 op1)
def zhl (N:Nat)(x:z1g [(0,.v .str),(1,.box (.pair (.int .i64) (.pair .str (.pair (.int .i64) (.pair .str (.pair (.sl .str) .unit)))))),(1,.v .str),(0,.v .str),(0,.v (.int .i64)),(0,.box (.pair (.int .i64) (.pair .str (.pair (.int .i64) (.pair .str (.pair (.own .str) .unit)))))),(0,.v (.int .i64))])(K:Ex->List A->Option ((Int×((List UInt8)×(Int×((List UInt8)×((List (List UInt8))×Unit)))))×Bool×Unit)):Option ((Int×((List UInt8)×(Int×((List UInt8)×((List (List UInt8))×Unit)))))×Bool×Unit) :=
 z1d N x.1 x.2.1 x.2.2.1 x.2.2.2.1 x.2.2.2.2.1 x.2.2.2.2.2.1 x.2.2.2.2.2.2.1 (fun a0 a1=>(K .ret (mkS [(2,.box (.pair (.int .i64) (.pair .str (.pair (.int .i64) (.pair .str (.pair (.sl .str) .unit)))))),(0,.v .bool)] 91 (a0,a1,())))) (fun a5=>(K .normal (mkS [(0,.v .str),(1,.box (.pair (.int .i64) (.pair .str (.pair (.int .i64) (.pair .str (.pair (.sl .str) .unit)))))),(1,.v .str),(0,.v .str),(0,.v (.int .i64)),(0,.box (.pair (.int .i64) (.pair .str (.pair (.int .i64) (.pair .str (.pair (.own .str) .unit))))))] 87 (x.1,x.2.1,x.2.2.1,x.2.2.2.1,x.2.2.2.2.1,a5,()))))
def zhc (N:Nat):Hd ((Int×((List UInt8)×(Int×((List UInt8)×((List (List UInt8))×Unit)))))×Bool×Unit):=fun st K=>(unS [(0,.v .str),(1,.box (.pair (.int .i64) (.pair .str (.pair (.int .i64) (.pair .str (.pair (.sl .str) .unit)))))),(1,.v .str),(0,.v .str),(0,.v (.int .i64)),(0,.box (.pair (.int .i64) (.pair .str (.pair (.int .i64) (.pair .str (.pair (.own .str) .unit)))))),(0,.v (.int .i64))] 86 (restr [6,8,5,2,7,0,4] 0 st)).bind fun x=>zhl N x K
def zwg (N:Nat):Tab ((Int×((List UInt8)×(Int×((List UInt8)×((List (List UInt8))×Unit)))))×Bool×Unit):=[([0,0,1,1,1,1,1,1,0,0,1,0,0,1,0,1,1],zhb N)]
theorem zt3 {N:Nat}{c:Ctx}(hb:Base Go.Proofs.Tryz.prog (z18 N) c):zi Go.Proofs.Tryz.prog c (ze zj [0,1,1,1,1,1,1,0,0,1,0,0,1,0,1,1]) (zhc N) :=
 zd (s:=[(0,.v .str),(1,.box (.pair (.int .i64) (.pair .str (.pair (.int .i64) (.pair .str (.pair (.sl .str) .unit)))))),(1,.v .str),(0,.v .str),(0,.v (.int .i64)),(0,.box (.pair (.int .i64) (.pair .str (.pair (.int .i64) (.pair .str (.pair (.own .str) .unit)))))),(0,.v (.int .i64))]) (m:=86) (g:=zhl N) [6,8,5,2,7,0,4] (za hb N (zwg N) z1c zj (TabOk.cons (zt2 hb) TabOk.nil) [0,1,1,1,1,1,1,0,0,1,0,0,1,0,1,1] _ rfl) (fun x K=>by kernel_rfl)
def z1i (N:Nat)(s:(List UInt8))(x2:(Int×((List UInt8)×(Int×((List UInt8)×((List (List UInt8))×Unit))))))(first:(List UInt8))(rest:(List UInt8))(k:Int)(op:(Int×((List UInt8)×(Int×((List UInt8)×((List (List UInt8))×Unit))))))(t:(List UInt8))(is_:Bool)(k0:Bool->Option ((Int×((List UInt8)×(Int×((List UInt8)×((List (List UInt8))×Unit)))))×Bool×Unit)):Option ((Int×((List UInt8)×(Int×((List UInt8)×((List (List UInt8))×Unit)))))×Bool×Unit) :=
 cond is_
 (k0 (t == s))
 (k0 false)
def zff (N:Nat)(x:z1g [(0,.v .str),(1,.box (.pair (.int .i64) (.pair .str (.pair (.int .i64) (.pair .str (.pair (.sl .str) .unit)))))),(1,.v .str),(0,.v .str),(0,.v (.int .i64)),(0,.box (.pair (.int .i64) (.pair .str (.pair (.int .i64) (.pair .str (.pair (.sl .str) .unit)))))),(4,.v .str),(0,.v .bool)])(K:Ex->List A->Option ((Int×((List UInt8)×(Int×((List UInt8)×((List (List UInt8))×Unit)))))×Bool×Unit)):Option ((Int×((List UInt8)×(Int×((List UInt8)×((List (List UInt8))×Unit)))))×Bool×Unit) :=
 z1i N x.1 x.2.1 x.2.2.1 x.2.2.2.1 x.2.2.2.2.1 x.2.2.2.2.2.1 x.2.2.2.2.2.2.1 x.2.2.2.2.2.2.2.1 (fun a6=>(K .normal (mkS [(0,.v .str),(1,.box (.pair (.int .i64) (.pair .str (.pair (.int .i64) (.pair .str (.pair (.sl .str) .unit)))))),(1,.v .str),(0,.v .str),(0,.v (.int .i64)),(0,.box (.pair (.int .i64) (.pair .str (.pair (.int .i64) (.pair .str (.pair (.sl .str) .unit)))))),(84,.v .bool)] 2 (x.1,x.2.1,x.2.2.1,x.2.2.2.1,x.2.2.2.2.1,x.2.2.2.2.2.1,a6,()))))
def zfd (N:Nat):Hd ((Int×((List UInt8)×(Int×((List UInt8)×((List (List UInt8))×Unit)))))×Bool×Unit):=fun st K=>(unS [(0,.v .str),(1,.box (.pair (.int .i64) (.pair .str (.pair (.int .i64) (.pair .str (.pair (.sl .str) .unit)))))),(1,.v .str),(0,.v .str),(0,.v (.int .i64)),(0,.box (.pair (.int .i64) (.pair .str (.pair (.int .i64) (.pair .str (.pair (.sl .str) .unit)))))),(4,.v .str),(0,.v .bool)] 81 (restr [13,12,0,7,2,6,4,5] 0 st)).bind fun x=>zff N x K
def zt0 (N:Nat):Tab ((Int×((List UInt8)×(Int×((List UInt8)×((List (List UInt8))×Unit)))))×Bool×Unit):=[]
theorem zr6 {N:Nat}{c:Ctx}(hb:Base Go.Proofs.Tryz.prog (z18 N) c):zi Go.Proofs.Tryz.prog c (ze zj [0,1,1,1,1,1,1,1,1,0,0,1,0,0,1,0,1,1]) (zfd N) :=
 zd (s:=[(0,.v .str),(1,.box (.pair (.int .i64) (.pair .str (.pair (.int .i64) (.pair .str (.pair (.sl .str) .unit)))))),(1,.v .str),(0,.v .str),(0,.v (.int .i64)),(0,.box (.pair (.int .i64) (.pair .str (.pair (.int .i64) (.pair .str (.pair (.sl .str) .unit)))))),(4,.v .str),(0,.v .bool)]) (m:=81) (g:=zff N) [13,12,0,7,2,6,4,5] (za hb N (zt0 N) z1c zj TabOk.nil [0,1,1,1,1,1,1,1,1,0,0,1,0,0,1,0,1,1] _ rfl) (fun x K=>by kernel_rfl)
def z3u (N:Nat)(s:(List UInt8))(x2:(Int×((List UInt8)×(Int×((List UInt8)×((List (List UInt8))×Unit))))))(first:(List UInt8))(rest:(List UInt8))(k:Int)(k0:(List UInt8)->Option ((Int×((List UInt8)×(Int×((List UInt8)×((List (List UInt8))×Unit)))))×Bool×Unit))(k1:(Int×((List UInt8)×(Int×((List UInt8)×((List (List UInt8))×Unit)))))->Bool->Option ((Int×((List UInt8)×(Int×((List UInt8)×((List (List UInt8))×Unit)))))×Bool×Unit)):Option ((Int×((List UInt8)×(Int×((List UInt8)×((List (List UInt8))×Unit)))))×Bool×Unit) :=
 (z3f N k).bind fun y =>
 cond (!(y == first))
 (k0 rest)
 (z6j N s x2 first rest k (k,(([]:List UInt8),((0:Int),(([]:List UInt8),(([]:List (List UInt8)),())))))
 (fun rest1 op=>z2y N s x2 first rest1 k op
 (fun op1=>z2b N s x2 first rest1 k op1
 (fun op2=>z1d N s x2 first rest1 k op2 (0:Int)
 (fun x21 x3=>k1 x21 x3)
 (fun op3=>(z1p N (op3.1,(op3.2.1,(op3.2.2.1,(op3.2.2.2.1,(op3.2.2.2.2.1,op3.2.2.2.2.2)))))).bind fun y1 =>
 z1i N s x2 first rest1 k (op3.1,(op3.2.1,(op3.2.2.1,(op3.2.2.2.1,(op3.2.2.2.2.1,op3.2.2.2.2.2))))) y1.1 y1.2.1
 (fun x92=>cond x92
 (k1 (op3.1,(op3.2.1,(op3.2.2.1,(op3.2.2.2.1,(op3.2.2.2.2.1,op3.2.2.2.2.2))))) true)
 (k0 rest1)))))))
def zhr (N:Nat)(x:z1g [(0,.v .str),(1,.box (.pair (.int .i64) (.pair .str (.pair (.int .i64) (.pair .str (.pair (.sl .str) .unit)))))),(1,.v .str),(0,.v .str),(0,.v (.int .i64))])(K:Ex->List A->Option ((Int×((List UInt8)×(Int×((List UInt8)×((List (List UInt8))×Unit)))))×Bool×Unit)):Option ((Int×((List UInt8)×(Int×((List UInt8)×((List (List UInt8))×Unit)))))×Bool×Unit) :=
 z3u N x.1 x.2.1 x.2.2.1 x.2.2.2.1 x.2.2.2.2.1 (fun a3=>(K .normal (mkS [(0,.v .str),(1,.box (.pair (.int .i64) (.pair .str (.pair (.int .i64) (.pair .str (.pair (.sl .str) .unit)))))),(1,.v .str),(0,.v .str),(0,.v (.int .i64))] 88 (x.1,x.2.1,x.2.2.1,a3,x.2.2.2.2.1,())))) (fun a0 a1=>(K .ret (mkS [(2,.box (.pair (.int .i64) (.pair .str (.pair (.int .i64) (.pair .str (.pair (.sl .str) .unit)))))),(0,.v .bool)] 91 (a0,a1,()))))
def zhi (N:Nat):Hd ((Int×((List UInt8)×(Int×((List UInt8)×((List (List UInt8))×Unit)))))×Bool×Unit):=fun st K=>(unS [(0,.v .str),(1,.box (.pair (.int .i64) (.pair .str (.pair (.int .i64) (.pair .str (.pair (.sl .str) .unit)))))),(1,.v .str),(0,.v .str),(0,.v (.int .i64))] 88 (restr [6,4,5,2,0] 0 st)).bind fun x=>zhr N x K
def zwm (N:Nat):Tab ((Int×((List UInt8)×(Int×((List UInt8)×((List (List UInt8))×Unit)))))×Bool×Unit):=[([0,1,1,0,0,1,0,0,1,0,1,1],zhh N),([0,1,1,1,0,0,1,0,0,1,0,1,1],zhg N),([0,1,1,1,1,0,0,1,0,0,1,0,1,1],zhe N),([0,1,1,1,1,1,1,0,0,1,0,0,1,0,1,1],zhc N),([0,1,1,1,1,1,1,1,1,0,0,1,0,0,1,0,1,1],zfd N)]
theorem zt9 {N:Nat}{c:Ctx}(hb:Base Go.Proofs.Tryz.prog (z18 N) c):zi Go.Proofs.Tryz.prog c (ze zj [0,1,0,0,1,0,1,1]) (zhi N) :=
 zd (s:=[(0,.v .str),(1,.box (.pair (.int .i64) (.pair .str (.pair (.int .i64) (.pair .str (.pair (.sl .str) .unit)))))),(1,.v .str),(0,.v .str),(0,.v (.int .i64))]) (m:=88) (g:=zhr N) [6,4,5,2,0] (za hb N (zwm N) z1c zj (TabOk.cons (zt8 hb) (TabOk.cons (zt7 hb) (TabOk.cons (zt5 hb) (TabOk.cons (zt3 hb) (TabOk.cons (zr6 hb) TabOk.nil))))) [0,1,0,0,1,0,1,1] _ rfl) (fun x K=>by kernel_rfl)
def z2a (N:Nat)(s:(List UInt8))(x2:(Int×((List UInt8)×(Int×((List UInt8)×((List (List UInt8))×Unit))))))(first:(List UInt8))(rest:(List UInt8))(k:Int)(rec:(List UInt8)->Int->Option ((Int×((List UInt8)×(Int×((List UInt8)×((List (List UInt8))×Unit)))))×Bool×Unit))(k0:(Int×((List UInt8)×(Int×((List UInt8)×((List (List UInt8))×Unit)))))->Bool->Option ((Int×((List UInt8)×(Int×((List UInt8)×((List (List UInt8))×Unit)))))×Bool×Unit))(k1:Option ((Int×((List UInt8)×(Int×((List UInt8)×((List (List UInt8))×Unit)))))×Bool×Unit)):Option ((Int×((List UInt8)×(Int×((List UInt8)×((List (List UInt8))×Unit)))))×Bool×Unit) :=
 cond (decide (k<=(9:Int)))
 (z3u N s x2 first rest k
 (fun rest1=>rec rest1 (Go.IntKind.wrap Go.IntKind.i64 (k+(1:Int))))
 (fun x21 x3=>k0 x21 x3))
 (k1)
def zah (N:Nat)(s:(List UInt8))(x2:(Int×((List UInt8)×(Int×((List UInt8)×((List (List UInt8))×Unit))))))(first:(List UInt8))(rest:(List UInt8))(k:Int)(k0:(Int×((List UInt8)×(Int×((List UInt8)×((List (List UInt8))×Unit)))))->Bool->Option ((Int×((List UInt8)×(Int×((List UInt8)×((List (List UInt8))×Unit)))))×Bool×Unit))(k1:Option ((Int×((List UInt8)×(Int×((List UInt8)×((List (List UInt8))×Unit)))))×Bool×Unit)):Option ((Int×((List UInt8)×(Int×((List UInt8)×((List (List UInt8))×Unit)))))×Bool×Unit) :=
 iter (fun (v:((List UInt8)×Int)) r=>z2a N s x2 first v.1 v.2 (fun rest k=>(r (rest,k))) k0 k1) N (rest,k)
def zhs (N:Nat)(i:((List UInt8)×(Int×((List UInt8)×(Int×((List UInt8)×((List (List UInt8))×Unit)))))×(List UInt8)))(v:((List UInt8)×Int))(r:((List UInt8)×Int)->Option ((Int×((List UInt8)×(Int×((List UInt8)×((List (List UInt8))×Unit)))))×Bool×Unit))(K:Ex->List A->Option ((Int×((List UInt8)×(Int×((List UInt8)×((List (List UInt8))×Unit)))))×Bool×Unit)):Option ((Int×((List UInt8)×(Int×((List UInt8)×((List (List UInt8))×Unit)))))×Bool×Unit) :=
 z2a N i.1 i.2.1 i.2.2 v.1 v.2 (fun rest k=>(r (rest,k))) (fun a0 a1=>(K .ret (mkS [(2,.box (.pair (.int .i64) (.pair .str (.pair (.int .i64) (.pair .str (.pair (.sl .str) .unit)))))),(0,.v .bool)] 91 (a0,a1,())))) (K (.exit 0) (mkS [(2,.box (.pair (.int .i64) (.pair .str (.pair (.int .i64) (.pair .str (.pair (.sl .str) .unit))))))] 92 (i.2.1,())))
def zhj (N:Nat):Hd ((Int×((List UInt8)×(Int×((List UInt8)×((List (List UInt8))×Unit)))))×Bool×Unit):=fun st K=>(unS [(0,.v .str),(1,.box (.pair (.int .i64) (.pair .str (.pair (.int .i64) (.pair .str (.pair (.sl .str) .unit)))))),(1,.v .str),(0,.v .str),(0,.v (.int .i64))] 88 (restr [6,4,5,2,0] 0 st)).bind fun x=>iter (fun v r=>zhs N ((fun x=>(x.1,x.2.1,x.2.2.1)) x) v r K) N ((fun x=>(x.2.2.2.1,x.2.2.2.2.1)) x)
def zwn (N:Nat):Tab ((Int×((List UInt8)×(Int×((List UInt8)×((List (List UInt8))×Unit)))))×Bool×Unit):=[([0,1,0,0,1,0,1,1],zhi N)]
theorem zta {N:Nat}{c:Ctx}(hb:Base Go.Proofs.Tryz.prog (z18 N) c):zi Go.Proofs.Tryz.prog c (ze zj [0,1,0,1,1]) (zhj N) :=
 z2z (s:=[(0,.v .str),(1,.box (.pair (.int .i64) (.pair .str (.pair (.int .i64) (.pair .str (.pair (.sl .str) .unit)))))),(1,.v .str),(0,.v .str),(0,.v (.int .i64))]) (m:=88) (zhs N) [6,4,5,2,0] N (fun x=>(x.1,x.2.1,x.2.2.1)) (fun x=>(x.2.2.2.1,x.2.2.2.2.1)) (fun i v=>(i.1,i.2.1,i.2.2,v.1,v.2,())) (fun _=>rfl) (za hb N (zwn N) z1c zj (TabOk.cons (zt9 hb) TabOk.nil) [0,0,1,0,1,1] _ rfl) (fun i v r K=>by kernel_rfl)
def z2t (N:Nat)(s:(List UInt8)):Option ((Int×((List UInt8)×(Int×((List UInt8)×((List (List UInt8))×Unit)))))×Bool×Unit) :=
 (z5y N s).bind fun y =>
 zah N s ((0:Int),(([]:List UInt8),((0:Int),(([]:List UInt8),(([]:List (List UInt8)),()))))) y.1 y.2.1 (1:Int)
 (fun x2 x3=>some (x2,(x3,())))
 (some (((0:Int),(([]:List UInt8),((0:Int),(([]:List UInt8),(([]:List (List UInt8)),()))))),(false,())))
def zjx (N:Nat):Tab ((Int×((List UInt8)×(Int×((List UInt8)×((List (List UInt8))×Unit)))))×Bool×Unit):=[([0,1,0,1,1],zhj N)]
theorem zr8 (N:Nat)(x:z1g [(0,.v .str)]):zax (z18 N) N (zjx N) z1c Go.Proofs.Tryz.f18 (mkS [(0,.v .str)] 0 x) (z3v (.tup [(.pair (.int .i64) (.pair .str (.pair (.int .i64) (.pair .str (.pair (.sl .str) .unit))))),.bool]) 1)=z2t N x.1:=by kernel_rfl
def zfc (N:Nat):List A->Res:=z1x [(0,.v .str)] (fun x=>z2t N x.1) (za1 (.tup [(.pair (.int .i64) (.pair .str (.pair (.int .i64) (.pair .str (.pair (.sl .str) .unit))))),.bool]) 1)
theorem zwo (N:Nat):Contract Go.Proofs.Tryz.prog glob 18 (zfc N) :=
 Contract.of (E:=z18 N) (H:=zjx N) (L:=z1c) (N:=N) (body:=zj) (K:=(z3v (.tup [(.pair (.int .i64) (.pair .str (.pair (.int .i64) (.pair .str (.pair (.sl .str) .unit))))),.bool]) 1)) (ztb N) Go.Proofs.Tryz.func18 (by kernel_rfl) (by decide) (fun _ hb=>(TabOk.cons (zta hb) TabOk.nil)) (fun x y h=>by rw[zr8];exact h) (z1a (s:=(.tup [(.pair (.int .i64) (.pair .str (.pair (.int .i64) (.pair .str (.pair (.sl .str) .unit))))),.bool])) (m:=1))
def z1s:Code:=(Go.Proofs.Tryz.f9.body).getD .skip
def z4q:List (List Nat×List Nat):=[([0],[0,3]),([0,1],[0,4,3]),([0,0,1,1],[5,0,4,3]),([0,1,0,1,1],[5,0,4,3]),([0,0,0,0,1,0,1,1],[14,0,5,4,3]),([1,0,0,0,1,0,1,1],[0,5,4,3]),([1,1,0,0,0,1,0,1,1],[4,3,0]),([0,0,0,1,0,0,1,0,1,1],[20,4,5,0,3]),([1,0,0,1,0,0,1,0,1,1],[5,0,4,3]),([0,1,0,0,1,0,0,1,0,1,1],[5,0,4,3]),([0,1,0,0,1,0,1,1],[5,0,4,3]),([1,1,0,0,1,0,1,1],[5,0,4,3]),([1,0,1,1],[4,3,0]),([0,0,1,1,1],[24,3,0]),([1,0,1,1,1],[0,3]),([0,0,1,0,1,1,1],[2,3]),([1,0,1,0,1,1,1],[2,3]),([0,1,1,1,1],[0,6,3]),([0,1,1,1,1,1],[0,7,6,3]),([0,0,1,1,1,1,1,1],[8,0,7,6,3]),([0,1,0,1,1,1,1,1,1],[8,0,7,6,3]),([0,0,0,0,1,0,1,1,1,1,1,1],[29,0,8,7,6,3]),([1,0,0,0,1,0,1,1,1,1,1,1],[0,8,7,6,3]),([1,1,0,0,0,1,0,1,1,1,1,1,1],[7,0,6,3]),([0,0,0,0,1,0,0,1,0,1,1,1,1,1,1],[35,8,0,7,6,3]),([1,0,0,0,1,0,0,1,0,1,1,1,1,1,1],[0,7,8,6,3]),([0,1,0,0,0,1,0,0,1,0,1,1,1,1,1,1],[8,0,7,6,3]),([0,1,0,0,1,0,0,1,0,1,1,1,1,1,1],[10,6,3,9,8,0]),([0,0,1,1,0,0,1,0,0,1,0,1,1,1,1,1,1],[45,6,3,9,8,0]),([1,0,1,1,0,0,1,0,0,1,0,1,1,1,1,1,1],[6,9,8,0,3]),([0,0,1,0,1,1,0,0,1,0,0,1,0,1,1,1,1,1,1],[2,3]),([1,0,1,0,1,1,0,0,1,0,0,1,0,1,1,1,1,1,1],[2,3]),([0,1,1,1,0,0,1,0,0,1,0,1,1,1,1,1,1],[8,0,6,3]),([1,1,1,1,0,0,1,0,0,1,0,1,1,1,1,1,1],[8,0,7,6,3]),([0,1,0,0,1,0,1,1,1,1,1,1],[8,0,7,6,3]),([1,1,0,0,1,0,1,1,1,1,1,1],[8,0,7,6,3]),([1,0,1,1,1,1,1,1],[7,0,6,3]),([0,0,1,1,1,1,1,1,1],[58,6,3]),([1,0,1,1,1,1,1,1,1],[6,3]),([0,0,1,0,1,1,1,1,1,1,1],[2,3]),([1,0,1,0,1,1,1,1,1,1,1],[2,3]),([0,1,1,1,1,1,1,1,1],[2,3]),([1,1,1,1,1,1,1,1,1],[2,3])]
def z3q (N:Nat):Env:=z3m tys glob [(18,zfc N)] [(6,(.pair (.int .i64) (.pair .str (.pair (.int .i64) (.pair .str (.pair (.sl .str) .unit)))))),(2,(.pair (.int .i64) (.pair .str (.pair (.int .i64) (.pair .str (.pair (.sl .str) .unit))))))] [] [] false [] []
theorem zwe (N:Nat):EnvOk Go.Proofs.Tryz.prog (z3q N):=zr mixed z1o (FnsOk.cons (zwo N) (FnsOk.nil)) (ItsOk.nil)
def zbk (N:Nat)(s:(List UInt8))(x3:(Int×(Int×Unit)))(n:Int)(i:Int)(k0:Int->Option ((List (Int×((List UInt8)×(Int×((List UInt8)×((List (List UInt8))×Unit))))))×(Int×(Int×Unit))×Unit)):Option ((List (Int×((List UInt8)×(Int×((List UInt8)×((List (List UInt8))×Unit))))))×(Int×(Int×Unit))×Unit) :=
 cond (Go.Lift.inR i (List.length s))
 (cond ((((UInt8.toNat (List.getD s (Int.toNat i) (0:UInt8))):Nat):Int) == (10:Int))
 (k0 (Go.IntKind.wrap Go.IntKind.i64 (n+(1:Int))))
 (k0 n))
 (none)
def zjv (N:Nat)(x:z1g [(0,.v .str),(2,.box (.pair (.int .i64) (.pair (.int .i64) .unit))),(0,.v (.int .i64)),(0,.v (.int .i64))])(K:Ex->List A->Option ((List (Int×((List UInt8)×(Int×((List UInt8)×((List (List UInt8))×Unit))))))×(Int×(Int×Unit))×Unit)):Option ((List (Int×((List UInt8)×(Int×((List UInt8)×((List (List UInt8))×Unit))))))×(Int×(Int×Unit))×Unit) :=
 zbk N x.1 x.2.1 x.2.2.1 x.2.2.2.1 (fun a2=>(K .normal (mkS [(0,.v .str),(2,.box (.pair (.int .i64) (.pair (.int .i64) .unit))),(0,.v (.int .i64)),(0,.v (.int .i64))] 58 (x.1,x.2.1,a2,x.2.2.2.1,()))))
def zjr (N:Nat):Hd ((List (Int×((List UInt8)×(Int×((List UInt8)×((List (List UInt8))×Unit))))))×(Int×(Int×Unit))×Unit):=fun st K=>(unS [(0,.v .str),(2,.box (.pair (.int .i64) (.pair (.int .i64) .unit))),(0,.v (.int .i64)),(0,.v (.int .i64))] 58 (restr [0,5,4,3] 0 st)).bind fun x=>zjv N x K
def z10g (N:Nat):Tab ((List (Int×((List UInt8)×(Int×((List UInt8)×((List (List UInt8))×Unit))))))×(Int×(Int×Unit))×Unit):=[]
theorem zwc {N:Nat}{c:Ctx}(hb:Base Go.Proofs.Tryz.prog (z3q N) c):zi Go.Proofs.Tryz.prog c (ze z1s [0,1,0,0,1,0,1,1]) (zjr N) :=
 zd (s:=[(0,.v .str),(2,.box (.pair (.int .i64) (.pair (.int .i64) .unit))),(0,.v (.int .i64)),(0,.v (.int .i64))]) (m:=58) (g:=zjv N) [0,5,4,3] (za hb N (z10g N) z4q z1s TabOk.nil [0,1,0,0,1,0,1,1] _ rfl) (fun x K=>by kernel_rfl)
def zbi (N:Nat)(s:(List UInt8))(x3:(Int×(Int×Unit)))(n:Int)(i:Int)(rec:Int->Int->Option ((List (Int×((List UInt8)×(Int×((List UInt8)×((List (List UInt8))×Unit))))))×(Int×(Int×Unit))×Unit))(k0:Int->Option ((List (Int×((List UInt8)×(Int×((List UInt8)×((List (List UInt8))×Unit))))))×(Int×(Int×Unit))×Unit)):Option ((List (Int×((List UInt8)×(Int×((List UInt8)×((List (List UInt8))×Unit))))))×(Int×(Int×Unit))×Unit) :=
 cond (decide (i<(((List.length s):Nat):Int)))
 (zbk N s x3 n i
 (fun n1=>rec n1 (Go.IntKind.wrap Go.IntKind.i64 (i+(1:Int)))))
 (k0 n)
def zbl (N:Nat)(s:(List UInt8))(x3:(Int×(Int×Unit)))(n:Int)(i:Int)(k0:Int->Option ((List (Int×((List UInt8)×(Int×((List UInt8)×((List (List UInt8))×Unit))))))×(Int×(Int×Unit))×Unit)):Option ((List (Int×((List UInt8)×(Int×((List UInt8)×((List (List UInt8))×Unit))))))×(Int×(Int×Unit))×Unit) :=
 iter (fun (v:(Int×Int)) r=>zbi N s x3 v.1 v.2 (fun n i=>(r (n,i))) k0) N (n,i)
def zjw (N:Nat)(i:((List UInt8)×(Int×(Int×Unit))))(v:(Int×Int))(r:(Int×Int)->Option ((List (Int×((List UInt8)×(Int×((List UInt8)×((List (List UInt8))×Unit))))))×(Int×(Int×Unit))×Unit))(K:Ex->List A->Option ((List (Int×((List UInt8)×(Int×((List UInt8)×((List (List UInt8))×Unit))))))×(Int×(Int×Unit))×Unit)):Option ((List (Int×((List UInt8)×(Int×((List UInt8)×((List (List UInt8))×Unit))))))×(Int×(Int×Unit))×Unit) :=
 zbi N i.1 i.2 v.1 v.2 (fun n i=>(r (n,i))) (fun a2=>(K (.exit 0) (mkS [(0,.v .str),(2,.box (.pair (.int .i64) (.pair (.int .i64) .unit))),(0,.v (.int .i64))] 59 (i.1,i.2,a2,()))))
def zjs (N:Nat):Hd ((List (Int×((List UInt8)×(Int×((List UInt8)×((List (List UInt8))×Unit))))))×(Int×(Int×Unit))×Unit):=fun st K=>(unS [(0,.v .str),(2,.box (.pair (.int .i64) (.pair (.int .i64) .unit))),(0,.v (.int .i64)),(0,.v (.int .i64))] 58 (restr [5,0,4,3] 0 st)).bind fun x=>iter (fun v r=>zjw N ((fun x=>(x.1,x.2.1)) x) v r K) N ((fun x=>(x.2.2.1,x.2.2.2.1)) x)
def z10h (N:Nat):Tab ((List (Int×((List UInt8)×(Int×((List UInt8)×((List (List UInt8))×Unit))))))×(Int×(Int×Unit))×Unit):=[([0,1,0,0,1,0,1,1],zjr N)]
theorem zwd {N:Nat}{c:Ctx}(hb:Base Go.Proofs.Tryz.prog (z3q N) c):zi Go.Proofs.Tryz.prog c (ze z1s [0,1,0,1,1]) (zjs N) :=
 z2z (s:=[(0,.v .str),(2,.box (.pair (.int .i64) (.pair (.int .i64) .unit))),(0,.v (.int .i64)),(0,.v (.int .i64))]) (m:=58) (zjw N) [5,0,4,3] N (fun x=>(x.1,x.2.1)) (fun x=>(x.2.2.1,x.2.2.2.1)) (fun i v=>(i.1,i.2,v.1,v.2,())) (fun _=>rfl) (za hb N (z10h N) z4q z1s (TabOk.cons (zwc hb) TabOk.nil) [0,0,1,0,1,1] _ rfl) (fun i v r K=>by kernel_rfl)
def zbj (N:Nat)(s:(List UInt8))(x3:(Int×(Int×Unit)))(out:(List (Int×((List UInt8)×(Int×((List UInt8)×((List (List UInt8))×Unit)))))))(from_:Int)(i:Int)(k0:(List (Int×((List UInt8)×(Int×((List UInt8)×((List (List UInt8))×Unit))))))->Int->Option ((List (Int×((List UInt8)×(Int×((List UInt8)×((List (List UInt8))×Unit))))))×(Int×(Int×Unit))×Unit))(k1:(List (Int×((List UInt8)×(Int×((List UInt8)×((List (List UInt8))×Unit))))))->(Int×(Int×Unit))->Option ((List (Int×((List UInt8)×(Int×((List UInt8)×((List (List UInt8))×Unit))))))×(Int×(Int×Unit))×Unit)):Option ((List (Int×((List UInt8)×(Int×((List UInt8)×((List (List UInt8))×Unit))))))×(Int×(Int×Unit))×Unit) :=
 cond (Go.Lift.inR i (List.length s))
 (cond ((((UInt8.toNat (List.getD s (Int.toNat i) (0:UInt8))):Nat):Int) != (10:Int))
 (k0 out from_)
 (cond (decide (((0:Int)<=i)/\(i<=(((List.length s):Nat):Int))))
 (cond (decide (((0:Int)<=from_)/\(from_<=i)))
 ((z2t N (Go.Lift.cut s (Int.toNat from_) (Int.toNat i))).bind fun y =>
 cond (!y.2.1)
 (k1 ([]:List (Int×((List UInt8)×(Int×((List UInt8)×((List (List UInt8))×Unit)))))) ((2:Int),((((List.length out):Nat):Int),())))
 (cond (decide ((((List.length out)+1)*72)<=70368744177664))
 (k0 (out++([y.1]:List (Int×((List UInt8)×(Int×((List UInt8)×((List (List UInt8))×Unit))))))) (Go.IntKind.wrap Go.IntKind.i64 (i+(1:Int))))
 (none)))
 (none))
 (none)))
 (none)
def zjt (N:Nat)(x:z1g [(0,.v .str),(2,.box (.pair (.int .i64) (.pair (.int .i64) .unit))),(2,.row (.pair (.int .i64) (.pair .str (.pair (.int .i64) (.pair .str (.pair (.sl .str) .unit)))))),(0,.v (.int .i64)),(0,.v (.int .i64))])(K:Ex->List A->Option ((List (Int×((List UInt8)×(Int×((List UInt8)×((List (List UInt8))×Unit))))))×(Int×(Int×Unit))×Unit)):Option ((List (Int×((List UInt8)×(Int×((List UInt8)×((List (List UInt8))×Unit))))))×(Int×(Int×Unit))×Unit) :=
 zbj N x.1 x.2.1 x.2.2.1 x.2.2.2.1 x.2.2.2.2.1 (fun a2 a3=>(K .normal (mkS [(0,.v .str),(2,.box (.pair (.int .i64) (.pair (.int .i64) .unit))),(2,.row (.pair (.int .i64) (.pair .str (.pair (.int .i64) (.pair .str (.pair (.sl .str) .unit)))))),(0,.v (.int .i64)),(0,.v (.int .i64))] 55 (x.1,x.2.1,a2,a3,x.2.2.2.2.1,())))) (fun a0 a1=>(K .ret (mkS [(2,.row (.pair (.int .i64) (.pair .str (.pair (.int .i64) (.pair .str (.pair (.sl .str) .unit)))))),(0,.box (.pair (.int .i64) (.pair (.int .i64) .unit)))] 60 (a0,a1,()))))
def zjp (N:Nat):Hd ((List (Int×((List UInt8)×(Int×((List UInt8)×((List (List UInt8))×Unit))))))×(Int×(Int×Unit))×Unit):=fun st K=>(unS [(0,.v .str),(2,.box (.pair (.int .i64) (.pair (.int .i64) .unit))),(2,.row (.pair (.int .i64) (.pair .str (.pair (.int .i64) (.pair .str (.pair (.sl .str) .unit)))))),(0,.v (.int .i64)),(0,.v (.int .i64))] 55 (restr [0,8,7,6,3] 0 st)).bind fun x=>zjt N x K
def z10e (N:Nat):Tab ((List (Int×((List UInt8)×(Int×((List UInt8)×((List (List UInt8))×Unit))))))×(Int×(Int×Unit))×Unit):=[]
theorem zwa {N:Nat}{c:Ctx}(hb:Base Go.Proofs.Tryz.prog (z3q N) c):zi Go.Proofs.Tryz.prog c (ze z1s [0,1,0,0,1,0,1,1,1,1,1,1]) (zjp N) :=
 zd (s:=[(0,.v .str),(2,.box (.pair (.int .i64) (.pair (.int .i64) .unit))),(2,.row (.pair (.int .i64) (.pair .str (.pair (.int .i64) (.pair .str (.pair (.sl .str) .unit)))))),(0,.v (.int .i64)),(0,.v (.int .i64))]) (m:=55) (g:=zjt N) [0,8,7,6,3] (za hb N (z10e N) z4q z1s TabOk.nil [0,1,0,0,1,0,1,1,1,1,1,1] _ rfl) (fun x K=>by kernel_rfl)
def zbh (N:Nat)(s:(List UInt8))(x3:(Int×(Int×Unit)))(out:(List (Int×((List UInt8)×(Int×((List UInt8)×((List (List UInt8))×Unit)))))))(from_:Int)(i:Int)(rec:(List (Int×((List UInt8)×(Int×((List UInt8)×((List (List UInt8))×Unit))))))->Int->Int->Option ((List (Int×((List UInt8)×(Int×((List UInt8)×((List (List UInt8))×Unit))))))×(Int×(Int×Unit))×Unit))(k0:(List (Int×((List UInt8)×(Int×((List UInt8)×((List (List UInt8))×Unit))))))->(Int×(Int×Unit))->Option ((List (Int×((List UInt8)×(Int×((List UInt8)×((List (List UInt8))×Unit))))))×(Int×(Int×Unit))×Unit))(k1:(List (Int×((List UInt8)×(Int×((List UInt8)×((List (List UInt8))×Unit))))))->Int->Option ((List (Int×((List UInt8)×(Int×((List UInt8)×((List (List UInt8))×Unit))))))×(Int×(Int×Unit))×Unit)):Option ((List (Int×((List UInt8)×(Int×((List UInt8)×((List (List UInt8))×Unit))))))×(Int×(Int×Unit))×Unit) :=
 cond (decide (i<(((List.length s):Nat):Int)))
 (zbj N s x3 out from_ i
 (fun out1 from_1=>rec out1 from_1 (Go.IntKind.wrap Go.IntKind.i64 (i+(1:Int))))
 (fun x2 x31=>k0 x2 x31))
 (k1 out from_)
def zjo (N:Nat)(s:(List UInt8))(x3:(Int×(Int×Unit)))(out:(List (Int×((List UInt8)×(Int×((List UInt8)×((List (List UInt8))×Unit)))))))(from_:Int)(i:Int)(k0:(List (Int×((List UInt8)×(Int×((List UInt8)×((List (List UInt8))×Unit))))))->(Int×(Int×Unit))->Option ((List (Int×((List UInt8)×(Int×((List UInt8)×((List (List UInt8))×Unit))))))×(Int×(Int×Unit))×Unit))(k1:(List (Int×((List UInt8)×(Int×((List UInt8)×((List (List UInt8))×Unit))))))->Int->Option ((List (Int×((List UInt8)×(Int×((List UInt8)×((List (List UInt8))×Unit))))))×(Int×(Int×Unit))×Unit)):Option ((List (Int×((List UInt8)×(Int×((List UInt8)×((List (List UInt8))×Unit))))))×(Int×(Int×Unit))×Unit) :=
 iter (fun (v:((List (Int×((List UInt8)×(Int×((List UInt8)×((List (List UInt8))×Unit))))))×Int×Int)) r=>zbh N s x3 v.1 v.2.1 v.2.2 (fun out from_ i=>(r (out,from_,i))) k0 k1) N (out,from_,i)
def zju (N:Nat)(i:((List UInt8)×(Int×(Int×Unit))))(v:((List (Int×((List UInt8)×(Int×((List UInt8)×((List (List UInt8))×Unit))))))×Int×Int))(r:((List (Int×((List UInt8)×(Int×((List UInt8)×((List (List UInt8))×Unit))))))×Int×Int)->Option ((List (Int×((List UInt8)×(Int×((List UInt8)×((List (List UInt8))×Unit))))))×(Int×(Int×Unit))×Unit))(K:Ex->List A->Option ((List (Int×((List UInt8)×(Int×((List UInt8)×((List (List UInt8))×Unit))))))×(Int×(Int×Unit))×Unit)):Option ((List (Int×((List UInt8)×(Int×((List UInt8)×((List (List UInt8))×Unit))))))×(Int×(Int×Unit))×Unit) :=
 zbh N i.1 i.2 v.1 v.2.1 v.2.2 (fun out from_ i=>(r (out,from_,i))) (fun a0 a1=>(K .ret (mkS [(2,.row (.pair (.int .i64) (.pair .str (.pair (.int .i64) (.pair .str (.pair (.sl .str) .unit)))))),(0,.box (.pair (.int .i64) (.pair (.int .i64) .unit)))] 60 (a0,a1,())))) (fun a2 a3=>(K (.exit 2) (mkS [(0,.v .str),(2,.box (.pair (.int .i64) (.pair (.int .i64) .unit))),(2,.row (.pair (.int .i64) (.pair .str (.pair (.int .i64) (.pair .str (.pair (.sl .str) .unit)))))),(0,.v (.int .i64))] 56 (i.1,i.2,a2,a3,()))))
def zjq (N:Nat):Hd ((List (Int×((List UInt8)×(Int×((List UInt8)×((List (List UInt8))×Unit))))))×(Int×(Int×Unit))×Unit):=fun st K=>(unS [(0,.v .str),(2,.box (.pair (.int .i64) (.pair (.int .i64) .unit))),(2,.row (.pair (.int .i64) (.pair .str (.pair (.int .i64) (.pair .str (.pair (.sl .str) .unit)))))),(0,.v (.int .i64)),(0,.v (.int .i64))] 55 (restr [8,0,7,6,3] 0 st)).bind fun x=>iter (fun v r=>zju N ((fun x=>(x.1,x.2.1)) x) v r K) N ((fun x=>(x.2.2.1,x.2.2.2.1,x.2.2.2.2.1)) x)
def z10f (N:Nat):Tab ((List (Int×((List UInt8)×(Int×((List UInt8)×((List (List UInt8))×Unit))))))×(Int×(Int×Unit))×Unit):=[([0,1,0,0,1,0,1,1,1,1,1,1],zjp N)]
theorem zwb {N:Nat}{c:Ctx}(hb:Base Go.Proofs.Tryz.prog (z3q N) c):zi Go.Proofs.Tryz.prog c (ze z1s [0,1,0,1,1,1,1,1,1]) (zjq N) :=
 z2z (s:=[(0,.v .str),(2,.box (.pair (.int .i64) (.pair (.int .i64) .unit))),(2,.row (.pair (.int .i64) (.pair .str (.pair (.int .i64) (.pair .str (.pair (.sl .str) .unit)))))),(0,.v (.int .i64)),(0,.v (.int .i64))]) (m:=55) (zju N) [8,0,7,6,3] N (fun x=>(x.1,x.2.1)) (fun x=>(x.2.2.1,x.2.2.2.1,x.2.2.2.2.1)) (fun i v=>(i.1,i.2,v.1,v.2.1,v.2.2,())) (fun _=>rfl) (za hb N (z10f N) z4q z1s (TabOk.cons (zwa hb) TabOk.nil) [0,0,1,0,1,1,1,1,1,1] _ rfl) (fun i v r K=>by kernel_rfl)
def z5z (N:Nat)(s:(List UInt8)):Option ((List (Int×((List UInt8)×(Int×((List UInt8)×((List (List UInt8))×Unit))))))×(Int×(Int×Unit))×Unit) :=
 zbl N s ((0:Int),((0:Int),())) (0:Int) (0:Int)
 (fun n=>cond (decide ((1024:Int)<n))
 (some (([]:List (Int×((List UInt8)×(Int×((List UInt8)×((List (List UInt8))×Unit)))))),(((3:Int),((1024:Int),())),())))
 (zjo N s ((0:Int),((0:Int),())) ([]:List (Int×((List UInt8)×(Int×((List UInt8)×((List (List UInt8))×Unit)))))) (0:Int) (0:Int)
 (fun x2 x3=>some (x2,(x3,())))
 (fun out from_=>cond (decide (from_<(((List.length s):Nat):Int)))
 (some (([]:List (Int×((List UInt8)×(Int×((List UInt8)×((List (List UInt8))×Unit)))))),(((2:Int),((((List.length out):Nat):Int),())),())))
 (some (out,(((0:Int),((0:Int),())),()))))))
def zn1 (N:Nat):Tab ((List (Int×((List UInt8)×(Int×((List UInt8)×((List (List UInt8))×Unit))))))×(Int×(Int×Unit))×Unit):=[([0,1,0,1,1],zjs N),([0,1,0,1,1,1,1,1,1],zjq N)]
theorem zsz (N:Nat)(x:z1g [(0,.v .str)]):zax (z3q N) N (zn1 N) z4q Go.Proofs.Tryz.f9 (mkS [(0,.v .str)] 0 x) (z3v (.tup [(.sl (.pair (.int .i64) (.pair .str (.pair (.int .i64) (.pair .str (.pair (.sl .str) .unit)))))),(.pair (.int .i64) (.pair (.int .i64) .unit))]) 1)=z5z N x.1:=by kernel_rfl
def zha (N:Nat):List A->Res:=z1x [(0,.v .str)] (fun x=>z5z N x.1) (za1 (.tup [(.sl (.pair (.int .i64) (.pair .str (.pair (.int .i64) (.pair .str (.pair (.sl .str) .unit)))))),(.pair (.int .i64) (.pair (.int .i64) .unit))]) 1)
theorem z10i (N:Nat):Contract Go.Proofs.Tryz.prog glob 9 (zha N) :=
 Contract.of (E:=z3q N) (H:=zn1 N) (L:=z4q) (N:=N) (body:=z1s) (K:=(z3v (.tup [(.sl (.pair (.int .i64) (.pair .str (.pair (.int .i64) (.pair .str (.pair (.sl .str) .unit)))))),(.pair (.int .i64) (.pair (.int .i64) .unit))]) 1)) (zwe N) Go.Proofs.Tryz.func9 (by kernel_rfl) (by decide) (fun _ hb=>(TabOk.cons (zwd hb) (TabOk.cons (zwb hb) TabOk.nil))) (fun x y h=>by rw[zsz];exact h) (z1a (s:=(.tup [(.sl (.pair (.int .i64) (.pair .str (.pair (.int .i64) (.pair .str (.pair (.sl .str) .unit)))))),(.pair (.int .i64) (.pair (.int .i64) .unit))])) (m:=1))
def zk:Code:=(Go.Proofs.Tryz.f3.body).getD .skip
def z1f:List (List Nat×List Nat):=[([0],[0,1]),([0,0,1],[32,0,1]),([1,0,1],[0,1]),([0,0,1,0,1],[4]),([1,0,1,0,1],[4]),([0,0,1,1],[5,0,1]),([0,1,0,1,1],[5,0,1]),([0,0,0,0,1,0,1,1],[37,0,5,1]),([1,0,0,0,1,0,1,1],[0,5,1]),([1,1,0,0,0,1,0,1,1],[0,1]),([0,0,0,1,0,0,1,0,1,1],[44,5,0,1]),([1,0,0,1,0,0,1,0,1,1],[5,0,1]),([0,0,1,0,0,1,0,0,1,0,1,1],[4]),([1,0,1,0,0,1,0,0,1,0,1,1],[4]),([0,1,0,0,1,0,1,1],[5,0,1]),([1,1,0,0,1,0,1,1],[5,0,1]),([1,0,1,1],[0,1]),([0,1,1,1],[0,1,6,7]),([0,1,1,1,1],[1,6,8,7,9]),([0,1,1,1,1,1],[1,6,8,7,9,11,10]),([0,1,1,1,1,1,1],[6,8,7,9,11,13,10,12]),([0,0,1,1,1,1,1,1,1],[85,10,12]),([1,0,1,1,1,1,1,1,1],[10,12]),([0,0,1,0,1,1,1,1,1,1,1],[4]),([1,0,1,0,1,1,1,1,1,1,1],[4]),([0,0,1,1,1,1,1,1,1,1],[14,10,12]),([0,1,0,1,1,1,1,1,1,1,1],[14,10,12]),([0,0,0,0,1,0,1,1,1,1,1,1,1,1],[89,10,14,12]),([1,0,0,0,1,0,1,1,1,1,1,1,1,1],[10,14,12]),([1,1,0,0,0,1,0,1,1,1,1,1,1,1,1],[]),([0,0,0,1,0,0,1,0,1,1,1,1,1,1,1,1],[101,14,10,12]),([1,0,0,1,0,0,1,0,1,1,1,1,1,1,1,1],[14,10,12]),([0,0,1,0,0,1,0,0,1,0,1,1,1,1,1,1,1,1],[4]),([1,0,1,0,0,1,0,0,1,0,1,1,1,1,1,1,1,1],[4]),([0,1,0,0,1,0,1,1,1,1,1,1,1,1],[14,10,12]),([1,1,0,0,1,0,1,1,1,1,1,1,1,1],[14,10,12]),([1,0,1,1,1,1,1,1,1,1],[]),([0,1,1,1,1,1,1,1,1,1],[4]),([1,1,1,1,1,1,1,1,1,1],[4])]
def z19 (N:Nat):Env:=z3m tys glob [(9,zha N),(8,zun N),(7,zdq N),(6,zoy N),(5,zfh N),(4,zfp N),(10,z97 N)] [(10,(.pair (.int .i64) (.pair .str (.pair (.int .i64) (.pair .str (.pair (.sl .str) .unit)))))),(12,(.pair (.int .i64) (.pair .str (.pair (.int .i64) (.pair .str (.pair (.sl .str) .unit))))))] [] [] false [] []
theorem zg6 (N:Nat):EnvOk Go.Proofs.Tryz.prog (z19 N):=zr mixed z1o (FnsOk.cons (z10i N) (FnsOk.cons (z1bk N) (FnsOk.cons (zsq N) (FnsOk.cons (z16z N) (FnsOk.cons (zx1 N) (FnsOk.cons (zy4 N) (FnsOk.cons (zis N) (FnsOk.nil)))))))) (ItsOk.nil)
def z5d (N:Nat)(l:(List (Int×((List UInt8)×(Int×((List UInt8)×((List (List UInt8))×Unit)))))))(s:(List UInt8))(k0:Bool->Option Bool):Option Bool :=
 cond (decide ((30:Int)<(((List.length l):Nat):Int)))
 (cond (decide ((((List.length l):Nat):Int)<=(1024:Int)))
 (k0 true)
 (cond (decide ((1100:Int)<(((List.length l):Nat):Int)))
 (k0 true)
 (k0 (decide ((1500:Int)<(((List.length s):Nat):Int))))))
 (cond (decide ((1100:Int)<(((List.length l):Nat):Int)))
 (k0 true)
 (k0 (decide ((1500:Int)<(((List.length s):Nat):Int)))))
def z8e (N:Nat)(x:z1g [(0,.v (.sl (.pair (.int .i64) (.pair .str (.pair (.int .i64) (.pair .str (.pair (.sl .str) .unit))))))),(0,.v .str)])(K:Ex->List A->Option Bool):Option Bool :=
 z5d N x.1 x.2.1 (fun a2=>(K .normal (mkS [(0,.v (.sl (.pair (.int .i64) (.pair .str (.pair (.int .i64) (.pair .str (.pair (.sl .str) .unit))))))),(0,.v .str),(30,.v .bool)] 70 (x.1,x.2.1,a2,()))))
def z88 (N:Nat):Hd Bool:=fun st K=>(unS [(0,.v (.sl (.pair (.int .i64) (.pair .str (.pair (.int .i64) (.pair .str (.pair (.sl .str) .unit))))))),(0,.v .str)] 101 (restr [0,1] 0 st)).bind fun x=>z8e N x K
def zj0 (N:Nat):Tab Bool:=[]
theorem zg4 {N:Nat}{c:Ctx}(hb:Base Go.Proofs.Tryz.prog (z19 N) c):zi Go.Proofs.Tryz.prog c (ze zk [0,0,1]) (z88 N) :=
 zd (s:=[(0,.v (.sl (.pair (.int .i64) (.pair .str (.pair (.int .i64) (.pair .str (.pair (.sl .str) .unit))))))),(0,.v .str)]) (m:=101) (g:=z8e N) [0,1] (za hb N (zj0 N) z1f zk TabOk.nil [0,0,1] _ rfl) (fun x K=>by kernel_rfl)
def z5e (N:Nat)(l:(List (Int×((List UInt8)×(Int×((List UInt8)×((List (List UInt8))×Unit)))))))(s:(List UInt8))(k0:Bool->Option Bool)(k1:Option Bool):Option Bool :=
 z5d N l s
 (fun x32=>cond x32
 ((z45 N).bind fun y =>
 k0 y)
 (k1))
def z8f (N:Nat)(x:z1g [(0,.v (.sl (.pair (.int .i64) (.pair .str (.pair (.int .i64) (.pair .str (.pair (.sl .str) .unit))))))),(0,.v .str)])(K:Ex->List A->Option Bool):Option Bool :=
 z5e N x.1 x.2.1 (fun a0=>(K .ret (mkS [(4,.v .bool)] 98 (a0,())))) (K .normal (mkS [(0,.v (.sl (.pair (.int .i64) (.pair .str (.pair (.int .i64) (.pair .str (.pair (.sl .str) .unit))))))),(0,.v .str)] 101 (x.1,x.2.1,())))
def z89 (N:Nat):Hd Bool:=fun st K=>(unS [(0,.v (.sl (.pair (.int .i64) (.pair .str (.pair (.int .i64) (.pair .str (.pair (.sl .str) .unit))))))),(0,.v .str)] 101 (restr [0,1] 0 st)).bind fun x=>z8f N x K
def zj1 (N:Nat):Tab Bool:=[([0,0,1],z88 N)]
theorem zg5 {N:Nat}{c:Ctx}(hb:Base Go.Proofs.Tryz.prog (z19 N) c):zi Go.Proofs.Tryz.prog c (ze zk [0,1]) (z89 N) :=
 zd (s:=[(0,.v (.sl (.pair (.int .i64) (.pair .str (.pair (.int .i64) (.pair .str (.pair (.sl .str) .unit))))))),(0,.v .str)]) (m:=101) (g:=z8f N) [0,1] (za hb N (zj1 N) z1f zk (TabOk.cons (zg4 hb) TabOk.nil) [0,1] _ rfl) (fun x K=>by kernel_rfl)
def z3i (N:Nat)(l:(List (Int×((List UInt8)×(Int×((List UInt8)×((List (List UInt8))×Unit)))))))(s:(List UInt8))(i:Int)(rec:Int->Option Bool)(k0:Bool->Option Bool)(k1:Option Bool):Option Bool :=
 cond (decide (i<(((List.length l):Nat):Int)))
 (cond (Go.Lift.inR i (List.length l))
 ((z5l N (List.getD l (Int.toNat i) ((0:Int),(([]:List UInt8),((0:Int),(([]:List UInt8),(([]:List (List UInt8)),()))))))).bind fun y =>
 cond y
 ((z45 N).bind fun y1 =>
 k0 y1)
 (rec (Go.IntKind.wrap Go.IntKind.i64 (i+(1:Int)))))
 (none))
 (k1)
def z5c (N:Nat)(l:(List (Int×((List UInt8)×(Int×((List UInt8)×((List (List UInt8))×Unit)))))))(s:(List UInt8))(i:Int)(k0:Bool->Option Bool)(k1:Option Bool):Option Bool :=
 iter (fun (v:Int) r=>z3i N l s v (fun i=>(r i)) k0 k1) N i
def z8d (N:Nat)(i:((List (Int×((List UInt8)×(Int×((List UInt8)×((List (List UInt8))×Unit))))))×(List UInt8)))(v:Int)(r:Int->Option Bool)(K:Ex->List A->Option Bool):Option Bool :=
 z3i N i.1 i.2 v (fun i=>(r i)) (fun a0=>(K .ret (mkS [(4,.v .bool)] 98 (a0,())))) (K (.exit 0) (mkS [(0,.v (.sl (.pair (.int .i64) (.pair .str (.pair (.int .i64) (.pair .str (.pair (.sl .str) .unit))))))),(0,.v .str)] 101 (i.1,i.2,())))
def z87 (N:Nat):Hd Bool:=fun st K=>(unS [(0,.v (.sl (.pair (.int .i64) (.pair .str (.pair (.int .i64) (.pair .str (.pair (.sl .str) .unit))))))),(0,.v .str),(3,.v (.int .i64))] 97 (restr [5,0,1] 0 st)).bind fun x=>iter (fun v r=>z8d N ((fun x=>(x.1,x.2.1)) x) v r K) N ((fun x=>x.2.2.1) x)
def ziz (N:Nat):Tab Bool:=[]
theorem zg3 {N:Nat}{c:Ctx}(hb:Base Go.Proofs.Tryz.prog (z19 N) c):zi Go.Proofs.Tryz.prog c (ze zk [0,1,0,1,1]) (z87 N) :=
 z2z (s:=[(0,.v (.sl (.pair (.int .i64) (.pair .str (.pair (.int .i64) (.pair .str (.pair (.sl .str) .unit))))))),(0,.v .str),(3,.v (.int .i64))]) (m:=97) (z8d N) [5,0,1] N (fun x=>(x.1,x.2.1)) (fun x=>x.2.2.1) (fun i v=>(i.1,i.2,v,())) (fun _=>rfl) (za hb N (ziz N) z1f zk TabOk.nil [0,0,1,0,1,1] _ rfl) (fun i v r K=>by kernel_rfl)
def z5b (N:Nat)(a:(List UInt8))(is_:Bool)(b:(List UInt8))(has:Bool)(c:(List (Int×((List UInt8)×(Int×((List UInt8)×((List (List UInt8))×Unit)))))))(f:(Int×(Int×Unit)))(d:(List (Int×((List UInt8)×(Int×((List UInt8)×((List (List UInt8))×Unit)))))))(g:(Int×(Int×Unit)))(k0:Bool->Option Bool):Option Bool :=
 cond (!(a == b))
 (k0 true)
 (cond (!(is_ == has))
 (k0 true)
 (cond (!(Go.Lift.eqD (Go.Lift.T.pair (Go.Lift.T.int Go.IntKind.i64) (Go.Lift.T.pair (Go.Lift.T.int Go.IntKind.i64) Go.Lift.T.unit)) f g))
 (k0 true)
 (k0 ((((List.length c):Nat):Int) != (((List.length d):Nat):Int)))))
def z8b (N:Nat)(x:z1g [(6,.v .str),(0,.v .bool),(0,.v .str),(0,.v .bool),(0,.v (.sl (.pair (.int .i64) (.pair .str (.pair (.int .i64) (.pair .str (.pair (.sl .str) .unit))))))),(0,.box (.pair (.int .i64) (.pair (.int .i64) .unit))),(0,.v (.sl (.pair (.int .i64) (.pair .str (.pair (.int .i64) (.pair .str (.pair (.sl .str) .unit))))))),(0,.box (.pair (.int .i64) (.pair (.int .i64) .unit)))])(K:Ex->List A->Option Bool):Option Bool :=
 z5b N x.1 x.2.1 x.2.2.1 x.2.2.2.1 x.2.2.2.2.1 x.2.2.2.2.2.1 x.2.2.2.2.2.2.1 x.2.2.2.2.2.2.2.1 (fun a2=>(K .normal (mkS [(10,.v (.sl (.pair (.int .i64) (.pair .str (.pair (.int .i64) (.pair .str (.pair (.sl .str) .unit))))))),(1,.v (.sl (.pair (.int .i64) (.pair .str (.pair (.int .i64) (.pair .str (.pair (.sl .str) .unit))))))),(72,.v .bool)] 17 (x.2.2.2.2.1,x.2.2.2.2.2.2.1,a2,()))))
def z84 (N:Nat):Hd Bool:=fun st K=>(unS [(6,.v .str),(0,.v .bool),(0,.v .str),(0,.v .bool),(0,.v (.sl (.pair (.int .i64) (.pair .str (.pair (.int .i64) (.pair .str (.pair (.sl .str) .unit))))))),(0,.box (.pair (.int .i64) (.pair (.int .i64) .unit))),(0,.v (.sl (.pair (.int .i64) (.pair .str (.pair (.int .i64) (.pair .str (.pair (.sl .str) .unit))))))),(0,.box (.pair (.int .i64) (.pair (.int .i64) .unit)))] 89 (restr [6,8,7,9,11,13,10,12] 0 st)).bind fun x=>z8b N x K
def zix (N:Nat):Tab Bool:=[]
theorem zg1 {N:Nat}{c:Ctx}(hb:Base Go.Proofs.Tryz.prog (z19 N) c):zi Go.Proofs.Tryz.prog c (ze zk [0,0,1,1,1,1,1,1,1]) (z84 N) :=
 zd (s:=[(6,.v .str),(0,.v .bool),(0,.v .str),(0,.v .bool),(0,.v (.sl (.pair (.int .i64) (.pair .str (.pair (.int .i64) (.pair .str (.pair (.sl .str) .unit))))))),(0,.box (.pair (.int .i64) (.pair (.int .i64) .unit))),(0,.v (.sl (.pair (.int .i64) (.pair .str (.pair (.int .i64) (.pair .str (.pair (.sl .str) .unit))))))),(0,.box (.pair (.int .i64) (.pair (.int .i64) .unit)))]) (m:=89) (g:=z8b N) [6,8,7,9,11,13,10,12] (za hb N (zix N) z1f zk TabOk.nil [0,0,1,1,1,1,1,1,1] _ rfl) (fun x K=>by kernel_rfl)
def z3j (N:Nat)(a:(List UInt8))(is_:Bool)(b:(List UInt8))(has:Bool)(c:(List (Int×((List UInt8)×(Int×((List UInt8)×((List (List UInt8))×Unit)))))))(f:(Int×(Int×Unit)))(d:(List (Int×((List UInt8)×(Int×((List UInt8)×((List (List UInt8))×Unit)))))))(g:(Int×(Int×Unit)))(k0:Bool->Option Bool)(k1:Option Bool):Option Bool :=
 z5b N a is_ b has c f d g
 (fun x85=>cond x85
 (k0 false)
 (k1))
def z8c (N:Nat)(x:z1g [(6,.v .str),(0,.v .bool),(0,.v .str),(0,.v .bool),(0,.v (.sl (.pair (.int .i64) (.pair .str (.pair (.int .i64) (.pair .str (.pair (.sl .str) .unit))))))),(0,.box (.pair (.int .i64) (.pair (.int .i64) .unit))),(0,.v (.sl (.pair (.int .i64) (.pair .str (.pair (.int .i64) (.pair .str (.pair (.sl .str) .unit))))))),(0,.box (.pair (.int .i64) (.pair (.int .i64) .unit)))])(K:Ex->List A->Option Bool):Option Bool :=
 z3j N x.1 x.2.1 x.2.2.1 x.2.2.2.1 x.2.2.2.2.1 x.2.2.2.2.2.1 x.2.2.2.2.2.2.1 x.2.2.2.2.2.2.2.1 (fun a0=>(K .ret (mkS [(4,.v .bool)] 98 (a0,())))) (K .normal (mkS [(10,.v (.sl (.pair (.int .i64) (.pair .str (.pair (.int .i64) (.pair .str (.pair (.sl .str) .unit))))))),(1,.v (.sl (.pair (.int .i64) (.pair .str (.pair (.int .i64) (.pair .str (.pair (.sl .str) .unit)))))))] 90 (x.2.2.2.2.1,x.2.2.2.2.2.2.1,())))
def z86 (N:Nat):Hd Bool:=fun st K=>(unS [(6,.v .str),(0,.v .bool),(0,.v .str),(0,.v .bool),(0,.v (.sl (.pair (.int .i64) (.pair .str (.pair (.int .i64) (.pair .str (.pair (.sl .str) .unit))))))),(0,.box (.pair (.int .i64) (.pair (.int .i64) .unit))),(0,.v (.sl (.pair (.int .i64) (.pair .str (.pair (.int .i64) (.pair .str (.pair (.sl .str) .unit))))))),(0,.box (.pair (.int .i64) (.pair (.int .i64) .unit)))] 89 (restr [6,8,7,9,11,13,10,12] 0 st)).bind fun x=>z8c N x K
def ziy (N:Nat):Tab Bool:=[([0,0,1,1,1,1,1,1,1],z84 N)]
theorem zg2 {N:Nat}{c:Ctx}(hb:Base Go.Proofs.Tryz.prog (z19 N) c):zi Go.Proofs.Tryz.prog c (ze zk [0,1,1,1,1,1,1,1]) (z86 N) :=
 zd (s:=[(6,.v .str),(0,.v .bool),(0,.v .str),(0,.v .bool),(0,.v (.sl (.pair (.int .i64) (.pair .str (.pair (.int .i64) (.pair .str (.pair (.sl .str) .unit))))))),(0,.box (.pair (.int .i64) (.pair (.int .i64) .unit))),(0,.v (.sl (.pair (.int .i64) (.pair .str (.pair (.int .i64) (.pair .str (.pair (.sl .str) .unit))))))),(0,.box (.pair (.int .i64) (.pair (.int .i64) .unit)))]) (m:=89) (g:=z8c N) [6,8,7,9,11,13,10,12] (za hb N (ziy N) z1f zk (TabOk.cons (zg1 hb) TabOk.nil) [0,1,1,1,1,1,1,1] _ rfl) (fun x K=>by kernel_rfl)
def z59 (N:Nat)(c:(List (Int×((List UInt8)×(Int×((List UInt8)×((List (List UInt8))×Unit)))))))(d:(List (Int×((List UInt8)×(Int×((List UInt8)×((List (List UInt8))×Unit)))))))(i:Int)(rec:Int->Option Bool)(k0:Bool->Option Bool)(k1:Option Bool):Option Bool :=
 cond (decide (i<(((List.length c):Nat):Int)))
 (cond (Go.Lift.inR i (List.length c))
 (cond (Go.Lift.inR i (List.length d))
 ((z3g N (List.getD c (Int.toNat i) ((0:Int),(([]:List UInt8),((0:Int),(([]:List UInt8),(([]:List (List UInt8)),())))))) (List.getD d (Int.toNat i) ((0:Int),(([]:List UInt8),((0:Int),(([]:List UInt8),(([]:List (List UInt8)),()))))))).bind fun y =>
 cond (!y)
 (k0 false)
 (rec (Go.IntKind.wrap Go.IntKind.i64 (i+(1:Int)))))
 (none))
 (none))
 (k1)
def z5a (N:Nat)(c:(List (Int×((List UInt8)×(Int×((List UInt8)×((List (List UInt8))×Unit)))))))(d:(List (Int×((List UInt8)×(Int×((List UInt8)×((List (List UInt8))×Unit)))))))(i:Int)(k0:Bool->Option Bool)(k1:Option Bool):Option Bool :=
 iter (fun (v:Int) r=>z59 N c d v (fun i=>(r i)) k0 k1) N i
def z8a (N:Nat)(i:((List (Int×((List UInt8)×(Int×((List UInt8)×((List (List UInt8))×Unit))))))×(List (Int×((List UInt8)×(Int×((List UInt8)×((List (List UInt8))×Unit))))))))(v:Int)(r:Int->Option Bool)(K:Ex->List A->Option Bool):Option Bool :=
 z59 N i.1 i.2 v (fun i=>(r i)) (fun a0=>(K .ret (mkS [(4,.v .bool)] 98 (a0,())))) (K (.exit 2) (mkS [] 103 ()))
def z83 (N:Nat):Hd Bool:=fun st K=>(unS [(10,.v (.sl (.pair (.int .i64) (.pair .str (.pair (.int .i64) (.pair .str (.pair (.sl .str) .unit))))))),(1,.v (.sl (.pair (.int .i64) (.pair .str (.pair (.int .i64) (.pair .str (.pair (.sl .str) .unit))))))),(1,.v (.int .i64))] 88 (restr [14,10,12] 0 st)).bind fun x=>iter (fun v r=>z8a N ((fun x=>(x.1,x.2.1)) x) v r K) N ((fun x=>x.2.2.1) x)
def ziw (N:Nat):Tab Bool:=[]
theorem zg0 {N:Nat}{c:Ctx}(hb:Base Go.Proofs.Tryz.prog (z19 N) c):zi Go.Proofs.Tryz.prog c (ze zk [0,1,0,1,1,1,1,1,1,1,1]) (z83 N) :=
 z2z (s:=[(10,.v (.sl (.pair (.int .i64) (.pair .str (.pair (.int .i64) (.pair .str (.pair (.sl .str) .unit))))))),(1,.v (.sl (.pair (.int .i64) (.pair .str (.pair (.int .i64) (.pair .str (.pair (.sl .str) .unit))))))),(1,.v (.int .i64))]) (m:=88) (z8a N) [14,10,12] N (fun x=>(x.1,x.2.1)) (fun x=>x.2.2.1) (fun i v=>(i.1,i.2,v,())) (fun _=>rfl) (za hb N (ziw N) z1f zk TabOk.nil [0,0,1,0,1,1,1,1,1,1,1,1] _ rfl) (fun i v r K=>by kernel_rfl)
def z28 (N:Nat)(l:(List (Int×((List UInt8)×(Int×((List UInt8)×((List (List UInt8))×Unit)))))))(s:(List UInt8)):Option Bool :=
 z5e N l s
 (fun x4=>some x4)
 (z5c N l s (0:Int)
 (fun x41=>some x41)
 ((z5h N l).bind fun y =>
 (z32 N l).bind fun y1 =>
 (zed N s).bind fun y2 =>
 (z5z N s).bind fun y3 =>
 z3j N y.1 y.2.1 y1.1 y1.2.1 y2.1 y2.2.1 y3.1 y3.2.1
 (fun x42=>some x42)
 (z5a N y2.1 y3.1 (0:Int)
 (fun x43=>some x43)
 ((z45 N).bind fun y4 =>
 some y4))))
def z96 (N:Nat):Tab Bool:=[([0,1],z89 N),([0,1,0,1,1],z87 N),([0,1,1,1,1,1,1,1],z86 N),([0,1,0,1,1,1,1,1,1,1,1],z83 N)]
theorem zfq (N:Nat)(x:z1g [(0,.v (.sl (.pair (.int .i64) (.pair .str (.pair (.int .i64) (.pair .str (.pair (.sl .str) .unit))))))),(0,.v .str)]):zax (z19 N) N (z96 N) z1f Go.Proofs.Tryz.f3 (mkS [(0,.v (.sl (.pair (.int .i64) (.pair .str (.pair (.int .i64) (.pair .str (.pair (.sl .str) .unit))))))),(0,.v .str)] 0 x) (z3v (.v .bool) 2)=z28 N x.1 x.2.1:=by kernel_rfl
def zfz (N:Nat):List A->Res:=z1x [(0,.v (.sl (.pair (.int .i64) (.pair .str (.pair (.int .i64) (.pair .str (.pair (.sl .str) .unit))))))),(0,.v .str)] (fun x=>z28 N x.1 x.2.1) (za1 (.v .bool) 2)
theorem zj2 (N:Nat):Contract Go.Proofs.Tryz.prog glob 3 (zfz N) :=
 Contract.of (E:=z19 N) (H:=z96 N) (L:=z1f) (N:=N) (body:=zk) (K:=(z3v (.v .bool) 2)) (zg6 N) Go.Proofs.Tryz.func3 (by kernel_rfl) (by decide) (fun _ hb=>(TabOk.cons (zg5 hb) (TabOk.cons (zg3 hb) (TabOk.cons (zg2 hb) (TabOk.cons (zg0 hb) TabOk.nil))))) (fun x y h=>by rw[zfq];exact h) (z1a (s:=(.v .bool)) (m:=2))
end
end Go.Proofs.YtkkkgfmjjkpjdaaGreatDoorLg
set_option linter.all false
namespace Go.Proofs.YtkkkgfmjjkpjdaaGreatDoorPx
noncomputable section
open Go Go.Lift
theorem z3n {σ β:Type}{step:σ->(σ->Option β)->Option β}(I:σ->Prop)(m:σ->Nat)(R:σ->Option β)
 (h:∀ v r,I v->(∀ v',I v'->m v'<m v->r v'=R v')->step v r=R v):∀ (n:Nat) (v:σ),I v->m v<n->iter step n v=R v
 | 0,v,_,hm=>by omega
 | n+1,v,hv,hm=>h v (iter step n) hv fun v' hv' hlt=>z3n I m R h n v' hv' (by omega)
theorem zme {σ β:Type}{step:σ->(σ->Option β)->Option β}(I:σ->Prop)(m:σ->Nat)(p:Option β->Prop)
 (h:∀ v r,I v->(∀ v',I v'->m v'<m v->p (r v'))->p (step v r)):∀ (n:Nat) (v:σ),I v->m v<n->p (iter step n v)
 | 0,v,_,hm=>by omega
 | n+1,v,hv,hm=>h v (iter step n) hv fun v' hv' hlt=>zme I m p h n v' hv' (by omega)
theorem z1t8 (x:Int):IntKind.wrap .i64 x=(x+9223372036854775808) % 18446744073709551616 - 9223372036854775808:=by
 simp only[IntKind.wrap,IntKind.bits,IntKind.signed,Bool.true_and,decide_eq_true_eq,Nat.add_one_sub_one,Int.reducePow,ge_iff_le];split<;>omega
def I64 (x:Int):Prop:=-9223372036854775808<=x/\x<=9223372036854775807
instance (x:Int):Decidable (I64 x):=by unfold I64;infer_instance
theorem z2v {x:Int}(h:I64 x):IntKind.wrap .i64 x=x:=by
 rw[z1t8];unfold I64 at h;omega
theorem z8 {α:Type}{b:Bool}(h:b=true)(x y:α):cond b x y=x:=by rw[h];rfl
theorem zf {α:Type}{b:Bool}(h:b=false)(x y:α):cond b x y=y:=by rw[h];rfl
theorem z12 {n len:Nat}(h:n<len):inR (n:Int) len=true:=by simp only[inR,decide_eq_true_eq];omega
theorem zfw {i:Int}{len:Nat}(h:0<=i)(h':i<len):inR i len=true:=by simp only[inR,decide_eq_true_eq];omega
def z1c5:T->Bool
 | .int _=>true
 | .bool=>true
 | .str=>true
 | .unit=>true
 | .pair a b=>z1c5 a && z1c5 b
 | .arr _ t=>z1c5 t
 | _=>false
theorem z1ee:∀ (t:T) (x y:t.den),z1c5 t=true->(eqD t x y=true ↔ x=y)
 | .int _,x,y,_=>by simp[eqD]
 | .bool,x,y,_=>by simp[eqD]
 | .str,x,y,_=>by simp[eqD]
 | .unit,x,y,_=>by simp[eqD]
 | .pair a b,x,y,h=>by
   simp only[z1c5,Bool.and_eq_true] at h;have h1:=z1ee a x.1 y.1 h.1;have h2:=z1ee b x.2 y.2 h.2;simp only[eqD];cases hq:eqD a x.1 y.1 with
   | false =>
     rw[hq] at h1;simp only[cond_false,Bool.false_eq_true,false_iff];intro e;exact absurd (h1.2 (by rw[e])) (by simp)
   | true =>
     rw[cond_true,h2];constructor
     . intro e;exact Prod.ext (h1.1 hq) e
     . intro e;rw[e]
 | .arr n t,xs,ys,h=>by
   have h:z1c5 t=true:=h;simp only[eqD]
   induction xs generalizing ys with
   | nil=>cases ys<;>simp[z1jz]
   | cons x xs ih =>
     cases ys with
     | nil=>simp[z1jz]
     | cons y ys =>
       have h1:=z1ee t x y h;simp only[z1jz];cases hq:eqD t x y with
       | false =>
         rw[hq] at h1;simp only[cond_false,Bool.false_eq_true,false_iff];intro e;exact absurd (h1.2 (List.cons.inj e).1) (by simp)
       | true =>
         rw[cond_true];have h2:z1jz (eqD t) xs ys=true ↔ xs=ys:=ih ys;constructor
         . intro e;rw[h1.1 hq,h2.1 e]
         . intro e;exact h2.2 (List.cons.inj e).2
 | .opq,x,y,h=>by simp[z1c5] at h
 | .sl _,x,y,h=>by simp[z1c5] at h
 | .ptr _,x,y,h=>by simp[z1c5] at h
theorem z1q6 {t:T}(h:z1c5 t=true)(x:t.den):eqD t x x=true:=(z1ee t x x h).2 rfl
end
end Go.Proofs.YtkkkgfmjjkpjdaaGreatDoorPx
set_option linter.all false
namespace Go.Proofs.YtkkkgfmjjkpjdaaGreatDoorPx
noncomputable section
open Go Go.Lift
theorem z1d9 (x:Int):IntKind.wrap .u8 x=x % 256:=by
 simp only[IntKind.wrap,IntKind.bits,IntKind.signed,Bool.false_and,Bool.false_eq_true,if_false];rfl
theorem z13z {x:Int}(h0:0<=x)(h1:x<256):IntKind.wrap .u8 x=x:=by rw[z1d9];omega
theorem z9m (u:UInt8):u.toNat<256:=u.toNat_lt
theorem zp6 (u:UInt8):IntKind.wrap .i64 ((u.toNat:Nat):Int)=((u.toNat:Nat):Int):=by
 have:=z9m u;exact z2v (by unfold I64;omega)
theorem zz {i:Nat}(h:i<9223372036854775807):IntKind.wrap .i64 ((i:Int)+1)=((i+1:Nat):Int):=by
 rw[z2v (by unfold I64;omega)];omega
theorem z1cl (u:UInt8):BitVec.ofInt 8 ((u.toNat:Nat):Int)=u.toBitVec:=by
 rw[BitVec.ofInt_natCast];apply BitVec.eq_of_toNat_eq;have h1:u.toBitVec.toNat=u.toNat:=rfl;have:=z9m u;rw[BitVec.toNat_ofNat,h1];omega
theorem z1lx (u:UInt8):IntKind.wrap .u8 ((u.toNat:Nat):Int)=((u.toNat:Nat):Int):=by
 have:=z9m u;exact z13z (by omega) (by omega)
theorem z1ug (a b:UInt8):bitsOp .and .u8 ((a.toNat:Nat):Int) ((b.toNat:Nat):Int)=(((a &&& b).toNat:Nat):Int):=by
 have e:bitsOp .and .u8 ((a.toNat:Nat):Int) ((b.toNat:Nat):Int)=IntKind.wrap .u8 ((BitVec.ofInt 8 ((a.toNat:Nat):Int) &&& BitVec.ofInt 8 ((b.toNat:Nat):Int)).toNat:Int):=rfl;rw[e,z1cl,z1cl];have h:(a.toBitVec &&& b.toBitVec).toNat=(a &&& b).toNat:=rfl;rw[h,z1lx]
theorem zru (a b:List Int):toStr (a++b)=toStr a++toStr b:=by simp[toStr]
theorem z1kd (u:UInt8):toStr [((u.toNat:Nat):Int)]=[u]:=by simp[toStr]
theorem z6a (s:List UInt8):toStr (ofStr s)=s:=by
 simp[toStr,ofStr,Function.comp_def]
theorem z3h (s:List UInt8):(ofStr s).length=s.length:=by simp[ofStr]
theorem zq3 {α:Type}(l:List α)(d:α)(i:Nat)(h:i<l.length):l.getD i d∈l:=by
 rw[List.getD_eq_getElem?_getD,List.getElem?_eq_getElem h];simp
theorem z27 {α:Type}(l:List α)(d:α)(i:Nat)(h:i<l.length):l.drop i=l.getD i d::l.drop (i+1):=by
 rw[List.getD_eq_getElem?_getD,List.getElem?_eq_getElem h,Option.getD_some,List.drop_eq_getElem_cons h]
theorem z3z {α:Type}(l:List α){i:Nat}(h:l.length<=i):l.drop i=[]:=List.drop_of_length_le h
theorem zh {p:Prop}[Decidable p](h:p):decide p=true:=decide_eq_true h
theorem zq {p:Prop}[Decidable p](h:¬ p):decide p=false:=decide_eq_false h
theorem zjb {α:Type}(l:List α)(d:α)(i:Nat)(h:i<l.length):l.take (i+1)=l.take i++[l.getD i d]:=by
 rw[List.getD_eq_getElem?_getD,List.getElem?_eq_getElem h,Option.getD_some,List.take_succ_eq_append_getElem h]
theorem z1df {α:Type}(l:List α)(x:α)(i:Nat)(h:i<l.length):(l.set i x).take (i+1)=l.take i++[x]:=by
 rw[List.take_succ_eq_append_getElem (by simpa using h),List.getElem_set_self];congr 1;apply List.ext_getElem?;intro j;rw[List.getElem?_take,List.getElem?_take];split
 . rw[List.getElem?_set_ne (by omega)]
 . rfl
theorem z1k3 {α:Type}(l:List α)(n:Nat):cut l 0 n=l.take n:=by simp[cut]
theorem zva {α:Type}(l:List α)(n:Nat):cut l n l.length=l.drop n:=by simp[cut]
theorem zv9 {α:Type}(l:List α)(n k:Nat):cut l n (n+k)=(l.drop n).take k:=by
 unfold cut;rw[List.drop_take];congr 1;omega
end
end Go.Proofs.YtkkkgfmjjkpjdaaGreatDoorPx
