import Derived.Test.YtgbcebmahbieoaaDoorLgPrDo2
import Derived.KernelRfl
import Derived.Test.YtgbcebmahbieoaaDoorLgW
set_option linter.all false
namespace Go.Proofs.YtgbcebmahbieoaaDoorPx
noncomputable section
open Go Go.Lift
theorem z19a {k m:Nat}:∀ n x,dle k m (n+1) x->x<2^(k*(n+1))->x<(m+1)*2^(k*n)
 | 0,x,h,hx=>by
   have h0:=h.1;rw[Nat.zero_add,Nat.mul_one] at hx;rw[Nat.mod_eq_of_lt hx] at h0;rw[Nat.mul_zero,Nat.pow_zero,Nat.mul_one];omega
 | n+1,x,h,hx=>by
   rw[Nat.mul_add,Nat.mul_one,Nat.pow_add,Nat.mul_comm (2^(k*(n+1)))] at hx;have ih:=z19a n (x / 2^k) h.2 (Nat.div_lt_of_lt_mul hx);have e:=(Nat.div_lt_iff_lt_mul (Nat.two_pow_pos k)).1 ih;rw[Nat.mul_add,Nat.mul_one,Nat.pow_add,<- Nat.mul_assoc];exact e
def s1I (x:Int):Int:=IntKind.wrap .u64 (ze .and .u64 (z23 .u64 x 1) 6148914691236517205+ze .and .u64 x 6148914691236517205)
def s2I (x:Int):Int:=IntKind.wrap .u64 (ze .and .u64 (z23 .u64 x 2) 3689348814741910323+ze .and .u64 x 3689348814741910323)
def s3I (x:Int):Int:=ze .and .u64 (IntKind.wrap .u64 (z23 .u64 x 4+x)) 1085102592571150095
def s4I (k x:Int):Int:=IntKind.wrap .u64 (x+z23 .u64 x k)
def z105 (x:Int):Int:=ze .and .i64 (IntKind.wrap .i64 (s4I 32 (s4I 16 (s4I 8 (s3I (s2I (s1I x))))))) 127
theorem z9e {n:Nat}(h:n<18446744073709551616):U64 (n:Int):=by unfold U64;omega
theorem zvt {n k:Nat}(hk:k<64):z23 .u64 (n:Int) (k:Int)=((n / 2^k:Nat):Int):=by
 rw[zzr (by omega) hk,Int.toNat_natCast,Nat.shiftRight_eq_div_pow]
theorem zts {n m:Nat}(hn:n<18446744073709551616)(hm:m<18446744073709551616):ze .and .u64 (n:Int) (m:Int)=((n &&& m:Nat):Int):=by
 rw[ztr (z9e hn) (z9e hm),Int.toNat_natCast,Int.toNat_natCast]
theorem z1ku {n:Nat}(hn:n<9223372036854775808):ze .and .i64 (n:Int) 127=((n % 128:Nat):Int):=by
 have e:ze .and .i64 (n:Int) 127=IntKind.wrap .i64 ((BitVec.ofInt 64 (n:Int) &&& BitVec.ofInt 64 127).toNat:Int):=rfl;have e1:(BitVec.ofInt 64 (n:Int)).toNat=n:=by rw[BitVec.toNat_ofInt];omega
 have e2:(BitVec.ofInt 64 (127:Int)).toNat=127:=rfl;have e3:n &&& 127=n % 128:=Nat.and_two_pow_sub_one_eq_mod n 7;rw[e,BitVec.toNat_and,e1,e2,e3,z4w (by unfold I64;omega)]
theorem m1:(6148914691236517205:Nat)=zln 1 32:=by decide
theorem m2:(3689348814741910323:Nat)=zln 2 16:=by decide
theorem m3:(1085102592571150095:Nat)=zln 4 8:=by decide
theorem z1ob {n:Nat}(h:n<18446744073709551616):s1I (n:Int)=((z7a 1 32 n:Nat):Int):=by
 have hs:z7a 1 32 n<18446744073709551616:=zku (by omega) 32 n;have hd:n / 2^1<18446744073709551616:=Nat.lt_of_le_of_lt (Nat.div_le_self _ _) h;have e:=zzo 1 32 n;have a1:z23 .u64 (n:Int) 1=((n / 2^1:Nat):Int):=zvt (k:=1) (by omega);have a2:=zts hd (m:=6148914691236517205) (by omega);have a3:=zts h (m:=6148914691236517205) (by omega);rw[m1] at a2 a3;unfold s1I;rw[a1];show IntKind.wrap .u64 (ze .and .u64 _ ((6148914691236517205:Nat):Int)+ze .and .u64 _ ((6148914691236517205:Nat):Int))=_;rw[m1,a2,a3,<- e,z78]
 . rw[Int.natCast_add]
 . rw[<- Int.natCast_add,e];exact z9e hs
theorem z1oa {n:Nat}(h:n<18446744073709551616):s2I (n:Int)=((z7a 2 16 n:Nat):Int):=by
 have hs:z7a 2 16 n<18446744073709551616:=zku (by omega) 16 n;have hd:n / 2^2<18446744073709551616:=Nat.lt_of_le_of_lt (Nat.div_le_self _ _) h;have e:=zzo 2 16 n;have a1:z23 .u64 (n:Int) 2=((n / 2^2:Nat):Int):=zvt (k:=2) (by omega);have a2:=zts hd (m:=3689348814741910323) (by omega);have a3:=zts h (m:=3689348814741910323) (by omega);rw[m2] at a2 a3;unfold s2I;rw[a1];show IntKind.wrap .u64 (ze .and .u64 _ ((3689348814741910323:Nat):Int)+ze .and .u64 _ ((3689348814741910323:Nat):Int))=_;rw[m2,a2,a3,<- e,z78]
 . rw[Int.natCast_add]
 . rw[<- Int.natCast_add,e];exact z9e hs
theorem z1o9 {n:Nat}(h:n<18446744073709551616)(hd:dle 4 4 16 n):s3I (n:Int)=((z7a 4 8 n:Nat):Int):=by
 have hb:n<(4+1)*2^(4*15):=z19a 15 n hd h;simp only[Nat.reduceAdd,Nat.reduceMul,Nat.reducePow] at hb;have e:=z131 (k:=4) (m:=4) (by decide) 8 n (z147 16 n hd h);have a1:z23 .u64 (n:Int) 4=((n / 2^4:Nat):Int):=zvt (k:=4) (by omega);have hd2:n / 2^4+n<18446744073709551616:=by
  have:=Nat.div_le_self n (2^4);omega
 have a2:=zts hd2 (m:=1085102592571150095) (by omega);rw[m3,e] at a2;unfold s3I;rw[a1,<- Int.natCast_add,z78 (z9e hd2)];show ze .and .u64 _ ((1085102592571150095:Nat):Int)=_;rw[m3,a2]
theorem z17g {n k:Nat}(hk:k<64)(h:n+n / 2^k<18446744073709551616):s4I (k:Int) (n:Int)=((n+n / 2^k:Nat):Int):=by
 unfold s4I;rw[zvt hk,<- Int.natCast_add,z78 (z9e h)]
theorem z1br {n:Nat}(h:n<18446744073709551616):z105 (n:Int)=((pop 64 n:Nat):Int):=by
 have h1:z7a 1 32 n<18446744073709551616:=zku (by omega) 32 n;have d1:dle 2 2 32 (z7a 1 32 n):=zrb (by omega) 32 n (z199 64 n);have u1:z10v 2 32 (z7a 1 32 n)=pop 64 n:=by rw[<- z146];exact zo2 (by omega) 32 n
 unfold z105;rw[z1ob h];generalize z7a 1 32 n=x at *;have h2:z7a 2 16 x<18446744073709551616:=zku (by omega) 16 x;have d2:dle 4 4 16 (z7a 2 16 x):=zrb (by omega) 16 x d1;have u2:z10v 4 16 (z7a 2 16 x)=pop 64 n:=by rw[<- u1];exact zo2 (by omega) 16 x
 rw[z1oa h1];generalize z7a 2 16 x=y at *;have h3:z7a 4 8 y<18446744073709551616:=zku (by omega) 8 y;have d3:dle 8 8 8 (z7a 4 8 y):=zrb (by omega) 8 y d2;have u3:z10v 8 8 (z7a 4 8 y)=pop 64 n:=by rw[<- u2];exact zo2 (by omega) 8 y
 rw[z1o9 h2 d2];generalize z7a 4 8 y=z at *;have hb:z<(8+1)*2^(8*7):=z19a 7 z d3 h3;simp only[Nat.reduceAdd,Nat.reduceMul,Nat.reducePow] at hb;obtain⟨l1,l2,l3⟩:=z1ce (x:=z) (by omega);have f:=fold8 d3 h3;have q1:s4I 8 (z:Int)=((z+z / 256:Nat):Int):=z17g (k:=8) (by omega) l1;rw[q1];generalize z+z / 256=a at *;have q2:s4I 16 (a:Int)=((a+a / 65536:Nat):Int):=z17g (k:=16) (by omega) l2;rw[q2];generalize a+a / 65536=b at *;have q3:s4I 32 (b:Int)=((b+b / 4294967296:Nat):Int):=z17g (k:=32) (by omega) (by omega);rw[q3,z4w (by unfold I64;omega),z1ku l3,f,u3]
theorem zwb {x:Int}(h:U64 x):z105 x=((pop 64 x.toNat:Nat):Int):=by
 obtain⟨n,rfl⟩:=Int.eq_ofNat_of_zero_le h.1;have:=h.2;rw[Int.toNat_natCast,z1br (by omega)]
def cnt (f:Nat->Bool):Nat->Nat
 | 0=>0
 | n+1=>cnt f n+(f n).toNat
theorem z1ew (f:Nat->Bool):∀ n,cnt f n<=n
 | 0=>Nat.le_refl _
 | n+1=>by
   have:=z1ew f n;have:(f n).toNat<=1:=by cases f n<;>decide
   simp only[cnt];omega
theorem zt8 {f g:Nat->Bool}:∀ n,(∀ i,i<n->f i=g i)->cnt f n=cnt g n
 | 0,_=>rfl
 | n+1,h=>by rw[cnt,cnt,zt8 n (fun i hi=>h i (by omega)),h n (by omega)]
theorem zpk (f:Nat->Bool)(m:Nat):∀ n,cnt f (m+n)=cnt f m+cnt (fun i=>f (m+i)) n
 | 0=>rfl
 | n+1=>by rw[<- Nat.add_assoc,cnt,cnt,zpk f m n,Nat.add_assoc]
theorem zs9:∀ n x,pop n x=cnt (fun i=>x.testBit i) n
 | 0,_=>rfl
 | n+1,x=>by
   have h:cnt (fun i=>x.testBit i) (1+n)=cnt (fun i=>x.testBit i) 1+cnt (fun i=>x.testBit (1+i)) n:=zpk _ 1 n;have e:cnt (fun i=>x.testBit (1+i)) n=cnt (fun i=>(x / 2).testBit i) n:=zt8 n (fun i _=>by rw[Nat.add_comm,Nat.testBit_succ]);rw[Nat.add_comm n 1,h,e,<- zs9 n,Nat.add_comm 1 n,pop];congr 1;simp only[cnt,Nat.testBit_zero,Nat.zero_add];have:=Nat.mod_lt x (show 0<2 by omega);obtain h|h:x % 2=0\/x % 2=1:=by omega
   . rw[h];rfl
   . rw[h];rfl
def z1mc (s:List Int):Nat:=cnt (ze1 s) 256
theorem z19i {s:List Int}{a b c d:Int}(e:s=[a,b,c,d]):z1mc s=pop 64 a.toNat+pop 64 b.toNat+pop 64 c.toNat+pop 64 d.toNat:=by
 subst e;have h1:cnt (ze1 [a,b,c,d]) (64+(64+(64+64)))=_:=zpk _ 64 _;rw[zpk _ 64 (64+64),zpk _ 64 64] at h1;unfold z1mc;rw[show (256:Nat)=64+(64+(64+64)) from rfl,h1,zs9,zs9,zs9,zs9,Nat.add_assoc,Nat.add_assoc];have k (w:Nat) (hw:w<4):cnt (fun i=>ze1 [a,b,c,d] (64*w+i)) 64=cnt (fun i=>([a,b,c,d].getD w 0).toNat.testBit i) 64:=zt8 64 (fun i hi=>by
  unfold ze1 bit;rw[show (64*w+i) / 64=w by omega,show (64*w+i) % 64=i by omega])
 have k0:=k 0 (by omega);have k1:=k 1 (by omega);have k2:=k 2 (by omega);have k3:=k 3 (by omega);simp only[Nat.mul_zero,Nat.zero_add,Nat.mul_one,Nat.reduceMul] at k0 k1 k2 k3;have e2:(fun i=>ze1 [a,b,c,d] (64+(64+i)))=fun i=>ze1 [a,b,c,d] (128+i):=by funext i;rw[<- Nat.add_assoc]
 have e3:(fun i=>ze1 [a,b,c,d] (64+(64+(64+i))))=fun i=>ze1 [a,b,c,d] (192+i):=by funext i;rw[<- Nat.add_assoc,<- Nat.add_assoc]
 have e0:cnt (ze1 [a,b,c,d]) 64=cnt (fun i=>ze1 [a,b,c,d] i) 64:=rfl;rw[e0,k0,k1,e2,k2,e3,k3];rfl
theorem z111 (s:List Int):z1mc s<=256:=z1ew _ _
theorem z1ar {x y:Int}(hx:U64 x)(hy:U64 y)(h:∀ i,i<64->bit x i=bit y i):x=y:=by
 have e:x.toNat=y.toNat:=Nat.eq_of_testBit_eq (fun i=>by
  by_cases hi:i<64
  . exact h i hi
  . have e64:(18446744073709551616:Nat)<=2^i:=Nat.le_trans (by decide) (Nat.pow_le_pow_right (n:=2) (by omega) (show 64<=i by omega));rw[Nat.testBit_lt_two_pow (Nat.lt_of_lt_of_le (by have:=hx.2;omega) e64),Nat.testBit_lt_two_pow (Nat.lt_of_lt_of_le (by have:=hy.2;omega) e64)])
 have:=hx.1;have:=hy.1;omega
end
end Go.Proofs.YtgbcebmahbieoaaDoorPx
set_option linter.all false
namespace Go.Proofs.YtgbcebmahbieoaaDoorPx
noncomputable section
open Go Go.Lift
def zqn (s:List Int):Nat->Nat->List Nat
 | 0,_=>[]
 | n+1,b=>if ze1 s b=true then b::zqn s n (b+1) else zqn s n (b+1)
theorem zr1 (s:List Int):∀ n b c,c∈zqn s n b ↔ b<=c/\c<b+n/\ze1 s c=true
 | 0,b,c=>by simp only[zqn,List.not_mem_nil,false_iff];omega
 | n + 1,b,c=>by
   have ih:=zr1 s n (b+1) c;rw[zqn];split
   . rename_i h;rw[List.mem_cons,ih];constructor
     . rintro (rfl|h1)
       . exact⟨Nat.le_refl _,by omega,h⟩
       . exact⟨by omega,by omega,h1.2.2⟩
     . rintro⟨h1,h2,h3⟩;by_cases e:c=b
       . exact .inl e
       . exact .inr ⟨by omega,by omega,h3⟩
   . rename_i h;rw[ih];constructor
     . rintro⟨h1,h2,h3⟩;exact⟨by omega,by omega,h3⟩
     . rintro⟨h1,h2,h3⟩;have:c≠b:=fun e=>h (e ▸ h3)
       exact⟨by omega,by omega,h3⟩
theorem z12z (s:List Int):∀ n b,(zqn s n b).length=cnt (fun i=>ze1 s (b+i)) n
 | 0,_=>rfl
 | n + 1,b=>by
   have e:cnt (fun i=>ze1 s (b+i)) (1+n)=cnt (fun i=>ze1 s (b+i)) 1+cnt (fun i=>ze1 s (b+(1+i))) n:=zpk _ 1 n;have e2:cnt (fun i=>ze1 s (b+(1+i))) n=cnt (fun i=>ze1 s (b+1+i)) n:=by simp only[Nat.add_assoc]
   rw[Nat.add_comm n 1,e,e2,<- z12z s n (b+1),Nat.add_comm 1 n,zqn];simp only[cnt,Nat.add_zero,Nat.zero_add];cases h:ze1 s b
   . rw[if_neg (by decide)];show _=0+_;omega
   . rw[if_pos rfl,List.length_cons];show _=1+_;omega
def zrj (s:List Int):List UInt8:=(zqn s 256 0).map UInt8.ofNat
theorem z1b4 (s:List Int):(zrj s).length=z1mc s:=by
 have e:(fun i=>ze1 s (0+i))=ze1 s:=by funext i;rw[Nat.zero_add]
 rw[zrj,List.length_map,z12z,e,z1mc]
def inS (l:List UInt8)(c:Nat):Bool:=l.any fun u=>u.toNat == c
theorem z1gd {s:List Int}{c:Nat}(hc:c<256):inS (zrj s) c=ze1 s c:=by
 rw[Bool.eq_iff_iff];unfold inS zrj;rw[List.any_eq_true];constructor
 . rintro⟨u,hu,he⟩;obtain⟨n,hn,rfl⟩:=List.mem_map.1 hu;have hm:=(zr1 s 256 0 n).1 hn;rw[UInt8.toNat_ofNat'] at he;have:=eq_of_beq he;have e:n=c:=by omega
   exact e ▸ hm.2.2
 . intro h;refine⟨UInt8.ofNat c,List.mem_map.2 ⟨c,(zr1 s 256 0 c).2 ⟨Nat.zero_le _,by omega,h⟩,rfl⟩,?_⟩;rw[UInt8.toNat_ofNat',Nat.mod_eq_of_lt hc,beq_self_eq_true]
theorem z1by:∀ x:Nat,x≠0->∃ t q,x=2^t*(2*q+1):=by
 intro x
 induction x using Nat.strongRecOn with
 | _ x ih =>
   intro h;by_cases e:x % 2=1
   . exact⟨0,x / 2,by rw[Nat.pow_zero];omega⟩
   . obtain⟨t,q,h1⟩:=ih (x / 2) (by omega) (by omega);refine⟨t+1,q,?_⟩;rw[Nat.pow_succ,Nat.mul_comm (2^t) 2,Nat.mul_assoc,<- h1];omega
theorem z10b (t q i:Nat):(2^t*(2*q+1)).testBit i=if i<t then false else if i=t then true else q.testBit (i - t - 1):=by
 have e:2^t*(2*q+1)=2^t*(2*q+1)+0:=rfl;rw[e,Nat.testBit_two_pow_mul_add _ (Nat.two_pow_pos t)];split
 . exact Nat.zero_testBit i
 . rename_i h;split
   . rename_i h2;subst h2;rw[Nat.sub_self,Nat.testBit_zero];exact decide_eq_true (by omega)
   . rename_i h2;obtain⟨j,hj⟩:∃ j,i - t=j+1:=⟨i - t - 1,by omega⟩
     rw[hj,Nat.testBit_succ];congr 1;omega
theorem z1hb {t q:Nat}(h:2^t*(2*q+1)<2^64):(2^t*(2*q+1)) &&& (2^64 - 2^t*(2*q+1))=2^t:=by
 have hp:=Nat.two_pow_pos t;have ht:t<64:=by
  have:2^t*1<=2^t*(2*q+1):=Nat.mul_le_mul_left _ (by omega);exact (Nat.pow_lt_pow_iff_right (a:=2) (by omega)).1 (by omega)
 have e:2^t*(2*q+1)=(2^t*(2*q)+(2^t - 1))+1:=by
  rw[Nat.mul_add,Nat.mul_one];omega
 have hlt:2^t*(2*q)+(2^t - 1)<2^64:=by omega
 apply Nat.eq_of_testBit_eq;intro i;have hb:=z10b t q i;rw[Nat.testBit_and,Nat.testBit_two_pow];have hs:(2^64 - 2^t*(2*q+1)).testBit i=(decide (i<64) && !(2^t*(2*q)+(2^t - 1)).testBit i):=by
  rw[e,Nat.testBit_two_pow_sub_succ hlt]
 rw[hs,hb,Nat.testBit_two_pow_mul_add _ (by omega)];by_cases h1:i<t
 . rw[if_pos h1,if_pos h1,Bool.false_and];exact (decide_eq_false (by omega)).symm
 . rw[if_neg h1,if_neg h1];by_cases h2:i=t
   . subst h2;rw[if_pos rfl,Nat.sub_self,Nat.testBit_zero,decide_eq_true ht,decide_eq_false (by omega)];exact (decide_eq_true rfl).symm
   . obtain⟨j,hj⟩:∃ j,i - t=j+1:=⟨i - t - 1,by omega⟩
     have ej:i - t - 1=j:=by omega
     have eq2:2*q / 2=q:=by omega
     rw[if_neg h2,hj,Nat.testBit_succ,eq2,Nat.add_sub_cancel,decide_eq_false (p:=t=i) (by omega)];cases q.testBit j<;>cases decide (i<64)<;>rfl
end
end Go.Proofs.YtgbcebmahbieoaaDoorPx
set_option linter.all false
set_option maxRecDepth 100000
namespace Go.Proofs.YtgbcebmahbieoaaDoorLg
noncomputable section
open Go Go.Lift Go.Proofs.YtgbcebmahbieoaaDoorPx
theorem div64 {b:Nat}(hb:b<256):Go.IntKind.wrap .u8 (Int.tdiv (b:Int) (64:Int))=((b / 64:Nat):Int):=by
 rw[Int.tdiv_eq_ediv_of_nonneg (by omega),zoi (by omega) (by omega)];omega
theorem z1ss (b:Nat):Int.tmod (b:Int) (64:Int)=((b % 64:Nat):Int):=by
 rw[Int.tmod_eq_emod_of_nonneg (by omega)];omega
theorem z1e6 (N:Nat){s:List Int}(hs:SetOk s){b:Nat}(hb:b<256):zc3 N s (b:Int)=some (ze1 s b):=by
 have hi:b / 64<4:=by omega
 rw[zc3,div64 hb,z1ss,Int.toNat_natCast,zw (z19 hi),zw (decide_eq_true (by rw[hs.length];exact hi)),zw (decide_eq_true (by omega)),
  z1jx (hs.word hi) (by omega)]
 rfl
theorem zzz (N:Nat) (b:Nat) {w:Int} (hw:U64 w) (k0:Int->Option Bool) (hN:64<N) :
 zaq N (b:Int) w (0:Int) k0=k0 (zo1 (b % 64) w):=by
 let R:Int×Int->Option Bool:=fun v=>k0 (zo1 (b % 64 - v.2.toNat) v.1)
 have h:=zd5 (step:=fun (v:(Int×Int)) r=>z75 N (b:Int) v.1 v.2 (fun w i=>(r (w,i))) k0)
  (I:=fun v=>U64 v.1/\0<=v.2/\v.2<=64) (m:=fun v=>64 - v.2.toNat) (R:=R)
  (by
   rintro⟨w,i⟩ r ⟨hw,h0,h1⟩ hr;obtain⟨i,rfl⟩:=Int.eq_ofNat_of_zero_le h0;simp only at hw h0 h1 ⊢;rw[z75,z1ss];by_cases hb:i<b % 64
   . have u2:U64 (Int.tdiv w 2):=by
      rw[Int.tdiv_eq_ediv_of_nonneg hw.1];unfold U64 at *;omega
     have wb1:Go.IntKind.wrap .i64 ((i:Int)+1)=((i+1:Nat):Int):=z1a (by omega);rw[zw (decide_eq_true (by omega)),z78 u2,wb1,hr _ ⟨u2,by simp only;omega,by simp only;omega⟩ (by simp only[Int.toNat_natCast];omega)];simp only[R,Int.toNat_natCast];have e:b % 64 - i=(b % 64 - (i+1))+1:=by omega
     rw[e,zo1]
   . rw[z2c (decide_eq_false (by omega))];simp only[R,Int.toNat_natCast];have e:b % 64 - i=0:=by omega
     rw[e,zo1]) N (w,(0:Int)) ⟨hw,Int.le_refl _,(by omega:(0:Int)<=64)⟩ (by simp only;omega)
 rw[zaq,h];rfl
theorem zs7 (N:Nat){s:List Int}(hs:SetOk s){b:Nat}(hb:b<256)(hN:64<N):z4o N s (b:Int)=some (ze1 s b):=by
 have hi:b / 64<4:=by omega
 have e:Go.IntKind.wrap .i64 (Int.tdiv (b:Int) (64:Int))=((b / 64:Nat):Int):=by
  rw[Int.tdiv_eq_ediv_of_nonneg (by omega),z4w (by unfold I64;omega)];omega
 rw[z4o,e,Int.toNat_natCast,zw (z19 hi),zw (decide_eq_true (by rw[hs.length];exact hi)),zzz N b (hs.word hi) _ hN,z15j (hs.word hi).1];rfl
theorem z21n (N:Nat)(a b c d:Int):zay (N+5) [a,b,c,d] =
 some (Go.IntKind.wrap .i64 (Go.IntKind.wrap .i64 (Go.IntKind.wrap .i64 (Go.IntKind.wrap .i64 (0+z105 a)+z105 b)+z105 c)+z105 d)):=by kernel_rfl
theorem z1ck (N:Nat){s:List Int}(hs:SetOk s):zay (N+5) s=some ((z1mc s:Nat):Int):=by
 obtain⟨a,b,c,d,rfl,ha,hb,hc,hd⟩:=hs;have h:=z111 [a,b,c,d];rw[z19i rfl] at h;rw[z21n,zwb ha,zwb hb,zwb hc,zwb hd,z19i rfl];generalize pop 64 a.toNat=p at *;generalize pop 64 b.toNat=q at *;generalize pop 64 c.toNat=r at *;generalize pop 64 d.toNat=t at *;rw[z4w (x:=0+(p:Int)) (by unfold I64;omega),z4w (x:=0+(p:Int)+q) (by unfold I64;omega),z4w (x:=0+(p:Int)+q+r) (by unfold I64;omega),
  z4w (by unfold I64;omega)]
 congr 1;omega
def z114 (l:List Nat):List Int:=l.map Int.ofNat
theorem zuh:∀ l:List Nat,(∀ n∈l,n<256)->zjd (z114 l)=l.map UInt8.ofNat
 | [],_=>rfl
 | n::l,h=>by
   have ih:=zuh l (fun m hm=>h m (List.mem_cons_of_mem _ hm));have e:=z14l (UInt8.ofNat n);have hn:=h n (List.mem_cons_self ..);rw[UInt8.toNat_ofNat',Nat.mod_eq_of_lt hn] at e;have e1:z114 (n::l)=[(n:Int)]++z114 l:=rfl;rw[e1,zx7,e,ih];rfl
theorem z1ge (N:Nat) {s:List Int} (hs:SetOk s) (hN:256<N+5):zcy (N+5) s=some (zrj s):=by
 have hc:=z111 s;rw[zcy,z1ck N hs];simp only[Option.bind_some];rw[zw (decide_eq_true ⟨Int.le_refl _,by omega,by omega,by omega⟩),zkf]
 let R:List Int×Int->Option (List UInt8):=fun v=>some (zjd (v.1++z114 (zqn s (256 - v.2.toNat) v.2.toNat)))
 have h:=zd5 (step:=fun (v:((List Int)×Int)) r=>zax (N+5) s v.1 v.2 (fun out x8=>(r (out,x8))) (fun out=>some (zjd out)))
  (I:=fun v=>(v.1.length:Int)<=v.2/\v.2<=256) (m:=fun v=>256 - v.2.toNat) (R:=R)
  (by
   rintro⟨out,b⟩ r ⟨h0,h1⟩ hr;simp only at h0 h1;obtain⟨b,rfl⟩:=Int.eq_ofNat_of_zero_le (show 0<=b by omega);simp only;rw[zax];by_cases hb:b<256
   . have wb:Go.IntKind.wrap .u8 (b:Int)=(b:Int):=zoi (by omega) (by omega);have wb1:Go.IntKind.wrap .i64 ((b:Int)+1)=((b+1:Nat):Int):=z1a (by omega);have e:256 - b=(256 - (b+1))+1:=by omega
     rw[zw (decide_eq_true (by omega)),wb,z1e6 (N+5) hs hb,wb1];simp only[Option.bind_some];rw[show R (out,(b:Int))=some (zjd (out++z114 (zqn s (256 - b) b))) from rfl,e,zqn];cases hh:ze1 s b
     . rw[z2c rfl,if_neg (by decide),hr _ ⟨by simp only;omega,by simp only;omega⟩ (by simp only[Int.toNat_natCast];omega)];rfl
     . rw[zw rfl,if_pos rfl,zw (decide_eq_true (by omega)),hr _ ⟨by simp only[List.length_append,List.length_cons,List.length_nil];omega,by simp only;omega⟩ (by simp only[Int.toNat_natCast];omega)];simp only[R,Int.toNat_natCast,z114,List.map_cons,List.append_assoc,List.singleton_append];rfl
   . rw[z2c (decide_eq_false (by omega))];have e:256 - b=0:=by omega
     simp only[R,Int.toNat_natCast,e,zqn,z114,List.map_nil,List.append_nil]) (N+5) ([],(0:Int)) ⟨Int.le_refl _,by simp only;omega⟩ (by simp only[Int.toNat_zero];omega)
 rw[h];simp only[R,Int.toNat_zero,Nat.sub_zero,List.nil_append];rw[zuh _ (fun n hn=>by have:=((zr1 s 256 0 n).1 hn).2.1;omega)];rfl
end
end Go.Proofs.YtgbcebmahbieoaaDoorLg
set_option linter.all false
namespace Go.Proofs.YtgbcebmahbieoaaDoorPx
noncomputable section
open Go Go.Lift
def z57 (f:Nat->Nat->Bool)(out:List Int)(i:Nat):Nat->Nat->Option Int
 | _,0=>none
 | j,n+1=>cond (f j i) (some (out.getD j 0)) (z57 f out i (j+1) n)
def zb7 (f:Nat->Nat->Bool):Nat->List Int×Nat
 | 0=>([],0)
 | n+1=>match z57 f (zb7 f n).1 n 0 n with
   | some c=>((zb7 f n).1++[c],(zb7 f n).2)
   | none=>((zb7 f n).1++[((zb7 f n).2:Int)],(zb7 f n).2+1)
theorem zl1 (f:Nat->Nat->Bool):∀ n,(zb7 f n).1.length=n
 | 0=>rfl
 | n+1=>by
   have ih:=zl1 f n;rw[zb7];cases z57 f (zb7 f n).1 n 0 n<;>simp only[List.length_append,ih,List.length_singleton]
theorem zsx (f:Nat->Nat->Bool):∀ n,(zb7 f n).2<=n
 | 0=>Nat.le_refl _
 | n+1=>by
   have ih:=zsx f n;rw[zb7];cases z57 f (zb7 f n).1 n 0 n
   . simp only;omega
   . simp only;omega
theorem zq6 {f g:Nat->Nat->Bool}(out:List Int)(i:Nat):∀ n j,(∀ k,j<=k->k<j+n->f k i=g k i)->z57 f out i j n=z57 g out i j n
 | 0,_,_=>rfl
 | n+1,j,h=>by
   rw[z57,z57,h j (Nat.le_refl _) (by omega),zq6 out i n (j+1) (fun k h1 h2=>h k (by omega) (by omega))]
theorem zv6 {f g:Nat->Nat->Bool}:∀ n,(∀ k i,k<i->i<n->f k i=g k i)->zb7 f n=zb7 g n
 | 0,_=>rfl
 | n+1,h=>by
   have ih:=zv6 n (fun k i h1 h2=>h k i h1 (by omega));rw[zb7,zb7,ih,zq6 _ n n 0 (fun k _ h2=>h k n (by omega) (by omega))]
theorem zie {f:Nat->Nat->Bool}{out:List Int}{i:Nat}{c:Int}:∀ n j,z57 f out i j n=some c->∃ k,j<=k/\k<j+n/\f k i=true/\c=out.getD k 0
 | 0,_,h=>by simp[z57] at h
 | n + 1,j,h=>by
   rw[z57] at h;cases hf:f j i
   . rw[hf,z2c rfl] at h;obtain⟨k,h1,h2,h3⟩:=zie n (j+1) h;exact⟨k,by omega,by omega,h3⟩
   . rw[hf,zw rfl] at h;exact⟨j,Nat.le_refl _,by omega,hf,(Option.some.inj h).symm⟩
theorem zmw {α:Type}(l:List α)(x d:α){k:Nat}(h:k<l.length):(l++[x]).getD k d=l.getD k d:=by
 simp only[List.getD_eq_getElem?_getD,List.getElem?_append_left h]
theorem zid {α:Type}(l:List α)(x d:α){k:Nat}(h:k=l.length):(l++[x]).getD k d=x:=by
 subst h;simp[List.getD_eq_getElem?_getD]
theorem z10r (f:Nat->Nat->Bool):∀ n k,k<n->0<=(zb7 f n).1.getD k 0/\(zb7 f n).1.getD k 0<((zb7 f n).2:Int)
 | 0,k,h=>by omega
 | n + 1,k,h=>by
   have hl:=zl1 f n;have ih:=z10r f n;rw[zb7];cases hc:z57 f (zb7 f n).1 n 0 n with
   | none =>
     simp only;by_cases hk:k<n
     . rw[zmw _ _ _ (by omega)];have:=ih k hk;omega
     . rw[zid _ _ _ (by omega)];omega
   | some c =>
     simp only;by_cases hk:k<n
     . rw[zmw _ _ _ (by omega)];exact ih k hk
     . rw[zid _ _ _ (by omega)];obtain⟨j,_,h2,_,h4⟩:=zie n 0 hc;rw[h4];exact ih j (by omega)
def z71:Int->List Int->Bool
 | _,[]=>true
 | t,x::l=>cond (decide (x<0)) false (cond (decide (t+1<x)) false (z71 (if x > t then x else t) l))
def zkr (t:Int)(l:List Int):Int:=l.foldl (fun t x=>if x > t then x else t) t
theorem z12w (t:Int)(l:List Int)(x:Int):zkr t (l++[x])=if x > zkr t l then x else zkr t l:=by
 simp[zkr,List.foldl_append]
theorem zop:∀ (l:List Int) (t x:Int),z71 t (l++[x])=(z71 t l && (decide (0<=x) && decide (x<=zkr t l+1)))
 | [],t,x=>by
   have e:z71 t ([]++[x])=cond (decide (x<0)) false (cond (decide (t+1<x)) false true):=rfl;have e0:z71 t []=true:=rfl;have e1:decide (0<=x)=!decide (x<0):=by
    rcases Decidable.em (x<0) with h|h
    . rw[z27 h,z32 (p:=0<=x) (by omega)];rfl
    . rw[z32 h,z27 (p:=0<=x) (by omega)];rfl
   have e2:decide (x<=zkr t []+1)=!decide (t+1<x):=by
    show decide (x<=t+1)=_;rcases Decidable.em (t+1<x) with h|h
    . rw[z27 h,z32 (p:=x<=t+1) (by omega)];rfl
    . rw[z32 h,z27 (p:=x<=t+1) (by omega)];rfl
   rw[e,e0,e1,e2];cases decide (x<0)<;>cases decide (t+1<x)<;>rfl
 | y::l,t,x=>by
   have ih:=zop l (if y > t then y else t) x;have e:zkr t (y::l)=zkr (if y > t then y else t) l:=rfl;rw[List.cons_append,z71,z71,ih,e];cases decide (y<0)<;>cases decide (t+1<y)<;>rfl
theorem zri:∀ (l:List Int) (t:Int),t<=zkr t l
 | [],t=>Int.le_refl _
 | x::l,t=>by
   have:=zri l (if x > t then x else t);show t<=zkr (if x > t then x else t) l;split at this<;>split<;>omega
theorem zvp:∀ (l:List Int) (t:Int),z71 t l=true->zkr t l<=t+l.length
 | [],t,_=>by show t<=_;omega
 | x :: l,t,h=>by
   have e:zkr t (x::l)=zkr (if x > t then x else t) l:=rfl;rw[z71] at h;cases h1:decide (x<0)
   . cases h2:decide (t+1<x)
     . rw[h1,h2] at h;have ih:=zvp l _ h;have h3:=of_decide_eq_false h2;rw[e,List.length_cons];split at ih<;>split<;>omega
     . rw[h1,h2] at h;exact absurd h Bool.false_ne_true
   . rw[h1] at h;exact absurd h Bool.false_ne_true
theorem zxj (x:Int)(l:List Int):z71 (-1) (x::l)=cond (x != 0) false (z71 0 (x::l)):=by
 rw[z71,z71];by_cases h:x=0
 . subst h;rfl
 . have h1:(x != 0)=true:=bne_iff_ne.2 h;rw[h1];by_cases h2:x<0
   . rw[z27 h2];rfl
   . rw[z32 h2,z27 (p:=(-1:Int)+1<x) (by omega)];rfl
theorem zv5 (f:Nat->Nat->Bool):∀ n,z71 (-1) (zb7 f n).1=true/\zkr (-1) (zb7 f n).1=((zb7 f n).2:Int) - 1
 | 0=>⟨rfl,rfl⟩
 | n + 1=>by
   obtain⟨h1,h2⟩:=zv5 f n;rw[zb7];cases hc:z57 f (zb7 f n).1 n 0 n with
   | none =>
     simp only;rw[zop,z12w,h1,h2];refine⟨?_,?_⟩
     . rw[z27 (by omega),z27 (by omega)];rfl
     . rw[if_pos (by omega)];omega
   | some c =>
     simp only;obtain⟨k,_,h3,_,h5⟩:=zie n 0 hc;have:=z10r f n k (by omega);rw[zop,z12w,h1,h2];refine⟨?_,?_⟩
     . rw[z27 (by omega),z27 (by omega)];rfl
     . rw[if_neg (by omega)]
theorem znx {α β:Type}{g:α->α->Bool}(hg:∀ x y,g x y=true ↔ x=y)(k:α)(v:β):∀ l,z5g g k (ztz g k v l)=some v
 | []=>by simp[ztz,z5g,(hg k k).2 rfl]
 | x::l=>by
   rw[ztz];cases h:g k x.1
   . simp only[z5g,h,znx hg k v l]
   . simp only[z5g,(hg k k).2 rfl]
theorem zm3 {α β:Type} {g:α->α->Bool} (hg:∀ x y,g x y=true ↔ x=y) {k y:α} (h:k≠y) (v:β):∀ l,z5g g y (ztz g k v l)=z5g g y l
 | []=>by
   have:g y k=false:=by
    cases e:g y k
    . rfl
    . exact absurd ((hg y k).1 e).symm h
   simp[ztz,z5g,this]
 | x :: l=>by
   rw[ztz];cases e:g k x.1
   . simp only[z5g,zm3 hg h v l]
   . have e1:=(hg k x.1).1 e;have:g y x.1=false:=by
      cases e2:g y x.1
      . rfl
      . exact absurd (e1.trans ((hg y x.1).1 e2).symm) h
     have e3:g y k=false:=by rw[e1];exact this
     simp only[z5g,this,e3]
theorem zss {α β:Type}{g:α->α->Bool}(k:α)(v:β):∀ l,z5g g k l=none->(ztz g k v l).length=l.length+1
 | [],_=>rfl
 | x :: l,h=>by
   rw[ztz];rw[z5g] at h;cases e:g k x.1
   . rw[e] at h;simp only at h ⊢;rw[List.length_cons,List.length_cons,zss k v l h]
   . rw[e] at h;exact absurd h (by simp)
theorem zmx (f:Nat->Nat->Bool)(out:List Int)(i:Nat):∀ n j,z57 f out i j (n+1)=(z57 f out i j n).orElse (fun _=>cond (f (j+n) i) (some (out.getD (j+n) 0)) none)
 | 0,j=>by simp[z57]
 | n+1,j=>by
   have ih:=zmx f out i n (j+1);rw[z57,ih,z57];have e:j+1+n=j+(n+1):=by omega
   rw[e];cases f j i<;>rfl
theorem zpb (f:Nat->Nat->Bool)(out:List Int)(x:Int)(i:Nat):∀ n j,j+n<=out.length->z57 f (out++[x]) i j n=z57 f out i j n
 | 0,_,_=>rfl
 | n+1,j,h=>by rw[z57,z57,zpb f out x i n (j+1) (by omega),zmw _ _ _ (by omega)]
def z14n {α:Type}(g:α->α->Bool)(key:Nat->α)(cl:List (α×Int))(n:Nat):Prop :=
 cl.length=(zb7 (fun k i=>g (key k) (key i)) n).2 ∧
 ∀ i,z5g g (key i) cl=z57 (fun k i=>g (key k) (key i)) (zb7 (fun k i=>g (key k) (key i)) n).1 i 0 n
theorem z14m {α:Type}(g:α->α->Bool)(key:Nat->α):z14n g key [] 0:=⟨rfl,fun _=>rfl⟩
theorem z170 {α:Type}{g:α->α->Bool}(hg:∀ x y,g x y=true ↔ x=y){key:Nat->α}{cl:List (α×Int)}{n:Nat}(h:z14n g key cl n){c:Int}(hc:z5g g (key n) cl=some c) :
 z14n g key cl (n+1)/\(zb7 (fun k i=>g (key k) (key i)) (n+1)).1=(zb7 (fun k i=>g (key k) (key i)) n).1++[c]:=by
 have hl:=zl1 (fun k i=>g (key k) (key i)) n;have e:=h.2 n;rw[hc] at e;have e2:zb7 (fun k i=>g (key k) (key i)) (n+1)=((zb7 (fun k i=>g (key k) (key i)) n).1++[c],(zb7 (fun k i=>g (key k) (key i)) n).2):=by
  rw[zb7,<- e]
 refine⟨⟨by rw[e2];exact h.1,fun i=>?_⟩,by rw[e2]⟩;rw[e2,zmx,zpb _ _ _ _ _ _ (by omega),<- h.2 i,Nat.zero_add,zid _ _ _ (by omega)];cases hh:g (key n) (key i)
 . cases z5g g (key i) cl<;>rfl
 . rw[<- (hg _ _).1 hh,hc];rfl
theorem z171 {α:Type}{g:α->α->Bool}(hg:∀ x y,g x y=true ↔ x=y){key:Nat->α}{cl:List (α×Int)}{n:Nat}(h:z14n g key cl n)(hc:z5g g (key n) cl=none) :
 z14n g key (ztz g (key n) (cl.length:Int) cl) (n+1)/\(zb7 (fun k i=>g (key k) (key i)) (n+1)).1=(zb7 (fun k i=>g (key k) (key i)) n).1++[(cl.length:Int)]:=by
 have hl:=zl1 (fun k i=>g (key k) (key i)) n;have e:=h.2 n;rw[hc] at e;have e2:zb7 (fun k i=>g (key k) (key i)) (n+1)=((zb7 (fun k i=>g (key k) (key i)) n).1++[(cl.length:Int)],(zb7 (fun k i=>g (key k) (key i)) n).2+1):=by
  rw[zb7,<- e,h.1]
 refine⟨⟨by rw[e2,zss _ _ _ hc,h.1],fun i=>?_⟩,by rw[e2]⟩;rw[e2,zmx,zpb _ _ _ _ _ _ (by omega),<- h.2 i,Nat.zero_add,zid _ _ _ (by omega)];cases hh:g (key n) (key i)
 . rw[zm3 hg (fun e=>by rw[(hg _ _).2 e] at hh;exact absurd hh (by decide))];cases z5g g (key i) cl<;>rfl
 . rw[<- (hg _ _).1 hh,znx hg,hc];rfl
end
end Go.Proofs.YtgbcebmahbieoaaDoorPx
set_option linter.all false
set_option maxRecDepth 100000
namespace Go.Proofs.YtgbcebmahbieoaaDoorLg
noncomputable section
open Go Go.Lift Go.Proofs.YtgbcebmahbieoaaDoorPx
theorem z13z {α:Type}(l:List α)(x d:α)(i j:Nat)(hi:i<l.length):(l.set i x).getD j d=if j=i then x else l.getD j d:=by
 simp only[List.getD_eq_getElem?_getD,List.getElem?_set];by_cases h:j=i
 . subst h;rw[if_pos rfl,if_pos rfl,if_pos hi];rfl
 . rw[if_neg (fun e=>h e.symm),if_neg h]
theorem z1h1 (N:Nat) (keys:List (List Int)) (hl:keys.length<=1000000) (hN:keys.length<N) :
 z43 N keys=some (zb7 (fun k i=>eqD (T.arr 5 (T.int Go.IntKind.u64)) (keys.getD k []) (keys.getD i [])) keys.length).1:=by
 let n:=keys.length
 let f:Nat->Nat->Bool:=fun k i=>eqD (T.arr 5 (T.int Go.IntKind.u64)) (keys.getD k []) (keys.getD i [])
 have hg:∀ x y,eqD (T.arr 5 (T.int Go.IntKind.u64)) x y=true ↔ x=y:=fun x y=>zpe (T.arr 5 (T.int Go.IntKind.u64)) x y rfl
 rw[z43,zw (decide_eq_true ⟨by omega,by omega,by omega,by omega⟩),zhj];exact zd5 (step:=fun (v:((Option (List ((List Int)×Int)))×(List Int)×Int)) r=>z85 N keys (keys.length:Int) v.1 v.2.1 v.2.2 (fun classes b x15=>(r (classes,b,x15))) (fun b=>some b))
  (I:=fun v=>0<=v.2.2/\v.2.2<=keys.length/\v.2.1.length=keys.length/\v.2.1.take v.2.2.toNat=(zb7 f v.2.2.toNat).1/\∃ cl,v.1=some cl/\z14n (eqD (T.arr 5 (T.int Go.IntKind.u64))) (fun k=>keys.getD k []) cl v.2.2.toNat)
  (m:=fun v=>keys.length - v.2.2.toNat) (R:=fun _=>some (zb7 f keys.length).1)
  (by
   rintro⟨cls,b,i⟩ r ⟨h0,h1,hb,ht,cl,hcl,htl⟩ hr;obtain⟨i,rfl⟩:=Int.eq_ofNat_of_zero_le h0;simp only[Int.toNat_natCast] at h1 hb ht hcl htl ⊢;subst hcl;rw[z85];by_cases hi:i<keys.length
   . have wi:=z1a (i:=i) (by omega);have hlen:=htl.1;have hmany:=zsx (fun k i=>eqD (T.arr 5 (T.int Go.IntKind.u64)) (keys.getD k []) (keys.getD i [])) i;rw[zw (decide_eq_true (by omega)),zw (z19 hi),zc7,wi];simp only[Int.toNat_natCast,Option.getD_some];cases hc:z5g (eqD (T.arr 5 (T.int Go.IntKind.u64))) (keys.getD i []) cl with
     | none =>
       obtain⟨t1,t2⟩:=z171 hg htl hc;simp only[Option.isSome_none,Option.isSome_some,Bool.not_false,cond_true];rw[zw (z19 (by omega)),zw (decide_eq_true (by omega)),hr _ ⟨by simp only;omega,by simp only;omega,by simp only[List.length_set];exact hb,by
        simp only[Int.toNat_natCast];rw[zn9 b _ i (by omega),ht];exact t2.symm,_,rfl,t1⟩ (by simp only[Int.toNat_natCast];omega)]
     | some c =>
       obtain⟨t1,t2⟩:=z170 hg htl hc;simp only[Option.isSome_some,Bool.not_true,cond_false,Option.getD_some];rw[zw (z19 (by omega)),zw (decide_eq_true (by omega)),hr _ ⟨by simp only;omega,by simp only;omega,by simp only[List.length_set];exact hb,by
        simp only[Int.toNat_natCast];rw[zn9 b _ i (by omega),ht];exact t2.symm,_,rfl,t1⟩ (by simp only[Int.toNat_natCast];omega)]
   . have e:i=keys.length:=by omega
     subst e;rw[z2c (decide_eq_false (by omega)),<- ht,List.take_of_length_le (by omega)]) N _ ⟨by simp only;omega,by simp only;omega,by simp only[List.length_replicate];omega,rfl,[],rfl,z14m _ _⟩ (by simp only[Int.toNat_zero];omega)
def z4v (sets:List (List Int))(k i:Nat):Bool:=sets.all fun s=>ze1 s k == ze1 s i
def z14c (sets:List (List Int))(i:Nat)(g:Nat->Bool)(T:List (List Int)):Prop :=
 T.length=256/\∀ e,e<256->∃ w,T.getD e []=[0,w,0,0,0]/\U64 w/\∀ j,j<64->bit w j=((decide (j<i) && ze1 (sets.getD j []) e) || (decide (j=i) && g e))
theorem z1b2 (N:Nat) (sets:List (List Int)) (k0:List (List Int)->Option (List Int)) (hN:256<N) :
 ∃ T,z14c sets 0 (fun _=>false) T/\zfj N sets (List.replicate 256 ([(0:Int),(0:Int),(0:Int),(0:Int),(0:Int)]:List Int)) (List.replicate 256 (0:Int)) (((List.length (List.replicate 256 (0:Int))):Nat):Int) (0:Int) k0=k0 T:=by
 rw[zfj];have hlen:List.length (List.replicate 256 (0:Int))=256:=List.length_replicate ..;have hx:∀ i,(List.replicate 256 (0:Int)).getD i 0=0:=fun i=>by
  simp only[List.getD_eq_getElem?_getD,List.getElem?_replicate];split<;>rfl
 rw[hlen];generalize hz:List.replicate 256 (0:Int)=z at *;exact znz (step:=fun (v:((List (List Int))×Int)) r=>zb2 N sets z ((256:Nat):Int) v.1 v.2 (fun traits x15=>(r (traits,x15))) k0)
  (I:=fun v=>0<=v.2/\v.2<=256/\z14c sets 0 (fun _=>false) v.1) (m:=fun v=>256 - v.2.toNat) (p:=fun o=>∃ T,z14c sets 0 (fun _=>false) T/\o=k0 T)
  (by
   rintro⟨T,i⟩ r ⟨h0,h1,hT⟩ hr;obtain⟨i,rfl⟩:=Int.eq_ofNat_of_zero_le h0;simp only at h1 hT ⊢;rw[zb2];by_cases hi:i<256
   . have wi:=z1a (i:=i) (by omega);obtain⟨w,hw,hu,hb⟩:=hT.2 i hi;have hd:z1v (decide (i<T.length)) (decide (0<(T.getD i []).length))=true:=by
      rw[hw,hT.1,decide_eq_true hi];rfl
     rw[zw (decide_eq_true (by omega)),zw (z19 (by rw[hlen];exact hi)),zw (z19 (by rw[hT.1];exact hi)),wi];simp only[Int.toNat_natCast];rw[zw hd];refine hr _ ⟨by simp only;omega,by simp only;omega,?_⟩ (by simp only[Int.toNat_natCast];omega);refine⟨by simp only[List.length_set];exact hT.1,fun e he=>?_⟩;rw[z13z _ _ _ _ _ (by rw[hT.1];exact hi)];by_cases hei:e=i
     . rw[if_pos hei,hw,hx];subst hei;exact⟨w,rfl,hu,hb⟩
     . rw[if_neg hei];exact hT.2 e he
   . rw[z2c (decide_eq_false (by omega))];exact⟨T,hT,rfl⟩) N _ ⟨by simp only;omega,by simp only;omega,by
   refine⟨List.length_replicate ..,fun e he=>⟨0,?_,by decide,fun j _=>?_⟩⟩
   . simp only[List.getD_eq_getElem?_getD,List.getElem?_replicate,if_pos he];rfl
   . rw[show (decide (j<0))=false from rfl,Bool.and_false];simp[bit]⟩ (by simp only[Int.toNat_zero];omega)
theorem z155 (s:List UInt8)(i:Nat)(h:i<s.length):(zh6 s).getD i 0=((s.getD i 0).toNat:Int):=by
 simp[zh6,List.getD_eq_getElem?_getD,List.getElem?_map,List.getElem?_eq_getElem h]
theorem z1cb (l:List UInt8)(p:Nat)(h:p<l.length)(e:Nat):inS (l.take (p+1)) e=(inS (l.take p) e || decide ((l.getD p 0).toNat=e)):=by
 rw[take_succ l 0 p h];simp[inS,List.any_append];rfl
theorem z1np (N:Nat) (sets:List (List Int)) {i:Nat} (hi:i<sets.length) (hi':i<64) (hs:SetOk (sets.getD i [])) (x27:List (List Int)) (x28 x29:Int) (k0:List (List Int)->Option (List Int)) (hN:257<N)
 {T0:List (List Int)} (hT0:z14c sets i (fun _=>false) T0) :
 ∃ T,z14c sets (i+1) (fun _=>false) T/\zfi N T0 (i:Int) x27 x28 x29 (zh6 (zrj (sets.getD i []))) (((List.length (zh6 (zrj (sets.getD i [])))):Nat):Int) (0:Int) k0=k0 T:=by
 rw[zfi];have hlen:=zxw (zrj (sets.getD i []));have htl:=z1b4 (sets.getD i []);have hc:=z111 (sets.getD i []);have hgo:=z155 (zrj (sets.getD i []));have hin:=@z1gd (sets.getD i []);have hfin:∀ T,z14c sets i (inS (zrj (sets.getD i []))) T->z14c sets (i+1) (fun _=>false) T:=by
  rintro T ⟨h1,h2⟩;refine⟨h1,fun e he=>?_⟩;obtain⟨w,hw,hu,hb⟩:=h2 e he;refine⟨w,hw,hu,fun j hj=>?_⟩;rw[hb j hj,hin he,Bool.and_false,Bool.or_false];by_cases hji:j=i
  . subst hji;rw[z32 (p:=j<j) (by omega),z27 (p:=j=j) rfl,z27 (p:=j<j+1) (by omega)];rfl
  . rw[z32 (p:=j=i) hji];by_cases hlt:j<i
    . rw[z27 hlt,z27 (p:=j<i+1) (by omega),Bool.false_and,Bool.or_false]
    . rw[z32 hlt,z32 (p:=j<i+1) (by omega)];rfl
 rw[hlen];generalize htx:zrj (sets.getD i [])=tx at *;have h64:Go.IntKind.wrap .i64 (1+Go.IntKind.wrap .i64 (Int.tdiv (i:Int) 64))=1:=by
  have e:Int.tdiv (i:Int) 64=0:=by rw[Int.tdiv_eq_ediv_of_nonneg (by omega)];omega
  rw[e];decide
 have hmod:Int.tmod (i:Int) 64=(i:Int):=by rw[Int.tmod_eq_emod_of_nonneg (by omega)];omega
 exact znz (step:=fun (v:((List (List Int))×Int)) r=>zb0 N (i:Int) x27 x28 x29 (zh6 tx) ((tx.length:Nat):Int) v.1 v.2 (fun traits x38=>(r (traits,x38))) k0)
  (I:=fun v=>0<=v.2/\v.2<=tx.length/\z14c sets i (inS (tx.take v.2.toNat)) v.1) (m:=fun v=>tx.length - v.2.toNat) (p:=fun o=>∃ T,z14c sets (i+1) (fun _=>false) T/\o=k0 T)
  (by
   rintro⟨T,q⟩ r ⟨h0,h1,hT⟩ hr;obtain⟨q,rfl⟩:=Int.eq_ofNat_of_zero_le h0;simp only[Int.toNat_natCast] at h1 hT ⊢;rw[zb0];by_cases hq:q<tx.length
   . have wi:=z1a (i:=q) (by omega);have hg:=hgo q hq;have hu8:=u8_lt (tx.getD q 0);have hst:=fun e=>z1cb tx q hq e
     generalize (tx.getD q 0).toNat=u at *;obtain⟨w,hw,hu,hb⟩:=hT.2 u hu8;have hd:z1v (decide (u<T.length)) (decide (1<(T.getD u []).length))=true:=by
      rw[hw,hT.1,decide_eq_true hu8];rfl
     rw[zw (decide_eq_true (by omega)),wi];have h1n:Int.toNat 1=1:=rfl;simp only[Int.toNat_natCast,hg,h64,hmod,h1n];have hTl:=hT.1;rw[zw (z19 (by omega)),zw (decide_eq_true (by omega)),zw (z19 (by omega)),zw (by decide),zw hd,zw (decide_eq_true (by omega)),zw (z19 (by omega)),zw (by decide),zw hd];refine hr _ ⟨by simp only;omega,by simp only;omega,?_⟩ (by simp only[Int.toNat_natCast];omega);simp only[Int.toNat_natCast];refine⟨by simp only[List.length_set];exact hT.1,fun e he=>?_⟩;rw[z13z _ _ _ _ _ (by rw[hT.1];exact hu8)];by_cases heu:e=u
     . rw[if_pos heu,hw];subst heu;refine⟨ze .or .u64 w (z17a .u64 1 (i:Int)),rfl,Go.Proofs.YtgbcebmahbieoaaDoorPx.u64_or hu (by rw[shl1 hi'];exact Go.Proofs.YtgbcebmahbieoaaDoorPx.u64_pow hi'),fun j hj=>?_⟩;rw[z1kp hu hi',hb j hj,hst e,z27 (p:=e=e) rfl,Bool.or_true,Bool.and_true];by_cases hji:j=i
       . subst hji;rw[z27 (p:=j=j) rfl,Bool.or_true,Bool.or_true]
       . rw[z32 (p:=j=i) hji,z32 (p:=i=j) (fun h=>hji h.symm),Bool.or_false,Bool.false_and]
     . rw[if_neg heu];obtain⟨w',hw',hu',hb'⟩:=hT.2 e he;refine⟨w',hw',hu',fun j hj=>?_⟩;rw[hb' j hj,hst e,z32 (p:=u=e) (fun h=>heu h.symm),Bool.or_false]
   . rw[z2c (decide_eq_false (by omega))];have e:tx.take q=tx:=List.take_of_length_le (by omega);rw[e] at hT;exact⟨T,hfin T hT,rfl⟩) N _ ⟨by simp only;omega,by simp only;omega,by
   refine⟨hT0.1,fun e he=>?_⟩;obtain⟨w,hw,hu,hb⟩:=hT0.2 e he;exact⟨w,hw,hu,hb⟩⟩ (by simp only[Int.toNat_zero];omega)
theorem z1nq (k:Nat) (sets:List (List Int)) (hl:sets.length<=64) (hs:∀ s∈sets,SetOk s) (k0:List (List Int)->Option (List Int)) {T0:List (List Int)} (hT0:z14c sets 0 (fun _=>false) T0) :
 ∃ T,z14c sets sets.length (fun _=>false) T/\zb3 (k+300) T0 sets (((List.length sets):Nat):Int) (0:Int) k0=k0 T:=by
 rw[zb3];exact znz (step:=fun (v:((List (List Int))×Int)) r=>zb1 (k+300) sets (((List.length sets):Nat):Int) v.1 v.2 (fun traits x29=>(r (traits,x29))) k0)
  (I:=fun v=>0<=v.2/\v.2<=sets.length/\z14c sets v.2.toNat (fun _=>false) v.1) (m:=fun v=>sets.length - v.2.toNat) (p:=fun o=>∃ T,z14c sets sets.length (fun _=>false) T/\o=k0 T)
  (by
   rintro⟨T,i⟩ r ⟨h0,h1,hT⟩ hr;obtain⟨i,rfl⟩:=Int.eq_ofNat_of_zero_le h0;simp only[Int.toNat_natCast] at h1 hT ⊢;rw[zb1];by_cases hi:i<sets.length
   . have wi:=z1a (i:=i) (by omega);have hsi:=hs _ (zwn sets [] i hi);have ht:=z1ge (k+295) hsi (by omega);rw[zw (decide_eq_true (by omega)),zw (z19 hi)];simp only[Int.toNat_natCast];rw[ht,Option.bind_some,wi];obtain⟨T1,hT1,e1⟩:=z1np (k+300) sets hi (by omega) hsi sets (((List.length sets):Nat):Int) (i:Int) (fun traits1=>r (traits1,((i+1:Nat):Int))) (by omega) hT;rw[e1];exact hr _ ⟨by simp only;omega,by simp only;omega,hT1⟩ (by simp only[Int.toNat_natCast];omega)
   . have e:i=sets.length:=by omega
     subst e;rw[z2c (decide_eq_false (by omega))];exact⟨T,hT,rfl⟩) (k+300) _ ⟨by simp only;omega,by simp only;omega,hT0⟩ (by simp only[Int.toNat_zero];omega)
theorem z1kv (sets:List (List Int))(k i:Nat):z4v sets k i=true ↔ ∀ j,j<sets.length->ze1 (sets.getD j []) k=ze1 (sets.getD j []) i:=by
 rw[z4v,List.all_eq_true];constructor
 . intro h j hj;exact eq_of_beq (h _ (zwn sets [] j hj))
 . intro h s hs;obtain⟨j,hj,rfl⟩:=List.getElem_of_mem hs;have:=h j hj;rw[List.getD_eq_getElem?_getD,List.getElem?_eq_getElem hj] at this;exact beq_iff_eq.2 this
theorem z1b3 {sets T:List (List Int)}(hl:sets.length<=64)(hT:z14c sets sets.length (fun _=>false) T){k i:Nat}(hk:k<256)(hi:i<256) :
 eqD (Go.Lift.T.arr 5 (Go.Lift.T.int Go.IntKind.u64)) (T.getD k []) (T.getD i [])=z4v sets k i:=by
 obtain⟨w,hw,hu,hb⟩:=hT.2 k hk;obtain⟨x,hx,hv,hc⟩:=hT.2 i hi;rw[Bool.eq_iff_iff,zpe _ _ _ rfl,z1kv,hw,hx];have hb':∀ j,j<64->bit w j=(decide (j<sets.length) && ze1 (sets.getD j []) k):=fun j hj=>by rw[hb j hj,Bool.and_false,Bool.or_false]
 have hc':∀ j,j<64->bit x j=(decide (j<sets.length) && ze1 (sets.getD j []) i):=fun j hj=>by rw[hc j hj,Bool.and_false,Bool.or_false]
 constructor
 . intro e j hj;have e1:w=x:=by injection e with _ e;injection e
   have h1:=hb' j (by omega);have h2:=hc' j (by omega);rw[z27 hj,Bool.true_and] at h1 h2;rw[<- h1,<- h2,e1]
 . intro h;have e:w=x:=z1ar hu hv (fun j hj=>by
    rw[hb' j hj,hc' j hj];by_cases hlt:j<sets.length
    . rw[h j hlt]
    . rw[z32 hlt];rfl)
   rw[e]
def ofB (sets:List (List Int)):List Int:=(zb7 (z4v sets) 256).1
theorem z1b8 (k:Nat)(sets:List (List Int))(hl:sets.length<=64)(hs:∀ s∈sets,SetOk s):zcz (k+300) (List.replicate 256 (0:Int)) sets=some (ofB sets):=by
 rw[zcz];obtain⟨T0,hT0,e0⟩:=z1b2 (k+300) sets (fun traits=>zb3 (k+300) traits sets (((List.length sets):Nat):Int) (0:Int)
  (fun traits1=>(z43 (k+300) traits1).bind fun y=>some y)) (by omega)
 rw[e0];obtain⟨T1,hT1,e1⟩:=z1nq k sets hl hs (fun traits1=>(z43 (k+300) traits1).bind fun y=>some y) hT0;rw[e1];show ((z43 (k+300) T1).bind fun y=>some y)=_;rw[z1h1 (k+300) T1 (by rw[hT1.1];omega) (by rw[hT1.1];omega),Option.bind_some,hT1.1,ofB];rw[zv6 256 (fun a b h1 h2=>z1b3 hl hT1 (by omega) h2)]
theorem z1co (N:Nat)(l:List (List Int))(hl:l.length<=64)(hN:1<N):zab N l 256=some (match l with|[]=>[]|l=>[(l,())]):=by
 obtain⟨N,rfl⟩:∃ M,N=M+2:=⟨N - 2,by omega⟩
 rw[zab,zix,iter,z6h];cases l with
 | nil=>rfl
 | cons s l =>
   generalize hll:s::l=m at *;have hm:0<m.length:=by rw[<- hll];simp
   have hne:m≠[]:=by rw[<- hll];simp
   have hcut:cut m (Int.toNat 0) m.length=m:=by simp[cut]
   have hmin:(if ((m.length:Nat):Int)<256 then ((m.length:Nat):Int) else 256)=(m.length:Int):=by rw[if_pos (by omega)]
   have hw:Go.IntKind.wrap .i64 (0+(m.length:Int))=(m.length:Int):=by rw[z4w (by unfold I64;omega)];omega
   rw[hcut,hmin,hw];have hn:((m.length:Nat):Int).toNat=m.length:=Int.toNat_natCast _;rw[hn,hcut,zw (decide_eq_true (by omega)),zw (decide_eq_true (by omega)),zw (decide_eq_true (by omega)),zw (decide_eq_true (by omega)),zw (decide_eq_true (by omega))];have hit:iter (fun (v:Int) r=>z6h (N+2) m 256 v (fun i=>(r i)) (some []) (some [])) (N+1) (Go.IntKind.wrap .i64 (0+256))=some []:=by
    rw[iter,z6h,show Go.IntKind.wrap .i64 (0+256)=256 from by decide,z2c (decide_eq_false (by omega))]
   rw[hit];cases m with
   | nil=>exact absurd rfl hne
   | cons a b=>rfl
theorem z1sp (k:Nat):ofB []=List.replicate 256 (0:Int):=by kernel_rfl
theorem Of_eq (k:Nat)(l:List (List Int))(hl:l.length<=64)(hs:∀ s∈l,SetOk s):zb5 (k+300) l=some (ofB l):=by
 rw[zb5,zqk,zc9];simp only;rw[z1co _ l hl (by omega),Option.bind_some];cases l with
 | nil=>rw[z1sp k];rfl
 | cons s l =>
   simp only[z10j,zki];rw[z1b8 k _ hl hs];rfl
end
end Go.Proofs.YtgbcebmahbieoaaDoorLg
set_option linter.all false
set_option maxRecDepth 100000
namespace Go.Proofs.YtgbcebmahbieoaaDoorLg
noncomputable section
open Go Go.Lift Go.Proofs.YtgbcebmahbieoaaDoorPx
def z86 (a:List Int):Bool:=decide (a.length=256) && z71 (-1) a
theorem z126 {n m:Nat}:(((n:Nat):Int) != (m:Int))=!decide (n=m):=by
 by_cases h:n=m
 . rw[z27 h,h];simp
 . rw[z32 h];exact bne_iff_ne.2 (by omega)
theorem z13e (N:Nat) (a:List Int) (hN:257<N):z7p N a=some (z86 a):=by
 rw[z7p,zfn,zfm,show ((256:Int))=((256:Nat):Int) from rfl,z126,z86];by_cases hl:a.length=256
 . have hx := z4q a 0 0 (by omega);rw[List.drop_zero] at hx;rw[z27 hl,Bool.not_true,z2c rfl,zw (z1e5 (by omega) (by omega)),Bool.true_and];rw[hx,zxj,<- hx];by_cases h0:(a.getD 0 0 != 0)=true
   . rw[h0];rfl
   . have h0 : (a.getD 0 0 != 0)=false:=by simpa using h0
     rw[h0,z2c rfl,z2c rfl,zkh];have h := zd5 (step:=fun (v:(Int×Int)) r=>zb4 N a (((List.length a):Nat):Int) v.1 v.2 (fun most x17=>(r (most,x17))) (fun x21=>some x21) (some true))
      (I:=fun v=>0<=v.2/\v.2<=256/\0<=v.1/\v.1<=v.2) (m:=fun v=>256 - v.2.toNat) (R:=fun v=>some (z71 v.1 (a.drop v.2.toNat)))
      (by
       rintro⟨t,i⟩ r ⟨h0,h1,h2,h3⟩ hr;obtain⟨i,rfl⟩:=Int.eq_ofNat_of_zero_le h0;simp only[Int.toNat_natCast] at h1 h2 h3 ⊢;rw[zb4];by_cases hi:i<256
       . have wi:=z1a (i:=i) (by omega);have wt:Go.IntKind.wrap .i64 (t+1)=t+1:=z4w (by unfold I64;omega);rw[zw (decide_eq_true (by omega)),zw (z19 (by omega)),zfl,zfk,wi,wt,z4q a 0 i (by omega)];simp only[Int.toNat_natCast];rw[z71];by_cases h4:a.getD i 0<0
         . rw[zw (z27 h4),zw (z27 h4)];rfl
         . rw[z2c (z32 h4),z2c (z32 h4)];by_cases h5:t+1<a.getD i 0
           . rw[z27 h5];rfl
           . rw[z32 h5,z2c rfl,z2c rfl,hr _ ⟨by simp only;omega,by simp only;omega,by simp only;split<;>omega,by simp only;split<;>omega⟩ (by simp only[Int.toNat_natCast];omega)];rfl
       . have e:i=256:=by omega
         subst e;rw[z2c (decide_eq_false (by omega)),List.drop_of_length_le (by omega)];rfl) N ((0:Int),(0:Int)) ⟨by simp only;omega,by simp only;omega,by simp only;omega,by simp only;omega⟩ (by simp only[Int.toNat_zero];omega)
     rw[h];rfl
 . rw[z32 hl];rfl
theorem zzy (N:Nat) (a:List Int) (hN:257<N):z5v N a=some (z86 a):=by
 rw[z5v,show ((256:Int))=((256:Nat):Int) from rfl,z126,z86];by_cases hl:a.length=256
 . rw[z27 hl, Bool.not_true,z2c rfl,Bool.true_and,zdw];have h := zd5 (step:=fun (v:(Int×Int)) r=>z5r N a v.1 v.2 (fun top i=>(r (top,i))) (fun x2=>some x2) (some true))
    (I:=fun v=>0<=v.2/\v.2<=256 /\ -1<=v.1/\v.1<=v.2) (m:=fun v=>256 - v.2.toNat) (R:=fun v=>some (z71 v.1 (a.drop v.2.toNat)))
    (by
     rintro⟨t,i⟩ r ⟨h0,h1,h2,h3⟩ hr;obtain⟨i,rfl⟩:=Int.eq_ofNat_of_zero_le h0;simp only[Int.toNat_natCast] at h1 h2 h3 ⊢;rw[z5r];by_cases hi:i<256
     . have wi:=z1a (i:=i) (by omega);have wt:Go.IntKind.wrap .i64 (t+1)=t+1:=z4w (by unfold I64;omega);rw[zw (decide_eq_true (by omega)),z8k,z8j,z8i,zw (z19 (by omega)),zw (z19 (by omega)),zw (z19 (by omega)),zw (z19 (by omega)),wi,wt,z4q a 0 i (by omega)];simp only[Int.toNat_natCast];rw[z71];by_cases h4:a.getD i 0<0
       . rw[zw (z27 h4),zw (z27 h4)];rfl
       . rw[z2c (z32 h4),z2c (z32 h4)];by_cases h5:t+1<a.getD i 0
         . rw[z27 h5];rfl
         . rw[z32 h5,z2c rfl,z2c rfl];by_cases hx:t<a.getD i 0
           . rw[zw (decide_eq_true hx),hr _ ⟨by simp only;omega,by simp only;omega,by simp only;omega,by simp only;omega⟩ (by simp only[Int.toNat_natCast];omega),if_pos hx];rfl
           . rw[z2c (decide_eq_false hx),hr _ ⟨by simp only;omega,by simp only;omega,by simp only;omega,by simp only;omega⟩ (by simp only[Int.toNat_natCast];omega),if_neg hx];rfl
     . have e:i=256:=by omega
       subst e;rw[z2c (decide_eq_false (by omega)),List.drop_of_length_le (by omega)];rfl) N ((-1:Int),(0:Int)) ⟨by simp only;omega,by simp only;omega,by simp only;omega,by simp only;omega⟩ (by simp only[Int.toNat_zero];omega)
   exact h
 . rw[z32 hl];rfl
def z2b (a:List Int):Int:=cond (z86 a) (zkr (-1) a+1) 0
theorem z1su (N:Nat) (a:List Int) (hl:a.length=256) (hN:257<N):z53 N a=some (zkr (a.getD 0 0) (a.drop 1)):=by
 rw[z53,z7b,z2c (decide_eq_false (by omega)),zw (z1e5 (by omega) (by omega)),zch];exact zd5 (step:=fun (v:(Int×Int)) r=>z52 N a v.1 v.2 (fun m i=>(r (m,i))) (fun m=>some m))
  (I:=fun v=>0<=v.2/\v.2<=256) (m:=fun v=>256 - v.2.toNat) (R:=fun v=>some (zkr v.1 (a.drop v.2.toNat)))
  (by
   rintro⟨t,i⟩ r ⟨h0,h1⟩ hr;obtain⟨i,rfl⟩:=Int.eq_ofNat_of_zero_le h0;simp only[Int.toNat_natCast] at h1 ⊢;rw[z52];by_cases hi:i<256
   . have wi:=z1a (i:=i) (by omega);rw[zw (decide_eq_true (by omega)),zw (z19 (by omega)),wi,hr _ ⟨by simp only;omega,by simp only;omega⟩ (by simp only[Int.toNat_natCast];omega),z4q a 0 i (by omega)];rfl
   . have e:i=256:=by omega
     subst e;rw[z2c (decide_eq_false (by omega)),List.drop_of_length_le (by omega)];rfl) N (a.getD 0 0,(1:Int)) ⟨by simp only;omega,by simp only;omega⟩ (by show 256 - 1<N;omega)
theorem zbq {a:List Int}(h:z86 a=true):a.length=256/\a.getD 0 0=0/\z71 (-1) a=true:=by
 rw[z86,Bool.and_eq_true,decide_eq_true_eq] at h;obtain⟨hl,hr⟩:=h;refine⟨hl,?_,hr⟩;have hx:=z4q a 0 0 (by omega);rw[List.drop_zero] at hx;rw[hx,zxj] at hr;by_cases h0:(a.getD 0 0 != 0)=true
 . rw[h0] at hr;exact absurd hr Bool.false_ne_true
 . simpa using h0
theorem z16z {a:List Int}(h:z86 a=true):zkr (a.getD 0 0) (a.drop 1)=zkr (-1) a:=by
 obtain⟨hl,h0,hr⟩:=zbq h;have hx:=z4q a 0 0 (by omega);rw[List.drop_zero] at hx;have e:zkr (-1) a=zkr (-1) (a.getD 0 0::a.drop (0+1)):=by rw[<- hx]
 rw[e,h0];rfl
theorem z15r (N:Nat)(a:List Int)(hN:257<N):z44 N a=some (z2b a):=by
 rw[z44,z13e N a hN,Option.bind_some,z2b];cases h:z86 a
 . rfl
 . obtain⟨hl,h0,hr⟩:=zbq h;have h1:=zvp a (-1) hr;have h2:=zri a (-1);rw[Bool.not_true,z2c rfl,z1su N a hl hN,z16z h,Option.bind_some,z4w (by unfold I64;omega)];rfl
theorem z19d (N:Nat) (a:List Int) (hl:a.length<=300) (hN:301<N):z5w N a=some (z2b a):=by
 rw[z5w,z8n,zdx];have h := zd5 (step:=fun (v:(Int×Int)) r=>z5s N a v.1 v.2 (fun top i=>(r (top,i))) (fun top1=>some (Go.IntKind.wrap .i64 (top1+1))))
  (I:=fun v=>0<=v.2/\v.2<=300) (m:=fun v=>300 - v.2.toNat) (R:=fun v=>some (Go.IntKind.wrap .i64 ((cond (z86 a) (zkr v.1 (a.drop v.2.toNat)) v.1)+1)))
  (by
   rintro⟨t,i⟩ r ⟨h0,h1⟩ hr;obtain⟨i,rfl⟩:=Int.eq_ofNat_of_zero_le h0;simp only[Int.toNat_natCast] at h1 ⊢;rw[z5s,z8m,zzy N a (by omega),Option.bind_some];by_cases hi:i<a.length
   . have wi:=z1a (i:=i) (by omega);rw[zw (decide_eq_true (by omega))];cases hra:z86 a
     . rfl
     . rw[zw rfl,z8l,zw (z19 hi),zw (z19 hi),wi,z4q a 0 i hi];simp only[Int.toNat_natCast];have e:zkr t (a.getD i 0::a.drop (i+1))=zkr (if a.getD i 0 > t then a.getD i 0 else t) (a.drop (i+1)):=rfl;rw[e];by_cases hx:t<a.getD i 0
       . rw[zw (decide_eq_true hx),hr _ ⟨by simp only;omega,by simp only;omega⟩ (by simp only[Int.toNat_natCast];omega),hra,if_pos hx];rfl
       . rw[z2c (decide_eq_false hx),hr _ ⟨by simp only;omega,by simp only;omega⟩ (by simp only[Int.toNat_natCast];omega),hra,if_neg hx];rfl
   . rw[z2c (decide_eq_false (by omega)),List.drop_of_length_le (by omega)];cases z86 a<;>rfl) N ((-1:Int),(0:Int)) ⟨by simp only;omega,by simp only;omega⟩ (by simp only[Int.toNat_zero];omega)
 show iter _ N ((-1:Int),(0:Int))=_;rw[h,z2b];cases hra:z86 a
 . rfl
 . obtain⟨hl,h0,hr⟩:=zbq hra;have h1:=zvp a (-1) hr;have h2:=zri a (-1);simp only[Int.toNat_zero,List.drop_zero,cond_true];rw[z4w (by unfold I64;omega)]
def z1jw (k:Int):Nat->List Int->Int
 | _,[]=>-1
 | i,x::l=>cond (k == x) (i:Int) (z1jw k (i+1) l)
theorem z1ca (N:Nat) (a:List Int) (k:Int) (hl:a.length<=300) (hN:301<N):z3o N a k=some (z1jw k 0 a):=by
 rw[z3o,zaa];have h:=zd5 (step:=fun (v:Int) r=>z3u N a k (((List.length a):Nat):Int) v (fun x8=>(r x8)) (fun x4=>some x4) (some (-(1:Int))))
  (I:=fun v=>0<=v/\v<=300) (m:=fun v=>300 - v.toNat) (R:=fun v=>some (z1jw k v.toNat (a.drop v.toNat)))
  (by
   rintro i r ⟨h0,h1⟩ hr;obtain⟨i,rfl⟩:=Int.eq_ofNat_of_zero_le h0;simp only[Int.toNat_natCast] at h1 ⊢;rw[z3u];by_cases hi:i<a.length
   . have wi:=z1a (i:=i) (by omega);rw[zw (decide_eq_true (by omega)),zw (z19 hi),wi,hr _ ⟨by omega,by omega⟩ (by simp only[Int.toNat_natCast];omega),z4q a 0 i hi];simp only[Int.toNat_natCast];rw[z1jw];cases k == a.getD i 0<;>rfl
   . rw[z2c (decide_eq_false (by omega)),List.drop_of_length_le (by omega)];rfl) N (0:Int) ⟨by omega,by omega⟩ (by simp only[Int.toNat_zero];omega)
 exact h
def z141 (a:List Int)(k:Int):Int:=cond (z86 a) (z1jw k 0 a) (-1)
theorem z1cf (N:Nat)(a:List Int)(k:Int)(hl:a.length<=300)(hN:301<N):zd0 N a k=some (z141 a k):=by
 rw[zd0,z13e N a (by omega),Option.bind_some,z141];cases h:z86 a
 . rfl
 . rw[Bool.not_true,z2c rfl,z1ca N a k hl hN];rfl
theorem z1d2 (N:Nat) (sets:List (List Int)) (hs:∀ s∈sets,SetOk s) (hl:sets.length<=64) {k b:Nat} (hk:k<256) (hb:b<256) (hN:300<=N) :
 z5u N sets (k:Int) (b:Int)=some (z4v sets k b):=by
 rw[z5u,zdv];have h:=zd5 (step:=fun (v:Int) r=>z5q N sets (k:Int) (b:Int) v (fun i=>(r i)) (fun x6=>some x6) (some true))
  (I:=fun v=>0<=v/\v<=sets.length) (m:=fun v=>sets.length - v.toNat) (R:=fun v=>some (z4v (sets.drop v.toNat) k b))
  (by
   rintro i r ⟨h0,h1⟩ hr;obtain⟨i,rfl⟩:=Int.eq_ofNat_of_zero_le h0;simp only[Int.toNat_natCast] at h1 ⊢;rw[z5q];by_cases hi:i<sets.length
   . have wi:=z1a (i:=i) (by omega);have hsi:=hs _ (zwn sets [] i hi);rw[zw (decide_eq_true (by omega)),zw (z19 hi),wi];simp only[Int.toNat_natCast];rw[zs7 N hsi hk (by omega),Option.bind_some,zw (z19 hi),zs7 N hsi hb (by omega),hr _ ⟨by omega,by omega⟩ (by simp only[Int.toNat_natCast];omega),z4q sets [] i hi];simp only[Option.bind_some,Int.toNat_natCast];rw[show z4v (sets.getD i []::sets.drop (i+1)) k b=((ze1 (sets.getD i []) k == ze1 (sets.getD i []) b) && z4v (sets.drop (i+1)) k b) from rfl];cases ze1 (sets.getD i []) k == ze1 (sets.getD i []) b<;>rfl
   . rw[z2c (decide_eq_false (by omega)),List.drop_of_length_le (by omega)];rfl) N (0:Int) ⟨by omega,by omega⟩ (by simp only[Int.toNat_zero];omega)
 exact h
theorem z14y (N:Nat) (sets:List (List Int)) (out:List Int) (many:Int) {b:Nat} (hb:b<256) (ho:out.length=b) (hc:∀ k,k<b->0<=out.getD k 0) (k0:Int->Option (List Int)) (hs:∀ s∈sets,SetOk s) (hl:sets.length<=64) (hN:300<=N) :
 z80 N sets out many (b:Int) (-(1:Int)) k0=k0 (match z57 (z4v sets) out b 0 b with|some c=>c|none=>-1):=by
 rw[z80,zh4];have h := zd5 (step:=fun (v:(Int×Int)) r=>z7x N sets out many (b:Int) v.1 v.2 (fun at_ k=>(r (at_,k))) (fun at_1=>k0 at_1))
  (I:=fun v=>0<=v.2/\v.2<=b /\ -1<=v.1) (m:=fun v=>b - v.2.toNat)
  (R:=fun v=>k0 (cond (decide (v.1<0)) (match z57 (z4v sets) out b v.2.toNat (b - v.2.toNat) with|some c=>c|none=>-1) v.1))
  (by
   rintro⟨at_,k⟩ r ⟨h0,h1,h2⟩ hr;obtain⟨k,rfl⟩:=Int.eq_ofNat_of_zero_le h0;simp only[Int.toNat_natCast] at h1 h2 ⊢;rw[z7x,zby];by_cases hk:k<b
   . have wi:=z1a (i:=k) (by omega);have e:b - k=(b - (k+1))+1:=by omega
     rw[zw (decide_eq_true (by omega))];by_cases hat:at_<0
     . rw[zw (decide_eq_true hat),zw (decide_eq_true hat),zbx,z1d2 N sets hs hl (by omega) hb hN];simp only[Option.bind_some,Int.toNat_natCast];rw[wi,e,z57];cases hs:(z4v sets) k b
       . rw[z2c rfl,z2c rfl,hr _ ⟨by simp only;omega,by simp only;omega,by simp only;omega⟩ (by simp only[Int.toNat_natCast];omega)];simp only[Int.toNat_natCast];rw[zw (decide_eq_true hat)]
       . have:=hc k hk;rw[zw rfl,zw rfl,zw (z19 (by omega)),zw (decide_eq_true (by omega)),hr _ ⟨by simp only;omega,by simp only;omega,by simp only;omega⟩ (by simp only[Int.toNat_natCast];omega)];simp only;rw[z2c (decide_eq_false (by omega))]
     . rw[z2c (decide_eq_false hat),z2c (decide_eq_false hat)]
   . have e:b - k=0:=by omega
     rw[z2c (decide_eq_false (by omega)),e,z57];by_cases hat:at_<0
     . rw[zw (decide_eq_true hat)];have e1:at_=-1:=by omega
       rw[e1]
     . rw[z2c (decide_eq_false hat)]) N ((-1:Int),(0:Int)) ⟨by simp only;omega,by simp only;omega,by simp only;omega⟩ (by simp only[Int.toNat_zero];omega)
 show iter _ N ((-1:Int),(0:Int))=_;rw[h];rfl
theorem z14z (N:Nat) (sets:List (List Int)) (hs:∀ s∈sets,SetOk s) (hl:sets.length<=64) (hN:300<=N):zc0 N sets [] 0 0 (fun out=>some out)=some (zb7 (z4v sets) 256).1:=by
 rw[zc0];exact zd5 (step:=fun (v:((List Int)×Int×Int)) r=>z7y N sets v.1 v.2.1 v.2.2 (fun out many b=>(r (out,many,b))) (fun out=>some out))
  (I:=fun v=>0<=v.2.2/\v.2.2<=256/\v.1=(zb7 (z4v sets) v.2.2.toNat).1/\v.2.1=((zb7 (z4v sets) v.2.2.toNat).2:Int)) (m:=fun v=>256 - v.2.2.toNat) (R:=fun _=>some (zb7 (z4v sets) 256).1)
  (by
   rintro⟨out,many,b⟩ r ⟨h0,h1,h2,h3⟩ hr;obtain⟨b,rfl⟩:=Int.eq_ofNat_of_zero_le h0;simp only[Int.toNat_natCast] at h1 h2 h3 ⊢;subst h2 h3;rw[z7y];by_cases hb:b<256
   . have wi:=z1a (i:=b) (by omega);have hgl:=zl1 (z4v sets) b;have hm:=zsx (z4v sets) b;have hlt:=z10r (z4v sets) b;have wm:Go.IntKind.wrap .i64 (((zb7 (z4v sets) b).2:Int)+1)=(((zb7 (z4v sets) b).2+1:Nat):Int):=z1a (by omega);rw[zw (decide_eq_true (by omega)),zbz,z14y N sets _ _ hb hgl (fun k hk=>(hlt k hk).1) _ hs hl hN,wi];have hg:zb7 (z4v sets) (b+1)=(match z57 (z4v sets) (zb7 (z4v sets) b).1 b 0 b with
      | some c=>((zb7 (z4v sets) b).1++[c],(zb7 (z4v sets) b).2)
      | none=>((zb7 (z4v sets) b).1++[((zb7 (z4v sets) b).2:Int)],(zb7 (z4v sets) b).2+1)):=rfl
     cases hc:z57 (z4v sets) (zb7 (z4v sets) b).1 b 0 b with
     | none =>
       rw[hc] at hg;simp only;rw[z7z,zw (decide_eq_true (by omega)),zw (decide_eq_true (by rw[hgl];omega)),wm];exact hr _ ⟨by simp only;omega,by simp only;omega,by simp only[Int.toNat_natCast,hg],by simp only[Int.toNat_natCast,hg]⟩ (by simp only[Int.toNat_natCast];omega)
     | some c =>
       rw[hc] at hg;obtain⟨j,_,h2,_,h4⟩:=zie b 0 hc;have h5:=hlt j (by omega);simp only;rw[z7z,z2c (decide_eq_false (by omega)),zw (decide_eq_true (by rw[hgl];omega))];exact hr _ ⟨by simp only;omega,by simp only;omega,by simp only[Int.toNat_natCast,hg],by simp only[Int.toNat_natCast,hg]⟩ (by simp only[Int.toNat_natCast];omega)
   . have e:b=256:=by omega
     subst e;rw[z2c (decide_eq_false (by omega))]) N (([]:List Int),(0:Int),(0:Int)) ⟨by simp only;omega,by simp only;omega,rfl,rfl⟩ (by simp only[Int.toNat_zero];omega)
theorem z1bs (N:Nat)(sets:List (List Int))(hs:∀ s∈sets,SetOk s)(hl:sets.length<=64)(hN:300<=N):z96 N sets=some (ofB sets):=by
 rw[z96,z14z N sets hs hl hN,ofB]
theorem zoz (sets:List (List Int)):(ofB sets).length=256:=zl1 _ _
theorem zsi (sets:List (List Int)):z86 (ofB sets)=true:=by
 rw[z86,zoz,ofB,(zv5 _ _).1];rfl
end
end Go.Proofs.YtgbcebmahbieoaaDoorLg
set_option linter.all false
set_option maxRecDepth 100000
namespace Go.Proofs.YtgbcebmahbieoaaDoorLg
noncomputable section
open Go Go.Lift Go.Proofs.YtgbcebmahbieoaaDoorPx
abbrev DfT:=Int×((List Bool)×((List Int)×((List (List Int))×Unit)))
theorem scan {β:Type}{f:Int->(Int->Option β)->Option β}{n:Nat}{bad:Nat->Bool}{F T:Option β}(hs:∀ (i:Nat) r,i<n->f (i:Int) r=cond (bad i) F (r ((i+1:Nat):Int)))(he:∀ r,f (n:Int) r=T) :
 ∀ (k N i:Nat),i+k=n->k<N->iter f N (i:Int)=cond ((List.range' i k).any bad) F T
 | 0,N,i,h,hN=>by
   obtain⟨M,rfl⟩:∃ M,N=M+1:=⟨N - 1,by omega⟩
   obtain rfl:i=n:=by omega
   rw[iter,he];rfl
 | k+1,N,i,h,hN=>by
   obtain⟨M,rfl⟩:∃ M,N=M+1:=⟨N - 1,by omega⟩
   rw[iter,hs i _ (by omega),scan hs he k M (i+1) (by omega) (by omega),List.range'_succ,List.any_cons];cases bad i<;>rfl
theorem z17f {β:Type}{f:Int->(Int->Option β)->Option β}{n N:Nat}{bad:Nat->Bool}{F T:Option β}(hs:∀ (i:Nat) r,i<n->f (i:Int) r=cond (bad i) F (r ((i+1:Nat):Int)))(he:∀ r,f (n:Int) r=T)(hN:n<N) :
 iter f N (0:Int)=cond ((List.range n).any bad) F T:=by
 have:=scan hs he n N 0 (by omega) hN;rw[List.range_eq_range'];exact this
theorem z10h (n m:Nat):(((n:Nat):Int) != (m:Int))=!decide (n=m):=z126
theorem z19e {a:List Int}(h:z86 a=true):1<=z2b a:=by
 obtain⟨h1,h2,h3⟩:=zbq h;unfold z2b;rw[h,cond_true];have hx:=z4q a 0 0 (by omega);rw[List.drop_zero,h2] at hx;rw[hx];show 1<=zkr (if (0:Int) > -1 then 0 else -1) (a.drop 1)+1;rw[if_pos (by decide)];have:=zri (a.drop 1) 0;omega
theorem zps:∀ (l:List Int) (t:Int),z71 t l=true->∀ x∈l,0<=x/\x<=zkr t l
 | [],_,_,x,hx=>by cases hx
 | y :: l,t,h,x,hx=>by
   rw[z71] at h;cases h1:decide (y<0)
   case true=>rw[h1] at h;exact absurd h Bool.false_ne_true
   cases h2:decide (t+1<y)
   case true=>rw[h1,h2] at h;exact absurd h Bool.false_ne_true
   rw[h1,h2] at h;have e:zkr t (y::l)=zkr (if y > t then y else t) l:=rfl;rw[e];rcases List.mem_cons.1 hx with rfl|hx
   . have h3:=of_decide_eq_false h1;have h4:=zri l (if x > t then x else t);refine⟨by omega,Int.le_trans ?_ h4⟩;split<;>omega
   . exact zps l _ h x hx
theorem z1cv {a:List Int}(h:z86 a=true){i:Nat}(hi:i<256):0<=a.getD i 0/\a.getD i 0<z2b a:=by
 obtain⟨h1,_,h3⟩:=zbq h;have:=zps a (-1) h3 (a.getD i 0) (by rw[List.getD_eq_getElem?_getD,List.getElem?_eq_getElem (by omega)];exact List.getElem_mem _);unfold z2b;rw[h,cond_true];omega
def z1k6 (d:DfT)(b:Nat):Nat:=(d.2.2.1.getD b 0).toNat
def z1b7 (d:DfT)(q:Nat)(b:Nat):Nat:=((d.2.2.2.1.getD q []).getD (z1k6 d b) 0).toNat
def runD (d:DfT)(q:Nat)(s:List UInt8):Nat:=s.foldl (fun q b=>z1b7 d q b.toNat) q
structure RtD (d:DfT):Prop where
 pos:1<=d.2.2.2.1.length
 lim:d.2.2.2.1.length<=4096
 fin:d.2.1.length=d.2.2.2.1.length
 block:z86 d.2.2.1=true
 row:∀ q,q<d.2.2.2.1.length->((d.2.2.2.1.getD q []).length:Int)=z2b d.2.2.1/\∀ k,k<(d.2.2.2.1.getD q []).length->0<=(d.2.2.2.1.getD q []).getD k 0/\(d.2.2.2.1.getD q []).getD k 0<(d.2.2.2.1.length:Int)
 start:0<=d.1/\d.1<(d.2.2.2.1.length:Int)
theorem RtD.cls {d:DfT}(h:RtD d){b:Nat}(hb:b<256):d.2.2.1.getD b 0=(z1k6 d b:Int)/\(z1k6 d b:Int)<z2b d.2.2.1:=by
 have:=z1cv h.block hb;unfold z1k6;omega
theorem RtD.step {d:DfT}(h:RtD d){q b:Nat}(hq:q<d.2.2.2.1.length)(hb:b<256):z1k6 d b<(d.2.2.2.1.getD q []).length/\(d.2.2.2.1.getD q []).getD (z1k6 d b) 0=(z1b7 d q b:Int)/\z1b7 d q b<d.2.2.2.1.length:=by
 obtain⟨h1,h2⟩:=h.cls hb;obtain⟨g1,g2⟩:=h.row q hq;have hc:z1k6 d b<(d.2.2.2.1.getD q []).length:=by omega
 have:=g2 _ hc;unfold z1b7;omega
theorem RtD.run {d:DfT}(h:RtD d):∀ (s:List UInt8) (q:Nat),q<d.2.2.2.1.length->runD d q s<d.2.2.2.1.length
 | [],q,hq=>hq
 | b::s,q,hq=>h.run s _ (h.step hq (UInt8.toNat_lt b)).2.2
end
end Go.Proofs.YtgbcebmahbieoaaDoorLg
set_option linter.all false
set_option maxRecDepth 100000
namespace Go.Lift
noncomputable section
def BSt (t:T)(w0:World)(S0:Hp)(ob0:List Nat)(bf:Nat)(w:World)(x:t.den)(L:List (Nat×Array Value×Nat)):Prop :=
 ∃ S o,WF w0 (fun k=>k∈ob0) w/\Sub S0 S/\Sub S (hp w)/\(∀ k,S k≠none->S0 k≠none\/k∈ob0\/w0.heap.size<=k)/\ARel (hp w) S (fun _=>undef) (.box t x) (.pointer (some ⟨bf,0,none⟩)) o/\o.Nodup ∧
 (∀ k∈o,S k=none/\(k∈ob0\/w0.heap.size<=k))/\∀ p∈L,S p.1=none/\p.1∉o/\w0.heap.size<=p.1/\w.heap[p.1]?=some (.cells p.2.1 p.2.2 (0,0))
variable {P:Program} {glob:Nat->Option Dat} {t:T} {w0 w:World} {S0:Hp} {ob0:List Nat} {bf:Nat} {x:t.den} {L:List (Nat×Array Value×Nat)}
theorem BSt.lt (h:BSt t w0 S0 ob0 bf w x L):∀ p∈L,p.1<w.heap.size:=by
 obtain⟨S,o,_,_,_,_,_,_,_,hL⟩:=h;exact fun p hp=>(Array.getElem?_eq_some_iff.1 (hL p hp).2.2.2).1
theorem BSt.drew (h:BSt t w0 S0 ob0 bf w x L):BSt t w0 S0 ob0 bf w.drew x L:=by
 obtain⟨S,o,k1,k2⟩:=h;exact⟨S,o,⟨k1.size,k1.same,k1.tape,k1.os,k1.output⟩,k2⟩
theorem BSt.swap {L':List (Nat×Array Value×Nat)}(h:BSt t w0 S0 ob0 bf w x L)(hm:∀ p∈L',p∈L):BSt t w0 S0 ob0 bf w x L':=by
 obtain⟨S,o,h1,h2,h3,h4,h5,h6,h7,hL⟩:=h;exact⟨S,o,h1,h2,h3,h4,h5,h6,h7,fun p hp=>hL p (hm p hp)⟩
theorem BSt.cell (h:BSt t w0 S0 ob0 bf w x L){p:Nat}{cs:Array Value}{E i:Nat}{v:Value}(hm:(p,cs,E)∈L)(hi:cs[i]?=some v):w.cell? ⟨p,i,none⟩=some v:=by
 obtain⟨S,o,_,_,_,_,_,_,_,hL⟩:=h;have:=(hL _ hm).2.2.2;simp only at this;simp[World.cell?,this,hi]
theorem BSt.free (h:BSt t w0 S0 ob0 bf w x L){p:Nat}{cs:Array Value}{E i:Nat}(hm:(p,cs,E)∈L):w.frozen? ⟨p,i,none⟩=false:=by
 obtain⟨S,o,_,_,_,_,_,_,_,hL⟩:=h;have:=(hL _ hm).2.2.2;simp only at this;simp[World.frozen?,this]
theorem BSt.plain {f:FuncId}{g:List A->Res}(ct:Contract P glob f g)(hg:∀ S,GlobOk glob S)(h:BSt t w0 S0 ob0 bf w x L){args:List A}{vals:List Value}
 (hrel:∀ S,Sub S (hp w)->ArgsRel (hp w) S args vals (fun _=>[])) {y:(g args).X} (hy:(g args).val=some y) :
 Calls P f vals.toArray w fun e w'=>∃ v S' o',e=.returned v/\ARel (hp w') S' (fun _=>undef) ((g args).out y).1 v o'/\BSt t w0 S0 ob0 bf w' x L:=by
 have h':=h;obtain⟨S,o,h1,h2,h3,h4,h5,h6,h7,hL⟩:=h';refine ((ct.2 w S args vals _ (hrel S h3) h3 (hg S) y hy)).mono ?_;rintro e w' ⟨v,S',q,ob',rfl,hwf,hSS,hSw,hnew,⟨hr,_⟩,_⟩;refine⟨v,S',q,rfl,hr,?_⟩;have hwf':WF w (fun _=>False) w':=⟨hwf.size,fun k hk _=>hwf.same k hk (by rintro⟨i,hi⟩;cases hi),hwf.tape,hwf.os,hwf.output⟩
 have hlt:∀ k∈o,k<w.heap.size:=fun k hk=>by
  obtain⟨ob,hob⟩:=h5.obj k hk;exact (Array.getElem?_eq_some_iff.1 hob.1).1
 have hnw:∀ k,k<w.heap.size->S' k≠none->S k≠none:=fun k hk hs=>by
  rcases hnew k hs with h|⟨i,hi⟩|h
  . exact h
  . cases hi
  . omega
 refine⟨S',o,h1.trans hwf' (fun _ h=>h.elim),h2.trans hSS,hSw,fun k hk=>?_,?_,h6,fun k hk=>⟨?_,(h7 k hk).2⟩,fun p hp=>?_⟩
 . rcases hnew k hk with h|⟨i,hi⟩|h
   . exact h4 k h
   . cases hi
   . exact .inr (.inr (Nat.le_trans h1.size h))
 . obtain⟨b,cs,E,fr,bs,rfl,e1,e2,e3,e4⟩:=h5;refine⟨b,cs,E,fr,bs,rfl,e1,?_,e3,e4.mono hSS _ _ _ _ (fun k hk=>hwf'.same k (hlt k (by simp[hk])) (fun h=>h))⟩;have:=hwf'.same b (hlt b (by simp)) (fun h=>h);simp only[hp] at e2 ⊢;rw[this];exact e2
 . cases hs:S' k with
   | none=>rfl
   | some q=>exact absurd (h7 k hk).1 (hnw k (hlt k hk) (by rw[hs];simp))
 . obtain⟨p1,p2,p3,p4⟩:=hL p hp;have hl:=(Array.getElem?_eq_some_iff.1 p4).1;refine⟨?_,p2,p3,?_⟩
   . cases hs:S' p.1 with
     | none=>rfl
     | some q=>exact absurd p1 (hnw _ hl (by rw[hs];simp))
   . rw[hwf'.same p.1 hl (fun h=>h)];exact p4
theorem z1d0 {S:Hp}{v:Value}{o:List Nat}{args:List A}{vals:List Value}(h5:ARel (hp w) S (fun _=>undef) (.box t x) v o)(h6:o.Nodup)(h7:∀ k∈o,S k=none)(hr0:ArgsRel (hp w) S args vals (fun _=>[])) :
 ArgsRel (hp w) S (.box t x::args) (v::vals) (fun i=>if i=0 then o else []):=by
 refine⟨by simp[hr0.len],fun i q hq=>?_,fun i hi=>?_,fun i j b hi hj=>?_,fun i=>?_,fun i b hb=>?_⟩
 . cases i with
   | zero =>
     simp at hq;subst hq;exact⟨⟨_,rfl,by simpa using h5⟩,rfl⟩
   | succ i =>
     obtain⟨⟨v,hv,ha⟩,hrf⟩:=hr0.rel i q (by simpa using hq);exact⟨⟨v,by simpa using hv,by simpa using ha⟩,hrf⟩
 . rw[if_neg (by intro e;subst e;simp at hi)]
 . by_cases hi0:i=0<;>by_cases hj0:j=0<;>simp_all
 . by_cases hi0:i=0<;>simp[hi0,h6]
 . by_cases hi0:i=0
   . rw[if_pos hi0] at hb;exact h7 b hb
   . rw[if_neg hi0] at hb;cases hb
theorem BSt.alloc (h:BSt t w0 S0 ob0 bf w x L) (cs:Array Value) (E:Nat):BSt t w0 S0 ob0 bf (w.alloc (.cells cs E)) x ((w.heap.size,cs,E)::L):=by
 have hlt:=h.lt;obtain⟨S,o,h1,h2,h3,h4,h5,h6,h7,hL⟩:=h;have hh:(w.alloc (.cells cs E)).heap=w.heap.push (.cells cs E (0,0)):=rfl;have hk:∀ k,k<w.heap.size->(w.alloc (.cells cs E)).heap[k]?=w.heap[k]?:=fun k hk=>by
  rw[hh,Array.getElem?_push,if_neg (by omega)]
 have hol:∀ k∈o,k<w.heap.size:=fun k hk=>by
  obtain⟨ob,hob⟩:=h5.obj k hk;exact (Array.getElem?_eq_some_iff.1 hob.1).1
 refine⟨S,o,⟨by rw[hh,Array.size_push];have:=h1.size;omega,fun k h1' h2'=>by rw[hk k (by have:=h1.size;omega)];exact h1.same k h1' h2',h1.tape,h1.os,h1.output⟩,h2,fun k q ho=>?_,h4,?_,h6,h7,fun p hpm=>?_⟩
 . have:=h3 k q ho;simp only[hp] at this ⊢;rw[hk k (Array.getElem?_eq_some_iff.1 this).1];exact this
 . obtain⟨b,c1,E',fr,bs,rfl,e1,e2,e3,e4⟩:=h5;refine⟨b,c1,E',fr,bs,rfl,e1,?_,e3,e4.mono (Sub.refl _) _ _ _ _ (fun k hkm=>hk k (hol k (by simp[hkm])))⟩;simp only[hp] at e2 ⊢;rw[hk b (hol b (by simp))];exact e2
 . rcases List.mem_cons.1 hpm with rfl|hpm
   . refine⟨?_,fun hm=>absurd (hol _ hm) (by simp),h1.size,?_⟩
     . cases hs:S w.heap.size with
       | none=>rfl
       | some q =>
         have:=h3 _ _ hs;simp only[hp] at this;have:=(Array.getElem?_eq_some_iff.1 this).1;omega
     . simp only;rw[hh,Array.getElem?_push,if_pos rfl]
   . obtain⟨p1,p2,p3,p4⟩:=hL p hpm;exact⟨p1,p2,p3,by rw[hk p.1 (hlt p hpm)];exact p4⟩
theorem BSt.put {p:Nat}{cs:Array Value}{E:Nat}(h:BSt t w0 S0 ob0 bf w x ((p,cs,E)::L))(hd:∀ q∈L,q.1≠p){w':World}{cs':Array Value}(hw:w'=z1l w p (.cells cs' E (0,0))):BSt t w0 S0 ob0 bf w' x ((p,cs',E)::L):=by
 obtain⟨S,o,h1,h2,h3,h4,h5,h6,h7,hL⟩:=h;obtain⟨q1,q2,q3,q4⟩:=hL (p,cs,E) (List.mem_cons_self ..);simp only at q1 q2 q3 q4;have hne:∀ k,k≠p->w'.heap[k]?=w.heap[k]?:=fun k hk=>by
  have:=zo (w:=w) (o:=.cells cs' E (0,0)) hk;rw[hw];exact this
 have hsz:w'.heap.size=w.heap.size:=by rw[hw];simp[z1l]
 refine⟨S,o,⟨by rw[hsz];exact h1.size,fun k h1' h2'=>by rw[hne k (by omega)];exact h1.same k h1' h2',by rw[hw];exact h1.tape,by rw[hw];exact h1.os,by rw[hw];exact h1.output⟩,h2,fun k q ho=>?_,h4,?_,h6,h7,fun u hu=>?_⟩
 . have hk:k≠p:=fun e=>by rw[e,q1] at ho;cases ho
   have:=h3 k q ho;simp only[hp] at this ⊢;rw[hne k hk];exact this
 . obtain⟨b,c1,E',fr,bs,rfl,e1,e2,e3,e4⟩:=h5;refine⟨b,c1,E',fr,bs,rfl,e1,?_,e3,e4.mono (Sub.refl _) _ _ _ _ (fun k hkm=>hne k (fun e=>q2 (by simp[<- e,hkm])))⟩;simp only[hp] at e2 ⊢;rw[hne b (fun e=>q2 (by simp[<- e]))];exact e2
 . rcases List.mem_cons.1 hu with rfl|hu
   . refine⟨q1,q2,q3,?_⟩;rw[hw];exact z2j q4
   . obtain⟨p1,p2,p3,p4⟩:=hL u (List.mem_cons_of_mem _ hu);exact⟨p1,p2,p3,by rw[hne u.1 (hd u hu)];exact p4⟩
theorem BSt.setCell {p:Nat}{cs:Array Value}{E:Nat}(h:BSt t w0 S0 ob0 bf w x ((p,cs,E)::L))(hd:∀ q∈L,q.1≠p)(i:Nat)(v:Value) :
 BSt t w0 S0 ob0 bf (w.setCell ⟨p,i,none⟩ v) x ((p,cs.setIfInBounds i v,E)::L):=by
 have hb:hp w p=some (.cells cs E (0,0)):=by
  obtain⟨S,o,_,_,_,_,_,_,_,hL⟩:=h;exact (hL _ (List.mem_cons_self ..)).2.2.2
 exact h.put hd (zon v hb)
theorem BSt.start {args:List A}{vals:List Value}{ob:Nat->List Nat}(har:ArgsRel (hp w) S0 (.box t x::args) vals ob)(hS:Sub S0 (hp w)) :
 ∃ bf vs,vals=.pointer (some ⟨bf,0,none⟩)::vs/\ob 0≠[]/\BSt t w S0 (ob 0) bf w x []:=by
 obtain⟨⟨v,hv,hr⟩,_⟩:=har.rel 0 _ rfl;have hr':=hr;obtain⟨b,cs,E,fr,bs,hob,rfl,_⟩:=hr';cases vals with
 | nil=>cases hv
 | cons v vs =>
   cases hv;exact⟨b,vs,rfl,by rw[hob];simp,S0,ob 0,WF.refl _ _,Sub.refl _,hS,fun _ h=>.inl h,hr,har.nd 0,fun k hk=>⟨har.hid 0 k hk,.inl hk⟩,fun p hp=>by cases hp⟩
end
end Go.Lift
set_option linter.all false
set_option maxRecDepth 100000
namespace Go.Lift
noncomputable section
structure NSt (w0:World) (S0:Hp) (w:World) (S:Hp) (L:List (Nat×Array Value×Nat)):Prop where
 wf:WF w0 (fun _=>False) w
 sub:Sub S0 S
 inw:Sub S (hp w)
 new:∀ k,S k≠none->S0 k≠none\/w0.heap.size<=k
 own:∀ p∈L,S p.1=none/\w0.heap.size<=p.1/\w.heap[p.1]?=some (.cells p.2.1 p.2.2 (0,0))
variable {P:Program} {glob:Nat->Option Dat} {w0 w:World} {S0 S:Hp} {L:List (Nat×Array Value×Nat)}
theorem NSt.start (hS:Sub S0 (hp w)):NSt w S0 w S0 []:=⟨WF.refl _ _,Sub.refl _,hS,fun _ h=>.inl h,fun p hp=>by cases hp⟩
theorem NSt.lt (h:NSt w0 S0 w S L):∀ p∈L,p.1<w.heap.size:=fun p hp=>(Array.getElem?_eq_some_iff.1 (h.own p hp).2.2).1
theorem NSt.drew (h:NSt w0 S0 w S L):NSt w0 S0 w.drew S L:=⟨⟨h.wf.size,h.wf.same,h.wf.tape,h.wf.os,h.wf.output⟩,h.sub,h.inw,h.new,h.own⟩
theorem NSt.swap {L':List (Nat×Array Value×Nat)}(h:NSt w0 S0 w S L)(hm:∀ p∈L',p∈L):NSt w0 S0 w S L':=⟨h.wf,h.sub,h.inw,h.new,fun p hp=>h.own p (hm p hp)⟩
theorem NSt.cell (h:NSt w0 S0 w S L){p:Nat}{cs:Array Value}{E i:Nat}{v:Value}(hm:(p,cs,E)∈L)(hi:cs[i]?=some v):w.cell? ⟨p,i,none⟩=some v:=by
 have:=(h.own _ hm).2.2;simp only at this;simp[World.cell?,this,hi]
theorem NSt.free (h:NSt w0 S0 w S L){p:Nat}{cs:Array Value}{E i:Nat}(hm:(p,cs,E)∈L):w.frozen? ⟨p,i,none⟩=false:=by
 have:=(h.own _ hm).2.2;simp only at this;simp[World.frozen?,this]
theorem NSt.alloc (h:NSt w0 S0 w S L) (cs:Array Value) (E:Nat):NSt w0 S0 (w.alloc (.cells cs E)) S ((w.heap.size,cs,E)::L):=by
 have hlt:=h.lt;have hh:(w.alloc (.cells cs E)).heap=w.heap.push (.cells cs E (0,0)):=rfl;have hk:∀ k,k<w.heap.size->(w.alloc (.cells cs E)).heap[k]?=w.heap[k]?:=fun k hk=>by
  rw[hh,Array.getElem?_push,if_neg (by omega)]
 refine⟨⟨by rw[hh,Array.size_push];have:=h.wf.size;omega,fun k h1' h2'=>by rw[hk k (by have:=h.wf.size;omega)];exact h.wf.same k h1' h2',h.wf.tape,h.wf.os,h.wf.output⟩,h.sub,fun k q ho=>?_,h.new,fun p hpm=>?_⟩
 . have:=h.inw k q ho;simp only[hp] at this ⊢;rw[hk k (Array.getElem?_eq_some_iff.1 this).1];exact this
 . rcases List.mem_cons.1 hpm with rfl|hpm
   . refine⟨?_,h.wf.size,?_⟩
     . cases hs:S w.heap.size with
       | none=>rfl
       | some q =>
         have:=h.inw _ _ hs;simp only[hp] at this;have:=(Array.getElem?_eq_some_iff.1 this).1;omega
     . simp only;rw[hh,Array.getElem?_push,if_pos rfl]
   . obtain⟨p1,p3,p4⟩:=h.own p hpm;exact⟨p1,p3,by rw[hk p.1 (hlt p hpm)];exact p4⟩
theorem zhq (w:World)(o:Obj):w.heap.size+1=(w.alloc o).heap.size:=by
 show _=(w.heap.push _).size;rw[Array.size_push]
theorem NSt.new' (h:NSt w0 S0 w S L){p:Nat}(hp:p=w.heap.size)(cs:Array Value)(E:Nat):NSt w0 S0 (w.alloc (.cells cs E)) S ((p,cs,E)::L):=by
 subst hp;exact h.alloc cs E
theorem NSt.set {p:Nat}{cs:Array Value}{E:Nat}(h:NSt w0 S0 w S ((p,cs,E)::L))(hd:∀ q∈L,q.1≠p)(i:Nat)(v:Value) :
 NSt w0 S0 (w.setCell ⟨p,i,none⟩ v) S ((p,cs.setIfInBounds i v,E)::L):=by
 obtain⟨q1,q3,q4⟩:=h.own (p,cs,E) (List.mem_cons_self ..);simp only at q1 q3 q4;have hw:=zon (off:=i) v (show hp w p=some (.cells cs E (0,0)) from q4);obtain⟨w',hw'⟩:∃ w',w'=w.setCell ⟨p,i,none⟩ v:=⟨_,rfl⟩
 rw[<- hw'] at hw ⊢;have hne:∀ k,k≠p->w'.heap[k]?=w.heap[k]?:=fun k hk=>by
  have:=zo (w:=w) (o:=.cells (cs.setIfInBounds i v) E (0,0)) hk;rw[hw];exact this
 have hsz:w'.heap.size=w.heap.size:=by rw[hw];simp[z1l]
 refine⟨⟨by rw[hsz];exact h.wf.size,fun k h1' h2'=>by rw[hne k (by omega)];exact h.wf.same k h1' h2',by rw[hw];exact h.wf.tape,by rw[hw];exact h.wf.os,by rw[hw];exact h.wf.output⟩,h.sub,fun k q ho=>?_,h.new,fun u hu=>?_⟩
 . have hk:k≠p:=fun e=>by rw[e,q1] at ho;cases ho
   have:=h.inw k q ho;simp only[hp] at this ⊢;rw[hne k hk];exact this
 . rcases List.mem_cons.1 hu with rfl|hu
   . refine⟨q1,q3,?_⟩;rw[hw];exact z2j q4
   . obtain⟨p1,p3,p4⟩:=h.own u (List.mem_cons_of_mem _ hu);exact⟨p1,p3,by rw[hne u.1 (hd u hu)];exact p4⟩
theorem NSt.give {p:Nat}{cs:Array Value}{E:Nat}(h:NSt w0 S0 w S ((p,cs,E)::L))(hd:∀ q∈L,q.1≠p) :
 NSt w0 S0 w (fun k=>if k=p then some (.cells cs E (0,0)) else S k) L/\Sub S (fun k=>if k=p then some (.cells cs E (0,0)) else S k):=by
 obtain⟨q1,q3,q4⟩:=h.own (p,cs,E) (List.mem_cons_self ..);simp only at q1 q3 q4;have hs:Sub S (fun k=>if k=p then some (.cells cs E (0,0)) else S k):=fun k o hk=>by
  refine (if_neg (fun e=>?_)).trans hk;rw[e,q1] at hk;cases hk
 refine⟨⟨h.wf,h.sub.trans hs,fun k o hk=>?_,fun k hk=>?_,fun u hu=>?_⟩,hs⟩
 . split at hk
   . subst_vars
     simp only[hp];rw[q4];exact hk
   . exact h.inw k o hk
 . split at hk
   . subst_vars;exact .inr q3
   . exact h.new k hk
 . obtain⟨p1,p3,p4⟩:=h.own u (List.mem_cons_of_mem _ hu);exact⟨by rw[if_neg (hd u hu)];exact p1,p3,p4⟩
theorem NSt.plain {f:FuncId}{g:List A->Res}(ct:Contract P glob f g)(hg:GlobOk glob S)(h:NSt w0 S0 w S L){args:List A}{vals:List Value}
 (hrel:ArgsRel (hp w) S args vals (fun _=>[])) {y:(g args).X} (hy:(g args).val=some y) :
 Calls P f vals.toArray w fun e w'=>∃ v S' o',e=.returned v/\ARel (hp w') S' (fun _=>undef) ((g args).out y).1 v o'/\Sub S S'/\NSt w0 S0 w' S' L:=by
 refine ((ct.2 w S args vals _ hrel h.inw hg y hy)).mono ?_;rintro e w' ⟨v,S',q,ob',rfl,hwf,hSS,hSw,hnew,⟨hr,_⟩,_⟩;refine⟨v,S',q,rfl,hr,hSS,?_⟩;have hwf':WF w (fun _=>False) w':=⟨hwf.size,fun k hk _=>hwf.same k hk (by rintro⟨i,hi⟩;cases hi),hwf.tape,hwf.os,hwf.output⟩
 have hnw:∀ k,k<w.heap.size->S' k≠none->S k≠none:=fun k hk hs=>by
  rcases hnew k hs with h|⟨i,hi⟩|h
  . exact h
  . cases hi
  . omega
 refine⟨h.wf.trans hwf' (fun _ h=>h.elim),h.sub.trans hSS,hSw,fun k hk=>?_,fun p hp=>?_⟩
 . rcases hnew k hk with h'|⟨i,hi⟩|h'
   . exact h.new k h'
   . cases hi
   . exact .inr (Nat.le_trans h.wf.size h')
 . obtain⟨p1,p3,p4⟩:=h.own p hp;have hl:=(Array.getElem?_eq_some_iff.1 p4).1;refine⟨?_,p3,?_⟩
   . cases hs:S' p.1 with
     | none=>rfl
     | some q=>exact absurd p1 (hnw _ hl (by rw[hs];simp))
   . rw[hwf'.same p.1 hl (fun h=>h)];exact p4
end
end Go.Lift
