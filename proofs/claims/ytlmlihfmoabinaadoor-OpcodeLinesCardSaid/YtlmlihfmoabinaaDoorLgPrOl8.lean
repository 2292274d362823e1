import Derived.Test.YtlmlihfmoabinaaDoorLgPrOl6
import Derived.Test.YtlmlihfmoabinaaDoorLgPrOl7
import Derived.Lib.DecodeN
import Derived.Test.YtlmlihfmoabinaaDoorLgPrOl1
import Derived.Test.YtlmlihfmoabinaaDoorLgPrOl2
import Derived.Test.YtlmlihfmoabinaaDoorChecked
import Derived.KernelRfl
set_option linter.all false
namespace Go.Proofs.YtlmlihfmoabinaaDoorLg
noncomputable section
open Go Go.Lift Go.Lib Go.Proofs.YtlmlihfmoabinaaDoorPx
set_option maxRecDepth 10000000 in
theorem z1l7:∀ b:Fin 256,glob5.getD b.1 0=((firstT b.1:Nat):Int):=by decide +kernel
theorem z1f6 (b:UInt8):List.getD glob5 (Int.toNat ((b.toNat:Nat):Int)) 0=((firstT b.toNat:Nat):Int):=by
 rw[Int.toNat_natCast];exact z1l7 ⟨b.toNat,b.toNat_lt⟩
theorem zd6 (N:Nat){s:List UInt8}{c:Nat}{sz lo hi:Nat}(hs:1<=s.length)(hx:firstT (s.getD 0 0).toNat=c)(h240:c<240)(e0:inR (shrI .u8 (c:Int) 4) 16=true)
 (e1:IntKind.wrap .i64 (bitsOp .and .u8 (c:Int) 7)=(sz:Int)) (e2:List.getD glob6 (Int.toNat (shrI .u8 (c:Int) 4)) ((0:Int),((0:Int),()))=((lo:Int),(hi:Int),())) (hz:2<=sz) (hz4:sz<=4) :
 ∃ r,zl N s=some (r,(((slowN s.length (s.getD 0 0).toNat (s.getD 1 0).toNat (s.getD 2 0).toNat (s.getD 3 0).toNat sz lo hi).2:Nat):Int),()):=by
 have hb:=z9t (s.getD 0 0);simp only[zl,z1f6,hx,e0,e1,e2];rw[zg (zy (by omega)),z8 (ze8 (by omega) (by omega)),z8 (z16 hb),zg (zy (by omega)),cond_true];unfold slowN;by_cases h1:s.length<sz
 . rw[z8 (zj (by omega)),if_pos h1];exact⟨_,rfl⟩
 rw[zg (zy (by omega)),if_neg h1,z8 (ze8 (by omega) (by omega))];simp only[z2m,z2l];by_cases h2:(s.getD 1 0).toNat<lo
 . rw[z8 (zj (by omega)),if_pos (Or.inl h2)];exact⟨_,rfl⟩
 rw[zg (zy (by omega))];by_cases h3:hi<(s.getD 1 0).toNat
 . rw[z8 (zj (by omega)),if_pos (Or.inr h3)];exact⟨_,rfl⟩
 rw[zg (zy (by omega)),if_neg (by omega)];by_cases h4:sz<=2
 . rw[z8 (zj (by omega)),if_pos h4];exact⟨_,rfl⟩
 rw[zg (zy (by omega)),if_neg h4,z8 (ze8 (by omega) (by omega))];simp only[z2k,z2j];by_cases h5:(s.getD 2 0).toNat<128
 . rw[z8 (zj (by omega)),if_pos (Or.inl h5)];exact⟨_,rfl⟩
 rw[zg (zy (by omega))];by_cases h6:191<(s.getD 2 0).toNat
 . rw[z8 (zj (by omega)),if_pos (Or.inr h6)];exact⟨_,rfl⟩
 rw[zg (zy (by omega)),if_neg (by omega)];by_cases h7:sz<=3
 . rw[z8 (zj (by omega)),if_pos h7];exact⟨_,rfl⟩
 rw[zg (zy (by omega)),if_neg h7,z8 (ze8 (by omega) (by omega))];simp only[z2i,z2h];by_cases h8:(s.getD 3 0).toNat<128
 . rw[z8 (zj (by omega)),if_pos (Or.inl h8)];exact⟨_,rfl⟩
 rw[zg (zy (by omega))];by_cases h9:191<(s.getD 3 0).toNat
 . rw[z8 (zj (by omega)),if_pos (Or.inr h9)];exact⟨_,rfl⟩
 rw[zg (zy (by omega)),if_neg (by omega)];exact⟨_,rfl⟩
theorem z1k5 (N:Nat){s:List UInt8}(hs:1<=s.length)(hx:firstT (s.getD 0 0).toNat=241):∃ r,zl N s=some (r,1,()):=by
 have hb:=z9t (s.getD 0 0);simp only[zl,z1f6,hx];rw[zg (zy (by omega)),z8 (ze8 (by omega) (by omega)),z8 (z16 hb),z8 (zj (by omega)),z8 (ze8 (by omega) (by omega))];exact⟨_,rfl⟩
abbrev dN (s:List UInt8)(i:Nat):Nat×Nat:=decodeN (s.length - i) (s.getD i 0).toNat (s.getD (i+1) 0).toNat (s.getD (i+2) 0).toNat (s.getD (i+3) 0).toNat
theorem z1lf {n b0 b1 b2 b3:Nat}(h:(128<=b0/\b0<194)\/245<=b0)(hb:b0<256)(h1:b1<256):(decodeN n b0 b1 b2 b3).2=1:=by
 unfold decodeN
 repeat' split
 all_goals first|rfl|(exfalso;omega)
theorem z1l8 (N:Nat){s:List UInt8}(hs:1<=s.length):∃ r,z1s N s=some (r,(((dN s 0).2:Nat):Int),()):=by
 have hb0:=z9t (s.getD 0 0);have hb1:=z9t (s.getD 1 0);have hb2:=z9t (s.getD 2 0);have hb3:=z9t (s.getD 3 0);have hne:(s == ([]:List UInt8))=false:=by
  rw[beq_eq_false_iff_ne];intro e;rw[e] at hs;simp at hs
 simp only[z1s,z3a,hne,Bool.not_false,cond_true,dN,Nat.sub_zero,Nat.zero_add];rw[z8 (ze8 (by omega) (by omega))];by_cases ha:(s.getD 0 0).toNat<128
 . rw[z8 (zj (by omega)),z8 (ze8 (by omega) (by omega)),decodeN_ascii _ _ _ _ _ ha];exact⟨_,rfl⟩
 rw[zg (zy (by omega))];have fin:∀ {m:Nat},(∃ r,zl N s=some (r,((m:Nat):Int),()))->m=(decodeN s.length (s.getD 0 0).toNat (s.getD 1 0).toNat (s.getD 2 0).toNat (s.getD 3 0).toNat).2->∃ r,((zl N s).bind fun y=>some (y.1,(y.2.1,())))=some (r,(((decodeN s.length (s.getD 0 0).toNat (s.getD 1 0).toNat (s.getD 2 0).toNat (s.getD 3 0).toNat).2:Nat):Int),()):=by
  rintro m ⟨r,e⟩ h;rw[e,<- h];exact⟨_,rfl⟩
 have hbad:firstT (s.getD 0 0).toNat=241->((128<=(s.getD 0 0).toNat/\(s.getD 0 0).toNat<194)\/245<=(s.getD 0 0).toNat)->∃ r,((zl N s).bind fun y=>some (y.1,(y.2.1,())))=some (r,(((decodeN s.length (s.getD 0 0).toNat (s.getD 1 0).toNat (s.getD 2 0).toNat (s.getD 3 0).toNat).2:Nat):Int),()) :=
  fun h1 h2=>fin (m:=1) (z1k5 N hs h1) (z1lf h2 hb0 hb1).symm
 by_cases c1:(s.getD 0 0).toNat<194
 . exact hbad (by unfold firstT;rw[if_neg ha,if_pos c1]) (by omega)
 by_cases c2:(s.getD 0 0).toNat<224
 . exact fin (zd6 N (c:=2) (sz:=2) (lo:=128) (hi:=191) hs (by unfold firstT;rw[if_neg ha,if_neg c1,if_pos c2]) (by omega) (by kernel_rfl) (by kernel_rfl) (by kernel_rfl) (by omega) (by omega)) (by rw[slow_C2 _ _ _ _ _ hs hb1 hb2 hb3 (by omega)])
 by_cases c3:(s.getD 0 0).toNat=224
 . exact fin (zd6 N (c:=19) (sz:=3) (lo:=160) (hi:=191) hs (by rw[c3];rfl) (by omega) (by kernel_rfl) (by kernel_rfl) (by kernel_rfl) (by omega) (by omega)) (by rw[slow_E0 _ _ _ _ _ hs hb1 hb2 hb3 c3])
 by_cases c4:(s.getD 0 0).toNat<237
 . exact fin (zd6 N (c:=3) (sz:=3) (lo:=128) (hi:=191) hs (by unfold firstT;rw[if_neg ha,if_neg c1,if_neg c2,if_neg c3,if_pos c4]) (by omega) (by kernel_rfl) (by kernel_rfl) (by kernel_rfl) (by omega) (by omega)) (by rw[slow_E1 _ _ _ _ _ hs hb1 hb2 hb3 (by omega)])
 by_cases c5:(s.getD 0 0).toNat=237
 . exact fin (zd6 N (c:=35) (sz:=3) (lo:=128) (hi:=159) hs (by rw[c5];rfl) (by omega) (by kernel_rfl) (by kernel_rfl) (by kernel_rfl) (by omega) (by omega)) (by rw[slow_ED _ _ _ _ _ hs hb1 hb2 hb3 c5])
 by_cases c6:(s.getD 0 0).toNat<240
 . exact fin (zd6 N (c:=3) (sz:=3) (lo:=128) (hi:=191) hs (by unfold firstT;rw[if_neg ha,if_neg c1,if_neg c2,if_neg c3,if_neg c4,if_neg c5,if_pos c6]) (by omega) (by kernel_rfl) (by kernel_rfl) (by kernel_rfl) (by omega) (by omega)) (by rw[slow_E1 _ _ _ _ _ hs hb1 hb2 hb3 (by omega)])
 by_cases c7:(s.getD 0 0).toNat=240
 . exact fin (zd6 N (c:=52) (sz:=4) (lo:=144) (hi:=191) hs (by rw[c7];rfl) (by omega) (by kernel_rfl) (by kernel_rfl) (by kernel_rfl) (by omega) (by omega)) (by rw[slow_F0 _ _ _ _ _ hs hb1 hb2 hb3 c7])
 by_cases c8:(s.getD 0 0).toNat<244
 . exact fin (zd6 N (c:=4) (sz:=4) (lo:=128) (hi:=191) hs (by unfold firstT;rw[if_neg ha,if_neg c1,if_neg c2,if_neg c3,if_neg c4,if_neg c5,if_neg c6,if_neg c7,if_pos c8]) (by omega) (by kernel_rfl) (by kernel_rfl) (by kernel_rfl) (by omega) (by omega)) (by rw[slow_F1 _ _ _ _ _ hs hb1 hb2 hb3 (by omega)])
 by_cases c9:(s.getD 0 0).toNat=244
 . exact fin (zd6 N (c:=68) (sz:=4) (lo:=128) (hi:=143) hs (by rw[c9];rfl) (by omega) (by kernel_rfl) (by kernel_rfl) (by kernel_rfl) (by omega) (by omega)) (by rw[slow_F4 _ _ _ _ _ hs hb1 hb2 hb3 c9])
 exact hbad (by unfold firstT;rw[if_neg ha,if_neg c1,if_neg c2,if_neg c3,if_neg c4,if_neg c5,if_neg c6,if_neg c7,if_neg c8,if_neg c9]) (by omega)
theorem z7a (l:List UInt8)(i j:Nat):(l.drop i).getD j 0=l.getD (i+j) 0:=by
 rw[List.getD_eq_getElem?_getD,List.getElem?_drop,<- List.getD_eq_getElem?_getD]
def z1p (s:List UInt8)(i:Nat):Nat:=(runeAt s i).2
theorem z18z (N:Nat){s:List UInt8}{i:Nat}(hi:i<s.length):zb7 N s (i:Int)=some ((z1p s i:Nat):Int):=by
 simp only[zb7,zmx,zmw];rw[zg (zy (by omega)),zg (zy (by omega)),z8 (zj (by omega)),Int.toNat_natCast,zyb];obtain⟨r,e⟩:=z1l8 N (s:=s.drop i) (by rw[List.length_drop];omega);rw[e,Option.bind_some];dsimp only;unfold z1p;rw[zyh];simp only[dN,z7a,List.length_drop,Nat.add_zero,Nat.zero_add,Nat.sub_zero]
end
end Go.Proofs.YtlmlihfmoabinaaDoorLg
set_option linter.all false
namespace Go.Proofs.YtlmlihfmoabinaaDoorLg
noncomputable section
open Go Go.Lift Go.Lib Go.Proofs.YtlmlihfmoabinaaDoorPx
def tl (b:Nat):Bool:=decide (128<=b/\b<=191)
def z1m7 (s:List UInt8):Nat->Nat->Bool
 | _,0=>true
 | a,n+1=>tl (s.getD a 0).toNat && z1m7 s (a+1) n
theorem z191 (N:Nat){s:List UInt8}{a n:Nat}(ha:a<=s.length)(hs:s.length<=10000000)(hn:n<=3)(hN:8<N):z1g N s (a:Int) (n:Int)=some (decide (a+n<=s.length) && z1m7 s a n):=by
 simp only[z1g,zg6];rw[z2p (x:=(s.length:Int) - (a:Int)) (by unfold I64;omega)];by_cases h:a+n<=s.length
 case neg=>rw[z8 (zj (by omega)),zy h];rfl
 rw[zg (zy (by omega)),zj h,Bool.true_and];rw[z4v (I:=fun (v:Int)=>∃ j:Nat,v=((a+j:Nat):Int)/\j<=n) (m:=fun v=>a+n - v.toNat) (R:=fun v=>some (z1m7 s v.toNat (a+n - v.toNat))) ?_ N (a:Int) ⟨0,rfl,by omega⟩ (by simp;omega)]
 . rw[Int.toNat_natCast,show a+n - a=n by omega]
 rintro v r ⟨j,rfl,hj⟩ hr;rw[Int.toNat_natCast] at hr ⊢;simp only[z9l,z9n,z9m];rw[z2p (x:=(a:Int)+(n:Int)) (by unfold I64;omega)];by_cases hlt:j<n
 . rw[z8 (zj (by omega)),z8 (z16 (by omega)),z8 (z16 (by omega)),Int.toNat_natCast,show a+n - (a+j)=(n - (j+1))+1 by omega];simp only[z1m7];by_cases h1:(s.getD (a+j) 0).toNat<128
   . rw[z8 (zj (by omega)),tl,zy (by omega)];rfl
   rw[zg (zy (by omega))];by_cases h2:191<(s.getD (a+j) 0).toNat
   . rw[z8 (zj (by omega)),tl,zy (by omega)];rfl
   rw[zg (zy (by omega)),z2p (x:=((a+j:Nat):Int)+1) (by unfold I64;omega)];have:=hr (((a+j:Nat):Int)+1) ⟨j+1,by omega,by omega⟩ (by omega);rw[this,show (((a+j:Nat):Int)+1).toNat=a+j+1 by omega,show a+n - (a+j+1)=n - (j+1) by omega,tl,zj (by omega),Bool.true_and]
 . rw[zg (zy (by omega)),show a+n - (a+j)=0 by omega];rfl
theorem z198 {n b0 b1 b2 b3:Nat}(h0:b0<256)(h1:b1<256)(h2:b2<256)(h3:b3<256)(hb:128<=b0) :
 ((decodeN n b0 b1 b2 b3).2=2 ↔ (194<=b0/\b0<=223/\1<n/\128<=b1/\b1<=191)) ∧
 ((decodeN n b0 b1 b2 b3).2=3 ↔ (224<=b0/\b0<=239/\2<n/\(128<=b1/\b1<=191)/\(128<=b2/\b2<=191)/\(b0≠224\/160<=b1)/\(b0≠237\/b1<160))) ∧
 ((decodeN n b0 b1 b2 b3).2=4 ↔ (240<=b0/\b0<=244/\3<n/\(128<=b1/\b1<=191)/\(128<=b2/\b2<=191)/\(128<=b3/\b3<=191)/\(b0≠240\/144<=b1)/\(b0≠244\/b1<144))) ∧
 ((decodeN n b0 b1 b2 b3).2=1\/(decodeN n b0 b1 b2 b3).2=2\/(decodeN n b0 b1 b2 b3).2=3\/(decodeN n b0 b1 b2 b3).2=4):=by
 generalize hd:decodeN n b0 b1 b2 b3=d;unfold decodeN at hd
 repeat' split at hd
 all_goals (subst hd;dsimp only;omega)
def rl (s:List UInt8)(i:Nat):Nat:=if (s.getD i 0).toNat<128 then 1 else if z1p s i=1 then 0 else z1p s i
theorem z1n0 (N:Nat)(s:List UInt8)(a b nx:Int)(t:Bool)(k0:Bool->Option Int)(h:z1g N s (IntKind.wrap .i64 (a+1)) 1=some t):z6m N s a b nx k0=k0 (decide (194<=b/\b<=223) && t):=by
 simp only[z6m,h,Option.bind_some];by_cases h1:194<=b
 . rw[z8 (zj h1)];by_cases h2:b<=223
   . rw[z8 (zj h2),zj ⟨h1,h2⟩,Bool.true_and]
   . rw[zg (zy h2),zy (fun e=>h2 e.2),Bool.false_and]
 . rw[zg (zy h1),zy (fun e=>h1 e.1),Bool.false_and]
theorem z1mz (N:Nat) (s:List UInt8) (a b nx:Int) (t:Bool) (k0:Bool->Option Int) (h:z1g N s (IntKind.wrap .i64 (a+1)) 2=some t):z6l N s a b nx k0=k0 (decide ((224<=b/\b<=239)/\t=true/\(b≠224\/160<=nx)/\(b≠237\/nx<160))):=by
 simp only[z6l,h,Option.bind_some];by_cases h1:224<=b
 case neg=>rw[zg (zy h1),zy (fun e=>h1 e.1.1)]
 rw[z8 (zj h1)];by_cases h2:b<=239
 case neg=>rw[zg (zy h2),zy (fun e=>h2 e.1.2)]
 rw[z8 (zj h2)];cases t with
 | false=>rw[cond_false,zy (fun e=>by simp at e)]
 | true =>
   rw[cond_true];by_cases h3:b=224
   . subst h3;rw[zg (by rfl)];by_cases h4:160<=nx
     . rw[z8 (zj h4),z8 (by rfl),zj ⟨by omega,rfl,by omega,by omega⟩]
     . rw[zg (zy h4),zy (fun e=>by have:=e.2.2;omega)]
   . rw[z8 (by rw[bne_iff_ne];exact h3)];by_cases h4:b=237
     . subst h4;rw[zg (by rfl)];by_cases h5:nx<160
       . rw[zj h5,zj ⟨by omega,rfl,by omega,by omega⟩]
       . rw[zy h5,zy (fun e=>by have:=e.2.2;omega)]
     . rw[z8 (by rw[bne_iff_ne];exact h4),zj ⟨by omega,rfl,by omega,by omega⟩]
theorem z1my (N:Nat) (s:List UInt8) (a b nx:Int) (t:Bool) (k0:Bool->Option Int) (h:z1g N s (IntKind.wrap .i64 (a+1)) 3=some t):z6k N s a b nx k0=k0 (decide ((240<=b/\b<=244)/\t=true/\(b≠240\/144<=nx)/\(b≠244\/nx<144))):=by
 simp only[z6k,h,Option.bind_some];by_cases h1:240<=b
 case neg=>rw[zg (zy h1),zy (fun e=>h1 e.1.1)]
 rw[z8 (zj h1)];by_cases h2:b<=244
 case neg=>rw[zg (zy h2),zy (fun e=>h2 e.1.2)]
 rw[z8 (zj h2)];cases t with
 | false=>rw[cond_false,zy (fun e=>by simp at e)]
 | true =>
   rw[cond_true];by_cases h3:b=240
   . subst h3;rw[zg (by rfl)];by_cases h4:144<=nx
     . rw[z8 (zj h4),z8 (by rfl),zj ⟨by omega,rfl,by omega,by omega⟩]
     . rw[zg (zy h4),zy (fun e=>by have:=e.2.2;omega)]
   . rw[z8 (by rw[bne_iff_ne];exact h3)];by_cases h4:b=244
     . subst h4;rw[zg (by rfl)];by_cases h5:nx<144
       . rw[zj h5,zj ⟨by omega,rfl,by omega,by omega⟩]
       . rw[zy h5,zy (fun e=>by have:=e.2.2;omega)]
     . rw[z8 (by rw[bne_iff_ne];exact h4),zj ⟨by omega,rfl,by omega,by omega⟩]
theorem z1n1 (N:Nat){s:List UInt8}{i:Nat}(hi:i<s.length)(hs:s.length<=10000000)(b nx:Int)(hnx:nx=0)(k0:Int->Option Int):z6n N s (i:Int) b nx k0=k0 (((s.getD (i+1) 0).toNat:Nat):Int):=by
 simp only[z6n];rw[z1b (by omega)];by_cases h:i+1<s.length
 . rw[z8 (zj (by omega)),z8 (z16 h),Int.toNat_natCast,zmp]
 . rw[zg (zy (by omega)),hnx,List.getD_eq_getElem?_getD,List.getElem?_eq_none (by omega)];rfl
theorem z10i (N:Nat){s:List UInt8}{i:Nat}(hi:i<s.length)(hs:s.length<=10000000)(hN:8<N):z4j N s (i:Int)=some ((rl s i:Nat):Int):=by
 have hb0:=z9t (s.getD i 0);have hb1:=z9t (s.getD (i+1) 0);have hb2:=z9t (s.getD (i+2) 0);have hb3:=z9t (s.getD (i+3) 0);have hw:IntKind.wrap .i64 ((i:Int)+1)=((i+1:Nat):Int):=z1b (by omega);have t1:z1g N s (IntKind.wrap .i64 ((i:Int)+1)) 1=some (decide (i+1+1<=s.length) && z1m7 s (i+1) 1):=by rw[hw];exact z191 N (n:=1) (by omega) hs (by omega) hN
 have t2:z1g N s (IntKind.wrap .i64 ((i:Int)+1)) 2=some (decide (i+1+2<=s.length) && z1m7 s (i+1) 2):=by rw[hw];exact z191 N (n:=2) (by omega) hs (by omega) hN
 have t3:z1g N s (IntKind.wrap .i64 ((i:Int)+1)) 3=some (decide (i+1+3<=s.length) && z1m7 s (i+1) 3):=by rw[hw];exact z191 N (n:=3) (by omega) hs (by omega) hN
 simp only[z4j];rw[z8 (z16 hi),Int.toNat_natCast,zmp];by_cases ha:(s.getD i 0).toNat<128
 . rw[z8 (zj (by omega)),rl,if_pos ha];rfl
 rw[zg (zy (by omega)),z1n1 N hi hs _ _ rfl];simp only[zan,zam];rw[z1n0 N s _ _ _ _ _ t1,z1mz N s _ _ _ _ _ t2,z1my N s _ _ _ _ _ t3];have hc:=z198 (n:=s.length - i) hb0 hb1 hb2 hb3 (by omega);have hu:z1p s i=(decodeN (s.length - i) (s.getD i 0).toNat (s.getD (i+1) 0).toNat (s.getD (i+2) 0).toNat (s.getD (i+3) 0).toNat).2:=by unfold z1p;rw[zyh]
 rw[<- hu] at hc;rw[rl,if_neg ha];simp only[z1m7,tl,Bool.and_true,Bool.and_eq_true,decide_eq_true_eq,show i+1+1=i+2 by omega,show i+2+1=i+3 by omega] at *;obtain⟨c2,c3,c4,c1⟩:=hc;generalize (s.getD i 0).toNat=b0 at *;generalize (s.getD (i+1) 0).toNat=b1 at *;generalize (s.getD (i+2) 0).toNat=b2 at *;generalize (s.getD (i+3) 0).toNat=b3 at *;generalize z1p s i=u at *;by_cases p2:194<=b0/\b0<=223/\1<s.length - i/\128<=b1/\b1<=191
 . have:=c2.2 p2;rw[z8 (by simp only[Bool.and_eq_true,decide_eq_true_eq];omega),this];rfl
 rw[zg (by rw[Bool.eq_false_iff];simp only[ne_eq,Bool.and_eq_true,decide_eq_true_eq];omega)];by_cases p3:224<=b0/\b0<=239/\2<s.length - i/\(128<=b1/\b1<=191)/\(128<=b2/\b2<=191)/\(b0≠224\/160<=b1)/\(b0≠237\/b1<160)
 . have:=c3.2 p3;rw[z8 (by rw[decide_eq_true_eq];omega),this];rfl
 rw[zg (by rw[decide_eq_false_iff_not];omega)];by_cases p4:240<=b0/\b0<=244/\3<s.length - i/\(128<=b1/\b1<=191)/\(128<=b2/\b2<=191)/\(128<=b3/\b3<=191)/\(b0≠240\/144<=b1)/\(b0≠244\/b1<144)
 . have:=c4.2 p4;rw[z8 (by rw[decide_eq_true_eq];omega),this];rfl
 rw[zg (by rw[decide_eq_false_iff_not];omega)];have:u=1:=by
  rcases c1 with h|h|h|h
  . exact h
  . exact absurd (c2.1 h) p2
  . exact absurd (c3.1 h) p3
  . exact absurd (c4.1 h) p4
 rw[if_pos this];rfl
theorem z3d {s:List UInt8}{i:Nat}(hi:i<s.length):1<=z1p s i/\i+z1p s i<=s.length:=by
 unfold z1p;by_cases h:(s.getD i 0).toNat<128
 . rw[z4e h];dsimp only;omega
 . have:=zd9 hi (by omega);exact⟨this.2.1,this.2.2.1⟩
theorem zgz {s:List UInt8}{i:Nat}(h:(s.getD i 0).toNat<128):z1p s i=1:=by unfold z1p;rw[z4e h]
theorem z1g0 (N:Nat){s:List UInt8}{i:Nat}(hi:i<s.length)(hs:s.length<=10000000)(hN:8<N):z6y N s (i:Int)=some ((z1p s i:Nat):Int):=by
 simp only[z6y,zai,zah];rw[zg (zy (by omega)),zg (zy (by omega)),z10i N hi hs hN,Option.bind_some,rl];have:=z3d hi;by_cases h:(s.getD i 0).toNat<128
 . rw[if_pos h,zgz h];rfl
 . rw[if_neg h];by_cases h1:z1p s i=1
   . rw[if_pos h1,h1];rfl
   . rw[if_neg h1,zg (by rw[beq_eq_false_iff_ne];omega)]
end
end Go.Proofs.YtlmlihfmoabinaaDoorLg
set_option linter.all false
namespace Go.Proofs.YtlmlihfmoabinaaDoorLg
noncomputable section
open Go Go.Lift Go.Lib Go.Proofs.YtlmlihfmoabinaaDoorPx
def hexDigits:List UInt8:=[48,49,50,51,52,53,54,55,56,57,97,98,99,100,101,102]
def hd (n:Nat):UInt8:=hexDigits.getD n 0
def zmo:List UInt8->List UInt8
 | []=>[]
 | u::r=>hd (u.toNat / 16)::hd (u.toNat % 16)::zmo r
theorem shr4 (n:Nat):shrI .u8 ((n:Nat):Int) 4=((n / 16:Nat):Int):=by
 have:shrI .u8 ((n:Nat):Int) 4=((n:Nat):Int).fdiv 16:=rfl;rw[this,Int.fdiv_eq_ediv_of_nonneg _ (by omega)];rfl
theorem z1p8 (u:UInt8):bitsOp .and .u8 ((u.toNat:Nat):Int) 15=((u.toNat % 16:Nat):Int):=by
 have:=z1p7 u 15;rw[show (((15:UInt8).toNat:Nat):Int)=15 from rfl] at this;rw[this,UInt8.toNat_and];congr 1;exact Nat.and_two_pow_sub_one_eq_mod u.toNat 4
theorem z1az (N:Nat){s:List UInt8}(hs:s.length<=10000000000)(hN:s.length<N):z64 N s=some (zmo s):=by
 simp only[z64,zkw];rw[z4v (I:=fun (v:List UInt8×Int)=>v.1.length=2*v.2.toNat/\0<=v.2/\v.2<=((s.length:Nat):Int)) (m:=fun (v:List UInt8×Int)=>s.length - v.2.toNat)
  (R:=fun (v:List UInt8×Int)=>some (v.1++zmo (s.drop v.2.toNat))) ?_ N _ ⟨by simp,by dsimp only;omega,by dsimp only;omega⟩ (by simpa using hN)]
 . simp
 rintro⟨out,v⟩ r ⟨hl,h0,h1⟩ hr;dsimp only at *;obtain⟨i,rfl⟩:=Int.eq_ofNat_of_zero_le h0;simp only[zbm,Int.toNat_natCast] at *;by_cases hlt:i<s.length
 . have hb:=z9t (s.getD i 0);have hq:((((s.getD i 0).toNat:Nat):Int)).tdiv 16=(((s.getD i 0).toNat / 16:Nat):Int):=by rw[Int.tdiv_eq_ediv_of_nonneg (by omega)];omega
   have hm:((((s.getD i 0).toNat:Nat):Int)).tmod 16=(((s.getD i 0).toNat % 16:Nat):Int):=by rw[Int.tmod_eq_emod_of_nonneg (by omega)];omega
   have one:∀ k,k<16->cut hexDigits k (k+1)=[hd k]:=by decide
   have e1:∀ k:Nat,k<16->IntKind.wrap .i64 ((k:Int)+1)=((k+1:Nat):Int):=fun k hk=>z1b (by omega)
   have hwq:IntKind.wrap .i64 ((((s.getD i 0).toNat / 16:Nat)):Int)=((((s.getD i 0).toNat / 16:Nat)):Int):=z2p (by unfold I64;omega);have e2:=e1 ((s.getD i 0).toNat / 16) (by omega);have e3:=e1 ((s.getD i 0).toNat % 16) (by omega);rw[z8 (zj (by omega)),z8 (z16 hlt),z8 (z16 hlt)];simp only[zmp,hq,hm,hwq,e2,e3,Int.toNat_natCast];have hc1:=one ((s.getD i 0).toNat / 16) (by omega);have hc2:=one ((s.getD i 0).toNat % 16) (by omega);have hlen:hexDigits.length=16:=rfl;unfold hexDigits at hc1 hc2 hlen;simp only[hlen];rw[hc1,hc2,z8 (zj ⟨by omega,by omega⟩),z8 (zj ⟨by omega,by omega⟩),z8 (zj (by simp;omega)),z8 (zj ⟨by omega,by omega⟩),z8 (zj ⟨by omega,by omega⟩),z8 (zj (by simp;omega)),z1b (by omega),hr _ ⟨by simp;omega,by omega,by omega⟩ (by dsimp only;omega),z32 s 0 i hlt];simp only[Int.toNat_natCast,zmo,List.append_assoc,List.cons_append,List.nil_append]
 . rw[zg (zy (by omega)),z5o s (by omega)];simp[zmo]
def zd8 (s:List UInt8)(i:Nat):Bool:=decide (0<rl s i/\32<=(s.getD i 0).toNat/\(s.getD i 0).toNat≠127)
theorem z1hk (N:Nat){s:List UInt8}{i:Nat}(hi:i<s.length)(hs:s.length<=10000000)(hN:8<N):z5f N s (i:Int)=some (zd8 s i):=by
 simp only[z5f];rw[z10i N hi hs hN,Option.bind_some];by_cases h:0<rl s i
 case neg=>rw[zg (zy (by omega)),zd8,zy (fun e=>h e.1)]
 rw[z8 (zj (by omega)),z8 (z16 hi),z8 (z16 hi),Int.toNat_natCast];by_cases h2:32<=(s.getD i 0).toNat
 case neg=>rw[zg (zy (by omega)),zd8,zy (fun e=>h2 e.2.1)]
 rw[z8 (zj (by omega))];by_cases h3:(s.getD i 0).toNat=127
 . rw[h3,zd8,zy (fun e=>e.2.2 h3)];rfl
 . rw[zd8,zj ⟨h,h2,h3⟩];congr 1;rw[bne_iff_ne];omega
theorem z1lg {s:List UInt8}{i:Nat}(h:128<=(s.getD i 0).toNat)(h1:z1p s i=1):(runeAt s i).1=65533:=by
 unfold z1p at h1;rw[zyh] at h1 ⊢;rcases decodeN_shape (s.length - i) (s.getD i 0).toNat (s.getD (i+1) 0).toNat (s.getD (i+2) 0).toNat (s.getD (i+3) 0).toNat with⟨h0,e⟩|⟨_,_,_,_,e⟩|⟨_,_,_,_,_,_,e⟩|⟨_,_,_,_,_,_,_,e⟩|e
 . omega
 . rw[e] at h1;simp at h1
 . rw[e] at h1;simp at h1
 . rw[e] at h1;simp at h1
 . rw[e]
theorem z19m (N:Nat) {s:List UInt8} {i:Nat} (hi:i<s.length):zaa N s (i:Int) (((runeAt s i).1:Nat):Int)=some (zd8 s i):=by
 simp only[zaa,zle,zld];by_cases h:(s.getD i 0).toNat<128
 . rw[z4e h];dsimp only;rw[zg (by rw[beq_eq_false_iff_ne];omega),cond_false];by_cases h2:32<=(s.getD i 0).toNat
   case neg=>rw[zg (zy (by omega)),zd8,zy (fun e=>h2 e.2.1)]
   rw[z8 (zj (by omega))];by_cases h3:(s.getD i 0).toNat=127
   . rw[h3,zd8,zy (fun e=>e.2.2 h3)];rfl
   . rw[zd8,zj ⟨by rw[rl,if_pos h];omega,h2,h3⟩];congr 1;rw[bne_iff_ne];omega
 . have hr:=zd9 hi (by omega);have hp:=z3d hi;rw[z18z N hi,Option.bind_some];by_cases h1:z1p s i=1
   . have hsf:zd8 s i=false:=zy (fun e=>by have h0:=e.1;rw[rl,if_neg h,if_pos h1] at h0;omega);rw[z1lg (by omega) h1,h1,hsf];rfl
   . have hf:(((z1p s i:Nat):Int) == 1)=false:=by rw[beq_eq_false_iff_ne];omega
     have hsf:zd8 s i=true:=zj ⟨by rw[rl,if_neg h,if_neg h1];omega,by omega,by omega⟩;have tail:(cond (decide ((32:Int)<=(((runeAt s i).1:Nat):Int))) (some ((((runeAt s i).1:Nat):Int) != 127)) (some false))=some true:=by
      rw[z8 (zj (by omega))];congr 1;rw[bne_iff_ne];omega
     rw[hf,hsf];simp only[cond_false];rw[tail];cases ((((runeAt s i).1:Nat):Int) == 65533)<;>rfl
def zea (s:List UInt8)(i:Nat):List UInt8 :=
 cond ((s.getD i 0).toNat == 34 || (s.getD i 0).toNat == 92) [92,s.getD i 0] (cond (zd8 s i) ((s.drop i).take (z1p s i)) [92,120,hd ((s.getD i 0).toNat / 16),hd ((s.getD i 0).toNat % 16)])
def z192 (s:List UInt8):Nat->Nat->List UInt8
 | 0,_=>[]
 | f+1,i=>cond (decide (i<s.length)) (zea s i++z192 s f (i+z1p s i)) []
theorem z17y (s:List UInt8):∀ (f f' i:Nat),s.length - i<=f->s.length - i<=f'->z192 s f i=z192 s f' i
 | 0,f',i,h,h'=>by
   cases f' with
   | zero=>rfl
   | succ f'=>simp only[z192];rw[zy (by omega)];rfl
 | f+1,0,i,h,h'=>by simp only[z192];rw[zy (by omega)];rfl
 | f + 1,f'+1,i,h,h'=>by
   simp only[z192];by_cases hi:i<s.length
   . have:=z3d hi;rw[z17y s f f' (i+z1p s i) (by omega) (by omega)]
   . rw[zy hi];rfl
def z5s (s:List UInt8)(i:Nat):List UInt8:=z192 s s.length i
theorem zh0 {s:List UInt8}{i:Nat}(hi:i<s.length):z5s s i=zea s i++z5s s (i+z1p s i):=by
 have:=z3d hi;unfold z5s;rw[z17y s s.length (s.length+1) i (by omega) (by omega)];simp only[z192];rw[zj hi];rfl
theorem zls {s:List UInt8}{i:Nat}(hi:s.length<=i):z5s s i=[]:=by
 unfold z5s;cases h:s.length with
 | zero=>rfl
 | succ n=>simp only[z192];rw[zy (by omega)];rfl
theorem zr9 {s:List UInt8}{i:Nat}(hi:i<s.length):(zea s i).length<=4*z1p s i:=by
 have:=z3d hi;unfold zea;cases ((s.getD i 0).toNat == 34 || (s.getD i 0).toNat == 92)
 . cases zd8 s i
   . simp;omega
   . simp;omega
 . simp;omega
theorem ze6 (a b:List UInt8):ofStr (a++b)=ofStr a++ofStr b:=by simp[ofStr]
theorem z1mu (N:Nat) {s:List UInt8} (hs:s.length<=2000) (hN:2001<N):zh1 N s=some (34::(z5s s 0++[34])):=by
 simp only[zh1,zyv];rw[z4v (I:=fun (v:List Int×(List UInt8×Nat))=>∃ (o:List UInt8) (i:Nat),v=(ofStr o,(s,i))/\i<=s.length/\o.length<=4*i+1/\o++z5s s i=34::z5s s 0) (m:=fun v=>s.length - v.2.2) (R:=fun _=>some (34::(z5s s 0++[34]))) ?_ N ([34],(s,0)) ⟨[34],0,rfl,by omega,by simp,rfl⟩ (by dsimp only;omega)];rintro v r ⟨o,i,rfl,hi,ho,hT⟩ hr;dsimp only at hr ⊢;simp only[zmz,zn0];by_cases hlt:i<s.length
 . have hu := z3d hlt;have hpl:=zr9 hlt;have hb:=z9t (s.getD i 0);rw[zh0 hlt] at hT;have nxt:r (ofStr o++ofStr (zea s i),(s,i+(runeAt s i).2))=some (34::(z5s s 0++[34])) :=
    hr _ ⟨o++zea s i,i+z1p s i,by rw[ze6];rfl,hu.2,by rw[List.length_append];omega,by rw[List.append_assoc];exact hT⟩ (by show s.length - (i+z1p s i)<s.length - i;omega)
   rw[z8 (zj hlt)];have hq:((((runeAt s i).1:Nat):Int) == 34)=((s.getD i 0).toNat == 34)/\((((runeAt s i).1:Nat):Int) == 92)=((s.getD i 0).toNat == 92):=by
    by_cases h:(s.getD i 0).toNat<128
    . rw[z4e h];constructor<;>(rw[Bool.eq_iff_iff,beq_iff_eq,beq_iff_eq];dsimp only;omega)
    . have:=zd9 hlt (by omega);constructor<;>(rw[Bool.eq_iff_iff,beq_iff_eq,beq_iff_eq];omega)
   have main:∀ b:Bool,b=((s.getD i 0).toNat == 34 || (s.getD i 0).toNat == 92) →
    (cond b (cond (inR (i:Int) s.length) (cond (decide (((ofStr o).length+2)*1<=70368744177664)) (r (ofStr o++[92,(((s.getD (Int.toNat (i:Int)) 0).toNat:Nat):Int)],(s,i+(runeAt s i).2))) none) none)
     ((zaa N s (i:Int) (((runeAt s i).1:Nat):Int)).bind fun y=>cond y ((zb7 N s (i:Int)).bind fun y1=>cond (decide (0<=IntKind.wrap .i64 ((i:Int)+y1)/\IntKind.wrap .i64 ((i:Int)+y1)<=(s.length:Int))) (cond (decide ((0:Int)<=(i:Int)/\(i:Int)<=IntKind.wrap .i64 ((i:Int)+y1))) (cond (decide (((ofStr o).length+(ofStr (cut s (Int.toNat (i:Int)) (Int.toNat (IntKind.wrap .i64 ((i:Int)+y1))))).length)*1<=70368744177664)) (r (ofStr o++ofStr (cut s (Int.toNat (i:Int)) (Int.toNat (IntKind.wrap .i64 ((i:Int)+y1)))),(s,i+(runeAt s i).2))) none) none) none)
       (cond (inR (i:Int) s.length) (cond (inR (shrI .u8 (((s.getD (Int.toNat (i:Int)) 0).toNat:Nat):Int) 4) 16) (cond (inR (i:Int) s.length) (cond (inR (bitsOp .and .u8 (((s.getD (Int.toNat (i:Int)) 0).toNat:Nat):Int) 15) 16) (cond (decide (((ofStr o).length+4)*1<=70368744177664)) (r (ofStr o++[92,120,(((hexDigits.getD (Int.toNat (shrI .u8 (((s.getD (Int.toNat (i:Int)) 0).toNat:Nat):Int) 4)) 0).toNat:Nat):Int),(((hexDigits.getD (Int.toNat (bitsOp .and .u8 (((s.getD (Int.toNat (i:Int)) 0).toNat:Nat):Int) 15)) 0).toNat:Nat):Int)],(s,i+(runeAt s i).2))) none) none) none) none) none)))=some (34::(z5s s 0++[34])):=by
    intro b hbq;have hol:(ofStr o).length=o.length:=z4x o;cases b with
    | true =>
      have hpc:zea s i=[92,s.getD i 0]:=by unfold zea;rw[<- hbq];rfl
      rw[cond_true,z8 (z16 hlt),z8 (zj (by omega)),Int.toNat_natCast];rw[hpc] at nxt;exact nxt
    | false =>
      rw[cond_false,z19m N hlt,Option.bind_some];cases hsf:zd8 s i with
      | true =>
        have hpc:zea s i=(s.drop i).take (z1p s i):=by unfold zea;rw[<- hbq,hsf];rfl
        have hw:IntKind.wrap .i64 ((i:Int)+((z1p s i:Nat):Int))=((i+z1p s i:Nat):Int):=by rw[z2p (by unfold I64;omega)];omega
        rw[cond_true,z18z N hlt,Option.bind_some,hw,z8 (zj (by omega)),z8 (zj (by omega)),Int.toNat_natCast,Int.toNat_natCast,zya,z8 (zj (by rw[hol,z4x,List.length_take,List.length_drop];omega))];rw[hpc] at nxt;exact nxt
      | false =>
        have hpc:zea s i=[92,120,hd ((s.getD i 0).toNat / 16),hd ((s.getD i 0).toNat % 16)]:=by unfold zea;rw[<- hbq,hsf];rfl
        rw[cond_false,z8 (z16 hlt),Int.toNat_natCast,shr4,z1p8,z8 (z16 (by omega)),z8 (z16 hlt),z8 (z16 (by omega)),z8 (zj (by omega)),Int.toNat_natCast,Int.toNat_natCast];rw[hpc] at nxt;exact nxt
   rw[hq.1,hq.2];cases h34:((s.getD i 0).toNat == 34) with
   | true=>exact main true (by rw[h34];rfl)
   | false=>exact main _ (by rw[h34];rfl)
 . rw[zls (by omega),List.append_nil] at hT;rw[zg (zy hlt),z8 (zj (by rw[z4x];omega)),zp1,zcg,hT];rfl
theorem z1g1 (N:Nat) {s:List UInt8} (hs:s.length<=2000) (hN:2001<N):z5g N s=some (34::(z5s s 0++[34])):=by
 simp only[z5g,zi3];rw[z4v (I:=fun (v:List UInt8×Int)=>∃ (o:List UInt8) (i:Nat),v=(o,(i:Int))/\i<=s.length/\o.length<=4*i+1/\o++z5s s i=34::z5s s 0) (m:=fun v=>s.length - v.2.toNat) (R:=fun _=>some (34::(z5s s 0++[34]))) ?_ N ([34],0) ⟨[34],0,rfl,by omega,by simp,rfl⟩ (by dsimp only;omega)];rintro v r ⟨o,i,rfl,hi,ho,hT⟩ hr;dsimp only at hr ⊢;rw[Int.toNat_natCast] at hr;simp only[zaj,zal,zak];by_cases hlt:i<s.length
 . have hu:=z3d hlt;have hpl:=zr9 hlt;have hb:=z9t (s.getD i 0);rw[zh0 hlt] at hT;have hw:IntKind.wrap .i64 ((i:Int)+((z1p s i:Nat):Int))=((i+z1p s i:Nat):Int):=by rw[z2p (by unfold I64;omega)];omega
   have nxt:r (o++zea s i,((i+z1p s i:Nat):Int))=some (34::(z5s s 0++[34])) :=
    hr _ ⟨o++zea s i,i+z1p s i,rfl,hu.2,by rw[List.length_append];omega,by rw[List.append_assoc];exact hT⟩ (by dsimp only;rw[Int.toNat_natCast];omega)
   have hone:cut s i (i+1)=[s.getD i 0]:=by rw[zya,z32 s 0 i hlt];rfl
   rw[z8 (zj (by omega)),z1g0 N hlt (by omega) (by omega),Option.bind_some,hw,z1b (by omega),z8 (z16 hlt),z8 (z16 hlt),Int.toNat_natCast,Int.toNat_natCast,Int.toNat_natCast,hone,z1hk N hlt (by omega) (by omega),Option.bind_some,z1az N (by simp) (by simp;omega),Option.bind_some];have q34:((((s.getD i 0).toNat:Nat):Int) == 34)=((s.getD i 0).toNat == 34):=by rw[Bool.eq_iff_iff,beq_iff_eq,beq_iff_eq];omega
   have q92:((((s.getD i 0).toNat:Nat):Int) == 92)=((s.getD i 0).toNat == 92):=by rw[Bool.eq_iff_iff,beq_iff_eq,beq_iff_eq];omega
   rw[q34,q92];unfold zea at nxt;cases h34:((s.getD i 0).toNat == 34) with
   | true =>
     rw[h34,Bool.true_or] at nxt;rw[cond_true];rw[cond_true] at nxt;rw[cond_true,z8 (zj (by omega)),z8 (zj (by omega)),z8 (zj (by omega)),z8 (zj (by simp;omega)),List.append_assoc];exact nxt
   | false =>
     rw[h34,Bool.false_or] at nxt;rw[cond_false];cases h92:((s.getD i 0).toNat == 92) with
     | true =>
       rw[h92] at nxt;rw[cond_true] at nxt;rw[cond_true,z8 (zj (by omega)),z8 (zj (by omega)),z8 (zj (by omega)),z8 (zj (by simp;omega)),List.append_assoc];exact nxt
     | false =>
       rw[h92,cond_false] at nxt;rw[cond_false];cases hsf:zd8 s i with
       | true =>
         rw[hsf,cond_true] at nxt;rw[cond_true,z8 (zj (by omega)),z8 (zj (by omega)),zya,z8 (zj (by rw[List.length_take,List.length_drop];omega))];exact nxt
       | false =>
         rw[hsf,cond_false] at nxt;rw[cond_false,z8 (zj (by omega)),z8 (zj (by omega)),z8 (zj (by omega)),z8 (zj (by simp[zmo];omega)),List.append_assoc];exact nxt
 . rw[zls (by omega),List.append_nil] at hT;rw[zg (zy (by omega)),z8 (zj (by omega)),hT];rfl
end
end Go.Proofs.YtlmlihfmoabinaaDoorLg
set_option linter.all false
namespace Go.Proofs.YtlmlihfmoabinaaDoorLg
noncomputable section
open Go Go.Lift Go.Lib Go.Proofs.YtlmlihfmoabinaaDoorPx
def dig (u:UInt8):Option Nat:=if 48<=u.toNat/\u.toNat<=57 then some (u.toNat - 48) else if 97<=u.toNat/\u.toNat<=102 then some (u.toNat - 87) else none
def zd4:List UInt8->Option (List UInt8)
 | []=>some []
 | [_]=>none
 | x :: y::r=>match dig x,dig y with
   | some h,some l=>(match zd4 r with
     | some b=>some (UInt8.ofNat (h*16+l)::b)
     | none=>none)
   | _,_=>none
theorem z1m0:∀ n,n<16->dig (hd n)=some n:=by decide
theorem z1f3 {u:UInt8} {n:Nat} (h:dig u=some n):n<16/\hd n=u:=by
 unfold dig at h;have key:∀ m,m<256->∀ n,(if 48<=m/\m<=57 then some (m - 48) else if 97<=m/\m<=102 then some (m - 87) else none)=some n->n<16/\(hd n).toNat=m:=by
  intro m hm n h;split at h
  . cases h;have:∀ k,k<10->k<16/\(hd k).toNat=k+48:=by decide
    have:=this (m - 48) (by omega);omega
  . split at h
    . cases h;have:∀ k,k<16->10<=k->k<16/\(hd k).toNat=k+87:=by decide
      have:=this (m - 87) (by omega) (by omega);omega
    . cases h
 have:=key u.toNat (z9t u) n h;exact⟨this.1,UInt8.toNat_inj.1 this.2⟩
theorem z1ad:∀ s:List UInt8,zd4 (zmo s)=some s
 | []=>rfl
 | u::r=>by
   have:=z9t u;simp only[zmo,zd4,z1m0 _ (by omega:u.toNat / 16<16),z1m0 _ (by omega:u.toNat % 16<16),z1ad r];rw[show u.toNat / 16*16+u.toNat % 16=u.toNat by omega,UInt8.ofNat_toNat]
theorem z1bh:∀ (n:Nat) (s b:List UInt8),s.length<=n->zd4 s=some b->zmo b=s
 | _,[],b,_,h=>by cases h;rfl
 | _,[_],b,_,h=>by simp[zd4] at h
 | 0,_::_::_,b,hl,_=>by simp at hl
 | n + 1,x::y::r,b,hl,h=>by
   simp only[zd4] at h;split at h
   . rename_i p q hp hq;split at h
     . rename_i c hc;cases h;obtain⟨h1,h2⟩:=z1f3 hp;obtain⟨h3,h4⟩:=z1f3 hq;have e:(UInt8.ofNat (p*16+q)).toNat=p*16+q:=by rw[UInt8.toNat_ofNat'];omega
       simp only[zmo,e,show (p*16+q) / 16=p by omega,show (p*16+q) % 16=q by omega,h2,h4];rw[z1bh n r c (by simp at hl;omega) hc]
     . cases h
   . cases h
theorem z8a:∀ s:List UInt8,(zmo s).length=2*s.length
 | []=>rfl
 | _::r=>by simp only[zmo,List.length_cons,z8a r];omega
theorem z11q:∀ (n:Nat) (s b:List UInt8),s.length<=n->zd4 s=some b->2*b.length=s.length:=fun n s b hn h=>by
 have:=z1bh n s b hn h;rw[<- this,z8a]
theorem z1h7:∀ (n:Nat) (s:List UInt8),s.length<=n->s.length % 2=1->zd4 s=none:=fun n s hn h=>by
 cases hu:zd4 s with
 | none=>rfl
 | some b=>have:=z11q n s b hn hu;omega
theorem z1p1 (N:Nat){s:List UInt8}(hs:s.length<=10000000000)(hN:s.length<N):zrx N s=some (zmo s):=by
 simp only[zrx,z121];rw[z2p (x:=2*((s.length:Nat):Int)) (by unfold I64;omega),z8 (zj ⟨by omega,by omega,by omega,by omega⟩)];rw[z4v (I:=fun (v:List Int×Int)=>v.1.length=2*v.2.toNat/\0<=v.2/\v.2<=((s.length:Nat):Int)) (m:=fun (v:List Int×Int)=>s.length - v.2.toNat)
  (R:=fun (v:List Int×Int)=>some (toStr v.1++zmo (s.drop v.2.toNat))) ?_ N _ ⟨by simp,by dsimp only;omega,by dsimp only;omega⟩ (by simpa using hN)]
 . simp[toStr]
 rintro⟨out,v⟩ r ⟨hl,h0,h1⟩ hr;dsimp only at *;obtain⟨i,rfl⟩:=Int.eq_ofNat_of_zero_le h0;simp only[zrw,Int.toNat_natCast] at *;by_cases hlt:i<s.length
 . have hb:=z9t (s.getD i 0);rw[z8 (zj (by omega)),z8 (z16 hlt),shr4,z1p8,z8 (z16 (by omega)),z8 (z16 hlt),z8 (z16 (by omega)),z8 (zj (by omega)),z1b (by omega),hr _ ⟨by simp;omega,by omega,by omega⟩ (by dsimp only;omega),z32 s 0 i hlt];simp only[Int.toNat_natCast,zp1,zmo,List.append_assoc];congr 2;have:∀ a b:UInt8,toStr [((a.toNat:Nat):Int),((b.toNat:Nat):Int)]=[a,b]:=by intro a b;simp[toStr]
   rw[this];rfl
 . rw[zg (zy (by omega)),z5o s (by omega)];simp[zmo]
theorem z1fa (N:Nat)(u:UInt8):zcw N ((u.toNat:Nat):Int)=some (match dig u with|some n=>((n:Int),true,())|none=>(0,false,())):=by
 have hu:=z9t u;simp only[zcw,zll,zlk,zlj,dig,cond_false];by_cases h1:48<=u.toNat/\u.toNat<=57
 . rw[if_pos h1,z8 (zj (by omega)),z8 (zj (by omega)),z18y];simp only[Option.some.injEq,Prod.mk.injEq,and_true];omega
 . rw[if_neg h1];have e:∀ (X Y:Option (Int×Bool×Unit)),cond (decide ((48:Int)<=((u.toNat:Nat):Int))) (cond (decide (((u.toNat:Nat):Int)<=57)) X Y) Y=Y:=by
    intro X Y;by_cases h2:48<=u.toNat
    . rw[z8 (zj (by omega)),zg (zy (by omega))]
    . rw[zg (zy (by omega))]
   rw[e];by_cases h3:97<=u.toNat/\u.toNat<=102
   . rw[if_pos h3,z8 (zj (by omega)),z8 (zj (by omega)),z18y,z18y];simp only[Option.some.injEq,Prod.mk.injEq,and_true];omega
   . rw[if_neg h3];by_cases h2:97<=u.toNat
     . rw[z8 (zj (by omega)),zg (zy (by omega))]
     . rw[zg (zy (by omega))]
theorem z1n8:∀ h,h<16->∀ l,l<16->bitsOp .or .u8 (shlI .u8 ((h:Nat):Int) 4) ((l:Nat):Int)=((h*16+l:Nat):Int):=by decide +kernel
def z1e1 (o:Option (List UInt8)):List UInt8×Bool×Unit:=match o with
 | some b=>(b,true,())
 | none=>([],false,())
theorem z1e0 (N:Nat) {s:List UInt8} (hs:s.length<=10000000000) (hN:s.length<N):zcx N s=some (z1e1 (zd4 s)):=by
 simp only[zcx,zwd];have hm:((s.length:Nat):Int).tmod 2=((s.length % 2:Nat):Int):=by rw[Int.tmod_eq_emod_of_nonneg (by omega)];omega
 have hq:((s.length:Nat):Int).tdiv 2=((s.length / 2:Nat):Int):=by rw[Int.tdiv_eq_ediv_of_nonneg (by omega)];omega
 rw[hm,hq];by_cases ho:s.length % 2=1
 . rw[z8 (by rw[ho];rfl),z1h7 _ s (Nat.le_refl _) ho];rfl
 rw[zg (by rw[show s.length % 2=0 by omega];rfl),z2p (x:=((s.length / 2:Nat):Int)) (by unfold I64;omega),z8 (zj ⟨by omega,by omega,by omega,by omega⟩)];simp only[Int.toNat_natCast,List.length_replicate];rw[z4v (I:=fun (v:List Int×Int)=>v.1.length=s.length / 2/\0<=v.2/\v.2<=((s.length / 2:Nat):Int)) (m:=fun (v:List Int×Int)=>s.length - v.2.toNat)
  (R:=fun (v:List Int×Int)=>some (match zd4 (s.drop (2*v.2.toNat)) with|some b=>(toStr (v.1.take v.2.toNat)++b,true,())|none=>([],false,()))) ?_ N _ ⟨by simp,by dsimp only;omega,by dsimp only;omega⟩ (by simpa using hN)]
 . simp only[Int.toNat_zero,Nat.mul_zero,List.drop_zero,List.take_zero];cases zd4 s<;>rfl
 rintro⟨out,v⟩ r ⟨hl,h0,h1⟩ hr;dsimp only at *;obtain⟨i,rfl⟩:=Int.eq_ofNat_of_zero_le h0;simp only[zlm,Int.toNat_natCast] at *;by_cases hlt:i<s.length / 2
 . have hw1:IntKind.wrap .i64 (2*(i:Int))=((2*i:Nat):Int):=by rw[z2p (by unfold I64;omega)];omega
   have h2i:2*i<s.length:=by omega
   have h2i1:2*i+1<s.length:=by omega
   have hio:i<out.length:=by omega
   rw[z8 (zj (by omega)),hw1,z8 (z16 h2i),z1b (by omega),Int.toNat_natCast,Int.toNat_natCast,z1fa,Option.bind_some,z8 (z16 h2i1),z1fa,Option.bind_some];rw[z32 s 0 (2*i) h2i,z32 s 0 (2*i+1) h2i1];simp only[zd4,zlo,zln];cases hx:dig (s.getD (2*i) 0) with
   | none=>rfl
   | some h =>
     cases hy:dig (s.getD (2*i+1) 0) with
     | none=>rfl
     | some l =>
       obtain⟨hh,_⟩:=z1f3 hx;obtain⟨hl',_⟩:=z1f3 hy;simp only[Bool.not_true,cond_false];rw[z8 (z16 hio),z8 (zj hio),z1n8 h hh l hl',z1b (by omega),hr _ ⟨by simpa using hl,by omega,by omega⟩ (by dsimp only;omega)];simp only[Int.toNat_natCast,show 2*(i+1)=2*i+1+1 by omega,z193 _ _ _ hio,zp1];cases zd4 (s.drop (2*i+1+1)) with
       | none=>rfl
       | some b =>
         have:toStr [((h*16+l:Nat):Int)]=[UInt8.ofNat (h*16+l)]:=by simp only[toStr,List.map_cons,List.map_nil,Int.toNat_natCast]
         simp only[this,List.append_assoc,List.cons_append,List.nil_append]
 . have hi:i=s.length / 2:=by omega
   rw[zg (zy (by omega)),z5o s (by omega),List.take_of_length_le (by omega)];simp[zd4]
end
end Go.Proofs.YtlmlihfmoabinaaDoorLg
set_option linter.all false
namespace Go.Proofs.YtlmlihfmoabinaaDoorLg
noncomputable section
open Go Go.Lift Go.Lib Go.Proofs.YtlmlihfmoabinaaDoorPx
theorem z1ek {q:List UInt8}{i:Nat}(h:(q.getD i 0).toNat<128):rl q i=1:=by rw[rl,if_pos h]
theorem z1hm {s q:List UInt8}{i p:Nat}(hi:i<s.length)(hr:0<rl s i)(hp:p+z1p s i<=q.length)(hb:∀ j,j<z1p s i->q.getD (p+j) 0=s.getD (i+j) 0):rl q p=rl s i/\rl s i=z1p s i:=by
 have hu:=z3d hi;have e0:q.getD p 0=s.getD i 0:=hb 0 (by omega);by_cases ha:(s.getD i 0).toNat<128
 . rw[z1ek ha,z1ek (by rw[e0];exact ha),zgz ha];exact⟨rfl,rfl⟩
 have hq:rl s i=z1p s i/\z1p s i≠1:=by
  rw[rl,if_neg ha] at hr ⊢;by_cases h1:z1p s i=1
  . rw[if_pos h1] at hr;omega
  . rw[if_neg h1];exact⟨rfl,h1⟩
 have hs1:=z9t (s.getD i 0);have hs2:=z9t (s.getD (i+1) 0);have hs3:=z9t (s.getD (i+2) 0);have hs4:=z9t (s.getD (i+3) 0);have hq2:=z9t (q.getD (p+1) 0);have hq3:=z9t (q.getD (p+2) 0);have hq4:=z9t (q.getD (p+3) 0);have cs:=z198 (n:=s.length - i) hs1 hs2 hs3 hs4 (by omega);have cq:=z198 (n:=q.length - p) hs1 hq2 hq3 hq4 (by omega);have us:z1p s i=(decodeN (s.length - i) (s.getD i 0).toNat (s.getD (i+1) 0).toNat (s.getD (i+2) 0).toNat (s.getD (i+3) 0).toNat).2:=by unfold z1p;rw[zyh]
 have uq:z1p q p=(decodeN (q.length - p) (s.getD i 0).toNat (q.getD (p+1) 0).toNat (q.getD (p+2) 0).toNat (q.getD (p+3) 0).toNat).2:=by unfold z1p;rw[zyh,e0]
 rw[<- us] at cs;rw[<- uq] at cq;have key:z1p q p=z1p s i:=by
  obtain⟨s2,s3,s4,s1⟩:=cs;obtain⟨q2,q3,q4,q1⟩:=cq;rcases s1 with h|h|h|h
  . exact absurd h hq.2
  . have b1:=hb 1 (by omega);rw[b1] at q2;have:=s2.1 h;rw[h];exact q2.2 ⟨this.1,this.2.1,by omega,this.2.2.2⟩
  . have b1:=hb 1 (by omega);have b2:=hb 2 (by omega);rw[b1,b2] at q3;have:=s3.1 h;rw[h];exact q3.2 ⟨this.1,this.2.1,by omega,this.2.2.2⟩
  . have b1:=hb 1 (by omega);have b2:=hb 2 (by omega);have b3:=hb 3 (by omega);rw[b1,b2,b3] at q4;have:=s4.1 h;rw[h];exact q4.2 ⟨this.1,this.2.1,by omega,this.2.2.2⟩
 have hqa:¬ (q.getD p 0).toNat<128:=by rw[e0];exact ha
 constructor
 . rw[rl,if_neg hqa,key,if_neg hq.2,hq.1]
 . exact hq.1
theorem z11r {s:List UInt8}:∀ (n i:Nat),s.length - i<=n->(z5s s i).length<=4*(s.length - i)
 | n,i,h=>by
   by_cases hi:i<s.length
   . have hu:=z3d hi;have hp:=zr9 hi;cases n with
     | zero=>omega
     | succ n =>
       rw[zh0 hi,List.length_append];have:=z11r (s:=s) n (i+z1p s i) (by omega);omega
   . rw[zls (by omega)];simp
theorem z1p2:∀ n,n<16->32<=(hd n).toNat/\(hd n).toNat<127/\(hd n).toNat≠34/\(hd n).toNat≠92:=by decide
end
end Go.Proofs.YtlmlihfmoabinaaDoorLg
set_option linter.all false
namespace Go.Proofs.YtlmlihfmoabinaaDoorLg
noncomputable section
open Go Go.Lift Go.Lib Go.Proofs.YtlmlihfmoabinaaDoorPx
theorem z1fb (N:Nat):∀ m,m<16->zcm N (((hd m).toNat:Nat):Int)=some ((m:Int),true,()):=by
 intro m hm;obtain rfl|rfl|rfl|rfl|rfl|rfl|rfl|rfl|rfl|rfl|rfl|rfl|rfl|rfl|rfl|rfl:m=0\/m=1\/m=2\/m=3\/m=4\/m=5\/m=6\/m=7\/m=8\/m=9\/m=10\/m=11\/m=12\/m=13\/m=14\/m=15:=by omega
 all_goals kernel_rfl
theorem nib:∀ a b:Fin 16,bitsOp .or .u8 (shlI .u8 (bitsOp .or .u8 (shlI .u8 (0:Int) 4) (a.1:Int)) 4) (b.1:Int)=((16*a.1+b.1:Nat):Int):=by decide +kernel
theorem z69 {σ β:Type}(step:σ->(σ->Option β)->Option β)(n:Nat)(x:σ):iter step (n+1) x=step x (iter step n):=rfl
theorem esc1 (N:Nat){c:UInt8}{r:List UInt8}(h:c.toNat=34\/c.toNat=92):z5i N (c::r)=some (((c.toNat:Nat):Int),1,0,()):=by
 have hne:((c::r) == ([]:List UInt8))=false:=rfl;simp only[z5i,z7q,z7p,hne,cond_false,List.getD_cons_zero];have hin:inR (0:Int) (c::r).length=true:=ze8 (by omega) (by simp);simp only[hin,cond_true];rcases h with h|h
 . rw[z8 (by rw[beq_iff_eq];omega)]
 . rw[zg (by rw[beq_eq_false_iff_ne];omega),z8 (by rw[beq_iff_eq];omega)]
theorem esc3 (k:Nat){n:Nat}{r:List UInt8}(hn:n<256):z5i (k+10) (120::hd (n / 16)::hd (n % 16)::r)=some ((n:Int),3,0,()):=by
 have hne:((120::hd (n / 16)::hd (n % 16)::r) == ([]:List UInt8))=false:=rfl;have hl:((120::hd (n / 16)::hd (n % 16)::r):List UInt8).length=r.length+3:=rfl;have hb:=nib ⟨n / 16,by omega⟩ ⟨n % 16,by omega⟩;dsimp only at hb;rw[show 16*(n / 16)+n % 16=n by omega] at hb;have g1:List.getD (120::hd (n / 16)::hd (n % 16)::r) (Int.toNat 1) 0=hd (n / 16):=rfl;have g2:List.getD (120::hd (n / 16)::hd (n % 16)::r) (Int.toNat 2) 0=hd (n % 16):=rfl;have w1:IntKind.wrap .i64 ((1:Int)+1)=2:=by kernel_rfl
 have w2:IntKind.wrap .i64 ((2:Int)+1)=3:=by kernel_rfl
 simp only[z5i,z7q,z7p,hne,cond_false,List.getD_cons_zero,hl];have hin:inR (0:Int) (r.length+3)=true:=ze8 (by omega) (by omega);simp only[hin,cond_true];rw[zg (by rfl),zg (by rfl),zg (by rfl)];simp only[zh7];rw[show k+10=(k+9)+1 from rfl,z69];simp only[zbe,hl,g1];rw[z8 (by rfl),zg (by rw[beq_eq_false_iff_ne];omega),z8 (ze8 (by omega) (by omega)),z1fb _ _ (by omega),Option.bind_some,Bool.not_true,cond_false,w1];rw[show k+9=(k+8)+1 from rfl,z69];simp only[hl,g2];rw[z8 (by rfl),zg (by rw[beq_eq_false_iff_ne];omega),z8 (ze8 (by omega) (by omega)),z1fb _ _ (by omega),Option.bind_some,Bool.not_true,cond_false,w2,hb];rw[show k+8=(k+7)+1 from rfl,z69];simp only[];rw[zg (by rfl)]
theorem z13t (X:List UInt8)(F i:Nat):runeAt (X.drop F) i=runeAt X (F+i):=by
 rw[zyh,zyh,z7a,z7a,z7a,z7a,List.length_drop,show X.length - F - i=X.length - (F+i) by omega];rfl
theorem z1cf {s:List UInt8}{i:Nat}(h:zd8 s i=false):z1p s i=1:=by
 by_cases ha:(s.getD i 0).toNat<128
 . exact zgz ha
 . rcases Nat.lt_or_ge 1 (z1p s i) with h1|h1
   . have:zd8 s i=true:=zj ⟨by rw[rl,if_neg ha,if_neg (by omega)];omega,by omega,by omega⟩;rw[this] at h;cases h
   . rcases Nat.lt_or_ge i s.length with hi|hi
     . have:=z3d hi;omega
     . exfalso;rw[List.getD_eq_getElem?_getD,List.getElem?_eq_none hi] at ha;exact ha (by decide)
theorem z1hc (s:List UInt8)(i n:Nat):ofStr (s.take i)++ofStr ((s.drop i).take n)=ofStr (s.take (i+n)):=by
 rw[<- ze6,List.take_add]
theorem z1e6 (s:List UInt8){i:Nat}(h:i<s.length):ofStr (s.take i)++[(((s.getD i 0).toNat:Nat):Int)]=ofStr (s.take (i+1)):=by
 rw[zp3 s 0 i h,ze6];rfl
theorem z1nq (k:Nat) {s a b X:List UInt8} {F:Nat} (hs:s.length<=2000) (hX:X.length<=300000) (hF:F<=X.length) (hd0:X.drop F=z5s s 0++34::b) :
 zcn (k+1000000) X (F:Int)=some (s,((F+(z5s s 0).length+1:Nat):Int),(0,0,()),()):=by
 have hul:(X.drop F).length=X.length - F:=List.length_drop ..;have hul2:X.length - F=(z5s s 0).length+(b.length+1):=by rw[<- hul,hd0,List.length_append];rfl
 simp only[zcn,zmv];rw[z8 (zj (by omega)),Int.toNat_natCast,zyb];rw[z4v (I:=fun (v:List Int×Int×(List UInt8×Nat))=>∃ (idx i nx:Nat) (h:List UInt8),v=(ofStr (s.take i),(nx:Int),(X.drop F,idx))/\i<=s.length/\idx<=X.length - F/\(X.drop F).drop idx=h++(z5s s i++34::b)/\(∀ x∈h,x.toNat<128)/\(h=[]->nx<=F+idx)/\(h≠[]->nx=F+idx+h.length)) (m:=fun v=>X.length - F - v.2.2.2) (R:=fun _=>some (s,((F+(z5s s 0).length+1:Nat):Int),(0,0,()),())) ?_ (k+1000000) ([],(F:Int),(X.drop F,0)) ⟨0,0,F,[],rfl,by omega,by omega,hd0,by simp,fun _=>by omega,fun h=>absurd rfl h⟩ (by dsimp only;omega)];rintro v r ⟨idx,i,nx,h,rfl,hi,hix,hd',hh,hn0,hn1⟩ hr;dsimp only at hr ⊢;have hlen:X.length - F - idx=h.length+((z5s s i).length+(b.length+1)):=by
  have:=congrArg List.length hd';rw[List.length_drop,hul,List.length_append,List.length_append] at this;exact this
 have hidx:idx<(X.drop F).length:=by omega
 have hg:∀ j,(X.drop F).getD (idx+j) 0=(h++(z5s s i++34::b)).getD j 0:=by intro j;rw[<- hd',z7a (X.drop F) idx j]
 have hg2:∀ j,X.getD (F+idx+j) 0=(h++(z5s s i++34::b)).getD j 0:=by intro j;rw[<- hg j,z7a,Nat.add_assoc]
 have hw:IntKind.wrap .i64 ((idx:Int)+(F:Int))=((F+idx:Nat):Int):=by rw[z2p (by unfold I64;omega)];omega
 have hw1:IntKind.wrap .i64 (((F+idx:Nat):Int)+1)=((F+idx+1:Nat):Int):=z1b (by omega);have hti:(s.take i).length<=2000:=by rw[List.length_take];omega
 simp only[zgu,hw,hw1];rw[z8 (zj hidx)];cases h with
 | cons x h' =>
   have h0:(X.drop F).getD idx 0=x:=by have:=hg 0;simpa using this
   have hx:=hh x (by simp);have:=hn1 (by simp);rw[z8 (zj (by simp at this;omega)),z4e (by rw[h0];exact hx)];refine hr _ ⟨idx+1,i,nx,h',rfl,hi,by omega,by rw[<- List.drop_drop,hd'];rfl,fun y hy=>hh y (by simp[hy]),fun e=>?_,fun e=>?_⟩ (by dsimp only;omega)
   . subst e;simp at this;omega
   . simp at this;omega
 | nil =>
   have hnx:=hn0 rfl;rw[List.nil_append] at hd' hg hg2;rw[zg (zy (by omega))];by_cases hlt:i<s.length
   . have hu:=z3d hlt;have hb:=z9t (s.getD i 0);rw[zh0 hlt,List.append_assoc] at hd' hg hg2;rw[zh0 hlt,List.length_append] at hlen;have hcut:∀ (p r':List UInt8),zea s i=92::p->(X.drop F).getD idx 0=92/\cut X (F+idx+1) X.length=p++(z5s s (i+z1p s i)++34::b):=by
      intro p r' hp;rw[hp] at hd' hg;refine⟨by have:=hg 0;simpa using this,?_⟩;rw[zyb,show F+idx+1=F+(idx+1) by omega,<- List.drop_drop,<- List.drop_drop,hd'];rfl
     by_cases hesc:((s.getD i 0).toNat == 34 || (s.getD i 0).toNat == 92)=true
     . have hpc:zea s i=[92,s.getD i 0]:=by unfold zea;rw[hesc];rfl
       obtain⟨h0,hc⟩:=hcut [s.getD i 0] [] hpc;have hq:(s.getD i 0).toNat=34\/(s.getD i 0).toNat=92:=by simpa using hesc
       have hu1:z1p s i=1:=zgz (by omega);rw[hpc] at hlen hd';rw[z4e (by rw[h0];decide),h0,zg (by rfl),z8 (by rfl),z8 (zj (by simp at hlen;omega)),Int.toNat_natCast,hc,List.cons_append,esc1 _ hq,Option.bind_some,zg (by rfl),zg (by rfl),z8 (zj (by rw[z4x];omega)),z1e6 s hlt];refine hr _ ⟨idx+1,i+1,F+idx+2,[s.getD i 0],?_,by omega,by simp at hlen;omega,by rw[<- List.drop_drop,hd',hu1];rfl,?_,fun e=>(by cases e),fun _=>rfl⟩ (by dsimp only;simp at hlen;omega)
       . dsimp only;rw[z2p (by unfold I64;omega)];congr 2
       . intro y hy;rw[List.mem_singleton] at hy;rw[hy];omega
     . rw[Bool.not_eq_true] at hesc;cases hsf:zd8 s i with
       | true =>
         have hpc:zea s i=(s.drop i).take (z1p s i):=by unfold zea;rw[hesc,hsf];rfl
         have hsf':=hsf;rw[zd8,decide_eq_true_eq] at hsf';have hne:(s.getD i 0).toNat≠34/\(s.getD i 0).toNat≠92:=by
          rw[Bool.or_eq_false_iff,beq_eq_false_iff_ne,beq_eq_false_iff_ne] at hesc;exact hesc
         have hpcl:((s.drop i).take (z1p s i)).length=z1p s i:=by rw[List.length_take,List.length_drop];omega
         rw[hpc] at hd' hg2 hlen;rw[hpcl] at hlen;have hbytes:∀ j,j<z1p s i->X.getD (F+idx+j) 0=s.getD (i+j) 0:=by
          intro j hj;rw[hg2 j,List.getD_eq_getElem?_getD,List.getElem?_append_left (by rw[hpcl];exact hj),List.getElem?_take_of_lt hj,List.getElem?_drop,<- List.getD_eq_getElem?_getD]
         have h0:X.getD (F+idx) 0=s.getD i 0:=hbytes 0 (by omega);have hsame:=z1hm (q:=X) (p:=F+idx) hlt hsf'.1 (by omega) hbytes;have hself:=z1hm (s:=X) (q:=X) (i:=F+idx) (p:=F+idx) (by omega) (by rw[hsame.1];exact hsf'.1) (by have:=z3d (s:=X) (i:=F+idx) (by omega);omega) (fun j _=>rfl);have hux:z1p X (F+idx)=z1p s i:=by rw[<- hself.2,hsame.1,hsame.2]
         have hsx:zd8 X (F+idx)=true:=zj ⟨by rw[hsame.1];exact hsf'.1,by rw[h0];exact hsf'.2.1,by rw[h0];exact hsf'.2.2⟩;have hrx:(runeAt (X.drop F) idx).2=z1p s i:=by rw[z13t];exact hux
         have hru:(runeAt X (F+idx)).1≠34/\(runeAt X (F+idx)).1≠92:=by
          by_cases hasc:(X.getD (F+idx) 0).toNat<128
          . rw[z4e hasc,h0];exact hne
          . have:=(zd9 (s:=X) (i:=F+idx) (by omega) (by omega)).1;omega
         have hcm:cut X (F+idx) (F+idx+z1p s i)=(s.drop i).take (z1p s i):=by
          rw[zya,<- List.drop_drop,hd',List.take_append_of_le_length (by omega),List.take_of_length_le (by omega)]
         have hw2:IntKind.wrap .i64 (((F+idx:Nat):Int)+((z1p s i:Nat):Int))=((F+idx+z1p s i:Nat):Int):=by rw[z2p (by unfold I64;omega)];omega
         rw[hrx,z13t,zg (by rw[beq_eq_false_iff_ne];omega),zg (by rw[beq_eq_false_iff_ne];omega),z19m _ (by omega),Option.bind_some,hsx,cond_true,z18z _ (by omega),Option.bind_some,hux,hw2,z8 (zj (by omega)),z8 (zj (by omega)),Int.toNat_natCast,Int.toNat_natCast,hcm,z8 (zj (by rw[z4x,z4x,hpcl];omega)),z1hc];refine hr _ ⟨idx+z1p s i,i+z1p s i,nx,[],rfl,hu.2,by omega,?_,by simp,fun _=>by omega,fun e=>absurd rfl e⟩ (by dsimp only;omega);rw[<- List.drop_drop,hd',List.drop_append_of_le_length (by omega),List.drop_of_length_le (by omega)]
       | false =>
         have hpc:zea s i=[92,120,hd ((s.getD i 0).toNat / 16),hd ((s.getD i 0).toNat % 16)]:=by unfold zea;rw[hesc,hsf];rfl
         obtain⟨h0,hc⟩:=hcut [120,hd ((s.getD i 0).toNat / 16),hd ((s.getD i 0).toNat % 16)] [] hpc;have hu1:z1p s i=1:=z1cf hsf;have he3:=esc3 (k+999990) (n:=(s.getD i 0).toNat) (r:=z5s s (i+z1p s i)++34::b) hb;rw[hpc] at hlen hd';rw[z4e (by rw[h0];decide),h0,zg (by rfl),z8 (by rfl),z8 (zj (by simp at hlen;omega)),Int.toNat_natCast,hc,List.cons_append,List.cons_append,List.cons_append,List.nil_append];rw[show k+999990+10=k+1000000 from rfl] at he3;rw[he3,Option.bind_some,zg (by rfl),zg (by rfl),z8 (zj (by rw[z4x];omega)),z1e6 s hlt];refine hr _ ⟨idx+1,i+1,F+idx+4,[120,hd ((s.getD i 0).toNat / 16),hd ((s.getD i 0).toNat % 16)],?_,by omega,by simp at hlen;omega,by rw[<- List.drop_drop,hd',hu1];rfl,?_,fun e=>(by cases e),fun _=>rfl⟩ (by dsimp only;simp at hlen;omega)
         . dsimp only;rw[z2p (by unfold I64;omega)];congr 2
         . intro y hy;simp only[List.mem_cons,List.mem_nil_iff,or_false] at hy;have k1:=z1p2 ((s.getD i 0).toNat / 16) (by omega);have k2:=z1p2 ((s.getD i 0).toNat % 16) (by omega);rcases hy with rfl|rfl|rfl
           . decide
           . omega
           . omega
   . have hie:i=s.length:=by omega
     rw[zls (by omega)] at hd' hg hlen;have h0:(X.drop F).getD idx 0=34:=by have:=hg 0;simpa using this
     rw[z4e (by rw[h0];decide),h0,z8 (by rfl),zcg,hie,List.take_length];simp at hlen;rw[show F+idx+1=F+(z5s s 0).length+1 by omega]
end
end Go.Proofs.YtlmlihfmoabinaaDoorLg
set_option linter.all false
namespace Go.Proofs.YtlmlihfmoabinaaDoorLg
noncomputable section
open Go Go.Lift Go.Lib Go.Proofs.YtlmlihfmoabinaaDoorPx
inductive Esc where
 | cut|bad|ok (b n:Nat)
def zmk (b:Nat):Nat:=if 48<=b/\b<=57 then b - 48 else if 97<=b/\b<=102 then b - 87 else 16
def z1gq:List UInt8->Esc
 | []=>.cut
 | c :: r=>if c.toNat=34\/c.toNat=92 then .ok c.toNat 2 else if c.toNat=120 then (match r with
   | []=>.cut
   | a::r=>if zmk a.toNat<16 then (match r with
     | []=>.cut
     | b::_=>if zmk b.toNat<16 then .ok (16*zmk a.toNat+zmk b.toNat) 4 else .bad) else .bad) else .bad
theorem z161 (c:UInt8)(r:List UInt8):z1gq (c::r)=(if c.toNat=34\/c.toNat=92 then .ok c.toNat 2 else if c.toNat=120 then (match r with
 | []=>.cut
 | a::r=>if zmk a.toNat<16 then (match r with
   | []=>.cut
   | b::_=>if zmk b.toNat<16 then .ok (16*zmk a.toNat+zmk b.toNat) 4 else .bad) else .bad) else .bad):=rfl
set_option maxRecDepth 10000000 in
theorem z1nl:∀ b:Fin 256,zcm 0 (b.1:Int)=some (if zmk b.1<16 then ((zmk b.1:Int),true,()) else (0,false,())):=by decide +kernel
theorem z1m1 (N:Nat)(u:UInt8):zcm N ((u.toNat:Nat):Int)=some (if zmk u.toNat<16 then ((zmk u.toNat:Int),true,()) else (0,false,())):=z1nl ⟨u.toNat,u.toNat_lt⟩
set_option maxRecDepth 10000000 in
theorem z1kh:∀ b:Fin 256,z4z 0 (b.1:Int)=some (if zmk b.1<16 then (zmk b.1:Int) else -1):=by decide +kernel
theorem z1hw (N:Nat)(u:UInt8):z4z N ((u.toNat:Nat):Int)=some (if zmk u.toNat<16 then (zmk u.toNat:Int) else -1):=z1kh ⟨u.toNat,u.toNat_lt⟩
theorem zsl {b:Nat}(h:zmk b<16):b<128:=by
 unfold zmk at h;split at h
 . omega
 . split at h<;>omega
theorem z1bq {t:List UInt8} {b n:Nat} (h:z1gq t=.ok b n):b<256/\2<=n/\n - 1<=t.length/\∀ j,j<n - 1->(t.getD j 0).toNat<128:=by
 cases t with
 | nil=>simp[z1gq] at h
 | cons c r =>
   simp only[z1gq] at h;split at h
   . rename_i hc;cases h;refine⟨by omega,by omega,by simp,fun j hj=>?_⟩;obtain rfl:j=0:=by omega
     simp only[List.getD_cons_zero];omega
   . split at h
     . rename_i hc;cases r with
       | nil=>simp at h
       | cons x r =>
         dsimp only at h;split at h
         . rename_i hx;cases r with
           | nil=>simp at h
           | cons y r =>
             dsimp only at h;split at h
             . rename_i hy;cases h;refine⟨by omega,by omega,by simp,fun j hj=>?_⟩;have:=zsl hx;have:=zsl hy;obtain rfl|rfl|rfl:j=0\/j=1\/j=2:=by omega
               . show c.toNat<128;omega
               . exact zsl hx
               . exact zsl hy
             . cases h
         . cases h
     . cases h
def escO:Esc->Int×Int×Int×Unit
 | .cut=>(0,0,1,())
 | .bad=>(0,0,2,())
 | .ok b n=>((b:Int),((n - 1:Nat):Int),0,())
theorem nib' {a b:Nat}(ha:a<16)(hb:b<16):bitsOp .or .u8 (shlI .u8 (bitsOp .or .u8 (shlI .u8 (0:Int) 4) (a:Int)) 4) (b:Int)=((16*a+b:Nat):Int):=nib ⟨a,ha⟩ ⟨b,hb⟩
theorem z1p6 (k:Nat) (t:List UInt8):z5i (k+10) t=some (escO (z1gq t)):=by
 cases t with
 | nil=>rfl
 | cons c r =>
   by_cases hq:c.toNat=34\/c.toNat=92
   . rw[esc1 _ hq,z161,if_pos hq];rfl
   have hne:((c::r) == ([]:List UInt8))=false:=rfl;have hin:inR (0:Int) (c::r).length=true:=ze8 (by omega) (by simp);simp only[z5i,z7q,z7p,hne,cond_false,List.getD_cons_zero,hin,cond_true];rw[zg (by rw[beq_eq_false_iff_ne];omega),zg (by rw[beq_eq_false_iff_ne];omega)];rw[z161,if_neg hq];by_cases hx:c.toNat=120
   case neg=>rw[if_neg hx,z8 (by rw[bne_iff_ne];omega)];rfl
   rw[if_pos hx,zg (by rw[hx];rfl)];simp only[zh7];have w1:IntKind.wrap .i64 ((1:Int)+1)=2:=by kernel_rfl
   have w2:IntKind.wrap .i64 ((2:Int)+1)=3:=by kernel_rfl
   rw[show k+10=(k+9)+1 from rfl,z69];simp only[zbe];rw[z8 (by rfl)];cases r with
   | nil=>rw[z8 (by rfl)];rfl
   | cons a r =>
     have hl:(c::a::r).length=r.length+2:=rfl;have g1:List.getD (c::a::r) (Int.toNat 1) 0=a:=rfl;rw[hl,zg (by rw[beq_eq_false_iff_ne];omega),z8 (ze8 (by omega) (by omega)),g1,z1m1,Option.bind_some];dsimp only;by_cases ha:zmk a.toNat<16
     case neg=>rw[if_neg ha,if_neg ha];rfl
     rw[if_pos ha,if_pos ha,w1];dsimp only;rw[zg (by rfl),show k+9=(k+8)+1 from rfl,z69];dsimp only;rw[z8 (by rfl)];cases r with
     | nil=>rw[z8 (by rfl)];rfl
     | cons b r =>
       have hl2:(b::r).length=r.length+1:=rfl;have g2:List.getD (c::a::b::r) (Int.toNat 2) 0=b:=rfl;rw[hl2,zg (by rw[beq_eq_false_iff_ne];omega),z8 (ze8 (by omega) (by omega)),g2,z1m1,Option.bind_some];dsimp only;by_cases hb:zmk b.toNat<16
       case neg=>rw[if_neg hb,if_neg hb];rfl
       rw[if_pos hb,if_pos hb,w2];dsimp only;rw[zg (by rfl),nib' ha hb,show k+8=(k+7)+1 from rfl,z69];dsimp only;rw[zg (by rfl)];rfl
def z1nx:Esc->List UInt8×Int×Unit
 | .cut=>([],-1,())
 | .bad=>([],0,())
 | .ok b n=>([UInt8.ofNat b],(n:Int),())
theorem z1hu (N:Nat) {s:List UInt8} {i:Nat} (hi:i<s.length) (hs:s.length<=10000000):z5m N s (i:Int)=some (z1nx (z1gq (s.drop (i+1)))):=by
 have hl:(s.drop (i+1)).length=s.length - (i+1):=List.length_drop ..;have hg:∀ j,s.getD (i+1+j) 0=(s.drop (i+1)).getD j 0:=fun j=>(z7a s (i+1) j).symm
 have hcut:cut s (i+1) (i+2)=(s.drop (i+1)).take 1:=zya s (i+1) 1;have e1:IntKind.wrap .i64 ((i:Int)+1)=((i+1:Nat):Int):=by rw[z2p (by unfold I64;omega)];omega
 have e2:IntKind.wrap .i64 ((i:Int)+2)=((i+2:Nat):Int):=by rw[z2p (by unfold I64;omega)];omega
 have e3:IntKind.wrap .i64 ((i:Int)+3)=((i+3:Nat):Int):=by rw[z2p (by unfold I64;omega)];omega
 have e0:IntKind.wrap .i64 ((s.length:Int) - (i:Int))=((s.length - i:Nat):Int):=by rw[z2p (by unfold I64;omega)];omega
 have g0:=hg 0;have g1:=hg 1;have g2:=hg 2;simp only[Nat.add_zero,show i+1+1=i+2 from rfl,show i+1+2=i+3 from rfl] at g0 g1 g2;simp only[z5m,z83,z82,e0,e1,e2,e3,Int.toNat_natCast,g0,g1,g2,hcut];generalize s.drop (i+1)=t at hl;cases t with
 | nil=>simp only[List.length_nil] at hl;rw[z8 (zj (by omega))];rfl
 | cons c r =>
   simp only[List.length_cons] at hl;rw[zg (zy (by omega)),z8 (z16 (by omega))];simp only[List.getD_cons_zero,z161];have tail:∀ b:Bool,b=(c.toNat == 34 || c.toNat == 92)->b=true->(cond b (cond (decide ((0:Int)<=((i+2:Nat):Int)/\((i+2:Nat):Int)<=(s.length:Int))) (cond (decide ((0:Int)<=((i+1:Nat):Int)/\((i+1:Nat):Int)<=((i+2:Nat):Int))) (some (List.take 1 (c::r),((2:Int),()))) none) none) (none:Option (List UInt8×Int×Unit)))=some ([UInt8.ofNat c.toNat],(2:Int),()):=by
    intro b _ hb;rw[hb,cond_true,z8 (zj (by omega)),z8 (zj (by omega))];simp
   by_cases hq:c.toNat=34\/c.toNat=92
   . rw[if_pos hq];have hq2:(cond ((((c.toNat:Nat):Int)) == 34) true (((c.toNat:Nat):Int) == 92))=true:=by
      rcases hq with h|h<;>rw[h]<;>rfl
     rcases hq with h|h
     . rw[z8 (by rw[h];rfl),cond_true,z8 (zj (by omega)),z8 (zj (by omega))];simp[z1nx]
     . rw[zg (by rw[h];rfl),z8 (z16 (by omega)),z8 (by rw[h];rfl),z8 (zj (by omega)),z8 (zj (by omega))];simp[z1nx]
   rw[if_neg hq,zg (by rw[beq_eq_false_iff_ne];omega),z8 (z16 (by omega)),zg (by rw[beq_eq_false_iff_ne];omega),z8 (z16 (by omega))];by_cases hx:c.toNat=120
   case neg=>rw[if_neg hx,z8 (by rw[bne_iff_ne];omega)];rfl
   rw[if_pos hx,zg (by rw[hx];rfl)];cases r with
   | nil=>simp only[List.length_nil] at hl;rw[z8 (zj (by omega))];rfl
   | cons a r =>
     simp only[List.length_cons] at hl;rw[zg (zy (by omega)),z8 (z16 (by omega))];have g1:List.getD (c::a::r) 1 0=a:=rfl;rw[g1,z1hw,Option.bind_some];dsimp only;by_cases ha:zmk a.toNat<16
     case neg=>rw[if_neg ha,if_neg ha];rfl
     rw[if_pos ha,if_pos ha,zg (zy (by omega))];cases r with
     | nil=>simp only[List.length_nil] at hl;rw[z8 (zj (by omega))];rfl
     | cons b r =>
       simp only[List.length_cons] at hl;have g2:List.getD (c::a::b::r) 2 0=b:=rfl;rw[zg (zy (by omega)),z8 (z16 (by omega)),g2,z1hw,Option.bind_some];dsimp only;by_cases hb:zmk b.toNat<16
       case neg=>rw[if_neg hb,if_neg hb];rfl
       rw[if_pos hb,if_pos hb,zg (zy (by omega))];have w1:IntKind.wrap .i64 ((16:Int)*((zmk a.toNat:Nat):Int))=((16*zmk a.toNat:Nat):Int):=by rw[z2p (by unfold I64;omega)];omega
       have w2:IntKind.wrap .i64 (((16*zmk a.toNat:Nat):Int)+((zmk b.toNat:Nat):Int))=((16*zmk a.toNat+zmk b.toNat:Nat):Int):=by rw[z2p (by unfold I64;omega)];omega
       rw[w1,w2,z10a (by omega) (by omega)];show some (([UInt8.ofNat (Int.toNat ((16*zmk a.toNat+zmk b.toNat:Nat):Int))]:List UInt8),_)=_;rw[Int.toNat_natCast];rfl
abbrev RdT:=List UInt8×Int×(Int×(Int×Unit))×Unit
def zpa (s:List UInt8):Nat->Nat->List UInt8->RdT
 | 0,_,_=>([],0,(1,(s.length:Int),()),())
 | f + 1,i,out=>if i<s.length then
     (if (s.getD i 0).toNat=34 then (out,((i+1:Nat):Int),(0,0,()),())
     else if (s.getD i 0).toNat=92 then (match z1gq (s.drop (i+1)) with
      | .cut=>([],0,(1,(s.length:Int),()),())
      | .bad=>([],0,(2,(i:Int),()),())
      | .ok b n=>zpa s f (i+n) (out++[UInt8.ofNat b]))
     else if zd8 s i=true then zpa s f (i+z1p s i) (out++(s.drop i).take (z1p s i))
     else ([],0,(2,(i:Int),()),()))
   else ([],0,(1,(s.length:Int),()),())
theorem zsi (s:List UInt8):∀ (f f' i:Nat) (o:List UInt8),s.length - i<=f->s.length - i<=f'->zpa s f i o=zpa s f' i o
 | 0,0,i,o,_,_=>rfl
 | 0,f'+1,i,o,h,_=>by simp only[zpa];rw[if_neg (by omega)]
 | f+1,0,i,o,_,h=>by simp only[zpa];rw[if_neg (by omega)]
 | f + 1,f'+1,i,o,h,h'=>by
   simp only[zpa];by_cases hi:i<s.length
   . rw[if_pos hi,if_pos hi];split;· rfl
     split
     . cases he:z1gq (s.drop (i+1)) with
       | cut=>rfl
       | bad=>rfl
       | ok b n =>
         have:=z1bq he;exact zsi s f f' (i+n) _ (by omega) (by omega)
     split
     . have:=z3d hi;exact zsi s f f' (i+z1p s i) _ (by omega) (by omega)
     . rfl
   . rw[if_neg hi,if_neg hi]
def zsq (s:List UInt8)(i:Nat)(o:List UInt8):RdT:=zpa s s.length i o
theorem z1b0 {s:List UInt8}{i:Nat}{o:List UInt8}(h:s.length<=i):zsq s i o=([],0,(1,(s.length:Int),()),()):=by
 unfold zsq;rw[zsi s s.length 0 i o (by omega) (by omega)];rfl
theorem z187 {s:List UInt8} {i:Nat} {o:List UInt8} (h:i<s.length):zsq s i o =
 (if (s.getD i 0).toNat=34 then (o,((i+1:Nat):Int),(0,0,()),())
  else if (s.getD i 0).toNat=92 then (match z1gq (s.drop (i+1)) with
   | .cut=>([],0,(1,(s.length:Int),()),())
   | .bad=>([],0,(2,(i:Int),()),())
   | .ok b n=>zsq s (i+n) (o++[UInt8.ofNat b]))
  else if zd8 s i=true then zsq s (i+z1p s i) (o++(s.drop i).take (z1p s i))
  else ([],0,(2,(i:Int),()),())):=by
 have hu:=z3d h;have e:zsq s i o=zpa s (s.length+1) i o:=zsi s _ _ i o (by omega) (by omega);rw[e];simp only[zpa,zsq];rw[if_pos h]
theorem z1ch {b:Nat}(h:b<256):ofStr [UInt8.ofNat b]=[(b:Int)]:=by
 have:(UInt8.ofNat b).toNat=b:=by rw[UInt8.toNat_ofNat'];omega
 show [(((UInt8.ofNat b).toNat:Nat):Int)]=_;rw[this]
theorem z1fd (k:Nat) {X:List UInt8} {F:Nat} (hX:X.length<=300000) (hF:F<=X.length) :
 zcn (k+1000000) X (F:Int)=some (zsq X F []):=by
 have hul:(X.drop F).length=X.length - F:=List.length_drop ..;simp only[zcn,zmv];rw[z8 (zj (by omega)),Int.toNat_natCast,zyb];rw[z4v (I:=fun (v:List Int×Int×(List UInt8×Nat))=>∃ (idx nx:Nat) (o:List UInt8),v=(ofStr o,(nx:Int),(X.drop F,idx))/\F+idx<=X.length/\nx<=X.length/\o.length<=max nx (F+idx)/\∀ j,F+idx<=j->j<nx->(X.getD j 0).toNat<128) (m:=fun v=>X.length - F - v.2.2.2) (R:=fun v=>some (zsq X (max v.2.1.toNat (F+v.2.2.2)) (toStr v.1))) ?_ (k+1000000) ([],(F:Int),(X.drop F,0)) ⟨0,F,[],rfl,by omega,by omega,by simp,fun j h1 h2=>by omega⟩ (by dsimp only;omega)]
 . dsimp only;rw[Int.toNat_natCast,Nat.add_zero,Nat.max_self];rfl
 rintro v r ⟨idx,nx,o,rfl,hix,hnx,hol,hh⟩ hr;dsimp only at hr ⊢;rw[Int.toNat_natCast];have hw:IntKind.wrap .i64 ((idx:Int)+(F:Int))=((F+idx:Nat):Int):=by rw[z2p (by unfold I64;omega)];omega
 have hw1:IntKind.wrap .i64 (((F+idx:Nat):Int)+1)=((F+idx+1:Nat):Int):=z1b (by omega);simp only[zgu,hw,hw1,z13t];rw[zcg];by_cases hlt:idx<(X.drop F).length
 case neg =>
  rw[zg (zy hlt),z1b0 (by omega)]
 have hp:F+idx<X.length:=by omega
 rw[z8 (zj hlt)];by_cases hpn:F+idx<nx
 . rw[z8 (zj (by omega)),z4e (hh _ (Nat.le_refl _) hpn)];have:=hr (ofStr o,(nx:Int),(X.drop F,idx+1)) ⟨idx+1,nx,o,rfl,by omega,by omega,by omega,fun j h1 h2=>hh j (by omega) h2⟩ (by dsimp only;omega);rw[this];dsimp only;rw[Int.toNat_natCast,zcg,show max nx (F+(idx+1))=max nx (F+idx) by omega]
 rw[zg (zy (by omega)),show max nx (F+idx)=F+idx by omega,z187 hp];have hu:=z3d hp;have hq:((((runeAt X (F+idx)).1:Nat):Int) == 34)=((X.getD (F+idx) 0).toNat == 34)/\((((runeAt X (F+idx)).1:Nat):Int) == 92)=((X.getD (F+idx) 0).toNat == 92):=by
  by_cases h:(X.getD (F+idx) 0).toNat<128
  . rw[z4e h];constructor<;>(rw[Bool.eq_iff_iff,beq_iff_eq,beq_iff_eq];dsimp only;omega)
  . have:=zd9 hp (by omega);constructor<;>(rw[Bool.eq_iff_iff,beq_iff_eq,beq_iff_eq];omega)
 rw[hq.1,hq.2];by_cases h34:(X.getD (F+idx) 0).toNat=34
 . rw[if_pos h34,z8 (by rw[beq_iff_eq];exact h34)]
 rw[if_neg h34,zg (by rw[beq_eq_false_iff_ne];exact h34)];by_cases h92:(X.getD (F+idx) 0).toNat=92
 . rw[if_pos h92,z8 (by rw[beq_iff_eq];exact h92),z8 (zj (by omega)),Int.toNat_natCast,zyb,show k+1000000=(k+999990)+10 from rfl,z1p6,Option.bind_some];have hdl:(X.drop (F+idx+1)).length=X.length - (F+idx+1):=List.length_drop ..;cases he:z1gq (X.drop (F+idx+1)) with
   | cut=>rfl
   | bad=>rfl
   | ok b n =>
     obtain⟨hb,hn2,hnl,hasc⟩:=z1bq he;have hw2:IntKind.wrap .i64 (((F+idx+1:Nat):Int)+((n - 1:Nat):Int))=((F+idx+n:Nat):Int):=by rw[z2p (by unfold I64;omega)];omega
     simp only[escO,hw2];rw[zg (by rfl),zg (by rfl),z8 (zj (by rw[z4x];omega)),<- z1ch hb,<- ze6,z4e (by omega)];have:=hr (ofStr (o++[UInt8.ofNat b]),((F+idx+n:Nat):Int),(X.drop F,idx+1)) ⟨idx+1,F+idx+n,o++[UInt8.ofNat b],rfl,by omega,by omega,by simp only[List.length_append,List.length_singleton];omega,fun j h1 h2=>?_⟩ (by dsimp only;omega)
     . rw[this];dsimp only;rw[Int.toNat_natCast,zcg,show max (F+idx+n) (F+(idx+1))=F+idx+n by omega]
     . have:=hasc (j - (F+idx+1)) (by omega);rw[z7a,show F+idx+1+(j - (F+idx+1))=j by omega] at this;exact this
 rw[if_neg h92,zg (by rw[beq_eq_false_iff_ne];exact h92),z19m _ hp,Option.bind_some];cases hsf:zd8 X (F+idx) with
 | false=>rfl
 | true =>
   have hw2:IntKind.wrap .i64 (((F+idx:Nat):Int)+((z1p X (F+idx):Nat):Int))=((F+idx+z1p X (F+idx):Nat):Int):=by rw[z2p (by unfold I64;omega)];omega
   have hpl:((X.drop (F+idx)).take (z1p X (F+idx))).length=z1p X (F+idx):=by rw[List.length_take,List.length_drop];omega
   rw[cond_true,z18z _ hp,Option.bind_some,hw2,z8 (zj (by omega)),z8 (zj (by omega)),Int.toNat_natCast,Int.toNat_natCast,zya,z8 (zj (by rw[z4x,z4x,hpl];omega)),<- ze6,if_pos rfl];have e:z1p X (F+idx)=(runeAt X (F+idx)).2:=rfl;have:=hr (ofStr (o++(X.drop (F+idx)).take (z1p X (F+idx))),(nx:Int),(X.drop F,idx+(runeAt X (F+idx)).2)) ⟨idx+(runeAt X (F+idx)).2,nx,_,rfl,by omega,by omega,by rw[List.length_append,hpl];omega,fun j h1 h2=>by omega⟩ (by dsimp only;omega);rw[this];dsimp only;rw[Int.toNat_natCast,zcg,show max nx (F+(idx+(runeAt X (F+idx)).2))=F+idx+z1p X (F+idx) by omega]
theorem z1n3 (k:Nat){s:List UInt8}{at_:Nat}(hs:s.length<=300000)(ha:at_<s.length)(h34:(s.getD at_ 0).toNat=34):zb8 (k+1000000) s (at_:Int)=some (zsq s (at_+1) []):=by
 have hw1:IntKind.wrap .i64 ((at_:Int)+1)=((at_+1:Nat):Int):=z1b (by omega);simp only[zb8,zbh,zbg];rw[zg (zy (by omega)),zg (zy (by omega)),zg (by rw[beq_eq_false_iff_ne];omega),z8 (z16 ha),Int.toNat_natCast,zg (by rw[h34];rfl),hw1,z1fd k (by omega) (by omega),Option.bind_some]
theorem z185 (N:Nat) {s:List UInt8} {at_:Nat} (hs:s.length<=300000) (hN:300002<N) (ha:at_<s.length) (h34:(s.getD at_ 0).toNat=34):z4k N s (at_:Int)=some (zsq s (at_+1) []):=by
 have hw1:IntKind.wrap .i64 ((at_:Int)+1)=((at_+1:Nat):Int):=z1b (by omega);simp only[z4k,z6p,z6o];rw[zg (zy (by omega)),zg (zy (by omega)),zg (by rw[beq_eq_false_iff_ne];omega),z8 (z16 ha),Int.toNat_natCast,zg (by rw[h34];rfl),hw1];simp only[zim];rw[z4v (I:=fun (v:List UInt8×Int)=>∃ (o:List UInt8) (i:Nat),v=(o,(i:Int))/\i<=s.length/\o.length<=i) (m:=fun v=>s.length - v.2.toNat) (R:=fun v=>some (zsq s v.2.toNat v.1)) ?_ N ([],((at_+1:Nat):Int)) ⟨[],at_+1,rfl,by omega,by simp⟩ (by dsimp only;omega)]
 . dsimp only;rw[Int.toNat_natCast]
 rintro v r ⟨o,i,rfl,hi,ho⟩ hr;dsimp only at hr ⊢;rw[Int.toNat_natCast] at hr ⊢;simp only[zap,zaq];by_cases hlt:i<s.length
 case neg=>rw[zg (zy (by omega)),z1b0 (by omega)]
 have hu:=z3d hlt;rw[z8 (zj (by omega)),z8 (z16 hlt),Int.toNat_natCast,z187 hlt];by_cases h34':(s.getD i 0).toNat=34
 . rw[if_pos h34',z8 (by rw[beq_iff_eq];omega),z1b (by omega)]
 rw[if_neg h34',zg (by rw[beq_eq_false_iff_ne];omega),z8 (zj (by omega)),z8 (zj (by omega)),z8 (z16 hlt)];by_cases h92:(s.getD i 0).toNat=92
 . rw[if_pos h92,z8 (by rw[beq_iff_eq];omega),z1hu _ hlt (by omega),Option.bind_some];have hdl:(s.drop (i+1)).length=s.length - (i+1):=List.length_drop ..;cases he:z1gq (s.drop (i+1)) with
   | cut=>rfl
   | bad=>rfl
   | ok b n =>
     obtain⟨hb,hn2,hnl,hasc⟩:=z1bq he;have hw2:IntKind.wrap .i64 ((i:Int)+(n:Int))=((i+n:Nat):Int):=by rw[z2p (by unfold I64;omega)];omega
     have hl1:(z1nx (.ok b n)).1.length=1:=rfl;have hn0:¬ ((z1nx (.ok b n)).2.1<0):=by show ¬ ((n:Int)<0);omega
     have hn1:((z1nx (.ok b n)).2.1 == 0)=false:=by show ((n:Int) == 0)=false;rw[beq_eq_false_iff_ne];omega
     rw[zg (zy hn0),zg hn1,z8 (zj (by rw[hl1];omega))];show r (o++[UInt8.ofNat b],IntKind.wrap .i64 ((i:Int)+(n:Int)))=_;rw[hw2];rw[hr (o++[UInt8.ofNat b],((i+n:Nat):Int)) ⟨_,i+n,rfl,by omega,by simp only[List.length_append,List.length_singleton];omega⟩ (by dsimp only;omega)];dsimp only;rw[Int.toNat_natCast]
 rw[if_neg h92,zg (by rw[beq_eq_false_iff_ne];omega),z1hk _ hlt (by omega) (by omega),Option.bind_some];cases hsf:zd8 s i with
 | false=>rfl
 | true =>
   have hrl:rl s i=z1p s i:=by
    have h:=hsf;rw[zd8,decide_eq_true_eq] at h;by_cases hasc:(s.getD i 0).toNat<128
    . rw[rl,if_pos hasc,zgz hasc]
    . have h0:=h.1;rw[rl,if_neg hasc] at h0 ⊢;split at h0
      . omega
      . rename_i hn;rw[if_neg hn]
   have hw2:IntKind.wrap .i64 ((i:Int)+((z1p s i:Nat):Int))=((i+z1p s i:Nat):Int):=by rw[z2p (by unfold I64;omega)];omega
   have hpl:((s.drop i).take (z1p s i)).length=z1p s i:=by rw[List.length_take,List.length_drop];omega
   rw[cond_true,z10i _ hlt (by omega) (by omega),Option.bind_some,hrl,hw2,z8 (zj (by omega)),z8 (zj (by omega)),Int.toNat_natCast,zya,zg (zy (by omega)),zg (by rw[beq_eq_false_iff_ne];omega),z8 (zj (by rw[hpl];omega)),if_pos rfl];rw[hr (o++(s.drop i).take (z1p s i),((i+z1p s i:Nat):Int)) ⟨_,i+z1p s i,rfl,by omega,by rw[List.length_append,hpl];omega⟩ (by dsimp only;omega)];dsimp only;rw[Int.toNat_natCast]
end
end Go.Proofs.YtlmlihfmoabinaaDoorLg
set_option linter.all false
namespace Go.Proofs.YtlmlihfmoabinaaDoorPx
noncomputable section
open Go Go.Lift
def z1h0 (c:Nat)(first:Bool):Bool:=decide (97<=c/\c<=122) || (decide ((48<=c/\c<=57)\/c=45) && !first)
theorem z1ac {c:Nat}(h:128<=c)(f:Bool):z1h0 c f=false:=by
 simp only[z1h0,Bool.or_eq_false_iff,decide_eq_false_iff_not,Bool.and_eq_false_iff];exact⟨by omega,.inl (by omega)⟩
def z1ll (p:Nat->Bool->Bool):List UInt8->Bool->Bool
 | [],_=>true
 | u::r,f=>p u.toNat f && z1ll p r false
def zow (s:List UInt8):Bool:=decide (1<=s.length/\s.length<=32) && z1ll z1h0 s true
end
end Go.Proofs.YtlmlihfmoabinaaDoorPx
set_option linter.all false
set_option maxRecDepth 100000
namespace Go.Proofs.YtlmlihfmoabinaaDoorLg
noncomputable section
open Go Go.Lift Go.Proofs.YtlmlihfmoabinaaDoorPx
theorem z1ce (N:Nat)(c:Nat)(f:Bool):zc1 N (c:Int) f=some (z1h0 c f):=by
 simp only[zc1,zee,zsj,z1h0,Bool.cond_eq_ite,decide_eq_true_eq,beq_iff_eq];have key:(if (48:Int)<=c then some (decide ((c:Int)<=57)) else some false)=some (decide (48<=c/\c<=57)):=by
  split
  . congr 1;rw[Bool.eq_iff_iff,decide_eq_true_eq,decide_eq_true_eq];omega
  . congr 1;rw[Bool.eq_iff_iff,decide_eq_true_eq];simp;omega
 rw[key];simp only[Option.bind_some,decide_eq_true_eq,Bool.false_eq_true,if_false];by_cases h1:97<=c/\c<=122
 . rw[if_pos (by omega),if_pos (by omega)];simp[h1]
 have hx:∀ X Y:Option Bool,(if (97:Int)<=c then if (c:Int)<=122 then Y else X else X)=X:=by
  intro X Y
  repeat' split
  all_goals first
   | rfl
   | omega
 rw[hx,decide_eq_false h1,Bool.false_or];by_cases h4:48<=c/\c<=57
 . rw[if_pos h4,decide_eq_true (p:=(48<=c/\c<=57)\/c=45) (.inl h4),Bool.true_and]
 . rw[if_neg h4];by_cases h5:c=45
   . subst h5;simp
   . rw[if_neg (by omega),decide_eq_false (by omega),Bool.false_and]
theorem z1bn (i:Nat):((((i:Nat):Int)) == 0)=decide (i=0):=by
 rw[Bool.eq_iff_iff,beq_iff_eq,decide_eq_true_eq];omega
theorem z1gz (N:Nat) {s:List UInt8} (hN:40<N):zc2 N s=some (zow s):=by
 simp only[zc2,zeh,zeg,zow];by_cases h0:s=[]
 . subst h0;rfl
 have hl:s.length≠0:=fun e=>h0 (List.length_eq_zero_iff.1 e)
 rw[zg (by simpa using h0)];by_cases h1:32<s.length
 . rw[z8 (zj (by omega)),decide_eq_false (by omega)];rfl
 rw[zg (zy (by omega)),decide_eq_true (p:=1<=s.length/\s.length<=32) (by omega),Bool.true_and];simp only[zny];rw[z4v (I:=fun (v:List UInt8×Nat)=>v.1=s/\v.2<=s.length) (m:=fun (v:List UInt8×Nat)=>s.length - v.2) (R:=fun (v:List UInt8×Nat)=>some (z1ll z1h0 (s.drop v.2) (decide (v.2=0)))) ?_ N (s,0) ⟨rfl,Nat.zero_le _⟩ (by dsimp only;omega)]
 . simp
 rintro⟨s',i⟩ r ⟨rfl,hi⟩ hr;dsimp only at *;simp only[zef,z1bn];by_cases hlt:i<s'.length
 . rw[z8 (zj hlt),z1ce,Option.bind_some,z32 s' 0 i hlt];simp only[z1ll];by_cases h128:(s'.getD i 0).toNat<128
   . rw[z4e h128];dsimp only;cases hp:z1h0 (s'.getD i 0).toNat (decide (i=0)) with
     | false=>rfl
     | true =>
       rw[Bool.not_true,cond_false,hr _ ⟨rfl,by dsimp only;omega⟩ (by dsimp only;omega)];dsimp only;rw[decide_eq_false (by omega),Bool.true_and]
   . obtain⟨g1,_⟩:=zd9 hlt (by omega);rw[z1ac g1,z1ac (by omega)];rfl
 . rw[zg (zy hlt),z5o s' (by omega)];rfl
theorem z1ma (N:Nat){s:List UInt8}(hN:40<N):zs3 N s=some (zow s):=by
 simp only[zs3,z1gz N hN,Option.bind_some]
theorem z1fz (N:Nat) {s:List UInt8} (hN:40<N):z6z N s=some (zow s):=by
 simp only[z6z,zav,zau,zow];by_cases h0:s.length=0
 . rw[z8 (zj (by omega)),decide_eq_false (by omega)];rfl
 rw[zg (zy (by omega))];by_cases h1:32<s.length
 . rw[z8 (zj (by omega)),decide_eq_false (by omega)];rfl
 rw[zg (zy (by omega)),decide_eq_true (p:=1<=s.length/\s.length<=32) (by omega),Bool.true_and];simp only[ziw];rw[z4v (I:=fun (v:Int)=>0<=v/\v<=((s.length:Nat):Int)) (m:=fun (v:Int)=>s.length - v.toNat) (R:=fun (v:Int)=>some (z1ll z1h0 (s.drop v.toNat) (decide (v.toNat=0)))) ?_ N 0 ⟨by omega,by omega⟩ (by omega)]
 . simp
 intro v r ⟨h2,h3⟩ hr;obtain⟨i,rfl⟩:=Int.eq_ofNat_of_zero_le h2;simp only[zar,zat,Int.toNat_natCast] at *;by_cases hlt:i<s.length
 . have p5:∀ k0:Bool->Option Bool,z6r N s (i:Int) k0=k0 (decide (97<=(s.getD i 0).toNat/\(s.getD i 0).toNat<=122)):=by
    intro k0;simp only[z6r,Int.toNat_natCast];rw[z8 (z16 hlt),z8 (z16 hlt)];by_cases h:97<=(s.getD i 0).toNat
    . rw[z8 (zj (by omega))];congr 1;rw[Bool.eq_iff_iff,decide_eq_true_eq,decide_eq_true_eq];omega
    . rw[zg (zy (by omega)),decide_eq_false (by omega)]
   have p6:∀ (b:Bool) (k0:Bool->Option Bool),z6q N s (i:Int) b k0=k0 (decide ((48<=(s.getD i 0).toNat/\(s.getD i 0).toNat<=57)\/(s.getD i 0).toNat=45)):=by
    intro b k0;simp only[z6q,Int.toNat_natCast];rw[z8 (z16 hlt),z8 (z16 hlt),z8 (z16 hlt)];by_cases h45:(s.getD i 0).toNat=45
    . rw[z8 (by rw[h45];rfl),decide_eq_true (by omega)]
    . rw[zg (by rw[beq_eq_false_iff_ne];omega)];by_cases h:48<=(s.getD i 0).toNat
      . rw[z8 (zj (by omega))];congr 1;rw[Bool.eq_iff_iff,decide_eq_true_eq,decide_eq_true_eq];omega
      . rw[zg (zy (by omega)),decide_eq_false (by omega)]
   rw[z8 (zj (by omega)),p5,p6,z32 s 0 i hlt];simp only[zas,z1bn,z1ll,z1h0];have hrec:r ((i+1:Nat):Int)=some (z1ll z1h0 (s.drop (i+1)) false):=by
    rw[hr _ ⟨by omega,by omega⟩ (by omega),Int.toNat_natCast,decide_eq_false (by omega)]
   rw[z1b (by omega),hrec];generalize decide (97<=(s.getD i 0).toNat/\(s.getD i 0).toNat<=122)=p;generalize decide ((48<=(s.getD i 0).toNat/\(s.getD i 0).toNat<=57)\/(s.getD i 0).toNat=45)=q;generalize decide (i=0)=f;cases p<;>cases q<;>cases f<;>rfl
 . rw[zg (zy (by omega)),z5o s (by omega)];rfl
end
end Go.Proofs.YtlmlihfmoabinaaDoorLg
set_option linter.all false
set_option maxRecDepth 100000
namespace Go.Proofs.YtlmlihfmoabinaaDoorLg
noncomputable section
open Go Go.Lift Go.Lib Go.Proofs.YtlmlihfmoabinaaDoorPx
abbrev OpT:=Int×(List UInt8×(Int×(List UInt8×(List (List UInt8)×Unit))))
abbrev zd1:=List UInt8×(Int×(Bool×(Bool×(Bool×(Bool×Unit)))))
def op0:OpT:=(0,[],0,[],[],())
def zy8:zd1:=([],0,false,false,false,false,())
theorem z101 {s:List UInt8}{i n:Nat}{c:UInt8}(hc:c∈(s.drop i).take n):∃ j,i<=j/\j<i+n/\j<s.length/\s.getD j 0=c:=by
 obtain⟨k,hk,e⟩:=List.getElem_of_mem hc;rw[List.length_take,List.length_drop] at hk;refine⟨i+k,by omega,by omega,by omega,?_⟩;rw[<- e,List.getElem_take,List.getElem_drop,List.getD_eq_getElem?_getD,List.getElem?_eq_getElem (by omega),Option.getD_some]
theorem z8j:∀ (s cur:List UInt8) (q e:Bool),(z2e s cur q e).length<=s.length+1
 | [],cur,_,_=>by simp[z2e]
 | c::r,cur,q,true=>by rw[z2e];have:=z8j r (cur++[c]) q false;simp only[List.length_cons];omega
 | c::r,cur,q,false=>by
   rw[z2e];have h1:=z8j r (cur++[c]) q true;have h2:=z8j r (cur++[c]) (!q) false;have h3:=z8j r [] q false;have h4:=z8j r (cur++[c]) q false;simp only[List.length_cons];split;· omega
   split;· omega
   split;· simp only[List.length_cons];omega
   omega
theorem zch:∀ (s cur:List UInt8) (q e:Bool),∀ w∈z2e s cur q e,w.length<=cur.length+s.length
 | [],cur,_,_,w,hw=>by simp[z2e] at hw;simp[hw]
 | c::r,cur,q,true,w,hw=>by rw[z2e] at hw;have:=zch r _ q false w hw;simp only[List.length_append,List.length_cons,List.length_nil] at this ⊢;omega
 | c :: r,cur,q,false,w,hw=>by
   rw[z2e] at hw;simp only[List.length_cons];split at hw;· have:=zch r _ q true w hw;simp only[List.length_append,List.length_cons,List.length_nil] at this;omega
   split at hw;· have:=zch r _ (!q) false w hw;simp only[List.length_append,List.length_cons,List.length_nil] at this;omega
   split at hw
   . rcases List.mem_cons.1 hw with rfl|hw
     . omega
     . have:=zch r [] q false w hw;simp only[List.length_nil] at this;omega
   . have:=zch r _ q false w hw;simp only[List.length_append,List.length_cons,List.length_nil] at this;omega
theorem z1ck {X r cur:List UInt8}{q e:Bool}(h:∀ c∈X,128<=c.toNat)(hX:X≠[]):z2e (X++r) cur q e=z2e r (cur++X) q false:=by
 have key:∀ c:UInt8,128<=c.toNat->c≠34/\(q=true->c≠92)/\(q=false->c≠32):=fun c hc=>⟨fun e=>by subst e;revert hc;decide,fun _ e=>by subst e;revert hc;decide,fun _ e=>by subst e;revert hc;decide⟩
 cases e with
 | false=>exact zb4 X r cur q (fun c hc=>key c (h c hc))
 | true =>
   cases X with
   | nil=>exact absurd rfl hX
   | cons c X =>
     rw[List.cons_append,z2e,zb4 X r _ q (fun d hd=>key d (h d (List.mem_cons_of_mem _ hd))),List.append_assoc];rfl
theorem cc {α:Type}{b q:Bool}{A B:α}(h:¬ (b=true/\q=true)):cond b (cond q A B) B=B:=by
 cases b<;>cases q<;>first|rfl|exact absurd ⟨rfl,rfl⟩ h
theorem z1ec (N:Nat) {s:List UInt8} (hs:s.length<=10000000) (hN:s.length<N):ze5 N s=some (z2e s [] false false):=by
 simp only[ze5,zrd];rw[z4v (I:=fun (v:List (List UInt8)×Int×Bool×Bool×(List UInt8×Nat))=>∃ (ps:List (List UInt8)) (f i:Nat) (q e:Bool),v=(ps,(f:Int),q,e,(s,i))/\f<=i/\i<=s.length/\ps.length<=i/\ps++z2e (s.drop i) (Lift.cut s f i) q e=z2e s [] false false) (m:=fun v=>s.length - v.2.2.2.2.2) (R:=fun _=>some (z2e s [] false false)) ?_ N ([],(0:Int),false,false,(s,0)) ⟨[],0,0,false,false,rfl,Nat.le_refl _,by omega,by simp,by simp[Lift.cut]⟩ (by dsimp only;omega)];rintro v r ⟨ps,f,i,q,e,rfl,hfi,hi,hps,hT⟩ hr;dsimp only at hr ⊢;simp only[zjo,zjq,zjp];by_cases hlt:i<s.length
 case neg =>
  have hie:i=s.length:=by omega
  subst hie;rw[zg (zy hlt),z8 (zj ⟨by omega,by omega⟩),z8 (zj (by omega)),Int.toNat_natCast,<- hT,List.drop_length,z2e]
 rw[z8 (zj hlt)];have hcut:∀ n,i+n<=s.length->Lift.cut s f (i+n)=Lift.cut s f i++(s.drop i).take n:=by
  intro n hn;unfold Lift.cut;rw[List.take_add,List.drop_append_of_le_length (by rw[List.length_take];omega)]
 by_cases h128:128<=(s.getD i 0).toNat
 . obtain⟨h1,h2,h3,h4⟩:=zd9 hlt h128;generalize hru:runeAt s i=ru at h1 h2 h3 h4;obtain⟨c,n⟩:=ru;dsimp only at h1 h2 h3 h4 ⊢;have hX:∀ c∈(s.drop i).take n,128<=c.toNat:=fun c hc=>by
    obtain⟨j,hj1,hj2,hj3,e⟩:=z101 hc;rw[<- e];exact h4 j hj1 hj2
   have hXn:(s.drop i).take n≠[]:=fun e=>by have:=congrArg List.length e;rw[List.length_take,List.length_drop] at this;simp at this;omega
   have hgo:ps++z2e (s.drop (i+n)) (Lift.cut s f (i+n)) q false=z2e s [] false false:=by
    rw[<- hT,hcut n h3,<- z1ck (e:=e) hX hXn,<- List.drop_drop,List.take_append_drop]
   have hr':=hr (ps,(f:Int),q,false,(s,i+n)) ⟨ps,f,i+n,q,false,rfl,by omega,h3,by omega,hgo⟩ (by dsimp only;omega);cases e with
   | true=>rw[cond_true];exact hr'
   | false =>
     have e1:(((c:Nat):Int) == 92)=false:=by rw[beq_eq_false_iff_ne];omega
     have e2:(((c:Nat):Int) == 34)=false:=by rw[beq_eq_false_iff_ne];omega
     have e3:(((c:Nat):Int) == 32)=false:=by rw[beq_eq_false_iff_ne];omega
     simp only[cond_false,e1,e2,e3];exact hr'
 . have hru:=z4e (s:=s) (i:=i) (by omega);rw[hru];dsimp only;have hd:=z32 s 0 i hlt;generalize hc:s.getD i 0=c at hd h128;have hc1:(s.drop i).take 1=[c]:=by rw[hd];rfl
   have hcut1:=hcut 1 (by omega);rw[hc1] at hcut1;rw[hd] at hT;cases e with
   | true =>
     rw[cond_true];rw[z2e,<- hcut1] at hT;exact hr (ps,(f:Int),q,false,(s,i+1)) ⟨ps,f,i+1,q,false,rfl,by omega,by omega,by omega,hT⟩ (by dsimp only;omega)
   | false =>
     have q92:((((c.toNat:Nat):Int)) == 92)=decide (c=92):=by rw[Bool.eq_iff_iff,beq_iff_eq,decide_eq_true_eq,<- UInt8.toNat_inj];show _ ↔ c.toNat=92;omega
     have q34:((((c.toNat:Nat):Int)) == 34)=decide (c=34):=by rw[Bool.eq_iff_iff,beq_iff_eq,decide_eq_true_eq,<- UInt8.toNat_inj];show _ ↔ c.toNat=34;omega
     have q32:((((c.toNat:Nat):Int)) == 32)=decide (c=32):=by rw[Bool.eq_iff_iff,beq_iff_eq,decide_eq_true_eq,<- UInt8.toNat_inj];show _ ↔ c.toNat=32;omega
     simp only[cond_false,q92,q34,q32];rw[z2e] at hT;by_cases c1:c=92/\q=true
     . rw[if_pos c1,<- hcut1] at hT;rw[z8 (zj c1.1),c1.2,cond_true];rw[c1.2] at hT;exact hr (ps,(f:Int),true,true,(s,i+1)) ⟨ps,f,i+1,true,true,rfl,by omega,by omega,by omega,hT⟩ (by dsimp only;omega)
     rw[if_neg c1] at hT;rw[cc (fun e=>c1 ⟨of_decide_eq_true e.1,e.2⟩)];by_cases c2:c=34
     . rw[if_pos c2,<- hcut1] at hT;rw[z8 (zj c2)];exact hr (ps,(f:Int),!q,false,(s,i+1)) ⟨ps,f,i+1,!q,false,rfl,by omega,by omega,by omega,hT⟩ (by dsimp only;omega)
     rw[if_neg c2] at hT;rw[zg (zy c2)];by_cases c3:c=32/\q=false
     . rw[if_pos c3] at hT;rw[z8 (zj c3.1),c3.2,Bool.not_false,cond_true,z8 (zj ⟨by omega,by omega⟩),z8 (zj ⟨by omega,by omega⟩),z8 (zj (by omega)),z1b (by omega),Int.toNat_natCast,Int.toNat_natCast];rw[c3.2] at hT;refine hr (ps++[Lift.cut s f i],((i+1:Nat):Int),false,false,(s,i+1)) ⟨ps++[Lift.cut s f i],i+1,i+1,false,false,rfl,by omega,by omega,by simp;omega,?_⟩ (by dsimp only;omega);rw[List.append_assoc,List.singleton_append,show Lift.cut s (i+1) (i+1)=[] by simp[Lift.cut]];exact hT
     rw[if_neg c3,<- hcut1] at hT;have hr':=hr (ps,(f:Int),q,false,(s,i+1)) ⟨ps,f,i+1,q,false,rfl,by omega,by omega,by omega,hT⟩ (by dsimp only;omega);by_cases h:c=32
     . rw[z8 (zj h)];cases q with
       | false=>exact absurd ⟨h,rfl⟩ c3
       | true=>exact hr'
     . rw[zg (zy h)];exact hr'
theorem z1f2:∀ n,n<16->hd n≠34/\hd n≠92/\hd n≠32:=by decide
theorem z11g:∀ (s:List UInt8),∀ c∈zmo s,c≠34/\c≠32/\c≠10
 | [],c,h=>by cases h
 | u::r,c,h=>by
   have hu:=z9t u;have k:∀ n,n<16->hd n≠34/\hd n≠32/\hd n≠10:=by decide
   rw[zmo] at h;rcases List.mem_cons.1 h with rfl|h
   . exact k _ (by omega)
   rcases List.mem_cons.1 h with rfl|h
   . exact k _ (by omega)
   . exact z11g r c h
theorem z1cx {s:List UInt8} {i:Nat} (hi:i<s.length) (r cur:List UInt8):z2e (zea s i++r) cur true false=z2e r (cur++zea s i) true false:=by
 have hb:=z9t (s.getD i 0);unfold zea;cases hq:((s.getD i 0).toNat == 34 || (s.getD i 0).toNat == 92) with
 | true=>rw[cond_true];exact z181 _ r cur
 | false =>
   rw[cond_false];rw[Bool.or_eq_false_iff,beq_eq_false_iff_ne,beq_eq_false_iff_ne] at hq;cases hsf:zd8 s i with
   | false =>
     rw[cond_false];have h1:=z1f2 ((s.getD i 0).toNat / 16) (by omega);have h2:=z1f2 ((s.getD i 0).toNat % 16) (by omega);show z2e (92::120::([hd ((s.getD i 0).toNat / 16),hd ((s.getD i 0).toNat % 16)]++r)) cur true false=_;rw[z181,zb4 _ _ _ true (fun c hc=>?_),List.append_assoc];rfl;simp only[List.mem_cons,List.not_mem_nil,or_false] at hc;rcases hc with rfl|rfl
     . exact⟨h1.1,fun _=>h1.2.1,fun e=>by cases e⟩
     . exact⟨h2.1,fun _=>h2.2.1,fun e=>by cases e⟩
   | true =>
     rw[cond_true];refine zb4 _ _ _ true (fun c hc=>?_);obtain⟨j,hj1,hj2,hj3,e⟩:=z101 hc;by_cases h128:(s.getD i 0).toNat<128
     . rw[zgz h128] at hj2;have:j=i:=by omega
       subst this;rw[e] at hq;exact⟨fun h=>hq.1 (by rw[h];rfl),fun _ h=>hq.2 (by rw[h];rfl),fun h=>by cases h⟩
     . have h4:=(zd9 hi (by omega)).2.2.2 j hj1 hj2;rw[e] at h4;exact⟨fun h=>by subst h;revert h4;decide,fun _ h=>by subst h;revert h4;decide,fun h=>by cases h⟩
theorem z1ci (s:List UInt8):∀ (n i:Nat),s.length - i<=n->∀ r cur,z2e (z5s s i++r) cur true false=z2e r (cur++z5s s i) true false:=by
 intro n
 induction n with
 | zero=>intro i h r cur;rw[zls (by omega)];simp
 | succ n ih =>
   intro i h r cur;by_cases hi:i<s.length
   . have hu:=z3d hi;rw[zh0 hi,List.append_assoc,z1cx hi,ih (i+z1p s i) (by omega),List.append_assoc]
   . rw[zls (by omega)];simp
def z1y (w:List UInt8):List UInt8:=34::(z5s w 0++[34])
theorem z1k3 (N:Nat){s:List UInt8}(hs:s.length<=2000)(hN:2001<N):zh1 N s=some (z1y s):=z1mu N hs hN
theorem z1cr (N:Nat){s:List UInt8}(hs:s.length<=2000)(hN:2001<N):z5g N s=some (z1y s):=z1g1 N hs hN
theorem z1c1 (w:List UInt8):z1c9 (z1y w):=z1a5 (fun r cur=>z1ci w w.length 0 (by omega) r cur)
theorem z10b {x:List UInt8}(h:zow x=true):∀ u∈x,u≠34/\u≠32/\u≠10:=by
 simp only[zow,Bool.and_eq_true] at h;have k:∀ (u:UInt8) (f:Bool),z1h0 u.toNat f=true->u≠34/\u≠32/\u≠10:=fun u f hw=>by
  refine⟨?_,?_,?_⟩<;>(intro e;subst e;cases f<;>revert hw<;>decide)
 have:∀ (l:List UInt8) (f:Bool),z1ll z1h0 l f=true->∀ u∈l,u≠34/\u≠32/\u≠10:=by
  intro l
  induction l with
  | nil=>intro f _ u hu;cases hu
  | cons v r ih =>
    intro f h u hu;simp only[z1ll,Bool.and_eq_true] at h;rcases List.mem_cons.1 hu with rfl|hu
    . exact k _ f h.1
    . exact ih false h.2 u hu
 exact this x true h.2
theorem z18k {n:Int}(h0:0<=n):∀ c∈Lib.itoa n,c≠34/\c≠32/\c≠10:=by
 obtain⟨u,rfl⟩:=Int.eq_ofNat_of_zero_le h0;have hi:Lib.itoa (u:Int)=Lib.decDigits u:=by unfold Lib.itoa;rw[if_neg (by omega)];rfl
 rw[hi];intro c hc;have:=(z163 u u (Nat.le_refl _)).2 c hc;refine⟨?_,?_,?_⟩<;>(intro e;subst e;revert this;decide)
def zv1 (op:OpT)(f:zd1):Bool :=
 (cond f.2.2.1 (zow op.2.1) (op.2.1 == [])) && (cond f.2.2.2.2.1 (decide (0<=op.2.2.1) && decide (op.2.2.1<=1099511627776)) (op.2.2.1 == 0)) &&
 (cond f.2.2.2.1 (decide (op.2.2.2.1.length<=131072)) (op.2.2.2.1 == [])) && (cond f.2.2.2.2.2.1 (op.2.2.2.2.1.all (fun w=>decide (w.length<=2048)) && decide (op.2.2.2.2.1.length<=64)) (op.2.2.2.2.1 == []))
def zca (op:OpT)(f:zd1):List (List UInt8) :=
 (cond f.2.2.1 [op.2.1] [])++((cond f.2.2.2.1 [120::zmo op.2.2.2.1] [])++((cond f.2.2.2.2.1 [Lib.itoa op.2.2.1] [])++(cond f.2.2.2.2.2.1 (op.2.2.2.2.1.map z1y) [])))
def z103 (k:Int):Option zd1:=glob0.find? (fun f=>f.2.1 == k)
def zk5 (op:OpT):Option (List UInt8):=match z103 op.1 with
 | some f=>cond (zv1 op f) (some (z6u (f.1::zca op f))) none
 | none=>none
def z1d9 (o:Option (List UInt8)):List UInt8×Bool×Unit:=match o with
 | some t=>(t,true,())
 | none=>([],false,())
def z16h (op:OpT):Prop:=∀ w∈op.2.2.2.2.1,w.length<=2000\/2048<w.length
theorem z1iw (N:Nat)(hN:20<=N)(k:Int):zbu N k=some (match z103 k with|some f=>(f,true,())|none=>(zy8,false,())):=by
 simp only[zbu,zns];rw[z4v (I:=fun (v:Int)=>∃ i:Nat,v=(i:Int)/\i<=9) (m:=fun v=>9 - v.toNat) (R:=fun v=>some (match (glob0.drop v.toNat).find? (fun f=>f.2.1 == k) with|some f=>(f,true,())|none=>(zy8,false,()))) ?_ N 0 ⟨0,rfl,by omega⟩ (by simp;omega)]
 . rfl
 rintro v r ⟨i,rfl,hi⟩ hr;rw[Int.toNat_natCast] at hr ⊢;simp only[zec,Int.toNat_natCast];have hl:glob0.length=9:=rfl;by_cases hlt:i<9
 . rw[z8 (zj (by omega)),z8 (z16 hlt),z32 glob0 zy8 i (by omega),List.find?_cons];show cond ((glob0.getD i zy8).2.1 == k) _ _=_;cases hk:(glob0.getD i zy8).2.1 == k with
   | true=>rfl
   | false=>rw[cond_false,z1b (by omega),hr _ ⟨i+1,rfl,by omega⟩ (by simp;omega),Int.toNat_natCast]
 . rw[zg (zy (by omega)),z5o glob0 (by omega)];rfl
theorem z1cd (N:Nat){l:List (List UInt8)}{u:Bool}(hl:l.length<=10000000000)(hN:l.length<N):z86 N l u=some (cond u (l.all (fun w=>decide (w.length<=2048)) && decide (l.length<=64)) (l == [])):=by
 simp only[z86,zl3];cases u with
 | false =>
   rw[Bool.not_false,cond_true,cond_false];congr 1;rw[Bool.eq_iff_iff,beq_iff_eq,beq_iff_eq,<- List.length_eq_zero_iff];omega
 | true =>
   rw[Bool.not_true,cond_false,cond_true];rw[z4v (I:=fun (v:Int)=>∃ i:Nat,v=(i:Int)/\i<=l.length) (m:=fun v=>l.length - v.toNat) (R:=fun v=>some ((l.drop v.toNat).all (fun w=>decide (w.length<=2048)) && decide (l.length<=64))) ?_ N 0 ⟨0,rfl,by omega⟩ (by simp;omega)]
   . rfl
   rintro v r ⟨i,rfl,hi⟩ hr;rw[Int.toNat_natCast] at hr ⊢;simp only[zbr,Int.toNat_natCast];by_cases hlt:i<l.length
   . rw[z8 (zj (by omega)),z8 (z16 hlt),z32 l [] i hlt,List.all_cons];by_cases hw:(l.getD i []).length<=2048
     . rw[zg (zy (by omega)),z1b (by omega),hr _ ⟨i+1,rfl,by omega⟩ (by simp;omega),Int.toNat_natCast,zj hw,Bool.true_and]
     . rw[z8 (zj (by omega)),zy hw];rfl
   . rw[zg (zy (by omega)),z5o l (by omega)];simp only[List.all_nil,Bool.true_and];congr 1;rw[Bool.eq_iff_iff,decide_eq_true_eq,decide_eq_true_eq];omega
theorem z1nj (N:Nat){op:OpT}{f:zd1}(hl:op.2.2.2.2.1.length<=10000000000)(hN:op.2.2.2.2.1.length<N)(h40:40<N):zjt N op f=some (zv1 op f):=by
 have e1:z66 N op.2.1 f.2.2.1=some (cond f.2.2.1 (zow op.2.1) (op.2.1 == [])):=by
  simp only[z66,z1ma N h40,Option.bind_some];cases f.2.2.1<;>rfl
 have e2:za4 N op.2.2.1 f.2.2.2.2.1=some (cond f.2.2.2.2.1 (decide (0<=op.2.2.1) && decide (op.2.2.1<=1099511627776)) (op.2.2.1 == 0)):=by
  simp only[za4];cases f.2.2.2.2.1<;>cases decide (0<=op.2.2.1)<;>rfl
 have e3:z87 N op.2.2.2.1 f.2.2.2.1=some (cond f.2.2.2.1 (decide (op.2.2.2.1.length<=131072)) (op.2.2.2.1 == [])):=by
  simp only[z87];cases f.2.2.2.1
  . rfl
  . rw[Bool.not_true,cond_false,cond_true];congr 1;rw[Bool.eq_iff_iff,decide_eq_true_eq,decide_eq_true_eq];omega
 simp only[zjt,e1,e2,e3,z1cd N hl hN,Option.bind_some,zv1];cases (cond f.2.2.1 (zow op.2.1) (op.2.1 == []))<;>cases (cond f.2.2.2.2.1 (decide (0<=op.2.2.1) && decide (op.2.2.1<=1099511627776)) (op.2.2.1 == 0))<;>cases (cond f.2.2.2.1 (decide (op.2.2.2.1.length<=131072)) (op.2.2.2.1 == []))<;>rfl
theorem z11f:∀ ps:List (List UInt8),Lib.join ps [32]=z6u ps
 | []=>rfl
 | [w]=>by rw[Lib.join_one];rfl
 | w::v::r=>by
   rw[Lib.join_cons,z6u,<- z11f (v::r),Lib.join_cons];simp[Lib.joinTail]
theorem zs6:∀ ps:List (List UInt8),(z6u ps).length<=ps.flatten.length+ps.length
 | []=>by simp[z6u]
 | [w]=>by simp[z6u]
 | w::v::r=>by
   have:=zs6 (v::r);simp only[z6u,List.length_append,List.length_cons,List.flatten_cons] at this ⊢;omega
theorem zej:∀ (n u:Nat),u<=n->(Lib.decDigits u).length<=u+1
 | n,u,hn=>by
   rw[Lib.decDigits];by_cases h:u<10
   . rw[dif_pos h];simp
   . rw[dif_neg h];cases n with
     | zero=>omega
     | succ n=>have:=zej n (u / 10) (by omega);simp;omega
theorem zbi (w:List UInt8):(z1y w).length<=4*w.length+2:=by
 have:=z11r w.length 0 (by omega) (s:=w);simp only[z1y,List.length_cons,List.length_append,List.length_nil];omega
theorem z18q:∀ l:List (List UInt8),(∀ w∈l,w.length<=2048)->(l.map z1y).flatten.length<=8194*l.length
 | [],_=>by simp
 | w::r,h=>by
   have h1:=z18q r (fun v hv=>h v (List.mem_cons_of_mem _ hv));have h2:=zbi w;have h3:=h w List.mem_cons_self;simp only[List.map_cons,List.flatten_cons,List.length_append,List.length_cons];omega
theorem z1fm (N:Nat)(k0:List (List UInt8)->Option (List UInt8)){l ps:List (List UInt8)}(hl:l.length<=1000)(hps:ps.length<=1000)(hw:∀ w∈l,w.length<=2000)(hN:5000<=N) :
 z8n N ps l ((l.length:Nat):Int) 0 k0=k0 (ps++l.map z1y):=by
 simp only[z8n];rw[z4v (I:=fun (v:List (List UInt8)×Int)=>∃ (qs:List (List UInt8)) (i:Nat),v=(qs,(i:Int))/\i<=l.length/\qs.length<=1000+i) (m:=fun v=>l.length - v.2.toNat) (R:=fun v=>k0 (v.1++(l.drop v.2.toNat).map z1y)) ?_ N (ps,0) ⟨ps,0,rfl,by omega,by omega⟩ (by simp;omega)]
 . rfl
 rintro v r ⟨qs,i,rfl,hi,hq⟩ hr;dsimp only at hr ⊢;rw[Int.toNat_natCast] at hr ⊢;simp only[zcp,Int.toNat_natCast];by_cases hlt:i<l.length
 . have hwl:=hw _ (z13j l [] i hlt);rw[z8 (zj (by omega)),z8 (z16 hlt),z1k3 N hwl (by omega),Option.bind_some,z8 (zj (by omega)),z1b (by omega),hr (qs++[z1y (l.getD i [])],((i+1:Nat):Int)) ⟨_,i+1,rfl,by omega,by simp;omega⟩ (by dsimp only;omega)];dsimp only;rw[Int.toNat_natCast,z32 l [] i hlt,List.map_cons,List.append_assoc];rfl
 . rw[zg (zy (by omega)),z5o l (by omega)];simp
theorem z1fj (k:Nat) {op:OpT} {f:zd1} (hf:f.1.length<=100) (h:zv1 op f=true) (hO:z16h op):z9x (k+1000000) op f=some (z6u (f.1::zca op f)):=by
 obtain⟨kd,t,n,x,ws,u⟩:=op;obtain⟨c,kf,bt,bx,bn,bw,uf⟩:=f;simp only[zv1,Bool.and_eq_true] at h;obtain⟨⟨⟨h1,h2⟩,h3⟩,h4⟩:=h;simp only[z9x,zct,zcs,zcr,zcq];have ht:bt=true->t.length<=32:=fun e=>by subst e;rw[cond_true] at h1;simp only[zow,Bool.and_eq_true,decide_eq_true_eq] at h1;exact h1.1.2
 have hx:bx=true->x.length<=131072:=fun e=>by subst e;rw[cond_true,decide_eq_true_eq] at h3;exact h3
 have hn:bn=true->0<=n/\n<=1099511627776:=fun e=>by subst e;rw[cond_true] at h2;simp only[Bool.and_eq_true,decide_eq_true_eq] at h2;exact h2
 have hws:bw=true->(∀ w∈ws,w.length<=2048)/\ws.length<=64:=fun e=>by
  subst e;rw[cond_true] at h4;simp only[Bool.and_eq_true,List.all_eq_true,decide_eq_true_eq] at h4;exact h4
 have hd:∀ m:Int,0<=m->m<=1099511627776->(Lib.itoa m).length<=1099511627777:=fun m h0 h1=>by
  obtain⟨v,rfl⟩:=Int.eq_ofNat_of_zero_le h0;have hi:Lib.itoa (v:Int)=Lib.decDigits v:=by unfold Lib.itoa;rw[if_neg (by omega)];rfl
  rw[hi];have:=zej v v (Nat.le_refl _);omega
 have hnb:bn=true->z1be (n,())=some (Lib.itoa n):=fun e=>by
  obtain⟨h0,h1⟩:=hn e;unfold z1be;rw[z8];rw[zj (show (-9223372036854775808:Int)<=n by omega),zj (show n<=(9223372036854775807:Int) by omega)];rfl
 have hjoin:zwl (c::zca (kd,t,n,x,ws,u) (c,kf,bt,bx,bn,bw,uf),([32],()))=some (z6u (c::zca (kd,t,n,x,ws,u) (c,kf,bt,bx,bn,bw,uf))):=by
  unfold zwl;have hj:=zs6 (c::zca (kd,t,n,x,ws,u) (c,kf,bt,bx,bn,bw,uf));have hA:(cond bt [t] ([]:List (List UInt8))).flatten.length<=32/\(cond bt [t] ([]:List (List UInt8))).length<=1:=by
   cases bt
   . simp
   . have:=ht rfl;simp;omega
  have hB:(cond bx [120::zmo x] ([]:List (List UInt8))).flatten.length<=262145/\(cond bx [120::zmo x] ([]:List (List UInt8))).length<=1:=by
   cases bx
   . simp
   . have:=hx rfl;have:=z8a x;simp;omega
  have hC:(cond bn [Lib.itoa n] ([]:List (List UInt8))).flatten.length<=1099511627777/\(cond bn [Lib.itoa n] ([]:List (List UInt8))).length<=1:=by
   cases bn
   . simp
   . have:=hd n (hn rfl).1 (hn rfl).2;simp;omega
  have hD:(cond bw (ws.map z1y) []).flatten.length<=524416/\(cond bw (ws.map z1y) []).length<=64:=by
   cases bw
   . simp
   . have h5:=hws rfl;have:=z18q ws h5.1;simp only[cond_true,List.length_map];omega
  have hlen:(zca (kd,t,n,x,ws,u) (c,kf,bt,bx,bn,bw,uf)).flatten.length<=1099512500000/\(zca (kd,t,n,x,ws,u) (c,kf,bt,bx,bn,bw,uf)).length<=67:=by
   simp only[zca,List.flatten_append,List.length_append];omega
  dsimp only at hf hj ⊢;rw[z8]
  . rw[z11f]
  . rw[z11f,Bool.and_eq_true,decide_eq_true_eq,decide_eq_true_eq];simp only[List.length_cons,List.flatten_cons,List.length_append] at hj ⊢;omega
 have e4:∀ ps:List (List UInt8),ps.length<=10->(cond bw (z8n (k+1000000) ps ws ((ws.length:Nat):Int) 0 (fun zm1=>(zwl (zm1,([32],()))).bind fun y=>some y)) ((zwl (ps,([32],()))).bind fun y=>some y))=zwl (ps++cond bw (ws.map z1y) [],([32],())):=by
  intro ps hps;cases bw with
  | false=>rw[cond_false,cond_false,List.append_nil];cases zwl (ps,([32],()))<;>rfl
  | true =>
    obtain⟨h5,h6⟩:=hws rfl;have h7:∀ w∈ws,w.length<=2000:=fun w hw=>by
     have:=h5 w hw;rcases hO w hw with h|h<;>omega
    rw[cond_true,z1fm _ _ (by omega) (by omega) h7 (by omega),cond_true];cases zwl (ps++ws.map z1y,([32],()))<;>rfl
 cases bt<;>cases bx<;>cases bn
 all_goals simp only[cond_true,cond_false,hnb,z1p1 _ (show x.length<=10000000000 by first|(have:=hx rfl;omega)|(simp at h3;simp[h3])) (show x.length<k+1000000 by first|(have:=hx rfl;omega)|(simp at h3;simp[h3])),Option.bind_some]
 all_goals try have hX:=z8a x
 all_goals try have hX2:=hx rfl
 all_goals repeat rw[z8 (zj (by (try simp only[List.length_append,List.length_cons,List.length_nil]);omega))]
 all_goals rw[e4 _ (by simp only[List.length_append,List.length_cons,List.length_nil];omega)]
 all_goals exact hjoin
theorem z1ij (k:Nat) {op:OpT} (hl:op.2.2.2.2.1.length<=100000) (hO:z16h op):zb0 (k+1000000) op=some (z1d9 (zk5 op)):=by
 simp only[zb0,zlh,zlg];rw[z1iw _ (by omega),Option.bind_some];unfold zk5;cases hf:z103 op.1 with
 | none=>rfl
 | some f =>
   dsimp only;rw[z1nj _ (by omega) (by omega) (by omega),Option.bind_some];cases h:zv1 op f with
   | false=>rfl
   | true =>
     have hf1:f.1.length<=100:=by
      have hm:f∈glob0:=List.mem_of_find?_eq_some hf;have key:∀ g∈glob0,g.1.length<=100:=by decide
      exact key f hm
     rw[z1fj k hf1 h hO];rfl
end
end Go.Proofs.YtlmlihfmoabinaaDoorLg
set_option linter.all false
set_option maxRecDepth 100000
namespace Go.Proofs.YtlmlihfmoabinaaDoorLg
noncomputable section
open Go Go.Lift Go.Lib Go.Proofs.YtlmlihfmoabinaaDoorPx
theorem zk9 (s:List UInt8):∀ (f i:Nat) (o:List UInt8),(zpa s f i o).1.length<=o.length+(s.length - i)
 | 0,i,o=>by simp[zpa]
 | f + 1,i,o=>by
   simp only[zpa];split
   . rename_i hi;split;· dsimp only;omega
     split
     . cases he:z1gq (s.drop (i+1)) with
       | cut=>dsimp only;simp
       | bad=>dsimp only;simp
       | ok b n =>
         have:=z1bq he;have h2:=zk9 s f (i+n) (o++[UInt8.ofNat b]);have hdl:(s.drop (i+1)).length=s.length - (i+1):=List.length_drop ..;simp only[List.length_append,List.length_cons,List.length_nil] at h2;dsimp only;omega
     split
     . have:=z3d hi;have h2:=zk9 s f (i+z1p s i) (o++(s.drop i).take (z1p s i));simp only[List.length_append,List.length_take,List.length_drop] at h2;omega
     . dsimp only;simp
   . dsimp only;simp
def rdM (w:List UInt8):RdT:=if w=[] then ([],0,(1,0,()),()) else if (w.getD 0 0).toNat=34 then zsq w 1 [] else ([],0,(2,0,()),())
theorem z1g4 (w:List UInt8):(rdM w).1.length<=w.length:=by
 unfold rdM;split;· simp
 split
 . have:=zk9 w w.length 1 [];unfold zsq;simp only[List.length_nil] at this;omega
 . simp
theorem z1eq (k:Nat){w:List UInt8}(hw:w.length<=300000):zb8 (k+1000000) w 0=some (rdM w):=by
 unfold rdM;by_cases h:w=[]
 . subst h;rw[if_pos rfl];simp only[zb8,zbh,zbg];rfl
 rw[if_neg h];have hl:0<w.length:=by cases w;exact absurd rfl h;simp
 by_cases h34:(w.getD 0 0).toNat=34
 . rw[if_pos h34];exact z1n3 k (at_:=0) hw hl h34
 . rw[if_neg h34];simp only[zb8,zbh,zbg];rw[zg (zy (by omega)),zg (zy (by omega)),zg (by rw[beq_eq_false_iff_ne];omega),z8 (ze8 (by omega) (by omega)),z8 (by rw[bne_iff_ne];show ¬ (((w.getD 0 0).toNat:Nat):Int)=34;omega)]
theorem z142 {X b w:List UInt8}{F:Nat}(hw:w.length<=2000)(hX:X.length<=300000)(hF:F<=X.length)(hd:X.drop F=z5s w 0++34::b):zsq X F []=(w,((F+(z5s w 0).length+1:Nat):Int),(0,0,()),()):=by
 have h1:=z1fd 0 hX hF;have h2:=z1nq (a:=[]) 0 hw hX hF hd;rw[h1] at h2;exact Option.some.inj h2
theorem z1hx {w:List UInt8}(hw:w.length<=2000):(rdM (z1y w)).1=w:=by
 have hl:=zbi w;unfold rdM;rw[if_neg (by simp[z1y]),if_pos (by rfl),z142 (b:=[]) hw (by omega) (by simp[z1y]) (by rfl)]
theorem zrz (N:Nat)(ps:List (List UInt8)):z4u N ps=some (ps.headD [],(ps.tail,())):=by
 unfold z4u;cases ps with
 | nil=>rfl
 | cons w r =>
   rw[zg (by rw[beq_eq_false_iff_ne];simp only[List.length_cons];omega),z8 (ze8 (by omega) (by simp only[List.length_cons];omega)),z8 (zj ⟨by omega,by simp only[List.length_cons];omega⟩),zyb];rfl
theorem z1cg (s p:List UInt8):(Lib.trimPrefix s p).length<=s.length:=by
 unfold Lib.trimPrefix;split
 . rw[List.length_drop];omega
 . omega
theorem z1om (h:List UInt8):Lib.trimPrefix (120::h) [120]=h:=by
 unfold Lib.trimPrefix;rw[if_pos (by simp[Lib.hasPrefix])];rfl
theorem z190 (s:List UInt8):(z1e1 (zd4 s)).1.length<=s.length:=by
 cases h:zd4 s with
 | none=>simp[z1e1]
 | some b=>have:=z11q s.length s b (Nat.le_refl _) h;simp only[z1e1];omega
def z1c8 (L:Nat)(ps:List (List UInt8))(op:OpT):Prop :=
 (∀ p∈ps,p.length<=L)/\ps.length+op.2.2.2.2.1.length<=L+1/\op.2.2.2.1.length<=L/\∀ w∈op.2.2.2.2.1,w.length<=L
theorem z13g {L:Nat}{ps:List (List UInt8)}{op:OpT}(h:z1c8 L ps op):z1c8 L ps.tail op/\(ps.headD []).length<=L:=by
 cases ps with
 | nil=>exact⟨h,by simp⟩
 | cons p r =>
   obtain⟨h1,h2,h3,h4⟩:=h;simp only[List.length_cons] at h2;exact⟨⟨fun q hq=>h1 q (List.mem_cons_of_mem _ hq),by dsimp only[List.tail_cons];omega,h3,h4⟩,h1 p List.mem_cons_self⟩
theorem z1h6 (k L:Nat) (hL:L<=2000) {x2:OpT} {cmd:List UInt8} {f:zd1} {x17:List zd1} {x18:Int} {k0:List (List UInt8)->OpT->Option OpT} {ps:List (List UInt8)} {op:OpT} (h:z1c8 L ps op) :
 ∃ ps' op',z4w (k+1000000) x2 ps cmd op f x17 x18 k0=k0 ps' op'/\z1c8 L ps' op':=by
 simp only[z4w];refine zmj (I:=fun (v:List (List UInt8)×OpT)=>z1c8 L v.1 v.2) (m:=fun v=>v.1.length) (p:=fun o=>∃ ps' op',o=k0 ps' op'/\z1c8 L ps' op') ?_ (k+1000000) (ps,op) h (by have:=h.2.1;dsimp only;omega);rintro⟨qs,oq⟩ r hI hr;dsimp only at hI hr ⊢;simp only[z9z,za0];cases f.2.2.2.2.2.1 with
 | false=>exact⟨qs,oq,rfl,hI⟩
 | true =>
   rw[cond_true];cases qs with
   | nil=>exact⟨[],oq,rfl,hI⟩
   | cons w t =>
     obtain⟨h1,h2,h3,h4⟩:=hI;have hw:=h1 w List.mem_cons_self;simp only[List.length_cons] at h2;rw[z8 (zj (by simp only[List.length_cons];omega)),zrz,Option.bind_some];dsimp only[List.headD_cons,List.tail_cons];rw[z1eq k (by omega),Option.bind_some,z8 (zj (by omega))];refine hr (t,_) ⟨fun q hq=>h1 q (List.mem_cons_of_mem _ hq),?_,h3,fun v hv=>?_⟩ (by dsimp only[List.length_cons];omega)
     . simp only[List.length_append,List.length_cons,List.length_nil];omega
     . rcases List.mem_append.1 hv with hv|hv
       . exact h4 v hv
       . rw[List.mem_singleton.1 hv];have:=z1g4 w;omega
theorem z1or (k L:Nat){P:Option OpT->Prop}{x2:OpT}{cmd:List UInt8}{f:zd1}{x17:List zd1}{x18:Int}{k0:List (List UInt8)->OpT->Option OpT}{ps:List (List UInt8)}{op:OpT}(h:z1c8 L ps op)
 (hk:∀ ps' op',z1c8 L ps' op'->P (k0 ps' op')):P (za3 (k+1000000) x2 ps cmd op f x17 x18 k0):=by
 simp only[za3];cases f.2.2.1 with
 | false=>exact hk _ _ h
 | true=>rw[cond_true,zrz,Option.bind_some];exact hk _ _ (z13g h).1
theorem z1oq (k L:Nat)(hL:L<=2000){P:Option OpT->Prop}{x2:OpT}{cmd:List UInt8}{f:zd1}{x17:List zd1}{x18:Int}{k0:List (List UInt8)->OpT->Option OpT}{ps:List (List UInt8)}{op:OpT}(h:z1c8 L ps op)
 (hk:∀ ps' op',z1c8 L ps' op'->P (k0 ps' op')):P (za2 (k+1000000) x2 ps cmd op f x17 x18 k0):=by
 simp only[za2];cases f.2.2.2.1 with
 | false=>exact hk _ _ h
 | true =>
   obtain⟨h3,h4⟩:=z13g h;have ht:=z1cg (ps.headD []) [120];have hu:=z190 (Lib.trimPrefix (ps.headD []) [120]);rw[cond_true,zrz,Option.bind_some,z1e0 _ (by dsimp only;omega) (by dsimp only;omega),Option.bind_some];exact hk _ _ ⟨h3.1,h3.2.1,by dsimp only;omega,h3.2.2.2⟩
theorem z1op (k L:Nat)(hL:L<=2000){P:Option OpT->Prop}{x2:OpT}{cmd:List UInt8}{f:zd1}{x17:List zd1}{x18:Int}{k0:List (List UInt8)->OpT->Option OpT}{ps:List (List UInt8)}{op:OpT}(h:z1c8 L ps op)
 (hk:∀ ps' op',z1c8 L ps' op'->P (k0 ps' op')):P (za1 (k+1000000) x2 ps cmd op f x17 x18 k0):=by
 simp only[za1];cases f.2.2.2.2.1 with
 | false=>exact hk _ _ h
 | true =>
   obtain⟨h3,h4⟩:=z13g h;have ha:z16a (ps.headD [],())=some (z11o (ps.headD []),((),())):=by unfold z16a;rw[z8 (zj (show (ps.headD []).length<=281474976710656 by omega))]
   rw[cond_true,zrz,Option.bind_some,ha,Option.bind_some];exact hk _ _ h3
theorem z1oo (k L:Nat)(hL:L<=2000){P:Option OpT->Prop}{x2:OpT}{cmd:List UInt8}{f:zd1}{x17:List zd1}{x18:Int}{k0:List (List UInt8)->OpT->Option OpT}{ps:List (List UInt8)}{op:OpT}(h:z1c8 L ps op)
 (hk:∀ ps' op',z1c8 L ps' op'->P (k0 ps' op')):P (z4w (k+1000000) x2 ps cmd op f x17 x18 k0):=by
 obtain⟨ps',op',e,h'⟩:=z1h6 k L hL h (x2:=x2) (cmd:=cmd) (f:=f) (x17:=x17) (x18:=x18) (k0:=k0);rw[e];exact hk _ _ h'
def EndO (L:Nat)(o:Option OpT):Prop:=∃ op:OpT,o=some op/\(op.2.2.2.1.length<=L/\op.2.2.2.2.1.length<=L+1/\∀ w∈op.2.2.2.2.1,w.length<=L)
theorem z1kg (k:Nat){s:List UInt8}(hs:s.length<=2000):EndO s.length (z6t (k+1000000) s):=by
 simp only[z6t];rw[z1ec _ (by omega) (by omega),Option.bind_some,zrz,Option.bind_some];have h0:z1c8 s.length (z2e s [] false false) op0:=⟨fun p hp=>by have:=zch s [] false false p hp;simpa using this,by have:=z8j s [] false false;simp only[op0,List.length_nil];omega,by simp[op0],fun w hw=>by simp[op0] at hw⟩
 obtain⟨h1,_⟩:=z13g h0;simp only[zvp];refine zmj (I:=fun (v:List (List UInt8)×OpT×Int)=>z1c8 s.length v.1 v.2.1/\∃ i:Nat,v.2.2=(i:Int)/\i<=9) (m:=fun v=>9 - v.2.2.toNat) (p:=EndO s.length) ?_ (k+1000000) (_,op0,0) ⟨h1,0,rfl,by omega⟩ (by simp);rintro⟨ps,op,v⟩ r ⟨hI,i,hv,hi⟩ hr;dsimp only at hI hv hr ⊢;subst hv;rw[Int.toNat_natCast] at hr;simp only[z3c];have hl:glob0.length=9:=rfl;by_cases hlt:i<9
 case neg =>
  rw[zg (zy (by omega))];exact⟨op,rfl,hI.2.2.1,by have:=hI.2.1;omega,hI.2.2.2⟩
 have hgo:∀ ps' op',z1c8 s.length ps' op'->EndO s.length (r (ps',op',IntKind.wrap .i64 ((i:Int)+1))):=fun ps' op' h=>by
  rw[z1b (by omega)];exact hr _ ⟨h,i+1,rfl,by omega⟩ (by dsimp only;rw[Int.toNat_natCast];omega)
 rw[z8 (zj (by omega)),z8 (z16 hlt)];generalize hf:List.getD glob0 (Int.toNat (i:Int)) (([]:List UInt8),((0:Int),(false,(false,(false,(false,()))))))=f;cases (!f.1 == (z2e s [] false false).headD []) with
 | true=>exact hgo ps op hI
 | false =>
   rw[cond_false];exact z1or k _ hI fun ps1 op1 h1=>z1oq k _ hs h1 fun ps2 op2 h2=>z1op k _ hs h2 fun ps3 op3 h3=>z1oo k _ hs h3 hgo
theorem z12e:∀ (n u:Nat),1<=n->u<10^n->(Lib.decDigits u).length<=n
 | 0,u,h,_=>by omega
 | n + 1,u,_,hu=>by
   rw[Lib.decDigits];by_cases h:u<10
   . rw[dif_pos h];simp
   . rw[dif_neg h];cases n with
     | zero=>omega
     | succ n =>
       have:=z12e (n+1) (u / 10) (by omega) (by rw[Nat.pow_succ] at hu;omega);simp only[List.length_append,List.length_cons,List.length_nil];omega
theorem z19z {n:Int}(h0:0<=n)(h1:n<=1099511627776):(Lib.itoa n).length<=13:=by
 obtain⟨u,rfl⟩:=Int.eq_ofNat_of_zero_le h0;have hi:Lib.itoa (u:Int)=Lib.decDigits u:=by unfold Lib.itoa;rw[if_neg (by omega)];rfl
 rw[hi];exact z12e 13 u (by omega) (by omega)
theorem z160:∀ l:List (List UInt8),(∀ w∈l,w.length<=2000)->(l.map z1y).flatten.length<=8002*l.length
 | [],_=>by simp
 | w::r,h=>by
   have h1:=z160 r (fun v hv=>h v (List.mem_cons_of_mem _ hv));have h2:=zbi w;have h3:=h w List.mem_cons_self;simp only[List.map_cons,List.flatten_cons,List.length_append,List.length_cons];omega
theorem zsm {op:OpT}{f:zd1}(h:zv1 op f=true)(hO:z16h op) :
 (f.2.2.1=true->zow op.2.1=true)/\(f.2.2.1=false->op.2.1=[])/\(f.2.2.2.2.1=true->0<=op.2.2.1/\op.2.2.1<=1099511627776)/\(f.2.2.2.2.1=false->op.2.2.1=0) ∧
 (f.2.2.2.1=true->op.2.2.2.1.length<=131072)/\(f.2.2.2.1=false->op.2.2.2.1=[])/\(f.2.2.2.2.2.1=true->(∀ w∈op.2.2.2.2.1,w.length<=2000)/\op.2.2.2.2.1.length<=64)/\(f.2.2.2.2.2.1=false->op.2.2.2.2.1=[]):=by
 simp only[zv1,Bool.and_eq_true] at h;obtain⟨⟨⟨h1,h2⟩,h3⟩,h4⟩:=h;refine⟨fun e=>?_,fun e=>?_,fun e=>?_,fun e=>?_,fun e=>?_,fun e=>?_,fun e=>?_,fun e=>?_⟩
 . rw[e] at h1;exact h1
 . rw[e] at h1;exact beq_iff_eq.1 h1
 . rw[e] at h2;simpa using h2
 . rw[e] at h2;exact beq_iff_eq.1 h2
 . rw[e] at h3;simpa using h3
 . rw[e] at h3;exact beq_iff_eq.1 h3
 . rw[e] at h4;simp only[cond_true,Bool.and_eq_true,List.all_eq_true,decide_eq_true_eq] at h4;refine⟨fun w hw=>?_,h4.2⟩;have:=h4.1 w hw;rcases hO w hw with h|h<;>omega
 . rw[e] at h4;exact beq_iff_eq.1 h4
theorem z1cp {op:OpT}{f:zd1}(h:zv1 op f=true)(hO:z16h op):(zca op f).flatten.length<=774500/\(zca op f).length<=67:=by
 obtain⟨ht,_,hn,_,hx,_,hw,_⟩:=zsm h hO;have hA:(cond f.2.2.1 [op.2.1] ([]:List (List UInt8))).flatten.length<=32/\(cond f.2.2.1 [op.2.1] ([]:List (List UInt8))).length<=1:=by
  cases e:f.2.2.1
  . simp
  . have:=ht e;simp only[zow,Bool.and_eq_true,decide_eq_true_eq] at this;simp;omega
 have hB:(cond f.2.2.2.1 [120::zmo op.2.2.2.1] ([]:List (List UInt8))).flatten.length<=262145/\(cond f.2.2.2.1 [120::zmo op.2.2.2.1] ([]:List (List UInt8))).length<=1:=by
  cases e:f.2.2.2.1
  . simp
  . have:=hx e;have:=z8a op.2.2.2.1;simp;omega
 have hC:(cond f.2.2.2.2.1 [Lib.itoa op.2.2.1] ([]:List (List UInt8))).flatten.length<=13/\(cond f.2.2.2.2.1 [Lib.itoa op.2.2.1] ([]:List (List UInt8))).length<=1:=by
  cases e:f.2.2.2.2.1
  . simp
  . have:=z19z (hn e).1 (hn e).2;simp;omega
 have hD:(cond f.2.2.2.2.2.1 (op.2.2.2.2.1.map z1y) []).flatten.length<=512128/\(cond f.2.2.2.2.2.1 (op.2.2.2.2.1.map z1y) []).length<=64:=by
  cases e:f.2.2.2.2.2.1
  . simp
  . have h5:=hw e;have:=z160 op.2.2.2.2.1 h5.1;simp only[cond_true,List.length_map];omega
 simp only[zca,List.flatten_append,List.length_append];omega
theorem z1cq {op:OpT}{f:zd1}(h:zv1 op f=true)(hO:z16h op):∀ v∈zca op f,z1c9 v:=by
 obtain⟨ht,_,hn,_,hx,_,hw,_⟩:=zsm h hO;intro v hv;simp only[zca,List.mem_append] at hv;rcases hv with hv|hv|hv|hv
 . cases e:f.2.2.1<;>rw[e] at hv
   . cases hv
   . rw[cond_true,List.mem_singleton] at hv;subst hv;exact zl9 (fun c hc=>⟨(z10b (ht e) c hc).1,(z10b (ht e) c hc).2.1⟩)
 . cases e:f.2.2.2.1<;>rw[e] at hv
   . cases hv
   . rw[cond_true,List.mem_singleton] at hv;subst hv;refine zl9 (fun c hc=>?_);rcases List.mem_cons.1 hc with rfl|hc
     . decide
     . exact⟨(z11g _ c hc).1,(z11g _ c hc).2.1⟩
 . cases e:f.2.2.2.2.1<;>rw[e] at hv
   . cases hv
   . rw[cond_true,List.mem_singleton] at hv;subst hv;exact zl9 (fun c hc=>⟨(z18k (hn e).1 c hc).1,(z18k (hn e).1 c hc).2.1⟩)
 . cases e:f.2.2.2.2.2.1<;>rw[e] at hv
   . cases hv
   . rw[cond_true] at hv;obtain⟨w,_,rfl⟩:=List.mem_map.1 hv;exact z1c1 w
theorem z1a1 {k:Int}{f:zd1}(h:z103 k=some f):f.2.1=k/\f∈glob0:=by
 have:=List.find?_some h;exact⟨beq_iff_eq.1 this,List.mem_of_find?_eq_some h⟩
theorem z166:∀ g∈glob0,∀ c∈g.1,c≠34/\c≠32/\c≠10:=by decide
theorem z1bz:∀ g∈glob0,g.1.length<=10/\g.1≠[]:=by decide
theorem z1c0:∀ j,j<9->∀ m,m<9->m≠j->(glob0.getD m zy8).1≠(glob0.getD j zy8).1:=by decide
abbrev zp9 (N:Nat)(cmd:List UInt8)(k0:OpT->Option OpT):(List (List UInt8)×OpT×Int)->((List (List UInt8)×OpT×Int)->Option OpT)->Option OpT :=
 fun v r=>z3c N op0 cmd glob0 v.1 v.2.1 v.2.2 (fun parts op x18=>r (parts,op,x18)) k0
theorem z1g3 {N:Nat}{cmd:List UInt8}{k0:OpT->Option OpT}{ps:List (List UInt8)}{op:OpT}{i n:Nat}(hi:i<9)(h:(glob0.getD i zy8).1≠cmd):iter (zp9 N cmd k0) (n+1) (ps,op,(i:Int))=iter (zp9 N cmd k0) n (ps,op,((i+1:Nat):Int)):=by
 rw[z69];show z3c N op0 cmd glob0 ps op (i:Int) (fun parts op x18=>iter (zp9 N cmd k0) n (parts,op,x18)) k0=_;simp only[z3c];rw[z8 (zj (by omega)),z8 (z16 hi)];show cond (!((glob0.getD i zy8).1 == cmd)) _ _=_;rw[z8 (by rw[Bool.not_eq_true',beq_eq_false_iff_ne];exact h),z1b (by omega)]
theorem z141 {N:Nat}{cmd:List UInt8}{k0:OpT->Option OpT}{ps:List (List UInt8)}{op:OpT}:∀ (d i n:Nat),i+d<=9->(∀ m,i<=m->m<i+d->(glob0.getD m zy8).1≠cmd)->iter (zp9 N cmd k0) (n+d) (ps,op,(i:Int))=iter (zp9 N cmd k0) n (ps,op,((i+d:Nat):Int))
 | 0,i,n,_,_=>rfl
 | d+1,i,n,hi,h=>by
   rw[show n+(d+1)=(n+d)+1 by omega,z1g3 (by omega) (h i (Nat.le_refl _) (by omega)),z141 d (i+1) n (by omega) (fun m h1 h2=>h m (by omega) (by omega)),show i+1+d=i+(d+1) by omega]
theorem z1kf {N:Nat}{cmd:List UInt8}{k0:OpT->Option OpT}{ps:List (List UInt8)}{op:OpT}{n:Nat}:iter (zp9 N cmd k0) (n+1) (ps,op,((9:Nat):Int))=k0 op:=by
 rw[z69];show z3c N op0 cmd glob0 ps op ((9:Nat):Int) (fun parts op x18=>iter (zp9 N cmd k0) n (parts,op,x18)) k0=_;simp only[z3c];rw[zg (zy (by omega))]
theorem z1fl (k:Nat){x2:OpT}{cmd:List UInt8}{f:zd1}{x17:List zd1}{x18:Int}{k0:List (List UInt8)->OpT->Option OpT}{kd:Int}{t:List UInt8}{n:Int}{x:List UInt8}{ws:List (List UInt8)}{u:Unit}(hf:f.2.2.2.2.2.1=true)(hw:∀ w∈ws,w.length<=2000)(hl:ws.length<=64) :
 z4w (k+1000000) x2 (ws.map z1y) cmd (kd,t,n,x,[],u) f x17 x18 k0=k0 [] (kd,t,n,x,ws,u):=by
 simp only[z4w];rw[z4v (I:=fun (v:List (List UInt8)×OpT)=>∃ i,i<=ws.length/\v=((ws.drop i).map z1y,(kd,t,n,x,ws.take i,u))) (m:=fun v=>v.1.length) (R:=fun _=>k0 [] (kd,t,n,x,ws,u)) ?_ (k+1000000) (ws.map z1y,(kd,t,n,x,[],u)) ⟨0,by omega,rfl⟩ (by simp;omega)];rintro v r ⟨i,hi,rfl⟩ hr;dsimp only at hr ⊢;simp only[z9z,za0,hf,cond_true];by_cases hlt:i<ws.length
 . have hwl:=hw _ (z13j ws [] i hlt);have hq:=zbi (ws.getD i []);rw[z32 ws [] i hlt,List.map_cons,z8 (zj (by simp only[List.length_cons];omega)),zrz,Option.bind_some];dsimp only[List.headD_cons,List.tail_cons];rw[z1eq k (by omega),Option.bind_some,z1hx hwl,z8 (zj (by rw[List.length_take];omega)),<- zp3 ws [] i hlt];exact hr _ ⟨i+1,by omega,rfl⟩ (by simp only[List.length_map,List.length_drop];omega)
 . rw[z5o ws (by omega),List.take_of_length_le (by omega)];rfl
theorem z1d8 {op:OpT}{f:zd1}(hf:f∈glob0)(h:zv1 op f=true)(hO:z16h op):(z6u (f.1::zca op f)).length<=774600:=by
 have h1:=(z1bz f hf).1;obtain⟨h2,h3⟩:=z1cp h hO;have:=zs6 (f.1::zca op f);simp only[List.flatten_cons,List.length_append,List.length_cons] at this;omega
theorem z1hv (k:Nat){op:OpT}{f:zd1}(hf:z103 op.1=some f)(h:zv1 op f=true)(hO:z16h op):z6t (k+1000000) (z6u (f.1::zca op f))=some op:=by
 obtain⟨hk,hm⟩:=z1a1 hf;have hll:=z1d8 hm h hO;obtain⟨ht,ht',hn,hn',hx,hx',hw,hw'⟩:=zsm h hO;simp only[z6t];rw[z1ec _ (by omega) (by omega),z13p f.1 (zca op f) (fun v hv=>by
  rcases List.mem_cons.1 hv with rfl|hv
  . exact zl9 (fun c hc=>⟨(z166 f hm c hc).1,(z166 f hm c hc).2.1⟩)
  . exact z1cq h hO v hv),Option.bind_some,zrz,Option.bind_some]
 dsimp only[List.headD_cons,List.tail_cons];obtain⟨j,hj,ej⟩:=List.getElem_of_mem hm;have hj9:j<9:=hj;have hg:glob0.getD j zy8=f:=by rw[List.getD_eq_getElem?_getD,List.getElem?_eq_getElem hj,ej];rfl
 have hap:∀ m,m<9->m≠j->(glob0.getD m zy8).1≠f.1:=fun m h1 h2=>by rw[<- hg];exact z1c0 j hj9 m h1 h2
 show iter (zp9 (k+1000000) f.1 (fun op=>some (op.1,(op.2.1,(op.2.2.1,(op.2.2.2.1,(op.2.2.2.2.1,op.2.2.2.2.2))))))) (k+1000000) (zca op f,op0,((0:Nat):Int))=some op;rw[show k+1000000=(k+(999999 - j))+1+j by omega,z141 j 0 _ (by omega) (fun m _ h2=>hap m (by omega) (by omega)),Nat.zero_add,z69,show (k+(999999 - j))+1+j=k+1000000 by omega];have hfin:iter (zp9 (k+1000000) f.1 (fun op=>some (op.1,(op.2.1,(op.2.2.1,(op.2.2.2.1,(op.2.2.2.2.1,op.2.2.2.2.2))))))) (k+(999999 - j)) ([],op,((j+1:Nat):Int))=some op:=by
  rw[show k+(999999 - j)=(k+999990)+1+(8 - j) by omega,z141 (8 - j) (j+1) _ (by omega) (fun m h1 h2=>hap m (by omega) (by omega)),show j+1+(8 - j)=9 by omega,z1kf]
 show z3c (k+1000000) op0 f.1 glob0 (zca op f) op0 (j:Int) (fun parts op x18=>iter (zp9 (k+1000000) f.1 _) (k+(999999 - j)) (parts,op,x18)) _=_;simp only[z3c];rw[z8 (zj (by omega)),z8 (z16 hj9),Int.toNat_natCast];rw[show List.getD glob0 j (([]:List UInt8),((0:Int),(false,(false,(false,(false,()))))))=f from hg];rw[zg (by rw[beq_self_eq_true];rfl),z1b (by omega)];generalize iter (zp9 (k+1000000) f.1 (fun op=>some (op.1,(op.2.1,(op.2.2.1,(op.2.2.2.1,(op.2.2.2.2.1,op.2.2.2.2.2))))))) (k+(999999 - j))=G at hfin ⊢;obtain⟨kd,t,n,x,ws,u⟩:=op;dsimp only at hk ht ht' hn hn' hx hx' hw hw';simp only[za3,za2,za1,zca,op0,hk];have e5:∀ (k0:List (List UInt8)->OpT->Option OpT),z4w (k+1000000) op0 (cond f.2.2.2.2.2.1 (ws.map z1y) []) f.1 (kd,t,n,x,[],()) f glob0 (j:Int) k0=k0 [] (kd,t,n,x,ws,()):=fun k0=>by
  cases e:f.2.2.2.2.2.1 with
  | true=>rw[cond_true,z1fl k e (hw e).1 (hw e).2]
  | false =>
    rw[cond_false,hw' e];simp only[z4w];rw[show k+1000000=(k+999999)+1 from rfl,z69];simp only[z9z,za0,e,cond_false]
 cases u;have a4:f.2.2.2.2.1=true->z16a (Lib.itoa n,())=some (n,((),())):=fun e=>by
  obtain⟨h0,h1⟩:=hn e;have:=z19z h0 h1;unfold z16a;rw[z8 (zj (show (Lib.itoa n).length<=281474976710656 by omega))];show some (z11o (Lib.itoa n),((),()))=_;unfold z11o;rw[z1jg h0 h1]
 have a3:f.2.2.2.1=true->zcx (k+1000000) (Lib.trimPrefix (120::zmo x) [120])=some (x,true,()):=fun e=>by
  have:=hx e;have:=z8a x;rw[z1om,z1e0 _ (by omega) (by omega),z1ad];rfl
 cases e1:f.2.2.1<;>cases e2:f.2.2.2.1<;>cases e3:f.2.2.2.2.1
 all_goals simp only[cond_true,cond_false,List.nil_append,List.cons_append,zrz,List.headD_cons,List.tail_cons,Option.bind_some]
 all_goals first|rw[a3 e2,Option.bind_some]|skip
 all_goals first|rw[a4 e3,Option.bind_some]|skip
 all_goals try (have q:=ht' e1;subst q)
 all_goals try (have q:=hx' e2;subst q)
 all_goals try (have q:=hn' e3;subst q)
 all_goals (refine (e5 _).trans ?_;exact hfin)
end
end Go.Proofs.YtlmlihfmoabinaaDoorLg
set_option linter.all false
set_option maxRecDepth 100000
namespace Go.Proofs.YtlmlihfmoabinaaDoorLg
noncomputable section
open Go Go.Lift Go.Lib Go.Proofs.YtlmlihfmoabinaaDoorPx
def opR (o:Option OpT):OpT×Bool×Unit:=match o with
 | some op=>(op,true,())
 | none=>(op0,false,())
def IsO (o:Option OpT)(s:List UInt8):Prop:=(∀ op,o=some op->zk5 op=some s/\z16h op)/\(o=none->∀ op,z16h op->zk5 op≠some s)
theorem z19w {op:OpT}{s:List UInt8}(h:zk5 op=some s):∃ f,z103 op.1=some f/\zv1 op f=true/\z6u (f.1::zca op f)=s:=by
 unfold zk5 at h;cases hf:z103 op.1 with
 | none=>rw[hf] at h;cases h
 | some f =>
   rw[hf] at h;dsimp only at h;cases hq:zv1 op f with
   | false=>rw[hq] at h;cases h
   | true=>rw[hq] at h;exact⟨f,rfl,hq,Option.some.inj h⟩
theorem z10k (k:Nat){op:OpT}{s:List UInt8}(h:zk5 op=some s)(hO:z16h op):z6t (k+1000000) s=some op:=by
 obtain⟨f,hf,hq,rfl⟩:=z19w h;exact z1hv k hf hq hO
theorem z1kt {op op':OpT}{s:List UInt8}(h:zk5 op=some s)(h':zk5 op'=some s)(hO:z16h op)(hO':z16h op'):op=op':=by
 have h1:=z10k 0 h hO;rw[z10k 0 h' hO'] at h1;exact (Option.some.inj h1).symm
theorem z1p0 {o o':Option OpT}{s:List UInt8}(h:IsO o s)(h':IsO o' s):o=o':=by
 cases o with
 | none=>cases o' with
   | none=>rfl
   | some b=>exact absurd (h'.1 b rfl).1 (h.2 rfl b (h'.1 b rfl).2)
 | some a=>cases o' with
   | none=>exact absurd (h.1 a rfl).1 (h'.2 rfl a (h.1 a rfl).2)
   | some b=>rw[z1kt (h.1 a rfl).1 (h'.1 b rfl).1 (h.1 a rfl).2 (h'.1 b rfl).2]
theorem z1ki (k:Nat){s:List UInt8}{op:OpT}(hr:z6t (k+1000000) s=some op)(hl:op.2.2.2.2.1.length<=100000)(hO:z16h op) :
 z6f (k+1000000) s=some (opR (if zk5 op=some s then some op else none)):=by
 simp only[z6f,zjv,zju];rw[hr,Option.bind_some,z1ij k hl hO,Option.bind_some];cases h:zk5 op with
 | none=>rw[if_neg (by simp)];rfl
 | some t =>
   by_cases e:t=s
   . subst e;rw[if_pos rfl];simp only[z1d9,Bool.not_true,cond_false,beq_self_eq_true];rfl
   . rw[if_neg (fun h=>e (Option.some.inj h))];have:(t == s)=false:=by rw[beq_eq_false_iff_ne];exact e
     simp only[z1d9,Bool.not_true,cond_false,this,Bool.not_false,cond_true];rfl
theorem z18r {op:OpT}{s:List UInt8}(h:zk5 op=some s)(hO:z16h op):op.2.2.2.2.1.length<=100000:=by
 obtain⟨f,hf,hq,rfl⟩:=z19w h;obtain⟨_,_,_,_,_,_,hw,hw'⟩:=zsm hq hO;cases e:f.2.2.2.2.2.1 with
 | true=>have:=(hw e).2;omega
 | false=>rw[hw' e];simp
theorem z1kj (k:Nat){s:List UInt8}(hs:s.length<=2000):∃ o,z6f (k+1000000) s=some (opR o)/\IsO o s:=by
 obtain⟨op,hr,h1,h2,h3⟩:=z1kg k hs;have hO:z16h op:=fun w hw=>by have:=h3 w hw;omega
 refine⟨_,z1ki k hr (by omega) hO,fun op' e=>?_,fun e op' hO' h'=>?_⟩
 . split at e
   . rename_i h;cases e;exact⟨h,hO⟩
   . cases e
 . have:op'=op:=by
    have:=z10k k h' hO';rw[hr] at this;exact (Option.some.inj this).symm
   subst this;rw[if_pos h'] at e;cases e
def z1el (op:OpT):Bool:=match z103 op.1 with
 | some f=>zv1 op f
 | none=>false
theorem z15z {k:Int}(h:¬ (1<=k/\k<=9)):z103 k=none:=by
 unfold z103;rw[List.find?_eq_none];have key:∀ g∈glob0,1<=g.2.1/\g.2.1<=9:=by decide
 intro g hg e;have:=key g hg;rw[beq_iff_eq] at e;omega
theorem z1fu (N:Nat){op:OpT}{k0:Bool->Option Bool}{k1:Option Bool}(hl:op.2.2.2.2.1.length<=10000000000)(hN:op.2.2.2.2.1.length<N) :
 z95 N op 0 k0 k1=cond (op.2.2.2.2.1.all (fun w=>decide (w.length<=2048))) k1 (k0 false):=by
 simp only[z95];rw[z4v (I:=fun (v:Int)=>∃ i:Nat,v=(i:Int)/\i<=op.2.2.2.2.1.length) (m:=fun v=>op.2.2.2.2.1.length - v.toNat) (R:=fun v=>cond ((op.2.2.2.2.1.drop v.toNat).all (fun w=>decide (w.length<=2048))) k1 (k0 false)) ?_ N 0 ⟨0,rfl,by omega⟩ (by simp;omega)]
 . rfl
 rintro v r ⟨i,rfl,hi⟩ hr;rw[Int.toNat_natCast] at hr ⊢;simp only[z94,Int.toNat_natCast];by_cases hlt:i<op.2.2.2.2.1.length
 . rw[z8 (zj (by omega)),z8 (z16 hlt),z32 op.2.2.2.2.1 [] i hlt,List.all_cons];by_cases hw:(op.2.2.2.2.1.getD i []).length<=2048
   . rw[zg (zy (by omega)),z1b (by omega),hr _ ⟨i+1,rfl,by omega⟩ (by simp;omega),Int.toNat_natCast,zj hw,Bool.true_and]
   . rw[z8 (zj (by omega)),zy hw];rfl
 . rw[zg (zy (by omega)),z5o op.2.2.2.2.1 (by omega)];rfl
theorem kinds {k:Int}(h:1<=k/\k<=9):k=1\/k=2\/k=3\/k=4\/k=5\/k=6\/k=7\/k=8\/k=9:=by omega
def formB (f:zd1)(a0 a1 b0 b1 b2 c0 c1 d0 d1 d2:Bool):Bool:=(cond f.2.2.1 a0 a1) && (cond f.2.2.2.2.1 (b0 && b1) b2) && (cond f.2.2.2.1 c0 c1) && (cond f.2.2.2.2.2.1 (d0 && d1) d2)
theorem z1cs (N:Nat){op:OpT}(hl:op.2.2.2.2.1.length<=10000000000)(hN:op.2.2.2.2.1.length<N)(h40:40<N):z62 N op=some (z1el op):=by
 simp only[z62,z1fu N hl hN,z9b,z9a,z99,z98,z97,z96,z1fz N h40,Option.bind_some];obtain⟨kd,t,n,x,ws,⟨⟩⟩:=op;dsimp +instances only;by_cases hk:1<=kd/\kd<=9
 case neg =>
  unfold z1el;rw[z15z hk];by_cases h1:kd<1
  . rw[z8 (zj h1)];rfl
  . rw[zg (zy h1),z8 (zj (by omega))];rfl
 have f1:decide (n<0)=!decide (0<=n):=by rw[Bool.eq_iff_iff];simp
 have f2:decide (1099511627776<n)=!decide (n<=1099511627776):=by rw[Bool.eq_iff_iff];simp
 have f3:decide ((131072:Int)<((x.length:Nat):Int))=!decide (x.length<=131072):=by rw[Bool.eq_iff_iff];simp;omega
 have f4:decide ((64:Int)<((ws.length:Nat):Int))=!decide (ws.length<=64):=by rw[Bool.eq_iff_iff];simp;omega
 have f5:decide ((0:Int)<((ws.length:Nat):Int))=!(ws == []):=by
  rw[Bool.eq_iff_iff,decide_eq_true_eq,Bool.not_eq_true',beq_eq_false_iff_ne,ne_eq,<- List.length_eq_zero_iff];omega
 have f6:(n != 0)=!(n == 0):=rfl;have g1:(n == 0)=true->decide (0<=n)=true/\decide (n<=1099511627776)=true:=fun e=>by rw[beq_iff_eq] at e;subst e;exact⟨rfl,rfl⟩
 have g2:(x == [])=true->decide (x.length<=131072)=true:=fun e=>by rw[beq_iff_eq] at e;subst e;rfl
 have g3:(ws == [])=true->decide (ws.length<=64)=true/\ws.all (fun w=>decide (w.length<=2048))=true:=fun e=>by rw[beq_iff_eq] at e;subst e;exact⟨rfl,rfl⟩
 rw[f1,f2,f3,f4,f5,f6];have hR:z1el (kd,t,n,x,ws,())=(match z103 kd with|some f=>formB f (zow t) (t == []) (decide (0<=n)) (decide (n<=1099511627776)) (n == 0) (decide (x.length<=131072)) (x == []) (ws.all (fun w=>decide (w.length<=2048))) (decide (ws.length<=64)) (ws == [])|none=>false):=rfl;rw[hR];generalize zow t=a0;generalize (t == [])=a1;generalize decide (0<=n)=b0 at g1 ⊢;generalize decide (n<=1099511627776)=b1 at g1 ⊢;generalize (n == 0)=b2 at g1 ⊢;generalize decide (x.length<=131072)=c0 at g2 ⊢;generalize (x == [])=c1 at g2 ⊢;generalize ws.all (fun w=>decide (w.length<=2048))=d0 at g3 ⊢;generalize decide (ws.length<=64)=d1 at g3 ⊢;generalize (ws == [])=d2 at g3 ⊢;clear f1 f2 f3 f4 f5 f6 hl hN hR;rcases kinds hk with rfl|rfl|rfl|rfl|rfl|rfl|rfl|rfl|rfl
 all_goals revert a0 a1 b0 b1 b2 c0 c1 d0 d1 d2
 all_goals (clear hk t n x ws h40;decide +kernel)
theorem z18n {k:Int}{f:zd1}(h:z103 k=some f):f.2.2.1=decide (k<=5)/\f.2.2.2.1=(decide (k<=2) || k == 6)/\f.2.2.2.2.1=(k == 3 || k == 7)/\f.2.2.2.2.2.1=(k == 5)/\z39 0 k=some f.1:=by
 by_cases hk:1<=k/\k<=9
 case neg=>rw[z15z hk] at h;cases h
 rcases kinds hk with rfl|rfl|rfl|rfl|rfl|rfl|rfl|rfl|rfl
 all_goals (cases h;exact⟨rfl,rfl,rfl,rfl,rfl⟩)
theorem z1b6:∀ (m N u:Nat),u<10^(m+1)->u<=1000000000000000000->m<N->z28 N ((u:Nat):Int)=some (Lib.decDigits u)
 | m,0,u,_,_,h=>by omega
 | m,N + 1,u,hu,hu',hN=>by
   have one:∀ d,d<10->Lift.cut ([(48:UInt8),(49:UInt8),(50:UInt8),(51:UInt8),(52:UInt8),(53:UInt8),(54:UInt8),(55:UInt8),(56:UInt8),(57:UInt8)]:List UInt8) d (d+1)=[UInt8.ofNat (48+d)]:=by decide
   rw[z28,z9j,Lib.decDigits];by_cases h:u<10
   . rw[z8 (zj (by omega)),z1b (by omega),z8 (zj ⟨by omega,by omega⟩),z8 (zj ⟨by omega,by omega⟩),Int.toNat_natCast,Int.toNat_natCast,one u h,dif_pos h]
   . have hq:((u:Nat):Int).tdiv 10=((u / 10:Nat):Int):=by rw[Int.tdiv_eq_ediv_of_nonneg (by omega)];omega
     have hr:((u:Nat):Int).tmod 10=((u % 10:Nat):Int):=by rw[Int.tmod_eq_emod_of_nonneg (by omega)];omega
     have hl:(Lib.decDigits (u / 10)).length<=1000000000000000001:=by have:=zej (u / 10) (u / 10) (Nat.le_refl _);omega
     cases m with
     | zero=>omega
     | succ m =>
       rw[zg (zy (by omega)),hq,hr,z2p (by unfold I64;omega),z1b6 m N (u / 10) (by rw[Nat.pow_succ] at hu;omega) (by omega) (by omega),Option.bind_some,z1b (by omega),z8 (zj ⟨by omega,by omega⟩),z8 (zj ⟨by omega,by omega⟩),Int.toNat_natCast,Int.toNat_natCast,one _ (by omega),z8 (zj (by simp only[List.length_cons,List.length_nil];omega)),dif_neg h]
theorem z1ax (N:Nat){n:Int}(h0:0<=n)(h1:n<=1099511627776)(hN:20<N):z28 N n=some (Lib.itoa n):=by
 obtain⟨u,rfl⟩:=Int.eq_ofNat_of_zero_le h0;have hi:Lib.itoa (u:Int)=Lib.decDigits u:=by unfold Lib.itoa;rw[if_neg (by omega)];rfl
 rw[hi,z1b6 13 N u (by omega) (by omega) (by omega)]
def z5b (r:List (List UInt8)):List UInt8:=(r.map (fun v=>32::v)).flatten
theorem z1ai (a b:List (List UInt8)):z5b (a++b)=z5b a++z5b b:=by simp[z5b]
theorem z79:∀ (w:List UInt8) (r:List (List UInt8)),z6u (w::r)=w++z5b r
 | w,[]=>by simp[z6u,z5b]
 | w,v::r=>by rw[z6u,z79 v r];simp[z5b]
theorem z1ah (r:List (List UInt8)):(z5b r).length=r.flatten.length+r.length:=by
 induction r with
 | nil=>rfl
 | cons w r ih=>simp only[z5b,List.map_cons,List.flatten_cons,List.length_append,List.length_cons] at ih ⊢;omega
theorem z19a (N:Nat){op:OpT}{s:List UInt8}{k0:List UInt8->Option (List UInt8×Bool×Unit)}(hl:op.2.2.2.2.1.length<=1000)(hs:s.length<=10000000)(hw:∀ w∈op.2.2.2.2.1,w.length<=2000)(hN:5000<=N) :
 zad N op s 0 k0=k0 (s++z5b (op.2.2.2.2.1.map z1y)):=by
 simp only[zad];rw[z4v (I:=fun (v:List UInt8×Int)=>∃ (o:List UInt8) (i:Nat),v=(o,(i:Int))/\i<=op.2.2.2.2.1.length/\o.length<=10000000+9000*i) (m:=fun v=>op.2.2.2.2.1.length - v.2.toNat) (R:=fun v=>k0 (v.1++z5b ((op.2.2.2.2.1.drop v.2.toNat).map z1y))) ?_ N (s,0) ⟨s,0,rfl,by omega,by omega⟩ (by simp;omega)]
 . rfl
 rintro v r ⟨o,i,rfl,hi,hq⟩ hr;dsimp only at hr ⊢;rw[Int.toNat_natCast] at hr ⊢;simp only[zac,Int.toNat_natCast];by_cases hlt:i<op.2.2.2.2.1.length
 . have hwl:=hw _ (z13j op.2.2.2.2.1 [] i hlt);have hql:=zbi (op.2.2.2.2.1.getD i []);rw[z8 (zj (by omega)),z8 (zj (by omega)),z8 (z16 hlt),z1cr N hwl (by omega),Option.bind_some,z8 (zj (by simp only[List.length_append,List.length_cons,List.length_nil];omega)),z1b (by omega),hr ((o++[32])++z1y (op.2.2.2.2.1.getD i []),((i+1:Nat):Int)) ⟨_,i+1,rfl,by omega,by simp only[List.length_append,List.length_cons,List.length_nil];omega⟩ (by dsimp only;omega)];dsimp only;rw[Int.toNat_natCast,z32 op.2.2.2.2.1 [] i hlt,List.map_cons];simp[z5b]
 . rw[zg (zy (by omega)),z5o op.2.2.2.2.1 (by omega)];simp[z5b]
theorem z10j (k:Nat) {op:OpT} (hl:op.2.2.2.2.1.length<=100000) (hO:z16h op):z1r (k+1000000) op=some (z1d9 (zk5 op)):=by
 simp only[z1r];rw[z1cs _ (by omega) (by omega) (by omega),Option.bind_some];unfold z1el zk5;cases hf:z103 op.1 with
 | none=>rfl
 | some f =>
   dsimp only;cases h:zv1 op f with
   | false=>rfl
   | true =>
     obtain⟨e1,e2,e3,e4,e5⟩:=z18n hf;have e5':z39 (k+1000000) op.1=some f.1:=e5;obtain⟨hk,hm⟩:=z1a1 hf;have hc:=(z1bz f hm).1;obtain⟨ht,ht',hn,hn',hx,hx',hw,hw'⟩:=zsm h hO;rw[Bool.not_true,cond_false,e5',Option.bind_some,cond_true];have hws:(∀ w∈op.2.2.2.2.1,w.length<=2000)/\op.2.2.2.2.1.length<=64:=by
      cases e:f.2.2.2.2.2.1 with
      | true=>exact hw e
      | false=>rw[hw' e];simp
     have hww:z5b (op.2.2.2.2.1.map z1y)=z5b (cond f.2.2.2.2.2.1 (op.2.2.2.2.1.map z1y) []):=by
      cases e:f.2.2.2.2.2.1 with
      | true=>rfl
      | false=>rw[hw' e];rfl
     have w1:∀ (s:List UInt8) (k0:List UInt8->Option (List UInt8×Bool×Unit)),s.length<=1000->z6j (k+1000000) op s k0=k0 (s++z5b (cond f.2.2.1 [op.2.1] [])):=fun s k0 hs=>by
      simp only[z6j];rw[<- e1];cases e:f.2.2.1 with
      | false=>rw[cond_false,cond_false];simp[z5b]
      | true =>
        have hwl:=ht e;simp only[zow,Bool.and_eq_true,decide_eq_true_eq] at hwl;rw[cond_true,cond_true,z8 (zj (by omega)),z8 (zj (by simp only[List.length_append,List.length_cons,List.length_nil];omega))];simp[z5b]
     have w2:∀ (s:List UInt8) (k0:List UInt8->Option (List UInt8×Bool×Unit)),s.length<=2000->z6i (k+1000000) op s k0=k0 (s++z5b (cond f.2.2.2.1 [120::zmo op.2.2.2.1] [])):=fun s k0 hs=>by
      simp only[z6i,zaf];have push:∀ (X:Bool->Option (List UInt8×Bool×Unit)),cond (decide (op.1<=2)) (X true) (X (op.1 == 6))=X f.2.2.2.1:=by intro X;rw[e2];cases decide (op.1<=2)<;>rfl
      rw[push (fun x27=>cond x27 _ _)];cases e:f.2.2.2.1 with
      | false=>rw[cond_false,cond_false];simp[z5b]
      | true =>
        have hxl:=hx e;have hh:=z8a op.2.2.2.1;rw[cond_true,cond_true,z8 (zj (by omega)),z1az _ (by omega) (by omega),Option.bind_some,z8 (zj (by simp only[List.length_append,List.length_cons,List.length_nil];omega))];simp[z5b]
     have w3:∀ (s:List UInt8) (k0:List UInt8->Option (List UInt8×Bool×Unit)),s.length<=300000->z6h (k+1000000) op s k0=k0 (s++z5b (cond f.2.2.2.2.1 [Lib.itoa op.2.2.1] [])):=fun s k0 hs=>by
      simp only[z6h,zae];have push:∀ (X:Bool->Option (List UInt8×Bool×Unit)),cond (op.1 == 3) (X true) (X (op.1 == 7))=X f.2.2.2.2.1:=by intro X;rw[e3];cases (op.1 == 3)<;>rfl
      rw[push (fun x41=>cond x41 _ _)];cases e:f.2.2.2.2.1 with
      | false=>rw[cond_false,cond_false];simp[z5b]
      | true =>
        obtain⟨h0,h1⟩:=hn e;have hh:=z19z h0 h1;rw[cond_true,cond_true,z8 (zj (by omega)),z1ax _ h0 h1 (by omega),Option.bind_some,z8 (zj (by simp only[List.length_append,List.length_cons,List.length_nil];omega))];simp[z5b]
     have l1:(z5b (cond f.2.2.1 [op.2.1] [])).length<=33:=by
      cases e:f.2.2.1
      . simp[z5b]
      . have:=ht e;simp only[zow,Bool.and_eq_true,decide_eq_true_eq] at this;simp[z5b];omega
     have l2:(z5b (cond f.2.2.2.1 [120::zmo op.2.2.2.1] [])).length<=262146:=by
      cases e:f.2.2.2.1
      . simp[z5b]
      . have:=hx e;have:=z8a op.2.2.2.1;simp[z5b];omega
     have l3:(z5b (cond f.2.2.2.2.1 [Lib.itoa op.2.2.1] [])).length<=14:=by
      cases e:f.2.2.2.2.1
      . simp[z5b]
      . have:=z19z (hn e).1 (hn e).2;simp[z5b];omega
     rw[w1 _ _ (by omega),w2 _ _ (by simp only[List.length_append];omega),w3 _ _ (by simp only[List.length_append];omega),z19a _ (by omega) (by simp only[List.length_append];omega) hws.1 (by omega),z79,hww];simp only[zca,z1ai,List.append_assoc,z1d9]
end
end Go.Proofs.YtlmlihfmoabinaaDoorLg
set_option linter.all false
set_option maxRecDepth 100000
namespace Go.Proofs.YtlmlihfmoabinaaDoorLg
noncomputable section
open Go Go.Lift
def zor:Code:=(Go.Proofs.Tryd.f6.body).getD .skip
def zjd:List (List Nat×List Nat):=[([0],[]),([0,1],[2,1]),([0,1,1],[2,1,4,3]),([0,1,1,1],[2,1,4,3,5,6]),([0,1,1,1,1],[0]),([1,1,1,1,1],[0])]
def zax (N:Nat):Env:=z3v tys glob [(7,zbv N),(9,zed N),(11,z84 N)] [] [] [] false [] []
theorem zr7 (N:Nat):EnvOk Go.Proofs.Tryd.prog (zax N):=zw mixed z1v (FnsOk.cons (zli N) (FnsOk.cons (zrt N) (FnsOk.cons (zgr N) (FnsOk.nil)))) (ItsOk.nil)
def z65 (N:Nat):Option Bool :=
 (z6f N ([(109:UInt8),(105:UInt8),(110:UInt8),(116:UInt8),(32:UInt8),(97:UInt8),(99:UInt8),(109:UInt8),(101:UInt8),(32:UInt8),(34:UInt8),(98:UInt8),(101:UInt8),(102:UInt8),(111:UInt8),(114:UInt8),(101:UInt8),(32:UInt8),(57:UInt8),(34:UInt8)]:List UInt8)).bind fun y =>
 (z6f N ([(116:UInt8),(101:UInt8),(110:UInt8),(97:UInt8),(110:UInt8),(116:UInt8),(32:UInt8),(97:UInt8),(99:UInt8),(109:UInt8),(101:UInt8),(32:UInt8),(120:UInt8),(54:UInt8),(98:UInt8),(54:UInt8),(98:UInt8)]:List UInt8)).bind fun y1 =>
 (zb0 N ((7:Int),(([]:List UInt8),((3:Int),(([]:List UInt8),(([]:List (List UInt8)),())))))).bind fun y2 =>
 cond y.2.1
 ((z3r N y.1 ((5:Int),(([(97:UInt8),(99:UInt8),(109:UInt8),(101:UInt8)]:List UInt8),((0:Int),(([]:List UInt8),(([([(98:UInt8),(101:UInt8),(102:UInt8),(111:UInt8),(114:UInt8),(101:UInt8),(32:UInt8),(57:UInt8)]:List UInt8)]:List (List UInt8)),())))))).bind fun y3 =>
 cond y3
 (cond y1.2.1
 ((z3r N y1.1 ((1:Int),(([(97:UInt8),(99:UInt8),(109:UInt8),(101:UInt8)]:List UInt8),((0:Int),(([(107:UInt8),(107:UInt8)]:List UInt8),(([]:List (List UInt8)),())))))).bind fun y4 =>
 cond y4
 (cond (y2.1 == ([(116:UInt8),(105:UInt8),(99:UInt8),(107:UInt8),(32:UInt8),(51:UInt8)]:List UInt8))
 (some y2.2.1)
 (some false))
 (some false))
 (some false))
 (some false))
 (some false)
def zjc (N:Nat):Tab Bool:=[]
theorem zoq (N:Nat)(x:z1h []):zc5 (zax N) N (zjc N) zjd Go.Proofs.Tryd.f6 (mkS [] 0 x) (z40 (.v .bool) 0)=z65 N:=by kernel_rfl
def ze3 (N:Nat):List A->Res:=z2c [] (fun x=>z65 N) (zbc (.v .bool) 0)
theorem zuw (N:Nat):Contract Go.Proofs.Tryd.prog glob 6 (ze3 N) :=
 Contract.of (E:=zax N) (H:=zjc N) (L:=zjd) (N:=N) (body:=zor) (K:=(z40 (.v .bool) 0)) (zr7 N) Go.Proofs.Tryd.func6 (by kernel_rfl) (by decide) (fun _ hb=>TabOk.nil) (fun x y h=>by rw[zoq];exact h) (z1c (s:=(.v .bool)) (m:=0))
def zh:Code:=(Go.Proofs.Tryd.f10.body).getD .skip
def z18:List (List Nat×List Nat):=[([0],[0,2]),([0,1],[4,5,2,0]),([0,0,1,1],[6,4,5,2,0]),([0,1,0,1,1],[6,4,5,2,0]),([0,0,0,0,1,0,1,1],[20,6,4,5,2,0]),([1,0,0,0,1,0,1,1],[6,4,5,2,0]),([1,1,0,0,0,1,0,1,1],[2]),([0,0,0,0,1,0,0,1,0,1,1],[26,6,4,5,2,0]),([1,0,0,0,1,0,0,1,0,1,1],[6,5,2,0,4]),([0,1,0,0,0,1,0,0,1,0,1,1],[6,4,5,2,0]),([0,1,0,0,1,0,0,1,0,1,1],[6,5,7,2,0,4]),([0,0,1,1,0,0,1,0,0,1,0,1,1],[30,5,7,6,2,0,4]),([1,0,1,1,0,0,1,0,0,1,0,1,1],[6,5,7,2,0,4]),([0,1,0,1,1,0,0,1,0,0,1,0,1,1],[6,5,7,2,0,4]),([0,0,1,1,1,0,0,1,0,0,1,0,1,1],[42,5,7,6,2,0,4]),([1,0,1,1,1,0,0,1,0,0,1,0,1,1],[6,5,7,2,0,4]),([0,1,0,1,1,1,0,0,1,0,0,1,0,1,1],[6,5,7,2,0,4]),([0,0,1,1,1,1,0,0,1,0,0,1,0,1,1],[51,5,7,6,2,0,4]),([1,0,1,1,1,1,0,0,1,0,0,1,0,1,1],[6,5,2,7,0,4]),([0,1,0,1,1,1,1,0,0,1,0,0,1,0,1,1],[6,5,2,7,0,4]),([0,1,1,1,1,1,0,0,1,0,0,1,0,1,1],[6,8,5,2,7,0,4]),([0,0,1,1,1,1,1,1,0,0,1,0,0,1,0,1,1],[6,8,5,2,7,0,4]),([0,0,0,0,0,1,1,1,1,1,1,0,0,1,0,0,1,0,1,1],[62,5,8,2,7,6,0,4]),([1,0,0,0,0,1,1,1,1,1,1,0,0,1,0,0,1,0,1,1],[5,8,2,7,6,0,4]),([1,1,0,0,0,0,1,1,1,1,1,1,0,0,1,0,0,1,0,1,1],[7,0,2,6,4,5]),([0,0,1,0,0,0,1,1,1,1,1,1,0,0,1,0,0,1,0,1,1],[11,2,7,9,10,6,5,0,4]),([0,0,1,0,1,0,0,0,1,1,1,1,1,1,0,0,1,0,0,1,0,1,1],[72,2,7,9,10,6,5,0,4]),([1,0,1,0,1,0,0,0,1,1,1,1,1,1,0,0,1,0,0,1,0,1,1],[7,9,10,6,5,2,0,4]),([0,0,1,0,1,0,1,0,0,0,1,1,1,1,1,1,0,0,1,0,0,1,0,1,1],[2,3]),([1,0,1,0,1,0,1,0,0,0,1,1,1,1,1,1,0,0,1,0,0,1,0,1,1],[2,3]),([0,1,1,0,1,0,0,0,1,1,1,1,1,1,0,0,1,0,0,1,0,1,1],[10,6,5,2,7,0,4]),([1,1,1,0,1,0,0,0,1,1,1,1,1,1,0,0,1,0,0,1,0,1,1],[6,8,5,2,7,0,4]),([1,0,0,0,1,1,1,1,1,1,0,0,1,0,0,1,0,1,1],[6,8,5,2,7,0,4]),([0,1,1,1,1,1,1,0,0,1,0,0,1,0,1,1],[7,0,2,6,4,5]),([0,1,1,1,1,1,1,1,0,0,1,0,0,1,0,1,1],[13,12,0,7,2,6,4,5]),([0,1,1,1,1,1,1,1,1,0,0,1,0,0,1,0,1,1],[92,7,2,6,4,5,0]),([1,1,1,1,1,1,1,1,1,0,0,1,0,0,1,0,1,1],[6,4,5,2,0]),([0,0,1,1,1,1,1,1,1,1,1,0,0,1,0,0,1,0,1,1],[2,3]),([1,0,1,1,1,1,1,1,1,1,1,0,0,1,0,0,1,0,1,1],[2,3]),([0,1,0,0,1,0,1,1],[6,4,5,2,0]),([1,1,0,0,1,0,1,1],[6,4,5,2,0]),([1,0,1,1],[2]),([0,1,1,1],[2,3]),([1,1,1,1],[2,3])]
def z15 (N:Nat):Env:=z3v tys glob [(8,z9d N),(18,z81 N),(23,zel N),(24,zdd N),(25,zcb N),(26,zgo N)] [] [] [] false [(7,(.pair (.int .i64) (.pair .str (.pair (.int .i64) (.pair .str (.pair (.own .str) .unit)))))),(28,(.pair (.int .i64) (.pair .str (.pair (.int .i64) (.pair .str (.pair (.own .str) .unit))))))] []
theorem zqe (N:Nat):EnvOk Go.Proofs.Tryd.prog (z15 N):=zw mixed z1v (FnsOk.cons (zhs N) (FnsOk.cons (zg3 N) (FnsOk.cons (zwt N) (FnsOk.cons (zsx N) (FnsOk.cons (zpu N) (FnsOk.cons (zxl N) (FnsOk.nil))))))) (ItsOk.nil)
def z5w (N:Nat)(s:(List UInt8))(x2:(Int×((List UInt8)×(Int×((List UInt8)×((List (List UInt8))×Unit))))))(first:(List UInt8))(rest:(List UInt8))(k:Int)(op:(Int×((List UInt8)×(Int×((List UInt8)×((List (List UInt8))×Unit))))))(k0:(List UInt8)->(Int×((List UInt8)×(Int×((List UInt8)×((List (List UInt8))×Unit)))))->Option ((Int×((List UInt8)×(Int×((List UInt8)×((List (List UInt8))×Unit)))))×Bool×Unit)):Option ((Int×((List UInt8)×(Int×((List UInt8)×((List (List UInt8))×Unit)))))×Bool×Unit) :=
 cond (decide (k<=(5:Int)))
 ((z5e N rest).bind fun y =>
 k0 y.2.1 (op.1,(y.1,op.2.2)))
 (k0 rest op)
def zfq (N:Nat)(x:z1h [(0,.v .str),(1,.box (.pair (.int .i64) (.pair .str (.pair (.int .i64) (.pair .str (.pair (.sl .str) .unit)))))),(1,.v .str),(0,.v .str),(0,.v (.int .i64)),(0,.box (.pair (.int .i64) (.pair .str (.pair (.int .i64) (.pair .str (.pair (.own .str) .unit))))))])(K:Ex->List A->Option ((Int×((List UInt8)×(Int×((List UInt8)×((List (List UInt8))×Unit)))))×Bool×Unit)):Option ((Int×((List UInt8)×(Int×((List UInt8)×((List (List UInt8))×Unit)))))×Bool×Unit) :=
 z5w N x.1 x.2.1 x.2.2.1 x.2.2.2.1 x.2.2.2.2.1 x.2.2.2.2.2.1 (fun a3 a5=>(K .normal (mkS [(0,.v .str),(1,.box (.pair (.int .i64) (.pair .str (.pair (.int .i64) (.pair .str (.pair (.sl .str) .unit)))))),(1,.v .str),(0,.v .str),(0,.v (.int .i64)),(0,.box (.pair (.int .i64) (.pair .str (.pair (.int .i64) (.pair .str (.pair (.own .str) .unit))))))] 87 (x.1,x.2.1,x.2.2.1,a3,x.2.2.2.2.1,a5,()))))
def zfh (N:Nat):Hd ((Int×((List UInt8)×(Int×((List UInt8)×((List (List UInt8))×Unit)))))×Bool×Unit):=fun st K=>(unS [(0,.v .str),(1,.box (.pair (.int .i64) (.pair .str (.pair (.int .i64) (.pair .str (.pair (.sl .str) .unit)))))),(1,.v .str),(0,.v .str),(0,.v (.int .i64)),(0,.box (.pair (.int .i64) (.pair .str (.pair (.int .i64) (.pair .str (.pair (.own .str) .unit))))))] 87 (restr [6,5,7,2,0,4] 0 st)).bind fun x=>zfq N x K
def ztd (N:Nat):Tab ((Int×((List UInt8)×(Int×((List UInt8)×((List (List UInt8))×Unit)))))×Bool×Unit):=[]
theorem zqb {N:Nat}{c:Ctx}(hb:Base Go.Proofs.Tryd.prog (z15 N) c):zi Go.Proofs.Tryd.prog c (zf zh [0,1,1,0,0,1,0,0,1,0,1,1]) (zfh N) :=
 zd (s:=[(0,.v .str),(1,.box (.pair (.int .i64) (.pair .str (.pair (.int .i64) (.pair .str (.pair (.sl .str) .unit)))))),(1,.v .str),(0,.v .str),(0,.v (.int .i64)),(0,.box (.pair (.int .i64) (.pair .str (.pair (.int .i64) (.pair .str (.pair (.own .str) .unit))))))]) (m:=87) (g:=zfq N) [6,5,7,2,0,4] (za hb N (ztd N) z18 zh TabOk.nil [0,1,1,0,0,1,0,0,1,0,1,1] _ rfl) (fun x K=>by kernel_rfl)
def z5v (N:Nat)(s:(List UInt8))(x2:(Int×((List UInt8)×(Int×((List UInt8)×((List (List UInt8))×Unit))))))(first:(List UInt8))(rest:(List UInt8))(k:Int)(op:(Int×((List UInt8)×(Int×((List UInt8)×((List (List UInt8))×Unit))))))(k0:Bool->Option ((Int×((List UInt8)×(Int×((List UInt8)×((List (List UInt8))×Unit)))))×Bool×Unit)):Option ((Int×((List UInt8)×(Int×((List UInt8)×((List (List UInt8))×Unit)))))×Bool×Unit) :=
 cond (decide (k<=(2:Int)))
 (k0 true)
 (k0 (k == (6:Int)))
def zfo (N:Nat)(x:z1h [(0,.v .str),(1,.box (.pair (.int .i64) (.pair .str (.pair (.int .i64) (.pair .str (.pair (.sl .str) .unit)))))),(1,.v .str),(0,.v .str),(0,.v (.int .i64)),(0,.box (.pair (.int .i64) (.pair .str (.pair (.int .i64) (.pair .str (.pair (.own .str) .unit))))))])(K:Ex->List A->Option ((Int×((List UInt8)×(Int×((List UInt8)×((List (List UInt8))×Unit)))))×Bool×Unit)):Option ((Int×((List UInt8)×(Int×((List UInt8)×((List (List UInt8))×Unit)))))×Bool×Unit) :=
 z5v N x.1 x.2.1 x.2.2.1 x.2.2.2.1 x.2.2.2.2.1 x.2.2.2.2.2.1 (fun a6=>(K .normal (mkS [(0,.v .str),(1,.box (.pair (.int .i64) (.pair .str (.pair (.int .i64) (.pair .str (.pair (.sl .str) .unit)))))),(1,.v .str),(0,.v .str),(0,.v (.int .i64)),(0,.box (.pair (.int .i64) (.pair .str (.pair (.int .i64) (.pair .str (.pair (.own .str) .unit)))))),(34,.v .bool)] 52 (x.1,x.2.1,x.2.2.1,x.2.2.2.1,x.2.2.2.2.1,x.2.2.2.2.2.1,a6,()))))
def zff (N:Nat):Hd ((Int×((List UInt8)×(Int×((List UInt8)×((List (List UInt8))×Unit)))))×Bool×Unit):=fun st K=>(unS [(0,.v .str),(1,.box (.pair (.int .i64) (.pair .str (.pair (.int .i64) (.pair .str (.pair (.sl .str) .unit)))))),(1,.v .str),(0,.v .str),(0,.v (.int .i64)),(0,.box (.pair (.int .i64) (.pair .str (.pair (.int .i64) (.pair .str (.pair (.own .str) .unit))))))] 87 (restr [6,5,7,2,0,4] 0 st)).bind fun x=>zfo N x K
def ztb (N:Nat):Tab ((Int×((List UInt8)×(Int×((List UInt8)×((List (List UInt8))×Unit)))))×Bool×Unit):=[]
theorem zq9 {N:Nat}{c:Ctx}(hb:Base Go.Proofs.Tryd.prog (z15 N) c):zi Go.Proofs.Tryd.prog c (zf zh [0,0,1,1,1,0,0,1,0,0,1,0,1,1]) (zff N) :=
 zd (s:=[(0,.v .str),(1,.box (.pair (.int .i64) (.pair .str (.pair (.int .i64) (.pair .str (.pair (.sl .str) .unit)))))),(1,.v .str),(0,.v .str),(0,.v (.int .i64)),(0,.box (.pair (.int .i64) (.pair .str (.pair (.int .i64) (.pair .str (.pair (.own .str) .unit))))))]) (m:=87) (g:=zfo N) [6,5,7,2,0,4] (za hb N (ztb N) z18 zh TabOk.nil [0,0,1,1,1,0,0,1,0,0,1,0,1,1] _ rfl) (fun x K=>by kernel_rfl)
def z2s (N:Nat)(s:(List UInt8))(x2:(Int×((List UInt8)×(Int×((List UInt8)×((List (List UInt8))×Unit))))))(first:(List UInt8))(rest:(List UInt8))(k:Int)(op:(Int×((List UInt8)×(Int×((List UInt8)×((List (List UInt8))×Unit))))))(k0:(Int×((List UInt8)×(Int×((List UInt8)×((List (List UInt8))×Unit)))))->Option ((Int×((List UInt8)×(Int×((List UInt8)×((List (List UInt8))×Unit)))))×Bool×Unit)):Option ((Int×((List UInt8)×(Int×((List UInt8)×((List (List UInt8))×Unit)))))×Bool×Unit) :=
 z5v N s x2 first rest k op
 (fun x42=>cond x42
 ((z3o N rest).bind fun y =>
 k0 (op.1,(op.2.1,(op.2.2.1,(y,op.2.2.2.2)))))
 (k0 op))
def zfp (N:Nat)(x:z1h [(0,.v .str),(1,.box (.pair (.int .i64) (.pair .str (.pair (.int .i64) (.pair .str (.pair (.sl .str) .unit)))))),(1,.v .str),(0,.v .str),(0,.v (.int .i64)),(0,.box (.pair (.int .i64) (.pair .str (.pair (.int .i64) (.pair .str (.pair (.own .str) .unit))))))])(K:Ex->List A->Option ((Int×((List UInt8)×(Int×((List UInt8)×((List (List UInt8))×Unit)))))×Bool×Unit)):Option ((Int×((List UInt8)×(Int×((List UInt8)×((List (List UInt8))×Unit)))))×Bool×Unit) :=
 z2s N x.1 x.2.1 x.2.2.1 x.2.2.2.1 x.2.2.2.2.1 x.2.2.2.2.2.1 (fun a5=>(K .normal (mkS [(0,.v .str),(1,.box (.pair (.int .i64) (.pair .str (.pair (.int .i64) (.pair .str (.pair (.sl .str) .unit)))))),(1,.v .str),(0,.v .str),(0,.v (.int .i64)),(0,.box (.pair (.int .i64) (.pair .str (.pair (.int .i64) (.pair .str (.pair (.own .str) .unit))))))] 87 (x.1,x.2.1,x.2.2.1,x.2.2.2.1,x.2.2.2.2.1,a5,()))))
def zfg (N:Nat):Hd ((Int×((List UInt8)×(Int×((List UInt8)×((List (List UInt8))×Unit)))))×Bool×Unit):=fun st K=>(unS [(0,.v .str),(1,.box (.pair (.int .i64) (.pair .str (.pair (.int .i64) (.pair .str (.pair (.sl .str) .unit)))))),(1,.v .str),(0,.v .str),(0,.v (.int .i64)),(0,.box (.pair (.int .i64) (.pair .str (.pair (.int .i64) (.pair .str (.pair (.own .str) .unit))))))] 87 (restr [6,5,7,2,0,4] 0 st)).bind fun x=>zfp N x K
def ztc (N:Nat):Tab ((Int×((List UInt8)×(Int×((List UInt8)×((List (List UInt8))×Unit)))))×Bool×Unit):=[([0,0,1,1,1,0,0,1,0,0,1,0,1,1],zff N)]
theorem zqa {N:Nat}{c:Ctx}(hb:Base Go.Proofs.Tryd.prog (z15 N) c):zi Go.Proofs.Tryd.prog c (zf zh [0,1,1,1,0,0,1,0,0,1,0,1,1]) (zfg N) :=
 zd (s:=[(0,.v .str),(1,.box (.pair (.int .i64) (.pair .str (.pair (.int .i64) (.pair .str (.pair (.sl .str) .unit)))))),(1,.v .str),(0,.v .str),(0,.v (.int .i64)),(0,.box (.pair (.int .i64) (.pair .str (.pair (.int .i64) (.pair .str (.pair (.own .str) .unit))))))]) (m:=87) (g:=zfp N) [6,5,7,2,0,4] (za hb N (ztc N) z18 zh (TabOk.cons (zq9 hb) TabOk.nil) [0,1,1,1,0,0,1,0,0,1,0,1,1] _ rfl) (fun x K=>by kernel_rfl)
def z5u (N:Nat)(s:(List UInt8))(x2:(Int×((List UInt8)×(Int×((List UInt8)×((List (List UInt8))×Unit))))))(first:(List UInt8))(rest:(List UInt8))(k:Int)(op:(Int×((List UInt8)×(Int×((List UInt8)×((List (List UInt8))×Unit))))))(k0:Bool->Option ((Int×((List UInt8)×(Int×((List UInt8)×((List (List UInt8))×Unit)))))×Bool×Unit)):Option ((Int×((List UInt8)×(Int×((List UInt8)×((List (List UInt8))×Unit)))))×Bool×Unit) :=
 cond (k == (3:Int))
 (k0 true)
 (k0 (k == (7:Int)))
def zfm (N:Nat)(x:z1h [(0,.v .str),(1,.box (.pair (.int .i64) (.pair .str (.pair (.int .i64) (.pair .str (.pair (.sl .str) .unit)))))),(1,.v .str),(0,.v .str),(0,.v (.int .i64)),(0,.box (.pair (.int .i64) (.pair .str (.pair (.int .i64) (.pair .str (.pair (.own .str) .unit))))))])(K:Ex->List A->Option ((Int×((List UInt8)×(Int×((List UInt8)×((List (List UInt8))×Unit)))))×Bool×Unit)):Option ((Int×((List UInt8)×(Int×((List UInt8)×((List (List UInt8))×Unit)))))×Bool×Unit) :=
 z5u N x.1 x.2.1 x.2.2.1 x.2.2.2.1 x.2.2.2.2.1 x.2.2.2.2.2.1 (fun a6=>(K .normal (mkS [(0,.v .str),(1,.box (.pair (.int .i64) (.pair .str (.pair (.int .i64) (.pair .str (.pair (.sl .str) .unit)))))),(1,.v .str),(0,.v .str),(0,.v (.int .i64)),(0,.box (.pair (.int .i64) (.pair .str (.pair (.int .i64) (.pair .str (.pair (.own .str) .unit)))))),(43,.v .bool)] 43 (x.1,x.2.1,x.2.2.1,x.2.2.2.1,x.2.2.2.2.1,x.2.2.2.2.2.1,a6,()))))
def zfd (N:Nat):Hd ((Int×((List UInt8)×(Int×((List UInt8)×((List (List UInt8))×Unit)))))×Bool×Unit):=fun st K=>(unS [(0,.v .str),(1,.box (.pair (.int .i64) (.pair .str (.pair (.int .i64) (.pair .str (.pair (.sl .str) .unit)))))),(1,.v .str),(0,.v .str),(0,.v (.int .i64)),(0,.box (.pair (.int .i64) (.pair .str (.pair (.int .i64) (.pair .str (.pair (.own .str) .unit))))))] 87 (restr [6,5,7,2,0,4] 0 st)).bind fun x=>zfm N x K
def zt9 (N:Nat):Tab ((Int×((List UInt8)×(Int×((List UInt8)×((List (List UInt8))×Unit)))))×Bool×Unit):=[]
theorem zq7 {N:Nat}{c:Ctx}(hb:Base Go.Proofs.Tryd.prog (z15 N) c):zi Go.Proofs.Tryd.prog c (zf zh [0,0,1,1,1,1,0,0,1,0,0,1,0,1,1]) (zfd N) :=
 zd (s:=[(0,.v .str),(1,.box (.pair (.int .i64) (.pair .str (.pair (.int .i64) (.pair .str (.pair (.sl .str) .unit)))))),(1,.v .str),(0,.v .str),(0,.v (.int .i64)),(0,.box (.pair (.int .i64) (.pair .str (.pair (.int .i64) (.pair .str (.pair (.own .str) .unit))))))]) (m:=87) (g:=zfm N) [6,5,7,2,0,4] (za hb N (zt9 N) z18 zh TabOk.nil [0,0,1,1,1,1,0,0,1,0,0,1,0,1,1] _ rfl) (fun x K=>by kernel_rfl)
def z23 (N:Nat)(s:(List UInt8))(x2:(Int×((List UInt8)×(Int×((List UInt8)×((List (List UInt8))×Unit))))))(first:(List UInt8))(rest:(List UInt8))(k:Int)(op:(Int×((List UInt8)×(Int×((List UInt8)×((List (List UInt8))×Unit))))))(k0:(Int×((List UInt8)×(Int×((List UInt8)×((List (List UInt8))×Unit)))))->Option ((Int×((List UInt8)×(Int×((List UInt8)×((List (List UInt8))×Unit)))))×Bool×Unit)):Option ((Int×((List UInt8)×(Int×((List UInt8)×((List (List UInt8))×Unit)))))×Bool×Unit) :=
 z5u N s x2 first rest k op
 (fun x51=>cond x51
 ((z5j N rest).bind fun y =>
 k0 (op.1,(op.2.1,(y,op.2.2.2))))
 (k0 op))
def zfn (N:Nat)(x:z1h [(0,.v .str),(1,.box (.pair (.int .i64) (.pair .str (.pair (.int .i64) (.pair .str (.pair (.sl .str) .unit)))))),(1,.v .str),(0,.v .str),(0,.v (.int .i64)),(0,.box (.pair (.int .i64) (.pair .str (.pair (.int .i64) (.pair .str (.pair (.own .str) .unit))))))])(K:Ex->List A->Option ((Int×((List UInt8)×(Int×((List UInt8)×((List (List UInt8))×Unit)))))×Bool×Unit)):Option ((Int×((List UInt8)×(Int×((List UInt8)×((List (List UInt8))×Unit)))))×Bool×Unit) :=
 z23 N x.1 x.2.1 x.2.2.1 x.2.2.2.1 x.2.2.2.2.1 x.2.2.2.2.2.1 (fun a5=>(K .normal (mkS [(0,.v .str),(1,.box (.pair (.int .i64) (.pair .str (.pair (.int .i64) (.pair .str (.pair (.sl .str) .unit)))))),(1,.v .str),(0,.v .str),(0,.v (.int .i64)),(0,.box (.pair (.int .i64) (.pair .str (.pair (.int .i64) (.pair .str (.pair (.own .str) .unit))))))] 87 (x.1,x.2.1,x.2.2.1,x.2.2.2.1,x.2.2.2.2.1,a5,()))))
def zfe (N:Nat):Hd ((Int×((List UInt8)×(Int×((List UInt8)×((List (List UInt8))×Unit)))))×Bool×Unit):=fun st K=>(unS [(0,.v .str),(1,.box (.pair (.int .i64) (.pair .str (.pair (.int .i64) (.pair .str (.pair (.sl .str) .unit)))))),(1,.v .str),(0,.v .str),(0,.v (.int .i64)),(0,.box (.pair (.int .i64) (.pair .str (.pair (.int .i64) (.pair .str (.pair (.own .str) .unit))))))] 87 (restr [6,5,7,2,0,4] 0 st)).bind fun x=>zfn N x K
def zta (N:Nat):Tab ((Int×((List UInt8)×(Int×((List UInt8)×((List (List UInt8))×Unit)))))×Bool×Unit):=[([0,0,1,1,1,1,0,0,1,0,0,1,0,1,1],zfd N)]
theorem zq8 {N:Nat}{c:Ctx}(hb:Base Go.Proofs.Tryd.prog (z15 N) c):zi Go.Proofs.Tryd.prog c (zf zh [0,1,1,1,1,0,0,1,0,0,1,0,1,1]) (zfe N) :=
 zd (s:=[(0,.v .str),(1,.box (.pair (.int .i64) (.pair .str (.pair (.int .i64) (.pair .str (.pair (.sl .str) .unit)))))),(1,.v .str),(0,.v .str),(0,.v (.int .i64)),(0,.box (.pair (.int .i64) (.pair .str (.pair (.int .i64) (.pair .str (.pair (.own .str) .unit))))))]) (m:=87) (g:=zfn N) [6,5,7,2,0,4] (za hb N (zta N) z18 zh (TabOk.cons (zq7 hb) TabOk.nil) [0,1,1,1,1,0,0,1,0,0,1,0,1,1] _ rfl) (fun x K=>by kernel_rfl)
def z3x (N:Nat)(s:(List UInt8))(x2:(Int×((List UInt8)×(Int×((List UInt8)×((List (List UInt8))×Unit))))))(first:(List UInt8))(rest:(List UInt8))(k:Int)(op:(Int×((List UInt8)×(Int×((List UInt8)×((List (List UInt8))×Unit))))))(at_:Int)(k0:Option ((Int×((List UInt8)×(Int×((List UInt8)×((List (List UInt8))×Unit)))))×Bool×Unit))(k1:Option ((Int×((List UInt8)×(Int×((List UInt8)×((List (List UInt8))×Unit)))))×Bool×Unit)):Option ((Int×((List UInt8)×(Int×((List UInt8)×((List (List UInt8))×Unit)))))×Bool×Unit) :=
 cond (k == (5:Int))
 (cond (decide (at_<(((List.length rest):Nat):Int)))
 (k0)
 (k1))
 (k1)
def zdu (N:Nat)(x:z1h [(0,.v .str),(1,.box (.pair (.int .i64) (.pair .str (.pair (.int .i64) (.pair .str (.pair (.sl .str) .unit)))))),(1,.v .str),(0,.v .str),(0,.v (.int .i64)),(0,.box (.pair (.int .i64) (.pair .str (.pair (.int .i64) (.pair .str (.pair (.own .str) .unit)))))),(0,.v (.int .i64))])(K:Ex->List A->Option ((Int×((List UInt8)×(Int×((List UInt8)×((List (List UInt8))×Unit)))))×Bool×Unit)):Option ((Int×((List UInt8)×(Int×((List UInt8)×((List (List UInt8))×Unit)))))×Bool×Unit) :=
 z3x N x.1 x.2.1 x.2.2.1 x.2.2.2.1 x.2.2.2.2.1 x.2.2.2.2.2.1 x.2.2.2.2.2.2.1 (K .normal (mkS [(0,.v .str),(1,.box (.pair (.int .i64) (.pair .str (.pair (.int .i64) (.pair .str (.pair (.sl .str) .unit)))))),(1,.v .str),(0,.v .str),(0,.v (.int .i64)),(0,.box (.pair (.int .i64) (.pair .str (.pair (.int .i64) (.pair .str (.pair (.own .str) .unit)))))),(0,.v (.int .i64))] 86 (x.1,x.2.1,x.2.2.1,x.2.2.2.1,x.2.2.2.2.1,x.2.2.2.2.2.1,x.2.2.2.2.2.2.1,()))) (K (.exit 2) (mkS [(0,.v .str),(1,.box (.pair (.int .i64) (.pair .str (.pair (.int .i64) (.pair .str (.pair (.sl .str) .unit)))))),(1,.v .str),(0,.v .str),(0,.v (.int .i64)),(0,.box (.pair (.int .i64) (.pair .str (.pair (.int .i64) (.pair .str (.pair (.own .str) .unit))))))] 87 (x.1,x.2.1,x.2.2.1,x.2.2.2.1,x.2.2.2.2.1,x.2.2.2.2.2.1,())))
def zds (N:Nat):Hd ((Int×((List UInt8)×(Int×((List UInt8)×((List (List UInt8))×Unit)))))×Bool×Unit):=fun st K=>(unS [(0,.v .str),(1,.box (.pair (.int .i64) (.pair .str (.pair (.int .i64) (.pair .str (.pair (.sl .str) .unit)))))),(1,.v .str),(0,.v .str),(0,.v (.int .i64)),(0,.box (.pair (.int .i64) (.pair .str (.pair (.int .i64) (.pair .str (.pair (.own .str) .unit)))))),(0,.v (.int .i64))] 86 (restr [6,8,5,2,7,0,4] 0 st)).bind fun x=>zdu N x K
def zq4 (N:Nat):Tab ((Int×((List UInt8)×(Int×((List UInt8)×((List (List UInt8))×Unit)))))×Bool×Unit):=[]
theorem zoe {N:Nat}{c:Ctx}(hb:Base Go.Proofs.Tryd.prog (z15 N) c):zi Go.Proofs.Tryd.prog c (zf zh [0,0,0,0,1,1,1,1,1,1,0,0,1,0,0,1,0,1,1]) (zds N) :=
 zd (s:=[(0,.v .str),(1,.box (.pair (.int .i64) (.pair .str (.pair (.int .i64) (.pair .str (.pair (.sl .str) .unit)))))),(1,.v .str),(0,.v .str),(0,.v (.int .i64)),(0,.box (.pair (.int .i64) (.pair .str (.pair (.int .i64) (.pair .str (.pair (.own .str) .unit)))))),(0,.v (.int .i64))]) (m:=86) (g:=zdu N) [6,8,5,2,7,0,4] (za hb N (zq4 N) z18 zh TabOk.nil [0,0,0,0,1,1,1,1,1,1,0,0,1,0,0,1,0,1,1] _ rfl) (fun x K=>by kernel_rfl)
def z4p (N:Nat)(s:(List UInt8))(x2:(Int×((List UInt8)×(Int×((List UInt8)×((List (List UInt8))×Unit))))))(first:(List UInt8))(rest:(List UInt8))(k:Int)(op:(Int×((List UInt8)×(Int×((List UInt8)×((List (List UInt8))×Unit))))))(at_:Int)(rec:(Int×((List UInt8)×(Int×((List UInt8)×((List (List UInt8))×Unit)))))->Int->Option ((Int×((List UInt8)×(Int×((List UInt8)×((List (List UInt8))×Unit)))))×Bool×Unit))(k0:(Int×((List UInt8)×(Int×((List UInt8)×((List (List UInt8))×Unit)))))->Bool->Option ((Int×((List UInt8)×(Int×((List UInt8)×((List (List UInt8))×Unit)))))×Bool×Unit))(k1:(Int×((List UInt8)×(Int×((List UInt8)×((List (List UInt8))×Unit)))))->Option ((Int×((List UInt8)×(Int×((List UInt8)×((List (List UInt8))×Unit)))))×Bool×Unit)):Option ((Int×((List UInt8)×(Int×((List UInt8)×((List (List UInt8))×Unit)))))×Bool×Unit) :=
 z3x N s x2 first rest k op at_
 ((z4k N rest at_).bind fun y =>
 cond (y.2.2.1.1 != (0:Int))
 (k0 ((0:Int),(([]:List UInt8),((0:Int),(([]:List UInt8),(([]:List (List UInt8)),()))))) false)
 (cond (decide ((((List.length op.2.2.2.2.1)+1)*16)<=70368744177664))
 (rec (op.1,(op.2.1,(op.2.2.1,(op.2.2.2.1,((op.2.2.2.2.1++([y.1]:List (List UInt8))),op.2.2.2.2.2))))) (Go.IntKind.wrap Go.IntKind.i64 (y.2.1+(1:Int))))
 (none)))
 (k1 op)
def z5t (N:Nat)(s:(List UInt8))(x2:(Int×((List UInt8)×(Int×((List UInt8)×((List (List UInt8))×Unit))))))(first:(List UInt8))(rest:(List UInt8))(k:Int)(op:(Int×((List UInt8)×(Int×((List UInt8)×((List (List UInt8))×Unit))))))(at_:Int)(k0:(Int×((List UInt8)×(Int×((List UInt8)×((List (List UInt8))×Unit)))))->Bool->Option ((Int×((List UInt8)×(Int×((List UInt8)×((List (List UInt8))×Unit)))))×Bool×Unit))(k1:(Int×((List UInt8)×(Int×((List UInt8)×((List (List UInt8))×Unit)))))->Option ((Int×((List UInt8)×(Int×((List UInt8)×((List (List UInt8))×Unit)))))×Bool×Unit)):Option ((Int×((List UInt8)×(Int×((List UInt8)×((List (List UInt8))×Unit)))))×Bool×Unit) :=
 iter (fun (v:((Int×((List UInt8)×(Int×((List UInt8)×((List (List UInt8))×Unit)))))×Int)) r=>z4p N s x2 first rest k v.1 v.2 (fun op at_=>(r (op,at_))) k0 k1) N (op,at_)
def zfk (N:Nat)(i:((List UInt8)×(Int×((List UInt8)×(Int×((List UInt8)×((List (List UInt8))×Unit)))))×(List UInt8)×(List UInt8)×Int))(v:((Int×((List UInt8)×(Int×((List UInt8)×((List (List UInt8))×Unit)))))×Int))(r:((Int×((List UInt8)×(Int×((List UInt8)×((List (List UInt8))×Unit)))))×Int)->Option ((Int×((List UInt8)×(Int×((List UInt8)×((List (List UInt8))×Unit)))))×Bool×Unit))(K:Ex->List A->Option ((Int×((List UInt8)×(Int×((List UInt8)×((List (List UInt8))×Unit)))))×Bool×Unit)):Option ((Int×((List UInt8)×(Int×((List UInt8)×((List (List UInt8))×Unit)))))×Bool×Unit) :=
 z4p N i.1 i.2.1 i.2.2.1 i.2.2.2.1 i.2.2.2.2 v.1 v.2 (fun op at_=>(r (op,at_))) (fun a0 a1=>(K .ret (mkS [(2,.box (.pair (.int .i64) (.pair .str (.pair (.int .i64) (.pair .str (.pair (.sl .str) .unit)))))),(0,.v .bool)] 91 (a0,a1,())))) (fun a5=>(K (.exit 2) (mkS [(0,.v .str),(1,.box (.pair (.int .i64) (.pair .str (.pair (.int .i64) (.pair .str (.pair (.sl .str) .unit)))))),(1,.v .str),(0,.v .str),(0,.v (.int .i64)),(0,.box (.pair (.int .i64) (.pair .str (.pair (.int .i64) (.pair .str (.pair (.own .str) .unit))))))] 87 (i.1,i.2.1,i.2.2.1,i.2.2.2.1,i.2.2.2.2,a5,()))))
def zfb (N:Nat):Hd ((Int×((List UInt8)×(Int×((List UInt8)×((List (List UInt8))×Unit)))))×Bool×Unit):=fun st K=>(unS [(0,.v .str),(1,.box (.pair (.int .i64) (.pair .str (.pair (.int .i64) (.pair .str (.pair (.sl .str) .unit)))))),(1,.v .str),(0,.v .str),(0,.v (.int .i64)),(0,.box (.pair (.int .i64) (.pair .str (.pair (.int .i64) (.pair .str (.pair (.own .str) .unit)))))),(0,.v (.int .i64))] 86 (restr [6,8,5,2,7,0,4] 0 st)).bind fun x=>iter (fun v r=>zfk N ((fun x=>(x.1,x.2.1,x.2.2.1,x.2.2.2.1,x.2.2.2.2.1)) x) v r K) N ((fun x=>(x.2.2.2.2.2.1,x.2.2.2.2.2.2.1)) x)
def zt7 (N:Nat):Tab ((Int×((List UInt8)×(Int×((List UInt8)×((List (List UInt8))×Unit)))))×Bool×Unit):=[([0,0,0,0,1,1,1,1,1,1,0,0,1,0,0,1,0,1,1],zds N)]
theorem zq5 {N:Nat}{c:Ctx}(hb:Base Go.Proofs.Tryd.prog (z15 N) c):zi Go.Proofs.Tryd.prog c (zf zh [0,0,1,1,1,1,1,1,0,0,1,0,0,1,0,1,1]) (zfb N) :=
 z3z (s:=[(0,.v .str),(1,.box (.pair (.int .i64) (.pair .str (.pair (.int .i64) (.pair .str (.pair (.sl .str) .unit)))))),(1,.v .str),(0,.v .str),(0,.v (.int .i64)),(0,.box (.pair (.int .i64) (.pair .str (.pair (.int .i64) (.pair .str (.pair (.own .str) .unit)))))),(0,.v (.int .i64))]) (m:=86) (zfk N) [6,8,5,2,7,0,4] N (fun x=>(x.1,x.2.1,x.2.2.1,x.2.2.2.1,x.2.2.2.2.1)) (fun x=>(x.2.2.2.2.2.1,x.2.2.2.2.2.2.1)) (fun i v=>(i.1,i.2.1,i.2.2.1,i.2.2.2.1,i.2.2.2.2,v.1,v.2,())) (fun _=>rfl) (za hb N (zt7 N) z18 zh (TabOk.cons (zoe hb) TabOk.nil) [0,0,0,1,1,1,1,1,1,0,0,1,0,0,1,0,1,1] _ rfl) (fun i v r K=>by kernel_rfl)
def z19 (N:Nat)(s:(List UInt8))(x2:(Int×((List UInt8)×(Int×((List UInt8)×((List (List UInt8))×Unit))))))(first:(List UInt8))(rest:(List UInt8))(k:Int)(op:(Int×((List UInt8)×(Int×((List UInt8)×((List (List UInt8))×Unit))))))(at_:Int)(k0:(Int×((List UInt8)×(Int×((List UInt8)×((List (List UInt8))×Unit)))))->Bool->Option ((Int×((List UInt8)×(Int×((List UInt8)×((List (List UInt8))×Unit)))))×Bool×Unit))(k1:(Int×((List UInt8)×(Int×((List UInt8)×((List (List UInt8))×Unit)))))->Option ((Int×((List UInt8)×(Int×((List UInt8)×((List (List UInt8))×Unit)))))×Bool×Unit)):Option ((Int×((List UInt8)×(Int×((List UInt8)×((List (List UInt8))×Unit)))))×Bool×Unit) :=
 z5t N s x2 first rest k op at_
 (fun x21 x3=>k0 x21 x3)
 (fun op1=>k1 op1)
def zfl (N:Nat)(x:z1h [(0,.v .str),(1,.box (.pair (.int .i64) (.pair .str (.pair (.int .i64) (.pair .str (.pair (.sl .str) .unit)))))),(1,.v .str),(0,.v .str),(0,.v (.int .i64)),(0,.box (.pair (.int .i64) (.pair .str (.pair (.int .i64) (.pair .str (.pair (.own .str) .unit)))))),(0,.v (.int .i64))])(K:Ex->List A->Option ((Int×((List UInt8)×(Int×((List UInt8)×((List (List UInt8))×Unit)))))×Bool×Unit)):Option ((Int×((List UInt8)×(Int×((List UInt8)×((List (List UInt8))×Unit)))))×Bool×Unit) :=
 z19 N x.1 x.2.1 x.2.2.1 x.2.2.2.1 x.2.2.2.2.1 x.2.2.2.2.2.1 x.2.2.2.2.2.2.1 (fun a0 a1=>(K .ret (mkS [(2,.box (.pair (.int .i64) (.pair .str (.pair (.int .i64) (.pair .str (.pair (.sl .str) .unit)))))),(0,.v .bool)] 91 (a0,a1,())))) (fun a5=>(K .normal (mkS [(0,.v .str),(1,.box (.pair (.int .i64) (.pair .str (.pair (.int .i64) (.pair .str (.pair (.sl .str) .unit)))))),(1,.v .str),(0,.v .str),(0,.v (.int .i64)),(0,.box (.pair (.int .i64) (.pair .str (.pair (.int .i64) (.pair .str (.pair (.own .str) .unit))))))] 87 (x.1,x.2.1,x.2.2.1,x.2.2.2.1,x.2.2.2.2.1,a5,()))))
def zfc (N:Nat):Hd ((Int×((List UInt8)×(Int×((List UInt8)×((List (List UInt8))×Unit)))))×Bool×Unit):=fun st K=>(unS [(0,.v .str),(1,.box (.pair (.int .i64) (.pair .str (.pair (.int .i64) (.pair .str (.pair (.sl .str) .unit)))))),(1,.v .str),(0,.v .str),(0,.v (.int .i64)),(0,.box (.pair (.int .i64) (.pair .str (.pair (.int .i64) (.pair .str (.pair (.own .str) .unit)))))),(0,.v (.int .i64))] 86 (restr [6,8,5,2,7,0,4] 0 st)).bind fun x=>zfl N x K
def zt8 (N:Nat):Tab ((Int×((List UInt8)×(Int×((List UInt8)×((List (List UInt8))×Unit)))))×Bool×Unit):=[([0,0,1,1,1,1,1,1,0,0,1,0,0,1,0,1,1],zfb N)]
theorem zq6 {N:Nat}{c:Ctx}(hb:Base Go.Proofs.Tryd.prog (z15 N) c):zi Go.Proofs.Tryd.prog c (zf zh [0,1,1,1,1,1,1,0,0,1,0,0,1,0,1,1]) (zfc N) :=
 zd (s:=[(0,.v .str),(1,.box (.pair (.int .i64) (.pair .str (.pair (.int .i64) (.pair .str (.pair (.sl .str) .unit)))))),(1,.v .str),(0,.v .str),(0,.v (.int .i64)),(0,.box (.pair (.int .i64) (.pair .str (.pair (.int .i64) (.pair .str (.pair (.own .str) .unit)))))),(0,.v (.int .i64))]) (m:=86) (g:=zfl N) [6,8,5,2,7,0,4] (za hb N (zt8 N) z18 zh (TabOk.cons (zq5 hb) TabOk.nil) [0,1,1,1,1,1,1,0,0,1,0,0,1,0,1,1] _ rfl) (fun x K=>by kernel_rfl)
def z1e (N:Nat)(s:(List UInt8))(x2:(Int×((List UInt8)×(Int×((List UInt8)×((List (List UInt8))×Unit))))))(first:(List UInt8))(rest:(List UInt8))(k:Int)(op:(Int×((List UInt8)×(Int×((List UInt8)×((List (List UInt8))×Unit))))))(t:(List UInt8))(is_:Bool)(k0:Bool->Option ((Int×((List UInt8)×(Int×((List UInt8)×((List (List UInt8))×Unit)))))×Bool×Unit)):Option ((Int×((List UInt8)×(Int×((List UInt8)×((List (List UInt8))×Unit)))))×Bool×Unit) :=
 cond is_
 (k0 (t == s))
 (k0 false)
def zdt (N:Nat)(x:z1h [(0,.v .str),(1,.box (.pair (.int .i64) (.pair .str (.pair (.int .i64) (.pair .str (.pair (.sl .str) .unit)))))),(1,.v .str),(0,.v .str),(0,.v (.int .i64)),(0,.box (.pair (.int .i64) (.pair .str (.pair (.int .i64) (.pair .str (.pair (.sl .str) .unit)))))),(4,.v .str),(0,.v .bool)])(K:Ex->List A->Option ((Int×((List UInt8)×(Int×((List UInt8)×((List (List UInt8))×Unit)))))×Bool×Unit)):Option ((Int×((List UInt8)×(Int×((List UInt8)×((List (List UInt8))×Unit)))))×Bool×Unit) :=
 z1e N x.1 x.2.1 x.2.2.1 x.2.2.2.1 x.2.2.2.2.1 x.2.2.2.2.2.1 x.2.2.2.2.2.2.1 x.2.2.2.2.2.2.2.1 (fun a6=>(K .normal (mkS [(0,.v .str),(1,.box (.pair (.int .i64) (.pair .str (.pair (.int .i64) (.pair .str (.pair (.sl .str) .unit)))))),(1,.v .str),(0,.v .str),(0,.v (.int .i64)),(0,.box (.pair (.int .i64) (.pair .str (.pair (.int .i64) (.pair .str (.pair (.sl .str) .unit)))))),(84,.v .bool)] 2 (x.1,x.2.1,x.2.2.1,x.2.2.2.1,x.2.2.2.2.1,x.2.2.2.2.2.1,a6,()))))
def zdr (N:Nat):Hd ((Int×((List UInt8)×(Int×((List UInt8)×((List (List UInt8))×Unit)))))×Bool×Unit):=fun st K=>(unS [(0,.v .str),(1,.box (.pair (.int .i64) (.pair .str (.pair (.int .i64) (.pair .str (.pair (.sl .str) .unit)))))),(1,.v .str),(0,.v .str),(0,.v (.int .i64)),(0,.box (.pair (.int .i64) (.pair .str (.pair (.int .i64) (.pair .str (.pair (.sl .str) .unit)))))),(4,.v .str),(0,.v .bool)] 81 (restr [13,12,0,7,2,6,4,5] 0 st)).bind fun x=>zdt N x K
def zq3 (N:Nat):Tab ((Int×((List UInt8)×(Int×((List UInt8)×((List (List UInt8))×Unit)))))×Bool×Unit):=[]
theorem zod {N:Nat}{c:Ctx}(hb:Base Go.Proofs.Tryd.prog (z15 N) c):zi Go.Proofs.Tryd.prog c (zf zh [0,1,1,1,1,1,1,1,1,0,0,1,0,0,1,0,1,1]) (zdr N) :=
 zd (s:=[(0,.v .str),(1,.box (.pair (.int .i64) (.pair .str (.pair (.int .i64) (.pair .str (.pair (.sl .str) .unit)))))),(1,.v .str),(0,.v .str),(0,.v (.int .i64)),(0,.box (.pair (.int .i64) (.pair .str (.pair (.int .i64) (.pair .str (.pair (.sl .str) .unit)))))),(4,.v .str),(0,.v .bool)]) (m:=81) (g:=zdt N) [13,12,0,7,2,6,4,5] (za hb N (zq3 N) z18 zh TabOk.nil [0,1,1,1,1,1,1,1,1,0,0,1,0,0,1,0,1,1] _ rfl) (fun x K=>by kernel_rfl)
def z3i (N:Nat)(s:(List UInt8))(x2:(Int×((List UInt8)×(Int×((List UInt8)×((List (List UInt8))×Unit))))))(first:(List UInt8))(rest:(List UInt8))(k:Int)(k0:(List UInt8)->Option ((Int×((List UInt8)×(Int×((List UInt8)×((List (List UInt8))×Unit)))))×Bool×Unit))(k1:(Int×((List UInt8)×(Int×((List UInt8)×((List (List UInt8))×Unit)))))->Bool->Option ((Int×((List UInt8)×(Int×((List UInt8)×((List (List UInt8))×Unit)))))×Bool×Unit)):Option ((Int×((List UInt8)×(Int×((List UInt8)×((List (List UInt8))×Unit)))))×Bool×Unit) :=
 (z39 N k).bind fun y =>
 cond (!(y == first))
 (k0 rest)
 (z5w N s x2 first rest k (k,(([]:List UInt8),((0:Int),(([]:List UInt8),(([]:List (List UInt8)),())))))
 (fun rest1 op=>z2s N s x2 first rest1 k op
 (fun op1=>z23 N s x2 first rest1 k op1
 (fun op2=>z19 N s x2 first rest1 k op2 (0:Int)
 (fun x21 x3=>k1 x21 x3)
 (fun op3=>(z1r N (op3.1,(op3.2.1,(op3.2.2.1,(op3.2.2.2.1,(op3.2.2.2.2.1,op3.2.2.2.2.2)))))).bind fun y1 =>
 z1e N s x2 first rest1 k (op3.1,(op3.2.1,(op3.2.2.1,(op3.2.2.2.1,(op3.2.2.2.2.1,op3.2.2.2.2.2))))) y1.1 y1.2.1
 (fun x92=>cond x92
 (k1 (op3.1,(op3.2.1,(op3.2.2.1,(op3.2.2.2.1,(op3.2.2.2.2.1,op3.2.2.2.2.2))))) true)
 (k0 rest1)))))))
def zfr (N:Nat)(x:z1h [(0,.v .str),(1,.box (.pair (.int .i64) (.pair .str (.pair (.int .i64) (.pair .str (.pair (.sl .str) .unit)))))),(1,.v .str),(0,.v .str),(0,.v (.int .i64))])(K:Ex->List A->Option ((Int×((List UInt8)×(Int×((List UInt8)×((List (List UInt8))×Unit)))))×Bool×Unit)):Option ((Int×((List UInt8)×(Int×((List UInt8)×((List (List UInt8))×Unit)))))×Bool×Unit) :=
 z3i N x.1 x.2.1 x.2.2.1 x.2.2.2.1 x.2.2.2.2.1 (fun a3=>(K .normal (mkS [(0,.v .str),(1,.box (.pair (.int .i64) (.pair .str (.pair (.int .i64) (.pair .str (.pair (.sl .str) .unit)))))),(1,.v .str),(0,.v .str),(0,.v (.int .i64))] 88 (x.1,x.2.1,x.2.2.1,a3,x.2.2.2.2.1,())))) (fun a0 a1=>(K .ret (mkS [(2,.box (.pair (.int .i64) (.pair .str (.pair (.int .i64) (.pair .str (.pair (.sl .str) .unit)))))),(0,.v .bool)] 91 (a0,a1,()))))
def zfi (N:Nat):Hd ((Int×((List UInt8)×(Int×((List UInt8)×((List (List UInt8))×Unit)))))×Bool×Unit):=fun st K=>(unS [(0,.v .str),(1,.box (.pair (.int .i64) (.pair .str (.pair (.int .i64) (.pair .str (.pair (.sl .str) .unit)))))),(1,.v .str),(0,.v .str),(0,.v (.int .i64))] 88 (restr [6,4,5,2,0] 0 st)).bind fun x=>zfr N x K
def zte (N:Nat):Tab ((Int×((List UInt8)×(Int×((List UInt8)×((List (List UInt8))×Unit)))))×Bool×Unit):=[([0,1,1,0,0,1,0,0,1,0,1,1],zfh N),([0,1,1,1,0,0,1,0,0,1,0,1,1],zfg N),([0,1,1,1,1,0,0,1,0,0,1,0,1,1],zfe N),([0,1,1,1,1,1,1,0,0,1,0,0,1,0,1,1],zfc N),([0,1,1,1,1,1,1,1,1,0,0,1,0,0,1,0,1,1],zdr N)]
theorem zqc {N:Nat}{c:Ctx}(hb:Base Go.Proofs.Tryd.prog (z15 N) c):zi Go.Proofs.Tryd.prog c (zf zh [0,1,0,0,1,0,1,1]) (zfi N) :=
 zd (s:=[(0,.v .str),(1,.box (.pair (.int .i64) (.pair .str (.pair (.int .i64) (.pair .str (.pair (.sl .str) .unit)))))),(1,.v .str),(0,.v .str),(0,.v (.int .i64))]) (m:=88) (g:=zfr N) [6,4,5,2,0] (za hb N (zte N) z18 zh (TabOk.cons (zqb hb) (TabOk.cons (zqa hb) (TabOk.cons (zq8 hb) (TabOk.cons (zq6 hb) (TabOk.cons (zod hb) TabOk.nil))))) [0,1,0,0,1,0,1,1] _ rfl) (fun x K=>by kernel_rfl)
def z22 (N:Nat)(s:(List UInt8))(x2:(Int×((List UInt8)×(Int×((List UInt8)×((List (List UInt8))×Unit))))))(first:(List UInt8))(rest:(List UInt8))(k:Int)(rec:(List UInt8)->Int->Option ((Int×((List UInt8)×(Int×((List UInt8)×((List (List UInt8))×Unit)))))×Bool×Unit))(k0:(Int×((List UInt8)×(Int×((List UInt8)×((List (List UInt8))×Unit)))))->Bool->Option ((Int×((List UInt8)×(Int×((List UInt8)×((List (List UInt8))×Unit)))))×Bool×Unit))(k1:Option ((Int×((List UInt8)×(Int×((List UInt8)×((List (List UInt8))×Unit)))))×Bool×Unit)):Option ((Int×((List UInt8)×(Int×((List UInt8)×((List (List UInt8))×Unit)))))×Bool×Unit) :=
 cond (decide (k<=(9:Int)))
 (z3i N s x2 first rest k
 (fun rest1=>rec rest1 (Go.IntKind.wrap Go.IntKind.i64 (k+(1:Int))))
 (fun x21 x3=>k0 x21 x3))
 (k1)
def z9c (N:Nat)(s:(List UInt8))(x2:(Int×((List UInt8)×(Int×((List UInt8)×((List (List UInt8))×Unit))))))(first:(List UInt8))(rest:(List UInt8))(k:Int)(k0:(Int×((List UInt8)×(Int×((List UInt8)×((List (List UInt8))×Unit)))))->Bool->Option ((Int×((List UInt8)×(Int×((List UInt8)×((List (List UInt8))×Unit)))))×Bool×Unit))(k1:Option ((Int×((List UInt8)×(Int×((List UInt8)×((List (List UInt8))×Unit)))))×Bool×Unit)):Option ((Int×((List UInt8)×(Int×((List UInt8)×((List (List UInt8))×Unit)))))×Bool×Unit) :=
 iter (fun (v:((List UInt8)×Int)) r=>z22 N s x2 first v.1 v.2 (fun rest k=>(r (rest,k))) k0 k1) N (rest,k)
def zfs (N:Nat)(i:((List UInt8)×(Int×((List UInt8)×(Int×((List UInt8)×((List (List UInt8))×Unit)))))×(List UInt8)))(v:((List UInt8)×Int))(r:((List UInt8)×Int)->Option ((Int×((List UInt8)×(Int×((List UInt8)×((List (List UInt8))×Unit)))))×Bool×Unit))(K:Ex->List A->Option ((Int×((List UInt8)×(Int×((List UInt8)×((List (List UInt8))×Unit)))))×Bool×Unit)):Option ((Int×((List UInt8)×(Int×((List UInt8)×((List (List UInt8))×Unit)))))×Bool×Unit) :=
 z22 N i.1 i.2.1 i.2.2 v.1 v.2 (fun rest k=>(r (rest,k))) (fun a0 a1=>(K .ret (mkS [(2,.box (.pair (.int .i64) (.pair .str (.pair (.int .i64) (.pair .str (.pair (.sl .str) .unit)))))),(0,.v .bool)] 91 (a0,a1,())))) (K (.exit 0) (mkS [(2,.box (.pair (.int .i64) (.pair .str (.pair (.int .i64) (.pair .str (.pair (.sl .str) .unit))))))] 92 (i.2.1,())))
def zfj (N:Nat):Hd ((Int×((List UInt8)×(Int×((List UInt8)×((List (List UInt8))×Unit)))))×Bool×Unit):=fun st K=>(unS [(0,.v .str),(1,.box (.pair (.int .i64) (.pair .str (.pair (.int .i64) (.pair .str (.pair (.sl .str) .unit)))))),(1,.v .str),(0,.v .str),(0,.v (.int .i64))] 88 (restr [6,4,5,2,0] 0 st)).bind fun x=>iter (fun v r=>zfs N ((fun x=>(x.1,x.2.1,x.2.2.1)) x) v r K) N ((fun x=>(x.2.2.2.1,x.2.2.2.2.1)) x)
def ztf (N:Nat):Tab ((Int×((List UInt8)×(Int×((List UInt8)×((List (List UInt8))×Unit)))))×Bool×Unit):=[([0,1,0,0,1,0,1,1],zfi N)]
theorem zqd {N:Nat}{c:Ctx}(hb:Base Go.Proofs.Tryd.prog (z15 N) c):zi Go.Proofs.Tryd.prog c (zf zh [0,1,0,1,1]) (zfj N) :=
 z3z (s:=[(0,.v .str),(1,.box (.pair (.int .i64) (.pair .str (.pair (.int .i64) (.pair .str (.pair (.sl .str) .unit)))))),(1,.v .str),(0,.v .str),(0,.v (.int .i64))]) (m:=88) (zfs N) [6,4,5,2,0] N (fun x=>(x.1,x.2.1,x.2.2.1)) (fun x=>(x.2.2.2.1,x.2.2.2.2.1)) (fun i v=>(i.1,i.2.1,i.2.2,v.1,v.2,())) (fun _=>rfl) (za hb N (ztf N) z18 zh (TabOk.cons (zqc hb) TabOk.nil) [0,0,1,0,1,1] _ rfl) (fun i v r K=>by kernel_rfl)
def z38 (N:Nat)(s:(List UInt8)):Option ((Int×((List UInt8)×(Int×((List UInt8)×((List (List UInt8))×Unit)))))×Bool×Unit) :=
 (z5e N s).bind fun y =>
 z9c N s ((0:Int),(([]:List UInt8),((0:Int),(([]:List UInt8),(([]:List (List UInt8)),()))))) y.1 y.2.1 (1:Int)
 (fun x2 x3=>some (x2,(x3,())))
 (some (((0:Int),(([]:List UInt8),((0:Int),(([]:List UInt8),(([]:List (List UInt8)),()))))),(false,())))
def zhf (N:Nat):Tab ((Int×((List UInt8)×(Int×((List UInt8)×((List (List UInt8))×Unit)))))×Bool×Unit):=[([0,1,0,1,1],zfj N)]
theorem zof (N:Nat)(x:z1h [(0,.v .str)]):zc5 (z15 N) N (zhf N) z18 Go.Proofs.Tryd.f10 (mkS [(0,.v .str)] 0 x) (z40 (.tup [(.pair (.int .i64) (.pair .str (.pair (.int .i64) (.pair .str (.pair (.sl .str) .unit))))),.bool]) 1)=z38 N x.1:=by kernel_rfl
def zdq (N:Nat):List A->Res:=z2c [(0,.v .str)] (fun x=>z38 N x.1) (zbc (.tup [(.pair (.int .i64) (.pair .str (.pair (.int .i64) (.pair .str (.pair (.sl .str) .unit))))),.bool]) 1)
theorem ztg (N:Nat):Contract Go.Proofs.Tryd.prog glob 10 (zdq N) :=
 Contract.of (E:=z15 N) (H:=zhf N) (L:=z18) (N:=N) (body:=zh) (K:=(z40 (.tup [(.pair (.int .i64) (.pair .str (.pair (.int .i64) (.pair .str (.pair (.sl .str) .unit))))),.bool]) 1)) (zqe N) Go.Proofs.Tryd.func10 (by kernel_rfl) (by decide) (fun _ hb=>(TabOk.cons (zqd hb) TabOk.nil)) (fun x y h=>by rw[zof];exact h) (z1c (s:=(.tup [(.pair (.int .i64) (.pair .str (.pair (.int .i64) (.pair .str (.pair (.sl .str) .unit))))),.bool])) (m:=1))
def z2b:Code:=(Go.Proofs.Tryd.f3.body).getD .skip
def z3u:List (List Nat×List Nat):=[([0],[2,1]),([0,0,1],[19,2,1]),([1,0,1],[2,1]),([0,0,1,0,1],[4]),([1,0,1,0,1],[4]),([0,1,1],[2,1,5,6]),([0,1,1,1],[1,5,7,6,8]),([0,1,1,1,1],[1,5,7,6,8,9,10]),([0,1,1,1,1,1],[5,7,6,8,9,11,10,12]),([0,1,1,1,1,1,1],[4]),([1,1,1,1,1,1,1],[4])]
def z2y (N:Nat):Env:=z3v tys glob [(10,zdq N),(6,ze3 N),(5,zdv N),(7,zbv N),(8,z9d N),(9,zed N),(11,z84 N)] [] [] [] false [] []
theorem zjh (N:Nat):EnvOk Go.Proofs.Tryd.prog (z2y N):=zw mixed z1v (FnsOk.cons (ztg N) (FnsOk.cons (zuw N) (FnsOk.cons (ztt N) (FnsOk.cons (zli N) (FnsOk.cons (zhs N) (FnsOk.cons (zrt N) (FnsOk.cons (zgr N) (FnsOk.nil)))))))) (ItsOk.nil)
def z5c (N:Nat)(s:(List UInt8))(op:(Int×((List UInt8)×(Int×((List UInt8)×((List (List UInt8))×Unit))))))(k0:Bool->Option Bool):Option Bool :=
 (z63 N op).bind fun y =>
 cond y
 (k0 true)
 (k0 (decide ((500:Int)<(((List.length s):Nat):Int))))
def z8y (N:Nat)(x:z1h [(1,.v .str),(0,.box (.pair (.int .i64) (.pair .str (.pair (.int .i64) (.pair .str (.pair (.sl .str) .unit))))))])(K:Ex->List A->Option Bool):Option Bool :=
 z5c N x.1 x.2.1 (fun a2=>(K .normal (mkS [(1,.v .str),(0,.box (.pair (.int .i64) (.pair .str (.pair (.int .i64) (.pair .str (.pair (.sl .str) .unit)))))),(16,.v .bool)] 42 (x.1,x.2.1,a2,()))))
def z8w (N:Nat):Hd Bool:=fun st K=>(unS [(1,.v .str),(0,.box (.pair (.int .i64) (.pair .str (.pair (.int .i64) (.pair .str (.pair (.sl .str) .unit))))))] 59 (restr [2,1] 0 st)).bind fun x=>z8y N x K
def zk2 (N:Nat):Tab Bool:=[]
theorem zjf {N:Nat}{c:Ctx}(hb:Base Go.Proofs.Tryd.prog (z2y N) c):zi Go.Proofs.Tryd.prog c (zf z2b [0,0,1]) (z8w N) :=
 zd (s:=[(1,.v .str),(0,.box (.pair (.int .i64) (.pair .str (.pair (.int .i64) (.pair .str (.pair (.sl .str) .unit))))))]) (m:=59) (g:=z8y N) [2,1] (za hb N (zk2 N) z3u z2b TabOk.nil [0,0,1] _ rfl) (fun x K=>by kernel_rfl)
def z5d (N:Nat)(s:(List UInt8))(op:(Int×((List UInt8)×(Int×((List UInt8)×((List (List UInt8))×Unit))))))(k0:Bool->Option Bool)(k1:Option Bool):Option Bool :=
 z5c N s op
 (fun x19=>cond x19
 ((z65 N).bind fun y =>
 k0 y)
 (k1))
def z8z (N:Nat)(x:z1h [(1,.v .str),(0,.box (.pair (.int .i64) (.pair .str (.pair (.int .i64) (.pair .str (.pair (.sl .str) .unit))))))])(K:Ex->List A->Option Bool):Option Bool :=
 z5d N x.1 x.2.1 (fun a0=>(K .ret (mkS [(4,.v .bool)] 57 (a0,())))) (K .normal (mkS [(1,.v .str),(0,.box (.pair (.int .i64) (.pair .str (.pair (.int .i64) (.pair .str (.pair (.sl .str) .unit))))))] 59 (x.1,x.2.1,())))
def z8x (N:Nat):Hd Bool:=fun st K=>(unS [(1,.v .str),(0,.box (.pair (.int .i64) (.pair .str (.pair (.int .i64) (.pair .str (.pair (.sl .str) .unit))))))] 59 (restr [2,1] 0 st)).bind fun x=>z8z N x K
def zk3 (N:Nat):Tab Bool:=[([0,0,1],z8w N)]
theorem zjg {N:Nat}{c:Ctx}(hb:Base Go.Proofs.Tryd.prog (z2y N) c):zi Go.Proofs.Tryd.prog c (zf z2b [0,1]) (z8x N) :=
 zd (s:=[(1,.v .str),(0,.box (.pair (.int .i64) (.pair .str (.pair (.int .i64) (.pair .str (.pair (.sl .str) .unit))))))]) (m:=59) (g:=z8z N) [2,1] (za hb N (zk3 N) z3u z2b (TabOk.cons (zjf hb) TabOk.nil) [0,1] _ rfl) (fun x K=>by kernel_rfl)
def z2n (N:Nat)(op:(Int×((List UInt8)×(Int×((List UInt8)×((List (List UInt8))×Unit))))))(s:(List UInt8)):Option Bool :=
 z5d N s op
 (fun x4=>some x4)
 ((zb0 N op).bind fun y =>
 (z1r N op).bind fun y1 =>
 (z6f N s).bind fun y2 =>
 (z38 N s).bind fun y3 =>
 cond (y.1 == y1.1)
 (cond (y.2.1 == y1.2.1)
 ((z3r N y2.1 y3.1).bind fun y4 =>
 cond y4
 (cond (y2.2.1 == y3.2.1)
 ((z65 N).bind fun y5 =>
 some y5)
 (some false))
 (some false))
 (some false))
 (some false))
def z9w (N:Nat):Tab Bool:=[([0,1],z8x N)]
theorem zgv (N:Nat)(x:z1h [(0,.v (.pair (.int .i64) (.pair .str (.pair (.int .i64) (.pair .str (.pair (.sl .str) .unit)))))),(0,.v .str)]):zc5 (z2y N) N (z9w N) z3u Go.Proofs.Tryd.f3 (mkS [(0,.v (.pair (.int .i64) (.pair .str (.pair (.int .i64) (.pair .str (.pair (.sl .str) .unit)))))),(0,.v .str)] 0 x) (z40 (.v .bool) 2)=z2n N x.1 x.2.1:=by kernel_rfl
def zje (N:Nat):List A->Res:=z2c [(0,.v (.pair (.int .i64) (.pair .str (.pair (.int .i64) (.pair .str (.pair (.sl .str) .unit)))))),(0,.v .str)] (fun x=>z2n N x.1 x.2.1) (zbc (.v .bool) 2)
theorem zk4 (N:Nat):Contract Go.Proofs.Tryd.prog glob 3 (zje N) :=
 Contract.of (E:=z2y N) (H:=z9w N) (L:=z3u) (N:=N) (body:=z2b) (K:=(z40 (.v .bool) 2)) (zjh N) Go.Proofs.Tryd.func3 (by kernel_rfl) (by decide) (fun _ hb=>(TabOk.cons (zjg hb) TabOk.nil)) (fun x y h=>by rw[zgv];exact h) (z1c (s:=(.v .bool)) (m:=2))
end
end Go.Proofs.YtlmlihfmoabinaaDoorLg
set_option linter.all false
set_option maxRecDepth 100000
namespace Go.Proofs.YtlmlihfmoabinaaDoorLg
noncomputable section
open Go Go.Lift Go.Lib Go.Proofs.YtlmlihfmoabinaaDoorPx
def zox:List UInt8->List UInt8×List UInt8
 | []=>([],[])
 | c::r=>if c=32 then ([],r) else (c::(zox r).1,(zox r).2)
theorem zk6:∀ s,(zox s).1.length+(zox s).2.length<=s.length
 | []=>by simp[zox]
 | c::r=>by
   have:=zk6 r;simp only[zox];split
   . simp
   . simp only[List.length_cons];omega
theorem z10c:∀ (w:List UInt8) (r:List (List UInt8)),(∀ c∈w,c≠32)->zox (w++z5b r)=(w,z6u r)
 | [],[],_=>rfl
 | [],v::r,_=>by
   rw[List.nil_append,z79];simp[z5b,zox]
 | c::w,r,h=>by
   rw[List.cons_append,zox,if_neg (h c List.mem_cons_self),z10c w r (fun d hd=>h d (List.mem_cons_of_mem _ hd))]
theorem z13a (N:Nat){s:List UInt8}(hs:s.length<=10000000)(hN:s.length<N):z5e N s=some ((zox s).1,((zox s).2,())):=by
 simp only[z5e,zh9];rw[z4v (I:=fun (v:Int)=>∃ i:Nat,v=(i:Int)/\i<=s.length) (m:=fun v=>s.length - v.toNat) (R:=fun v=>some (s.take v.toNat++(zox (s.drop v.toNat)).1,((zox (s.drop v.toNat)).2,()))) ?_ N 0 ⟨0,rfl,by omega⟩ (by simp;omega)]
 . simp
 rintro v r ⟨i,rfl,hi⟩ hr;rw[Int.toNat_natCast] at hr ⊢;simp only[zab,Int.toNat_natCast];by_cases hlt:i<s.length
 . rw[z8 (zj (by omega)),z8 (z16 hlt),z32 s 0 i hlt];have q32:((((s.getD i 0).toNat:Nat):Int) == 32)=decide (s.getD i 0=32):=by rw[Bool.eq_iff_iff,beq_iff_eq,decide_eq_true_eq,<- UInt8.toNat_inj];show _ ↔ (s.getD i 0).toNat=32;omega
   rw[q32,zox];by_cases h:s.getD i 0=32
   . rw[z8 (zj h),if_pos h,z8 (zj ⟨by omega,by omega⟩),z1b (by omega),z8 (zj ⟨by omega,by omega⟩),Int.toNat_natCast,z1l9,zyb,List.append_nil]
   . rw[zg (zy h),if_neg h,z1b (by omega),hr _ ⟨i+1,rfl,by omega⟩ (by simp;omega),Int.toNat_natCast,zp3 s 0 i hlt,List.append_assoc];rfl
 . rw[zg (zy (by omega)),z5o s (by omega),List.take_of_length_le (by omega)];simp[zox]
def z1ha:List UInt8->List UInt8
 | a::b::r=>if zmk a.toNat<16/\zmk b.toNat<16 then UInt8.ofNat (16*zmk a.toNat+zmk b.toNat)::z1ha r else []
 | _=>[]
theorem z13o:∀ (n:Nat) (s:List UInt8),s.length<=n->(z1ha s).length<=s.length
 | _,[],_=>by simp[z1ha]
 | _,[_],_=>by simp[z1ha]
 | 0,_::_::_,h=>by simp at h
 | n+1,a::b::r,h=>by
   rw[z1ha];split
   . have:=z13o n r (by simp at h;omega);simp only[List.length_cons];omega
   . simp
theorem z1e2:∀ s:List UInt8,z1ha (zmo s)=s
 | []=>rfl
 | u::r=>by
   have hu:=z9t u;have k:∀ n,n<16->zmk (hd n).toNat=n:=by decide
   rw[zmo,z1ha,k _ (by omega),k _ (by omega),if_pos ⟨by omega,by omega⟩,z1e2 r,show 16*(u.toNat / 16)+u.toNat % 16=u.toNat by omega,UInt8.ofNat_toNat]
set_option maxRecDepth 10000000 in
theorem z1ka:∀ b:Fin 256,z61 0 (b.1:Int)=some (if zmk b.1<16 then (zmk b.1:Int) else -1):=by decide +kernel
theorem z1hn (N:Nat)(u:UInt8):z61 N ((u.toNat:Nat):Int)=some (if zmk u.toNat<16 then (zmk u.toNat:Int) else -1):=z1ka ⟨u.toNat,u.toNat_lt⟩
theorem z1ae (N:Nat){s:List UInt8}(hs:s.length<=10000000)(hN:s.length<N)(h0:s≠[]):z3o N s=some (z1ha (s.drop 1)):=by
 have hs0:1<=s.length:=by cases s;exact absurd rfl h0;simp
 simp only[z3o,zem];rw[z4v (I:=fun (v:List UInt8×Int)=>∃ (o:List UInt8) (i:Nat),v=(o,(i:Int))/\o.length<=i/\i<=s.length+1) (m:=fun v=>s.length+1 - v.2.toNat) (R:=fun v=>some (v.1++z1ha (s.drop v.2.toNat))) ?_ N ([],1) ⟨[],1,rfl,by simp,by omega⟩ (by dsimp only;omega)]
 . rfl
 rintro v r ⟨o,i,rfl,ho,hi⟩ hr;dsimp only at hr ⊢;rw[Int.toNat_natCast] at hr ⊢;simp only[z90,z93,z92,z91];rw[z1b (by omega)];by_cases hlt:i+1<s.length
 . rw[z8 (zj (by omega)),z8 (z16 (by omega)),Int.toNat_natCast,z1hn,Option.bind_some,z8 (z16 hlt),Int.toNat_natCast,z1hn,Option.bind_some,z32 s 0 i (by omega),z32 s 0 (i+1) hlt,z1ha];generalize s.getD i 0=a;generalize s.getD (i+1) 0=b;by_cases h1:zmk a.toNat<16
   case neg=>rw[if_neg h1,z8 (zj (by omega)),cond_true,if_neg (fun h=>h1 h.1),List.append_nil]
   rw[if_pos h1,zg (zy (by omega))];by_cases h2:zmk b.toNat<16
   case neg=>rw[if_neg h2,zj (by omega),cond_true,if_neg (fun h=>h2 h.2),List.append_nil]
   have e:∀ x y:Nat,x<16->y<16->toStr [IntKind.wrap .u8 (IntKind.wrap .i64 (IntKind.wrap .i64 (16*(x:Int))+(y:Int)))]=[UInt8.ofNat (16*x+y)]:=fun x y hx hy=>by
    rw[z2p (x:=16*(x:Int)) (by unfold I64;omega),z2p (by unfold I64;omega),z10a (by omega) (by omega)];have:(UInt8.ofNat (16*x+y)).toNat=16*x+y:=by rw[UInt8.toNat_ofNat'];omega
    have h:=z1fn (UInt8.ofNat (16*x+y));rw[this] at h;rw[<- h];congr 2
   rw[if_pos h2,zy (by omega),cond_false,if_pos ⟨h1,h2⟩,e _ _ h1 h2,z8 (zj (by simp only[List.length_cons,List.length_nil];omega)),z2p (by unfold I64;omega),show ((i:Int)+2)=((i+2:Nat):Int) by omega,hr _ ⟨_,i+2,rfl,by simp only[List.length_append,List.length_cons,List.length_nil];omega,by omega⟩ (by dsimp only;omega)];dsimp only;rw[Int.toNat_natCast,List.append_assoc];rfl
 . rw[zg (zy (by omega))];have:z1ha (s.drop i)=[]:=by
    have hl:(s.drop i).length<=1:=by rw[List.length_drop];omega
    match h:s.drop i with
    | []=>rfl
    | [_]=>rfl
    | _::_::_=>rw[h] at hl;simp at hl
   rw[this,List.append_nil]
theorem z1h8 (N:Nat)(hN:0<N):z3o N []=some []:=by
 obtain⟨n,rfl⟩:=Nat.exists_eq_succ_of_ne_zero (by omega:N≠0);rfl
theorem z1h9 (N:Nat){s:List UInt8}(hs:s.length<=10000000)(hN:s.length<N):∃ b,z3o N s=some b/\b.length<=s.length:=by
 by_cases h:s=[]
 . subst h;exact⟨[],z1h8 N (by simpa using hN),by simp⟩
 . refine⟨_,z1ae N hs hN h,?_⟩;have:=z13o (s.drop 1).length (s.drop 1) (Nat.le_refl _);rw[List.length_drop] at this;omega
def dgB (n:Nat):Nat->List UInt8->Nat
 | 0,_=>n
 | _+1,[]=>n
 | c+1,u::r=>if 48<=u.toNat/\u.toNat<=57 then dgB (10*n+(u.toNat - 48)) c r else n
theorem z1bv (N:Nat){s:List UInt8}(hs:s.length<=10000000)(hN:20<N):z5j N s=some ((dgB 0 14 s:Nat):Int):=by
 simp only[z5j,zde];rw[z4v (I:=fun (v:Int×Int)=>∃ (n i:Nat),v=((n:Int),(i:Int))/\i<=s.length/\i<=14/\n<10^i) (m:=fun v=>14 - v.2.toNat) (R:=fun v=>some ((dgB v.1.toNat (14 - v.2.toNat) (s.drop v.2.toNat):Nat):Int)) ?_ N (0,0) ⟨0,0,rfl,by omega,by omega,by decide⟩ (by simp;omega)]
 . rfl
 rintro v r ⟨n,i,rfl,hi,hi14,hn⟩ hr;dsimp only at hr ⊢;rw[Int.toNat_natCast] at hr;rw[Int.toNat_natCast,Int.toNat_natCast];simp only[z7v,z7z,z7y,z7x,z7w];by_cases hlt:i<s.length
 case neg=>rw[zg (zy (by omega)),z5o s (by omega)];cases (14 - i)<;>rfl
 rw[z8 (zj (by omega))];by_cases h14:i<14
 case neg=>rw[zg (zy (by omega)),show 14 - i=0 by omega];rfl
 have hb:=z9t (s.getD i 0);rw[z8 (zj (by omega)),z8 (z16 hlt),Int.toNat_natCast,z32 s 0 i hlt,show 14 - i=(14 - (i+1))+1 by omega,dgB];by_cases h1:48<=(s.getD i 0).toNat
 case neg=>rw[z8 (zj (by omega)),cond_true,if_neg (by omega)]
 rw[zg (zy (by omega)),z8 (z16 hlt)];by_cases h2:(s.getD i 0).toNat<=57
 case neg=>rw[zj (by omega),cond_true,if_neg (by omega)]
 have hp:(10:Nat)^i<=10^13:=Nat.pow_le_pow_right (by omega) (by omega);have hp2:(10:Nat)^(i+1)=10*10^i:=by rw[Nat.pow_succ];omega
 have hp3:(10:Nat)^13=10000000000000:=by decide
 rw[zy (by omega),cond_false,z8 (z16 hlt),if_pos ⟨h1,h2⟩,zmp,z2p (x:=10*(n:Int)) (by unfold I64;omega),z2p (x:=10*(n:Int)+_) (by unfold I64;omega),z2p (by unfold I64;omega),z1b (by omega),show 10*(n:Int)+(((s.getD i 0).toNat:Nat):Int) - 48=((10*n+((s.getD i 0).toNat - 48):Nat):Int) by omega,hr _ ⟨_,i+1,rfl,by omega,by omega,by omega⟩ (by dsimp only;omega)];dsimp only;rw[Int.toNat_natCast,Int.toNat_natCast]
theorem z1j5:∀ (m u c:Nat) (r:List UInt8),u<10^(m+1)->∃ c',c<=c'/\dgB 0 (c+(m+1)) (Lib.decDigits u++r)=dgB u c' r
 | m,u,c,r,hu=>by
   have step:∀ (a d c:Nat) (r:List UInt8),d<10->dgB a (c+1) (UInt8.ofNat (48+d)::r)=dgB (10*a+d) c r:=fun a d c r hd=>by
    have e:(UInt8.ofNat (48+d)).toNat=48+d:=by rw[UInt8.toNat_ofNat'];omega
    rw[dgB,e,if_pos ⟨by omega,by omega⟩,Nat.add_sub_cancel_left]
   rw[Lib.decDigits];by_cases h:u<10
   . rw[dif_pos h,List.singleton_append,<- Nat.add_assoc,step 0 u _ _ h];exact⟨c+m,by omega,by rw[Nat.mul_zero,Nat.zero_add]⟩
   . rw[dif_neg h,List.append_assoc];cases m with
     | zero=>omega
     | succ m =>
       obtain⟨c',h1,h2⟩:=z1j5 m (u / 10) (c+1) ([UInt8.ofNat (48+u % 10)]++r) (by rw[Nat.pow_succ] at hu;omega);rw[show c+(m+1+1)=c+1+(m+1) by omega,h2];refine⟨c' - 1,by omega,?_⟩;rw[show c'=(c' - 1)+1 by omega,List.singleton_append,step _ _ _ _ (by omega),Nat.add_sub_cancel];congr 1;omega
theorem z1dm {n:Int}(h0:0<=n)(h1:n<=1099511627776):((dgB 0 14 (Lib.itoa n):Nat):Int)=n:=by
 obtain⟨u,rfl⟩:=Int.eq_ofNat_of_zero_le h0;have hi:Lib.itoa (u:Int)=Lib.decDigits u:=by unfold Lib.itoa;rw[if_neg (by omega)];rfl
 obtain⟨c',_,h2⟩:=z1j5 13 u 0 [] (by omega);rw[List.append_nil,Nat.zero_add] at h2;rw[hi,h2];cases c'<;>rfl
theorem z144 (s:List UInt8):∀ (f i:Nat) (o:List UInt8),(zpa s f i o).2.2.1.1=0->∃ e:Nat,(zpa s f i o).2.1=(e:Int)/\i<e/\e<=s.length
 | 0,i,o,h=>by simp[zpa] at h
 | f + 1,i,o,h=>by
   simp only[zpa] at h ⊢;split at h
   case isFalse=>dsimp only at h;omega
   rename_i hi;rw[if_pos hi];split at h
   . rename_i h34;rw[if_pos h34];exact⟨i+1,rfl,by omega,by omega⟩
   rename_i h34;rw[if_neg h34];split at h
   . rename_i h92;rw[if_pos h92];cases he:z1gq (s.drop (i+1)) with
     | cut=>rw[he] at h;dsimp only at h;omega
     | bad=>rw[he] at h;dsimp only at h;omega
     | ok b n =>
       rw[he] at h;have:=z1bq he;obtain⟨e,h1,h2,h3⟩:=z144 s f (i+n) _ h;exact⟨e,h1,by omega,h3⟩
   rename_i h92;rw[if_neg h92];split at h
   . rename_i hsf;rw[if_pos hsf];have:=z3d hi;obtain⟨e,h1,h2,h3⟩:=z144 s f _ _ h;exact⟨e,h1,by omega,h3⟩
   . dsimp only at h;omega
theorem z1ct (k:Nat){s:List UInt8}{at_:Nat}(hs:s.length<=300000)(ha:at_<s.length):∃ x:RdT,z4k (k+1000000) s (at_:Int)=some x/\x.1.length<=s.length/\(x.2.2.1.1=0->∃ e:Nat,x.2.1=(e:Int)/\at_<e/\e<=s.length):=by
 by_cases h3:(s.getD at_ 0).toNat=34
 . refine⟨_,z185 _ hs (by omega) ha h3,?_,fun h=>?_⟩
   . have:=zk9 s s.length (at_+1) [];unfold zsq;simp only[List.length_nil] at this;omega
   . obtain⟨e,h1,h2,h3⟩:=z144 s s.length (at_+1) [] h;exact⟨e,h1,by omega,h3⟩
 . refine⟨([],0,(2,(at_:Int),()),()),?_,by simp,fun h=>by dsimp only at h;omega⟩;simp only[z4k,z6p,z6o];rw[zg (zy (by omega)),zg (zy (by omega)),zg (by rw[beq_eq_false_iff_ne];omega),z8 (z16 ha),Int.toNat_natCast,z8 (by rw[bne_iff_ne];omega)]
def z1jj (L:Nat)(op:OpT):Prop:=op.2.2.2.2.1.length<=L+1/\∀ w∈op.2.2.2.2.1,w.length<=L
abbrev PaT:=OpT×Bool×Unit
theorem z1cy (k L:Nat)(hL:L<=2000){P:Option PaT->Prop}{s first rest:List UInt8}{x2:OpT}{kd:Int}{op:OpT}{k0:OpT->Bool->Option PaT}{k1:OpT->Option PaT}(hr:rest.length<=L)(h:op.2.2.2.2.1=[])
 (hk0:P (k0 op0 false)) (hk1:∀ op',z1jj L op'->P (k1 op')):P (z19 (k+1000000) s x2 first rest kd op 0 k0 k1):=by
 simp only[z19,z5t];refine zmj (I:=fun (v:OpT×Int)=>∃ at_:Nat,v.2=(at_:Int)/\at_<=L+1/\v.1.2.2.2.2.1.length<=at_/\∀ w∈v.1.2.2.2.2.1,w.length<=L) (m:=fun v=>L+1 - v.2.toNat) (p:=P) ?_ (k+1000000) (op,0) ⟨0,rfl,by omega,by rw[h];simp,by rw[h];simp⟩ (by simp;omega);rintro⟨oq,v⟩ r ⟨a,hv,ha,hl,hw⟩ hrec;dsimp only at hv hl hw hrec ⊢;subst hv;rw[Int.toNat_natCast] at hrec;simp only[z4p,z3x];have hend:P (k1 oq):=hk1 oq ⟨by omega,hw⟩;cases (kd == 5) with
 | false=>exact hend
 | true =>
   rw[cond_true];by_cases hlt:a<rest.length
   case neg=>rw[zg (zy (by omega))];exact hend
   rw[z8 (zj (by omega))];obtain⟨x,hx,hxl,hxe⟩:=z1ct k (by omega) hlt;rw[hx,Option.bind_some];by_cases h0:x.2.2.1.1=0
   case neg=>rw[z8 (by rw[bne_iff_ne];exact h0)];exact hk0
   obtain⟨e,he,h1,h2⟩:=hxe h0;rw[zg (by rw[h0];rfl),z8 (zj (by omega)),he,z1b (by omega)];refine hrec (_,((e+1:Nat):Int)) ⟨e+1,rfl,by omega,by simp only[List.length_append,List.length_cons,List.length_nil];omega,fun w hw'=>?_⟩ (by dsimp only;rw[Int.toNat_natCast];omega);rcases List.mem_append.1 hw' with hw'|hw'
   . exact hw w hw'
   . rw[List.mem_singleton.1 hw'];omega
theorem z1cz (k:Nat) {P:Option PaT->Prop} {s first rest:List UInt8} {x2:OpT} {kd:Int} {k0:List UInt8->Option PaT} {k1:OpT->Bool->Option PaT} (hs:s.length<=2000) (hr:rest.length<=s.length) (hk:1<=kd/\kd<=9)
 (hk0:∀ rest',rest'.length<=s.length->P (k0 rest')) (hkn:P (k1 op0 false)) (hk1:∀ op,z16h op->zk5 op=some s->P (k1 op true)):P (z3i (k+1000000) s x2 first rest kd k0 k1):=by
 simp only[z3i];have hF:∃ w,z39 (k+1000000) kd=some w:=by rcases kinds hk with rfl|rfl|rfl|rfl|rfl|rfl|rfl|rfl|rfl<;>exact⟨_,rfl⟩
 obtain⟨w,hw⟩:=hF;rw[hw,Option.bind_some];cases (!(w == first)) with
 | true=>exact hk0 rest hr
 | false =>
   rw[cond_false]
   -- the line
   have cL:∀ (rest1:List UInt8) (op3:OpT),rest1.length<=s.length->z1jj s.length op3->P ((z1r (k+1000000) (op3.1,(op3.2.1,(op3.2.2.1,(op3.2.2.2.1,(op3.2.2.2.2.1,op3.2.2.2.2.2)))))).bind fun y1=>z1e (k+1000000) s x2 first rest1 kd (op3.1,(op3.2.1,(op3.2.2.1,(op3.2.2.2.1,(op3.2.2.2.2.1,op3.2.2.2.2.2))))) y1.1 y1.2.1 (fun x92=>cond x92 (k1 (op3.1,(op3.2.1,(op3.2.2.1,(op3.2.2.2.1,(op3.2.2.2.2.1,op3.2.2.2.2.2))))) true) (k0 rest1))):=fun rest1 op3 h1 h3=>by
    have hO:z16h op3:=fun w hw=>by have:=h3.2 w hw;omega
    rw[z10j k (op:=(op3.1,(op3.2.1,(op3.2.2.1,(op3.2.2.2.1,(op3.2.2.2.2.1,op3.2.2.2.2.2)))))) (by have:=h3.1;dsimp only;omega) hO,Option.bind_some];show P (z1e (k+1000000) s x2 first rest1 kd op3 (z1d9 (zk5 op3)).1 (z1d9 (zk5 op3)).2.1 (fun x92=>cond x92 (k1 op3 true) (k0 rest1)));simp only[z1e];cases hl:zk5 op3 with
    | none=>exact hk0 rest1 h1
    | some t =>
      show P (cond (t == s) (k1 op3 true) (k0 rest1));by_cases e:t=s
      . rw[z8 (by rw[beq_iff_eq];exact e)];exact hk1 op3 hO (by rw[hl,e])
      . rw[zg (by rw[beq_eq_false_iff_ne];exact e)];exact hk0 rest1 h1
   have c8:∀ (rest1:List UInt8) (op2:OpT),rest1.length<=s.length->op2.2.2.2.2.1=[]->P (z19 (k+1000000) s x2 first rest1 kd op2 (0:Int) (fun x21 x3=>k1 x21 x3) (fun op3=>(z1r (k+1000000) (op3.1,(op3.2.1,(op3.2.2.1,(op3.2.2.2.1,(op3.2.2.2.2.1,op3.2.2.2.2.2)))))).bind fun y1=>z1e (k+1000000) s x2 first rest1 kd (op3.1,(op3.2.1,(op3.2.2.1,(op3.2.2.2.1,(op3.2.2.2.2.1,op3.2.2.2.2.2))))) y1.1 y1.2.1 (fun x92=>cond x92 (k1 (op3.1,(op3.2.1,(op3.2.2.1,(op3.2.2.2.1,(op3.2.2.2.2.1,op3.2.2.2.2.2))))) true) (k0 rest1)))):=fun rest1 op2 h1 h2 =>
    z1cy k s.length hs h1 h2 hkn (fun op' h'=>cL rest1 op' h1 h')
   have c46:∀ (rest1:List UInt8) (op:OpT),rest1.length<=s.length->op.2.2.2.2.1=[]->P (z2s (k+1000000) s x2 first rest1 kd op (fun op1=>z23 (k+1000000) s x2 first rest1 kd op1 (fun op2=>z19 (k+1000000) s x2 first rest1 kd op2 (0:Int) (fun x21 x3=>k1 x21 x3) (fun op3=>(z1r (k+1000000) (op3.1,(op3.2.1,(op3.2.2.1,(op3.2.2.2.1,(op3.2.2.2.2.1,op3.2.2.2.2.2)))))).bind fun y1=>z1e (k+1000000) s x2 first rest1 kd (op3.1,(op3.2.1,(op3.2.2.1,(op3.2.2.2.1,(op3.2.2.2.2.1,op3.2.2.2.2.2))))) y1.1 y1.2.1 (fun x92=>cond x92 (k1 (op3.1,(op3.2.1,(op3.2.2.1,(op3.2.2.2.1,(op3.2.2.2.2.1,op3.2.2.2.2.2))))) true) (k0 rest1)))))):=fun rest1 op h1 h2=>by
    have c6:∀ (op1:OpT),op1.2.2.2.2.1=[]->P (z23 (k+1000000) s x2 first rest1 kd op1 (fun op2=>z19 (k+1000000) s x2 first rest1 kd op2 (0:Int) (fun x21 x3=>k1 x21 x3) (fun op3=>(z1r (k+1000000) (op3.1,(op3.2.1,(op3.2.2.1,(op3.2.2.2.1,(op3.2.2.2.2.1,op3.2.2.2.2.2)))))).bind fun y1=>z1e (k+1000000) s x2 first rest1 kd (op3.1,(op3.2.1,(op3.2.2.1,(op3.2.2.2.1,(op3.2.2.2.2.1,op3.2.2.2.2.2))))) y1.1 y1.2.1 (fun x92=>cond x92 (k1 (op3.1,(op3.2.1,(op3.2.2.1,(op3.2.2.2.1,(op3.2.2.2.2.1,op3.2.2.2.2.2))))) true) (k0 rest1))))):=fun op1 h3=>by
     simp only[z23,z5u];rw[z1bv _ (by omega) (by omega),Option.bind_some];cases (kd == 3) with
     | true=>exact c8 rest1 _ h1 h3
     | false=>cases (kd == 7) with
       | true=>exact c8 rest1 _ h1 h3
       | false=>exact c8 rest1 _ h1 h3
    obtain⟨b,hb,_⟩:=z1h9 (k+1000000) (s:=rest1) (by omega) (by omega);simp only[z2s,z5v];rw[hb,Option.bind_some];cases decide (kd<=2) with
    | true=>exact c6 _ h2
    | false=>cases (kd == 6) with
      | true=>exact c6 _ h2
      | false=>exact c6 _ h2
   simp only[z5w];cases decide (kd<=5) with
   | false=>exact c46 rest _ hr rfl
   | true =>
     have:=zk6 rest;rw[cond_true,z13a _ (by omega) (by omega),Option.bind_some];exact c46 _ _ (by dsimp only;omega) rfl
abbrev zra (N:Nat)(s first:List UInt8):(List UInt8×Int)->((List UInt8×Int)->Option PaT)->Option PaT :=
 fun v r=>z22 N s op0 first v.1 v.2 (fun rest k=>r (rest,k)) (fun x2 x3=>some (x2,(x3,()))) (some (op0,(false,())))
theorem z16j (k:Nat){s:List UInt8}(hs:s.length<=2000):∃ o,z38 (k+1000000) s=some (opR o)/\∀ op,o=some op->zk5 op=some s/\z16h op:=by
 have hwl:=zk6 s;simp only[z38,z9c];rw[z13a _ (by omega) (by omega),Option.bind_some];refine zmj (I:=fun (v:List UInt8×Int)=>v.1.length<=s.length/\∃ i:Nat,v.2=(i:Int)/\1<=i/\i<=10) (m:=fun v=>10 - v.2.toNat) (p:=fun x=>∃ o,x=some (opR o)/\∀ op,o=some op->zk5 op=some s/\z16h op) ?_ (k+1000000) ((zox s).2,1) ⟨by dsimp only;omega,1,rfl,by omega,by omega⟩ (by simp);rintro⟨rest,v⟩ r ⟨hr,i,hv,hi1,hi⟩ hrec;dsimp only at hr hv hrec ⊢;subst hv;rw[Int.toNat_natCast] at hrec;simp only[z22];by_cases hlt:i<=9
 case neg=>rw[zg (zy (by omega))];exact⟨none,rfl,fun op e=>by cases e⟩
 rw[z8 (zj (by omega)),z1b (by omega)];refine z1cz (P:=fun x=>∃ o,x=some (opR o)/\∀ op,o=some op->zk5 op=some s/\z16h op) k hs hr ⟨by omega,by omega⟩ (fun rest' h'=>hrec (rest',_) ⟨h',i+1,rfl,by omega,by omega⟩ (by dsimp only;rw[Int.toNat_natCast];omega)) ⟨none,rfl,fun op e=>by cases e⟩ (fun op hO hl=>⟨some op,rfl,fun op' e=>by cases e;exact⟨hl,hO⟩⟩)
theorem z180 (v:List UInt8)(r:List (List UInt8)):z5b (v::r)=32::z6u (v::r):=by rw[z79];simp[z5b]
theorem z1cc (k:Nat) {s first rest:List UInt8} {x2:OpT} {t:List UInt8} {n:Int} {x:List UInt8} {ws:List (List UInt8)} {k0:OpT->Bool->Option PaT} {k1:OpT->Option PaT} (hr:rest.length<=2000) (hw:∀ w∈ws,w.length<=2000) (he:rest=z6u (ws.map z1y)) :
 z19 (k+1000000) s x2 first rest 5 (5,t,n,x,[],()) 0 k0 k1=k1 (5,t,n,x,ws,()):=by
 simp only[z19,z5t];have hwl:ws.length<=rest.length:=by
  have key:∀ l:List (List UInt8),l.length<=(z6u (l.map z1y)).length:=by
   intro l;cases l with
   | nil=>simp
   | cons w r =>
     rw[List.map_cons,z79,List.length_append,z1ah];simp only[z1y,List.length_cons,List.length_map];omega
  rw[he];exact key ws
 rw[z4v (I:=fun (v:OpT×Int)=>∃ (i p:Nat),i<=ws.length/\v=((5,t,n,x,ws.take i,()),(p:Int))/\p<=rest.length+1/\(i<ws.length->rest.drop p=z6u ((ws.drop i).map z1y)/\p<rest.length)/\(i=ws.length->rest.length<=p)) (m:=fun v=>rest.length+1 - v.2.toNat) (R:=fun _=>k1 (5,t,n,x,ws,())) ?_ (k+1000000) ((5,t,n,x,[],()),0) ⟨0,0,by omega,rfl,by omega,fun h=>⟨he,by omega⟩,fun h=>by
  have:ws=[]:=List.length_eq_zero_iff.1 h.symm;rw[he,this];simp[z6u]⟩ (by simp;omega)]
 rintro v r ⟨i,p,hi,rfl,hp,h1,h2⟩ hrec;dsimp only at hrec ⊢;rw[Int.toNat_natCast] at hrec;simp only[z4p,z3x];rw[z8 (by rfl)];by_cases hlt:i<ws.length
 case neg =>
  have:=h2 (by omega);rw[zg (zy (by omega)),List.take_of_length_le (by omega)]
 obtain⟨h3,h4⟩:=h1 hlt;have hwi:=hw _ (z13j ws [] i hlt);rw[z32 ws [] i hlt,List.map_cons,z79] at h3;have htk:=zp3 ws [] i hlt;generalize ws.getD i []=w at h3 hwi htk;have h34:rest.getD p 0=34:=by
  have:=z7a rest p 0;rw[h3] at this;exact this.symm
 have hd:rest.drop (p+1)=z5s w 0++34::z5b ((ws.drop (i+1)).map z1y):=by
  rw[<- List.drop_drop,h3];show (List.drop 1 (34::((z5s w 0++[34])++z5b ((ws.drop (i+1)).map z1y))))=_;simp
 have hlen:rest.length=p+1+((z5s w 0).length+1+(z5b ((ws.drop (i+1)).map z1y)).length):=by
  have:=congrArg List.length hd;rw[List.length_drop,List.length_append,List.length_cons] at this;omega
 have hd2:rest.drop (p+1+((z5s w 0).length+1))=z5b ((ws.drop (i+1)).map z1y):=by
  rw[<- List.drop_drop,hd,show z5s w 0++34::z5b ((ws.drop (i+1)).map z1y)=(z5s w 0++[34])++z5b ((ws.drop (i+1)).map z1y) by simp,List.drop_left' (by simp)]
 rw[z8 (zj (by omega)),z185 _ (by omega) (by omega) h4 (by rw[h34];rfl),Option.bind_some,z142 hwi (by omega) (by omega) hd];rw[zg (by rfl),z8 (zj (by rw[List.length_take];omega)),z1b (by omega),<- htk];refine hrec _ ⟨i+1,p+1+(z5s w 0).length+1+1,by omega,rfl,by omega,fun h=>?_,fun h=>?_⟩ (by dsimp only;rw[Int.toNat_natCast];omega)
 . rw[z32 ws [] (i+1) h,List.map_cons,z180] at hd2 hlen;rw[z32 ws [] (i+1) h,List.map_cons];have h5:2<=(z6u (z1y (ws.getD (i+1) [])::(ws.drop (i+1+1)).map z1y)).length:=by
    rw[z79,List.length_append];simp only[z1y,List.length_cons,List.length_append,List.length_nil];omega
   simp only[List.length_cons] at hlen;refine⟨?_,by omega⟩;rw[show p+1+(z5s w 0).length+1+1=(p+1+((z5s w 0).length+1))+1 by omega,<- List.drop_drop,hd2];rfl
 . rw[z5o ws (by omega)] at hlen;simp only[List.map_nil,z5b,List.flatten_nil,List.length_nil] at hlen;omega
theorem z1iv {k:Int}{f:zd1}(h:z103 k=some f):(f.2.2.2.1=true->f.2.2.2.2.1=false/\f.2.2.2.2.2.1=false)/\(f.2.2.2.2.1=true->f.2.2.2.2.2.1=false)/\∃ m,1<=m/\m<=9/\k=((m:Nat):Int)/\f=glob0.getD (m - 1) zy8:=by
 by_cases hk:1<=k/\k<=9
 case neg=>rw[z15z hk] at h;cases h
 rcases kinds hk with rfl|rfl|rfl|rfl|rfl|rfl|rfl|rfl|rfl
 . cases h;exact⟨by decide,by decide,1,by decide,by decide,rfl,rfl⟩
 . cases h;exact⟨by decide,by decide,2,by decide,by decide,rfl,rfl⟩
 . cases h;exact⟨by decide,by decide,3,by decide,by decide,rfl,rfl⟩
 . cases h;exact⟨by decide,by decide,4,by decide,by decide,rfl,rfl⟩
 . cases h;exact⟨by decide,by decide,5,by decide,by decide,rfl,rfl⟩
 . cases h;exact⟨by decide,by decide,6,by decide,by decide,rfl,rfl⟩
 . cases h;exact⟨by decide,by decide,7,by decide,by decide,rfl,rfl⟩
 . cases h;exact⟨by decide,by decide,8,by decide,by decide,rfl,rfl⟩
 . cases h;exact⟨by decide,by decide,9,by decide,by decide,rfl,rfl⟩
theorem z1f5 (N:Nat){m:Nat}(h1:1<=m)(h2:m<=9):z39 N (m:Int)=some (glob0.getD (m - 1) zy8).1:=by
 obtain rfl|rfl|rfl|rfl|rfl|rfl|rfl|rfl|rfl:m=1\/m=2\/m=3\/m=4\/m=5\/m=6\/m=7\/m=8\/m=9:=by omega
 all_goals rfl
theorem z188 {N:Nat}{s first rest:List UInt8}:∀ (d i n:Nat),1<=i->i+d<=10->(∀ m,i<=m->m<i+d->(glob0.getD (m - 1) zy8).1≠first)->iter (zra N s first) (n+d) (rest,(i:Int))=iter (zra N s first) n (rest,((i+d:Nat):Int))
 | 0,i,n,_,_,_=>rfl
 | d + 1,i,n,h1,hi,h=>by
   have e:iter (zra N s first) ((n+d)+1) (rest,(i:Int))=iter (zra N s first) (n+d) (rest,((i+1:Nat):Int)):=by
    rw[z69];show z22 N s op0 first rest (i:Int) (fun rest k=>iter (zra N s first) (n+d) (rest,k)) _ _=_
    simp only[z22,z3i];rw[z8 (zj (by omega)),z1f5 N h1 (by omega),Option.bind_some,z8 (by rw[Bool.not_eq_true',beq_eq_false_iff_ne];exact h i (Nat.le_refl _) (by omega)),z1b (by omega)]
   rw[show n+(d+1)=(n+d)+1 by omega,e,z188 d (i+1) n (by omega) (by omega) (fun m h1 h2=>h m (by omega) (by omega)),show i+1+d=i+(d+1) by omega]
abbrev z1ku (N:Nat)(s first:List UInt8)(m:Int)(G:List UInt8->Option PaT)(rest1:List UInt8)(op3:OpT):Option PaT :=
 (z1r N (op3.1,(op3.2.1,(op3.2.2.1,(op3.2.2.2.1,(op3.2.2.2.2.1,op3.2.2.2.2.2)))))).bind fun y1=>z1e N s op0 first rest1 m (op3.1,(op3.2.1,(op3.2.2.1,(op3.2.2.2.1,(op3.2.2.2.2.1,op3.2.2.2.2.2))))) y1.1 y1.2.1 (fun x92=>cond x92 (some ((op3.1,(op3.2.1,(op3.2.2.1,(op3.2.2.2.1,(op3.2.2.2.2.1,op3.2.2.2.2.2))))),(true,()))) (G rest1))
set_option maxHeartbeats 4000000 in
theorem z19b (k:Nat){s:List UInt8}{op:OpT}(hs:s.length<=2000)(h:zk5 op=some s)(hO:z16h op):z38 (k+1000000) s=some (op,true,()):=by
 obtain⟨f,hf,hq,hsj⟩:=z19w h;obtain⟨x1,x2,m,hm1,hm9,hkm,hfm⟩:=z1iv hf;obtain⟨e1,e2,e3,e4,e5⟩:=z18n hf;obtain⟨hk,hm⟩:=z1a1 hf;obtain⟨ht,ht',hn,hn',hx,hx',hw,hw'⟩:=zsm hq hO;have hrl:z1r (k+1000000) op=some (s,true,()):=by
  rw[z10j k (z18r h hO) hO,h];rfl
 have hlen:(z6u (zca op f)).length<=s.length:=by
  rw[<- hsj,z79,List.length_append];cases zca op f with
  | nil=>simp[z6u]
  | cons v r=>rw[z180];simp only[List.length_cons];omega
 simp only[z38,z9c];rw[z13a _ (by omega) (by omega),Option.bind_some];rw[show zox s=(f.1,z6u (zca op f)) by rw[<- hsj,z79,z10c _ _ (fun c hc=>(z166 f hm c hc).2.1)]];show iter (zra (k+1000000) s f.1) (k+1000000) (z6u (zca op f),((1:Nat):Int))=_;rw[show k+1000000=(k+(1000000 - m))+1+(m - 1) by omega,z188 (m - 1) 1 _ (by omega) (by omega) (fun q h1 h2=>by rw[hfm];exact z1c0 (m - 1) (by omega) (q - 1) (by omega) (by omega)),z69,show (k+(1000000 - m))+1+(m - 1)=k+1000000 by omega,show 1+(m - 1)=m by omega];show z22 (k+1000000) s op0 f.1 (z6u (zca op f)) (m:Int) (fun rest q=>iter (zra (k+1000000) s f.1) (k+(1000000 - m)) (rest,q)) (fun x2 x3=>some (x2,(x3,()))) (some (op0,(false,())))=_;simp only[z22];rw[z8 (zj (by omega))];generalize (fun rest1=>(fun rest q=>iter (zra (k+1000000) s f.1) (k+(1000000 - m)) (rest,q)) rest1 (IntKind.wrap .i64 ((m:Int)+1)))=G;simp only[z3i];rw[z1f5 _ hm1 hm9,Option.bind_some,<- hfm,zg (by rw[beq_self_eq_true];rfl)];obtain⟨kd,t,n,x,ws,⟨⟩⟩:=op;dsimp only at hkm ht ht' hn hn' hx hx' hw hw' e1 e2 e3 e4;subst hkm;have hws:∀ w∈ws,w.length<=2000:=by
  cases e:f.2.2.2.2.2.1 with
  | true=>exact (hw e).1
  | false=>rw[hw' e];simp
 have s8:∀ (rest1:List UInt8) (k0:OpT->Bool->Option PaT) (k1:OpT->Option PaT),rest1.length<=2000->(f.2.2.2.2.2.1=true->rest1=z6u (ws.map z1y))->z19 (k+1000000) s op0 f.1 rest1 (m:Int) ((m:Int),t,n,x,[],()) 0 k0 k1=k1 ((m:Int),t,n,x,ws,()):=fun rest1 k0 k1 hr he=>by
  cases e:f.2.2.2.2.2.1 with
  | true =>
    rw[e] at e4;have h5:(m:Int)=5:=beq_iff_eq.1 e4.symm;rw[h5];exact z1cc k hr hws (he e)
  | false =>
    rw[hw' e];rw[e] at e4;simp only[z19,z5t];rw[show k+1000000=(k+999999)+1 from rfl,z69];simp only[z4p,z3x];rw[zg e4.symm]
 have s6:∀ (rest1:List UInt8) (k0:OpT->Option PaT),rest1.length<=2000->(f.2.2.2.2.1=true->rest1=Lib.itoa n)->z23 (k+1000000) s op0 f.1 rest1 (m:Int) ((m:Int),t,0,x,[],()) k0=k0 ((m:Int),t,n,x,[],()):=fun rest1 k0 hr he=>by
  simp only[z23,z5u];have push:∀ (X:Bool->Option PaT),cond ((m:Int) == 3) (X true) (X ((m:Int) == 7))=X f.2.2.2.2.1:=by intro X;rw[e3];cases ((m:Int) == 3)<;>rfl
  rw[push (fun x51=>cond x51 _ _)];cases e:f.2.2.2.2.1 with
  | true =>
    obtain⟨h0,h1⟩:=hn e;rw[cond_true,z1bv _ (by omega) (by omega),Option.bind_some,he e,z1dm h0 h1]
  | false=>rw[cond_false,hn' e]
 have s4:∀ (rest1:List UInt8) (k0:OpT->Option PaT),rest1.length<=2000->(f.2.2.2.1=true->rest1=120::zmo x)->z2s (k+1000000) s op0 f.1 rest1 (m:Int) ((m:Int),t,0,[],[],()) k0=k0 ((m:Int),t,0,x,[],()):=fun rest1 k0 hr he=>by
  simp only[z2s,z5v];have push:∀ (X:Bool->Option PaT),cond (decide ((m:Int)<=2)) (X true) (X ((m:Int) == 6))=X f.2.2.2.1:=by intro X;rw[e2];cases decide ((m:Int)<=2)<;>rfl
  rw[push (fun x42=>cond x42 _ _)];cases e:f.2.2.2.1 with
  | true =>
    rw[cond_true,z1ae _ (by omega) (by omega) (by rw[he e];simp),Option.bind_some,he e];rw[show List.drop 1 (120::zmo x)=zmo x from rfl,z1e2]
  | false=>rw[cond_false,hx' e]
 -- what is left behind the tenant
 have R:(z6u ((cond f.2.2.2.1 [120::zmo x] [])++((cond f.2.2.2.2.1 [Lib.itoa n] [])++(cond f.2.2.2.2.2.1 (ws.map z1y) [])))).length<=2000->∀ (k0:OpT->Bool->Option PaT) (k1:List UInt8->OpT->Option PaT),z2s (k+1000000) s op0 f.1 (z6u ((cond f.2.2.2.1 [120::zmo x] [])++((cond f.2.2.2.2.1 [Lib.itoa n] [])++(cond f.2.2.2.2.2.1 (ws.map z1y) [])))) (m:Int) ((m:Int),t,0,[],[],()) (fun op1=>z23 (k+1000000) s op0 f.1 (z6u ((cond f.2.2.2.1 [120::zmo x] [])++((cond f.2.2.2.2.1 [Lib.itoa n] [])++(cond f.2.2.2.2.2.1 (ws.map z1y) [])))) (m:Int) op1 (fun op2=>z19 (k+1000000) s op0 f.1 (z6u ((cond f.2.2.2.1 [120::zmo x] [])++((cond f.2.2.2.2.1 [Lib.itoa n] [])++(cond f.2.2.2.2.2.1 (ws.map z1y) [])))) (m:Int) op2 0 k0 (fun op3=>k1 (z6u ((cond f.2.2.2.1 [120::zmo x] [])++((cond f.2.2.2.2.1 [Lib.itoa n] [])++(cond f.2.2.2.2.2.1 (ws.map z1y) [])))) op3)))=k1 (z6u ((cond f.2.2.2.1 [120::zmo x] [])++((cond f.2.2.2.2.1 [Lib.itoa n] [])++(cond f.2.2.2.2.2.1 (ws.map z1y) [])))) ((m:Int),t,n,x,ws,()):=by
  generalize hg:z6u ((cond f.2.2.2.1 [120::zmo x] [])++((cond f.2.2.2.2.1 [Lib.itoa n] [])++(cond f.2.2.2.2.2.1 (ws.map z1y) [])))=g;intro hr k0 k1;rw[s4 g _ hr (fun e=>by rw[<- hg,e,(x1 e).1,(x1 e).2];rfl),s6 g _ hr (fun e=>by
   have hb:f.2.2.2.1=false:=by cases h:f.2.2.2.1;rfl;exact absurd (x1 h).1 (by rw[e];simp)
   rw[<- hg,hb,e,x2 e];rfl),s8 g _ _ hr (fun e=>by
   have hb:f.2.2.2.1=false:=by cases h:f.2.2.2.1;rfl;exact absurd (x1 h).2 (by rw[e];simp)
   have hc:f.2.2.2.2.1=false:=by cases h:f.2.2.2.2.1;rfl;exact absurd (x2 h) (by rw[e];simp)
   rw[<- hg,hb,hc,e];rfl)]
 have fin:∀ (rest1:List UInt8),z1ku (k+1000000) s f.1 (m:Int) G rest1 ((m:Int),t,n,x,ws,())=some (((m:Int),t,n,x,ws,()),true,()):=fun rest1=>by
  unfold z1ku;dsimp only;rw[hrl,Option.bind_some];simp only[z1e,beq_self_eq_true,cond_true]
 simp only[z5w];rw[<- e1];simp only[zca] at hlen ⊢;cases e:f.2.2.1 with
 | true =>
   rw[e] at hlen;simp only[cond_true,List.singleton_append] at hlen ⊢;rw[z79] at hlen ⊢;have hwl:=z10c t ((cond f.2.2.2.1 [120::zmo x] [])++((cond f.2.2.2.2.1 [Lib.itoa n] [])++(cond f.2.2.2.2.2.1 (ws.map z1y) []))) (fun c hc=>(z10b (ht e) c hc).2.1);have hl2:=zk6 (t++z5b ((cond f.2.2.2.1 [120::zmo x] [])++((cond f.2.2.2.2.1 [Lib.itoa n] [])++(cond f.2.2.2.2.2.1 (ws.map z1y) []))));rw[hwl] at hl2;dsimp only at hl2;rw[z13a _ (by omega) (by omega),Option.bind_some,hwl];exact (R (by omega) (fun x2 x3=>some (x2,(x3,()))) (z1ku (k+1000000) s f.1 (m:Int) G)).trans (fin _)
 | false =>
   rw[e] at hlen;simp only[cond_false,List.nil_append] at hlen ⊢;have:=ht' e;subst this;exact (R (by omega) (fun x2 x3=>some (x2,(x3,()))) (z1ku (k+1000000) s f.1 (m:Int) G)).trans (fin _)
theorem z1cu (k:Nat){s:List UInt8}(hs:s.length<=2000):∃ o,z38 (k+1000000) s=some (opR o)/\IsO o s:=by
 obtain⟨o,h1,h2⟩:=z16j k hs;refine⟨o,h1,h2,fun e op hO hl=>?_⟩;rw[z19b k hs hl hO,e] at h1;have:=congrArg (fun z:Option PaT=>z.map (fun y=>y.2.1)) h1;simp[opR] at this
theorem z1ap (N:Nat){l:List (List UInt8)}(hl:l.length<=10000000)(hN:l.length<N):z4r N l l=some true:=by
 simp only[z4r,zbo];rw[zg (by simp)];rw[z4v (I:=fun (v:Int)=>∃ i:Nat,v=(i:Int)/\i<=l.length) (m:=fun v=>l.length - v.toNat) (R:=fun _=>some true) ?_ N 0 ⟨0,rfl,by omega⟩ (by simp;omega)];rintro v r ⟨i,rfl,hi⟩ hr;rw[Int.toNat_natCast] at hr;simp only[z6s,Int.toNat_natCast];by_cases hlt:i<l.length
 . rw[z8 (zj (by omega)),z8 (z16 hlt),z8 (z16 hlt),zg (by rw[beq_self_eq_true];rfl),z1b (by omega)];exact hr _ ⟨i+1,rfl,by omega⟩ (by simp;omega)
 . rw[zg (zy (by omega))]
theorem z1hj (N:Nat){op:OpT}(hl:op.2.2.2.2.1.length<=10000000)(hN:op.2.2.2.2.1.length<N):z3r N op op=some true:=by
 simp only[z3r,beq_self_eq_true,cond_true,z1ap N hl hN,Option.bind_some]
theorem z1l2 (N:Nat){op:OpT}(hN:100<N):∃ b,z63 N op=some b/\(b=false->op.2.1.length<=100/\op.2.2.2.2.1.length<=70/\(op.2.2.2.1.length<=500\/131072<op.2.2.2.1.length)/\∀ w∈op.2.2.2.2.1,w.length<=300\/2048<w.length):=by
 simp only[z63,z9i,z9h];by_cases h1:op.2.1.length<=100
 case neg=>rw[z8 (zj (by omega))];exact⟨true,rfl,fun e=>by cases e⟩
 rw[zg (zy (by omega))];by_cases h2:op.2.2.2.2.1.length<=70
 case neg=>rw[z8 (zj (by omega))];exact⟨true,rfl,fun e=>by cases e⟩
 rw[zg (zy (by omega))];have tail:∃ b,z9g N op 0 (fun x21=>some x21) (some false)=some b/\(b=false->∀ w∈op.2.2.2.2.1,w.length<=300\/2048<w.length):=by
  simp only[z9g];have key:=zmj (step:=fun (v:Int) r=>z5x N op v (fun i=>(r i)) (fun x21=>some x21) (some false)) (I:=fun (v:Int)=>∃ i:Nat,v=(i:Int)/\i<=op.2.2.2.2.1.length/\∀ w∈op.2.2.2.2.1.take i,w.length<=300\/2048<w.length) (m:=fun v=>op.2.2.2.2.1.length - v.toNat) (p:=fun o=>∃ b,o=some b/\(b=false->∀ w∈op.2.2.2.2.1,w.length<=300\/2048<w.length)) ?_ N 0 ⟨0,rfl,by omega,by simp⟩ (by simp;omega)
  . exact key
  rintro v r ⟨i,rfl,hi,ht⟩ hr;rw[Int.toNat_natCast] at hr;simp only[z5x,z9f,z9e,Int.toNat_natCast];by_cases hlt:i<op.2.2.2.2.1.length
  case neg=>rw[zg (zy (by omega))];exact⟨false,rfl,fun _=>by rw[List.take_of_length_le (by omega)] at ht;exact ht⟩
  have hgo:(op.2.2.2.2.1.getD i []).length<=300\/2048<(op.2.2.2.2.1.getD i []).length->∃ b,r (IntKind.wrap .i64 ((i:Int)+1))=some b/\(b=false->∀ w∈op.2.2.2.2.1,w.length<=300\/2048<w.length):=fun h=>by
   rw[z1b (by omega)];refine hr _ ⟨i+1,rfl,by omega,fun w hw=>?_⟩ (by simp;omega);rw[zp3 op.2.2.2.2.1 [] i hlt] at hw;rcases List.mem_append.1 hw with hw|hw
   . exact ht w hw
   . rw[List.mem_singleton.1 hw];exact h
  rw[z8 (zj (by omega)),z8 (z16 hlt)];by_cases h3:(op.2.2.2.2.1.getD i []).length<=300
  . rw[zg (zy (by omega)),cond_false];exact hgo (.inl h3)
  rw[z8 (zj (by omega)),z8 (z16 hlt)];by_cases h4:(op.2.2.2.2.1.getD i []).length<=2048
  . rw[zj (by omega),cond_true];exact⟨true,rfl,fun e=>by cases e⟩
  . rw[zy (by omega),cond_false];exact hgo (.inr (by omega))
 obtain⟨b,hb,hb'⟩:=tail;by_cases h3:op.2.2.2.1.length<=500
 . rw[zg (zy (by omega)),cond_false,hb];exact⟨b,rfl,fun e=>⟨h1,h2,.inl h3,hb' e⟩⟩
 rw[z8 (zj (by omega))];by_cases h4:op.2.2.2.1.length<=131072
 . rw[zj (by omega),cond_true];exact⟨true,rfl,fun e=>by cases e⟩
 . rw[zy (by omega),cond_false,hb];exact⟨b,rfl,fun e=>⟨h1,h2,.inr (by omega),hb' e⟩⟩
theorem z1fk (k:Nat):z65 (k+1000000)=some true:=by kernel_rfl
theorem z1l1 {o:Option OpT}{s:List UInt8}(h:IsO o s):(opR o).1.2.2.2.2.1.length<=100000:=by
 cases o with
 | none=>simp[opR,op0]
 | some op=>exact z18r (h.1 op rfl).1 (h.1 op rfl).2
theorem z1ii (k:Nat){op:OpT}{s:List UInt8}:z2n (k+1000000) op s=some true:=by
 have hw:=z1fk k;simp only[z2n,z5d,z5c,hw];obtain⟨b,hb,hb'⟩:=z1l2 (k+1000000) (op:=op) (by omega);rw[hb,Option.bind_some];cases b with
 | true=>rfl
 | false =>
   obtain⟨h1,h2,h3,h4⟩:=hb' rfl;rw[cond_false];by_cases hs:500<s.length
   . rw[z8 (zj (by omega))];rfl
   rw[zg (zy (by omega))];have hO:z16h op:=fun w hw=>by rcases h4 w hw with h|h<;>omega
   obtain⟨o,e1,i1⟩:=z1kj k (s:=s) (by omega);obtain⟨o',e2,i2⟩:=z1cu k (s:=s) (by omega);have:=z1p0 i1 i2;subst this;have hwo:=z1l1 i1;rw[z1ij k (by omega) hO,Option.bind_some,z10j k (by omega) hO,Option.bind_some,e1,Option.bind_some,e2,Option.bind_some,beq_self_eq_true,cond_true,beq_self_eq_true,cond_true,z1hj _ (by omega) (by omega),Option.bind_some,cond_true,beq_self_eq_true,cond_true];rfl
end
end Go.Proofs.YtlmlihfmoabinaaDoorLg
