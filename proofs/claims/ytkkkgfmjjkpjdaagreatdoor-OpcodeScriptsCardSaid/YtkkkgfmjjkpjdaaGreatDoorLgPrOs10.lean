import Derived.Test.YtkkkgfmjjkpjdaaGreatDoorLgPrOs8
import Derived.Test.YtkkkgfmjjkpjdaaGreatDoorLgPrOs9
import Derived.Lib.DecodeN
import Derived.Test.YtkkkgfmjjkpjdaaGreatDoorLgPrOs1
import Derived.Test.YtkkkgfmjjkpjdaaGreatDoorLgPrOs2
set_option linter.all false
namespace Go.Proofs.YtkkkgfmjjkpjdaaGreatDoorLg
noncomputable section
open Go Go.Lift Go.Lib Go.Proofs.YtkkkgfmjjkpjdaaGreatDoorPx
set_option maxRecDepth 10000000 in
theorem z1q5:∀ b:Fin 256,glob5.getD b.1 0=((firstT b.1:Nat):Int):=by decide +kernel
theorem z1jw (b:UInt8):List.getD glob5 (Int.toNat ((b.toNat:Nat):Int)) 0=((firstT b.toNat:Nat):Int):=by
 rw[Int.toNat_natCast];exact z1q5 ⟨b.toNat,b.toNat_lt⟩
theorem zer (N:Nat){s:List UInt8}{c:Nat}{sz lo hi:Nat}(hs:1<=s.length)(hx:firstT (s.getD 0 0).toNat=c)(h240:c<240)(e0:inR (shrI .u8 (c:Int) 4) 16=true)
 (e1:IntKind.wrap .i64 (bitsOp .and .u8 (c:Int) 7)=(sz:Int)) (e2:List.getD glob6 (Int.toNat (shrI .u8 (c:Int) 4)) ((0:Int),((0:Int),()))=((lo:Int),(hi:Int),())) (hz:2<=sz) (hz4:sz<=4) :
 ∃ r,zm N s=some (r,(((slowN s.length (s.getD 0 0).toNat (s.getD 1 0).toNat (s.getD 2 0).toNat (s.getD 3 0).toNat sz lo hi).2:Nat):Int),()):=by
 have hb:=z9m (s.getD 0 0);simp only[zm,z1jw,hx,e0,e1,e2];rw[zf (zq (by omega)),z8 (zfw (by omega) (by omega)),z8 (z12 hb),zf (zq (by omega)),cond_true];unfold slowN;by_cases h1:s.length<sz
 . rw[z8 (zh (by omega)),if_pos h1];exact⟨_,rfl⟩
 rw[zf (zq (by omega)),if_neg h1,z8 (zfw (by omega) (by omega))];simp only[z2s,z2r];by_cases h2:(s.getD 1 0).toNat<lo
 . rw[z8 (zh (by omega)),if_pos (Or.inl h2)];exact⟨_,rfl⟩
 rw[zf (zq (by omega))];by_cases h3:hi<(s.getD 1 0).toNat
 . rw[z8 (zh (by omega)),if_pos (Or.inr h3)];exact⟨_,rfl⟩
 rw[zf (zq (by omega)),if_neg (by omega)];by_cases h4:sz<=2
 . rw[z8 (zh (by omega)),if_pos h4];exact⟨_,rfl⟩
 rw[zf (zq (by omega)),if_neg h4,z8 (zfw (by omega) (by omega))];simp only[z2q,z2p];by_cases h5:(s.getD 2 0).toNat<128
 . rw[z8 (zh (by omega)),if_pos (Or.inl h5)];exact⟨_,rfl⟩
 rw[zf (zq (by omega))];by_cases h6:191<(s.getD 2 0).toNat
 . rw[z8 (zh (by omega)),if_pos (Or.inr h6)];exact⟨_,rfl⟩
 rw[zf (zq (by omega)),if_neg (by omega)];by_cases h7:sz<=3
 . rw[z8 (zh (by omega)),if_pos h7];exact⟨_,rfl⟩
 rw[zf (zq (by omega)),if_neg h7,z8 (zfw (by omega) (by omega))];simp only[z2o,z2n];by_cases h8:(s.getD 3 0).toNat<128
 . rw[z8 (zh (by omega)),if_pos (Or.inl h8)];exact⟨_,rfl⟩
 rw[zf (zq (by omega))];by_cases h9:191<(s.getD 3 0).toNat
 . rw[z8 (zh (by omega)),if_pos (Or.inr h9)];exact⟨_,rfl⟩
 rw[zf (zq (by omega)),if_neg (by omega)];exact⟨_,rfl⟩
theorem z1p7 (N:Nat){s:List UInt8}(hs:1<=s.length)(hx:firstT (s.getD 0 0).toNat=241):∃ r,zm N s=some (r,1,()):=by
 have hb:=z9m (s.getD 0 0);simp only[zm,z1jw,hx];rw[zf (zq (by omega)),z8 (zfw (by omega) (by omega)),z8 (z12 hb),z8 (zh (by omega)),z8 (zfw (by omega) (by omega))];exact⟨_,rfl⟩
abbrev dN (s:List UInt8)(i:Nat):Nat×Nat:=decodeN (s.length - i) (s.getD i 0).toNat (s.getD (i+1) 0).toNat (s.getD (i+2) 0).toNat (s.getD (i+3) 0).toNat
theorem z1qe {n b0 b1 b2 b3:Nat}(h:(128<=b0/\b0<194)\/245<=b0)(hb:b0<256)(h1:b1<256):(decodeN n b0 b1 b2 b3).2=1:=by
 unfold decodeN
 repeat' split
 all_goals first|rfl|(exfalso;omega)
theorem z1q7 (N:Nat){s:List UInt8}(hs:1<=s.length):∃ r,z1y N s=some (r,(((dN s 0).2:Nat):Int),()):=by
 have hb0:=z9m (s.getD 0 0);have hb1:=z9m (s.getD 1 0);have hb2:=z9m (s.getD 2 0);have hb3:=z9m (s.getD 3 0);have hne:(s == ([]:List UInt8))=false:=by
  rw[beq_eq_false_iff_ne];intro e;rw[e] at hs;simp at hs
 simp only[z1y,z3k,hne,Bool.not_false,cond_true,dN,Nat.sub_zero,Nat.zero_add];rw[z8 (zfw (by omega) (by omega))];by_cases ha:(s.getD 0 0).toNat<128
 . rw[z8 (zh (by omega)),z8 (zfw (by omega) (by omega)),decodeN_ascii _ _ _ _ _ ha];exact⟨_,rfl⟩
 rw[zf (zq (by omega))];have fin:∀ {m:Nat},(∃ r,zm N s=some (r,((m:Nat):Int),()))->m=(decodeN s.length (s.getD 0 0).toNat (s.getD 1 0).toNat (s.getD 2 0).toNat (s.getD 3 0).toNat).2->∃ r,((zm N s).bind fun y=>some (y.1,(y.2.1,())))=some (r,(((decodeN s.length (s.getD 0 0).toNat (s.getD 1 0).toNat (s.getD 2 0).toNat (s.getD 3 0).toNat).2:Nat):Int),()):=by
  rintro m ⟨r,e⟩ h;rw[e,<- h];exact⟨_,rfl⟩
 have hbad:firstT (s.getD 0 0).toNat=241->((128<=(s.getD 0 0).toNat/\(s.getD 0 0).toNat<194)\/245<=(s.getD 0 0).toNat)->∃ r,((zm N s).bind fun y=>some (y.1,(y.2.1,())))=some (r,(((decodeN s.length (s.getD 0 0).toNat (s.getD 1 0).toNat (s.getD 2 0).toNat (s.getD 3 0).toNat).2:Nat):Int),()) :=
  fun h1 h2=>fin (m:=1) (z1p7 N hs h1) (z1qe h2 hb0 hb1).symm
 by_cases c1:(s.getD 0 0).toNat<194
 . exact hbad (by unfold firstT;rw[if_neg ha,if_pos c1]) (by omega)
 by_cases c2:(s.getD 0 0).toNat<224
 . exact fin (zer N (c:=2) (sz:=2) (lo:=128) (hi:=191) hs (by unfold firstT;rw[if_neg ha,if_neg c1,if_pos c2]) (by omega) (by kernel_rfl) (by kernel_rfl) (by kernel_rfl) (by omega) (by omega)) (by rw[slow_C2 _ _ _ _ _ hs hb1 hb2 hb3 (by omega)])
 by_cases c3:(s.getD 0 0).toNat=224
 . exact fin (zer N (c:=19) (sz:=3) (lo:=160) (hi:=191) hs (by rw[c3];rfl) (by omega) (by kernel_rfl) (by kernel_rfl) (by kernel_rfl) (by omega) (by omega)) (by rw[slow_E0 _ _ _ _ _ hs hb1 hb2 hb3 c3])
 by_cases c4:(s.getD 0 0).toNat<237
 . exact fin (zer N (c:=3) (sz:=3) (lo:=128) (hi:=191) hs (by unfold firstT;rw[if_neg ha,if_neg c1,if_neg c2,if_neg c3,if_pos c4]) (by omega) (by kernel_rfl) (by kernel_rfl) (by kernel_rfl) (by omega) (by omega)) (by rw[slow_E1 _ _ _ _ _ hs hb1 hb2 hb3 (by omega)])
 by_cases c5:(s.getD 0 0).toNat=237
 . exact fin (zer N (c:=35) (sz:=3) (lo:=128) (hi:=159) hs (by rw[c5];rfl) (by omega) (by kernel_rfl) (by kernel_rfl) (by kernel_rfl) (by omega) (by omega)) (by rw[slow_ED _ _ _ _ _ hs hb1 hb2 hb3 c5])
 by_cases c6:(s.getD 0 0).toNat<240
 . exact fin (zer N (c:=3) (sz:=3) (lo:=128) (hi:=191) hs (by unfold firstT;rw[if_neg ha,if_neg c1,if_neg c2,if_neg c3,if_neg c4,if_neg c5,if_pos c6]) (by omega) (by kernel_rfl) (by kernel_rfl) (by kernel_rfl) (by omega) (by omega)) (by rw[slow_E1 _ _ _ _ _ hs hb1 hb2 hb3 (by omega)])
 by_cases c7:(s.getD 0 0).toNat=240
 . exact fin (zer N (c:=52) (sz:=4) (lo:=144) (hi:=191) hs (by rw[c7];rfl) (by omega) (by kernel_rfl) (by kernel_rfl) (by kernel_rfl) (by omega) (by omega)) (by rw[slow_F0 _ _ _ _ _ hs hb1 hb2 hb3 c7])
 by_cases c8:(s.getD 0 0).toNat<244
 . exact fin (zer N (c:=4) (sz:=4) (lo:=128) (hi:=191) hs (by unfold firstT;rw[if_neg ha,if_neg c1,if_neg c2,if_neg c3,if_neg c4,if_neg c5,if_neg c6,if_neg c7,if_pos c8]) (by omega) (by kernel_rfl) (by kernel_rfl) (by kernel_rfl) (by omega) (by omega)) (by rw[slow_F1 _ _ _ _ _ hs hb1 hb2 hb3 (by omega)])
 by_cases c9:(s.getD 0 0).toNat=244
 . exact fin (zer N (c:=68) (sz:=4) (lo:=128) (hi:=143) hs (by rw[c9];rfl) (by omega) (by kernel_rfl) (by kernel_rfl) (by kernel_rfl) (by omega) (by omega)) (by rw[slow_F4 _ _ _ _ _ hs hb1 hb2 hb3 c9])
 exact hbad (by unfold firstT;rw[if_neg ha,if_neg c1,if_neg c2,if_neg c3,if_neg c4,if_neg c5,if_neg c6,if_neg c7,if_neg c8,if_neg c9]) (by omega)
theorem z6w (l:List UInt8)(i j:Nat):(l.drop i).getD j 0=l.getD (i+j) 0:=by
 rw[List.getD_eq_getElem?_getD,List.getElem?_drop,<- List.getD_eq_getElem?_getD]
def z1v (s:List UInt8)(i:Nat):Nat:=(runeAt s i).2
theorem z1da (N:Nat){s:List UInt8}{i:Nat}(hi:i<s.length):zch N s (i:Int)=some ((z1v s i:Nat):Int):=by
 simp only[zch,zpg,zpf];rw[zf (zq (by omega)),zf (zq (by omega)),z8 (zh (by omega)),Int.toNat_natCast,zva];obtain⟨r,e⟩:=z1q7 N (s:=s.drop i) (by rw[List.length_drop];omega);rw[e,Option.bind_some];dsimp only;unfold z1v;rw[z122];simp only[dN,z6w,List.length_drop,Nat.add_zero,Nat.zero_add,Nat.sub_zero]
end
end Go.Proofs.YtkkkgfmjjkpjdaaGreatDoorLg
set_option linter.all false
namespace Go.Proofs.YtkkkgfmjjkpjdaaGreatDoorLg
noncomputable section
open Go Go.Lift Go.Lib Go.Proofs.YtkkkgfmjjkpjdaaGreatDoorPx
def tl (b:Nat):Bool:=decide (128<=b/\b<=191)
def z1r8 (s:List UInt8):Nat->Nat->Bool
 | _,0=>true
 | a,n+1=>tl (s.getD a 0).toNat && z1r8 s (a+1) n
theorem z1dd (N:Nat){s:List UInt8}{a n:Nat}(ha:a<=s.length)(hs:s.length<=10000000)(hn:n<=3)(hN:8<N):z1k N s (a:Int) (n:Int)=some (decide (a+n<=s.length) && z1r8 s a n):=by
 simp only[z1k,zi6];rw[z2v (x:=(s.length:Int) - (a:Int)) (by unfold I64;omega)];by_cases h:a+n<=s.length
 case neg=>rw[z8 (zh (by omega)),zq h];rfl
 rw[zf (zq (by omega)),zh h,Bool.true_and];rw[z3n (I:=fun (v:Int)=>∃ j:Nat,v=((a+j:Nat):Int)/\j<=n) (m:=fun v=>a+n - v.toNat) (R:=fun v=>some (z1r8 s v.toNat (a+n - v.toNat))) ?_ N (a:Int) ⟨0,rfl,by omega⟩ (by simp;omega)]
 . rw[Int.toNat_natCast,show a+n - a=n by omega]
 rintro v r ⟨j,rfl,hj⟩ hr;rw[Int.toNat_natCast] at hr ⊢;simp only[zaq,zas,zar];rw[z2v (x:=(a:Int)+(n:Int)) (by unfold I64;omega)];by_cases hlt:j<n
 . rw[z8 (zh (by omega)),z8 (z12 (by omega)),z8 (z12 (by omega)),Int.toNat_natCast,show a+n - (a+j)=(n - (j+1))+1 by omega];simp only[z1r8];by_cases h1:(s.getD (a+j) 0).toNat<128
   . rw[z8 (zh (by omega)),tl,zq (by omega)];rfl
   rw[zf (zq (by omega))];by_cases h2:191<(s.getD (a+j) 0).toNat
   . rw[z8 (zh (by omega)),tl,zq (by omega)];rfl
   rw[zf (zq (by omega)),z2v (x:=((a+j:Nat):Int)+1) (by unfold I64;omega)];have:=hr (((a+j:Nat):Int)+1) ⟨j+1,by omega,by omega⟩ (by omega);rw[this,show (((a+j:Nat):Int)+1).toNat=a+j+1 by omega,show a+n - (a+j+1)=n - (j+1) by omega,tl,zh (by omega),Bool.true_and]
 . rw[zf (zq (by omega)),show a+n - (a+j)=0 by omega];rfl
theorem z1dk {n b0 b1 b2 b3:Nat}(h0:b0<256)(h1:b1<256)(h2:b2<256)(h3:b3<256)(hb:128<=b0) :
 ((decodeN n b0 b1 b2 b3).2=2 ↔ (194<=b0/\b0<=223/\1<n/\128<=b1/\b1<=191)) ∧
 ((decodeN n b0 b1 b2 b3).2=3 ↔ (224<=b0/\b0<=239/\2<n/\(128<=b1/\b1<=191)/\(128<=b2/\b2<=191)/\(b0≠224\/160<=b1)/\(b0≠237\/b1<160))) ∧
 ((decodeN n b0 b1 b2 b3).2=4 ↔ (240<=b0/\b0<=244/\3<n/\(128<=b1/\b1<=191)/\(128<=b2/\b2<=191)/\(128<=b3/\b3<=191)/\(b0≠240\/144<=b1)/\(b0≠244\/b1<144))) ∧
 ((decodeN n b0 b1 b2 b3).2=1\/(decodeN n b0 b1 b2 b3).2=2\/(decodeN n b0 b1 b2 b3).2=3\/(decodeN n b0 b1 b2 b3).2=4):=by
 generalize hd:decodeN n b0 b1 b2 b3=d;unfold decodeN at hd
 repeat' split at hd
 all_goals (subst hd;dsimp only;omega)
def rl (s:List UInt8)(i:Nat):Nat:=if (s.getD i 0).toNat<128 then 1 else if z1v s i=1 then 0 else z1v s i
theorem z1s3 (N:Nat)(s:List UInt8)(a b nx:Int)(t:Bool)(k0:Bool->Option Int)(h:z1k N s (IntKind.wrap .i64 (a+1)) 1=some t):z7d N s a b nx k0=k0 (decide (194<=b/\b<=223) && t):=by
 simp only[z7d,h,Option.bind_some];by_cases h1:194<=b
 . rw[z8 (zh h1)];by_cases h2:b<=223
   . rw[z8 (zh h2),zh ⟨h1,h2⟩,Bool.true_and]
   . rw[zf (zq h2),zq (fun e=>h2 e.2),Bool.false_and]
 . rw[zf (zq h1),zq (fun e=>h1 e.1),Bool.false_and]
theorem z1s2 (N:Nat) (s:List UInt8) (a b nx:Int) (t:Bool) (k0:Bool->Option Int) (h:z1k N s (IntKind.wrap .i64 (a+1)) 2=some t):z7c N s a b nx k0=k0 (decide ((224<=b/\b<=239)/\t=true/\(b≠224\/160<=nx)/\(b≠237\/nx<160))):=by
 simp only[z7c,h,Option.bind_some];by_cases h1:224<=b
 case neg=>rw[zf (zq h1),zq (fun e=>h1 e.1.1)]
 rw[z8 (zh h1)];by_cases h2:b<=239
 case neg=>rw[zf (zq h2),zq (fun e=>h2 e.1.2)]
 rw[z8 (zh h2)];cases t with
 | false=>rw[cond_false,zq (fun e=>by simp at e)]
 | true =>
   rw[cond_true];by_cases h3:b=224
   . subst h3;rw[zf (by rfl)];by_cases h4:160<=nx
     . rw[z8 (zh h4),z8 (by rfl),zh ⟨by omega,rfl,by omega,by omega⟩]
     . rw[zf (zq h4),zq (fun e=>by have:=e.2.2;omega)]
   . rw[z8 (by rw[bne_iff_ne];exact h3)];by_cases h4:b=237
     . subst h4;rw[zf (by rfl)];by_cases h5:nx<160
       . rw[zh h5,zh ⟨by omega,rfl,by omega,by omega⟩]
       . rw[zq h5,zq (fun e=>by have:=e.2.2;omega)]
     . rw[z8 (by rw[bne_iff_ne];exact h4),zh ⟨by omega,rfl,by omega,by omega⟩]
theorem z1s1 (N:Nat) (s:List UInt8) (a b nx:Int) (t:Bool) (k0:Bool->Option Int) (h:z1k N s (IntKind.wrap .i64 (a+1)) 3=some t):z7b N s a b nx k0=k0 (decide ((240<=b/\b<=244)/\t=true/\(b≠240\/144<=nx)/\(b≠244\/nx<144))):=by
 simp only[z7b,h,Option.bind_some];by_cases h1:240<=b
 case neg=>rw[zf (zq h1),zq (fun e=>h1 e.1.1)]
 rw[z8 (zh h1)];by_cases h2:b<=244
 case neg=>rw[zf (zq h2),zq (fun e=>h2 e.1.2)]
 rw[z8 (zh h2)];cases t with
 | false=>rw[cond_false,zq (fun e=>by simp at e)]
 | true =>
   rw[cond_true];by_cases h3:b=240
   . subst h3;rw[zf (by rfl)];by_cases h4:144<=nx
     . rw[z8 (zh h4),z8 (by rfl),zh ⟨by omega,rfl,by omega,by omega⟩]
     . rw[zf (zq h4),zq (fun e=>by have:=e.2.2;omega)]
   . rw[z8 (by rw[bne_iff_ne];exact h3)];by_cases h4:b=244
     . subst h4;rw[zf (by rfl)];by_cases h5:nx<144
       . rw[zh h5,zh ⟨by omega,rfl,by omega,by omega⟩]
       . rw[zq h5,zq (fun e=>by have:=e.2.2;omega)]
     . rw[z8 (by rw[bne_iff_ne];exact h4),zh ⟨by omega,rfl,by omega,by omega⟩]
theorem z1s4 (N:Nat){s:List UInt8}{i:Nat}(hi:i<s.length)(hs:s.length<=10000000)(b nx:Int)(hnx:nx=0)(k0:Int->Option Int):z7e N s (i:Int) b nx k0=k0 (((s.getD (i+1) 0).toNat:Nat):Int):=by
 simp only[z7e];rw[zz (by omega)];by_cases h:i+1<s.length
 . rw[z8 (zh (by omega)),z8 (z12 h),Int.toNat_natCast,zp6]
 . rw[zf (zq (by omega)),hnx,List.getD_eq_getElem?_getD,List.getElem?_eq_none (by omega)];rfl
theorem z14a (N:Nat){s:List UInt8}{i:Nat}(hi:i<s.length)(hs:s.length<=10000000)(hN:8<N):z4w N s (i:Int)=some ((rl s i:Nat):Int):=by
 have hb0:=z9m (s.getD i 0);have hb1:=z9m (s.getD (i+1) 0);have hb2:=z9m (s.getD (i+2) 0);have hb3:=z9m (s.getD (i+3) 0);have hw:IntKind.wrap .i64 ((i:Int)+1)=((i+1:Nat):Int):=zz (by omega);have t1:z1k N s (IntKind.wrap .i64 ((i:Int)+1)) 1=some (decide (i+1+1<=s.length) && z1r8 s (i+1) 1):=by rw[hw];exact z1dd N (n:=1) (by omega) hs (by omega) hN
 have t2:z1k N s (IntKind.wrap .i64 ((i:Int)+1)) 2=some (decide (i+1+2<=s.length) && z1r8 s (i+1) 2):=by rw[hw];exact z1dd N (n:=2) (by omega) hs (by omega) hN
 have t3:z1k N s (IntKind.wrap .i64 ((i:Int)+1)) 3=some (decide (i+1+3<=s.length) && z1r8 s (i+1) 3):=by rw[hw];exact z1dd N (n:=3) (by omega) hs (by omega) hN
 simp only[z4w];rw[z8 (z12 hi),Int.toNat_natCast,zp6];by_cases ha:(s.getD i 0).toNat<128
 . rw[z8 (zh (by omega)),rl,if_pos ha];rfl
 rw[zf (zq (by omega)),z1s4 N hi hs _ _ rfl];simp only[zbx,zbw];rw[z1s3 N s _ _ _ _ _ t1,z1s2 N s _ _ _ _ _ t2,z1s1 N s _ _ _ _ _ t3];have hc:=z1dk (n:=s.length - i) hb0 hb1 hb2 hb3 (by omega);have hu:z1v s i=(decodeN (s.length - i) (s.getD i 0).toNat (s.getD (i+1) 0).toNat (s.getD (i+2) 0).toNat (s.getD (i+3) 0).toNat).2:=by unfold z1v;rw[z122]
 rw[<- hu] at hc;rw[rl,if_neg ha];simp only[z1r8,tl,Bool.and_true,Bool.and_eq_true,decide_eq_true_eq,show i+1+1=i+2 by omega,show i+2+1=i+3 by omega] at *;obtain⟨c2,c3,c4,c1⟩:=hc;generalize (s.getD i 0).toNat=b0 at *;generalize (s.getD (i+1) 0).toNat=b1 at *;generalize (s.getD (i+2) 0).toNat=b2 at *;generalize (s.getD (i+3) 0).toNat=b3 at *;generalize z1v s i=u at *;by_cases p2:194<=b0/\b0<=223/\1<s.length - i/\128<=b1/\b1<=191
 . have:=c2.2 p2;rw[z8 (by simp only[Bool.and_eq_true,decide_eq_true_eq];omega),this];rfl
 rw[zf (by rw[Bool.eq_false_iff];simp only[ne_eq,Bool.and_eq_true,decide_eq_true_eq];omega)];by_cases p3:224<=b0/\b0<=239/\2<s.length - i/\(128<=b1/\b1<=191)/\(128<=b2/\b2<=191)/\(b0≠224\/160<=b1)/\(b0≠237\/b1<160)
 . have:=c3.2 p3;rw[z8 (by rw[decide_eq_true_eq];omega),this];rfl
 rw[zf (by rw[decide_eq_false_iff_not];omega)];by_cases p4:240<=b0/\b0<=244/\3<s.length - i/\(128<=b1/\b1<=191)/\(128<=b2/\b2<=191)/\(128<=b3/\b3<=191)/\(b0≠240\/144<=b1)/\(b0≠244\/b1<144)
 . have:=c4.2 p4;rw[z8 (by rw[decide_eq_true_eq];omega),this];rfl
 rw[zf (by rw[decide_eq_false_iff_not];omega)];have:u=1:=by
  rcases c1 with h|h|h|h
  . exact h
  . exact absurd (c2.1 h) p2
  . exact absurd (c3.1 h) p3
  . exact absurd (c4.1 h) p4
 rw[if_pos this];rfl
theorem z3e {s:List UInt8}{i:Nat}(hi:i<s.length):1<=z1v s i/\i+z1v s i<=s.length:=by
 unfold z1v;by_cases h:(s.getD i 0).toNat<128
 . rw[z4o h];dsimp only;omega
 . have:=zco hi (by omega);exact⟨this.2.1,this.2.2.1⟩
theorem zdv {s:List UInt8}{i:Nat}(h:(s.getD i 0).toNat<128):z1v s i=1:=by unfold z1v;rw[z4o h]
theorem z1kq (N:Nat){s:List UInt8}{i:Nat}(hi:i<s.length)(hs:s.length<=10000000)(hN:8<N):z7r N s (i:Int)=some ((z1v s i:Nat):Int):=by
 simp only[z7r,zbs,zbr];rw[zf (zq (by omega)),zf (zq (by omega)),z14a N hi hs hN,Option.bind_some,rl];have:=z3e hi;by_cases h:(s.getD i 0).toNat<128
 . rw[if_pos h,zdv h];rfl
 . rw[if_neg h];by_cases h1:z1v s i=1
   . rw[if_pos h1,h1];rfl
   . rw[if_neg h1,zf (by rw[beq_eq_false_iff_ne];omega)]
end
end Go.Proofs.YtkkkgfmjjkpjdaaGreatDoorLg
set_option linter.all false
namespace Go.Proofs.YtkkkgfmjjkpjdaaGreatDoorLg
noncomputable section
open Go Go.Lift Go.Lib Go.Proofs.YtkkkgfmjjkpjdaaGreatDoorPx
def hexDigits:List UInt8:=[48,49,50,51,52,53,54,55,56,57,97,98,99,100,101,102]
def hd (n:Nat):UInt8:=hexDigits.getD n 0
def zp5:List UInt8->List UInt8
 | []=>[]
 | u::r=>hd (u.toNat / 16)::hd (u.toNat % 16)::zp5 r
theorem shr4 (n:Nat):shrI .u8 ((n:Nat):Int) 4=((n / 16:Nat):Int):=by
 have:shrI .u8 ((n:Nat):Int) 4=((n:Nat):Int).fdiv 16:=rfl;rw[this,Int.fdiv_eq_ediv_of_nonneg _ (by omega)];rfl
theorem z1uh (u:UInt8):bitsOp .and .u8 ((u.toNat:Nat):Int) 15=((u.toNat % 16:Nat):Int):=by
 have:=z1ug u 15;rw[show (((15:UInt8).toNat:Nat):Int)=15 from rfl] at this;rw[this,UInt8.toNat_and];congr 1;exact Nat.and_two_pow_sub_one_eq_mod u.toNat 4
theorem z1fd (N:Nat){s:List UInt8}(hs:s.length<=10000000000)(hN:s.length<N):z6r N s=some (zp5 s):=by
 simp only[z6r,zna];rw[z3n (I:=fun (v:List UInt8×Int)=>v.1.length=2*v.2.toNat/\0<=v.2/\v.2<=((s.length:Nat):Int)) (m:=fun (v:List UInt8×Int)=>s.length - v.2.toNat)
  (R:=fun (v:List UInt8×Int)=>some (v.1++zp5 (s.drop v.2.toNat))) ?_ N _ ⟨by simp,by dsimp only;omega,by dsimp only;omega⟩ (by simpa using hN)]
 . simp
 rintro⟨out,v⟩ r ⟨hl,h0,h1⟩ hr;dsimp only at *;obtain⟨i,rfl⟩:=Int.eq_ofNat_of_zero_le h0;simp only[zcy,Int.toNat_natCast] at *;by_cases hlt:i<s.length
 . have hb:=z9m (s.getD i 0);have hq:((((s.getD i 0).toNat:Nat):Int)).tdiv 16=(((s.getD i 0).toNat / 16:Nat):Int):=by rw[Int.tdiv_eq_ediv_of_nonneg (by omega)];omega
   have hm:((((s.getD i 0).toNat:Nat):Int)).tmod 16=(((s.getD i 0).toNat % 16:Nat):Int):=by rw[Int.tmod_eq_emod_of_nonneg (by omega)];omega
   have one:∀ k,k<16->cut hexDigits k (k+1)=[hd k]:=by decide
   have e1:∀ k:Nat,k<16->IntKind.wrap .i64 ((k:Int)+1)=((k+1:Nat):Int):=fun k hk=>zz (by omega)
   have hwq:IntKind.wrap .i64 ((((s.getD i 0).toNat / 16:Nat)):Int)=((((s.getD i 0).toNat / 16:Nat)):Int):=z2v (by unfold I64;omega);have e2:=e1 ((s.getD i 0).toNat / 16) (by omega);have e3:=e1 ((s.getD i 0).toNat % 16) (by omega);rw[z8 (zh (by omega)),z8 (z12 hlt),z8 (z12 hlt)];simp only[zp6,hq,hm,hwq,e2,e3,Int.toNat_natCast];have hc1:=one ((s.getD i 0).toNat / 16) (by omega);have hc2:=one ((s.getD i 0).toNat % 16) (by omega);have hlen:hexDigits.length=16:=rfl;unfold hexDigits at hc1 hc2 hlen;simp only[hlen];rw[hc1,hc2,z8 (zh ⟨by omega,by omega⟩),z8 (zh ⟨by omega,by omega⟩),z8 (zh (by simp;omega)),z8 (zh ⟨by omega,by omega⟩),z8 (zh ⟨by omega,by omega⟩),z8 (zh (by simp;omega)),zz (by omega),hr _ ⟨by simp;omega,by omega,by omega⟩ (by dsimp only;omega),z27 s 0 i hlt];simp only[Int.toNat_natCast,zp5,List.append_assoc,List.cons_append,List.nil_append]
 . rw[zf (zq (by omega)),z3z s (by omega)];simp[zp5]
def zdo (s:List UInt8)(i:Nat):Bool:=decide (0<rl s i/\32<=(s.getD i 0).toNat/\(s.getD i 0).toNat≠127)
theorem z1mi (N:Nat){s:List UInt8}{i:Nat}(hi:i<s.length)(hs:s.length<=10000000)(hN:8<N):z60 N s (i:Int)=some (zdo s i):=by
 simp only[z60];rw[z14a N hi hs hN,Option.bind_some];by_cases h:0<rl s i
 case neg=>rw[zf (zq (by omega)),zdo,zq (fun e=>h e.1)]
 rw[z8 (zh (by omega)),z8 (z12 hi),z8 (z12 hi),Int.toNat_natCast];by_cases h2:32<=(s.getD i 0).toNat
 case neg=>rw[zf (zq (by omega)),zdo,zq (fun e=>h2 e.2.1)]
 rw[z8 (zh (by omega))];by_cases h3:(s.getD i 0).toNat=127
 . rw[h3,zdo,zq (fun e=>e.2.2 h3)];rfl
 . rw[zdo,zh ⟨h,h2,h3⟩];congr 1;rw[bne_iff_ne];omega
theorem z1qf {s:List UInt8}{i:Nat}(h:128<=(s.getD i 0).toNat)(h1:z1v s i=1):(runeAt s i).1=65533:=by
 unfold z1v at h1;rw[z122] at h1 ⊢;rcases decodeN_shape (s.length - i) (s.getD i 0).toNat (s.getD (i+1) 0).toNat (s.getD (i+2) 0).toNat (s.getD (i+3) 0).toNat with⟨h0,e⟩|⟨_,_,_,_,e⟩|⟨_,_,_,_,_,_,e⟩|⟨_,_,_,_,_,_,_,e⟩|e
 . omega
 . rw[e] at h1;simp at h1
 . rw[e] at h1;simp at h1
 . rw[e] at h1;simp at h1
 . rw[e]
theorem z1dy (N:Nat) {s:List UInt8} {i:Nat} (hi:i<s.length):zbf N s (i:Int) (((runeAt s i).1:Nat):Int)=some (zdo s i):=by
 simp only[zbf,zns,znr];by_cases h:(s.getD i 0).toNat<128
 . rw[z4o h];dsimp only;rw[zf (by rw[beq_eq_false_iff_ne];omega),cond_false];by_cases h2:32<=(s.getD i 0).toNat
   case neg=>rw[zf (zq (by omega)),zdo,zq (fun e=>h2 e.2.1)]
   rw[z8 (zh (by omega))];by_cases h3:(s.getD i 0).toNat=127
   . rw[h3,zdo,zq (fun e=>e.2.2 h3)];rfl
   . rw[zdo,zh ⟨by rw[rl,if_pos h];omega,h2,h3⟩];congr 1;rw[bne_iff_ne];omega
 . have hr:=zco hi (by omega);have hp:=z3e hi;rw[z1da N hi,Option.bind_some];by_cases h1:z1v s i=1
   . have hsf:zdo s i=false:=zq (fun e=>by have h0:=e.1;rw[rl,if_neg h,if_pos h1] at h0;omega);rw[z1qf (by omega) h1,h1,hsf];rfl
   . have hf:(((z1v s i:Nat):Int) == 1)=false:=by rw[beq_eq_false_iff_ne];omega
     have hsf:zdo s i=true:=zh ⟨by rw[rl,if_neg h,if_neg h1];omega,by omega,by omega⟩;have tail:(cond (decide ((32:Int)<=(((runeAt s i).1:Nat):Int))) (some ((((runeAt s i).1:Nat):Int) != 127)) (some false))=some true:=by
      rw[z8 (zh (by omega))];congr 1;rw[bne_iff_ne];omega
     rw[hf,hsf];simp only[cond_false];rw[tail];cases ((((runeAt s i).1:Nat):Int) == 65533)<;>rfl
def zfr (s:List UInt8)(i:Nat):List UInt8 :=
 cond ((s.getD i 0).toNat == 34 || (s.getD i 0).toNat == 92) [92,s.getD i 0] (cond (zdo s i) ((s.drop i).take (z1v s i)) [92,120,hd ((s.getD i 0).toNat / 16),hd ((s.getD i 0).toNat % 16)])
def z1de (s:List UInt8):Nat->Nat->List UInt8
 | 0,_=>[]
 | f+1,i=>cond (decide (i<s.length)) (zfr s i++z1de s f (i+z1v s i)) []
theorem z1c9 (s:List UInt8):∀ (f f' i:Nat),s.length - i<=f->s.length - i<=f'->z1de s f i=z1de s f' i
 | 0,f',i,h,h'=>by
   cases f' with
   | zero=>rfl
   | succ f'=>simp only[z1de];rw[zq (by omega)];rfl
 | f+1,0,i,h,h'=>by simp only[z1de];rw[zq (by omega)];rfl
 | f + 1,f'+1,i,h,h'=>by
   simp only[z1de];by_cases hi:i<s.length
   . have:=z3e hi;rw[z1c9 s f f' (i+z1v s i) (by omega) (by omega)]
   . rw[zq hi];rfl
def z6b (s:List UInt8)(i:Nat):List UInt8:=z1de s s.length i
theorem zdw {s:List UInt8}{i:Nat}(hi:i<s.length):z6b s i=zfr s i++z6b s (i+z1v s i):=by
 have:=z3e hi;unfold z6b;rw[z1c9 s s.length (s.length+1) i (by omega) (by omega)];simp only[z1de];rw[zh hi];rfl
theorem zen {s:List UInt8}{i:Nat}(hi:s.length<=i):z6b s i=[]:=by
 unfold z6b;cases h:s.length with
 | zero=>rfl
 | succ n=>simp only[z1de];rw[zq (by omega)];rfl
theorem zu6 {s:List UInt8}{i:Nat}(hi:i<s.length):(zfr s i).length<=4*z1v s i:=by
 have:=z3e hi;unfold zfr;cases ((s.getD i 0).toNat == 34 || (s.getD i 0).toNat == 92)
 . cases zdo s i
   . simp;omega
   . simp;omega
 . simp;omega
theorem zck (a b:List UInt8):ofStr (a++b)=ofStr a++ofStr b:=by simp[ofStr]
theorem z1rw (N:Nat) {s:List UInt8} (hs:s.length<=2000) (hN:2001<N):zj7 N s=some (34::(z6b s 0++[34])):=by
 simp only[zj7,z12h];rw[z3n (I:=fun (v:List Int×(List UInt8×Nat))=>∃ (o:List UInt8) (i:Nat),v=(ofStr o,(s,i))/\i<=s.length/\o.length<=4*i+1/\o++z6b s i=34::z6b s 0) (m:=fun v=>s.length - v.2.2) (R:=fun _=>some (34::(z6b s 0++[34]))) ?_ N ([34],(s,0)) ⟨[34],0,rfl,by omega,by simp,rfl⟩ (by dsimp only;omega)];rintro v r ⟨o,i,rfl,hi,ho,hT⟩ hr;dsimp only at hr ⊢;simp only[zpi,zpj];by_cases hlt:i<s.length
 . have hu := z3e hlt;have hpl:=zu6 hlt;have hb:=z9m (s.getD i 0);rw[zdw hlt] at hT;have nxt:r (ofStr o++ofStr (zfr s i),(s,i+(runeAt s i).2))=some (34::(z6b s 0++[34])) :=
    hr _ ⟨o++zfr s i,i+z1v s i,by rw[zck];rfl,hu.2,by rw[List.length_append];omega,by rw[List.append_assoc];exact hT⟩ (by show s.length - (i+z1v s i)<s.length - i;omega)
   rw[z8 (zh hlt)];have hq:((((runeAt s i).1:Nat):Int) == 34)=((s.getD i 0).toNat == 34)/\((((runeAt s i).1:Nat):Int) == 92)=((s.getD i 0).toNat == 92):=by
    by_cases h:(s.getD i 0).toNat<128
    . rw[z4o h];constructor<;>(rw[Bool.eq_iff_iff,beq_iff_eq,beq_iff_eq];dsimp only;omega)
    . have:=zco hlt (by omega);constructor<;>(rw[Bool.eq_iff_iff,beq_iff_eq,beq_iff_eq];omega)
   have main:∀ b:Bool,b=((s.getD i 0).toNat == 34 || (s.getD i 0).toNat == 92) →
    (cond b (cond (inR (i:Int) s.length) (cond (decide (((ofStr o).length+2)*1<=70368744177664)) (r (ofStr o++[92,(((s.getD (Int.toNat (i:Int)) 0).toNat:Nat):Int)],(s,i+(runeAt s i).2))) none) none)
     ((zbf N s (i:Int) (((runeAt s i).1:Nat):Int)).bind fun y=>cond y ((zch N s (i:Int)).bind fun y1=>cond (decide (0<=IntKind.wrap .i64 ((i:Int)+y1)/\IntKind.wrap .i64 ((i:Int)+y1)<=(s.length:Int))) (cond (decide ((0:Int)<=(i:Int)/\(i:Int)<=IntKind.wrap .i64 ((i:Int)+y1))) (cond (decide (((ofStr o).length+(ofStr (cut s (Int.toNat (i:Int)) (Int.toNat (IntKind.wrap .i64 ((i:Int)+y1))))).length)*1<=70368744177664)) (r (ofStr o++ofStr (cut s (Int.toNat (i:Int)) (Int.toNat (IntKind.wrap .i64 ((i:Int)+y1)))),(s,i+(runeAt s i).2))) none) none) none)
       (cond (inR (i:Int) s.length) (cond (inR (shrI .u8 (((s.getD (Int.toNat (i:Int)) 0).toNat:Nat):Int) 4) 16) (cond (inR (i:Int) s.length) (cond (inR (bitsOp .and .u8 (((s.getD (Int.toNat (i:Int)) 0).toNat:Nat):Int) 15) 16) (cond (decide (((ofStr o).length+4)*1<=70368744177664)) (r (ofStr o++[92,120,(((hexDigits.getD (Int.toNat (shrI .u8 (((s.getD (Int.toNat (i:Int)) 0).toNat:Nat):Int) 4)) 0).toNat:Nat):Int),(((hexDigits.getD (Int.toNat (bitsOp .and .u8 (((s.getD (Int.toNat (i:Int)) 0).toNat:Nat):Int) 15)) 0).toNat:Nat):Int)],(s,i+(runeAt s i).2))) none) none) none) none) none)))=some (34::(z6b s 0++[34])):=by
    intro b hbq;have hol:(ofStr o).length=o.length:=z3h o;cases b with
    | true =>
      have hpc:zfr s i=[92,s.getD i 0]:=by unfold zfr;rw[<- hbq];rfl
      rw[cond_true,z8 (z12 hlt),z8 (zh (by omega)),Int.toNat_natCast];rw[hpc] at nxt;exact nxt
    | false =>
      rw[cond_false,z1dy N hlt,Option.bind_some];cases hsf:zdo s i with
      | true =>
        have hpc:zfr s i=(s.drop i).take (z1v s i):=by unfold zfr;rw[<- hbq,hsf];rfl
        have hw:IntKind.wrap .i64 ((i:Int)+((z1v s i:Nat):Int))=((i+z1v s i:Nat):Int):=by rw[z2v (by unfold I64;omega)];omega
        rw[cond_true,z1da N hlt,Option.bind_some,hw,z8 (zh (by omega)),z8 (zh (by omega)),Int.toNat_natCast,Int.toNat_natCast,zv9,z8 (zh (by rw[hol,z3h,List.length_take,List.length_drop];omega))];rw[hpc] at nxt;exact nxt
      | false =>
        have hpc:zfr s i=[92,120,hd ((s.getD i 0).toNat / 16),hd ((s.getD i 0).toNat % 16)]:=by unfold zfr;rw[<- hbq,hsf];rfl
        rw[cond_false,z8 (z12 hlt),Int.toNat_natCast,shr4,z1uh,z8 (z12 (by omega)),z8 (z12 hlt),z8 (z12 (by omega)),z8 (zh (by omega)),Int.toNat_natCast,Int.toNat_natCast];rw[hpc] at nxt;exact nxt
   rw[hq.1,hq.2];cases h34:((s.getD i 0).toNat == 34) with
   | true=>exact main true (by rw[h34];rfl)
   | false=>exact main _ (by rw[h34];rfl)
 . rw[zen (by omega),List.append_nil] at hT;rw[zf (zq hlt),z8 (zh (by rw[z3h];omega)),zru,z6a,hT];rfl
theorem z1kr (N:Nat) {s:List UInt8} (hs:s.length<=2000) (hN:2001<N):z61 N s=some (34::(z6b s 0++[34])):=by
 simp only[z61,zkl];rw[z3n (I:=fun (v:List UInt8×Int)=>∃ (o:List UInt8) (i:Nat),v=(o,(i:Int))/\i<=s.length/\o.length<=4*i+1/\o++z6b s i=34::z6b s 0) (m:=fun v=>s.length - v.2.toNat) (R:=fun _=>some (34::(z6b s 0++[34]))) ?_ N ([34],0) ⟨[34],0,rfl,by omega,by simp,rfl⟩ (by dsimp only;omega)];rintro v r ⟨o,i,rfl,hi,ho,hT⟩ hr;dsimp only at hr ⊢;rw[Int.toNat_natCast] at hr;simp only[zbt,zbv,zbu];by_cases hlt:i<s.length
 . have hu:=z3e hlt;have hpl:=zu6 hlt;have hb:=z9m (s.getD i 0);rw[zdw hlt] at hT;have hw:IntKind.wrap .i64 ((i:Int)+((z1v s i:Nat):Int))=((i+z1v s i:Nat):Int):=by rw[z2v (by unfold I64;omega)];omega
   have nxt:r (o++zfr s i,((i+z1v s i:Nat):Int))=some (34::(z6b s 0++[34])) :=
    hr _ ⟨o++zfr s i,i+z1v s i,rfl,hu.2,by rw[List.length_append];omega,by rw[List.append_assoc];exact hT⟩ (by dsimp only;rw[Int.toNat_natCast];omega)
   have hone:cut s i (i+1)=[s.getD i 0]:=by rw[zv9,z27 s 0 i hlt];rfl
   rw[z8 (zh (by omega)),z1kq N hlt (by omega) (by omega),Option.bind_some,hw,zz (by omega),z8 (z12 hlt),z8 (z12 hlt),Int.toNat_natCast,Int.toNat_natCast,Int.toNat_natCast,hone,z1mi N hlt (by omega) (by omega),Option.bind_some,z1fd N (by simp) (by simp;omega),Option.bind_some];have q34:((((s.getD i 0).toNat:Nat):Int) == 34)=((s.getD i 0).toNat == 34):=by rw[Bool.eq_iff_iff,beq_iff_eq,beq_iff_eq];omega
   have q92:((((s.getD i 0).toNat:Nat):Int) == 92)=((s.getD i 0).toNat == 92):=by rw[Bool.eq_iff_iff,beq_iff_eq,beq_iff_eq];omega
   rw[q34,q92];unfold zfr at nxt;cases h34:((s.getD i 0).toNat == 34) with
   | true =>
     rw[h34,Bool.true_or] at nxt;rw[cond_true];rw[cond_true] at nxt;rw[cond_true,z8 (zh (by omega)),z8 (zh (by omega)),z8 (zh (by omega)),z8 (zh (by simp;omega)),List.append_assoc];exact nxt
   | false =>
     rw[h34,Bool.false_or] at nxt;rw[cond_false];cases h92:((s.getD i 0).toNat == 92) with
     | true =>
       rw[h92] at nxt;rw[cond_true] at nxt;rw[cond_true,z8 (zh (by omega)),z8 (zh (by omega)),z8 (zh (by omega)),z8 (zh (by simp;omega)),List.append_assoc];exact nxt
     | false =>
       rw[h92,cond_false] at nxt;rw[cond_false];cases hsf:zdo s i with
       | true =>
         rw[hsf,cond_true] at nxt;rw[cond_true,z8 (zh (by omega)),z8 (zh (by omega)),zv9,z8 (zh (by rw[List.length_take,List.length_drop];omega))];exact nxt
       | false =>
         rw[hsf,cond_false] at nxt;rw[cond_false,z8 (zh (by omega)),z8 (zh (by omega)),z8 (zh (by omega)),z8 (zh (by simp[zp5];omega)),List.append_assoc];exact nxt
 . rw[zen (by omega),List.append_nil] at hT;rw[zf (zq (by omega)),z8 (zh (by omega)),hT];rfl
end
end Go.Proofs.YtkkkgfmjjkpjdaaGreatDoorLg
set_option linter.all false
namespace Go.Proofs.YtkkkgfmjjkpjdaaGreatDoorLg
noncomputable section
open Go Go.Lift Go.Lib Go.Proofs.YtkkkgfmjjkpjdaaGreatDoorPx
def dig (u:UInt8):Option Nat:=if 48<=u.toNat/\u.toNat<=57 then some (u.toNat - 48) else if 97<=u.toNat/\u.toNat<=102 then some (u.toNat - 87) else none
def zem:List UInt8->Option (List UInt8)
 | []=>some []
 | [_]=>none
 | x :: y::r=>match dig x,dig y with
   | some h,some l=>(match zem r with
     | some b=>some (UInt8.ofNat (h*16+l)::b)
     | none=>none)
   | _,_=>none
theorem z1r0:∀ n,n<16->dig (hd n)=some n:=by decide
theorem z1jt {u:UInt8} {n:Nat} (h:dig u=some n):n<16/\hd n=u:=by
 unfold dig at h;have key:∀ m,m<256->∀ n,(if 48<=m/\m<=57 then some (m - 48) else if 97<=m/\m<=102 then some (m - 87) else none)=some n->n<16/\(hd n).toNat=m:=by
  intro m hm n h;split at h
  . cases h;have:∀ k,k<10->k<16/\(hd k).toNat=k+48:=by decide
    have:=this (m - 48) (by omega);omega
  . split at h
    . cases h;have:∀ k,k<16->10<=k->k<16/\(hd k).toNat=k+87:=by decide
      have:=this (m - 87) (by omega) (by omega);omega
    . cases h
 have:=key u.toNat (z9m u) n h;exact⟨this.1,UInt8.toNat_inj.1 this.2⟩
theorem z1eo:∀ s:List UInt8,zem (zp5 s)=some s
 | []=>rfl
 | u::r=>by
   have:=z9m u;simp only[zp5,zem,z1r0 _ (by omega:u.toNat / 16<16),z1r0 _ (by omega:u.toNat % 16<16),z1eo r];rw[show u.toNat / 16*16+u.toNat % 16=u.toNat by omega,UInt8.ofNat_toNat]
theorem z1fy:∀ (n:Nat) (s b:List UInt8),s.length<=n->zem s=some b->zp5 b=s
 | _,[],b,_,h=>by cases h;rfl
 | _,[_],b,_,h=>by simp[zem] at h
 | 0,_::_::_,b,hl,_=>by simp at hl
 | n + 1,x::y::r,b,hl,h=>by
   simp only[zem] at h;split at h
   . rename_i p q hp hq;split at h
     . rename_i c hc;cases h;obtain⟨h1,h2⟩:=z1jt hp;obtain⟨h3,h4⟩:=z1jt hq;have e:(UInt8.ofNat (p*16+q)).toNat=p*16+q:=by rw[UInt8.toNat_ofNat'];omega
       simp only[zp5,e,show (p*16+q) / 16=p by omega,show (p*16+q) % 16=q by omega,h2,h4];rw[z1fy n r c (by simp at hl;omega) hc]
     . cases h
   . cases h
theorem z9d:∀ s:List UInt8,(zp5 s).length=2*s.length
 | []=>rfl
 | _::r=>by simp only[zp5,List.length_cons,z9d r];omega
theorem z15m:∀ (n:Nat) (s b:List UInt8),s.length<=n->zem s=some b->2*b.length=s.length:=fun n s b hn h=>by
 have:=z1fy n s b hn h;rw[<- this,z9d]
theorem z1m0:∀ (n:Nat) (s:List UInt8),s.length<=n->s.length % 2=1->zem s=none:=fun n s hn h=>by
 cases hu:zem s with
 | none=>rfl
 | some b=>have:=z15m n s b hn hu;omega
theorem z1u9 (N:Nat){s:List UInt8}(hs:s.length<=10000000000)(hN:s.length<N):zuw N s=some (zp5 s):=by
 simp only[zuw,z15x];rw[z2v (x:=2*((s.length:Nat):Int)) (by unfold I64;omega),z8 (zh ⟨by omega,by omega,by omega,by omega⟩)];rw[z3n (I:=fun (v:List Int×Int)=>v.1.length=2*v.2.toNat/\0<=v.2/\v.2<=((s.length:Nat):Int)) (m:=fun (v:List Int×Int)=>s.length - v.2.toNat)
  (R:=fun (v:List Int×Int)=>some (toStr v.1++zp5 (s.drop v.2.toNat))) ?_ N _ ⟨by simp,by dsimp only;omega,by dsimp only;omega⟩ (by simpa using hN)]
 . simp[toStr]
 rintro⟨out,v⟩ r ⟨hl,h0,h1⟩ hr;dsimp only at *;obtain⟨i,rfl⟩:=Int.eq_ofNat_of_zero_le h0;simp only[zuv,Int.toNat_natCast] at *;by_cases hlt:i<s.length
 . have hb:=z9m (s.getD i 0);rw[z8 (zh (by omega)),z8 (z12 hlt),shr4,z1uh,z8 (z12 (by omega)),z8 (z12 hlt),z8 (z12 (by omega)),z8 (zh (by omega)),zz (by omega),hr _ ⟨by simp;omega,by omega,by omega⟩ (by dsimp only;omega),z27 s 0 i hlt];simp only[Int.toNat_natCast,zru,zp5,List.append_assoc];congr 2;have:∀ a b:UInt8,toStr [((a.toNat:Nat):Int),((b.toNat:Nat):Int)]=[a,b]:=by intro a b;simp[toStr]
   rw[this];rfl
 . rw[zf (zq (by omega)),z3z s (by omega)];simp[zp5]
theorem z1k1 (N:Nat)(u:UInt8):zee N ((u.toNat:Nat):Int)=some (match dig u with|some n=>((n:Int),true,())|none=>(0,false,())):=by
 have hu:=z9m u;simp only[zee,zo2,zo1,zo0,dig,cond_false];by_cases h1:48<=u.toNat/\u.toNat<=57
 . rw[if_pos h1,z8 (zh (by omega)),z8 (zh (by omega)),z1d9];simp only[Option.some.injEq,Prod.mk.injEq,and_true];omega
 . rw[if_neg h1];have e:∀ (X Y:Option (Int×Bool×Unit)),cond (decide ((48:Int)<=((u.toNat:Nat):Int))) (cond (decide (((u.toNat:Nat):Int)<=57)) X Y) Y=Y:=by
    intro X Y;by_cases h2:48<=u.toNat
    . rw[z8 (zh (by omega)),zf (zq (by omega))]
    . rw[zf (zq (by omega))]
   rw[e];by_cases h3:97<=u.toNat/\u.toNat<=102
   . rw[if_pos h3,z8 (zh (by omega)),z8 (zh (by omega)),z1d9,z1d9];simp only[Option.some.injEq,Prod.mk.injEq,and_true];omega
   . rw[if_neg h3];by_cases h2:97<=u.toNat
     . rw[z8 (zh (by omega)),zf (zq (by omega))]
     . rw[zf (zq (by omega))]
theorem z1sb:∀ h,h<16->∀ l,l<16->bitsOp .or .u8 (shlI .u8 ((h:Nat):Int) 4) ((l:Nat):Int)=((h*16+l:Nat):Int):=by decide +kernel
def z1ip (o:Option (List UInt8)):List UInt8×Bool×Unit:=match o with
 | some b=>(b,true,())
 | none=>([],false,())
theorem z1io (N:Nat) {s:List UInt8} (hs:s.length<=10000000000) (hN:s.length<N):zef N s=some (z1ip (zem s)):=by
 simp only[zef,zzs];have hm:((s.length:Nat):Int).tmod 2=((s.length % 2:Nat):Int):=by rw[Int.tmod_eq_emod_of_nonneg (by omega)];omega
 have hq:((s.length:Nat):Int).tdiv 2=((s.length / 2:Nat):Int):=by rw[Int.tdiv_eq_ediv_of_nonneg (by omega)];omega
 rw[hm,hq];by_cases ho:s.length % 2=1
 . rw[z8 (by rw[ho];rfl),z1m0 _ s (Nat.le_refl _) ho];rfl
 rw[zf (by rw[show s.length % 2=0 by omega];rfl),z2v (x:=((s.length / 2:Nat):Int)) (by unfold I64;omega),z8 (zh ⟨by omega,by omega,by omega,by omega⟩)];simp only[Int.toNat_natCast,List.length_replicate];rw[z3n (I:=fun (v:List Int×Int)=>v.1.length=s.length / 2/\0<=v.2/\v.2<=((s.length / 2:Nat):Int)) (m:=fun (v:List Int×Int)=>s.length - v.2.toNat)
  (R:=fun (v:List Int×Int)=>some (match zem (s.drop (2*v.2.toNat)) with|some b=>(toStr (v.1.take v.2.toNat)++b,true,())|none=>([],false,()))) ?_ N _ ⟨by simp,by dsimp only;omega,by dsimp only;omega⟩ (by simpa using hN)]
 . simp only[Int.toNat_zero,Nat.mul_zero,List.drop_zero,List.take_zero];cases zem s<;>rfl
 rintro⟨out,v⟩ r ⟨hl,h0,h1⟩ hr;dsimp only at *;obtain⟨i,rfl⟩:=Int.eq_ofNat_of_zero_le h0;simp only[zo3,Int.toNat_natCast] at *;by_cases hlt:i<s.length / 2
 . have hw1:IntKind.wrap .i64 (2*(i:Int))=((2*i:Nat):Int):=by rw[z2v (by unfold I64;omega)];omega
   have h2i:2*i<s.length:=by omega
   have h2i1:2*i+1<s.length:=by omega
   have hio:i<out.length:=by omega
   rw[z8 (zh (by omega)),hw1,z8 (z12 h2i),zz (by omega),Int.toNat_natCast,Int.toNat_natCast,z1k1,Option.bind_some,z8 (z12 h2i1),z1k1,Option.bind_some];rw[z27 s 0 (2*i) h2i,z27 s 0 (2*i+1) h2i1];simp only[zem,zo5,zo4];cases hx:dig (s.getD (2*i) 0) with
   | none=>rfl
   | some h =>
     cases hy:dig (s.getD (2*i+1) 0) with
     | none=>rfl
     | some l =>
       obtain⟨hh,_⟩:=z1jt hx;obtain⟨hl',_⟩:=z1jt hy;simp only[Bool.not_true,cond_false];rw[z8 (z12 hio),z8 (zh hio),z1sb h hh l hl',zz (by omega),hr _ ⟨by simpa using hl,by omega,by omega⟩ (by dsimp only;omega)];simp only[Int.toNat_natCast,show 2*(i+1)=2*i+1+1 by omega,z1df _ _ _ hio,zru];cases zem (s.drop (2*i+1+1)) with
       | none=>rfl
       | some b =>
         have:toStr [((h*16+l:Nat):Int)]=[UInt8.ofNat (h*16+l)]:=by simp only[toStr,List.map_cons,List.map_nil,Int.toNat_natCast]
         simp only[this,List.append_assoc,List.cons_append,List.nil_append]
 . have hi:i=s.length / 2:=by omega
   rw[zf (zq (by omega)),z3z s (by omega),List.take_of_length_le (by omega)];simp[zem]
end
end Go.Proofs.YtkkkgfmjjkpjdaaGreatDoorLg
set_option linter.all false
namespace Go.Proofs.YtkkkgfmjjkpjdaaGreatDoorLg
noncomputable section
open Go Go.Lift Go.Lib Go.Proofs.YtkkkgfmjjkpjdaaGreatDoorPx
theorem z1j8 {q:List UInt8}{i:Nat}(h:(q.getD i 0).toNat<128):rl q i=1:=by rw[rl,if_pos h]
theorem z1mk {s q:List UInt8}{i p:Nat}(hi:i<s.length)(hr:0<rl s i)(hp:p+z1v s i<=q.length)(hb:∀ j,j<z1v s i->q.getD (p+j) 0=s.getD (i+j) 0):rl q p=rl s i/\rl s i=z1v s i:=by
 have hu:=z3e hi;have e0:q.getD p 0=s.getD i 0:=hb 0 (by omega);by_cases ha:(s.getD i 0).toNat<128
 . rw[z1j8 ha,z1j8 (by rw[e0];exact ha),zdv ha];exact⟨rfl,rfl⟩
 have hq:rl s i=z1v s i/\z1v s i≠1:=by
  rw[rl,if_neg ha] at hr ⊢;by_cases h1:z1v s i=1
  . rw[if_pos h1] at hr;omega
  . rw[if_neg h1];exact⟨rfl,h1⟩
 have hs1:=z9m (s.getD i 0);have hs2:=z9m (s.getD (i+1) 0);have hs3:=z9m (s.getD (i+2) 0);have hs4:=z9m (s.getD (i+3) 0);have hq2:=z9m (q.getD (p+1) 0);have hq3:=z9m (q.getD (p+2) 0);have hq4:=z9m (q.getD (p+3) 0);have cs:=z1dk (n:=s.length - i) hs1 hs2 hs3 hs4 (by omega);have cq:=z1dk (n:=q.length - p) hs1 hq2 hq3 hq4 (by omega);have us:z1v s i=(decodeN (s.length - i) (s.getD i 0).toNat (s.getD (i+1) 0).toNat (s.getD (i+2) 0).toNat (s.getD (i+3) 0).toNat).2:=by unfold z1v;rw[z122]
 have uq:z1v q p=(decodeN (q.length - p) (s.getD i 0).toNat (q.getD (p+1) 0).toNat (q.getD (p+2) 0).toNat (q.getD (p+3) 0).toNat).2:=by unfold z1v;rw[z122,e0]
 rw[<- us] at cs;rw[<- uq] at cq;have key:z1v q p=z1v s i:=by
  obtain⟨s2,s3,s4,s1⟩:=cs;obtain⟨q2,q3,q4,q1⟩:=cq;rcases s1 with h|h|h|h
  . exact absurd h hq.2
  . have b1:=hb 1 (by omega);rw[b1] at q2;have:=s2.1 h;rw[h];exact q2.2 ⟨this.1,this.2.1,by omega,this.2.2.2⟩
  . have b1:=hb 1 (by omega);have b2:=hb 2 (by omega);rw[b1,b2] at q3;have:=s3.1 h;rw[h];exact q3.2 ⟨this.1,this.2.1,by omega,this.2.2.2⟩
  . have b1:=hb 1 (by omega);have b2:=hb 2 (by omega);have b3:=hb 3 (by omega);rw[b1,b2,b3] at q4;have:=s4.1 h;rw[h];exact q4.2 ⟨this.1,this.2.1,by omega,this.2.2.2⟩
 have hqa:¬ (q.getD p 0).toNat<128:=by rw[e0];exact ha
 constructor
 . rw[rl,if_neg hqa,key,if_neg hq.2,hq.1]
 . exact hq.1
theorem z15n {s:List UInt8}:∀ (n i:Nat),s.length - i<=n->(z6b s i).length<=4*(s.length - i)
 | n,i,h=>by
   by_cases hi:i<s.length
   . have hu:=z3e hi;have hp:=zu6 hi;cases n with
     | zero=>omega
     | succ n =>
       rw[zdw hi,List.length_append];have:=z15n (s:=s) n (i+z1v s i) (by omega);omega
   . rw[zen (by omega)];simp
theorem z1ua:∀ n,n<16->32<=(hd n).toNat/\(hd n).toNat<127/\(hd n).toNat≠34/\(hd n).toNat≠92:=by decide
end
end Go.Proofs.YtkkkgfmjjkpjdaaGreatDoorLg
set_option linter.all false
namespace Go.Proofs.YtkkkgfmjjkpjdaaGreatDoorLg
noncomputable section
open Go Go.Lift Go.Lib Go.Proofs.YtkkkgfmjjkpjdaaGreatDoorPx
theorem z1k2 (N:Nat):∀ m,m<16->ze3 N (((hd m).toNat:Nat):Int)=some ((m:Int),true,()):=by
 intro m hm;obtain rfl|rfl|rfl|rfl|rfl|rfl|rfl|rfl|rfl|rfl|rfl|rfl|rfl|rfl|rfl|rfl:m=0\/m=1\/m=2\/m=3\/m=4\/m=5\/m=6\/m=7\/m=8\/m=9\/m=10\/m=11\/m=12\/m=13\/m=14\/m=15:=by omega
 all_goals kernel_rfl
theorem nib:∀ a b:Fin 16,bitsOp .or .u8 (shlI .u8 (bitsOp .or .u8 (shlI .u8 (0:Int) 4) (a.1:Int)) 4) (b.1:Int)=((16*a.1+b.1:Nat):Int):=by decide +kernel
theorem z6v {σ β:Type}(step:σ->(σ->Option β)->Option β)(n:Nat)(x:σ):iter step (n+1) x=step x (iter step n):=rfl
theorem esc1 (N:Nat){c:UInt8}{r:List UInt8}(h:c.toNat=34\/c.toNat=92):z64 N (c::r)=some (((c.toNat:Nat):Int),1,0,()):=by
 have hne:((c::r) == ([]:List UInt8))=false:=rfl;simp only[z64,z8s,z8r,hne,cond_false,List.getD_cons_zero];have hin:inR (0:Int) (c::r).length=true:=zfw (by omega) (by simp);simp only[hin,cond_true];rcases h with h|h
 . rw[z8 (by rw[beq_iff_eq];omega)]
 . rw[zf (by rw[beq_eq_false_iff_ne];omega),z8 (by rw[beq_iff_eq];omega)]
theorem esc3 (k:Nat){n:Nat}{r:List UInt8}(hn:n<256):z64 (k+10) (120::hd (n / 16)::hd (n % 16)::r)=some ((n:Int),3,0,()):=by
 have hne:((120::hd (n / 16)::hd (n % 16)::r) == ([]:List UInt8))=false:=rfl;have hl:((120::hd (n / 16)::hd (n % 16)::r):List UInt8).length=r.length+3:=rfl;have hb:=nib ⟨n / 16,by omega⟩ ⟨n % 16,by omega⟩;dsimp only at hb;rw[show 16*(n / 16)+n % 16=n by omega] at hb;have g1:List.getD (120::hd (n / 16)::hd (n % 16)::r) (Int.toNat 1) 0=hd (n / 16):=rfl;have g2:List.getD (120::hd (n / 16)::hd (n % 16)::r) (Int.toNat 2) 0=hd (n % 16):=rfl;have w1:IntKind.wrap .i64 ((1:Int)+1)=2:=by kernel_rfl
 have w2:IntKind.wrap .i64 ((2:Int)+1)=3:=by kernel_rfl
 simp only[z64,z8s,z8r,hne,cond_false,List.getD_cons_zero,hl];have hin:inR (0:Int) (r.length+3)=true:=zfw (by omega) (by omega);simp only[hin,cond_true];rw[zf (by rfl),zf (by rfl),zf (by rfl)];simp only[zjg];rw[show k+10=(k+9)+1 from rfl,z6v];simp only[zcq,hl,g1];rw[z8 (by rfl),zf (by rw[beq_eq_false_iff_ne];omega),z8 (zfw (by omega) (by omega)),z1k2 _ _ (by omega),Option.bind_some,Bool.not_true,cond_false,w1];rw[show k+9=(k+8)+1 from rfl,z6v];simp only[hl,g2];rw[z8 (by rfl),zf (by rw[beq_eq_false_iff_ne];omega),z8 (zfw (by omega) (by omega)),z1k2 _ _ (by omega),Option.bind_some,Bool.not_true,cond_false,w2,hb];rw[show k+8=(k+7)+1 from rfl,z6v];simp only[];rw[zf (by rfl)]
theorem z181 (X:List UInt8)(F i:Nat):runeAt (X.drop F) i=runeAt X (F+i):=by
 rw[z122,z122,z6w,z6w,z6w,z6w,List.length_drop,show X.length - F - i=X.length - (F+i) by omega];rfl
theorem z1gy {s:List UInt8}{i:Nat}(h:zdo s i=false):z1v s i=1:=by
 by_cases ha:(s.getD i 0).toNat<128
 . exact zdv ha
 . rcases Nat.lt_or_ge 1 (z1v s i) with h1|h1
   . have:zdo s i=true:=zh ⟨by rw[rl,if_neg ha,if_neg (by omega)];omega,by omega,by omega⟩;rw[this] at h;cases h
   . rcases Nat.lt_or_ge i s.length with hi|hi
     . have:=z3e hi;omega
     . exfalso;rw[List.getD_eq_getElem?_getD,List.getElem?_eq_none hi] at ha;exact ha (by decide)
theorem z1m5 (s:List UInt8)(i n:Nat):ofStr (s.take i)++ofStr ((s.drop i).take n)=ofStr (s.take (i+n)):=by
 rw[<- zck,List.take_add]
theorem z1iu (s:List UInt8){i:Nat}(h:i<s.length):ofStr (s.take i)++[(((s.getD i 0).toNat:Nat):Int)]=ofStr (s.take (i+1)):=by
 rw[zjb s 0 i h,zck];rfl
theorem z1sy (k:Nat) {s a b X:List UInt8} {F:Nat} (hs:s.length<=2000) (hX:X.length<=300000) (hF:F<=X.length) (hd0:X.drop F=z6b s 0++34::b) :
 ze4 (k+1000000) X (F:Int)=some (s,((F+(z6b s 0).length+1:Nat):Int),(0,0,()),()):=by
 have hul:(X.drop F).length=X.length - F:=List.length_drop ..;have hul2:X.length - F=(z6b s 0).length+(b.length+1):=by rw[<- hul,hd0,List.length_append];rfl
 simp only[ze4,zpe];rw[z8 (zh (by omega)),Int.toNat_natCast,zva];rw[z3n (I:=fun (v:List Int×Int×(List UInt8×Nat))=>∃ (idx i nx:Nat) (h:List UInt8),v=(ofStr (s.take i),(nx:Int),(X.drop F,idx))/\i<=s.length/\idx<=X.length - F/\(X.drop F).drop idx=h++(z6b s i++34::b)/\(∀ x∈h,x.toNat<128)/\(h=[]->nx<=F+idx)/\(h≠[]->nx=F+idx+h.length)) (m:=fun v=>X.length - F - v.2.2.2) (R:=fun _=>some (s,((F+(z6b s 0).length+1:Nat):Int),(0,0,()),())) ?_ (k+1000000) ([],(F:Int),(X.drop F,0)) ⟨0,0,F,[],rfl,by omega,by omega,hd0,by simp,fun _=>by omega,fun h=>absurd rfl h⟩ (by dsimp only;omega)];rintro v r ⟨idx,i,nx,h,rfl,hi,hix,hd',hh,hn0,hn1⟩ hr;dsimp only at hr ⊢;have hlen:X.length - F - idx=h.length+((z6b s i).length+(b.length+1)):=by
  have:=congrArg List.length hd';rw[List.length_drop,hul,List.length_append,List.length_append] at this;exact this
 have hidx:idx<(X.drop F).length:=by omega
 have hg:∀ j,(X.drop F).getD (idx+j) 0=(h++(z6b s i++34::b)).getD j 0:=by intro j;rw[<- hd',z6w (X.drop F) idx j]
 have hg2:∀ j,X.getD (F+idx+j) 0=(h++(z6b s i++34::b)).getD j 0:=by intro j;rw[<- hg j,z6w,Nat.add_assoc]
 have hw:IntKind.wrap .i64 ((idx:Int)+(F:Int))=((F+idx:Nat):Int):=by rw[z2v (by unfold I64;omega)];omega
 have hw1:IntKind.wrap .i64 (((F+idx:Nat):Int)+1)=((F+idx+1:Nat):Int):=zz (by omega);have hti:(s.take i).length<=2000:=by rw[List.length_take];omega
 simp only[ziv,hw,hw1];rw[z8 (zh hidx)];cases h with
 | cons x h' =>
   have h0:(X.drop F).getD idx 0=x:=by have:=hg 0;simpa using this
   have hx:=hh x (by simp);have:=hn1 (by simp);rw[z8 (zh (by simp at this;omega)),z4o (by rw[h0];exact hx)];refine hr _ ⟨idx+1,i,nx,h',rfl,hi,by omega,by rw[<- List.drop_drop,hd'];rfl,fun y hy=>hh y (by simp[hy]),fun e=>?_,fun e=>?_⟩ (by dsimp only;omega)
   . subst e;simp at this;omega
   . simp at this;omega
 | nil =>
   have hnx:=hn0 rfl;rw[List.nil_append] at hd' hg hg2;rw[zf (zq (by omega))];by_cases hlt:i<s.length
   . have hu:=z3e hlt;have hb:=z9m (s.getD i 0);rw[zdw hlt,List.append_assoc] at hd' hg hg2;rw[zdw hlt,List.length_append] at hlen;have hcut:∀ (p r':List UInt8),zfr s i=92::p->(X.drop F).getD idx 0=92/\cut X (F+idx+1) X.length=p++(z6b s (i+z1v s i)++34::b):=by
      intro p r' hp;rw[hp] at hd' hg;refine⟨by have:=hg 0;simpa using this,?_⟩;rw[zva,show F+idx+1=F+(idx+1) by omega,<- List.drop_drop,<- List.drop_drop,hd'];rfl
     by_cases hesc:((s.getD i 0).toNat == 34 || (s.getD i 0).toNat == 92)=true
     . have hpc:zfr s i=[92,s.getD i 0]:=by unfold zfr;rw[hesc];rfl
       obtain⟨h0,hc⟩:=hcut [s.getD i 0] [] hpc;have hq:(s.getD i 0).toNat=34\/(s.getD i 0).toNat=92:=by simpa using hesc
       have hu1:z1v s i=1:=zdv (by omega);rw[hpc] at hlen hd';rw[z4o (by rw[h0];decide),h0,zf (by rfl),z8 (by rfl),z8 (zh (by simp at hlen;omega)),Int.toNat_natCast,hc,List.cons_append,esc1 _ hq,Option.bind_some,zf (by rfl),zf (by rfl),z8 (zh (by rw[z3h];omega)),z1iu s hlt];refine hr _ ⟨idx+1,i+1,F+idx+2,[s.getD i 0],?_,by omega,by simp at hlen;omega,by rw[<- List.drop_drop,hd',hu1];rfl,?_,fun e=>(by cases e),fun _=>rfl⟩ (by dsimp only;simp at hlen;omega)
       . dsimp only;rw[z2v (by unfold I64;omega)];congr 2
       . intro y hy;rw[List.mem_singleton] at hy;rw[hy];omega
     . rw[Bool.not_eq_true] at hesc;cases hsf:zdo s i with
       | true =>
         have hpc:zfr s i=(s.drop i).take (z1v s i):=by unfold zfr;rw[hesc,hsf];rfl
         have hsf':=hsf;rw[zdo,decide_eq_true_eq] at hsf';have hne:(s.getD i 0).toNat≠34/\(s.getD i 0).toNat≠92:=by
          rw[Bool.or_eq_false_iff,beq_eq_false_iff_ne,beq_eq_false_iff_ne] at hesc;exact hesc
         have hpcl:((s.drop i).take (z1v s i)).length=z1v s i:=by rw[List.length_take,List.length_drop];omega
         rw[hpc] at hd' hg2 hlen;rw[hpcl] at hlen;have hbytes:∀ j,j<z1v s i->X.getD (F+idx+j) 0=s.getD (i+j) 0:=by
          intro j hj;rw[hg2 j,List.getD_eq_getElem?_getD,List.getElem?_append_left (by rw[hpcl];exact hj),List.getElem?_take_of_lt hj,List.getElem?_drop,<- List.getD_eq_getElem?_getD]
         have h0:X.getD (F+idx) 0=s.getD i 0:=hbytes 0 (by omega);have hsame:=z1mk (q:=X) (p:=F+idx) hlt hsf'.1 (by omega) hbytes;have hself:=z1mk (s:=X) (q:=X) (i:=F+idx) (p:=F+idx) (by omega) (by rw[hsame.1];exact hsf'.1) (by have:=z3e (s:=X) (i:=F+idx) (by omega);omega) (fun j _=>rfl);have hux:z1v X (F+idx)=z1v s i:=by rw[<- hself.2,hsame.1,hsame.2]
         have hsx:zdo X (F+idx)=true:=zh ⟨by rw[hsame.1];exact hsf'.1,by rw[h0];exact hsf'.2.1,by rw[h0];exact hsf'.2.2⟩;have hrx:(runeAt (X.drop F) idx).2=z1v s i:=by rw[z181];exact hux
         have hru:(runeAt X (F+idx)).1≠34/\(runeAt X (F+idx)).1≠92:=by
          by_cases hasc:(X.getD (F+idx) 0).toNat<128
          . rw[z4o hasc,h0];exact hne
          . have:=(zco (s:=X) (i:=F+idx) (by omega) (by omega)).1;omega
         have hcm:cut X (F+idx) (F+idx+z1v s i)=(s.drop i).take (z1v s i):=by
          rw[zv9,<- List.drop_drop,hd',List.take_append_of_le_length (by omega),List.take_of_length_le (by omega)]
         have hw2:IntKind.wrap .i64 (((F+idx:Nat):Int)+((z1v s i:Nat):Int))=((F+idx+z1v s i:Nat):Int):=by rw[z2v (by unfold I64;omega)];omega
         rw[hrx,z181,zf (by rw[beq_eq_false_iff_ne];omega),zf (by rw[beq_eq_false_iff_ne];omega),z1dy _ (by omega),Option.bind_some,hsx,cond_true,z1da _ (by omega),Option.bind_some,hux,hw2,z8 (zh (by omega)),z8 (zh (by omega)),Int.toNat_natCast,Int.toNat_natCast,hcm,z8 (zh (by rw[z3h,z3h,hpcl];omega)),z1m5];refine hr _ ⟨idx+z1v s i,i+z1v s i,nx,[],rfl,hu.2,by omega,?_,by simp,fun _=>by omega,fun e=>absurd rfl e⟩ (by dsimp only;omega);rw[<- List.drop_drop,hd',List.drop_append_of_le_length (by omega),List.drop_of_length_le (by omega)]
       | false =>
         have hpc:zfr s i=[92,120,hd ((s.getD i 0).toNat / 16),hd ((s.getD i 0).toNat % 16)]:=by unfold zfr;rw[hesc,hsf];rfl
         obtain⟨h0,hc⟩:=hcut [120,hd ((s.getD i 0).toNat / 16),hd ((s.getD i 0).toNat % 16)] [] hpc;have hu1:z1v s i=1:=z1gy hsf;have he3:=esc3 (k+999990) (n:=(s.getD i 0).toNat) (r:=z6b s (i+z1v s i)++34::b) hb;rw[hpc] at hlen hd';rw[z4o (by rw[h0];decide),h0,zf (by rfl),z8 (by rfl),z8 (zh (by simp at hlen;omega)),Int.toNat_natCast,hc,List.cons_append,List.cons_append,List.cons_append,List.nil_append];rw[show k+999990+10=k+1000000 from rfl] at he3;rw[he3,Option.bind_some,zf (by rfl),zf (by rfl),z8 (zh (by rw[z3h];omega)),z1iu s hlt];refine hr _ ⟨idx+1,i+1,F+idx+4,[120,hd ((s.getD i 0).toNat / 16),hd ((s.getD i 0).toNat % 16)],?_,by omega,by simp at hlen;omega,by rw[<- List.drop_drop,hd',hu1];rfl,?_,fun e=>(by cases e),fun _=>rfl⟩ (by dsimp only;simp at hlen;omega)
         . dsimp only;rw[z2v (by unfold I64;omega)];congr 2
         . intro y hy;simp only[List.mem_cons,List.mem_nil_iff,or_false] at hy;have k1:=z1ua ((s.getD i 0).toNat / 16) (by omega);have k2:=z1ua ((s.getD i 0).toNat % 16) (by omega);rcases hy with rfl|rfl|rfl
           . decide
           . omega
           . omega
   . have hie:i=s.length:=by omega
     rw[zen (by omega)] at hd' hg hlen;have h0:(X.drop F).getD idx 0=34:=by have:=hg 0;simpa using this
     rw[z4o (by rw[h0];decide),h0,z8 (by rfl),z6a,hie,List.take_length];simp at hlen;rw[show F+idx+1=F+(z6b s 0).length+1 by omega]
end
end Go.Proofs.YtkkkgfmjjkpjdaaGreatDoorLg
set_option linter.all false
namespace Go.Proofs.YtkkkgfmjjkpjdaaGreatDoorLg
noncomputable section
open Go Go.Lift Go.Lib Go.Proofs.YtkkkgfmjjkpjdaaGreatDoorPx
inductive Esc where
 | cut|bad|ok (b n:Nat)
def zp1 (b:Nat):Nat:=if 48<=b/\b<=57 then b - 48 else if 97<=b/\b<=102 then b - 87 else 16
def z1li:List UInt8->Esc
 | []=>.cut
 | c :: r=>if c.toNat=34\/c.toNat=92 then .ok c.toNat 2 else if c.toNat=120 then (match r with
   | []=>.cut
   | a::r=>if zp1 a.toNat<16 then (match r with
     | []=>.cut
     | b::_=>if zp1 b.toNat<16 then .ok (16*zp1 a.toNat+zp1 b.toNat) 4 else .bad) else .bad) else .bad
theorem z1ac (c:UInt8)(r:List UInt8):z1li (c::r)=(if c.toNat=34\/c.toNat=92 then .ok c.toNat 2 else if c.toNat=120 then (match r with
 | []=>.cut
 | a::r=>if zp1 a.toNat<16 then (match r with
   | []=>.cut
   | b::_=>if zp1 b.toNat<16 then .ok (16*zp1 a.toNat+zp1 b.toNat) 4 else .bad) else .bad) else .bad):=rfl
set_option maxRecDepth 10000000 in
theorem z1sr:∀ b:Fin 256,ze3 0 (b.1:Int)=some (if zp1 b.1<16 then ((zp1 b.1:Int),true,()) else (0,false,())):=by decide +kernel
theorem z1r1 (N:Nat)(u:UInt8):ze3 N ((u.toNat:Nat):Int)=some (if zp1 u.toNat<16 then ((zp1 u.toNat:Int),true,()) else (0,false,())):=z1sr ⟨u.toNat,u.toNat_lt⟩
set_option maxRecDepth 10000000 in
theorem z1pj:∀ b:Fin 256,z5m 0 (b.1:Int)=some (if zp1 b.1<16 then (zp1 b.1:Int) else -1):=by decide +kernel
theorem z1mv (N:Nat)(u:UInt8):z5m N ((u.toNat:Nat):Int)=some (if zp1 u.toNat<16 then (zp1 u.toNat:Int) else -1):=z1pj ⟨u.toNat,u.toNat_lt⟩
theorem zvp {b:Nat}(h:zp1 b<16):b<128:=by
 unfold zp1 at h;split at h
 . omega
 . split at h<;>omega
theorem z1g7 {t:List UInt8} {b n:Nat} (h:z1li t=.ok b n):b<256/\2<=n/\n - 1<=t.length/\∀ j,j<n - 1->(t.getD j 0).toNat<128:=by
 cases t with
 | nil=>simp[z1li] at h
 | cons c r =>
   simp only[z1li] at h;split at h
   . rename_i hc;cases h;refine⟨by omega,by omega,by simp,fun j hj=>?_⟩;obtain rfl:j=0:=by omega
     simp only[List.getD_cons_zero];omega
   . split at h
     . rename_i hc;cases r with
       | nil=>simp at h
       | cons x r =>
         dsimp only at h;split at h
         . rename_i hx;cases r with
           | nil=>simp at h
           | cons y r =>
             dsimp only at h;split at h
             . rename_i hy;cases h;refine⟨by omega,by omega,by simp,fun j hj=>?_⟩;have:=zvp hx;have:=zvp hy;obtain rfl|rfl|rfl:j=0\/j=1\/j=2:=by omega
               . show c.toNat<128;omega
               . exact zvp hx
               . exact zvp hy
             . cases h
         . cases h
     . cases h
def escO:Esc->Int×Int×Int×Unit
 | .cut=>(0,0,1,())
 | .bad=>(0,0,2,())
 | .ok b n=>((b:Int),((n - 1:Nat):Int),0,())
theorem nib' {a b:Nat}(ha:a<16)(hb:b<16):bitsOp .or .u8 (shlI .u8 (bitsOp .or .u8 (shlI .u8 (0:Int) 4) (a:Int)) 4) (b:Int)=((16*a+b:Nat):Int):=nib ⟨a,ha⟩ ⟨b,hb⟩
theorem z1ue (k:Nat) (t:List UInt8):z64 (k+10) t=some (escO (z1li t)):=by
 cases t with
 | nil=>rfl
 | cons c r =>
   by_cases hq:c.toNat=34\/c.toNat=92
   . rw[esc1 _ hq,z1ac,if_pos hq];rfl
   have hne:((c::r) == ([]:List UInt8))=false:=rfl;have hin:inR (0:Int) (c::r).length=true:=zfw (by omega) (by simp);simp only[z64,z8s,z8r,hne,cond_false,List.getD_cons_zero,hin,cond_true];rw[zf (by rw[beq_eq_false_iff_ne];omega),zf (by rw[beq_eq_false_iff_ne];omega)];rw[z1ac,if_neg hq];by_cases hx:c.toNat=120
   case neg=>rw[if_neg hx,z8 (by rw[bne_iff_ne];omega)];rfl
   rw[if_pos hx,zf (by rw[hx];rfl)];simp only[zjg];have w1:IntKind.wrap .i64 ((1:Int)+1)=2:=by kernel_rfl
   have w2:IntKind.wrap .i64 ((2:Int)+1)=3:=by kernel_rfl
   rw[show k+10=(k+9)+1 from rfl,z6v];simp only[zcq];rw[z8 (by rfl)];cases r with
   | nil=>rw[z8 (by rfl)];rfl
   | cons a r =>
     have hl:(c::a::r).length=r.length+2:=rfl;have g1:List.getD (c::a::r) (Int.toNat 1) 0=a:=rfl;rw[hl,zf (by rw[beq_eq_false_iff_ne];omega),z8 (zfw (by omega) (by omega)),g1,z1r1,Option.bind_some];dsimp only;by_cases ha:zp1 a.toNat<16
     case neg=>rw[if_neg ha,if_neg ha];rfl
     rw[if_pos ha,if_pos ha,w1];dsimp only;rw[zf (by rfl),show k+9=(k+8)+1 from rfl,z6v];dsimp only;rw[z8 (by rfl)];cases r with
     | nil=>rw[z8 (by rfl)];rfl
     | cons b r =>
       have hl2:(b::r).length=r.length+1:=rfl;have g2:List.getD (c::a::b::r) (Int.toNat 2) 0=b:=rfl;rw[hl2,zf (by rw[beq_eq_false_iff_ne];omega),z8 (zfw (by omega) (by omega)),g2,z1r1,Option.bind_some];dsimp only;by_cases hb:zp1 b.toNat<16
       case neg=>rw[if_neg hb,if_neg hb];rfl
       rw[if_pos hb,if_pos hb,w2];dsimp only;rw[zf (by rfl),nib' ha hb,show k+8=(k+7)+1 from rfl,z6v];dsimp only;rw[zf (by rfl)];rfl
def z1t5:Esc->List UInt8×Int×Unit
 | .cut=>([],-1,())
 | .bad=>([],0,())
 | .ok b n=>([UInt8.ofNat b],(n:Int),())
theorem z1ms (N:Nat) {s:List UInt8} {i:Nat} (hi:i<s.length) (hs:s.length<=10000000):z68 N s (i:Int)=some (z1t5 (z1li (s.drop (i+1)))):=by
 have hl:(s.drop (i+1)).length=s.length - (i+1):=List.length_drop ..;have hg:∀ j,s.getD (i+1+j) 0=(s.drop (i+1)).getD j 0:=fun j=>(z6w s (i+1) j).symm
 have hcut:cut s (i+1) (i+2)=(s.drop (i+1)).take 1:=zv9 s (i+1) 1;have e1:IntKind.wrap .i64 ((i:Int)+1)=((i+1:Nat):Int):=by rw[z2v (by unfold I64;omega)];omega
 have e2:IntKind.wrap .i64 ((i:Int)+2)=((i+2:Nat):Int):=by rw[z2v (by unfold I64;omega)];omega
 have e3:IntKind.wrap .i64 ((i:Int)+3)=((i+3:Nat):Int):=by rw[z2v (by unfold I64;omega)];omega
 have e0:IntKind.wrap .i64 ((s.length:Int) - (i:Int))=((s.length - i:Nat):Int):=by rw[z2v (by unfold I64;omega)];omega
 have g0:=hg 0;have g1:=hg 1;have g2:=hg 2;simp only[Nat.add_zero,show i+1+1=i+2 from rfl,show i+1+2=i+3 from rfl] at g0 g1 g2;simp only[z68,z95,z94,e0,e1,e2,e3,Int.toNat_natCast,g0,g1,g2,hcut];generalize s.drop (i+1)=t at hl;cases t with
 | nil=>simp only[List.length_nil] at hl;rw[z8 (zh (by omega))];rfl
 | cons c r =>
   simp only[List.length_cons] at hl;rw[zf (zq (by omega)),z8 (z12 (by omega))];simp only[List.getD_cons_zero,z1ac];have tail:∀ b:Bool,b=(c.toNat == 34 || c.toNat == 92)->b=true->(cond b (cond (decide ((0:Int)<=((i+2:Nat):Int)/\((i+2:Nat):Int)<=(s.length:Int))) (cond (decide ((0:Int)<=((i+1:Nat):Int)/\((i+1:Nat):Int)<=((i+2:Nat):Int))) (some (List.take 1 (c::r),((2:Int),()))) none) none) (none:Option (List UInt8×Int×Unit)))=some ([UInt8.ofNat c.toNat],(2:Int),()):=by
    intro b _ hb;rw[hb,cond_true,z8 (zh (by omega)),z8 (zh (by omega))];simp
   by_cases hq:c.toNat=34\/c.toNat=92
   . rw[if_pos hq];have hq2:(cond ((((c.toNat:Nat):Int)) == 34) true (((c.toNat:Nat):Int) == 92))=true:=by
      rcases hq with h|h<;>rw[h]<;>rfl
     rcases hq with h|h
     . rw[z8 (by rw[h];rfl),cond_true,z8 (zh (by omega)),z8 (zh (by omega))];simp[z1t5]
     . rw[zf (by rw[h];rfl),z8 (z12 (by omega)),z8 (by rw[h];rfl),z8 (zh (by omega)),z8 (zh (by omega))];simp[z1t5]
   rw[if_neg hq,zf (by rw[beq_eq_false_iff_ne];omega),z8 (z12 (by omega)),zf (by rw[beq_eq_false_iff_ne];omega),z8 (z12 (by omega))];by_cases hx:c.toNat=120
   case neg=>rw[if_neg hx,z8 (by rw[bne_iff_ne];omega)];rfl
   rw[if_pos hx,zf (by rw[hx];rfl)];cases r with
   | nil=>simp only[List.length_nil] at hl;rw[z8 (zh (by omega))];rfl
   | cons a r =>
     simp only[List.length_cons] at hl;rw[zf (zq (by omega)),z8 (z12 (by omega))];have g1:List.getD (c::a::r) 1 0=a:=rfl;rw[g1,z1mv,Option.bind_some];dsimp only;by_cases ha:zp1 a.toNat<16
     case neg=>rw[if_neg ha,if_neg ha];rfl
     rw[if_pos ha,if_pos ha,zf (zq (by omega))];cases r with
     | nil=>simp only[List.length_nil] at hl;rw[z8 (zh (by omega))];rfl
     | cons b r =>
       simp only[List.length_cons] at hl;have g2:List.getD (c::a::b::r) 2 0=b:=rfl;rw[zf (zq (by omega)),z8 (z12 (by omega)),g2,z1mv,Option.bind_some];dsimp only;by_cases hb:zp1 b.toNat<16
       case neg=>rw[if_neg hb,if_neg hb];rfl
       rw[if_pos hb,if_pos hb,zf (zq (by omega))];have w1:IntKind.wrap .i64 ((16:Int)*((zp1 a.toNat:Nat):Int))=((16*zp1 a.toNat:Nat):Int):=by rw[z2v (by unfold I64;omega)];omega
       have w2:IntKind.wrap .i64 (((16*zp1 a.toNat:Nat):Int)+((zp1 b.toNat:Nat):Int))=((16*zp1 a.toNat+zp1 b.toNat:Nat):Int):=by rw[z2v (by unfold I64;omega)];omega
       rw[w1,w2,z13z (by omega) (by omega)];show some (([UInt8.ofNat (Int.toNat ((16*zp1 a.toNat+zp1 b.toNat:Nat):Int))]:List UInt8),_)=_;rw[Int.toNat_natCast];rfl
abbrev RdT:=List UInt8×Int×(Int×(Int×Unit))×Unit
def zs4 (s:List UInt8):Nat->Nat->List UInt8->RdT
 | 0,_,_=>([],0,(1,(s.length:Int),()),())
 | f + 1,i,out=>if i<s.length then
     (if (s.getD i 0).toNat=34 then (out,((i+1:Nat):Int),(0,0,()),())
     else if (s.getD i 0).toNat=92 then (match z1li (s.drop (i+1)) with
      | .cut=>([],0,(1,(s.length:Int),()),())
      | .bad=>([],0,(2,(i:Int),()),())
      | .ok b n=>zs4 s f (i+n) (out++[UInt8.ofNat b]))
     else if zdo s i=true then zs4 s f (i+z1v s i) (out++(s.drop i).take (z1v s i))
     else ([],0,(2,(i:Int),()),()))
   else ([],0,(1,(s.length:Int),()),())
theorem zvl (s:List UInt8):∀ (f f' i:Nat) (o:List UInt8),s.length - i<=f->s.length - i<=f'->zs4 s f i o=zs4 s f' i o
 | 0,0,i,o,_,_=>rfl
 | 0,f'+1,i,o,h,_=>by simp only[zs4];rw[if_neg (by omega)]
 | f+1,0,i,o,_,h=>by simp only[zs4];rw[if_neg (by omega)]
 | f + 1,f'+1,i,o,h,h'=>by
   simp only[zs4];by_cases hi:i<s.length
   . rw[if_pos hi,if_pos hi];split;· rfl
     split
     . cases he:z1li (s.drop (i+1)) with
       | cut=>rfl
       | bad=>rfl
       | ok b n =>
         have:=z1g7 he;exact zvl s f f' (i+n) _ (by omega) (by omega)
     split
     . have:=z3e hi;exact zvl s f f' (i+z1v s i) _ (by omega) (by omega)
     . rfl
   . rw[if_neg hi,if_neg hi]
def zvt (s:List UInt8)(i:Nat)(o:List UInt8):RdT:=zs4 s s.length i o
theorem z1ff {s:List UInt8}{i:Nat}{o:List UInt8}(h:s.length<=i):zvt s i o=([],0,(1,(s.length:Int),()),()):=by
 unfold zvt;rw[zvl s s.length 0 i o (by omega) (by omega)];rfl
theorem z1ci {s:List UInt8} {i:Nat} {o:List UInt8} (h:i<s.length):zvt s i o =
 (if (s.getD i 0).toNat=34 then (o,((i+1:Nat):Int),(0,0,()),())
  else if (s.getD i 0).toNat=92 then (match z1li (s.drop (i+1)) with
   | .cut=>([],0,(1,(s.length:Int),()),())
   | .bad=>([],0,(2,(i:Int),()),())
   | .ok b n=>zvt s (i+n) (o++[UInt8.ofNat b]))
  else if zdo s i=true then zvt s (i+z1v s i) (o++(s.drop i).take (z1v s i))
  else ([],0,(2,(i:Int),()),())):=by
 have hu:=z3e h;have e:zvt s i o=zs4 s (s.length+1) i o:=zvl s _ _ i o (by omega) (by omega);rw[e];simp only[zs4,zvt];rw[if_pos h]
theorem z1h0 {b:Nat}(h:b<256):ofStr [UInt8.ofNat b]=[(b:Int)]:=by
 have:(UInt8.ofNat b).toNat=b:=by rw[UInt8.toNat_ofNat'];omega
 show [(((UInt8.ofNat b).toNat:Nat):Int)]=_;rw[this]
theorem z1k5 (k:Nat) {X:List UInt8} {F:Nat} (hX:X.length<=300000) (hF:F<=X.length) :
 ze4 (k+1000000) X (F:Int)=some (zvt X F []):=by
 have hul:(X.drop F).length=X.length - F:=List.length_drop ..;simp only[ze4,zpe];rw[z8 (zh (by omega)),Int.toNat_natCast,zva];rw[z3n (I:=fun (v:List Int×Int×(List UInt8×Nat))=>∃ (idx nx:Nat) (o:List UInt8),v=(ofStr o,(nx:Int),(X.drop F,idx))/\F+idx<=X.length/\nx<=X.length/\o.length<=max nx (F+idx)/\∀ j,F+idx<=j->j<nx->(X.getD j 0).toNat<128) (m:=fun v=>X.length - F - v.2.2.2) (R:=fun v=>some (zvt X (max v.2.1.toNat (F+v.2.2.2)) (toStr v.1))) ?_ (k+1000000) ([],(F:Int),(X.drop F,0)) ⟨0,F,[],rfl,by omega,by omega,by simp,fun j h1 h2=>by omega⟩ (by dsimp only;omega)]
 . dsimp only;rw[Int.toNat_natCast,Nat.add_zero,Nat.max_self];rfl
 rintro v r ⟨idx,nx,o,rfl,hix,hnx,hol,hh⟩ hr;dsimp only at hr ⊢;rw[Int.toNat_natCast];have hw:IntKind.wrap .i64 ((idx:Int)+(F:Int))=((F+idx:Nat):Int):=by rw[z2v (by unfold I64;omega)];omega
 have hw1:IntKind.wrap .i64 (((F+idx:Nat):Int)+1)=((F+idx+1:Nat):Int):=zz (by omega);simp only[ziv,hw,hw1,z181];rw[z6a];by_cases hlt:idx<(X.drop F).length
 case neg =>
  rw[zf (zq hlt),z1ff (by omega)]
 have hp:F+idx<X.length:=by omega
 rw[z8 (zh hlt)];by_cases hpn:F+idx<nx
 . rw[z8 (zh (by omega)),z4o (hh _ (Nat.le_refl _) hpn)];have:=hr (ofStr o,(nx:Int),(X.drop F,idx+1)) ⟨idx+1,nx,o,rfl,by omega,by omega,by omega,fun j h1 h2=>hh j (by omega) h2⟩ (by dsimp only;omega);rw[this];dsimp only;rw[Int.toNat_natCast,z6a,show max nx (F+(idx+1))=max nx (F+idx) by omega]
 rw[zf (zq (by omega)),show max nx (F+idx)=F+idx by omega,z1ci hp];have hu:=z3e hp;have hq:((((runeAt X (F+idx)).1:Nat):Int) == 34)=((X.getD (F+idx) 0).toNat == 34)/\((((runeAt X (F+idx)).1:Nat):Int) == 92)=((X.getD (F+idx) 0).toNat == 92):=by
  by_cases h:(X.getD (F+idx) 0).toNat<128
  . rw[z4o h];constructor<;>(rw[Bool.eq_iff_iff,beq_iff_eq,beq_iff_eq];dsimp only;omega)
  . have:=zco hp (by omega);constructor<;>(rw[Bool.eq_iff_iff,beq_iff_eq,beq_iff_eq];omega)
 rw[hq.1,hq.2];by_cases h34:(X.getD (F+idx) 0).toNat=34
 . rw[if_pos h34,z8 (by rw[beq_iff_eq];exact h34)]
 rw[if_neg h34,zf (by rw[beq_eq_false_iff_ne];exact h34)];by_cases h92:(X.getD (F+idx) 0).toNat=92
 . rw[if_pos h92,z8 (by rw[beq_iff_eq];exact h92),z8 (zh (by omega)),Int.toNat_natCast,zva,show k+1000000=(k+999990)+10 from rfl,z1ue,Option.bind_some];have hdl:(X.drop (F+idx+1)).length=X.length - (F+idx+1):=List.length_drop ..;cases he:z1li (X.drop (F+idx+1)) with
   | cut=>rfl
   | bad=>rfl
   | ok b n =>
     obtain⟨hb,hn2,hnl,hasc⟩:=z1g7 he;have hw2:IntKind.wrap .i64 (((F+idx+1:Nat):Int)+((n - 1:Nat):Int))=((F+idx+n:Nat):Int):=by rw[z2v (by unfold I64;omega)];omega
     simp only[escO,hw2];rw[zf (by rfl),zf (by rfl),z8 (zh (by rw[z3h];omega)),<- z1h0 hb,<- zck,z4o (by omega)];have:=hr (ofStr (o++[UInt8.ofNat b]),((F+idx+n:Nat):Int),(X.drop F,idx+1)) ⟨idx+1,F+idx+n,o++[UInt8.ofNat b],rfl,by omega,by omega,by simp only[List.length_append,List.length_singleton];omega,fun j h1 h2=>?_⟩ (by dsimp only;omega)
     . rw[this];dsimp only;rw[Int.toNat_natCast,z6a,show max (F+idx+n) (F+(idx+1))=F+idx+n by omega]
     . have:=hasc (j - (F+idx+1)) (by omega);rw[z6w,show F+idx+1+(j - (F+idx+1))=j by omega] at this;exact this
 rw[if_neg h92,zf (by rw[beq_eq_false_iff_ne];exact h92),z1dy _ hp,Option.bind_some];cases hsf:zdo X (F+idx) with
 | false=>rfl
 | true =>
   have hw2:IntKind.wrap .i64 (((F+idx:Nat):Int)+((z1v X (F+idx):Nat):Int))=((F+idx+z1v X (F+idx):Nat):Int):=by rw[z2v (by unfold I64;omega)];omega
   have hpl:((X.drop (F+idx)).take (z1v X (F+idx))).length=z1v X (F+idx):=by rw[List.length_take,List.length_drop];omega
   rw[cond_true,z1da _ hp,Option.bind_some,hw2,z8 (zh (by omega)),z8 (zh (by omega)),Int.toNat_natCast,Int.toNat_natCast,zv9,z8 (zh (by rw[z3h,z3h,hpl];omega)),<- zck,if_pos rfl];have e:z1v X (F+idx)=(runeAt X (F+idx)).2:=rfl;have:=hr (ofStr (o++(X.drop (F+idx)).take (z1v X (F+idx))),(nx:Int),(X.drop F,idx+(runeAt X (F+idx)).2)) ⟨idx+(runeAt X (F+idx)).2,nx,_,rfl,by omega,by omega,by rw[List.length_append,hpl];omega,fun j h1 h2=>by omega⟩ (by dsimp only;omega);rw[this];dsimp only;rw[Int.toNat_natCast,z6a,show max nx (F+(idx+(runeAt X (F+idx)).2))=F+idx+z1v X (F+idx) by omega]
theorem z1s6 (k:Nat){s:List UInt8}{at_:Nat}(hs:s.length<=300000)(ha:at_<s.length)(h34:(s.getD at_ 0).toNat=34):zci (k+1000000) s (at_:Int)=some (zvt s (at_+1) []):=by
 have hw1:IntKind.wrap .i64 ((at_:Int)+1)=((at_+1:Nat):Int):=zz (by omega);simp only[zci,zct,zcs];rw[zf (zq (by omega)),zf (zq (by omega)),zf (by rw[beq_eq_false_iff_ne];omega),z8 (z12 ha),Int.toNat_natCast,zf (by rw[h34];rfl),hw1,z1k5 k (by omega) (by omega),Option.bind_some]
theorem z1cg (N:Nat) {s:List UInt8} {at_:Nat} (hs:s.length<=300000) (hN:300002<N) (ha:at_<s.length) (h34:(s.getD at_ 0).toNat=34):z4x N s (at_:Int)=some (zvt s (at_+1) []):=by
 have hw1:IntKind.wrap .i64 ((at_:Int)+1)=((at_+1:Nat):Int):=zz (by omega);simp only[z4x,z7g,z7f];rw[zf (zq (by omega)),zf (zq (by omega)),zf (by rw[beq_eq_false_iff_ne];omega),z8 (z12 ha),Int.toNat_natCast,zf (by rw[h34];rfl),hw1];simp only[zl4];rw[z3n (I:=fun (v:List UInt8×Int)=>∃ (o:List UInt8) (i:Nat),v=(o,(i:Int))/\i<=s.length/\o.length<=i) (m:=fun v=>s.length - v.2.toNat) (R:=fun v=>some (zvt s v.2.toNat v.1)) ?_ N ([],((at_+1:Nat):Int)) ⟨[],at_+1,rfl,by omega,by simp⟩ (by dsimp only;omega)]
 . dsimp only;rw[Int.toNat_natCast]
 rintro v r ⟨o,i,rfl,hi,ho⟩ hr;dsimp only at hr ⊢;rw[Int.toNat_natCast] at hr ⊢;simp only[zbz,zc0];by_cases hlt:i<s.length
 case neg=>rw[zf (zq (by omega)),z1ff (by omega)]
 have hu:=z3e hlt;rw[z8 (zh (by omega)),z8 (z12 hlt),Int.toNat_natCast,z1ci hlt];by_cases h34':(s.getD i 0).toNat=34
 . rw[if_pos h34',z8 (by rw[beq_iff_eq];omega),zz (by omega)]
 rw[if_neg h34',zf (by rw[beq_eq_false_iff_ne];omega),z8 (zh (by omega)),z8 (zh (by omega)),z8 (z12 hlt)];by_cases h92:(s.getD i 0).toNat=92
 . rw[if_pos h92,z8 (by rw[beq_iff_eq];omega),z1ms _ hlt (by omega),Option.bind_some];have hdl:(s.drop (i+1)).length=s.length - (i+1):=List.length_drop ..;cases he:z1li (s.drop (i+1)) with
   | cut=>rfl
   | bad=>rfl
   | ok b n =>
     obtain⟨hb,hn2,hnl,hasc⟩:=z1g7 he;have hw2:IntKind.wrap .i64 ((i:Int)+(n:Int))=((i+n:Nat):Int):=by rw[z2v (by unfold I64;omega)];omega
     have hl1:(z1t5 (.ok b n)).1.length=1:=rfl;have hn0:¬ ((z1t5 (.ok b n)).2.1<0):=by show ¬ ((n:Int)<0);omega
     have hn1:((z1t5 (.ok b n)).2.1 == 0)=false:=by show ((n:Int) == 0)=false;rw[beq_eq_false_iff_ne];omega
     rw[zf (zq hn0),zf hn1,z8 (zh (by rw[hl1];omega))];show r (o++[UInt8.ofNat b],IntKind.wrap .i64 ((i:Int)+(n:Int)))=_;rw[hw2];rw[hr (o++[UInt8.ofNat b],((i+n:Nat):Int)) ⟨_,i+n,rfl,by omega,by simp only[List.length_append,List.length_singleton];omega⟩ (by dsimp only;omega)];dsimp only;rw[Int.toNat_natCast]
 rw[if_neg h92,zf (by rw[beq_eq_false_iff_ne];omega),z1mi _ hlt (by omega) (by omega),Option.bind_some];cases hsf:zdo s i with
 | false=>rfl
 | true =>
   have hrl:rl s i=z1v s i:=by
    have h:=hsf;rw[zdo,decide_eq_true_eq] at h;by_cases hasc:(s.getD i 0).toNat<128
    . rw[rl,if_pos hasc,zdv hasc]
    . have h0:=h.1;rw[rl,if_neg hasc] at h0 ⊢;split at h0
      . omega
      . rename_i hn;rw[if_neg hn]
   have hw2:IntKind.wrap .i64 ((i:Int)+((z1v s i:Nat):Int))=((i+z1v s i:Nat):Int):=by rw[z2v (by unfold I64;omega)];omega
   have hpl:((s.drop i).take (z1v s i)).length=z1v s i:=by rw[List.length_take,List.length_drop];omega
   rw[cond_true,z14a _ hlt (by omega) (by omega),Option.bind_some,hrl,hw2,z8 (zh (by omega)),z8 (zh (by omega)),Int.toNat_natCast,zv9,zf (zq (by omega)),zf (by rw[beq_eq_false_iff_ne];omega),z8 (zh (by rw[hpl];omega)),if_pos rfl];rw[hr (o++(s.drop i).take (z1v s i),((i+z1v s i:Nat):Int)) ⟨_,i+z1v s i,rfl,by omega,by rw[List.length_append,hpl];omega⟩ (by dsimp only;omega)];dsimp only;rw[Int.toNat_natCast]
end
end Go.Proofs.YtkkkgfmjjkpjdaaGreatDoorLg
set_option linter.all false
namespace Go.Proofs.YtkkkgfmjjkpjdaaGreatDoorPx
noncomputable section
open Go Go.Lift
def z1ls (c:Nat)(first:Bool):Bool:=decide (97<=c/\c<=122) || (decide ((48<=c/\c<=57)\/c=45) && !first)
theorem z1en {c:Nat}(h:128<=c)(f:Bool):z1ls c f=false:=by
 simp only[z1ls,Bool.or_eq_false_iff,decide_eq_false_iff_not,Bool.and_eq_false_iff];exact⟨by omega,.inl (by omega)⟩
def z1qk (p:Nat->Bool->Bool):List UInt8->Bool->Bool
 | [],_=>true
 | u::r,f=>p u.toNat f && z1qk p r false
def zro (s:List UInt8):Bool:=decide (1<=s.length/\s.length<=32) && z1qk z1ls s true
end
end Go.Proofs.YtkkkgfmjjkpjdaaGreatDoorPx
set_option linter.all false
set_option maxRecDepth 100000
namespace Go.Proofs.YtkkkgfmjjkpjdaaGreatDoorLg
noncomputable section
open Go Go.Lift Go.Proofs.YtkkkgfmjjkpjdaaGreatDoorPx
theorem z1gw (N:Nat)(c:Nat)(f:Bool):zdg N (c:Int) f=some (z1ls c f):=by
 simp only[zdg,zgb,zvm,z1ls,Bool.cond_eq_ite,decide_eq_true_eq,beq_iff_eq];have key:(if (48:Int)<=c then some (decide ((c:Int)<=57)) else some false)=some (decide (48<=c/\c<=57)):=by
  split
  . congr 1;rw[Bool.eq_iff_iff,decide_eq_true_eq,decide_eq_true_eq];omega
  . congr 1;rw[Bool.eq_iff_iff,decide_eq_true_eq];simp;omega
 rw[key];simp only[Option.bind_some,decide_eq_true_eq,Bool.false_eq_true,if_false];by_cases h1:97<=c/\c<=122
 . rw[if_pos (by omega),if_pos (by omega)];simp[h1]
 have hx:∀ X Y:Option Bool,(if (97:Int)<=c then if (c:Int)<=122 then Y else X else X)=X:=by
  intro X Y
  repeat' split
  all_goals first
   | rfl
   | omega
 rw[hx,decide_eq_false h1,Bool.false_or];by_cases h4:48<=c/\c<=57
 . rw[if_pos h4,decide_eq_true (p:=(48<=c/\c<=57)\/c=45) (.inl h4),Bool.true_and]
 . rw[if_neg h4];by_cases h5:c=45
   . subst h5;simp
   . rw[if_neg (by omega),decide_eq_false (by omega),Bool.false_and]
theorem z1g4 (i:Nat):((((i:Nat):Int)) == 0)=decide (i=0):=by
 rw[Bool.eq_iff_iff,beq_iff_eq,decide_eq_true_eq];omega
theorem z1lr (N:Nat) {s:List UInt8} (hN:40<N):zdh N s=some (zro s):=by
 simp only[zdh,zge,zgd,zro];by_cases h0:s=[]
 . subst h0;rfl
 have hl:s.length≠0:=fun e=>h0 (List.length_eq_zero_iff.1 e)
 rw[zf (by simpa using h0)];by_cases h1:32<s.length
 . rw[z8 (zh (by omega)),decide_eq_false (by omega)];rfl
 rw[zf (zq (by omega)),decide_eq_true (p:=1<=s.length/\s.length<=32) (by omega),Bool.true_and];simp only[zqp];rw[z3n (I:=fun (v:List UInt8×Nat)=>v.1=s/\v.2<=s.length) (m:=fun (v:List UInt8×Nat)=>s.length - v.2) (R:=fun (v:List UInt8×Nat)=>some (z1qk z1ls (s.drop v.2) (decide (v.2=0)))) ?_ N (s,0) ⟨rfl,Nat.zero_le _⟩ (by dsimp only;omega)]
 . simp
 rintro⟨s',i⟩ r ⟨rfl,hi⟩ hr;dsimp only at *;simp only[zgc,z1g4];by_cases hlt:i<s'.length
 . rw[z8 (zh hlt),z1gw,Option.bind_some,z27 s' 0 i hlt];simp only[z1qk];by_cases h128:(s'.getD i 0).toNat<128
   . rw[z4o h128];dsimp only;cases hp:z1ls (s'.getD i 0).toNat (decide (i=0)) with
     | false=>rfl
     | true =>
       rw[Bool.not_true,cond_false,hr _ ⟨rfl,by dsimp only;omega⟩ (by dsimp only;omega)];dsimp only;rw[decide_eq_false (by omega),Bool.true_and]
   . obtain⟨g1,_⟩:=zco hlt (by omega);rw[z1en g1,z1en (by omega)];rfl
 . rw[zf (zq hlt),z3z s' (by omega)];rfl
theorem z1rb (N:Nat){s:List UInt8}(hN:40<N):zv3 N s=some (zro s):=by
 simp only[zv3,z1lr N hN,Option.bind_some]
theorem z1kp (N:Nat) {s:List UInt8} (hN:40<N):z7s N s=some (zro s):=by
 simp only[z7s,zc5,zc4,zro];by_cases h0:s.length=0
 . rw[z8 (zh (by omega)),decide_eq_false (by omega)];rfl
 rw[zf (zq (by omega))];by_cases h1:32<s.length
 . rw[z8 (zh (by omega)),decide_eq_false (by omega)];rfl
 rw[zf (zq (by omega)),decide_eq_true (p:=1<=s.length/\s.length<=32) (by omega),Bool.true_and];simp only[zld];rw[z3n (I:=fun (v:Int)=>0<=v/\v<=((s.length:Nat):Int)) (m:=fun (v:Int)=>s.length - v.toNat) (R:=fun (v:Int)=>some (z1qk z1ls (s.drop v.toNat) (decide (v.toNat=0)))) ?_ N 0 ⟨by omega,by omega⟩ (by omega)]
 . simp
 intro v r ⟨h2,h3⟩ hr;obtain⟨i,rfl⟩:=Int.eq_ofNat_of_zero_le h2;simp only[zc1,zc3,Int.toNat_natCast] at *;by_cases hlt:i<s.length
 . have p5:∀ k0:Bool->Option Bool,z7i N s (i:Int) k0=k0 (decide (97<=(s.getD i 0).toNat/\(s.getD i 0).toNat<=122)):=by
    intro k0;simp only[z7i,Int.toNat_natCast];rw[z8 (z12 hlt),z8 (z12 hlt)];by_cases h:97<=(s.getD i 0).toNat
    . rw[z8 (zh (by omega))];congr 1;rw[Bool.eq_iff_iff,decide_eq_true_eq,decide_eq_true_eq];omega
    . rw[zf (zq (by omega)),decide_eq_false (by omega)]
   have p6:∀ (b:Bool) (k0:Bool->Option Bool),z7h N s (i:Int) b k0=k0 (decide ((48<=(s.getD i 0).toNat/\(s.getD i 0).toNat<=57)\/(s.getD i 0).toNat=45)):=by
    intro b k0;simp only[z7h,Int.toNat_natCast];rw[z8 (z12 hlt),z8 (z12 hlt),z8 (z12 hlt)];by_cases h45:(s.getD i 0).toNat=45
    . rw[z8 (by rw[h45];rfl),decide_eq_true (by omega)]
    . rw[zf (by rw[beq_eq_false_iff_ne];omega)];by_cases h:48<=(s.getD i 0).toNat
      . rw[z8 (zh (by omega))];congr 1;rw[Bool.eq_iff_iff,decide_eq_true_eq,decide_eq_true_eq];omega
      . rw[zf (zq (by omega)),decide_eq_false (by omega)]
   rw[z8 (zh (by omega)),p5,p6,z27 s 0 i hlt];simp only[zc2,z1g4,z1qk,z1ls];have hrec:r ((i+1:Nat):Int)=some (z1qk z1ls (s.drop (i+1)) false):=by
    rw[hr _ ⟨by omega,by omega⟩ (by omega),Int.toNat_natCast,decide_eq_false (by omega)]
   rw[zz (by omega),hrec];generalize decide (97<=(s.getD i 0).toNat/\(s.getD i 0).toNat<=122)=p;generalize decide ((48<=(s.getD i 0).toNat/\(s.getD i 0).toNat<=57)\/(s.getD i 0).toNat=45)=q;generalize decide (i=0)=f;cases p<;>cases q<;>cases f<;>rfl
 . rw[zf (zq (by omega)),z3z s (by omega)];rfl
end
end Go.Proofs.YtkkkgfmjjkpjdaaGreatDoorLg
set_option linter.all false
set_option maxRecDepth 100000
namespace Go.Proofs.YtkkkgfmjjkpjdaaGreatDoorLg
noncomputable section
open Go Go.Lift Go.Lib Go.Proofs.YtkkkgfmjjkpjdaaGreatDoorPx
abbrev OpT:=Int×(List UInt8×(Int×(List UInt8×(List (List UInt8)×Unit))))
abbrev zej:=List UInt8×(Int×(Bool×(Bool×(Bool×(Bool×Unit)))))
def op0:OpT:=(0,[],0,[],[],())
def z11t:zej:=([],0,false,false,false,false,())
theorem zq4 {s:List UInt8}{i n:Nat}{c:UInt8}(hc:c∈(s.drop i).take n):∃ j,i<=j/\j<i+n/\j<s.length/\s.getD j 0=c:=by
 obtain⟨k,hk,e⟩:=List.getElem_of_mem hc;rw[List.length_take,List.length_drop] at hk;refine⟨i+k,by omega,by omega,by omega,?_⟩;rw[<- e,List.getElem_take,List.getElem_drop,List.getD_eq_getElem?_getD,List.getElem?_eq_getElem (by omega),Option.getD_some]
theorem z9n:∀ (s cur:List UInt8) (q e:Bool),(z2k s cur q e).length<=s.length+1
 | [],cur,_,_=>by simp[z2k]
 | c::r,cur,q,true=>by rw[z2k];have:=z9n r (cur++[c]) q false;simp only[List.length_cons];omega
 | c::r,cur,q,false=>by
   rw[z2k];have h1:=z9n r (cur++[c]) q true;have h2:=z9n r (cur++[c]) (!q) false;have h3:=z9n r [] q false;have h4:=z9n r (cur++[c]) q false;simp only[List.length_cons];split;· omega
   split;· omega
   split;· simp only[List.length_cons];omega
   omega
theorem zdy:∀ (s cur:List UInt8) (q e:Bool),∀ w∈z2k s cur q e,w.length<=cur.length+s.length
 | [],cur,_,_,w,hw=>by simp[z2k] at hw;simp[hw]
 | c::r,cur,q,true,w,hw=>by rw[z2k] at hw;have:=zdy r _ q false w hw;simp only[List.length_append,List.length_cons,List.length_nil] at this ⊢;omega
 | c :: r,cur,q,false,w,hw=>by
   rw[z2k] at hw;simp only[List.length_cons];split at hw;· have:=zdy r _ q true w hw;simp only[List.length_append,List.length_cons,List.length_nil] at this;omega
   split at hw;· have:=zdy r _ (!q) false w hw;simp only[List.length_append,List.length_cons,List.length_nil] at this;omega
   split at hw
   . rcases List.mem_cons.1 hw with rfl|hw
     . omega
     . have:=zdy r [] q false w hw;simp only[List.length_nil] at this;omega
   . have:=zdy r _ q false w hw;simp only[List.length_append,List.length_cons,List.length_nil] at this;omega
theorem z1h3 {X r cur:List UInt8}{q e:Bool}(h:∀ c∈X,128<=c.toNat)(hX:X≠[]):z2k (X++r) cur q e=z2k r (cur++X) q false:=by
 have key:∀ c:UInt8,128<=c.toNat->c≠34/\(q=true->c≠92)/\(q=false->c≠32):=fun c hc=>⟨fun e=>by subst e;revert hc;decide,fun _ e=>by subst e;revert hc;decide,fun _ e=>by subst e;revert hc;decide⟩
 cases e with
 | false=>exact zce X r cur q (fun c hc=>key c (h c hc))
 | true =>
   cases X with
   | nil=>exact absurd rfl hX
   | cons c X =>
     rw[List.cons_append,z2k,zce X r _ q (fun d hd=>key d (h d (List.mem_cons_of_mem _ hd))),List.append_assoc];rfl
theorem cc {α:Type}{b q:Bool}{A B:α}(h:¬ (b=true/\q=true)):cond b (cond q A B) B=B:=by
 cases b<;>cases q<;>first|rfl|exact absurd ⟨rfl,rfl⟩ h
theorem z1j0 (N:Nat) {s:List UInt8} (hs:s.length<=10000000) (hN:s.length<N):zft N s=some (z2k s [] false false):=by
 simp only[zft,zua];rw[z3n (I:=fun (v:List (List UInt8)×Int×Bool×Bool×(List UInt8×Nat))=>∃ (ps:List (List UInt8)) (f i:Nat) (q e:Bool),v=(ps,(f:Int),q,e,(s,i))/\f<=i/\i<=s.length/\ps.length<=i/\ps++z2k (s.drop i) (Lift.cut s f i) q e=z2k s [] false false) (m:=fun v=>s.length - v.2.2.2.2.2) (R:=fun _=>some (z2k s [] false false)) ?_ N ([],(0:Int),false,false,(s,0)) ⟨[],0,0,false,false,rfl,Nat.le_refl _,by omega,by simp,by simp[Lift.cut]⟩ (by dsimp only;omega)];rintro v r ⟨ps,f,i,q,e,rfl,hfi,hi,hps,hT⟩ hr;dsimp only at hr ⊢;simp only[zm1,zm3,zm2];by_cases hlt:i<s.length
 case neg =>
  have hie:i=s.length:=by omega
  subst hie;rw[zf (zq hlt),z8 (zh ⟨by omega,by omega⟩),z8 (zh (by omega)),Int.toNat_natCast,<- hT,List.drop_length,z2k]
 rw[z8 (zh hlt)];have hcut:∀ n,i+n<=s.length->Lift.cut s f (i+n)=Lift.cut s f i++(s.drop i).take n:=by
  intro n hn;unfold Lift.cut;rw[List.take_add,List.drop_append_of_le_length (by rw[List.length_take];omega)]
 by_cases h128:128<=(s.getD i 0).toNat
 . obtain⟨h1,h2,h3,h4⟩:=zco hlt h128;generalize hru:runeAt s i=ru at h1 h2 h3 h4;obtain⟨c,n⟩:=ru;dsimp only at h1 h2 h3 h4 ⊢;have hX:∀ c∈(s.drop i).take n,128<=c.toNat:=fun c hc=>by
    obtain⟨j,hj1,hj2,hj3,e⟩:=zq4 hc;rw[<- e];exact h4 j hj1 hj2
   have hXn:(s.drop i).take n≠[]:=fun e=>by have:=congrArg List.length e;rw[List.length_take,List.length_drop] at this;simp at this;omega
   have hgo:ps++z2k (s.drop (i+n)) (Lift.cut s f (i+n)) q false=z2k s [] false false:=by
    rw[<- hT,hcut n h3,<- z1h3 (e:=e) hX hXn,<- List.drop_drop,List.take_append_drop]
   have hr':=hr (ps,(f:Int),q,false,(s,i+n)) ⟨ps,f,i+n,q,false,rfl,by omega,h3,by omega,hgo⟩ (by dsimp only;omega);cases e with
   | true=>rw[cond_true];exact hr'
   | false =>
     have e1:(((c:Nat):Int) == 92)=false:=by rw[beq_eq_false_iff_ne];omega
     have e2:(((c:Nat):Int) == 34)=false:=by rw[beq_eq_false_iff_ne];omega
     have e3:(((c:Nat):Int) == 32)=false:=by rw[beq_eq_false_iff_ne];omega
     simp only[cond_false,e1,e2,e3];exact hr'
 . have hru:=z4o (s:=s) (i:=i) (by omega);rw[hru];dsimp only;have hd:=z27 s 0 i hlt;generalize hc:s.getD i 0=c at hd h128;have hc1:(s.drop i).take 1=[c]:=by rw[hd];rfl
   have hcut1:=hcut 1 (by omega);rw[hc1] at hcut1;rw[hd] at hT;cases e with
   | true =>
     rw[cond_true];rw[z2k,<- hcut1] at hT;exact hr (ps,(f:Int),q,false,(s,i+1)) ⟨ps,f,i+1,q,false,rfl,by omega,by omega,by omega,hT⟩ (by dsimp only;omega)
   | false =>
     have q92:((((c.toNat:Nat):Int)) == 92)=decide (c=92):=by rw[Bool.eq_iff_iff,beq_iff_eq,decide_eq_true_eq,<- UInt8.toNat_inj];show _ ↔ c.toNat=92;omega
     have q34:((((c.toNat:Nat):Int)) == 34)=decide (c=34):=by rw[Bool.eq_iff_iff,beq_iff_eq,decide_eq_true_eq,<- UInt8.toNat_inj];show _ ↔ c.toNat=34;omega
     have q32:((((c.toNat:Nat):Int)) == 32)=decide (c=32):=by rw[Bool.eq_iff_iff,beq_iff_eq,decide_eq_true_eq,<- UInt8.toNat_inj];show _ ↔ c.toNat=32;omega
     simp only[cond_false,q92,q34,q32];rw[z2k] at hT;by_cases c1:c=92/\q=true
     . rw[if_pos c1,<- hcut1] at hT;rw[z8 (zh c1.1),c1.2,cond_true];rw[c1.2] at hT;exact hr (ps,(f:Int),true,true,(s,i+1)) ⟨ps,f,i+1,true,true,rfl,by omega,by omega,by omega,hT⟩ (by dsimp only;omega)
     rw[if_neg c1] at hT;rw[cc (fun e=>c1 ⟨of_decide_eq_true e.1,e.2⟩)];by_cases c2:c=34
     . rw[if_pos c2,<- hcut1] at hT;rw[z8 (zh c2)];exact hr (ps,(f:Int),!q,false,(s,i+1)) ⟨ps,f,i+1,!q,false,rfl,by omega,by omega,by omega,hT⟩ (by dsimp only;omega)
     rw[if_neg c2] at hT;rw[zf (zq c2)];by_cases c3:c=32/\q=false
     . rw[if_pos c3] at hT;rw[z8 (zh c3.1),c3.2,Bool.not_false,cond_true,z8 (zh ⟨by omega,by omega⟩),z8 (zh ⟨by omega,by omega⟩),z8 (zh (by omega)),zz (by omega),Int.toNat_natCast,Int.toNat_natCast];rw[c3.2] at hT;refine hr (ps++[Lift.cut s f i],((i+1:Nat):Int),false,false,(s,i+1)) ⟨ps++[Lift.cut s f i],i+1,i+1,false,false,rfl,by omega,by omega,by simp;omega,?_⟩ (by dsimp only;omega);rw[List.append_assoc,List.singleton_append,show Lift.cut s (i+1) (i+1)=[] by simp[Lift.cut]];exact hT
     rw[if_neg c3,<- hcut1] at hT;have hr':=hr (ps,(f:Int),q,false,(s,i+1)) ⟨ps,f,i+1,q,false,rfl,by omega,by omega,by omega,hT⟩ (by dsimp only;omega);by_cases h:c=32
     . rw[z8 (zh h)];cases q with
       | false=>exact absurd ⟨h,rfl⟩ c3
       | true=>exact hr'
     . rw[zf (zq h)];exact hr'
theorem z1js:∀ n,n<16->hd n≠34/\hd n≠92/\hd n≠32:=by decide
theorem zvo:∀ (s:List UInt8),∀ c∈zp5 s,c≠34/\c≠32/\c≠10
 | [],c,h=>by cases h
 | u::r,c,h=>by
   have hu:=z9m u;have k:∀ n,n<16->hd n≠34/\hd n≠32/\hd n≠10:=by decide
   rw[zp5] at h;rcases List.mem_cons.1 h with rfl|h
   . exact k _ (by omega)
   rcases List.mem_cons.1 h with rfl|h
   . exact k _ (by omega)
   . exact zvo r c h
theorem z1hi {s:List UInt8} {i:Nat} (hi:i<s.length) (r cur:List UInt8):z2k (zfr s i++r) cur true false=z2k r (cur++zfr s i) true false:=by
 have hb:=z9m (s.getD i 0);unfold zfr;cases hq:((s.getD i 0).toNat == 34 || (s.getD i 0).toNat == 92) with
 | true=>rw[cond_true];exact z1cc _ r cur
 | false =>
   rw[cond_false];rw[Bool.or_eq_false_iff,beq_eq_false_iff_ne,beq_eq_false_iff_ne] at hq;cases hsf:zdo s i with
   | false =>
     rw[cond_false];have h1:=z1js ((s.getD i 0).toNat / 16) (by omega);have h2:=z1js ((s.getD i 0).toNat % 16) (by omega);show z2k (92::120::([hd ((s.getD i 0).toNat / 16),hd ((s.getD i 0).toNat % 16)]++r)) cur true false=_;rw[z1cc,zce _ _ _ true (fun c hc=>?_),List.append_assoc];rfl;simp only[List.mem_cons,List.not_mem_nil,or_false] at hc;rcases hc with rfl|rfl
     . exact⟨h1.1,fun _=>h1.2.1,fun e=>by cases e⟩
     . exact⟨h2.1,fun _=>h2.2.1,fun e=>by cases e⟩
   | true =>
     rw[cond_true];refine zce _ _ _ true (fun c hc=>?_);obtain⟨j,hj1,hj2,hj3,e⟩:=zq4 hc;by_cases h128:(s.getD i 0).toNat<128
     . rw[zdv h128] at hj2;have:j=i:=by omega
       subst this;rw[e] at hq;exact⟨fun h=>hq.1 (by rw[h];rfl),fun _ h=>hq.2 (by rw[h];rfl),fun h=>by cases h⟩
     . have h4:=(zco hi (by omega)).2.2.2 j hj1 hj2;rw[e] at h4;exact⟨fun h=>by subst h;revert h4;decide,fun _ h=>by subst h;revert h4;decide,fun h=>by cases h⟩
theorem z1h1 (s:List UInt8):∀ (n i:Nat),s.length - i<=n->∀ r cur,z2k (z6b s i++r) cur true false=z2k r (cur++z6b s i) true false:=by
 intro n
 induction n with
 | zero=>intro i h r cur;rw[zen (by omega)];simp
 | succ n ih =>
   intro i h r cur;by_cases hi:i<s.length
   . have hu:=z3e hi;rw[zdw hi,List.append_assoc,z1hi hi,ih (i+z1v s i) (by omega),List.append_assoc]
   . rw[zen (by omega)];simp
def z23 (w:List UInt8):List UInt8:=34::(z6b w 0++[34])
theorem z1p4 (N:Nat){s:List UInt8}(hs:s.length<=2000)(hN:2001<N):zj7 N s=some (z23 s):=z1rw N hs hN
theorem z1hb (N:Nat){s:List UInt8}(hs:s.length<=2000)(hN:2001<N):z61 N s=some (z23 s):=z1kr N hs hN
theorem z1gj (w:List UInt8):z1gr (z23 w):=z1eg (fun r cur=>z1h1 w w.length 0 (by omega) r cur)
theorem zve {x:List UInt8}(h:zro x=true):∀ u∈x,u≠34/\u≠32/\u≠10:=by
 simp only[zro,Bool.and_eq_true] at h;have k:∀ (u:UInt8) (f:Bool),z1ls u.toNat f=true->u≠34/\u≠32/\u≠10:=fun u f hw=>by
  refine⟨?_,?_,?_⟩<;>(intro e;subst e;cases f<;>revert hw<;>decide)
 have:∀ (l:List UInt8) (f:Bool),z1qk z1ls l f=true->∀ u∈l,u≠34/\u≠32/\u≠10:=by
  intro l
  induction l with
  | nil=>intro f _ u hu;cases hu
  | cons v r ih =>
    intro f h u hu;simp only[z1qk,Bool.and_eq_true] at h;rcases List.mem_cons.1 hu with rfl|hu
    . exact k _ f h.1
    . exact ih false h.2 u hu
 exact this x true h.2
theorem z15b {n:Int}(h0:0<=n):∀ c∈Lib.itoa n,c≠34/\c≠32/\c≠10:=by
 obtain⟨u,rfl⟩:=Int.eq_ofNat_of_zero_le h0;have hi:Lib.itoa (u:Int)=Lib.decDigits u:=by unfold Lib.itoa;rw[if_neg (by omega)];rfl
 rw[hi];intro c hc;have:=(z1ae u u (Nat.le_refl _)).2 c hc;refine⟨?_,?_,?_⟩<;>(intro e;subst e;revert this;decide)
def zy9 (op:OpT)(f:zej):Bool :=
 (cond f.2.2.1 (zro op.2.1) (op.2.1 == [])) && (cond f.2.2.2.2.1 (decide (0<=op.2.2.1) && decide (op.2.2.1<=1099511627776)) (op.2.2.1 == 0)) &&
 (cond f.2.2.2.1 (decide (op.2.2.2.1.length<=131072)) (op.2.2.2.1 == [])) && (cond f.2.2.2.2.2.1 (op.2.2.2.2.1.all (fun w=>decide (w.length<=2048)) && decide (op.2.2.2.2.1.length<=64)) (op.2.2.2.2.1 == []))
def zcn (op:OpT)(f:zej):List (List UInt8) :=
 (cond f.2.2.1 [op.2.1] [])++((cond f.2.2.2.1 [120::zp5 op.2.2.2.1] [])++((cond f.2.2.2.2.1 [Lib.itoa op.2.2.1] [])++(cond f.2.2.2.2.2.1 (op.2.2.2.2.1.map z23) [])))
def z13q (k:Int):Option zej:=glob0.find? (fun f=>f.2.1 == k)
def zfv (op:OpT):Option (List UInt8):=match z13q op.1 with
 | some f=>cond (zy9 op f) (some (z7l (f.1::zcn op f))) none
 | none=>none
def z1fs (o:Option (List UInt8)):List UInt8×Bool×Unit:=match o with
 | some t=>(t,true,())
 | none=>([],false,())
def z13y (op:OpT):Prop:=∀ w∈op.2.2.2.2.1,w.length<=2000\/2048<w.length
theorem z1nx (N:Nat)(hN:20<=N)(k:Int):zd6 N k=some (match z13q k with|some f=>(f,true,())|none=>(z11t,false,())):=by
 simp only[zd6,zqg];rw[z3n (I:=fun (v:Int)=>∃ i:Nat,v=(i:Int)/\i<=9) (m:=fun v=>9 - v.toNat) (R:=fun v=>some (match (glob0.drop v.toNat).find? (fun f=>f.2.1 == k) with|some f=>(f,true,())|none=>(z11t,false,()))) ?_ N 0 ⟨0,rfl,by omega⟩ (by simp;omega)]
 . rfl
 rintro v r ⟨i,rfl,hi⟩ hr;rw[Int.toNat_natCast] at hr ⊢;simp only[zg8,Int.toNat_natCast];have hl:glob0.length=9:=rfl;by_cases hlt:i<9
 . rw[z8 (zh (by omega)),z8 (z12 hlt),z27 glob0 z11t i (by omega),List.find?_cons];show cond ((glob0.getD i z11t).2.1 == k) _ _=_;cases hk:(glob0.getD i z11t).2.1 == k with
   | true=>rfl
   | false=>rw[cond_false,zz (by omega),hr _ ⟨i+1,rfl,by omega⟩ (by simp;omega),Int.toNat_natCast]
 . rw[zf (zq (by omega)),z3z glob0 (by omega)];rfl
theorem z1gv (N:Nat){l:List (List UInt8)}{u:Bool}(hl:l.length<=10000000000)(hN:l.length<N):z98 N l u=some (cond u (l.all (fun w=>decide (w.length<=2048)) && decide (l.length<=64)) (l == [])):=by
 simp only[z98,znh];cases u with
 | false =>
   rw[Bool.not_false,cond_true,cond_false];congr 1;rw[Bool.eq_iff_iff,beq_iff_eq,beq_iff_eq,<- List.length_eq_zero_iff];omega
 | true =>
   rw[Bool.not_true,cond_false,cond_true];rw[z3n (I:=fun (v:Int)=>∃ i:Nat,v=(i:Int)/\i<=l.length) (m:=fun v=>l.length - v.toNat) (R:=fun v=>some ((l.drop v.toNat).all (fun w=>decide (w.length<=2048)) && decide (l.length<=64))) ?_ N 0 ⟨0,rfl,by omega⟩ (by simp;omega)]
   . rfl
   rintro v r ⟨i,rfl,hi⟩ hr;rw[Int.toNat_natCast] at hr ⊢;simp only[zd3,Int.toNat_natCast];by_cases hlt:i<l.length
   . rw[z8 (zh (by omega)),z8 (z12 hlt),z27 l [] i hlt,List.all_cons];by_cases hw:(l.getD i []).length<=2048
     . rw[zf (zq (by omega)),zz (by omega),hr _ ⟨i+1,rfl,by omega⟩ (by simp;omega),Int.toNat_natCast,zh hw,Bool.true_and]
     . rw[z8 (zh (by omega)),zq hw];rfl
   . rw[zf (zq (by omega)),z3z l (by omega)];simp only[List.all_nil,Bool.true_and];congr 1;rw[Bool.eq_iff_iff,decide_eq_true_eq,decide_eq_true_eq];omega
theorem z1sp (N:Nat){op:OpT}{f:zej}(hl:op.2.2.2.2.1.length<=10000000000)(hN:op.2.2.2.2.1.length<N)(h40:40<N):zm6 N op f=some (zy9 op f):=by
 have e1:z6s N op.2.1 f.2.2.1=some (cond f.2.2.1 (zro op.2.1) (op.2.1 == [])):=by
  simp only[z6s,z1rb N h40,Option.bind_some];cases f.2.2.1<;>rfl
 have e2:zb8 N op.2.2.1 f.2.2.2.2.1=some (cond f.2.2.2.2.1 (decide (0<=op.2.2.1) && decide (op.2.2.1<=1099511627776)) (op.2.2.1 == 0)):=by
  simp only[zb8];cases f.2.2.2.2.1<;>cases decide (0<=op.2.2.1)<;>rfl
 have e3:z99 N op.2.2.2.1 f.2.2.2.1=some (cond f.2.2.2.1 (decide (op.2.2.2.1.length<=131072)) (op.2.2.2.1 == [])):=by
  simp only[z99];cases f.2.2.2.1
  . rfl
  . rw[Bool.not_true,cond_false,cond_true];congr 1;rw[Bool.eq_iff_iff,decide_eq_true_eq,decide_eq_true_eq];omega
 simp only[zm6,e1,e2,e3,z1gv N hl hN,Option.bind_some,zy9];cases (cond f.2.2.1 (zro op.2.1) (op.2.1 == []))<;>cases (cond f.2.2.2.2.1 (decide (0<=op.2.2.1) && decide (op.2.2.1<=1099511627776)) (op.2.2.1 == 0))<;>cases (cond f.2.2.2.1 (decide (op.2.2.2.1.length<=131072)) (op.2.2.2.1 == []))<;>rfl
theorem z15a:∀ ps:List (List UInt8),Lib.join ps [32]=z7l ps
 | []=>rfl
 | [w]=>by rw[Lib.join_one];rfl
 | w::v::r=>by
   rw[Lib.join_cons,z7l,<- z15a (v::r),Lib.join_cons];simp[Lib.joinTail]
theorem zv6:∀ ps:List (List UInt8),(z7l ps).length<=ps.flatten.length+ps.length
 | []=>by simp[z7l]
 | [w]=>by simp[z7l]
 | w::v::r=>by
   have:=zv6 (v::r);simp only[z7l,List.length_append,List.length_cons,List.flatten_cons] at this ⊢;omega
theorem zgi:∀ (n u:Nat),u<=n->(Lib.decDigits u).length<=u+1
 | n,u,hn=>by
   rw[Lib.decDigits];by_cases h:u<10
   . rw[dif_pos h];simp
   . rw[dif_neg h];cases n with
     | zero=>omega
     | succ n=>have:=zgi n (u / 10) (by omega);simp;omega
theorem zcu (w:List UInt8):(z23 w).length<=4*w.length+2:=by
 have:=z15n w.length 0 (by omega) (s:=w);simp only[z23,List.length_cons,List.length_append,List.length_nil];omega
theorem z1d1:∀ l:List (List UInt8),(∀ w∈l,w.length<=2048)->(l.map z23).flatten.length<=8194*l.length
 | [],_=>by simp
 | w::r,h=>by
   have h1:=z1d1 r (fun v hv=>h v (List.mem_cons_of_mem _ hv));have h2:=zcu w;have h3:=h w List.mem_cons_self;simp only[List.map_cons,List.flatten_cons,List.length_append,List.length_cons];omega
theorem z1kc (N:Nat)(k0:List (List UInt8)->Option (List UInt8)){l ps:List (List UInt8)}(hl:l.length<=1000)(hps:ps.length<=1000)(hw:∀ w∈l,w.length<=2000)(hN:5000<=N) :
 z9r N ps l ((l.length:Nat):Int) 0 k0=k0 (ps++l.map z23):=by
 simp only[z9r];rw[z3n (I:=fun (v:List (List UInt8)×Int)=>∃ (qs:List (List UInt8)) (i:Nat),v=(qs,(i:Int))/\i<=l.length/\qs.length<=1000+i) (m:=fun v=>l.length - v.2.toNat) (R:=fun v=>k0 (v.1++(l.drop v.2.toNat).map z23)) ?_ N (ps,0) ⟨ps,0,rfl,by omega,by omega⟩ (by simp;omega)]
 . rfl
 rintro v r ⟨qs,i,rfl,hi,hq⟩ hr;dsimp only at hr ⊢;rw[Int.toNat_natCast] at hr ⊢;simp only[ze6,Int.toNat_natCast];by_cases hlt:i<l.length
 . have hwl:=hw _ (zq3 l [] i hlt);rw[z8 (zh (by omega)),z8 (z12 hlt),z1p4 N hwl (by omega),Option.bind_some,z8 (zh (by omega)),zz (by omega),hr (qs++[z23 (l.getD i [])],((i+1:Nat):Int)) ⟨_,i+1,rfl,by omega,by simp;omega⟩ (by dsimp only;omega)];dsimp only;rw[Int.toNat_natCast,z27 l [] i hlt,List.map_cons,List.append_assoc];rfl
 . rw[zf (zq (by omega)),z3z l (by omega)];simp
theorem z1ka (k:Nat) {op:OpT} {f:zej} (hf:f.1.length<=100) (h:zy9 op f=true) (hO:z13y op):zb1 (k+1000000) op f=some (z7l (f.1::zcn op f)):=by
 obtain⟨kd,t,n,x,ws,u⟩:=op;obtain⟨c,kf,bt,bx,bn,bw,uf⟩:=f;simp only[zy9,Bool.and_eq_true] at h;obtain⟨⟨⟨h1,h2⟩,h3⟩,h4⟩:=h;simp only[zb1,zea,ze9,ze8,ze7];have ht:bt=true->t.length<=32:=fun e=>by subst e;rw[cond_true] at h1;simp only[zro,Bool.and_eq_true,decide_eq_true_eq] at h1;exact h1.1.2
 have hx:bx=true->x.length<=131072:=fun e=>by subst e;rw[cond_true,decide_eq_true_eq] at h3;exact h3
 have hn:bn=true->0<=n/\n<=1099511627776:=fun e=>by subst e;rw[cond_true] at h2;simp only[Bool.and_eq_true,decide_eq_true_eq] at h2;exact h2
 have hws:bw=true->(∀ w∈ws,w.length<=2048)/\ws.length<=64:=fun e=>by
  subst e;rw[cond_true] at h4;simp only[Bool.and_eq_true,List.all_eq_true,decide_eq_true_eq] at h4;exact h4
 have hd:∀ m:Int,0<=m->m<=1099511627776->(Lib.itoa m).length<=1099511627777:=fun m h0 h1=>by
  obtain⟨v,rfl⟩:=Int.eq_ofNat_of_zero_le h0;have hi:Lib.itoa (v:Int)=Lib.decDigits v:=by unfold Lib.itoa;rw[if_neg (by omega)];rfl
  rw[hi];have:=zgi v v (Nat.le_refl _);omega
 have hnb:bn=true->z1fv (n,())=some (Lib.itoa n):=fun e=>by
  obtain⟨h0,h1⟩:=hn e;unfold z1fv;rw[z8];rw[zh (show (-9223372036854775808:Int)<=n by omega),zh (show n<=(9223372036854775807:Int) by omega)];rfl
 have hjoin:z100 (c::zcn (kd,t,n,x,ws,u) (c,kf,bt,bx,bn,bw,uf),([32],()))=some (z7l (c::zcn (kd,t,n,x,ws,u) (c,kf,bt,bx,bn,bw,uf))):=by
  unfold z100;have hj:=zv6 (c::zcn (kd,t,n,x,ws,u) (c,kf,bt,bx,bn,bw,uf));have hA:(cond bt [t] ([]:List (List UInt8))).flatten.length<=32/\(cond bt [t] ([]:List (List UInt8))).length<=1:=by
   cases bt
   . simp
   . have:=ht rfl;simp;omega
  have hB:(cond bx [120::zp5 x] ([]:List (List UInt8))).flatten.length<=262145/\(cond bx [120::zp5 x] ([]:List (List UInt8))).length<=1:=by
   cases bx
   . simp
   . have:=hx rfl;have:=z9d x;simp;omega
  have hC:(cond bn [Lib.itoa n] ([]:List (List UInt8))).flatten.length<=1099511627777/\(cond bn [Lib.itoa n] ([]:List (List UInt8))).length<=1:=by
   cases bn
   . simp
   . have:=hd n (hn rfl).1 (hn rfl).2;simp;omega
  have hD:(cond bw (ws.map z23) []).flatten.length<=524416/\(cond bw (ws.map z23) []).length<=64:=by
   cases bw
   . simp
   . have h5:=hws rfl;have:=z1d1 ws h5.1;simp only[cond_true,List.length_map];omega
  have hlen:(zcn (kd,t,n,x,ws,u) (c,kf,bt,bx,bn,bw,uf)).flatten.length<=1099512500000/\(zcn (kd,t,n,x,ws,u) (c,kf,bt,bx,bn,bw,uf)).length<=67:=by
   simp only[zcn,List.flatten_append,List.length_append];omega
  dsimp only at hf hj ⊢;rw[z8]
  . rw[z15a]
  . rw[z15a,Bool.and_eq_true,decide_eq_true_eq,decide_eq_true_eq];simp only[List.length_cons,List.flatten_cons,List.length_append] at hj ⊢;omega
 have e4:∀ ps:List (List UInt8),ps.length<=10->(cond bw (z9r (k+1000000) ps ws ((ws.length:Nat):Int) 0 (fun zoh=>(z100 (zoh,([32],()))).bind fun y=>some y)) ((z100 (ps,([32],()))).bind fun y=>some y))=z100 (ps++cond bw (ws.map z23) [],([32],())):=by
  intro ps hps;cases bw with
  | false=>rw[cond_false,cond_false,List.append_nil];cases z100 (ps,([32],()))<;>rfl
  | true =>
    obtain⟨h5,h6⟩:=hws rfl;have h7:∀ w∈ws,w.length<=2000:=fun w hw=>by
     have:=h5 w hw;rcases hO w hw with h|h<;>omega
    rw[cond_true,z1kc _ _ (by omega) (by omega) h7 (by omega),cond_true];cases z100 (ps++ws.map z23,([32],()))<;>rfl
 cases bt<;>cases bx<;>cases bn
 all_goals simp only[cond_true,cond_false,hnb,z1u9 _ (show x.length<=10000000000 by first|(have:=hx rfl;omega)|(simp at h3;simp[h3])) (show x.length<k+1000000 by first|(have:=hx rfl;omega)|(simp at h3;simp[h3])),Option.bind_some]
 all_goals try have hX:=z9d x
 all_goals try have hX2:=hx rfl
 all_goals repeat rw[z8 (zh (by (try simp only[List.length_append,List.length_cons,List.length_nil]);omega))]
 all_goals rw[e4 _ (by simp only[List.length_append,List.length_cons,List.length_nil];omega)]
 all_goals exact hjoin
theorem z1nj (k:Nat) {op:OpT} (hl:op.2.2.2.2.1.length<=100000) (hO:z13y op):z9a (k+1000000) op=some (z1fs (zfv op)):=by
 simp only[z9a,zny,znx];rw[z1nx _ (by omega),Option.bind_some];unfold zfv;cases hf:z13q op.1 with
 | none=>rfl
 | some f =>
   dsimp only;rw[z1sp _ (by omega) (by omega) (by omega),Option.bind_some];cases h:zy9 op f with
   | false=>rfl
   | true =>
     have hf1:f.1.length<=100:=by
      have hm:f∈glob0:=List.mem_of_find?_eq_some hf;have key:∀ g∈glob0,g.1.length<=100:=by decide
      exact key f hm
     rw[z1ka k hf1 h hO];rfl
end
end Go.Proofs.YtkkkgfmjjkpjdaaGreatDoorLg
set_option linter.all false
set_option maxRecDepth 100000
namespace Go.Proofs.YtkkkgfmjjkpjdaaGreatDoorLg
noncomputable section
open Go Go.Lift Go.Lib Go.Proofs.YtkkkgfmjjkpjdaaGreatDoorPx
theorem zmm (s:List UInt8):∀ (f i:Nat) (o:List UInt8),(zs4 s f i o).1.length<=o.length+(s.length - i)
 | 0,i,o=>by simp[zs4]
 | f + 1,i,o=>by
   simp only[zs4];split
   . rename_i hi;split;· dsimp only;omega
     split
     . cases he:z1li (s.drop (i+1)) with
       | cut=>dsimp only;simp
       | bad=>dsimp only;simp
       | ok b n =>
         have:=z1g7 he;have h2:=zmm s f (i+n) (o++[UInt8.ofNat b]);have hdl:(s.drop (i+1)).length=s.length - (i+1):=List.length_drop ..;simp only[List.length_append,List.length_cons,List.length_nil] at h2;dsimp only;omega
     split
     . have:=z3e hi;have h2:=zmm s f (i+z1v s i) (o++(s.drop i).take (z1v s i));simp only[List.length_append,List.length_take,List.length_drop] at h2;omega
     . dsimp only;simp
   . dsimp only;simp
def rdM (w:List UInt8):RdT:=if w=[] then ([],0,(1,0,()),()) else if (w.getD 0 0).toNat=34 then zvt w 1 [] else ([],0,(2,0,()),())
theorem z1ku (w:List UInt8):(rdM w).1.length<=w.length:=by
 unfold rdM;split;· simp
 split
 . have:=zmm w w.length 1 [];unfold zvt;simp only[List.length_nil] at this;omega
 . simp
theorem z1je (k:Nat){w:List UInt8}(hw:w.length<=300000):zci (k+1000000) w 0=some (rdM w):=by
 unfold rdM;by_cases h:w=[]
 . subst h;rw[if_pos rfl];simp only[zci,zct,zcs];rfl
 rw[if_neg h];have hl:0<w.length:=by cases w;exact absurd rfl h;simp
 by_cases h34:(w.getD 0 0).toNat=34
 . rw[if_pos h34];exact z1s6 k (at_:=0) hw hl h34
 . rw[if_neg h34];simp only[zci,zct,zcs];rw[zf (zq (by omega)),zf (zq (by omega)),zf (by rw[beq_eq_false_iff_ne];omega),z8 (zfw (by omega) (by omega)),z8 (by rw[bne_iff_ne];show ¬ (((w.getD 0 0).toNat:Nat):Int)=34;omega)]
theorem z18a {X b w:List UInt8}{F:Nat}(hw:w.length<=2000)(hX:X.length<=300000)(hF:F<=X.length)(hd:X.drop F=z6b w 0++34::b):zvt X F []=(w,((F+(z6b w 0).length+1:Nat):Int),(0,0,()),()):=by
 have h1:=z1k5 0 hX hF;have h2:=z1sy (a:=[]) 0 hw hX hF hd;rw[h1] at h2;exact Option.some.inj h2
theorem z1mw {w:List UInt8}(hw:w.length<=2000):(rdM (z23 w)).1=w:=by
 have hl:=zcu w;unfold rdM;rw[if_neg (by simp[z23]),if_pos (by rfl),z18a (b:=[]) hw (by omega) (by simp[z23]) (by rfl)]
theorem zuz (N:Nat)(ps:List (List UInt8)):z5g N ps=some (ps.headD [],(ps.tail,())):=by
 unfold z5g;cases ps with
 | nil=>rfl
 | cons w r =>
   rw[zf (by rw[beq_eq_false_iff_ne];simp only[List.length_cons];omega),z8 (zfw (by omega) (by simp only[List.length_cons];omega)),z8 (zh ⟨by omega,by simp only[List.length_cons];omega⟩),zva];rfl
theorem z1gz (s p:List UInt8):(Lib.trimPrefix s p).length<=s.length:=by
 unfold Lib.trimPrefix;split
 . rw[List.length_drop];omega
 . omega
theorem z1tu (h:List UInt8):Lib.trimPrefix (120::h) [120]=h:=by
 unfold Lib.trimPrefix;rw[if_pos (by simp[Lib.hasPrefix])];rfl
theorem z1db (s:List UInt8):(z1ip (zem s)).1.length<=s.length:=by
 cases h:zem s with
 | none=>simp[z1ip]
 | some b=>have:=z15m s.length s b (Nat.le_refl _) h;simp only[z1ip];omega
def z1gq (L:Nat)(ps:List (List UInt8))(op:OpT):Prop :=
 (∀ p∈ps,p.length<=L)/\ps.length+op.2.2.2.2.1.length<=L+1/\op.2.2.2.1.length<=L/\∀ w∈op.2.2.2.2.1,w.length<=L
theorem z17n {L:Nat}{ps:List (List UInt8)}{op:OpT}(h:z1gq L ps op):z1gq L ps.tail op/\(ps.headD []).length<=L:=by
 cases ps with
 | nil=>exact⟨h,by simp⟩
 | cons p r =>
   obtain⟨h1,h2,h3,h4⟩:=h;simp only[List.length_cons] at h2;exact⟨⟨fun q hq=>h1 q (List.mem_cons_of_mem _ hq),by dsimp only[List.tail_cons];omega,h3,h4⟩,h1 p List.mem_cons_self⟩
theorem z1ly (k L:Nat) (hL:L<=2000) {x2:OpT} {cmd:List UInt8} {f:zej} {x17:List zej} {x18:Int} {k0:List (List UInt8)->OpT->Option OpT} {ps:List (List UInt8)} {op:OpT} (h:z1gq L ps op) :
 ∃ ps' op',z5i (k+1000000) x2 ps cmd op f x17 x18 k0=k0 ps' op'/\z1gq L ps' op':=by
 simp only[z5i];refine zme (I:=fun (v:List (List UInt8)×OpT)=>z1gq L v.1 v.2) (m:=fun v=>v.1.length) (p:=fun o=>∃ ps' op',o=k0 ps' op'/\z1gq L ps' op') ?_ (k+1000000) (ps,op) h (by have:=h.2.1;dsimp only;omega);rintro⟨qs,oq⟩ r hI hr;dsimp only at hI hr ⊢;simp only[zb3,zb4];cases f.2.2.2.2.2.1 with
 | false=>exact⟨qs,oq,rfl,hI⟩
 | true =>
   rw[cond_true];cases qs with
   | nil=>exact⟨[],oq,rfl,hI⟩
   | cons w t =>
     obtain⟨h1,h2,h3,h4⟩:=hI;have hw:=h1 w List.mem_cons_self;simp only[List.length_cons] at h2;rw[z8 (zh (by simp only[List.length_cons];omega)),zuz,Option.bind_some];dsimp only[List.headD_cons,List.tail_cons];rw[z1je k (by omega),Option.bind_some,z8 (zh (by omega))];refine hr (t,_) ⟨fun q hq=>h1 q (List.mem_cons_of_mem _ hq),?_,h3,fun v hv=>?_⟩ (by dsimp only[List.length_cons];omega)
     . simp only[List.length_append,List.length_cons,List.length_nil];omega
     . rcases List.mem_append.1 hv with hv|hv
       . exact h4 v hv
       . rw[List.mem_singleton.1 hv];have:=z1ku w;omega
theorem z1u0 (k L:Nat){P:Option OpT->Prop}{x2:OpT}{cmd:List UInt8}{f:zej}{x17:List zej}{x18:Int}{k0:List (List UInt8)->OpT->Option OpT}{ps:List (List UInt8)}{op:OpT}(h:z1gq L ps op)
 (hk:∀ ps' op',z1gq L ps' op'->P (k0 ps' op')):P (zb7 (k+1000000) x2 ps cmd op f x17 x18 k0):=by
 simp only[zb7];cases f.2.2.1 with
 | false=>exact hk _ _ h
 | true=>rw[cond_true,zuz,Option.bind_some];exact hk _ _ (z17n h).1
theorem z1tz (k L:Nat)(hL:L<=2000){P:Option OpT->Prop}{x2:OpT}{cmd:List UInt8}{f:zej}{x17:List zej}{x18:Int}{k0:List (List UInt8)->OpT->Option OpT}{ps:List (List UInt8)}{op:OpT}(h:z1gq L ps op)
 (hk:∀ ps' op',z1gq L ps' op'->P (k0 ps' op')):P (zb6 (k+1000000) x2 ps cmd op f x17 x18 k0):=by
 simp only[zb6];cases f.2.2.2.1 with
 | false=>exact hk _ _ h
 | true =>
   obtain⟨h3,h4⟩:=z17n h;have ht:=z1gz (ps.headD []) [120];have hu:=z1db (Lib.trimPrefix (ps.headD []) [120]);rw[cond_true,zuz,Option.bind_some,z1io _ (by dsimp only;omega) (by dsimp only;omega),Option.bind_some];exact hk _ _ ⟨h3.1,h3.2.1,by dsimp only;omega,h3.2.2.2⟩
theorem z1ty (k L:Nat)(hL:L<=2000){P:Option OpT->Prop}{x2:OpT}{cmd:List UInt8}{f:zej}{x17:List zej}{x18:Int}{k0:List (List UInt8)->OpT->Option OpT}{ps:List (List UInt8)}{op:OpT}(h:z1gq L ps op)
 (hk:∀ ps' op',z1gq L ps' op'->P (k0 ps' op')):P (zb5 (k+1000000) x2 ps cmd op f x17 x18 k0):=by
 simp only[zb5];cases f.2.2.2.2.1 with
 | false=>exact hk _ _ h
 | true =>
   obtain⟨h3,h4⟩:=z17n h;have ha:z1ai (ps.headD [],())=some (z15k (ps.headD []),((),())):=by unfold z1ai;rw[z8 (zh (show (ps.headD []).length<=281474976710656 by omega))]
   rw[cond_true,zuz,Option.bind_some,ha,Option.bind_some];exact hk _ _ h3
theorem z1tx (k L:Nat)(hL:L<=2000){P:Option OpT->Prop}{x2:OpT}{cmd:List UInt8}{f:zej}{x17:List zej}{x18:Int}{k0:List (List UInt8)->OpT->Option OpT}{ps:List (List UInt8)}{op:OpT}(h:z1gq L ps op)
 (hk:∀ ps' op',z1gq L ps' op'->P (k0 ps' op')):P (z5i (k+1000000) x2 ps cmd op f x17 x18 k0):=by
 obtain⟨ps',op',e,h'⟩:=z1ly k L hL h (x2:=x2) (cmd:=cmd) (f:=f) (x17:=x17) (x18:=x18) (k0:=k0);rw[e];exact hk _ _ h'
def EndO (L:Nat)(o:Option OpT):Prop:=∃ op:OpT,o=some op/\(op.2.2.2.1.length<=L/\op.2.2.2.2.1.length<=L+1/\∀ w∈op.2.2.2.2.1,w.length<=L)
theorem z1pi (k:Nat){s:List UInt8}(hs:s.length<=2000):EndO s.length (z7k (k+1000000) s):=by
 simp only[z7k];rw[z1j0 _ (by omega) (by omega),Option.bind_some,zuz,Option.bind_some];have h0:z1gq s.length (z2k s [] false false) op0:=⟨fun p hp=>by have:=zdy s [] false false p hp;simpa using this,by have:=z9n s [] false false;simp only[op0,List.length_nil];omega,by simp[op0],fun w hw=>by simp[op0] at hw⟩
 obtain⟨h1,_⟩:=z17n h0;simp only[zyx];refine zme (I:=fun (v:List (List UInt8)×OpT×Int)=>z1gq s.length v.1 v.2.1/\∃ i:Nat,v.2.2=(i:Int)/\i<=9) (m:=fun v=>9 - v.2.2.toNat) (p:=EndO s.length) ?_ (k+1000000) (_,op0,0) ⟨h1,0,rfl,by omega⟩ (by simp);rintro⟨ps,op,v⟩ r ⟨hI,i,hv,hi⟩ hr;dsimp only at hI hv hr ⊢;subst hv;rw[Int.toNat_natCast] at hr;simp only[z3o];have hl:glob0.length=9:=rfl;by_cases hlt:i<9
 case neg =>
  rw[zf (zq (by omega))];exact⟨op,rfl,hI.2.2.1,by have:=hI.2.1;omega,hI.2.2.2⟩
 have hgo:∀ ps' op',z1gq s.length ps' op'->EndO s.length (r (ps',op',IntKind.wrap .i64 ((i:Int)+1))):=fun ps' op' h=>by
  rw[zz (by omega)];exact hr _ ⟨h,i+1,rfl,by omega⟩ (by dsimp only;rw[Int.toNat_natCast];omega)
 rw[z8 (zh (by omega)),z8 (z12 hlt)];generalize hf:List.getD glob0 (Int.toNat (i:Int)) (([]:List UInt8),((0:Int),(false,(false,(false,(false,()))))))=f;cases (!f.1 == (z2k s [] false false).headD []) with
 | true=>exact hgo ps op hI
 | false =>
   rw[cond_false];exact z1u0 k _ hI fun ps1 op1 h1=>z1tz k _ hs h1 fun ps2 op2 h2=>z1ty k _ hs h2 fun ps3 op3 h3=>z1tx k _ hs h3 hgo
theorem z16c:∀ (n u:Nat),1<=n->u<10^n->(Lib.decDigits u).length<=n
 | 0,u,h,_=>by omega
 | n + 1,u,_,hu=>by
   rw[Lib.decDigits];by_cases h:u<10
   . rw[dif_pos h];simp
   . rw[dif_neg h];cases n with
     | zero=>omega
     | succ n =>
       have:=z16c (n+1) (u / 10) (by omega) (by rw[Nat.pow_succ] at hu;omega);simp only[List.length_append,List.length_cons,List.length_nil];omega
theorem z1ea {n:Int}(h0:0<=n)(h1:n<=1099511627776):(Lib.itoa n).length<=13:=by
 obtain⟨u,rfl⟩:=Int.eq_ofNat_of_zero_le h0;have hi:Lib.itoa (u:Int)=Lib.decDigits u:=by unfold Lib.itoa;rw[if_neg (by omega)];rfl
 rw[hi];exact z16c 13 u (by omega) (by omega)
theorem z1ab:∀ l:List (List UInt8),(∀ w∈l,w.length<=2000)->(l.map z23).flatten.length<=8002*l.length
 | [],_=>by simp
 | w::r,h=>by
   have h1:=z1ab r (fun v hv=>h v (List.mem_cons_of_mem _ hv));have h2:=zcu w;have h3:=h w List.mem_cons_self;simp only[List.map_cons,List.flatten_cons,List.length_append,List.length_cons];omega
theorem zq5 {op:OpT}{f:zej}(h:zy9 op f=true)(hO:z13y op) :
 (f.2.2.1=true->zro op.2.1=true)/\(f.2.2.1=false->op.2.1=[])/\(f.2.2.2.2.1=true->0<=op.2.2.1/\op.2.2.1<=1099511627776)/\(f.2.2.2.2.1=false->op.2.2.1=0) ∧
 (f.2.2.2.1=true->op.2.2.2.1.length<=131072)/\(f.2.2.2.1=false->op.2.2.2.1=[])/\(f.2.2.2.2.2.1=true->(∀ w∈op.2.2.2.2.1,w.length<=2000)/\op.2.2.2.2.1.length<=64)/\(f.2.2.2.2.2.1=false->op.2.2.2.2.1=[]):=by
 simp only[zy9,Bool.and_eq_true] at h;obtain⟨⟨⟨h1,h2⟩,h3⟩,h4⟩:=h;refine⟨fun e=>?_,fun e=>?_,fun e=>?_,fun e=>?_,fun e=>?_,fun e=>?_,fun e=>?_,fun e=>?_⟩
 . rw[e] at h1;exact h1
 . rw[e] at h1;exact beq_iff_eq.1 h1
 . rw[e] at h2;simpa using h2
 . rw[e] at h2;exact beq_iff_eq.1 h2
 . rw[e] at h3;simpa using h3
 . rw[e] at h3;exact beq_iff_eq.1 h3
 . rw[e] at h4;simp only[cond_true,Bool.and_eq_true,List.all_eq_true,decide_eq_true_eq] at h4;refine⟨fun w hw=>?_,h4.2⟩;have:=h4.1 w hw;rcases hO w hw with h|h<;>omega
 . rw[e] at h4;exact beq_iff_eq.1 h4
theorem z1h9 {op:OpT}{f:zej}(h:zy9 op f=true)(hO:z13y op):(zcn op f).flatten.length<=774500/\(zcn op f).length<=67:=by
 obtain⟨ht,_,hn,_,hx,_,hw,_⟩:=zq5 h hO;have hA:(cond f.2.2.1 [op.2.1] ([]:List (List UInt8))).flatten.length<=32/\(cond f.2.2.1 [op.2.1] ([]:List (List UInt8))).length<=1:=by
  cases e:f.2.2.1
  . simp
  . have:=ht e;simp only[zro,Bool.and_eq_true,decide_eq_true_eq] at this;simp;omega
 have hB:(cond f.2.2.2.1 [120::zp5 op.2.2.2.1] ([]:List (List UInt8))).flatten.length<=262145/\(cond f.2.2.2.1 [120::zp5 op.2.2.2.1] ([]:List (List UInt8))).length<=1:=by
  cases e:f.2.2.2.1
  . simp
  . have:=hx e;have:=z9d op.2.2.2.1;simp;omega
 have hC:(cond f.2.2.2.2.1 [Lib.itoa op.2.2.1] ([]:List (List UInt8))).flatten.length<=13/\(cond f.2.2.2.2.1 [Lib.itoa op.2.2.1] ([]:List (List UInt8))).length<=1:=by
  cases e:f.2.2.2.2.1
  . simp
  . have:=z1ea (hn e).1 (hn e).2;simp;omega
 have hD:(cond f.2.2.2.2.2.1 (op.2.2.2.2.1.map z23) []).flatten.length<=512128/\(cond f.2.2.2.2.2.1 (op.2.2.2.2.1.map z23) []).length<=64:=by
  cases e:f.2.2.2.2.2.1
  . simp
  . have h5:=hw e;have:=z1ab op.2.2.2.2.1 h5.1;simp only[cond_true,List.length_map];omega
 simp only[zcn,List.flatten_append,List.length_append];omega
theorem z1ha {op:OpT}{f:zej}(h:zy9 op f=true)(hO:z13y op):∀ v∈zcn op f,z1gr v:=by
 obtain⟨ht,_,hn,_,hx,_,hw,_⟩:=zq5 h hO;intro v hv;simp only[zcn,List.mem_append] at hv;rcases hv with hv|hv|hv|hv
 . cases e:f.2.2.1<;>rw[e] at hv
   . cases hv
   . rw[cond_true,List.mem_singleton] at hv;subst hv;exact znn (fun c hc=>⟨(zve (ht e) c hc).1,(zve (ht e) c hc).2.1⟩)
 . cases e:f.2.2.2.1<;>rw[e] at hv
   . cases hv
   . rw[cond_true,List.mem_singleton] at hv;subst hv;refine znn (fun c hc=>?_);rcases List.mem_cons.1 hc with rfl|hc
     . decide
     . exact⟨(zvo _ c hc).1,(zvo _ c hc).2.1⟩
 . cases e:f.2.2.2.2.1<;>rw[e] at hv
   . cases hv
   . rw[cond_true,List.mem_singleton] at hv;subst hv;exact znn (fun c hc=>⟨(z15b (hn e).1 c hc).1,(z15b (hn e).1 c hc).2.1⟩)
 . cases e:f.2.2.2.2.2.1<;>rw[e] at hv
   . cases hv
   . rw[cond_true] at hv;obtain⟨w,_,rfl⟩:=List.mem_map.1 hv;exact z1gj w
theorem z17q {k:Int}{f:zej}(h:z13q k=some f):f.2.1=k/\f∈glob0:=by
 have:=List.find?_some h;exact⟨beq_iff_eq.1 this,List.mem_of_find?_eq_some h⟩
theorem z13s:∀ g∈glob0,∀ c∈g.1,c≠34/\c≠32/\c≠10:=by decide
theorem z1ag:∀ g∈glob0,g.1.length<=10/\g.1≠[]:=by decide
theorem z1gi:∀ j,j<9->∀ m,m<9->m≠j->(glob0.getD m z11t).1≠(glob0.getD j z11t).1:=by decide
abbrev zs2 (N:Nat)(cmd:List UInt8)(k0:OpT->Option OpT):(List (List UInt8)×OpT×Int)->((List (List UInt8)×OpT×Int)->Option OpT)->Option OpT :=
 fun v r=>z3o N op0 cmd glob0 v.1 v.2.1 v.2.2 (fun parts op x18=>r (parts,op,x18)) k0
theorem z1kt {N:Nat}{cmd:List UInt8}{k0:OpT->Option OpT}{ps:List (List UInt8)}{op:OpT}{i n:Nat}(hi:i<9)(h:(glob0.getD i z11t).1≠cmd):iter (zs2 N cmd k0) (n+1) (ps,op,(i:Int))=iter (zs2 N cmd k0) n (ps,op,((i+1:Nat):Int)):=by
 rw[z6v];show z3o N op0 cmd glob0 ps op (i:Int) (fun parts op x18=>iter (zs2 N cmd k0) n (parts,op,x18)) k0=_;simp only[z3o];rw[z8 (zh (by omega)),z8 (z12 hi)];show cond (!((glob0.getD i z11t).1 == cmd)) _ _=_;rw[z8 (by rw[Bool.not_eq_true',beq_eq_false_iff_ne];exact h),zz (by omega)]
theorem z189 {N:Nat}{cmd:List UInt8}{k0:OpT->Option OpT}{ps:List (List UInt8)}{op:OpT}:∀ (d i n:Nat),i+d<=9->(∀ m,i<=m->m<i+d->(glob0.getD m z11t).1≠cmd)->iter (zs2 N cmd k0) (n+d) (ps,op,(i:Int))=iter (zs2 N cmd k0) n (ps,op,((i+d:Nat):Int))
 | 0,i,n,_,_=>rfl
 | d+1,i,n,hi,h=>by
   rw[show n+(d+1)=(n+d)+1 by omega,z1kt (by omega) (h i (Nat.le_refl _) (by omega)),z189 d (i+1) n (by omega) (fun m h1 h2=>h m (by omega) (by omega)),show i+1+d=i+(d+1) by omega]
theorem z1ph {N:Nat}{cmd:List UInt8}{k0:OpT->Option OpT}{ps:List (List UInt8)}{op:OpT}{n:Nat}:iter (zs2 N cmd k0) (n+1) (ps,op,((9:Nat):Int))=k0 op:=by
 rw[z6v];show z3o N op0 cmd glob0 ps op ((9:Nat):Int) (fun parts op x18=>iter (zs2 N cmd k0) n (parts,op,x18)) k0=_;simp only[z3o];rw[zf (zq (by omega))]
theorem z1kb (k:Nat){x2:OpT}{cmd:List UInt8}{f:zej}{x17:List zej}{x18:Int}{k0:List (List UInt8)->OpT->Option OpT}{kd:Int}{t:List UInt8}{n:Int}{x:List UInt8}{ws:List (List UInt8)}{u:Unit}(hf:f.2.2.2.2.2.1=true)(hw:∀ w∈ws,w.length<=2000)(hl:ws.length<=64) :
 z5i (k+1000000) x2 (ws.map z23) cmd (kd,t,n,x,[],u) f x17 x18 k0=k0 [] (kd,t,n,x,ws,u):=by
 simp only[z5i];rw[z3n (I:=fun (v:List (List UInt8)×OpT)=>∃ i,i<=ws.length/\v=((ws.drop i).map z23,(kd,t,n,x,ws.take i,u))) (m:=fun v=>v.1.length) (R:=fun _=>k0 [] (kd,t,n,x,ws,u)) ?_ (k+1000000) (ws.map z23,(kd,t,n,x,[],u)) ⟨0,by omega,rfl⟩ (by simp;omega)];rintro v r ⟨i,hi,rfl⟩ hr;dsimp only at hr ⊢;simp only[zb3,zb4,hf,cond_true];by_cases hlt:i<ws.length
 . have hwl:=hw _ (zq3 ws [] i hlt);have hq:=zcu (ws.getD i []);rw[z27 ws [] i hlt,List.map_cons,z8 (zh (by simp only[List.length_cons];omega)),zuz,Option.bind_some];dsimp only[List.headD_cons,List.tail_cons];rw[z1je k (by omega),Option.bind_some,z1mw hwl,z8 (zh (by rw[List.length_take];omega)),<- zjb ws [] i hlt];exact hr _ ⟨i+1,by omega,rfl⟩ (by simp only[List.length_map,List.length_drop];omega)
 . rw[z3z ws (by omega),List.take_of_length_le (by omega)];rfl
theorem z1a3 {op:OpT}{f:zej}(hf:f∈glob0)(h:zy9 op f=true)(hO:z13y op):(z7l (f.1::zcn op f)).length<=774600:=by
 have h1:=(z1ag f hf).1;obtain⟨h2,h3⟩:=z1h9 h hO;have:=zv6 (f.1::zcn op f);simp only[List.flatten_cons,List.length_append,List.length_cons] at this;omega
theorem z1mt (k:Nat){op:OpT}{f:zej}(hf:z13q op.1=some f)(h:zy9 op f=true)(hO:z13y op):z7k (k+1000000) (z7l (f.1::zcn op f))=some op:=by
 obtain⟨hk,hm⟩:=z17q hf;have hll:=z1a3 hm h hO;obtain⟨ht,ht',hn,hn',hx,hx',hw,hw'⟩:=zq5 h hO;simp only[z7k];rw[z1j0 _ (by omega) (by omega),z17x f.1 (zcn op f) (fun v hv=>by
  rcases List.mem_cons.1 hv with rfl|hv
  . exact znn (fun c hc=>⟨(z13s f hm c hc).1,(z13s f hm c hc).2.1⟩)
  . exact z1ha h hO v hv),Option.bind_some,zuz,Option.bind_some]
 dsimp only[List.headD_cons,List.tail_cons];obtain⟨j,hj,ej⟩:=List.getElem_of_mem hm;have hj9:j<9:=hj;have hg:glob0.getD j z11t=f:=by rw[List.getD_eq_getElem?_getD,List.getElem?_eq_getElem hj,ej];rfl
 have hap:∀ m,m<9->m≠j->(glob0.getD m z11t).1≠f.1:=fun m h1 h2=>by rw[<- hg];exact z1gi j hj9 m h1 h2
 show iter (zs2 (k+1000000) f.1 (fun op=>some (op.1,(op.2.1,(op.2.2.1,(op.2.2.2.1,(op.2.2.2.2.1,op.2.2.2.2.2))))))) (k+1000000) (zcn op f,op0,((0:Nat):Int))=some op;rw[show k+1000000=(k+(999999 - j))+1+j by omega,z189 j 0 _ (by omega) (fun m _ h2=>hap m (by omega) (by omega)),Nat.zero_add,z6v,show (k+(999999 - j))+1+j=k+1000000 by omega];have hfin:iter (zs2 (k+1000000) f.1 (fun op=>some (op.1,(op.2.1,(op.2.2.1,(op.2.2.2.1,(op.2.2.2.2.1,op.2.2.2.2.2))))))) (k+(999999 - j)) ([],op,((j+1:Nat):Int))=some op:=by
  rw[show k+(999999 - j)=(k+999990)+1+(8 - j) by omega,z189 (8 - j) (j+1) _ (by omega) (fun m h1 h2=>hap m (by omega) (by omega)),show j+1+(8 - j)=9 by omega,z1ph]
 show z3o (k+1000000) op0 f.1 glob0 (zcn op f) op0 (j:Int) (fun parts op x18=>iter (zs2 (k+1000000) f.1 _) (k+(999999 - j)) (parts,op,x18)) _=_;simp only[z3o];rw[z8 (zh (by omega)),z8 (z12 hj9),Int.toNat_natCast];rw[show List.getD glob0 j (([]:List UInt8),((0:Int),(false,(false,(false,(false,()))))))=f from hg];rw[zf (by rw[beq_self_eq_true];rfl),zz (by omega)];generalize iter (zs2 (k+1000000) f.1 (fun op=>some (op.1,(op.2.1,(op.2.2.1,(op.2.2.2.1,(op.2.2.2.2.1,op.2.2.2.2.2))))))) (k+(999999 - j))=G at hfin ⊢;obtain⟨kd,t,n,x,ws,u⟩:=op;dsimp only at hk ht ht' hn hn' hx hx' hw hw';simp only[zb7,zb6,zb5,zcn,op0,hk];have e5:∀ (k0:List (List UInt8)->OpT->Option OpT),z5i (k+1000000) op0 (cond f.2.2.2.2.2.1 (ws.map z23) []) f.1 (kd,t,n,x,[],()) f glob0 (j:Int) k0=k0 [] (kd,t,n,x,ws,()):=fun k0=>by
  cases e:f.2.2.2.2.2.1 with
  | true=>rw[cond_true,z1kb k e (hw e).1 (hw e).2]
  | false =>
    rw[cond_false,hw' e];simp only[z5i];rw[show k+1000000=(k+999999)+1 from rfl,z6v];simp only[zb3,zb4,e,cond_false]
 cases u;have a4:f.2.2.2.2.1=true->z1ai (Lib.itoa n,())=some (n,((),())):=fun e=>by
  obtain⟨h0,h1⟩:=hn e;have:=z1ea h0 h1;unfold z1ai;rw[z8 (zh (show (Lib.itoa n).length<=281474976710656 by omega))];show some (z15k (Lib.itoa n),((),()))=_;unfold z15k;rw[z1oi h0 h1]
 have a3:f.2.2.2.1=true->zef (k+1000000) (Lib.trimPrefix (120::zp5 x) [120])=some (x,true,()):=fun e=>by
  have:=hx e;have:=z9d x;rw[z1tu,z1io _ (by omega) (by omega),z1eo];rfl
 cases e1:f.2.2.1<;>cases e2:f.2.2.2.1<;>cases e3:f.2.2.2.2.1
 all_goals simp only[cond_true,cond_false,List.nil_append,List.cons_append,zuz,List.headD_cons,List.tail_cons,Option.bind_some]
 all_goals first|rw[a3 e2,Option.bind_some]|skip
 all_goals first|rw[a4 e3,Option.bind_some]|skip
 all_goals try (have q:=ht' e1;subst q)
 all_goals try (have q:=hx' e2;subst q)
 all_goals try (have q:=hn' e3;subst q)
 all_goals (refine (e5 _).trans ?_;exact hfin)
end
end Go.Proofs.YtkkkgfmjjkpjdaaGreatDoorLg
set_option linter.all false
set_option maxRecDepth 100000
namespace Go.Proofs.YtkkkgfmjjkpjdaaGreatDoorLg
noncomputable section
open Go Go.Lift Go.Lib Go.Proofs.YtkkkgfmjjkpjdaaGreatDoorPx
def opR (o:Option OpT):OpT×Bool×Unit:=match o with
 | some op=>(op,true,())
 | none=>(op0,false,())
def IsO (o:Option OpT)(s:List UInt8):Prop:=(∀ op,o=some op->zfv op=some s/\z13y op)/\(o=none->∀ op,z13y op->zfv op≠some s)
theorem z17m {op:OpT}{s:List UInt8}(h:zfv op=some s):∃ f,z13q op.1=some f/\zy9 op f=true/\z7l (f.1::zcn op f)=s:=by
 unfold zfv at h;cases hf:z13q op.1 with
 | none=>rw[hf] at h;cases h
 | some f =>
   rw[hf] at h;dsimp only at h;cases hq:zy9 op f with
   | false=>rw[hq] at h;cases h
   | true=>rw[hq] at h;exact⟨f,rfl,hq,Option.some.inj h⟩
theorem z14c (k:Nat){op:OpT}{s:List UInt8}(h:zfv op=some s)(hO:z13y op):z7k (k+1000000) s=some op:=by
 obtain⟨f,hf,hq,rfl⟩:=z17m h;exact z1mt k hf hq hO
theorem z1pu {op op':OpT}{s:List UInt8}(h:zfv op=some s)(h':zfv op'=some s)(hO:z13y op)(hO':z13y op'):op=op':=by
 have h1:=z14c 0 h hO;rw[z14c 0 h' hO'] at h1;exact (Option.some.inj h1).symm
theorem z1qx {o o':Option OpT}{s:List UInt8}(h:IsO o s)(h':IsO o' s):o=o':=by
 cases o with
 | none=>cases o' with
   | none=>rfl
   | some b=>exact absurd (h'.1 b rfl).1 (h.2 rfl b (h'.1 b rfl).2)
 | some a=>cases o' with
   | none=>exact absurd (h.1 a rfl).1 (h'.2 rfl a (h.1 a rfl).2)
   | some b=>rw[z1pu (h.1 a rfl).1 (h'.1 b rfl).1 (h.1 a rfl).2 (h'.1 b rfl).2]
theorem z1pk (k:Nat){s:List UInt8}{op:OpT}(hr:z7k (k+1000000) s=some op)(hl:op.2.2.2.2.1.length<=100000)(hO:z13y op) :
 z5j (k+1000000) s=some (opR (if zfv op=some s then some op else none)):=by
 simp only[z5j,zm9,zm8];rw[hr,Option.bind_some,z1nj k hl hO,Option.bind_some];cases h:zfv op with
 | none=>rw[if_neg (by simp)];rfl
 | some t =>
   by_cases e:t=s
   . subst e;rw[if_pos rfl];simp only[z1fs,Bool.not_true,cond_false,beq_self_eq_true];rfl
   . rw[if_neg (fun h=>e (Option.some.inj h))];have:(t == s)=false:=by rw[beq_eq_false_iff_ne];exact e
     simp only[z1fs,Bool.not_true,cond_false,this,Bool.not_false,cond_true];rfl
theorem z1d2 {op:OpT}{s:List UInt8}(h:zfv op=some s)(hO:z13y op):op.2.2.2.2.1.length<=100000:=by
 obtain⟨f,hf,hq,rfl⟩:=z17m h;obtain⟨_,_,_,_,_,_,hw,hw'⟩:=zq5 hq hO;cases e:f.2.2.2.2.2.1 with
 | true=>have:=(hw e).2;omega
 | false=>rw[hw' e];simp
theorem z1jg (k:Nat){s:List UInt8}(hs:s.length<=2000):∃ o,z5j (k+1000000) s=some (opR o)/\IsO o s:=by
 obtain⟨op,hr,h1,h2,h3⟩:=z1pi k hs;have hO:z13y op:=fun w hw=>by have:=h3 w hw;omega
 refine⟨_,z1pk k hr (by omega) hO,fun op' e=>?_,fun e op' hO' h'=>?_⟩
 . split at e
   . rename_i h;cases e;exact⟨h,hO⟩
   . cases e
 . have:op'=op:=by
    have:=z14c k h' hO';rw[hr] at this;exact (Option.some.inj this).symm
   subst this;rw[if_pos h'] at e;cases e
def z1j9 (op:OpT):Bool:=match z13q op.1 with
 | some f=>zy9 op f
 | none=>false
theorem z1aa {k:Int}(h:¬ (1<=k/\k<=9)):z13q k=none:=by
 unfold z13q;rw[List.find?_eq_none];have key:∀ g∈glob0,1<=g.2.1/\g.2.1<=9:=by decide
 intro g hg e;have:=key g hg;rw[beq_iff_eq] at e;omega
theorem z1kk (N:Nat){op:OpT}{k0:Bool->Option Bool}{k1:Option Bool}(hl:op.2.2.2.2.1.length<=10000000000)(hN:op.2.2.2.2.1.length<N) :
 zaa N op 0 k0 k1=cond (op.2.2.2.2.1.all (fun w=>decide (w.length<=2048))) k1 (k0 false):=by
 simp only[zaa];rw[z3n (I:=fun (v:Int)=>∃ i:Nat,v=(i:Int)/\i<=op.2.2.2.2.1.length) (m:=fun v=>op.2.2.2.2.1.length - v.toNat) (R:=fun v=>cond ((op.2.2.2.2.1.drop v.toNat).all (fun w=>decide (w.length<=2048))) k1 (k0 false)) ?_ N 0 ⟨0,rfl,by omega⟩ (by simp;omega)]
 . rfl
 rintro v r ⟨i,rfl,hi⟩ hr;rw[Int.toNat_natCast] at hr ⊢;simp only[za9,Int.toNat_natCast];by_cases hlt:i<op.2.2.2.2.1.length
 . rw[z8 (zh (by omega)),z8 (z12 hlt),z27 op.2.2.2.2.1 [] i hlt,List.all_cons];by_cases hw:(op.2.2.2.2.1.getD i []).length<=2048
   . rw[zf (zq (by omega)),zz (by omega),hr _ ⟨i+1,rfl,by omega⟩ (by simp;omega),Int.toNat_natCast,zh hw,Bool.true_and]
   . rw[z8 (zh (by omega)),zq hw];rfl
 . rw[zf (zq (by omega)),z3z op.2.2.2.2.1 (by omega)];rfl
theorem kinds {k:Int}(h:1<=k/\k<=9):k=1\/k=2\/k=3\/k=4\/k=5\/k=6\/k=7\/k=8\/k=9:=by omega
def formB (f:zej)(a0 a1 b0 b1 b2 c0 c1 d0 d1 d2:Bool):Bool:=(cond f.2.2.1 a0 a1) && (cond f.2.2.2.2.1 (b0 && b1) b2) && (cond f.2.2.2.1 c0 c1) && (cond f.2.2.2.2.2.1 (d0 && d1) d2)
theorem z1hc (N:Nat){op:OpT}(hl:op.2.2.2.2.1.length<=10000000000)(hN:op.2.2.2.2.1.length<N)(h40:40<N):z6q N op=some (z1j9 op):=by
 simp only[z6q,z1kk N hl hN,zag,zaf,zae,zad,zac,zab,z1kp N h40,Option.bind_some];obtain⟨kd,t,n,x,ws,⟨⟩⟩:=op;dsimp +instances only;by_cases hk:1<=kd/\kd<=9
 case neg =>
  unfold z1j9;rw[z1aa hk];by_cases h1:kd<1
  . rw[z8 (zh h1)];rfl
  . rw[zf (zq h1),z8 (zh (by omega))];rfl
 have f1:decide (n<0)=!decide (0<=n):=by rw[Bool.eq_iff_iff];simp
 have f2:decide (1099511627776<n)=!decide (n<=1099511627776):=by rw[Bool.eq_iff_iff];simp
 have f3:decide ((131072:Int)<((x.length:Nat):Int))=!decide (x.length<=131072):=by rw[Bool.eq_iff_iff];simp;omega
 have f4:decide ((64:Int)<((ws.length:Nat):Int))=!decide (ws.length<=64):=by rw[Bool.eq_iff_iff];simp;omega
 have f5:decide ((0:Int)<((ws.length:Nat):Int))=!(ws == []):=by
  rw[Bool.eq_iff_iff,decide_eq_true_eq,Bool.not_eq_true',beq_eq_false_iff_ne,ne_eq,<- List.length_eq_zero_iff];omega
 have f6:(n != 0)=!(n == 0):=rfl;have g1:(n == 0)=true->decide (0<=n)=true/\decide (n<=1099511627776)=true:=fun e=>by rw[beq_iff_eq] at e;subst e;exact⟨rfl,rfl⟩
 have g2:(x == [])=true->decide (x.length<=131072)=true:=fun e=>by rw[beq_iff_eq] at e;subst e;rfl
 have g3:(ws == [])=true->decide (ws.length<=64)=true/\ws.all (fun w=>decide (w.length<=2048))=true:=fun e=>by rw[beq_iff_eq] at e;subst e;exact⟨rfl,rfl⟩
 rw[f1,f2,f3,f4,f5,f6];have hR:z1j9 (kd,t,n,x,ws,())=(match z13q kd with|some f=>formB f (zro t) (t == []) (decide (0<=n)) (decide (n<=1099511627776)) (n == 0) (decide (x.length<=131072)) (x == []) (ws.all (fun w=>decide (w.length<=2048))) (decide (ws.length<=64)) (ws == [])|none=>false):=rfl;rw[hR];generalize zro t=a0;generalize (t == [])=a1;generalize decide (0<=n)=b0 at g1 ⊢;generalize decide (n<=1099511627776)=b1 at g1 ⊢;generalize (n == 0)=b2 at g1 ⊢;generalize decide (x.length<=131072)=c0 at g2 ⊢;generalize (x == [])=c1 at g2 ⊢;generalize ws.all (fun w=>decide (w.length<=2048))=d0 at g3 ⊢;generalize decide (ws.length<=64)=d1 at g3 ⊢;generalize (ws == [])=d2 at g3 ⊢;clear f1 f2 f3 f4 f5 f6 hl hN hR;rcases kinds hk with rfl|rfl|rfl|rfl|rfl|rfl|rfl|rfl|rfl
 all_goals revert a0 a1 b0 b1 b2 c0 c1 d0 d1 d2
 all_goals (clear hk t n x ws h40;decide +kernel)
theorem z1cy {k:Int}{f:zej}(h:z13q k=some f):f.2.2.1=decide (k<=5)/\f.2.2.2.1=(decide (k<=2) || k == 6)/\f.2.2.2.2.1=(k == 3 || k == 7)/\f.2.2.2.2.2.1=(k == 5)/\z3f 0 k=some f.1:=by
 by_cases hk:1<=k/\k<=9
 case neg=>rw[z1aa hk] at h;cases h
 rcases kinds hk with rfl|rfl|rfl|rfl|rfl|rfl|rfl|rfl|rfl
 all_goals (cases h;exact⟨rfl,rfl,rfl,rfl,rfl⟩)
theorem z1fm:∀ (m N u:Nat),u<10^(m+1)->u<=1000000000000000000->m<N->z2g N ((u:Nat):Int)=some (Lib.decDigits u)
 | m,0,u,_,_,h=>by omega
 | m,N + 1,u,hu,hu',hN=>by
   have one:∀ d,d<10->Lift.cut ([(48:UInt8),(49:UInt8),(50:UInt8),(51:UInt8),(52:UInt8),(53:UInt8),(54:UInt8),(55:UInt8),(56:UInt8),(57:UInt8)]:List UInt8) d (d+1)=[UInt8.ofNat (48+d)]:=by decide
   rw[z2g,zao,Lib.decDigits];by_cases h:u<10
   . rw[z8 (zh (by omega)),zz (by omega),z8 (zh ⟨by omega,by omega⟩),z8 (zh ⟨by omega,by omega⟩),Int.toNat_natCast,Int.toNat_natCast,one u h,dif_pos h]
   . have hq:((u:Nat):Int).tdiv 10=((u / 10:Nat):Int):=by rw[Int.tdiv_eq_ediv_of_nonneg (by omega)];omega
     have hr:((u:Nat):Int).tmod 10=((u % 10:Nat):Int):=by rw[Int.tmod_eq_emod_of_nonneg (by omega)];omega
     have hl:(Lib.decDigits (u / 10)).length<=1000000000000000001:=by have:=zgi (u / 10) (u / 10) (Nat.le_refl _);omega
     cases m with
     | zero=>omega
     | succ m =>
       rw[zf (zq (by omega)),hq,hr,z2v (by unfold I64;omega),z1fm m N (u / 10) (by rw[Nat.pow_succ] at hu;omega) (by omega) (by omega),Option.bind_some,zz (by omega),z8 (zh ⟨by omega,by omega⟩),z8 (zh ⟨by omega,by omega⟩),Int.toNat_natCast,Int.toNat_natCast,one _ (by omega),z8 (zh (by simp only[List.length_cons,List.length_nil];omega)),dif_neg h]
theorem z1fb (N:Nat){n:Int}(h0:0<=n)(h1:n<=1099511627776)(hN:20<N):z2g N n=some (Lib.itoa n):=by
 obtain⟨u,rfl⟩:=Int.eq_ofNat_of_zero_le h0;have hi:Lib.itoa (u:Int)=Lib.decDigits u:=by unfold Lib.itoa;rw[if_neg (by omega)];rfl
 rw[hi,z1fm 13 N u (by omega) (by omega) (by omega)]
def z5u (r:List (List UInt8)):List UInt8:=(r.map (fun v=>32::v)).flatten
theorem z1et (a b:List (List UInt8)):z5u (a++b)=z5u a++z5u b:=by simp[z5u]
theorem z62:∀ (w:List UInt8) (r:List (List UInt8)),z7l (w::r)=w++z5u r
 | w,[]=>by simp[z7l,z5u]
 | w,v::r=>by rw[z7l,z62 v r];simp[z5u]
theorem z1es (r:List (List UInt8)):(z5u r).length=r.flatten.length+r.length:=by
 induction r with
 | nil=>rfl
 | cons w r ih=>simp only[z5u,List.map_cons,List.flatten_cons,List.length_append,List.length_cons] at ih ⊢;omega
theorem z1dm (N:Nat){op:OpT}{s:List UInt8}{k0:List UInt8->Option (List UInt8×Bool×Unit)}(hl:op.2.2.2.2.1.length<=1000)(hs:s.length<=10000000)(hw:∀ w∈op.2.2.2.2.1,w.length<=2000)(hN:5000<=N) :
 zbn N op s 0 k0=k0 (s++z5u (op.2.2.2.2.1.map z23)):=by
 simp only[zbn];rw[z3n (I:=fun (v:List UInt8×Int)=>∃ (o:List UInt8) (i:Nat),v=(o,(i:Int))/\i<=op.2.2.2.2.1.length/\o.length<=10000000+9000*i) (m:=fun v=>op.2.2.2.2.1.length - v.2.toNat) (R:=fun v=>k0 (v.1++z5u ((op.2.2.2.2.1.drop v.2.toNat).map z23))) ?_ N (s,0) ⟨s,0,rfl,by omega,by omega⟩ (by simp;omega)]
 . rfl
 rintro v r ⟨o,i,rfl,hi,hq⟩ hr;dsimp only at hr ⊢;rw[Int.toNat_natCast] at hr ⊢;simp only[zbm,Int.toNat_natCast];by_cases hlt:i<op.2.2.2.2.1.length
 . have hwl:=hw _ (zq3 op.2.2.2.2.1 [] i hlt);have hql:=zcu (op.2.2.2.2.1.getD i []);rw[z8 (zh (by omega)),z8 (zh (by omega)),z8 (z12 hlt),z1hb N hwl (by omega),Option.bind_some,z8 (zh (by simp only[List.length_append,List.length_cons,List.length_nil];omega)),zz (by omega),hr ((o++[32])++z23 (op.2.2.2.2.1.getD i []),((i+1:Nat):Int)) ⟨_,i+1,rfl,by omega,by simp only[List.length_append,List.length_cons,List.length_nil];omega⟩ (by dsimp only;omega)];dsimp only;rw[Int.toNat_natCast,z27 op.2.2.2.2.1 [] i hlt,List.map_cons];simp[z5u]
 . rw[zf (zq (by omega)),z3z op.2.2.2.2.1 (by omega)];simp[z5u]
theorem z14b (k:Nat) {op:OpT} (hl:op.2.2.2.2.1.length<=100000) (hO:z13y op):z1p (k+1000000) op=some (z1fs (zfv op)):=by
 simp only[z1p];rw[z1hc _ (by omega) (by omega) (by omega),Option.bind_some];unfold z1j9 zfv;cases hf:z13q op.1 with
 | none=>rfl
 | some f =>
   dsimp only;cases h:zy9 op f with
   | false=>rfl
   | true =>
     obtain⟨e1,e2,e3,e4,e5⟩:=z1cy hf;have e5':z3f (k+1000000) op.1=some f.1:=e5;obtain⟨hk,hm⟩:=z17q hf;have hc:=(z1ag f hm).1;obtain⟨ht,ht',hn,hn',hx,hx',hw,hw'⟩:=zq5 h hO;rw[Bool.not_true,cond_false,e5',Option.bind_some,cond_true];have hws:(∀ w∈op.2.2.2.2.1,w.length<=2000)/\op.2.2.2.2.1.length<=64:=by
      cases e:f.2.2.2.2.2.1 with
      | true=>exact hw e
      | false=>rw[hw' e];simp
     have hww:z5u (op.2.2.2.2.1.map z23)=z5u (cond f.2.2.2.2.2.1 (op.2.2.2.2.1.map z23) []):=by
      cases e:f.2.2.2.2.2.1 with
      | true=>rfl
      | false=>rw[hw' e];rfl
     have w1:∀ (s:List UInt8) (k0:List UInt8->Option (List UInt8×Bool×Unit)),s.length<=1000->z7a (k+1000000) op s k0=k0 (s++z5u (cond f.2.2.1 [op.2.1] [])):=fun s k0 hs=>by
      simp only[z7a];rw[<- e1];cases e:f.2.2.1 with
      | false=>rw[cond_false,cond_false];simp[z5u]
      | true =>
        have hwl:=ht e;simp only[zro,Bool.and_eq_true,decide_eq_true_eq] at hwl;rw[cond_true,cond_true,z8 (zh (by omega)),z8 (zh (by simp only[List.length_append,List.length_cons,List.length_nil];omega))];simp[z5u]
     have w2:∀ (s:List UInt8) (k0:List UInt8->Option (List UInt8×Bool×Unit)),s.length<=2000->z79 (k+1000000) op s k0=k0 (s++z5u (cond f.2.2.2.1 [120::zp5 op.2.2.2.1] [])):=fun s k0 hs=>by
      simp only[z79,zbp];have push:∀ (X:Bool->Option (List UInt8×Bool×Unit)),cond (decide (op.1<=2)) (X true) (X (op.1 == 6))=X f.2.2.2.1:=by intro X;rw[e2];cases decide (op.1<=2)<;>rfl
      rw[push (fun x27=>cond x27 _ _)];cases e:f.2.2.2.1 with
      | false=>rw[cond_false,cond_false];simp[z5u]
      | true =>
        have hxl:=hx e;have hh:=z9d op.2.2.2.1;rw[cond_true,cond_true,z8 (zh (by omega)),z1fd _ (by omega) (by omega),Option.bind_some,z8 (zh (by simp only[List.length_append,List.length_cons,List.length_nil];omega))];simp[z5u]
     have w3:∀ (s:List UInt8) (k0:List UInt8->Option (List UInt8×Bool×Unit)),s.length<=300000->z78 (k+1000000) op s k0=k0 (s++z5u (cond f.2.2.2.2.1 [Lib.itoa op.2.2.1] [])):=fun s k0 hs=>by
      simp only[z78,zbo];have push:∀ (X:Bool->Option (List UInt8×Bool×Unit)),cond (op.1 == 3) (X true) (X (op.1 == 7))=X f.2.2.2.2.1:=by intro X;rw[e3];cases (op.1 == 3)<;>rfl
      rw[push (fun x41=>cond x41 _ _)];cases e:f.2.2.2.2.1 with
      | false=>rw[cond_false,cond_false];simp[z5u]
      | true =>
        obtain⟨h0,h1⟩:=hn e;have hh:=z1ea h0 h1;rw[cond_true,cond_true,z8 (zh (by omega)),z1fb _ h0 h1 (by omega),Option.bind_some,z8 (zh (by simp only[List.length_append,List.length_cons,List.length_nil];omega))];simp[z5u]
     have l1:(z5u (cond f.2.2.1 [op.2.1] [])).length<=33:=by
      cases e:f.2.2.1
      . simp[z5u]
      . have:=ht e;simp only[zro,Bool.and_eq_true,decide_eq_true_eq] at this;simp[z5u];omega
     have l2:(z5u (cond f.2.2.2.1 [120::zp5 op.2.2.2.1] [])).length<=262146:=by
      cases e:f.2.2.2.1
      . simp[z5u]
      . have:=hx e;have:=z9d op.2.2.2.1;simp[z5u];omega
     have l3:(z5u (cond f.2.2.2.2.1 [Lib.itoa op.2.2.1] [])).length<=14:=by
      cases e:f.2.2.2.2.1
      . simp[z5u]
      . have:=z1ea (hn e).1 (hn e).2;simp[z5u];omega
     rw[w1 _ _ (by omega),w2 _ _ (by simp only[List.length_append];omega),w3 _ _ (by simp only[List.length_append];omega),z1dm _ (by omega) (by simp only[List.length_append];omega) hws.1 (by omega),z62,hww];simp only[zcn,z1et,List.append_assoc,z1fs]
end
end Go.Proofs.YtkkkgfmjjkpjdaaGreatDoorLg
set_option linter.all false
set_option maxRecDepth 100000
namespace Go.Proofs.YtkkkgfmjjkpjdaaGreatDoorLg
noncomputable section
open Go Go.Lift Go.Lib Go.Proofs.YtkkkgfmjjkpjdaaGreatDoorPx
def zrp:List UInt8->List UInt8×List UInt8
 | []=>([],[])
 | c::r=>if c=32 then ([],r) else (c::(zrp r).1,(zrp r).2)
theorem zmj:∀ s,(zrp s).1.length+(zrp s).2.length<=s.length
 | []=>by simp[zrp]
 | c::r=>by
   have:=zmj r;simp only[zrp];split
   . simp
   . simp only[List.length_cons];omega
theorem z140:∀ (w:List UInt8) (r:List (List UInt8)),(∀ c∈w,c≠32)->zrp (w++z5u r)=(w,z7l r)
 | [],[],_=>rfl
 | [],v::r,_=>by
   rw[List.nil_append,z62];simp[z5u,zrp]
 | c::w,r,h=>by
   rw[List.cons_append,zrp,if_neg (h c List.mem_cons_self),z140 w r (fun d hd=>h d (List.mem_cons_of_mem _ hd))]
theorem z17g (N:Nat){s:List UInt8}(hs:s.length<=10000000)(hN:s.length<N):z5y N s=some ((zrp s).1,((zrp s).2,())):=by
 simp only[z5y,zji];rw[z3n (I:=fun (v:Int)=>∃ i:Nat,v=(i:Int)/\i<=s.length) (m:=fun v=>s.length - v.toNat) (R:=fun v=>some (s.take v.toNat++(zrp (s.drop v.toNat)).1,((zrp (s.drop v.toNat)).2,()))) ?_ N 0 ⟨0,rfl,by omega⟩ (by simp;omega)]
 . simp
 rintro v r ⟨i,rfl,hi⟩ hr;rw[Int.toNat_natCast] at hr ⊢;simp only[zbg,Int.toNat_natCast];by_cases hlt:i<s.length
 . rw[z8 (zh (by omega)),z8 (z12 hlt),z27 s 0 i hlt];have q32:((((s.getD i 0).toNat:Nat):Int) == 32)=decide (s.getD i 0=32):=by rw[Bool.eq_iff_iff,beq_iff_eq,decide_eq_true_eq,<- UInt8.toNat_inj];show _ ↔ (s.getD i 0).toNat=32;omega
   rw[q32,zrp];by_cases h:s.getD i 0=32
   . rw[z8 (zh h),if_pos h,z8 (zh ⟨by omega,by omega⟩),zz (by omega),z8 (zh ⟨by omega,by omega⟩),Int.toNat_natCast,z1k3,zva,List.append_nil]
   . rw[zf (zq h),if_neg h,zz (by omega),hr _ ⟨i+1,rfl,by omega⟩ (by simp;omega),Int.toNat_natCast,zjb s 0 i hlt,List.append_assoc];rfl
 . rw[zf (zq (by omega)),z3z s (by omega),List.take_of_length_le (by omega)];simp[zrp]
def z1m3:List UInt8->List UInt8
 | a::b::r=>if zp1 a.toNat<16/\zp1 b.toNat<16 then UInt8.ofNat (16*zp1 a.toNat+zp1 b.toNat)::z1m3 r else []
 | _=>[]
theorem z17v:∀ (n:Nat) (s:List UInt8),s.length<=n->(z1m3 s).length<=s.length
 | _,[],_=>by simp[z1m3]
 | _,[_],_=>by simp[z1m3]
 | 0,_::_::_,h=>by simp at h
 | n+1,a::b::r,h=>by
   rw[z1m3];split
   . have:=z17v n r (by simp at h;omega);simp only[List.length_cons];omega
   . simp
theorem z1iq:∀ s:List UInt8,z1m3 (zp5 s)=s
 | []=>rfl
 | u::r=>by
   have hu:=z9m u;have k:∀ n,n<16->zp1 (hd n).toNat=n:=by decide
   rw[zp5,z1m3,k _ (by omega),k _ (by omega),if_pos ⟨by omega,by omega⟩,z1iq r,show 16*(u.toNat / 16)+u.toNat % 16=u.toNat by omega,UInt8.ofNat_toNat]
set_option maxRecDepth 10000000 in
theorem z1pc:∀ b:Fin 256,z6p 0 (b.1:Int)=some (if zp1 b.1<16 then (zp1 b.1:Int) else -1):=by decide +kernel
theorem z1ml (N:Nat)(u:UInt8):z6p N ((u.toNat:Nat):Int)=some (if zp1 u.toNat<16 then (zp1 u.toNat:Int) else -1):=z1pc ⟨u.toNat,u.toNat_lt⟩
theorem z1ep (N:Nat){s:List UInt8}(hs:s.length<=10000000)(hN:s.length<N)(h0:s≠[]):z42 N s=some (z1m3 (s.drop 1)):=by
 have hs0:1<=s.length:=by cases s;exact absurd rfl h0;simp
 simp only[z42,zgl];rw[z3n (I:=fun (v:List UInt8×Int)=>∃ (o:List UInt8) (i:Nat),v=(o,(i:Int))/\o.length<=i/\i<=s.length+1) (m:=fun v=>s.length+1 - v.2.toNat) (R:=fun v=>some (v.1++z1m3 (s.drop v.2.toNat))) ?_ N ([],1) ⟨[],1,rfl,by simp,by omega⟩ (by dsimp only;omega)]
 . rfl
 rintro v r ⟨o,i,rfl,ho,hi⟩ hr;dsimp only at hr ⊢;rw[Int.toNat_natCast] at hr ⊢;simp only[za4,za7,za6,za5];rw[zz (by omega)];by_cases hlt:i+1<s.length
 . rw[z8 (zh (by omega)),z8 (z12 (by omega)),Int.toNat_natCast,z1ml,Option.bind_some,z8 (z12 hlt),Int.toNat_natCast,z1ml,Option.bind_some,z27 s 0 i (by omega),z27 s 0 (i+1) hlt,z1m3];generalize s.getD i 0=a;generalize s.getD (i+1) 0=b;by_cases h1:zp1 a.toNat<16
   case neg=>rw[if_neg h1,z8 (zh (by omega)),cond_true,if_neg (fun h=>h1 h.1),List.append_nil]
   rw[if_pos h1,zf (zq (by omega))];by_cases h2:zp1 b.toNat<16
   case neg=>rw[if_neg h2,zh (by omega),cond_true,if_neg (fun h=>h2 h.2),List.append_nil]
   have e:∀ x y:Nat,x<16->y<16->toStr [IntKind.wrap .u8 (IntKind.wrap .i64 (IntKind.wrap .i64 (16*(x:Int))+(y:Int)))]=[UInt8.ofNat (16*x+y)]:=fun x y hx hy=>by
    rw[z2v (x:=16*(x:Int)) (by unfold I64;omega),z2v (by unfold I64;omega),z13z (by omega) (by omega)];have:(UInt8.ofNat (16*x+y)).toNat=16*x+y:=by rw[UInt8.toNat_ofNat'];omega
    have h:=z1kd (UInt8.ofNat (16*x+y));rw[this] at h;rw[<- h];congr 2
   rw[if_pos h2,zq (by omega),cond_false,if_pos ⟨h1,h2⟩,e _ _ h1 h2,z8 (zh (by simp only[List.length_cons,List.length_nil];omega)),z2v (by unfold I64;omega),show ((i:Int)+2)=((i+2:Nat):Int) by omega,hr _ ⟨_,i+2,rfl,by simp only[List.length_append,List.length_cons,List.length_nil];omega,by omega⟩ (by dsimp only;omega)];dsimp only;rw[Int.toNat_natCast,List.append_assoc];rfl
 . rw[zf (zq (by omega))];have:z1m3 (s.drop i)=[]:=by
    have hl:(s.drop i).length<=1:=by rw[List.length_drop];omega
    match h:s.drop i with
    | []=>rfl
    | [_]=>rfl
    | _::_::_=>rw[h] at hl;simp at hl
   rw[this,List.append_nil]
theorem z1m1 (N:Nat)(hN:0<N):z42 N []=some []:=by
 obtain⟨n,rfl⟩:=Nat.exists_eq_succ_of_ne_zero (by omega:N≠0);rfl
theorem z1m2 (N:Nat){s:List UInt8}(hs:s.length<=10000000)(hN:s.length<N):∃ b,z42 N s=some b/\b.length<=s.length:=by
 by_cases h:s=[]
 . subst h;exact⟨[],z1m1 N (by simpa using hN),by simp⟩
 . refine⟨_,z1ep N hs hN h,?_⟩;have:=z17v (s.drop 1).length (s.drop 1) (Nat.le_refl _);rw[List.length_drop] at this;omega
def dgB (n:Nat):Nat->List UInt8->Nat
 | 0,_=>n
 | _+1,[]=>n
 | c+1,u::r=>if 48<=u.toNat/\u.toNat<=57 then dgB (10*n+(u.toNat - 48)) c r else n
theorem z1gc (N:Nat){s:List UInt8}(hs:s.length<=10000000)(hN:20<N):z65 N s=some ((dgB 0 14 s:Nat):Int):=by
 simp only[z65,zex];rw[z3n (I:=fun (v:Int×Int)=>∃ (n i:Nat),v=((n:Int),(i:Int))/\i<=s.length/\i<=14/\n<10^i) (m:=fun v=>14 - v.2.toNat) (R:=fun v=>some ((dgB v.1.toNat (14 - v.2.toNat) (s.drop v.2.toNat):Nat):Int)) ?_ N (0,0) ⟨0,0,rfl,by omega,by omega,by decide⟩ (by simp;omega)]
 . rfl
 rintro v r ⟨n,i,rfl,hi,hi14,hn⟩ hr;dsimp only at hr ⊢;rw[Int.toNat_natCast] at hr;rw[Int.toNat_natCast,Int.toNat_natCast];simp only[z8x,z91,z90,z8z,z8y];by_cases hlt:i<s.length
 case neg=>rw[zf (zq (by omega)),z3z s (by omega)];cases (14 - i)<;>rfl
 rw[z8 (zh (by omega))];by_cases h14:i<14
 case neg=>rw[zf (zq (by omega)),show 14 - i=0 by omega];rfl
 have hb:=z9m (s.getD i 0);rw[z8 (zh (by omega)),z8 (z12 hlt),Int.toNat_natCast,z27 s 0 i hlt,show 14 - i=(14 - (i+1))+1 by omega,dgB];by_cases h1:48<=(s.getD i 0).toNat
 case neg=>rw[z8 (zh (by omega)),cond_true,if_neg (by omega)]
 rw[zf (zq (by omega)),z8 (z12 hlt)];by_cases h2:(s.getD i 0).toNat<=57
 case neg=>rw[zh (by omega),cond_true,if_neg (by omega)]
 have hp:(10:Nat)^i<=10^13:=Nat.pow_le_pow_right (by omega) (by omega);have hp2:(10:Nat)^(i+1)=10*10^i:=by rw[Nat.pow_succ];omega
 have hp3:(10:Nat)^13=10000000000000:=by decide
 rw[zq (by omega),cond_false,z8 (z12 hlt),if_pos ⟨h1,h2⟩,zp6,z2v (x:=10*(n:Int)) (by unfold I64;omega),z2v (x:=10*(n:Int)+_) (by unfold I64;omega),z2v (by unfold I64;omega),zz (by omega),show 10*(n:Int)+(((s.getD i 0).toNat:Nat):Int) - 48=((10*n+((s.getD i 0).toNat - 48):Nat):Int) by omega,hr _ ⟨_,i+1,rfl,by omega,by omega,by omega⟩ (by dsimp only;omega)];dsimp only;rw[Int.toNat_natCast,Int.toNat_natCast]
theorem z1o6:∀ (m u c:Nat) (r:List UInt8),u<10^(m+1)->∃ c',c<=c'/\dgB 0 (c+(m+1)) (Lib.decDigits u++r)=dgB u c' r
 | m,u,c,r,hu=>by
   have step:∀ (a d c:Nat) (r:List UInt8),d<10->dgB a (c+1) (UInt8.ofNat (48+d)::r)=dgB (10*a+d) c r:=fun a d c r hd=>by
    have e:(UInt8.ofNat (48+d)).toNat=48+d:=by rw[UInt8.toNat_ofNat'];omega
    rw[dgB,e,if_pos ⟨by omega,by omega⟩,Nat.add_sub_cancel_left]
   rw[Lib.decDigits];by_cases h:u<10
   . rw[dif_pos h,List.singleton_append,<- Nat.add_assoc,step 0 u _ _ h];exact⟨c+m,by omega,by rw[Nat.mul_zero,Nat.zero_add]⟩
   . rw[dif_neg h,List.append_assoc];cases m with
     | zero=>omega
     | succ m =>
       obtain⟨c',h1,h2⟩:=z1o6 m (u / 10) (c+1) ([UInt8.ofNat (48+u % 10)]++r) (by rw[Nat.pow_succ] at hu;omega);rw[show c+(m+1+1)=c+1+(m+1) by omega,h2];refine⟨c' - 1,by omega,?_⟩;rw[show c'=(c' - 1)+1 by omega,List.singleton_append,step _ _ _ _ (by omega),Nat.add_sub_cancel];congr 1;omega
theorem z1i9 {n:Int}(h0:0<=n)(h1:n<=1099511627776):((dgB 0 14 (Lib.itoa n):Nat):Int)=n:=by
 obtain⟨u,rfl⟩:=Int.eq_ofNat_of_zero_le h0;have hi:Lib.itoa (u:Int)=Lib.decDigits u:=by unfold Lib.itoa;rw[if_neg (by omega)];rfl
 obtain⟨c',_,h2⟩:=z1o6 13 u 0 [] (by omega);rw[List.append_nil,Nat.zero_add] at h2;rw[hi,h2];cases c'<;>rfl
theorem z18b (s:List UInt8):∀ (f i:Nat) (o:List UInt8),(zs4 s f i o).2.2.1.1=0->∃ e:Nat,(zs4 s f i o).2.1=(e:Int)/\i<e/\e<=s.length
 | 0,i,o,h=>by simp[zs4] at h
 | f + 1,i,o,h=>by
   simp only[zs4] at h ⊢;split at h
   case isFalse=>dsimp only at h;omega
   rename_i hi;rw[if_pos hi];split at h
   . rename_i h34;rw[if_pos h34];exact⟨i+1,rfl,by omega,by omega⟩
   rename_i h34;rw[if_neg h34];split at h
   . rename_i h92;rw[if_pos h92];cases he:z1li (s.drop (i+1)) with
     | cut=>rw[he] at h;dsimp only at h;omega
     | bad=>rw[he] at h;dsimp only at h;omega
     | ok b n =>
       rw[he] at h;have:=z1g7 he;obtain⟨e,h1,h2,h3⟩:=z18b s f (i+n) _ h;exact⟨e,h1,by omega,h3⟩
   rename_i h92;rw[if_neg h92];split at h
   . rename_i hsf;rw[if_pos hsf];have:=z3e hi;obtain⟨e,h1,h2,h3⟩:=z18b s f _ _ h;exact⟨e,h1,by omega,h3⟩
   . dsimp only at h;omega
theorem z1hd (k:Nat){s:List UInt8}{at_:Nat}(hs:s.length<=300000)(ha:at_<s.length):∃ x:RdT,z4x (k+1000000) s (at_:Int)=some x/\x.1.length<=s.length/\(x.2.2.1.1=0->∃ e:Nat,x.2.1=(e:Int)/\at_<e/\e<=s.length):=by
 by_cases h3:(s.getD at_ 0).toNat=34
 . refine⟨_,z1cg _ hs (by omega) ha h3,?_,fun h=>?_⟩
   . have:=zmm s s.length (at_+1) [];unfold zvt;simp only[List.length_nil] at this;omega
   . obtain⟨e,h1,h2,h3⟩:=z18b s s.length (at_+1) [] h;exact⟨e,h1,by omega,h3⟩
 . refine⟨([],0,(2,(at_:Int),()),()),?_,by simp,fun h=>by dsimp only at h;omega⟩;simp only[z4x,z7g,z7f];rw[zf (zq (by omega)),zf (zq (by omega)),zf (by rw[beq_eq_false_iff_ne];omega),z8 (z12 ha),Int.toNat_natCast,z8 (by rw[bne_iff_ne];omega)]
def z1om (L:Nat)(op:OpT):Prop:=op.2.2.2.2.1.length<=L+1/\∀ w∈op.2.2.2.2.1,w.length<=L
abbrev PaT:=OpT×Bool×Unit
theorem z1hj (k L:Nat)(hL:L<=2000){P:Option PaT->Prop}{s first rest:List UInt8}{x2:OpT}{kd:Int}{op:OpT}{k0:OpT->Bool->Option PaT}{k1:OpT->Option PaT}(hr:rest.length<=L)(h:op.2.2.2.2.1=[])
 (hk0:P (k0 op0 false)) (hk1:∀ op',z1om L op'->P (k1 op')):P (z1d (k+1000000) s x2 first rest kd op 0 k0 k1):=by
 simp only[z1d,z6g];refine zme (I:=fun (v:OpT×Int)=>∃ at_:Nat,v.2=(at_:Int)/\at_<=L+1/\v.1.2.2.2.2.1.length<=at_/\∀ w∈v.1.2.2.2.2.1,w.length<=L) (m:=fun v=>L+1 - v.2.toNat) (p:=P) ?_ (k+1000000) (op,0) ⟨0,rfl,by omega,by rw[h];simp,by rw[h];simp⟩ (by simp;omega);rintro⟨oq,v⟩ r ⟨a,hv,ha,hl,hw⟩ hrec;dsimp only at hv hl hw hrec ⊢;subst hv;rw[Int.toNat_natCast] at hrec;simp only[z55,z4a];have hend:P (k1 oq):=hk1 oq ⟨by omega,hw⟩;cases (kd == 5) with
 | false=>exact hend
 | true =>
   rw[cond_true];by_cases hlt:a<rest.length
   case neg=>rw[zf (zq (by omega))];exact hend
   rw[z8 (zh (by omega))];obtain⟨x,hx,hxl,hxe⟩:=z1hd k (by omega) hlt;rw[hx,Option.bind_some];by_cases h0:x.2.2.1.1=0
   case neg=>rw[z8 (by rw[bne_iff_ne];exact h0)];exact hk0
   obtain⟨e,he,h1,h2⟩:=hxe h0;rw[zf (by rw[h0];rfl),z8 (zh (by omega)),he,zz (by omega)];refine hrec (_,((e+1:Nat):Int)) ⟨e+1,rfl,by omega,by simp only[List.length_append,List.length_cons,List.length_nil];omega,fun w hw'=>?_⟩ (by dsimp only;rw[Int.toNat_natCast];omega);rcases List.mem_append.1 hw' with hw'|hw'
   . exact hw w hw'
   . rw[List.mem_singleton.1 hw'];omega
theorem z1hk (k:Nat) {P:Option PaT->Prop} {s first rest:List UInt8} {x2:OpT} {kd:Int} {k0:List UInt8->Option PaT} {k1:OpT->Bool->Option PaT} (hs:s.length<=2000) (hr:rest.length<=s.length) (hk:1<=kd/\kd<=9)
 (hk0:∀ rest',rest'.length<=s.length->P (k0 rest')) (hkn:P (k1 op0 false)) (hk1:∀ op,z13y op->zfv op=some s->P (k1 op true)):P (z3u (k+1000000) s x2 first rest kd k0 k1):=by
 simp only[z3u];have hF:∃ w,z3f (k+1000000) kd=some w:=by rcases kinds hk with rfl|rfl|rfl|rfl|rfl|rfl|rfl|rfl|rfl<;>exact⟨_,rfl⟩
 obtain⟨w,hw⟩:=hF;rw[hw,Option.bind_some];cases (!(w == first)) with
 | true=>exact hk0 rest hr
 | false =>
   rw[cond_false]
   -- the line
   have cL:∀ (rest1:List UInt8) (op3:OpT),rest1.length<=s.length->z1om s.length op3->P ((z1p (k+1000000) (op3.1,(op3.2.1,(op3.2.2.1,(op3.2.2.2.1,(op3.2.2.2.2.1,op3.2.2.2.2.2)))))).bind fun y1=>z1i (k+1000000) s x2 first rest1 kd (op3.1,(op3.2.1,(op3.2.2.1,(op3.2.2.2.1,(op3.2.2.2.2.1,op3.2.2.2.2.2))))) y1.1 y1.2.1 (fun x92=>cond x92 (k1 (op3.1,(op3.2.1,(op3.2.2.1,(op3.2.2.2.1,(op3.2.2.2.2.1,op3.2.2.2.2.2))))) true) (k0 rest1))):=fun rest1 op3 h1 h3=>by
    have hO:z13y op3:=fun w hw=>by have:=h3.2 w hw;omega
    rw[z14b k (op:=(op3.1,(op3.2.1,(op3.2.2.1,(op3.2.2.2.1,(op3.2.2.2.2.1,op3.2.2.2.2.2)))))) (by have:=h3.1;dsimp only;omega) hO,Option.bind_some];show P (z1i (k+1000000) s x2 first rest1 kd op3 (z1fs (zfv op3)).1 (z1fs (zfv op3)).2.1 (fun x92=>cond x92 (k1 op3 true) (k0 rest1)));simp only[z1i];cases hl:zfv op3 with
    | none=>exact hk0 rest1 h1
    | some t =>
      show P (cond (t == s) (k1 op3 true) (k0 rest1));by_cases e:t=s
      . rw[z8 (by rw[beq_iff_eq];exact e)];exact hk1 op3 hO (by rw[hl,e])
      . rw[zf (by rw[beq_eq_false_iff_ne];exact e)];exact hk0 rest1 h1
   have c8:∀ (rest1:List UInt8) (op2:OpT),rest1.length<=s.length->op2.2.2.2.2.1=[]->P (z1d (k+1000000) s x2 first rest1 kd op2 (0:Int) (fun x21 x3=>k1 x21 x3) (fun op3=>(z1p (k+1000000) (op3.1,(op3.2.1,(op3.2.2.1,(op3.2.2.2.1,(op3.2.2.2.2.1,op3.2.2.2.2.2)))))).bind fun y1=>z1i (k+1000000) s x2 first rest1 kd (op3.1,(op3.2.1,(op3.2.2.1,(op3.2.2.2.1,(op3.2.2.2.2.1,op3.2.2.2.2.2))))) y1.1 y1.2.1 (fun x92=>cond x92 (k1 (op3.1,(op3.2.1,(op3.2.2.1,(op3.2.2.2.1,(op3.2.2.2.2.1,op3.2.2.2.2.2))))) true) (k0 rest1)))):=fun rest1 op2 h1 h2 =>
    z1hj k s.length hs h1 h2 hkn (fun op' h'=>cL rest1 op' h1 h')
   have c46:∀ (rest1:List UInt8) (op:OpT),rest1.length<=s.length->op.2.2.2.2.1=[]->P (z2y (k+1000000) s x2 first rest1 kd op (fun op1=>z2b (k+1000000) s x2 first rest1 kd op1 (fun op2=>z1d (k+1000000) s x2 first rest1 kd op2 (0:Int) (fun x21 x3=>k1 x21 x3) (fun op3=>(z1p (k+1000000) (op3.1,(op3.2.1,(op3.2.2.1,(op3.2.2.2.1,(op3.2.2.2.2.1,op3.2.2.2.2.2)))))).bind fun y1=>z1i (k+1000000) s x2 first rest1 kd (op3.1,(op3.2.1,(op3.2.2.1,(op3.2.2.2.1,(op3.2.2.2.2.1,op3.2.2.2.2.2))))) y1.1 y1.2.1 (fun x92=>cond x92 (k1 (op3.1,(op3.2.1,(op3.2.2.1,(op3.2.2.2.1,(op3.2.2.2.2.1,op3.2.2.2.2.2))))) true) (k0 rest1)))))):=fun rest1 op h1 h2=>by
    have c6:∀ (op1:OpT),op1.2.2.2.2.1=[]->P (z2b (k+1000000) s x2 first rest1 kd op1 (fun op2=>z1d (k+1000000) s x2 first rest1 kd op2 (0:Int) (fun x21 x3=>k1 x21 x3) (fun op3=>(z1p (k+1000000) (op3.1,(op3.2.1,(op3.2.2.1,(op3.2.2.2.1,(op3.2.2.2.2.1,op3.2.2.2.2.2)))))).bind fun y1=>z1i (k+1000000) s x2 first rest1 kd (op3.1,(op3.2.1,(op3.2.2.1,(op3.2.2.2.1,(op3.2.2.2.2.1,op3.2.2.2.2.2))))) y1.1 y1.2.1 (fun x92=>cond x92 (k1 (op3.1,(op3.2.1,(op3.2.2.1,(op3.2.2.2.1,(op3.2.2.2.2.1,op3.2.2.2.2.2))))) true) (k0 rest1))))):=fun op1 h3=>by
     simp only[z2b,z6h];rw[z1gc _ (by omega) (by omega),Option.bind_some];cases (kd == 3) with
     | true=>exact c8 rest1 _ h1 h3
     | false=>cases (kd == 7) with
       | true=>exact c8 rest1 _ h1 h3
       | false=>exact c8 rest1 _ h1 h3
    obtain⟨b,hb,_⟩:=z1m2 (k+1000000) (s:=rest1) (by omega) (by omega);simp only[z2y,z6i];rw[hb,Option.bind_some];cases decide (kd<=2) with
    | true=>exact c6 _ h2
    | false=>cases (kd == 6) with
      | true=>exact c6 _ h2
      | false=>exact c6 _ h2
   simp only[z6j];cases decide (kd<=5) with
   | false=>exact c46 rest _ hr rfl
   | true =>
     have:=zmj rest;rw[cond_true,z17g _ (by omega) (by omega),Option.bind_some];exact c46 _ _ (by dsimp only;omega) rfl
abbrev zu7 (N:Nat)(s first:List UInt8):(List UInt8×Int)->((List UInt8×Int)->Option PaT)->Option PaT :=
 fun v r=>z2a N s op0 first v.1 v.2 (fun rest k=>r (rest,k)) (fun x2 x3=>some (x2,(x3,()))) (some (op0,(false,())))
theorem z1ar (k:Nat){s:List UInt8}(hs:s.length<=2000):∃ o,z2t (k+1000000) s=some (opR o)/\∀ op,o=some op->zfv op=some s/\z13y op:=by
 have hwl:=zmj s;simp only[z2t,zah];rw[z17g _ (by omega) (by omega),Option.bind_some];refine zme (I:=fun (v:List UInt8×Int)=>v.1.length<=s.length/\∃ i:Nat,v.2=(i:Int)/\1<=i/\i<=10) (m:=fun v=>10 - v.2.toNat) (p:=fun x=>∃ o,x=some (opR o)/\∀ op,o=some op->zfv op=some s/\z13y op) ?_ (k+1000000) ((zrp s).2,1) ⟨by dsimp only;omega,1,rfl,by omega,by omega⟩ (by simp);rintro⟨rest,v⟩ r ⟨hr,i,hv,hi1,hi⟩ hrec;dsimp only at hr hv hrec ⊢;subst hv;rw[Int.toNat_natCast] at hrec;simp only[z2a];by_cases hlt:i<=9
 case neg=>rw[zf (zq (by omega))];exact⟨none,rfl,fun op e=>by cases e⟩
 rw[z8 (zh (by omega)),zz (by omega)];refine z1hk (P:=fun x=>∃ o,x=some (opR o)/\∀ op,o=some op->zfv op=some s/\z13y op) k hs hr ⟨by omega,by omega⟩ (fun rest' h'=>hrec (rest',_) ⟨h',i+1,rfl,by omega,by omega⟩ (by dsimp only;rw[Int.toNat_natCast];omega)) ⟨none,rfl,fun op e=>by cases e⟩ (fun op hO hl=>⟨some op,rfl,fun op' e=>by cases e;exact⟨hl,hO⟩⟩)
theorem z1cb (v:List UInt8)(r:List (List UInt8)):z5u (v::r)=32::z7l (v::r):=by rw[z62];simp[z5u]
theorem z1gu (k:Nat) {s first rest:List UInt8} {x2:OpT} {t:List UInt8} {n:Int} {x:List UInt8} {ws:List (List UInt8)} {k0:OpT->Bool->Option PaT} {k1:OpT->Option PaT} (hr:rest.length<=2000) (hw:∀ w∈ws,w.length<=2000) (he:rest=z7l (ws.map z23)) :
 z1d (k+1000000) s x2 first rest 5 (5,t,n,x,[],()) 0 k0 k1=k1 (5,t,n,x,ws,()):=by
 simp only[z1d,z6g];have hwl:ws.length<=rest.length:=by
  have key:∀ l:List (List UInt8),l.length<=(z7l (l.map z23)).length:=by
   intro l;cases l with
   | nil=>simp
   | cons w r =>
     rw[List.map_cons,z62,List.length_append,z1es];simp only[z23,List.length_cons,List.length_map];omega
  rw[he];exact key ws
 rw[z3n (I:=fun (v:OpT×Int)=>∃ (i p:Nat),i<=ws.length/\v=((5,t,n,x,ws.take i,()),(p:Int))/\p<=rest.length+1/\(i<ws.length->rest.drop p=z7l ((ws.drop i).map z23)/\p<rest.length)/\(i=ws.length->rest.length<=p)) (m:=fun v=>rest.length+1 - v.2.toNat) (R:=fun _=>k1 (5,t,n,x,ws,())) ?_ (k+1000000) ((5,t,n,x,[],()),0) ⟨0,0,by omega,rfl,by omega,fun h=>⟨he,by omega⟩,fun h=>by
  have:ws=[]:=List.length_eq_zero_iff.1 h.symm;rw[he,this];simp[z7l]⟩ (by simp;omega)]
 rintro v r ⟨i,p,hi,rfl,hp,h1,h2⟩ hrec;dsimp only at hrec ⊢;rw[Int.toNat_natCast] at hrec;simp only[z55,z4a];rw[z8 (by rfl)];by_cases hlt:i<ws.length
 case neg =>
  have:=h2 (by omega);rw[zf (zq (by omega)),List.take_of_length_le (by omega)]
 obtain⟨h3,h4⟩:=h1 hlt;have hwi:=hw _ (zq3 ws [] i hlt);rw[z27 ws [] i hlt,List.map_cons,z62] at h3;have htk:=zjb ws [] i hlt;generalize ws.getD i []=w at h3 hwi htk;have h34:rest.getD p 0=34:=by
  have:=z6w rest p 0;rw[h3] at this;exact this.symm
 have hd:rest.drop (p+1)=z6b w 0++34::z5u ((ws.drop (i+1)).map z23):=by
  rw[<- List.drop_drop,h3];show (List.drop 1 (34::((z6b w 0++[34])++z5u ((ws.drop (i+1)).map z23))))=_;simp
 have hlen:rest.length=p+1+((z6b w 0).length+1+(z5u ((ws.drop (i+1)).map z23)).length):=by
  have:=congrArg List.length hd;rw[List.length_drop,List.length_append,List.length_cons] at this;omega
 have hd2:rest.drop (p+1+((z6b w 0).length+1))=z5u ((ws.drop (i+1)).map z23):=by
  rw[<- List.drop_drop,hd,show z6b w 0++34::z5u ((ws.drop (i+1)).map z23)=(z6b w 0++[34])++z5u ((ws.drop (i+1)).map z23) by simp,List.drop_left' (by simp)]
 rw[z8 (zh (by omega)),z1cg _ (by omega) (by omega) h4 (by rw[h34];rfl),Option.bind_some,z18a hwi (by omega) (by omega) hd];rw[zf (by rfl),z8 (zh (by rw[List.length_take];omega)),zz (by omega),<- htk];refine hrec _ ⟨i+1,p+1+(z6b w 0).length+1+1,by omega,rfl,by omega,fun h=>?_,fun h=>?_⟩ (by dsimp only;rw[Int.toNat_natCast];omega)
 . rw[z27 ws [] (i+1) h,List.map_cons,z1cb] at hd2 hlen;rw[z27 ws [] (i+1) h,List.map_cons];have h5:2<=(z7l (z23 (ws.getD (i+1) [])::(ws.drop (i+1+1)).map z23)).length:=by
    rw[z62,List.length_append];simp only[z23,List.length_cons,List.length_append,List.length_nil];omega
   simp only[List.length_cons] at hlen;refine⟨?_,by omega⟩;rw[show p+1+(z6b w 0).length+1+1=(p+1+((z6b w 0).length+1))+1 by omega,<- List.drop_drop,hd2];rfl
 . rw[z3z ws (by omega)] at hlen;simp only[List.map_nil,z5u,List.flatten_nil,List.length_nil] at hlen;omega
theorem z1nw {k:Int}{f:zej}(h:z13q k=some f):(f.2.2.2.1=true->f.2.2.2.2.1=false/\f.2.2.2.2.2.1=false)/\(f.2.2.2.2.1=true->f.2.2.2.2.2.1=false)/\∃ m,1<=m/\m<=9/\k=((m:Nat):Int)/\f=glob0.getD (m - 1) z11t:=by
 by_cases hk:1<=k/\k<=9
 case neg=>rw[z1aa hk] at h;cases h
 rcases kinds hk with rfl|rfl|rfl|rfl|rfl|rfl|rfl|rfl|rfl
 . cases h;exact⟨by decide,by decide,1,by decide,by decide,rfl,rfl⟩
 . cases h;exact⟨by decide,by decide,2,by decide,by decide,rfl,rfl⟩
 . cases h;exact⟨by decide,by decide,3,by decide,by decide,rfl,rfl⟩
 . cases h;exact⟨by decide,by decide,4,by decide,by decide,rfl,rfl⟩
 . cases h;exact⟨by decide,by decide,5,by decide,by decide,rfl,rfl⟩
 . cases h;exact⟨by decide,by decide,6,by decide,by decide,rfl,rfl⟩
 . cases h;exact⟨by decide,by decide,7,by decide,by decide,rfl,rfl⟩
 . cases h;exact⟨by decide,by decide,8,by decide,by decide,rfl,rfl⟩
 . cases h;exact⟨by decide,by decide,9,by decide,by decide,rfl,rfl⟩
theorem z1jv (N:Nat){m:Nat}(h1:1<=m)(h2:m<=9):z3f N (m:Int)=some (glob0.getD (m - 1) z11t).1:=by
 obtain rfl|rfl|rfl|rfl|rfl|rfl|rfl|rfl|rfl:m=1\/m=2\/m=3\/m=4\/m=5\/m=6\/m=7\/m=8\/m=9:=by omega
 all_goals rfl
theorem z1cj {N:Nat}{s first rest:List UInt8}:∀ (d i n:Nat),1<=i->i+d<=10->(∀ m,i<=m->m<i+d->(glob0.getD (m - 1) z11t).1≠first)->iter (zu7 N s first) (n+d) (rest,(i:Int))=iter (zu7 N s first) n (rest,((i+d:Nat):Int))
 | 0,i,n,_,_,_=>rfl
 | d + 1,i,n,h1,hi,h=>by
   have e:iter (zu7 N s first) ((n+d)+1) (rest,(i:Int))=iter (zu7 N s first) (n+d) (rest,((i+1:Nat):Int)):=by
    rw[z6v];show z2a N s op0 first rest (i:Int) (fun rest k=>iter (zu7 N s first) (n+d) (rest,k)) _ _=_
    simp only[z2a,z3u];rw[z8 (zh (by omega)),z1jv N h1 (by omega),Option.bind_some,z8 (by rw[Bool.not_eq_true',beq_eq_false_iff_ne];exact h i (Nat.le_refl _) (by omega)),zz (by omega)]
   rw[show n+(d+1)=(n+d)+1 by omega,e,z1cj d (i+1) n (by omega) (by omega) (fun m h1 h2=>h m (by omega) (by omega)),show i+1+d=i+(d+1) by omega]
abbrev z1pv (N:Nat)(s first:List UInt8)(m:Int)(G:List UInt8->Option PaT)(rest1:List UInt8)(op3:OpT):Option PaT :=
 (z1p N (op3.1,(op3.2.1,(op3.2.2.1,(op3.2.2.2.1,(op3.2.2.2.2.1,op3.2.2.2.2.2)))))).bind fun y1=>z1i N s op0 first rest1 m (op3.1,(op3.2.1,(op3.2.2.1,(op3.2.2.2.1,(op3.2.2.2.2.1,op3.2.2.2.2.2))))) y1.1 y1.2.1 (fun x92=>cond x92 (some ((op3.1,(op3.2.1,(op3.2.2.1,(op3.2.2.2.1,(op3.2.2.2.2.1,op3.2.2.2.2.2))))),(true,()))) (G rest1))
set_option maxHeartbeats 4000000 in
theorem z1dn (k:Nat){s:List UInt8}{op:OpT}(hs:s.length<=2000)(h:zfv op=some s)(hO:z13y op):z2t (k+1000000) s=some (op,true,()):=by
 obtain⟨f,hf,hq,hsj⟩:=z17m h;obtain⟨x1,x2,m,hm1,hm9,hkm,hfm⟩:=z1nw hf;obtain⟨e1,e2,e3,e4,e5⟩:=z1cy hf;obtain⟨hk,hm⟩:=z17q hf;obtain⟨ht,ht',hn,hn',hx,hx',hw,hw'⟩:=zq5 hq hO;have hrl:z1p (k+1000000) op=some (s,true,()):=by
  rw[z14b k (z1d2 h hO) hO,h];rfl
 have hlen:(z7l (zcn op f)).length<=s.length:=by
  rw[<- hsj,z62,List.length_append];cases zcn op f with
  | nil=>simp[z7l]
  | cons v r=>rw[z1cb];simp only[List.length_cons];omega
 simp only[z2t,zah];rw[z17g _ (by omega) (by omega),Option.bind_some];rw[show zrp s=(f.1,z7l (zcn op f)) by rw[<- hsj,z62,z140 _ _ (fun c hc=>(z13s f hm c hc).2.1)]];show iter (zu7 (k+1000000) s f.1) (k+1000000) (z7l (zcn op f),((1:Nat):Int))=_;rw[show k+1000000=(k+(1000000 - m))+1+(m - 1) by omega,z1cj (m - 1) 1 _ (by omega) (by omega) (fun q h1 h2=>by rw[hfm];exact z1gi (m - 1) (by omega) (q - 1) (by omega) (by omega)),z6v,show (k+(1000000 - m))+1+(m - 1)=k+1000000 by omega,show 1+(m - 1)=m by omega];show z2a (k+1000000) s op0 f.1 (z7l (zcn op f)) (m:Int) (fun rest q=>iter (zu7 (k+1000000) s f.1) (k+(1000000 - m)) (rest,q)) (fun x2 x3=>some (x2,(x3,()))) (some (op0,(false,())))=_;simp only[z2a];rw[z8 (zh (by omega))];generalize (fun rest1=>(fun rest q=>iter (zu7 (k+1000000) s f.1) (k+(1000000 - m)) (rest,q)) rest1 (IntKind.wrap .i64 ((m:Int)+1)))=G;simp only[z3u];rw[z1jv _ hm1 hm9,Option.bind_some,<- hfm,zf (by rw[beq_self_eq_true];rfl)];obtain⟨kd,t,n,x,ws,⟨⟩⟩:=op;dsimp only at hkm ht ht' hn hn' hx hx' hw hw' e1 e2 e3 e4;subst hkm;have hws:∀ w∈ws,w.length<=2000:=by
  cases e:f.2.2.2.2.2.1 with
  | true=>exact (hw e).1
  | false=>rw[hw' e];simp
 have s8:∀ (rest1:List UInt8) (k0:OpT->Bool->Option PaT) (k1:OpT->Option PaT),rest1.length<=2000->(f.2.2.2.2.2.1=true->rest1=z7l (ws.map z23))->z1d (k+1000000) s op0 f.1 rest1 (m:Int) ((m:Int),t,n,x,[],()) 0 k0 k1=k1 ((m:Int),t,n,x,ws,()):=fun rest1 k0 k1 hr he=>by
  cases e:f.2.2.2.2.2.1 with
  | true =>
    rw[e] at e4;have h5:(m:Int)=5:=beq_iff_eq.1 e4.symm;rw[h5];exact z1gu k hr hws (he e)
  | false =>
    rw[hw' e];rw[e] at e4;simp only[z1d,z6g];rw[show k+1000000=(k+999999)+1 from rfl,z6v];simp only[z55,z4a];rw[zf e4.symm]
 have s6:∀ (rest1:List UInt8) (k0:OpT->Option PaT),rest1.length<=2000->(f.2.2.2.2.1=true->rest1=Lib.itoa n)->z2b (k+1000000) s op0 f.1 rest1 (m:Int) ((m:Int),t,0,x,[],()) k0=k0 ((m:Int),t,n,x,[],()):=fun rest1 k0 hr he=>by
  simp only[z2b,z6h];have push:∀ (X:Bool->Option PaT),cond ((m:Int) == 3) (X true) (X ((m:Int) == 7))=X f.2.2.2.2.1:=by intro X;rw[e3];cases ((m:Int) == 3)<;>rfl
  rw[push (fun x51=>cond x51 _ _)];cases e:f.2.2.2.2.1 with
  | true =>
    obtain⟨h0,h1⟩:=hn e;rw[cond_true,z1gc _ (by omega) (by omega),Option.bind_some,he e,z1i9 h0 h1]
  | false=>rw[cond_false,hn' e]
 have s4:∀ (rest1:List UInt8) (k0:OpT->Option PaT),rest1.length<=2000->(f.2.2.2.1=true->rest1=120::zp5 x)->z2y (k+1000000) s op0 f.1 rest1 (m:Int) ((m:Int),t,0,[],[],()) k0=k0 ((m:Int),t,0,x,[],()):=fun rest1 k0 hr he=>by
  simp only[z2y,z6i];have push:∀ (X:Bool->Option PaT),cond (decide ((m:Int)<=2)) (X true) (X ((m:Int) == 6))=X f.2.2.2.1:=by intro X;rw[e2];cases decide ((m:Int)<=2)<;>rfl
  rw[push (fun x42=>cond x42 _ _)];cases e:f.2.2.2.1 with
  | true =>
    rw[cond_true,z1ep _ (by omega) (by omega) (by rw[he e];simp),Option.bind_some,he e];rw[show List.drop 1 (120::zp5 x)=zp5 x from rfl,z1iq]
  | false=>rw[cond_false,hx' e]
 -- what is left behind the tenant
 have R:(z7l ((cond f.2.2.2.1 [120::zp5 x] [])++((cond f.2.2.2.2.1 [Lib.itoa n] [])++(cond f.2.2.2.2.2.1 (ws.map z23) [])))).length<=2000->∀ (k0:OpT->Bool->Option PaT) (k1:List UInt8->OpT->Option PaT),z2y (k+1000000) s op0 f.1 (z7l ((cond f.2.2.2.1 [120::zp5 x] [])++((cond f.2.2.2.2.1 [Lib.itoa n] [])++(cond f.2.2.2.2.2.1 (ws.map z23) [])))) (m:Int) ((m:Int),t,0,[],[],()) (fun op1=>z2b (k+1000000) s op0 f.1 (z7l ((cond f.2.2.2.1 [120::zp5 x] [])++((cond f.2.2.2.2.1 [Lib.itoa n] [])++(cond f.2.2.2.2.2.1 (ws.map z23) [])))) (m:Int) op1 (fun op2=>z1d (k+1000000) s op0 f.1 (z7l ((cond f.2.2.2.1 [120::zp5 x] [])++((cond f.2.2.2.2.1 [Lib.itoa n] [])++(cond f.2.2.2.2.2.1 (ws.map z23) [])))) (m:Int) op2 0 k0 (fun op3=>k1 (z7l ((cond f.2.2.2.1 [120::zp5 x] [])++((cond f.2.2.2.2.1 [Lib.itoa n] [])++(cond f.2.2.2.2.2.1 (ws.map z23) [])))) op3)))=k1 (z7l ((cond f.2.2.2.1 [120::zp5 x] [])++((cond f.2.2.2.2.1 [Lib.itoa n] [])++(cond f.2.2.2.2.2.1 (ws.map z23) [])))) ((m:Int),t,n,x,ws,()):=by
  generalize hg:z7l ((cond f.2.2.2.1 [120::zp5 x] [])++((cond f.2.2.2.2.1 [Lib.itoa n] [])++(cond f.2.2.2.2.2.1 (ws.map z23) [])))=g;intro hr k0 k1;rw[s4 g _ hr (fun e=>by rw[<- hg,e,(x1 e).1,(x1 e).2];rfl),s6 g _ hr (fun e=>by
   have hb:f.2.2.2.1=false:=by cases h:f.2.2.2.1;rfl;exact absurd (x1 h).1 (by rw[e];simp)
   rw[<- hg,hb,e,x2 e];rfl),s8 g _ _ hr (fun e=>by
   have hb:f.2.2.2.1=false:=by cases h:f.2.2.2.1;rfl;exact absurd (x1 h).2 (by rw[e];simp)
   have hc:f.2.2.2.2.1=false:=by cases h:f.2.2.2.2.1;rfl;exact absurd (x2 h) (by rw[e];simp)
   rw[<- hg,hb,hc,e];rfl)]
 have fin:∀ (rest1:List UInt8),z1pv (k+1000000) s f.1 (m:Int) G rest1 ((m:Int),t,n,x,ws,())=some (((m:Int),t,n,x,ws,()),true,()):=fun rest1=>by
  unfold z1pv;dsimp only;rw[hrl,Option.bind_some];simp only[z1i,beq_self_eq_true,cond_true]
 simp only[z6j];rw[<- e1];simp only[zcn] at hlen ⊢;cases e:f.2.2.1 with
 | true =>
   rw[e] at hlen;simp only[cond_true,List.singleton_append] at hlen ⊢;rw[z62] at hlen ⊢;have hwl:=z140 t ((cond f.2.2.2.1 [120::zp5 x] [])++((cond f.2.2.2.2.1 [Lib.itoa n] [])++(cond f.2.2.2.2.2.1 (ws.map z23) []))) (fun c hc=>(zve (ht e) c hc).2.1);have hl2:=zmj (t++z5u ((cond f.2.2.2.1 [120::zp5 x] [])++((cond f.2.2.2.2.1 [Lib.itoa n] [])++(cond f.2.2.2.2.2.1 (ws.map z23) []))));rw[hwl] at hl2;dsimp only at hl2;rw[z17g _ (by omega) (by omega),Option.bind_some,hwl];exact (R (by omega) (fun x2 x3=>some (x2,(x3,()))) (z1pv (k+1000000) s f.1 (m:Int) G)).trans (fin _)
 | false =>
   rw[e] at hlen;simp only[cond_false,List.nil_append] at hlen ⊢;have:=ht' e;subst this;exact (R (by omega) (fun x2 x3=>some (x2,(x3,()))) (z1pv (k+1000000) s f.1 (m:Int) G)).trans (fin _)
theorem z1he (k:Nat){s:List UInt8}(hs:s.length<=2000):∃ o,z2t (k+1000000) s=some (opR o)/\IsO o s:=by
 obtain⟨o,h1,h2⟩:=z1ar k hs;refine⟨o,h1,h2,fun e op hO hl=>?_⟩;rw[z1dn k hs hl hO,e] at h1;have:=congrArg (fun z:Option PaT=>z.map (fun y=>y.2.1)) h1;simp[opR] at this
theorem z1f0 (N:Nat){l:List (List UInt8)}(hl:l.length<=10000000)(hN:l.length<N):z57 N l l=some true:=by
 simp only[z57,zd0];rw[zf (by simp)];rw[z3n (I:=fun (v:Int)=>∃ i:Nat,v=(i:Int)/\i<=l.length) (m:=fun v=>l.length - v.toNat) (R:=fun _=>some true) ?_ N 0 ⟨0,rfl,by omega⟩ (by simp;omega)];rintro v r ⟨i,rfl,hi⟩ hr;rw[Int.toNat_natCast] at hr;simp only[z7j,Int.toNat_natCast];by_cases hlt:i<l.length
 . rw[z8 (zh (by omega)),z8 (z12 hlt),z8 (z12 hlt),zf (by rw[beq_self_eq_true];rfl),zz (by omega)];exact hr _ ⟨i+1,rfl,by omega⟩ (by simp;omega)
 . rw[zf (zq (by omega))]
theorem z1mh (N:Nat){op:OpT}(hl:op.2.2.2.2.1.length<=10000000)(hN:op.2.2.2.2.1.length<N):z3g N op op=some true:=by
 simp only[z3g,beq_self_eq_true,cond_true,z1f0 N hl hN,Option.bind_some]
theorem z1q0 (N:Nat){op:OpT}(hN:100<N):∃ b,z5l N op=some b/\(b=false->op.2.1.length<=100/\op.2.2.2.2.1.length<=70/\(op.2.2.2.1.length<=500\/131072<op.2.2.2.1.length)/\∀ w∈op.2.2.2.2.1,w.length<=300\/2048<w.length):=by
 simp only[z5l,zan,zam];by_cases h1:op.2.1.length<=100
 case neg=>rw[z8 (zh (by omega))];exact⟨true,rfl,fun e=>by cases e⟩
 rw[zf (zq (by omega))];by_cases h2:op.2.2.2.2.1.length<=70
 case neg=>rw[z8 (zh (by omega))];exact⟨true,rfl,fun e=>by cases e⟩
 rw[zf (zq (by omega))];have tail:∃ b,zal N op 0 (fun x21=>some x21) (some false)=some b/\(b=false->∀ w∈op.2.2.2.2.1,w.length<=300\/2048<w.length):=by
  simp only[zal];have key:=zme (step:=fun (v:Int) r=>z6k N op v (fun i=>(r i)) (fun x21=>some x21) (some false)) (I:=fun (v:Int)=>∃ i:Nat,v=(i:Int)/\i<=op.2.2.2.2.1.length/\∀ w∈op.2.2.2.2.1.take i,w.length<=300\/2048<w.length) (m:=fun v=>op.2.2.2.2.1.length - v.toNat) (p:=fun o=>∃ b,o=some b/\(b=false->∀ w∈op.2.2.2.2.1,w.length<=300\/2048<w.length)) ?_ N 0 ⟨0,rfl,by omega,by simp⟩ (by simp;omega)
  . exact key
  rintro v r ⟨i,rfl,hi,ht⟩ hr;rw[Int.toNat_natCast] at hr;simp only[z6k,zak,zaj,Int.toNat_natCast];by_cases hlt:i<op.2.2.2.2.1.length
  case neg=>rw[zf (zq (by omega))];exact⟨false,rfl,fun _=>by rw[List.take_of_length_le (by omega)] at ht;exact ht⟩
  have hgo:(op.2.2.2.2.1.getD i []).length<=300\/2048<(op.2.2.2.2.1.getD i []).length->∃ b,r (IntKind.wrap .i64 ((i:Int)+1))=some b/\(b=false->∀ w∈op.2.2.2.2.1,w.length<=300\/2048<w.length):=fun h=>by
   rw[zz (by omega)];refine hr _ ⟨i+1,rfl,by omega,fun w hw=>?_⟩ (by simp;omega);rw[zjb op.2.2.2.2.1 [] i hlt] at hw;rcases List.mem_append.1 hw with hw|hw
   . exact ht w hw
   . rw[List.mem_singleton.1 hw];exact h
  rw[z8 (zh (by omega)),z8 (z12 hlt)];by_cases h3:(op.2.2.2.2.1.getD i []).length<=300
  . rw[zf (zq (by omega)),cond_false];exact hgo (.inl h3)
  rw[z8 (zh (by omega)),z8 (z12 hlt)];by_cases h4:(op.2.2.2.2.1.getD i []).length<=2048
  . rw[zh (by omega),cond_true];exact⟨true,rfl,fun e=>by cases e⟩
  . rw[zq (by omega),cond_false];exact hgo (.inr (by omega))
 obtain⟨b,hb,hb'⟩:=tail;by_cases h3:op.2.2.2.1.length<=500
 . rw[zf (zq (by omega)),cond_false,hb];exact⟨b,rfl,fun e=>⟨h1,h2,.inl h3,hb' e⟩⟩
 rw[z8 (zh (by omega))];by_cases h4:op.2.2.2.1.length<=131072
 . rw[zh (by omega),cond_true];exact⟨true,rfl,fun e=>by cases e⟩
 . rw[zq (by omega),cond_false,hb];exact⟨b,rfl,fun e=>⟨h1,h2,.inr (by omega),hb' e⟩⟩
theorem z1c8 (k:Nat):z45 (k+1000000)=some true:=by kernel_rfl
end
end Go.Proofs.YtkkkgfmjjkpjdaaGreatDoorLg
