import Derived.Test.YtlmlihfmoabinaaDoorLgPrOb6
import Derived.Test.YtlmlihfmoabinaaDoorLgPrOb7
import Derived.Lib.DecodeN
import Derived.Test.YtlmlihfmoabinaaDoorLgPrOb1
import Derived.Test.YtlmlihfmoabinaaDoorLgPrOb2
import Derived.Test.YtlmlihfmoabinaaDoorChecked
import Derived.KernelRfl
set_option linter.all false
namespace Go.Proofs.YtlmlihfmoabinaaDoorLg
noncomputable section
open Go Go.Lift Go.Lib Go.Proofs.YtlmlihfmoabinaaDoorPx
set_option maxRecDepth 10000000 in
theorem z18g:∀ b:Fin 256,glob5.getD b.1 0=((firstT b.1:Nat):Int):=by decide +kernel
theorem z12d (b:UInt8):List.getD glob5 (Int.toNat ((b.toNat:Nat):Int)) 0=((firstT b.toNat:Nat):Int):=by
 rw[Int.toNat_natCast];exact z18g ⟨b.toNat,b.toNat_lt⟩
theorem za1 (N:Nat){s:List UInt8}{c:Nat}{sz lo hi:Nat}(hs:1<=s.length)(hx:firstT (s.getD 0 0).toNat=c)(h240:c<240)(e0:inR (shrI .u8 (c:Int) 4) 16=true)
 (e1:IntKind.wrap .i64 (bitsOp .and .u8 (c:Int) 7)=(sz:Int)) (e2:List.getD glob6 (Int.toNat (shrI .u8 (c:Int) 4)) ((0:Int),((0:Int),()))=((lo:Int),(hi:Int),())) (hz:2<=sz) (hz4:sz<=4) :
 ∃ r,zg N s=some (r,(((slowN s.length (s.getD 0 0).toNat (s.getD 1 0).toNat (s.getD 2 0).toNat (s.getD 3 0).toNat sz lo hi).2:Nat):Int),()):=by
 have hb:=zaf (s.getD 0 0);simp only[zg,z12d,hx,e0,e1,e2];rw[zl (z24 (by omega)),zb (zab (by omega) (by omega)),zb (z28 hb),zl (z24 (by omega)),cond_true];unfold slowN;by_cases h1:s.length<sz
 . rw[zb (z11 (by omega)),if_pos h1];exact⟨_,rfl⟩
 rw[zl (z24 (by omega)),if_neg h1,zb (zab (by omega) (by omega))];simp only[z1s,z1r];by_cases h2:(s.getD 1 0).toNat<lo
 . rw[zb (z11 (by omega)),if_pos (Or.inl h2)];exact⟨_,rfl⟩
 rw[zl (z24 (by omega))];by_cases h3:hi<(s.getD 1 0).toNat
 . rw[zb (z11 (by omega)),if_pos (Or.inr h3)];exact⟨_,rfl⟩
 rw[zl (z24 (by omega)),if_neg (by omega)];by_cases h4:sz<=2
 . rw[zb (z11 (by omega)),if_pos h4];exact⟨_,rfl⟩
 rw[zl (z24 (by omega)),if_neg h4,zb (zab (by omega) (by omega))];simp only[z1q,z1p];by_cases h5:(s.getD 2 0).toNat<128
 . rw[zb (z11 (by omega)),if_pos (Or.inl h5)];exact⟨_,rfl⟩
 rw[zl (z24 (by omega))];by_cases h6:191<(s.getD 2 0).toNat
 . rw[zb (z11 (by omega)),if_pos (Or.inr h6)];exact⟨_,rfl⟩
 rw[zl (z24 (by omega)),if_neg (by omega)];by_cases h7:sz<=3
 . rw[zb (z11 (by omega)),if_pos h7];exact⟨_,rfl⟩
 rw[zl (z24 (by omega)),if_neg h7,zb (zab (by omega) (by omega))];simp only[z1o,z1n];by_cases h8:(s.getD 3 0).toNat<128
 . rw[zb (z11 (by omega)),if_pos (Or.inl h8)];exact⟨_,rfl⟩
 rw[zl (z24 (by omega))];by_cases h9:191<(s.getD 3 0).toNat
 . rw[zb (z11 (by omega)),if_pos (Or.inr h9)];exact⟨_,rfl⟩
 rw[zl (z24 (by omega)),if_neg (by omega)];exact⟨_,rfl⟩
theorem z17l (N:Nat){s:List UInt8}(hs:1<=s.length)(hx:firstT (s.getD 0 0).toNat=241):∃ r,zg N s=some (r,1,()):=by
 have hb:=zaf (s.getD 0 0);simp only[zg,z12d,hx];rw[zl (z24 (by omega)),zb (zab (by omega) (by omega)),zb (z28 hb),zb (z11 (by omega)),zb (zab (by omega) (by omega))];exact⟨_,rfl⟩
abbrev dN (s:List UInt8)(i:Nat):Nat×Nat:=decodeN (s.length - i) (s.getD i 0).toNat (s.getD (i+1) 0).toNat (s.getD (i+2) 0).toNat (s.getD (i+3) 0).toNat
theorem z18p {n b0 b1 b2 b3:Nat}(h:(128<=b0/\b0<194)\/245<=b0)(hb:b0<256)(h1:b1<256):(decodeN n b0 b1 b2 b3).2=1:=by
 unfold decodeN
 repeat' split
 all_goals first|rfl|(exfalso;omega)
theorem z18h (N:Nat){s:List UInt8}(hs:1<=s.length):∃ r,z1a N s=some (r,(((dN s 0).2:Nat):Int),()):=by
 have hb0:=zaf (s.getD 0 0);have hb1:=zaf (s.getD 1 0);have hb2:=zaf (s.getD 2 0);have hb3:=zaf (s.getD 3 0);have hne:(s == ([]:List UInt8))=false:=by
  rw[beq_eq_false_iff_ne];intro e;rw[e] at hs;simp at hs
 simp only[z1a,z2a,hne,Bool.not_false,cond_true,dN,Nat.sub_zero,Nat.zero_add];rw[zb (zab (by omega) (by omega))];by_cases ha:(s.getD 0 0).toNat<128
 . rw[zb (z11 (by omega)),zb (zab (by omega) (by omega)),decodeN_ascii _ _ _ _ _ ha];exact⟨_,rfl⟩
 rw[zl (z24 (by omega))];have fin:∀ {m:Nat},(∃ r,zg N s=some (r,((m:Nat):Int),()))->m=(decodeN s.length (s.getD 0 0).toNat (s.getD 1 0).toNat (s.getD 2 0).toNat (s.getD 3 0).toNat).2->∃ r,((zg N s).bind fun y=>some (y.1,(y.2.1,())))=some (r,(((decodeN s.length (s.getD 0 0).toNat (s.getD 1 0).toNat (s.getD 2 0).toNat (s.getD 3 0).toNat).2:Nat):Int),()):=by
  rintro m ⟨r,e⟩ h;rw[e,<- h];exact⟨_,rfl⟩
 have hbad:firstT (s.getD 0 0).toNat=241->((128<=(s.getD 0 0).toNat/\(s.getD 0 0).toNat<194)\/245<=(s.getD 0 0).toNat)->∃ r,((zg N s).bind fun y=>some (y.1,(y.2.1,())))=some (r,(((decodeN s.length (s.getD 0 0).toNat (s.getD 1 0).toNat (s.getD 2 0).toNat (s.getD 3 0).toNat).2:Nat):Int),()) :=
  fun h1 h2=>fin (m:=1) (z17l N hs h1) (z18p h2 hb0 hb1).symm
 by_cases c1:(s.getD 0 0).toNat<194
 . exact hbad (by unfold firstT;rw[if_neg ha,if_pos c1]) (by omega)
 by_cases c2:(s.getD 0 0).toNat<224
 . exact fin (za1 N (c:=2) (sz:=2) (lo:=128) (hi:=191) hs (by unfold firstT;rw[if_neg ha,if_neg c1,if_pos c2]) (by omega) (by kernel_rfl) (by kernel_rfl) (by kernel_rfl) (by omega) (by omega)) (by rw[slow_C2 _ _ _ _ _ hs hb1 hb2 hb3 (by omega)])
 by_cases c3:(s.getD 0 0).toNat=224
 . exact fin (za1 N (c:=19) (sz:=3) (lo:=160) (hi:=191) hs (by rw[c3];rfl) (by omega) (by kernel_rfl) (by kernel_rfl) (by kernel_rfl) (by omega) (by omega)) (by rw[slow_E0 _ _ _ _ _ hs hb1 hb2 hb3 c3])
 by_cases c4:(s.getD 0 0).toNat<237
 . exact fin (za1 N (c:=3) (sz:=3) (lo:=128) (hi:=191) hs (by unfold firstT;rw[if_neg ha,if_neg c1,if_neg c2,if_neg c3,if_pos c4]) (by omega) (by kernel_rfl) (by kernel_rfl) (by kernel_rfl) (by omega) (by omega)) (by rw[slow_E1 _ _ _ _ _ hs hb1 hb2 hb3 (by omega)])
 by_cases c5:(s.getD 0 0).toNat=237
 . exact fin (za1 N (c:=35) (sz:=3) (lo:=128) (hi:=159) hs (by rw[c5];rfl) (by omega) (by kernel_rfl) (by kernel_rfl) (by kernel_rfl) (by omega) (by omega)) (by rw[slow_ED _ _ _ _ _ hs hb1 hb2 hb3 c5])
 by_cases c6:(s.getD 0 0).toNat<240
 . exact fin (za1 N (c:=3) (sz:=3) (lo:=128) (hi:=191) hs (by unfold firstT;rw[if_neg ha,if_neg c1,if_neg c2,if_neg c3,if_neg c4,if_neg c5,if_pos c6]) (by omega) (by kernel_rfl) (by kernel_rfl) (by kernel_rfl) (by omega) (by omega)) (by rw[slow_E1 _ _ _ _ _ hs hb1 hb2 hb3 (by omega)])
 by_cases c7:(s.getD 0 0).toNat=240
 . exact fin (za1 N (c:=52) (sz:=4) (lo:=144) (hi:=191) hs (by rw[c7];rfl) (by omega) (by kernel_rfl) (by kernel_rfl) (by kernel_rfl) (by omega) (by omega)) (by rw[slow_F0 _ _ _ _ _ hs hb1 hb2 hb3 c7])
 by_cases c8:(s.getD 0 0).toNat<244
 . exact fin (za1 N (c:=4) (sz:=4) (lo:=128) (hi:=191) hs (by unfold firstT;rw[if_neg ha,if_neg c1,if_neg c2,if_neg c3,if_neg c4,if_neg c5,if_neg c6,if_neg c7,if_pos c8]) (by omega) (by kernel_rfl) (by kernel_rfl) (by kernel_rfl) (by omega) (by omega)) (by rw[slow_F1 _ _ _ _ _ hs hb1 hb2 hb3 (by omega)])
 by_cases c9:(s.getD 0 0).toNat=244
 . exact fin (za1 N (c:=68) (sz:=4) (lo:=128) (hi:=143) hs (by rw[c9];rfl) (by omega) (by kernel_rfl) (by kernel_rfl) (by kernel_rfl) (by omega) (by omega)) (by rw[slow_F4 _ _ _ _ _ hs hb1 hb2 hb3 c9])
 exact hbad (by unfold firstT;rw[if_neg ha,if_neg c1,if_neg c2,if_neg c3,if_neg c4,if_neg c5,if_neg c6,if_neg c7,if_neg c8,if_neg c9]) (by omega)
theorem z8a (l:List UInt8)(i j:Nat):(l.drop i).getD j 0=l.getD (i+j) 0:=by
 rw[List.getD_eq_getElem?_getD,List.getElem?_drop,<- List.getD_eq_getElem?_getD]
def z1m (s:List UInt8)(i:Nat):Nat:=(runeAt s i).2
theorem zwe (N:Nat){s:List UInt8}{i:Nat}(hi:i<s.length):z84 N s (i:Int)=some ((z1m s i:Nat):Int):=by
 simp only[z84,zf3,zf2];rw[zl (z24 (by omega)),zl (z24 (by omega)),zb (z11 (by omega)),Int.toNat_natCast,zlk];obtain⟨r,e⟩:=z18h N (s:=s.drop i) (by rw[List.length_drop];omega);rw[e,Option.bind_some];dsimp only;unfold z1m;rw[zp3];simp only[dN,z8a,List.length_drop,Nat.add_zero,Nat.zero_add,Nat.sub_zero]
end
end Go.Proofs.YtlmlihfmoabinaaDoorLg
set_option linter.all false
namespace Go.Proofs.YtlmlihfmoabinaaDoorLg
noncomputable section
open Go Go.Lift Go.Lib Go.Proofs.YtlmlihfmoabinaaDoorPx
theorem z11n {n b0 b1 b2 b3:Nat}(h0:b0<256)(h1:b1<256)(h2:b2<256)(h3:b3<256)(hb:128<=b0) :
 ((decodeN n b0 b1 b2 b3).2=2 ↔ (194<=b0/\b0<=223/\1<n/\128<=b1/\b1<=191)) ∧
 ((decodeN n b0 b1 b2 b3).2=3 ↔ (224<=b0/\b0<=239/\2<n/\(128<=b1/\b1<=191)/\(128<=b2/\b2<=191)/\(b0≠224\/160<=b1)/\(b0≠237\/b1<160))) ∧
 ((decodeN n b0 b1 b2 b3).2=4 ↔ (240<=b0/\b0<=244/\3<n/\(128<=b1/\b1<=191)/\(128<=b2/\b2<=191)/\(128<=b3/\b3<=191)/\(b0≠240\/144<=b1)/\(b0≠244\/b1<144))) ∧
 ((decodeN n b0 b1 b2 b3).2=1\/(decodeN n b0 b1 b2 b3).2=2\/(decodeN n b0 b1 b2 b3).2=3\/(decodeN n b0 b1 b2 b3).2=4):=by
 generalize hd:decodeN n b0 b1 b2 b3=d;unfold decodeN at hd
 repeat' split at hd
 all_goals (subst hd;dsimp only;omega)
def rl (s:List UInt8)(i:Nat):Nat:=if (s.getD i 0).toNat<128 then 1 else if z1m s i=1 then 0 else z1m s i
theorem z3h {s:List UInt8}{i:Nat}(hi:i<s.length):1<=z1m s i/\i+z1m s i<=s.length:=by
 unfold z1m;by_cases h:(s.getD i 0).toNat<128
 . rw[z38 h];dsimp only;omega
 . have:=z8e hi (by omega);exact⟨this.2.1,this.2.2.1⟩
theorem zdz {s:List UInt8}{i:Nat}(h:(s.getD i 0).toNat<128):z1m s i=1:=by unfold z1m;rw[z38 h]
end
end Go.Proofs.YtlmlihfmoabinaaDoorLg
set_option linter.all false
namespace Go.Proofs.YtlmlihfmoabinaaDoorLg
noncomputable section
open Go Go.Lift Go.Lib Go.Proofs.YtlmlihfmoabinaaDoorPx
def hexDigits:List UInt8:=[48,49,50,51,52,53,54,55,56,57,97,98,99,100,101,102]
def hd (n:Nat):UInt8:=hexDigits.getD n 0
def zxc:List UInt8->List UInt8
 | []=>[]
 | u::r=>hd (u.toNat / 16)::hd (u.toNat % 16)::zxc r
theorem shr4 (n:Nat):shrI .u8 ((n:Nat):Int) 4=((n / 16:Nat):Int):=by
 have:shrI .u8 ((n:Nat):Int) 4=((n:Nat):Int).fdiv 16:=rfl;rw[this,Int.fdiv_eq_ediv_of_nonneg _ (by omega)];rfl
theorem z1cn (u:UInt8):bitsOp .and .u8 ((u.toNat:Nat):Int) 15=((u.toNat % 16:Nat):Int):=by
 have:=z1cm u 15;rw[show (((15:UInt8).toNat:Nat):Int)=15 from rfl] at this;rw[this,UInt8.toNat_and];congr 1;exact Nat.and_two_pow_sub_one_eq_mod u.toNat 4
def ze1 (s:List UInt8)(i:Nat):Bool:=decide (0<rl s i/\32<=(s.getD i 0).toNat/\(s.getD i 0).toNat≠127)
theorem z18q {s:List UInt8}{i:Nat}(h:128<=(s.getD i 0).toNat)(h1:z1m s i=1):(runeAt s i).1=65533:=by
 unfold z1m at h1;rw[zp3] at h1 ⊢;rcases decodeN_shape (s.length - i) (s.getD i 0).toNat (s.getD (i+1) 0).toNat (s.getD (i+2) 0).toNat (s.getD (i+3) 0).toNat with⟨h0,e⟩|⟨_,_,_,_,e⟩|⟨_,_,_,_,_,_,e⟩|⟨_,_,_,_,_,_,_,e⟩|e
 . omega
 . rw[e] at h1;simp at h1
 . rw[e] at h1;simp at h1
 . rw[e] at h1;simp at h1
 . rw[e]
theorem zwy (N:Nat) {s:List UInt8} {i:Nat} (hi:i<s.length):z7s N s (i:Int) (((runeAt s i).1:Nat):Int)=some (ze1 s i):=by
 simp only[z7s,zda,zd9];by_cases h:(s.getD i 0).toNat<128
 . rw[z38 h];dsimp only;rw[zl (by rw[beq_eq_false_iff_ne];omega),cond_false];by_cases h2:32<=(s.getD i 0).toNat
   case neg=>rw[zl (z24 (by omega)),ze1,z24 (fun e=>h2 e.2.1)]
   rw[zb (z11 (by omega))];by_cases h3:(s.getD i 0).toNat=127
   . rw[h3,ze1,z24 (fun e=>e.2.2 h3)];rfl
   . rw[ze1,z11 ⟨by rw[rl,if_pos h];omega,h2,h3⟩];congr 1;rw[bne_iff_ne];omega
 . have hr:=z8e hi (by omega);have hp:=z3h hi;rw[zwe N hi,Option.bind_some];by_cases h1:z1m s i=1
   . have hsf:ze1 s i=false:=z24 (fun e=>by have h0:=e.1;rw[rl,if_neg h,if_pos h1] at h0;omega);rw[z18q (by omega) h1,h1,hsf];rfl
   . have hf:(((z1m s i:Nat):Int) == 1)=false:=by rw[beq_eq_false_iff_ne];omega
     have hsf:ze1 s i=true:=z11 ⟨by rw[rl,if_neg h,if_neg h1];omega,by omega,by omega⟩;have tail:(cond (decide ((32:Int)<=(((runeAt s i).1:Nat):Int))) (some ((((runeAt s i).1:Nat):Int) != 127)) (some false))=some true:=by
      rw[zb (z11 (by omega))];congr 1;rw[bne_iff_ne];omega
     rw[hf,hsf];simp only[cond_false];rw[tail];cases ((((runeAt s i).1:Nat):Int) == 65533)<;>rfl
def zbt (s:List UInt8)(i:Nat):List UInt8 :=
 cond ((s.getD i 0).toNat == 34 || (s.getD i 0).toNat == 92) [92,s.getD i 0] (cond (ze1 s i) ((s.drop i).take (z1m s i)) [92,120,hd ((s.getD i 0).toNat / 16),hd ((s.getD i 0).toNat % 16)])
def zwh (s:List UInt8):Nat->Nat->List UInt8
 | 0,_=>[]
 | f+1,i=>cond (decide (i<s.length)) (zbt s i++zwh s f (i+z1m s i)) []
theorem zvf (s:List UInt8):∀ (f f' i:Nat),s.length - i<=f->s.length - i<=f'->zwh s f i=zwh s f' i
 | 0,f',i,h,h'=>by
   cases f' with
   | zero=>rfl
   | succ f'=>simp only[zwh];rw[z24 (by omega)];rfl
 | f+1,0,i,h,h'=>by simp only[zwh];rw[z24 (by omega)];rfl
 | f + 1,f'+1,i,h,h'=>by
   simp only[zwh];by_cases hi:i<s.length
   . have:=z3h hi;rw[zvf s f f' (i+z1m s i) (by omega) (by omega)]
   . rw[z24 hi];rfl
def z8d (s:List UInt8)(i:Nat):List UInt8:=zwh s s.length i
theorem zbb {s:List UInt8}{i:Nat}(hi:i<s.length):z8d s i=zbt s i++z8d s (i+z1m s i):=by
 have:=z3h hi;unfold z8d;rw[zvf s s.length (s.length+1) i (by omega) (by omega)];simp only[zwh];rw[z11 hi];rfl
theorem zbg {s:List UInt8}{i:Nat}(hi:s.length<=i):z8d s i=[]:=by
 unfold z8d;cases h:s.length with
 | zero=>rfl
 | succ n=>simp only[zwh];rw[z24 (by omega)];rfl
theorem zpd {s:List UInt8}{i:Nat}(hi:i<s.length):(zbt s i).length<=4*z1m s i:=by
 have:=z3h hi;unfold zbt;cases ((s.getD i 0).toNat == 34 || (s.getD i 0).toNat == 92)
 . cases ze1 s i
   . simp;omega
   . simp;omega
 . simp;omega
theorem z89 (a b:List UInt8):ofStr (a++b)=ofStr a++ofStr b:=by simp[ofStr]
theorem z1a5 (N:Nat) {s:List UInt8} (hs:s.length<=2000) (hN:2001<N):zbc N s=some (34::(z8d s 0++[34])):=by
 simp only[zbc,zm5];rw[z6o (I:=fun (v:List Int×(List UInt8×Nat))=>∃ (o:List UInt8) (i:Nat),v=(ofStr o,(s,i))/\i<=s.length/\o.length<=4*i+1/\o++z8d s i=34::z8d s 0) (m:=fun v=>s.length - v.2.2) (R:=fun _=>some (34::(z8d s 0++[34]))) ?_ N ([34],(s,0)) ⟨[34],0,rfl,by omega,by simp,rfl⟩ (by dsimp only;omega)];rintro v r ⟨o,i,rfl,hi,ho,hT⟩ hr;dsimp only at hr ⊢;simp only[zf5,zf6];by_cases hlt:i<s.length
 . have hu := z3h hlt;have hpl:=zpd hlt;have hb:=zaf (s.getD i 0);rw[zbb hlt] at hT;have nxt:r (ofStr o++ofStr (zbt s i),(s,i+(runeAt s i).2))=some (34::(z8d s 0++[34])) :=
    hr _ ⟨o++zbt s i,i+z1m s i,by rw[z89];rfl,hu.2,by rw[List.length_append];omega,by rw[List.append_assoc];exact hT⟩ (by show s.length - (i+z1m s i)<s.length - i;omega)
   rw[zb (z11 hlt)];have hq:((((runeAt s i).1:Nat):Int) == 34)=((s.getD i 0).toNat == 34)/\((((runeAt s i).1:Nat):Int) == 92)=((s.getD i 0).toNat == 92):=by
    by_cases h:(s.getD i 0).toNat<128
    . rw[z38 h];constructor<;>(rw[Bool.eq_iff_iff,beq_iff_eq,beq_iff_eq];dsimp only;omega)
    . have:=z8e hlt (by omega);constructor<;>(rw[Bool.eq_iff_iff,beq_iff_eq,beq_iff_eq];omega)
   have main:∀ b:Bool,b=((s.getD i 0).toNat == 34 || (s.getD i 0).toNat == 92) →
    (cond b (cond (inR (i:Int) s.length) (cond (decide (((ofStr o).length+2)*1<=70368744177664)) (r (ofStr o++[92,(((s.getD (Int.toNat (i:Int)) 0).toNat:Nat):Int)],(s,i+(runeAt s i).2))) none) none)
     ((z7s N s (i:Int) (((runeAt s i).1:Nat):Int)).bind fun y=>cond y ((z84 N s (i:Int)).bind fun y1=>cond (decide (0<=IntKind.wrap .i64 ((i:Int)+y1)/\IntKind.wrap .i64 ((i:Int)+y1)<=(s.length:Int))) (cond (decide ((0:Int)<=(i:Int)/\(i:Int)<=IntKind.wrap .i64 ((i:Int)+y1))) (cond (decide (((ofStr o).length+(ofStr (cut s (Int.toNat (i:Int)) (Int.toNat (IntKind.wrap .i64 ((i:Int)+y1))))).length)*1<=70368744177664)) (r (ofStr o++ofStr (cut s (Int.toNat (i:Int)) (Int.toNat (IntKind.wrap .i64 ((i:Int)+y1)))),(s,i+(runeAt s i).2))) none) none) none)
       (cond (inR (i:Int) s.length) (cond (inR (shrI .u8 (((s.getD (Int.toNat (i:Int)) 0).toNat:Nat):Int) 4) 16) (cond (inR (i:Int) s.length) (cond (inR (bitsOp .and .u8 (((s.getD (Int.toNat (i:Int)) 0).toNat:Nat):Int) 15) 16) (cond (decide (((ofStr o).length+4)*1<=70368744177664)) (r (ofStr o++[92,120,(((hexDigits.getD (Int.toNat (shrI .u8 (((s.getD (Int.toNat (i:Int)) 0).toNat:Nat):Int) 4)) 0).toNat:Nat):Int),(((hexDigits.getD (Int.toNat (bitsOp .and .u8 (((s.getD (Int.toNat (i:Int)) 0).toNat:Nat):Int) 15)) 0).toNat:Nat):Int)],(s,i+(runeAt s i).2))) none) none) none) none) none)))=some (34::(z8d s 0++[34])):=by
    intro b hbq;have hol:(ofStr o).length=o.length:=z29 o;cases b with
    | true =>
      have hpc:zbt s i=[92,s.getD i 0]:=by unfold zbt;rw[<- hbq];rfl
      rw[cond_true,zb (z28 hlt),zb (z11 (by omega)),Int.toNat_natCast];rw[hpc] at nxt;exact nxt
    | false =>
      rw[cond_false,zwy N hlt,Option.bind_some];cases hsf:ze1 s i with
      | true =>
        have hpc:zbt s i=(s.drop i).take (z1m s i):=by unfold zbt;rw[<- hbq,hsf];rfl
        have hw:IntKind.wrap .i64 ((i:Int)+((z1m s i:Nat):Int))=((i+z1m s i:Nat):Int):=by rw[zae (by unfold I64;omega)];omega
        rw[cond_true,zwe N hlt,Option.bind_some,hw,zb (z11 (by omega)),zb (z11 (by omega)),Int.toNat_natCast,Int.toNat_natCast,z10q,zb (z11 (by rw[hol,z29,List.length_take,List.length_drop];omega))];rw[hpc] at nxt;exact nxt
      | false =>
        have hpc:zbt s i=[92,120,hd ((s.getD i 0).toNat / 16),hd ((s.getD i 0).toNat % 16)]:=by unfold zbt;rw[<- hbq,hsf];rfl
        rw[cond_false,zb (z28 hlt),Int.toNat_natCast,shr4,z1cn,zb (z28 (by omega)),zb (z28 hlt),zb (z28 (by omega)),zb (z11 (by omega)),Int.toNat_natCast,Int.toNat_natCast];rw[hpc] at nxt;exact nxt
   rw[hq.1,hq.2];cases h34:((s.getD i 0).toNat == 34) with
   | true=>exact main true (by rw[h34];rfl)
   | false=>exact main _ (by rw[h34];rfl)
 . rw[zbg (by omega),List.append_nil] at hT;rw[zl (z24 hlt),zb (z11 (by rw[z29];omega)),zgo,z40,hT];rfl
end
end Go.Proofs.YtlmlihfmoabinaaDoorLg
set_option linter.all false
namespace Go.Proofs.YtlmlihfmoabinaaDoorLg
noncomputable section
open Go Go.Lift Go.Lib Go.Proofs.YtlmlihfmoabinaaDoorPx
def dig (u:UInt8):Option Nat:=if 48<=u.toNat/\u.toNat<=57 then some (u.toNat - 48) else if 97<=u.toNat/\u.toNat<=102 then some (u.toNat - 87) else none
def z9y:List UInt8->Option (List UInt8)
 | []=>some []
 | [_]=>none
 | x :: y::r=>match dig x,dig y with
   | some h,some l=>(match z9y r with
     | some b=>some (UInt8.ofNat (h*16+l)::b)
     | none=>none)
   | _,_=>none
theorem z19a:∀ n,n<16->dig (hd n)=some n:=by decide
theorem z12a {u:UInt8} {n:Nat} (h:dig u=some n):n<16/\hd n=u:=by
 unfold dig at h;have key:∀ m,m<256->∀ n,(if 48<=m/\m<=57 then some (m - 48) else if 97<=m/\m<=102 then some (m - 87) else none)=some n->n<16/\(hd n).toNat=m:=by
  intro m hm n h;split at h
  . cases h;have:∀ k,k<10->k<16/\(hd k).toNat=k+48:=by decide
    have:=this (m - 48) (by omega);omega
  . split at h
    . cases h;have:∀ k,k<16->10<=k->k<16/\(hd k).toNat=k+87:=by decide
      have:=this (m - 87) (by omega) (by omega);omega
    . cases h
 have:=key u.toNat (zaf u) n h;exact⟨this.1,UInt8.toNat_inj.1 this.2⟩
theorem zxp:∀ s:List UInt8,z9y (zxc s)=some s
 | []=>rfl
 | u::r=>by
   have:=zaf u;simp only[zxc,z9y,z19a _ (by omega:u.toNat / 16<16),z19a _ (by omega:u.toNat % 16<16),zxp r];rw[show u.toNat / 16*16+u.toNat % 16=u.toNat by omega,UInt8.ofNat_toNat]
theorem zyo:∀ (n:Nat) (s b:List UInt8),s.length<=n->z9y s=some b->zxc b=s
 | _,[],b,_,h=>by cases h;rfl
 | _,[_],b,_,h=>by simp[z9y] at h
 | 0,_::_::_,b,hl,_=>by simp at hl
 | n + 1,x::y::r,b,hl,h=>by
   simp only[z9y] at h;split at h
   . rename_i p q hp hq;split at h
     . rename_i c hc;cases h;obtain⟨h1,h2⟩:=z12a hp;obtain⟨h3,h4⟩:=z12a hq;have e:(UInt8.ofNat (p*16+q)).toNat=p*16+q:=by rw[UInt8.toNat_ofNat'];omega
       simp only[zxc,e,show (p*16+q) / 16=p by omega,show (p*16+q) % 16=q by omega,h2,h4];rw[zyo n r c (by simp at hl;omega) hc]
     . cases h
   . cases h
theorem z9t:∀ s:List UInt8,(zxc s).length=2*s.length
 | []=>rfl
 | _::r=>by simp only[zxc,List.length_cons,z9t r];omega
theorem zp0:∀ (n:Nat) (s b:List UInt8),s.length<=n->z9y s=some b->2*b.length=s.length:=fun n s b hn h=>by
 have:=zyo n s b hn h;rw[<- this,z9t]
theorem z14c:∀ (n:Nat) (s:List UInt8),s.length<=n->s.length % 2=1->z9y s=none:=fun n s hn h=>by
 cases hu:z9y s with
 | none=>rfl
 | some b=>have:=zp0 n s b hn hu;omega
theorem z1ce (N:Nat){s:List UInt8}(hs:s.length<=10000000000)(hN:s.length<N):zi2 N s=some (zxc s):=by
 simp only[zi2,zpe];rw[zae (x:=2*((s.length:Nat):Int)) (by unfold I64;omega),zb (z11 ⟨by omega,by omega,by omega,by omega⟩)];rw[z6o (I:=fun (v:List Int×Int)=>v.1.length=2*v.2.toNat/\0<=v.2/\v.2<=((s.length:Nat):Int)) (m:=fun (v:List Int×Int)=>s.length - v.2.toNat)
  (R:=fun (v:List Int×Int)=>some (toStr v.1++zxc (s.drop v.2.toNat))) ?_ N _ ⟨by simp,by dsimp only;omega,by dsimp only;omega⟩ (by simpa using hN)]
 . simp[toStr]
 rintro⟨out,v⟩ r ⟨hl,h0,h1⟩ hr;dsimp only at *;obtain⟨i,rfl⟩:=Int.eq_ofNat_of_zero_le h0;simp only[zi1,Int.toNat_natCast] at *;by_cases hlt:i<s.length
 . have hb:=zaf (s.getD i 0);rw[zb (z11 (by omega)),zb (z28 hlt),shr4,z1cn,zb (z28 (by omega)),zb (z28 hlt),zb (z28 (by omega)),zb (z11 (by omega)),z2e (by omega),hr _ ⟨by simp;omega,by omega,by omega⟩ (by dsimp only;omega),z5u s 0 i hlt];simp only[Int.toNat_natCast,zgo,zxc,List.append_assoc];congr 2;have:∀ a b:UInt8,toStr [((a.toNat:Nat):Int),((b.toNat:Nat):Int)]=[a,b]:=by intro a b;simp[toStr]
   rw[this];rfl
 . rw[zl (z24 (by omega)),z93 s (by omega)];simp[zxc]
theorem z12h (N:Nat)(u:UInt8):z9p N ((u.toNat:Nat):Int)=some (match dig u with|some n=>((n:Int),true,())|none=>(0,false,())):=by
 have hu:=zaf u;simp only[z9p,zds,zdr,zdq,dig,cond_false];by_cases h1:48<=u.toNat/\u.toNat<=57
 . rw[if_pos h1,zb (z11 (by omega)),zb (z11 (by omega)),zwd];simp only[Option.some.injEq,Prod.mk.injEq,and_true];omega
 . rw[if_neg h1];have e:∀ (X Y:Option (Int×Bool×Unit)),cond (decide ((48:Int)<=((u.toNat:Nat):Int))) (cond (decide (((u.toNat:Nat):Int)<=57)) X Y) Y=Y:=by
    intro X Y;by_cases h2:48<=u.toNat
    . rw[zb (z11 (by omega)),zl (z24 (by omega))]
    . rw[zl (z24 (by omega))]
   rw[e];by_cases h3:97<=u.toNat/\u.toNat<=102
   . rw[if_pos h3,zb (z11 (by omega)),zb (z11 (by omega)),zwd,zwd];simp only[Option.some.injEq,Prod.mk.injEq,and_true];omega
   . rw[if_neg h3];by_cases h2:97<=u.toNat
     . rw[zb (z11 (by omega)),zl (z24 (by omega))]
     . rw[zl (z24 (by omega))]
theorem z1ag:∀ h,h<16->∀ l,l<16->bitsOp .or .u8 (shlI .u8 ((h:Nat):Int) 4) ((l:Nat):Int)=((h*16+l:Nat):Int):=by decide +kernel
def z115 (o:Option (List UInt8)):List UInt8×Bool×Unit:=match o with
 | some b=>(b,true,())
 | none=>([],false,())
theorem z114 (N:Nat) {s:List UInt8} (hs:s.length<=10000000000) (hN:s.length<N):z9q N s=some (z115 (z9y s)):=by
 simp only[z9q,zks];have hm:((s.length:Nat):Int).tmod 2=((s.length % 2:Nat):Int):=by rw[Int.tmod_eq_emod_of_nonneg (by omega)];omega
 have hq:((s.length:Nat):Int).tdiv 2=((s.length / 2:Nat):Int):=by rw[Int.tdiv_eq_ediv_of_nonneg (by omega)];omega
 rw[hm,hq];by_cases ho:s.length % 2=1
 . rw[zb (by rw[ho];rfl),z14c _ s (Nat.le_refl _) ho];rfl
 rw[zl (by rw[show s.length % 2=0 by omega];rfl),zae (x:=((s.length / 2:Nat):Int)) (by unfold I64;omega),zb (z11 ⟨by omega,by omega,by omega,by omega⟩)];simp only[Int.toNat_natCast,List.length_replicate];rw[z6o (I:=fun (v:List Int×Int)=>v.1.length=s.length / 2/\0<=v.2/\v.2<=((s.length / 2:Nat):Int)) (m:=fun (v:List Int×Int)=>s.length - v.2.toNat)
  (R:=fun (v:List Int×Int)=>some (match z9y (s.drop (2*v.2.toNat)) with|some b=>(toStr (v.1.take v.2.toNat)++b,true,())|none=>([],false,()))) ?_ N _ ⟨by simp,by dsimp only;omega,by dsimp only;omega⟩ (by simpa using hN)]
 . simp only[Int.toNat_zero,Nat.mul_zero,List.drop_zero,List.take_zero];cases z9y s<;>rfl
 rintro⟨out,v⟩ r ⟨hl,h0,h1⟩ hr;dsimp only at *;obtain⟨i,rfl⟩:=Int.eq_ofNat_of_zero_le h0;simp only[zdt,Int.toNat_natCast] at *;by_cases hlt:i<s.length / 2
 . have hw1:IntKind.wrap .i64 (2*(i:Int))=((2*i:Nat):Int):=by rw[zae (by unfold I64;omega)];omega
   have h2i:2*i<s.length:=by omega
   have h2i1:2*i+1<s.length:=by omega
   have hio:i<out.length:=by omega
   rw[zb (z11 (by omega)),hw1,zb (z28 h2i),z2e (by omega),Int.toNat_natCast,Int.toNat_natCast,z12h,Option.bind_some,zb (z28 h2i1),z12h,Option.bind_some];rw[z5u s 0 (2*i) h2i,z5u s 0 (2*i+1) h2i1];simp only[z9y,zdv,zdu];cases hx:dig (s.getD (2*i) 0) with
   | none=>rfl
   | some h =>
     cases hy:dig (s.getD (2*i+1) 0) with
     | none=>rfl
     | some l =>
       obtain⟨hh,_⟩:=z12a hx;obtain⟨hl',_⟩:=z12a hy;simp only[Bool.not_true,cond_false];rw[zb (z28 hio),zb (z11 hio),z1ag h hh l hl',z2e (by omega),hr _ ⟨by simpa using hl,by omega,by omega⟩ (by dsimp only;omega)];simp only[Int.toNat_natCast,show 2*(i+1)=2*i+1+1 by omega,zwi _ _ _ hio,zgo];cases z9y (s.drop (2*i+1+1)) with
       | none=>rfl
       | some b =>
         have:toStr [((h*16+l:Nat):Int)]=[UInt8.ofNat (h*16+l)]:=by simp only[toStr,List.map_cons,List.map_nil,Int.toNat_natCast]
         simp only[this,List.append_assoc,List.cons_append,List.nil_append]
 . have hi:i=s.length / 2:=by omega
   rw[zl (z24 (by omega)),z93 s (by omega),List.take_of_length_le (by omega)];simp[z9y]
end
end Go.Proofs.YtlmlihfmoabinaaDoorLg
set_option linter.all false
namespace Go.Proofs.YtlmlihfmoabinaaDoorLg
noncomputable section
open Go Go.Lift Go.Lib Go.Proofs.YtlmlihfmoabinaaDoorPx
theorem z11o {q:List UInt8}{i:Nat}(h:(q.getD i 0).toNat<128):rl q i=1:=by rw[rl,if_pos h]
theorem z14q {s q:List UInt8}{i p:Nat}(hi:i<s.length)(hr:0<rl s i)(hp:p+z1m s i<=q.length)(hb:∀ j,j<z1m s i->q.getD (p+j) 0=s.getD (i+j) 0):rl q p=rl s i/\rl s i=z1m s i:=by
 have hu:=z3h hi;have e0:q.getD p 0=s.getD i 0:=hb 0 (by omega);by_cases ha:(s.getD i 0).toNat<128
 . rw[z11o ha,z11o (by rw[e0];exact ha),zdz ha];exact⟨rfl,rfl⟩
 have hq:rl s i=z1m s i/\z1m s i≠1:=by
  rw[rl,if_neg ha] at hr ⊢;by_cases h1:z1m s i=1
  . rw[if_pos h1] at hr;omega
  . rw[if_neg h1];exact⟨rfl,h1⟩
 have hs1:=zaf (s.getD i 0);have hs2:=zaf (s.getD (i+1) 0);have hs3:=zaf (s.getD (i+2) 0);have hs4:=zaf (s.getD (i+3) 0);have hq2:=zaf (q.getD (p+1) 0);have hq3:=zaf (q.getD (p+2) 0);have hq4:=zaf (q.getD (p+3) 0);have cs:=z11n (n:=s.length - i) hs1 hs2 hs3 hs4 (by omega);have cq:=z11n (n:=q.length - p) hs1 hq2 hq3 hq4 (by omega);have us:z1m s i=(decodeN (s.length - i) (s.getD i 0).toNat (s.getD (i+1) 0).toNat (s.getD (i+2) 0).toNat (s.getD (i+3) 0).toNat).2:=by unfold z1m;rw[zp3]
 have uq:z1m q p=(decodeN (q.length - p) (s.getD i 0).toNat (q.getD (p+1) 0).toNat (q.getD (p+2) 0).toNat (q.getD (p+3) 0).toNat).2:=by unfold z1m;rw[zp3,e0]
 rw[<- us] at cs;rw[<- uq] at cq;have key:z1m q p=z1m s i:=by
  obtain⟨s2,s3,s4,s1⟩:=cs;obtain⟨q2,q3,q4,q1⟩:=cq;rcases s1 with h|h|h|h
  . exact absurd h hq.2
  . have b1:=hb 1 (by omega);rw[b1] at q2;have:=s2.1 h;rw[h];exact q2.2 ⟨this.1,this.2.1,by omega,this.2.2.2⟩
  . have b1:=hb 1 (by omega);have b2:=hb 2 (by omega);rw[b1,b2] at q3;have:=s3.1 h;rw[h];exact q3.2 ⟨this.1,this.2.1,by omega,this.2.2.2⟩
  . have b1:=hb 1 (by omega);have b2:=hb 2 (by omega);have b3:=hb 3 (by omega);rw[b1,b2,b3] at q4;have:=s4.1 h;rw[h];exact q4.2 ⟨this.1,this.2.1,by omega,this.2.2.2⟩
 have hqa:¬ (q.getD p 0).toNat<128:=by rw[e0];exact ha
 constructor
 . rw[rl,if_neg hqa,key,if_neg hq.2,hq.1]
 . exact hq.1
theorem zp1 {s:List UInt8}:∀ (n i:Nat),s.length - i<=n->(z8d s i).length<=4*(s.length - i)
 | n,i,h=>by
   by_cases hi:i<s.length
   . have hu:=z3h hi;have hp:=zpd hi;cases n with
     | zero=>omega
     | succ n =>
       rw[zbb hi,List.length_append];have:=zp1 (s:=s) n (i+z1m s i) (by omega);omega
   . rw[zbg (by omega)];simp
theorem z1cf:∀ n,n<16->32<=(hd n).toNat/\(hd n).toNat<127/\(hd n).toNat≠34/\(hd n).toNat≠92:=by decide
end
end Go.Proofs.YtlmlihfmoabinaaDoorLg
set_option linter.all false
namespace Go.Proofs.YtlmlihfmoabinaaDoorLg
noncomputable section
open Go Go.Lift Go.Lib Go.Proofs.YtlmlihfmoabinaaDoorPx
theorem z12i (N:Nat):∀ m,m<16->z9g N (((hd m).toNat:Nat):Int)=some ((m:Int),true,()):=by
 intro m hm;obtain rfl|rfl|rfl|rfl|rfl|rfl|rfl|rfl|rfl|rfl|rfl|rfl|rfl|rfl|rfl|rfl:m=0\/m=1\/m=2\/m=3\/m=4\/m=5\/m=6\/m=7\/m=8\/m=9\/m=10\/m=11\/m=12\/m=13\/m=14\/m=15:=by omega
 all_goals kernel_rfl
theorem nib:∀ a b:Fin 16,bitsOp .or .u8 (shlI .u8 (bitsOp .or .u8 (shlI .u8 (0:Int) 4) (a.1:Int)) 4) (b.1:Int)=((16*a.1+b.1:Nat):Int):=by decide +kernel
theorem z5s {σ β:Type}(step:σ->(σ->Option β)->Option β)(n:Nat)(x:σ):iter step (n+1) x=step x (iter step n):=rfl
theorem esc1 (N:Nat){c:UInt8}{r:List UInt8}(h:c.toNat=34\/c.toNat=92):z3y N (c::r)=some (((c.toNat:Nat):Int),1,0,()):=by
 have hne:((c::r) == ([]:List UInt8))=false:=rfl;simp only[z3y,z5j,z5i,hne,cond_false,List.getD_cons_zero];have hin:inR (0:Int) (c::r).length=true:=zab (by omega) (by simp);simp only[hin,cond_true];rcases h with h|h
 . rw[zb (by rw[beq_iff_eq];omega)]
 . rw[zl (by rw[beq_eq_false_iff_ne];omega),zb (by rw[beq_iff_eq];omega)]
theorem esc3 (k:Nat){n:Nat}{r:List UInt8}(hn:n<256):z3y (k+10) (120::hd (n / 16)::hd (n % 16)::r)=some ((n:Int),3,0,()):=by
 have hne:((120::hd (n / 16)::hd (n % 16)::r) == ([]:List UInt8))=false:=rfl;have hl:((120::hd (n / 16)::hd (n % 16)::r):List UInt8).length=r.length+3:=rfl;have hb:=nib ⟨n / 16,by omega⟩ ⟨n % 16,by omega⟩;dsimp only at hb;rw[show 16*(n / 16)+n % 16=n by omega] at hb;have g1:List.getD (120::hd (n / 16)::hd (n % 16)::r) (Int.toNat 1) 0=hd (n / 16):=rfl;have g2:List.getD (120::hd (n / 16)::hd (n % 16)::r) (Int.toNat 2) 0=hd (n % 16):=rfl;have w1:IntKind.wrap .i64 ((1:Int)+1)=2:=by kernel_rfl
 have w2:IntKind.wrap .i64 ((2:Int)+1)=3:=by kernel_rfl
 simp only[z3y,z5j,z5i,hne,cond_false,List.getD_cons_zero,hl];have hin:inR (0:Int) (r.length+3)=true:=zab (by omega) (by omega);simp only[hin,cond_true];rw[zl (by rfl),zl (by rfl),zl (by rfl)];simp only[zbl];rw[show k+10=(k+9)+1 from rfl,z5s];simp only[z8g,hl,g1];rw[zb (by rfl),zl (by rw[beq_eq_false_iff_ne];omega),zb (zab (by omega) (by omega)),z12i _ _ (by omega),Option.bind_some,Bool.not_true,cond_false,w1];rw[show k+9=(k+8)+1 from rfl,z5s];simp only[hl,g2];rw[zb (by rfl),zl (by rw[beq_eq_false_iff_ne];omega),zb (zab (by omega) (by omega)),z12i _ _ (by omega),Option.bind_some,Bool.not_true,cond_false,w2,hb];rw[show k+8=(k+7)+1 from rfl,z5s];simp only[];rw[zl (by rfl)]
theorem zrb (X:List UInt8)(F i:Nat):runeAt (X.drop F) i=runeAt X (F+i):=by
 rw[zp3,zp3,z8a,z8a,z8a,z8a,List.length_drop,show X.length - F - i=X.length - (F+i) by omega];rfl
theorem zzl {s:List UInt8}{i:Nat}(h:ze1 s i=false):z1m s i=1:=by
 by_cases ha:(s.getD i 0).toNat<128
 . exact zdz ha
 . rcases Nat.lt_or_ge 1 (z1m s i) with h1|h1
   . have:ze1 s i=true:=z11 ⟨by rw[rl,if_neg ha,if_neg (by omega)];omega,by omega,by omega⟩;rw[this] at h;cases h
   . rcases Nat.lt_or_ge i s.length with hi|hi
     . have:=z3h hi;omega
     . exfalso;rw[List.getD_eq_getElem?_getD,List.getElem?_eq_none hi] at ha;exact ha (by decide)
theorem z14e (s:List UInt8)(i n:Nat):ofStr (s.take i)++ofStr ((s.drop i).take n)=ofStr (s.take (i+n)):=by
 rw[<- z89,List.take_add]
theorem z119 (s:List UInt8){i:Nat}(h:i<s.length):ofStr (s.take i)++[(((s.getD i 0).toNat:Nat):Int)]=ofStr (s.take (i+1)):=by
 rw[zgq s 0 i h,z89];rfl
theorem z1b3 (k:Nat) {s a b X:List UInt8} {F:Nat} (hs:s.length<=2000) (hX:X.length<=300000) (hF:F<=X.length) (hd0:X.drop F=z8d s 0++34::b) :
 z9h (k+1000000) X (F:Int)=some (s,((F+(z8d s 0).length+1:Nat):Int),(0,0,()),()):=by
 have hul:(X.drop F).length=X.length - F:=List.length_drop ..;have hul2:X.length - F=(z8d s 0).length+(b.length+1):=by rw[<- hul,hd0,List.length_append];rfl
 simp only[z9h,zf1];rw[zb (z11 (by omega)),Int.toNat_natCast,zlk];rw[z6o (I:=fun (v:List Int×Int×(List UInt8×Nat))=>∃ (idx i nx:Nat) (h:List UInt8),v=(ofStr (s.take i),(nx:Int),(X.drop F,idx))/\i<=s.length/\idx<=X.length - F/\(X.drop F).drop idx=h++(z8d s i++34::b)/\(∀ x∈h,x.toNat<128)/\(h=[]->nx<=F+idx)/\(h≠[]->nx=F+idx+h.length)) (m:=fun v=>X.length - F - v.2.2.2) (R:=fun _=>some (s,((F+(z8d s 0).length+1:Nat):Int),(0,0,()),())) ?_ (k+1000000) ([],(F:Int),(X.drop F,0)) ⟨0,0,F,[],rfl,by omega,by omega,hd0,by simp,fun _=>by omega,fun h=>absurd rfl h⟩ (by dsimp only;omega)];rintro v r ⟨idx,i,nx,h,rfl,hi,hix,hd',hh,hn0,hn1⟩ hr;dsimp only at hr ⊢;have hlen:X.length - F - idx=h.length+((z8d s i).length+(b.length+1)):=by
  have:=congrArg List.length hd';rw[List.length_drop,hul,List.length_append,List.length_append] at this;exact this
 have hidx:idx<(X.drop F).length:=by omega
 have hg:∀ j,(X.drop F).getD (idx+j) 0=(h++(z8d s i++34::b)).getD j 0:=by intro j;rw[<- hd',z8a (X.drop F) idx j]
 have hg2:∀ j,X.getD (F+idx+j) 0=(h++(z8d s i++34::b)).getD j 0:=by intro j;rw[<- hg j,z8a,Nat.add_assoc]
 have hw:IntKind.wrap .i64 ((idx:Int)+(F:Int))=((F+idx:Nat):Int):=by rw[zae (by unfold I64;omega)];omega
 have hw1:IntKind.wrap .i64 (((F+idx:Nat):Int)+1)=((F+idx+1:Nat):Int):=z2e (by omega);have hti:(s.take i).length<=2000:=by rw[List.length_take];omega
 simp only[zb4,hw,hw1];rw[zb (z11 hidx)];cases h with
 | cons x h' =>
   have h0:(X.drop F).getD idx 0=x:=by have:=hg 0;simpa using this
   have hx:=hh x (by simp);have:=hn1 (by simp);rw[zb (z11 (by simp at this;omega)),z38 (by rw[h0];exact hx)];refine hr _ ⟨idx+1,i,nx,h',rfl,hi,by omega,by rw[<- List.drop_drop,hd'];rfl,fun y hy=>hh y (by simp[hy]),fun e=>?_,fun e=>?_⟩ (by dsimp only;omega)
   . subst e;simp at this;omega
   . simp at this;omega
 | nil =>
   have hnx:=hn0 rfl;rw[List.nil_append] at hd' hg hg2;rw[zl (z24 (by omega))];by_cases hlt:i<s.length
   . have hu:=z3h hlt;have hb:=zaf (s.getD i 0);rw[zbb hlt,List.append_assoc] at hd' hg hg2;rw[zbb hlt,List.length_append] at hlen;have hcut:∀ (p r':List UInt8),zbt s i=92::p->(X.drop F).getD idx 0=92/\cut X (F+idx+1) X.length=p++(z8d s (i+z1m s i)++34::b):=by
      intro p r' hp;rw[hp] at hd' hg;refine⟨by have:=hg 0;simpa using this,?_⟩;rw[zlk,show F+idx+1=F+(idx+1) by omega,<- List.drop_drop,<- List.drop_drop,hd'];rfl
     by_cases hesc:((s.getD i 0).toNat == 34 || (s.getD i 0).toNat == 92)=true
     . have hpc:zbt s i=[92,s.getD i 0]:=by unfold zbt;rw[hesc];rfl
       obtain⟨h0,hc⟩:=hcut [s.getD i 0] [] hpc;have hq:(s.getD i 0).toNat=34\/(s.getD i 0).toNat=92:=by simpa using hesc
       have hu1:z1m s i=1:=zdz (by omega);rw[hpc] at hlen hd';rw[z38 (by rw[h0];decide),h0,zl (by rfl),zb (by rfl),zb (z11 (by simp at hlen;omega)),Int.toNat_natCast,hc,List.cons_append,esc1 _ hq,Option.bind_some,zl (by rfl),zl (by rfl),zb (z11 (by rw[z29];omega)),z119 s hlt];refine hr _ ⟨idx+1,i+1,F+idx+2,[s.getD i 0],?_,by omega,by simp at hlen;omega,by rw[<- List.drop_drop,hd',hu1];rfl,?_,fun e=>(by cases e),fun _=>rfl⟩ (by dsimp only;simp at hlen;omega)
       . dsimp only;rw[zae (by unfold I64;omega)];congr 2
       . intro y hy;rw[List.mem_singleton] at hy;rw[hy];omega
     . rw[Bool.not_eq_true] at hesc;cases hsf:ze1 s i with
       | true =>
         have hpc:zbt s i=(s.drop i).take (z1m s i):=by unfold zbt;rw[hesc,hsf];rfl
         have hsf':=hsf;rw[ze1,decide_eq_true_eq] at hsf';have hne:(s.getD i 0).toNat≠34/\(s.getD i 0).toNat≠92:=by
          rw[Bool.or_eq_false_iff,beq_eq_false_iff_ne,beq_eq_false_iff_ne] at hesc;exact hesc
         have hpcl:((s.drop i).take (z1m s i)).length=z1m s i:=by rw[List.length_take,List.length_drop];omega
         rw[hpc] at hd' hg2 hlen;rw[hpcl] at hlen;have hbytes:∀ j,j<z1m s i->X.getD (F+idx+j) 0=s.getD (i+j) 0:=by
          intro j hj;rw[hg2 j,List.getD_eq_getElem?_getD,List.getElem?_append_left (by rw[hpcl];exact hj),List.getElem?_take_of_lt hj,List.getElem?_drop,<- List.getD_eq_getElem?_getD]
         have h0:X.getD (F+idx) 0=s.getD i 0:=hbytes 0 (by omega);have hsame:=z14q (q:=X) (p:=F+idx) hlt hsf'.1 (by omega) hbytes;have hself:=z14q (s:=X) (q:=X) (i:=F+idx) (p:=F+idx) (by omega) (by rw[hsame.1];exact hsf'.1) (by have:=z3h (s:=X) (i:=F+idx) (by omega);omega) (fun j _=>rfl);have hux:z1m X (F+idx)=z1m s i:=by rw[<- hself.2,hsame.1,hsame.2]
         have hsx:ze1 X (F+idx)=true:=z11 ⟨by rw[hsame.1];exact hsf'.1,by rw[h0];exact hsf'.2.1,by rw[h0];exact hsf'.2.2⟩;have hrx:(runeAt (X.drop F) idx).2=z1m s i:=by rw[zrb];exact hux
         have hru:(runeAt X (F+idx)).1≠34/\(runeAt X (F+idx)).1≠92:=by
          by_cases hasc:(X.getD (F+idx) 0).toNat<128
          . rw[z38 hasc,h0];exact hne
          . have:=(z8e (s:=X) (i:=F+idx) (by omega) (by omega)).1;omega
         have hcm:cut X (F+idx) (F+idx+z1m s i)=(s.drop i).take (z1m s i):=by
          rw[z10q,<- List.drop_drop,hd',List.take_append_of_le_length (by omega),List.take_of_length_le (by omega)]
         have hw2:IntKind.wrap .i64 (((F+idx:Nat):Int)+((z1m s i:Nat):Int))=((F+idx+z1m s i:Nat):Int):=by rw[zae (by unfold I64;omega)];omega
         rw[hrx,zrb,zl (by rw[beq_eq_false_iff_ne];omega),zl (by rw[beq_eq_false_iff_ne];omega),zwy _ (by omega),Option.bind_some,hsx,cond_true,zwe _ (by omega),Option.bind_some,hux,hw2,zb (z11 (by omega)),zb (z11 (by omega)),Int.toNat_natCast,Int.toNat_natCast,hcm,zb (z11 (by rw[z29,z29,hpcl];omega)),z14e];refine hr _ ⟨idx+z1m s i,i+z1m s i,nx,[],rfl,hu.2,by omega,?_,by simp,fun _=>by omega,fun e=>absurd rfl e⟩ (by dsimp only;omega);rw[<- List.drop_drop,hd',List.drop_append_of_le_length (by omega),List.drop_of_length_le (by omega)]
       | false =>
         have hpc:zbt s i=[92,120,hd ((s.getD i 0).toNat / 16),hd ((s.getD i 0).toNat % 16)]:=by unfold zbt;rw[hesc,hsf];rfl
         obtain⟨h0,hc⟩:=hcut [120,hd ((s.getD i 0).toNat / 16),hd ((s.getD i 0).toNat % 16)] [] hpc;have hu1:z1m s i=1:=zzl hsf;have he3:=esc3 (k+999990) (n:=(s.getD i 0).toNat) (r:=z8d s (i+z1m s i)++34::b) hb;rw[hpc] at hlen hd';rw[z38 (by rw[h0];decide),h0,zl (by rfl),zb (by rfl),zb (z11 (by simp at hlen;omega)),Int.toNat_natCast,hc,List.cons_append,List.cons_append,List.cons_append,List.nil_append];rw[show k+999990+10=k+1000000 from rfl] at he3;rw[he3,Option.bind_some,zl (by rfl),zl (by rfl),zb (z11 (by rw[z29];omega)),z119 s hlt];refine hr _ ⟨idx+1,i+1,F+idx+4,[120,hd ((s.getD i 0).toNat / 16),hd ((s.getD i 0).toNat % 16)],?_,by omega,by simp at hlen;omega,by rw[<- List.drop_drop,hd',hu1];rfl,?_,fun e=>(by cases e),fun _=>rfl⟩ (by dsimp only;simp at hlen;omega)
         . dsimp only;rw[zae (by unfold I64;omega)];congr 2
         . intro y hy;simp only[List.mem_cons,List.mem_nil_iff,or_false] at hy;have k1:=z1cf ((s.getD i 0).toNat / 16) (by omega);have k2:=z1cf ((s.getD i 0).toNat % 16) (by omega);rcases hy with rfl|rfl|rfl
           . decide
           . omega
           . omega
   . have hie:i=s.length:=by omega
     rw[zbg (by omega)] at hd' hg hlen;have h0:(X.drop F).getD idx 0=34:=by have:=hg 0;simpa using this
     rw[z38 (by rw[h0];decide),h0,zb (by rfl),z40,hie,List.take_length];simp at hlen;rw[show F+idx+1=F+(z8d s 0).length+1 by omega]
end
end Go.Proofs.YtlmlihfmoabinaaDoorLg
set_option linter.all false
namespace Go.Proofs.YtlmlihfmoabinaaDoorLg
noncomputable section
open Go Go.Lift Go.Lib Go.Proofs.YtlmlihfmoabinaaDoorPx
inductive Esc where
 | cut|bad|ok (b n:Nat)
def zzg (b:Nat):Nat:=if 48<=b/\b<=57 then b - 48 else if 97<=b/\b<=102 then b - 87 else 16
def z16v:List UInt8->Esc
 | []=>.cut
 | c :: r=>if c.toNat=34\/c.toNat=92 then .ok c.toNat 2 else if c.toNat=120 then (match r with
   | []=>.cut
   | a::r=>if zzg a.toNat<16 then (match r with
     | []=>.cut
     | b::_=>if zzg b.toNat<16 then .ok (16*zzg a.toNat+zzg b.toNat) 4 else .bad) else .bad) else .bad
theorem zyw (c:UInt8)(r:List UInt8):z16v (c::r)=(if c.toNat=34\/c.toNat=92 then .ok c.toNat 2 else if c.toNat=120 then (match r with
 | []=>.cut
 | a::r=>if zzg a.toNat<16 then (match r with
   | []=>.cut
   | b::_=>if zzg b.toNat<16 then .ok (16*zzg a.toNat+zzg b.toNat) 4 else .bad) else .bad) else .bad):=rfl
set_option maxRecDepth 10000000 in
theorem z1aw:∀ b:Fin 256,z9g 0 (b.1:Int)=some (if zzg b.1<16 then ((zzg b.1:Int),true,()) else (0,false,())):=by decide +kernel
theorem z19b (N:Nat)(u:UInt8):z9g N ((u.toNat:Nat):Int)=some (if zzg u.toNat<16 then ((zzg u.toNat:Int),true,()) else (0,false,())):=z1aw ⟨u.toNat,u.toNat_lt⟩
theorem ziu {b:Nat}(h:zzg b<16):b<128:=by
 unfold zzg at h;split at h
 . omega
 . split at h<;>omega
theorem z169 {t : List UInt8} {b n:Nat} (h:z16v t=.ok b n):b<256/\2<=n/\n - 1<=t.length/\∀ j,j<n - 1->(t.getD j 0).toNat<128:=by
 cases t with
 | nil=>simp[z16v] at h
 | cons c r =>
   simp only[z16v] at h;split at h
   . rename_i hc;cases h;refine⟨by omega,by omega,by simp,fun j hj=>?_⟩;obtain rfl:j=0:=by omega
     simp only[List.getD_cons_zero];omega
   . split at h
     . rename_i hc;cases r with
       | nil=>simp at h
       | cons x r =>
         dsimp only at h;split at h
         . rename_i hx;cases r with
           | nil=>simp at h
           | cons y r =>
             dsimp only at h;split at h
             . rename_i hy;cases h;refine⟨by omega,by omega,by simp,fun j hj=>?_⟩;have:=ziu hx;have:=ziu hy;obtain rfl|rfl|rfl:j=0\/j=1\/j=2:=by omega
               . show c.toNat<128;omega
               . exact ziu hx
               . exact ziu hy
             . cases h
         . cases h
     . cases h
def escO:Esc->Int×Int×Int×Unit
 | .cut=>(0,0,1,())
 | .bad=>(0,0,2,())
 | .ok b n=>((b:Int),((n - 1:Nat):Int),0,())
theorem nib' {a b:Nat}(ha:a<16)(hb:b<16):bitsOp .or .u8 (shlI .u8 (bitsOp .or .u8 (shlI .u8 (0:Int) 4) (a:Int)) 4) (b:Int)=((16*a+b:Nat):Int):=nib ⟨a,ha⟩ ⟨b,hb⟩
theorem z1cj (k:Nat) (t:List UInt8):z3y (k+10) t=some (escO (z16v t)):=by
 cases t with
 | nil=>rfl
 | cons c r =>
   by_cases hq:c.toNat=34\/c.toNat=92
   . rw[esc1 _ hq,zyw,if_pos hq];rfl
   have hne:((c::r) == ([]:List UInt8))=false:=rfl;have hin:inR (0:Int) (c::r).length=true:=zab (by omega) (by simp);simp only[z3y,z5j,z5i,hne,cond_false,List.getD_cons_zero,hin,cond_true];rw[zl (by rw[beq_eq_false_iff_ne];omega),zl (by rw[beq_eq_false_iff_ne];omega)];rw[zyw,if_neg hq];by_cases hx:c.toNat=120
   case neg=>rw[if_neg hx,zb (by rw[bne_iff_ne];omega)];rfl
   rw[if_pos hx,zl (by rw[hx];rfl)];simp only[zbl];have w1:IntKind.wrap .i64 ((1:Int)+1)=2:=by kernel_rfl
   have w2:IntKind.wrap .i64 ((2:Int)+1)=3:=by kernel_rfl
   rw[show k+10=(k+9)+1 from rfl,z5s];simp only[z8g];rw[zb (by rfl)];cases r with
   | nil=>rw[zb (by rfl)];rfl
   | cons a r =>
     have hl:(c::a::r).length=r.length+2:=rfl;have g1:List.getD (c::a::r) (Int.toNat 1) 0=a:=rfl;rw[hl,zl (by rw[beq_eq_false_iff_ne];omega),zb (zab (by omega) (by omega)),g1,z19b,Option.bind_some];dsimp only;by_cases ha:zzg a.toNat<16
     case neg=>rw[if_neg ha,if_neg ha];rfl
     rw[if_pos ha,if_pos ha,w1];dsimp only;rw[zl (by rfl),show k+9=(k+8)+1 from rfl,z5s];dsimp only;rw[zb (by rfl)];cases r with
     | nil=>rw[zb (by rfl)];rfl
     | cons b r =>
       have hl2:(b::r).length=r.length+1:=rfl;have g2:List.getD (c::a::b::r) (Int.toNat 2) 0=b:=rfl;rw[hl2,zl (by rw[beq_eq_false_iff_ne];omega),zb (zab (by omega) (by omega)),g2,z19b,Option.bind_some];dsimp only;by_cases hb:zzg b.toNat<16
       case neg=>rw[if_neg hb,if_neg hb];rfl
       rw[if_pos hb,if_pos hb,w2];dsimp only;rw[zl (by rfl),nib' ha hb,show k+8=(k+7)+1 from rfl,z5s];dsimp only;rw[zl (by rfl)];rfl
abbrev RdT:=List UInt8×Int×(Int×(Int×Unit))×Unit
def znp (s:List UInt8):Nat->Nat->List UInt8->RdT
 | 0,_,_=>([],0,(1,(s.length:Int),()),())
 | f + 1,i,out=>if i<s.length then
     (if (s.getD i 0).toNat=34 then (out,((i+1:Nat):Int),(0,0,()),())
     else if (s.getD i 0).toNat=92 then (match z16v (s.drop (i+1)) with
      | .cut=>([],0,(1,(s.length:Int),()),())
      | .bad=>([],0,(2,(i:Int),()),())
      | .ok b n=>znp s f (i+n) (out++[UInt8.ofNat b]))
     else if ze1 s i=true then znp s f (i+z1m s i) (out++(s.drop i).take (z1m s i))
     else ([],0,(2,(i:Int),()),()))
   else ([],0,(1,(s.length:Int),()),())
theorem ziq (s:List UInt8):∀ (f f' i:Nat) (o:List UInt8),s.length - i<=f->s.length - i<=f'->znp s f i o=znp s f' i o
 | 0,0,i,o,_,_=>rfl
 | 0,f'+1,i,o,h,_=>by simp only[znp];rw[if_neg (by omega)]
 | f+1,0,i,o,_,h=>by simp only[znp];rw[if_neg (by omega)]
 | f + 1,f'+1,i,o,h,h'=>by
   simp only[znp];by_cases hi:i<s.length
   . rw[if_pos hi,if_pos hi];split;· rfl
     split
     . cases he:z16v (s.drop (i+1)) with
       | cut=>rfl
       | bad=>rfl
       | ok b n =>
         have:=z169 he;exact ziq s f f' (i+n) _ (by omega) (by omega)
     split
     . have:=z3h hi;exact ziq s f f' (i+z1m s i) _ (by omega) (by omega)
     . rfl
   . rw[if_neg hi,if_neg hi]
def zno (s:List UInt8)(i:Nat)(o:List UInt8):RdT:=znp s s.length i o
theorem z14y {s:List UInt8}{i:Nat}{o:List UInt8}(h:s.length<=i):zno s i o=([],0,(1,(s.length:Int),()),()):=by
 unfold zno;rw[ziq s s.length 0 i o (by omega) (by omega)];rfl
theorem z135 {s:List UInt8} {i:Nat} {o:List UInt8} (h:i<s.length):zno s i o =
 (if (s.getD i 0).toNat=34 then (o,((i+1:Nat):Int),(0,0,()),())
  else if (s.getD i 0).toNat=92 then (match z16v (s.drop (i+1)) with
   | .cut=>([],0,(1,(s.length:Int),()),())
   | .bad=>([],0,(2,(i:Int),()),())
   | .ok b n=>zno s (i+n) (o++[UInt8.ofNat b]))
  else if ze1 s i=true then zno s (i+z1m s i) (o++(s.drop i).take (z1m s i))
  else ([],0,(2,(i:Int),()),())):=by
 have hu:=z3h h;have e:zno s i o=znp s (s.length+1) i o:=ziq s _ _ i o (by omega) (by omega);rw[e];simp only[znp,zno];rw[if_pos h]
theorem zzn {b:Nat}(h:b<256):ofStr [UInt8.ofNat b]=[(b:Int)]:=by
 have:(UInt8.ofNat b).toNat=b:=by rw[UInt8.toNat_ofNat'];omega
 show [(((UInt8.ofNat b).toNat:Nat):Int)]=_;rw[this]
theorem z12k (k:Nat) {X:List UInt8} {F:Nat} (hX:X.length<=300000) (hF:F<=X.length) :
 z9h (k+1000000) X (F:Int)=some (zno X F []):=by
 have hul:(X.drop F).length=X.length - F:=List.length_drop ..;simp only[z9h,zf1];rw[zb (z11 (by omega)),Int.toNat_natCast,zlk];rw[z6o (I:=fun (v:List Int×Int×(List UInt8×Nat))=>∃ (idx nx:Nat) (o:List UInt8),v=(ofStr o,(nx:Int),(X.drop F,idx))/\F+idx<=X.length/\nx<=X.length/\o.length<=max nx (F+idx)/\∀ j,F+idx<=j->j<nx->(X.getD j 0).toNat<128) (m:=fun v=>X.length - F - v.2.2.2) (R:=fun v=>some (zno X (max v.2.1.toNat (F+v.2.2.2)) (toStr v.1))) ?_ (k+1000000) ([],(F:Int),(X.drop F,0)) ⟨0,F,[],rfl,by omega,by omega,by simp,fun j h1 h2=>by omega⟩ (by dsimp only;omega)]
 . dsimp only;rw[Int.toNat_natCast,Nat.add_zero,Nat.max_self];rfl
 rintro v r ⟨idx,nx,o,rfl,hix,hnx,hol,hh⟩ hr;dsimp only at hr ⊢;rw[Int.toNat_natCast];have hw:IntKind.wrap .i64 ((idx:Int)+(F:Int))=((F+idx:Nat):Int):=by rw[zae (by unfold I64;omega)];omega
 have hw1:IntKind.wrap .i64 (((F+idx:Nat):Int)+1)=((F+idx+1:Nat):Int):=z2e (by omega);simp only[zb4,hw,hw1,zrb];rw[z40];by_cases hlt:idx<(X.drop F).length
 case neg =>
  rw[zl (z24 hlt),z14y (by omega)]
 have hp:F+idx<X.length:=by omega
 rw[zb (z11 hlt)];by_cases hpn:F+idx<nx
 . rw[zb (z11 (by omega)),z38 (hh _ (Nat.le_refl _) hpn)];have:=hr (ofStr o,(nx:Int),(X.drop F,idx+1)) ⟨idx+1,nx,o,rfl,by omega,by omega,by omega,fun j h1 h2=>hh j (by omega) h2⟩ (by dsimp only;omega);rw[this];dsimp only;rw[Int.toNat_natCast,z40,show max nx (F+(idx+1))=max nx (F+idx) by omega]
 rw[zl (z24 (by omega)),show max nx (F+idx)=F+idx by omega,z135 hp];have hu:=z3h hp;have hq:((((runeAt X (F+idx)).1:Nat):Int) == 34)=((X.getD (F+idx) 0).toNat == 34)/\((((runeAt X (F+idx)).1:Nat):Int) == 92)=((X.getD (F+idx) 0).toNat == 92):=by
  by_cases h:(X.getD (F+idx) 0).toNat<128
  . rw[z38 h];constructor<;>(rw[Bool.eq_iff_iff,beq_iff_eq,beq_iff_eq];dsimp only;omega)
  . have:=z8e hp (by omega);constructor<;>(rw[Bool.eq_iff_iff,beq_iff_eq,beq_iff_eq];omega)
 rw[hq.1,hq.2];by_cases h34:(X.getD (F+idx) 0).toNat=34
 . rw[if_pos h34,zb (by rw[beq_iff_eq];exact h34)]
 rw[if_neg h34,zl (by rw[beq_eq_false_iff_ne];exact h34)];by_cases h92:(X.getD (F+idx) 0).toNat=92
 . rw[if_pos h92,zb (by rw[beq_iff_eq];exact h92),zb (z11 (by omega)),Int.toNat_natCast,zlk,show k+1000000=(k+999990)+10 from rfl,z1cj,Option.bind_some];have hdl:(X.drop (F+idx+1)).length=X.length - (F+idx+1):=List.length_drop ..;cases he:z16v (X.drop (F+idx+1)) with
   | cut=>rfl
   | bad=>rfl
   | ok b n =>
     obtain⟨hb,hn2,hnl,hasc⟩:=z169 he;have hw2:IntKind.wrap .i64 (((F+idx+1:Nat):Int)+((n - 1:Nat):Int))=((F+idx+n:Nat):Int):=by rw[zae (by unfold I64;omega)];omega
     simp only[escO,hw2];rw[zl (by rfl),zl (by rfl),zb (z11 (by rw[z29];omega)),<- zzn hb,<- z89,z38 (by omega)];have:=hr (ofStr (o++[UInt8.ofNat b]),((F+idx+n:Nat):Int),(X.drop F,idx+1)) ⟨idx+1,F+idx+n,o++[UInt8.ofNat b],rfl,by omega,by omega,by simp only[List.length_append,List.length_singleton];omega,fun j h1 h2=>?_⟩ (by dsimp only;omega)
     . rw[this];dsimp only;rw[Int.toNat_natCast,z40,show max (F+idx+n) (F+(idx+1))=F+idx+n by omega]
     . have:=hasc (j - (F+idx+1)) (by omega);rw[z8a,show F+idx+1+(j - (F+idx+1))=j by omega] at this;exact this
 rw[if_neg h92,zl (by rw[beq_eq_false_iff_ne];exact h92),zwy _ hp,Option.bind_some];cases hsf:ze1 X (F+idx) with
 | false=>rfl
 | true =>
   have hw2:IntKind.wrap .i64 (((F+idx:Nat):Int)+((z1m X (F+idx):Nat):Int))=((F+idx+z1m X (F+idx):Nat):Int):=by rw[zae (by unfold I64;omega)];omega
   have hpl:((X.drop (F+idx)).take (z1m X (F+idx))).length=z1m X (F+idx):=by rw[List.length_take,List.length_drop];omega
   rw[cond_true,zwe _ hp,Option.bind_some,hw2,zb (z11 (by omega)),zb (z11 (by omega)),Int.toNat_natCast,Int.toNat_natCast,z10q,zb (z11 (by rw[z29,z29,hpl];omega)),<- z89,if_pos rfl];have e:z1m X (F+idx)=(runeAt X (F+idx)).2:=rfl;have:=hr (ofStr (o++(X.drop (F+idx)).take (z1m X (F+idx))),(nx:Int),(X.drop F,idx+(runeAt X (F+idx)).2)) ⟨idx+(runeAt X (F+idx)).2,nx,_,rfl,by omega,by omega,by rw[List.length_append,hpl];omega,fun j h1 h2=>by omega⟩ (by dsimp only;omega);rw[this];dsimp only;rw[Int.toNat_natCast,z40,show max nx (F+(idx+(runeAt X (F+idx)).2))=F+idx+z1m X (F+idx) by omega]
theorem z1ab (k:Nat){s:List UInt8}{at_:Nat}(hs:s.length<=300000)(ha:at_<s.length)(h34:(s.getD at_ 0).toNat=34):z86 (k+1000000) s (at_:Int)=some (zno s (at_+1) []):=by
 have hw1:IntKind.wrap .i64 ((at_:Int)+1)=((at_+1:Nat):Int):=z2e (by omega);simp only[z86,z8j,z8i];rw[zl (z24 (by omega)),zl (z24 (by omega)),zl (by rw[beq_eq_false_iff_ne];omega),zb (z28 ha),Int.toNat_natCast,zl (by rw[h34];rfl),hw1,z12k k (by omega) (by omega),Option.bind_some]
end
end Go.Proofs.YtlmlihfmoabinaaDoorLg
set_option linter.all false
namespace Go.Proofs.YtlmlihfmoabinaaDoorPx
noncomputable section
open Go Go.Lift
def z16x (c:Nat)(first:Bool):Bool:=decide (97<=c/\c<=122) || (decide ((48<=c/\c<=57)\/c=45) && !first)
theorem zxo {c:Nat}(h:128<=c)(f:Bool):z16x c f=false:=by
 simp only[z16x,Bool.or_eq_false_iff,decide_eq_false_iff_not,Bool.and_eq_false_iff];exact⟨by omega,.inl (by omega)⟩
def z1bc (p:Nat->Bool->Bool):List UInt8->Bool->Bool
 | [],_=>true
 | u::r,f=>p u.toNat f && z1bc p r false
def zr4 (s:List UInt8):Bool:=decide (1<=s.length/\s.length<=32) && z1bc z16x s true
end
end Go.Proofs.YtlmlihfmoabinaaDoorPx
set_option linter.all false
set_option maxRecDepth 100000
namespace Go.Proofs.YtlmlihfmoabinaaDoorLg
noncomputable section
open Go Go.Lift Go.Proofs.YtlmlihfmoabinaaDoorPx
theorem zzj (N:Nat)(c:Nat)(f:Bool):z8z N (c:Int) f=some (z16x c f):=by
 simp only[z8z,zaj,zir,z16x,Bool.cond_eq_ite,decide_eq_true_eq,beq_iff_eq];have key:(if (48:Int)<=c then some (decide ((c:Int)<=57)) else some false)=some (decide (48<=c/\c<=57)):=by
  split
  . congr 1;rw[Bool.eq_iff_iff,decide_eq_true_eq,decide_eq_true_eq];omega
  . congr 1;rw[Bool.eq_iff_iff,decide_eq_true_eq];simp;omega
 rw[key];simp only[Option.bind_some,decide_eq_true_eq,Bool.false_eq_true,if_false];by_cases h1:97<=c/\c<=122
 . rw[if_pos (by omega),if_pos (by omega)];simp[h1]
 have hx:∀ X Y:Option Bool,(if (97:Int)<=c then if (c:Int)<=122 then Y else X else X)=X:=by
  intro X Y
  repeat' split
  all_goals first
   | rfl
   | omega
 rw[hx,decide_eq_false h1,Bool.false_or];by_cases h4:48<=c/\c<=57
 . rw[if_pos h4,decide_eq_true (p:=(48<=c/\c<=57)\/c=45) (.inl h4),Bool.true_and]
 . rw[if_neg h4];by_cases h5:c=45
   . subst h5;simp
   . rw[if_neg (by omega),decide_eq_false (by omega),Bool.false_and]
theorem z163 (i:Nat):((((i:Nat):Int)) == 0)=decide (i=0):=by
 rw[Bool.eq_iff_iff,beq_iff_eq,decide_eq_true_eq];omega
theorem z141 (N:Nat) {s:List UInt8} (hN:40<N):z90 N s=some (zr4 s):=by
 simp only[z90,zam,zal,zr4];by_cases h0:s=[]
 . subst h0;rfl
 have hl:s.length≠0:=fun e=>h0 (List.length_eq_zero_iff.1 e)
 rw[zl (by simpa using h0)];by_cases h1:32<s.length
 . rw[zb (z11 (by omega)),decide_eq_false (by omega)];rfl
 rw[zl (z24 (by omega)),decide_eq_true (p:=1<=s.length/\s.length<=32) (by omega),Bool.true_and];simp only[zg5];rw[z6o (I:=fun (v:List UInt8×Nat)=>v.1=s/\v.2<=s.length) (m:=fun (v:List UInt8×Nat)=>s.length - v.2) (R:=fun (v:List UInt8×Nat)=>some (z1bc z16x (s.drop v.2) (decide (v.2=0)))) ?_ N (s,0) ⟨rfl,Nat.zero_le _⟩ (by dsimp only;omega)]
 . simp
 rintro⟨s',i⟩ r ⟨rfl,hi⟩ hr;dsimp only at *;simp only[zak,z163];by_cases hlt:i<s'.length
 . rw[zb (z11 hlt),zzj,Option.bind_some,z5u s' 0 i hlt];simp only[z1bc];by_cases h128:(s'.getD i 0).toNat<128
   . rw[z38 h128];dsimp only;cases hp:z16x (s'.getD i 0).toNat (decide (i=0)) with
     | false=>rfl
     | true =>
       rw[Bool.not_true,cond_false,hr _ ⟨rfl,by dsimp only;omega⟩ (by dsimp only;omega)];dsimp only;rw[decide_eq_false (by omega),Bool.true_and]
   . obtain⟨g1,_⟩:=z8e hlt (by omega);rw[zxo g1,zxo (by omega)];rfl
 . rw[zl (z24 hlt),z93 s' (by omega)];rfl
theorem z19k (N:Nat){s:List UInt8}(hN:40<N):zi9 N s=some (zr4 s):=by
 simp only[zi9,z141 N hN,Option.bind_some]
end
end Go.Proofs.YtlmlihfmoabinaaDoorLg
set_option linter.all false
set_option maxRecDepth 100000
namespace Go.Proofs.YtlmlihfmoabinaaDoorLg
noncomputable section
open Go Go.Lift Go.Lib Go.Proofs.YtlmlihfmoabinaaDoorPx
abbrev OpT:=Int×(List UInt8×(Int×(List UInt8×(List (List UInt8)×Unit))))
abbrev zba:=List UInt8×(Int×(Bool×(Bool×(Bool×(Bool×Unit)))))
def op0:OpT:=(0,[],0,[],[],())
def zqr:zba:=([],0,false,false,false,false,())
theorem zfo {s:List UInt8}{i n:Nat}{c:UInt8}(hc:c∈(s.drop i).take n):∃ j,i<=j/\j<i+n/\j<s.length/\s.getD j 0=c:=by
 obtain⟨k,hk,e⟩:=List.getElem_of_mem hc;rw[List.length_take,List.length_drop] at hk;refine⟨i+k,by omega,by omega,by omega,?_⟩;rw[<- e,List.getElem_take,List.getElem_drop,List.getD_eq_getElem?_getD,List.getElem?_eq_getElem (by omega),Option.getD_some]
theorem z63:∀ (s cur:List UInt8) (q e:Bool),(z1k s cur q e).length<=s.length+1
 | [],cur,_,_=>by simp[z1k]
 | c::r,cur,q,true=>by rw[z1k];have:=z63 r (cur++[c]) q false;simp only[List.length_cons];omega
 | c::r,cur,q,false=>by
   rw[z1k];have h1:=z63 r (cur++[c]) q true;have h2:=z63 r (cur++[c]) (!q) false;have h3:=z63 r [] q false;have h4:=z63 r (cur++[c]) q false;simp only[List.length_cons];split;· omega
   split;· omega
   split;· simp only[List.length_cons];omega
   omega
theorem z9b:∀ (s cur:List UInt8) (q e:Bool),∀ w∈z1k s cur q e,w.length<=cur.length+s.length
 | [],cur,_,_,w,hw=>by simp[z1k] at hw;simp[hw]
 | c::r,cur,q,true,w,hw=>by rw[z1k] at hw;have:=z9b r _ q false w hw;simp only[List.length_append,List.length_cons,List.length_nil] at this ⊢;omega
 | c :: r,cur,q,false,w,hw=>by
   rw[z1k] at hw;simp only[List.length_cons];split at hw;· have:=z9b r _ q true w hw;simp only[List.length_append,List.length_cons,List.length_nil] at this;omega
   split at hw;· have:=z9b r _ (!q) false w hw;simp only[List.length_append,List.length_cons,List.length_nil] at this;omega
   split at hw
   . rcases List.mem_cons.1 hw with rfl|hw
     . omega
     . have:=z9b r [] q false w hw;simp only[List.length_nil] at this;omega
   . have:=z9b r _ q false w hw;simp only[List.length_append,List.length_cons,List.length_nil] at this;omega
theorem zzq {X r cur:List UInt8}{q e:Bool}(h:∀ c∈X,128<=c.toNat)(hX:X≠[]):z1k (X++r) cur q e=z1k r (cur++X) q false:=by
 have key:∀ c:UInt8,128<=c.toNat->c≠34/\(q=true->c≠92)/\(q=false->c≠32):=fun c hc=>⟨fun e=>by subst e;revert hc;decide,fun _ e=>by subst e;revert hc;decide,fun _ e=>by subst e;revert hc;decide⟩
 cases e with
 | false=>exact z81 X r cur q (fun c hc=>key c (h c hc))
 | true =>
   cases X with
   | nil=>exact absurd rfl hX
   | cons c X =>
     rw[List.cons_append,z1k,z81 X r _ q (fun d hd=>key d (h d (List.mem_cons_of_mem _ hd))),List.append_assoc];rfl
theorem cc {α:Type}{b q:Bool}{A B:α}(h:¬ (b=true/\q=true)):cond b (cond q A B) B=B:=by
 cases b<;>cases q<;>first|rfl|exact absurd ⟨rfl,rfl⟩ h
theorem z11f (N:Nat) {s:List UInt8} (hs:s.length<=10000000) (hN:s.length<N):za9 N s=some (z1k s [] false false):=by
 simp only[za9,zhh];rw[z6o (I:=fun (v:List (List UInt8)×Int×Bool×Bool×(List UInt8×Nat))=>∃ (ps:List (List UInt8)) (f i:Nat) (q e:Bool),v=(ps,(f:Int),q,e,(s,i))/\f<=i/\i<=s.length/\ps.length<=i/\ps++z1k (s.drop i) (Lift.cut s f i) q e=z1k s [] false false) (m:=fun v=>s.length - v.2.2.2.2.2) (R:=fun _=>some (z1k s [] false false)) ?_ N ([],(0:Int),false,false,(s,0)) ⟨[],0,0,false,false,rfl,Nat.le_refl _,by omega,by simp,by simp[Lift.cut]⟩ (by dsimp only;omega)];rintro v r ⟨ps,f,i,q,e,rfl,hfi,hi,hps,hT⟩ hr;dsimp only at hr ⊢;simp only[zby,zc0,zbz];by_cases hlt:i<s.length
 case neg =>
  have hie:i=s.length:=by omega
  subst hie;rw[zl (z24 hlt),zb (z11 ⟨by omega,by omega⟩),zb (z11 (by omega)),Int.toNat_natCast,<- hT,List.drop_length,z1k]
 rw[zb (z11 hlt)];have hcut:∀ n,i+n<=s.length->Lift.cut s f (i+n)=Lift.cut s f i++(s.drop i).take n:=by
  intro n hn;unfold Lift.cut;rw[List.take_add,List.drop_append_of_le_length (by rw[List.length_take];omega)]
 by_cases h128:128<=(s.getD i 0).toNat
 . obtain⟨h1,h2,h3,h4⟩:=z8e hlt h128;generalize hru:runeAt s i=ru at h1 h2 h3 h4;obtain⟨c,n⟩:=ru;dsimp only at h1 h2 h3 h4 ⊢;have hX:∀ c∈(s.drop i).take n,128<=c.toNat:=fun c hc=>by
    obtain⟨j,hj1,hj2,hj3,e⟩:=zfo hc;rw[<- e];exact h4 j hj1 hj2
   have hXn:(s.drop i).take n≠[]:=fun e=>by have:=congrArg List.length e;rw[List.length_take,List.length_drop] at this;simp at this;omega
   have hgo:ps++z1k (s.drop (i+n)) (Lift.cut s f (i+n)) q false=z1k s [] false false:=by
    rw[<- hT,hcut n h3,<- zzq (e:=e) hX hXn,<- List.drop_drop,List.take_append_drop]
   have hr':=hr (ps,(f:Int),q,false,(s,i+n)) ⟨ps,f,i+n,q,false,rfl,by omega,h3,by omega,hgo⟩ (by dsimp only;omega);cases e with
   | true=>rw[cond_true];exact hr'
   | false =>
     have e1:(((c:Nat):Int) == 92)=false:=by rw[beq_eq_false_iff_ne];omega
     have e2:(((c:Nat):Int) == 34)=false:=by rw[beq_eq_false_iff_ne];omega
     have e3:(((c:Nat):Int) == 32)=false:=by rw[beq_eq_false_iff_ne];omega
     simp only[cond_false,e1,e2,e3];exact hr'
 . have hru:=z38 (s:=s) (i:=i) (by omega);rw[hru];dsimp only;have hd:=z5u s 0 i hlt;generalize hc:s.getD i 0=c at hd h128;have hc1:(s.drop i).take 1=[c]:=by rw[hd];rfl
   have hcut1:=hcut 1 (by omega);rw[hc1] at hcut1;rw[hd] at hT;cases e with
   | true =>
     rw[cond_true];rw[z1k,<- hcut1] at hT;exact hr (ps,(f:Int),q,false,(s,i+1)) ⟨ps,f,i+1,q,false,rfl,by omega,by omega,by omega,hT⟩ (by dsimp only;omega)
   | false =>
     have q92:((((c.toNat:Nat):Int)) == 92)=decide (c=92):=by rw[Bool.eq_iff_iff,beq_iff_eq,decide_eq_true_eq,<- UInt8.toNat_inj];show _ ↔ c.toNat=92;omega
     have q34:((((c.toNat:Nat):Int)) == 34)=decide (c=34):=by rw[Bool.eq_iff_iff,beq_iff_eq,decide_eq_true_eq,<- UInt8.toNat_inj];show _ ↔ c.toNat=34;omega
     have q32:((((c.toNat:Nat):Int)) == 32)=decide (c=32):=by rw[Bool.eq_iff_iff,beq_iff_eq,decide_eq_true_eq,<- UInt8.toNat_inj];show _ ↔ c.toNat=32;omega
     simp only[cond_false,q92,q34,q32];rw[z1k] at hT;by_cases c1:c=92/\q=true
     . rw[if_pos c1,<- hcut1] at hT;rw[zb (z11 c1.1),c1.2,cond_true];rw[c1.2] at hT;exact hr (ps,(f:Int),true,true,(s,i+1)) ⟨ps,f,i+1,true,true,rfl,by omega,by omega,by omega,hT⟩ (by dsimp only;omega)
     rw[if_neg c1] at hT;rw[cc (fun e=>c1 ⟨of_decide_eq_true e.1,e.2⟩)];by_cases c2:c=34
     . rw[if_pos c2,<- hcut1] at hT;rw[zb (z11 c2)];exact hr (ps,(f:Int),!q,false,(s,i+1)) ⟨ps,f,i+1,!q,false,rfl,by omega,by omega,by omega,hT⟩ (by dsimp only;omega)
     rw[if_neg c2] at hT;rw[zl (z24 c2)];by_cases c3:c=32/\q=false
     . rw[if_pos c3] at hT;rw[zb (z11 c3.1),c3.2,Bool.not_false,cond_true,zb (z11 ⟨by omega,by omega⟩),zb (z11 ⟨by omega,by omega⟩),zb (z11 (by omega)),z2e (by omega),Int.toNat_natCast,Int.toNat_natCast];rw[c3.2] at hT;refine hr (ps++[Lift.cut s f i],((i+1:Nat):Int),false,false,(s,i+1)) ⟨ps++[Lift.cut s f i],i+1,i+1,false,false,rfl,by omega,by omega,by simp;omega,?_⟩ (by dsimp only;omega);rw[List.append_assoc,List.singleton_append,show Lift.cut s (i+1) (i+1)=[] by simp[Lift.cut]];exact hT
     rw[if_neg c3,<- hcut1] at hT;have hr':=hr (ps,(f:Int),q,false,(s,i+1)) ⟨ps,f,i+1,q,false,rfl,by omega,by omega,by omega,hT⟩ (by dsimp only;omega);by_cases h:c=32
     . rw[zb (z11 h)];cases q with
       | false=>exact absurd ⟨h,rfl⟩ c3
       | true=>exact hr'
     . rw[zl (z24 h)];exact hr'
theorem z129:∀ n,n<16->hd n≠34/\hd n≠92/\hd n≠32:=by decide
theorem zit:∀ (s:List UInt8),∀ c∈zxc s,c≠34/\c≠32/\c≠10
 | [],c,h=>by cases h
 | u::r,c,h=>by
   have hu:=zaf u;have k:∀ n,n<16->hd n≠34/\hd n≠32/\hd n≠10:=by decide
   rw[zxc] at h;rcases List.mem_cons.1 h with rfl|h
   . exact k _ (by omega)
   rcases List.mem_cons.1 h with rfl|h
   . exact k _ (by omega)
   . exact zit r c h
theorem z100 {s:List UInt8} {i:Nat} (hi:i<s.length) (r cur:List UInt8):z1k (zbt s i++r) cur true false=z1k r (cur++zbt s i) true false:=by
 have hb:=zaf (s.getD i 0);unfold zbt;cases hq:((s.getD i 0).toNat == 34 || (s.getD i 0).toNat == 92) with
 | true=>rw[cond_true];exact zvh _ r cur
 | false =>
   rw[cond_false];rw[Bool.or_eq_false_iff,beq_eq_false_iff_ne,beq_eq_false_iff_ne] at hq;cases hsf:ze1 s i with
   | false =>
     rw[cond_false];have h1:=z129 ((s.getD i 0).toNat / 16) (by omega);have h2:=z129 ((s.getD i 0).toNat % 16) (by omega);show z1k (92::120::([hd ((s.getD i 0).toNat / 16),hd ((s.getD i 0).toNat % 16)]++r)) cur true false=_;rw[zvh,z81 _ _ _ true (fun c hc=>?_),List.append_assoc];rfl;simp only[List.mem_cons,List.not_mem_nil,or_false] at hc;rcases hc with rfl|rfl
     . exact⟨h1.1,fun _=>h1.2.1,fun e=>by cases e⟩
     . exact⟨h2.1,fun _=>h2.2.1,fun e=>by cases e⟩
   | true =>
     rw[cond_true];refine z81 _ _ _ true (fun c hc=>?_);obtain⟨j,hj1,hj2,hj3,e⟩:=zfo hc;by_cases h128:(s.getD i 0).toNat<128
     . rw[zdz h128] at hj2;have:j=i:=by omega
       subst this;rw[e] at hq;exact⟨fun h=>hq.1 (by rw[h];rfl),fun _ h=>hq.2 (by rw[h];rfl),fun h=>by cases h⟩
     . have h4:=(z8e hi (by omega)).2.2.2 j hj1 hj2;rw[e] at h4;exact⟨fun h=>by subst h;revert h4;decide,fun _ h=>by subst h;revert h4;decide,fun h=>by cases h⟩
theorem zzo (s:List UInt8):∀ (n i:Nat),s.length - i<=n->∀ r cur,z1k (z8d s i++r) cur true false=z1k r (cur++z8d s i) true false:=by
 intro n
 induction n with
 | zero=>intro i h r cur;rw[zbg (by omega)];simp
 | succ n ih =>
   intro i h r cur;by_cases hi:i<s.length
   . have hu:=z3h hi;rw[zbb hi,List.append_assoc,z100 hi,ih (i+z1m s i) (by omega),List.append_assoc]
   . rw[zbg (by omega)];simp
def z4v (w:List UInt8):List UInt8:=34::(z8d w 0++[34])
theorem z17h (N:Nat){s:List UInt8}(hs:s.length<=2000)(hN:2001<N):zbc N s=some (z4v s):=z1a5 N hs hN
theorem zz6 (w:List UInt8):zze (z4v w):=zxg (fun r cur=>zzo w w.length 0 (by omega) r cur)
theorem znh {x:List UInt8}(h:zr4 x=true):∀ u∈x,u≠34/\u≠32/\u≠10:=by
 simp only[zr4,Bool.and_eq_true] at h;have k:∀ (u:UInt8) (f:Bool),z16x u.toNat f=true->u≠34/\u≠32/\u≠10:=fun u f hw=>by
  refine⟨?_,?_,?_⟩<;>(intro e;subst e;cases f<;>revert hw<;>decide)
 have:∀ (l:List UInt8) (f:Bool),z1bc z16x l f=true->∀ u∈l,u≠34/\u≠32/\u≠10:=by
  intro l
  induction l with
  | nil=>intro f _ u hu;cases hu
  | cons v r ih =>
    intro f h u hu;simp only[z1bc,Bool.and_eq_true] at h;rcases List.mem_cons.1 hu with rfl|hu
    . exact k _ f h.1
    . exact ih false h.2 u hu
 exact this x true h.2
theorem zoq {n:Int}(h0:0<=n):∀ c∈Lib.itoa n,c≠34/\c≠32/\c≠10:=by
 obtain⟨u,rfl⟩:=Int.eq_ofNat_of_zero_le h0;have hi:Lib.itoa (u:Int)=Lib.decDigits u:=by unfold Lib.itoa;rw[if_neg (by omega)];rfl
 rw[hi];intro c hc;have:=(ztm u u (Nat.le_refl _)).2 c hc;refine⟨?_,?_,?_⟩<;>(intro e;subst e;revert this;decide)
def zna (op:OpT)(f:zba):Bool :=
 (cond f.2.2.1 (zr4 op.2.1) (op.2.1 == [])) && (cond f.2.2.2.2.1 (decide (0<=op.2.2.1) && decide (op.2.2.1<=1099511627776)) (op.2.2.1 == 0)) &&
 (cond f.2.2.2.1 (decide (op.2.2.2.1.length<=131072)) (op.2.2.2.1 == [])) && (cond f.2.2.2.2.2.1 (op.2.2.2.2.1.all (fun w=>decide (w.length<=2048)) && decide (op.2.2.2.2.1.length<=64)) (op.2.2.2.2.1 == []))
def zbj (op:OpT)(f:zba):List (List UInt8) :=
 (cond f.2.2.1 [op.2.1] [])++((cond f.2.2.2.1 [120::zxc op.2.2.2.1] [])++((cond f.2.2.2.2.1 [Lib.itoa op.2.2.1] [])++(cond f.2.2.2.2.2.1 (op.2.2.2.2.1.map z4v) [])))
def z10l (k:Int):Option zba:=glob0.find? (fun f=>f.2.1 == k)
def zfh (op:OpT):Option (List UInt8):=match z10l op.1 with
 | some f=>cond (zna op f) (some (zfk (f.1::zbj op f))) none
 | none=>none
def zyi (o:Option (List UInt8)):List UInt8×Bool×Unit:=match o with
 | some t=>(t,true,())
 | none=>([],false,())
def zwc (op:OpT):Prop:=∀ w∈op.2.2.2.2.1,w.length<=2000\/2048<w.length
theorem z160 (N:Nat)(hN:20<=N)(k:Int):z8q N k=some (match z10l k with|some f=>(f,true,())|none=>(zqr,false,())):=by
 simp only[z8q,zfw];rw[z6o (I:=fun (v:Int)=>∃ i:Nat,v=(i:Int)/\i<=9) (m:=fun v=>9 - v.toNat) (R:=fun v=>some (match (glob0.drop v.toNat).find? (fun f=>f.2.1 == k) with|some f=>(f,true,())|none=>(zqr,false,()))) ?_ N 0 ⟨0,rfl,by omega⟩ (by simp;omega)]
 . rfl
 rintro v r ⟨i,rfl,hi⟩ hr;rw[Int.toNat_natCast] at hr ⊢;simp only[zah,Int.toNat_natCast];have hl:glob0.length=9:=rfl;by_cases hlt:i<9
 . rw[zb (z11 (by omega)),zb (z28 hlt),z5u glob0 zqr i (by omega),List.find?_cons];show cond ((glob0.getD i zqr).2.1 == k) _ _=_;cases hk:(glob0.getD i zqr).2.1 == k with
   | true=>rfl
   | false=>rw[cond_false,z2e (by omega),hr _ ⟨i+1,rfl,by omega⟩ (by simp;omega),Int.toNat_natCast]
 . rw[zl (z24 (by omega)),z93 glob0 (by omega)];rfl
theorem zzi (N:Nat){l:List (List UInt8)}{u:Bool}(hl:l.length<=10000000000)(hN:l.length<N):z5o N l u=some (cond u (l.all (fun w=>decide (w.length<=2048)) && decide (l.length<=64)) (l == [])):=by
 simp only[z5o,zcw];cases u with
 | false =>
   rw[Bool.not_false,cond_true,cond_false];congr 1;rw[Bool.eq_iff_iff,beq_iff_eq,beq_iff_eq,<- List.length_eq_zero_iff];omega
 | true =>
   rw[Bool.not_true,cond_false,cond_true];rw[z6o (I:=fun (v:Int)=>∃ i:Nat,v=(i:Int)/\i<=l.length) (m:=fun v=>l.length - v.toNat) (R:=fun v=>some ((l.drop v.toNat).all (fun w=>decide (w.length<=2048)) && decide (l.length<=64))) ?_ N 0 ⟨0,rfl,by omega⟩ (by simp;omega)]
   . rfl
   rintro v r ⟨i,rfl,hi⟩ hr;rw[Int.toNat_natCast] at hr ⊢;simp only[z8n,Int.toNat_natCast];by_cases hlt:i<l.length
   . rw[zb (z11 (by omega)),zb (z28 hlt),z5u l [] i hlt,List.all_cons];by_cases hw:(l.getD i []).length<=2048
     . rw[zl (z24 (by omega)),z2e (by omega),hr _ ⟨i+1,rfl,by omega⟩ (by simp;omega),Int.toNat_natCast,z11 hw,Bool.true_and]
     . rw[zb (z11 (by omega)),z24 hw];rfl
   . rw[zl (z24 (by omega)),z93 l (by omega)];simp only[List.all_nil,Bool.true_and];congr 1;rw[Bool.eq_iff_iff,decide_eq_true_eq,decide_eq_true_eq];omega
theorem z1au (N:Nat){op:OpT}{f:zba}(hl:op.2.2.2.2.1.length<=10000000000)(hN:op.2.2.2.2.1.length<N)(h40:40<N):zc3 N op f=some (zna op f):=by
 have e1:z4c N op.2.1 f.2.2.1=some (cond f.2.2.1 (zr4 op.2.1) (op.2.1 == [])):=by
  simp only[z4c,z19k N h40,Option.bind_some];cases f.2.2.1<;>rfl
 have e2:z7k N op.2.2.1 f.2.2.2.2.1=some (cond f.2.2.2.2.1 (decide (0<=op.2.2.1) && decide (op.2.2.1<=1099511627776)) (op.2.2.1 == 0)):=by
  simp only[z7k];cases f.2.2.2.2.1<;>cases decide (0<=op.2.2.1)<;>rfl
 have e3:z5p N op.2.2.2.1 f.2.2.2.1=some (cond f.2.2.2.1 (decide (op.2.2.2.1.length<=131072)) (op.2.2.2.1 == [])):=by
  simp only[z5p];cases f.2.2.2.1
  . rfl
  . rw[Bool.not_true,cond_false,cond_true];congr 1;rw[Bool.eq_iff_iff,decide_eq_true_eq,decide_eq_true_eq];omega
 simp only[zc3,e1,e2,e3,zzi N hl hN,Option.bind_some,zna];cases (cond f.2.2.1 (zr4 op.2.1) (op.2.1 == []))<;>cases (cond f.2.2.2.2.1 (decide (0<=op.2.2.1) && decide (op.2.2.1<=1099511627776)) (op.2.2.1 == 0))<;>cases (cond f.2.2.2.1 (decide (op.2.2.2.1.length<=131072)) (op.2.2.2.1 == []))<;>rfl
theorem zoo:∀ ps:List (List UInt8),Lib.join ps [32]=zfk ps
 | []=>rfl
 | [w]=>by rw[Lib.join_one];rfl
 | w::v::r=>by
   rw[Lib.join_cons,zfk,<- zoo (v::r),Lib.join_cons];simp[Lib.joinTail]
theorem zic:∀ ps:List (List UInt8),(zfk ps).length<=ps.flatten.length+ps.length
 | []=>by simp[zfk]
 | [w]=>by simp[zfk]
 | w::v::r=>by
   have:=zic (v::r);simp only[zfk,List.length_append,List.length_cons,List.flatten_cons] at this ⊢;omega
theorem zgc:∀ (n u:Nat),u<=n->(Lib.decDigits u).length<=u+1
 | n,u,hn=>by
   rw[Lib.decDigits];by_cases h:u<10
   . rw[dif_pos h];simp
   . rw[dif_neg h];cases n with
     | zero=>omega
     | succ n=>have:=zgc n (u / 10) (by omega);simp;omega
theorem zb5 (w:List UInt8):(z4v w).length<=4*w.length+2:=by
 have:=zp1 w.length 0 (by omega) (s:=w);simp only[z4v,List.length_cons,List.length_append,List.length_nil];omega
theorem zw3:∀ l:List (List UInt8),(∀ w∈l,w.length<=2048)->(l.map z4v).flatten.length<=8194*l.length
 | [],_=>by simp
 | w::r,h=>by
   have h1:=zw3 r (fun v hv=>h v (List.mem_cons_of_mem _ hv));have h2:=zb5 w;have h3:=h w List.mem_cons_self;simp only[List.map_cons,List.flatten_cons,List.length_append,List.length_cons];omega
theorem z12s (N:Nat)(k0:List (List UInt8)->Option (List UInt8)){l ps:List (List UInt8)}(hl:l.length<=1000)(hps:ps.length<=1000)(hw:∀ w∈l,w.length<=2000)(hN:5000<=N) :
 z66 N ps l ((l.length:Nat):Int) 0 k0=k0 (ps++l.map z4v):=by
 simp only[z66];rw[z6o (I:=fun (v:List (List UInt8)×Int)=>∃ (qs:List (List UInt8)) (i:Nat),v=(qs,(i:Int))/\i<=l.length/\qs.length<=1000+i) (m:=fun v=>l.length - v.2.toNat) (R:=fun v=>k0 (v.1++(l.drop v.2.toNat).map z4v)) ?_ N (ps,0) ⟨ps,0,rfl,by omega,by omega⟩ (by simp;omega)]
 . rfl
 rintro v r ⟨qs,i,rfl,hi,hq⟩ hr;dsimp only at hr ⊢;rw[Int.toNat_natCast] at hr ⊢;simp only[z9i,Int.toNat_natCast];by_cases hlt:i<l.length
 . have hwl:=hw _ (ziv l [] i hlt);rw[zb (z11 (by omega)),zb (z28 hlt),z17h N hwl (by omega),Option.bind_some,zb (z11 (by omega)),z2e (by omega),hr (qs++[z4v (l.getD i [])],((i+1:Nat):Int)) ⟨_,i+1,rfl,by omega,by simp;omega⟩ (by dsimp only;omega)];dsimp only;rw[Int.toNat_natCast,z5u l [] i hlt,List.map_cons,List.append_assoc];rfl
 . rw[zl (z24 (by omega)),z93 l (by omega)];simp
theorem z12p (k:Nat) {op:OpT} {f:zba} (hf:f.1.length<=100) (h:zna op f=true) (hO:zwc op):z7d (k+1000000) op f=some (zfk (f.1::zbj op f)):=by
 obtain⟨kd,t,n,x,ws,u⟩:=op;obtain⟨c,kf,bt,bx,bn,bw,uf⟩:=f;simp only[zna,Bool.and_eq_true] at h;obtain⟨⟨⟨h1,h2⟩,h3⟩,h4⟩:=h;simp only[z7d,z9m,z9l,z9k,z9j];have ht:bt=true->t.length<=32:=fun e=>by subst e;rw[cond_true] at h1;simp only[zr4,Bool.and_eq_true,decide_eq_true_eq] at h1;exact h1.1.2
 have hx:bx=true->x.length<=131072:=fun e=>by subst e;rw[cond_true,decide_eq_true_eq] at h3;exact h3
 have hn:bn=true->0<=n/\n<=1099511627776:=fun e=>by subst e;rw[cond_true] at h2;simp only[Bool.and_eq_true,decide_eq_true_eq] at h2;exact h2
 have hws:bw=true->(∀ w∈ws,w.length<=2048)/\ws.length<=64:=fun e=>by
  subst e;rw[cond_true] at h4;simp only[Bool.and_eq_true,List.all_eq_true,decide_eq_true_eq] at h4;exact h4
 have hd:∀ m:Int,0<=m->m<=1099511627776->(Lib.itoa m).length<=1099511627777:=fun m h0 h1=>by
  obtain⟨v,rfl⟩:=Int.eq_ofNat_of_zero_le h0;have hi:Lib.itoa (v:Int)=Lib.decDigits v:=by unfold Lib.itoa;rw[if_neg (by omega)];rfl
  rw[hi];have:=zgc v v (Nat.le_refl _);omega
 have hnb:bn=true->zyl (n,())=some (Lib.itoa n):=fun e=>by
  obtain⟨h0,h1⟩:=hn e;unfold zyl;rw[zb];rw[z11 (show (-9223372036854775808:Int)<=n by omega),z11 (show n<=(9223372036854775807:Int) by omega)];rfl
 have hjoin:zl0 (c::zbj (kd,t,n,x,ws,u) (c,kf,bt,bx,bn,bw,uf),([32],()))=some (zfk (c::zbj (kd,t,n,x,ws,u) (c,kf,bt,bx,bn,bw,uf))):=by
  unfold zl0;have hj:=zic (c::zbj (kd,t,n,x,ws,u) (c,kf,bt,bx,bn,bw,uf));have hA:(cond bt [t] ([]:List (List UInt8))).flatten.length<=32/\(cond bt [t] ([]:List (List UInt8))).length<=1:=by
   cases bt
   . simp
   . have:=ht rfl;simp;omega
  have hB:(cond bx [120::zxc x] ([]:List (List UInt8))).flatten.length<=262145/\(cond bx [120::zxc x] ([]:List (List UInt8))).length<=1:=by
   cases bx
   . simp
   . have:=hx rfl;have:=z9t x;simp;omega
  have hC:(cond bn [Lib.itoa n] ([]:List (List UInt8))).flatten.length<=1099511627777/\(cond bn [Lib.itoa n] ([]:List (List UInt8))).length<=1:=by
   cases bn
   . simp
   . have:=hd n (hn rfl).1 (hn rfl).2;simp;omega
  have hD:(cond bw (ws.map z4v) []).flatten.length<=524416/\(cond bw (ws.map z4v) []).length<=64:=by
   cases bw
   . simp
   . have h5:=hws rfl;have:=zw3 ws h5.1;simp only[cond_true,List.length_map];omega
  have hlen:(zbj (kd,t,n,x,ws,u) (c,kf,bt,bx,bn,bw,uf)).flatten.length<=1099512500000/\(zbj (kd,t,n,x,ws,u) (c,kf,bt,bx,bn,bw,uf)).length<=67:=by
   simp only[zbj,List.flatten_append,List.length_append];omega
  dsimp only at hf hj ⊢;rw[zb]
  . rw[zoo]
  . rw[zoo,Bool.and_eq_true,decide_eq_true_eq,decide_eq_true_eq];simp only[List.length_cons,List.flatten_cons,List.length_append] at hj ⊢;omega
 have e4:∀ ps:List (List UInt8),ps.length<=10->(cond bw (z66 (k+1000000) ps ws ((ws.length:Nat):Int) 0 (fun ze7=>(zl0 (ze7,([32],()))).bind fun y=>some y)) ((zl0 (ps,([32],()))).bind fun y=>some y))=zl0 (ps++cond bw (ws.map z4v) [],([32],())):=by
  intro ps hps;cases bw with
  | false=>rw[cond_false,cond_false,List.append_nil];cases zl0 (ps,([32],()))<;>rfl
  | true =>
    obtain⟨h5,h6⟩:=hws rfl;have h7:∀ w∈ws,w.length<=2000:=fun w hw=>by
     have:=h5 w hw;rcases hO w hw with h|h<;>omega
    rw[cond_true,z12s _ _ (by omega) (by omega) h7 (by omega),cond_true];cases zl0 (ps++ws.map z4v,([32],()))<;>rfl
 cases bt<;>cases bx<;>cases bn
 all_goals simp only[cond_true,cond_false,hnb,z1ce _ (show x.length<=10000000000 by first|(have:=hx rfl;omega)|(simp at h3;simp[h3])) (show x.length<k+1000000 by first|(have:=hx rfl;omega)|(simp at h3;simp[h3])),Option.bind_some]
 all_goals try have hX:=z9t x
 all_goals try have hX2:=hx rfl
 all_goals repeat rw[zb (z11 (by (try simp only[List.length_append,List.length_cons,List.length_nil]);omega))]
 all_goals rw[e4 _ (by simp only[List.length_append,List.length_cons,List.length_nil];omega)]
 all_goals exact hjoin
theorem ztd (k:Nat) {op:OpT} (hl:op.2.2.2.2.1.length<=100000) (hO:zwc op):z2n (k+1000000) op=some (zyi (zfh op)):=by
 simp only[z2n,zdp,zdo];rw[z160 _ (by omega),Option.bind_some];unfold zfh;cases hf:z10l op.1 with
 | none=>rfl
 | some f =>
   dsimp only;rw[z1au _ (by omega) (by omega) (by omega),Option.bind_some];cases h:zna op f with
   | false=>rfl
   | true =>
     have hf1:f.1.length<=100:=by
      have hm:f∈glob0:=List.mem_of_find?_eq_some hf;have key:∀ g∈glob0,g.1.length<=100:=by decide
      exact key f hm
     rw[z12p k hf1 h hO];rfl
end
end Go.Proofs.YtlmlihfmoabinaaDoorLg
set_option linter.all false
set_option maxRecDepth 100000
namespace Go.Proofs.YtlmlihfmoabinaaDoorLg
noncomputable section
open Go Go.Lift Go.Lib Go.Proofs.YtlmlihfmoabinaaDoorPx
theorem zgy (s:List UInt8):∀ (f i:Nat) (o:List UInt8),(znp s f i o).1.length<=o.length+(s.length - i)
 | 0,i,o=>by simp[znp]
 | f + 1,i,o=>by
   simp only[znp];split
   . rename_i hi;split;· dsimp only;omega
     split
     . cases he:z16v (s.drop (i+1)) with
       | cut=>dsimp only;simp
       | bad=>dsimp only;simp
       | ok b n =>
         have:=z169 he;have h2:=zgy s f (i+n) (o++[UInt8.ofNat b]);have hdl:(s.drop (i+1)).length=s.length - (i+1):=List.length_drop ..;simp only[List.length_append,List.length_cons,List.length_nil] at h2;dsimp only;omega
     split
     . have:=z3h hi;have h2:=zgy s f (i+z1m s i) (o++(s.drop i).take (z1m s i));simp only[List.length_append,List.length_take,List.length_drop] at h2;omega
     . dsimp only;simp
   . dsimp only;simp
def rdM (w:List UInt8):RdT:=if w=[] then ([],0,(1,0,()),()) else if (w.getD 0 0).toNat=34 then zno w 1 [] else ([],0,(2,0,()),())
theorem z136 (w:List UInt8):(rdM w).1.length<=w.length:=by
 unfold rdM;split;· simp
 split
 . have:=zgy w w.length 1 [];unfold zno;simp only[List.length_nil] at this;omega
 . simp
theorem z11t (k:Nat){w:List UInt8}(hw:w.length<=300000):z86 (k+1000000) w 0=some (rdM w):=by
 unfold rdM;by_cases h:w=[]
 . subst h;rw[if_pos rfl];simp only[z86,z8j,z8i];rfl
 rw[if_neg h];have hl:0<w.length:=by cases w;exact absurd rfl h;simp
 by_cases h34:(w.getD 0 0).toNat=34
 . rw[if_pos h34];exact z1ab k (at_:=0) hw hl h34
 . rw[if_neg h34];simp only[z86,z8j,z8i];rw[zl (z24 (by omega)),zl (z24 (by omega)),zl (by rw[beq_eq_false_iff_ne];omega),zb (zab (by omega) (by omega)),zb (by rw[bne_iff_ne];show ¬ (((w.getD 0 0).toNat:Nat):Int)=34;omega)]
theorem zzx {X b w:List UInt8}{F:Nat}(hw:w.length<=2000)(hX:X.length<=300000)(hF:F<=X.length)(hd:X.drop F=z8d w 0++34::b):zno X F []=(w,((F+(z8d w 0).length+1:Nat):Int),(0,0,()),()):=by
 have h1:=z12k 0 hX hF;have h2:=z1b3 (a:=[]) 0 hw hX hF hd;rw[h1] at h2;exact Option.some.inj h2
theorem z14z {w:List UInt8}(hw:w.length<=2000):(rdM (z4v w)).1=w:=by
 have hl:=zb5 w;unfold rdM;rw[if_neg (by simp[z4v]),if_pos (by rfl),zzx (b:=[]) hw (by omega) (by simp[z4v]) (by rfl)]
theorem zi5 (N:Nat)(ps:List (List UInt8)):z3m N ps=some (ps.headD [],(ps.tail,())):=by
 unfold z3m;cases ps with
 | nil=>rfl
 | cons w r =>
   rw[zl (by rw[beq_eq_false_iff_ne];simp only[List.length_cons];omega),zb (zab (by omega) (by simp only[List.length_cons];omega)),zb (z11 ⟨by omega,by simp only[List.length_cons];omega⟩),zlk];rfl
theorem zzm (s p:List UInt8):(Lib.trimPrefix s p).length<=s.length:=by
 unfold Lib.trimPrefix;split
 . rw[List.length_drop];omega
 . omega
theorem z1bz (h:List UInt8):Lib.trimPrefix (120::h) [120]=h:=by
 unfold Lib.trimPrefix;rw[if_pos (by simp[Lib.hasPrefix])];rfl
theorem zwf (s:List UInt8):(z115 (z9y s)).1.length<=s.length:=by
 cases h:z9y s with
 | none=>simp[z115]
 | some b=>have:=zp0 s.length s b (Nat.le_refl _) h;simp only[z115];omega
def zzd (L:Nat)(ps:List (List UInt8))(op:OpT):Prop :=
 (∀ p∈ps,p.length<=L)/\ps.length+op.2.2.2.2.1.length<=L+1/\op.2.2.2.1.length<=L/\∀ w∈op.2.2.2.2.1,w.length<=L
theorem zqy {L:Nat}{ps:List (List UInt8)}{op:OpT}(h:zzd L ps op):zzd L ps.tail op/\(ps.headD []).length<=L:=by
 cases ps with
 | nil=>exact⟨h,by simp⟩
 | cons p r =>
   obtain⟨h1,h2,h3,h4⟩:=h;simp only[List.length_cons] at h2;exact⟨⟨fun q hq=>h1 q (List.mem_cons_of_mem _ hq),by dsimp only[List.tail_cons];omega,h3,h4⟩,h1 p List.mem_cons_self⟩
theorem z14a (k L:Nat) (hL:L<=2000) {x2:OpT} {cmd:List UInt8} {f:zba} {x17:List zba} {x18:Int} {k0:List (List UInt8)->OpT->Option OpT} {ps:List (List UInt8)} {op:OpT} (h:zzd L ps op) :
 ∃ ps' op',z3n (k+1000000) x2 ps cmd op f x17 x18 k0=k0 ps' op'/\zzd L ps' op':=by
 simp only[z3n];refine zid (I:=fun (v:List (List UInt8)×OpT)=>zzd L v.1 v.2) (m:=fun v=>v.1.length) (p:=fun o=>∃ ps' op',o=k0 ps' op'/\zzd L ps' op') ?_ (k+1000000) (ps,op) h (by have:=h.2.1;dsimp only;omega);rintro⟨qs,oq⟩ r hI hr;dsimp only at hI hr ⊢;simp only[z7f,z7g];cases f.2.2.2.2.2.1 with
 | false=>exact⟨qs,oq,rfl,hI⟩
 | true =>
   rw[cond_true];cases qs with
   | nil=>exact⟨[],oq,rfl,hI⟩
   | cons w t =>
     obtain⟨h1,h2,h3,h4⟩:=hI;have hw:=h1 w List.mem_cons_self;simp only[List.length_cons] at h2;rw[zb (z11 (by simp only[List.length_cons];omega)),zi5,Option.bind_some];dsimp only[List.headD_cons,List.tail_cons];rw[z11t k (by omega),Option.bind_some,zb (z11 (by omega))];refine hr (t,_) ⟨fun q hq=>h1 q (List.mem_cons_of_mem _ hq),?_,h3,fun v hv=>?_⟩ (by dsimp only[List.length_cons];omega)
     . simp only[List.length_append,List.length_cons,List.length_nil];omega
     . rcases List.mem_append.1 hv with hv|hv
       . exact h4 v hv
       . rw[List.mem_singleton.1 hv];have:=z136 w;omega
theorem z1c5 (k L:Nat){P:Option OpT->Prop}{x2:OpT}{cmd:List UInt8}{f:zba}{x17:List zba}{x18:Int}{k0:List (List UInt8)->OpT->Option OpT}{ps:List (List UInt8)}{op:OpT}(h:zzd L ps op)
 (hk:∀ ps' op',zzd L ps' op'->P (k0 ps' op')):P (z7j (k+1000000) x2 ps cmd op f x17 x18 k0):=by
 simp only[z7j];cases f.2.2.1 with
 | false=>exact hk _ _ h
 | true=>rw[cond_true,zi5,Option.bind_some];exact hk _ _ (zqy h).1
theorem z1c4 (k L:Nat)(hL:L<=2000){P:Option OpT->Prop}{x2:OpT}{cmd:List UInt8}{f:zba}{x17:List zba}{x18:Int}{k0:List (List UInt8)->OpT->Option OpT}{ps:List (List UInt8)}{op:OpT}(h:zzd L ps op)
 (hk:∀ ps' op',zzd L ps' op'->P (k0 ps' op')):P (z7i (k+1000000) x2 ps cmd op f x17 x18 k0):=by
 simp only[z7i];cases f.2.2.2.1 with
 | false=>exact hk _ _ h
 | true =>
   obtain⟨h3,h4⟩:=zqy h;have ht:=zzm (ps.headD []) [120];have hu:=zwf (Lib.trimPrefix (ps.headD []) [120]);rw[cond_true,zi5,Option.bind_some,z114 _ (by dsimp only;omega) (by dsimp only;omega),Option.bind_some];exact hk _ _ ⟨h3.1,h3.2.1,by dsimp only;omega,h3.2.2.2⟩
theorem z1c3 (k L:Nat)(hL:L<=2000){P:Option OpT->Prop}{x2:OpT}{cmd:List UInt8}{f:zba}{x17:List zba}{x18:Int}{k0:List (List UInt8)->OpT->Option OpT}{ps:List (List UInt8)}{op:OpT}(h:zzd L ps op)
 (hk:∀ ps' op',zzd L ps' op'->P (k0 ps' op')):P (z7h (k+1000000) x2 ps cmd op f x17 x18 k0):=by
 simp only[z7h];cases f.2.2.2.2.1 with
 | false=>exact hk _ _ h
 | true =>
   obtain⟨h3,h4⟩:=zqy h;have ha:ztq (ps.headD [],())=some (zoy (ps.headD []),((),())):=by unfold ztq;rw[zb (z11 (show (ps.headD []).length<=281474976710656 by omega))]
   rw[cond_true,zi5,Option.bind_some,ha,Option.bind_some];exact hk _ _ h3
theorem z1c2 (k L:Nat)(hL:L<=2000){P:Option OpT->Prop}{x2:OpT}{cmd:List UInt8}{f:zba}{x17:List zba}{x18:Int}{k0:List (List UInt8)->OpT->Option OpT}{ps:List (List UInt8)}{op:OpT}(h:zzd L ps op)
 (hk:∀ ps' op',zzd L ps' op'->P (k0 ps' op')):P (z3n (k+1000000) x2 ps cmd op f x17 x18 k0):=by
 obtain⟨ps',op',e,h'⟩:=z14a k L hL h (x2:=x2) (cmd:=cmd) (f:=f) (x17:=x17) (x18:=x18) (k0:=k0);rw[e];exact hk _ _ h'
def EndO (L:Nat)(o:Option OpT):Prop:=∃ op:OpT,o=some op/\(op.2.2.2.1.length<=L/\op.2.2.2.2.1.length<=L+1/\∀ w∈op.2.2.2.2.1,w.length<=L)
theorem z17w (k:Nat){s:List UInt8}(hs:s.length<=2000):EndO s.length (z4m (k+1000000) s):=by
 simp only[z4m];rw[z11f _ (by omega) (by omega),Option.bind_some,zi5,Option.bind_some];have h0:zzd s.length (z1k s [] false false) op0:=⟨fun p hp=>by have:=z9b s [] false false p hp;simpa using this,by have:=z63 s [] false false;simp only[op0,List.length_nil];omega,by simp[op0],fun w hw=>by simp[op0] at hw⟩
 obtain⟨h1,_⟩:=zqy h0;simp only[zjx];refine zid (I:=fun (v:List (List UInt8)×OpT×Int)=>zzd s.length v.1 v.2.1/\∃ i:Nat,v.2.2=(i:Int)/\i<=9) (m:=fun v=>9 - v.2.2.toNat) (p:=EndO s.length) ?_ (k+1000000) (_,op0,0) ⟨h1,0,rfl,by omega⟩ (by simp);rintro⟨ps,op,v⟩ r ⟨hI,i,hv,hi⟩ hr;dsimp only at hI hv hr ⊢;subst hv;rw[Int.toNat_natCast] at hr;simp only[z2d];have hl:glob0.length=9:=rfl;by_cases hlt:i<9
 case neg =>
  rw[zl (z24 (by omega))];exact⟨op,rfl,hI.2.2.1,by have:=hI.2.1;omega,hI.2.2.2⟩
 have hgo:∀ ps' op',zzd s.length ps' op'->EndO s.length (r (ps',op',IntKind.wrap .i64 ((i:Int)+1))):=fun ps' op' h=>by
  rw[z2e (by omega)];exact hr _ ⟨h,i+1,rfl,by omega⟩ (by dsimp only;rw[Int.toNat_natCast];omega)
 rw[zb (z11 (by omega)),zb (z28 hlt)];generalize hf:List.getD glob0 (Int.toNat (i:Int)) (([]:List UInt8),((0:Int),(false,(false,(false,(false,()))))))=f;cases (!f.1 == (z1k s [] false false).headD []) with
 | true=>exact hgo ps op hI
 | false =>
   rw[cond_false];exact z1c5 k _ hI fun ps1 op1 h1=>z1c4 k _ hs h1 fun ps2 op2 h2=>z1c3 k _ hs h2 fun ps3 op3 h3=>z1c2 k _ hs h3 hgo
theorem zpq:∀ (n u:Nat),1<=n->u<10^n->(Lib.decDigits u).length<=n
 | 0,u,h,_=>by omega
 | n + 1,u,_,hu=>by
   rw[Lib.decDigits];by_cases h:u<10
   . rw[dif_pos h];simp
   . rw[dif_neg h];cases n with
     | zero=>omega
     | succ n =>
       have:=zpq (n+1) (u / 10) (by omega) (by rw[Nat.pow_succ] at hu;omega);simp only[List.length_append,List.length_cons,List.length_nil];omega
theorem z15t {n:Int}(h0:0<=n)(h1:n<=1099511627776):(Lib.itoa n).length<=13:=by
 obtain⟨u,rfl⟩:=Int.eq_ofNat_of_zero_le h0;have hi:Lib.itoa (u:Int)=Lib.decDigits u:=by unfold Lib.itoa;rw[if_neg (by omega)];rfl
 rw[hi];exact zpq 13 u (by omega) (by omega)
theorem ztk:∀ l:List (List UInt8),(∀ w∈l,w.length<=2000)->(l.map z4v).flatten.length<=8002*l.length
 | [],_=>by simp
 | w::r,h=>by
   have h1:=ztk r (fun v hv=>h v (List.mem_cons_of_mem _ hv));have h2:=zb5 w;have h3:=h w List.mem_cons_self;simp only[List.map_cons,List.flatten_cons,List.length_append,List.length_cons];omega
theorem zn9 {op:OpT}{f:zba}(h:zna op f=true)(hO:zwc op) :
 (f.2.2.1=true->zr4 op.2.1=true)/\(f.2.2.1=false->op.2.1=[])/\(f.2.2.2.2.1=true->0<=op.2.2.1/\op.2.2.1<=1099511627776)/\(f.2.2.2.2.1=false->op.2.2.1=0) ∧
 (f.2.2.2.1=true->op.2.2.2.1.length<=131072)/\(f.2.2.2.1=false->op.2.2.2.1=[])/\(f.2.2.2.2.2.1=true->(∀ w∈op.2.2.2.2.1,w.length<=2000)/\op.2.2.2.2.1.length<=64)/\(f.2.2.2.2.2.1=false->op.2.2.2.2.1=[]):=by
 simp only[zna,Bool.and_eq_true] at h;obtain⟨⟨⟨h1,h2⟩,h3⟩,h4⟩:=h;refine⟨fun e=>?_,fun e=>?_,fun e=>?_,fun e=>?_,fun e=>?_,fun e=>?_,fun e=>?_,fun e=>?_⟩
 . rw[e] at h1;exact h1
 . rw[e] at h1;exact beq_iff_eq.1 h1
 . rw[e] at h2;simpa using h2
 . rw[e] at h2;exact beq_iff_eq.1 h2
 . rw[e] at h3;simpa using h3
 . rw[e] at h3;exact beq_iff_eq.1 h3
 . rw[e] at h4;simp only[cond_true,Bool.and_eq_true,List.all_eq_true,decide_eq_true_eq] at h4;refine⟨fun w hw=>?_,h4.2⟩;have:=h4.1 w hw;rcases hO w hw with h|h<;>omega
 . rw[e] at h4;exact beq_iff_eq.1 h4
theorem zzv {op:OpT}{f:zba}(h:zna op f=true)(hO:zwc op):(zbj op f).flatten.length<=774500/\(zbj op f).length<=67:=by
 obtain⟨ht,_,hn,_,hx,_,hw,_⟩:=zn9 h hO;have hA:(cond f.2.2.1 [op.2.1] ([]:List (List UInt8))).flatten.length<=32/\(cond f.2.2.1 [op.2.1] ([]:List (List UInt8))).length<=1:=by
  cases e:f.2.2.1
  . simp
  . have:=ht e;simp only[zr4,Bool.and_eq_true,decide_eq_true_eq] at this;simp;omega
 have hB:(cond f.2.2.2.1 [120::zxc op.2.2.2.1] ([]:List (List UInt8))).flatten.length<=262145/\(cond f.2.2.2.1 [120::zxc op.2.2.2.1] ([]:List (List UInt8))).length<=1:=by
  cases e:f.2.2.2.1
  . simp
  . have:=hx e;have:=z9t op.2.2.2.1;simp;omega
 have hC:(cond f.2.2.2.2.1 [Lib.itoa op.2.2.1] ([]:List (List UInt8))).flatten.length<=13/\(cond f.2.2.2.2.1 [Lib.itoa op.2.2.1] ([]:List (List UInt8))).length<=1:=by
  cases e:f.2.2.2.2.1
  . simp
  . have:=z15t (hn e).1 (hn e).2;simp;omega
 have hD:(cond f.2.2.2.2.2.1 (op.2.2.2.2.1.map z4v) []).flatten.length<=512128/\(cond f.2.2.2.2.2.1 (op.2.2.2.2.1.map z4v) []).length<=64:=by
  cases e:f.2.2.2.2.2.1
  . simp
  . have h5:=hw e;have:=ztk op.2.2.2.2.1 h5.1;simp only[cond_true,List.length_map];omega
 simp only[zbj,List.flatten_append,List.length_append];omega
theorem zzw {op:OpT}{f:zba}(h:zna op f=true)(hO:zwc op):∀ v∈zbj op f,zze v:=by
 obtain⟨ht,_,hn,_,hx,_,hw,_⟩:=zn9 h hO;intro v hv;simp only[zbj,List.mem_append] at hv;rcases hv with hv|hv|hv|hv
 . cases e:f.2.2.1<;>rw[e] at hv
   . cases hv
   . rw[cond_true,List.mem_singleton] at hv;subst hv;exact zd4 (fun c hc=>⟨(znh (ht e) c hc).1,(znh (ht e) c hc).2.1⟩)
 . cases e:f.2.2.2.1<;>rw[e] at hv
   . cases hv
   . rw[cond_true,List.mem_singleton] at hv;subst hv;refine zd4 (fun c hc=>?_);rcases List.mem_cons.1 hc with rfl|hc
     . decide
     . exact⟨(zit _ c hc).1,(zit _ c hc).2.1⟩
 . cases e:f.2.2.2.2.1<;>rw[e] at hv
   . cases hv
   . rw[cond_true,List.mem_singleton] at hv;subst hv;exact zd4 (fun c hc=>⟨(zoq (hn e).1 c hc).1,(zoq (hn e).1 c hc).2.1⟩)
 . cases e:f.2.2.2.2.2.1<;>rw[e] at hv
   . cases hv
   . rw[cond_true] at hv;obtain⟨w,_,rfl⟩:=List.mem_map.1 hv;exact zz6 w
theorem z12b {k:Int}{f:zba}(h:z10l k=some f):f.2.1=k/\f∈glob0:=by
 have:=List.find?_some h;exact⟨beq_iff_eq.1 this,List.mem_of_find?_eq_some h⟩
theorem zto:∀ g∈glob0,∀ c∈g.1,c≠34/\c≠32/\c≠10:=by decide
theorem zz5:∀ g∈glob0,g.1.length<=10/\g.1≠[]:=by decide
theorem z16j:∀ j,j<9->∀ m,m<9->m≠j->(glob0.getD m zqr).1≠(glob0.getD j zqr).1:=by decide
abbrev zgx (N:Nat)(cmd:List UInt8)(k0:OpT->Option OpT):(List (List UInt8)×OpT×Int)->((List (List UInt8)×OpT×Int)->Option OpT)->Option OpT :=
 fun v r=>z2d N op0 cmd glob0 v.1 v.2.1 v.2.2 (fun parts op x18=>r (parts,op,x18)) k0
theorem z134 {N:Nat}{cmd:List UInt8}{k0:OpT->Option OpT}{ps:List (List UInt8)}{op:OpT}{i n:Nat}(hi:i<9)(h:(glob0.getD i zqr).1≠cmd):iter (zgx N cmd k0) (n+1) (ps,op,(i:Int))=iter (zgx N cmd k0) n (ps,op,((i+1:Nat):Int)):=by
 rw[z5s];show z2d N op0 cmd glob0 ps op (i:Int) (fun parts op x18=>iter (zgx N cmd k0) n (parts,op,x18)) k0=_;simp only[z2d];rw[zb (z11 (by omega)),zb (z28 hi)];show cond (!((glob0.getD i zqr).1 == cmd)) _ _=_;rw[zb (by rw[Bool.not_eq_true',beq_eq_false_iff_ne];exact h),z2e (by omega)]
theorem zrj {N:Nat}{cmd:List UInt8}{k0:OpT->Option OpT}{ps:List (List UInt8)}{op:OpT}:∀ (d i n:Nat),i+d<=9->(∀ m,i<=m->m<i+d->(glob0.getD m zqr).1≠cmd)->iter (zgx N cmd k0) (n+d) (ps,op,(i:Int))=iter (zgx N cmd k0) n (ps,op,((i+d:Nat):Int))
 | 0,i,n,_,_=>rfl
 | d+1,i,n,hi,h=>by
   rw[show n+(d+1)=(n+d)+1 by omega,z134 (by omega) (h i (Nat.le_refl _) (by omega)),zrj d (i+1) n (by omega) (fun m h1 h2=>h m (by omega) (by omega)),show i+1+d=i+(d+1) by omega]
theorem z17v {N:Nat}{cmd:List UInt8}{k0:OpT->Option OpT}{ps:List (List UInt8)}{op:OpT}{n:Nat}:iter (zgx N cmd k0) (n+1) (ps,op,((9:Nat):Int))=k0 op:=by
 rw[z5s];show z2d N op0 cmd glob0 ps op ((9:Nat):Int) (fun parts op x18=>iter (zgx N cmd k0) n (parts,op,x18)) k0=_;simp only[z2d];rw[zl (z24 (by omega))]
theorem z12r (k:Nat){x2:OpT}{cmd:List UInt8}{f:zba}{x17:List zba}{x18:Int}{k0:List (List UInt8)->OpT->Option OpT}{kd:Int}{t:List UInt8}{n:Int}{x:List UInt8}{ws:List (List UInt8)}{u:Unit}(hf:f.2.2.2.2.2.1=true)(hw:∀ w∈ws,w.length<=2000)(hl:ws.length<=64) :
 z3n (k+1000000) x2 (ws.map z4v) cmd (kd,t,n,x,[],u) f x17 x18 k0=k0 [] (kd,t,n,x,ws,u):=by
 simp only[z3n];rw[z6o (I:=fun (v:List (List UInt8)×OpT)=>∃ i,i<=ws.length/\v=((ws.drop i).map z4v,(kd,t,n,x,ws.take i,u))) (m:=fun v=>v.1.length) (R:=fun _=>k0 [] (kd,t,n,x,ws,u)) ?_ (k+1000000) (ws.map z4v,(kd,t,n,x,[],u)) ⟨0,by omega,rfl⟩ (by simp;omega)];rintro v r ⟨i,hi,rfl⟩ hr;dsimp only at hr ⊢;simp only[z7f,z7g,hf,cond_true];by_cases hlt:i<ws.length
 . have hwl:=hw _ (ziv ws [] i hlt);have hq:=zb5 (ws.getD i []);rw[z5u ws [] i hlt,List.map_cons,zb (z11 (by simp only[List.length_cons];omega)),zi5,Option.bind_some];dsimp only[List.headD_cons,List.tail_cons];rw[z11t k (by omega),Option.bind_some,z14z hwl,zb (z11 (by rw[List.length_take];omega)),<- zgq ws [] i hlt];exact hr _ ⟨i+1,by omega,rfl⟩ (by simp only[List.length_map,List.length_drop];omega)
 . rw[z93 ws (by omega),List.take_of_length_le (by omega)];rfl
theorem ztc {op:OpT}{f:zba}(hf:f∈glob0)(h:zna op f=true)(hO:zwc op):(zfk (f.1::zbj op f)).length<=774600:=by
 have h1:=(zz5 f hf).1;obtain⟨h2,h3⟩:=zzv h hO;have:=zic (f.1::zbj op f);simp only[List.flatten_cons,List.length_append,List.length_cons] at this;omega
theorem z14x (k:Nat){op:OpT}{f:zba}(hf:z10l op.1=some f)(h:zna op f=true)(hO:zwc op):z4m (k+1000000) (zfk (f.1::zbj op f))=some op:=by
 obtain⟨hk,hm⟩:=z12b hf;have hll:=ztc hm h hO;obtain⟨ht,ht',hn,hn',hx,hx',hw,hw'⟩:=zn9 h hO;simp only[z4m];rw[z11f _ (by omega) (by omega),zr7 f.1 (zbj op f) (fun v hv=>by
  rcases List.mem_cons.1 hv with rfl|hv
  . exact zd4 (fun c hc=>⟨(zto f hm c hc).1,(zto f hm c hc).2.1⟩)
  . exact zzw h hO v hv),Option.bind_some,zi5,Option.bind_some]
 dsimp only[List.headD_cons,List.tail_cons];obtain⟨j,hj,ej⟩:=List.getElem_of_mem hm;have hj9:j<9:=hj;have hg:glob0.getD j zqr=f:=by rw[List.getD_eq_getElem?_getD,List.getElem?_eq_getElem hj,ej];rfl
 have hap:∀ m,m<9->m≠j->(glob0.getD m zqr).1≠f.1:=fun m h1 h2=>by rw[<- hg];exact z16j j hj9 m h1 h2
 show iter (zgx (k+1000000) f.1 (fun op=>some (op.1,(op.2.1,(op.2.2.1,(op.2.2.2.1,(op.2.2.2.2.1,op.2.2.2.2.2))))))) (k+1000000) (zbj op f,op0,((0:Nat):Int))=some op;rw[show k+1000000=(k+(999999 - j))+1+j by omega,zrj j 0 _ (by omega) (fun m _ h2=>hap m (by omega) (by omega)),Nat.zero_add,z5s,show (k+(999999 - j))+1+j=k+1000000 by omega];have hfin:iter (zgx (k+1000000) f.1 (fun op=>some (op.1,(op.2.1,(op.2.2.1,(op.2.2.2.1,(op.2.2.2.2.1,op.2.2.2.2.2))))))) (k+(999999 - j)) ([],op,((j+1:Nat):Int))=some op:=by
  rw[show k+(999999 - j)=(k+999990)+1+(8 - j) by omega,zrj (8 - j) (j+1) _ (by omega) (fun m h1 h2=>hap m (by omega) (by omega)),show j+1+(8 - j)=9 by omega,z17v]
 show z2d (k+1000000) op0 f.1 glob0 (zbj op f) op0 (j:Int) (fun parts op x18=>iter (zgx (k+1000000) f.1 _) (k+(999999 - j)) (parts,op,x18)) _=_;simp only[z2d];rw[zb (z11 (by omega)),zb (z28 hj9),Int.toNat_natCast];rw[show List.getD glob0 j (([]:List UInt8),((0:Int),(false,(false,(false,(false,()))))))=f from hg];rw[zl (by rw[beq_self_eq_true];rfl),z2e (by omega)];generalize iter (zgx (k+1000000) f.1 (fun op=>some (op.1,(op.2.1,(op.2.2.1,(op.2.2.2.1,(op.2.2.2.2.1,op.2.2.2.2.2))))))) (k+(999999 - j))=G at hfin ⊢;obtain⟨kd,t,n,x,ws,u⟩:=op;dsimp only at hk ht ht' hn hn' hx hx' hw hw';simp only[z7j,z7i,z7h,zbj,op0,hk];have e5:∀ (k0:List (List UInt8)->OpT->Option OpT),z3n (k+1000000) op0 (cond f.2.2.2.2.2.1 (ws.map z4v) []) f.1 (kd,t,n,x,[],()) f glob0 (j:Int) k0=k0 [] (kd,t,n,x,ws,()):=fun k0=>by
  cases e:f.2.2.2.2.2.1 with
  | true=>rw[cond_true,z12r k e (hw e).1 (hw e).2]
  | false =>
    rw[cond_false,hw' e];simp only[z3n];rw[show k+1000000=(k+999999)+1 from rfl,z5s];simp only[z7f,z7g,e,cond_false]
 cases u;have a4:f.2.2.2.2.1=true->ztq (Lib.itoa n,())=some (n,((),())):=fun e=>by
  obtain⟨h0,h1⟩:=hn e;have:=z15t h0 h1;unfold ztq;rw[zb (z11 (show (Lib.itoa n).length<=281474976710656 by omega))];show some (zoy (Lib.itoa n),((),()))=_;unfold zoy;rw[z16q h0 h1]
 have a3:f.2.2.2.1=true->z9q (k+1000000) (Lib.trimPrefix (120::zxc x) [120])=some (x,true,()):=fun e=>by
  have:=hx e;have:=z9t x;rw[z1bz,z114 _ (by omega) (by omega),zxp];rfl
 cases e1:f.2.2.1<;>cases e2:f.2.2.2.1<;>cases e3:f.2.2.2.2.1
 all_goals simp only[cond_true,cond_false,List.nil_append,List.cons_append,zi5,List.headD_cons,List.tail_cons,Option.bind_some]
 all_goals first|rw[a3 e2,Option.bind_some]|skip
 all_goals first|rw[a4 e3,Option.bind_some]|skip
 all_goals try (have q:=ht' e1;subst q)
 all_goals try (have q:=hx' e2;subst q)
 all_goals try (have q:=hn' e3;subst q)
 all_goals (refine (e5 _).trans ?_;exact hfin)
end
end Go.Proofs.YtlmlihfmoabinaaDoorLg
set_option linter.all false
set_option maxRecDepth 100000
namespace Go.Proofs.YtlmlihfmoabinaaDoorLg
noncomputable section
open Go Go.Lift Go.Lib Go.Proofs.YtlmlihfmoabinaaDoorPx
def opR (o:Option OpT):OpT×Bool×Unit:=match o with
 | some op=>(op,true,())
 | none=>(op0,false,())
def IsO (o:Option OpT)(s:List UInt8):Prop:=(∀ op,o=some op->zfh op=some s/\zwc op)/\(o=none->∀ op,zwc op->zfh op≠some s)
theorem zx8 {op:OpT}{s:List UInt8}(h:zfh op=some s):∃ f,z10l op.1=some f/\zna op f=true/\zfk (f.1::zbj op f)=s:=by
 unfold zfh at h;cases hf:z10l op.1 with
 | none=>rw[hf] at h;cases h
 | some f =>
   rw[hf] at h;dsimp only at h;cases hq:zna op f with
   | false=>rw[hq] at h;cases h
   | true=>rw[hq] at h;exact⟨f,rfl,hq,Option.some.inj h⟩
theorem zvm (k:Nat){op:OpT}{s:List UInt8}(h:zfh op=some s)(hO:zwc op):z4m (k+1000000) s=some op:=by
 obtain⟨f,hf,hq,rfl⟩:=zx8 h;exact z14x k hf hq hO
theorem z11v (k:Nat){s:List UInt8}{op:OpT}(hr:z4m (k+1000000) s=some op)(hl:op.2.2.2.2.1.length<=100000)(hO:zwc op) :
 z1f (k+1000000) s=some (opR (if zfh op=some s then some op else none)):=by
 simp only[z1f,zc6,zc5];rw[hr,Option.bind_some,ztd k hl hO,Option.bind_some];cases h:zfh op with
 | none=>rw[if_neg (by simp)];rfl
 | some t =>
   by_cases e:t=s
   . subst e;rw[if_pos rfl];simp only[zyi,Bool.not_true,cond_false,beq_self_eq_true];rfl
   . rw[if_neg (fun h=>e (Option.some.inj h))];have:(t == s)=false:=by rw[beq_eq_false_iff_ne];exact e
     simp only[zyi,Bool.not_true,cond_false,this,Bool.not_false,cond_true];rfl
theorem zw4 {op:OpT}{s:List UInt8}(h:zfh op=some s)(hO:zwc op):op.2.2.2.2.1.length<=100000:=by
 obtain⟨f,hf,hq,rfl⟩:=zx8 h;obtain⟨_,_,_,_,_,_,hw,hw'⟩:=zn9 hq hO;cases e:f.2.2.2.2.2.1 with
 | true=>have:=(hw e).2;omega
 | false=>rw[hw' e];simp
theorem zvn (k:Nat){op:OpT}{s:List UInt8}(h:zfh op=some s)(hO:zwc op):z1f (k+1000000) s=some (op,true,()):=by
 rw[z11v k (zvm k h hO) (zw4 h hO) hO,if_pos h];rfl
theorem z11w (k:Nat){s:List UInt8}(hs:s.length<=2000):∃ o,z1f (k+1000000) s=some (opR o)/\IsO o s:=by
 obtain⟨op,hr,h1,h2,h3⟩:=z17w k hs;have hO:zwc op:=fun w hw=>by have:=h3 w hw;omega
 refine⟨_,z11v k hr (by omega) hO,fun op' e=>?_,fun e op' hO' h'=>?_⟩
 . split at e
   . rename_i h;cases e;exact⟨h,hO⟩
   . cases e
 . have:op'=op:=by
    have:=zvm k h' hO';rw[hr] at this;exact (Option.some.inj this).symm
   subst this;rw[if_pos h'] at e;cases e
def z17j (r:List (List UInt8)):List UInt8:=(r.map (fun v=>32::v)).flatten
theorem zop:∀ (w:List UInt8) (r:List (List UInt8)),zfk (w::r)=w++z17j r
 | w,[]=>by simp[zfk,z17j]
 | w,v::r=>by rw[zfk,zop v r];simp[z17j]
end
end Go.Proofs.YtlmlihfmoabinaaDoorLg
set_option linter.all false
set_option maxRecDepth 100000
namespace Go.Proofs.YtlmlihfmoabinaaDoorLg
noncomputable section
open Go Go.Lift
def zgf:Code:=(Go.Proofs.Tryd.f6.body).getD .skip
def zbp:List (List Nat×List Nat):=[([0],[]),([0,1],[2,1]),([0,1,1],[2,1,4,3]),([0,1,1,1],[2,1,4,3,5,6]),([0,1,1,1,1],[0]),([1,1,1,1,1],[0])]
def z7t (N:Nat):Env:=z4p tys glob [(7,z5q N),(9,z7n N),(11,z5n N)] [] [] [] false [] []
theorem zhd (N:Nat):EnvOk Go.Proofs.Tryd.prog (z7t N):=z14 mixed z2h (FnsOk.cons (z9x N) (FnsOk.cons (zc7 N) (FnsOk.cons (zb1 N) (FnsOk.nil)))) (ItsOk.nil)
def z1c (N:Nat):Option Bool :=
 (z1f N ([(109:UInt8),(105:UInt8),(110:UInt8),(116:UInt8),(32:UInt8),(97:UInt8),(99:UInt8),(109:UInt8),(101:UInt8),(32:UInt8),(34:UInt8),(98:UInt8),(101:UInt8),(102:UInt8),(111:UInt8),(114:UInt8),(101:UInt8),(32:UInt8),(57:UInt8),(34:UInt8)]:List UInt8)).bind fun y =>
 (z1f N ([(116:UInt8),(101:UInt8),(110:UInt8),(97:UInt8),(110:UInt8),(116:UInt8),(32:UInt8),(97:UInt8),(99:UInt8),(109:UInt8),(101:UInt8),(32:UInt8),(120:UInt8),(54:UInt8),(98:UInt8),(54:UInt8),(98:UInt8)]:List UInt8)).bind fun y1 =>
 (z2n N ((7:Int),(([]:List UInt8),((3:Int),(([]:List UInt8),(([]:List (List UInt8)),())))))).bind fun y2 =>
 cond y.2.1
 ((z1g N y.1 ((5:Int),(([(97:UInt8),(99:UInt8),(109:UInt8),(101:UInt8)]:List UInt8),((0:Int),(([]:List UInt8),(([([(98:UInt8),(101:UInt8),(102:UInt8),(111:UInt8),(114:UInt8),(101:UInt8),(32:UInt8),(57:UInt8)]:List UInt8)]:List (List UInt8)),())))))).bind fun y3 =>
 cond y3
 (cond y1.2.1
 ((z1g N y1.1 ((1:Int),(([(97:UInt8),(99:UInt8),(109:UInt8),(101:UInt8)]:List UInt8),((0:Int),(([(107:UInt8),(107:UInt8)]:List UInt8),(([]:List (List UInt8)),())))))).bind fun y4 =>
 cond y4
 (cond (y2.1 == ([(116:UInt8),(105:UInt8),(99:UInt8),(107:UInt8),(32:UInt8),(51:UInt8)]:List UInt8))
 (some y2.2.1)
 (some false))
 (some false))
 (some false))
 (some false))
 (some false)
def zbo (N:Nat):Tab Bool:=[]
theorem zge (N:Nat)(x:z1v []):zd3 (z7t N) N (zbo N) zbp Go.Proofs.Tryd.f6 (mkS [] 0 x) (z56 (.v .bool) 0)=z1c N:=by kernel_rfl
def za7 (N:Nat):List A->Res:=z2c [] (fun x=>z1c N) (zd0 (.v .bool) 0)
theorem zj5 (N:Nat):Contract Go.Proofs.Tryd.prog glob 6 (za7 N) :=
 Contract.of (E:=z7t N) (H:=zbo N) (L:=zbp) (N:=N) (body:=zgf) (K:=(z56 (.v .bool) 0)) (zhd N) Go.Proofs.Tryd.func6 (by kernel_rfl) (by decide) (fun _ hb=>TabOk.nil) (fun x y h=>by rw[zge];exact h) (z1i (s:=(.v .bool)) (m:=0))
def z3e:Code:=(Go.Proofs.Tryd.f13.body).getD .skip
def z8t:List (List Nat×List Nat):=[([0],[0,3]),([0,0,0,1],[13,3,0]),([1,0,0,1],[0,3]),([0,0,1,0,0,1],[2,3]),([1,0,1,0,0,1],[2,3]),([0,1,0,1],[0,4,3]),([0,1,1,0,1],[0,4,5,3]),([0,0,1,1,1,1,0,1],[0,4,5,3]),([0,0,0,0,0,1,1,1,1,0,1],[16,0,4,5,3]),([1,0,0,0,0,1,1,1,1,0,1],[0,4,5,3]),([1,1,0,0,0,0,1,1,1,1,0,1],[4,5,3]),([0,0,1,0,0,0,1,1,1,1,0,1],[6,8,4,7,5,3]),([0,1,0,1,0,0,0,1,1,1,1,0,1],[10,8,4,9,7,5,3]),([0,0,1,1,0,1,0,0,0,1,1,1,1,0,1],[31,4,9,7,5,3]),([1,0,1,1,0,1,0,0,0,1,1,1,1,0,1],[0,4,5,3]),([0,1,1,0,1,1,0,1,0,0,0,1,1,1,1,0,1],[5,3]),([0,1,1,1,0,1,1,0,1,0,0,0,1,1,1,1,0,1],[4,5,3]),([1,1,1,1,0,1,1,0,1,0,0,0,1,1,1,1,0,1],[4,5,3]),([0,0,1,0,1,1,0,1,0,0,0,1,1,1,1,0,1],[7,4,5,3]),([1,0,1,0,1,1,0,1,0,0,0,1,1,1,1,0,1],[0,4,5,3]),([1,1,0,1,0,0,0,1,1,1,1,0,1],[0,4,5,3]),([1,0,0,0,1,1,1,1,0,1],[0,4,5,3]),([0,1,1,1,1,0,1],[4,5,3]),([0,1,1,1,1,1,0,1],[2,3]),([1,1,1,1,1,1,0,1],[2,3]),([1],[2,3])]
def z68 (N:Nat):Env:=z4p tys glob [(9,z7n N),(30,z16i),(31,zgr N)] [(4,(.pair (.int .i64) (.pair .str (.pair (.int .i64) (.pair .str (.pair (.sl .str) .unit)))))),(2,(.pair (.int .i64) (.pair .str (.pair (.int .i64) (.pair .str (.pair (.sl .str) .unit))))))] [] [] false [(2,(.sl (.pair (.int .i64) (.pair .str (.pair (.int .i64) (.pair .str (.pair (.sl .str) .unit))))))),(41,(.sl (.pair (.int .i64) (.pair .str (.pair (.int .i64) (.pair .str (.pair (.sl .str) .unit)))))))] []
theorem zsk (N:Nat):EnvOk Go.Proofs.Tryd.prog (z68 N):=z14 mixed z2h (FnsOk.cons (zc7 N) (FnsOk.cons ((z1ck glob)) (FnsOk.cons (ztx N) (FnsOk.nil)))) (ItsOk.nil)
def zdm (N:Nat)(x3:(Int×(Int×Unit)))(l:(List (Int×((List UInt8)×(Int×((List UInt8)×((List (List UInt8))×Unit)))))))(f:(Int×(Int×Unit)))(rest:(List UInt8))(ended:Bool)(op:(Int×((List UInt8)×(Int×((List UInt8)×((List (List UInt8))×Unit))))))(ok:Bool)(k0:Bool->Option ((List (Int×((List UInt8)×(Int×((List UInt8)×((List (List UInt8))×Unit))))))×(Int×(Int×Unit))×Unit)):Option ((List (Int×((List UInt8)×(Int×((List UInt8)×((List (List UInt8))×Unit))))))×(Int×(Int×Unit))×Unit) :=
 cond ok
 (k0 ended)
 (k0 false)
def zke (N:Nat)(x:z1v [(3,.box (.pair (.int .i64) (.pair (.int .i64) .unit))),(0,.row (.pair (.int .i64) (.pair .str (.pair (.int .i64) (.pair .str (.pair (.sl .str) .unit)))))),(0,.box (.pair (.int .i64) (.pair (.int .i64) .unit))),(1,.v .str),(0,.v .bool),(0,.box (.pair (.int .i64) (.pair .str (.pair (.int .i64) (.pair .str (.pair (.sl .str) .unit)))))),(0,.v .bool)])(K:Ex->List A->Option ((List (Int×((List UInt8)×(Int×((List UInt8)×((List (List UInt8))×Unit))))))×(Int×(Int×Unit))×Unit)):Option ((List (Int×((List UInt8)×(Int×((List UInt8)×((List (List UInt8))×Unit))))))×(Int×(Int×Unit))×Unit) :=
 zdm N x.1 x.2.1 x.2.2.1 x.2.2.2.1 x.2.2.2.2.1 x.2.2.2.2.2.1 x.2.2.2.2.2.2.1 (fun a5=>(K .normal (mkS [(3,.box (.pair (.int .i64) (.pair (.int .i64) .unit))),(0,.row (.pair (.int .i64) (.pair .str (.pair (.int .i64) (.pair .str (.pair (.sl .str) .unit)))))),(0,.box (.pair (.int .i64) (.pair (.int .i64) .unit))),(1,.v .str),(1,.box (.pair (.int .i64) (.pair .str (.pair (.int .i64) (.pair .str (.pair (.sl .str) .unit)))))),(21,.v .bool)] 11 (x.1,x.2.1,x.2.2.1,x.2.2.2.1,x.2.2.2.2.2.1,a5,()))))
def zkb (N:Nat):Hd ((List (Int×((List UInt8)×(Int×((List UInt8)×((List (List UInt8))×Unit))))))×(Int×(Int×Unit))×Unit):=fun st K=>(unS [(3,.box (.pair (.int .i64) (.pair (.int .i64) .unit))),(0,.row (.pair (.int .i64) (.pair .str (.pair (.int .i64) (.pair .str (.pair (.sl .str) .unit)))))),(0,.box (.pair (.int .i64) (.pair (.int .i64) .unit))),(1,.v .str),(0,.v .bool),(0,.box (.pair (.int .i64) (.pair .str (.pair (.int .i64) (.pair .str (.pair (.sl .str) .unit)))))),(0,.v .bool)] 32 (restr [10,8,4,9,7,5,3] 0 st)).bind fun x=>zke N x K
def zuo (N:Nat):Tab ((List (Int×((List UInt8)×(Int×((List UInt8)×((List (List UInt8))×Unit))))))×(Int×(Int×Unit))×Unit):=[]
theorem zsh {N:Nat}{c:Ctx}(hb:Base Go.Proofs.Tryd.prog (z68 N) c):zq Go.Proofs.Tryd.prog c (zi z3e [0,0,1,1,0,1,0,0,0,1,1,1,1,0,1]) (zkb N) :=
 zo (s:=[(3,.box (.pair (.int .i64) (.pair (.int .i64) .unit))),(0,.row (.pair (.int .i64) (.pair .str (.pair (.int .i64) (.pair .str (.pair (.sl .str) .unit)))))),(0,.box (.pair (.int .i64) (.pair (.int .i64) .unit))),(1,.v .str),(0,.v .bool),(0,.box (.pair (.int .i64) (.pair .str (.pair (.int .i64) (.pair .str (.pair (.sl .str) .unit)))))),(0,.v .bool)]) (m:=32) (g:=zke N) [10,8,4,9,7,5,3] (zd hb N (zuo N) z8t z3e TabOk.nil [0,0,1,1,0,1,0,0,0,1,1,1,1,0,1] _ rfl) (fun x K=>by kernel_rfl)
def zdl (N:Nat)(x3:(Int×(Int×Unit)))(f:(Int×(Int×Unit)))(s:(List UInt8))(l:(List (Int×((List UInt8)×(Int×((List UInt8)×((List (List UInt8))×Unit)))))))(rec:(List UInt8)->(List (Int×((List UInt8)×(Int×((List UInt8)×((List (List UInt8))×Unit))))))->Option ((List (Int×((List UInt8)×(Int×((List UInt8)×((List (List UInt8))×Unit))))))×(Int×(Int×Unit))×Unit))(k0:(List (Int×((List UInt8)×(Int×((List UInt8)×((List (List UInt8))×Unit))))))->(Int×(Int×Unit))->Option ((List (Int×((List UInt8)×(Int×((List UInt8)×((List (List UInt8))×Unit))))))×(Int×(Int×Unit))×Unit)):Option ((List (Int×((List UInt8)×(Int×((List UInt8)×((List (List UInt8))×Unit))))))×(Int×(Int×Unit))×Unit) :=
 cond (!(s == ([]:List UInt8)))
 ((zbh N s ([(10:UInt8)]:List UInt8)).bind fun y =>
 (z1f N y.1).bind fun y1 =>
 zdm N x3 l f y.2.1 y.2.2.1 y1.1 y1.2.1
 (fun x31=>cond x31
 (cond (decide ((((List.length l)+1)*72)<=70368744177664))
 (rec y.2.1 (l++([y1.1]:List (Int×((List UInt8)×(Int×((List UInt8)×((List (List UInt8))×Unit))))))))
 (none))
 (k0 ([]:List (Int×((List UInt8)×(Int×((List UInt8)×((List (List UInt8))×Unit)))))) ((2:Int),((((List.length l):Nat):Int),())))))
 (k0 l f)
def zka (N:Nat)(s:(List UInt8))(x3:(Int×(Int×Unit)))(l:(List (Int×((List UInt8)×(Int×((List UInt8)×((List (List UInt8))×Unit)))))))(f:(Int×(Int×Unit)))(k0:(List (Int×((List UInt8)×(Int×((List UInt8)×((List (List UInt8))×Unit))))))->(Int×(Int×Unit))->Option ((List (Int×((List UInt8)×(Int×((List UInt8)×((List (List UInt8))×Unit))))))×(Int×(Int×Unit))×Unit)):Option ((List (Int×((List UInt8)×(Int×((List UInt8)×((List (List UInt8))×Unit))))))×(Int×(Int×Unit))×Unit) :=
 iter (fun (v:((List UInt8)×(List (Int×((List UInt8)×(Int×((List UInt8)×((List (List UInt8))×Unit)))))))) r=>zdl N x3 f v.1 v.2 (fun s l=>(r (s,l))) k0) N (s,l)
def zkf (N:Nat)(i:((Int×(Int×Unit))×(Int×(Int×Unit))))(v:((List UInt8)×(List (Int×((List UInt8)×(Int×((List UInt8)×((List (List UInt8))×Unit))))))))(r:((List UInt8)×(List (Int×((List UInt8)×(Int×((List UInt8)×((List (List UInt8))×Unit)))))))->Option ((List (Int×((List UInt8)×(Int×((List UInt8)×((List (List UInt8))×Unit))))))×(Int×(Int×Unit))×Unit))(K:Ex->List A->Option ((List (Int×((List UInt8)×(Int×((List UInt8)×((List (List UInt8))×Unit))))))×(Int×(Int×Unit))×Unit)):Option ((List (Int×((List UInt8)×(Int×((List UInt8)×((List (List UInt8))×Unit))))))×(Int×(Int×Unit))×Unit) :=
 zdl N i.1 i.2 v.1 v.2 (fun s l=>(r (s,l))) (fun a1 a2=>(K (.exit 0) (mkS [(3,.box (.pair (.int .i64) (.pair (.int .i64) .unit))),(0,.row (.pair (.int .i64) (.pair .str (.pair (.int .i64) (.pair .str (.pair (.sl .str) .unit)))))),(0,.box (.pair (.int .i64) (.pair (.int .i64) .unit)))] 37 (i.1,a1,a2,()))))
def zkc (N:Nat):Hd ((List (Int×((List UInt8)×(Int×((List UInt8)×((List (List UInt8))×Unit))))))×(Int×(Int×Unit))×Unit):=fun st K=>(unS [(0,.v .str),(2,.box (.pair (.int .i64) (.pair (.int .i64) .unit))),(0,.row (.pair (.int .i64) (.pair .str (.pair (.int .i64) (.pair .str (.pair (.sl .str) .unit)))))),(0,.box (.pair (.int .i64) (.pair (.int .i64) .unit)))] 37 (restr [0,4,5,3] 0 st)).bind fun x=>iter (fun v r=>zkf N ((fun x=>(x.2.1,x.2.2.2.1)) x) v r K) N ((fun x=>(x.1,x.2.2.1)) x)
def zup (N:Nat):Tab ((List (Int×((List UInt8)×(Int×((List UInt8)×((List (List UInt8))×Unit))))))×(Int×(Int×Unit))×Unit):=[([0,0,1,1,0,1,0,0,0,1,1,1,1,0,1],zkb N)]
theorem zsi {N:Nat}{c:Ctx}(hb:Base Go.Proofs.Tryd.prog (z68 N) c):zq Go.Proofs.Tryd.prog c (zi z3e [0,0,1,1,1,1,0,1]) (zkc N) :=
 z55 (s:=[(0,.v .str),(2,.box (.pair (.int .i64) (.pair (.int .i64) .unit))),(0,.row (.pair (.int .i64) (.pair .str (.pair (.int .i64) (.pair .str (.pair (.sl .str) .unit)))))),(0,.box (.pair (.int .i64) (.pair (.int .i64) .unit)))]) (m:=37) (zkf N) [0,4,5,3] N (fun x=>(x.2.1,x.2.2.2.1)) (fun x=>(x.1,x.2.2.1)) (fun i v=>(v.1,i.1,v.2,i.2,())) (fun _=>rfl) (zd hb N (zup N) z8t z3e (TabOk.cons (zsh hb) TabOk.nil) [0,0,0,1,1,1,1,0,1] _ rfl) (fun i v r K=>by kernel_rfl)
def zdn (N:Nat)(s:(List UInt8))(x3:(Int×(Int×Unit)))(l:(List (Int×((List UInt8)×(Int×((List UInt8)×((List (List UInt8))×Unit)))))))(f:(Int×(Int×Unit)))(k0:(List (Int×((List UInt8)×(Int×((List UInt8)×((List (List UInt8))×Unit))))))->(Int×(Int×Unit))->Option ((List (Int×((List UInt8)×(Int×((List UInt8)×((List (List UInt8))×Unit))))))×(Int×(Int×Unit))×Unit)):Option ((List (Int×((List UInt8)×(Int×((List UInt8)×((List (List UInt8))×Unit))))))×(Int×(Int×Unit))×Unit) :=
 zka N s x3 l f
 (fun l1 f1=>k0 l1 f1)
def zkg (N:Nat)(x:z1v [(0,.v .str),(2,.box (.pair (.int .i64) (.pair (.int .i64) .unit))),(0,.row (.pair (.int .i64) (.pair .str (.pair (.int .i64) (.pair .str (.pair (.sl .str) .unit)))))),(0,.box (.pair (.int .i64) (.pair (.int .i64) .unit)))])(K:Ex->List A->Option ((List (Int×((List UInt8)×(Int×((List UInt8)×((List (List UInt8))×Unit))))))×(Int×(Int×Unit))×Unit)):Option ((List (Int×((List UInt8)×(Int×((List UInt8)×((List (List UInt8))×Unit))))))×(Int×(Int×Unit))×Unit) :=
 zdn N x.1 x.2.1 x.2.2.1 x.2.2.2.1 (fun a1 a2=>(K .normal (mkS [(3,.box (.pair (.int .i64) (.pair (.int .i64) .unit))),(0,.row (.pair (.int .i64) (.pair .str (.pair (.int .i64) (.pair .str (.pair (.sl .str) .unit)))))),(0,.box (.pair (.int .i64) (.pair (.int .i64) .unit)))] 37 (x.2.1,a1,a2,()))))
def zkd (N:Nat):Hd ((List (Int×((List UInt8)×(Int×((List UInt8)×((List (List UInt8))×Unit))))))×(Int×(Int×Unit))×Unit):=fun st K=>(unS [(0,.v .str),(2,.box (.pair (.int .i64) (.pair (.int .i64) .unit))),(0,.row (.pair (.int .i64) (.pair .str (.pair (.int .i64) (.pair .str (.pair (.sl .str) .unit)))))),(0,.box (.pair (.int .i64) (.pair (.int .i64) .unit)))] 37 (restr [0,4,5,3] 0 st)).bind fun x=>zkg N x K
def zuq (N:Nat):Tab ((List (Int×((List UInt8)×(Int×((List UInt8)×((List (List UInt8))×Unit))))))×(Int×(Int×Unit))×Unit):=[([0,0,1,1,1,1,0,1],zkc N)]
theorem zsj {N:Nat}{c:Ctx}(hb:Base Go.Proofs.Tryd.prog (z68 N) c):zq Go.Proofs.Tryd.prog c (zi z3e [0,1,1,1,1,0,1]) (zkd N) :=
 zo (s:=[(0,.v .str),(2,.box (.pair (.int .i64) (.pair (.int .i64) .unit))),(0,.row (.pair (.int .i64) (.pair .str (.pair (.int .i64) (.pair .str (.pair (.sl .str) .unit)))))),(0,.box (.pair (.int .i64) (.pair (.int .i64) .unit)))]) (m:=37) (g:=zkg N) [0,4,5,3] (zd hb N (zuq N) z8t z3e (TabOk.cons (zsi hb) TabOk.nil) [0,1,1,1,1,0,1] _ rfl) (fun x K=>by kernel_rfl)
def z4o (N:Nat)(s:(List UInt8)):Option ((List (Int×((List UInt8)×(Int×((List UInt8)×((List (List UInt8))×Unit))))))×(Int×(Int×Unit))×Unit) :=
 cond (decide ((1024:Int)<(((Go.Lib.countByte s (10:UInt8)):Nat):Int)))
 (some (([]:List (Int×((List UInt8)×(Int×((List UInt8)×((List (List UInt8))×Unit)))))),(((3:Int),((1024:Int),())),())))
 (zdn N s ((0:Int),((0:Int),())) ([]:List (Int×((List UInt8)×(Int×((List UInt8)×((List (List UInt8))×Unit)))))) ((0:Int),((0:Int),()))
 (fun l f=>some (l,(f,()))))
def zmx (N:Nat):Tab ((List (Int×((List UInt8)×(Int×((List UInt8)×((List (List UInt8))×Unit))))))×(Int×(Int×Unit))×Unit):=[([0,1,1,1,1,0,1],zkd N)]
theorem zqf (N:Nat)(x:z1v [(0,.v .str)]):zd3 (z68 N) N (zmx N) z8t Go.Proofs.Tryd.f13 (mkS [(0,.v .str)] 0 x) (z56 (.tup [(.sl (.pair (.int .i64) (.pair .str (.pair (.int .i64) (.pair .str (.pair (.sl .str) .unit)))))),(.pair (.int .i64) (.pair (.int .i64) .unit))]) 1)=z4o N x.1:=by kernel_rfl
def zhu (N:Nat):List A->Res:=z2c [(0,.v .str)] (fun x=>z4o N x.1) (zd0 (.tup [(.sl (.pair (.int .i64) (.pair .str (.pair (.int .i64) (.pair .str (.pair (.sl .str) .unit)))))),(.pair (.int .i64) (.pair (.int .i64) .unit))]) 1)
theorem zur (N:Nat):Contract Go.Proofs.Tryd.prog glob 13 (zhu N) :=
 Contract.of (E:=z68 N) (H:=zmx N) (L:=z8t) (N:=N) (body:=z3e) (K:=(z56 (.tup [(.sl (.pair (.int .i64) (.pair .str (.pair (.int .i64) (.pair .str (.pair (.sl .str) .unit)))))),(.pair (.int .i64) (.pair (.int .i64) .unit))]) 1)) (zsk N) Go.Proofs.Tryd.func13 (by kernel_rfl) (by decide) (fun _ hb=>(TabOk.cons (zsj hb) TabOk.nil)) (fun x y h=>by rw[zqf];exact h) (z1i (s:=(.tup [(.sl (.pair (.int .i64) (.pair .str (.pair (.int .i64) (.pair .str (.pair (.sl .str) .unit)))))),(.pair (.int .i64) (.pair (.int .i64) .unit))])) (m:=1))
def ze:Code:=(Go.Proofs.Tryd.f4.body).getD .skip
def zy:List (List Nat×List Nat):=[([0],[0,1]),([0,0,1],[26,0,1]),([1,0,1],[0,1]),([0,0,1,0,1],[4]),([1,0,1,0,1],[4]),([0,0,1,1],[5,0,1]),([0,1,0,1,1],[5,0,1]),([0,0,0,0,1,0,1,1],[31,0,5,1]),([1,0,0,0,1,0,1,1],[0,5,1]),([1,1,0,0,0,1,0,1,1],[0,1]),([0,0,0,0,1,0,0,1,0,1,1],[38,0,5,1]),([1,0,0,0,1,0,0,1,0,1,1],[0,5,1]),([0,0,1,0,0,0,1,0,0,1,0,1,1],[4]),([1,0,1,0,0,0,1,0,0,1,0,1,1],[4]),([0,1,0,0,1,0,0,1,0,1,1],[6,7,0,5,1]),([0,1,1,0,0,1,0,0,1,0,1,1],[7,9,8,0,5,1]),([0,1,1,1,0,0,1,0,0,1,0,1,1],[67,5,0,1]),([1,1,1,1,0,0,1,0,0,1,0,1,1],[5,0,1]),([0,0,1,1,1,1,0,0,1,0,0,1,0,1,1],[4]),([1,0,1,1,1,1,0,0,1,0,0,1,0,1,1],[4]),([0,1,0,0,1,0,1,1],[5,0,1]),([1,1,0,0,1,0,1,1],[5,0,1]),([1,0,1,1],[0,1]),([0,1,1,1],[10,11,0,1]),([0,1,1,1,1],[11,13,12,0,1]),([0,0,1,1,1,1,1],[90,12,0,1]),([1,0,1,1,1,1,1],[12,0,1]),([0,0,1,0,1,1,1,1,1],[4]),([1,0,1,0,1,1,1,1,1],[4]),([0,0,1,1,1,1,1,1],[14,12,0,1]),([0,1,0,1,1,1,1,1,1],[14,12,0,1]),([0,0,0,0,1,0,1,1,1,1,1,1],[94,12,14,0,1]),([1,0,0,0,1,0,1,1,1,1,1,1],[12,14,0,1]),([1,1,0,0,0,1,0,1,1,1,1,1,1],[1]),([0,0,0,1,0,0,1,0,1,1,1,1,1,1],[106,14,12,0,1]),([1,0,0,1,0,0,1,0,1,1,1,1,1,1],[14,12,0,1]),([0,0,1,0,0,1,0,0,1,0,1,1,1,1,1,1],[4]),([1,0,1,0,0,1,0,0,1,0,1,1,1,1,1,1],[4]),([0,1,0,0,1,0,1,1,1,1,1,1],[14,12,0,1]),([1,1,0,0,1,0,1,1,1,1,1,1],[14,12,0,1]),([1,0,1,1,1,1,1,1],[1]),([0,1,1,1,1,1,1,1],[15,16,1]),([0,1,1,1,1,1,1,1,1],[16,18,17,1]),([0,1,1,1,1,1,1,1,1,1],[4]),([1,1,1,1,1,1,1,1,1,1],[4])]
def zu (N:Nat):Env:=z4p tys glob [(13,zhu N),(6,za7 N),(5,za6 N),(7,z5q N),(9,z7n N),(11,z5n N),(12,zen N)] [(12,(.pair (.int .i64) (.pair .str (.pair (.int .i64) (.pair .str (.pair (.sl .str) .unit))))))] [] [] false [] []
theorem zco (N:Nat):EnvOk Go.Proofs.Tryd.prog (zu N):=z14 mixed z2h (FnsOk.cons (zur N) (FnsOk.cons (zj5 N) (FnsOk.cons (zj4 N) (FnsOk.cons (z9x N) (FnsOk.cons (zc7 N) (FnsOk.cons (zb1 N) (FnsOk.cons (zqe N) (FnsOk.nil)))))))) (ItsOk.nil)
def z43 (N:Nat)(l:(List (Int×((List UInt8)×(Int×((List UInt8)×((List (List UInt8))×Unit)))))))(s:(List UInt8))(k0:Bool->Option Bool):Option Bool :=
 cond (decide ((20:Int)<(((List.length l):Nat):Int)))
 (k0 true)
 (k0 (decide ((500:Int)<(((List.length s):Nat):Int))))
def z7b (N:Nat)(x:z1v [(0,.v (.sl (.pair (.int .i64) (.pair .str (.pair (.int .i64) (.pair .str (.pair (.sl .str) .unit))))))),(0,.v .str)])(K:Ex->List A->Option Bool):Option Bool :=
 z43 N x.1 x.2.1 (fun a2=>(K .normal (mkS [(0,.v (.sl (.pair (.int .i64) (.pair .str (.pair (.int .i64) (.pair .str (.pair (.sl .str) .unit))))))),(0,.v .str),(24,.v .bool)] 103 (x.1,x.2.1,a2,()))))
def z6z (N:Nat):Hd Bool:=fun st K=>(unS [(0,.v (.sl (.pair (.int .i64) (.pair .str (.pair (.int .i64) (.pair .str (.pair (.sl .str) .unit))))))),(0,.v .str)] 128 (restr [0,1] 0 st)).bind fun x=>z7b N x K
def zdh (N:Nat):Tab Bool:=[]
theorem zcm {N:Nat}{c:Ctx}(hb:Base Go.Proofs.Tryd.prog (zu N) c):zq Go.Proofs.Tryd.prog c (zi ze [0,0,1]) (z6z N) :=
 zo (s:=[(0,.v (.sl (.pair (.int .i64) (.pair .str (.pair (.int .i64) (.pair .str (.pair (.sl .str) .unit))))))),(0,.v .str)]) (m:=128) (g:=z7b N) [0,1] (zd hb N (zdh N) zy ze TabOk.nil [0,0,1] _ rfl) (fun x K=>by kernel_rfl)
def z44 (N:Nat)(l:(List (Int×((List UInt8)×(Int×((List UInt8)×((List (List UInt8))×Unit)))))))(s:(List UInt8))(k0:Bool->Option Bool)(k1:Option Bool):Option Bool :=
 z43 N l s
 (fun x26=>cond x26
 ((z1c N).bind fun y =>
 k0 y)
 (k1))
def z7c (N:Nat)(x:z1v [(0,.v (.sl (.pair (.int .i64) (.pair .str (.pair (.int .i64) (.pair .str (.pair (.sl .str) .unit))))))),(0,.v .str)])(K:Ex->List A->Option Bool):Option Bool :=
 z44 N x.1 x.2.1 (fun a0=>(K .ret (mkS [(4,.v .bool)] 125 (a0,())))) (K .normal (mkS [(0,.v (.sl (.pair (.int .i64) (.pair .str (.pair (.int .i64) (.pair .str (.pair (.sl .str) .unit))))))),(0,.v .str)] 128 (x.1,x.2.1,())))
def z71 (N:Nat):Hd Bool:=fun st K=>(unS [(0,.v (.sl (.pair (.int .i64) (.pair .str (.pair (.int .i64) (.pair .str (.pair (.sl .str) .unit))))))),(0,.v .str)] 128 (restr [0,1] 0 st)).bind fun x=>z7c N x K
def zdi (N:Nat):Tab Bool:=[([0,0,1],z6z N)]
theorem zcn {N:Nat}{c:Ctx}(hb:Base Go.Proofs.Tryd.prog (zu N) c):zq Go.Proofs.Tryd.prog c (zi ze [0,1]) (z71 N) :=
 zo (s:=[(0,.v (.sl (.pair (.int .i64) (.pair .str (.pair (.int .i64) (.pair .str (.pair (.sl .str) .unit))))))),(0,.v .str)]) (m:=128) (g:=z7c N) [0,1] (zd hb N (zdi N) zy ze (TabOk.cons (zcm hb) TabOk.nil) [0,1] _ rfl) (fun x K=>by kernel_rfl)
def z41 (N:Nat)(l:(List (Int×((List UInt8)×(Int×((List UInt8)×((List (List UInt8))×Unit)))))))(s:(List UInt8))(i:Int)(is_:Bool)(op:(Int×((List UInt8)×(Int×((List UInt8)×((List (List UInt8))×Unit))))))(has:Bool)(k0:Bool->Option Bool):Option Bool :=
 cond (!(is_ == has))
 (k0 true)
 (cond is_
 (cond (Go.Lift.inR i (List.length l))
 ((z1g N op (List.getD l (Int.toNat i) ((0:Int),(([]:List UInt8),((0:Int),(([]:List UInt8),(([]:List (List UInt8)),()))))))).bind fun y =>
 k0 (!y))
 (none))
 (k0 false))
def z78 (N:Nat)(x:z1v [(0,.v (.sl (.pair (.int .i64) (.pair .str (.pair (.int .i64) (.pair .str (.pair (.sl .str) .unit))))))),(0,.v .str),(3,.v (.int .i64)),(1,.v .bool),(0,.box (.pair (.int .i64) (.pair .str (.pair (.int .i64) (.pair .str (.pair (.sl .str) .unit)))))),(0,.v .bool)])(K:Ex->List A->Option Bool):Option Bool :=
 z41 N x.1 x.2.1 x.2.2.1 x.2.2.2.1 x.2.2.2.2.1 x.2.2.2.2.2.1 (fun a3=>(K .normal (mkS [(0,.v (.sl (.pair (.int .i64) (.pair .str (.pair (.int .i64) (.pair .str (.pair (.sl .str) .unit))))))),(0,.v .str),(3,.v (.int .i64)),(61,.v .bool)] 62 (x.1,x.2.1,x.2.2.1,a3,()))))
def z6w (N:Nat):Hd Bool:=fun st K=>(unS [(0,.v (.sl (.pair (.int .i64) (.pair .str (.pair (.int .i64) (.pair .str (.pair (.sl .str) .unit))))))),(0,.v .str),(3,.v (.int .i64)),(1,.v .bool),(0,.box (.pair (.int .i64) (.pair .str (.pair (.int .i64) (.pair .str (.pair (.sl .str) .unit)))))),(0,.v .bool)] 120 (restr [7,9,8,0,5,1] 0 st)).bind fun x=>z78 N x K
def zde (N:Nat):Tab Bool:=[]
theorem zcj {N:Nat}{c:Ctx}(hb:Base Go.Proofs.Tryd.prog (zu N) c):zq Go.Proofs.Tryd.prog c (zi ze [0,1,1,1,0,0,1,0,0,1,0,1,1]) (z6w N) :=
 zo (s:=[(0,.v (.sl (.pair (.int .i64) (.pair .str (.pair (.int .i64) (.pair .str (.pair (.sl .str) .unit))))))),(0,.v .str),(3,.v (.int .i64)),(1,.v .bool),(0,.box (.pair (.int .i64) (.pair .str (.pair (.int .i64) (.pair .str (.pair (.sl .str) .unit)))))),(0,.v .bool)]) (m:=120) (g:=z78 N) [7,9,8,0,5,1] (zd hb N (zde N) zy ze TabOk.nil [0,1,1,1,0,0,1,0,0,1,0,1,1] _ rfl) (fun x K=>by kernel_rfl)
def z42 (N:Nat)(l:(List (Int×((List UInt8)×(Int×((List UInt8)×((List (List UInt8))×Unit)))))))(s:(List UInt8))(i:Int)(k0:Bool->Option Bool)(k1:Option Bool):Option Bool :=
 cond (Go.Lift.inR i (List.length l))
 ((z3o N (List.getD l (Int.toNat i) ((0:Int),(([]:List UInt8),((0:Int),(([]:List UInt8),(([]:List (List UInt8)),()))))))).bind fun y =>
 cond y
 ((z1c N).bind fun y1 =>
 k0 y1)
 (cond (Go.Lift.inR i (List.length l))
 ((z2n N (List.getD l (Int.toNat i) ((0:Int),(([]:List UInt8),((0:Int),(([]:List UInt8),(([]:List (List UInt8)),()))))))).bind fun y2 =>
 (z1f N y2.1).bind fun y3 =>
 z41 N l s i y2.2.1 y3.1 y3.2.1
 (fun x67=>cond x67
 (k0 false)
 (k1)))
 (none)))
 (none)
def z79 (N:Nat)(x:z1v [(0,.v (.sl (.pair (.int .i64) (.pair .str (.pair (.int .i64) (.pair .str (.pair (.sl .str) .unit))))))),(0,.v .str),(3,.v (.int .i64))])(K:Ex->List A->Option Bool):Option Bool :=
 z42 N x.1 x.2.1 x.2.2.1 (fun a0=>(K .ret (mkS [(4,.v .bool)] 125 (a0,())))) (K .normal (mkS [(0,.v (.sl (.pair (.int .i64) (.pair .str (.pair (.int .i64) (.pair .str (.pair (.sl .str) .unit))))))),(0,.v .str),(3,.v (.int .i64))] 124 (x.1,x.2.1,x.2.2.1,())))
def z6x (N:Nat):Hd Bool:=fun st K=>(unS [(0,.v (.sl (.pair (.int .i64) (.pair .str (.pair (.int .i64) (.pair .str (.pair (.sl .str) .unit))))))),(0,.v .str),(3,.v (.int .i64))] 124 (restr [0,5,1] 0 st)).bind fun x=>z79 N x K
def zdf (N:Nat):Tab Bool:=[([0,1,1,1,0,0,1,0,0,1,0,1,1],z6w N)]
theorem zck {N:Nat}{c:Ctx}(hb:Base Go.Proofs.Tryd.prog (zu N) c):zq Go.Proofs.Tryd.prog c (zi ze [0,1,0,0,1,0,1,1]) (z6x N) :=
 zo (s:=[(0,.v (.sl (.pair (.int .i64) (.pair .str (.pair (.int .i64) (.pair .str (.pair (.sl .str) .unit))))))),(0,.v .str),(3,.v (.int .i64))]) (m:=124) (g:=z79 N) [0,5,1] (zd hb N (zdf N) zy ze (TabOk.cons (zcj hb) TabOk.nil) [0,1,0,0,1,0,1,1] _ rfl) (fun x K=>by kernel_rfl)
def z2q (N:Nat)(l:(List (Int×((List UInt8)×(Int×((List UInt8)×((List (List UInt8))×Unit)))))))(s:(List UInt8))(i:Int)(rec:Int->Option Bool)(k0:Bool->Option Bool)(k1:Option Bool):Option Bool :=
 cond (decide (i<(((List.length l):Nat):Int)))
 (z42 N l s i
 (fun x4=>k0 x4)
 (rec (Go.IntKind.wrap Go.IntKind.i64 (i+(1:Int)))))
 (k1)
def z6s (N:Nat)(l:(List (Int×((List UInt8)×(Int×((List UInt8)×((List (List UInt8))×Unit)))))))(s:(List UInt8))(i:Int)(k0:Bool->Option Bool)(k1:Option Bool):Option Bool :=
 iter (fun (v:Int) r=>z2q N l s v (fun i=>(r i)) k0 k1) N i
def z7a (N:Nat)(i:((List (Int×((List UInt8)×(Int×((List UInt8)×((List (List UInt8))×Unit))))))×(List UInt8)))(v:Int)(r:Int->Option Bool)(K:Ex->List A->Option Bool):Option Bool :=
 z2q N i.1 i.2 v (fun i=>(r i)) (fun a0=>(K .ret (mkS [(4,.v .bool)] 125 (a0,())))) (K (.exit 0) (mkS [(0,.v (.sl (.pair (.int .i64) (.pair .str (.pair (.int .i64) (.pair .str (.pair (.sl .str) .unit))))))),(0,.v .str)] 128 (i.1,i.2,())))
def z6y (N:Nat):Hd Bool:=fun st K=>(unS [(0,.v (.sl (.pair (.int .i64) (.pair .str (.pair (.int .i64) (.pair .str (.pair (.sl .str) .unit))))))),(0,.v .str),(3,.v (.int .i64))] 124 (restr [5,0,1] 0 st)).bind fun x=>iter (fun v r=>z7a N ((fun x=>(x.1,x.2.1)) x) v r K) N ((fun x=>x.2.2.1) x)
def zdg (N:Nat):Tab Bool:=[([0,1,0,0,1,0,1,1],z6x N)]
theorem zcl {N:Nat}{c:Ctx}(hb:Base Go.Proofs.Tryd.prog (zu N) c):zq Go.Proofs.Tryd.prog c (zi ze [0,1,0,1,1]) (z6y N) :=
 z55 (s:=[(0,.v (.sl (.pair (.int .i64) (.pair .str (.pair (.int .i64) (.pair .str (.pair (.sl .str) .unit))))))),(0,.v .str),(3,.v (.int .i64))]) (m:=124) (z7a N) [5,0,1] N (fun x=>(x.1,x.2.1)) (fun x=>x.2.2.1) (fun i v=>(i.1,i.2,v,())) (fun _=>rfl) (zd hb N (zdg N) zy ze (TabOk.cons (zck hb) TabOk.nil) [0,0,1,0,1,1] _ rfl) (fun i v r K=>by kernel_rfl)
def z2s (N:Nat)(l:(List (Int×((List UInt8)×(Int×((List UInt8)×((List (List UInt8))×Unit)))))))(s:(List UInt8))(is_:Bool)(m:(List (Int×((List UInt8)×(Int×((List UInt8)×((List (List UInt8))×Unit)))))))(f:(Int×(Int×Unit)))(k0:Bool->Option Bool):Option Bool :=
 cond is_
 (cond (f.1 != (0:Int))
 (k0 true)
 (k0 ((((List.length m):Nat):Int) != (((List.length l):Nat):Int))))
 (k0 false)
def z74 (N:Nat)(x:z1v [(0,.v (.sl (.pair (.int .i64) (.pair .str (.pair (.int .i64) (.pair .str (.pair (.sl .str) .unit))))))),(0,.v .str),(9,.v .bool),(0,.v (.sl (.pair (.int .i64) (.pair .str (.pair (.int .i64) (.pair .str (.pair (.sl .str) .unit))))))),(0,.box (.pair (.int .i64) (.pair (.int .i64) .unit)))])(K:Ex->List A->Option Bool):Option Bool :=
 z2s N x.1 x.2.1 x.2.2.1 x.2.2.2.1 x.2.2.2.2.1 (fun a3=>(K .normal (mkS [(0,.v (.sl (.pair (.int .i64) (.pair .str (.pair (.int .i64) (.pair .str (.pair (.sl .str) .unit))))))),(0,.v .str),(10,.v (.sl (.pair (.int .i64) (.pair .str (.pair (.int .i64) (.pair .str (.pair (.sl .str) .unit))))))),(77,.v .bool)] 39 (x.1,x.2.1,x.2.2.2.1,a3,()))))
def z6u (N:Nat):Hd Bool:=fun st K=>(unS [(0,.v (.sl (.pair (.int .i64) (.pair .str (.pair (.int .i64) (.pair .str (.pair (.sl .str) .unit))))))),(0,.v .str),(9,.v .bool),(0,.v (.sl (.pair (.int .i64) (.pair .str (.pair (.int .i64) (.pair .str (.pair (.sl .str) .unit))))))),(0,.box (.pair (.int .i64) (.pair (.int .i64) .unit)))] 116 (restr [11,13,12,0,1] 0 st)).bind fun x=>z74 N x K
def zdc (N:Nat):Tab Bool:=[]
theorem zch {N:Nat}{c:Ctx}(hb:Base Go.Proofs.Tryd.prog (zu N) c):zq Go.Proofs.Tryd.prog c (zi ze [0,0,1,1,1,1,1]) (z6u N) :=
 zo (s:=[(0,.v (.sl (.pair (.int .i64) (.pair .str (.pair (.int .i64) (.pair .str (.pair (.sl .str) .unit))))))),(0,.v .str),(9,.v .bool),(0,.v (.sl (.pair (.int .i64) (.pair .str (.pair (.int .i64) (.pair .str (.pair (.sl .str) .unit))))))),(0,.box (.pair (.int .i64) (.pair (.int .i64) .unit)))]) (m:=116) (g:=z74 N) [11,13,12,0,1] (zd hb N (zdc N) zy ze TabOk.nil [0,0,1,1,1,1,1] _ rfl) (fun x K=>by kernel_rfl)
def z1z (N:Nat)(l:(List (Int×((List UInt8)×(Int×((List UInt8)×((List (List UInt8))×Unit)))))))(s:(List UInt8))(is_:Bool)(m:(List (Int×((List UInt8)×(Int×((List UInt8)×((List (List UInt8))×Unit)))))))(f:(Int×(Int×Unit)))(k0:Bool->Option Bool)(k1:Option Bool):Option Bool :=
 z2s N l s is_ m f
 (fun x90=>cond x90
 (k0 false)
 (k1))
def z77 (N:Nat)(x:z1v [(0,.v (.sl (.pair (.int .i64) (.pair .str (.pair (.int .i64) (.pair .str (.pair (.sl .str) .unit))))))),(0,.v .str),(9,.v .bool),(0,.v (.sl (.pair (.int .i64) (.pair .str (.pair (.int .i64) (.pair .str (.pair (.sl .str) .unit))))))),(0,.box (.pair (.int .i64) (.pair (.int .i64) .unit)))])(K:Ex->List A->Option Bool):Option Bool :=
 z1z N x.1 x.2.1 x.2.2.1 x.2.2.2.1 x.2.2.2.2.1 (fun a0=>(K .ret (mkS [(4,.v .bool)] 125 (a0,())))) (K .normal (mkS [(0,.v (.sl (.pair (.int .i64) (.pair .str (.pair (.int .i64) (.pair .str (.pair (.sl .str) .unit))))))),(0,.v .str),(10,.v (.sl (.pair (.int .i64) (.pair .str (.pair (.int .i64) (.pair .str (.pair (.sl .str) .unit)))))))] 117 (x.1,x.2.1,x.2.2.2.1,())))
def z6v (N:Nat):Hd Bool:=fun st K=>(unS [(0,.v (.sl (.pair (.int .i64) (.pair .str (.pair (.int .i64) (.pair .str (.pair (.sl .str) .unit))))))),(0,.v .str),(9,.v .bool),(0,.v (.sl (.pair (.int .i64) (.pair .str (.pair (.int .i64) (.pair .str (.pair (.sl .str) .unit))))))),(0,.box (.pair (.int .i64) (.pair (.int .i64) .unit)))] 116 (restr [11,13,12,0,1] 0 st)).bind fun x=>z77 N x K
def zdd (N:Nat):Tab Bool:=[([0,0,1,1,1,1,1],z6u N)]
theorem zci {N:Nat}{c:Ctx}(hb:Base Go.Proofs.Tryd.prog (zu N) c):zq Go.Proofs.Tryd.prog c (zi ze [0,1,1,1,1,1]) (z6v N) :=
 zo (s:=[(0,.v (.sl (.pair (.int .i64) (.pair .str (.pair (.int .i64) (.pair .str (.pair (.sl .str) .unit))))))),(0,.v .str),(9,.v .bool),(0,.v (.sl (.pair (.int .i64) (.pair .str (.pair (.int .i64) (.pair .str (.pair (.sl .str) .unit))))))),(0,.box (.pair (.int .i64) (.pair (.int .i64) .unit)))]) (m:=116) (g:=z77 N) [11,13,12,0,1] (zd hb N (zdd N) zy ze (TabOk.cons (zch hb) TabOk.nil) [0,1,1,1,1,1] _ rfl) (fun x K=>by kernel_rfl)
def z2p (N:Nat)(l:(List (Int×((List UInt8)×(Int×((List UInt8)×((List (List UInt8))×Unit)))))))(s:(List UInt8))(m:(List (Int×((List UInt8)×(Int×((List UInt8)×((List (List UInt8))×Unit)))))))(i:Int)(rec:Int->Option Bool)(k0:Bool->Option Bool)(k1:Option Bool):Option Bool :=
 cond (decide (i<(((List.length m):Nat):Int)))
 (cond (Go.Lift.inR i (List.length m))
 (cond (Go.Lift.inR i (List.length l))
 ((z1g N (List.getD m (Int.toNat i) ((0:Int),(([]:List UInt8),((0:Int),(([]:List UInt8),(([]:List (List UInt8)),())))))) (List.getD l (Int.toNat i) ((0:Int),(([]:List UInt8),((0:Int),(([]:List UInt8),(([]:List (List UInt8)),()))))))).bind fun y =>
 cond (!y)
 (k0 false)
 (rec (Go.IntKind.wrap Go.IntKind.i64 (i+(1:Int)))))
 (none))
 (none))
 (k1)
def z2r (N:Nat)(l:(List (Int×((List UInt8)×(Int×((List UInt8)×((List (List UInt8))×Unit)))))))(s:(List UInt8))(m:(List (Int×((List UInt8)×(Int×((List UInt8)×((List (List UInt8))×Unit)))))))(i:Int)(k0:Bool->Option Bool)(k1:Option Bool):Option Bool :=
 iter (fun (v:Int) r=>z2p N l s m v (fun i=>(r i)) k0 k1) N i
def z73 (N:Nat)(i:((List (Int×((List UInt8)×(Int×((List UInt8)×((List (List UInt8))×Unit))))))×(List UInt8)×(List (Int×((List UInt8)×(Int×((List UInt8)×((List (List UInt8))×Unit))))))))(v:Int)(r:Int->Option Bool)(K:Ex->List A->Option Bool):Option Bool :=
 z2p N i.1 i.2.1 i.2.2 v (fun i=>(r i)) (fun a0=>(K .ret (mkS [(4,.v .bool)] 125 (a0,())))) (K (.exit 2) (mkS [(1,.v .str)] 128 (i.2.1,())))
def z6t (N:Nat):Hd Bool:=fun st K=>(unS [(0,.v (.sl (.pair (.int .i64) (.pair .str (.pair (.int .i64) (.pair .str (.pair (.sl .str) .unit))))))),(0,.v .str),(10,.v (.sl (.pair (.int .i64) (.pair .str (.pair (.int .i64) (.pair .str (.pair (.sl .str) .unit))))))),(1,.v (.int .i64))] 115 (restr [14,12,0,1] 0 st)).bind fun x=>iter (fun v r=>z73 N ((fun x=>(x.1,x.2.1,x.2.2.1)) x) v r K) N ((fun x=>x.2.2.2.1) x)
def zdb (N:Nat):Tab Bool:=[]
theorem zcg {N:Nat}{c:Ctx}(hb:Base Go.Proofs.Tryd.prog (zu N) c):zq Go.Proofs.Tryd.prog c (zi ze [0,1,0,1,1,1,1,1,1]) (z6t N) :=
 z55 (s:=[(0,.v (.sl (.pair (.int .i64) (.pair .str (.pair (.int .i64) (.pair .str (.pair (.sl .str) .unit))))))),(0,.v .str),(10,.v (.sl (.pair (.int .i64) (.pair .str (.pair (.int .i64) (.pair .str (.pair (.sl .str) .unit))))))),(1,.v (.int .i64))]) (m:=115) (z73 N) [14,12,0,1] N (fun x=>(x.1,x.2.1,x.2.2.1)) (fun x=>x.2.2.2.1) (fun i v=>(i.1,i.2.1,i.2.2,v,())) (fun _=>rfl) (zd hb N (zdb N) zy ze TabOk.nil [0,0,1,0,1,1,1,1,1,1] _ rfl) (fun i v r K=>by kernel_rfl)
def z1w (N:Nat)(l:(List (Int×((List UInt8)×(Int×((List UInt8)×((List (List UInt8))×Unit)))))))(s:(List UInt8)):Option Bool :=
 z44 N l s
 (fun x4=>some x4)
 (z6s N l s (0:Int)
 (fun x41=>some x41)
 ((z4n N l).bind fun y =>
 (z4o N y.1).bind fun y1 =>
 z1z N l s y.2.1 y1.1 y1.2.1
 (fun x42=>some x42)
 (z2r N l s y1.1 (0:Int)
 (fun x43=>some x43)
 ((z1f N s).bind fun y2 =>
 (z2n N y2.1).bind fun y3 =>
 cond (!y2.2.1)
 ((z1c N).bind fun y4 =>
 some y4)
 (cond y3.2.1
 (cond (y3.1 == s)
 ((z1c N).bind fun y5 =>
 some y5)
 (some false))
 (some false))))))
def z87 (N:Nat):Tab Bool:=[([0,1],z71 N),([0,1,0,1,1],z6y N),([0,1,1,1,1,1],z6v N),([0,1,0,1,1,1,1,1,1],z6t N)]
theorem zbq (N:Nat)(x:z1v [(0,.v (.sl (.pair (.int .i64) (.pair .str (.pair (.int .i64) (.pair .str (.pair (.sl .str) .unit))))))),(0,.v .str)]):zd3 (zu N) N (z87 N) zy Go.Proofs.Tryd.f4 (mkS [(0,.v (.sl (.pair (.int .i64) (.pair .str (.pair (.int .i64) (.pair .str (.pair (.sl .str) .unit))))))),(0,.v .str)] 0 x) (z56 (.v .bool) 2)=z1w N x.1 x.2.1:=by kernel_rfl
def zcf (N:Nat):List A->Res:=z2c [(0,.v (.sl (.pair (.int .i64) (.pair .str (.pair (.int .i64) (.pair .str (.pair (.sl .str) .unit))))))),(0,.v .str)] (fun x=>z1w N x.1 x.2.1) (zd0 (.v .bool) 2)
theorem zdj (N:Nat):Contract Go.Proofs.Tryd.prog glob 4 (zcf N) :=
 Contract.of (E:=zu N) (H:=z87 N) (L:=zy) (N:=N) (body:=ze) (K:=(z56 (.v .bool) 2)) (zco N) Go.Proofs.Tryd.func4 (by kernel_rfl) (by decide) (fun _ hb=>(TabOk.cons (zcn hb) (TabOk.cons (zcl hb) (TabOk.cons (zci hb) (TabOk.cons (zcg hb) TabOk.nil))))) (fun x y h=>by rw[zbq];exact h) (z1i (s:=(.v .bool)) (m:=2))
end
end Go.Proofs.YtlmlihfmoabinaaDoorLg
set_option linter.all false
set_option maxRecDepth 100000
namespace Go.Proofs.YtlmlihfmoabinaaDoorLg
noncomputable section
open Go Go.Lift Go.Lib Go.Proofs.YtlmlihfmoabinaaDoorPx
theorem zxy (N:Nat){l:List (List UInt8)}(hl:l.length<=10000000)(hN:l.length<N):z3j N l l=some true:=by
 simp only[z3j,z8k];rw[zl (by simp)];rw[z6o (I:=fun (v:Int)=>∃ i:Nat,v=(i:Int)/\i<=l.length) (m:=fun v=>l.length - v.toNat) (R:=fun _=>some true) ?_ N 0 ⟨0,rfl,by omega⟩ (by simp;omega)];rintro v r ⟨i,rfl,hi⟩ hr;rw[Int.toNat_natCast] at hr;simp only[z4l,Int.toNat_natCast];by_cases hlt:i<l.length
 . rw[zb (z11 (by omega)),zb (z28 hlt),zb (z28 hlt),zl (by rw[beq_self_eq_true];rfl),z2e (by omega)];exact hr _ ⟨i+1,rfl,by omega⟩ (by simp;omega)
 . rw[zl (z24 (by omega))]
theorem zxz (N:Nat){op:OpT}(hl:op.2.2.2.2.1.length<=10000000)(hN:op.2.2.2.2.1.length<N):z1g N op op=some true:=by
 simp only[z1g,beq_self_eq_true,cond_true,zxy N hl hN,Option.bind_some]
theorem z18b (N:Nat){op:OpT}(hN:100<N):∃ b,z3o N op=some b/\(b=false->op.2.1.length<=100/\op.2.2.2.2.1.length<=70/\(op.2.2.2.1.length<=500\/131072<op.2.2.2.1.length)/\∀ w∈op.2.2.2.2.1,w.length<=300\/2048<w.length):=by
 simp only[z3o,z6m,z6l];by_cases h1:op.2.1.length<=100
 case neg=>rw[zb (z11 (by omega))];exact⟨true,rfl,fun e=>by cases e⟩
 rw[zl (z24 (by omega))];by_cases h2:op.2.2.2.2.1.length<=70
 case neg=>rw[zb (z11 (by omega))];exact⟨true,rfl,fun e=>by cases e⟩
 rw[zl (z24 (by omega))];have tail:∃ b,z6k N op 0 (fun x21=>some x21) (some false)=some b/\(b=false->∀ w∈op.2.2.2.2.1,w.length<=300\/2048<w.length):=by
  simp only[z6k];have key:=zid (step:=fun (v:Int) r=>z49 N op v (fun i=>(r i)) (fun x21=>some x21) (some false)) (I:=fun (v:Int)=>∃ i:Nat,v=(i:Int)/\i<=op.2.2.2.2.1.length/\∀ w∈op.2.2.2.2.1.take i,w.length<=300\/2048<w.length) (m:=fun v=>op.2.2.2.2.1.length - v.toNat) (p:=fun o=>∃ b,o=some b/\(b=false->∀ w∈op.2.2.2.2.1,w.length<=300\/2048<w.length)) ?_ N 0 ⟨0,rfl,by omega,by simp⟩ (by simp;omega)
  . exact key
  rintro v r ⟨i,rfl,hi,ht⟩ hr;rw[Int.toNat_natCast] at hr;simp only[z49,z6j,z6i,Int.toNat_natCast];by_cases hlt:i<op.2.2.2.2.1.length
  case neg=>rw[zl (z24 (by omega))];exact⟨false,rfl,fun _=>by rw[List.take_of_length_le (by omega)] at ht;exact ht⟩
  have hgo:(op.2.2.2.2.1.getD i []).length<=300\/2048<(op.2.2.2.2.1.getD i []).length->∃ b,r (IntKind.wrap .i64 ((i:Int)+1))=some b/\(b=false->∀ w∈op.2.2.2.2.1,w.length<=300\/2048<w.length):=fun h=>by
   rw[z2e (by omega)];refine hr _ ⟨i+1,rfl,by omega,fun w hw=>?_⟩ (by simp;omega);rw[zgq op.2.2.2.2.1 [] i hlt] at hw;rcases List.mem_append.1 hw with hw|hw
   . exact ht w hw
   . rw[List.mem_singleton.1 hw];exact h
  rw[zb (z11 (by omega)),zb (z28 hlt)];by_cases h3:(op.2.2.2.2.1.getD i []).length<=300
  . rw[zl (z24 (by omega)),cond_false];exact hgo (.inl h3)
  rw[zb (z11 (by omega)),zb (z28 hlt)];by_cases h4:(op.2.2.2.2.1.getD i []).length<=2048
  . rw[z11 (by omega),cond_true];exact⟨true,rfl,fun e=>by cases e⟩
  . rw[z24 (by omega),cond_false];exact hgo (.inr (by omega))
 obtain⟨b,hb,hb'⟩:=tail;by_cases h3:op.2.2.2.1.length<=500
 . rw[zl (z24 (by omega)),cond_false,hb];exact⟨b,rfl,fun e=>⟨h1,h2,.inl h3,hb' e⟩⟩
 rw[zb (z11 (by omega))];by_cases h4:op.2.2.2.1.length<=131072
 . rw[z11 (by omega),cond_true];exact⟨true,rfl,fun e=>by cases e⟩
 . rw[z24 (by omega),cond_false,hb];exact⟨b,rfl,fun e=>⟨h1,h2,.inr (by omega),hb' e⟩⟩
theorem zve (k:Nat):z1c (k+1000000)=some true:=by kernel_rfl
theorem z18a {o:Option OpT}{s:List UInt8}(h:IsO o s):(opR o).1.2.2.2.2.1.length<=100000:=by
 cases o with
 | none=>simp[opR,op0]
 | some op=>exact zw4 (h.1 op rfl).1 (h.1 op rfl).2
end
end Go.Proofs.YtlmlihfmoabinaaDoorLg
