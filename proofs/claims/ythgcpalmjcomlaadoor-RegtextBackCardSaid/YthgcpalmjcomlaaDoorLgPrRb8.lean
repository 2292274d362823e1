import Derived.Test.YthgcpalmjcomlaaDoorLgW
import Derived.LaidLaws
import Derived.Test.YthgcpalmjcomlaaDoorLgPrRb1
import Derived.Test.YthgcpalmjcomlaaDoorLgPrRb7
import Derived.KernelRfl
set_option linter.all false
namespace Go.Proofs.YthgcpalmjcomlaaDoorPx
noncomputable section
open Go Go.Lift
theorem znu {α β:Type}{f:α->Option β}:∀ {l:List α} {ys:List β},l.mapM f=some ys->ys.length=l.length/\∀ i,(h:i<l.length)->∃ y,ys[i]?=some y/\f l[i]=some y
 | [],ys,h=>by simp at h;subst h;simp
 | a :: l,ys,h=>by
   simp only[List.mapM_cons,Option.pure_def,Option.bind_eq_bind,Option.bind_eq_some_iff,Option.some.injEq] at h;obtain⟨y,hy,zs,hz,rfl⟩:=h;obtain⟨h1,h2⟩:=znu hz;refine⟨by simp[h1],fun i hi=>?_⟩;cases i with
   | zero=>exact⟨y,rfl,hy⟩
   | succ i =>
     obtain⟨z,e1,e2⟩:=h2 i (by simpa using hi);exact⟨z,by simpa using e1,by simpa using e2⟩
theorem ziy {H:Type}{enc:TypeId×Value->H}{P:Program}{w:World}{base:Nat}{sp:Nat->Bool}{held:Bool}{fuel:Nat}{t:TypeId}{k:IntKind}{c:Value}{y:DataW H×List MemPlace}
 (ht:P.underlying t=some (.int k)) (h:DataW.trod enc P w base sp held fuel t [c]=some y):∃ n,c=.int k n/\y=(.lit (.int k n),[]):=by
 cases fuel with
 | zero=>simp[DataW.trod] at h
 | succ fuel =>
   cases c<;>simp[DataW.trod,ht] at h
   rename_i k' n;obtain⟨⟨rfl,_⟩,rfl⟩:=h;exact⟨n,rfl,rfl⟩
theorem ztj {P:Program} {w:World} {base:Nat} {sp:Nat->Bool} {held:Bool} {fuel:Nat} {t e:TypeId} {k:IntKind} {n:Nat} {cs:List Value} {ns:List Int} {p:List MemPlace}
 (ht:P.underlying t=some (.array n e)) (he:P.underlying e=some (.int k)) (hc:P.cellsOf e=1) (hct:P.cellsOf t=n)
 (h:DataW.trod (fun _=>()) P w base sp held fuel t cs=some (.agg (ns.map fun i=>.lit (.int k i)),p)):cs=ns.map (fun i=>.int k i)/\ns.length=n:=by
 cases fuel with
 | zero=>simp[DataW.trod] at h
 | succ fuel =>
   simp only[DataW.trod,ht,hc,hct] at h;split at h
   . rename_i hl;simp only[Option.map_eq_some_iff] at h;obtain⟨xs,hm,hx⟩:=h;obtain⟨h1,h2⟩:=znu hm;simp only[Prod.mk.injEq,DataW.agg.injEq] at hx;have hlen:ns.length=n:=by
      have:=congrArg List.length hx.1;simp only[List.length_map,List.length_range] at this h1;omega
     refine⟨List.ext_getElem? fun i=>?_,hlen⟩;by_cases hi:i<n
     . obtain⟨y,e1,e2⟩:=h2 i (by simpa using hi);have hci:(cs.drop (i*1)).take 1=[cs[i]'(by omega)]:=by
        rw[Nat.mul_one,List.drop_eq_getElem_cons (by omega:i<cs.length)];rfl
       simp only[List.getElem_range] at e2;rw[hci] at e2;obtain⟨m,hm1,hm2⟩:=ziy he e2;have hy:(xs.map (·.1))[i]?=some (.lit (.int k m)):=by rw[List.getElem?_map,e1,hm2];rfl
       rw[hx.1,List.getElem?_map] at hy;have hn:ns[i]?=some (ns[i]'(by omega)):=List.getElem?_eq_getElem (by omega);rw[hn] at hy;simp only[Option.map_some,Option.some.injEq,DataW.lit.injEq,Lit.int.injEq,true_and] at hy;rw[List.getElem?_eq_getElem (by omega:i<cs.length),hm1,List.getElem?_map,hn,Option.map_some,hy]
     . rw[List.getElem?_eq_none (by omega),List.getElem?_eq_none (by rw[List.length_map];omega)]
   . cases h
theorem zkc (S:Hp)(k:IntKind):∀ ns:List Int,All (Rd S (.int k)) ns (ns.map fun i=>.int k i)
 | []=>rfl
 | x::r=>⟨[.int k x],_,rfl,rfl,zkc S k r⟩
theorem z137 {P:Program}{W:World}{name:String}{g:Nat}{t e:TypeId}{k:IntKind}{n:Nat}{ns:List Int}{r:List (String×DataW Unit)}{ps:List MemPlace}
 (hg:P.globalNamed name=some g) (hty:(P.globals[g]?).map (·.type)=some t) (ht:P.underlying t=some (.array n e)) (he:P.underlying e=some (.int k)) (hc:P.cellsOf e=1) (hct:P.cellsOf t=n)
 (h:DataW.LaidVars P W ((name,.agg (ns.map fun i=>.lit (.int k i)))::r) ps) :
 VR (hp W) (.ptr (.arr n (.int k))) ns (.pointer (some ⟨g,0,none⟩))/\∃ q,DataW.LaidVars P W r q:=by
 obtain⟨g',t',cs,fuel,p,q,e1,e2,e3,e4,e5,_⟩:=h;obtain rfl:=Option.some.inj (hg.symm.trans e1);obtain rfl:=Option.some.inj (hty.symm.trans e2);obtain⟨h1,h2⟩:=ztj ht he hc hct e4;refine⟨?_,q,e5⟩;simp only[World.var?,hg,Option.bind_some] at e3;split at e3
 . rename_i cs' t2 fr hh;simp only[Option.some.injEq] at e3;subst e3;refine VR.of_one rfl ⟨g,0,cs'.toList,rfl,⟨cs',t2,fr,[],[],hh,by simp,rfl⟩,?_⟩;rw[h1];exact⟨h2,zkc _ _ _⟩
 . cases e3
end
end Go.Proofs.YthgcpalmjcomlaaDoorPx
set_option linter.all false
namespace Go.Proofs.YthgcpalmjcomlaaDoorPx
noncomputable section
open Go Go.Lift
theorem z18n (x:Int):IntKind.wrap .u8 x=x % 256:=by
 simp only[IntKind.wrap,IntKind.bits,IntKind.signed,Bool.false_and,Bool.false_eq_true,if_false];rfl
theorem zkd {x:Int}(h0:0<=x)(h1:x<256):IntKind.wrap .u8 x=x:=by rw[z18n];omega
theorem z18t (u:UInt8):u.toNat<256:=u.toNat_lt
theorem zsd {i:Nat}(h:i<9223372036854775807):IntKind.wrap .i64 ((i:Int)+1)=((i+1:Nat):Int):=by
 rw[z5u (by unfold I64;omega)];omega
theorem zmp {α:Type}(l:List α)(d:α)(i:Nat)(h:i<l.length):l.getD i d∈l:=by
 rw[List.getD_eq_getElem?_getD,List.getElem?_eq_getElem h];simp
theorem z13p {α:Type}(l:List α)(d:α)(i:Nat)(h:i<l.length):l.drop i=l.getD i d::l.drop (i+1):=by
 rw[List.getD_eq_getElem?_getD,List.getElem?_eq_getElem h,Option.getD_some,List.drop_eq_getElem_cons h]
theorem z13o {α:Type}(l:List α){i:Nat}(h:l.length<=i):l.drop i=[]:=List.drop_of_length_le h
end
end Go.Proofs.YthgcpalmjcomlaaDoorPx
set_option linter.all false
namespace Go.Proofs.YthgcpalmjcomlaaDoorPx
noncomputable section
open Go Go.Lift
def U64 (x:Int):Prop:=0<=x/\x<18446744073709551616
instance (x:Int):Decidable (U64 x):=by unfold U64;infer_instance
def bit (w:Int)(i:Nat):Bool:=w.toNat.testBit i
theorem zqu (x:Int):IntKind.wrap .u64 x=x % 18446744073709551616:=rfl
theorem zqv (x:Int):U64 (IntKind.wrap .u64 x):=by rw[zqu];unfold U64;omega
theorem z72 {x:Int}(h:U64 x):IntKind.wrap .u64 x=x:=by rw[zqu];unfold U64 at h;omega
theorem zkw {x:Int}(h:U64 x):(BitVec.ofInt 64 x).toNat=x.toNat:=by
 unfold U64 at h;rw[BitVec.toNat_ofInt];omega
theorem z14a (v:BitVec 64):U64 ((v.toNat:Nat):Int):=by
 have:=v.isLt;unfold U64;omega
theorem zs5 {x y:Int}(hx:U64 x)(hy:U64 y):bitsOp .and .u64 x y=((x.toNat &&& y.toNat:Nat):Int):=by
 have e:bitsOp .and .u64 x y=IntKind.wrap .u64 ((BitVec.ofInt 64 x &&& BitVec.ofInt 64 y).toNat:Int):=rfl;rw[e,z72 (z14a _),BitVec.toNat_and,zkw hx,zkw hy]
theorem z1es {x y:Int}(hx:U64 x)(hy:U64 y):bitsOp .or .u64 x y=((x.toNat ||| y.toNat:Nat):Int):=by
 have e:bitsOp .or .u64 x y=IntKind.wrap .u64 ((BitVec.ofInt 64 x ||| BitVec.ofInt 64 y).toNat:Int):=rfl;rw[e,z72 (z14a _),BitVec.toNat_or,zkw hx,zkw hy]
theorem z18m {x y:Int}(hx:U64 x)(hy:U64 y):bitsOp .xor .u64 x y=((x.toNat ^^^ y.toNat:Nat):Int):=by
 have e:bitsOp .xor .u64 x y=IntKind.wrap .u64 ((BitVec.ofInt 64 x ^^^ BitVec.ofInt 64 y).toNat:Int):=rfl;rw[e,z72 (z14a _),BitVec.toNat_xor,zkw hx,zkw hy]
theorem z18v {x y:Int}(hx:U64 x)(hy:U64 y):U64 (bitsOp .and .u64 x y):=by
 have e:bitsOp .and .u64 x y=IntKind.wrap .u64 ((BitVec.ofInt 64 x &&& BitVec.ofInt 64 y).toNat:Int):=rfl;rw[e];exact zqv _
theorem z177 {x y:Int}(hx:U64 x)(hy:U64 y):U64 (bitsOp .or .u64 x y):=by
 have e:bitsOp .or .u64 x y=IntKind.wrap .u64 ((BitVec.ofInt 64 x ||| BitVec.ofInt 64 y).toNat:Int):=rfl;rw[e];exact zqv _
theorem z18u {x y:Int}(hx:U64 x)(hy:U64 y):U64 (bitsOp .xor .u64 x y):=by
 have e:bitsOp .xor .u64 x y=IntKind.wrap .u64 ((BitVec.ofInt 64 x ^^^ BitVec.ofInt 64 y).toNat:Int):=rfl;rw[e];exact zqv _
theorem z1cr {x y:Int}(hx:U64 x)(hy:U64 y)(i:Nat):bit (bitsOp .and .u64 x y) i=(bit x i && bit y i):=by
 rw[zs5 hx hy];simp only[bit,Int.toNat_natCast,Nat.testBit_and]
theorem z181 {x y:Int}(hx:U64 x)(hy:U64 y)(i:Nat):bit (bitsOp .or .u64 x y) i=(bit x i || bit y i):=by
 rw[z1es hx hy];simp only[bit,Int.toNat_natCast,Nat.testBit_or]
theorem zkh:U64 18446744073709551615:=by unfold U64;omega
theorem z1cq {x:Int}(hx:U64 x){i:Nat}(hi:i<64):bit (bitsOp .xor .u64 18446744073709551615 x) i=!bit x i:=by
 rw[z18m zkh hx];have e:(18446744073709551615:Int).toNat=2^64 - 1:=rfl;simp only[bit,Int.toNat_natCast,Nat.testBit_xor,e,Nat.testBit_two_pow_sub_one,hi,decide_true,Bool.true_xor]
theorem zup {n:Nat}(hn:n<64):U64 ((2^n:Nat):Int):=by
 have hp:2^n<2^64:=Nat.pow_lt_pow_right (by omega) hn;have e:(2:Nat)^64=18446744073709551616:=rfl;rw[e] at hp;generalize 2^n=q at hp;unfold U64;omega
theorem shl1 {n:Nat}(hn:n<64):shlI .u64 1 (n:Int)=((2^n:Nat):Int):=by
 have e:shlI .u64 1 (n:Int)=IntKind.wrap .u64 (1*2^(min (n:Int).toNat 64)):=rfl;have hp:2^n<2^64:=Nat.pow_lt_pow_right (by omega) hn;rw[e,Int.toNat_natCast,Nat.min_eq_left (by omega),Int.one_mul];have e2:((2:Int)^n)=((2^n:Nat):Int):=by rw[Int.natCast_pow];rfl
 rw[e2,z72 (zup hn)]
theorem z1cp (n i:Nat):bit ((2^n:Nat):Int) i=decide (n=i):=by
 simp only[bit,Int.toNat_natCast,Nat.testBit_two_pow]
theorem z1co {x:Int}(hx:U64 x){n:Nat}(hn:n<64)(i:Nat):bit (bitsOp .or .u64 x (shlI .u64 1 (n:Int))) i=(bit x i || decide (n=i)):=by
 rw[shl1 hn,z181 hx (zup hn),z1cp]
theorem zuv {x:Int}(hx:0<=x){n:Nat}(hn:n<64):z23 .u64 x (n:Int)=((x.toNat >>> n:Nat):Int):=by
 have e:z23 .u64 x (n:Int)=x.fdiv (2^(min (n:Int).toNat 64)):=rfl;rw[e,Int.toNat_natCast,Nat.min_eq_left (by omega),Nat.shiftRight_eq_div_pow];have e2:((2:Int)^n)=((2^n:Nat):Int):=by rw[Int.natCast_pow];rfl
 rw[e2,Int.fdiv_eq_ediv_of_nonneg _ (Int.natCast_nonneg _),Int.natCast_ediv];congr 1;omega
theorem z1bs {x:Int}(hx:U64 x){n:Nat}(hn:n<64):(bitsOp .and .u64 (z23 .u64 x (n:Int)) 1 == 1)=bit x n:=by
 have hs:U64 (z23 .u64 x (n:Int)):=by
  rw[zuv hx.1 hn,Nat.shiftRight_eq_div_pow];have h:=Nat.div_le_self x.toNat (2^n);generalize x.toNat / 2^n=q at *;unfold U64 at *;omega
 rw[zs5 hs (by unfold U64;omega),zuv hx.1 hn];simp only[Int.toNat_natCast,bit,Nat.testBit];have e:(1:Int).toNat=1:=rfl;rw[e,Nat.and_comm (x.toNat >>> n) 1];have h01:1 &&& (x.toNat >>> n)=(x.toNat >>> n) % 2:=by rw[Nat.and_comm];exact Nat.and_one_is_mod _
 rw[h01];have:(x.toNat >>> n) % 2<2:=Nat.mod_lt _ (by omega);rcases Nat.lt_or_ge ((x.toNat >>> n) % 2) 1 with h|h
 . have h0:(x.toNat >>> n) % 2=0:=by omega
   rw[h0];rfl
 . have h0:(x.toNat >>> n) % 2=1:=by omega
   rw[h0];rfl
def SetOk (s:List Int):Prop:=∃ a b c d,s=[a,b,c,d]/\U64 a/\U64 b/\U64 c/\U64 d
def hasS (s:List Int)(b:Nat):Bool:=bit (s.getD (b / 64) 0) (b % 64)
theorem SetOk.length {s:List Int}(h:SetOk s):s.length=4:=by
 obtain⟨a,b,c,d,rfl,_⟩:=h;rfl
theorem SetOk.word {s:List Int}(h:SetOk s){i:Nat}(hi:i<4):U64 (s.getD i 0):=by
 obtain⟨a,b,c,d,rfl,ha,hb,hc,hd⟩:=h
 match i,hi with
 | 0,_=>exact ha
 | 1,_=>exact hb
 | 2,_=>exact hc
 | 3,_=>exact hd
theorem SetOk.set {s:List Int}(h:SetOk s){i:Nat}(hi:i<4){x:Int}(hx:U64 x):SetOk (s.set i x):=by
 obtain⟨a,b,c,d,rfl,ha,hb,hc,hd⟩:=h
 match i,hi with
 | 0,_=>exact⟨x,b,c,d,rfl,hx,hb,hc,hd⟩
 | 1,_=>exact⟨a,x,c,d,rfl,ha,hx,hc,hd⟩
 | 2,_=>exact⟨a,b,x,d,rfl,ha,hb,hx,hd⟩
 | 3,_=>exact⟨a,b,c,x,rfl,ha,hb,hc,hx⟩
def zipS (f:Int->Int->Int)(s t:List Int):List Int:=List.zipWith f s t
theorem SetOk.zip {s t:List Int}(f:Int->Int->Int)(hf:∀ x y,U64 x->U64 y->U64 (f x y))(hs:SetOk s)(ht:SetOk t):SetOk (zipS f s t):=by
 obtain⟨a,b,c,d,rfl,ha,hb,hc,hd⟩:=hs;obtain⟨a',b',c',d',rfl,ha',hb',hc',hd'⟩:=ht;exact⟨_,_,_,_,rfl,hf _ _ ha ha',hf _ _ hb hb',hf _ _ hc hc',hf _ _ hd hd'⟩
theorem SetOk.map {s:List Int}(f:Int->Int)(hf:∀ x,U64 x->U64 (f x))(hs:SetOk s):SetOk (s.map f):=by
 obtain⟨a,b,c,d,rfl,ha,hb,hc,hd⟩:=hs;exact⟨_,_,_,_,rfl,hf _ ha,hf _ hb,hf _ hc,hf _ hd⟩
theorem zwz {s t:List Int}(f:Int->Int->Int)(hs:SetOk s)(ht:SetOk t){i:Nat}(hi:i<4):(zipS f s t).getD i 0=f (s.getD i 0) (t.getD i 0):=by
 obtain⟨a,b,c,d,rfl,ha,hb,hc,hd⟩:=hs;obtain⟨a',b',c',d',rfl,ha',hb',hc',hd'⟩:=ht
 match i,hi with
 | 0,_=>rfl
 | 1,_=>rfl
 | 2,_=>rfl
 | 3,_=>rfl
theorem z160 {s:List Int}(f:Int->Int)(hs:SetOk s){i:Nat}(hi:i<4):(s.map f).getD i 0=f (s.getD i 0):=by
 obtain⟨a,b,c,d,rfl,ha,hb,hc,hd⟩:=hs
 match i,hi with
 | 0,_=>rfl
 | 1,_=>rfl
 | 2,_=>rfl
 | 3,_=>rfl
def orS:=zipS (bitsOp .or .u64)
def z10i:=zipS (bitsOp .and .u64)
def zuk (s:List Int):List Int:=s.map (bitsOp .xor .u64 18446744073709551615)
theorem z125 {s t:List Int}(hs:SetOk s)(ht:SetOk t):SetOk (orS s t):=SetOk.zip _ (fun _ _=>z177) hs ht
theorem z1nk {s t:List Int}(hs:SetOk s)(ht:SetOk t):SetOk (z10i s t):=SetOk.zip _ (fun _ _=>z18v) hs ht
theorem zxz {s:List Int}(hs:SetOk s):SetOk (zuk s):=SetOk.map _ (fun _ h=>z18u zkh h) hs
theorem z17s {s t:List Int}(hs:SetOk s)(ht:SetOk t){b:Nat}(hb:b<256):hasS (orS s t) b=(hasS s b || hasS t b):=by
 have hi:b / 64<4:=by omega
 rw[hasS,orS,zwz _ hs ht hi,z181 (hs.word hi) (ht.word hi)];rfl
theorem zrp {s t:List Int}(hs:SetOk s)(ht:SetOk t){b:Nat}(hb:b<256):hasS (z10i s t) b=(hasS s b && hasS t b):=by
 have hi:b / 64<4:=by omega
 rw[hasS,z10i,zwz _ hs ht hi,z1cr (hs.word hi) (ht.word hi)];rfl
theorem zvp {s:List Int}(hs:SetOk s){b:Nat}(hb:b<256):hasS (zuk s) b=!hasS s b:=by
 have hi:b / 64<4:=by omega
 rw[hasS,zuk,z160 _ hs hi,z1cq (hs.word hi) (by omega)];rfl
def zz2 (s:List Int)(b:Nat):List Int:=s.set (b / 64) (bitsOp .or .u64 (s.getD (b / 64) 0) (shlI .u64 1 ((b % 64:Nat):Int)))
theorem zmv {s:List Int}(hs:SetOk s){b:Nat}(hb:b<256):SetOk (zz2 s b):=by
 have hi:b / 64<4:=by omega
 exact hs.set hi (z177 (hs.word hi) (by rw[shl1 (by omega)];exact zup (by omega)))
theorem z16a {s:List Int}(hs:SetOk s){b c:Nat}(hb:b<256)(hc:c<256):hasS (zz2 s b) c=(hasS s c || decide (b=c)):=by
 have hi:b / 64<4:=by omega
 have hl:=hs.length;unfold hasS zz2;by_cases h:b / 64=c / 64
 . rw[h];have e:(s.set (c / 64) (bitsOp .or .u64 (s.getD (c / 64) 0) (shlI .u64 1 ((b % 64:Nat):Int)))).getD (c / 64) 0=bitsOp .or .u64 (s.getD (c / 64) 0) (shlI .u64 1 ((b % 64:Nat):Int)):=by
    rw[List.getD_eq_getElem?_getD,List.getElem?_set_self (by omega)];rfl
   rw[e,z1co (hs.word (by omega)) (by omega)];congr 1;exact decide_eq_decide.2 (by omega)
 . have e:(s.set (b / 64) (bitsOp .or .u64 (s.getD (b / 64) 0) (shlI .u64 1 ((b % 64:Nat):Int)))).getD (c / 64) 0=s.getD (c / 64) 0:=by
    rw[List.getD_eq_getElem?_getD,List.getElem?_set_ne h,<- List.getD_eq_getElem?_getD]
   rw[e,decide_eq_false (by omega),Bool.or_false]
theorem z6b:SetOk [0,0,0,0]:=⟨0,0,0,0,rfl,by decide,by decide,by decide,by decide⟩
theorem zbx (b:Nat):hasS [0,0,0,0] b=false:=by
 have e:([0,0,0,0]:List Int).getD (b / 64) 0=0:=by
  rw[List.getD_eq_getElem?_getD]
  match b / 64 with
  | 0=>rfl
  | 1=>rfl
  | 2=>rfl
  | 3=>rfl
  | n+4=>rfl
 rw[hasS,e,bit];exact Nat.zero_testBit _
theorem zhu {x:Int}(h:(Lit.int .u64 x).wf=true):U64 x:=by
 simp only[Lit.wf,Bool.and_eq_true,decide_eq_true_eq] at h;have h0:(IntKind.min .u64:Int)=0:=rfl;have h1:(IntKind.max .u64:Int)=18446744073709551615:=rfl;unfold U64;omega
theorem z15a {s:List Int}(h:s.length=4/\∀ x∈s,Wf (.int .u64) x):SetOk s:=by
 obtain⟨hl,hx⟩:=h
 match s,hl with
 | [a,b,c,d],_ =>
   exact⟨a,b,c,d,rfl,zhu (hx a (by simp)),zhu (hx b (by simp)),zhu (hx c (by simp)),zhu (hx d (by simp))⟩
end
end Go.Proofs.YthgcpalmjcomlaaDoorPx
set_option linter.all false
namespace Go.Proofs.YthgcpalmjcomlaaDoorPx
noncomputable section
open Go Go.Lift
theorem zud {j a b c d:Nat}(ha:a<2^j)(hc:c<2^j):(a+2^j*b) &&& (c+2^j*d)=(a &&& c)+2^j*(b &&& d):=by
 have hp:0<2^j:=Nat.two_pow_pos j;have hac:a &&& c<2^j:=Nat.lt_of_le_of_lt Nat.and_le_left ha;have h1:((a+2^j*b) &&& (c+2^j*d)) % 2^j=a &&& c:=by
  rw[Nat.and_mod_two_pow,Nat.add_mul_mod_self_left,Nat.add_mul_mod_self_left,Nat.mod_eq_of_lt ha,Nat.mod_eq_of_lt hc]
 have h2:((a+2^j*b) &&& (c+2^j*d)) / 2^j=b &&& d:=by
  rw[Nat.and_div_two_pow,Nat.add_mul_div_left _ _ hp,Nat.add_mul_div_left _ _ hp,Nat.div_eq_of_lt ha,Nat.div_eq_of_lt hc,Nat.zero_add,Nat.zero_add]
 have h3:=Nat.mod_add_div ((a+2^j*b) &&& (c+2^j*d)) (2^j);rw[h1,h2] at h3;exact h3.symm
def zi1 (k:Nat):Nat->Nat
 | 0=>0
 | n+1=>(2^k - 1)+2^(2*k)*zi1 k n
def z74 (k:Nat):Nat->Nat->Nat
 | 0,_=>0
 | n+1,x=>(x % 2^k+x / 2^k % 2^k)+2^(2*k)*z74 k n (x / 2^(2*k))
def zvu (k:Nat):Nat->Nat->Nat
 | 0,_=>0
 | n+1,x=>x % 2^k+zvu k n (x / 2^k)
def dle (k m:Nat):Nat->Nat->Prop
 | 0,_=>True
 | n+1,x=>x % 2^k<=m/\dle k m n (x / 2^k)
theorem zc6 (k:Nat):2^(2*k)=2^k*2^k:=by rw[Nat.two_mul,Nat.pow_add]
theorem z1eq {k:Nat}(hk:0<k):2<=2^k:=by
 have:=Nat.pow_le_pow_right (n:=2) (by omega) hk;simpa using this
theorem z17m {k:Nat}:2^k - 1<2^(2*k):=by
 have h:2^k<=2^(2*k):=Nat.pow_le_pow_right (by omega) (by omega);have:=Nat.two_pow_pos k;omega
theorem z1ct (k x:Nat):(x % 2^(2*k)) &&& (2^k - 1)=x % 2^k:=by
 rw[Nat.and_two_pow_sub_one_eq_mod,zc6,Nat.mod_mul_left_mod]
theorem zys (k:Nat):∀ n x,x &&& zi1 k n=0+(match n with|0=>0|n+1=>x % 2^k+2^(2*k)*((x / 2^(2*k)) &&& zi1 k n))
 | 0,x=>by simp only[zi1,Nat.and_zero]
 | n+1,x=>by
   have h:=zud (j:=2*k) (a:=x % 2^(2*k)) (b:=x / 2^(2*k)) (c:=2^k - 1) (d:=zi1 k n) (Nat.mod_lt _ (Nat.two_pow_pos _)) z17m;rw[Nat.mod_add_div] at h;rw[zi1,h,z1ct,Nat.zero_add]
theorem zus (k:Nat):∀ n x,((x / 2^k) &&& zi1 k n)+(x &&& zi1 k n)=z74 k n x
 | 0,x=>by simp only[zi1,Nat.and_zero,z74]
 | n+1,x=>by
   have e:x / 2^k / 2^(2*k)=x / 2^(2*k) / 2^k:=by rw[Nat.div_div_eq_div_mul,Nat.div_div_eq_div_mul,Nat.mul_comm]
   have h:=zus k n (x / 2^(2*k));have h1:=zys k (n+1) (x / 2^k);have h2:=zys k (n+1) x;simp only[Nat.zero_add] at h1 h2;rw[h1,h2,z74,<- h,e,Nat.mul_add];omega
theorem zru (x k:Nat):x / 2^(2*k)=x / 2^k / 2^k:=by rw[zc6,Nat.div_div_eq_div_mul]
theorem zrr {k:Nat}(hk:0<k)(x y:Nat):x % 2^k+y % 2^k<2^(2*k):=by
 have h1:=Nat.mod_lt x (Nat.two_pow_pos k);have h2:=Nat.mod_lt y (Nat.two_pow_pos k);have h3:=z1eq hk;rw[zc6];have:2*2^k<=2^k*2^k:=Nat.mul_le_mul_right _ h3;omega
theorem zsi {k:Nat}(hk:0<k)(n x:Nat):z74 k (n+1) x % 2^(2*k)=x % 2^k+x / 2^k % 2^k:=by
 rw[z74,Nat.add_mul_mod_self_left,Nat.mod_eq_of_lt (zrr hk _ _)]
theorem zsj {k:Nat}(hk:0<k)(n x:Nat):z74 k (n+1) x / 2^(2*k)=z74 k n (x / 2^(2*k)):=by
 rw[z74,Nat.add_mul_div_left _ _ (Nat.two_pow_pos _),Nat.div_eq_of_lt (zrr hk _ _),Nat.zero_add]
theorem zk2 {k:Nat}(hk:0<k):∀ n x,zvu (2*k) n (z74 k n x)=zvu k (2*n) x
 | 0,x=>rfl
 | n+1,x=>by
   rw[zvu,zsi hk,zsj hk,zk2 hk n,Nat.mul_add,Nat.mul_one];simp only[zvu];rw[zru,Nat.add_assoc]
theorem zmr {k m:Nat}(hk:0<k):∀ n x,dle k m (2*n) x->dle (2*k) (m+m) n (z74 k n x)
 | 0,x,_=>trivial
 | n+1,x,h=>by
   rw[Nat.mul_add,Nat.mul_one] at h;simp only[dle] at h;rw[dle,zsi hk,zsj hk];refine⟨by omega,zmr hk n _ ?_⟩;rw[zru];exact h.2.2
theorem zx7 {k m:Nat}(hm:m+m<2^k):∀ n x,dle k m (2*n+1) x->((x / 2^k+x) &&& zi1 k n)=z74 k n x
 | 0,x,_=>by simp only[zi1,Nat.and_zero,z74]
 | n + 1,x,h=>by
   have e2:2*(n+1)+1=(2*n+1)+1+1:=by omega
   rw[e2] at h;simp only[dle] at h;obtain⟨h0,h1,h2⟩:=h;have ih:=zx7 hm n (x / 2^k / 2^k) h2;have h3:=h2.1;have d0:=Nat.mod_add_div x (2^k);have d1:=Nat.mod_add_div (x / 2^k) (2^k);have d2:=Nat.mod_add_div (x / 2^k / 2^k) (2^k);have hB:=Nat.two_pow_pos k;have e:x / 2^k+x=((x % 2^k+x / 2^k % 2^k)+2^k*(x / 2^k % 2^k+x / 2^k / 2^k % 2^k))+2^(2*k)*(x / 2^k / 2^k / 2^k+x / 2^k / 2^k):=by
    rw[zc6];generalize 2^k=B at *;generalize x / B / B / B=r2 at *;generalize x / B / B % B=c at *;generalize x / B / B=r1 at *;generalize x / B % B=b at *;generalize x / B=r0 at *;generalize x % B=a at *;subst d0;subst d2;subst d1;simp only[Nat.mul_add,Nat.mul_assoc];omega
   have hlt:(x % 2^k+x / 2^k % 2^k)+2^k*(x / 2^k % 2^k+x / 2^k / 2^k % 2^k)<2^(2*k):=by
    have g1:x % 2^k+x / 2^k % 2^k<2^k:=by omega
    have g2:x / 2^k % 2^k+x / 2^k / 2^k % 2^k+1<=2^k:=by omega
    have g3:=Nat.mul_le_mul_left (2^k) g2;rw[Nat.mul_add,Nat.mul_one] at g3;rw[zc6];omega
   have hs:=zud (j:=2*k) (b:=x / 2^k / 2^k / 2^k+x / 2^k / 2^k) (d:=zi1 k n) hlt (z17m (k:=k));rw[e,zi1,hs,Nat.and_two_pow_sub_one_eq_mod,Nat.add_mul_mod_self_left,Nat.mod_eq_of_lt (by omega),ih,z74,zru]
theorem zhj {k:Nat}(hk:0<k):∀ n x,z74 k n x<2^(2*k*n)
 | 0,x=>by simp only[z74,Nat.mul_zero,Nat.pow_zero];omega
 | n+1,x=>by
   have h:=zrr hk x (x / 2^k);have ih:=zhj hk n (x / 2^(2*k));rw[z74,Nat.mul_add,Nat.mul_one,Nat.pow_add,Nat.mul_comm (2^(2*k*n))];have g:=Nat.mul_le_mul_left (2^(2*k)) (show z74 k n (x / 2^(2*k))+1<=2^(2*k*n) from ih);rw[Nat.mul_add,Nat.mul_one] at g;omega
theorem zym {k m:Nat}:∀ n x,dle k m n x->x<2^(k*n)->dle k m (n+1) x
 | 0,x,_,h=>by
   simp only[Nat.mul_zero,Nat.pow_zero] at h;have:x=0:=by omega
   subst this;simp only[dle,Nat.zero_mod];exact⟨Nat.zero_le _,trivial⟩
 | n+1,x,hd,h=>by
   refine⟨hd.1,zym n _ hd.2 ?_⟩;rw[Nat.mul_add,Nat.mul_one,Nat.pow_add,Nat.mul_comm] at h;exact Nat.div_lt_of_lt_mul h
def pop:Nat->Nat->Nat
 | 0,_=>0
 | n+1,x=>x % 2+pop n (x / 2)
theorem zyl:∀ n x,zvu 1 n x=pop n x
 | 0,_=>rfl
 | n+1,x=>by
   rw[zvu,pop,zyl n]
theorem z13q:∀ n x,dle 1 1 n x
 | 0,_=>trivial
 | n+1,x=>⟨by omega,z13q n _⟩
def fld (x i:Nat):Nat:=x / 256^i % 256
theorem zhq (x i:Nat):fld x (i+1)=fld (x / 256) i:=by
 unfold fld;rw[Nat.pow_succ,Nat.mul_comm,Nat.div_div_eq_div_mul]
theorem zhp (x:Nat):fld x 0=x % 256:=by
 unfold fld;rw[Nat.pow_zero,Nat.div_one]
theorem hop {m:Nat}(j:Nat)(hm:m+m<256):∀ i x,(∀ i,fld x i<=m)->fld (x+x / 256^j) i=fld x i+fld x (i+j)
 | 0,x,h=>by
   have h0:=h 0;have hj:=h j;have e0:fld x 0=x % 256:=zhp x;have ej:fld x j=x / 256^j % 256:=rfl;rw[Nat.zero_add,zhp (x+x / 256^j),Nat.add_mod,<- e0,<- ej];exact Nat.mod_eq_of_lt (by omega)
 | i + 1,x,h=>by
   have h0:=h 0;have hj:=h j;have e0:fld x 0=x % 256:=zhp x;have ej:fld x j=x / 256^j % 256:=rfl;have ed:x / 256^j / 256=x / 256 / 256^j:=by rw[Nat.div_div_eq_div_mul,Nat.div_div_eq_div_mul,Nat.mul_comm]
   have e:(x+x / 256^j) / 256=x / 256+x / 256 / 256^j:=by
    rw[<- ed];rw[e0] at h0;rw[ej] at hj;generalize x / 256^j=r at *;omega
   have e1:i+1+j=(i+j)+1:=by omega
   rw[zhq,e,hop j hm i (x / 256) (fun i=>by rw[<- zhq];exact h _),e1,zhq x i,zhq x (i+j)]
theorem z13b {m:Nat}:∀ n x,dle 8 m n x->x<2^(8*n)->∀ i,fld x i<=m
 | 0,x,_,hx,i=>by
   simp only[Nat.mul_zero,Nat.pow_zero] at hx;have:x=0:=by omega
   subst this;unfold fld;rw[Nat.zero_div];exact Nat.zero_le _
 | n+1,x,h,hx,0=>by
   rw[zhp];exact h.1
 | n+1,x,h,hx,i+1=>by
   rw[zhq];refine z13b n _ h.2 ?_ i;rw[Nat.mul_add,Nat.mul_one,Nat.pow_add,Nat.mul_comm] at hx;exact Nat.div_lt_of_lt_mul hx
theorem z16i:∀ n x,zvu 8 (n+1) x=fld x 0+zvu 8 n (x / 256)
 | _,x=>by rw[zvu,zhp]
theorem fold8 {x:Nat}(h:dle 8 8 8 x)(hx:x<18446744073709551616) :
 ((x+x / 256)+(x+x / 256) / 65536+((x+x / 256)+(x+x / 256) / 65536) / 4294967296) % 128=zvu 8 8 x:=by
 have hf:=z13b 8 x h (by simp only[Nat.reduceMul,Nat.reducePow];exact hx);have p1:(256:Nat)=256^1:=rfl;have p2:(65536:Nat)=256^2:=rfl;have p4:(4294967296:Nat)=256^4:=rfl;have s1:∀ i,fld (x+x / 256) i=fld x i+fld x (i+1):=fun i=>by
  have:=hop 1 (m:=8) (by omega) i x hf
  rwa [<- p1] at this
 have l1:∀ i,fld (x+x / 256) i<=16:=fun i=>by
  have:=hf i;have:=hf (i+1);rw[s1];omega
 generalize x+x / 256=y at *;have s2:∀ i,fld (y+y / 65536) i=fld y i+fld y (i+2):=fun i=>by
  have:=hop 2 (m:=16) (by omega) i y l1
  rwa [<- p2] at this
 have l2:∀ i,fld (y+y / 65536) i<=32:=fun i=>by
  have:=l1 i;have:=l1 (i+2);rw[s2];omega
 generalize y+y / 65536=z at *;have s3:fld (z+z / 4294967296) 0=fld z 0+fld z (0+4):=by
  have:=hop 4 (m:=32) (by omega) 0 z l2
  rwa [<- p4] at this
 have e:(z+z / 4294967296) % 128=fld (z+z / 4294967296) 0 % 128:=by
  rw[zhp,Nat.mod_mod_of_dvd];exact⟨2,rfl⟩
 have h0:=l2 0;have h4:=l2 4;rw[e,s3,Nat.zero_add,Nat.mod_eq_of_lt (by omega),s2,s2,s1,s1,s1,s1];simp only[z16i];simp only[<- zhq];simp only[zvu,Nat.zero_add,Nat.reduceAdd];omega
theorem z16e {x:Nat}(hx:x<1085102592571150096) :
 x+x / 256<18446744073709551616/\(x+x / 256)+(x+x / 256) / 65536<18446744073709551616
 /\ (x+x / 256)+(x+x / 256) / 65536+((x+x / 256)+(x+x / 256) / 65536) / 4294967296<9223372036854775808:=by
 have h1:x+x / 256<1200000000000000000:=by omega
 generalize x+x / 256=y at *;have h2:y+y / 65536<1300000000000000000:=by omega
 generalize y+y / 65536=z at *;refine⟨by omega,by omega,by omega⟩
end
end Go.Proofs.YthgcpalmjcomlaaDoorPx
set_option linter.all false
namespace Go.Proofs.YthgcpalmjcomlaaDoorPx
noncomputable section
open Go Go.Lift
theorem z13r {k m:Nat}:∀ n x,dle k m (n+1) x->x<2^(k*(n+1))->x<(m+1)*2^(k*n)
 | 0,x,h,hx=>by
   have h0:=h.1;rw[Nat.zero_add,Nat.mul_one] at hx;rw[Nat.mod_eq_of_lt hx] at h0;rw[Nat.mul_zero,Nat.pow_zero,Nat.mul_one];omega
 | n+1,x,h,hx=>by
   rw[Nat.mul_add,Nat.mul_one,Nat.pow_add,Nat.mul_comm (2^(k*(n+1)))] at hx;have ih:=z13r n (x / 2^k) h.2 (Nat.div_lt_of_lt_mul hx);have e:=(Nat.div_lt_iff_lt_mul (Nat.two_pow_pos k)).1 ih;rw[Nat.mul_add,Nat.mul_one,Nat.pow_add,<- Nat.mul_assoc];exact e
def s1I (x:Int):Int:=IntKind.wrap .u64 (bitsOp .and .u64 (z23 .u64 x 1) 6148914691236517205+bitsOp .and .u64 x 6148914691236517205)
def s2I (x:Int):Int:=IntKind.wrap .u64 (bitsOp .and .u64 (z23 .u64 x 2) 3689348814741910323+bitsOp .and .u64 x 3689348814741910323)
def s3I (x:Int):Int:=bitsOp .and .u64 (IntKind.wrap .u64 (z23 .u64 x 4+x)) 1085102592571150095
def s4I (k x:Int):Int:=IntKind.wrap .u64 (x+z23 .u64 x k)
def zv7 (x:Int):Int:=bitsOp .and .i64 (IntKind.wrap .i64 (s4I 32 (s4I 16 (s4I 8 (s3I (s2I (s1I x))))))) 127
theorem zkg {n:Nat}(h:n<18446744073709551616):U64 (n:Int):=by unfold U64;omega
theorem zqz {n k:Nat}(hk:k<64):z23 .u64 (n:Int) (k:Int)=((n / 2^k:Nat):Int):=by
 rw[zuv (by omega) hk,Int.toNat_natCast,Nat.shiftRight_eq_div_pow]
theorem zou {n m:Nat}(hn:n<18446744073709551616)(hm:m<18446744073709551616):bitsOp .and .u64 (n:Int) (m:Int)=((n &&& m:Nat):Int):=by
 rw[zs5 (zkg hn) (zkg hm),Int.toNat_natCast,Int.toNat_natCast]
theorem z1cu {n:Nat}(hn:n<9223372036854775808):bitsOp .and .i64 (n:Int) 127=((n % 128:Nat):Int):=by
 have e:bitsOp .and .i64 (n:Int) 127=IntKind.wrap .i64 ((BitVec.ofInt 64 (n:Int) &&& BitVec.ofInt 64 127).toNat:Int):=rfl;have e1:(BitVec.ofInt 64 (n:Int)).toNat=n:=by rw[BitVec.toNat_ofInt];omega
 have e2:(BitVec.ofInt 64 (127:Int)).toNat=127:=rfl;have e3:n &&& 127=n % 128:=Nat.and_two_pow_sub_one_eq_mod n 7;rw[e,BitVec.toNat_and,e1,e2,e3,z5u (by unfold I64;omega)]
theorem m1:(6148914691236517205:Nat)=zi1 1 32:=by decide
theorem m2:(3689348814741910323:Nat)=zi1 2 16:=by decide
theorem m3:(1085102592571150095:Nat)=zi1 4 8:=by decide
theorem z1el {n:Nat}(h:n<18446744073709551616):s1I (n:Int)=((z74 1 32 n:Nat):Int):=by
 have hs:z74 1 32 n<18446744073709551616:=zhj (by omega) 32 n;have hd:n / 2^1<18446744073709551616:=Nat.lt_of_le_of_lt (Nat.div_le_self _ _) h;have e:=zus 1 32 n;have a1:z23 .u64 (n:Int) 1=((n / 2^1:Nat):Int):=zqz (k:=1) (by omega);have a2:=zou hd (m:=6148914691236517205) (by omega);have a3:=zou h (m:=6148914691236517205) (by omega);rw[m1] at a2 a3;unfold s1I;rw[a1];show IntKind.wrap .u64 (bitsOp .and .u64 _ ((6148914691236517205:Nat):Int)+bitsOp .and .u64 _ ((6148914691236517205:Nat):Int))=_;rw[m1,a2,a3,<- e,z72]
 . rw[Int.natCast_add]
 . rw[<- Int.natCast_add,e];exact zkg hs
theorem z1ek {n:Nat}(h:n<18446744073709551616):s2I (n:Int)=((z74 2 16 n:Nat):Int):=by
 have hs:z74 2 16 n<18446744073709551616:=zhj (by omega) 16 n;have hd:n / 2^2<18446744073709551616:=Nat.lt_of_le_of_lt (Nat.div_le_self _ _) h;have e:=zus 2 16 n;have a1:z23 .u64 (n:Int) 2=((n / 2^2:Nat):Int):=zqz (k:=2) (by omega);have a2:=zou hd (m:=3689348814741910323) (by omega);have a3:=zou h (m:=3689348814741910323) (by omega);rw[m2] at a2 a3;unfold s2I;rw[a1];show IntKind.wrap .u64 (bitsOp .and .u64 _ ((3689348814741910323:Nat):Int)+bitsOp .and .u64 _ ((3689348814741910323:Nat):Int))=_;rw[m2,a2,a3,<- e,z72]
 . rw[Int.natCast_add]
 . rw[<- Int.natCast_add,e];exact zkg hs
theorem z1ej {n:Nat}(h:n<18446744073709551616)(hd:dle 4 4 16 n):s3I (n:Int)=((z74 4 8 n:Nat):Int):=by
 have hb:n<(4+1)*2^(4*15):=z13r 15 n hd h;simp only[Nat.reduceAdd,Nat.reduceMul,Nat.reducePow] at hb;have e:=zx7 (k:=4) (m:=4) (by decide) 8 n (zym 16 n hd h);have a1:z23 .u64 (n:Int) 4=((n / 2^4:Nat):Int):=zqz (k:=4) (by omega);have hd2:n / 2^4+n<18446744073709551616:=by
  have:=Nat.div_le_self n (2^4);omega
 have a2:=zou hd2 (m:=1085102592571150095) (by omega);rw[m3,e] at a2;unfold s3I;rw[a1,<- Int.natCast_add,z72 (zkg hd2)];show bitsOp .and .u64 _ ((1085102592571150095:Nat):Int)=_;rw[m3,a2]
theorem z11f {n k:Nat}(hk:k<64)(h:n+n / 2^k<18446744073709551616):s4I (k:Int) (n:Int)=((n+n / 2^k:Nat):Int):=by
 unfold s4I;rw[zqz hk,<- Int.natCast_add,z72 (zkg h)]
theorem z15r {n:Nat}(h:n<18446744073709551616):zv7 (n:Int)=((pop 64 n:Nat):Int):=by
 have h1:z74 1 32 n<18446744073709551616:=zhj (by omega) 32 n;have d1:dle 2 2 32 (z74 1 32 n):=zmr (by omega) 32 n (z13q 64 n);have u1:zvu 2 32 (z74 1 32 n)=pop 64 n:=by rw[<- zyl];exact zk2 (by omega) 32 n
 unfold zv7;rw[z1el h];generalize z74 1 32 n=x at *;have h2:z74 2 16 x<18446744073709551616:=zhj (by omega) 16 x;have d2:dle 4 4 16 (z74 2 16 x):=zmr (by omega) 16 x d1;have u2:zvu 4 16 (z74 2 16 x)=pop 64 n:=by rw[<- u1];exact zk2 (by omega) 16 x
 rw[z1ek h1];generalize z74 2 16 x=y at *;have h3:z74 4 8 y<18446744073709551616:=zhj (by omega) 8 y;have d3:dle 8 8 8 (z74 4 8 y):=zmr (by omega) 8 y d2;have u3:zvu 8 8 (z74 4 8 y)=pop 64 n:=by rw[<- u2];exact zk2 (by omega) 8 y
 rw[z1ej h2 d2];generalize z74 4 8 y=z at *;have hb:z<(8+1)*2^(8*7):=z13r 7 z d3 h3;simp only[Nat.reduceAdd,Nat.reduceMul,Nat.reducePow] at hb;obtain⟨l1,l2,l3⟩:=z16e (x:=z) (by omega);have f:=fold8 d3 h3;have q1:s4I 8 (z:Int)=((z+z / 256:Nat):Int):=z11f (k:=8) (by omega) l1;rw[q1];generalize z+z / 256=a at *;have q2:s4I 16 (a:Int)=((a+a / 65536:Nat):Int):=z11f (k:=16) (by omega) l2;rw[q2];generalize a+a / 65536=b at *;have q3:s4I 32 (b:Int)=((b+b / 4294967296:Nat):Int):=z11f (k:=32) (by omega) (by omega);rw[q3,z5u (by unfold I64;omega),z1cu l3,f,u3]
theorem zrc {x:Int}(h:U64 x):zv7 x=((pop 64 x.toNat:Nat):Int):=by
 obtain⟨n,rfl⟩:=Int.eq_ofNat_of_zero_le h.1;have:=h.2;rw[Int.toNat_natCast,z15r (by omega)]
def cnt (f:Nat->Bool):Nat->Nat
 | 0=>0
 | n+1=>cnt f n+(f n).toNat
theorem z13z (f:Nat->Bool):∀ n,cnt f n<=n
 | 0=>Nat.le_refl _
 | n+1=>by
   have:=z13z f n;have:(f n).toNat<=1:=by cases f n<;>decide
   simp only[cnt];omega
theorem zoc {f g:Nat->Bool}:∀ n,(∀ i,i<n->f i=g i)->cnt f n=cnt g n
 | 0,_=>rfl
 | n+1,h=>by rw[cnt,cnt,zoc n (fun i hi=>h i (by omega)),h n (by omega)]
theorem zle (f:Nat->Bool)(m:Nat):∀ n,cnt f (m+n)=cnt f m+cnt (fun i=>f (m+i)) n
 | 0=>rfl
 | n+1=>by rw[<- Nat.add_assoc,cnt,cnt,zle f m n,Nat.add_assoc]
theorem znh:∀ n x,pop n x=cnt (fun i=>x.testBit i) n
 | 0,_=>rfl
 | n+1,x=>by
   have h:cnt (fun i=>x.testBit i) (1+n)=cnt (fun i=>x.testBit i) 1+cnt (fun i=>x.testBit (1+i)) n:=zle _ 1 n;have e:cnt (fun i=>x.testBit (1+i)) n=cnt (fun i=>(x / 2).testBit i) n:=zoc n (fun i _=>by rw[Nat.add_comm,Nat.testBit_succ]);rw[Nat.add_comm n 1,h,e,<- znh n,Nat.add_comm 1 n,pop];congr 1;simp only[cnt,Nat.testBit_zero,Nat.zero_add];have:=Nat.mod_lt x (show 0<2 by omega);obtain h|h:x % 2=0\/x % 2=1:=by omega
   . rw[h];rfl
   . rw[h];rfl
theorem zu2 {f g h:Nat->Bool}:∀ n,(∀ i,i<n->g i=(f i && h i))->∀ {g':Nat->Bool},(∀ i,i<n->g' i=(f i && !h i))->cnt g n+cnt g' n=cnt f n
 | 0,_,_,_=>rfl
 | n+1,h1,g',h2=>by
   have ih:=zu2 n (fun i hi=>h1 i (by omega)) (fun i hi=>h2 i (by omega));rw[cnt,cnt,cnt,<- ih,h1 n (by omega),h2 n (by omega)];cases f n<;>cases h n<;>simp only[Bool.and_true,Bool.and_false,Bool.not_true,Bool.not_false,Bool.toNat_true,Bool.toNat_false]<;>omega
def zib (s:List Int):Nat:=cnt (hasS s) 256
theorem zw0 {s:List Int}{a b c d:Int}(e:s=[a,b,c,d]):zib s=pop 64 a.toNat+pop 64 b.toNat+pop 64 c.toNat+pop 64 d.toNat:=by
 subst e;have h1:cnt (hasS [a,b,c,d]) (64+(64+(64+64)))=_:=zle _ 64 _;rw[zle _ 64 (64+64),zle _ 64 64] at h1;unfold zib;rw[show (256:Nat)=64+(64+(64+64)) from rfl,h1,znh,znh,znh,znh,Nat.add_assoc,Nat.add_assoc];have k (w:Nat) (hw:w<4):cnt (fun i=>hasS [a,b,c,d] (64*w+i)) 64=cnt (fun i=>([a,b,c,d].getD w 0).toNat.testBit i) 64:=zoc 64 (fun i hi=>by
  unfold hasS bit;rw[show (64*w+i) / 64=w by omega,show (64*w+i) % 64=i by omega])
 have k0:=k 0 (by omega);have k1:=k 1 (by omega);have k2:=k 2 (by omega);have k3:=k 3 (by omega);simp only[Nat.mul_zero,Nat.zero_add,Nat.mul_one,Nat.reduceMul] at k0 k1 k2 k3;have e2:(fun i=>hasS [a,b,c,d] (64+(64+i)))=fun i=>hasS [a,b,c,d] (128+i):=by funext i;rw[<- Nat.add_assoc]
 have e3:(fun i=>hasS [a,b,c,d] (64+(64+(64+i))))=fun i=>hasS [a,b,c,d] (192+i):=by funext i;rw[<- Nat.add_assoc,<- Nat.add_assoc]
 have e0:cnt (hasS [a,b,c,d]) 64=cnt (fun i=>hasS [a,b,c,d] i) 64:=rfl;rw[e0,k0,k1,e2,k2,e3,k3];rfl
theorem z10a {s t:List Int}(hs:SetOk s)(ht:SetOk t):zib (z10i s t)+zib (z10i s (zuk t))=zib s :=
 zu2 (h:=hasS t) 256 (fun i hi=>zrp hs ht hi) (fun i hi=>by rw[zrp hs (zxz ht) hi,zvp ht hi])
theorem zvz (s:List Int):zib s<=256:=z13z _ _
theorem zmd {x y:Int}(hx:U64 x)(hy:U64 y)(h:∀ i,i<64->bit x i=bit y i):x=y:=by
 have e:x.toNat=y.toNat:=Nat.eq_of_testBit_eq (fun i=>by
  by_cases hi:i<64
  . exact h i hi
  . have e64:(18446744073709551616:Nat)<=2^i:=Nat.le_trans (by decide) (Nat.pow_le_pow_right (n:=2) (by omega) (show 64<=i by omega));rw[Nat.testBit_lt_two_pow (Nat.lt_of_lt_of_le (by have:=hx.2;omega) e64),Nat.testBit_lt_two_pow (Nat.lt_of_lt_of_le (by have:=hy.2;omega) e64)])
 have:=hx.1;have:=hy.1;omega
theorem zey {s t:List Int}(hs:SetOk s)(ht:SetOk t)(h:∀ b,b<256->hasS s b=hasS t b):s=t:=by
 obtain⟨a,b,c,d,rfl,ha,hb,hc,hd⟩:=hs;obtain⟨e,f,g,k,rfl,he,hf,hg,hk⟩:=ht;have q (w:Nat) (hw:w<4):∀ i,i<64->bit ([a,b,c,d].getD w 0) i=bit ([e,f,g,k].getD w 0) i:=fun i hi=>by
  have:=h (64*w+i) (by omega);unfold hasS at this
  rwa [show (64*w+i) / 64=w by omega,show (64*w+i) % 64=i by omega] at this
 rw[zmd ha he (q 0 (by omega)),zmd hb hf (q 1 (by omega)),zmd hc hg (q 2 (by omega)),zmd hd hk (q 3 (by omega))]
end
end Go.Proofs.YthgcpalmjcomlaaDoorPx
set_option linter.all false
namespace Go.Proofs.YthgcpalmjcomlaaDoorPx
noncomputable section
open Go Go.Lift
def zm4 (s:List Int):Nat->Nat->List Nat
 | 0,_=>[]
 | n+1,b=>if hasS s b=true then b::zm4 s n (b+1) else zm4 s n (b+1)
theorem zhh (s:List Int):∀ n b c,c∈zm4 s n b ↔ b<=c/\c<b+n/\hasS s c=true
 | 0,b,c=>by simp only[zm4,List.not_mem_nil,false_iff];omega
 | n + 1,b,c=>by
   have ih:=zhh s n (b+1) c;rw[zm4];split
   . rename_i h;rw[List.mem_cons,ih];constructor
     . rintro (rfl|h1)
       . exact⟨Nat.le_refl _,by omega,h⟩
       . exact⟨by omega,by omega,h1.2.2⟩
     . rintro⟨h1,h2,h3⟩;by_cases e:c=b
       . exact .inl e
       . exact .inr ⟨by omega,by omega,h3⟩
   . rename_i h;rw[ih];constructor
     . rintro⟨h1,h2,h3⟩;exact⟨by omega,by omega,h3⟩
     . rintro⟨h1,h2,h3⟩;have:c≠b:=fun e=>h (e ▸ h3)
       exact⟨by omega,by omega,h3⟩
theorem zjc (s:List Int):∀ n b,(zm4 s n b).length=cnt (fun i=>hasS s (b+i)) n
 | 0,_=>rfl
 | n + 1,b=>by
   have e:cnt (fun i=>hasS s (b+i)) (1+n)=cnt (fun i=>hasS s (b+i)) 1+cnt (fun i=>hasS s (b+(1+i))) n:=zle _ 1 n;have e2:cnt (fun i=>hasS s (b+(1+i))) n=cnt (fun i=>hasS s (b+1+i)) n:=by simp only[Nat.add_assoc]
   rw[Nat.add_comm n 1,e,e2,<- zjc s n (b+1),Nat.add_comm 1 n,zm4];simp only[cnt,Nat.add_zero,Nat.zero_add];cases h:hasS s b
   . rw[if_neg (by decide)];show _=0+_;omega
   . rw[if_pos rfl,List.length_cons];show _=1+_;omega
def z1d8 (l:List UInt8)(s:List Int):List Int:=l.foldl (fun s u=>zz2 s u.toNat) s
theorem z17h:∀ (l:List UInt8) {s:List Int},SetOk s->SetOk (z1d8 l s)
 | [],_,h=>h
 | u::l,_,h=>z17h l (zmv h (z18t u))
def zat (s:List Int):Nat->Nat->Int
 | 0,_=>-1
 | n+1,b=>if hasS s b=true then (b:Int) else zat s n (b+1)
theorem zmm {s:List Int}{c:Nat}(hc:hasS s c=true):∀ n b,b<=c->c<b+n->(∀ i,b<=i->i<c->hasS s i=false)->zat s n b=(c:Int)
 | 0,b,h1,h2,_=>by omega
 | n + 1,b,h1,h2,h=>by
   rw[zat];by_cases e:b=c
   . subst e;rw[if_pos hc]
   . have hb:=h b (Nat.le_refl _) (by omega);rw[if_neg (by rw[hb];decide)];exact zmm hc n (b+1) (by omega) (by omega) (fun i h3 h4=>h i (by omega) h4)
theorem zq7 {s:List Int}(h:∀ i,hasS s i=false):∀ n b,zat s n b=-1
 | 0,_=>rfl
 | n+1,b=>by
   rw[zat,if_neg (by rw[h b];decide),zq7 h n (b+1)]
theorem z161:∀ x:Nat,x≠0->∃ t q,x=2^t*(2*q+1):=by
 intro x
 induction x using Nat.strongRecOn with
 | _ x ih =>
   intro h;by_cases e:x % 2=1
   . exact⟨0,x / 2,by rw[Nat.pow_zero];omega⟩
   . obtain⟨t,q,h1⟩:=ih (x / 2) (by omega) (by omega);refine⟨t+1,q,?_⟩;rw[Nat.pow_succ,Nat.mul_comm (2^t) 2,Nat.mul_assoc,<- h1];omega
theorem z12o (t q i:Nat):(2^t*(2*q+1)).testBit i=if i<t then false else if i=t then true else q.testBit (i - t - 1):=by
 have e:2^t*(2*q+1)=2^t*(2*q+1)+0:=rfl;rw[e,Nat.testBit_two_pow_mul_add _ (Nat.two_pow_pos t)];split
 . exact Nat.zero_testBit i
 . rename_i h;split
   . rename_i h2;subst h2;rw[Nat.sub_self,Nat.testBit_zero];exact decide_eq_true (by omega)
   . rename_i h2;obtain⟨j,hj⟩:∃ j,i - t=j+1:=⟨i - t - 1,by omega⟩
     rw[hj,Nat.testBit_succ];congr 1;omega
theorem z19v {t q:Nat}(h:2^t*(2*q+1)<2^64):(2^t*(2*q+1)) &&& (2^64 - 2^t*(2*q+1))=2^t:=by
 have hp:=Nat.two_pow_pos t;have ht:t<64:=by
  have:2^t*1<=2^t*(2*q+1):=Nat.mul_le_mul_left _ (by omega);exact (Nat.pow_lt_pow_iff_right (a:=2) (by omega)).1 (by omega)
 have e:2^t*(2*q+1)=(2^t*(2*q)+(2^t - 1))+1:=by
  rw[Nat.mul_add,Nat.mul_one];omega
 have hlt:2^t*(2*q)+(2^t - 1)<2^64:=by omega
 apply Nat.eq_of_testBit_eq;intro i;have hb:=z12o t q i;rw[Nat.testBit_and,Nat.testBit_two_pow];have hs:(2^64 - 2^t*(2*q+1)).testBit i=(decide (i<64) && !(2^t*(2*q)+(2^t - 1)).testBit i):=by
  rw[e,Nat.testBit_two_pow_sub_succ hlt]
 rw[hs,hb,Nat.testBit_two_pow_mul_add _ (by omega)];by_cases h1:i<t
 . rw[if_pos h1,if_pos h1,Bool.false_and];exact (decide_eq_false (by omega)).symm
 . rw[if_neg h1,if_neg h1];by_cases h2:i=t
   . subst h2;rw[if_pos rfl,Nat.sub_self,Nat.testBit_zero,decide_eq_true ht,decide_eq_false (by omega)];exact (decide_eq_true rfl).symm
   . obtain⟨j,hj⟩:∃ j,i - t=j+1:=⟨i - t - 1,by omega⟩
     have ej:i - t - 1=j:=by omega
     have eq2:2*q / 2=q:=by omega
     rw[if_neg h2,hj,Nat.testBit_succ,eq2,Nat.add_sub_cancel,decide_eq_false (p:=t=i) (by omega)];cases q.testBit j<;>cases decide (i<64)<;>rfl
end
end Go.Proofs.YthgcpalmjcomlaaDoorPx
set_option linter.all false
set_option maxRecDepth 100000
namespace Go.Proofs.YthgcpalmjcomlaaDoorLg
noncomputable section
open Go Go.Lift Go.Proofs.YthgcpalmjcomlaaDoorPx
theorem or4 (N:Nat)(a b c d e f g h:Int):zac (N+5) [a,b,c,d] [e,f,g,h]=some (orS [a,b,c,d] [e,f,g,h]):=by kernel_rfl
theorem not4 (N:Nat)(a b c d:Int):z7j (N+5) [a,b,c,d]=some (zuk [a,b,c,d]):=by kernel_rfl
theorem or_eq (N:Nat){s t:List Int}(hs:SetOk s)(ht:SetOk t):zac (N+5) s t=some (orS s t):=by
 obtain⟨a,b,c,d,rfl,_⟩:=hs;obtain⟨e,f,g,h,rfl,_⟩:=ht;exact or4 ..
theorem z1hc (N:Nat){s:List Int}(hs:SetOk s):z7j (N+5) s=some (zuk s):=by
 obtain⟨a,b,c,d,rfl,_⟩:=hs;exact not4 ..
theorem z1n6 {b:Nat}(hb:b<256):Go.IntKind.wrap .u8 (Int.tdiv (b:Int) (64:Int))=((b / 64:Nat):Int):=by
 rw[Int.tdiv_eq_ediv_of_nonneg (by omega),zkd (by omega) (by omega)];omega
theorem z1hf (b:Nat):Int.tmod (b:Int) (64:Int)=((b % 64:Nat):Int):=by
 rw[Int.tmod_eq_emod_of_nonneg (by omega)];omega
theorem z1hy (N:Nat){s:List Int}(hs:SetOk s){b:Nat}(hb:b<256):zd5 N s (b:Int)=some (hasS s b):=by
 have hi:b / 64<4:=by omega
 rw[zd5,z1n6 hb,z1hf,Int.toNat_natCast,z2a (zb8 hi),z2a (decide_eq_true (by rw[hs.length];exact hi)),z2a (decide_eq_true (by omega)),
  z1bs (hs.word hi) (by omega)]
 rfl
theorem z10v (N:Nat){s:List Int}(hs:SetOk s){b:Nat}(hb:b<256):z9k N s (b:Int)=some (zz2 s b):=by
 have hi:b / 64<4:=by omega
 rw[z9k,z1n6 hb,z1hf,Int.toNat_natCast,z2a (zb8 hi),z2a (decide_eq_true (by rw[hs.length];exact hi)),z2a (decide_eq_true (by omega)),
  z2a (zb8 hi),z2a (decide_eq_true (by rw[hs.length];exact hi))]
 rfl
def ofS:Nat->Nat->List Int->List Int
 | 0,_,s=>s
 | n+1,b,s=>ofS n (b+1) (zz2 s b)
theorem zv9:∀ (n b:Nat) {s:List Int},SetOk s->b+n<=256->SetOk (ofS n b s)
 | 0,_,_,hs,_=>hs
 | n+1,b,_,hs,h=>zv9 n (b+1) (zmv hs (by omega)) (by omega)
theorem zya:∀ (n b:Nat) {s:List Int},SetOk s->b+n<=256->∀ {c:Nat},c<256->hasS (ofS n b s) c=(hasS s c || decide (b<=c/\c<b+n))
 | 0,b,s,hs,_,c,_=>by
   have:decide (b<=c/\c<b+0)=false:=decide_eq_false (by omega);rw[this,Bool.or_false];rfl
 | n+1,b,s,hs,h,c,hc=>by
   rw[ofS,zya n (b+1) (zmv hs (by omega)) (by omega) hc,z16a hs (by omega) hc,Bool.or_assoc];congr 1;rw[<- Bool.decide_or];exact decide_eq_decide.2 (by omega)
theorem z129 (N:Nat) {lo hi:Nat} (hl:lo<256) (hh:hi<256) (hN:257<N) :
 z1z N (lo:Int) (hi:Int)=some (ofS (hi+1 - lo) lo [0,0,0,0]):=by
 have wl:Go.IntKind.wrap .i64 (lo:Int)=(lo:Int):=z5u (by unfold I64;omega);have wh:Go.IntKind.wrap .i64 (hi:Int)=(hi:Int):=z5u (by unfold I64;omega);rw[z1z,zk7,wl]
 let R:List Int×Int->Option (List Int):=fun v=>some (ofS (hi+1 - v.2.toNat) v.2.toNat v.1)
 have h:=zff (step:=fun (v:((List Int)×Int)) r=>zby N (hi:Int) [(0:Int),(0:Int),(0:Int),(0:Int)] v.1 v.2 (fun s b=>(r (s,b))) (fun s=>some s))
  (I:=fun v=>SetOk v.1/\0<=v.2/\v.2<=256) (m:=fun v=>256 - v.2.toNat) (R:=R)
  (by
   rintro⟨s,b⟩ r ⟨hs,h0,h1⟩ hr;obtain⟨b,rfl⟩:=Int.eq_ofNat_of_zero_le h0;simp only at hs h0 h1 ⊢;rw[zby,wh];by_cases hb:b<=hi
   . have wb:Go.IntKind.wrap .u8 (b:Int)=(b:Int):=zkd (by omega) (by omega);have wb1:Go.IntKind.wrap .i64 ((b:Int)+1)=((b+1:Nat):Int):=zsd (by omega);rw[z2a (decide_eq_true (by omega)),wb,z10v N hs (by omega)];simp only[Option.bind_some];rw[wb1,hr _ ⟨zmv hs (by omega),by simp only;omega,by simp only;omega⟩ (by simp only[Int.toNat_natCast];omega)];simp only[R,Int.toNat_natCast];have e:hi+1 - b=(hi+1 - (b+1))+1:=by omega
     rw[e,ofS]
   . rw[z6o (decide_eq_false (by omega))];simp only[R,Int.toNat_natCast];have e:hi+1 - b=0:=by omega
     rw[e,ofS]) N ([(0:Int),(0:Int),(0:Int),(0:Int)],(lo:Int)) ⟨z6b,by simp only;omega,by simp only;omega⟩ (by simp only[Int.toNat_natCast];omega)
 rw[h];simp only[R,Int.toNat_natCast]
theorem z154 (N:Nat) (l:List UInt8) (hl:l.length<9223372036854775807) (hN:l.length<N):z3q N l=some (z1d8 l [0,0,0,0]):=by
 rw[z3q,zfz]
 let R:List Int×Int->Option (List Int):=fun v=>some (z1d8 (l.drop v.2.toNat) v.1)
 have h:=zff (step:=fun (v:((List Int)×Int)) r=>z8u N l [(0:Int),(0:Int),(0:Int),(0:Int)] ((l.length:Nat):Int) v.1 v.2 (fun set_ x7=>(r (set_,x7))) (fun set_=>some set_))
  (I:=fun v=>SetOk v.1/\0<=v.2/\v.2<=l.length) (m:=fun v=>l.length - v.2.toNat) (R:=R)
  (by
   rintro⟨s,i⟩ r ⟨hs,h0,h1⟩ hr;simp only at hs h0 h1;obtain⟨i,rfl⟩:=Int.eq_ofNat_of_zero_le h0;simp only;rw[z8u];by_cases hi:i<l.length
   . have wi:Go.IntKind.wrap .i64 ((i:Int)+1)=((i+1:Nat):Int):=zsd (by omega);rw[z2a (decide_eq_true (by omega)),z2a (zb8 hi),Int.toNat_natCast,z10v N hs (z18t _),wi];simp only[Option.bind_some];rw[hr _ ⟨zmv hs (z18t _),by simp only;omega,by simp only;omega⟩ (by simp only[Int.toNat_natCast];omega)];simp only[R,Int.toNat_natCast];rw[z13p l 0 i hi];rfl
   . rw[z6o (decide_eq_false (by omega))];simp only[R,Int.toNat_natCast];rw[z13o l (by omega)];rfl) N ([0,0,0,0],(0:Int)) ⟨z6b,Int.le_refl _,by simp only;omega⟩ (by simp only[Int.toNat_zero];omega)
 exact h
def zsl (t:Nat):Int:=z23 .u64 (Go.IntKind.wrap .u64 ((285870213051353865:Int)*((2^t:Nat):Int))) 58
theorem z111:((List.range 64).all fun t=>inR (zsl t) 64 && (Go.IntKind.wrap .i64 (List.getD glob1 (Int.toNat (zsl t)) (0:Int)) == (t:Int)))=true:=by kernel_rfl
theorem z156 {t:Nat}(h:t<64):inR (zsl t) 64=true/\Go.IntKind.wrap .i64 (List.getD glob1 (Int.toNat (zsl t)) (0:Int))=(t:Int):=by
 have:=List.all_eq_true.1 z111 t (List.mem_range.2 h);rw[Bool.and_eq_true,beq_iff_eq] at this;exact this
theorem tz_eq (N:Nat){x:Int}(h:U64 x){t q:Nat}(e:x.toNat=2^t*(2*q+1))(ht:t<64):z1y N x=some (t:Int):=by
 have hp:=Nat.two_pow_pos t;have hpos:0<x.toNat:=by
  rw[e];exact Nat.mul_pos hp (by omega)
 have h1:=h.2;have hz:(x == (0:Int))=false:=by
  rw[beq_eq_false_iff_ne];omega
 have hn:Go.IntKind.wrap .u64 ((0:Int) - x)=((2^64 - x.toNat:Nat):Int):=by
  rw[zqu,show (2:Nat)^64=18446744073709551616 from rfl];omega
 have hu:U64 ((2^64 - x.toNat:Nat):Int):=by
  rw[show (2:Nat)^64=18446744073709551616 from rfl];unfold U64;omega
 have ha:bitsOp .and .u64 x (Go.IntKind.wrap .u64 ((0:Int) - x))=((2^t:Nat):Int):=by
  have hlt:2^t*(2*q+1)<2^64:=by rw[<- e,show (2:Nat)^64=18446744073709551616 from rfl];omega
  rw[hn,zs5 h hu,Int.toNat_natCast,e,z19v hlt]
 obtain⟨t1,t2⟩:=z156 ht;rw[z1y,z6o hz,ha];rw[show z23 .u64 (Go.IntKind.wrap .u64 ((285870213051353865:Int)*((2^t:Nat):Int))) 58=zsl t from rfl,z2a t1,t2]
theorem z1n2 (N:Nat)(a b c d:Int)(k0:Int->Option Int):zg2 (N+5) [a,b,c,d] 0 k0 =
 cond (a == 0) (cond (b == 0) (cond (c == 0) (cond (d == 0) none (k0 3)) (k0 2)) (k0 1)) (k0 0):=by kernel_rfl
theorem zmq (N:Nat) {s:List Int} (hs:SetOk s) {w:Nat} (hw:w<4) (hz:∀ v,v<w->s.getD v 0=0) (hx:s.getD w 0≠0) :
 (cond (inR (w:Int) 4)
  (cond (decide ((Int.toNat (w:Int))<(List.length s)))
   ((z1y N (List.getD s (Int.toNat (w:Int)) (0:Int))).bind fun y =>
     some (Go.IntKind.wrap .i64 ((Go.IntKind.wrap .i64 ((w:Int)*(64:Int)))+y)))
   (none))
  (none))=some (zat s 256 0):=by
 have hu:=hs.word hw;have h0:=hu.1;have h1:=hu.2;obtain⟨t,q,e⟩:=z161 (s.getD w 0).toNat (by omega);have ht:t<64:=by
  have:2^t*1<=2^t*(2*q+1):=Nat.mul_le_mul_left _ (by omega);refine (Nat.pow_lt_pow_iff_right (a:=2) (by omega)).1 ?_;rw[show (2:Nat)^64=18446744073709551616 from rfl];omega
 have hb (i:Nat):bit (s.getD w 0) i=if i<t then false else if i=t then true else q.testBit (i - t - 1):=by
  unfold bit;rw[e,z12o]
 have hc:hasS s (64*w+t)=true:=by
  unfold hasS;rw[show (64*w+t) / 64=w by omega,show (64*w+t) % 64=t by omega,hb,if_neg (by omega),if_pos rfl]
 have hl:=zmm hc 256 0 (by omega) (by omega) (fun i _ hi=>by
  unfold hasS;by_cases hv:i / 64<w
  . rw[hz _ hv];exact Nat.zero_testBit _
  . rw[show i / 64=w by omega,hb,if_pos (by omega)])
 rw[z2a (zb8 hw),Int.toNat_natCast,z2a (decide_eq_true (by rw[hs.length];exact hw)),tz_eq N hu e ht];simp only[Option.bind_some];rw[hl,z5u (x:=(w:Int)*64) (by unfold I64;omega),z5u (by unfold I64;omega)];congr 1;omega
theorem z13j (s:List Int):eqD (T.arr 4 (T.int Go.IntKind.u64)) s s=true:=(zj0 _ _ _ rfl).2 rfl
theorem zyf (N:Nat) {s:List Int} (hs:SetOk s):z1e (N+5) s=some (zat s 256 0):=by
 have hs':=hs;obtain⟨a,b,c,d,rfl,ha,hb,hc,hd⟩:=hs';rw[z1e];by_cases e:([a,b,c,d]:List Int)=[0,0,0,0]
 . rw[e,z2a (z13j _),zq7 zbx]
 . have en : eqD (T.arr 4 (T.int Go.IntKind.u64)) [a,b,c,d] ([(0:Int),(0:Int),(0:Int),(0:Int)]:List Int)=false:=by
    rw[<- Bool.not_eq_true];exact fun h=>e ((zj0 _ _ _ rfl).1 h)
   rw[z6o en,z1n2];by_cases ea:a=0
   . rw[z2a (beq_iff_eq.2 ea)];by_cases eb:b=0
     . rw[z2a (beq_iff_eq.2 eb)];by_cases ec:c=0
       . rw[z2a (beq_iff_eq.2 ec)];by_cases ed:d=0
         . exact absurd (by rw[ea,eb,ec,ed]) e
         . rw[z6o (beq_eq_false_iff_ne.2 ed)];have z:∀ v,v<3->([a,b,c,d]:List Int).getD v 0=0:=by
            intro v hv;obtain rfl|rfl|rfl:v=0\/v=1\/v=2:=by omega
            . exact ea
            . exact eb
            . exact ec
           exact zmq (N+5) hs (w:=3) (by omega) z ed
       . rw[z6o (beq_eq_false_iff_ne.2 ec)];have z:∀ v,v<2->([a,b,c,d]:List Int).getD v 0=0:=by
          intro v hv;obtain rfl|rfl:v=0\/v=1:=by omega
          . exact ea
          . exact eb
         exact zmq (N+5) hs (w:=2) (by omega) z ec
     . rw[z6o (beq_eq_false_iff_ne.2 eb)];have z:∀ v,v<1->([a,b,c,d]:List Int).getD v 0=0:=by
        intro v hv;obtain rfl:v=0:=by omega
        exact ea
       exact zmq (N+5) hs (w:=1) (by omega) z eb
   . rw[z6o (beq_eq_false_iff_ne.2 ea)];exact zmq (N+5) hs (w:=0) (by omega) (fun v hv=>by omega) ea
end
end Go.Proofs.YthgcpalmjcomlaaDoorLg
set_option linter.all false
set_option maxRecDepth 100000
namespace Go.Proofs.YthgcpalmjcomlaaDoorLg
noncomputable section
open Go Go.Lift Go.Proofs.YthgcpalmjcomlaaDoorPx
inductive PR (α:Type) where
 | bad (e:Int) (a:Nat)
 | ok (x:α) (a:Nat)
def PR.next {α β:Type}(r:PR α)(f:α->Nat->PR β):PR β:=match r with
 | .bad e a=>.bad e a
 | .ok x a=>f x a
def gb (s:List UInt8)(i:Nat):Nat:=(s.getD i 0).toNat
def isB (s:List UInt8)(a b:Nat):Bool:=decide (a<s.length) && gb s a == b
def zj2 (b:Nat):Bool:=decide (48<=b) && decide (b<=57)
def z8q (s:List UInt8)(a:Nat):PR Nat:=if a<s.length then .ok (gb s a) a else .bad 1 s.length
def zcz (s:List UInt8)(a b:Nat):PR Unit:=(z8q s a).next fun c a=>if c=b then .ok () (a+1) else .bad 2 a
def zul (s:List UInt8)(fr a:Nat):PR Nat:=(z8q s a).next fun b a=>if zj2 b then .ok (b - 48) (a+1) else if 97<=b/\b<=102 then .ok (b - 87) (a+1) else .bad 2 fr
def z4:List Int:=[0,0,0,0]
def z9l (b:Nat):List Int:=ofS 1 b z4
def zc3:List UInt8:=[48,49,50,51,52,53,54,55,56,57,65,66,67,68,69,70,71,72,73,74,75,76,77,78,79,80,81,82,83,84,85,86,87,88,89,90,95,97,98,99,100,101,102,103,104,105,106,107,108,109,110,111,112,113,114,115,116,117,118,119,120,121,122]
def specials:List Nat:=[92,46,91,93,40,41,123,125,124,42,43,63]
def escapes:List Nat:=[92,46,91,93,40,41,123,125,124,42,43,63,45,94]
abbrev Sg:=List Int×Bool×Nat
def zrh (s:List UInt8)(a:Nat):PR Sg:=(z8q s (a+1)).next fun b a1 =>
 if b=100 then .ok (ofS 10 48 z4,true,0) (a+2)
 else if b=119 then .ok (z1d8 zc3 z4,true,0) (a+2)
 else if b=120 then (zul s a (a+2)).next fun h a2=>(zul s a a2).next fun l a3=>.ok (z9l (16*h+l),false,16*h+l) a3
 else if escapes.contains b then .ok (z9l b,false,b) (a+2) else .bad 2 a
def zgy (s:List UInt8)(a:Nat):PR Sg:=(z8q s a).next fun b _ =>
 if b=92 then zrh s a else if b=91\/b=93\/b=45\/b=94 then .bad 2 a else .ok (z9l b,false,b) (a+1)
def zei (s:List UInt8)(a:Nat):PR (List Int):=(zgy s a).next fun r a1 =>
 if r.2.1 || !(isB s a1 45) then .ok r.1 a1
 else (zgy s (a1+1)).next fun q a2=>if q.2.1 || decide (q.2.2<r.2.2) then .bad 2 (a1+1) else .ok (ofS (q.2.2+1 - r.2.2) r.2.2 z4) a2
def z7g (s:List UInt8):Nat->Nat->List Int->PR (List Int)
 | 0,_,_=>.bad 0 0
 | k+1,a,acc=>if isB s a 93 then .ok acc (a+1) else (zei s a).next fun t a1=>z7g s k a1 (orS acc t)
def zbl (s:List UInt8)(a:Nat):PR (List Int) :=
 (zei s (if isB s a 94 then a+1 else a)).next fun t a1=>(z7g s (s.length+1) a1 t).next fun acc a2=>.ok (if isB s a 94 then zuk acc else acc) a2
def z7n (s:List UInt8):Nat->Nat->Nat->Nat×Nat
 | 0,a,v=>(v,a)
 | k+1,a,v=>if a<s.length/\zj2 (gb s a) then z7n s k (a+1) (min (10*v+(gb s a - 48)) 17) else (v,a)
def zsa (s:List UInt8)(a:Nat):PR Nat:=(z8q s a).next fun b _ =>
 if zj2 b then
 if b=48/\a+1<(z7n s (s.length+1) a 0).2 then .bad 2 a
 else if 16<(z7n s (s.length+1) a 0).1 then .bad 3 a
 else .ok (z7n s (s.length+1) a 0).1 (z7n s (s.length+1) a 0).2
 else .bad 2 a
def zy5 (s:List UInt8)(lo:Nat)(hi:Nat)(fr a:Nat):PR (Int×Int) :=
 if hi<max lo 1 then .bad 2 fr else (zcz s a 125).next fun _ a1=>.ok ((lo:Int),(hi:Int)) a1
def z9u (s:List UInt8)(a:Nat):PR (Int×Int):=(zsa s a).next fun lo a1 =>
 if isB s a1 44 then
 if isB s (a1+1) 125 then .ok ((lo:Int),-1) (a1+2) else (zsa s (a1+1)).next fun hi a2=>zy5 s lo hi (a1+1) a2
 else zy5 s lo lo a a1
def z14s (st:List Int):Tree:=.mk 1 st [] 0 0
def z14r (t:Tree)(lo hi:Int):Tree:=.mk 4 z4 [t] lo hi
def za8 (sub:Option (Nat->PR Tree)) (s:List UInt8) (a:Nat):PR Tree :=
 if gb s a=40 then (match sub with
  | none=>.bad 3 a
  | some f=>(f (a+1)).next fun t a1=>(zcz s a1 41).next fun _ a2=>.ok t a2)
 else if gb s a=46 then .ok (z14s (ofS 256 0 z4)) (a+1)
 else if gb s a=91 then (zbl s (a+1)).next fun st a1=>.ok (z14s st) a1
 else if gb s a=92 then (zrh s a).next fun r a1=>.ok (z14s r.1) a1
 else if specials.contains (gb s a) then .bad 2 a
 else .ok (z14s (z9l (gb s a))) (a+1)
def zbk (sub:Option (Nat->PR Tree))(s:List UInt8)(a:Nat):PR Tree:=(za8 sub s a).next fun t a1 =>
 if a1<s.length then
 if gb s a1=43 then .ok (z14r t 1 (-1)) (a1+1)
 else if gb s a1=42 then .ok (z14r t 0 (-1)) (a1+1)
 else if gb s a1=63 then .ok (z14r t 0 1) (a1+1)
 else if gb s a1=123 then (z9u s (a1+1)).next fun lh a2=>.ok (z14r t lh.1 lh.2) a2
 else .ok t a1
 else .ok t a1
def zdn (s:List UInt8)(a:Nat):Bool:=!(decide (a<s.length)) || (gb s a == 124 || gb s a == 41)
def zit (sub:Option (Nat->PR Tree))(s:List UInt8):Nat->Nat->List Tree->PR Tree
 | 0,_,_=>.bad 0 0
 | k+1,a,ps=>if zdn s a then .ok (zd1 2 ps) a else (zbk sub s a).next fun t a1=>zit sub s k a1 (ps++[t])
def zej (sub:Option (Nat->PR Tree))(s:List UInt8):Nat->Nat->List Tree->PR Tree
 | 0,_,_=>.bad 0 0
 | k+1,a,ps=>if isB s a 124 then (zit sub s (s.length+1) (a+1) []).next fun t a1=>zej sub s k a1 (ps++[t]) else .ok (zd1 3 ps) a
def zgz (s:List UInt8):Nat->Nat->PR Tree
 | 0,a=>(zit none s (s.length+1) a []).next fun t a1=>zej none s (s.length+1) a1 [t]
 | d+1,a=>(zit (some (zgz s d)) s (s.length+1) a []).next fun t a1=>zej (some (zgz s d)) s (s.length+1) a1 [t]
def zy4 (s:List UInt8):PR Tree:=if 256<s.length then .bad 3 256 else (zgz s 16 0).next fun t a=>if a<s.length then .bad 2 a else .ok t a
def Ahead {α:Type}(s:List UInt8)(a:Nat)(r:PR α):Prop:=match r with
 | .bad _ b=>b<=s.length
 | .ok _ b=>a<=b/\b<=s.length
theorem Ahead.bind {α β:Type}{s:List UInt8}{a c:Nat}{r:PR α}{f:α->Nat->PR β}(h:Ahead s a r)(hf:∀ x b,r=.ok x b->a<=b->b<=s.length->Ahead s c (f x b)):Ahead s c (r.next f):=by
 cases r with
 | bad e b=>exact h
 | ok x b=>exact hf x b rfl h.1 h.2
theorem Ahead.le {α:Type}{s:List UInt8}{a b:Nat}{r:PR α}(h:Ahead s a r)(hab:b<=a):Ahead s b r:=by
 cases r with
 | bad e c=>exact h
 | ok x c=>exact⟨Nat.le_trans hab h.1,h.2⟩
theorem zef (s:List UInt8)(a:Nat):Ahead s a (z8q s a):=by
 unfold z8q;split
 . exact⟨Nat.le_refl _,by omega⟩
 . exact Nat.le_refl _
theorem zb3 {s:List UInt8}{a x b:Nat}(h:z8q s a=.ok x b):a<s.length/\x=gb s a/\b=a:=by
 unfold z8q at h;split at h
 . cases h;exact⟨by assumption,rfl,rfl⟩
 . cases h
theorem zky (s:List UInt8)(a b:Nat):Ahead s (a+1) (zcz s a b):=by
 refine (zef s a).bind fun c a1 h h1 h2=>?_
 obtain⟨q1,q2,rfl⟩:=zb3 h;split
 . exact⟨Nat.le_refl _,by omega⟩
 . exact Nat.le_of_lt q1
theorem zo2 {s:List UInt8}{fr:Nat}(hf:fr<=s.length)(a:Nat):Ahead s (a+1) (zul s fr a):=by
 refine (zef s a).bind fun c a1 h h1 h2=>?_
 obtain⟨q1,q2,rfl⟩:=zb3 h;split
 . exact⟨Nat.le_refl _,by omega⟩
 . split
   . exact⟨Nat.le_refl _,by omega⟩
   . exact hf
theorem zo9 {s:List UInt8}{a:Nat}(ha:a<=s.length):Ahead s (a+2) (zrh s a):=by
 refine (zef s (a+1)).bind fun c a1 h h1 h2=>?_
 obtain⟨q1,q2,rfl⟩:=zb3 h;split
 . exact⟨Nat.le_refl _,by omega⟩
 split
 . exact⟨Nat.le_refl _,by omega⟩
 split
 . refine (zo2 ha (a+2)).bind fun x b _ g1 g2=>?_
   refine (zo2 ha b).bind fun y b2 _ g3 g4=>?_
   exact⟨by omega,g4⟩
 split
 . exact⟨Nat.le_refl _,by omega⟩
 . exact ha
theorem zhl (s:List UInt8)(a:Nat):Ahead s (a+1) (zgy s a):=by
 refine (zef s a).bind fun c a1 h h1 h2=>?_
 obtain⟨q1,q2,rfl⟩:=zb3 h;split
 . exact (zo9 (by omega)).le (by omega)
 split
 . exact Nat.le_of_lt q1
 . exact⟨Nat.le_refl _,by omega⟩
theorem zaa (s:List UInt8)(a:Nat):Ahead s (a+1) (zei s a):=by
 refine (zhl s a).bind fun r a1 _ h1 h2=>?_
 split
 . exact⟨h1,h2⟩
 . rename_i hc;refine (zhl s (a1+1)).bind fun q a2 _ g1 g2=>?_
   skip
   split
   . show a1+1<=s.length;simp[isB] at hc;omega
   . exact⟨by omega,g2⟩
theorem zo1 (s:List UInt8):∀ (k a:Nat) (acc:List Int),a<=s.length->Ahead s (a+1) (z7g s k a acc)
 | 0,a,acc,ha=>Nat.zero_le _
 | k + 1,a,acc,ha=>by
   unfold z7g;split
   . rename_i h;simp[isB] at h;exact⟨Nat.le_refl _,by omega⟩
   . exact (zaa s a).bind fun t a1 _ h1 h2=>(zo1 s k a1 _ h2).le (by omega)
theorem zod {s:List UInt8}(a:Nat):Ahead s (a+2) (zbl s a):=by
 unfold zbl;refine (zaa s _).bind fun t a1 _ h1 h2=>?_
 refine (zo1 s _ a1 _ h2).bind fun acc a2 _ g1 g2=>?_
 refine⟨?_,g2⟩;split at h1<;>omega
theorem zkm (s:List UInt8):∀ (k a v:Nat),a<=s.length->a<=(z7n s k a v).2/\(z7n s k a v).2<=s.length
 | 0,a,v,h=>⟨Nat.le_refl _,h⟩
 | k + 1,a,v,h=>by
   unfold z7n;split
   . rename_i hc;have:=zkm s k (a+1) (min (10*v+(gb s a - 48)) 17) (by omega);exact⟨by omega,this.2⟩
   . exact⟨Nat.le_refl _,h⟩
theorem z11d {s:List UInt8}{k a v:Nat}(h:a<s.length)(hd:zj2 (gb s a)=true):a+1<=(z7n s (k+1) a v).2:=by
 unfold z7n;rw[if_pos ⟨h,hd⟩];exact (zkm s k (a+1) _ (by omega)).1
theorem zgv (s:List UInt8)(a:Nat):Ahead s (a+1) (zsa s a):=by
 refine (zef s a).bind fun c a1 h h1 h2=>?_
 obtain⟨q1,rfl,rfl⟩:=zb3 h;split
 . rename_i hd;split
   . exact Nat.le_of_lt q1
   split
   . exact Nat.le_of_lt q1
   . exact⟨z11d q1 hd,(zkm s _ _ _ (by omega)).2⟩
 . exact Nat.le_of_lt q1
theorem ztp {s:List UInt8}{lo hi fr a:Nat}(hf:fr<=s.length):Ahead s (a+1) (zy5 s lo hi fr a):=by
 unfold zy5;split
 . exact hf
 . exact (zky s a 125).bind fun _ a1 _ h1 h2=>⟨h1,h2⟩
theorem zm1 {s:List UInt8}{a:Nat}(ha:a<=s.length):Ahead s (a+1) (z9u s a):=by
 refine (zgv s a).bind fun lo a1 _ h1 h2=>?_
 split
 . rename_i hc;simp[isB] at hc;split
   . rename_i hc2;simp[isB] at hc2;exact⟨by omega,by omega⟩
   . refine (zgv s (a1+1)).bind fun hi a2 _ g1 g2=>?_
     exact (ztp (by omega)).le (by omega)
 . exact (ztp ha).le (by omega)
theorem zet {sub:Option (Nat->PR Tree)}{s:List UInt8}{a:Nat}(hs:∀ f,sub=some f->∀ b,b<=s.length->Ahead s b (f b))(ha:a<s.length):Ahead s (a+1) (za8 sub s a):=by
 unfold za8;split
 . cases sub with
   | none=>exact Nat.le_of_lt ha
   | some f =>
     refine (hs f rfl (a+1) (by omega)).bind fun t a1 _ h1 h2=>?_
     exact (zky s a1 41).bind fun _ a2 _ g1 g2=>⟨by omega,g2⟩
 split
 . exact⟨Nat.le_refl _,by omega⟩
 split
 . exact (zod (a+1)).bind fun st a1 _ h1 h2=>⟨by omega,h2⟩
 split
 . exact (zo9 (by omega)).bind fun st a1 _ h1 h2=>⟨by omega,h2⟩
 split
 . exact Nat.le_of_lt ha
 . exact⟨Nat.le_refl _,by omega⟩
theorem zcv {sub:Option (Nat->PR Tree)}{s:List UInt8}{a:Nat}(hs:∀ f,sub=some f->∀ b,b<=s.length->Ahead s b (f b))(ha:a<s.length):Ahead s (a+1) (zbk sub s a):=by
 refine (zet hs ha).bind fun t a1 _ h1 h2=>?_
 split
 . split
   . exact⟨by omega,by omega⟩
   split
   . exact⟨by omega,by omega⟩
   split
   . exact⟨by omega,by omega⟩
   split
   . exact (zm1 (by omega)).bind fun lh a2 _ g1 g2=>⟨by omega,g2⟩
   . exact⟨h1,h2⟩
 . exact⟨h1,h2⟩
theorem z6p {sub:Option (Nat->PR Tree)} {s:List UInt8} (hs:∀ f,sub=some f->∀ b,b<=s.length->Ahead s b (f b)):∀ (k a:Nat) (ps:List Tree),a<=s.length->Ahead s a (zit sub s k a ps)
 | 0,a,ps,ha=>Nat.zero_le _
 | k + 1,a,ps,ha=>by
   unfold zit;split
   . exact⟨Nat.le_refl _,ha⟩
   . rename_i hc;have hlt:a<s.length:=by
      simp[zdn] at hc;exact hc.1
     exact (zcv hs hlt).bind fun t a1 _ h1 h2=>(z6p hs k a1 _ h2).le (by omega)
theorem zlh {sub:Option (Nat->PR Tree)}{s:List UInt8}(hs:∀ f,sub=some f->∀ b,b<=s.length->Ahead s b (f b)):∀ (k a:Nat) (ps:List Tree),a<=s.length->Ahead s a (zej sub s k a ps)
 | 0,a,ps,ha=>Nat.zero_le _
 | k + 1,a,ps,ha=>by
   unfold zej;split
   . rename_i hc;simp[isB] at hc;exact (z6p hs _ (a+1) [] (by omega)).bind fun t a1 _ h1 h2=>(zlh hs k a1 _ h2).le (by omega)
   . exact⟨Nat.le_refl _,ha⟩
theorem zhc (s:List UInt8):∀ (d a:Nat),a<=s.length->Ahead s a (zgz s d a)
 | 0,a,ha=>by
   have hs:∀ f,(none:Option (Nat->PR Tree))=some f->∀ b,b<=s.length->Ahead s b (f b):=fun f h=>by cases h
   unfold zgz;exact (z6p hs _ a [] ha).bind fun t a1 _ h1 h2=>(zlh hs _ a1 _ h2).le h1
 | d+1,a,ha=>by
   have hs:∀ f,some (zgz s d)=some f->∀ b,b<=s.length->Ahead s b (f b):=fun f h=>by cases h;exact zhc s d
   unfold zgz;exact (z6p hs _ a [] ha).bind fun t a1 _ h1 h2=>(zlh hs _ a1 _ h2).le h1
end
end Go.Proofs.YthgcpalmjcomlaaDoorLg
set_option linter.all false
set_option maxRecDepth 100000
namespace Go.Proofs.YthgcpalmjcomlaaDoorLg
noncomputable section
open Go Go.Lift Go.Proofs.YthgcpalmjcomlaaDoorPx
def spcB:List UInt8:=[92,46,91,93,40,41,124,123,125,42,43,63]
def brkB:List UInt8:=[92,91,93,45,94]
def z14t (h:Nat):UInt8:=([48,49,50,51,52,53,54,55,56,57,97,98,99,100,101,102]:List UInt8).getD h 0
def zab (sl:List UInt8)(b:Nat):List UInt8 :=
 if sl.contains (UInt8.ofNat b) then [92,UInt8.ofNat b] else if b<32\/126<b then [92,120,z14t (b / 16),z14t (b % 16)] else [UInt8.ofNat b]
theorem zk1 (sl:List UInt8)(b:Nat):(zab sl b).length<=4:=by
 unfold zab;split
 . simp
 . split<;>simp
theorem zg4 {p:Nat->Bool}{n:Nat}(h:((List.range n).all p)=true){b:Nat}(hb:b<n):p b=true :=
 List.all_eq_true.1 h b (List.mem_range.2 hb)
theorem z13i (N:Nat):((List.range 256).all fun b=>(zal N (b:Int) == some (zab spcB b)) && (z4v N (b:Int) brkB == some (zab brkB b)))=true:=by kernel_rfl
theorem z149 (N:Nat){b:Nat}(hb:b<256):zal N (b:Int)=some (zab spcB b):=by
 have:=zg4 (z13i N) hb;rw[Bool.and_eq_true] at this;exact beq_iff_eq.1 this.1
theorem zo8 (N:Nat){b:Nat}(hb:b<256):z4v N (b:Int) brkB=some (zab brkB b):=by
 have:=zg4 (z13i N) hb;rw[Bool.and_eq_true] at this;exact beq_iff_eq.1 this.2
def zdd (f:Nat->Bool):Nat->Nat->Nat
 | 0,p=>p
 | n+1,p=>if f p=true then zdd f n (p+1) else p
theorem zf2 (f:Nat->Bool):∀ n p,p<=zdd f n p/\zdd f n p<=p+n
 | 0,p=>⟨Nat.le_refl _,Nat.le_refl _⟩
 | n+1,p=>by
   rw[zdd];have:=zf2 f n (p+1);split<;>omega
theorem z11j (f:Nat->Bool):∀ n p i,p<=i->i<zdd f n p->f i=true
 | 0,p,i,h1,h2=>by rw[zdd] at h2;omega
 | n + 1,p,i,h1,h2=>by
   rw[zdd] at h2;split at h2
   . rename_i h;by_cases e:p=i
     . rw[<- e];exact h
     . exact z11j f n (p+1) i (by omega) h2
   . omega
theorem zr4 (f:Nat->Bool):∀ n p,zdd f n p<p+n->f (zdd f n p)=false
 | 0,p,h=>by rw[zdd] at h;omega
 | n + 1,p,h=>by
   rw[zdd] at h ⊢;split
   . rename_i hf;rw[if_pos hf] at h;exact zr4 f n (p+1) (by omega)
   . rename_i hf;simpa using hf
theorem zps {f g:Nat->Bool}:∀ n p,(∀ i,p<=i->i<p+n->f i=g i)->zdd f n p=zdd g n p
 | 0,p,_=>rfl
 | n+1,p,h=>by
   rw[zdd,zdd,h p (Nat.le_refl _) (by omega),zps n (p+1) (fun i h1 h2=>h i (by omega) (by omega))]
def zfr (lo hi:Nat):List UInt8:=if hi=lo then zab brkB lo else if hi=lo+1 then zab brkB lo++zab brkB hi else zab brkB lo++[45]++zab brkB hi
theorem zpr (lo hi:Nat):(zfr lo hi).length<=9:=by
 have h1:=zk1 brkB lo;have h2:=zk1 brkB hi;unfold zfr;split
 . omega
 . split<;>simp only[List.length_append,List.length_cons,List.length_nil]<;>omega
def zez (f:Nat->Bool):Nat->Nat->List UInt8
 | 0,_=>[]
 | k+1,p=>if p<256 then (if p<zdd f (256 - p) p then zfr p (zdd f (256 - p) p - 1) else [])++zez f k (zdd f (256 - p) p+1) else []
theorem zpp (f:Nat->Bool):∀ k k' p,256<p+k->256<p+k'->zez f k p=zez f k' p
 | 0,0,p,_,_=>rfl
 | 0,k'+1,p,h,_=>by rw[zez,zez,if_neg (by omega)]
 | k+1,0,p,_,h=>by rw[zez,zez,if_neg (by omega)]
 | k + 1,k'+1,p,h,h'=>by
   rw[zez,zez];by_cases hp:p<256
   . have:=(zf2 f (256 - p) p).1;rw[if_pos hp,if_pos hp,zpp f k k' _ (by omega) (by omega)]
   . rw[if_neg hp,if_neg hp]
def RT (f:Nat->Bool)(p:Nat):List UInt8:=zez f 257 p
theorem zqs {f:Nat->Bool}{p:Nat}(h:256<=p):RT f p=[]:=by rw[RT,zez,if_neg (by omega)]
theorem zs9 {f:Nat->Bool}{p:Nat}(h:p<256):RT f p=(if p<zdd f (256 - p) p then zfr p (zdd f (256 - p) p - 1) else [])++RT f (zdd f (256 - p) p+1):=by
 have:=(zf2 f (256 - p) p).1;rw[RT,zez,if_pos h,RT,zpp f 256 257 _ (by omega) (by omega)]
theorem zww {f:Nat->Bool}{p:Nat}(h:p<256)(hf:f p=false):RT f p=RT f (p+1):=by
 have e:zdd f (256 - p) p=p:=by
  rw[show 256 - p=(255 - p)+1 by omega,zdd,if_neg (by rw[hf];decide)]
 rw[zs9 h,e,if_neg (by omega),List.nil_append]
theorem zkb {f:Nat->Bool}:∀ n p,p+n<=256->(∀ i,p<=i->i<p+n->f i=false)->RT f p=RT f (p+n)
 | 0,p,_,_=>rfl
 | n+1,p,h,hf=>by
   rw[zww (by omega) (hf p (Nat.le_refl _) (by omega)),zkb n (p+1) (by omega) (fun i h1 h2=>hf i (by omega) (by omega))];congr 1;omega
theorem z14o (f:Nat->Bool):∀ k p,(zez f k p).length<=9*k
 | 0,_=>by simp[zez]
 | k + 1,p=>by
   rw[zez];have:=z14o f k (zdd f (256 - p) p+1);have h2:=zpr p (zdd f (256 - p) p - 1);split
   . rw[List.length_append];split
     . omega
     . simp only[List.length_nil];omega
   . simp
def zza (s:List Int):List UInt8 :=
 if zib s=1 then zab spcB (zat s 256 0).toNat else if zib s=256 then [46] else if s=[287948901175001088,0,0,0] then [92,100] else if s=[287948901175001088,576460745995190270,0,0] then [92,119] else
 if zib s=0 then [91,94,92,120,48,48,45,92,120,102,102,93] else [91]++RT (hasS s) 0++[93]
theorem z159 (s:List Int):(zza s).length<=2400:=by
 have h1:=zk1 spcB (zat s 256 0).toNat;have h2:(RT (hasS s) 0).length<=9*257:=z14o _ _ _;unfold zza;split
 . omega
 . split
   . decide
   . split
     . decide
     . split
       . decide
       . split
         . decide
         . simp only[List.length_append,List.length_cons,List.length_nil];omega
end
end Go.Proofs.YthgcpalmjcomlaaDoorLg
set_option linter.all false
set_option maxRecDepth 100000
namespace Go.Proofs.YthgcpalmjcomlaaDoorLg
noncomputable section
open Go Go.Lift Go.Proofs.YthgcpalmjcomlaaDoorPx
def At (S:List UInt8):Nat->List UInt8->Prop
 | a,[]=>a<=S.length
 | a,c::T=>a<S.length/\gb S a=c.toNat/\At S (a+1) T
theorem At.le {S:List UInt8}:∀ {T:List UInt8} {a:Nat},At S a T->a+T.length<=S.length
 | [],a,h=>h
 | c::T,a,h=>by have:=h.2.2.le;rw[List.length_cons];omega
theorem At.app {S:List UInt8}:∀ {T U:List UInt8} {a:Nat},At S a (T++U)->At S a T/\At S (a+T.length) U
 | [],U,a,h=>⟨Nat.le_trans (Nat.le_add_right _ _) h.le,h⟩
 | c::T,U,a,h=>by
   have:=At.app (T:=T) h.2.2;refine⟨⟨h.1,h.2.1,this.1⟩,?_⟩;rw[List.length_cons,show a+(T.length+1)=a+1+T.length by omega];exact this.2
theorem At.self (S:List UInt8):∀ (n a:Nat),n=S.length - a->a<=S.length->At S a (S.drop a)
 | 0,a,h,ha=>by rw[List.drop_eq_nil_of_le (by omega)];exact ha
 | n+1,a,h,ha=>by
   have hl:a<S.length:=by omega
   rw[List.drop_eq_getElem_cons hl];exact⟨hl,by unfold gb;rw[List.getD_eq_getElem?_getD,List.getElem?_eq_getElem hl];rfl,At.self S n (a+1) (by omega) (by omega)⟩
theorem z1g {α β:Type}(x:α)(a:Nat)(f:α->Nat->PR β):(PR.ok x a).next f=f x a:=rfl
theorem nxt {S:List UInt8}{a:Nat}{c:UInt8}{T:List UInt8}(h:At S a (c::T)):z8q S a=.ok c.toNat a:=by
 unfold z8q;rw[if_pos h.1,h.2.1]
theorem isb {S:List UInt8}{a:Nat}{c:UInt8}{T:List UInt8}(h:At S a (c::T))(b:Nat):isB S a b=decide (c.toNat=b):=by
 unfold isB;rw[decide_eq_true h.1,h.2.1,Bool.true_and];by_cases e:c.toNat=b
 . rw[e,beq_self_eq_true,decide_eq_true rfl]
 . rw[beq_eq_false_iff_ne.2 e,decide_eq_false e]
theorem z168:((List.range 16).all fun v=>(zj2 (z14t v).toNat && ((z14t v).toNat - 48 == v)) || (!(zj2 (z14t v).toNat) && decide (97<=(z14t v).toNat/\(z14t v).toNat<=102) && ((z14t v).toNat - 87 == v)))=true:=by decide +kernel
theorem z17r {S:List UInt8}{a v fr:Nat}(hv:v<16){T:List UInt8}(h:At S a (z14t v::T)):zul S fr a=.ok v (a+1):=by
 have ht:=zg4 z168 hv;unfold zul;rw[nxt h];simp only[z1g];cases hd:zj2 (z14t v).toNat with
 | true =>
   rw[hd] at ht;simp only[Bool.true_and,Bool.not_true,Bool.false_and,Bool.or_false,beq_iff_eq] at ht;rw[if_pos rfl,ht]
 | false =>
   rw[hd] at ht;simp only[Bool.false_and,Bool.not_false,Bool.true_and,Bool.false_or,Bool.and_eq_true,decide_eq_true_eq,beq_iff_eq] at ht;rw[if_neg (by decide),if_pos ht.1,ht.2]
theorem z16f:((List.range 256).all fun b=>(!(spcB.contains (UInt8.ofNat b)) || (b != 100 && b != 119 && b != 120 && escapes.contains b)) && (!(brkB.contains (UInt8.ofNat b)) || (b != 100 && b != 119 && b != 120 && escapes.contains b)))=true:=by decide +kernel
theorem zyh:((List.range 256).all fun b=>(spcB.contains (UInt8.ofNat b) || !(specials.contains b)) && (brkB.contains (UInt8.ofNat b) || (b != 92 && b != 91 && b != 93 && b != 45 && b != 94)))=true:=by decide +kernel
theorem of8 {b:Nat}(hb:b<256):(UInt8.ofNat b).toNat=b:=by rw[UInt8.toNat_ofNat',Nat.mod_eq_of_lt hb]
theorem z13g {S:List UInt8}{a b:Nat}(hb:b<256){sl:List UInt8}(hsl:sl=spcB\/sl=brkB)(hc:sl.contains (UInt8.ofNat b)=true\/b<32\/126<b)(h:At S a (zab sl b)) :
 gb S a=92/\a<S.length/\zrh S a=.ok (z9l b,false,b) (a+(zab sl b).length):=by
 have ht:=zg4 z16f hb;unfold zab at h ⊢;by_cases h1:sl.contains (UInt8.ofNat b)=true
 . rw[if_pos h1] at h ⊢;have hx:(b != 100 && b != 119 && b != 120 && escapes.contains b)=true:=by
    rw[Bool.and_eq_true] at ht;rcases hsl with rfl|rfl
    . rw[h1] at ht;simpa using ht.1
    . rw[h1] at ht;simpa using ht.2
   simp only[Bool.and_eq_true,bne_iff_ne,ne_eq] at hx;obtain⟨⟨⟨x1,x2⟩,x3⟩,x4⟩:=hx;refine⟨h.2.1,h.1,?_⟩;unfold zrh;rw[nxt h.2.2,of8 hb];simp only[z1g];rw[if_neg x1,if_neg x2,if_neg x3,if_pos x4];rfl
 . have h2:b<32\/126<b:=by rcases hc with hc|hc;exact absurd hc h1;exact hc
   rw[if_neg h1,if_pos h2] at h ⊢;refine⟨h.2.1,h.1,?_⟩;unfold zrh;rw[nxt h.2.2];simp only[z1g];rw[if_neg (show ¬ (120:UInt8).toNat=100 by decide),if_neg (show ¬ (120:UInt8).toNat=119 by decide),if_pos (show (120:UInt8).toNat=120 by decide)];have h3:=h.2.2.2.2;rw[show a+1+1=a+2 by omega] at h3;rw[z17r (by omega) h3,z1g,z17r (by omega) h3.2.2,z1g,show 16*(b / 16)+b % 16=b by omega];rfl
theorem zuu {S:List UInt8}{a b:Nat}(hb:b<256)(h:At S a (zab brkB b)):zgy S a=.ok (z9l b,false,b) (a+(zab brkB b).length):=by
 by_cases hc:brkB.contains (UInt8.ofNat b)=true\/b<32\/126<b
 . obtain⟨h1,h2,h3⟩:=z13g hb (.inr rfl) hc h;unfold zgy z8q;rw[if_pos h2,h1];simp only[z1g];rw[if_pos trivial,h3]
 . have h1:¬ brkB.contains (UInt8.ofNat b)=true:=fun e=>hc (.inl e)
   have ht:=zg4 zyh hb;rw[Bool.and_eq_true] at ht;have hx:=ht.2;rw[Bool.eq_false_iff.2 h1,Bool.false_or] at hx;simp only[Bool.and_eq_true,bne_iff_ne,ne_eq] at hx;unfold zab at h ⊢;rw[if_neg h1,if_neg (fun e=>hc (.inr e))] at h ⊢;unfold zgy;rw[nxt h,of8 hb];simp only[z1g];rw[if_neg hx.1.1.1.1,if_neg (by omega)];rfl
theorem z14i {S:List UInt8}{a b:Nat}(sub:Option (Nat->PR Tree))(hb:b<256)(h:At S a (zab spcB b)):za8 sub S a=.ok (z14s (z9l b)) (a+(zab spcB b).length):=by
 by_cases hc:spcB.contains (UInt8.ofNat b)=true\/b<32\/126<b
 . obtain⟨h1,h2,h3⟩:=z13g hb (.inl rfl) hc h;unfold za8;rw[h1,if_neg (by decide),if_neg (by decide),if_neg (by decide),if_pos rfl,h3];rfl
 . have h1:¬ spcB.contains (UInt8.ofNat b)=true:=fun e=>hc (.inl e)
   have ht:=zg4 zyh hb;rw[Bool.and_eq_true] at ht;have hx:=ht.1;rw[Bool.eq_false_iff.2 h1,Bool.false_or,Bool.not_eq_true'] at hx;have hn:b≠40/\b≠46/\b≠91/\b≠92:=by
    refine⟨?_,?_,?_,?_⟩<;>(rintro rfl;exact absurd hx (by decide))
   unfold zab at h ⊢;rw[if_neg h1,if_neg (fun e=>hc (.inr e))] at h ⊢;unfold za8;rw[h.2.1,of8 hb,if_neg hn.1,if_neg hn.2.1,if_neg hn.2.2.1,if_neg hn.2.2.2,hx];rfl
theorem z169:((List.range 256).all fun b=>match zab brkB b with|[]=>false|c::_=>c != 45 && c != 93 && c != 94)=true:=by decide +kernel
theorem zk0 {b:Nat}(hb:b<256):∃ c T,zab brkB b=c::T/\c≠45/\c≠93/\c≠94:=by
 have ht:=zg4 z169 hb;cases he:zab brkB b with
 | nil=>rw[he] at ht;cases ht
 | cons c T =>
   rw[he] at ht;simp only[Bool.and_eq_true,bne_iff_ne,ne_eq] at ht;exact⟨c,T,rfl,ht.1.1,ht.1.2,ht.2⟩
theorem zil {lo hi:Nat}(hl:lo<256):∃ U,zfr lo hi=zab brkB lo++U:=by
 unfold zfr;split
 . exact⟨[],by simp⟩
 . split
   . exact⟨_,rfl⟩
   . exact⟨_,List.append_assoc _ _ _⟩
theorem zwx (f:Nat->Bool):∀ n p,n=256 - p->RT f p=[]\/∃ b U,b<256/\RT f p=zab brkB b++U
 | 0,p,h=>.inl (zqs (by omega))
 | n + 1,p,h=>by
   cases hf:f p with
   | false=>rw[zww (by omega) hf];exact zwx f n (p+1) (by omega)
   | true =>
     have hgt:p<zdd f (256 - p) p:=by
      rw[show 256 - p=(255 - p)+1 by omega,zdd,if_pos hf];have:=(zf2 f (255 - p) (p+1)).1;omega
     obtain⟨U,hU⟩:=zil (lo:=p) (hi:=zdd f (256 - p) p - 1) (by omega);exact .inr ⟨p,U++RT f (zdd f (256 - p) p+1),by omega,by rw[zs9 (by omega),if_pos hgt,hU,List.append_assoc]⟩
theorem z15v {S:List UInt8}{a:Nat}{f:Nat->Bool}{p:Nat}(h:At S a (RT f p++[93])):isB S a 45=false:=by
 rcases zwx f (256 - p) p rfl with e|⟨b,U,hb,e⟩
 . rw[e] at h;rw[isb h];rfl
 . obtain⟨c,T,hc,h1,_⟩:=zk0 hb;rw[e,hc] at h;rw[isb h];exact decide_eq_false (fun e=>h1 (UInt8.toNat_inj.1 e))
theorem zrn {S:List UInt8}{a b:Nat}(hb:b<256)(h:At S a (zab brkB b))(hd:isB S (a+(zab brkB b).length) 45=false):zei S a=.ok (z9l b) (a+(zab brkB b).length):=by
 unfold zei;rw[zuu hb h];simp only[z1g];rw[hd];rfl
theorem zqb {S:List UInt8}{a lo hi:Nat}(hl:lo<=hi)(hh:hi<256)(h:At S a (zab brkB lo++[45]++zab brkB hi)) :
 zei S a=.ok (ofS (hi+1 - lo) lo z4) (a+(zab brkB lo++[45]++zab brkB hi).length):=by
 obtain⟨h1,h2⟩:=h.app;obtain⟨h3,h4⟩:=h1.app;unfold zei;rw[zuu (by omega) h3];simp only[z1g];rw[isb h4,if_neg (show ¬ (false || !(decide ((45:UInt8).toNat=45)))=true by decide)];rw[List.length_append,<- Nat.add_assoc] at h2;have h5:At S (a+(zab brkB lo).length+1) (zab brkB hi):=h2;rw[zuu hh h5];simp only[z1g];rw[decide_eq_false (show ¬ hi<lo by omega),if_neg (by decide)];congr 1;simp only[List.length_append,List.length_cons,List.length_nil];omega
def z162 (s:List Int)(p:Nat)(t:List Int):Prop:=SetOk t/\∀ i,i<256->hasS t i=(hasS s i && decide (i<p))
theorem zy6 {s t u:List Int}{lo hi:Nat}(ht:z162 s lo t)(hu:SetOk u)(hb:∀ i,i<256->hasS u i=decide (lo<=i/\i<hi))(hs:∀ i,lo<=i->i<hi->hasS s i=true)(hl:lo<=hi):z162 s hi (orS t u):=by
 refine⟨z125 ht.1 hu,fun i hi2=>?_⟩;rw[z17s ht.1 hu hi2,ht.2 i hi2,hb i hi2];by_cases h1:i<lo
 . rw[decide_eq_true h1,decide_eq_false (show ¬ (lo<=i/\i<hi) by omega),decide_eq_true (show i<hi by omega)];simp
 . by_cases h2:i<hi
   . rw[hs i (by omega) h2,decide_eq_false h1,decide_eq_true (show lo<=i/\i<hi by omega),decide_eq_true h2];simp
   . rw[decide_eq_false h1,decide_eq_false (show ¬ (lo<=i/\i<hi) by omega),decide_eq_false h2];simp
theorem zmk {s t:List Int}{e:Nat}(h:z162 s e t)(he:e<256->hasS s e=false):z162 s (e+1) t:=by
 refine⟨h.1,fun i hi=>?_⟩;rw[h.2 i hi];by_cases h1:i<e
 . rw[decide_eq_true h1,decide_eq_true (by omega)]
 . by_cases h2:i=e
   . rw[h2,he (by omega)];simp
   . rw[decide_eq_false h1,decide_eq_false (by omega)]
theorem zkv {lo hi:Nat}(hl:lo<=hi)(hh:hi<256):SetOk (ofS (hi+1 - lo) lo z4)/\∀ i,i<256->hasS (ofS (hi+1 - lo) lo z4) i=decide (lo<=i/\i<hi+1):=by
 refine⟨zv9 _ _ z6b (by omega),fun i hi2=>?_⟩;rw[show z4=[0,0,0,0] from rfl,zya _ _ z6b (by omega) hi2,zbx,Bool.false_or];exact decide_eq_decide.2 (by omega)
theorem zjy {S:List UInt8} {s:List Int} (hs:SetOk s):∀ (n p k a:Nat) (acc:List Int),257 - p<=n->S.length<a+k->z162 s p acc->At S a (RT (hasS s) p++[93])->z7g S k a acc=.ok s (a+(RT (hasS s) p).length+1)
 | 0,p,k,a,acc,hn,hk,hacc,h=>by
   rw[zqs (by omega)] at h ⊢;obtain⟨k,rfl⟩:∃ k',k=k'+1:=⟨k - 1,by have:=h.1;omega⟩
   rw[z7g,isb h];rw[if_pos (show decide ((93:UInt8).toNat=93)=true by decide)];have:acc=s:=zey hacc.1 hs (fun b hb=>by rw[hacc.2 b hb,decide_eq_true (by omega),Bool.and_true]);rw[this];rfl
 | n + 1,p, k,a,acc,hn,hk,hacc,h=>by
   by_cases hp:p<256
   . cases hf:hasS s p with
     | false =>
       rw[zww hp hf] at h ⊢;exact zjy hs n (p+1) k a acc (by omega) hk (zmk hacc (fun _=>hf)) h
     | true =>
       have hgt:p<zdd (hasS s) (256 - p) p:=by
        rw[show 256 - p=(255 - p)+1 by omega,zdd,if_pos hf];have:=(zf2 (hasS s) (255 - p) (p+1)).1;omega
       have he:=(zf2 (hasS s) (256 - p) p).2;have hin:=z11j (hasS s) (256 - p) p;have hend:=zr4 (hasS s) (256 - p) p;rw[zs9 hp,if_pos hgt] at h ⊢;generalize zdd (hasS s) (256 - p) p=e at *;rw[List.append_assoc] at h;obtain⟨g1,g2⟩:=h.app;have hd:=z15v g2;have hend':e<256->hasS s e=false:=fun h=>hend (by omega)
       obtain⟨b1,b2⟩:=zkv (lo:=p) (hi:=p) (Nat.le_refl _) hp;rw[show p+1 - p=1 by omega] at b1 b2;obtain⟨c0,C0,hc0,_,q93,_⟩:=zk0 hp;obtain⟨U,hU⟩:=zil (lo:=p) (hi:=e - 1) hp;have hnb:isB S a 93=false:=by
        have g3:=g1;rw[hU,hc0] at g3;rw[isb g3];exact decide_eq_false (fun e=>q93 (UInt8.toNat_inj.1 e))
       have hle:=g2.le;have hpos:0<(zfr p (e - 1)).length:=by rw[hU,hc0];simp
       obtain⟨k,rfl⟩:∃ k',k=k'+1:=⟨k - 1,by have:=g1.le;omega⟩
       rw[z7g,hnb,if_neg (by decide)];unfold zfr at g1 g2 hd hpos ⊢;by_cases e1:e - 1=p
       . rw[if_pos e1] at g1 g2 hd hpos ⊢;rw[zrn hp g1 hd];have hfu:S.length<(a+(zab brkB p).length)+k:=by omega
         have hlo:z162 s e (orS acc (z9l p)):=by
          have:=zy6 hacc b1 b2 (fun i h1 h2=>by rw[show i=p by omega];exact hf) (by omega);rw[show e=p+1 by omega];exact this
         have hit:=zjy hs n (e+1) k (a+(zab brkB p).length) _ (by omega) hfu (zmk hlo hend') g2;rw[z1g,hit];rw[List.length_append];congr 1;omega
       . rw[if_neg e1] at g1 g2 hd hpos ⊢;by_cases e2:e - 1=p+1
         . rw[if_pos e2] at g1 g2 hd hpos ⊢;obtain⟨g3,g4⟩:=g1.app;obtain⟨c1,C1,hc1,q45,q93b,_⟩:=zk0 (b:=e - 1) (by omega);have g5:=g4;rw[hc1] at g5;have hd1:isB S (a+(zab brkB p).length) 45=false:=by rw[isb g5];exact decide_eq_false (fun e=>q45 (UInt8.toNat_inj.1 e))
           have hd2:isB S (a+(zab brkB p).length) 93=false:=by rw[isb g5];exact decide_eq_false (fun e=>q93b (UInt8.toNat_inj.1 e))
           rw[zrn hp g3 hd1];rw[z1g];have hl1:0<(zab brkB p).length:=by rw[hc0];simp
           have hl2:=g4.le;obtain⟨k,rfl⟩:∃ k',k=k'+1:=⟨k - 1,by have:=g5.1;omega⟩
           rw[z7g,hd2,if_neg (by decide)];rw[List.length_append,<- Nat.add_assoc] at hd g2;rw[zrn (by omega) g4 hd];rw[z1g];obtain⟨d1,d2⟩:=zkv (lo:=e - 1) (hi:=e - 1) (Nat.le_refl _) (by omega);rw[show e - 1+1 - (e - 1)=1 by omega] at d1 d2;have l1:=zy6 hacc b1 b2 (fun i h1 h2=>by rw[show i=p by omega];exact hf) (by omega);have l2:z162 s e (orS (orS acc (z9l p)) (z9l (e - 1))):=by
            have:=zy6 (lo:=p+1) (hi:=e) l1 d1 (fun i hi=>by rw[d2 i hi];exact decide_eq_decide.2 (by omega)) (fun i h1 h2=>hin i (by omega) h2) (by omega);exact this
           have hl3:0<(zab brkB (e - 1)).length:=by rw[hc1];simp
           have hfu:S.length<(a+(zab brkB p).length+(zab brkB (e - 1)).length)+k:=by omega
           have hit:=zjy hs n (e+1) k (a+(zab brkB p).length+(zab brkB (e - 1)).length) _ (by omega) hfu (zmk l2 hend') g2;rw[hit];rw[List.length_append,List.length_append];congr 1;omega
         . rw[if_neg e2] at g1 g2 hd hpos ⊢;rw[zqb (by omega) (by omega) g1];rw[z1g];obtain⟨d1,d2⟩:=zkv (lo:=p) (hi:=e - 1) (by omega) (by omega);have l1:z162 s e (orS acc (ofS (e - 1+1 - p) p z4)):=zy6 hacc d1 (fun i hi=>by rw[d2 i hi];exact decide_eq_decide.2 (by omega)) (fun i h1 h2=>hin i h1 h2) (by omega);have hfu:S.length<(a+(zab brkB p++[(45:UInt8)]++zab brkB (e - 1)).length)+k:=by omega
           have hit:=zjy hs n (e+1) k (a+(zab brkB p++[(45:UInt8)]++zab brkB (e - 1)).length) _ (by omega) hfu (zmk l1 hend') g2;rw[hit];congr 1;simp only[List.length_append];omega
   . rw[zqs (by omega)] at h ⊢;obtain⟨k,rfl⟩:∃ k',k=k'+1:=⟨k - 1,by have:=h.1;omega⟩
     rw[z7g,isb h];rw[if_pos (show decide ((93:UInt8).toNat=93)=true by decide)];have:acc=s:=zey hacc.1 hs (fun b hb=>by rw[hacc.2 b hb,decide_eq_true (by omega),Bool.and_true]);rw[this];rfl
end
end Go.Proofs.YthgcpalmjcomlaaDoorLg
set_option linter.all false
set_option maxRecDepth 100000
namespace Go.Proofs.YthgcpalmjcomlaaDoorLg
noncomputable section
open Go Go.Lift Go.Proofs.YthgcpalmjcomlaaDoorPx
theorem less4 (N:Nat)(a b c d e f g h:Int):zay (N+5) [a,b,c,d] [e,f,g,h]=some (z10i [a,b,c,d] (zuk [e,f,g,h])):=by kernel_rfl
theorem z12t {N:Nat}(hN:5<=N){s t:List Int}(hs:SetOk s)(ht:SetOk t):zay N s t=some (z10i s (zuk t)):=by
 obtain⟨k,rfl⟩:∃ k,N=k+5:=⟨N - 5,by omega⟩
 obtain⟨a,b,c,d,rfl,_⟩:=hs;obtain⟨e,f,g,h,rfl,_⟩:=ht;exact less4 ..
theorem z1c2 (N:Nat)(a b c d:Int):za0 (N+5) [a,b,c,d]=some (Go.IntKind.wrap .i64 (Go.IntKind.wrap .i64 (Go.IntKind.wrap .i64 (Go.IntKind.wrap .i64 (0+zv7 a)+zv7 b)+zv7 c)+zv7 d)):=by kernel_rfl
theorem z109 {N:Nat}(hN:5<=N){s:List Int}(hs:SetOk s):za0 N s=some ((zib s:Nat):Int):=by
 obtain⟨k,rfl⟩:∃ k,N=k+5:=⟨N - 5,by omega⟩
 obtain⟨a,b,c,d,rfl,ha,hb,hc,hd⟩:=hs;have h:=zvz [a,b,c,d];rw[zw0 rfl] at h;rw[z1c2,zrc ha,zrc hb,zrc hc,zrc hd,zw0 rfl];generalize pop 64 a.toNat=p at *;generalize pop 64 b.toNat=q at *;generalize pop 64 c.toNat=r at *;generalize pop 64 d.toNat=t at *;rw[z5u (x:=0+(p:Int)) (by unfold I64;omega),z5u (x:=0+(p:Int)+q) (by unfold I64;omega),z5u (x:=0+(p:Int)+q+r) (by unfold I64;omega),
  z5u (by unfold I64;omega)]
 congr 1;omega
theorem zl8 {N:Nat}(hN:5<=N){s:List Int}(hs:SetOk s):z1e N s=some (zat s 256 0):=by
 obtain⟨k,rfl⟩:∃ k,N=k+5:=⟨N - 5,by omega⟩
 exact zyf k hs
theorem wrapS {a:Nat}(h:a<=100000):IntKind.wrap .i64 ((a:Int)+1)=((a+1:Nat):Int):=by
 rw[show ((a:Int)+1)=((a+1:Nat):Int) from rfl];exact z5u (by unfold I64;omega)
theorem z10s {a:Nat}(h:a<256):IntKind.wrap .u8 (a:Int)=(a:Int):=zkd (by omega) (by omega)
theorem zmg (s t:List Int):eqD (T.arr 4 (T.int Go.IntKind.u64)) s t=decide (s=t):=by
 by_cases h:s=t
 . rw[h,decide_eq_true rfl];exact z13j t
 . rw[decide_eq_false h];cases hb:eqD (T.arr 4 (T.int Go.IntKind.u64)) s t with
   | false=>rfl
   | true=>exact absurd ((zj0 _ _ _ rfl).1 hb) h
theorem zyn {s:List Int}(hs:SetOk s)(h:zib s=0):s=[0,0,0,0]:=by
 refine zey hs z6b (fun b hb=>?_);rw[zbx];cases hh:hasS s b with
 | false=>rfl
 | true =>
   have hm:=(zhh s 256 0 b).2 ⟨by omega,by omega,hh⟩;have hl:=zjc s 256 0;simp only[Nat.zero_add] at hl;have hz:(zm4 s 256 0).length=0:=hl.trans h;rw[List.length_eq_zero_iff.1 hz] at hm;cases hm
theorem z13y {s:List Int}:zib [0,0,0,0]=0:=by
 rw[zw0 rfl];decide
end
end Go.Proofs.YthgcpalmjcomlaaDoorLg
set_option linter.all false
set_option maxRecDepth 100000
namespace Go.Proofs.YthgcpalmjcomlaaDoorLg
noncomputable section
open Go Go.Lift Go.Proofs.YthgcpalmjcomlaaDoorPx
theorem z1cz {f g:Nat->Bool} {p:Nat} (h:∀ i,p<=i->i<256->f i=g i):RT f p=RT g p:=by
 have hh:∀ k q,p<=q->zez f k q=zez g k q:=by
  intro k
  induction k with
  | zero=>intro q _;rfl
  | succ k ih =>
    intro q hq;rw[zez,zez];by_cases hq2:q<256
    . rw[if_pos hq2,if_pos hq2,zps (f:=f) (g:=g) (256 - q) q (fun i h1 h2=>h i (by omega) (by omega))];have:=(zf2 g (256 - q) q).1;rw[ih _ (by omega)]
    . rw[if_neg hq2,if_neg hq2]
 exact hh 257 p (Nat.le_refl _)
theorem zfd (s:List Int):∀ n b,(∃ c,b<=c/\c<b+n/\zat s n b=(c:Int)/\hasS s c=true/\∀ i,b<=i->i<c->hasS s i=false)\/(zat s n b=-1/\∀ i,b<=i->i<b+n->hasS s i=false)
 | 0,b=>.inr ⟨rfl,fun i h1 h2=>by omega⟩
 | n + 1,b=>by
   rw[zat];cases hb:hasS s b with
   | true=>exact .inl ⟨b,by omega,by omega,by rw[if_pos rfl],hb,fun i h1 h2=>by omega⟩
   | false =>
     rw[if_neg (by decide)];rcases zfd s n (b+1) with⟨c,h1,h2,h3,h4,h5⟩|⟨h1,h2⟩
     . refine .inl ⟨c,by omega,by omega,h3,h4,fun i h6 h7=>?_⟩;by_cases e:i=b
       . rw[e];exact hb
       . exact h5 i (by omega) h7
     . refine .inr ⟨h1,fun i h6 h7=>?_⟩;by_cases e:i=b
       . rw[e];exact hb
       . exact h2 i (by omega) (by omega)
theorem z11z {N:Nat}(hN:300<=N){s:List Int}(hs:SetOk s)(o:Unit×(List Int×Unit)){lo:Nat}(hl:lo<256)(hlo:hasS s lo=true)(k0:Int->Option (List UInt8)) :
 z9n N s o (lo:Int) (lo:Int) k0=k0 ((zdd (hasS s) (256 - lo) lo - 1:Nat):Int):=by
 rw[z9n,zgg];refine (zff (fun v=>∃ h:Nat,v=(h:Int)/\h<=255) (fun v=>256 - v.toNat) (fun v=>k0 ((zdd (hasS s) (255 - v.toNat) (v.toNat+1) - 1:Nat):Int)) ?_ N (lo:Int) ⟨lo,rfl,by omega⟩ (by simp only[Int.toNat_natCast];omega)).trans (by
  simp only[Int.toNat_natCast];rw[show 256 - lo=(255 - lo)+1 by omega,zdd,if_pos hlo])
 rintro _ r ⟨h,rfl,hh⟩ hr;simp only[Int.toNat_natCast];rw[zca,zcc];by_cases hlt:h<255
 . rw[z2a (decide_eq_true (by omega)),wrapS (by omega),z10s (by omega),z1hy N hs (by omega),Option.bind_some,show 255 - h=(254 - h)+1 by omega,zdd];cases hb:hasS s (h+1) with
   | true=>rw[cond_true,if_pos rfl,hr _ ⟨h+1,rfl,by omega⟩ (by simp only[Int.toNat_natCast];omega),Int.toNat_natCast,show 255 - (h+1)=254 - h by omega]
   | false=>rw[cond_false,if_neg (by decide),show h+1 - 1=h by omega]
 . rw[z6o (decide_eq_false (by omega)),show 255 - h=0 by omega,zdd,show h+1 - 1=h by omega]
theorem z15c (N:Nat){lo hi:Nat}(h:lo<=hi)(hh:hi<256):zcd N (lo:Int) (hi:Int)=some (zfr lo hi):=by
 have h1:=zk1 brkB lo;have h2:=zk1 brkB hi;have w:IntKind.wrap .u8 ((hi:Int) - (lo:Int))=((hi - lo:Nat):Int):=by
  rw[show ((hi:Int) - (lo:Int))=((hi - lo:Nat):Int) by omega];exact z10s (by omega)
 rw[zcd,show ([(92:UInt8),(91:UInt8),(93:UInt8),(45:UInt8),(94:UInt8)]:List UInt8)=brkB from rfl,zo8 N (by omega),Option.bind_some,zo8 N hh,Option.bind_some,w,zfr];by_cases e0:hi=lo
 . rw[z2a (beq_iff_eq.2 (by omega)),if_pos e0]
 rw[z6o (beq_eq_false_iff_ne.2 (by omega)),if_neg e0];by_cases e1:hi=lo+1
 . rw[z2a (beq_iff_eq.2 (by omega)),if_pos e1,z2a (decide_eq_true (by omega))]
 . rw[z6o (beq_eq_false_iff_ne.2 (by omega)),if_neg e1,z2a (decide_eq_true (by omega)),z2a (decide_eq_true (by simp only[List.length_append,List.length_cons,List.length_nil];omega))]
theorem z18p (N:Nat){o s:List UInt8}(h:o.length+s.length<=1000000):z1b N ((),(z3m o,())) s=some ((((s.length:Nat):Int),(Go.Value.nilIface,())),(((),(z3m (o++s),())),())):=by
 rw[z1b,show decide _=true from decide_eq_true (by simp[z3m];omega)];simp[z3m]
theorem z135 {s:List Int}{c:Nat}(hc:c<256)(h:hasS s c=true):1<=zib s:=by
 have hm:=(zhh s 256 0 c).2 ⟨by omega,by omega,h⟩;have hl:=zjc s 256 0;simp only[Nat.zero_add] at hl;have h2:0<(zm4 s 256 0).length:=List.length_pos_of_mem hm;have h3:(zm4 s 256 0).length=zib s:=hl;omega
theorem z163 {t:List Int} (ht:SetOk t) {c e n:Nat} (hn:n=e - c) (hce:c<e) (he:e<=256) (h4:hasS t c=true) (h5:∀ i,i<c->hasS t i=false) (hend:e<256->hasS t e=false) :
 SetOk (ofS n c [0,0,0,0])/\SetOk (z10i t (zuk (ofS n c [0,0,0,0])))/\zib (z10i t (zuk (ofS n c [0,0,0,0])))+1<=zib t/\RT (hasS (z10i t (zuk (ofS n c [0,0,0,0])))) 0=RT (hasS t) (e+1):=by
 have hof:=zv9 n c z6b (by omega);have hoh:∀ i,i<256->hasS (ofS n c [0,0,0,0]) i=decide (c<=i/\i<e):=fun i hi=>by
  rw[zya _ _ z6b (by omega) hi,zbx,Bool.false_or];exact decide_eq_decide.2 (by omega)
 generalize ofS n c [0,0,0,0]=u at *;have hno:=zxz hof;have hand:=z1nk ht hno;have hpar:=z10a ht hof;have hc1:1<=zib (z10i t u):=z135 (c:=c) (by omega) (by rw[zrp ht hof (by omega),h4,hoh c (by omega),decide_eq_true (by omega)];rfl);have hbit:∀ i,i<256->hasS (z10i t (zuk u)) i=(hasS t i && !decide (c<=i/\i<e)):=fun i hi=>by
  rw[zrp ht hno hi,zvp hof hi,hoh i hi]
 refine⟨hof,hand,by omega,?_⟩;generalize z10i t (zuk u)=t2 at *;by_cases h256:e<256
 . have hfe:=hend h256;have hz:∀ i,0<=i->i<0+(e+1)->hasS t2 i=false:=fun i _ hi=>by
    rw[hbit i (by omega)];by_cases g1:i<c
    . rw[h5 i g1];rfl
    . by_cases g2:i<e
      . rw[decide_eq_true (by omega)];simp
      . rw[show i=e by omega,hfe];rfl
   have h6:=zkb (f:=hasS t2) (e+1) 0 (by omega) hz;rw[Nat.zero_add] at h6;rw[h6];refine z1cz (fun i g1 g2=>?_);rw[hbit i g2,decide_eq_false (by omega)];simp
 . have hz:∀ i,0<=i->i<0+256->hasS t2 i=false:=fun i _ hi=>by
    rw[hbit i (by omega)];by_cases g1:i<c
    . rw[h5 i g1];rfl
    . rw[decide_eq_true (by omega)];simp
   have h6:=zkb (f:=hasS t2) 256 0 (by omega) hz;rw[Nat.zero_add] at h6;rw[h6,zqs (Nat.le_refl _),zqs (by omega)]
theorem zyx {f:Nat->Bool}{c:Nat}(hc:c<256)(h4:f c=true)(h5:∀ i,i<c->f i=false) :
 c<zdd f (256 - c) c/\RT f 0=zfr c (zdd f (256 - c) c - 1)++RT f (zdd f (256 - c) c+1):=by
 have hgt:c<zdd f (256 - c) c:=by
  rw[show 256 - c=(255 - c)+1 by omega,zdd,if_pos h4];have:=(zf2 f (255 - c) (c+1)).1;omega
 have h6:=zkb (f:=f) c 0 (by omega) (fun i _ h7=>h5 i (by omega));rw[Nat.zero_add] at h6;exact⟨hgt,by rw[h6,zs9 hc,if_pos hgt]⟩
theorem str14 (N:Nat){o:List UInt8}(h:o.length<=100000):(zsh (((),(z3m o,())),())).bind (fun y1=>some y1.1)=some o:=by
 have h2:zsh (((),(z3m o,())),())=some (o,(((),((),())),())):=by
  unfold zsh;dsimp only;rw[zpx,show decide _=true from decide_eq_true (by simp[z3m];omega),zkj];rfl
 rw[h2];rfl
theorem zzd {N:Nat}(hN:300<=N){t:List Int}(ht:SetOk t){o:List UInt8}(ho:o.length+9*zib t<=9*256){c:Nat}(hc:c<256)(h4:hasS t c=true)(h5:∀ i,i<c->hasS t i=false)
 (k0:List Int->(Unit×(List Int×Unit))->Option (List UInt8)) :
 ∃ t2,SetOk t2/\zib t2+1<=zib t/\∃ x:List UInt8,x.length<=9/\RT (hasS t) 0=x++RT (hasS t2) 0/\z9o N t ((),(z3m o,())) (c:Int) k0=k0 t2 ((),(z3m (o++x),())):=by
 obtain⟨hgt,hRT⟩:=zyx hc h4 h5;have he:=(zf2 (hasS t) (256 - c) c).2;have hend:=zr4 (hasS t) (256 - c) c;have hpe:=z11z (o:=((),(z3m o,()))) hN ht hc h4;generalize zdd (hasS t) (256 - c) c=e at *;obtain⟨g1,g2,g3,g4⟩:=z163 ht (n:=e - 1+1 - c) (by omega) hgt (by omega) h4 h5 (fun h=>hend (by omega));have hl:=zpr c (e - 1);have hcn:=z135 hc h4;refine⟨_,g2,g3,zfr c (e - 1),hl,by rw[g4];exact hRT,?_⟩;rw[z9o,hpe,z10s hc,z10s (by omega),z15c N (by omega) (by omega),Option.bind_some,z18p N (by omega),Option.bind_some,z129 N hc (by omega) (by omega),Option.bind_some,z12t (by omega) ht g1,Option.bind_some]
end
end Go.Proofs.YthgcpalmjcomlaaDoorLg
set_option linter.all false
set_option maxRecDepth 100000
namespace Go.Proofs.YthgcpalmjcomlaaDoorLg
noncomputable section
open Go Go.Lift Go.Proofs.YthgcpalmjcomlaaDoorPx
def appS (b:List Int)(f:Nat->Bool):List UInt8:=ze0 b++RT f 0
theorem z16y (f:Nat->Bool):appS [] f=RT f 0:=List.nil_append _
theorem zyr (o:List UInt8)(f:Nat->Bool):appS (z3m o) f=o++RT f 0:=by unfold appS;rw[zkj]
theorem z11g {N:Nat}(hN:300<=N){s:List Int}(hs:SetOk s):zak N s=some (RT (hasS s) 0):=by
 rw[zak,zl8 (by omega) hs,Option.bind_some,zgh];have hc0:=zvz s;refine (zff (fun v=>∃ (t:List Int) (o:List UInt8),v.1=t/\v.2.1=((),(z3m o,()))/\v.2.2=zat t 256 0/\SetOk t/\o.length+9*zib t<=9*256) (fun v=>zib v.1) (fun v=>some (appS v.2.1.2.1 (hasS v.1))) ?_ N (s,(((),([],())),zat s 256 0)) ⟨s,[],rfl,rfl,rfl,hs,by simp only[List.length_nil];omega⟩ (by simp only;omega)).trans (congrArg some (z16y (hasS s)));rintro⟨t',b',l'⟩ r ⟨t,o,e1,e2,e3,ht,ho⟩ hr;simp only at e1 e2 e3;subst e1 e2 e3;simp only;rw[zcb,zyr];rcases zfd t' 256 0 with⟨c,h1,h2,h3,h4,h5⟩|⟨h1,h2⟩
 . obtain⟨t2,q1,q2,x,q3,q4,q5⟩:=zzd hN ht ho (c:=c) (by omega) h4 (fun i hi=>h5 i (by omega) hi) (fun s1 out1=>(z1e N s1).bind fun y=>r (s1,out1,y));rw[h3,z2a (decide_eq_true (by omega)),q5,zl8 (by omega) q1,Option.bind_some,hr _ ⟨t2,o++x,rfl,rfl,rfl,q1,by rw[List.length_append];omega⟩ (by simp only;omega)];simp only;rw[zyr,q4,List.append_assoc]
 . have hz:=zkb (f:=hasS t') 256 0 (by omega) (fun i g1 g2=>h2 i g1 (by omega));rw[Nat.zero_add] at hz;rw[h1,z6o (decide_eq_false (by omega)),hz,zqs (Nat.le_refl _),List.append_nil];exact str14 N (by omega)
theorem z1my (N:Nat):z1z (N+300) 0 255=some [18446744073709551615,18446744073709551615,18446744073709551615,18446744073709551615]:=by kernel_rfl
theorem z121 (N:Nat):z3q (N+300) ([(48:UInt8),(49:UInt8),(50:UInt8),(51:UInt8),(52:UInt8),(53:UInt8),(54:UInt8),(55:UInt8),(56:UInt8),(57:UInt8)]:List UInt8)=some [287948901175001088,0,0,0]:=by kernel_rfl
theorem z1bv:SetOk [18446744073709551615,18446744073709551615,18446744073709551615,18446744073709551615]:=⟨_,_,_,_,rfl,zkh,zkh,zkh,zkh⟩
theorem zyc:((List.range 256).all fun b=>hasS [18446744073709551615,18446744073709551615,18446744073709551615,18446744073709551615] b)=true:=by decide +kernel
theorem zrw {f:Nat->Bool}:∀ n,cnt f n=n->∀ i,i<n->f i=true
 | 0,_,i,h=>by omega
 | n + 1,h,i,hi=>by
   rw[cnt] at h;have h1:=z13z f n;have h2:(f n).toNat<=1:=by cases f n<;>decide
   by_cases e:i=n
   . subst e;cases hf:f i with
     | true=>rfl
     | false=>rw[hf] at h;simp at h;omega
   . exact zrw n (by omega) i (by omega)
theorem z140 {f:Nat->Bool}:∀ n,(∀ i,i<n->f i=true)->cnt f n=n
 | 0,_=>rfl
 | n+1,h=>by rw[cnt,z140 n (fun i hi=>h i (by omega)),h n (by omega)];rfl
theorem zyd {s:List Int}(hs:SetOk s):s=[18446744073709551615,18446744073709551615,18446744073709551615,18446744073709551615] ↔ zib s=256:=by
 constructor
 . rintro rfl;exact z140 256 (fun i hi=>zg4 zyc hi)
 . intro h;exact zey hs z1bv (fun b hb=>by rw[zrw 256 h b hb,zg4 zyc hb])
theorem z11t {N:Nat}(hN:300<=N){s:List Int}(hs:SetOk s):zce N s=some (zza s):=by
 have hc:=zvz s;have hrl:(RT (hasS s) 0).length<=9*257:=z14o _ _ _;have hrn:=z11g hN hs;obtain⟨k,rfl⟩:∃ k,N=k+300:=⟨N - 300,by omega⟩
 rw[zce,z109 (by omega) hs,Option.bind_some];unfold zza;by_cases h1:zib s=1
 . rw[z2a (beq_iff_eq.2 (by omega)),if_pos h1,zl8 (by omega) hs,Option.bind_some];rcases zfd s 256 0 with⟨c,h2,h3,h4,h5,h6⟩|⟨h2,h3⟩
   . rw[h4,z10s (by omega),z149 _ (by omega),Option.bind_some,Int.toNat_natCast]
   . exfalso;have hl:=zjc s 256 0;simp only[Nat.zero_add] at hl;have hz:(zm4 s 256 0).length=1:=hl.trans h1;obtain⟨c,hcl⟩:=List.length_eq_one_iff.1 hz;have hm:=(zhh s 256 0 c).1 (by rw[hcl];exact List.mem_singleton.2 rfl);rw[h3 c (by omega) (by omega)] at hm;exact absurd hm.2.2 (by decide)
 rw[z6o (beq_eq_false_iff_ne.2 (by omega)),if_neg h1,z1my,Option.bind_some,zmg];by_cases h256:zib s=256
 . rw[decide_eq_true ((zyd hs).2 h256),cond_true,if_pos h256]
 rw[decide_eq_false (fun e=>h256 ((zyd hs).1 e)),cond_false,if_neg h256,z121,Option.bind_some,zmg];by_cases hd:s=[287948901175001088,0,0,0]
 . rw[decide_eq_true hd,cond_true,if_pos hd]
 rw[decide_eq_false hd,cond_false,if_neg hd];refine (congrArg (fun o:Option (List Int)=>o.bind _) (show z3q (k+300) _=some [287948901175001088,576460745995190270,0,0] by kernel_rfl)).trans ?_;rw[Option.bind_some,zmg];by_cases hw:s=[287948901175001088,576460745995190270,0,0]
 . rw[decide_eq_true hw,cond_true,if_pos hw]
 rw[decide_eq_false hw,cond_false,if_neg hw,zmg];by_cases h0:zib s=0
 . rw[decide_eq_true (zyn hs h0),cond_true,if_pos h0]
 . have hne:s≠[0,0,0,0]:=fun e=>h0 (by rw[e];exact z13y (s:=s))
   rw[decide_eq_false hne,cond_false,if_neg h0,hrn,Option.bind_some,z2a (decide_eq_true (by omega)),z2a (decide_eq_true (by simp only[List.length_append,List.length_cons,List.length_nil];omega))]
end
end Go.Proofs.YthgcpalmjcomlaaDoorLg
set_option linter.all false
set_option maxRecDepth 100000
namespace Go.Proofs.YthgcpalmjcomlaaDoorLg
noncomputable section
open Go Go.Lift Go.Proofs.YthgcpalmjcomlaaDoorPx
def zvb (n:Nat):List UInt8:=if n<10 then [UInt8.ofNat (48+n)] else [UInt8.ofNat (48+n / 10),UInt8.ofNat (48+n % 10)]
def zbo (lo hi:Int):List UInt8 :=
 if lo=0/\hi=-1 then [42] else if lo=1/\hi=-1 then [43] else if lo=0/\hi=1 then [63] else if hi=lo then [123]++zvb lo.toNat++[125] else if hi=-1 then [123]++zvb lo.toNat++[44,125] else
 [123]++zvb lo.toNat++[44]++zvb hi.toNat++[125]
theorem zzl (N:Nat):((List.range 17).all fun lo=>(List.range 18).all fun h=>z9m (N+20) (lo:Int) ((h:Int) - 1) == some (zbo (lo:Int) ((h:Int) - 1)))=true:=by kernel_rfl
theorem zv2 {N:Nat}(hN:20<=N){lo hi:Int}(h:zlj lo hi=true):z9m N lo hi=some (zbo lo hi):=by
 obtain⟨k,rfl⟩:∃ k,N=k+20:=⟨N - 20,by omega⟩
 unfold zlj at h;rw[decide_eq_true_eq] at h;obtain⟨a,rfl⟩:∃ a:Nat,lo=(a:Int):=⟨lo.toNat,by omega⟩
 obtain⟨b,rfl⟩:∃ b:Nat,hi=(b:Int) - 1:=⟨(hi+1).toNat,by omega⟩
 have h1:=zg4 (zzl k) (b:=a) (by omega);exact beq_iff_eq.1 (zg4 h1 (b:=b) (by omega))
theorem zxy (n:Nat):(zvb n).length<=2:=by unfold zvb;split<;>simp
theorem zsf (lo hi:Int):(zbo lo hi).length<=7:=by
 have h1:=zxy lo.toNat;have h2:=zxy hi.toNat;unfold zbo;split
 . simp
 . split
   . simp
   . split
     . simp
     . split
       . simp only[List.length_append,List.length_cons,List.length_nil];omega
       . split<;>simp only[List.length_append,List.length_cons,List.length_nil]<;>omega
def zav (k kk:Int):Bool:=decide ((k=2/\kk=3)\/(k=4/\kk≠1))
theorem z105 (N:Nat) (a b:Int) (r s:List Int×(List Tree×(Int×(Int×Unit)))):z28 N (a,r) (b,s)=some (zav a b):=by
 unfold z28 zav;simp only[Bool.cond_eq_ite,beq_iff_eq];by_cases h2:a=2
 . rw[if_pos h2];by_cases h3:b=3
   . rw[if_pos h3,decide_eq_true (.inl ⟨h2,h3⟩)]
   . rw[if_neg h3,if_neg (by omega),decide_eq_false (by omega)]
 . rw[if_neg h2];by_cases h4:a=4
   . rw[if_pos h4];congr 1;by_cases h1:b=1
     . rw[h1,decide_eq_false (by omega)];rfl
     . rw[decide_eq_true (.inr ⟨h4,h1⟩)];exact bne_iff_ne.2 h1
   . rw[if_neg h4,decide_eq_false (by omega)]
theorem z13m (N:Nat)(n k:NodT.den):z28 N n k=some (zav n.1 k.1):=z105 N n.1 k.1 n.2 k.2
def zp1 (e:Bool)(s:List UInt8):List UInt8:=if e=true then [40]++s++[41] else s
def zqo (k:Int)(i:Nat):List UInt8:=if k=3/\0<i then [124] else []
def z13l (k:Int)(st:List Int)(lo hi:Int):List UInt8:=if k=1 then zza st else if k=4 then zbo lo hi else []
mutual
def zaz:Tree->List UInt8
 | .mk k st ks lo hi=>zg6 ks k 0++z13l k st lo hi
def zg6:List Tree->Int->Nat->List UInt8
 | [],_,_=>[]
 | x::xs,k,i=>zqo k i++(zp1 (zav k (z2e x)) (zaz x)++zg6 xs k (i+1))
end
mutual
def zk3:Tree->Nat
 | .mk k _ ks _ _=>zk4 ks k
def zk4:List Tree->Int->Nat
 | [],_=>0
 | x::xs,k=>max (zk3 x+(zav k (z2e x)).toNat) (zk4 xs k)
end
theorem z16t (k:Int)(i:Nat):(zqo k i).length<=1:=by unfold zqo;split<;>simp
theorem z16h (k:Int)(st:List Int)(lo hi:Int):(z13l k st lo hi).length<=2400:=by
 have:=z159 st;have:=zsf lo hi;unfold z13l;split
 . omega
 . split
   . omega
   . simp
end
end Go.Proofs.YthgcpalmjcomlaaDoorLg
set_option linter.all false
set_option maxRecDepth 100000
namespace Go.Proofs.YthgcpalmjcomlaaDoorLg
noncomputable section
open Go Go.Lift Go.Proofs.YthgcpalmjcomlaaDoorPx
abbrev PSt:=List UInt8×(Int×(Int×Unit))
@[reducible] def pst (s:List UInt8) (a o:Nat):PSt:=(s,((a:Int),((o:Int),())))
def okP {α β:Type}(s:List UInt8)(o:Nat)(f:α->β):PR α->Option (β×(PSt×Unit))
 | .ok x a=>some (f x,(pst s a o,()))
 | .bad ..=>none
def zdk {α:Type}:PR α->Option (Int×(Int×Unit))
 | .bad e a=>some (e,((a:Int),()))
 | .ok ..=>none
theorem zig {a:Nat}(h:a<=100000):IntKind.wrap .i64 ((a:Int)+1)=((a+1:Nat):Int):=by
 rw[show ((a:Int)+1)=((a+1:Nat):Int) from rfl];exact z5u (by unfold I64;omega)
theorem zeo (s:List UInt8)(a:Nat):(((UInt8.toNat (List.getD s (Int.toNat (a:Int)) (0:UInt8))):Nat):Int)=(gb s a:Int):=by rw[Int.toNat_natCast];rfl
theorem ztl (s:List UInt8)(a:Nat):gb s a<256:=(s.getD a 0).toNat_lt
theorem eqI (a b:Nat):(((a:Int)) == (b:Int))=decide (a=b):=by
 by_cases h:a=b
 . subst h;simp
 . rw[decide_eq_false h];simp;omega
theorem zel {s:List UInt8}{a:Nat}(h:a<s.length):inR (a:Int) s.length=true:=zb8 h
theorem zi8 (N:Nat){s:List UInt8}{a:Nat}(o:Nat)(ha:a<=s.length) :
 z14 N (pst s a o)=okP s o (fun b:Nat=>(b:Int)) (z8q s a)/\z1j N (pst s a o)=zdk (z8q s a):=by
 unfold z14 z86 z1j z57 pst z8q;dsimp only;rw[eqI];rcases Nat.lt_or_ge a s.length with h|h
 . rw[decide_eq_false (by omega),if_pos h];simp only[cond_false];rw[zel h,zeo];exact⟨rfl,rfl⟩
 . have e:a=s.length:=by omega
   rw[decide_eq_true e,if_neg (by omega)];subst e;exact⟨rfl,rfl⟩
theorem zlk (N:Nat){s:List UInt8}{a:Nat}(o b:Nat)(ha:a<=s.length)(hs:s.length<=256) :
 zu N (pst s a o) (b:Int)=some (isB s a b,(pst s (cond (isB s a b) (a+1) a) o,())):=by
 unfold zu z82 z81 pst isB;dsimp only;rw[eqI];rcases Nat.lt_or_ge a s.length with h|h
 . rw[decide_eq_false (by omega),decide_eq_true h];simp only[cond_false,Bool.true_and];rw[zel h,zeo,zig (by omega)];simp only[cond_true,bne,eqI];by_cases hb:gb s a=b
   . rw[decide_eq_true hb];simp[hb]
   . rw[decide_eq_false hb];have h2:(gb s a == b)=false:=by simpa using hb
     simp[h2]
 . have e:a=s.length:=by omega
   rw[decide_eq_true e,decide_eq_false (by omega)];rfl
theorem znr (N:Nat){s:List UInt8}{a:Nat}(o b:Nat)(ha:a<=s.length)(hs:s.length<=256) :
 zw N (pst s a o) (b:Int)=okP s o (fun _:Unit=>()) (zcz s a b)/\z18 N (pst s a o) (b:Int)=zdk (zcz s a b):=by
 unfold zw z87 z18 z58 zcz;rw[(zi8 N o ha).1,(zi8 N o ha).2];cases h:z8q s a with
 | bad e c=>exact⟨rfl,rfl⟩
 | ok x c =>
   obtain⟨h1,rfl,rfl⟩:=zb3 h;simp only[okP,zdk,PR.next,Option.bind_some,orP,bne,eqI,pst];by_cases hb:gb s c=b
   . rw[decide_eq_true hb,if_pos hb,zig (by omega)];exact⟨rfl,rfl⟩
   . rw[decide_eq_false hb,if_neg hb];exact⟨rfl,rfl⟩
theorem zld (N b:Nat):z50 N (b:Int)=some (zj2 b):=by
 unfold z50 zj2;by_cases h:48<=b
 . rw[decide_eq_true (by omega),decide_eq_true h];simp only[cond_true,Bool.true_and];congr 1;exact decide_eq_decide.2 (by omega)
 . rw[decide_eq_false (by omega),decide_eq_false h];rfl
theorem zz0 {x:Int}(h:0<=x)(h2:x<256):IntKind.wrap .u8 x=x:=by
 show x % 256=x;omega
theorem z1hx (N:Nat) {s:List UInt8} {a:Nat} (o fr:Nat) (ha:a<=s.length) (hs:s.length<=256) :
 z3d N (pst s a o) (fr:Int)=okP s o (fun b:Nat=>(b:Int)) (zul s fr a)/\z39 N (pst s a o) (fr:Int)=zdk (zul s fr a):=by
 unfold z3d z39 zul;rw[(zi8 N o ha).1,(zi8 N o ha).2];cases h:z8q s a with
 | bad e c=>exact⟨rfl,rfl⟩
 | ok x c =>
   obtain⟨h1,rfl,rfl⟩:=zb3 h;have hl:=ztl s c;simp only[okP,zdk,PR.next,Option.bind_some,orP,zld,pst];cases hd:zj2 (gb s c) with
   | true =>
     have hd':48<=gb s c/\gb s c<=57:=by simpa[zj2] using hd
     simp only[cond_true,if_true];rw[zig (by omega),zz0 (by omega) (by omega),show ((gb s c:Int) - 48)=((gb s c - 48:Nat):Int) by omega];exact⟨rfl,by first|rfl|trivial⟩
   | false =>
     simp only[cond_false,Bool.false_eq_true,if_false];unfold z93 z92 z62 z61;by_cases h2:97<=gb s c/\gb s c<=102
     . rw[if_pos h2,decide_eq_false (by omega),decide_eq_false (by omega)];simp only[cond_false];rw[zig (by omega),zz0 (x:=(gb s c:Int) - 97) (by omega) (by omega),zz0 (by omega) (by omega),show ((gb s c:Int) - 97+10)=((gb s c - 87:Nat):Int) by omega];exact⟨rfl,by first|rfl|trivial⟩
     . rw[if_neg h2];by_cases h3:(gb s c:Int)<97
       . rw[decide_eq_true h3];exact⟨rfl,rfl⟩
       . rw[decide_eq_false h3,decide_eq_true (show (102:Int)<gb s c by omega)];exact⟨rfl,rfl⟩
theorem zgu {N b:Nat}(hb:b<256)(hN:257<N):z1z N (b:Int) (b:Int)=some (z9l b):=by
 rw[z129 N hb hb hN,Nat.add_sub_cancel_left];rfl
theorem z13h:((List.range 256).all fun b=>decide (Go.Lib.indexByte ([(92:UInt8),(46:UInt8),(91:UInt8),(93:UInt8),(40:UInt8),(41:UInt8),(123:UInt8),(125:UInt8),(124:UInt8),(42:UInt8),(43:UInt8),(63:UInt8),(45:UInt8),(94:UInt8)]:List UInt8) (Nat.toUInt8 b)<(0:Int)) == !(escapes.contains b))=true:=by kernel_rfl
theorem z1n4 {b:Nat}(hb:b<256):decide (Go.Lib.indexByte ([(92:UInt8),(46:UInt8),(91:UInt8),(93:UInt8),(40:UInt8),(41:UInt8),(123:UInt8),(125:UInt8),(124:UInt8),(42:UInt8),(43:UInt8),(63:UInt8),(45:UInt8),(94:UInt8)]:List UInt8) (Nat.toUInt8 (Int.toNat (b:Int)))<(0:Int))=!(escapes.contains b):=by
 have:=List.all_eq_true.1 z13h b (by simpa using hb);rw[Int.toNat_natCast];exact eq_of_beq this
theorem z117:((List.range 256).all fun b=>decide ((0:Int)<=Go.Lib.indexByte ([(92:UInt8),(46:UInt8),(91:UInt8),(93:UInt8),(40:UInt8),(41:UInt8),(123:UInt8),(125:UInt8),(124:UInt8),(42:UInt8),(43:UInt8),(63:UInt8)]:List UInt8) (Nat.toUInt8 b)) == specials.contains b)=true:=by kernel_rfl
theorem z17b {b:Nat}(hb:b<256):decide ((0:Int)<=Go.Lib.indexByte ([(92:UInt8),(46:UInt8),(91:UInt8),(93:UInt8),(40:UInt8),(41:UInt8),(123:UInt8),(125:UInt8),(124:UInt8),(42:UInt8),(43:UInt8),(63:UInt8)]:List UInt8) (Nat.toUInt8 (Int.toNat (b:Int))))=specials.contains b:=by
 have:=List.all_eq_true.1 z117 b (by simpa using hb);rw[Int.toNat_natCast];exact eq_of_beq this
theorem z12f:((List.range 16).all fun h=>(List.range 16).all fun l=>Go.Lift.bitsOp Go.BinOp.or Go.IntKind.u8 (Go.Lift.shlI Go.IntKind.u8 (h:Int) (4:Int)) (l:Int) == ((16*h+l:Nat):Int))=true:=by kernel_rfl
theorem z1he {h l:Nat}(hh:h<16)(hl:l<16):Go.Lift.bitsOp Go.BinOp.or Go.IntKind.u8 (Go.Lift.shlI Go.IntKind.u8 (h:Int) (4:Int)) (l:Int)=((16*h+l:Nat):Int):=by
 have:=List.all_eq_true.1 (List.all_eq_true.1 z12f h (by simpa using hh)) l (by simpa using hl);exact eq_of_beq this
theorem zy9 {s:List UInt8}{fr a x b:Nat}(h:zul s fr a=.ok x b):x<16:=by
 unfold zul at h;cases hn:z8q s a with
 | bad e c=>rw[hn] at h;cases h
 | ok y c =>
   rw[hn] at h;simp only[PR.next] at h;split at h
   . rename_i hd;cases h;simp[zj2] at hd;omega
   . split at h
     . cases h;omega
     . cases h
def sgF (r:Sg):List Int×(Bool×Unit):=(r.1,(r.2.1,()))
theorem z1n {α:Type}{s:List UInt8}{a x:Nat}{r:PR α}{y:α}(h:Ahead s a r)(e:r=.ok y x):a<=x/\x<=s.length:=by rw[e] at h;exact h
theorem z1bx (N:Nat) {s:List UInt8} {a:Nat} (o:Nat) (ha:a<s.length) (hb:gb s a=92) (hs:s.length<=256) (hN:300<=N) :
 z26 N (pst s a o)=okP s o sgF (zrh s a)/\z2b N (pst s a o)=zdk (zrh s a):=by
 have hneed:zcz s a 92=.ok () (a+1):=by
  unfold zcz z8q;rw[if_pos ha];simp only[PR.next,hb,if_true]
 unfold z26 z2b zrh;have q:=znr N o 92 (Nat.le_of_lt ha) hs;rw[hneed] at q;rw[show (92:Int)=((92:Nat):Int) from rfl,q.1,q.2];simp only[okP,zdk,Option.bind_some,orP];rw[(zi8 N o (show a+1<=s.length by omega)).1,(zi8 N o (show a+1<=s.length by omega)).2];cases h:z8q s (a+1) with
 | bad e c=>exact⟨rfl,rfl⟩
 | ok x c =>
   obtain⟨h1,rfl,rfl⟩:=zb3 h;have hl:=ztl s (a+1);simp only[okP,zdk,Option.bind_some,orP,PR.next,pst];unfold z6t z4m;rw[zig (by omega)];simp only[show (100:Int)=((100:Nat):Int) from rfl,show (119:Int)=((119:Nat):Int) from rfl,show (120:Int)=((120:Nat):Int) from rfl,eqI];by_cases e1:gb s (a+1)=100
   . rw[decide_eq_true e1,if_pos e1];simp only[cond_true];rw[show (48:Int)=((48:Nat):Int) from rfl,show (57:Int)=((57:Nat):Int) from rfl,z129 N (by omega) (by omega) (by omega)];exact⟨rfl,rfl⟩
   rw[decide_eq_false e1,if_neg e1];simp only[cond_false];by_cases e2:gb s (a+1)=119
   . rw[decide_eq_true e2,if_pos e2];simp only[cond_true];have ht:=z154 N zc3 (by decide) (by simp[zc3];omega);unfold zc3 at ht;rw[ht];exact⟨rfl,rfl⟩
   rw[decide_eq_false e2,if_neg e2];simp only[cond_false];by_cases e3:gb s (a+1)=120
   . rw[decide_eq_true e3,if_pos e3];simp only[cond_true];have q:=z1hx N o a (show a+1+1<=s.length by omega) hs;unfold pst at q;rw[q.1,q.2,show a+2=a+1+1 from rfl];cases hx:zul s a (a+1+1) with
     | bad e c=>exact⟨rfl,rfl⟩
     | ok x c =>
       have hc:=z1n (zo2 (Nat.le_of_lt ha) (a+1+1)) hx;have hx16:=zy9 hx;simp only[okP,zdk,Option.bind_some,orP,PR.next];have q:=z1hx N o a hc.2 hs;rw[q.1,q.2];cases hy:zul s a c with
       | bad e d=>exact⟨rfl,rfl⟩
       | ok y d =>
         have hy16:=zy9 hy;simp only[okP,zdk,Option.bind_some,orP,PR.next];rw[z1he hx16 hy16,zgu (by omega) (by omega)];exact⟨rfl,rfl⟩
   rw[decide_eq_false e3,if_neg e3,z1n4 hl];simp only[cond_false];cases e4:escapes.contains (gb s (a+1)) with
   | true =>
     simp only[Bool.not_true,cond_false,if_true];rw[zgu hl (by omega)];exact⟨rfl,rfl⟩
   | false=>exact⟨rfl,rfl⟩
theorem zxe (N:Nat){s:List UInt8}{a:Nat}(o:Nat)(ha:a<=s.length)(hs:s.length<=256)(hN:300<=N) :
 z2v N (pst s a o)=okP s o sgF (zgy s a)/\z2u N (pst s a o)=zdk (zgy s a):=by
 unfold z2v z2u zgy;rw[(zi8 N o ha).1,(zi8 N o ha).2];cases h:z8q s a with
 | bad e c=>exact⟨rfl,rfl⟩
 | ok x c =>
   obtain⟨h1,rfl,rfl⟩:=zb3 h;have hl:=ztl s c;simp only[okP,zdk,Option.bind_some,orP,PR.next];unfold z84 z56 z83 z55;simp only[show (92:Int)=((92:Nat):Int) from rfl,show (91:Int)=((91:Nat):Int) from rfl,show (93:Int)=((93:Nat):Int) from rfl,show (45:Int)=((45:Nat):Int) from rfl,show (94:Int)=((94:Nat):Int) from rfl,eqI];by_cases e1:gb s c=92
   . rw[decide_eq_true e1,if_pos e1];simp only[cond_true];have q:=z1bx N o h1 e1 hs hN;rw[q.1,q.2];cases hx:zrh s c with
     | bad e d=>exact⟨rfl,rfl⟩
     | ok x d=>exact⟨rfl,rfl⟩
   rw[decide_eq_false e1,if_neg e1];simp only[cond_false];by_cases f1:gb s c=91
   . rw[decide_eq_true f1,if_pos (by simp[f1])];exact⟨rfl,rfl⟩
   rw[decide_eq_false f1];by_cases f2:gb s c=93
   . rw[decide_eq_true f2,if_pos (by simp[f2])];exact⟨rfl,rfl⟩
   rw[decide_eq_false f2];by_cases f3:gb s c=45
   . rw[decide_eq_true f3,if_pos (by simp[f3])];exact⟨rfl,rfl⟩
   rw[decide_eq_false f3];by_cases f4:gb s c=94
   . rw[decide_eq_true f4,if_pos (by simp[f4])];exact⟨rfl,rfl⟩
   rw[decide_eq_false f4,if_neg (by simp[f1,f2,f3,f4])];simp only[cond_false];rw[zgu hl (by omega)];try unfold pst
   try simp only
   rw[zig (by omega)];exact⟨rfl,rfl⟩
theorem z4_ok:SetOk z4:=z6b
theorem zgb {b:Nat}(hb:b<256):SetOk (z9l b):=zv9 1 b z6b (by omega)
theorem ztb {b:Nat}(hb:b<256):zat (z9l b) 256 0=(b:Int):=by
 have hh:∀ c,c<256->hasS (z9l b) c=decide (b=c):=by
  intro c hc;unfold z9l z4;rw[zya 1 b z6b (by omega) hc,zbx];simp only[Bool.false_or];exact decide_eq_decide.2 (by omega)
 refine zmm (c:=b) (by rw[hh b hb];simp) 256 0 (Nat.zero_le _) (by omega) (fun i _ hi=>?_);rw[hh i (by omega)];exact decide_eq_false (by omega)
theorem zlw {N b:Nat}(hb:b<256)(hN:5<=N):z1e N (z9l b)=some (b:Int):=by
 obtain⟨k,rfl⟩:∃ k,N=k+5:=⟨N - 5,by omega⟩
 rw[zyf k (zgb hb),ztb hb]
def SgOk (r:Sg):Prop:=SetOk r.1/\(r.2.1=false->r.1=z9l r.2.2/\r.2.2<256)
theorem z13s:SetOk (ofS 10 48 z4):=zv9 10 48 z6b (by omega)
theorem z14x:SetOk (z1d8 zc3 z4):=z17h zc3 z6b
theorem z17x {s:List UInt8} {a:Nat} {r:Sg} {b:Nat} (h:zrh s a=.ok r b):SgOk r:=by
 unfold zrh at h;cases hn:z8q s (a+1) with
 | bad e c=>rw[hn] at h;cases h
 | ok y c =>
   obtain⟨_,rfl,rfl⟩:=zb3 hn;have hl:=ztl s (a+1);rw[hn] at h;simp only[PR.next] at h;split at h
   . cases h;exact⟨z13s,fun h=>by cases h⟩
   split at h
   . cases h;exact⟨z14x,fun h=>by cases h⟩
   split at h
   . cases hx:zul s a (a+2) with
     | bad e c=>rw[hx] at h;cases h
     | ok x c =>
       rw[hx] at h;simp only at h;cases hy:zul s a c with
       | bad e c=>rw[hy] at h;cases h
       | ok y d =>
         rw[hy] at h;simp only at h;cases h;have:=zy9 hx;have:=zy9 hy;exact⟨zgb (by omega),fun _=>⟨rfl,by show 16*x+y<256;omega⟩⟩
   split at h
   . cases h;exact⟨zgb hl,fun _=>⟨rfl,hl⟩⟩
   . cases h
theorem zqy {s:List UInt8}{a:Nat}{r:Sg}{b:Nat}(h:zgy s a=.ok r b):SgOk r:=by
 unfold zgy at h;cases hn:z8q s a with
 | bad e c=>rw[hn] at h;cases h
 | ok y c =>
   obtain⟨_,rfl,rfl⟩:=zb3 hn;have hl:=ztl s c;rw[hn] at h;simp only[PR.next] at h;split at h
   . exact z17x h
   split at h
   . cases h
   . cases h;exact⟨zgb hl,fun _=>⟨rfl,hl⟩⟩
theorem zdu {s:List UInt8} {a:Nat} {t:List Int} {b:Nat} (h:zei s a=.ok t b):SetOk t:=by
 unfold zei at h;cases hn:zgy s a with
 | bad e c=>rw[hn] at h;cases h
 | ok r c =>
   have h1:=zqy hn;rw[hn] at h;simp only[PR.next] at h;split at h
   . cases h;exact h1.1
   . rename_i hc;cases hm:zgy s (c+1) with
     | bad e d=>rw[hm] at h;cases h
     | ok q d =>
       have h2:=zqy hm;rw[hm] at h;simp only at h;split at h
       . cases h
       . rename_i hd;cases h;simp at hc hd;have e1:=h1.2 hc.1;have e2:=h2.2 hd.1;exact zv9 _ _ z6b (by omega)
theorem zth (N:Nat) {s:List UInt8} {a:Nat} (o:Nat) (ha:a<=s.length) (hs:s.length<=256) (hN:300<=N) :
 z2y N (pst s a o)=okP s o id (zei s a)/\z2x N (pst s a o)=zdk (zei s a):=by
 unfold z2y z2x zei;rw[(zxe N o ha hs hN).1,(zxe N o ha hs hN).2];cases h:zgy s a with
 | bad e c=>exact⟨rfl,rfl⟩
 | ok r c =>
   have hg:=zqy h;have hc:=z1n (zhl s a) h;simp only[okP,zdk,Option.bind_some,orP,PR.next];unfold z8b z8a z5c z5b z89 z88 z5a z59;obtain⟨st,cls,v⟩:=r;simp only[sgF];cases cls with
   | true=>exact⟨rfl,rfl⟩
   | false =>
     simp only[cond_false,Bool.false_or];obtain⟨e1,hv⟩:=hg.2 rfl;simp only at e1 hv;rw[show (45:Int)=((45:Nat):Int) from rfl,zlk N o 45 hc.2 hs];cases hb:isB s c 45 with
     | false=>exact⟨rfl,rfl⟩
     | true =>
       simp only[Option.bind_some,Bool.not_true,cond_true,cond_false,Bool.false_eq_true,if_false];have hlt:c+1<=s.length:=by simp[isB] at hb;omega
       rw[(zxe N o hlt hs hN).1,(zxe N o hlt hs hN).2];cases h2:zgy s (c+1) with
       | bad e d=>exact⟨rfl,rfl⟩
       | ok q d =>
         have hg2:=zqy h2;obtain⟨st2,cls2,v2⟩:=q;simp only[okP,zdk,Option.bind_some,orP,sgF];cases cls2 with
         | true=>exact⟨rfl,rfl⟩
         | false =>
           obtain⟨e2,hv2⟩:=hg2.2 rfl;simp only at e2 hv2;subst e1;subst e2;simp only[cond_false,Bool.false_or];rw[zlw hv (by omega),zlw hv2 (by omega)];simp only[Option.bind_some];by_cases hlt2:v2<v
           . rw[decide_eq_true hlt2,decide_eq_true (show (v2:Int)<v by omega)];exact⟨rfl,rfl⟩
           . rw[decide_eq_false hlt2,decide_eq_false (show ¬ (v2:Int)<v by omega)];simp only[cond_false];rw[zz0 (x:=(v:Int)) (by omega) (by omega),zz0 (x:=(v2:Int)) (by omega) (by omega),z129 N hv hv2 (by omega)];exact⟨rfl,rfl⟩
theorem z17j {N:Nat}(hN:5<=N){s t:List Int}(hs:SetOk s)(ht:SetOk t):zac N s t=some (orS s t):=by
 obtain⟨k,rfl⟩:∃ k,N=k+5:=⟨N - 5,by omega⟩
 exact or_eq k hs ht
theorem z19r {N:Nat}(hN:5<=N){s:List Int}(hs:SetOk s):z7j N s=some (zuk s):=by
 obtain⟨k,rfl⟩:∃ k,N=k+5:=⟨N - 5,by omega⟩
 exact z1hc k hs
theorem zrm {s:List UInt8}:∀ (k a:Nat) {acc t:List Int} {b:Nat},SetOk acc->z7g s k a acc=.ok t b->SetOk t
 | 0,a,acc,t,b,ha,h=>by cases h
 | k + 1,a,acc,t,b,ha,h=>by
   unfold z7g at h;split at h
   . cases h;exact ha
   . cases hi:zei s a with
     | bad e c=>rw[hi] at h;cases h
     | ok u c =>
       rw[hi] at h;exact zrm k c (z125 ha (zdu hi)) h
theorem zqa (N:Nat) {s:List UInt8} (o:Nat) (hs:s.length<=256) (hN:300<=N) (x2:List Int) (nt:Bool) (k0:PSt->List Int->Option (List Int×(PSt×Unit))):∀ (k N' a:Nat) (acc:List Int),k<=N'->a<=s.length->s.length<a+k->SetOk acc →
 iter (fun (v:(PSt×(List Int))) r=>z3z N x2 nt v.1 v.2 (fun p set_=>(r (p,set_))) k0) N' (pst s a o,acc)=match z7g s k a acc with | .ok t b=>k0 (pst s b o) t | .bad ..=>none
 | 0,N',a,acc,h1,h2,h3,h4=>by omega
 | k + 1,N',a,acc,h1,h2,h3,h4=>by
   obtain⟨M,rfl⟩:∃ M,N'=M+1:=⟨N' - 1,by omega⟩
   simp only[iter,z7g];unfold z3z;dsimp only;rw[show (93:Int)=((93:Nat):Int) from rfl,zlk N o 93 h2 hs];cases hb:isB s a 93 with
   | true=>rfl
   | false =>
     simp only[Option.bind_some,Bool.not_false,cond_true,cond_false,Bool.false_eq_true,if_false];rw[(zth N o h2 hs hN).1];cases hi:zei s a with
     | bad e c=>rfl
     | ok t c =>
       have hc:=z1n (zaa s a) hi;simp only[okP,Option.bind_some,PR.next,id];rw[z17j (by omega) h4 (zdu hi)];simp only[Option.bind_some];exact zqa N o hs hN x2 nt k0 k M c _ (by omega) hc.2 (by omega) (z125 h4 (zdu hi))
theorem zo0 (N:Nat) {s:List UInt8} (o:Nat) (hs:s.length<=256) (hN:300<=N) (x2:List Int) (nt:Bool) (k0:(Int×(Int×Unit))->Option (Int×(Int×Unit))) (k1:PSt->List Int->Option (Int×(Int×Unit))):∀ (k N' a:Nat) (acc:List Int),k<=N'->a<=s.length->s.length<a+k->SetOk acc →
 iter (fun (v:(PSt×(List Int))) r=>z30 N x2 nt v.1 v.2 (fun p set_=>(r (p,set_))) k0 k1) N' (pst s a o,acc)=match z7g s k a acc with | .ok t b=>k1 (pst s b o) t | .bad e c=>k0 (e,((c:Int),()))
 | 0,N',a,acc,h1,h2,h3,h4=>by omega
 | k + 1,N',a,acc,h1,h2,h3,h4=>by
   obtain⟨M,rfl⟩:∃ M,N'=M+1:=⟨N' - 1,by omega⟩
   simp only[iter,z7g];unfold z30;dsimp only;rw[show (93:Int)=((93:Nat):Int) from rfl,zlk N o 93 h2 hs];cases hb:isB s a 93 with
   | true=>rfl
   | false =>
     simp only[Option.bind_some,Bool.not_false,cond_true,cond_false,Bool.false_eq_true,if_false];rw[(zth N o h2 hs hN).1,(zth N o h2 hs hN).2];cases hi:zei s a with
     | bad e c=>rfl
     | ok t c =>
       have hc:=z1n (zaa s a) hi;simp only[okP,zdk,orP,Option.bind_some,PR.next,id];rw[z17j (by omega) h4 (zdu hi)];simp only[Option.bind_some];exact zo0 N o hs hN x2 nt k0 k1 k M c _ (by omega) hc.2 (by omega) (z125 h4 (zdu hi))
theorem zvd {s:List UInt8}{a b:Nat}(ha:a<s.length)(hb:gb s a=b):zcz s a b=.ok () (a+1):=by
 unfold zcz z8q;rw[if_pos ha];simp only[PR.next,hb,if_true]
theorem zqm (N:Nat) {s:List UInt8} {a:Nat} (o:Nat) (ha:a<s.length) (hb:gb s a=91) (hs:s.length<=256) (hN:300<=N) :
 z2z N (pst s a o)=okP s o id (zbl s (a+1))/\z2j N (pst s a o)=zdk (zbl s (a+1)):=by
 unfold z2z z2j zbl;have q:=znr N o 91 (Nat.le_of_lt ha) hs;rw[zvd ha hb] at q;rw[show (91:Int)=((91:Nat):Int) from rfl,q.1,q.2];simp only[okP,zdk,orP,Option.bind_some];rw[show (94:Int)=((94:Nat):Int) from rfl,zlk N o 94 (show a+1<=s.length by omega) hs];simp only[Option.bind_some];have e:(cond (isB s (a+1) 94) (a+1+1) (a+1))=(if isB s (a+1) 94=true then a+1+1 else a+1):=by cases isB s (a+1) 94<;>rfl
 rw[e];have hle:(if isB s (a+1) 94=true then a+1+1 else a+1)<=s.length:=by
  split
  . rename_i h;simp[isB] at h;omega
  . omega
 generalize (if isB s (a+1) 94=true then a+1+1 else a+1)=a1 at hle;rw[(zth N o hle hs hN).1,(zth N o hle hs hN).2];cases hi:zei s a1 with
 | bad e c=>exact⟨rfl,rfl⟩
 | ok t c =>
   have hc:=z1n (zaa s a1) hi;simp only[okP,zdk,orP,Option.bind_some,PR.next,id];unfold z9h z6x;rw[zqa N o hs hN _ _ _ (s.length+1) N c t (by omega) hc.2 (by omega) (zdu hi),zo0 N o hs hN _ _ _ _ (s.length+1) N c t (by omega) hc.2 (by omega) (zdu hi)];cases hm:z7g s (s.length+1) c t with
   | bad e d=>exact⟨rfl,rfl⟩
   | ok acc d =>
     have hk:=zrm _ _ (zdu hi) hm;simp only;cases isB s (a+1) 94 with
     | true =>
       simp only[cond_true,if_true];rw[z19r (by omega) hk];exact⟨rfl,rfl⟩
     | false=>exact⟨rfl,rfl⟩
theorem zxw {v b:Nat}(hv:v<=17)(hb:48<=b)(hb2:b<=57) :
 (if ((17:Int)<(Go.IntKind.wrap Go.IntKind.i64 ((Go.IntKind.wrap Go.IntKind.i64 ((10:Int)*(v:Int)))+(Go.IntKind.wrap Go.IntKind.i64 (Go.IntKind.wrap Go.IntKind.u8 ((b:Int) - (48:Int))))))) then (17:Int) else (Go.IntKind.wrap Go.IntKind.i64 ((Go.IntKind.wrap Go.IntKind.i64 ((10:Int)*(v:Int)))+(Go.IntKind.wrap Go.IntKind.i64 (Go.IntKind.wrap Go.IntKind.u8 ((b:Int) - (48:Int)))))))=((min (10*v+(b - 48)) 17:Nat):Int):=by
 rw[zz0 (by omega) (by omega),z5u (x:=(b:Int) - 48) (by unfold I64;omega),z5u (x:=10*(v:Int)) (by unfold I64;omega),z5u (by unfold I64;omega)];split<;>omega
theorem z15u (N:Nat){s:List UInt8}{a v:Nat}(fr:Int)(o:Nat)(hs:s.length<=256)(hv:v<=17)(h:a<s.length)(hd:zj2 (gb s a)=true)(rec:PSt->Int->Option (Int×(PSt×Unit)))(k0:PSt->Int->Option (Int×(PSt×Unit))) :
 z2r N fr (pst s a o) (v:Int) rec k0=rec (pst s (a+1) o) ((min (10*v+(gb s a - 48)) 17:Nat):Int):=by
 unfold z2r z5w pst;dsimp only;have hd':48<=gb s a/\gb s a<=57:=by simpa[zj2] using hd
 rw[decide_eq_true (show (a:Int)<(s.length:Int) by omega),zel h,zeo,zld,hd];simp only[cond_true,Option.bind_some];rw[zig (by omega),zxw hv hd'.1 hd'.2]
theorem z15s (N:Nat){s:List UInt8}{a v:Nat}(fr:Int)(o:Nat)(hn:¬ (a<s.length/\zj2 (gb s a)=true))(rec:PSt->Int->Option (Int×(PSt×Unit)))(k0:PSt->Int->Option (Int×(PSt×Unit))) :
 z2r N fr (pst s a o) (v:Int) rec k0=k0 (pst s a o) (v:Int):=by
 unfold z2r z5w pst;dsimp only;rcases Nat.lt_or_ge a s.length with h|h
 . rw[decide_eq_true (show (a:Int)<(s.length:Int) by omega),zel h,zeo,zld];have hd:zj2 (gb s a)=false:=by
    cases hd:zj2 (gb s a) with
    | true=>exact absurd ⟨h,hd⟩ hn
    | false=>rfl
   rw[hd];rfl
 . rw[decide_eq_false (show ¬ (a:Int)<(s.length:Int) by omega)];rfl
theorem zsq (N:Nat){s:List UInt8}(fr:Int)(o:Nat)(hs:s.length<=256)(k0:PSt->Int->Option (Int×(PSt×Unit))):∀ (k N' a v:Nat),k<=N'->a<=s.length->s.length<a+k->v<=17 →
 iter (fun (v:(PSt×Int)) r=>z2r N fr v.1 v.2 (fun p n=>(r (p,n))) k0) N' (pst s a o,(v:Int))=k0 (pst s (z7n s k a v).2 o) ((z7n s k a v).1:Int)
 | 0,N',a,v,h1,h2,h3,h4=>by omega
 | k + 1,N',a,v,h1,h2,h3,h4=>by
   obtain⟨M,rfl⟩:∃ M,N'=M+1:=⟨N' - 1,by omega⟩
   rw[iter];dsimp only;by_cases hc:a<s.length/\zj2 (gb s a)=true
   . rw[z15u N fr o hs h4 hc.1 hc.2,zsq N fr o hs k0 k M (a+1) _ (by omega) (by omega) (by omega) (Nat.min_le_right _ _)]
     conv=>rhs;rw[z7n,if_pos hc]
   . rw[z15s N fr o hc]
     conv=>rhs;rw[z7n,if_neg hc]
theorem z12c (N:Nat){s:List UInt8}{a v:Nat}(fr:Int)(o:Nat)(hs:s.length<=256)(hv:v<=17)(h:a<s.length)(hd:zj2 (gb s a)=true)(rec:PSt->Int->Option (Int×(Int×Unit)))(k0:PSt->Int->Option (Int×(Int×Unit))) :
 z1t N fr (pst s a o) (v:Int) rec k0=rec (pst s (a+1) o) ((min (10*v+(gb s a - 48)) 17:Nat):Int):=by
 unfold z1t z42 pst;dsimp only;have hd':48<=gb s a/\gb s a<=57:=by simpa[zj2] using hd
 rw[decide_eq_true (show (a:Int)<(s.length:Int) by omega),zel h,zeo,zld,hd];simp only[cond_true,Option.bind_some];rw[zig (by omega),zxw hv hd'.1 hd'.2]
theorem z12b (N:Nat){s:List UInt8}{a v:Nat}(fr:Int)(o:Nat)(hn:¬ (a<s.length/\zj2 (gb s a)=true))(rec:PSt->Int->Option (Int×(Int×Unit)))(k0:PSt->Int->Option (Int×(Int×Unit))) :
 z1t N fr (pst s a o) (v:Int) rec k0=k0 (pst s a o) (v:Int):=by
 unfold z1t z42 pst;dsimp only;rcases Nat.lt_or_ge a s.length with h|h
 . rw[decide_eq_true (show (a:Int)<(s.length:Int) by omega),zel h,zeo,zld];have hd:zj2 (gb s a)=false:=by
    cases hd:zj2 (gb s a) with
    | true=>exact absurd ⟨h,hd⟩ hn
    | false=>rfl
   rw[hd];rfl
 . rw[decide_eq_false (show ¬ (a:Int)<(s.length:Int) by omega)];rfl
theorem zpl (N:Nat){s:List UInt8}(fr:Int)(o:Nat)(hs:s.length<=256)(k0:PSt->Int->Option (Int×(Int×Unit))):∀ (k N' a v:Nat),k<=N'->a<=s.length->s.length<a+k->v<=17 →
 iter (fun (v:(PSt×Int)) r=>z1t N fr v.1 v.2 (fun p n=>(r (p,n))) k0) N' (pst s a o,(v:Int))=k0 (pst s (z7n s k a v).2 o) ((z7n s k a v).1:Int)
 | 0,N',a,v,h1,h2,h3,h4=>by omega
 | k + 1,N',a,v,h1,h2,h3,h4=>by
   obtain⟨M,rfl⟩:∃ M,N'=M+1:=⟨N' - 1,by omega⟩
   rw[iter];dsimp only;by_cases hc:a<s.length/\zj2 (gb s a)=true
   . rw[z12c N fr o hs h4 hc.1 hc.2,zpl N fr o hs k0 k M (a+1) _ (by omega) (by omega) (by omega) (Nat.min_le_right _ _)]
     conv=>rhs;rw[z7n,if_pos hc]
   . rw[z12b N fr o hc]
     conv=>rhs;rw[z7n,if_neg hc]
theorem z15t (N:Nat) {s:List UInt8} {a:Nat} (o:Nat) (ha:a<=s.length) (hs:s.length<=256) (hN:300<=N) :
 z3c N (pst s a o)=okP s o (fun v:Nat=>(v:Int)) (zsa s a)/\z38 N (pst s a o)=zdk (zsa s a):=by
 unfold z3c z38 z91 z60 zsa;rw[(zi8 N o ha).1,(zi8 N o ha).2];cases h:z8q s a with
 | bad e c=>exact⟨rfl,rfl⟩
 | ok x c =>
   obtain⟨h1,rfl,rfl⟩:=zb3 h;simp only[okP,zdk,orP,Option.bind_some,PR.next,zld];cases hd:zj2 (gb s c) with
   | false=>exact⟨rfl,rfl⟩
   | true =>
     simp only[Bool.not_true,cond_false,if_true];unfold z90 zci z5z z9q;rw[show (0:Int)=((0:Nat):Int) from rfl,zsq N _ o hs _ (s.length+1) N c 0 (by omega) ha (by omega) (by omega),zpl N _ o hs _ (s.length+1) N c 0 (by omega) ha (by omega) (by omega)];generalize hq:z7n s (s.length+1) c 0=q;obtain⟨v,b⟩:=q;unfold z8z z8y z5y z5x;simp only[pst];rw[zel h1,zeo];simp only[zig (show c<=100000 by omega),cond_true,show (48:Int)=((48:Nat):Int) from rfl,eqI];by_cases h48:gb s c=48
     . rw[decide_eq_true h48];simp only[cond_true];by_cases hb:c+1<b
       . rw[decide_eq_true (show ((c+1:Nat):Int)<(b:Int) by omega),if_pos ⟨h48,hb⟩];exact⟨rfl,rfl⟩
       . rw[decide_eq_false (show ¬ ((c+1:Nat):Int)<(b:Int) by omega),if_neg (fun h=>hb h.2)];simp only[cond_false];by_cases hv:16<v
         . rw[decide_eq_true (show (16:Int)<(v:Int) by omega),if_pos hv];exact⟨rfl,rfl⟩
         . rw[decide_eq_false (show ¬ (16:Int)<(v:Int) by omega),if_neg hv];exact⟨rfl,rfl⟩
     . rw[decide_eq_false h48,if_neg (fun h=>h48 h.1)];simp only[cond_false];by_cases hv:16<v
       . rw[decide_eq_true (show (16:Int)<(v:Int) by omega),if_pos hv];exact⟨rfl,rfl⟩
       . rw[decide_eq_false (show ¬ (16:Int)<(v:Int) by omega),if_neg hv];exact⟨rfl,rfl⟩
def lhF (x:Int×Int):Int×(Int×Unit):=(x.1,(x.2,()))
theorem z1n3 (N:Nat){s:List UInt8}{a:Nat}(o lo hi fr:Nat)(ha:a<=s.length)(hs:s.length<=256) :
 z4i N (pst s a o) (lo:Int) (hi:Int) (fr:Int) ((zw N (pst s a o) (125:Int)).bind fun y1=>some (((lo:Int),((hi:Int),())),(y1.2.1,())))=okP s o lhF (zy5 s lo hi fr a) ∧
 z3g N (pst s a o) (lo:Int) (hi:Int) (fr:Int) (fun p4=>some p4) (orP (z18 N (pst s a o) (125:Int)) (fun z1=>some z1) ((zw N (pst s a o) (125:Int)).bind fun y1=>none))=zdk (zy5 s lo hi fr a):=by
 unfold z4i z3g zy5;have e:decide ((hi:Int)<(if ((1:Int) > (lo:Int)) then (1:Int) else (lo:Int)))=decide (hi<max lo 1):=by
  refine decide_eq_decide.2 ?_;split<;>omega
 rw[e];by_cases h:hi<max lo 1
 . rw[decide_eq_true h,if_pos h];exact⟨rfl,rfl⟩
 . rw[decide_eq_false h,if_neg h];simp only[cond_false];have q:=znr N o 125 ha hs;rw[show (125:Int)=((125:Nat):Int) from rfl,q.1,q.2];cases zcz s a 125 with
   | bad e c=>exact⟨rfl,rfl⟩
   | ok x c=>exact⟨rfl,rfl⟩
theorem zyp (N:Nat) {s:List UInt8} {a:Nat} (o:Nat) (ha:a<=s.length) (hs:s.length<=256) (hN:300<=N) :
 z3k N (pst s a o)=okP s o lhF (z9u s a)/\z37 N (pst s a o)=zdk (z9u s a):=by
 unfold z3k z37 z9u;rw[(z15t N o ha hs hN).1,(z15t N o ha hs hN).2];cases h:zsa s a with
 | bad e c=>exact⟨rfl,rfl⟩
 | ok lo c =>
   have hc:=z1n (zgv s a) h;simp only[okP,zdk,orP,Option.bind_some,PR.next];unfold z6u z4n;rw[show (44:Int)=((44:Nat):Int) from rfl,zlk N o 44 hc.2 hs];simp only[Option.bind_some];cases h1:isB s c 44 with
   | false=>exact z1n3 N o lo lo a hc.2 hs
   | true =>
     have hlt:c+1<=s.length:=by simp[isB] at h1;omega
     simp only[cond_true,if_true];have q:=zlk N o 125 hlt hs;rw[show (125:Int)=((125:Nat):Int) from rfl,q];simp only[Option.bind_some];cases h2:isB s (c+1) 125 with
     | true=>exact⟨rfl,rfl⟩
     | false =>
       simp only[cond_false,Bool.false_eq_true,if_false];rw[(z15t N o hlt hs hN).1,(z15t N o hlt hs hN).2];cases h3:zsa s (c+1) with
       | bad e d=>exact⟨rfl,rfl⟩
       | ok hi d =>
         have hd:=z1n (zgv s (c+1)) h3;simp only[okP,zdk,orP,Option.bind_some,PR.next];exact z1n3 N o lo hi (c+1) hd.2 hs
end
end Go.Proofs.YthgcpalmjcomlaaDoorLg
set_option linter.all false
set_option maxRecDepth 100000
namespace Go.Proofs.YthgcpalmjcomlaaDoorLg
noncomputable section
open Go Go.Lift Go.Proofs.YthgcpalmjcomlaaDoorPx
theorem zja {x:Int}(h:-9223372036854775808<=x)(h2:x<=9223372036854775807):(Lit.int .i64 x).wf=true:=by
 simp[Lit.wf,IntKind.min,IntKind.max,IntKind.signed,IntKind.bits];omega
theorem z1e6 {x:Int}(h:U64 x):(Lit.int .u64 x).wf=true:=by
 unfold U64 at h;simp[Lit.wf,IntKind.min,IntKind.max,IntKind.signed,IntKind.bits];omega
theorem z10w {st:List Int}(h:SetOk st):st.length=4/\∀ x∈st,(Lit.int .u64 x).wf=true:=by
 obtain⟨a,b,c,d,rfl,ha,hb,hc,hd⟩:=h;refine⟨rfl,fun x hx=>?_⟩;simp only[List.mem_cons,List.not_mem_nil,or_false] at hx;rcases hx with rfl|rfl|rfl|rfl<;>exact z1e6 (by assumption)
theorem z4t:∀ xs ys:List Tree,z2q (xs++ys)=z2q xs+z2q ys
 | [],ys=>by simp[z2q]
 | x::xs,ys=>by simp[z2q,z4t xs ys,Nat.add_assoc]
theorem z4b (t:Tree):z2q [t]=z15 t:=by simp[z2q]
theorem zpw (k:Int)(t:Tree):z2q (zjo k t)<=z15 t:=by
 unfold zjo;cases z2e t == k with
 | true =>
   obtain⟨kk,st,ks,lo,hi⟩:=t;show z2q ks<=_;rw[z15];omega
 | false=>rw[cond_false,z4b];exact Nat.le_refl _
theorem zhr (k:Int):∀ ps:List Tree,z2q (zau k ps)<=z2q ps
 | []=>Nat.le_refl _
 | p::ps=>by
   have:=zhr k ps;have h2:=zpw k p;show z2q (zjo k p++zau k ps)<=z2q (p::ps);rw[z4t,z2q];omega
theorem zq9 (k:Int)(ps:List Tree):z15 (zd1 k ps)<=z2q ps+1:=by
 have h:=zhr k ps;unfold zd1;split
 . rename_i x hx;rw[hx,z4b] at h;omega
 . rw[z15];omega
theorem z166 (k:Int)(t:Tree):z15 (zd1 k [t])<=z15 t:=by
 have e:zau k [t]=zjo k t:=by simp[zau]
 have h:=zpw k t;unfold zd1;rw[e];split
 . rename_i x hx;rw[hx,z4b] at h;exact h
 . unfold zjo;cases hk:z2e t == k with
   | true =>
     obtain⟨kk,st,ks,lo,hi⟩:=t;show z15 (.mk k [0,0,0,0] ks 0 0)<=_;rw[z15,z15];exact Nat.le_refl _
   | false =>
     rename_i hne;exact absurd (by unfold zjo;rw[hk];rfl) (hne t)
theorem z19m (k:Int){t:Tree}(h:WfN t):∀ x∈zjo k t,WfN x:=by
 unfold zjo;cases z2e t == k with
 | true =>
   obtain⟨kk,st,ks,lo,hi⟩:=t;rw[WfN] at h;exact (zfp ks).1 h.2.2.1.2
 | false =>
   intro x hx;simp at hx;subst hx;exact h
theorem z13c (k:Int):∀ {ps:List Tree},(∀ x∈ps,WfN x)->∀ x∈zau k ps,WfN x
 | [],_,x,hx=>by cases hx
 | p::ps,h,x,hx=>by
   have hx:x∈zjo k p++zau k ps:=hx;rcases List.mem_append.1 hx with hx|hx
   . exact z19m k (h p (by simp)) x hx
   . exact z13c k (fun y hy=>h y (by simp[hy])) x hx
theorem z_wf:([0,0,0,0]:List Int).length=4/\∀ x∈([0,0,0,0]:List Int),(Lit.int .u64 x).wf=true:=z10w z6b
theorem z12y {k:Int}(hk:k=2\/k=3){ps:List Tree}(h:∀ x∈ps,WfN x)(hn:z2q ps<=1000000):WfN (zd1 k ps):=by
 have hf:=z13c k h;have hl:=Nat.le_trans (z5e (zau k ps)) (zhr k ps);unfold zd1;split
 . rename_i x hx;exact hf x (by rw[hx];simp)
 . rw[WfN];refine⟨zja (by omega) (by omega),z_wf,⟨Nat.le_trans hl (Nat.le_trans hn (by unfold maxLen;omega)),(zfp _).2 hf⟩,zja (by omega) (by omega),zja (by omega) (by omega)⟩
theorem zxu {st:List Int}(h:SetOk st):WfN (z14s st):=by
 unfold z14s;rw[WfN];exact⟨zja (by omega) (by omega),z10w h,⟨Nat.zero_le _,by rw[z14v];trivial⟩,zja (by omega) (by omega),zja (by omega) (by omega)⟩
theorem z1em {t:Tree}{lo hi:Int}(h:WfN t)(h1:-1<=lo/\lo<=100)(h2:-1<=hi/\hi<=100):WfN (z14r t lo hi):=by
 unfold z14r;rw[WfN];exact⟨zja (by omega) (by omega),z10w z4_ok,⟨by unfold maxLen;simp,by rw[z14v,z14v];exact⟨h,trivial⟩⟩,zja (by omega) (by omega),zja (by omega) (by omega)⟩
def TOk (a b:Nat)(c:Nat)(t:Tree):Prop:=WfN t/\z15 t+c<=3*(b - a)+1
def TRes (a c:Nat)(r:PR Tree):Prop:=∀ t b,r=.ok t b->TOk a b c t
theorem TRes.bad {a c:Nat}{e:Int}{x:Nat}:TRes a c (.bad e x):=fun t b h=>by cases h
theorem TRes.next {α:Type}{a c:Nat}{r:PR α}{f:α->Nat->PR Tree}(h:∀ x b,r=.ok x b->TRes a c (f x b)):TRes a c (r.next f):=by
 cases r with
 | bad e x=>exact TRes.bad
 | ok x b=>exact h x b rfl
theorem z16l {s:List UInt8}{a:Nat}{t:List Int}{b:Nat}(h:zbl s a=.ok t b):SetOk t:=by
 unfold zbl at h;cases hi:zei s (if isB s a 94=true then a+1 else a) with
 | bad e c=>rw[hi] at h;cases h
 | ok u c =>
   rw[hi] at h;simp only[PR.next] at h;cases hm:z7g s (s.length+1) c u with
   | bad e d=>rw[hm] at h;cases h
   | ok v d =>
     rw[hm] at h;simp only at h;have hk:=zrm _ _ (zdu hi) hm;cases h;split
     . exact zxz hk
     . exact hk
theorem z17l {s:List UInt8}{a v b:Nat}(h:zsa s a=.ok v b):v<=16:=by
 unfold zsa at h;cases hn:z8q s a with
 | bad e c=>rw[hn] at h;cases h
 | ok y c =>
   rw[hn] at h;simp only[PR.next] at h;split at h
   . split at h
     . cases h
     split at h
     . cases h
     . cases h;omega
   . cases h
theorem z17v {s:List UInt8}{lo hi fr a:Nat}{x:Int×Int}{b:Nat}(hl:lo<=16)(hh:hi<=16)(h:zy5 s lo hi fr a=.ok x b):x=((lo:Int),(hi:Int))/\max lo 1<=hi:=by
 unfold zy5 at h;split at h
 . cases h
 . cases hn:zcz s a 125 with
   | bad e c=>rw[hn] at h;cases h
   | ok y c=>rw[hn] at h;cases h;exact⟨rfl,by omega⟩
theorem z14c {s:List UInt8} {a:Nat} {x:Int×Int} {b:Nat} (h:z9u s a=.ok x b):0<=x.1/\x.1<=16/\(x.2=-1\/(1<=x.2/\x.1<=x.2/\x.2<=16)):=by
 unfold z9u at h;cases hn:zsa s a with
 | bad e c=>rw[hn] at h;cases h
 | ok lo c =>
   have hl:=z17l hn;rw[hn] at h;simp only[PR.next] at h;split at h
   . split at h
     . cases h;exact⟨by simp,by simp;omega,.inl rfl⟩
     . cases hm:zsa s (c+1) with
       | bad e d=>rw[hm] at h;cases h
       | ok hi d =>
         have hh:=z17l hm;rw[hm] at h;obtain⟨rfl,h3⟩:=z17v hl hh h;exact⟨by simp,by simp;omega,.inr ⟨by simp;omega,by simp;omega,by simp;omega⟩⟩
   . obtain⟨rfl,h3⟩:=z17v hl hl h;exact⟨by simp,by simp;omega,.inr ⟨by simp;omega,by simp,by simp;omega⟩⟩
abbrev z170 (s:List UInt8)(sub:Option (Nat->PR Tree)):Prop:=∀ f,sub=some f->∀ b,b<=s.length->Ahead s b (f b)
abbrev z1de (s:List UInt8)(sub:Option (Nat->PR Tree)):Prop:=∀ f,sub=some f->∀ b,b<=s.length->TRes b 0 (f b)
theorem zjt (st:List Int):z15 (z14s st)=1:=by unfold z14s;rw[z15,z2q]
theorem z12d (t:Tree)(lo hi:Int):z15 (z14r t lo hi)=1+z15 t:=by unfold z14r;rw[z15,z4b]
theorem z14h {sub:Option (Nat->PR Tree)}{s:List UInt8}{a:Nat}(hA:z170 s sub)(hT:z1de s sub)(ha:a<s.length):TRes a 2 (za8 sub s a):=by
 unfold za8;split
 . cases sub with
   | none=>exact TRes.bad
   | some f =>
     refine TRes.next fun t a1 h1=>TRes.next fun _ a2 h2=>?_
     have g1:=z1n (hA f rfl (a+1) (by omega)) h1;have g2:=z1n (zky s a1 41) h2;have g3:=hT f rfl (a+1) (by omega) t a1 h1;intro t' b e;cases e;exact⟨g3.1,by have:=g3.2;omega⟩
 split
 . intro t b e;cases e;exact⟨zxu (zv9 256 0 z6b (by omega)),by rw[zjt];omega⟩
 split
 . refine TRes.next fun st a1 h1=>?_
   have g1:=z1n (zod (a+1)) h1;intro t b e;cases e;exact⟨zxu (z16l h1),by rw[zjt];omega⟩
 split
 . refine TRes.next fun st a1 h1=>?_
   have g1:=z1n (zo9 (Nat.le_of_lt ha)) h1;intro t b e;cases e;exact⟨zxu (z17x h1).1,by rw[zjt];omega⟩
 split
 . exact TRes.bad
 . intro t b e;cases e;exact⟨zxu (zgb (ztl s a)),by rw[zjt];omega⟩
theorem zkp {sub:Option (Nat->PR Tree)}{s:List UInt8}{a:Nat}(hA:z170 s sub)(hT:z1de s sub)(ha:a<s.length):TRes a 2 (zbk sub s a):=by
 refine TRes.next fun t a1 h1=>?_
 have g1:=z1n (zet hA ha) h1;have g2:=z14h hA hT ha t a1 h1;have hr:∀ lo hi b,-1<=lo/\lo<=100->-1<=hi/\hi<=100->a1<b->TOk a b 2 (z14r t lo hi):=fun lo hi b h1 h2 hb=>⟨z1em g2.1 h1 h2,by rw[z12d];have:=g2.2;omega⟩
 split
 . split
   . intro t' b e;cases e;exact hr _ _ _ (by omega) (by omega) (by omega)
   split
   . intro t' b e;cases e;exact hr _ _ _ (by omega) (by omega) (by omega)
   split
   . intro t' b e;cases e;exact hr _ _ _ (by omega) (by omega) (by omega)
   split
   . refine TRes.next fun lh a2 h2=>?_
     have g3:=z1n (zm1 (show a1+1<=s.length by omega)) h2;have g4:=z14c h2;intro t' b e;cases e;exact hr _ _ _ (by omega) (by omega) (by omega)
   . intro t' b e;cases e;exact g2
 . intro t' b e;cases e;exact g2
theorem zfk {sub:Option (Nat->PR Tree)} {s:List UInt8} (hs:s.length<=256) (hA:z170 s sub) (hT:z1de s sub) (a0:Nat):∀ (k a:Nat) (ps:List Tree),a<=s.length->a0<=a->(∀ x∈ps,WfN x)->z2q ps<=3*(a - a0)->TRes a0 0 (zit sub s k a ps)
 | 0,a,ps,h1,h2,h3,h4=>TRes.bad
 | k + 1,a,ps,h1,h2,h3,h4=>by
   unfold zit;split
   . intro t b e;cases e;have:=zq9 2 ps;exact⟨z12y (.inl rfl) h3 (by omega),by omega⟩
   . rename_i hc;have hlt:a<s.length:=by simp[zdn] at hc;exact hc.1
     refine TRes.next fun t a1 e1=>?_
     have g1:=z1n (zcv hA hlt) e1;have g2:=zkp hA hT hlt t a1 e1;refine zfk hs hA hT a0 k a1 _ g1.2 (by omega) (fun x hx=>?_) ?_
     . rcases List.mem_append.1 hx with hx|hx
       . exact h3 x hx
       . simp at hx;subst hx;exact g2.1
     . rw[z4t,z4b];have:=g2.2;omega
theorem zue {sub:Option (Nat->PR Tree)} {s:List UInt8} (hs:s.length<=256) (hA:z170 s sub) (hT:z1de s sub) (a0:Nat):∀ (k a:Nat) (ps:List Tree),a<=s.length->a0<=a->(∀ x∈ps,WfN x)->((∃ t,ps=[t]/\z15 t<=3*(a - a0)+1)\/z2q ps+1<=3*(a - a0))->TRes a0 0 (zej sub s k a ps)
 | 0,a,ps,h1,h2,h3,h4=>TRes.bad
 | k + 1,a,ps,h1,h2,h3,h4=>by
   have hn:z2q ps<=3*(a - a0)+1:=by
    rcases h4 with⟨t,rfl,h⟩|h
    . rw[z4b];exact h
    . omega
   unfold zej;split
   . rename_i hc;have hlt:a<s.length:=by simp[isB] at hc;exact hc.1
     refine TRes.next fun t a1 e1=>?_
     have g1:=z1n (z6p hA _ (a+1) [] (by omega)) e1;have g2:=zfk hs hA hT (a+1) _ (a+1) [] (by omega) (Nat.le_refl _) (fun x hx=>by cases hx) (by simp[z2q]) t a1 e1;refine zue hs hA hT a0 k a1 _ g1.2 (by omega) (fun x hx=>?_) (.inr ?_)
     . rcases List.mem_append.1 hx with hx|hx
       . exact h3 x hx
       . simp at hx;subst hx;exact g2.1
     . rw[z4t,z4b];have:=g2.2;omega
   . intro t b e;cases e;refine⟨z12y (.inr rfl) h3 (by omega),?_⟩;rcases h4 with⟨t,rfl,h⟩|h
     . have:=z166 3 t;omega
     . have:=zq9 3 ps;omega
theorem z16z {s:List UInt8}(hs:s.length<=256):∀ (d a:Nat),a<=s.length->TRes a 0 (zgz s d a):=by
 have key:∀ (sub:Option (Nat->PR Tree)),z170 s sub->z1de s sub->∀ a,a<=s.length->TRes a 0 ((zit sub s (s.length+1) a []).next fun t a1=>zej sub s (s.length+1) a1 [t]):=by
  intro sub hA hT a ha;refine TRes.next fun t a1 e1=>?_
  have g1:=z1n (z6p hA _ a [] ha) e1;have g2:=zfk hs hA hT a _ a [] ha (Nat.le_refl _) (fun x hx=>by cases hx) (by simp[z2q]) t a1 e1;exact zue hs hA hT a _ a1 _ g1.2 g1.1 (fun x hx=>by simp at hx;subst hx;exact g2.1) (.inl ⟨t,rfl,g2.2⟩)
 intro d
 induction d with
 | zero=>intro a ha;unfold zgz;exact key none (fun f h=>by cases h) (fun f h=>by cases h) a ha
 | succ d ih=>intro a ha;unfold zgz;exact key _ (fun f h=>by cases h;exact zhc s d) (fun f h=>by cases h;exact ih) a ha
end
end Go.Proofs.YthgcpalmjcomlaaDoorLg
set_option linter.all false
set_option maxRecDepth 100000
namespace Go.Proofs.YthgcpalmjcomlaaDoorLg
noncomputable section
open Go Go.Lift Go.Proofs.YthgcpalmjcomlaaDoorPx
def ze1 (s:List UInt8):Nat->Option (Nat->PR Tree)
 | 0=>none
 | d+1=>some (zgz s d)
theorem zah (s:List UInt8)(d:Nat):z170 s (ze1 s d):=by
 cases d with
 | zero=>intro f h;cases h
 | succ d=>intro f h;cases h;exact zhc s d
theorem zpg {s:List UInt8}(hs:s.length<=256)(d:Nat):z1de s (ze1 s d):=by
 cases d with
 | zero=>intro f h;cases h
 | succ d=>intro f h;cases h;exact z16z hs d
theorem zwu (s:List UInt8)(d a:Nat):zgz s d a=(zit (ze1 s d) s (s.length+1) a []).next fun t a1=>zej (ze1 s d) s (s.length+1) a1 [t]:=by
 cases d<;>(rw[zgz];rfl)
def zyv (s:List UInt8)(d:Nat)(self:PSt->Option (NodT.den×(PSt×Unit))):Prop:=∀ d',d=d'+1->∀ a,a<=s.length->self (pst s a (16 - d'))=okP s (16 - d') unN (zgz s d' a)
def z1cy (s:List UInt8)(d:Nat)(self:PSt->Option (Int×(Int×Unit))):Prop:=∀ d',d=d'+1->∀ a,a<=s.length->self (pst s a (16 - d'))=zdk (zgz s d' a)
def zq3 (sub:Option (Nat->PR Tree)) (s:List UInt8) (a:Nat):PR Tree:=match sub with
    | none=>.bad 3 a
    | some f=>(f (a+1)).next fun t a1=>(zcz s a1 41).next fun _ a2=>.ok t a2
theorem z136 (N:Nat) {s:List UInt8} {a d:Nat} (hd:d<=16) (ha:a<s.length) (hb:gb s a=40) (hs:s.length<=256) (self:PSt->Option (NodT.den×(PSt×Unit))) (hself:zyv s d self) :
 z3y N self (pst s a (16 - d))=okP s (16 - d) unN (zq3 (ze1 s d) s a):=by
 unfold z3y z7a;simp only[pst];rw[show (16:Int)=((16:Nat):Int) from rfl,eqI];cases d with
 | zero=>rfl
 | succ d =>
   rw[decide_eq_false (by omega)];simp only[cond_false];rw[zig (by omega),show 16 - (d+1)+1=16 - d by omega];have q:=znr N (16 - d) 40 (Nat.le_of_lt ha) hs;rw[zvd ha hb] at q;unfold pst at q;rw[show (40:Int)=((40:Nat):Int) from rfl,q.1];simp only[okP,Option.bind_some];rw[hself d rfl (a+1) (by omega)];show _=okP s (16 - (d+1)) unN ((zgz s d (a+1)).next fun t a1=>(zcz s a1 41).next fun _ a2=>.ok t a2);cases h:zgz s d (a+1) with
   | bad e c=>rfl
   | ok t c =>
     have hc:=z1n (zhc s d (a+1) (by omega)) h;simp only[okP,Option.bind_some,PR.next];rw[show (41:Int)=((41:Nat):Int) from rfl,(znr N (16 - d) 41 hc.2 hs).1];cases zcz s c 41 with
     | bad e b=>rfl
     | ok u b =>
       simp only[okP,Option.bind_some,pst];have e:IntKind.wrap .i64 (((16 - d:Nat):Int) - 1)=((16 - (d+1):Nat):Int):=by
        rw[z5u (by unfold I64;omega)];omega
       rw[e]
theorem z1bt (N:Nat){s:List UInt8}{a d:Nat}(hd:d<=16)(ha:a<s.length)(hb:gb s a=40)(hs:s.length<=256)(self:PSt->Option (Int×(Int×Unit)))(hself:z1cy s d self)(hok:zyv s d (zf N)) :
 z3j N self (pst s a (16 - d))=zdk (zq3 (ze1 s d) s a):=by
 unfold z3j z4y;simp only[pst];rw[show (16:Int)=((16:Nat):Int) from rfl,eqI];cases d with
 | zero=>rfl
 | succ d =>
   rw[decide_eq_false (by omega)];simp only[cond_false];rw[zig (by omega),show 16 - (d+1)+1=16 - d by omega];have q:=znr N (16 - d) 40 (Nat.le_of_lt ha) hs;rw[zvd ha hb] at q;unfold pst at q;rw[show (40:Int)=((40:Nat):Int) from rfl,q.1,q.2];simp only[okP,zdk,orP,Option.bind_some];rw[hself d rfl (a+1) (by omega),hok d rfl (a+1) (by omega)];show _=zdk ((zgz s d (a+1)).next fun t a1=>(zcz s a1 41).next fun _ a2=>.ok t a2);cases h:zgz s d (a+1) with
   | bad e c=>rfl
   | ok t c =>
     have hc:=z1n (zhc s d (a+1) (by omega)) h;simp only[okP,zdk,orP,Option.bind_some,PR.next];have q:=znr N (16 - d) 41 hc.2 hs;rw[show (41:Int)=((41:Nat):Int) from rfl,q.1,q.2];cases zcz s c 41 with
     | bad e b=>rfl
     | ok u b=>rfl
theorem z17k {N:Nat}(hN:257<N):z1z N (0:Int) (255:Int)=some (ofS 256 0 z4):=by
 rw[show (0:Int)=((0:Nat):Int) from rfl,show (255:Int)=((255:Nat):Int) from rfl,z129 N (by omega) (by omega) hN];rfl
theorem z183 (N:Nat){s:List UInt8}{a d:Nat}(hd:d<=16)(ha:a<s.length)(hs:s.length<=256)(hN:300<=N)(self:PSt->Option (NodT.den×(PSt×Unit)))(hself:zyv s d self) :
 z48 N self (pst s a (16 - d))=okP s (16 - d) unN (za8 (ze1 s d) s a):=by
 have hl:=ztl s a;unfold z48 za8;simp only[pst];rw[zel ha,zeo];simp only[cond_true,show (40:Int)=((40:Nat):Int) from rfl,show (46:Int)=((46:Nat):Int) from rfl,show (91:Int)=((91:Nat):Int) from rfl,show (92:Int)=((92:Nat):Int) from rfl,eqI];by_cases e1:gb s a=40
 . rw[decide_eq_true e1,if_pos e1];simp only[cond_true];have q:=z136 N hd ha e1 hs self hself;unfold pst at q;rw[q];show _=okP s (16 - d) unN (zq3 (ze1 s d) s a);cases zq3 (ze1 s d) s a<;>rfl
 rw[decide_eq_false e1,if_neg e1];simp only[cond_false];by_cases e2:gb s a=46
 . rw[decide_eq_true e2,if_pos e2];simp only[cond_true];rw[z17k (by omega),zig (by omega)];rfl
 rw[decide_eq_false e2,if_neg e2];simp only[cond_false];by_cases e3:gb s a=91
 . rw[decide_eq_true e3,if_pos e3];simp only[cond_true];have q:=(zqm N (16 - d) ha e3 hs hN).1;unfold pst at q;rw[q];cases zbl s (a+1)<;>rfl
 rw[decide_eq_false e3,if_neg e3];simp only[cond_false];by_cases e4:gb s a=92
 . rw[decide_eq_true e4,if_pos e4];simp only[cond_true];have q:=(z1bx N (16 - d) ha e4 hs hN).1;unfold pst at q;rw[q];cases zrh s a<;>rfl
 rw[decide_eq_false e4,if_neg e4];simp only[cond_false];unfold z8e;rw[z17b hl];cases specials.contains (gb s a) with
 | true=>rfl
 | false =>
   simp only[cond_false,Bool.false_eq_true,if_false];rw[zgu hl (by omega),zig (by omega)];rfl
theorem z1nj (N:Nat){s:List UInt8}{a d:Nat}(hd:d<=16)(ha:a<s.length)(hs:s.length<=256)(hN:300<=N)(self:PSt->Option (Int×(Int×Unit)))(hself:z1cy s d self)(hok:zyv s d (zf N)) :
 z3s N self (pst s a (16 - d))=zdk (za8 (ze1 s d) s a):=by
 have hl:=ztl s a;unfold z3s za8;simp only[pst];rw[zel ha,zeo];simp only[cond_true,show (40:Int)=((40:Nat):Int) from rfl,show (46:Int)=((46:Nat):Int) from rfl,show (91:Int)=((91:Nat):Int) from rfl,show (92:Int)=((92:Nat):Int) from rfl,eqI];by_cases e1:gb s a=40
 . rw[decide_eq_true e1,if_pos e1];simp only[cond_true];have q:=z1bt N hd ha e1 hs self hself hok;have q2:=z136 N hd ha e1 hs _ hok;unfold pst at q q2;rw[q,q2];show _=zdk (zq3 (ze1 s d) s a);cases zq3 (ze1 s d) s a<;>rfl
 rw[decide_eq_false e1,if_neg e1];simp only[cond_false];by_cases e2:gb s a=46
 . rw[decide_eq_true e2,if_pos e2];simp only[cond_true];rw[z17k (by omega)];rfl
 rw[decide_eq_false e2,if_neg e2];simp only[cond_false];by_cases e3:gb s a=91
 . rw[decide_eq_true e3,if_pos e3];simp only[cond_true];have q:=zqm N (16 - d) ha e3 hs hN;unfold pst at q;rw[q.1,q.2];cases zbl s (a+1)<;>rfl
 rw[decide_eq_false e3,if_neg e3];simp only[cond_false];by_cases e4:gb s a=92
 . rw[decide_eq_true e4,if_pos e4];simp only[cond_true];have q:=z1bx N (16 - d) ha e4 hs hN;unfold pst at q;rw[q.1,q.2];cases zrh s a<;>rfl
 rw[decide_eq_false e4,if_neg e4];simp only[cond_false];unfold z5d;rw[z17b hl];cases specials.contains (gb s a) with
 | true=>rfl
 | false =>
   simp only[cond_false,Bool.false_eq_true,if_false];rw[zgu hl (by omega)];rfl
theorem z1mz (t:Tree):List.map Go.Lift.foN ([unN t]:List NodT.den)=[t]:=by
 rw[List.map_cons,z13a,List.map_nil]
theorem z11w (N:Nat) {s:List UInt8} {a d:Nat} (hd:d<=16) (ha:a<s.length) (hs:s.length<=256) (hN:300<=N) (self:PSt->Option (NodT.den×(PSt×Unit))) (hself:zyv s d self) :
 z2d N self (pst s a (16 - d))=okP s (16 - d) unN (zbk (ze1 s d) s a):=by
 unfold z2d zbk;rw[z183 N hd ha hs hN self hself];cases h:za8 (ze1 s d) s a with
 | bad e c=>rfl
 | ok t c =>
   have hc:=z1n (zet (zah s d) ha) h;simp only[okP,Option.bind_some,PR.next,pst,eqI];by_cases hlt:c<s.length
   . rw[decide_eq_false (by omega),if_pos hlt,zel hlt,zeo];simp only[cond_false,cond_true];unfold z78;simp only[show (43:Int)=((43:Nat):Int) from rfl,show (42:Int)=((42:Nat):Int) from rfl,show (63:Int)=((63:Nat):Int) from rfl,show (123:Int)=((123:Nat):Int) from rfl,eqI];rw[zig (by omega),z1mz];by_cases e1:gb s c=43
     . rw[decide_eq_true e1,if_pos e1];rfl
     rw[decide_eq_false e1,if_neg e1];by_cases e2:gb s c=42
     . rw[decide_eq_true e2,if_pos e2];rfl
     rw[decide_eq_false e2,if_neg e2];by_cases e3:gb s c=63
     . rw[decide_eq_true e3,if_pos e3];rfl
     rw[decide_eq_false e3,if_neg e3];by_cases e4:gb s c=123
     . rw[decide_eq_true e4,if_pos e4];simp only[cond_true,cond_false];have q:=(zyp N (16 - d) (show c+1<=s.length by omega) hs hN).1;unfold pst at q;rw[q];cases z9u s (c+1)<;>rfl
     . rw[decide_eq_false e4,if_neg e4];rfl
   . rw[decide_eq_true (by omega),if_neg hlt];rfl
theorem z19l (N:Nat) {s:List UInt8} {a d:Nat} (hd:d<=16) (ha:a<s.length) (hs:s.length<=256) (hN:300<=N) (self:PSt->Option (Int×(Int×Unit))) (hself:z1cy s d self) (hok:zyv s d (zf N)) :
 z2f N self (pst s a (16 - d))=zdk (zbk (ze1 s d) s a):=by
 unfold z2f zbk;rw[z1nj N hd ha hs hN self hself hok,z183 N hd ha hs hN _ hok];cases h:za8 (ze1 s d) s a with
 | bad e c=>rfl
 | ok t c =>
   have hc:=z1n (zet (zah s d) ha) h;simp only[okP,zdk,orP,Option.bind_some,PR.next,pst,eqI];by_cases hlt:c<s.length
   . rw[decide_eq_false (by omega),if_pos hlt,zel hlt,zeo];simp only[cond_false,cond_true];unfold z4w;simp only[show (43:Int)=((43:Nat):Int) from rfl,show (42:Int)=((42:Nat):Int) from rfl,show (63:Int)=((63:Nat):Int) from rfl,show (123:Int)=((123:Nat):Int) from rfl,eqI];rw[zig (by omega)];by_cases e1:gb s c=43
     . rw[decide_eq_true e1,if_pos e1];rfl
     rw[decide_eq_false e1,if_neg e1];by_cases e2:gb s c=42
     . rw[decide_eq_true e2,if_pos e2];rfl
     rw[decide_eq_false e2,if_neg e2];by_cases e3:gb s c=63
     . rw[decide_eq_true e3,if_pos e3];rfl
     rw[decide_eq_false e3,if_neg e3];by_cases e4:gb s c=123
     . rw[decide_eq_true e4,if_pos e4];simp only[cond_true,cond_false];have q:=zyp N (16 - d) (show c+1<=s.length by omega) hs hN;unfold pst at q;rw[q.1,q.2];cases z9u s (c+1)<;>rfl
     . rw[decide_eq_false e4,if_neg e4];rfl
   . rw[decide_eq_true (by omega),if_neg hlt];rfl
theorem room {n:Nat}(h:n<=10000):decide (((n+1)*80)<=70368744177664)=true:=decide_eq_true (by omega)
theorem z16n (N:Nat) (self:PSt->Option (NodT.den×(PSt×Unit))) (x2:NodT.den) (s:List UInt8) (a o:Nat) (L:List NodT.den) (rec:PSt->List NodT.den->Option (NodT.den×(PSt×Unit))) (k0:PSt->List NodT.den->Option (NodT.den×(PSt×Unit))) :
 z4e N self x2 (pst s a o) L rec k0=cond (zdn s a) (k0 (pst s a o) L) ((z2d N self (pst s a o)).bind fun y=>cond (decide (((L.length+1)*80)<=70368744177664)) (rec y.2.1 (L++[y.1])) none):=by
 unfold z4e z94;unfold zdn;simp only[pst];rcases Nat.lt_or_ge a s.length with h|h
 . rw[decide_eq_true (show (a:Int)<(s.length:Int) by omega),decide_eq_true h,zel h,zeo];simp only[cond_true,Bool.not_true,Bool.false_or,bne,show (124:Int)=((124:Nat):Int) from rfl,show (41:Int)=((41:Nat):Int) from rfl,eqI];by_cases e1:gb s a=124
   . have e2:(gb s a == 124)=true:=by simpa using e1
     rw[decide_eq_true e1,e2];rfl
   . have e2:(gb s a == 124)=false:=by simpa using e1
     rw[decide_eq_false e1,e2];by_cases e3:gb s a=41
     . have e4:(gb s a == 41)=true:=by simpa using e3
       rw[decide_eq_true e3,e4];rfl
     . have e4:(gb s a == 41)=false:=by simpa using e3
       rw[decide_eq_false e3,e4];rfl
 . rw[decide_eq_false (show ¬ (a:Int)<(s.length:Int) by omega),decide_eq_false (show ¬ a<s.length by omega)];rfl
theorem z143 (N:Nat) (self:PSt->Option (Int×(Int×Unit))) (x2:NodT.den) (s:List UInt8) (a o:Nat) (L:List NodT.den) (rec:PSt->List NodT.den->Option (Int×(Int×Unit))) (k0:(Int×(Int×Unit))->Option (Int×(Int×Unit))) (k1:PSt->List NodT.den->Option (Int×(Int×Unit))) :
 z35 N self x2 (pst s a o) L rec k0 k1=cond (zdn s a) (k1 (pst s a o) L) (orP (z2f N self (pst s a o)) (fun z=>k0 z) ((z2d N (zf N) (pst s a o)).bind fun y=>cond (decide (((L.length+1)*80)<=70368744177664)) (rec y.2.1 (L++[y.1])) none)):=by
 unfold z35 z63;unfold zdn;simp only[pst];rcases Nat.lt_or_ge a s.length with h|h
 . rw[decide_eq_true (show (a:Int)<(s.length:Int) by omega),decide_eq_true h,zel h,zeo];simp only[cond_true,Bool.not_true,Bool.false_or,bne,show (124:Int)=((124:Nat):Int) from rfl,show (41:Int)=((41:Nat):Int) from rfl,eqI];by_cases e1:gb s a=124
   . have e2:(gb s a == 124)=true:=by simpa using e1
     rw[decide_eq_true e1,e2];rfl
   . have e2:(gb s a == 124)=false:=by simpa using e1
     rw[decide_eq_false e1,e2];by_cases e3:gb s a=41
     . have e4:(gb s a == 41)=true:=by simpa using e3
       rw[decide_eq_true e3,e4];rfl
     . have e4:(gb s a == 41)=false:=by simpa using e3
       rw[decide_eq_false e3,e4];rfl
 . rw[decide_eq_false (show ¬ (a:Int)<(s.length:Int) by omega),decide_eq_false (show ¬ a<s.length by omega)];rfl
theorem zyo (N:Nat) {s:List UInt8} {d:Nat} (hd:d<=16) (hs:s.length<=256) (hN:300<=N) (self:PSt->Option (NodT.den×(PSt×Unit))) (hself:zyv s d self) (x2:NodT.den) (k0:PSt->List NodT.den->Option (NodT.den×(PSt×Unit)))
 (hk:∀ a ps,z2q ps<=3*a->a<=s.length->k0 (pst s a (16 - d)) (ps.map unN)=some (unN (zd1 2 ps),(pst s a (16 - d),()))):∀ (k N' a:Nat) (ps:List Tree),k<=N'->a<=s.length->s.length<a+k->z2q ps<=3*a →
 iter (fun (v:(PSt×(List NodT.den))) r=>z4e N self x2 v.1 v.2 (fun p parts=>(r (p,parts))) k0) N' (pst s a (16 - d),ps.map unN)=okP s (16 - d) unN (zit (ze1 s d) s k a ps)
 | 0,N',a,ps,h1,h2,h3,h4=>by omega
 | k + 1,N',a,ps,h1,h2,h3,h4=>by
   obtain⟨M,rfl⟩:∃ M,N'=M+1:=⟨N' - 1,by omega⟩
   rw[iter,zit];dsimp only;rw[z16n];cases hst:zdn s a with
   | true =>
     simp only[cond_true,if_true];rw[hk a ps h4 h2];rfl
   | false =>
     have hlt:a<s.length:=by
      unfold zdn at hst;simp at hst;exact hst.1
     simp only[cond_false,Bool.false_eq_true,if_false];rw[z11w N hd hlt hs hN self hself];cases hp:zbk (ze1 s d) s a with
     | bad e c=>rfl
     | ok t c =>
       have hc:=z1n (zcv (zah s d) hlt) hp;have ht:=(zkp (zah s d) (zpg hs d) hlt t c hp).2;have hl:=z5e ps;simp only[okP,Option.bind_some,PR.next];rw[room (by rw[List.length_map];omega)];simp only[cond_true];have:=zyo N hd hs hN self hself x2 k0 hk k M c (ps++[t]) (by omega) hc.2 (by omega) (by rw[z4t,z4b];omega);rw[List.map_append] at this;exact this
theorem zu5 (N:Nat) {s:List UInt8} {d:Nat} (hd:d<=16) (hs:s.length<=256) (hN:300<=N) (self:PSt->Option (Int×(Int×Unit))) (hself:z1cy s d self) (hok:zyv s d (zf N)) (x2:NodT.den) (k0:(Int×(Int×Unit))->Option (Int×(Int×Unit))) (k1:PSt->List NodT.den->Option (Int×(Int×Unit))) (hk0:∀ z,k0 z=some z)
 (hk:∀ a ps,z2q ps<=3*a->a<=s.length->k1 (pst s a (16 - d)) (ps.map unN)=none):∀ (k N' a:Nat) (ps:List Tree),k<=N'->a<=s.length->s.length<a+k->z2q ps<=3*a →
 iter (fun (v:(PSt×(List NodT.den))) r=>z35 N self x2 v.1 v.2 (fun p parts=>(r (p,parts))) k0 k1) N' (pst s a (16 - d),ps.map unN)=zdk (zit (ze1 s d) s k a ps)
 | 0,N',a,ps,h1,h2,h3,h4=>by omega
 | k + 1,N',a,ps,h1,h2,h3,h4=>by
   obtain⟨M,rfl⟩:∃ M,N'=M+1:=⟨N' - 1,by omega⟩
   rw[iter,zit];dsimp only;rw[z143];cases hst:zdn s a with
   | true =>
     simp only[cond_true,if_true];rw[hk a ps h4 h2];rfl
   | false =>
     have hlt:a<s.length:=by
      unfold zdn at hst;simp at hst;exact hst.1
     simp only[cond_false,Bool.false_eq_true,if_false];rw[z19l N hd hlt hs hN self hself hok,z11w N hd hlt hs hN _ hok];cases hp:zbk (ze1 s d) s a with
     | bad e c=>exact hk0 _
     | ok t c =>
       have hc:=z1n (zcv (zah s d) hlt) hp;have ht:=(zkp (zah s d) (zpg hs d) hlt t c hp).2;have hl:=z5e ps;simp only[okP,zdk,orP,Option.bind_some,PR.next];rw[room (by rw[List.length_map];omega)];simp only[cond_true];have:=zu5 N hd hs hN self hself hok x2 k0 k1 hk0 hk k M c (ps++[t]) (by omega) hc.2 (by omega) (by rw[z4t,z4b];omega);rw[List.map_append] at this;exact this
theorem zrl {N:Nat}(hN:2000<=N)(k:Int){ps:List Tree}(h:z2q ps<=1000):z7m N k (List.map Go.Lift.foN (ps.map unN))=some (unN (zd1 k ps)):=by
 have h1:=z5e ps;have h2:=Nat.le_trans (z5e (zau k ps)) (zhr k ps);rw[zt4];exact z1bq N k ps (by unfold maxLen;omega) (by omega) (by omega)
theorem z16o (N:Nat){s:List UInt8}{a d:Nat}(hd:d<=16)(ha:a<=s.length)(hs:s.length<=256)(hN:2000<=N)(self:PSt->Option (NodT.den×(PSt×Unit)))(hself:zyv s d self) :
 z3e N self (pst s a (16 - d))=okP s (16 - d) unN (zit (ze1 s d) s (s.length+1) a []):=by
 unfold z3e z95 zcl;exact zyo N hd hs (by omega) self hself _ _ (fun b ps h1 h2=>by (try dsimp only);rw[zrl hN 2 (by omega)];rfl) (s.length+1) N a [] (by omega) ha (by omega) (Nat.zero_le _)
theorem z1n9 (N:Nat){s:List UInt8}{a d:Nat}(hd:d<=16)(ha:a<=s.length)(hs:s.length<=256)(hN:2000<=N)(self:PSt->Option (Int×(Int×Unit)))(hself:z1cy s d self)(hok:zyv s d (zf N)) :
 z3a N self (pst s a (16 - d))=zdk (zit (ze1 s d) s (s.length+1) a []):=by
 unfold z3a z64 z9r;exact zu5 N hd hs (by omega) self hself hok _ _ _ (fun z=>rfl) (fun b ps h1 h2=>by (try dsimp only);rw[zrl hN 2 (by omega)];rfl) (s.length+1) N a [] (by omega) ha (by omega) (Nat.zero_le _)
theorem zug (N:Nat) {s:List UInt8} {d:Nat} (hd:d<=16) (hs:s.length<=256) (hN:2000<=N) (self:PSt->Option (NodT.den×(PSt×Unit))) (hself:zyv s d self) (x2:NodT.den) (k0:PSt->List NodT.den->Option (NodT.den×(PSt×Unit)))
 (hk:∀ a ps,z2q ps<=3*a+1->a<=s.length->k0 (pst s a (16 - d)) (ps.map unN)=some (unN (zd1 3 ps),(pst s a (16 - d),()))):∀ (k N' a:Nat) (ps:List Tree),k<=N'->a<=s.length->s.length<a+k->z2q ps<=3*a+1 →
 iter (fun (v:(PSt×(List NodT.den))) r=>z66 N self x2 v.1 v.2 (fun p parts=>(r (p,parts))) k0) N' (pst s a (16 - d),ps.map unN)=okP s (16 - d) unN (zej (ze1 s d) s k a ps)
 | 0,N',a,ps,h1,h2,h3,h4=>by omega
 | k + 1,N',a,ps,h1,h2,h3,h4=>by
   obtain⟨M,rfl⟩:∃ M,N'=M+1:=⟨N' - 1,by omega⟩
   rw[iter,zej];dsimp only
   conv=>lhs;unfold z66
   rw[show (124:Int)=((124:Nat):Int) from rfl,zlk N (16 - d) 124 h2 hs];cases hb:isB s a 124 with
   | false =>
     simp only[Option.bind_some,cond_false,Bool.false_eq_true,if_false];rw[hk a ps h4 h2];rfl
   | true =>
     have hlt:a+1<=s.length:=by simp[isB] at hb;omega
     simp only[Option.bind_some,cond_true,if_true];rw[z16o N hd hlt hs hN self hself];cases hp:zit (ze1 s d) s (s.length+1) (a+1) [] with
     | bad e c=>rfl
     | ok t c =>
       have hc:=z1n (z6p (zah s d) _ (a+1) [] hlt) hp;have ht:=(zfk hs (zah s d) (zpg hs d) (a+1) _ (a+1) [] hlt (Nat.le_refl _) (fun x hx=>by cases hx) (by simp[z2q]) t c hp).2;have hl:=z5e ps;simp only[okP,Option.bind_some,PR.next];rw[room (by rw[List.length_map];omega)];simp only[cond_true];have:=zug N hd hs hN self hself x2 k0 hk k M c (ps++[t]) (by omega) hc.2 (by omega) (by rw[z4t,z4b];omega);rw[List.map_append] at this;exact this
theorem zqr (N:Nat) {s:List UInt8} {d:Nat} (hd:d<=16) (hs:s.length<=256) (hN:2000<=N) (self:PSt->Option (Int×(Int×Unit))) (hself:z1cy s d self) (hok:zyv s d (zf N)) (x2:NodT.den) (k0:(Int×(Int×Unit))->Option (Int×(Int×Unit))) (k1:PSt->List NodT.den->Option (Int×(Int×Unit))) (hk0:∀ z,k0 z=some z)
 (hk:∀ a ps,z2q ps<=3*a+1->a<=s.length->k1 (pst s a (16 - d)) (ps.map unN)=none):∀ (k N' a:Nat) (ps:List Tree),k<=N'->a<=s.length->s.length<a+k->z2q ps<=3*a+1 →
 iter (fun (v:(PSt×(List NodT.den))) r=>z46 N self x2 v.1 v.2 (fun p parts=>(r (p,parts))) k0 k1) N' (pst s a (16 - d),ps.map unN)=zdk (zej (ze1 s d) s k a ps)
 | 0,N',a,ps,h1,h2,h3,h4=>by omega
 | k + 1,N',a,ps,h1,h2,h3,h4=>by
   obtain⟨M,rfl⟩:∃ M,N'=M+1:=⟨N' - 1,by omega⟩
   rw[iter,zej];dsimp only
   conv=>lhs;unfold z46
   rw[show (124:Int)=((124:Nat):Int) from rfl,zlk N (16 - d) 124 h2 hs];cases hb:isB s a 124 with
   | false =>
     simp only[Option.bind_some,cond_false,Bool.false_eq_true,if_false];rw[hk a ps h4 h2];rfl
   | true =>
     have hlt:a+1<=s.length:=by simp[isB] at hb;omega
     simp only[Option.bind_some,cond_true,if_true];rw[z1n9 N hd hlt hs hN self hself hok,z16o N hd hlt hs hN _ hok];cases hp:zit (ze1 s d) s (s.length+1) (a+1) [] with
     | bad e c=>exact hk0 _
     | ok t c =>
       have hc:=z1n (z6p (zah s d) _ (a+1) [] hlt) hp;have ht:=(zfk hs (zah s d) (zpg hs d) (a+1) _ (a+1) [] hlt (Nat.le_refl _) (fun x hx=>by cases hx) (by simp[z2q]) t c hp).2;have hl:=z5e ps;simp only[okP,zdk,orP,Option.bind_some,PR.next];rw[room (by rw[List.length_map];omega)];simp only[cond_true];have:=zqr N hd hs hN self hself hok x2 k0 k1 hk0 hk k M c (ps++[t]) (by omega) hc.2 (by omega) (by rw[z4t,z4b];omega);rw[List.map_append] at this;exact this
theorem zyt (N:Nat){s:List UInt8}{a d:Nat}(hd:d<=16)(ha:a<=s.length)(hs:s.length<=256)(hN:2000<=N)(self:PSt->Option (NodT.den×(PSt×Unit)))(hself:zyv s d self) :
 z6y N self (pst s a (16 - d))=okP s (16 - d) unN (zgz s d a):=by
 unfold z6y;rw[z16o N hd ha hs hN self hself,zwu];cases hp:zit (ze1 s d) s (s.length+1) a [] with
 | bad e c=>rfl
 | ok t c =>
   have hc:=z1n (z6p (zah s d) _ a [] ha) hp;have ht:=(zfk hs (zah s d) (zpg hs d) a _ a [] ha (Nat.le_refl _) (fun x hx=>by cases hx) (by simp[z2q]) t c hp).2;simp only[okP,Option.bind_some,PR.next];unfold zcn;exact zug N hd hs hN self hself _ _ (fun b ps h1 h2=>by (try dsimp only);rw[zrl hN 3 (by omega)];rfl) (s.length+1) N c [t] (by omega) hc.2 (by omega) (by rw[z4b];omega)
theorem z1cv {s:List UInt8}(hs:s.length<=256):∀ (d N:Nat),d<=16->2000+d<=N->∀ a,a<=s.length->zf N (pst s a (16 - d))=okP s (16 - d) unN (zgz s d a)
 | 0,N,hd,hN,a,ha=>by
   obtain⟨M,rfl⟩:∃ M,N=M+1:=⟨N - 1,by omega⟩
   exact zyt (M+1) hd ha hs (by omega) _ (fun d' h=>by omega)
 | d + 1,N,hd,hN,a,ha=>by
   obtain⟨M,rfl⟩:∃ M,N=M+1:=⟨N - 1,by omega⟩
   exact zyt (M+1) hd ha hs (by omega) _ (fun d' h b hb=>by
    obtain rfl:d=d':=by omega
    exact z1cv hs d M (by omega) (by omega) b hb)
theorem z1nl {s:List UInt8}(hs:s.length<=256){d N:Nat}(hd:d<=16)(hN:2000+d<=N):zyv s d (zf N):=fun d' h a ha=>z1cv hs d' N (by omega) (by omega) a ha
theorem alt_f {s:List UInt8}(hs:s.length<=256):∀ (d N:Nat),d<=16->2000+d<=N->∀ a,a<=s.length->zo N (pst s a (16 - d))=zdk (zgz s d a):=by
 have step:∀ (d M:Nat),d<=16->2000+d<=M+1->z1cy s d (zo M)->∀ a,a<=s.length->zo (M+1) (pst s a (16 - d))=zdk (zgz s d a):=by
  intro d M hd hN hself a ha;have hok:=z1nl hs hd hN;show z4k (M+1) (zo M) (pst s a (16 - d))=_;unfold z4k;rw[z1n9 (M+1) hd ha hs (by omega) _ hself hok,z16o (M+1) hd ha hs (by omega) _ hok,zwu];cases hp:zit (ze1 s d) s (s.length+1) a [] with
  | bad e c=>rfl
  | ok t c =>
    have hc:=z1n (z6p (zah s d) _ a [] ha) hp;have ht:=(zfk hs (zah s d) (zpg hs d) a _ a [] ha (Nat.le_refl _) (fun x hx=>by cases hx) (by simp[z2q]) t c hp).2;simp only[okP,zdk,orP,Option.bind_some,PR.next];unfold z9s;exact zqr (M+1) hd hs (by omega) _ hself hok _ _ _ (fun z=>rfl) (fun b ps h1 h2=>by (try dsimp only);rw[zrl (by omega) 3 (by omega)];rfl) (s.length+1) (M+1) c [t] (by omega) hc.2 (by omega) (by rw[z4b];omega)
 intro d
 induction d with
 | zero =>
   intro N hd hN a ha;obtain⟨M,rfl⟩:∃ M,N=M+1:=⟨N - 1,by omega⟩
   exact step 0 M hd hN (fun d' h=>by omega) a ha
 | succ d ih =>
   intro N hd hN a ha;obtain⟨M,rfl⟩:∃ M,N=M+1:=⟨N - 1,by omega⟩
   exact step (d+1) M hd hN (fun d' h b hb=>by
    obtain rfl:d=d':=by omega
    exact ih M (by omega) (by omega) b hb) a ha
def psF (r:PR Tree):z4u [NodT,z173]:=match r with
 | .bad e a=>(z19s,((e,(a:Int),()),()))
 | .ok t _=>(unN t,((0,0,()),()))
theorem z19n {N:Nat}(hN:2020<=N)(s:List UInt8):z69 N s=some (psF (zy4 s)):=by
 unfold z69 zy4;by_cases h:256<s.length
 . rw[decide_eq_true (show (256:Int)<(s.length:Int) by omega),if_pos h];rfl
 . rw[decide_eq_false (show ¬ (256:Int)<(s.length:Int) by omega),if_neg h];have hs:s.length<=256:=by omega
   have h1:=z1cv hs 16 N (Nat.le_refl _) (by omega) 0 (Nat.zero_le _);have h2:=alt_f hs 16 N (Nat.le_refl _) (by omega) 0 (Nat.zero_le _);unfold pst at h1 h2;simp only[cond_false];have e1:zo N (s,(0,(0,())))=zdk (zgz s 16 0):=h2;have e2:zf N (s,(0,(0,())))=okP s 0 unN (zgz s 16 0):=h1;rw[e1,e2];cases hm:zgz s 16 0 with
   | bad e a=>rfl
   | ok t a =>
     simp only[okP,zdk,orP,Option.bind_some,PR.next,pst];by_cases ha:a<s.length
     . rw[decide_eq_true (show (a:Int)<(s.length:Int) by omega),if_pos ha];rfl
     . rw[decide_eq_false (show ¬ (a:Int)<(s.length:Int) by omega),if_neg ha];rfl
end
end Go.Proofs.YthgcpalmjcomlaaDoorLg
set_option linter.all false
set_option maxRecDepth 100000
namespace Go.Proofs.YthgcpalmjcomlaaDoorLg
noncomputable section
open Go Go.Lift Go.Proofs.YthgcpalmjcomlaaDoorPx
theorem zsk {s:List Int} (hs:SetOk s) (h1:zib s=1):∃ b:Nat,b<256/\zat s 256 0=(b:Int)/\s=z9l b:=by
 have hl:=zjc s 256 0;simp only[Nat.zero_add] at hl;have hz:(zm4 s 256 0).length=1:=hl.trans h1;obtain⟨c,hcl⟩:=List.length_eq_one_iff.1 hz;have hm:=(zhh s 256 0 c).1 (by rw[hcl];exact List.mem_singleton.2 rfl);have hall:∀ i,i<256->hasS s i=decide (i=c):=fun i hi=>by
  by_cases e:i=c
  . rw[e,decide_eq_true rfl];exact hm.2.2
  . rw[decide_eq_false e];cases hh:hasS s i with
    | false=>rfl
    | true =>
      have:=(zhh s 256 0 i).2 ⟨by omega,by omega,hh⟩;rw[hcl] at this;exact absurd (List.mem_singleton.1 this) e
 refine⟨c,by omega,zmm hm.2.2 256 0 (by omega) (by omega) (fun i h3 h4=>by rw[hall i (by omega),decide_eq_false (by omega)]),?_⟩;obtain⟨d1,d2⟩:=zkv (lo:=c) (hi:=c) (Nat.le_refl _) (by omega);rw[show c+1 - c=1 by omega] at d1 d2;exact zey hs d1 (fun i hi=>by rw[hall i hi];show _=hasS (ofS 1 c z4) i;rw[d2 i hi];exact decide_eq_decide.2 (by omega))
theorem z1bw {s:List Int}(hs:SetOk s)(h:zib s=256):s=ofS 256 0 z4:=by
 obtain⟨d1,d2⟩:=zkv (lo:=0) (hi:=255) (by omega) (by omega);exact zey hs d1 (fun i hi=>by rw[zrw 256 h i hi];have:=d2 i hi;rw[this,decide_eq_true (by omega)])
theorem z107:ofS 10 48 z4=[287948901175001088,0,0,0]:=by kernel_rfl
theorem z10u:z1d8 zc3 z4=[287948901175001088,576460745995190270,0,0]:=by kernel_rfl
theorem z141 {S:List UInt8}{a:Nat}(h94:isB S a 94=false)(h93:isB S a 93=false):zbl S a=z7g S (S.length+2) a z4:=by
 unfold zbl;rw[h94,if_neg (by decide)];show _=(if isB S a 93=true then _ else _)
 rw[h93,if_neg (by decide)];cases hi:zei S a with
 | bad e b=>rfl
 | ok t a1 =>
   rw[z1g,z1g];have ht:SetOk t:=zdu hi;have ho:orS z4 t=t:=zey (z125 z6b ht) ht (fun b hb=>by rw[show z4=[0,0,0,0] from rfl,z17s z6b ht hb,zbx,Bool.false_or]);rw[ho];cases z7g S (S.length+1) a1 t<;>rfl
theorem z14w:([91,94,92,120,48,48,45,92,120,102,102,93]:List UInt8)=91::94::((zab brkB 0++[45]++zab brkB 255)++[93]):=by decide +kernel
theorem zc7 {S:List UInt8}{a:Nat}{s:List Int}(sub:Option (Nat->PR Tree))(hs:SetOk s)(h:At S a (zza s)):za8 sub S a=.ok (z14s s) (a+(zza s).length):=by
 unfold zza at h ⊢;by_cases h1:zib s=1
 . rw[if_pos h1] at h ⊢;obtain⟨b,hb,hl,e⟩:=zsk hs h1;rw[hl,Int.toNat_natCast] at h ⊢;rw[z14i sub hb h,<- e]
 rw[if_neg h1] at h ⊢;by_cases h2:zib s=256
 . rw[if_pos h2] at h ⊢;unfold za8;rw[h.2.1,if_neg (by decide),if_pos (by decide),<- z1bw hs h2];rfl
 rw[if_neg h2] at h ⊢;by_cases h3:s=[287948901175001088,0,0,0]
 . rw[if_pos h3] at h ⊢;unfold za8 zrh;rw[h.2.1,if_neg (by decide),if_neg (by decide),if_neg (by decide),if_pos (by decide),nxt h.2.2];simp only[z1g];rw[if_pos (show (100:UInt8).toNat=100 by decide),z1g,z107,h3];rfl
 rw[if_neg h3] at h ⊢;by_cases h4:s=[287948901175001088,576460745995190270,0,0]
 . rw[if_pos h4] at h ⊢;unfold za8 zrh;rw[h.2.1,if_neg (by decide),if_neg (by decide),if_neg (by decide),if_pos (by decide),nxt h.2.2];simp only[z1g];rw[if_neg (show ¬ (119:UInt8).toNat=100 by decide),if_pos (show (119:UInt8).toNat=119 by decide),z1g,z10u,h4];rfl
 rw[if_neg h4] at h ⊢;by_cases h5:zib s=0
 . rw[if_pos h5] at h ⊢;have hz:=zyn hs h5;have hlen:([91,94,92,120,48,48,45,92,120,102,102,93]:List UInt8).length=12:=rfl;have hl9:(zab brkB 0++[(45:UInt8)]++zab brkB 255).length=9:=by decide +kernel
   rw[hlen];rw[z14w] at h;obtain⟨g1,g2⟩:=h.2.2.2.2.app;unfold za8 zbl;rw[h.2.1,if_neg (by decide),if_neg (by decide),if_pos (by decide),isb h.2.2,show decide ((94:UInt8).toNat=94)=true by decide,if_pos rfl,zqb (by omega) (by omega) g1,z1g];rw[z7g,isb g2,if_pos (show decide ((93:UInt8).toNat=93)=true by decide),z1g,if_pos rfl,z1g];have hno:zuk (ofS (255+1 - 0) 0 z4)=s:=by
    obtain⟨d1,d2⟩:=zkv (lo:=0) (hi:=255) (by omega) (by omega);refine zey (zxz d1) hs (fun i hi=>?_);rw[zvp d1 hi,d2 i hi,hz,zbx,decide_eq_true (by omega)];rfl
   rw[hno,hl9]
 rw[if_neg h5] at h ⊢;rw[List.append_assoc] at h;have h6:At S (a+1) (RT (hasS s) 0++[93]):=h.2.2;have hne:RT (hasS s) 0≠[]:=by
  rcases zfd s 256 0 with⟨c,g1,g2,g3,g4,g5⟩|⟨g1,g2⟩
  . have:=(zyx (f:=hasS s) (c:=c) (by omega) g4 (fun i hi=>g5 i (by omega) hi)).2;obtain⟨U,hU⟩:=zil (lo:=c) (hi:=zdd (hasS s) (256 - c) c - 1) (by omega);obtain⟨c1,C1,hc1,_⟩:=zk0 (b:=c) (by omega);rw[this,hU,hc1];simp
  . exfalso;apply h5;have:s=[0,0,0,0]:=zey hs z6b (fun b hb=>by rw[g2 b (by omega) (by omega),zbx]);rw[this];exact z13y (s:=s)
 rcases zwx (hasS s) 256 0 rfl with e|⟨b,U,hb,e⟩
 . exact absurd e hne
 obtain⟨c1,C1,hc1,_,q93,q94⟩:=zk0 hb;have h7:=h6;rw[e,hc1] at h7;have i94:isB S (a+1) 94=false:=by rw[isb h7];exact decide_eq_false (fun e=>q94 (UInt8.toNat_inj.1 e))
 have i93:isB S (a+1) 93=false:=by rw[isb h7];exact decide_eq_false (fun e=>q93 (UInt8.toNat_inj.1 e))
 unfold za8;rw[h.2.1,if_neg (by decide),if_neg (by decide),if_pos (by decide),z141 i94 i93];have hlow:z162 s 0 z4:=⟨z6b,fun i hi=>by rw[show z4=[0,0,0,0] from rfl,zbx,decide_eq_false (by omega),Bool.and_false]⟩
 have hit:=zjy hs 257 0 (S.length+2) (a+1) z4 (by omega) (by omega) hlow h6;rw[hit,z1g];congr 1;simp only[List.length_append,List.length_cons,List.length_nil];omega
theorem zty {n:Nat}(h:n<10):zj2 (UInt8.ofNat (48+n)).toNat=true/\(UInt8.ofNat (48+n)).toNat=48+n:=by
 have:=of8 (b:=48+n) (by omega);rw[this];refine⟨?_,rfl⟩;unfold zj2;rw[decide_eq_true (by omega),decide_eq_true (by omega)];rfl
theorem zr2 {S:List UInt8}{k a v:Nat}{c:UInt8}{T:List UInt8}(h:At S a (c::T))(hd:zj2 c.toNat=true):z7n S (k+1) a v=z7n S k (a+1) (min (10*v+(c.toNat - 48)) 17):=by
 rw[z7n,if_pos ⟨h.1,by rw[h.2.1];exact hd⟩,h.2.1]
theorem zxg {S:List UInt8}{k a v:Nat}{c:UInt8}{T:List UInt8}(h:At S a (c::T))(hd:zj2 c.toNat=false):z7n S (k+1) a v=(v,a):=by
 rw[z7n,if_neg (fun e=>by rw[h.2.1,hd] at e;exact absurd e.2 (by decide))]
theorem zxx {S:List UInt8}{a n:Nat}{c:UInt8}{T:List UInt8}(hn:n<=16)(h:At S a (zvb n++c::T))(hc:zj2 c.toNat=false):zsa S a=.ok n (a+(zvb n).length):=by
 have hle:=h.le;rw[List.length_append,List.length_cons] at hle;unfold zvb at h hle ⊢;by_cases h1:n<10
 . rw[if_pos h1] at h hle ⊢;obtain⟨d1,d2⟩:=zty h1;obtain⟨k,hk⟩:∃ k,S.length=k+1:=⟨S.length - 1,by simp only[List.length_cons,List.length_nil] at hle;omega⟩
   have hs:z7n S (S.length+1) a 0=(n,a+1):=by
    rw[hk,zr2 h d1,d2,zxg h.2.2 hc,show min (10*0+(48+n - 48)) 17=n by omega]
   unfold zsa;rw[nxt h];simp only[z1g];rw[d1,if_pos rfl,hs,if_neg (by simp),if_neg (by simp only;omega)];rfl
 . rw[if_neg h1] at h hle ⊢;obtain⟨d1,d2⟩:=zty (n:=n / 10) (by omega);obtain⟨d3,d4⟩:=zty (n:=n % 10) (by omega);obtain⟨k,hk⟩:∃ k,S.length=k+2:=⟨S.length - 2,by simp only[List.length_cons,List.length_nil] at hle;omega⟩
   have hs:z7n S (S.length+1) a 0=(n,a+2):=by
    rw[hk,zr2 h d1,d2,zr2 h.2.2 d3,d4,zxg h.2.2.2.2 hc,show min (10*min (10*0+(48+n / 10 - 48)) 17+(48+n % 10 - 48)) 17=n by omega]
   unfold zsa;rw[nxt h];simp only[z1g];rw[d1,if_pos rfl,hs,if_neg (fun e=>by rw[d2] at e;omega),if_neg (by simp only;omega)];rfl
theorem z17w {S:List UInt8}{a lo hi fr:Nat}{T:List UInt8}(h:At S a (125::T))(h1:1<=hi)(h2:lo<=hi):zy5 S lo hi fr a=.ok ((lo:Int),(hi:Int)) (a+1):=by
 unfold zy5 zcz;rw[if_neg (by omega),nxt h];simp only[z1g];rw[if_pos (show (125:UInt8).toNat=125 by decide),z1g]
def NR (S:List UInt8)(b:Nat):Prop:=b<S.length->gb S b≠43/\gb S b≠42/\gb S b≠63/\gb S b≠123
theorem zzm {S:List UInt8}{a b:Nat}{sub:Option (Nat->PR Tree)}{y:Tree}(ha:za8 sub S a=.ok y b)(h:NR S b):zbk sub S a=.ok y b:=by
 unfold zbk;rw[ha,z1g];by_cases hb:b<S.length
 . obtain⟨g1,g2,g3,g4⟩:=h hb;rw[if_pos hb,if_neg g1,if_neg g2,if_neg g3,if_neg g4]
 . rw[if_neg hb]
theorem z11v {S:List UInt8}{a b:Nat}{sub:Option (Nat->PR Tree)}{y:Tree}{lo hi:Int}(ha:za8 sub S a=.ok y b)(ht:zlj lo hi=true)(h:At S b (zbo lo hi)) :
 zbk sub S a=.ok (z14r y lo hi) (b+(zbo lo hi).length):=by
 unfold zlj at ht;rw[decide_eq_true_eq] at ht;unfold zbk;rw[ha,z1g];unfold zbo at h ⊢;by_cases c1:lo=0/\hi=-1
 . rw[if_pos c1] at h ⊢;rw[if_pos h.1,h.2.1,if_neg (by decide),if_pos (by decide),c1.1,c1.2];rfl
 rw[if_neg c1] at h ⊢;by_cases c2:lo=1/\hi=-1
 . rw[if_pos c2] at h ⊢;rw[if_pos h.1,h.2.1,if_pos (by decide),c2.1,c2.2];rfl
 rw[if_neg c2] at h ⊢;by_cases c3:lo=0/\hi=1
 . rw[if_pos c3] at h ⊢;rw[if_pos h.1,h.2.1,if_neg (by decide),if_neg (by decide),if_pos (by decide),c3.1,c3.2];rfl
 rw[if_neg c3] at h ⊢;obtain⟨l,rfl⟩:∃ l:Nat,lo=(l:Int):=⟨lo.toNat,by omega⟩
 rw[Int.toNat_natCast] at h ⊢;by_cases c4:hi=(l:Int)
 . rw[if_pos c4] at h ⊢;subst c4;rw[List.append_assoc] at h;have g1:At S (b+1) (zvb l++[125]):=h.2.2;have g2:=g1.app.2;rw[if_pos h.1,show gb S b=(123:UInt8).toNat from h.2.1,if_neg (by decide),if_neg (by decide),if_neg (by decide),if_pos (by decide)];unfold z9u;rw[zxx (by omega) g1 (by decide),z1g,isb g2,if_neg (show ¬ decide ((125:UInt8).toNat=44)=true by decide),z17w g2 (by omega) (Nat.le_refl _),z1g];congr 1;simp only[List.length_append,List.length_cons,List.length_nil];omega
 rw[if_neg c4] at h ⊢;by_cases c5:hi=-1
 . rw[if_pos c5] at h ⊢;rw[List.append_assoc] at h;have g1:At S (b+1) (zvb l++[44,125]):=h.2.2;have g2:=g1.app.2;rw[if_pos h.1,show gb S b=(123:UInt8).toNat from h.2.1,if_neg (by decide),if_neg (by decide),if_neg (by decide),if_pos (by decide)];unfold z9u;rw[zxx (by omega) g1 (by decide),z1g,isb g2,if_pos (show decide ((44:UInt8).toNat=44)=true by decide),isb g2.2.2,if_pos (show decide ((125:UInt8).toNat=125)=true by decide),z1g,c5];congr 1;simp only[List.length_append,List.length_cons,List.length_nil];omega
 rw[if_neg c5] at h ⊢;obtain⟨m,rfl⟩:∃ m:Nat,hi=(m:Int):=⟨hi.toNat,by omega⟩
 rw[Int.toNat_natCast] at h ⊢;rw[List.append_assoc,List.append_assoc,List.append_assoc] at h;have g1:At S (b+1) (zvb l++44::(zvb m++[125])):=h.2.2;have g2:=g1.app.2;have g3:=g2.2.2.app.2;have hd:∃ c U,zvb m++[125]=c::U/\c≠125:=by
  unfold zvb;split
  . refine⟨_,_,rfl,fun e=>?_⟩;have:=(zty (n:=m) (by assumption)).2;rw[e] at this;have:(125:Nat)=48+m:=this;omega
  . refine⟨_,_,rfl,fun e=>?_⟩;have:=(zty (n:=m / 10) (by omega)).2;rw[e] at this;have:(125:Nat)=48+m / 10:=this;omega
 obtain⟨c,U,hcU,hc⟩:=hd;have g4:=g2.2.2;rw[hcU] at g4;rw[if_pos h.1,show gb S b=(123:UInt8).toNat from h.2.1,if_neg (by decide),if_neg (by decide),if_neg (by decide),if_pos (by decide)];unfold z9u;rw[zxx (by omega) g1 (by decide),z1g,isb g2,if_pos (show decide ((44:UInt8).toNat=44)=true by decide),isb g4,if_neg (show ¬ decide (c.toNat=125)=true from fun e=>hc (UInt8.toNat_inj.1 (of_decide_eq_true e))),zxx (by omega) g2.2.2 (by decide),z1g,z17w g3 (by omega) (by omega),z1g];congr 1;simp only[List.length_append,List.length_cons,List.length_nil];omega
end
end Go.Proofs.YthgcpalmjcomlaaDoorLg
set_option linter.all false
set_option maxRecDepth 100000
namespace Go.Proofs.YthgcpalmjcomlaaDoorLg
noncomputable section
open Go Go.Lift Go.Proofs.YthgcpalmjcomlaaDoorPx
def Hd (T:List UInt8):Prop:=∃ c U,T=c::U/\c≠124/\c≠41/\c≠43/\c≠42/\c≠63/\c≠123
theorem Hd.app {T U:List UInt8}(h:Hd T):Hd (T++U):=by
 obtain⟨c,V,rfl,h⟩:=h;exact⟨c,V++U,rfl,h⟩
theorem z158:((List.range 256).all fun b=>match zab spcB b with|[]=>false|c::_=>c != 124 && c != 41 && c != 43 && c != 42 && c != 63 && c != 123)=true:=by decide +kernel
theorem z17d (s:List Int) (hs:SetOk s):Hd (zza s):=by
 unfold zza;by_cases h1:zib s=1
 . rw[if_pos h1];obtain⟨b,hb,hl,_⟩:=zsk hs h1;rw[hl,Int.toNat_natCast];have ht:=zg4 z158 hb;cases he:zab spcB b with
   | nil=>rw[he] at ht;cases ht
   | cons c U =>
     rw[he] at ht;simp only[Bool.and_eq_true,bne_iff_ne,ne_eq] at ht;exact⟨c,U,rfl,ht.1.1.1.1.1,ht.1.1.1.1.2,ht.1.1.1.2,ht.1.1.2,ht.1.2,ht.2⟩
 rw[if_neg h1];split
 . exact⟨_,_,rfl,by decide⟩
 . split
   . exact⟨_,_,rfl,by decide⟩
   . split
     . exact⟨_,_,rfl,by decide⟩
     . split
       . exact⟨_,_,rfl,by decide⟩
       . exact⟨91,RT (hasS s) 0++[93],(List.append_assoc _ _ _).trans List.singleton_append,by decide⟩
theorem z17i (s:List UInt8):Hd (zp1 true s):=by
 unfold zp1;rw[if_pos rfl];exact⟨_,_,rfl,by decide⟩
theorem z32 {k:Int}{st:List Int}{ks:List Tree}{lo hi:Int}(h:zbd (.mk k st ks lo hi)=true):shT k st ks lo hi=true/\∀ x∈ks,zbd x=true:=by
 rw[zbd,Bool.and_eq_true] at h;refine⟨h.1,?_⟩;have:∀ ks:List Tree,zn7 ks=true->∀ x∈ks,zbd x=true:=by
  intro ks
  induction ks with
  | nil=>intro _ x hx;cases hx
  | cons y ys ih =>
    intro h x hx;rw[zn7,Bool.and_eq_true] at h;rcases List.mem_cons.1 hx with rfl|hx
    . exact h.1
    . exact ih h.2 x hx
 exact this ks h.2
theorem zbq {k:Int}{st:List Int}{ks:List Tree}{lo hi:Int}(h:shT k st ks lo hi=true) :
 (k=1/\ks=[]/\lo=0/\hi=0)\/(k=2/\st=z4/\lo=0/\hi=0/\ks.length≠1/\∀ x∈ks,z2e x≠2)\/(k=3/\st=z4/\lo=0/\hi=0/\2<=ks.length/\∀ x∈ks,z2e x≠3)\/(k=4/\st=z4/\(∃ y,ks=[y])/\zlj lo hi=true):=by
 unfold shT at h;by_cases h1:k=1
 . rw[if_pos h1] at h;simp only[Bool.and_eq_true,beq_iff_eq] at h;exact .inl ⟨h1,List.length_eq_zero_iff.1 h.1,h.2.1,h.2.2⟩
 rw[if_neg h1] at h;by_cases h2:k=2
 . rw[if_pos h2] at h;simp only[Bool.and_eq_true,beq_iff_eq,bne_iff_ne,ne_eq,Bool.not_eq_true',List.any_eq_false] at h;exact .inr (.inl ⟨h2,h.1,h.2.1,h.2.2.1,h.2.2.2.1,fun x hx=>by simpa using h.2.2.2.2 x hx⟩)
 rw[if_neg h2] at h;by_cases h3:k=3
 . rw[if_pos h3] at h;simp only[Bool.and_eq_true,beq_iff_eq,decide_eq_true_eq,Bool.not_eq_true',List.any_eq_false] at h;exact .inr (.inr (.inl ⟨h3,h.1,h.2.1,h.2.2.1,h.2.2.2.1,fun x hx=>by simpa using h.2.2.2.2 x hx⟩))
 rw[if_neg h3] at h;by_cases h4:k=4
 . rw[if_pos h4] at h;simp only[Bool.and_eq_true,beq_iff_eq] at h;exact .inr (.inr (.inr ⟨h4,h.1,List.length_eq_one_iff.1 h.2.1,h.2.2⟩))
 . rw[if_neg h4] at h;cases h
theorem zd9 {k:Int}{st:List Int}{ks:List Tree}{lo hi:Int}(h:WfN (.mk k st ks lo hi)):SetOk st/\∀ x∈ks,WfN x:=by
 rw[WfN] at h;exact⟨z15a h.2.1,(zfp ks).1 h.2.2.1.2⟩
theorem znp {x:Tree}{ks:List Tree}{k:Int}{st:List Int}{lo hi:Int}(h:x∈ks):z15 x<z15 (.mk k st ks lo hi):=by
 have:=zee h;rw[z15];omega
def EndA (S:List UInt8)(b:Nat):Prop:=b=S.length\/(b<S.length/\gb S b=41)
def EndC (S:List UInt8)(b:Nat):Prop:=b=S.length\/(b<S.length/\(gb S b=41\/gb S b=124))
theorem EndA.c {S:List UInt8}{b:Nat}(h:EndA S b):EndC S b:=by
 rcases h with h|h
 . exact .inl h
 . exact .inr ⟨h.1,.inl h.2⟩
theorem EndC.nr {S:List UInt8}{b:Nat}(h:EndC S b):NR S b:=by
 intro hb;rcases h with h|⟨_,h|h⟩
 . omega
 . rw[h];decide
 . rw[h];decide
theorem EndC.stop {S:List UInt8}{b:Nat}(h:EndC S b):zdn S b=true:=by
 unfold zdn;rcases h with h|⟨h0,h|h⟩
 . rw[decide_eq_false (by omega)];rfl
 . rw[h,decide_eq_true h0];rfl
 . rw[h,decide_eq_true h0];rfl
theorem Hd.nr {S:List UInt8}{a:Nat}{T:List UInt8}(h:Hd T)(ha:At S a T):NR S a/\zdn S a=false:=by
 obtain⟨c,U,rfl,h1,h2,h3,h4,h5,h6⟩:=h;have n:∀ d:UInt8,c≠d->c.toNat≠d.toNat:=fun d h e=>h (UInt8.toNat_inj.1 e)
 refine⟨fun _=>?_,?_⟩
 . rw[ha.2.1];exact⟨n 43 h3,n 42 h4,n 63 h5,n 123 h6⟩
 . unfold zdn;have n1:c.toNat≠124:=n 124 h1;have n2:c.toNat≠41:=n 41 h2;rw[ha.2.1,decide_eq_true ha.1,beq_eq_false_iff_ne.2 n1,beq_eq_false_iff_ne.2 n2];rfl
def z1e4 (t:Tree):Prop:=∀ (S:List UInt8) (d a:Nat),zk3 t<=d->At S a (zaz t)->EndA S (a+(zaz t).length)->zgz S d a=.ok t (a+(zaz t).length)
def Good (x:Tree):Prop:=WfN x/\zbd x=true
theorem z14j {m:Nat}(H:∀ y,z15 y<=m->Good y->z1e4 y){y:Tree}{e:Bool}(hg:Good y)(hm:e=true->z15 y<=m)(he:e=false->z2e y=1){S:List UInt8}{d a:Nat}(hd:zk3 y+e.toNat<=d)
 (h:At S a (zp1 e (zaz y))):za8 (ze1 S d) S a=.ok y (a+(zp1 e (zaz y)).length):=by
 cases e with
 | false =>
   obtain⟨k,st,ks,lo,hi⟩:=y;have hk:k=1:=he rfl;subst hk;obtain⟨w1,_⟩:=zd9 hg.1;rcases zbq (z32 hg.2).1 with⟨_,rfl,rfl,rfl⟩|⟨q,_⟩|⟨q,_⟩|⟨q,_⟩
   . have e1:zaz (.mk 1 st [] 0 0)=zza st:=by rw[zaz,zg6,z13l,if_pos rfl];rfl
     rw[zp1,if_neg (by decide),e1] at h ⊢;exact zc7 _ w1 h
   all_goals exact absurd q (by decide)
 | true =>
   rw[zp1,if_pos rfl] at h ⊢;rw[List.append_assoc] at h;have h1:At S (a+1) (zaz y++[41]):=h.2.2;obtain⟨h2,h3⟩:=h1.app;obtain⟨d',rfl⟩:∃ d',d=d'+1:=⟨d - 1,by simp only[Bool.toNat_true] at hd;omega⟩
   have ih:=H y (hm rfl) hg S d' (a+1) (by simp only[Bool.toNat_true] at hd;omega) h2 (.inr ⟨h3.1,h3.2.1⟩);unfold za8;rw[show gb S a=(40:UInt8).toNat from h.2.1,if_pos (by decide)];show (zgz S d' (a+1)).next _=_;rw[ih,z1g];unfold zcz;rw[nxt h3];simp only[z1g];rw[if_pos (show (41:UInt8).toNat=41 by decide),z1g];congr 1;simp only[List.length_append,List.length_cons,List.length_nil];omega
def zfx (x:Tree):List UInt8:=zp1 (decide (z2e x=3)) (zaz x)
theorem z11r (st:List Int)(y:Tree)(lo hi:Int):zaz (.mk 4 st [y] lo hi)=zp1 (decide (z2e y≠1)) (zaz y)++zbo lo hi:=by
 rw[zaz,zg6,zg6,z13l,if_neg (by decide),if_pos rfl,List.append_nil];have e1:zqo 4 0=[]:=by unfold zqo;rw[if_neg (by decide)]
 have e2:zav 4 (z2e y)=decide (z2e y≠1):=by unfold zav;exact decide_eq_decide.2 (by omega)
 rw[e1,e2];rfl
theorem zxo {x:Tree} (hg:Good x) (h2:z2e x≠2):Hd (zfx x):=by
 obtain⟨k,st,ks,lo,hi⟩:=x;obtain⟨w1,w2⟩:=zd9 hg.1;unfold zfx;rcases zbq (z32 hg.2).1 with⟨rfl,rfl,rfl,rfl⟩|⟨q,_⟩|⟨rfl,_⟩|⟨rfl,rfl,⟨y,rfl⟩,_⟩
 . have e1:zaz (.mk 1 st [] 0 0)=zza st:=by rw[zaz,zg6,z13l,if_pos rfl];rfl
   rw[show decide (z2e (Tree.mk 1 st [] 0 0)=3)=false from rfl,zp1,if_neg (by decide),e1];exact z17d st w1
 . exact absurd q h2
 . exact z17i _
 . rw[show decide (z2e (Tree.mk 4 z4 [y] lo hi)=3)=false from rfl,zp1,if_neg (by decide),z11r];refine Hd.app ?_;by_cases h1:z2e y=1
   . obtain⟨k',st',ks',lo',hi'⟩:=y;have hk:k'=1:=h1;subst hk;have hy:=(z32 hg.2).2 _ (List.mem_singleton.2 rfl);obtain⟨v1,_⟩:=zd9 (w2 _ (List.mem_singleton.2 rfl));rcases zbq (z32 hy).1 with⟨_,rfl,rfl,rfl⟩|⟨q,_⟩|⟨q,_⟩|⟨q,_⟩
     . have e1:zaz (.mk 1 st' [] 0 0)=zza st':=by rw[zaz,zg6,z13l,if_pos rfl];rfl
       rw[decide_eq_false (by simpa using h1),zp1,if_neg (by decide),e1];exact z17d st' v1
     all_goals exact absurd q (by decide)
   . rw[decide_eq_true h1];exact z17i _
theorem z15k {m:Nat} (H:∀ y,z15 y<=m->Good y->z1e4 y) {x:Tree} (hg:Good x) (h2:z2e x≠2) (h3:z2e x=3->z15 x<=m) (hn:z15 x<=m+1) {S:List UInt8} {d a:Nat} (hd:zk3 x+(decide (z2e x=3)).toNat<=d)
 (h:At S a (zfx x)) (hnr:NR S (a+(zfx x).length)):zbk (ze1 S d) S a=.ok x (a+(zfx x).length):=by
 by_cases h4:z2e x=4
 . obtain⟨k,st,ks,lo,hi⟩:=x;have hk:k=4:=h4;subst hk;obtain⟨w1,w2⟩:=zd9 hg.1;rcases zbq (z32 hg.2).1 with⟨q,_⟩|⟨q,_⟩|⟨q,_⟩|⟨_,rfl,⟨y,rfl⟩,ht⟩
   . exact absurd q (by decide)
   . exact absurd q (by decide)
   . exact absurd q (by decide)
   . have hgy:Good y:=⟨w2 _ (List.mem_singleton.2 rfl),(z32 hg.2).2 _ (List.mem_singleton.2 rfl)⟩
     have hny:=znp (k:=4) (st:=z4) (lo:=lo) (hi:=hi) (List.mem_singleton.2 rfl:y∈[y]);unfold zfx at h hnr ⊢;rw[show decide (z2e (Tree.mk 4 z4 [y] lo hi)=3)=false from rfl] at h hnr hd ⊢;rw[zp1,if_neg (by decide),z11r] at h hnr ⊢;obtain⟨g1,g2⟩:=h.app;have hdy:zk3 y+(decide (z2e y≠1)).toNat<=d:=by
      rw[zk3,zk4,zk4] at hd;have e2:zav 4 (z2e y)=decide (z2e y≠1):=by unfold zav;exact decide_eq_decide.2 (by omega)
      rw[e2] at hd;omega
     have ha:=z14j H hgy (e:=decide (z2e y≠1)) (fun _=>by omega) (fun e=>by
      have:=of_decide_eq_false e;exact Decidable.not_not.1 this) hdy g1
     rw[z11v ha ht g2,List.length_append,Nat.add_assoc];rfl
 . have he:decide (z2e x=3)=false->z2e x=1:=fun e=>by
    have n3:=of_decide_eq_false e;obtain⟨k,st,ks,lo,hi⟩:=x;rcases zbq (z32 hg.2).1 with⟨q,_⟩|⟨q,_⟩|⟨q,_⟩|⟨q,_⟩
    . exact q
    . exact absurd q h2
    . exact absurd q n3
    . exact absurd q h4
   exact zzm (z14j H hg (fun e=>h3 (of_decide_eq_true e)) he hd h) hnr
theorem zo6 {k:Int}:∀ {ks:List Tree},(∀ x∈ks,z2e x≠k)->zau k ks=ks
 | [],_=>rfl
 | x::xs,h=>by
   have h1:zjo k x=[x]:=by unfold zjo;rw[beq_eq_false_iff_ne.2 (h x List.mem_cons_self)];rfl
   have h2:=zo6 (k:=k) (ks:=xs) (fun y hy=>h y (List.mem_cons_of_mem _ hy));unfold zau at h2 ⊢;rw[List.flatMap_cons,h1,h2];rfl
theorem zki (x:Tree)(xs:List Tree)(i:Nat):zg6 (x::xs) 2 i=zfx x++zg6 xs 2 (i+1):=by
 rw[zg6];have e1:zqo 2 i=[]:=by unfold zqo;rw[if_neg (by omega)]
 have e2:zav 2 (z2e x)=decide (z2e x=3):=by unfold zav;exact decide_eq_decide.2 (by omega)
 rw[e1,e2];rfl
theorem zrz {m:Nat} (H:∀ y,z15 y<=m->Good y->z1e4 y) {S:List UInt8} {d:Nat}:∀ (ks:List Tree) (k i a:Nat) (ps:List Tree),(∀ x∈ks,Good x/\z2e x≠2/\(z2e x=3->z15 x<=m)/\z15 x<=m+1)->zk4 ks 2<=d →
 At S a (zg6 ks 2 i)->EndC S (a+(zg6 ks 2 i).length)->S.length<a+k->zit (ze1 S d) S k a ps=.ok (zd1 2 (ps++ks)) (a+(zg6 ks 2 i).length)
 | [],k,i,a,ps,_,_,h,he,hk=>by
   rw[zg6] at h he ⊢;obtain⟨k,rfl⟩:∃ k',k=k'+1:=⟨k - 1,by have:=h.le;simp only[List.length_nil] at this;omega⟩
   rw[zit,if_pos (show zdn S a=true from he.stop),List.append_nil];rfl
 | x :: xs,k,i,a,ps,hx,hd,h,he,hk=>by
   obtain⟨g1,g2,g3,g4⟩:=hx x List.mem_cons_self;have hh:=zxo g1 g2;rw[zki] at h he ⊢;obtain⟨q1,q2⟩:=h.app;have e2:zav 2 (z2e x)=decide (z2e x=3):=by unfold zav;exact decide_eq_decide.2 (by omega)
   rw[zk4,e2] at hd;rw[List.length_append,<- Nat.add_assoc] at he;have hnr:NR S (a+(zfx x).length):=by
    cases xs with
    | nil=>rw[zg6] at he;exact he.nr
    | cons y ys =>
      obtain⟨p1,p2,_⟩:=hx y (List.mem_cons_of_mem _ List.mem_cons_self);rw[zki] at q2;exact ((zxo p1 p2).nr q2.app.1).1
   have hst:=(hh.nr q1).2;obtain⟨c,U,hU,_⟩:=hh;have hpos:0<(zfx x).length:=by rw[hU];simp
   have hle:=q1.le;obtain⟨k,rfl⟩:∃ k',k=k'+1:=⟨k - 1,by omega⟩
   rw[zit,hst,if_neg (by decide),z15k H g1 g2 g3 g4 (by omega) q1 hnr,z1g];rw[zrz H xs k (i+1) (a+(zfx x).length) (ps++[x]) (fun y hy=>hx y (List.mem_cons_of_mem _ hy)) (by omega) q2 he (by omega)];rw[List.append_assoc,List.length_append,Nat.add_assoc];rfl
theorem z144 {m:Nat}(H:∀ y,z15 y<=m->Good y->z1e4 y){t:Tree}(hg:Good t)(h3:z2e t≠3)(hn:z15 t<=m+1){S:List UInt8}{d a:Nat}(hd:zk3 t<=d)(h:At S a (zaz t))(he:EndC S (a+(zaz t).length)) :
 zit (ze1 S d) S (S.length+1) a []=.ok t (a+(zaz t).length):=by
 by_cases h2:z2e t=2
 . obtain⟨k,st,ks,lo,hi⟩:=t;have hk:k=2:=h2;subst hk;obtain⟨w1,w2⟩:=zd9 hg.1;rcases zbq (z32 hg.2).1 with⟨q,_⟩|⟨_,rfl,rfl,rfl,hl,hks⟩|⟨q,_⟩|⟨q,_⟩
   . exact absurd q (by decide)
   . have e1:zaz (.mk 2 z4 ks 0 0)=zg6 ks 2 0:=by rw[zaz,z13l,if_neg (by decide),if_neg (by decide),List.append_nil]
     rw[e1] at h he ⊢;rw[zk3] at hd;have:=zrz H ks (S.length+1) 0 a [] (fun x hx=>⟨⟨w2 x hx,(z32 hg.2).2 x hx⟩,hks x hx,fun _=>by have:=znp (k:=2) (st:=z4) (lo:=0) (hi:=0) hx;omega,by have:=znp (k:=2) (st:=z4) (lo:=0) (hi:=0) hx;omega⟩) hd h he (by omega);rw[this];congr 1;show zd1 2 ks=_;unfold zd1;rw[zo6 hks]
     match ks,hl with
     | [],_=>rfl
     | [x],h1=>exact absurd rfl h1
     | x::y::zs,_=>rfl
   . exact absurd q (by decide)
   . exact absurd q (by decide)
 . have e0:zfx t=zaz t:=by unfold zfx;rw[decide_eq_false h3,zp1,if_neg (by decide)]
   have e1:zg6 [t] 2 0=zaz t:=by rw[zki,e0,zg6,List.append_nil]
   have e2:zav 2 (z2e t)=false:=by unfold zav;exact decide_eq_false (by omega)
   rw[<- e1] at h he ⊢;rw[zrz H [t] (S.length+1) 0 a [] (fun x hx=>by rw[List.mem_singleton.1 hx];exact⟨hg,h2,fun e=>absurd e h3,hn⟩) (by rw[zk4,zk4,e2];simp only[Bool.toNat_false];omega) h he (by omega)];congr 1;show zd1 2 [t]=t;unfold zd1;rw[zo6 (ks:=[t]) (fun x hx=>by rw[List.mem_singleton.1 hx];exact h2)]
theorem z14k {m:Nat} (H:∀ y,z15 y<=m->Good y->z1e4 y) {S:List UInt8} {d:Nat}:∀ (ks:List Tree) (k i a:Nat) (ps:List Tree),0<i->(∀ x∈ks,Good x/\z2e x≠3/\z15 x<=m)->zk4 ks 3<=d →
 At S a (zg6 ks 3 i)->EndA S (a+(zg6 ks 3 i).length)->S.length<a+k->zej (ze1 S d) S k a ps=.ok (zd1 3 (ps++ks)) (a+(zg6 ks 3 i).length)
 | [],k,i,a,ps,_,_,_,h,he,hk=>by
   rw[zg6] at h he ⊢;have hl:=h.le;obtain⟨k,rfl⟩:∃ k',k=k'+1:=⟨k - 1,by simp only[List.length_nil] at hl;omega⟩
   have hb:isB S a 124=false:=by
    unfold isB;rcases he with he|⟨_,he⟩
    . rw[decide_eq_false (by simp only[List.length_nil] at he;omega)];rfl
    . rw[show gb S a=41 from he];simp
   rw[zej,hb,if_neg (by decide),List.append_nil];rfl
 | x :: xs,k,i,a,ps,hi,hx,hd,h,he,hk=>by
   obtain⟨g1,g2,g3⟩:=hx x List.mem_cons_self;have e1:zqo 3 i=[124]:=by unfold zqo;rw[if_pos ⟨rfl,hi⟩]
   have e2:zav 3 (z2e x)=false:=by unfold zav;exact decide_eq_false (by omega)
   have e3:zg6 (x::xs) 3 i=124::(zaz x++zg6 xs 3 (i+1)):=by rw[zg6,e1,e2,zp1,if_neg (by decide)];rfl
   rw[e3] at h he ⊢;rw[zk4,e2] at hd;simp only[Bool.toNat_false,Nat.add_zero] at hd;have hb:=isb h 124;obtain⟨q1,q2⟩:=h.2.2.app;have hle:=q1.le;have h0:=h.1;rw[List.length_cons,List.length_append,show a+((zaz x).length+(zg6 xs 3 (i+1)).length+1)=a+1+(zaz x).length+(zg6 xs 3 (i+1)).length by omega] at he ⊢;have hec:EndC S (a+1+(zaz x).length):=by
    cases xs with
    | nil=>rw[zg6] at he;exact he.c
    | cons y ys =>
      have e4:zqo 3 (i+1)=[124]:=by unfold zqo;rw[if_pos ⟨rfl,by omega⟩]
      rw[zg6,e4] at q2;exact .inr ⟨q2.1,.inr q2.2.1⟩
   obtain⟨k,rfl⟩:∃ k',k=k'+1:=⟨k - 1,by omega⟩
   rw[zej,hb,if_pos (by decide),z144 H g1 g2 (by omega) (by omega) q1 hec,z1g];rw[z14k H xs k (i+1) (a+1+(zaz x).length) (ps++[x]) (by omega) (fun y hy=>hx y (List.mem_cons_of_mem _ hy)) (by omega) q2 he (by omega),List.append_assoc];rfl
theorem z1cw (s:List UInt8)(d a:Nat):zgz s d a=(zit (ze1 s d) s (s.length+1) a []).next fun t a1=>zej (ze1 s d) s (s.length+1) a1 [t]:=by
 cases d<;>rfl
theorem z185:∀ (n:Nat) (t:Tree),z15 t<=n->Good t->z1e4 t
 | 0,t,hn,_=>by have:=zkx t;omega
 | m + 1,t, hn,hg=>by
   intro S d a hd h he;have H:=z185 m;rw[z1cw];by_cases h3:z2e t=3
   . obtain⟨k,st,ks,lo,hi⟩:=t;have hk:k=3:=h3;subst hk;obtain⟨w1,w2⟩:=zd9 hg.1;rcases zbq (z32 hg.2).1 with⟨q,_⟩|⟨q,_⟩|⟨_,rfl,rfl,rfl,hl,hks⟩|⟨q,_⟩
     . exact absurd q (by decide)
     . exact absurd q (by decide)
     . have hall:∀ x∈ks,Good x/\z2e x≠3/\z15 x<=m:=fun x hx=>⟨⟨w2 x hx,(z32 hg.2).2 x hx⟩,hks x hx,by have:=znp (k:=3) (st:=z4) (lo:=0) (hi:=0) hx;omega⟩
       match ks,hl,hks,hall,h,he,hd with
       | x :: xs,hl,hks,hall,h,he,hd =>
         obtain⟨g1,g2,g3⟩:=hall x List.mem_cons_self;have e0:zqo 3 0=[]:=by unfold zqo;rw[if_neg (by omega)]
         have e2:zav 3 (z2e x)=false:=by unfold zav;exact decide_eq_false (by omega)
         have e1:zaz (.mk 3 z4 (x::xs) 0 0)=zaz x++zg6 xs 3 1:=by
          rw[zaz,z13l,if_neg (by decide),if_neg (by decide),List.append_nil,zg6,e0,e2,zp1,if_neg (by decide)];rfl
         rw[e1] at h he ⊢;rw[zk3,zk4,e2] at hd;simp only[Bool.toNat_false,Nat.add_zero] at hd;obtain⟨q1,q2⟩:=h.app;rw[List.length_append,<- Nat.add_assoc] at he ⊢;have hec:EndC S (a+(zaz x).length):=by
          cases xs with
          | nil=>rw[zg6] at he;exact he.c
          | cons y ys =>
            have e4:zqo 3 1=[124]:=by unfold zqo;rw[if_pos ⟨rfl,by omega⟩]
            rw[zg6,e4] at q2;exact .inr ⟨q2.1,.inr q2.2.1⟩
         rw[z144 H g1 g2 (by omega) (by omega) q1 hec,z1g,z14k H xs (S.length+1) 1 (a+(zaz x).length) [x] (by omega) (fun y hy=>hall y (List.mem_cons_of_mem _ hy)) (by omega) q2 he (by omega)];congr 1;show zd1 3 (x::xs)=_;unfold zd1;rw[zo6 hks]
         match xs,hl with
         | [],hl=>exact absurd hl (by simp)
         | y::ys,_=>rfl
     . exact absurd q (by decide)
   . rw[z144 H hg h3 hn hd h he.c,z1g];have hb:isB S (a+(zaz t).length) 124=false:=by
      unfold isB;rcases he with he|⟨_,he⟩
      . rw[decide_eq_false (by omega)];rfl
      . rw[he];simp
     rw[zej,hb,if_neg (by decide)];congr 1;unfold zd1;rw[zo6 (ks:=[t]) (fun x hx=>by rw[List.mem_singleton.1 hx];exact h3)]
theorem zks {t:Tree}(hg:Good t)(hl:(zaz t).length<=256)(hd:zk3 t<=16):zy4 (zaz t)=.ok t (zaz t).length:=by
 have h:=At.self (zaz t) ((zaz t).length - 0) 0 rfl (Nat.zero_le _);rw[List.drop_zero] at h;have:=z185 (z15 t) t (Nat.le_refl _) hg (zaz t) 16 0 hd h (.inl (by omega));rw[Nat.zero_add] at this;unfold zy4;rw[if_neg (by omega),this,z1g,if_neg (by omega)]
end
end Go.Proofs.YthgcpalmjcomlaaDoorLg
set_option linter.all false
set_option maxRecDepth 100000
namespace Go.Proofs.YthgcpalmjcomlaaDoorLg
noncomputable section
open Go Go.Lift Go.Proofs.YthgcpalmjcomlaaDoorPx
abbrev PP:=NodT.den×(List Int×(Bool×(Int×((Int×(Int×Unit))×Unit))))
def badP (e:Int)(a:Nat):PP:=(z19s,(z4,(false,((0:Int),((e,((a:Int),())),())))))
def refP {α:Type}(f:α->Nat->PP):PR α->PP
 | .bad e a=>badP e a
 | .ok x a=>f x a
def Nz {α:Type}(r:PR α):Prop:=match r with
 | .bad e _=>(e != 0)=true
 | .ok _ _=>True
theorem Nz.next {α β:Type}{r:PR α}{f:α->Nat->PR β}(h:Nz r)(hf:∀ x b,r=.ok x b->Nz (f x b)):Nz (r.next f):=by
 cases r with
 | bad e b=>exact h
 | ok x b=>exact hf x b rfl
theorem z12j {s:List UInt8}{a:Nat}(h:a<s.length):z8q s a=.ok (gb s a) a:=by unfold z8q;rw[if_pos h]
theorem zy2 {s:List UInt8}{a:Nat}(h:s.length<=a):z8q s a=.bad 1 s.length:=by unfold z8q;rw[if_neg (by omega)]
end
end Go.Proofs.YthgcpalmjcomlaaDoorLg
set_option linter.all false
set_option maxRecDepth 100000
namespace Go.Proofs.YthgcpalmjcomlaaDoorLg
noncomputable section
open Go Go.Lift Go.Proofs.YthgcpalmjcomlaaDoorPx
theorem z19e {s:List UInt8}{a:Nat}(h:¬ zdn s a=true):a<s.length:=by
 simp[zdn] at h;exact h.1
def Can (t:Tree):Prop:=(z2e t=2->(zzw t).length≠1)/\(z2e t=3->(zzw t).length≠1/\t=.mk 3 z4 (zzw t) 0 0)
def CanR (r:PR Tree):Prop:=∀ t b,r=.ok t b->Can t
theorem CanR.bad {e:Int}{x:Nat}:CanR (.bad e x):=fun t b h=>by cases h
theorem CanR.ok {t:Tree}{x:Nat}(h:Can t):CanR (.ok t x):=fun t b h=>by cases h;assumption
theorem CanR.next {α:Type}{r:PR α}{f:α->Nat->PR Tree}(h:∀ x b,r=.ok x b->CanR (f x b)):CanR (r.next f):=by
 cases r with
 | bad e b=>exact CanR.bad
 | ok x b=>exact h x b rfl
def RefR {α:Type}(f:α->Nat->PP)(r:PR α)(p:PP):Prop:=match r with
 | .bad e a=>p.2.2.2.2.1=(e,((a:Int),()))
 | .ok x a=>p=f x a
theorem RefR.of {α:Type}{f:α->Nat->PP}(r:PR α):RefR f r (refP f r):=by cases r<;>rfl
end
end Go.Proofs.YthgcpalmjcomlaaDoorLg
set_option linter.all false
set_option maxRecDepth 100000
namespace Go.Proofs.YthgcpalmjcomlaaDoorLg
noncomputable section
open Go Go.Lift Go.Proofs.YthgcpalmjcomlaaDoorPx
mutual
theorem zkn:∀ a:Tree,zjg a a=true
 | .mk k st ks lo hi=>by rw[zjg];simp[zpn ks]
theorem zpn:∀ a:List Tree,zm5 a a=true
 | []=>by simp[zm5]
 | x::xs=>by rw[zm5,zkn x,zpn xs];rfl
end
theorem z1e7 {a:NodT.den}(h:Wf NodT a):WfN (foN a):=by
 obtain⟨k,st,ks,lo,hi,u⟩:=a;obtain⟨h1,h2,h3,h4,h5,_⟩:=h;show WfN (.mk k st ks lo hi);rw[WfN];exact⟨h1,h2,⟨h3.1,(zfp ks).2 h3.2⟩,h4,h5⟩
end
end Go.Proofs.YthgcpalmjcomlaaDoorLg
set_option linter.all false
set_option maxRecDepth 100000
namespace Go.Proofs.YthgcpalmjcomlaaDoorLg
noncomputable section
open Go Go.Lift Go.Proofs.YthgcpalmjcomlaaDoorPx
def RgR (r:PR Tree):Prop:=∀ t b,r=.ok t b->zbd t=true
theorem RgR.bad {e:Int}{x:Nat}:RgR (.bad e x):=fun t b h=>by cases h
theorem RgR.ok {t:Tree}{x:Nat}(h:zbd t=true):RgR (.ok t x):=fun t b h=>by cases h;assumption
theorem RgR.next {α:Type}{r:PR α}{f:α->Nat->PR Tree}(h:∀ x b,r=.ok x b->RgR (f x b)):RgR (r.next f):=by
 cases r with
 | bad e b=>exact RgR.bad
 | ok x b=>exact h x b rfl
def zjw (sub:Option (Nat->PR Tree))(s:List UInt8):Nat->Nat->List Tree->PR (List Tree)
 | 0,_,_=>.bad 0 0
 | k+1,a,ps=>if isB s a 124 then (zit sub s (s.length+1) (a+1) []).next fun t a1=>zjw sub s k a1 (ps++[t]) else .ok ps a
theorem z12g {α β γ:Type}(r:PR α)(f:α->Nat->PR β)(g:β->Nat->PR γ):(r.next f).next g=r.next fun x a=>(f x a).next g:=by cases r<;>rfl
theorem zuf (sub:Option (Nat->PR Tree))(s:List UInt8):∀ (k a:Nat) (ps:List Tree),zej sub s k a ps=(zjw sub s k a ps).next fun L b=>.ok (zd1 3 L) b
 | 0,a,ps=>rfl
 | k + 1,a,ps=>by
   rw[zej,zjw];split
   . rw[z12g];congr 1
     funext t a1
     exact zuf sub s k a1 _
   . rfl
structure Cx (s S:List UInt8) (p:Nat):Prop where
 len:s.length+p<=S.length
 at_:∀ a,a<s.length->gb S (a+p)=gb s a
 end_:s.length+p<S.length->gb S (s.length+p)=41\/gb S (s.length+p)=124
def Lf {α:Type}(p:Nat)(r r':PR α):Prop:=∀ x b,r=.ok x b->r'=.ok x (b+p)
theorem Lf.next {α β:Type}{p:Nat}{r r':PR α}{f f':α->Nat->PR β}(h:Lf p r r')(hf:∀ x b,r=.ok x b->Lf p (f x b) (f' x (b+p))):Lf p (r.next f) (r'.next f'):=by
 cases hr:r with
 | bad e c=>intro x b e;cases e
 | ok x b=>rw[h x b hr];exact hf x b hr
theorem Lf.bad {α:Type}{p:Nat}{e:Int}{a:Nat}{r':PR α}:Lf p (.bad e a) r':=fun x b h=>by cases h
theorem Lf.ok {α:Type}{p:Nat}{x:α}{a:Nat}:Lf p (.ok x a) (.ok x (a+p)):=fun y b h=>by cases h;rfl
variable {s S:List UInt8} {p:Nat}
theorem Cx.next (h:Cx s S p)(a:Nat):Lf p (z8q s a) (z8q S (a+p)):=by
 rcases Nat.lt_or_ge a s.length with hl|hl
 . have:=h.len;rw[z12j hl,z12j (show a+p<S.length by omega),h.at_ a hl];exact Lf.ok
 . rw[zy2 hl];exact Lf.bad
theorem Cx.isb (h:Cx s S p) {a b:Nat} (ha:a<=s.length) (hb:b≠41/\b≠124):isB S (a+p) b=isB s a b:=by
 have:=h.len;unfold isB;rcases Nat.lt_or_ge a s.length with hl|hl
 . rw[decide_eq_true hl,decide_eq_true (show a+p<S.length by omega),h.at_ a hl]
 . obtain rfl:a=s.length:=by omega
   rw[decide_eq_false (show ¬ s.length<s.length by omega)];rcases Nat.lt_or_ge (s.length+p) S.length with h2|h2
   . have:=h.end_ h2;have e:(gb S (s.length+p) == b)=false:=by
      rw[beq_eq_false_iff_ne];omega
     rw[e];simp
   . rw[decide_eq_false (by omega)];rfl
theorem Cx.isb_t (h:Cx s S p){a b:Nat}(e:isB s a b=true):isB S (a+p) b=true:=by
 have:=h.len;simp[isB] at e;have q:=h.at_ a e.1;simp[isB,q,e.2];omega
theorem Cx.isb_in (h:Cx s S p){a b:Nat}(ha:a<s.length):isB S (a+p) b=isB s a b:=by
 have:=h.len;unfold isB;rw[decide_eq_true ha,decide_eq_true (show a+p<S.length by omega),h.at_ a ha]
theorem Cx.need (h:Cx s S p)(a b:Nat):Lf p (zcz s a b) (zcz S (a+p) b):=by
 refine (h.next a).next fun c a1 _=>?_
 split
 . rw[show a1+p+1=a1+1+p by omega];exact Lf.ok
 . exact Lf.bad
theorem Cx.hex (h:Cx s S p)(fr fr' a:Nat):Lf p (zul s fr a) (zul S fr' (a+p)):=by
 refine (h.next a).next fun c a1 _=>?_
 split
 . rw[show a1+p+1=a1+1+p by omega];exact Lf.ok
 split
 . rw[show a1+p+1=a1+1+p by omega];exact Lf.ok
 . exact Lf.bad
theorem Cx.esc (h:Cx s S p)(a:Nat):Lf p (zrh s a) (zrh S (a+p)):=by
 unfold zrh;rw[show a+p+1=a+1+p by omega,show a+p+2=a+2+p by omega];refine (h.next (a+1)).next fun c a1 _=>?_
 split
 . exact Lf.ok
 split
 . exact Lf.ok
 split
 . exact (h.hex a (a+p) (a+2)).next fun x a2 _=>(h.hex a (a+p) a2).next fun y a3 _=>Lf.ok
 split
 . exact Lf.ok
 . exact Lf.bad
theorem Cx.sign (h:Cx s S p)(a:Nat):Lf p (zgy s a) (zgy S (a+p)):=by
 refine (h.next a).next fun c a1 _=>?_
 split
 . exact h.esc a
 split
 . exact Lf.bad
 . rw[show a+p+1=a+1+p by omega];exact Lf.ok
theorem Cx.item (h:Cx s S p)(a:Nat):Lf p (zei s a) (zei S (a+p)):=by
 refine (h.sign a).next fun r a1 e=>?_
 have hc:=z1n (zhl s a) e;rw[h.isb hc.2 (by decide),show a1+p+1=a1+1+p by omega];split
 . exact Lf.ok
 . refine (h.sign (a1+1)).next fun q a2 _=>?_
   split
   . exact Lf.bad
   . exact Lf.ok
theorem Cx.items (h:Cx s S p):∀ (k k' a:Nat) (acc:List Int),a<=s.length->k<=k'->Lf p (z7g s k a acc) (z7g S k' (a+p) acc)
 | 0,k',a,acc,ha,hk=>Lf.bad
 | k + 1,k',a,acc,ha,hk=>by
   obtain⟨j,rfl⟩:∃ j,k'=j+1:=⟨k' - 1,by omega⟩
   unfold z7g;rw[h.isb ha (by decide),show a+p+1=a+1+p by omega];split
   . exact Lf.ok
   . refine (h.item a).next fun t a1 e=>?_
     exact Cx.items h k j a1 _ (z1n (zaa s a) e).2 (by omega)
theorem Cx.cls (h:Cx s S p){a:Nat}(ha:a<=s.length):Lf p (zbl s a) (zbl S (a+p)):=by
 have hl:=h.len;unfold zbl;rw[h.isb ha (by decide),show (if isB s a 94=true then a+p+1 else a+p)=(if isB s a 94=true then a+1 else a)+p by split<;>omega];refine (h.item _).next fun t a1 e=>?_
 refine (h.items _ _ a1 t (z1n (zaa s _) e).2 (by omega)).next fun acc a2 _=>Lf.ok
theorem Cx.scan (h:Cx s S p):∀ (k k' a v:Nat),a<=s.length->s.length<a+k->k<=k'->z7n S k' (a+p) v=((z7n s k a v).1,(z7n s k a v).2+p)
 | 0,k',a,v,h1,h2,h3=>by omega
 | k + 1,k',a,v,h1,h2,h3=>by
   have hl:=h.len;obtain⟨j,rfl⟩:∃ j,k'=j+1:=⟨k' - 1,by omega⟩
   rw[z7n,z7n];rcases Nat.lt_or_ge a s.length with hlt|hge
   . rw[h.at_ a hlt];by_cases hd:zj2 (gb s a)=true
     . rw[if_pos ⟨(by omega:a+p<S.length),hd⟩,if_pos ⟨hlt,hd⟩,show a+p+1=a+1+p by omega];exact Cx.scan h k j (a+1) _ (by omega) (by omega) (by omega)
     . rw[if_neg (fun q=>hd q.2),if_neg (fun q=>hd q.2)]
   . obtain rfl:a=s.length:=by omega
     rw[if_neg (fun q=>by
      have:=h.end_ q.1;have q2:=q.2;rcases this with e|e<;>(rw[e] at q2;exact absurd q2 (by decide)))]
     rw[if_neg (fun q=>absurd q.1 (by omega))]
theorem Cx.num (h:Cx s S p){a:Nat}(ha:a<=s.length):Lf p (zsa s a) (zsa S (a+p)):=by
 have hl:=h.len;unfold zsa;rw[h.scan (s.length+1) (S.length+1) a 0 ha (by omega) (by omega)];refine (h.next a).next fun c a1 _=>?_
 split
 . dsimp only;by_cases q:c=48/\a+1<(z7n s (s.length+1) a 0).2
   . rw[if_pos q];exact Lf.bad
   . have q':¬ (c=48/\a+p+1<(z7n s (s.length+1) a 0).2+p):=fun w=>q ⟨w.1,by omega⟩
     rw[if_neg q,if_neg q'];by_cases v:16<(z7n s (s.length+1) a 0).1
     . rw[if_pos v];exact Lf.bad
     . rw[if_neg v,if_neg v];exact Lf.ok
 . exact Lf.bad
theorem Cx.fin (h:Cx s S p)(lo hi fr fr' a:Nat):Lf p (zy5 s lo hi fr a) (zy5 S lo hi fr' (a+p)):=by
 unfold zy5;split
 . exact Lf.bad
 . exact (h.need a 125).next fun _ _ _=>Lf.ok
theorem Cx.braces (h:Cx s S p){a:Nat}(ha:a<=s.length):Lf p (z9u s a) (z9u S (a+p)):=by
 refine (h.num ha).next fun lo a1 e=>?_
 have hc:=z1n (zgv s a) e;rw[h.isb hc.2 (by decide)];split
 . rename_i h44;have hlt:a1<s.length:=by simp[isB] at h44;omega
   rw[show a1+p+1=a1+1+p by omega,h.isb (by omega) (by decide),show a1+p+2=a1+2+p by omega];split
   . exact Lf.ok
   . exact (h.num (by omega)).next fun hi a2 _=>h.fin lo hi _ _ a2
 . exact h.fin lo lo _ _ a1
def Ld {α:Type}(D:Prop)(p:Nat)(r r':PR α):Prop:=∀ x b,r=.ok x b->r'=.ok x (b+p)\/(D/\∃ c,r'=.bad 3 c)
theorem Lf.ld {α:Type}{D:Prop}{p:Nat}{r r':PR α}(h:Lf p r r'):Ld D p r r':=fun x b e=>Or.inl (h x b e)
theorem Ld.next {α β:Type}{D:Prop}{p:Nat}{r r':PR α}{f f':α->Nat->PR β}(h:Ld D p r r')(hf:∀ x b,r=.ok x b->Ld D p (f x b) (f' x (b+p))):Ld D p (r.next f) (r'.next f'):=by
 cases hr:r with
 | bad e c=>intro x b e;cases e
 | ok x b =>
   rcases h x b hr with e|⟨hD,c,e⟩
   . rw[e];exact hf x b hr
   . rw[e];exact fun _ _ _=>Or.inr ⟨hD,c,rfl⟩
def z1df (D:Prop)(s:List UInt8)(p:Nat)(sub sub':Option (Nat->PR Tree)):Prop:=∀ f,sub=some f->(sub'=none/\D)\/∃ f',sub'=some f'/\∀ a,a<=s.length->∀ x b,f a=.ok x b->b<s.length->f' (a+p)=.ok x (b+p)\/(D/\∃ c,f' (a+p)=.bad 3 c)
theorem Cx.atom (h:Cx s S p) {D:Prop} {sub sub':Option (Nat->PR Tree)} (hS:z1df D s p sub sub') {a:Nat} (ha:a<s.length):Ld D p (za8 sub s a) (za8 sub' S (a+p)):=by
 unfold za8;rw[h.at_ a ha,show a+p+1=a+1+p by omega];split
 . cases sub with
   | none=>exact fun x b e=>by cases e
   | some f =>
     intro x b e;rcases hS f rfl with⟨rfl,hD⟩|⟨f',rfl,hf⟩
     . exact Or.inr ⟨hD,_,rfl⟩
     . dsimp only at e ⊢;cases hr:f (a+1) with
       | bad ee c=>rw[hr] at e;cases e
       | ok t c =>
         rw[hr] at e;cases hn:zcz s c 41 with
         | bad ee c2=>simp only[PR.next,hn] at e;cases e
         | ok u c2 =>
           simp only[PR.next,hn] at e;have hc:c<s.length:=by
            rcases Nat.lt_or_ge c s.length with q|q
            . exact q
            . unfold zcz at hn;rw[zy2 q] at hn;cases hn
           rcases hf (a+1) (by omega) t c hr hc with q|⟨hD,c3,q⟩
           . rw[q];simp only[PR.next];rw[h.need c 41 u c2 hn];cases e;exact Or.inl rfl
           . rw[q];exact Or.inr ⟨hD,c3,rfl⟩
 split
 . exact Lf.ok.ld
 split
 . refine ((h.cls (a:=a+1) (by omega)).next fun _ _ _=>?_).ld;exact Lf.ok
 split
 . refine ((h.esc a).next fun _ _ _=>?_).ld;exact Lf.ok
 split
 . exact Lf.bad.ld
 . exact Lf.ok.ld
theorem Cx.piece (h:Cx s S p){D:Prop}{sub sub':Option (Nat->PR Tree)}(hA:z170 s sub)(hS:z1df D s p sub sub'){a:Nat}(ha:a<s.length):Ld D p (zbk sub s a) (zbk sub' S (a+p)):=by
 have hl:=h.len;refine (h.atom hS ha).next fun t a1 e=>?_
 have hc:=z1n (zet hA ha) e;rcases Nat.lt_or_ge a1 s.length with hlt|hge
 . rw[if_pos hlt,if_pos (show a1+p<S.length by omega),h.at_ a1 hlt,show a1+p+1=a1+1+p by omega];split
   . exact Lf.ok.ld
   split
   . exact Lf.ok.ld
   split
   . exact Lf.ok.ld
   split
   . refine ((h.braces (a:=a1+1) (by omega)).next fun _ _ _=>?_).ld;exact Lf.ok
   . exact Lf.ok.ld
 . obtain rfl:a1=s.length:=by omega
   rw[if_neg (by omega)];split
   . rename_i h2;have:=h.end_ h2;rw[if_neg (by omega),if_neg (by omega),if_neg (by omega),if_neg (by omega)];exact Lf.ok.ld
   . exact Lf.ok.ld
theorem Cx.stop (h:Cx s S p){a:Nat}(ha:a<=s.length):zdn S (a+p)=zdn s a:=by
 have hl:=h.len;unfold zdn;rcases Nat.lt_or_ge a s.length with hlt|hge
 . rw[decide_eq_true hlt,decide_eq_true (show a+p<S.length by omega),h.at_ a hlt]
 . obtain rfl:a=s.length:=by omega
   rw[decide_eq_false (show ¬ s.length<s.length by omega)];rcases Nat.lt_or_ge (s.length+p) S.length with h2|h2
   . rcases h.end_ h2 with e|e<;>simp[e]
   . rw[decide_eq_false (by omega)];rfl
theorem Cx.cat (h:Cx s S p){D:Prop}{sub sub':Option (Nat->PR Tree)}(hA:z170 s sub)(hS:z1df D s p sub sub'):∀ (k k' a:Nat) (ps:List Tree),a<=s.length->k<=k'->Ld D p (zit sub s k a ps) (zit sub' S k' (a+p) ps)
 | 0,k',a,ps,ha,hk=>Lf.bad.ld
 | k + 1,k',a,ps,ha,hk=>by
   obtain⟨j,rfl⟩:∃ j,k'=j+1:=⟨k' - 1,by omega⟩
   unfold zit;rw[h.stop ha];split
   . exact Lf.ok.ld
   . rename_i hst;have hlt:=z19e hst;refine (h.piece hA hS hlt).next fun t a1 e=>?_
     exact Cx.cat h hA hS k j a1 _ (z1n (zcv hA hlt) e).2 (by omega)
theorem Cx.altsL (h:Cx s S p) {D:Prop} {sub sub':Option (Nat->PR Tree)} (hA:z170 s sub) (hS:z1df D s p sub sub') (Q:List Tree):∀ (k k' a:Nat) (ps L:List Tree) (b:Nat),a<=s.length->k<=k'->zjw sub s k a ps=.ok L b->(b<s.length\/isB S (s.length+p) 124=false) →
 zjw sub' S k' (a+p) (Q++ps)=.ok (Q++L) (b+p)\/(D/\∃ c,zjw sub' S k' (a+p) (Q++ps)=.bad 3 c)
 | 0,k',a,ps,L,b,ha,hk,e,hb=>by cases e
 | k + 1,k',a,ps,L,b,ha,hk,e,hb=>by
   have hl:=h.len;obtain⟨j,rfl⟩:∃ j,k'=j+1:=⟨k' - 1,by omega⟩
   rw[zjw] at e;rw[zjw];cases hi:isB s a 124 with
   | true =>
     rw[hi] at e;rw[h.isb_t hi,if_pos rfl];rw[if_pos rfl] at e;have hlt:a<s.length:=by simp[isB] at hi;omega
     cases hc:zit sub s (s.length+1) (a+1) [] with
     | bad x y=>rw[hc] at e;cases e
     | ok t a1 =>
       rw[hc] at e;have hp:=z1n (z6p hA _ (a+1) [] (by omega)) hc;rw[show a+p+1=a+1+p by omega];rcases h.cat hA hS (s.length+1) (S.length+1) (a+1) [] (by omega) (by omega) t a1 hc with q|⟨hD,c,q⟩
       . rw[q];simp only[PR.next];rw[List.append_assoc];exact Cx.altsL h hA hS Q k j a1 _ L b hp.2 (by omega) e hb
       . rw[q];exact Or.inr ⟨hD,c,rfl⟩
   | false =>
     rw[hi,if_neg (by simp)] at e;cases e;have hf:isB S (a+p) 124=false:=by
      rcases hb with hb|hb
      . rw[h.isb_in hb];exact hi
      . rcases Nat.lt_or_ge a s.length with hlt|hge
        . rw[h.isb_in hlt];exact hi
        . obtain rfl:a=s.length:=by omega
          exact hb
     rw[hf,if_neg (by simp)];exact Or.inl rfl
theorem Cx.alt (h:Cx s S p) {D:Prop}:∀ (d d':Nat),(d<=d'\/D)->∀ a,a<=s.length->∀ x b,zgz s d a=.ok x b->(b<s.length\/isB S (s.length+p) 124=false)->zgz S d' (a+p)=.ok x (b+p)\/(D/\∃ c,zgz S d' (a+p)=.bad 3 c):=by
 have step : ∀ (d d':Nat),z1df D s p (ze1 s d) (ze1 S d')->∀ a,a<=s.length->∀ x b,zgz s d a=.ok x b->(b<s.length\/isB S (s.length+p) 124=false)->zgz S d' (a+p)=.ok x (b+p)\/(D/\∃ c,zgz S d' (a+p)=.bad 3 c):=by
  intro d d' hS a ha x b e hb;have hl:=h.len;rw[zwu] at e ⊢;cases hc:zit (ze1 s d) s (s.length+1) a [] with
  | bad y z=>rw[hc] at e;cases e
  | ok t a1 =>
    rw[hc] at e;simp only[PR.next] at e;have hp:=z1n (z6p (zah s d) _ a [] ha) hc;rcases h.cat (zah s d) hS (s.length+1) (S.length+1) a [] ha (by omega) t a1 hc with q|⟨hD,c,q⟩
    . rw[q];simp only[PR.next];rw[zuf] at e ⊢;cases hL:zjw (ze1 s d) s (s.length+1) a1 [t] with
      | bad y z=>rw[hL] at e;cases e
      | ok L b1 =>
        rw[hL] at e;cases e;rcases h.altsL (zah s d) hS [] (s.length+1) (S.length+1) a1 [t] L _ hp.2 (by omega) hL hb with q|⟨hD,c,q⟩
        . simp only[List.nil_append] at q;rw[q];exact Or.inl rfl
        . simp only[List.nil_append] at q;rw[q];exact Or.inr ⟨hD,c,rfl⟩
    . rw[q];exact Or.inr ⟨hD,c,rfl⟩
 intro d
 induction d with
 | zero=>intro d' hd;exact step 0 d' (fun f e=>by cases e)
 | succ d ih =>
   intro d' hd;refine step (d+1) d' fun f e=>?_
   cases e;cases d' with
   | zero =>
     refine Or.inl ⟨rfl,?_⟩;rcases hd with hd|hd
     . omega
     . exact hd
   | succ d' =>
     refine Or.inr ⟨_,rfl,fun a ha x b e hb=>ih d' ?_ a ha x b e (Or.inl hb)⟩;rcases hd with hd|hd
     . exact Or.inl (by omega)
     . exact Or.inr hd
end
end Go.Proofs.YthgcpalmjcomlaaDoorLg
set_option linter.all false
set_option maxRecDepth 100000
namespace Go.Proofs.YthgcpalmjcomlaaDoorLg
noncomputable section
open Go Go.Lift Go.Proofs.YthgcpalmjcomlaaDoorPx
theorem Cx.sub {s S:List UInt8}{p:Nat}(h:Cx s S p){D:Prop}{d d':Nat}(hd:d<=d'\/D):z1df D s p (ze1 s d) (ze1 S d'):=by
 intro f e;cases d with
 | zero=>cases e
 | succ d =>
   cases e;cases d' with
   | zero =>
     refine Or.inl ⟨rfl,?_⟩;rcases hd with hd|hd
     . omega
     . exact hd
   | succ d' =>
     refine Or.inr ⟨_,rfl,fun a ha x b e hb=>h.alt d d' ?_ a ha x b e (Or.inl hb)⟩;rcases hd with hd|hd
     . exact Or.inl (by omega)
     . exact Or.inr hd
end
end Go.Proofs.YthgcpalmjcomlaaDoorLg
set_option linter.all false
set_option maxRecDepth 100000
namespace Go.Proofs.YthgcpalmjcomlaaDoorLg
noncomputable section
open Go Go.Lift Go.Proofs.YthgcpalmjcomlaaDoorPx
def zv1 (k:Int):Nat:=if k=3 then 3 else if k=2 then 2 else if k=4 then 1 else 0
def lvT (c:Nat)(k:Int):Nat:=4*(17 - c)+zv1 k
theorem z16g {N:Nat}(hN:320<=N){k:Int}{st:List Int}{ks:List Tree}{lo hi:Int}(hg:Good (.mk k st ks lo hi)):z76 N (k,st,ks,lo,hi,())=some (z13l k st lo hi):=by
 obtain⟨w1,_⟩:=zd9 hg.1;unfold z76 z13l;dsimp only;by_cases h1:k=1
 . rw[z2a (beq_iff_eq.2 h1),if_pos h1,z11t (by omega) w1,Option.bind_some]
 . rw[z6o (beq_eq_false_iff_ne.2 h1),if_neg h1];by_cases h4:k=4
   . rw[z2a (beq_iff_eq.2 h4),if_pos h4];rcases zbq (z32 hg.2).1 with⟨q,_⟩|⟨q,_⟩|⟨q,_⟩|⟨_,_,_,ht⟩
     . exact absurd q h1
     . omega
     . omega
     . rw[zv2 (by omega) ht,Option.bind_some]
   . rw[z6o (beq_eq_false_iff_ne.2 h4),if_neg h4]
theorem z11s (k:Int):zv1 k<=3:=by
 unfold zv1;split
 . omega
 . split
   . omega
   . split<;>omega
theorem z1hg {k:Int} {st:List Int} {ks:List Tree} {lo hi:Int} (hg:Good (.mk k st ks lo hi)) {x:Tree} (hx:x∈ks) {c:Nat} (hc:c<=16):lvT (c+(zav k (z2e x)).toNat) (z2e x)+1<=lvT c k:=by
 have hr:=z11s (z2e x);unfold lvT;cases he:zav k (z2e x) with
 | true=>simp only[Bool.toNat_true];omega
 | false =>
   simp only[Bool.toNat_false,Nat.add_zero];have hn:=of_decide_eq_false he;have:zv1 (z2e x)+1<=zv1 k:=by
    rcases zbq (z32 hg.2).1 with⟨_,q,_⟩|⟨h2,_,_,_,_,h5⟩|⟨h3,_,_,_,_,h5⟩|⟨h4,_⟩
    . rw[q] at hx;cases hx
    . have:=h5 x hx;subst h2;unfold zv1;rw[if_neg (by omega),if_neg this,if_neg (by omega:¬ (2:Int)=3),if_pos rfl];split<;>omega
    . have:=h5 x hx;subst h3;unfold zv1;rw[if_neg this,if_pos rfl];split
      . omega
      . split<;>omega
    . subst h4;have:z2e x=1:=by omega
      rw[this];decide
   omega
def KidSp (self:NodT.den->Bool->zj9->Option zj9)(k:Int)(c Y:Nat)(x:Tree):Prop:=∀ xs:List UInt8,xs.length<=Y+1->∃ s,self (unN x) (zav k (z2e x)) (xs,((c:Int),true))=some s ∧
 (xs.length<=256->s.1.length<=Y)/\(256<xs.length->s.1.length<=xs.length+2410/\s.2.2=false)/\(s.2.2=true->s=(xs++zp1 (zav k (z2e x)) (zaz x),((c:Int),true))/\c+(zk3 x+(zav k (z2e x)).toNat)<=16)
theorem ztf (N:Nat) {self:NodT.den->Bool->zj9->Option zj9} {n:NodT.den} {k:Int} (hk:n.1=k) {c Y:Nat} (hc:c<=16) (hY:Y<=10000000):∀ (ks:List Tree) (i:Nat) (xs:List UInt8),(∀ x∈ks,KidSp self k c Y x)->xs.length<=Y →
 ∃ q,z9v N self n i ks (xs,((c:Int),true))=some q/\q.1.1.length<=Y+2411/\(q.1.2.2=true->q=((xs++zg6 ks k i,((c:Int),true)),true)/\c+zk4 ks k<=16)
 | [],i,xs,_,hx=>⟨_,rfl,by show xs.length<=_;omega,fun _=>⟨by rw[zg6,List.append_nil],by rw[zk4];omega⟩⟩
 | x :: rest,i,xs,hks,hx=>by
   have hb:z10d n i (xs,((c:Int),true))=some (xs++zqo k i,((c:Int),true)):=by
    unfold z10d zqo;rw[hk];by_cases h:k=3/\0<i
    . rw[if_pos h,if_pos h,if_pos (show zc8 xs 1=true by unfold zc8;exact decide_eq_true (by omega))]
    . rw[if_neg h,if_neg h,List.append_nil]
   have hbl:=z16t k i;have hen:z28 N n (unN x)=some (zav k (z2e x)):=by rw[z13m,hk];rfl
   obtain⟨s,h1,h2,h3,h4⟩:=hks x List.mem_cons_self (xs++zqo k i) (by rw[List.length_append];omega);have hstep:z9v N self n i (x::rest) (xs,((c:Int),true))=z9v N self n (i+1) rest s:=by
    rw[z9v,if_neg (by simp),hb,Option.bind_some,hen,Option.bind_some,h1,Option.bind_some]
   rw[hstep];rw[List.length_append] at h2 h3;cases hf:s.2.2 with
   | true =>
     obtain⟨h5,h6⟩:=h4 hf;have hle:s.1.length<=Y:=by
      by_cases hl:xs.length+(zqo k i).length<=256
      . exact h2 hl
      . have:=(h3 (by omega)).2;rw[hf] at this;cases this
     obtain⟨q,g1,g2,g3⟩:=ztf N hk hc hY rest (i+1) s.1 (fun y hy=>hks y (List.mem_cons_of_mem _ hy)) hle;have hs:s=(s.1,((c:Int),true)):=by rw[h5]
     rw[hs];refine⟨q,g1,g2,fun ht=>?_⟩;obtain⟨g4,g5⟩:=g3 ht;refine⟨?_,by rw[zk4];omega⟩;rw[g4,zg6,h5];simp only[List.append_assoc]
   | false =>
     have hle:s.1.length<=Y+2411:=by
      by_cases hl:xs.length+(zqo k i).length<=256
      . have:=h2 hl;omega
      . have:=(h3 (by omega)).1;omega
     cases rest with
     | nil=>exact⟨(s,true),rfl,hle,fun ht=>by rw[hf] at ht;cases ht⟩
     | cons y ys=>exact⟨(s,false),by rw[z9v,if_pos hf],hle,fun ht=>by rw[hf] at ht;cases ht⟩
theorem zxr {N:Nat}{n:NodT.den}{E:List UInt8}(he:z76 N n=some E)(hE:E.length<=2400)(e:Bool){s:zj9}(hs:s.1.length<=100000000) :
 z15p N n e s=some (if e=true then (s.1++E++[41],(Go.RowKit.wrap64 (s.2.1 - 1),s.2.2)) else (s.1++E,s.2)):=by
 unfold z15p;rw[he,Option.bind_some,if_pos (show zc8 s.1 (E.length+1)=true by unfold zc8;exact decide_eq_true (by omega))]
theorem z10t {N:Nat} (hN:320<=N):∀ (h:Nat) (t:Tree),z15 t<=h->Good t->∀ (e:Bool) (xs:List UInt8) (c:Nat),c<=16->xs.length<=10000000 →
 ∃ s,zov N h (unN t) e (xs,((c:Int),true))=some s/\(xs.length<=256->s.1.length<=256+5000*(lvT (c+e.toNat) (z2e t)+1))/\(256<xs.length->s.1.length<=xs.length+2410/\s.2.2=false) ∧
   (s.2.2=true->s=(xs++zp1 e (zaz t),((c:Int),true))/\c+(zk3 t+e.toNat)<=16)
 | 0,t,hn,_=>by have:=zkx t;omega
 | h + 1,.mk k st ks lo hi,hn,hg=>by
   intro e xs c hc hx;have hen:=z16g hN hg;have hE:=z16h k st lo hi;obtain⟨w1,w2⟩:=zd9 hg.1;have hkl:ks.length<=9223372036854775807:=by
    have hw:=hg.1;rw[WfN] at hw;have:=hw.2.2.1.1;unfold maxLen at this;omega
   obtain⟨c1,hc1⟩:∃ c1,c1=c+e.toNat:=⟨_,rfl⟩
   have he1:e.toNat<=1:=by cases e<;>decide
   obtain⟨xs1,hxs1⟩:∃ xs1,xs1=xs++(if e=true then [40] else []):=⟨_,rfl⟩
   have hl1:xs1.length=xs.length+e.toNat:=by rw[hxs1,List.length_append];cases e<;>simp
   have hin:z1hu e (xs,((c:Int),true))=some (xs1,((c1:Int),true)):=by
    unfold z1hu;cases e with
    | true =>
      rw[if_pos rfl,if_pos (show zc8 xs 1=true by unfold zc8;exact decide_eq_true (by omega)),hxs1,if_pos rfl,hc1];congr 3;unfold Go.RowKit.wrap64;simp only[Bool.toNat_true];omega
    | false =>
      rw[if_neg (by decide),hxs1,if_neg (by decide),List.append_nil,hc1];rfl
   show ∃ s,zov N (h+1) (k,st,ks,lo,hi,()) e (xs,((c:Int),true))=some s/\_;rw[zov];dsimp only;rw[if_pos (show decide (ks.length<=9223372036854775807)=true from decide_eq_true hkl),hin,Option.bind_some];have hk2:z2e (.mk k st ks lo hi)=k:=rfl;have hlv:lvT c1 k<=71:=by have:=z11s k;unfold lvT;omega
   rw[hk2,<- hc1];by_cases hfit:xs1.length<=256/\c1<=16
   . have hf : zo7 (xs1,((c1:Int),true))=(xs1,((c1:Int),true)):=by
      unfold zo7;rw[decide_eq_true hfit.1,decide_eq_true (show (c1:Int)<=16 by omega)];rfl
     rw[hf];obtain⟨q,g1,g2,g3⟩:=ztf N (self:=zov N h) (n:=(k,st,ks,lo,hi,())) (k:=k) rfl hfit.2 (Y:=256+5000*lvT c1 k) (by omega) ks 0 xs1 (fun x hxm zs hz=>by
      have hgx:Good x:=⟨w2 x hxm,(z32 hg.2).2 x hxm⟩
      have hnx:=znp (k:=k) (st:=st) (lo:=lo) (hi:=hi) hxm;have hlk:=z1hg hg hxm hfit.2;obtain⟨s,a1,a2,a3,a4⟩:=z10t hN h x (by omega) hgx (zav k (z2e x)) zs c1 hfit.2 (by omega);exact⟨s,a1,fun hh=>by have:=a2 hh;omega,a3,a4⟩) (by omega)
     rw[g1,Option.bind_some];by_cases hq:q.2=false
     . rw[if_pos hq];have hff:q.1.2.2≠true:=fun ht=>by rw[(g3 ht).1] at hq;cases hq
       exact⟨q.1,rfl,fun _=>by omega,fun hh=>by omega,fun ht=>absurd ht hff⟩
     . rw[if_neg hq,zxr hen hE e (by omega)];refine⟨_,rfl,fun _=>?_,fun hh=>by omega,fun ht=>?_⟩
       . cases e with
         | true=>rw[if_pos rfl];simp only[List.length_append,List.length_cons,List.length_nil];omega
         | false=>rw[if_neg (by decide)];simp only[List.length_append];omega
       . have hqt:q.1.2.2=true:=by
          cases e with
          | true=>rw[if_pos rfl] at ht;exact ht
          | false=>rw[if_neg (by decide)] at ht;exact ht
         obtain⟨g4,g5⟩:=g3 hqt;rw[g4];refine⟨?_,by rw[zk3];omega⟩;rw[zaz,hxs1];cases e with
         | true =>
           rw[if_pos rfl,if_pos rfl,zp1,if_pos rfl];have hw:Go.RowKit.wrap64 ((c1:Int) - 1)=(c:Int):=by
            simp only[Bool.toNat_true] at hc1;unfold Go.RowKit.wrap64;omega
           simp only[hw,List.append_assoc]
         | false =>
           have:c1=c:=by simp only[Bool.toNat_false] at hc1;omega
           rw[if_neg (by decide),if_neg (by decide),zp1,if_neg (by decide),this];simp only[List.append_assoc,List.append_nil,List.nil_append]
   . have hf:zo7 (xs1,((c1:Int),true))=(xs1,((c1:Int),false)):=by
      unfold zo7;by_cases h1:xs1.length<=256
      . rw[decide_eq_true h1,decide_eq_false (show ¬ (c1:Int)<=16 by omega)];rfl
      . rw[decide_eq_false h1];rfl
     rw[hf];cases ks with
     | nil =>
       rw[z9v,Option.bind_some,if_neg (by simp),zxr hen hE e (by show xs1.length<=_;omega)];refine⟨_,rfl,fun _=>?_,fun _=>⟨?_,?_⟩,fun ht=>?_⟩
       . cases e with
         | true=>rw[if_pos rfl];simp only[List.length_append,List.length_cons,List.length_nil];omega
         | false=>rw[if_neg (by decide)];simp only[List.length_append];omega
       . cases e with
         | true=>rw[if_pos rfl];simp only[List.length_append,List.length_cons,List.length_nil];omega
         | false=>rw[if_neg (by decide)];simp only[List.length_append];omega
       . cases e with
         | true=>rw[if_pos rfl]
         | false=>rw[if_neg (by decide)]
       . exfalso;cases e with
         | true=>rw[if_pos rfl] at ht;cases ht
         | false=>rw[if_neg (by decide)] at ht;cases ht
     | cons y ys =>
       rw[z9v,if_pos rfl,Option.bind_some,if_pos rfl];exact⟨_,rfl,fun _=>by show xs1.length<=_;omega,fun _=>⟨by show xs1.length<=_;omega,rfl⟩,fun ht=>by cases ht⟩
theorem z178 {N:Nat}{t:Tree}(hN:z15 t+320<=N)(hw:WfN t):∃ r,z5n N (unN t)=some r/\(r.2.1=false->r.1=[])/\(r.2.1=true->Good t/\r.1=zaz t/\(zaz t).length<=256/\zk3 t<=16):=by
 unfold z5n;rw[znf N t (by omega) hw,Option.bind_some];cases hr:zbd t with
 | false=>rw[if_pos rfl];exact⟨([],(false,())),rfl,(fun _=>rfl),(fun h=>by cases h)⟩
 | true =>
   rw[if_neg (by decide)];obtain⟨s,h1,h2,h3,h4⟩:=z10t (N:=N) (by omega) N t (by omega) ⟨hw,hr⟩ false [] 0 (by omega) (by simp);have h1':zov N N (unN t) false ([],((0:Int),true))=some s:=h1;rw[h1',Option.bind_some];by_cases hq:s.2.2=true/\s.1.length<=256
   . rw[if_pos hq];obtain⟨g1,g2⟩:=h4 hq.1;have e:s.1=zaz t:=by rw[g1,zp1,if_neg (by decide)];rfl
     rw[e] at hq;refine⟨(s.1,(true,())),rfl,(fun h=>by cases h),(fun _=>⟨⟨hw,hr⟩,e,hq.2,?_⟩)⟩;simp only[Bool.toNat_false] at g2;omega
   . rw[if_neg hq];exact⟨([],(false,())),rfl,(fun _=>rfl),(fun h=>by cases h)⟩
mutual
theorem zpm:∀ (a b:Tree),zjg a b=true->a=b
 | .mk k st ks lo hi,.mk k' st' ks' lo' hi',h=>by
   rw[zjg] at h;simp only[Bool.and_eq_true,beq_iff_eq] at h;obtain⟨h1,h2,h3,h4,h5,h6⟩:=h;rw[h1,h2,h3,h4,zpo ks ks' h5 h6]
theorem zpo:∀ (a b:List Tree),a.length=b.length->zm5 a b=true->a=b
 | [],[],_,_=>rfl
 | x::xs,y::ys,hl,h=>by
   rw[zm5,Bool.and_eq_true] at h;rw[zpm x y h.1,zpo xs ys (by simpa using hl) h.2]
 | [],y::ys,hl,_=>by simp at hl
 | x::xs,[],hl,_=>by simp at hl
end
end
end Go.Proofs.YthgcpalmjcomlaaDoorLg
set_option linter.all false
set_option maxRecDepth 100000
namespace Go.Proofs.YthgcpalmjcomlaaDoorLg
noncomputable section
open Go Go.Lift Go.Proofs.YthgcpalmjcomlaaDoorPx
theorem zz1 (k:Nat):z3l (k+2500)=some true:=by kernel_rfl
theorem zyb {N:Nat}{a:Tree}(hN:z15 a<N)(hw:WfN a):∃ g,z49 N (unN a)=some g:=by
 unfold z49;rw[zpt N a hN hw,Option.bind_some];cases decide ((300:Int)<zz8 a)<;>exact⟨_,rfl⟩
theorem z1ni (a b:Tree) (ha:WfN a) (hb:WfN b):∃ N,z1v N (unN a) (unN b)=some true:=by
 refine⟨z15 a+z15 b+1500+2500,?_⟩;have w:=zz1 (z15 a+z15 b+1500);obtain⟨ga,hga⟩:=zyb (N:=z15 a+z15 b+1500+2500) (a:=a) (by omega) ha;obtain⟨gb,hgb⟩:=zyb (N:=z15 a+z15 b+1500+2500) (a:=b) (by omega) hb;obtain⟨⟨s,is,⟨⟩⟩,h1,h2,h3⟩:=z178 (N:=z15 a+z15 b+1500+2500) (t:=a) (by omega) ha;obtain⟨⟨t,has,⟨⟩⟩,k1,k2,k3⟩:=z178 (N:=z15 a+z15 b+1500+2500) (t:=b) (by omega) hb;have hps:=z19n (N:=z15 a+z15 b+1500+2500) (by omega) s;have hsa:=zko (z15 a+z15 b+1500+2500) a a (by omega) ha;have hsb:=zko (z15 a+z15 b+1500+2500) a b (by omega) ha;generalize z15 a+z15 b+1500+2500=N at *;simp only at h2 h3 k2 k3;rw[z1v,z4q,z4p,hga,Option.bind_some,w,h1,k1];have rest:((if is=false then True else True):Prop):=by split<;>trivial
 have core : (cond (!is) (cond (s == ([]:List UInt8)) ((some true).bind fun y2=>some y2) (some false))
  ((z69 N s).bind fun y3 =>
    z3h N (unN a) (unN b) s t has y3.1 y3.2.1 (fun x41=>some x41)
     (cond (!has) ((some true).bind fun y4=>some y4) ((z1w N (unN a) (unN b)).bind fun y5=>cond ((s == t) == y5) ((some true).bind fun y6=>some y6) (some false)))))=some true:=by
  cases is with
  | false=>rw[h2 rfl];rfl
  | true =>
    obtain⟨g1,g2,g3,g4⟩:=h3 rfl;subst g2;rw[Bool.not_true,cond_false,hps,Option.bind_some,zks g1 g3 g4];have e1:(psF (PR.ok a (zaz a).length)).1=unN a:=rfl;have e2:(psF (PR.ok a (zaz a).length)).2.1=((0:Int),((0:Int),())):=rfl;rw[z3h,z4o,e1,e2,z6o (by rfl),hsa,Option.bind_some,zkn,Bool.not_true,cond_false];cases has with
    | false=>rfl
    | true =>
      obtain⟨q1,q2,q3,q4⟩:=k3 rfl;subst q2;rw[Bool.not_true,cond_false,hsb,Option.bind_some];have e3:(zaz a == zaz b)=zjg a b:=by
       cases hs:zjg a b with
       | true=>rw[zpm a b hs,beq_self_eq_true]
       | false =>
         refine beq_eq_false_iff_ne.2 (fun e=>?_);have p1:=zks g1 g3 g4;have p2:=zks q1 q3 q4;rw[e,p2] at p1;have e4:b=a:=by injection p1
         rw[e4,zkn] at hs;cases hs
      rw[e3,beq_self_eq_true];rfl
 cases ga with
 | true=>rfl
 | false =>
   rw[cond_false,hgb,Option.bind_some];cases gb with
   | true=>rfl
   | false=>exact core
theorem z1cs (a b:NodT.den)(ha:Wf NodT a)(hb:Wf NodT b):∃ N,z1v N a b=some true:=z1ni (foN a) (foN b) (z1e7 ha) (z1e7 hb)
end
end Go.Proofs.YthgcpalmjcomlaaDoorLg
set_option linter.all false
namespace Go.Proofs.YthgcpalmjcomlaaDoorPx
noncomputable section
open Go Go.Lift
theorem zur {P:Program}{w:World}{base:Nat}{sp:Nat->Bool}{held:Bool}{fuel:Nat}{t:TypeId}{c:Value}{s:List UInt8}{p:List MemPlace}
 (ht:P.underlying t=some .string) (h:DataW.trod (fun _=>()) P w base sp held fuel t [c]=some (.lit (.string s),p)):c=.string ⟨⟨s⟩⟩:=by
 cases fuel with
 | zero=>simp[DataW.trod] at h
 | succ fuel =>
   cases c<;>simp[DataW.trod,ht] at h
   obtain⟨_,h,_⟩:=h;subst h;rfl
theorem zvo {P:Program} {w:World} {base:Nat} {sp:Nat->Bool} {held:Bool} {fuel:Nat} {e:TypeId} {f0 f1 f2:Field} {k:IntKind} {a b:Int} {s:List UInt8} {cs:List Value} {p:List MemPlace}
 (he:P.underlying e=some (.struct #[f0,f1,f2])) (h0:P.underlying f0.type=some (.int k)) (h1:P.underlying f1.type=some (.int k)) (h2:P.underlying f2.type=some .string) (o0:f0.offset=0) (o1:f1.offset=1) (o2:f2.offset=2) (c0:P.cellsOf f0.type=1) (c1:P.cellsOf f1.type=1) (c2:P.cellsOf f2.type=1) (ce:P.cellsOf e=3)
 (h:DataW.trod (fun _=>()) P w base sp held fuel e cs=some (.agg [.lit (.int k a),.lit (.int k b),.lit (.string s)],p)):cs=[.int k a,.int k b,.string ⟨⟨s⟩⟩]:=by
 cases fuel with
 | zero=>simp[DataW.trod] at h
 | succ fuel =>
   simp only[DataW.trod,he,ce] at h;split at h
   . rename_i hl;obtain⟨x,y,z,rfl⟩:∃ x y z,cs=[x,y,z]:=by
      match cs,hl with
      | [x,y,z],_=>exact⟨x,y,z,rfl⟩
     simp only[o0,o1,o2,c0,c1,c2,List.mapM_cons,List.mapM_nil,Option.map_eq_some_iff,Option.bind_eq_bind,Option.bind_eq_some_iff,Option.pure_def,Option.some.injEq,List.drop_zero,List.drop_succ_cons,List.take_succ_cons,List.take_zero] at h;obtain⟨xs,⟨y0,g0,_,⟨y1,g1,_,⟨y2,g2,_,rfl,rfl⟩,rfl⟩,rfl⟩,hx⟩:=h;obtain⟨n0,rfl,rfl⟩:=ziy h0 g0;obtain⟨n1,rfl,rfl⟩:=ziy h1 g1;simp at hx;obtain⟨⟨rfl,rfl,h3⟩,_⟩:=hx;obtain⟨y2a,y2b⟩:=y2;dsimp only at h3;subst h3;rw[zur h2 g2]
   . cases h
abbrev iisT (k:IntKind):T:=.pair (.int k) (.pair (.int k) (.pair .str .unit))
theorem z14p (S:Hp)(k:IntKind):∀ (l:List (Int×(Int×(List UInt8×Unit)))) (cs:List Value),cs.length=3*l.length->(∀ i,(h:i<l.length)->(cs.drop (i*3)).take 3=[.int k (l[i]).1,.int k (l[i]).2.1,.string ⟨⟨(l[i]).2.2.1⟩⟩])->All (Rd S (iisT k)) l cs
 | [],cs,hl,_=>List.length_eq_zero_iff.1 (by simpa using hl)
 | x :: r,cs,hl,h=>by
   refine⟨cs.take 3,cs.drop 3,(List.take_append_drop 3 cs).symm,?_,z14p S k r (cs.drop 3) (by simp at hl ⊢;omega) fun i hi=>?_⟩
   . have:=h 0 (by simp);simp only[Nat.zero_mul,List.drop_zero,List.getElem_cons_zero] at this;rw[this];exact⟨[_],[_,_],rfl,rfl,[_],[_],rfl,rfl,[_],[],rfl,rfl,rfl⟩
   . have:=h (i+1) (by simpa using hi);simp only[List.getElem_cons_succ] at this;rw[List.drop_drop,show 3+i*3=(i+1)*3 by omega];exact this
theorem z16b {P:Program}{W:World}{name:String}{g:Nat}{t e:TypeId}{f0 f1 f2:Field}{k:IntKind}{n:Nat}{l:List (Int×(Int×(List UInt8×Unit)))}{r:List (String×DataW Unit)}{ps:List MemPlace}
 (hg:P.globalNamed name=some g) (hty:(P.globals[g]?).map (·.type)=some t) (ht:P.underlying t=some (.array n e)) (he:P.underlying e=some (.struct #[f0,f1,f2])) (h0:P.underlying f0.type=some (.int k)) (h1:P.underlying f1.type=some (.int k)) (h2:P.underlying f2.type=some .string) (o0:f0.offset=0) (o1:f1.offset=1) (o2:f2.offset=2) (c0:P.cellsOf f0.type=1) (c1:P.cellsOf f1.type=1) (c2:P.cellsOf f2.type=1) (ce:P.cellsOf e=3) (ct:P.cellsOf t=3*n)
 (h:DataW.LaidVars P W ((name,.agg (l.map fun x=>.agg [.lit (.int k x.1),.lit (.int k x.2.1),.lit (.string x.2.2.1)]))::r) ps) :
 VR (hp W) (.ptr (.arr n (iisT k))) l (.pointer (some ⟨g,0,none⟩))/\∃ q,DataW.LaidVars P W r q:=by
 obtain⟨g',t',cs,fuel,p,q,e1,e2,e3,e4,e5,_⟩:=h;obtain rfl:=Option.some.inj (hg.symm.trans e1);obtain rfl:=Option.some.inj (hty.symm.trans e2);refine⟨?_,q,e5⟩;simp only[World.var?,hg,Option.bind_some] at e3;split at e3
 case h_2=>cases e3
 rename_i cs' t2 fr hh;simp only[Option.some.injEq] at e3;subst e3;cases fuel with
 | zero=>simp[DataW.trod] at e4
 | succ fuel =>
   simp only[DataW.trod,ht,ce,ct] at e4;split at e4
   case isFalse=>cases e4
   rename_i hlen;simp only[Option.map_eq_some_iff] at e4;obtain⟨xs,hm,hx⟩:=e4;obtain⟨m1,m2⟩:=znu hm;simp only[Prod.mk.injEq,DataW.agg.injEq] at hx;have hl:l.length=n:=by
    have:=congrArg List.length hx.1;simp only[List.length_map,List.length_range] at this m1;omega
   refine VR.of_one rfl ⟨g,0,cs'.toList,rfl,⟨cs',t2,fr,[],[],hh,by simp,rfl⟩,hl,z14p (hp W) k l cs'.toList (by omega) fun i hi=>?_⟩;obtain⟨y,y1,y2⟩:=m2 i (by simp;omega);simp only[List.getElem_range] at y2;have hy:(xs.map (·.1))[i]?=some y.1:=by rw[List.getElem?_map,y1];rfl
   rw[hx.1,List.getElem?_map,List.getElem?_eq_getElem hi,Option.map_some,Option.some.injEq] at hy;obtain⟨y0,yp⟩:=y;dsimp only at hy;subst hy;exact zvo he h0 h1 h2 o0 o1 o2 c0 c1 c2 ce y2
theorem ztc {P:Program}{W:World}{name:String}{d:DataW Unit}{r:List (String×DataW Unit)}{ps:List MemPlace}(h:DataW.LaidVars P W ((name,d)::r) ps):∃ q,DataW.LaidVars P W r q:=by
 obtain⟨g',t',cs,fuel,p,q,e1,e2,e3,e4,e5,_⟩:=h;exact⟨q,e5⟩
end
end Go.Proofs.YthgcpalmjcomlaaDoorPx
