import Derived.Test.YthgcpalmjcomlaaDoorLgW
import Derived.LaidLaws
import Derived.Test.YthgcpalmjcomlaaDoorLgPrRa1
import Derived.Test.YthgcpalmjcomlaaDoorLgPrRa6
import Derived.KernelRfl
set_option linter.all false
namespace Go.Proofs.YthgcpalmjcomlaaDoorPx
noncomputable section
open Go Go.Lift
theorem zmm {α β:Type}{f:α->Option β}:∀ {l:List α} {ys:List β},l.mapM f=some ys->ys.length=l.length/\∀ i,(h:i<l.length)->∃ y,ys[i]?=some y/\f l[i]=some y
 | [],ys,h=>by simp at h;subst h;simp
 | a :: l,ys,h=>by
   simp only[List.mapM_cons,Option.pure_def,Option.bind_eq_bind,Option.bind_eq_some_iff,Option.some.injEq] at h;obtain⟨y,hy,zs,hz,rfl⟩:=h;obtain⟨h1,h2⟩:=zmm hz;refine⟨by simp[h1],fun i hi=>?_⟩;cases i with
   | zero=>exact⟨y,rfl,hy⟩
   | succ i =>
     obtain⟨z,e1,e2⟩:=h2 i (by simpa using hi);exact⟨z,by simpa using e1,by simpa using e2⟩
theorem zi8 {H:Type}{enc:TypeId×Value->H}{P:Program}{w:World}{base:Nat}{sp:Nat->Bool}{held:Bool}{fuel:Nat}{t:TypeId}{k:IntKind}{c:Value}{y:DataW H×List MemPlace}
 (ht:P.underlying t=some (.int k)) (h:DataW.trod enc P w base sp held fuel t [c]=some y):∃ n,c=.int k n/\y=(.lit (.int k n),[]):=by
 cases fuel with
 | zero=>simp[DataW.trod] at h
 | succ fuel =>
   cases c<;>simp[DataW.trod,ht] at h
   rename_i k' n;obtain⟨⟨rfl,_⟩,rfl⟩:=h;exact⟨n,rfl,rfl⟩
theorem zsk {P:Program} {w:World} {base:Nat} {sp:Nat->Bool} {held:Bool} {fuel:Nat} {t e:TypeId} {k:IntKind} {n:Nat} {cs:List Value} {ns:List Int} {p:List MemPlace}
 (ht:P.underlying t=some (.array n e)) (he:P.underlying e=some (.int k)) (hc:P.cellsOf e=1) (hct:P.cellsOf t=n)
 (h:DataW.trod (fun _=>()) P w base sp held fuel t cs=some (.agg (ns.map fun i=>.lit (.int k i)),p)):cs=ns.map (fun i=>.int k i)/\ns.length=n:=by
 cases fuel with
 | zero=>simp[DataW.trod] at h
 | succ fuel =>
   simp only[DataW.trod,ht,hc,hct] at h;split at h
   . rename_i hl;simp only[Option.map_eq_some_iff] at h;obtain⟨xs,hm,hx⟩:=h;obtain⟨h1,h2⟩:=zmm hm;simp only[Prod.mk.injEq,DataW.agg.injEq] at hx;have hlen:ns.length=n:=by
      have:=congrArg List.length hx.1;simp only[List.length_map,List.length_range] at this h1;omega
     refine⟨List.ext_getElem? fun i=>?_,hlen⟩;by_cases hi:i<n
     . obtain⟨y,e1,e2⟩:=h2 i (by simpa using hi);have hci:(cs.drop (i*1)).take 1=[cs[i]'(by omega)]:=by
        rw[Nat.mul_one,List.drop_eq_getElem_cons (by omega:i<cs.length)];rfl
       simp only[List.getElem_range] at e2;rw[hci] at e2;obtain⟨m,hm1,hm2⟩:=zi8 he e2;have hy:(xs.map (·.1))[i]?=some (.lit (.int k m)):=by rw[List.getElem?_map,e1,hm2];rfl
       rw[hx.1,List.getElem?_map] at hy;have hn:ns[i]?=some (ns[i]'(by omega)):=List.getElem?_eq_getElem (by omega);rw[hn] at hy;simp only[Option.map_some,Option.some.injEq,DataW.lit.injEq,Lit.int.injEq,true_and] at hy;rw[List.getElem?_eq_getElem (by omega:i<cs.length),hm1,List.getElem?_map,hn,Option.map_some,hy]
     . rw[List.getElem?_eq_none (by omega),List.getElem?_eq_none (by rw[List.length_map];omega)]
   . cases h
theorem zyb (S:Hp)(k:IntKind):∀ ns:List Int,All (Rd S (.int k)) ns (ns.map fun i=>.int k i)
 | []=>rfl
 | x::r=>⟨[.int k x],_,rfl,rfl,zyb S k r⟩
theorem z12d {P:Program}{W:World}{name:String}{g:Nat}{t e:TypeId}{k:IntKind}{n:Nat}{ns:List Int}{r:List (String×DataW Unit)}{ps:List MemPlace}
 (hg:P.globalNamed name=some g) (hty:(P.globals[g]?).map (·.type)=some t) (ht:P.underlying t=some (.array n e)) (he:P.underlying e=some (.int k)) (hc:P.cellsOf e=1) (hct:P.cellsOf t=n)
 (h:DataW.LaidVars P W ((name,.agg (ns.map fun i=>.lit (.int k i)))::r) ps) :
 VR (hp W) (.ptr (.arr n (.int k))) ns (.pointer (some ⟨g,0,none⟩))/\∃ q,DataW.LaidVars P W r q:=by
 obtain⟨g',t',cs,fuel,p,q,e1,e2,e3,e4,e5,_⟩:=h;obtain rfl:=Option.some.inj (hg.symm.trans e1);obtain rfl:=Option.some.inj (hty.symm.trans e2);obtain⟨h1,h2⟩:=zsk ht he hc hct e4;refine⟨?_,q,e5⟩;simp only[World.var?,hg,Option.bind_some] at e3;split at e3
 . rename_i cs' t2 fr hh;simp only[Option.some.injEq] at e3;subst e3;refine VR.of_one rfl ⟨g,0,cs'.toList,rfl,⟨cs',t2,fr,[],[],hh,by simp,rfl⟩,?_⟩;rw[h1];exact⟨h2,zyb _ _ _⟩
 . cases e3
end
end Go.Proofs.YthgcpalmjcomlaaDoorPx
set_option linter.all false
namespace Go.Proofs.YthgcpalmjcomlaaDoorPx
noncomputable section
open Go Go.Lift
theorem z18o (x:Int):IntKind.wrap .u8 x=x % 256:=by
 simp only[IntKind.wrap,IntKind.bits,IntKind.signed,Bool.false_and,Bool.false_eq_true,if_false];rfl
theorem zjv {x:Int}(h0:0<=x)(h1:x<256):IntKind.wrap .u8 x=x:=by rw[z18o];omega
theorem z18u (u:UInt8):u.toNat<256:=u.toNat_lt
theorem zrp {i:Nat}(h:i<9223372036854775807):IntKind.wrap .i64 ((i:Int)+1)=((i+1:Nat):Int):=by
 rw[z5p (by unfold I64;omega)];omega
theorem zqu {α:Type}(l:List α)(d:α)(i:Nat)(h:i<l.length):l.getD i d∈l:=by
 rw[List.getD_eq_getElem?_getD,List.getElem?_eq_getElem h];simp
theorem z135 {α:Type}(l:List α)(d:α)(i:Nat)(h:i<l.length):l.drop i=l.getD i d::l.drop (i+1):=by
 rw[List.getD_eq_getElem?_getD,List.getElem?_eq_getElem h,Option.getD_some,List.drop_eq_getElem_cons h]
theorem z134 {α:Type}(l:List α){i:Nat}(h:l.length<=i):l.drop i=[]:=List.drop_of_length_le h
end
end Go.Proofs.YthgcpalmjcomlaaDoorPx
set_option linter.all false
namespace Go.Proofs.YthgcpalmjcomlaaDoorPx
noncomputable section
open Go Go.Lift
def U64 (x:Int):Prop:=0<=x/\x<18446744073709551616
instance (x:Int):Decidable (U64 x):=by unfold U64;infer_instance
def bit (w:Int)(i:Nat):Bool:=w.toNat.testBit i
theorem zps (x:Int):IntKind.wrap .u64 x=x % 18446744073709551616:=rfl
theorem zpt (x:Int):U64 (IntKind.wrap .u64 x):=by rw[zps];unfold U64;omega
theorem z6u {x:Int}(h:U64 x):IntKind.wrap .u64 x=x:=by rw[zps];unfold U64 at h;omega
theorem zk5 {x:Int}(h:U64 x):(BitVec.ofInt 64 x).toNat=x.toNat:=by
 unfold U64 at h;rw[BitVec.toNat_ofInt];omega
theorem z13p (v:BitVec 64):U64 ((v.toNat:Nat):Int):=by
 have:=v.isLt;unfold U64;omega
theorem zrh {x y:Int}(hx:U64 x)(hy:U64 y):bitsOp .and .u64 x y=((x.toNat &&& y.toNat:Nat):Int):=by
 have e:bitsOp .and .u64 x y=IntKind.wrap .u64 ((BitVec.ofInt 64 x &&& BitVec.ofInt 64 y).toNat:Int):=rfl;rw[e,z6u (z13p _),BitVec.toNat_and,zk5 hx,zk5 hy]
theorem z1f1 {x y:Int}(hx:U64 x)(hy:U64 y):bitsOp .or .u64 x y=((x.toNat ||| y.toNat:Nat):Int):=by
 have e:bitsOp .or .u64 x y=IntKind.wrap .u64 ((BitVec.ofInt 64 x ||| BitVec.ofInt 64 y).toNat:Int):=rfl;rw[e,z6u (z13p _),BitVec.toNat_or,zk5 hx,zk5 hy]
theorem z18n {x y:Int}(hx:U64 x)(hy:U64 y):bitsOp .xor .u64 x y=((x.toNat ^^^ y.toNat:Nat):Int):=by
 have e:bitsOp .xor .u64 x y=IntKind.wrap .u64 ((BitVec.ofInt 64 x ^^^ BitVec.ofInt 64 y).toNat:Int):=rfl;rw[e,z6u (z13p _),BitVec.toNat_xor,zk5 hx,zk5 hy]
theorem z18w {x y:Int}(hx:U64 x)(hy:U64 y):U64 (bitsOp .and .u64 x y):=by
 have e:bitsOp .and .u64 x y=IntKind.wrap .u64 ((BitVec.ofInt 64 x &&& BitVec.ofInt 64 y).toNat:Int):=rfl;rw[e];exact zpt _
theorem z173 {x y:Int}(hx:U64 x)(hy:U64 y):U64 (bitsOp .or .u64 x y):=by
 have e:bitsOp .or .u64 x y=IntKind.wrap .u64 ((BitVec.ofInt 64 x ||| BitVec.ofInt 64 y).toNat:Int):=rfl;rw[e];exact zpt _
theorem z18v {x y:Int}(hx:U64 x)(hy:U64 y):U64 (bitsOp .xor .u64 x y):=by
 have e:bitsOp .xor .u64 x y=IntKind.wrap .u64 ((BitVec.ofInt 64 x ^^^ BitVec.ofInt 64 y).toNat:Int):=rfl;rw[e];exact zpt _
theorem z1cn {x y:Int}(hx:U64 x)(hy:U64 y)(i:Nat):bit (bitsOp .and .u64 x y) i=(bit x i && bit y i):=by
 rw[zrh hx hy];simp only[bit,Int.toNat_natCast,Nat.testBit_and]
theorem z17v {x y:Int}(hx:U64 x)(hy:U64 y)(i:Nat):bit (bitsOp .or .u64 x y) i=(bit x i || bit y i):=by
 rw[z1f1 hx hy];simp only[bit,Int.toNat_natCast,Nat.testBit_or]
theorem zjy:U64 18446744073709551615:=by unfold U64;omega
theorem z1cm {x:Int}(hx:U64 x){i:Nat}(hi:i<64):bit (bitsOp .xor .u64 18446744073709551615 x) i=!bit x i:=by
 rw[z18n zjy hx];have e:(18446744073709551615:Int).toNat=2^64 - 1:=rfl;simp only[bit,Int.toNat_natCast,Nat.testBit_xor,e,Nat.testBit_two_pow_sub_one,hi,decide_true,Bool.true_xor]
theorem ztp {n:Nat}(hn:n<64):U64 ((2^n:Nat):Int):=by
 have hp:2^n<2^64:=Nat.pow_lt_pow_right (by omega) hn;have e:(2:Nat)^64=18446744073709551616:=rfl;rw[e] at hp;generalize 2^n=q at hp;unfold U64;omega
theorem shl1 {n:Nat}(hn:n<64):shlI .u64 1 (n:Int)=((2^n:Nat):Int):=by
 have e:shlI .u64 1 (n:Int)=IntKind.wrap .u64 (1*2^(min (n:Int).toNat 64)):=rfl;have hp:2^n<2^64:=Nat.pow_lt_pow_right (by omega) hn;rw[e,Int.toNat_natCast,Nat.min_eq_left (by omega),Int.one_mul];have e2:((2:Int)^n)=((2^n:Nat):Int):=by rw[Int.natCast_pow];rfl
 rw[e2,z6u (ztp hn)]
theorem z1cl (n i:Nat):bit ((2^n:Nat):Int) i=decide (n=i):=by
 simp only[bit,Int.toNat_natCast,Nat.testBit_two_pow]
theorem z1ck {x:Int}(hx:U64 x){n:Nat}(hn:n<64)(i:Nat):bit (bitsOp .or .u64 x (shlI .u64 1 (n:Int))) i=(bit x i || decide (n=i)):=by
 rw[shl1 hn,z17v hx (ztp hn),z1cl]
theorem zu8 {x:Int}(hx:0<=x){n:Nat}(hn:n<64):shrI .u64 x (n:Int)=((x.toNat >>> n:Nat):Int):=by
 have e:shrI .u64 x (n:Int)=x.fdiv (2^(min (n:Int).toNat 64)):=rfl;rw[e,Int.toNat_natCast,Nat.min_eq_left (by omega),Nat.shiftRight_eq_div_pow];have e2:((2:Int)^n)=((2^n:Nat):Int):=by rw[Int.natCast_pow];rfl
 rw[e2,Int.fdiv_eq_ediv_of_nonneg _ (Int.natCast_nonneg _),Int.natCast_ediv];congr 1;omega
theorem z1bp {x:Int}(hx:U64 x){n:Nat}(hn:n<64):(bitsOp .and .u64 (shrI .u64 x (n:Int)) 1 == 1)=bit x n:=by
 have hs:U64 (shrI .u64 x (n:Int)):=by
  rw[zu8 hx.1 hn,Nat.shiftRight_eq_div_pow];have h:=Nat.div_le_self x.toNat (2^n);generalize x.toNat / 2^n=q at *;unfold U64 at *;omega
 rw[zrh hs (by unfold U64;omega),zu8 hx.1 hn];simp only[Int.toNat_natCast,bit,Nat.testBit];have e:(1:Int).toNat=1:=rfl;rw[e,Nat.and_comm (x.toNat >>> n) 1];have h01:1 &&& (x.toNat >>> n)=(x.toNat >>> n) % 2:=by rw[Nat.and_comm];exact Nat.and_one_is_mod _
 rw[h01];have:(x.toNat >>> n) % 2<2:=Nat.mod_lt _ (by omega);rcases Nat.lt_or_ge ((x.toNat >>> n) % 2) 1 with h|h
 . have h0:(x.toNat >>> n) % 2=0:=by omega
   rw[h0];rfl
 . have h0:(x.toNat >>> n) % 2=1:=by omega
   rw[h0];rfl
def SetOk (s:List Int):Prop:=∃ a b c d,s=[a,b,c,d]/\U64 a/\U64 b/\U64 c/\U64 d
def hasS (s:List Int)(b:Nat):Bool:=bit (s.getD (b / 64) 0) (b % 64)
theorem SetOk.length {s:List Int}(h:SetOk s):s.length=4:=by
 obtain⟨a,b,c,d,rfl,_⟩:=h;rfl
theorem SetOk.word {s:List Int}(h:SetOk s){i:Nat}(hi:i<4):U64 (s.getD i 0):=by
 obtain⟨a,b,c,d,rfl,ha,hb,hc,hd⟩:=h
 match i,hi with
 | 0,_=>exact ha
 | 1,_=>exact hb
 | 2,_=>exact hc
 | 3,_=>exact hd
theorem SetOk.set {s:List Int}(h:SetOk s){i:Nat}(hi:i<4){x:Int}(hx:U64 x):SetOk (s.set i x):=by
 obtain⟨a,b,c,d,rfl,ha,hb,hc,hd⟩:=h
 match i,hi with
 | 0,_=>exact⟨x,b,c,d,rfl,hx,hb,hc,hd⟩
 | 1,_=>exact⟨a,x,c,d,rfl,ha,hx,hc,hd⟩
 | 2,_=>exact⟨a,b,x,d,rfl,ha,hb,hx,hd⟩
 | 3,_=>exact⟨a,b,c,x,rfl,ha,hb,hc,hx⟩
def zipS (f:Int->Int->Int)(s t:List Int):List Int:=List.zipWith f s t
theorem SetOk.zip {s t:List Int}(f:Int->Int->Int)(hf:∀ x y,U64 x->U64 y->U64 (f x y))(hs:SetOk s)(ht:SetOk t):SetOk (zipS f s t):=by
 obtain⟨a,b,c,d,rfl,ha,hb,hc,hd⟩:=hs;obtain⟨a',b',c',d',rfl,ha',hb',hc',hd'⟩:=ht;exact⟨_,_,_,_,rfl,hf _ _ ha ha',hf _ _ hb hb',hf _ _ hc hc',hf _ _ hd hd'⟩
theorem SetOk.map {s:List Int}(f:Int->Int)(hf:∀ x,U64 x->U64 (f x))(hs:SetOk s):SetOk (s.map f):=by
 obtain⟨a,b,c,d,rfl,ha,hb,hc,hd⟩:=hs;exact⟨_,_,_,_,rfl,hf _ ha,hf _ hb,hf _ hc,hf _ hd⟩
theorem zwe {s t:List Int}(f:Int->Int->Int)(hs:SetOk s)(ht:SetOk t){i:Nat}(hi:i<4):(zipS f s t).getD i 0=f (s.getD i 0) (t.getD i 0):=by
 obtain⟨a,b,c,d,rfl,ha,hb,hc,hd⟩:=hs;obtain⟨a',b',c',d',rfl,ha',hb',hc',hd'⟩:=ht
 match i,hi with
 | 0,_=>rfl
 | 1,_=>rfl
 | 2,_=>rfl
 | 3,_=>rfl
theorem z159 {s:List Int}(f:Int->Int)(hs:SetOk s){i:Nat}(hi:i<4):(s.map f).getD i 0=f (s.getD i 0):=by
 obtain⟨a,b,c,d,rfl,ha,hb,hc,hd⟩:=hs
 match i,hi with
 | 0,_=>rfl
 | 1,_=>rfl
 | 2,_=>rfl
 | 3,_=>rfl
def orS:=zipS (bitsOp .or .u64)
def zz9:=zipS (bitsOp .and .u64)
def ztg (s:List Int):List Int:=s.map (bitsOp .xor .u64 18446744073709551615)
theorem z11f {s t:List Int}(hs:SetOk s)(ht:SetOk t):SetOk (orS s t):=SetOk.zip _ (fun _ _=>z173) hs ht
theorem z1ne {s t:List Int}(hs:SetOk s)(ht:SetOk t):SetOk (zz9 s t):=SetOk.zip _ (fun _ _=>z18w) hs ht
theorem zwu {s:List Int}(hs:SetOk s):SetOk (ztg s):=SetOk.map _ (fun _ h=>z18v zjy h) hs
theorem z17l {s t:List Int}(hs:SetOk s)(ht:SetOk t){b:Nat}(hb:b<256):hasS (orS s t) b=(hasS s b || hasS t b):=by
 have hi:b / 64<4:=by omega
 rw[hasS,orS,zwe _ hs ht hi,z17v (hs.word hi) (ht.word hi)];rfl
theorem zqt {s t:List Int}(hs:SetOk s)(ht:SetOk t){b:Nat}(hb:b<256):hasS (zz9 s t) b=(hasS s b && hasS t b):=by
 have hi:b / 64<4:=by omega
 rw[hasS,zz9,zwe _ hs ht hi,z1cn (hs.word hi) (ht.word hi)];rfl
theorem zuq {s:List Int}(hs:SetOk s){b:Nat}(hb:b<256):hasS (ztg s) b=!hasS s b:=by
 have hi:b / 64<4:=by omega
 rw[hasS,ztg,z159 _ hs hi,z1cm (hs.word hi) (by omega)];rfl
def zyh (s:List Int)(b:Nat):List Int:=s.set (b / 64) (bitsOp .or .u64 (s.getD (b / 64) 0) (shlI .u64 1 ((b % 64:Nat):Int)))
theorem zlw {s:List Int}(hs:SetOk s){b:Nat}(hb:b<256):SetOk (zyh s b):=by
 have hi:b / 64<4:=by omega
 exact hs.set hi (z173 (hs.word hi) (by rw[shl1 (by omega)];exact ztp (by omega)))
theorem z15t {s:List Int}(hs:SetOk s){b c:Nat}(hb:b<256)(hc:c<256):hasS (zyh s b) c=(hasS s c || decide (b=c)):=by
 have hi:b / 64<4:=by omega
 have hl:=hs.length;unfold hasS zyh;by_cases h:b / 64=c / 64
 . rw[h];have e:(s.set (c / 64) (bitsOp .or .u64 (s.getD (c / 64) 0) (shlI .u64 1 ((b % 64:Nat):Int)))).getD (c / 64) 0=bitsOp .or .u64 (s.getD (c / 64) 0) (shlI .u64 1 ((b % 64:Nat):Int)):=by
    rw[List.getD_eq_getElem?_getD,List.getElem?_set_self (by omega)];rfl
   rw[e,z1ck (hs.word (by omega)) (by omega)];congr 1;exact decide_eq_decide.2 (by omega)
 . have e:(s.set (b / 64) (bitsOp .or .u64 (s.getD (b / 64) 0) (shlI .u64 1 ((b % 64:Nat):Int)))).getD (c / 64) 0=s.getD (c / 64) 0:=by
    rw[List.getD_eq_getElem?_getD,List.getElem?_set_ne h,<- List.getD_eq_getElem?_getD]
   rw[e,decide_eq_false (by omega),Bool.or_false]
theorem z5a:SetOk [0,0,0,0]:=⟨0,0,0,0,rfl,by decide,by decide,by decide,by decide⟩
theorem zbl (b:Nat):hasS [0,0,0,0] b=false:=by
 have e:([0,0,0,0]:List Int).getD (b / 64) 0=0:=by
  rw[List.getD_eq_getElem?_getD]
  match b / 64 with
  | 0=>rfl
  | 1=>rfl
  | 2=>rfl
  | 3=>rfl
  | n+4=>rfl
 rw[hasS,e,bit];exact Nat.zero_testBit _
theorem zh8 {x:Int}(h:(Lit.int .u64 x).wf=true):U64 x:=by
 simp only[Lit.wf,Bool.and_eq_true,decide_eq_true_eq] at h;have h0:(IntKind.min .u64:Int)=0:=rfl;have h1:(IntKind.max .u64:Int)=18446744073709551615:=rfl;unfold U64;omega
theorem z14x {s:List Int}(h:s.length=4/\∀ x∈s,Wf (.int .u64) x):SetOk s:=by
 obtain⟨hl,hx⟩:=h
 match s,hl with
 | [a,b,c,d],_ =>
   exact⟨a,b,c,d,rfl,zh8 (hx a (by simp)),zh8 (hx b (by simp)),zh8 (hx c (by simp)),zh8 (hx d (by simp))⟩
end
end Go.Proofs.YthgcpalmjcomlaaDoorPx
set_option linter.all false
namespace Go.Proofs.YthgcpalmjcomlaaDoorPx
noncomputable section
open Go Go.Lift
theorem ztb {j a b c d:Nat}(ha:a<2^j)(hc:c<2^j):(a+2^j*b) &&& (c+2^j*d)=(a &&& c)+2^j*(b &&& d):=by
 have hp:0<2^j:=Nat.two_pow_pos j;have hac:a &&& c<2^j:=Nat.lt_of_le_of_lt Nat.and_le_left ha;have h1:((a+2^j*b) &&& (c+2^j*d)) % 2^j=a &&& c:=by
  rw[Nat.and_mod_two_pow,Nat.add_mul_mod_self_left,Nat.add_mul_mod_self_left,Nat.mod_eq_of_lt ha,Nat.mod_eq_of_lt hc]
 have h2:((a+2^j*b) &&& (c+2^j*d)) / 2^j=b &&& d:=by
  rw[Nat.and_div_two_pow,Nat.add_mul_div_left _ _ hp,Nat.add_mul_div_left _ _ hp,Nat.div_eq_of_lt ha,Nat.div_eq_of_lt hc,Nat.zero_add,Nat.zero_add]
 have h3:=Nat.mod_add_div ((a+2^j*b) &&& (c+2^j*d)) (2^j);rw[h1,h2] at h3;exact h3.symm
def zhl (k:Nat):Nat->Nat
 | 0=>0
 | n+1=>(2^k - 1)+2^(2*k)*zhl k n
def z6w (k:Nat):Nat->Nat->Nat
 | 0,_=>0
 | n+1,x=>(x % 2^k+x / 2^k % 2^k)+2^(2*k)*z6w k n (x / 2^(2*k))
def zur (k:Nat):Nat->Nat->Nat
 | 0,_=>0
 | n+1,x=>x % 2^k+zur k n (x / 2^k)
def dle (k m:Nat):Nat->Nat->Prop
 | 0,_=>True
 | n+1,x=>x % 2^k<=m/\dle k m n (x / 2^k)
theorem zbq (k:Nat):2^(2*k)=2^k*2^k:=by rw[Nat.two_mul,Nat.pow_add]
theorem z1f0 {k:Nat}(hk:0<k):2<=2^k:=by
 have:=Nat.pow_le_pow_right (n:=2) (by omega) hk;simpa using this
theorem z17j {k:Nat}:2^k - 1<2^(2*k):=by
 have h:2^k<=2^(2*k):=Nat.pow_le_pow_right (by omega) (by omega);have:=Nat.two_pow_pos k;omega
theorem z1co (k x:Nat):(x % 2^(2*k)) &&& (2^k - 1)=x % 2^k:=by
 rw[Nat.and_two_pow_sub_one_eq_mod,zbq,Nat.mod_mul_left_mod]
theorem zy2 (k:Nat):∀ n x,x &&& zhl k n=0+(match n with|0=>0|n+1=>x % 2^k+2^(2*k)*((x / 2^(2*k)) &&& zhl k n))
 | 0,x=>by simp only[zhl,Nat.and_zero]
 | n+1,x=>by
   have h:=ztb (j:=2*k) (a:=x % 2^(2*k)) (b:=x / 2^(2*k)) (c:=2^k - 1) (d:=zhl k n) (Nat.mod_lt _ (Nat.two_pow_pos _)) z17j;rw[Nat.mod_add_div] at h;rw[zhl,h,z1co,Nat.zero_add]
theorem zu3 (k:Nat):∀ n x,((x / 2^k) &&& zhl k n)+(x &&& zhl k n)=z6w k n x
 | 0,x=>by simp only[zhl,Nat.and_zero,z6w]
 | n+1,x=>by
   have e:x / 2^k / 2^(2*k)=x / 2^(2*k) / 2^k:=by rw[Nat.div_div_eq_div_mul,Nat.div_div_eq_div_mul,Nat.mul_comm]
   have h:=zu3 k n (x / 2^(2*k));have h1:=zy2 k (n+1) (x / 2^k);have h2:=zy2 k (n+1) x;simp only[Nat.zero_add] at h1 h2;rw[h1,h2,z6w,<- h,e,Nat.mul_add];omega
theorem zqy (x k:Nat):x / 2^(2*k)=x / 2^k / 2^k:=by rw[zbq,Nat.div_div_eq_div_mul]
theorem zqv {k:Nat}(hk:0<k)(x y:Nat):x % 2^k+y % 2^k<2^(2*k):=by
 have h1:=Nat.mod_lt x (Nat.two_pow_pos k);have h2:=Nat.mod_lt y (Nat.two_pow_pos k);have h3:=z1f0 hk;rw[zbq];have:2*2^k<=2^k*2^k:=Nat.mul_le_mul_right _ h3;omega
theorem zry {k:Nat}(hk:0<k)(n x:Nat):z6w k (n+1) x % 2^(2*k)=x % 2^k+x / 2^k % 2^k:=by
 rw[z6w,Nat.add_mul_mod_self_left,Nat.mod_eq_of_lt (zqv hk _ _)]
theorem zrz {k:Nat}(hk:0<k)(n x:Nat):z6w k (n+1) x / 2^(2*k)=z6w k n (x / 2^(2*k)):=by
 rw[z6w,Nat.add_mul_div_left _ _ (Nat.two_pow_pos _),Nat.div_eq_of_lt (zqv hk _ _),Nat.zero_add]
theorem zj9 {k:Nat}(hk:0<k):∀ n x,zur (2*k) n (z6w k n x)=zur k (2*n) x
 | 0,x=>rfl
 | n+1,x=>by
   rw[zur,zry hk,zrz hk,zj9 hk n,Nat.mul_add,Nat.mul_one];simp only[zur];rw[zqy,Nat.add_assoc]
theorem zlk {k m:Nat}(hk:0<k):∀ n x,dle k m (2*n) x->dle (2*k) (m+m) n (z6w k n x)
 | 0,x,_=>trivial
 | n+1,x,h=>by
   rw[Nat.mul_add,Nat.mul_one] at h;simp only[dle] at h;rw[dle,zry hk,zrz hk];refine⟨by omega,zlk hk n _ ?_⟩;rw[zqy];exact h.2.2
theorem zwh {k m:Nat}(hm:m+m<2^k):∀ n x,dle k m (2*n+1) x->((x / 2^k+x) &&& zhl k n)=z6w k n x
 | 0,x,_=>by simp only[zhl,Nat.and_zero,z6w]
 | n + 1,x,h=>by
   have e2:2*(n+1)+1=(2*n+1)+1+1:=by omega
   rw[e2] at h;simp only[dle] at h;obtain⟨h0,h1,h2⟩:=h;have ih:=zwh hm n (x / 2^k / 2^k) h2;have h3:=h2.1;have d0:=Nat.mod_add_div x (2^k);have d1:=Nat.mod_add_div (x / 2^k) (2^k);have d2:=Nat.mod_add_div (x / 2^k / 2^k) (2^k);have hB:=Nat.two_pow_pos k;have e:x / 2^k+x=((x % 2^k+x / 2^k % 2^k)+2^k*(x / 2^k % 2^k+x / 2^k / 2^k % 2^k))+2^(2*k)*(x / 2^k / 2^k / 2^k+x / 2^k / 2^k):=by
    rw[zbq];generalize 2^k=B at *;generalize x / B / B / B=r2 at *;generalize x / B / B % B=c at *;generalize x / B / B=r1 at *;generalize x / B % B=b at *;generalize x / B=r0 at *;generalize x % B=a at *;subst d0;subst d2;subst d1;simp only[Nat.mul_add,Nat.mul_assoc];omega
   have hlt:(x % 2^k+x / 2^k % 2^k)+2^k*(x / 2^k % 2^k+x / 2^k / 2^k % 2^k)<2^(2*k):=by
    have g1:x % 2^k+x / 2^k % 2^k<2^k:=by omega
    have g2:x / 2^k % 2^k+x / 2^k / 2^k % 2^k+1<=2^k:=by omega
    have g3:=Nat.mul_le_mul_left (2^k) g2;rw[Nat.mul_add,Nat.mul_one] at g3;rw[zbq];omega
   have hs:=ztb (j:=2*k) (b:=x / 2^k / 2^k / 2^k+x / 2^k / 2^k) (d:=zhl k n) hlt (z17j (k:=k));rw[e,zhl,hs,Nat.and_two_pow_sub_one_eq_mod,Nat.add_mul_mod_self_left,Nat.mod_eq_of_lt (by omega),ih,z6w,zqy]
theorem zgv {k:Nat}(hk:0<k):∀ n x,z6w k n x<2^(2*k*n)
 | 0,x=>by simp only[z6w,Nat.mul_zero,Nat.pow_zero];omega
 | n+1,x=>by
   have h:=zqv hk x (x / 2^k);have ih:=zgv hk n (x / 2^(2*k));rw[z6w,Nat.mul_add,Nat.mul_one,Nat.pow_add,Nat.mul_comm (2^(2*k*n))];have g:=Nat.mul_le_mul_left (2^(2*k)) (show z6w k n (x / 2^(2*k))+1<=2^(2*k*n) from ih);rw[Nat.mul_add,Nat.mul_one] at g;omega
theorem zxw {k m:Nat}:∀ n x,dle k m n x->x<2^(k*n)->dle k m (n+1) x
 | 0,x,_,h=>by
   simp only[Nat.mul_zero,Nat.pow_zero] at h;have:x=0:=by omega
   subst this;simp only[dle,Nat.zero_mod];exact⟨Nat.zero_le _,trivial⟩
 | n+1,x,hd,h=>by
   refine⟨hd.1,zxw n _ hd.2 ?_⟩;rw[Nat.mul_add,Nat.mul_one,Nat.pow_add,Nat.mul_comm] at h;exact Nat.div_lt_of_lt_mul h
def pop:Nat->Nat->Nat
 | 0,_=>0
 | n+1,x=>x % 2+pop n (x / 2)
theorem zxu:∀ n x,zur 1 n x=pop n x
 | 0,_=>rfl
 | n+1,x=>by
   rw[zur,pop,zxu n]
theorem z136:∀ n x,dle 1 1 n x
 | 0,_=>trivial
 | n+1,x=>⟨by omega,z136 n _⟩
def fld (x i:Nat):Nat:=x / 256^i % 256
theorem zh5 (x i:Nat):fld x (i+1)=fld (x / 256) i:=by
 unfold fld;rw[Nat.pow_succ,Nat.mul_comm,Nat.div_div_eq_div_mul]
theorem zh2 (x:Nat):fld x 0=x % 256:=by
 unfold fld;rw[Nat.pow_zero,Nat.div_one]
theorem hop {m:Nat}(j:Nat)(hm:m+m<256):∀ i x,(∀ i,fld x i<=m)->fld (x+x / 256^j) i=fld x i+fld x (i+j)
 | 0,x,h=>by
   have h0:=h 0;have hj:=h j;have e0:fld x 0=x % 256:=zh2 x;have ej:fld x j=x / 256^j % 256:=rfl;rw[Nat.zero_add,zh2 (x+x / 256^j),Nat.add_mod,<- e0,<- ej];exact Nat.mod_eq_of_lt (by omega)
 | i + 1,x,h=>by
   have h0:=h 0;have hj:=h j;have e0:fld x 0=x % 256:=zh2 x;have ej:fld x j=x / 256^j % 256:=rfl;have ed:x / 256^j / 256=x / 256 / 256^j:=by rw[Nat.div_div_eq_div_mul,Nat.div_div_eq_div_mul,Nat.mul_comm]
   have e:(x+x / 256^j) / 256=x / 256+x / 256 / 256^j:=by
    rw[<- ed];rw[e0] at h0;rw[ej] at hj;generalize x / 256^j=r at *;omega
   have e1:i+1+j=(i+j)+1:=by omega
   rw[zh5,e,hop j hm i (x / 256) (fun i=>by rw[<- zh5];exact h _),e1,zh5 x i,zh5 x (i+j)]
theorem z12f {m:Nat}:∀ n x,dle 8 m n x->x<2^(8*n)->∀ i,fld x i<=m
 | 0,x,_,hx,i=>by
   simp only[Nat.mul_zero,Nat.pow_zero] at hx;have:x=0:=by omega
   subst this;unfold fld;rw[Nat.zero_div];exact Nat.zero_le _
 | n+1,x,h,hx,0=>by
   rw[zh2];exact h.1
 | n+1,x,h,hx,i+1=>by
   rw[zh5];refine z12f n _ h.2 ?_ i;rw[Nat.mul_add,Nat.mul_one,Nat.pow_add,Nat.mul_comm] at hx;exact Nat.div_lt_of_lt_mul hx
theorem z163:∀ n x,zur 8 (n+1) x=fld x 0+zur 8 n (x / 256)
 | _,x=>by rw[zur,zh2]
theorem fold8 {x:Nat}(h:dle 8 8 8 x)(hx:x<18446744073709551616) :
 ((x+x / 256)+(x+x / 256) / 65536+((x+x / 256)+(x+x / 256) / 65536) / 4294967296) % 128=zur 8 8 x:=by
 have hf:=z12f 8 x h (by simp only[Nat.reduceMul,Nat.reducePow];exact hx);have p1:(256:Nat)=256^1:=rfl;have p2:(65536:Nat)=256^2:=rfl;have p4:(4294967296:Nat)=256^4:=rfl;have s1:∀ i,fld (x+x / 256) i=fld x i+fld x (i+1):=fun i=>by
  have:=hop 1 (m:=8) (by omega) i x hf
  rwa [<- p1] at this
 have l1:∀ i,fld (x+x / 256) i<=16:=fun i=>by
  have:=hf i;have:=hf (i+1);rw[s1];omega
 generalize x+x / 256=y at *;have s2:∀ i,fld (y+y / 65536) i=fld y i+fld y (i+2):=fun i=>by
  have:=hop 2 (m:=16) (by omega) i y l1
  rwa [<- p2] at this
 have l2:∀ i,fld (y+y / 65536) i<=32:=fun i=>by
  have:=l1 i;have:=l1 (i+2);rw[s2];omega
 generalize y+y / 65536=z at *;have s3:fld (z+z / 4294967296) 0=fld z 0+fld z (0+4):=by
  have:=hop 4 (m:=32) (by omega) 0 z l2
  rwa [<- p4] at this
 have e:(z+z / 4294967296) % 128=fld (z+z / 4294967296) 0 % 128:=by
  rw[zh2,Nat.mod_mod_of_dvd];exact⟨2,rfl⟩
 have h0:=l2 0;have h4:=l2 4;rw[e,s3,Nat.zero_add,Nat.mod_eq_of_lt (by omega),s2,s2,s1,s1,s1,s1];simp only[z163];simp only[<- zh5];simp only[zur,Nat.zero_add,Nat.reduceAdd];omega
theorem z15v {x:Nat}(hx:x<1085102592571150096) :
 x+x / 256<18446744073709551616/\(x+x / 256)+(x+x / 256) / 65536<18446744073709551616
 /\ (x+x / 256)+(x+x / 256) / 65536+((x+x / 256)+(x+x / 256) / 65536) / 4294967296<9223372036854775808:=by
 have h1:x+x / 256<1200000000000000000:=by omega
 generalize x+x / 256=y at *;have h2:y+y / 65536<1300000000000000000:=by omega
 generalize y+y / 65536=z at *;refine⟨by omega,by omega,by omega⟩
end
end Go.Proofs.YthgcpalmjcomlaaDoorPx
set_option linter.all false
namespace Go.Proofs.YthgcpalmjcomlaaDoorPx
noncomputable section
open Go Go.Lift
theorem z137 {k m:Nat}:∀ n x,dle k m (n+1) x->x<2^(k*(n+1))->x<(m+1)*2^(k*n)
 | 0,x,h,hx=>by
   have h0:=h.1;rw[Nat.zero_add,Nat.mul_one] at hx;rw[Nat.mod_eq_of_lt hx] at h0;rw[Nat.mul_zero,Nat.pow_zero,Nat.mul_one];omega
 | n+1,x,h,hx=>by
   rw[Nat.mul_add,Nat.mul_one,Nat.pow_add,Nat.mul_comm (2^(k*(n+1)))] at hx;have ih:=z137 n (x / 2^k) h.2 (Nat.div_lt_of_lt_mul hx);have e:=(Nat.div_lt_iff_lt_mul (Nat.two_pow_pos k)).1 ih;rw[Nat.mul_add,Nat.mul_one,Nat.pow_add,<- Nat.mul_assoc];exact e
def s1I (x:Int):Int:=IntKind.wrap .u64 (bitsOp .and .u64 (shrI .u64 x 1) 6148914691236517205+bitsOp .and .u64 x 6148914691236517205)
def s2I (x:Int):Int:=IntKind.wrap .u64 (bitsOp .and .u64 (shrI .u64 x 2) 3689348814741910323+bitsOp .and .u64 x 3689348814741910323)
def s3I (x:Int):Int:=bitsOp .and .u64 (IntKind.wrap .u64 (shrI .u64 x 4+x)) 1085102592571150095
def s4I (k x:Int):Int:=IntKind.wrap .u64 (x+shrI .u64 x k)
def zug (x:Int):Int:=bitsOp .and .i64 (IntKind.wrap .i64 (s4I 32 (s4I 16 (s4I 8 (s3I (s2I (s1I x))))))) 127
theorem zjw {n:Nat}(h:n<18446744073709551616):U64 (n:Int):=by unfold U64;omega
theorem zpx {n k:Nat}(hk:k<64):shrI .u64 (n:Int) (k:Int)=((n / 2^k:Nat):Int):=by
 rw[zu8 (by omega) hk,Int.toNat_natCast,Nat.shiftRight_eq_div_pow]
theorem zo7 {n m:Nat}(hn:n<18446744073709551616)(hm:m<18446744073709551616):bitsOp .and .u64 (n:Int) (m:Int)=((n &&& m:Nat):Int):=by
 rw[zrh (zjw hn) (zjw hm),Int.toNat_natCast,Int.toNat_natCast]
theorem z1cp {n:Nat}(hn:n<9223372036854775808):bitsOp .and .i64 (n:Int) 127=((n % 128:Nat):Int):=by
 have e:bitsOp .and .i64 (n:Int) 127=IntKind.wrap .i64 ((BitVec.ofInt 64 (n:Int) &&& BitVec.ofInt 64 127).toNat:Int):=rfl;have e1:(BitVec.ofInt 64 (n:Int)).toNat=n:=by rw[BitVec.toNat_ofInt];omega
 have e2:(BitVec.ofInt 64 (127:Int)).toNat=127:=rfl;have e3:n &&& 127=n % 128:=Nat.and_two_pow_sub_one_eq_mod n 7;rw[e,BitVec.toNat_and,e1,e2,e3,z5p (by unfold I64;omega)]
theorem m1:(6148914691236517205:Nat)=zhl 1 32:=by decide
theorem m2:(3689348814741910323:Nat)=zhl 2 16:=by decide
theorem m3:(1085102592571150095:Nat)=zhl 4 8:=by decide
theorem z1ev {n:Nat}(h:n<18446744073709551616):s1I (n:Int)=((z6w 1 32 n:Nat):Int):=by
 have hs:z6w 1 32 n<18446744073709551616:=zgv (by omega) 32 n;have hd:n / 2^1<18446744073709551616:=Nat.lt_of_le_of_lt (Nat.div_le_self _ _) h;have e:=zu3 1 32 n;have a1:shrI .u64 (n:Int) 1=((n / 2^1:Nat):Int):=zpx (k:=1) (by omega);have a2:=zo7 hd (m:=6148914691236517205) (by omega);have a3:=zo7 h (m:=6148914691236517205) (by omega);rw[m1] at a2 a3;unfold s1I;rw[a1];show IntKind.wrap .u64 (bitsOp .and .u64 _ ((6148914691236517205:Nat):Int)+bitsOp .and .u64 _ ((6148914691236517205:Nat):Int))=_;rw[m1,a2,a3,<- e,z6u]
 . rw[Int.natCast_add]
 . rw[<- Int.natCast_add,e];exact zjw hs
theorem z1es {n:Nat}(h:n<18446744073709551616):s2I (n:Int)=((z6w 2 16 n:Nat):Int):=by
 have hs:z6w 2 16 n<18446744073709551616:=zgv (by omega) 16 n;have hd:n / 2^2<18446744073709551616:=Nat.lt_of_le_of_lt (Nat.div_le_self _ _) h;have e:=zu3 2 16 n;have a1:shrI .u64 (n:Int) 2=((n / 2^2:Nat):Int):=zpx (k:=2) (by omega);have a2:=zo7 hd (m:=3689348814741910323) (by omega);have a3:=zo7 h (m:=3689348814741910323) (by omega);rw[m2] at a2 a3;unfold s2I;rw[a1];show IntKind.wrap .u64 (bitsOp .and .u64 _ ((3689348814741910323:Nat):Int)+bitsOp .and .u64 _ ((3689348814741910323:Nat):Int))=_;rw[m2,a2,a3,<- e,z6u]
 . rw[Int.natCast_add]
 . rw[<- Int.natCast_add,e];exact zjw hs
theorem z1eq {n:Nat}(h:n<18446744073709551616)(hd:dle 4 4 16 n):s3I (n:Int)=((z6w 4 8 n:Nat):Int):=by
 have hb:n<(4+1)*2^(4*15):=z137 15 n hd h;simp only[Nat.reduceAdd,Nat.reduceMul,Nat.reducePow] at hb;have e:=zwh (k:=4) (m:=4) (by decide) 8 n (zxw 16 n hd h);have a1:shrI .u64 (n:Int) 4=((n / 2^4:Nat):Int):=zpx (k:=4) (by omega);have hd2:n / 2^4+n<18446744073709551616:=by
  have:=Nat.div_le_self n (2^4);omega
 have a2:=zo7 hd2 (m:=1085102592571150095) (by omega);rw[m3,e] at a2;unfold s3I;rw[a1,<- Int.natCast_add,z6u (zjw hd2)];show bitsOp .and .u64 _ ((1085102592571150095:Nat):Int)=_;rw[m3,a2]
theorem z10w {n k:Nat}(hk:k<64)(h:n+n / 2^k<18446744073709551616):s4I (k:Int) (n:Int)=((n+n / 2^k:Nat):Int):=by
 unfold s4I;rw[zpx hk,<- Int.natCast_add,z6u (zjw h)]
theorem z153 {n:Nat}(h:n<18446744073709551616):zug (n:Int)=((pop 64 n:Nat):Int):=by
 have h1:z6w 1 32 n<18446744073709551616:=zgv (by omega) 32 n;have d1:dle 2 2 32 (z6w 1 32 n):=zlk (by omega) 32 n (z136 64 n);have u1:zur 2 32 (z6w 1 32 n)=pop 64 n:=by rw[<- zxu];exact zj9 (by omega) 32 n
 unfold zug;rw[z1ev h];generalize z6w 1 32 n=x at *;have h2:z6w 2 16 x<18446744073709551616:=zgv (by omega) 16 x;have d2:dle 4 4 16 (z6w 2 16 x):=zlk (by omega) 16 x d1;have u2:zur 4 16 (z6w 2 16 x)=pop 64 n:=by rw[<- u1];exact zj9 (by omega) 16 x
 rw[z1es h1];generalize z6w 2 16 x=y at *;have h3:z6w 4 8 y<18446744073709551616:=zgv (by omega) 8 y;have d3:dle 8 8 8 (z6w 4 8 y):=zlk (by omega) 8 y d2;have u3:zur 8 8 (z6w 4 8 y)=pop 64 n:=by rw[<- u2];exact zj9 (by omega) 8 y
 rw[z1eq h2 d2];generalize z6w 4 8 y=z at *;have hb:z<(8+1)*2^(8*7):=z137 7 z d3 h3;simp only[Nat.reduceAdd,Nat.reduceMul,Nat.reducePow] at hb;obtain⟨l1,l2,l3⟩:=z15v (x:=z) (by omega);have f:=fold8 d3 h3;have q1:s4I 8 (z:Int)=((z+z / 256:Nat):Int):=z10w (k:=8) (by omega) l1;rw[q1];generalize z+z / 256=a at *;have q2:s4I 16 (a:Int)=((a+a / 65536:Nat):Int):=z10w (k:=16) (by omega) l2;rw[q2];generalize a+a / 65536=b at *;have q3:s4I 32 (b:Int)=((b+b / 4294967296:Nat):Int):=z10w (k:=32) (by omega) (by omega);rw[q3,z5p (by unfold I64;omega),z1cp l3,f,u3]
theorem zqb {x:Int}(h:U64 x):zug x=((pop 64 x.toNat:Nat):Int):=by
 obtain⟨n,rfl⟩:=Int.eq_ofNat_of_zero_le h.1;have:=h.2;rw[Int.toNat_natCast,z153 (by omega)]
def cnt (f:Nat->Bool):Nat->Nat
 | 0=>0
 | n+1=>cnt f n+(f n).toNat
theorem z13g (f:Nat->Bool):∀ n,cnt f n<=n
 | 0=>Nat.le_refl _
 | n+1=>by
   have:=z13g f n;have:(f n).toNat<=1:=by cases f n<;>decide
   simp only[cnt];omega
theorem zna {f g:Nat->Bool}:∀ n,(∀ i,i<n->f i=g i)->cnt f n=cnt g n
 | 0,_=>rfl
 | n+1,h=>by rw[cnt,cnt,zna n (fun i hi=>h i (by omega)),h n (by omega)]
theorem zkg (f:Nat->Bool)(m:Nat):∀ n,cnt f (m+n)=cnt f m+cnt (fun i=>f (m+i)) n
 | 0=>rfl
 | n+1=>by rw[<- Nat.add_assoc,cnt,cnt,zkg f m n,Nat.add_assoc]
theorem zmd:∀ n x,pop n x=cnt (fun i=>x.testBit i) n
 | 0,_=>rfl
 | n+1,x=>by
   have h:cnt (fun i=>x.testBit i) (1+n)=cnt (fun i=>x.testBit i) 1+cnt (fun i=>x.testBit (1+i)) n:=zkg _ 1 n;have e:cnt (fun i=>x.testBit (1+i)) n=cnt (fun i=>(x / 2).testBit i) n:=zna n (fun i _=>by rw[Nat.add_comm,Nat.testBit_succ]);rw[Nat.add_comm n 1,h,e,<- zmd n,Nat.add_comm 1 n,pop];congr 1;simp only[cnt,Nat.testBit_zero,Nat.zero_add];have:=Nat.mod_lt x (show 0<2 by omega);obtain h|h:x % 2=0\/x % 2=1:=by omega
   . rw[h];rfl
   . rw[h];rfl
theorem zsz {f g h:Nat->Bool}:∀ n,(∀ i,i<n->g i=(f i && h i))->∀ {g':Nat->Bool},(∀ i,i<n->g' i=(f i && !h i))->cnt g n+cnt g' n=cnt f n
 | 0,_,_,_=>rfl
 | n+1,h1,g',h2=>by
   have ih:=zsz n (fun i hi=>h1 i (by omega)) (fun i hi=>h2 i (by omega));rw[cnt,cnt,cnt,<- ih,h1 n (by omega),h2 n (by omega)];cases f n<;>cases h n<;>simp only[Bool.and_true,Bool.and_false,Bool.not_true,Bool.not_false,Bool.toNat_true,Bool.toNat_false]<;>omega
def zhv (s:List Int):Nat:=cnt (hasS s) 256
theorem zut {s:List Int}{a b c d:Int}(e:s=[a,b,c,d]):zhv s=pop 64 a.toNat+pop 64 b.toNat+pop 64 c.toNat+pop 64 d.toNat:=by
 subst e;have h1:cnt (hasS [a,b,c,d]) (64+(64+(64+64)))=_:=zkg _ 64 _;rw[zkg _ 64 (64+64),zkg _ 64 64] at h1;unfold zhv;rw[show (256:Nat)=64+(64+(64+64)) from rfl,h1,zmd,zmd,zmd,zmd,Nat.add_assoc,Nat.add_assoc];have k (w:Nat) (hw:w<4):cnt (fun i=>hasS [a,b,c,d] (64*w+i)) 64=cnt (fun i=>([a,b,c,d].getD w 0).toNat.testBit i) 64:=zna 64 (fun i hi=>by
  unfold hasS bit;rw[show (64*w+i) / 64=w by omega,show (64*w+i) % 64=i by omega])
 have k0:=k 0 (by omega);have k1:=k 1 (by omega);have k2:=k 2 (by omega);have k3:=k 3 (by omega);simp only[Nat.mul_zero,Nat.zero_add,Nat.mul_one,Nat.reduceMul] at k0 k1 k2 k3;have e2:(fun i=>hasS [a,b,c,d] (64+(64+i)))=fun i=>hasS [a,b,c,d] (128+i):=by funext i;rw[<- Nat.add_assoc]
 have e3:(fun i=>hasS [a,b,c,d] (64+(64+(64+i))))=fun i=>hasS [a,b,c,d] (192+i):=by funext i;rw[<- Nat.add_assoc,<- Nat.add_assoc]
 have e0:cnt (hasS [a,b,c,d]) 64=cnt (fun i=>hasS [a,b,c,d] i) 64:=rfl;rw[e0,k0,k1,e2,k2,e3,k3];rfl
theorem zz3 {s t:List Int}(hs:SetOk s)(ht:SetOk t):zhv (zz9 s t)+zhv (zz9 s (ztg t))=zhv s :=
 zsz (h:=hasS t) 256 (fun i hi=>zqt hs ht hi) (fun i hi=>by rw[zqt hs (zwu ht) hi,zuq ht hi])
theorem zus (s:List Int):zhv s<=256:=z13g _ _
theorem zle {x y:Int}(hx:U64 x)(hy:U64 y)(h:∀ i,i<64->bit x i=bit y i):x=y:=by
 have e:x.toNat=y.toNat:=Nat.eq_of_testBit_eq (fun i=>by
  by_cases hi:i<64
  . exact h i hi
  . have e64:(18446744073709551616:Nat)<=2^i:=Nat.le_trans (by decide) (Nat.pow_le_pow_right (n:=2) (by omega) (show 64<=i by omega));rw[Nat.testBit_lt_two_pow (Nat.lt_of_lt_of_le (by have:=hx.2;omega) e64),Nat.testBit_lt_two_pow (Nat.lt_of_lt_of_le (by have:=hy.2;omega) e64)])
 have:=hx.1;have:=hy.1;omega
theorem zef {s t:List Int}(hs:SetOk s)(ht:SetOk t)(h:∀ b,b<256->hasS s b=hasS t b):s=t:=by
 obtain⟨a,b,c,d,rfl,ha,hb,hc,hd⟩:=hs;obtain⟨e,f,g,k,rfl,he,hf,hg,hk⟩:=ht;have q (w:Nat) (hw:w<4):∀ i,i<64->bit ([a,b,c,d].getD w 0) i=bit ([e,f,g,k].getD w 0) i:=fun i hi=>by
  have:=h (64*w+i) (by omega);unfold hasS at this
  rwa [show (64*w+i) / 64=w by omega,show (64*w+i) % 64=i by omega] at this
 rw[zle ha he (q 0 (by omega)),zle hb hf (q 1 (by omega)),zle hc hg (q 2 (by omega)),zle hd hk (q 3 (by omega))]
end
end Go.Proofs.YthgcpalmjcomlaaDoorPx
set_option linter.all false
namespace Go.Proofs.YthgcpalmjcomlaaDoorPx
noncomputable section
open Go Go.Lift
def zkv (s:List Int):Nat->Nat->List Nat
 | 0,_=>[]
 | n+1,b=>if hasS s b=true then b::zkv s n (b+1) else zkv s n (b+1)
theorem zgu (s:List Int):∀ n b c,c∈zkv s n b ↔ b<=c/\c<b+n/\hasS s c=true
 | 0,b,c=>by simp only[zkv,List.not_mem_nil,false_iff];omega
 | n + 1,b,c=>by
   have ih:=zgu s n (b+1) c;rw[zkv];split
   . rename_i h;rw[List.mem_cons,ih];constructor
     . rintro (rfl|h1)
       . exact⟨Nat.le_refl _,by omega,h⟩
       . exact⟨by omega,by omega,h1.2.2⟩
     . rintro⟨h1,h2,h3⟩;by_cases e:c=b
       . exact .inl e
       . exact .inr ⟨by omega,by omega,h3⟩
   . rename_i h;rw[ih];constructor
     . rintro⟨h1,h2,h3⟩;exact⟨by omega,by omega,h3⟩
     . rintro⟨h1,h2,h3⟩;have:c≠b:=fun e=>h (e ▸ h3)
       exact⟨by omega,by omega,h3⟩
theorem zit (s:List Int):∀ n b,(zkv s n b).length=cnt (fun i=>hasS s (b+i)) n
 | 0,_=>rfl
 | n + 1,b=>by
   have e:cnt (fun i=>hasS s (b+i)) (1+n)=cnt (fun i=>hasS s (b+i)) 1+cnt (fun i=>hasS s (b+(1+i))) n:=zkg _ 1 n;have e2:cnt (fun i=>hasS s (b+(1+i))) n=cnt (fun i=>hasS s (b+1+i)) n:=by simp only[Nat.add_assoc]
   rw[Nat.add_comm n 1,e,e2,<- zit s n (b+1),Nat.add_comm 1 n,zkv];simp only[cnt,Nat.add_zero,Nat.zero_add];cases h:hasS s b
   . rw[if_neg (by decide)];show _=0+_;omega
   . rw[if_pos rfl,List.length_cons];show _=1+_;omega
def z1dg (l:List UInt8)(s:List Int):List Int:=l.foldl (fun s u=>zyh s u.toNat) s
theorem z178:∀ (l:List UInt8) {s:List Int},SetOk s->SetOk (z1dg l s)
 | [],_,h=>h
 | u::l,_,h=>z178 l (zlw h (z18u u))
def zak (s:List Int):Nat->Nat->Int
 | 0,_=>-1
 | n+1,b=>if hasS s b=true then (b:Int) else zak s n (b+1)
theorem zli {s:List Int}{c:Nat}(hc:hasS s c=true):∀ n b,b<=c->c<b+n->(∀ i,b<=i->i<c->hasS s i=false)->zak s n b=(c:Int)
 | 0,b,h1,h2,_=>by omega
 | n + 1,b,h1,h2,h=>by
   rw[zak];by_cases e:b=c
   . subst e;rw[if_pos hc]
   . have hb:=h b (Nat.le_refl _) (by omega);rw[if_neg (by rw[hb];decide)];exact zli hc n (b+1) (by omega) (by omega) (fun i h3 h4=>h i (by omega) h4)
theorem zpc {s:List Int}(h:∀ i,hasS s i=false):∀ n b,zak s n b=-1
 | 0,_=>rfl
 | n+1,b=>by
   rw[zak,if_neg (by rw[h b];decide),zpc h n (b+1)]
theorem z15a:∀ x:Nat,x≠0->∃ t q,x=2^t*(2*q+1):=by
 intro x
 induction x using Nat.strongRecOn with
 | _ x ih =>
   intro h;by_cases e:x % 2=1
   . exact⟨0,x / 2,by rw[Nat.pow_zero];omega⟩
   . obtain⟨t,q,h1⟩:=ih (x / 2) (by omega) (by omega);refine⟨t+1,q,?_⟩;rw[Nat.pow_succ,Nat.mul_comm (2^t) 2,Nat.mul_assoc,<- h1];omega
theorem z11w (t q i:Nat):(2^t*(2*q+1)).testBit i=if i<t then false else if i=t then true else q.testBit (i - t - 1):=by
 have e:2^t*(2*q+1)=2^t*(2*q+1)+0:=rfl;rw[e,Nat.testBit_two_pow_mul_add _ (Nat.two_pow_pos t)];split
 . exact Nat.zero_testBit i
 . rename_i h;split
   . rename_i h2;subst h2;rw[Nat.sub_self,Nat.testBit_zero];exact decide_eq_true (by omega)
   . rename_i h2;obtain⟨j,hj⟩:∃ j,i - t=j+1:=⟨i - t - 1,by omega⟩
     rw[hj,Nat.testBit_succ];congr 1;omega
theorem z19v {t q:Nat}(h:2^t*(2*q+1)<2^64):(2^t*(2*q+1)) &&& (2^64 - 2^t*(2*q+1))=2^t:=by
 have hp:=Nat.two_pow_pos t;have ht:t<64:=by
  have:2^t*1<=2^t*(2*q+1):=Nat.mul_le_mul_left _ (by omega);exact (Nat.pow_lt_pow_iff_right (a:=2) (by omega)).1 (by omega)
 have e:2^t*(2*q+1)=(2^t*(2*q)+(2^t - 1))+1:=by
  rw[Nat.mul_add,Nat.mul_one];omega
 have hlt:2^t*(2*q)+(2^t - 1)<2^64:=by omega
 apply Nat.eq_of_testBit_eq;intro i;have hb:=z11w t q i;rw[Nat.testBit_and,Nat.testBit_two_pow];have hs:(2^64 - 2^t*(2*q+1)).testBit i=(decide (i<64) && !(2^t*(2*q)+(2^t - 1)).testBit i):=by
  rw[e,Nat.testBit_two_pow_sub_succ hlt]
 rw[hs,hb,Nat.testBit_two_pow_mul_add _ (by omega)];by_cases h1:i<t
 . rw[if_pos h1,if_pos h1,Bool.false_and];exact (decide_eq_false (by omega)).symm
 . rw[if_neg h1,if_neg h1];by_cases h2:i=t
   . subst h2;rw[if_pos rfl,Nat.sub_self,Nat.testBit_zero,decide_eq_true ht,decide_eq_false (by omega)];exact (decide_eq_true rfl).symm
   . obtain⟨j,hj⟩:∃ j,i - t=j+1:=⟨i - t - 1,by omega⟩
     have ej:i - t - 1=j:=by omega
     have eq2:2*q / 2=q:=by omega
     rw[if_neg h2,hj,Nat.testBit_succ,eq2,Nat.add_sub_cancel,decide_eq_false (p:=t=i) (by omega)];cases q.testBit j<;>cases decide (i<64)<;>rfl
end
end Go.Proofs.YthgcpalmjcomlaaDoorPx
set_option linter.all false
set_option maxRecDepth 100000
namespace Go.Proofs.YthgcpalmjcomlaaDoorLg
noncomputable section
open Go Go.Lift Go.Proofs.YthgcpalmjcomlaaDoorPx
theorem or4 (N:Nat)(a b c d e f g h:Int):z9v (N+5) [a,b,c,d] [e,f,g,h]=some (orS [a,b,c,d] [e,f,g,h]):=by kernel_rfl
theorem not4 (N:Nat)(a b c d:Int):z7b (N+5) [a,b,c,d]=some (ztg [a,b,c,d]):=by kernel_rfl
theorem or_eq (N:Nat){s t:List Int}(hs:SetOk s)(ht:SetOk t):z9v (N+5) s t=some (orS s t):=by
 obtain⟨a,b,c,d,rfl,_⟩:=hs;obtain⟨e,f,g,h,rfl,_⟩:=ht;exact or4 ..
theorem z1hg (N:Nat){s:List Int}(hs:SetOk s):z7b (N+5) s=some (ztg s):=by
 obtain⟨a,b,c,d,rfl,_⟩:=hs;exact not4 ..
theorem z1mz {b:Nat}(hb:b<256):Go.IntKind.wrap .u8 (Int.tdiv (b:Int) (64:Int))=((b / 64:Nat):Int):=by
 rw[Int.tdiv_eq_ediv_of_nonneg (by omega),zjv (by omega) (by omega)];omega
theorem z1hj (b:Nat):Int.tmod (b:Int) (64:Int)=((b % 64:Nat):Int):=by
 rw[Int.tmod_eq_emod_of_nonneg (by omega)];omega
theorem z1i1 (N:Nat){s:List Int}(hs:SetOk s){b:Nat}(hb:b<256):zcr N s (b:Int)=some (hasS s b):=by
 have hi:b / 64<4:=by omega
 rw[zcr,z1mz hb,z1hj,Int.toNat_natCast,z29 (zcq hi),z29 (decide_eq_true (by rw[hs.length];exact hi)),z29 (decide_eq_true (by omega)),
  z1bp (hs.word hi) (by omega)]
 rfl
theorem z10a (N:Nat){s:List Int}(hs:SetOk s){b:Nat}(hb:b<256):z9d N s (b:Int)=some (zyh s b):=by
 have hi:b / 64<4:=by omega
 rw[z9d,z1mz hb,z1hj,Int.toNat_natCast,z29 (zcq hi),z29 (decide_eq_true (by rw[hs.length];exact hi)),z29 (decide_eq_true (by omega)),
  z29 (zcq hi),z29 (decide_eq_true (by rw[hs.length];exact hi))]
 rfl
def ofS:Nat->Nat->List Int->List Int
 | 0,_,s=>s
 | n+1,b,s=>ofS n (b+1) (zyh s b)
theorem zuh:∀ (n b:Nat) {s:List Int},SetOk s->b+n<=256->SetOk (ofS n b s)
 | 0,_,_,hs,_=>hs
 | n+1,b,_,hs,h=>zuh n (b+1) (zlw hs (by omega)) (by omega)
theorem zxe:∀ (n b:Nat) {s:List Int},SetOk s->b+n<=256->∀ {c:Nat},c<256->hasS (ofS n b s) c=(hasS s c || decide (b<=c/\c<b+n))
 | 0,b,s,hs,_,c,_=>by
   have:decide (b<=c/\c<b+0)=false:=decide_eq_false (by omega);rw[this,Bool.or_false];rfl
 | n+1,b,s,hs,h,c,hc=>by
   rw[ofS,zxe n (b+1) (zlw hs (by omega)) (by omega) hc,z15t hs (by omega) hc,Bool.or_assoc];congr 1;rw[<- Bool.decide_or];exact decide_eq_decide.2 (by omega)
theorem z11g (N:Nat) {lo hi:Nat} (hl:lo<256) (hh:hi<256) (hN:257<N) :
 z1w N (lo:Int) (hi:Int)=some (ofS (hi+1 - lo) lo [0,0,0,0]):=by
 have wl:Go.IntKind.wrap .i64 (lo:Int)=(lo:Int):=z5p (by unfold I64;omega);have wh:Go.IntKind.wrap .i64 (hi:Int)=(hi:Int):=z5p (by unfold I64;omega);rw[z1w,zjo,wl]
 let R:List Int×Int->Option (List Int):=fun v=>some (ofS (hi+1 - v.2.toNat) v.2.toNat v.1)
 have h:=zgi (step:=fun (v:((List Int)×Int)) r=>zbo N (hi:Int) [(0:Int),(0:Int),(0:Int),(0:Int)] v.1 v.2 (fun s b=>(r (s,b))) (fun s=>some s))
  (I:=fun v=>SetOk v.1/\0<=v.2/\v.2<=256) (m:=fun v=>256 - v.2.toNat) (R:=R)
  (by
   rintro⟨s,b⟩ r ⟨hs,h0,h1⟩ hr;obtain⟨b,rfl⟩:=Int.eq_ofNat_of_zero_le h0;simp only at hs h0 h1 ⊢;rw[zbo,wh];by_cases hb:b<=hi
   . have wb:Go.IntKind.wrap .u8 (b:Int)=(b:Int):=zjv (by omega) (by omega);have wb1:Go.IntKind.wrap .i64 ((b:Int)+1)=((b+1:Nat):Int):=zrp (by omega);rw[z29 (decide_eq_true (by omega)),wb,z10a N hs (by omega)];simp only[Option.bind_some];rw[wb1,hr _ ⟨zlw hs (by omega),by simp only;omega,by simp only;omega⟩ (by simp only[Int.toNat_natCast];omega)];simp only[R,Int.toNat_natCast];have e:hi+1 - b=(hi+1 - (b+1))+1:=by omega
     rw[e,ofS]
   . rw[z6t (decide_eq_false (by omega))];simp only[R,Int.toNat_natCast];have e:hi+1 - b=0:=by omega
     rw[e,ofS]) N ([(0:Int),(0:Int),(0:Int),(0:Int)],(lo:Int)) ⟨z5a,by simp only;omega,by simp only;omega⟩ (by simp only[Int.toNat_natCast];omega)
 rw[h];simp only[R,Int.toNat_natCast]
theorem z14r (N:Nat) (l:List UInt8) (hl:l.length<9223372036854775807) (hN:l.length<N):z3l N l=some (z1dg l [0,0,0,0]):=by
 rw[z3l,zfn]
 let R:List Int×Int->Option (List Int):=fun v=>some (z1dg (l.drop v.2.toNat) v.1)
 have h:=zgi (step:=fun (v:((List Int)×Int)) r=>z8m N l [(0:Int),(0:Int),(0:Int),(0:Int)] ((l.length:Nat):Int) v.1 v.2 (fun set_ x7=>(r (set_,x7))) (fun set_=>some set_))
  (I:=fun v=>SetOk v.1/\0<=v.2/\v.2<=l.length) (m:=fun v=>l.length - v.2.toNat) (R:=R)
  (by
   rintro⟨s,i⟩ r ⟨hs,h0,h1⟩ hr;simp only at hs h0 h1;obtain⟨i,rfl⟩:=Int.eq_ofNat_of_zero_le h0;simp only;rw[z8m];by_cases hi:i<l.length
   . have wi:Go.IntKind.wrap .i64 ((i:Int)+1)=((i+1:Nat):Int):=zrp (by omega);rw[z29 (decide_eq_true (by omega)),z29 (zcq hi),Int.toNat_natCast,z10a N hs (z18u _),wi];simp only[Option.bind_some];rw[hr _ ⟨zlw hs (z18u _),by simp only;omega,by simp only;omega⟩ (by simp only[Int.toNat_natCast];omega)];simp only[R,Int.toNat_natCast];rw[z135 l 0 i hi];rfl
   . rw[z6t (decide_eq_false (by omega))];simp only[R,Int.toNat_natCast];rw[z134 l (by omega)];rfl) N ([0,0,0,0],(0:Int)) ⟨z5a,Int.le_refl _,by simp only;omega⟩ (by simp only[Int.toNat_zero];omega)
 exact h
def zs2 (t:Nat):Int:=shrI .u64 (Go.IntKind.wrap .u64 ((285870213051353865:Int)*((2^t:Nat):Int))) 58
theorem z10k:((List.range 64).all fun t=>inR (zs2 t) 64 && (Go.IntKind.wrap .i64 (List.getD glob1 (Int.toNat (zs2 t)) (0:Int)) == (t:Int)))=true:=by kernel_rfl
theorem z14s {t:Nat}(h:t<64):inR (zs2 t) 64=true/\Go.IntKind.wrap .i64 (List.getD glob1 (Int.toNat (zs2 t)) (0:Int))=(t:Int):=by
 have:=List.all_eq_true.1 z10k t (List.mem_range.2 h);rw[Bool.and_eq_true,beq_iff_eq] at this;exact this
theorem tz_eq (N:Nat){x:Int}(h:U64 x){t q:Nat}(e:x.toNat=2^t*(2*q+1))(ht:t<64):z1v N x=some (t:Int):=by
 have hp:=Nat.two_pow_pos t;have hpos:0<x.toNat:=by
  rw[e];exact Nat.mul_pos hp (by omega)
 have h1:=h.2;have hz:(x == (0:Int))=false:=by
  rw[beq_eq_false_iff_ne];omega
 have hn:Go.IntKind.wrap .u64 ((0:Int) - x)=((2^64 - x.toNat:Nat):Int):=by
  rw[zps,show (2:Nat)^64=18446744073709551616 from rfl];omega
 have hu:U64 ((2^64 - x.toNat:Nat):Int):=by
  rw[show (2:Nat)^64=18446744073709551616 from rfl];unfold U64;omega
 have ha:bitsOp .and .u64 x (Go.IntKind.wrap .u64 ((0:Int) - x))=((2^t:Nat):Int):=by
  have hlt:2^t*(2*q+1)<2^64:=by rw[<- e,show (2:Nat)^64=18446744073709551616 from rfl];omega
  rw[hn,zrh h hu,Int.toNat_natCast,e,z19v hlt]
 obtain⟨t1,t2⟩:=z14s ht;rw[z1v,z6t hz,ha];rw[show shrI .u64 (Go.IntKind.wrap .u64 ((285870213051353865:Int)*((2^t:Nat):Int))) 58=zs2 t from rfl,z29 t1,t2]
theorem z1mv (N:Nat)(a b c d:Int)(k0:Int->Option Int):zfr (N+5) [a,b,c,d] 0 k0 =
 cond (a == 0) (cond (b == 0) (cond (c == 0) (cond (d == 0) none (k0 3)) (k0 2)) (k0 1)) (k0 0):=by kernel_rfl
theorem zlj (N:Nat) {s:List Int} (hs:SetOk s) {w:Nat} (hw:w<4) (hz:∀ v,v<w->s.getD v 0=0) (hx:s.getD w 0≠0) :
 (cond (inR (w:Int) 4)
  (cond (decide ((Int.toNat (w:Int))<(List.length s)))
   ((z1v N (List.getD s (Int.toNat (w:Int)) (0:Int))).bind fun y =>
     some (Go.IntKind.wrap .i64 ((Go.IntKind.wrap .i64 ((w:Int)*(64:Int)))+y)))
   (none))
  (none))=some (zak s 256 0):=by
 have hu:=hs.word hw;have h0:=hu.1;have h1:=hu.2;obtain⟨t,q,e⟩:=z15a (s.getD w 0).toNat (by omega);have ht:t<64:=by
  have:2^t*1<=2^t*(2*q+1):=Nat.mul_le_mul_left _ (by omega);refine (Nat.pow_lt_pow_iff_right (a:=2) (by omega)).1 ?_;rw[show (2:Nat)^64=18446744073709551616 from rfl];omega
 have hb (i:Nat):bit (s.getD w 0) i=if i<t then false else if i=t then true else q.testBit (i - t - 1):=by
  unfold bit;rw[e,z11w]
 have hc:hasS s (64*w+t)=true:=by
  unfold hasS;rw[show (64*w+t) / 64=w by omega,show (64*w+t) % 64=t by omega,hb,if_neg (by omega),if_pos rfl]
 have hl:=zli hc 256 0 (by omega) (by omega) (fun i _ hi=>by
  unfold hasS;by_cases hv:i / 64<w
  . rw[hz _ hv];exact Nat.zero_testBit _
  . rw[show i / 64=w by omega,hb,if_pos (by omega)])
 rw[z29 (zcq hw),Int.toNat_natCast,z29 (decide_eq_true (by rw[hs.length];exact hw)),tz_eq N hu e ht];simp only[Option.bind_some];rw[hl,z5p (x:=(w:Int)*64) (by unfold I64;omega),z5p (by unfold I64;omega)];congr 1;omega
theorem z12s (s:List Int):eqD (T.arr 4 (T.int Go.IntKind.u64)) s s=true:=(zi9 _ _ _ rfl).2 rfl
theorem zxo (N:Nat) {s:List Int} (hs:SetOk s):z1c (N+5) s=some (zak s 256 0):=by
 have hs':=hs;obtain⟨a,b,c,d,rfl,ha,hb,hc,hd⟩:=hs';rw[z1c];by_cases e:([a,b,c,d]:List Int)=[0,0,0,0]
 . rw[e,z29 (z12s _),zpc zbl]
 . have en : eqD (T.arr 4 (T.int Go.IntKind.u64)) [a,b,c,d] ([(0:Int),(0:Int),(0:Int),(0:Int)]:List Int)=false:=by
    rw[<- Bool.not_eq_true];exact fun h=>e ((zi9 _ _ _ rfl).1 h)
   rw[z6t en,z1mv];by_cases ea:a=0
   . rw[z29 (beq_iff_eq.2 ea)];by_cases eb:b=0
     . rw[z29 (beq_iff_eq.2 eb)];by_cases ec:c=0
       . rw[z29 (beq_iff_eq.2 ec)];by_cases ed:d=0
         . exact absurd (by rw[ea,eb,ec,ed]) e
         . rw[z6t (beq_eq_false_iff_ne.2 ed)];have z:∀ v,v<3->([a,b,c,d]:List Int).getD v 0=0:=by
            intro v hv;obtain rfl|rfl|rfl:v=0\/v=1\/v=2:=by omega
            . exact ea
            . exact eb
            . exact ec
           exact zlj (N+5) hs (w:=3) (by omega) z ed
       . rw[z6t (beq_eq_false_iff_ne.2 ec)];have z:∀ v,v<2->([a,b,c,d]:List Int).getD v 0=0:=by
          intro v hv;obtain rfl|rfl:v=0\/v=1:=by omega
          . exact ea
          . exact eb
         exact zlj (N+5) hs (w:=2) (by omega) z ec
     . rw[z6t (beq_eq_false_iff_ne.2 eb)];have z:∀ v,v<1->([a,b,c,d]:List Int).getD v 0=0:=by
        intro v hv;obtain rfl:v=0:=by omega
        exact ea
       exact zlj (N+5) hs (w:=1) (by omega) z eb
   . rw[z6t (beq_eq_false_iff_ne.2 ea)];exact zlj (N+5) hs (w:=0) (by omega) (fun v hv=>by omega) ea
end
end Go.Proofs.YthgcpalmjcomlaaDoorLg
set_option linter.all false
set_option maxRecDepth 100000
namespace Go.Proofs.YthgcpalmjcomlaaDoorLg
noncomputable section
open Go Go.Lift Go.Proofs.YthgcpalmjcomlaaDoorPx
inductive PR (α:Type) where
 | bad (e:Int) (a:Nat)
 | ok (x:α) (a:Nat)
def PR.next {α β:Type}(r:PR α)(f:α->Nat->PR β):PR β:=match r with
 | .bad e a=>.bad e a
 | .ok x a=>f x a
def gb (s:List UInt8)(i:Nat):Nat:=(s.getD i 0).toNat
def isB (s:List UInt8)(a b:Nat):Bool:=decide (a<s.length) && gb s a == b
def zib (b:Nat):Bool:=decide (48<=b) && decide (b<=57)
def z8k (s:List UInt8)(a:Nat):PR Nat:=if a<s.length then .ok (gb s a) a else .bad 1 s.length
def zco (s:List UInt8)(a b:Nat):PR Unit:=(z8k s a).next fun c a=>if c=b then .ok () (a+1) else .bad 2 a
def zth (s:List UInt8)(fr a:Nat):PR Nat:=(z8k s a).next fun b a=>if zib b then .ok (b - 48) (a+1) else if 97<=b/\b<=102 then .ok (b - 87) (a+1) else .bad 2 fr
def z4:List Int:=[0,0,0,0]
def z9e (b:Nat):List Int:=ofS 1 b z4
def zbp:List UInt8:=[48,49,50,51,52,53,54,55,56,57,65,66,67,68,69,70,71,72,73,74,75,76,77,78,79,80,81,82,83,84,85,86,87,88,89,90,95,97,98,99,100,101,102,103,104,105,106,107,108,109,110,111,112,113,114,115,116,117,118,119,120,121,122]
def specials:List Nat:=[92,46,91,93,40,41,123,125,124,42,43,63]
def escapes:List Nat:=[92,46,91,93,40,41,123,125,124,42,43,63,45,94]
abbrev Sg:=List Int×Bool×Nat
def zqm (s:List UInt8)(a:Nat):PR Sg:=(z8k s (a+1)).next fun b a1 =>
 if b=100 then .ok (ofS 10 48 z4,true,0) (a+2)
 else if b=119 then .ok (z1dg zbp z4,true,0) (a+2)
 else if b=120 then (zth s a (a+2)).next fun h a2=>(zth s a a2).next fun l a3=>.ok (z9e (16*h+l),false,16*h+l) a3
 else if escapes.contains b then .ok (z9e b,false,b) (a+2) else .bad 2 a
def zgh (s:List UInt8)(a:Nat):PR Sg:=(z8k s a).next fun b _ =>
 if b=92 then zqm s a else if b=91\/b=93\/b=45\/b=94 then .bad 2 a else .ok (z9e b,false,b) (a+1)
def ze5 (s:List UInt8)(a:Nat):PR (List Int):=(zgh s a).next fun r a1 =>
 if r.2.1 || !(isB s a1 45) then .ok r.1 a1
 else (zgh s (a1+1)).next fun q a2=>if q.2.1 || decide (q.2.2<r.2.2) then .bad 2 (a1+1) else .ok (ofS (q.2.2+1 - r.2.2) r.2.2 z4) a2
def z79 (s:List UInt8):Nat->Nat->List Int->PR (List Int)
 | 0,_,_=>.bad 0 0
 | k+1,a,acc=>if isB s a 93 then .ok acc (a+1) else (ze5 s a).next fun t a1=>z79 s k a1 (orS acc t)
def zba (s:List UInt8)(a:Nat):PR (List Int) :=
 (ze5 s (if isB s a 94 then a+1 else a)).next fun t a1=>(z79 s (s.length+1) a1 t).next fun acc a2=>.ok (if isB s a 94 then ztg acc else acc) a2
def z7d (s:List UInt8):Nat->Nat->Nat->Nat×Nat
 | 0,a,v=>(v,a)
 | k+1,a,v=>if a<s.length/\zib (gb s a) then z7d s k (a+1) (min (10*v+(gb s a - 48)) 17) else (v,a)
def zrm (s:List UInt8)(a:Nat):PR Nat:=(z8k s a).next fun b _ =>
 if zib b then
 if b=48/\a+1<(z7d s (s.length+1) a 0).2 then .bad 2 a
 else if 16<(z7d s (s.length+1) a 0).1 then .bad 3 a
 else .ok (z7d s (s.length+1) a 0).1 (z7d s (s.length+1) a 0).2
 else .bad 2 a
def zwz (s:List UInt8)(lo:Nat)(hi:Nat)(fr a:Nat):PR (Int×Int) :=
 if hi<max lo 1 then .bad 2 fr else (zco s a 125).next fun _ a1=>.ok ((lo:Int),(hi:Int)) a1
def z9n (s:List UInt8)(a:Nat):PR (Int×Int):=(zrm s a).next fun lo a1 =>
 if isB s a1 44 then
 if isB s (a1+1) 125 then .ok ((lo:Int),-1) (a1+2) else (zrm s (a1+1)).next fun hi a2=>zwz s lo hi (a1+1) a2
 else zwz s lo lo a a1
def z14b (st:List Int):Tree:=.mk 1 st [] 0 0
def z14a (t:Tree)(lo hi:Int):Tree:=.mk 4 z4 [t] lo hi
def z9s (sub:Option (Nat->PR Tree)) (s:List UInt8) (a:Nat):PR Tree :=
 if gb s a=40 then (match sub with
  | none=>.bad 3 a
  | some f=>(f (a+1)).next fun t a1=>(zco s a1 41).next fun _ a2=>.ok t a2)
 else if gb s a=46 then .ok (z14b (ofS 256 0 z4)) (a+1)
 else if gb s a=91 then (zba s (a+1)).next fun st a1=>.ok (z14b st) a1
 else if gb s a=92 then (zqm s a).next fun r a1=>.ok (z14b r.1) a1
 else if specials.contains (gb s a) then .bad 2 a
 else .ok (z14b (z9e (gb s a))) (a+1)
def zb7 (sub:Option (Nat->PR Tree))(s:List UInt8)(a:Nat):PR Tree:=(z9s sub s a).next fun t a1 =>
 if a1<s.length then
 if gb s a1=43 then .ok (z14a t 1 (-1)) (a1+1)
 else if gb s a1=42 then .ok (z14a t 0 (-1)) (a1+1)
 else if gb s a1=63 then .ok (z14a t 0 1) (a1+1)
 else if gb s a1=123 then (z9n s (a1+1)).next fun lh a2=>.ok (z14a t lh.1 lh.2) a2
 else .ok t a1
 else .ok t a1
def zd6 (s:List UInt8)(a:Nat):Bool:=!(decide (a<s.length)) || (gb s a == 124 || gb s a == 41)
def zi6 (sub:Option (Nat->PR Tree))(s:List UInt8):Nat->Nat->List Tree->PR Tree
 | 0,_,_=>.bad 0 0
 | k+1,a,ps=>if zd6 s a then .ok (zcp 2 ps) a else (zb7 sub s a).next fun t a1=>zi6 sub s k a1 (ps++[t])
def ze6 (sub:Option (Nat->PR Tree))(s:List UInt8):Nat->Nat->List Tree->PR Tree
 | 0,_,_=>.bad 0 0
 | k+1,a,ps=>if isB s a 124 then (zi6 sub s (s.length+1) (a+1) []).next fun t a1=>ze6 sub s k a1 (ps++[t]) else .ok (zcp 3 ps) a
def zfw (s:List UInt8):Nat->Nat->PR Tree
 | 0,a=>(zi6 none s (s.length+1) a []).next fun t a1=>ze6 none s (s.length+1) a1 [t]
 | d+1,a=>(zi6 (some (zfw s d)) s (s.length+1) a []).next fun t a1=>ze6 (some (zfw s d)) s (s.length+1) a1 [t]
def zb8 (s:List UInt8):PR Tree:=if 256<s.length then .bad 3 256 else (zfw s 16 0).next fun t a=>if a<s.length then .bad 2 a else .ok t a
def Ahead {α:Type}(s:List UInt8)(a:Nat)(r:PR α):Prop:=match r with
 | .bad _ b=>b<=s.length
 | .ok _ b=>a<=b/\b<=s.length
theorem Ahead.bind {α β:Type}{s:List UInt8}{a c:Nat}{r:PR α}{f:α->Nat->PR β}(h:Ahead s a r)(hf:∀ x b,r=.ok x b->a<=b->b<=s.length->Ahead s c (f x b)):Ahead s c (r.next f):=by
 cases r with
 | bad e b=>exact h
 | ok x b=>exact hf x b rfl h.1 h.2
theorem Ahead.le {α:Type}{s:List UInt8}{a b:Nat}{r:PR α}(h:Ahead s a r)(hab:b<=a):Ahead s b r:=by
 cases r with
 | bad e c=>exact h
 | ok x c=>exact⟨Nat.le_trans hab h.1,h.2⟩
theorem ze1 (s:List UInt8)(a:Nat):Ahead s a (z8k s a):=by
 unfold z8k;split
 . exact⟨Nat.le_refl _,by omega⟩
 . exact Nat.le_refl _
theorem zaq {s:List UInt8}{a x b:Nat}(h:z8k s a=.ok x b):a<s.length/\x=gb s a/\b=a:=by
 unfold z8k at h;split at h
 . cases h;exact⟨by assumption,rfl,rfl⟩
 . cases h
theorem zk7 (s:List UInt8)(a b:Nat):Ahead s (a+1) (zco s a b):=by
 refine (ze1 s a).bind fun c a1 h h1 h2=>?_
 obtain⟨q1,q2,rfl⟩:=zaq h;split
 . exact⟨Nat.le_refl _,by omega⟩
 . exact Nat.le_of_lt q1
theorem zmr {s:List UInt8}{fr:Nat}(hf:fr<=s.length)(a:Nat):Ahead s (a+1) (zth s fr a):=by
 refine (ze1 s a).bind fun c a1 h h1 h2=>?_
 obtain⟨q1,q2,rfl⟩:=zaq h;split
 . exact⟨Nat.le_refl _,by omega⟩
 . split
   . exact⟨Nat.le_refl _,by omega⟩
   . exact hf
theorem zn7 {s:List UInt8}{a:Nat}(ha:a<=s.length):Ahead s (a+2) (zqm s a):=by
 refine (ze1 s (a+1)).bind fun c a1 h h1 h2=>?_
 obtain⟨q1,q2,rfl⟩:=zaq h;split
 . exact⟨Nat.le_refl _,by omega⟩
 split
 . exact⟨Nat.le_refl _,by omega⟩
 split
 . refine (zmr ha (a+2)).bind fun x b _ g1 g2=>?_
   refine (zmr ha b).bind fun y b2 _ g3 g4=>?_
   exact⟨by omega,g4⟩
 split
 . exact⟨Nat.le_refl _,by omega⟩
 . exact ha
theorem zgy (s:List UInt8)(a:Nat):Ahead s (a+1) (zgh s a):=by
 refine (ze1 s a).bind fun c a1 h h1 h2=>?_
 obtain⟨q1,q2,rfl⟩:=zaq h;split
 . exact (zn7 (by omega)).le (by omega)
 split
 . exact Nat.le_of_lt q1
 . exact⟨Nat.le_refl _,by omega⟩
theorem z9t (s:List UInt8)(a:Nat):Ahead s (a+1) (ze5 s a):=by
 refine (zgy s a).bind fun r a1 _ h1 h2=>?_
 split
 . exact⟨h1,h2⟩
 . rename_i hc;refine (zgy s (a1+1)).bind fun q a2 _ g1 g2=>?_
   skip
   split
   . show a1+1<=s.length;simp[isB] at hc;omega
   . exact⟨by omega,g2⟩
theorem zmq (s:List UInt8):∀ (k a:Nat) (acc:List Int),a<=s.length->Ahead s (a+1) (z79 s k a acc)
 | 0,a,acc,ha=>Nat.zero_le _
 | k + 1,a,acc,ha=>by
   unfold z79;split
   . rename_i h;simp[isB] at h;exact⟨Nat.le_refl _,by omega⟩
   . exact (z9t s a).bind fun t a1 _ h1 h2=>(zmq s k a1 _ h2).le (by omega)
theorem znb {s:List UInt8}(a:Nat):Ahead s (a+2) (zba s a):=by
 unfold zba;refine (z9t s _).bind fun t a1 _ h1 h2=>?_
 refine (zmq s _ a1 _ h2).bind fun acc a2 _ g1 g2=>?_
 refine⟨?_,g2⟩;split at h1<;>omega
theorem zk2 (s:List UInt8):∀ (k a v:Nat),a<=s.length->a<=(z7d s k a v).2/\(z7d s k a v).2<=s.length
 | 0,a,v,h=>⟨Nat.le_refl _,h⟩
 | k + 1,a,v,h=>by
   unfold z7d;split
   . rename_i hc;have:=zk2 s k (a+1) (min (10*v+(gb s a - 48)) 17) (by omega);exact⟨by omega,this.2⟩
   . exact⟨Nat.le_refl _,h⟩
theorem z10u {s:List UInt8}{k a v:Nat}(h:a<s.length)(hd:zib (gb s a)=true):a+1<=(z7d s (k+1) a v).2:=by
 unfold z7d;rw[if_pos ⟨h,hd⟩];exact (zk2 s k (a+1) _ (by omega)).1
theorem zgg (s:List UInt8)(a:Nat):Ahead s (a+1) (zrm s a):=by
 refine (ze1 s a).bind fun c a1 h h1 h2=>?_
 obtain⟨q1,rfl,rfl⟩:=zaq h;split
 . rename_i hd;split
   . exact Nat.le_of_lt q1
   split
   . exact Nat.le_of_lt q1
   . exact⟨z10u q1 hd,(zk2 s _ _ _ (by omega)).2⟩
 . exact Nat.le_of_lt q1
theorem zsq {s:List UInt8}{lo hi fr a:Nat}(hf:fr<=s.length):Ahead s (a+1) (zwz s lo hi fr a):=by
 unfold zwz;split
 . exact hf
 . exact (zk7 s a 125).bind fun _ a1 _ h1 h2=>⟨h1,h2⟩
theorem zks {s:List UInt8}{a:Nat}(ha:a<=s.length):Ahead s (a+1) (z9n s a):=by
 refine (zgg s a).bind fun lo a1 _ h1 h2=>?_
 split
 . rename_i hc;simp[isB] at hc;split
   . rename_i hc2;simp[isB] at hc2;exact⟨by omega,by omega⟩
   . refine (zgg s (a1+1)).bind fun hi a2 _ g1 g2=>?_
     exact (zsq (by omega)).le (by omega)
 . exact (zsq ha).le (by omega)
theorem zeb {sub:Option (Nat->PR Tree)}{s:List UInt8}{a:Nat}(hs:∀ f,sub=some f->∀ b,b<=s.length->Ahead s b (f b))(ha:a<s.length):Ahead s (a+1) (z9s sub s a):=by
 unfold z9s;split
 . cases sub with
   | none=>exact Nat.le_of_lt ha
   | some f =>
     refine (hs f rfl (a+1) (by omega)).bind fun t a1 _ h1 h2=>?_
     exact (zk7 s a1 41).bind fun _ a2 _ g1 g2=>⟨by omega,g2⟩
 split
 . exact⟨Nat.le_refl _,by omega⟩
 split
 . exact (znb (a+1)).bind fun st a1 _ h1 h2=>⟨by omega,h2⟩
 split
 . exact (zn7 (by omega)).bind fun st a1 _ h1 h2=>⟨by omega,h2⟩
 split
 . exact Nat.le_of_lt ha
 . exact⟨Nat.le_refl _,by omega⟩
theorem zcl {sub:Option (Nat->PR Tree)}{s:List UInt8}{a:Nat}(hs:∀ f,sub=some f->∀ b,b<=s.length->Ahead s b (f b))(ha:a<s.length):Ahead s (a+1) (zb7 sub s a):=by
 refine (zeb hs ha).bind fun t a1 _ h1 h2=>?_
 split
 . split
   . exact⟨by omega,by omega⟩
   split
   . exact⟨by omega,by omega⟩
   split
   . exact⟨by omega,by omega⟩
   split
   . exact (zks (by omega)).bind fun lh a2 _ g1 g2=>⟨by omega,g2⟩
   . exact⟨h1,h2⟩
 . exact⟨h1,h2⟩
theorem z6g {sub:Option (Nat->PR Tree)} {s:List UInt8} (hs:∀ f,sub=some f->∀ b,b<=s.length->Ahead s b (f b)):∀ (k a:Nat) (ps:List Tree),a<=s.length->Ahead s a (zi6 sub s k a ps)
 | 0,a,ps,ha=>Nat.zero_le _
 | k + 1,a,ps,ha=>by
   unfold zi6;split
   . exact⟨Nat.le_refl _,ha⟩
   . rename_i hc;have hlt:a<s.length:=by
      simp[zd6] at hc;exact hc.1
     exact (zcl hs hlt).bind fun t a1 _ h1 h2=>(z6g hs k a1 _ h2).le (by omega)
theorem zkh {sub:Option (Nat->PR Tree)}{s:List UInt8}(hs:∀ f,sub=some f->∀ b,b<=s.length->Ahead s b (f b)):∀ (k a:Nat) (ps:List Tree),a<=s.length->Ahead s a (ze6 sub s k a ps)
 | 0,a,ps,ha=>Nat.zero_le _
 | k + 1,a,ps,ha=>by
   unfold ze6;split
   . rename_i hc;simp[isB] at hc;exact (z6g hs _ (a+1) [] (by omega)).bind fun t a1 _ h1 h2=>(zkh hs k a1 _ h2).le (by omega)
   . exact⟨Nat.le_refl _,ha⟩
theorem zec (s:List UInt8):∀ (d a:Nat),a<=s.length->Ahead s a (zfw s d a)
 | 0,a,ha=>by
   have hs:∀ f,(none:Option (Nat->PR Tree))=some f->∀ b,b<=s.length->Ahead s b (f b):=fun f h=>by cases h
   unfold zfw;exact (z6g hs _ a [] ha).bind fun t a1 _ h1 h2=>(zkh hs _ a1 _ h2).le h1
 | d+1,a,ha=>by
   have hs:∀ f,some (zfw s d)=some f->∀ b,b<=s.length->Ahead s b (f b):=fun f h=>by cases h;exact zec s d
   unfold zfw;exact (z6g hs _ a [] ha).bind fun t a1 _ h1 h2=>(zkh hs _ a1 _ h2).le h1
end
end Go.Proofs.YthgcpalmjcomlaaDoorLg
set_option linter.all false
set_option maxRecDepth 100000
namespace Go.Proofs.YthgcpalmjcomlaaDoorLg
noncomputable section
open Go Go.Lift Go.Proofs.YthgcpalmjcomlaaDoorPx
def spcB:List UInt8:=[92,46,91,93,40,41,124,123,125,42,43,63]
def brkB:List UInt8:=[92,91,93,45,94]
def z14c (h:Nat):UInt8:=([48,49,50,51,52,53,54,55,56,57,97,98,99,100,101,102]:List UInt8).getD h 0
def z9u (sl:List UInt8)(b:Nat):List UInt8 :=
 if sl.contains (UInt8.ofNat b) then [92,UInt8.ofNat b] else if b<32\/126<b then [92,120,z14c (b / 16),z14c (b % 16)] else [UInt8.ofNat b]
theorem zj7 (sl:List UInt8)(b:Nat):(z9u sl b).length<=4:=by
 unfold z9u;split
 . simp
 . split<;>simp
theorem zft {p:Nat->Bool}{n:Nat}(h:((List.range n).all p)=true){b:Nat}(hb:b<n):p b=true :=
 List.all_eq_true.1 h b (List.mem_range.2 hb)
theorem z12o (N:Nat):((List.range 256).all fun b=>(zab N (b:Int) == some (z9u spcB b)) && (z4q N (b:Int) brkB == some (z9u brkB b)))=true:=by kernel_rfl
theorem z13o (N:Nat){b:Nat}(hb:b<256):zab N (b:Int)=some (z9u spcB b):=by
 have:=zft (z12o N) hb;rw[Bool.and_eq_true] at this;exact beq_iff_eq.1 this.1
theorem zmx (N:Nat){b:Nat}(hb:b<256):z4q N (b:Int) brkB=some (z9u brkB b):=by
 have:=zft (z12o N) hb;rw[Bool.and_eq_true] at this;exact beq_iff_eq.1 this.2
def zcx (f:Nat->Bool):Nat->Nat->Nat
 | 0,p=>p
 | n+1,p=>if f p=true then zcx f n (p+1) else p
theorem zei (f:Nat->Bool):∀ n p,p<=zcx f n p/\zcx f n p<=p+n
 | 0,p=>⟨Nat.le_refl _,Nat.le_refl _⟩
 | n+1,p=>by
   rw[zcx];have:=zei f n (p+1);split<;>omega
theorem z10y (f:Nat->Bool):∀ n p i,p<=i->i<zcx f n p->f i=true
 | 0,p,i,h1,h2=>by rw[zcx] at h2;omega
 | n + 1,p,i,h1,h2=>by
   rw[zcx] at h2;split at h2
   . rename_i h;by_cases e:p=i
     . rw[<- e];exact h
     . exact z10y f n (p+1) i (by omega) h2
   . omega
theorem zq7 (f:Nat->Bool):∀ n p,zcx f n p<p+n->f (zcx f n p)=false
 | 0,p,h=>by rw[zcx] at h;omega
 | n + 1,p,h=>by
   rw[zcx] at h ⊢;split
   . rename_i hf;rw[if_pos hf] at h;exact zq7 f n (p+1) (by omega)
   . rename_i hf;simpa using hf
theorem zp0 {f g:Nat->Bool}:∀ n p,(∀ i,p<=i->i<p+n->f i=g i)->zcx f n p=zcx g n p
 | 0,p,_=>rfl
 | n+1,p,h=>by
   rw[zcx,zcx,h p (Nat.le_refl _) (by omega),zp0 n (p+1) (fun i h1 h2=>h i (by omega) (by omega))]
def zf5 (lo hi:Nat):List UInt8:=if hi=lo then z9u brkB lo else if hi=lo+1 then z9u brkB lo++z9u brkB hi else z9u brkB lo++[45]++z9u brkB hi
theorem zoz (lo hi:Nat):(zf5 lo hi).length<=9:=by
 have h1:=zj7 brkB lo;have h2:=zj7 brkB hi;unfold zf5;split
 . omega
 . split<;>simp only[List.length_append,List.length_cons,List.length_nil]<;>omega
def zeg (f:Nat->Bool):Nat->Nat->List UInt8
 | 0,_=>[]
 | k+1,p=>if p<256 then (if p<zcx f (256 - p) p then zf5 p (zcx f (256 - p) p - 1) else [])++zeg f k (zcx f (256 - p) p+1) else []
theorem zoy (f:Nat->Bool):∀ k k' p,256<p+k->256<p+k'->zeg f k p=zeg f k' p
 | 0,0,p,_,_=>rfl
 | 0,k'+1,p,h,_=>by rw[zeg,zeg,if_neg (by omega)]
 | k+1,0,p,_,h=>by rw[zeg,zeg,if_neg (by omega)]
 | k + 1,k'+1,p,h,h'=>by
   rw[zeg,zeg];by_cases hp:p<256
   . have:=(zei f (256 - p) p).1;rw[if_pos hp,if_pos hp,zoy f k k' _ (by omega) (by omega)]
   . rw[if_neg hp,if_neg hp]
def RT (f:Nat->Bool)(p:Nat):List UInt8:=zeg f 257 p
theorem zpp {f:Nat->Bool}{p:Nat}(h:256<=p):RT f p=[]:=by rw[RT,zeg,if_neg (by omega)]
theorem zrl {f:Nat->Bool}{p:Nat}(h:p<256):RT f p=(if p<zcx f (256 - p) p then zf5 p (zcx f (256 - p) p - 1) else [])++RT f (zcx f (256 - p) p+1):=by
 have:=(zei f (256 - p) p).1;rw[RT,zeg,if_pos h,RT,zoy f 256 257 _ (by omega) (by omega)]
theorem zwc {f:Nat->Bool}{p:Nat}(h:p<256)(hf:f p=false):RT f p=RT f (p+1):=by
 have e:zcx f (256 - p) p=p:=by
  rw[show 256 - p=(255 - p)+1 by omega,zcx,if_neg (by rw[hf];decide)]
 rw[zrl h,e,if_neg (by omega),List.nil_append]
theorem zjt {f:Nat->Bool}:∀ n p,p+n<=256->(∀ i,p<=i->i<p+n->f i=false)->RT f p=RT f (p+n)
 | 0,p,_,_=>rfl
 | n+1,p,h,hf=>by
   rw[zwc (by omega) (hf p (Nat.le_refl _) (by omega)),zjt n (p+1) (by omega) (fun i h1 h2=>hf i (by omega) (by omega))];congr 1;omega
theorem z143 (f:Nat->Bool):∀ k p,(zeg f k p).length<=9*k
 | 0,_=>by simp[zeg]
 | k + 1,p=>by
   rw[zeg];have:=z143 f k (zcx f (256 - p) p+1);have h2:=zoz p (zcx f (256 - p) p - 1);split
   . rw[List.length_append];split
     . omega
     . simp only[List.length_nil];omega
   . simp
def zyn (s:List Int):List UInt8 :=
 if zhv s=1 then z9u spcB (zak s 256 0).toNat else if zhv s=256 then [46] else if s=[287948901175001088,0,0,0] then [92,100] else if s=[287948901175001088,576460745995190270,0,0] then [92,119] else
 if zhv s=0 then [91,94,92,120,48,48,45,92,120,102,102,93] else [91]++RT (hasS s) 0++[93]
theorem z14w (s:List Int):(zyn s).length<=2400:=by
 have h1:=zj7 spcB (zak s 256 0).toNat;have h2:(RT (hasS s) 0).length<=9*257:=z143 _ _ _;unfold zyn;split
 . omega
 . split
   . decide
   . split
     . decide
     . split
       . decide
       . split
         . decide
         . simp only[List.length_append,List.length_cons,List.length_nil];omega
end
end Go.Proofs.YthgcpalmjcomlaaDoorLg
set_option linter.all false
set_option maxRecDepth 100000
namespace Go.Proofs.YthgcpalmjcomlaaDoorLg
noncomputable section
open Go Go.Lift Go.Proofs.YthgcpalmjcomlaaDoorPx
def At (S:List UInt8):Nat->List UInt8->Prop
 | a,[]=>a<=S.length
 | a,c::T=>a<S.length/\gb S a=c.toNat/\At S (a+1) T
theorem At.le {S:List UInt8}:∀ {T:List UInt8} {a:Nat},At S a T->a+T.length<=S.length
 | [],a,h=>h
 | c::T,a,h=>by have:=h.2.2.le;rw[List.length_cons];omega
theorem At.app {S:List UInt8}:∀ {T U:List UInt8} {a:Nat},At S a (T++U)->At S a T/\At S (a+T.length) U
 | [],U,a,h=>⟨Nat.le_trans (Nat.le_add_right _ _) h.le,h⟩
 | c::T,U,a,h=>by
   have:=At.app (T:=T) h.2.2;refine⟨⟨h.1,h.2.1,this.1⟩,?_⟩;rw[List.length_cons,show a+(T.length+1)=a+1+T.length by omega];exact this.2
theorem At.self (S:List UInt8):∀ (n a:Nat),n=S.length - a->a<=S.length->At S a (S.drop a)
 | 0,a,h,ha=>by rw[List.drop_eq_nil_of_le (by omega)];exact ha
 | n+1,a,h,ha=>by
   have hl:a<S.length:=by omega
   rw[List.drop_eq_getElem_cons hl];exact⟨hl,by unfold gb;rw[List.getD_eq_getElem?_getD,List.getElem?_eq_getElem hl];rfl,At.self S n (a+1) (by omega) (by omega)⟩
theorem z1f {α β:Type}(x:α)(a:Nat)(f:α->Nat->PR β):(PR.ok x a).next f=f x a:=rfl
theorem nxt {S:List UInt8}{a:Nat}{c:UInt8}{T:List UInt8}(h:At S a (c::T)):z8k S a=.ok c.toNat a:=by
 unfold z8k;rw[if_pos h.1,h.2.1]
theorem isb {S:List UInt8}{a:Nat}{c:UInt8}{T:List UInt8}(h:At S a (c::T))(b:Nat):isB S a b=decide (c.toNat=b):=by
 unfold isB;rw[decide_eq_true h.1,h.2.1,Bool.true_and];by_cases e:c.toNat=b
 . rw[e,beq_self_eq_true,decide_eq_true rfl]
 . rw[beq_eq_false_iff_ne.2 e,decide_eq_false e]
theorem z15r:((List.range 16).all fun v=>(zib (z14c v).toNat && ((z14c v).toNat - 48 == v)) || (!(zib (z14c v).toNat) && decide (97<=(z14c v).toNat/\(z14c v).toNat<=102) && ((z14c v).toNat - 87 == v)))=true:=by decide +kernel
theorem z17k {S:List UInt8}{a v fr:Nat}(hv:v<16){T:List UInt8}(h:At S a (z14c v::T)):zth S fr a=.ok v (a+1):=by
 have ht:=zft z15r hv;unfold zth;rw[nxt h];simp only[z1f];cases hd:zib (z14c v).toNat with
 | true =>
   rw[hd] at ht;simp only[Bool.true_and,Bool.not_true,Bool.false_and,Bool.or_false,beq_iff_eq] at ht;rw[if_pos rfl,ht]
 | false =>
   rw[hd] at ht;simp only[Bool.false_and,Bool.not_false,Bool.true_and,Bool.false_or,Bool.and_eq_true,decide_eq_true_eq,beq_iff_eq] at ht;rw[if_neg (by decide),if_pos ht.1,ht.2]
theorem z160:((List.range 256).all fun b=>(!(spcB.contains (UInt8.ofNat b)) || (b != 100 && b != 119 && b != 120 && escapes.contains b)) && (!(brkB.contains (UInt8.ofNat b)) || (b != 100 && b != 119 && b != 120 && escapes.contains b)))=true:=by decide +kernel
theorem zxr:((List.range 256).all fun b=>(spcB.contains (UInt8.ofNat b) || !(specials.contains b)) && (brkB.contains (UInt8.ofNat b) || (b != 92 && b != 91 && b != 93 && b != 45 && b != 94)))=true:=by decide +kernel
theorem of8 {b:Nat}(hb:b<256):(UInt8.ofNat b).toNat=b:=by rw[UInt8.toNat_ofNat',Nat.mod_eq_of_lt hb]
theorem z12h {S:List UInt8}{a b:Nat}(hb:b<256){sl:List UInt8}(hsl:sl=spcB\/sl=brkB)(hc:sl.contains (UInt8.ofNat b)=true\/b<32\/126<b)(h:At S a (z9u sl b)) :
 gb S a=92/\a<S.length/\zqm S a=.ok (z9e b,false,b) (a+(z9u sl b).length):=by
 have ht:=zft z160 hb;unfold z9u at h ⊢;by_cases h1:sl.contains (UInt8.ofNat b)=true
 . rw[if_pos h1] at h ⊢;have hx:(b != 100 && b != 119 && b != 120 && escapes.contains b)=true:=by
    rw[Bool.and_eq_true] at ht;rcases hsl with rfl|rfl
    . rw[h1] at ht;simpa using ht.1
    . rw[h1] at ht;simpa using ht.2
   simp only[Bool.and_eq_true,bne_iff_ne,ne_eq] at hx;obtain⟨⟨⟨x1,x2⟩,x3⟩,x4⟩:=hx;refine⟨h.2.1,h.1,?_⟩;unfold zqm;rw[nxt h.2.2,of8 hb];simp only[z1f];rw[if_neg x1,if_neg x2,if_neg x3,if_pos x4];rfl
 . have h2:b<32\/126<b:=by rcases hc with hc|hc;exact absurd hc h1;exact hc
   rw[if_neg h1,if_pos h2] at h ⊢;refine⟨h.2.1,h.1,?_⟩;unfold zqm;rw[nxt h.2.2];simp only[z1f];rw[if_neg (show ¬ (120:UInt8).toNat=100 by decide),if_neg (show ¬ (120:UInt8).toNat=119 by decide),if_pos (show (120:UInt8).toNat=120 by decide)];have h3:=h.2.2.2.2;rw[show a+1+1=a+2 by omega] at h3;rw[z17k (by omega) h3,z1f,z17k (by omega) h3.2.2,z1f,show 16*(b / 16)+b % 16=b by omega];rfl
theorem zu5 {S:List UInt8}{a b:Nat}(hb:b<256)(h:At S a (z9u brkB b)):zgh S a=.ok (z9e b,false,b) (a+(z9u brkB b).length):=by
 by_cases hc:brkB.contains (UInt8.ofNat b)=true\/b<32\/126<b
 . obtain⟨h1,h2,h3⟩:=z12h hb (.inr rfl) hc h;unfold zgh z8k;rw[if_pos h2,h1];simp only[z1f];rw[if_pos trivial,h3]
 . have h1:¬ brkB.contains (UInt8.ofNat b)=true:=fun e=>hc (.inl e)
   have ht:=zft zxr hb;rw[Bool.and_eq_true] at ht;have hx:=ht.2;rw[Bool.eq_false_iff.2 h1,Bool.false_or] at hx;simp only[Bool.and_eq_true,bne_iff_ne,ne_eq] at hx;unfold z9u at h ⊢;rw[if_neg h1,if_neg (fun e=>hc (.inr e))] at h ⊢;unfold zgh;rw[nxt h,of8 hb];simp only[z1f];rw[if_neg hx.1.1.1.1,if_neg (by omega)];rfl
theorem z13z {S:List UInt8}{a b:Nat}(sub:Option (Nat->PR Tree))(hb:b<256)(h:At S a (z9u spcB b)):z9s sub S a=.ok (z14b (z9e b)) (a+(z9u spcB b).length):=by
 by_cases hc:spcB.contains (UInt8.ofNat b)=true\/b<32\/126<b
 . obtain⟨h1,h2,h3⟩:=z12h hb (.inl rfl) hc h;unfold z9s;rw[h1,if_neg (by decide),if_neg (by decide),if_neg (by decide),if_pos rfl,h3];rfl
 . have h1:¬ spcB.contains (UInt8.ofNat b)=true:=fun e=>hc (.inl e)
   have ht:=zft zxr hb;rw[Bool.and_eq_true] at ht;have hx:=ht.1;rw[Bool.eq_false_iff.2 h1,Bool.false_or,Bool.not_eq_true'] at hx;have hn:b≠40/\b≠46/\b≠91/\b≠92:=by
    refine⟨?_,?_,?_,?_⟩<;>(rintro rfl;exact absurd hx (by decide))
   unfold z9u at h ⊢;rw[if_neg h1,if_neg (fun e=>hc (.inr e))] at h ⊢;unfold z9s;rw[h.2.1,of8 hb,if_neg hn.1,if_neg hn.2.1,if_neg hn.2.2.1,if_neg hn.2.2.2,hx];rfl
theorem z15s:((List.range 256).all fun b=>match z9u brkB b with|[]=>false|c::_=>c != 45 && c != 93 && c != 94)=true:=by decide +kernel
theorem zj6 {b:Nat}(hb:b<256):∃ c T,z9u brkB b=c::T/\c≠45/\c≠93/\c≠94:=by
 have ht:=zft z15s hb;cases he:z9u brkB b with
 | nil=>rw[he] at ht;cases ht
 | cons c T =>
   rw[he] at ht;simp only[Bool.and_eq_true,bne_iff_ne,ne_eq] at ht;exact⟨c,T,rfl,ht.1.1,ht.1.2,ht.2⟩
theorem zi1 {lo hi:Nat}(hl:lo<256):∃ U,zf5 lo hi=z9u brkB lo++U:=by
 unfold zf5;split
 . exact⟨[],by simp⟩
 . split
   . exact⟨_,rfl⟩
   . exact⟨_,List.append_assoc _ _ _⟩
theorem zwd (f:Nat->Bool):∀ n p,n=256 - p->RT f p=[]\/∃ b U,b<256/\RT f p=z9u brkB b++U
 | 0,p,h=>.inl (zpp (by omega))
 | n + 1,p,h=>by
   cases hf:f p with
   | false=>rw[zwc (by omega) hf];exact zwd f n (p+1) (by omega)
   | true =>
     have hgt:p<zcx f (256 - p) p:=by
      rw[show 256 - p=(255 - p)+1 by omega,zcx,if_pos hf];have:=(zei f (255 - p) (p+1)).1;omega
     obtain⟨U,hU⟩:=zi1 (lo:=p) (hi:=zcx f (256 - p) p - 1) (by omega);exact .inr ⟨p,U++RT f (zcx f (256 - p) p+1),by omega,by rw[zrl (by omega),if_pos hgt,hU,List.append_assoc]⟩
theorem z158 {S:List UInt8}{a:Nat}{f:Nat->Bool}{p:Nat}(h:At S a (RT f p++[93])):isB S a 45=false:=by
 rcases zwd f (256 - p) p rfl with e|⟨b,U,hb,e⟩
 . rw[e] at h;rw[isb h];rfl
 . obtain⟨c,T,hc,h1,_⟩:=zj6 hb;rw[e,hc] at h;rw[isb h];exact decide_eq_false (fun e=>h1 (UInt8.toNat_inj.1 e))
theorem zqs {S:List UInt8}{a b:Nat}(hb:b<256)(h:At S a (z9u brkB b))(hd:isB S (a+(z9u brkB b).length) 45=false):ze5 S a=.ok (z9e b) (a+(z9u brkB b).length):=by
 unfold ze5;rw[zu5 hb h];simp only[z1f];rw[hd];rfl
theorem zpg {S:List UInt8}{a lo hi:Nat}(hl:lo<=hi)(hh:hi<256)(h:At S a (z9u brkB lo++[45]++z9u brkB hi)) :
 ze5 S a=.ok (ofS (hi+1 - lo) lo z4) (a+(z9u brkB lo++[45]++z9u brkB hi).length):=by
 obtain⟨h1,h2⟩:=h.app;obtain⟨h3,h4⟩:=h1.app;unfold ze5;rw[zu5 (by omega) h3];simp only[z1f];rw[isb h4,if_neg (show ¬ (false || !(decide ((45:UInt8).toNat=45)))=true by decide)];rw[List.length_append,<- Nat.add_assoc] at h2;have h5:At S (a+(z9u brkB lo).length+1) (z9u brkB hi):=h2;rw[zu5 hh h5];simp only[z1f];rw[decide_eq_false (show ¬ hi<lo by omega),if_neg (by decide)];congr 1;simp only[List.length_append,List.length_cons,List.length_nil];omega
def z15c (s:List Int)(p:Nat)(t:List Int):Prop:=SetOk t/\∀ i,i<256->hasS t i=(hasS s i && decide (i<p))
theorem zx1 {s t u:List Int}{lo hi:Nat}(ht:z15c s lo t)(hu:SetOk u)(hb:∀ i,i<256->hasS u i=decide (lo<=i/\i<hi))(hs:∀ i,lo<=i->i<hi->hasS s i=true)(hl:lo<=hi):z15c s hi (orS t u):=by
 refine⟨z11f ht.1 hu,fun i hi2=>?_⟩;rw[z17l ht.1 hu hi2,ht.2 i hi2,hb i hi2];by_cases h1:i<lo
 . rw[decide_eq_true h1,decide_eq_false (show ¬ (lo<=i/\i<hi) by omega),decide_eq_true (show i<hi by omega)];simp
 . by_cases h2:i<hi
   . rw[hs i (by omega) h2,decide_eq_false h1,decide_eq_true (show lo<=i/\i<hi by omega),decide_eq_true h2];simp
   . rw[decide_eq_false h1,decide_eq_false (show ¬ (lo<=i/\i<hi) by omega),decide_eq_false h2];simp
theorem zlh {s t:List Int}{e:Nat}(h:z15c s e t)(he:e<256->hasS s e=false):z15c s (e+1) t:=by
 refine⟨h.1,fun i hi=>?_⟩;rw[h.2 i hi];by_cases h1:i<e
 . rw[decide_eq_true h1,decide_eq_true (by omega)]
 . by_cases h2:i=e
   . rw[h2,he (by omega)];simp
   . rw[decide_eq_false h1,decide_eq_false (by omega)]
theorem zk4 {lo hi:Nat}(hl:lo<=hi)(hh:hi<256):SetOk (ofS (hi+1 - lo) lo z4)/\∀ i,i<256->hasS (ofS (hi+1 - lo) lo z4) i=decide (lo<=i/\i<hi+1):=by
 refine⟨zuh _ _ z5a (by omega),fun i hi2=>?_⟩;rw[show z4=[0,0,0,0] from rfl,zxe _ _ z5a (by omega) hi2,zbl,Bool.false_or];exact decide_eq_decide.2 (by omega)
theorem zj5 {S:List UInt8} {s:List Int} (hs:SetOk s):∀ (n p k a:Nat) (acc:List Int),257 - p<=n->S.length<a+k->z15c s p acc->At S a (RT (hasS s) p++[93])->z79 S k a acc=.ok s (a+(RT (hasS s) p).length+1)
 | 0,p,k,a,acc,hn,hk,hacc,h=>by
   rw[zpp (by omega)] at h ⊢;obtain⟨k,rfl⟩:∃ k',k=k'+1:=⟨k - 1,by have:=h.1;omega⟩
   rw[z79,isb h];rw[if_pos (show decide ((93:UInt8).toNat=93)=true by decide)];have:acc=s:=zef hacc.1 hs (fun b hb=>by rw[hacc.2 b hb,decide_eq_true (by omega),Bool.and_true]);rw[this];rfl
 | n + 1,p, k,a,acc,hn,hk,hacc,h=>by
   by_cases hp:p<256
   . cases hf:hasS s p with
     | false =>
       rw[zwc hp hf] at h ⊢;exact zj5 hs n (p+1) k a acc (by omega) hk (zlh hacc (fun _=>hf)) h
     | true =>
       have hgt:p<zcx (hasS s) (256 - p) p:=by
        rw[show 256 - p=(255 - p)+1 by omega,zcx,if_pos hf];have:=(zei (hasS s) (255 - p) (p+1)).1;omega
       have he:=(zei (hasS s) (256 - p) p).2;have hin:=z10y (hasS s) (256 - p) p;have hend:=zq7 (hasS s) (256 - p) p;rw[zrl hp,if_pos hgt] at h ⊢;generalize zcx (hasS s) (256 - p) p=e at *;rw[List.append_assoc] at h;obtain⟨g1,g2⟩:=h.app;have hd:=z158 g2;have hend':e<256->hasS s e=false:=fun h=>hend (by omega)
       obtain⟨b1,b2⟩:=zk4 (lo:=p) (hi:=p) (Nat.le_refl _) hp;rw[show p+1 - p=1 by omega] at b1 b2;obtain⟨c0,C0,hc0,_,q93,_⟩:=zj6 hp;obtain⟨U,hU⟩:=zi1 (lo:=p) (hi:=e - 1) hp;have hnb:isB S a 93=false:=by
        have g3:=g1;rw[hU,hc0] at g3;rw[isb g3];exact decide_eq_false (fun e=>q93 (UInt8.toNat_inj.1 e))
       have hle:=g2.le;have hpos:0<(zf5 p (e - 1)).length:=by rw[hU,hc0];simp
       obtain⟨k,rfl⟩:∃ k',k=k'+1:=⟨k - 1,by have:=g1.le;omega⟩
       rw[z79,hnb,if_neg (by decide)];unfold zf5 at g1 g2 hd hpos ⊢;by_cases e1:e - 1=p
       . rw[if_pos e1] at g1 g2 hd hpos ⊢;rw[zqs hp g1 hd];have hfu:S.length<(a+(z9u brkB p).length)+k:=by omega
         have hlo:z15c s e (orS acc (z9e p)):=by
          have:=zx1 hacc b1 b2 (fun i h1 h2=>by rw[show i=p by omega];exact hf) (by omega);rw[show e=p+1 by omega];exact this
         have hit:=zj5 hs n (e+1) k (a+(z9u brkB p).length) _ (by omega) hfu (zlh hlo hend') g2;rw[z1f,hit];rw[List.length_append];congr 1;omega
       . rw[if_neg e1] at g1 g2 hd hpos ⊢;by_cases e2:e - 1=p+1
         . rw[if_pos e2] at g1 g2 hd hpos ⊢;obtain⟨g3,g4⟩:=g1.app;obtain⟨c1,C1,hc1,q45,q93b,_⟩:=zj6 (b:=e - 1) (by omega);have g5:=g4;rw[hc1] at g5;have hd1:isB S (a+(z9u brkB p).length) 45=false:=by rw[isb g5];exact decide_eq_false (fun e=>q45 (UInt8.toNat_inj.1 e))
           have hd2:isB S (a+(z9u brkB p).length) 93=false:=by rw[isb g5];exact decide_eq_false (fun e=>q93b (UInt8.toNat_inj.1 e))
           rw[zqs hp g3 hd1];rw[z1f];have hl1:0<(z9u brkB p).length:=by rw[hc0];simp
           have hl2:=g4.le;obtain⟨k,rfl⟩:∃ k',k=k'+1:=⟨k - 1,by have:=g5.1;omega⟩
           rw[z79,hd2,if_neg (by decide)];rw[List.length_append,<- Nat.add_assoc] at hd g2;rw[zqs (by omega) g4 hd];rw[z1f];obtain⟨d1,d2⟩:=zk4 (lo:=e - 1) (hi:=e - 1) (Nat.le_refl _) (by omega);rw[show e - 1+1 - (e - 1)=1 by omega] at d1 d2;have l1:=zx1 hacc b1 b2 (fun i h1 h2=>by rw[show i=p by omega];exact hf) (by omega);have l2:z15c s e (orS (orS acc (z9e p)) (z9e (e - 1))):=by
            have:=zx1 (lo:=p+1) (hi:=e) l1 d1 (fun i hi=>by rw[d2 i hi];exact decide_eq_decide.2 (by omega)) (fun i h1 h2=>hin i (by omega) h2) (by omega);exact this
           have hl3:0<(z9u brkB (e - 1)).length:=by rw[hc1];simp
           have hfu:S.length<(a+(z9u brkB p).length+(z9u brkB (e - 1)).length)+k:=by omega
           have hit:=zj5 hs n (e+1) k (a+(z9u brkB p).length+(z9u brkB (e - 1)).length) _ (by omega) hfu (zlh l2 hend') g2;rw[hit];rw[List.length_append,List.length_append];congr 1;omega
         . rw[if_neg e2] at g1 g2 hd hpos ⊢;rw[zpg (by omega) (by omega) g1];rw[z1f];obtain⟨d1,d2⟩:=zk4 (lo:=p) (hi:=e - 1) (by omega) (by omega);have l1:z15c s e (orS acc (ofS (e - 1+1 - p) p z4)):=zx1 hacc d1 (fun i hi=>by rw[d2 i hi];exact decide_eq_decide.2 (by omega)) (fun i h1 h2=>hin i h1 h2) (by omega);have hfu:S.length<(a+(z9u brkB p++[(45:UInt8)]++z9u brkB (e - 1)).length)+k:=by omega
           have hit:=zj5 hs n (e+1) k (a+(z9u brkB p++[(45:UInt8)]++z9u brkB (e - 1)).length) _ (by omega) hfu (zlh l1 hend') g2;rw[hit];congr 1;simp only[List.length_append];omega
   . rw[zpp (by omega)] at h ⊢;obtain⟨k,rfl⟩:∃ k',k=k'+1:=⟨k - 1,by have:=h.1;omega⟩
     rw[z79,isb h];rw[if_pos (show decide ((93:UInt8).toNat=93)=true by decide)];have:acc=s:=zef hacc.1 hs (fun b hb=>by rw[hacc.2 b hb,decide_eq_true (by omega),Bool.and_true]);rw[this];rfl
end
end Go.Proofs.YthgcpalmjcomlaaDoorLg
set_option linter.all false
set_option maxRecDepth 100000
namespace Go.Proofs.YthgcpalmjcomlaaDoorLg
noncomputable section
open Go Go.Lift Go.Proofs.YthgcpalmjcomlaaDoorPx
theorem less4 (N:Nat)(a b c d e f g h:Int):zam (N+5) [a,b,c,d] [e,f,g,h]=some (zz9 [a,b,c,d] (ztg [e,f,g,h])):=by kernel_rfl
theorem z121 {N:Nat}(hN:5<=N){s t:List Int}(hs:SetOk s)(ht:SetOk t):zam N s t=some (zz9 s (ztg t)):=by
 obtain⟨k,rfl⟩:∃ k,N=k+5:=⟨N - 5,by omega⟩
 obtain⟨a,b,c,d,rfl,_⟩:=hs;obtain⟨e,f,g,h,rfl,_⟩:=ht;exact less4 ..
theorem z1bx (N:Nat)(a b c d:Int):z9q (N+5) [a,b,c,d]=some (Go.IntKind.wrap .i64 (Go.IntKind.wrap .i64 (Go.IntKind.wrap .i64 (Go.IntKind.wrap .i64 (0+zug a)+zug b)+zug c)+zug d)):=by kernel_rfl
theorem zz2 {N:Nat}(hN:5<=N){s:List Int}(hs:SetOk s):z9q N s=some ((zhv s:Nat):Int):=by
 obtain⟨k,rfl⟩:∃ k,N=k+5:=⟨N - 5,by omega⟩
 obtain⟨a,b,c,d,rfl,ha,hb,hc,hd⟩:=hs;have h:=zus [a,b,c,d];rw[zut rfl] at h;rw[z1bx,zqb ha,zqb hb,zqb hc,zqb hd,zut rfl];generalize pop 64 a.toNat=p at *;generalize pop 64 b.toNat=q at *;generalize pop 64 c.toNat=r at *;generalize pop 64 d.toNat=t at *;rw[z5p (x:=0+(p:Int)) (by unfold I64;omega),z5p (x:=0+(p:Int)+q) (by unfold I64;omega),z5p (x:=0+(p:Int)+q+r) (by unfold I64;omega),
  z5p (by unfold I64;omega)]
 congr 1;omega
theorem zkb {N:Nat}(hN:5<=N){s:List Int}(hs:SetOk s):z1c N s=some (zak s 256 0):=by
 obtain⟨k,rfl⟩:∃ k,N=k+5:=⟨N - 5,by omega⟩
 exact zxo k hs
theorem wrapS {a:Nat}(h:a<=100000):IntKind.wrap .i64 ((a:Int)+1)=((a+1:Nat):Int):=by
 rw[show ((a:Int)+1)=((a+1:Nat):Int) from rfl];exact z5p (by unfold I64;omega)
theorem z106 {a:Nat}(h:a<256):IntKind.wrap .u8 (a:Int)=(a:Int):=zjv (by omega) (by omega)
theorem zlg (s t:List Int):eqD (T.arr 4 (T.int Go.IntKind.u64)) s t=decide (s=t):=by
 by_cases h:s=t
 . rw[h,decide_eq_true rfl];exact z12s t
 . rw[decide_eq_false h];cases hb:eqD (T.arr 4 (T.int Go.IntKind.u64)) s t with
   | false=>rfl
   | true=>exact absurd ((zi9 _ _ _ rfl).1 hb) h
theorem zxx {s:List Int}(hs:SetOk s)(h:zhv s=0):s=[0,0,0,0]:=by
 refine zef hs z5a (fun b hb=>?_);rw[zbl];cases hh:hasS s b with
 | false=>rfl
 | true =>
   have hm:=(zgu s 256 0 b).2 ⟨by omega,by omega,hh⟩;have hl:=zit s 256 0;simp only[Nat.zero_add] at hl;have hz:(zkv s 256 0).length=0:=hl.trans h;rw[List.length_eq_zero_iff.1 hz] at hm;cases hm
theorem z13c {s:List Int}:zhv [0,0,0,0]=0:=by
 rw[zut rfl];decide
end
end Go.Proofs.YthgcpalmjcomlaaDoorLg
set_option linter.all false
set_option maxRecDepth 100000
namespace Go.Proofs.YthgcpalmjcomlaaDoorLg
noncomputable section
open Go Go.Lift Go.Proofs.YthgcpalmjcomlaaDoorPx
theorem z1cv {f g:Nat->Bool} {p:Nat} (h:∀ i,p<=i->i<256->f i=g i):RT f p=RT g p:=by
 have hh:∀ k q,p<=q->zeg f k q=zeg g k q:=by
  intro k
  induction k with
  | zero=>intro q _;rfl
  | succ k ih =>
    intro q hq;rw[zeg,zeg];by_cases hq2:q<256
    . rw[if_pos hq2,if_pos hq2,zp0 (f:=f) (g:=g) (256 - q) q (fun i h1 h2=>h i (by omega) (by omega))];have:=(zei g (256 - q) q).1;rw[ih _ (by omega)]
    . rw[if_neg hq2,if_neg hq2]
 exact hh 257 p (Nat.le_refl _)
theorem zes (s:List Int):∀ n b,(∃ c,b<=c/\c<b+n/\zak s n b=(c:Int)/\hasS s c=true/\∀ i,b<=i->i<c->hasS s i=false)\/(zak s n b=-1/\∀ i,b<=i->i<b+n->hasS s i=false)
 | 0,b=>.inr ⟨rfl,fun i h1 h2=>by omega⟩
 | n + 1,b=>by
   rw[zak];cases hb:hasS s b with
   | true=>exact .inl ⟨b,by omega,by omega,by rw[if_pos rfl],hb,fun i h1 h2=>by omega⟩
   | false =>
     rw[if_neg (by decide)];rcases zes s n (b+1) with⟨c,h1,h2,h3,h4,h5⟩|⟨h1,h2⟩
     . refine .inl ⟨c,by omega,by omega,h3,h4,fun i h6 h7=>?_⟩;by_cases e:i=b
       . rw[e];exact hb
       . exact h5 i (by omega) h7
     . refine .inr ⟨h1,fun i h6 h7=>?_⟩;by_cases e:i=b
       . rw[e];exact hb
       . exact h2 i (by omega) (by omega)
theorem z11c {N:Nat}(hN:300<=N){s:List Int}(hs:SetOk s)(o:Unit×(List Int×Unit)){lo:Nat}(hl:lo<256)(hlo:hasS s lo=true)(k0:Int->Option (List UInt8)) :
 z9g N s o (lo:Int) (lo:Int) k0=k0 ((zcx (hasS s) (256 - lo) lo - 1:Nat):Int):=by
 rw[z9g,zg0];refine (zgi (fun v=>∃ h:Nat,v=(h:Int)/\h<=255) (fun v=>256 - v.toNat) (fun v=>k0 ((zcx (hasS s) (255 - v.toNat) (v.toNat+1) - 1:Nat):Int)) ?_ N (lo:Int) ⟨lo,rfl,by omega⟩ (by simp only[Int.toNat_natCast];omega)).trans (by
  simp only[Int.toNat_natCast];rw[show 256 - lo=(255 - lo)+1 by omega,zcx,if_pos hlo])
 rintro _ r ⟨h,rfl,hh⟩ hr;simp only[Int.toNat_natCast];rw[zbs,zbw];by_cases hlt:h<255
 . rw[z29 (decide_eq_true (by omega)),wrapS (by omega),z106 (by omega),z1i1 N hs (by omega),Option.bind_some,show 255 - h=(254 - h)+1 by omega,zcx];cases hb:hasS s (h+1) with
   | true=>rw[cond_true,if_pos rfl,hr _ ⟨h+1,rfl,by omega⟩ (by simp only[Int.toNat_natCast];omega),Int.toNat_natCast,show 255 - (h+1)=254 - h by omega]
   | false=>rw[cond_false,if_neg (by decide),show h+1 - 1=h by omega]
 . rw[z6t (decide_eq_false (by omega)),show 255 - h=0 by omega,zcx,show h+1 - 1=h by omega]
theorem z14y (N:Nat){lo hi:Nat}(h:lo<=hi)(hh:hi<256):zbx N (lo:Int) (hi:Int)=some (zf5 lo hi):=by
 have h1:=zj7 brkB lo;have h2:=zj7 brkB hi;have w:IntKind.wrap .u8 ((hi:Int) - (lo:Int))=((hi - lo:Nat):Int):=by
  rw[show ((hi:Int) - (lo:Int))=((hi - lo:Nat):Int) by omega];exact z106 (by omega)
 rw[zbx,show ([(92:UInt8),(91:UInt8),(93:UInt8),(45:UInt8),(94:UInt8)]:List UInt8)=brkB from rfl,zmx N (by omega),Option.bind_some,zmx N hh,Option.bind_some,w,zf5];by_cases e0:hi=lo
 . rw[z29 (beq_iff_eq.2 (by omega)),if_pos e0]
 rw[z6t (beq_eq_false_iff_ne.2 (by omega)),if_neg e0];by_cases e1:hi=lo+1
 . rw[z29 (beq_iff_eq.2 (by omega)),if_pos e1,z29 (decide_eq_true (by omega))]
 . rw[z6t (beq_eq_false_iff_ne.2 (by omega)),if_neg e1,z29 (decide_eq_true (by omega)),z29 (decide_eq_true (by simp only[List.length_append,List.length_cons,List.length_nil];omega))]
theorem z18t (N:Nat){o s:List UInt8}(h:o.length+s.length<=1000000):z18 N ((),(ofStr o,())) s=some ((((s.length:Nat):Int),(Go.Value.nilIface,())),(((),(ofStr (o++s),())),())):=by
 rw[z18,show decide _=true from decide_eq_true (by simp[ofStr];omega)];simp[ofStr]
theorem z12b {s:List Int}{c:Nat}(hc:c<256)(h:hasS s c=true):1<=zhv s:=by
 have hm:=(zgu s 256 0 c).2 ⟨by omega,by omega,h⟩;have hl:=zit s 256 0;simp only[Nat.zero_add] at hl;have h2:0<(zkv s 256 0).length:=List.length_pos_of_mem hm;have h3:(zkv s 256 0).length=zhv s:=hl;omega
theorem z15k {t:List Int} (ht:SetOk t) {c e n:Nat} (hn:n=e - c) (hce:c<e) (he:e<=256) (h4:hasS t c=true) (h5:∀ i,i<c->hasS t i=false) (hend:e<256->hasS t e=false) :
 SetOk (ofS n c [0,0,0,0])/\SetOk (zz9 t (ztg (ofS n c [0,0,0,0])))/\zhv (zz9 t (ztg (ofS n c [0,0,0,0])))+1<=zhv t/\RT (hasS (zz9 t (ztg (ofS n c [0,0,0,0])))) 0=RT (hasS t) (e+1):=by
 have hof:=zuh n c z5a (by omega);have hoh:∀ i,i<256->hasS (ofS n c [0,0,0,0]) i=decide (c<=i/\i<e):=fun i hi=>by
  rw[zxe _ _ z5a (by omega) hi,zbl,Bool.false_or];exact decide_eq_decide.2 (by omega)
 generalize ofS n c [0,0,0,0]=u at *;have hno:=zwu hof;have hand:=z1ne ht hno;have hpar:=zz3 ht hof;have hc1:1<=zhv (zz9 t u):=z12b (c:=c) (by omega) (by rw[zqt ht hof (by omega),h4,hoh c (by omega),decide_eq_true (by omega)];rfl);have hbit:∀ i,i<256->hasS (zz9 t (ztg u)) i=(hasS t i && !decide (c<=i/\i<e)):=fun i hi=>by
  rw[zqt ht hno hi,zuq hof hi,hoh i hi]
 refine⟨hof,hand,by omega,?_⟩;generalize zz9 t (ztg u)=t2 at *;by_cases h256:e<256
 . have hfe:=hend h256;have hz:∀ i,0<=i->i<0+(e+1)->hasS t2 i=false:=fun i _ hi=>by
    rw[hbit i (by omega)];by_cases g1:i<c
    . rw[h5 i g1];rfl
    . by_cases g2:i<e
      . rw[decide_eq_true (by omega)];simp
      . rw[show i=e by omega,hfe];rfl
   have h6:=zjt (f:=hasS t2) (e+1) 0 (by omega) hz;rw[Nat.zero_add] at h6;rw[h6];refine z1cv (fun i g1 g2=>?_);rw[hbit i g2,decide_eq_false (by omega)];simp
 . have hz:∀ i,0<=i->i<0+256->hasS t2 i=false:=fun i _ hi=>by
    rw[hbit i (by omega)];by_cases g1:i<c
    . rw[h5 i g1];rfl
    . rw[decide_eq_true (by omega)];simp
   have h6:=zjt (f:=hasS t2) 256 0 (by omega) hz;rw[Nat.zero_add] at h6;rw[h6,zpp (Nat.le_refl _),zpp (by omega)]
theorem zya {f:Nat->Bool}{c:Nat}(hc:c<256)(h4:f c=true)(h5:∀ i,i<c->f i=false) :
 c<zcx f (256 - c) c/\RT f 0=zf5 c (zcx f (256 - c) c - 1)++RT f (zcx f (256 - c) c+1):=by
 have hgt:c<zcx f (256 - c) c:=by
  rw[show 256 - c=(255 - c)+1 by omega,zcx,if_pos h4];have:=(zei f (255 - c) (c+1)).1;omega
 have h6:=zjt (f:=f) c 0 (by omega) (fun i _ h7=>h5 i (by omega));rw[Nat.zero_add] at h6;exact⟨hgt,by rw[h6,zrl hc,if_pos hgt]⟩
theorem str14 (N:Nat){o:List UInt8}(h:o.length<=100000):(zrw (((),(ofStr o,())),())).bind (fun y1=>some y1.1)=some o:=by
 have h2:zrw (((),(ofStr o,())),())=some (o,(((),((),())),())):=by
  unfold zrw;dsimp only;rw[zpa,show decide _=true from decide_eq_true (by simp[ofStr];omega),zk1];rfl
 rw[h2];rfl
theorem zyp {N:Nat}(hN:300<=N){t:List Int}(ht:SetOk t){o:List UInt8}(ho:o.length+9*zhv t<=9*256){c:Nat}(hc:c<256)(h4:hasS t c=true)(h5:∀ i,i<c->hasS t i=false)
 (k0:List Int->(Unit×(List Int×Unit))->Option (List UInt8)) :
 ∃ t2,SetOk t2/\zhv t2+1<=zhv t/\∃ x:List UInt8,x.length<=9/\RT (hasS t) 0=x++RT (hasS t2) 0/\z9h N t ((),(ofStr o,())) (c:Int) k0=k0 t2 ((),(ofStr (o++x),())):=by
 obtain⟨hgt,hRT⟩:=zya hc h4 h5;have he:=(zei (hasS t) (256 - c) c).2;have hend:=zq7 (hasS t) (256 - c) c;have hpe:=z11c (o:=((),(ofStr o,()))) hN ht hc h4;generalize zcx (hasS t) (256 - c) c=e at *;obtain⟨g1,g2,g3,g4⟩:=z15k ht (n:=e - 1+1 - c) (by omega) hgt (by omega) h4 h5 (fun h=>hend (by omega));have hl:=zoz c (e - 1);have hcn:=z12b hc h4;refine⟨_,g2,g3,zf5 c (e - 1),hl,by rw[g4];exact hRT,?_⟩;rw[z9h,hpe,z106 hc,z106 (by omega),z14y N (by omega) (by omega),Option.bind_some,z18t N (by omega),Option.bind_some,z11g N hc (by omega) (by omega),Option.bind_some,z121 (by omega) ht g1,Option.bind_some]
end
end Go.Proofs.YthgcpalmjcomlaaDoorLg
set_option linter.all false
set_option maxRecDepth 100000
namespace Go.Proofs.YthgcpalmjcomlaaDoorLg
noncomputable section
open Go Go.Lift Go.Proofs.YthgcpalmjcomlaaDoorPx
def appS (b:List Int)(f:Nat->Bool):List UInt8:=toStr b++RT f 0
theorem z16e (f:Nat->Bool):appS [] f=RT f 0:=List.nil_append _
theorem zy1 (o:List UInt8)(f:Nat->Bool):appS (ofStr o) f=o++RT f 0:=by unfold appS;rw[zk1]
theorem z10x {N:Nat}(hN:300<=N){s:List Int}(hs:SetOk s):zaa N s=some (RT (hasS s) 0):=by
 rw[zaa,zkb (by omega) hs,Option.bind_some,zg1];have hc0:=zus s;refine (zgi (fun v=>∃ (t:List Int) (o:List UInt8),v.1=t/\v.2.1=((),(ofStr o,()))/\v.2.2=zak t 256 0/\SetOk t/\o.length+9*zhv t<=9*256) (fun v=>zhv v.1) (fun v=>some (appS v.2.1.2.1 (hasS v.1))) ?_ N (s,(((),([],())),zak s 256 0)) ⟨s,[],rfl,rfl,rfl,hs,by simp only[List.length_nil];omega⟩ (by simp only;omega)).trans (congrArg some (z16e (hasS s)));rintro⟨t',b',l'⟩ r ⟨t,o,e1,e2,e3,ht,ho⟩ hr;simp only at e1 e2 e3;subst e1 e2 e3;simp only;rw[zbt,zy1];rcases zes t' 256 0 with⟨c,h1,h2,h3,h4,h5⟩|⟨h1,h2⟩
 . obtain⟨t2,q1,q2,x,q3,q4,q5⟩:=zyp hN ht ho (c:=c) (by omega) h4 (fun i hi=>h5 i (by omega) hi) (fun s1 out1=>(z1c N s1).bind fun y=>r (s1,out1,y));rw[h3,z29 (decide_eq_true (by omega)),q5,zkb (by omega) q1,Option.bind_some,hr _ ⟨t2,o++x,rfl,rfl,rfl,q1,by rw[List.length_append];omega⟩ (by simp only;omega)];simp only;rw[zy1,q4,List.append_assoc]
 . have hz:=zjt (f:=hasS t') 256 0 (by omega) (fun i g1 g2=>h2 i g1 (by omega));rw[Nat.zero_add] at hz;rw[h1,z6t (decide_eq_false (by omega)),hz,zpp (Nat.le_refl _),List.append_nil];exact str14 N (by omega)
theorem z1mt (N:Nat):z1w (N+300) 0 255=some [18446744073709551615,18446744073709551615,18446744073709551615,18446744073709551615]:=by kernel_rfl
theorem z11d (N:Nat):z3l (N+300) ([(48:UInt8),(49:UInt8),(50:UInt8),(51:UInt8),(52:UInt8),(53:UInt8),(54:UInt8),(55:UInt8),(56:UInt8),(57:UInt8)]:List UInt8)=some [287948901175001088,0,0,0]:=by kernel_rfl
theorem z1bs:SetOk [18446744073709551615,18446744073709551615,18446744073709551615,18446744073709551615]:=⟨_,_,_,_,rfl,zjy,zjy,zjy,zjy⟩
theorem zxg:((List.range 256).all fun b=>hasS [18446744073709551615,18446744073709551615,18446744073709551615,18446744073709551615] b)=true:=by decide +kernel
theorem zqz {f:Nat->Bool}:∀ n,cnt f n=n->∀ i,i<n->f i=true
 | 0,_,i,h=>by omega
 | n + 1,h,i,hi=>by
   rw[cnt] at h;have h1:=z13g f n;have h2:(f n).toNat<=1:=by cases f n<;>decide
   by_cases e:i=n
   . subst e;cases hf:f i with
     | true=>rfl
     | false=>rw[hf] at h;simp at h;omega
   . exact zqz n (by omega) i (by omega)
theorem z13h {f:Nat->Bool}:∀ n,(∀ i,i<n->f i=true)->cnt f n=n
 | 0,_=>rfl
 | n+1,h=>by rw[cnt,z13h n (fun i hi=>h i (by omega)),h n (by omega)];rfl
theorem zxn {s:List Int}(hs:SetOk s):s=[18446744073709551615,18446744073709551615,18446744073709551615,18446744073709551615] ↔ zhv s=256:=by
 constructor
 . rintro rfl;exact z13h 256 (fun i hi=>zft zxg hi)
 . intro h;exact zef hs z1bs (fun b hb=>by rw[zqz 256 h b hb,zft zxg hb])
theorem z113 {N:Nat}(hN:300<=N){s:List Int}(hs:SetOk s):zby N s=some (zyn s):=by
 have hc:=zus s;have hrl:(RT (hasS s) 0).length<=9*257:=z143 _ _ _;have hrn:=z10x hN hs;obtain⟨k,rfl⟩:∃ k,N=k+300:=⟨N - 300,by omega⟩
 rw[zby,zz2 (by omega) hs,Option.bind_some];unfold zyn;by_cases h1:zhv s=1
 . rw[z29 (beq_iff_eq.2 (by omega)),if_pos h1,zkb (by omega) hs,Option.bind_some];rcases zes s 256 0 with⟨c,h2,h3,h4,h5,h6⟩|⟨h2,h3⟩
   . rw[h4,z106 (by omega),z13o _ (by omega),Option.bind_some,Int.toNat_natCast]
   . exfalso;have hl:=zit s 256 0;simp only[Nat.zero_add] at hl;have hz:(zkv s 256 0).length=1:=hl.trans h1;obtain⟨c,hcl⟩:=List.length_eq_one_iff.1 hz;have hm:=(zgu s 256 0 c).1 (by rw[hcl];exact List.mem_singleton.2 rfl);rw[h3 c (by omega) (by omega)] at hm;exact absurd hm.2.2 (by decide)
 rw[z6t (beq_eq_false_iff_ne.2 (by omega)),if_neg h1,z1mt,Option.bind_some,zlg];by_cases h256:zhv s=256
 . rw[decide_eq_true ((zxn hs).2 h256),cond_true,if_pos h256]
 rw[decide_eq_false (fun e=>h256 ((zxn hs).1 e)),cond_false,if_neg h256,z11d,Option.bind_some,zlg];by_cases hd:s=[287948901175001088,0,0,0]
 . rw[decide_eq_true hd,cond_true,if_pos hd]
 rw[decide_eq_false hd,cond_false,if_neg hd];refine (congrArg (fun o:Option (List Int)=>o.bind _) (show z3l (k+300) _=some [287948901175001088,576460745995190270,0,0] by kernel_rfl)).trans ?_;rw[Option.bind_some,zlg];by_cases hw:s=[287948901175001088,576460745995190270,0,0]
 . rw[decide_eq_true hw,cond_true,if_pos hw]
 rw[decide_eq_false hw,cond_false,if_neg hw,zlg];by_cases h0:zhv s=0
 . rw[decide_eq_true (zxx hs h0),cond_true,if_pos h0]
 . have hne:s≠[0,0,0,0]:=fun e=>h0 (by rw[e];exact z13c (s:=s))
   rw[decide_eq_false hne,cond_false,if_neg h0,hrn,Option.bind_some,z29 (decide_eq_true (by omega)),z29 (decide_eq_true (by simp only[List.length_append,List.length_cons,List.length_nil];omega))]
end
end Go.Proofs.YthgcpalmjcomlaaDoorLg
set_option linter.all false
set_option maxRecDepth 100000
namespace Go.Proofs.YthgcpalmjcomlaaDoorLg
noncomputable section
open Go Go.Lift Go.Proofs.YthgcpalmjcomlaaDoorPx
def zuk (n:Nat):List UInt8:=if n<10 then [UInt8.ofNat (48+n)] else [UInt8.ofNat (48+n / 10),UInt8.ofNat (48+n % 10)]
def zbb (lo hi:Int):List UInt8 :=
 if lo=0/\hi=-1 then [42] else if lo=1/\hi=-1 then [43] else if lo=0/\hi=1 then [63] else if hi=lo then [123]++zuk lo.toNat++[125] else if hi=-1 then [123]++zuk lo.toNat++[44,125] else
 [123]++zuk lo.toNat++[44]++zuk hi.toNat++[125]
theorem zyr (N:Nat):((List.range 17).all fun lo=>(List.range 18).all fun h=>z9f (N+20) (lo:Int) ((h:Int) - 1) == some (zbb (lo:Int) ((h:Int) - 1)))=true:=by kernel_rfl
theorem zuf {N:Nat}(hN:20<=N){lo hi:Int}(h:zkj lo hi=true):z9f N lo hi=some (zbb lo hi):=by
 obtain⟨k,rfl⟩:∃ k,N=k+20:=⟨N - 20,by omega⟩
 unfold zkj at h;rw[decide_eq_true_eq] at h;obtain⟨a,rfl⟩:∃ a:Nat,lo=(a:Int):=⟨lo.toNat,by omega⟩
 obtain⟨b,rfl⟩:∃ b:Nat,hi=(b:Int) - 1:=⟨(hi+1).toNat,by omega⟩
 have h1:=zft (zyr k) (b:=a) (by omega);exact beq_iff_eq.1 (zft h1 (b:=b) (by omega))
theorem zwq (n:Nat):(zuk n).length<=2:=by unfold zuk;split<;>simp
theorem zru (lo hi:Int):(zbb lo hi).length<=7:=by
 have h1:=zwq lo.toNat;have h2:=zwq hi.toNat;unfold zbb;split
 . simp
 . split
   . simp
   . split
     . simp
     . split
       . simp only[List.length_append,List.length_cons,List.length_nil];omega
       . split<;>simp only[List.length_append,List.length_cons,List.length_nil]<;>omega
def zal (k kk:Int):Bool:=decide ((k=2/\kk=3)\/(k=4/\kk≠1))
theorem zyz (N:Nat) (a b:Int) (r s:List Int×(List Tree×(Int×(Int×Unit)))):z26 N (a,r) (b,s)=some (zal a b):=by
 unfold z26 zal;simp only[Bool.cond_eq_ite,beq_iff_eq];by_cases h2:a=2
 . rw[if_pos h2];by_cases h3:b=3
   . rw[if_pos h3,decide_eq_true (.inl ⟨h2,h3⟩)]
   . rw[if_neg h3,if_neg (by omega),decide_eq_false (by omega)]
 . rw[if_neg h2];by_cases h4:a=4
   . rw[if_pos h4];congr 1;by_cases h1:b=1
     . rw[h1,decide_eq_false (by omega)];rfl
     . rw[decide_eq_true (.inr ⟨h4,h1⟩)];exact bne_iff_ne.2 h1
   . rw[if_neg h4,decide_eq_false (by omega)]
theorem z12y (N:Nat)(n k:NodT.den):z26 N n k=some (zal n.1 k.1):=zyz N n.1 k.1 n.2 k.2
def zoi (e:Bool)(s:List UInt8):List UInt8:=if e=true then [40]++s++[41] else s
def zpn (k:Int)(i:Nat):List UInt8:=if k=3/\0<i then [124] else []
def z12t (k:Int)(st:List Int)(lo hi:Int):List UInt8:=if k=1 then zyn st else if k=4 then zbb lo hi else []
mutual
def zbd:Tree->List UInt8
 | .mk k st ks lo hi=>zfv ks k 0++z12t k st lo hi
def zfv:List Tree->Int->Nat->List UInt8
 | [],_,_=>[]
 | x::xs,k,i=>zpn k i++(zoi (zal k (z2b x)) (zbd x)++zfv xs k (i+1))
end
mutual
def zja:Tree->Nat
 | .mk k _ ks _ _=>zjc ks k
def zjc:List Tree->Int->Nat
 | [],_=>0
 | x::xs,k=>max (zja x+(zal k (z2b x)).toNat) (zjc xs k)
end
theorem z16b (k:Int)(i:Nat):(zpn k i).length<=1:=by unfold zpn;split<;>simp
theorem z162 (k:Int)(st:List Int)(lo hi:Int):(z12t k st lo hi).length<=2400:=by
 have:=z14w st;have:=zru lo hi;unfold z12t;split
 . omega
 . split
   . omega
   . simp
end
end Go.Proofs.YthgcpalmjcomlaaDoorLg
set_option linter.all false
set_option maxRecDepth 100000
namespace Go.Proofs.YthgcpalmjcomlaaDoorLg
noncomputable section
open Go Go.Lift Go.Proofs.YthgcpalmjcomlaaDoorPx
abbrev PSt:=List UInt8×(Int×(Int×Unit))
@[reducible] def pst (s:List UInt8) (a o:Nat):PSt:=(s,((a:Int),((o:Int),())))
def okP {α β:Type}(s:List UInt8)(o:Nat)(f:α->β):PR α->Option (β×(PSt×Unit))
 | .ok x a=>some (f x,(pst s a o,()))
 | .bad ..=>none
def zd5 {α:Type}:PR α->Option (Int×(Int×Unit))
 | .bad e a=>some (e,((a:Int),()))
 | .ok ..=>none
theorem zi0 {a:Nat}(h:a<=100000):IntKind.wrap .i64 ((a:Int)+1)=((a+1:Nat):Int):=by
 rw[show ((a:Int)+1)=((a+1:Nat):Int) from rfl];exact z5p (by unfold I64;omega)
theorem ze9 (s:List UInt8)(a:Nat):(((UInt8.toNat (List.getD s (Int.toNat (a:Int)) (0:UInt8))):Nat):Int)=(gb s a:Int):=by rw[Int.toNat_natCast];rfl
theorem zsl (s:List UInt8)(a:Nat):gb s a<256:=(s.getD a 0).toNat_lt
theorem eqI (a b:Nat):(((a:Int)) == (b:Int))=decide (a=b):=by
 by_cases h:a=b
 . subst h;simp
 . rw[decide_eq_false h];simp;omega
theorem ze8 {s:List UInt8}{a:Nat}(h:a<s.length):inR (a:Int) s.length=true:=zcq h
theorem zht (N:Nat){s:List UInt8}{a:Nat}(o:Nat)(ha:a<=s.length) :
 z14 N (pst s a o)=okP s o (fun b:Nat=>(b:Int)) (z8k s a)/\z1i N (pst s a o)=zd5 (z8k s a):=by
 unfold z14 z80 z1i z50 pst z8k;dsimp only;rw[eqI];rcases Nat.lt_or_ge a s.length with h|h
 . rw[decide_eq_false (by omega),if_pos h];simp only[cond_false];rw[ze8 h,ze9];exact⟨rfl,rfl⟩
 . have e:a=s.length:=by omega
   rw[decide_eq_true e,if_neg (by omega)];subst e;exact⟨rfl,rfl⟩
theorem zkm (N:Nat){s:List UInt8}{a:Nat}(o b:Nat)(ha:a<=s.length)(hs:s.length<=256) :
 zu N (pst s a o) (b:Int)=some (isB s a b,(pst s (cond (isB s a b) (a+1) a) o,())):=by
 unfold zu z7w z7v pst isB;dsimp only;rw[eqI];rcases Nat.lt_or_ge a s.length with h|h
 . rw[decide_eq_false (by omega),decide_eq_true h];simp only[cond_false,Bool.true_and];rw[ze8 h,ze9,zi0 (by omega)];simp only[cond_true,bne,eqI];by_cases hb:gb s a=b
   . rw[decide_eq_true hb];simp[hb]
   . rw[decide_eq_false hb];have h2:(gb s a == b)=false:=by simpa using hb
     simp[h2]
 . have e:a=s.length:=by omega
   rw[decide_eq_true e,decide_eq_false (by omega)];rfl
theorem zmk (N:Nat){s:List UInt8}{a:Nat}(o b:Nat)(ha:a<=s.length)(hs:s.length<=256) :
 zw N (pst s a o) (b:Int)=okP s o (fun _:Unit=>()) (zco s a b)/\z15 N (pst s a o) (b:Int)=zd5 (zco s a b):=by
 unfold zw z81 z15 z54 zco;rw[(zht N o ha).1,(zht N o ha).2];cases h:z8k s a with
 | bad e c=>exact⟨rfl,rfl⟩
 | ok x c =>
   obtain⟨h1,rfl,rfl⟩:=zaq h;simp only[okP,zd5,PR.next,Option.bind_some,orP,bne,eqI,pst];by_cases hb:gb s c=b
   . rw[decide_eq_true hb,if_pos hb,zi0 (by omega)];exact⟨rfl,rfl⟩
   . rw[decide_eq_false hb,if_neg hb];exact⟨rfl,rfl⟩
theorem zkd (N b:Nat):z4w N (b:Int)=some (zib b):=by
 unfold z4w zib;by_cases h:48<=b
 . rw[decide_eq_true (by omega),decide_eq_true h];simp only[cond_true,Bool.true_and];congr 1;exact decide_eq_decide.2 (by omega)
 . rw[decide_eq_false (by omega),decide_eq_false h];rfl
theorem zyd {x:Int}(h:0<=x)(h2:x<256):IntKind.wrap .u8 x=x:=by
 show x % 256=x;omega
theorem z1i0 (N:Nat) {s:List UInt8} {a:Nat} (o fr:Nat) (ha:a<=s.length) (hs:s.length<=256) :
 z3c N (pst s a o) (fr:Int)=okP s o (fun b:Nat=>(b:Int)) (zth s fr a)/\z38 N (pst s a o) (fr:Int)=zd5 (zth s fr a):=by
 unfold z3c z38 zth;rw[(zht N o ha).1,(zht N o ha).2];cases h:z8k s a with
 | bad e c=>exact⟨rfl,rfl⟩
 | ok x c =>
   obtain⟨h1,rfl,rfl⟩:=zaq h;have hl:=zsl s c;simp only[okP,zd5,PR.next,Option.bind_some,orP,zkd,pst];cases hd:zib (gb s c) with
   | true =>
     have hd':48<=gb s c/\gb s c<=57:=by simpa[zib] using hd
     simp only[cond_true,if_true];rw[zi0 (by omega),zyd (by omega) (by omega),show ((gb s c:Int) - 48)=((gb s c - 48:Nat):Int) by omega];exact⟨rfl,by first|rfl|trivial⟩
   | false =>
     simp only[cond_false,Bool.false_eq_true,if_false];unfold z8v z8u z5y z5x;by_cases h2:97<=gb s c/\gb s c<=102
     . rw[if_pos h2,decide_eq_false (by omega),decide_eq_false (by omega)];simp only[cond_false];rw[zi0 (by omega),zyd (x:=(gb s c:Int) - 97) (by omega) (by omega),zyd (by omega) (by omega),show ((gb s c:Int) - 97+10)=((gb s c - 87:Nat):Int) by omega];exact⟨rfl,by first|rfl|trivial⟩
     . rw[if_neg h2];by_cases h3:(gb s c:Int)<97
       . rw[decide_eq_true h3];exact⟨rfl,rfl⟩
       . rw[decide_eq_false h3,decide_eq_true (show (102:Int)<gb s c by omega)];exact⟨rfl,rfl⟩
theorem zgb {N b:Nat}(hb:b<256)(hN:257<N):z1w N (b:Int) (b:Int)=some (z9e b):=by
 rw[z11g N hb hb hN,Nat.add_sub_cancel_left];rfl
theorem z12j:((List.range 256).all fun b=>decide (Go.Lib.indexByte ([(92:UInt8),(46:UInt8),(91:UInt8),(93:UInt8),(40:UInt8),(41:UInt8),(123:UInt8),(125:UInt8),(124:UInt8),(42:UInt8),(43:UInt8),(63:UInt8),(45:UInt8),(94:UInt8)]:List UInt8) (Nat.toUInt8 b)<(0:Int)) == !(escapes.contains b))=true:=by kernel_rfl
theorem z1mx {b:Nat}(hb:b<256):decide (Go.Lib.indexByte ([(92:UInt8),(46:UInt8),(91:UInt8),(93:UInt8),(40:UInt8),(41:UInt8),(123:UInt8),(125:UInt8),(124:UInt8),(42:UInt8),(43:UInt8),(63:UInt8),(45:UInt8),(94:UInt8)]:List UInt8) (Nat.toUInt8 (Int.toNat (b:Int)))<(0:Int))=!(escapes.contains b):=by
 have:=List.all_eq_true.1 z12j b (by simpa using hb);rw[Int.toNat_natCast];exact eq_of_beq this
theorem z10r:((List.range 256).all fun b=>decide ((0:Int)<=Go.Lib.indexByte ([(92:UInt8),(46:UInt8),(91:UInt8),(93:UInt8),(40:UInt8),(41:UInt8),(123:UInt8),(125:UInt8),(124:UInt8),(42:UInt8),(43:UInt8),(63:UInt8)]:List UInt8) (Nat.toUInt8 b)) == specials.contains b)=true:=by kernel_rfl
theorem z175 {b:Nat}(hb:b<256):decide ((0:Int)<=Go.Lib.indexByte ([(92:UInt8),(46:UInt8),(91:UInt8),(93:UInt8),(40:UInt8),(41:UInt8),(123:UInt8),(125:UInt8),(124:UInt8),(42:UInt8),(43:UInt8),(63:UInt8)]:List UInt8) (Nat.toUInt8 (Int.toNat (b:Int))))=specials.contains b:=by
 have:=List.all_eq_true.1 z10r b (by simpa using hb);rw[Int.toNat_natCast];exact eq_of_beq this
theorem z11s:((List.range 16).all fun h=>(List.range 16).all fun l=>Go.Lift.bitsOp Go.BinOp.or Go.IntKind.u8 (Go.Lift.shlI Go.IntKind.u8 (h:Int) (4:Int)) (l:Int) == ((16*h+l:Nat):Int))=true:=by kernel_rfl
theorem z1hi {h l:Nat}(hh:h<16)(hl:l<16):Go.Lift.bitsOp Go.BinOp.or Go.IntKind.u8 (Go.Lift.shlI Go.IntKind.u8 (h:Int) (4:Int)) (l:Int)=((16*h+l:Nat):Int):=by
 have:=List.all_eq_true.1 (List.all_eq_true.1 z11s h (by simpa using hh)) l (by simpa using hl);exact eq_of_beq this
theorem zx7 {s:List UInt8}{fr a x b:Nat}(h:zth s fr a=.ok x b):x<16:=by
 unfold zth at h;cases hn:z8k s a with
 | bad e c=>rw[hn] at h;cases h
 | ok y c =>
   rw[hn] at h;simp only[PR.next] at h;split at h
   . rename_i hd;cases h;simp[zib] at hd;omega
   . split at h
     . cases h;omega
     . cases h
def sgF (r:Sg):List Int×(Bool×Unit):=(r.1,(r.2.1,()))
theorem z1k {α:Type}{s:List UInt8}{a x:Nat}{r:PR α}{y:α}(h:Ahead s a r)(e:r=.ok y x):a<=x/\x<=s.length:=by rw[e] at h;exact h
theorem z1bv (N:Nat) {s:List UInt8} {a:Nat} (o:Nat) (ha:a<s.length) (hb:gb s a=92) (hs:s.length<=256) (hN:300<=N) :
 z21 N (pst s a o)=okP s o sgF (zqm s a)/\z28 N (pst s a o)=zd5 (zqm s a):=by
 have hneed:zco s a 92=.ok () (a+1):=by
  unfold zco z8k;rw[if_pos ha];simp only[PR.next,hb,if_true]
 unfold z21 z28 zqm;have q:=zmk N o 92 (Nat.le_of_lt ha) hs;rw[hneed] at q;rw[show (92:Int)=((92:Nat):Int) from rfl,q.1,q.2];simp only[okP,zd5,Option.bind_some,orP];rw[(zht N o (show a+1<=s.length by omega)).1,(zht N o (show a+1<=s.length by omega)).2];cases h:z8k s (a+1) with
 | bad e c=>exact⟨rfl,rfl⟩
 | ok x c =>
   obtain⟨h1,rfl,rfl⟩:=zaq h;have hl:=zsl s (a+1);simp only[okP,zd5,Option.bind_some,orP,PR.next,pst];unfold z6l z4k;rw[zi0 (by omega)];simp only[show (100:Int)=((100:Nat):Int) from rfl,show (119:Int)=((119:Nat):Int) from rfl,show (120:Int)=((120:Nat):Int) from rfl,eqI];by_cases e1:gb s (a+1)=100
   . rw[decide_eq_true e1,if_pos e1];simp only[cond_true];rw[show (48:Int)=((48:Nat):Int) from rfl,show (57:Int)=((57:Nat):Int) from rfl,z11g N (by omega) (by omega) (by omega)];exact⟨rfl,rfl⟩
   rw[decide_eq_false e1,if_neg e1];simp only[cond_false];by_cases e2:gb s (a+1)=119
   . rw[decide_eq_true e2,if_pos e2];simp only[cond_true];have ht:=z14r N zbp (by decide) (by simp[zbp];omega);unfold zbp at ht;rw[ht];exact⟨rfl,rfl⟩
   rw[decide_eq_false e2,if_neg e2];simp only[cond_false];by_cases e3:gb s (a+1)=120
   . rw[decide_eq_true e3,if_pos e3];simp only[cond_true];have q:=z1i0 N o a (show a+1+1<=s.length by omega) hs;unfold pst at q;rw[q.1,q.2,show a+2=a+1+1 from rfl];cases hx:zth s a (a+1+1) with
     | bad e c=>exact⟨rfl,rfl⟩
     | ok x c =>
       have hc:=z1k (zmr (Nat.le_of_lt ha) (a+1+1)) hx;have hx16:=zx7 hx;simp only[okP,zd5,Option.bind_some,orP,PR.next];have q:=z1i0 N o a hc.2 hs;rw[q.1,q.2];cases hy:zth s a c with
       | bad e d=>exact⟨rfl,rfl⟩
       | ok y d =>
         have hy16:=zx7 hy;simp only[okP,zd5,Option.bind_some,orP,PR.next];rw[z1hi hx16 hy16,zgb (by omega) (by omega)];exact⟨rfl,rfl⟩
   rw[decide_eq_false e3,if_neg e3,z1mx hl];simp only[cond_false];cases e4:escapes.contains (gb s (a+1)) with
   | true =>
     simp only[Bool.not_true,cond_false,if_true];rw[zgb hl (by omega)];exact⟨rfl,rfl⟩
   | false=>exact⟨rfl,rfl⟩
theorem zwi (N:Nat){s:List UInt8}{a:Nat}(o:Nat)(ha:a<=s.length)(hs:s.length<=256)(hN:300<=N) :
 z2u N (pst s a o)=okP s o sgF (zgh s a)/\z2t N (pst s a o)=zd5 (zgh s a):=by
 unfold z2u z2t zgh;rw[(zht N o ha).1,(zht N o ha).2];cases h:z8k s a with
 | bad e c=>exact⟨rfl,rfl⟩
 | ok x c =>
   obtain⟨h1,rfl,rfl⟩:=zaq h;have hl:=zsl s c;simp only[okP,zd5,Option.bind_some,orP,PR.next];unfold z7y z4z z7x z4y;simp only[show (92:Int)=((92:Nat):Int) from rfl,show (91:Int)=((91:Nat):Int) from rfl,show (93:Int)=((93:Nat):Int) from rfl,show (45:Int)=((45:Nat):Int) from rfl,show (94:Int)=((94:Nat):Int) from rfl,eqI];by_cases e1:gb s c=92
   . rw[decide_eq_true e1,if_pos e1];simp only[cond_true];have q:=z1bv N o h1 e1 hs hN;rw[q.1,q.2];cases hx:zqm s c with
     | bad e d=>exact⟨rfl,rfl⟩
     | ok x d=>exact⟨rfl,rfl⟩
   rw[decide_eq_false e1,if_neg e1];simp only[cond_false];by_cases f1:gb s c=91
   . rw[decide_eq_true f1,if_pos (by simp[f1])];exact⟨rfl,rfl⟩
   rw[decide_eq_false f1];by_cases f2:gb s c=93
   . rw[decide_eq_true f2,if_pos (by simp[f2])];exact⟨rfl,rfl⟩
   rw[decide_eq_false f2];by_cases f3:gb s c=45
   . rw[decide_eq_true f3,if_pos (by simp[f3])];exact⟨rfl,rfl⟩
   rw[decide_eq_false f3];by_cases f4:gb s c=94
   . rw[decide_eq_true f4,if_pos (by simp[f4])];exact⟨rfl,rfl⟩
   rw[decide_eq_false f4,if_neg (by simp[f1,f2,f3,f4])];simp only[cond_false];rw[zgb hl (by omega)];try unfold pst
   try simp only
   rw[zi0 (by omega)];exact⟨rfl,rfl⟩
theorem z4_ok:SetOk z4:=z5a
theorem zfz {b:Nat}(hb:b<256):SetOk (z9e b):=zuh 1 b z5a (by omega)
theorem zsb {b:Nat}(hb:b<256):zak (z9e b) 256 0=(b:Int):=by
 have hh:∀ c,c<256->hasS (z9e b) c=decide (b=c):=by
  intro c hc;unfold z9e z4;rw[zxe 1 b z5a (by omega) hc,zbl];simp only[Bool.false_or];exact decide_eq_decide.2 (by omega)
 refine zli (c:=b) (by rw[hh b hb];simp) 256 0 (Nat.zero_le _) (by omega) (fun i _ hi=>?_);rw[hh i (by omega)];exact decide_eq_false (by omega)
theorem zko {N b:Nat}(hb:b<256)(hN:5<=N):z1c N (z9e b)=some (b:Int):=by
 obtain⟨k,rfl⟩:∃ k,N=k+5:=⟨N - 5,by omega⟩
 rw[zxo k (zfz hb),zsb hb]
def SgOk (r:Sg):Prop:=SetOk r.1/\(r.2.1=false->r.1=z9e r.2.2/\r.2.2<256)
theorem z13b:SetOk (ofS 10 48 z4):=zuh 10 48 z5a (by omega)
theorem z14j:SetOk (z1dg zbp z4):=z178 zbp z5a
theorem z17s {s:List UInt8} {a:Nat} {r:Sg} {b:Nat} (h:zqm s a=.ok r b):SgOk r:=by
 unfold zqm at h;cases hn:z8k s (a+1) with
 | bad e c=>rw[hn] at h;cases h
 | ok y c =>
   obtain⟨_,rfl,rfl⟩:=zaq hn;have hl:=zsl s (a+1);rw[hn] at h;simp only[PR.next] at h;split at h
   . cases h;exact⟨z13b,fun h=>by cases h⟩
   split at h
   . cases h;exact⟨z14j,fun h=>by cases h⟩
   split at h
   . cases hx:zth s a (a+2) with
     | bad e c=>rw[hx] at h;cases h
     | ok x c =>
       rw[hx] at h;simp only at h;cases hy:zth s a c with
       | bad e c=>rw[hy] at h;cases h
       | ok y d =>
         rw[hy] at h;simp only at h;cases h;have:=zx7 hx;have:=zx7 hy;exact⟨zfz (by omega),fun _=>⟨rfl,by show 16*x+y<256;omega⟩⟩
   split at h
   . cases h;exact⟨zfz hl,fun _=>⟨rfl,hl⟩⟩
   . cases h
theorem zpw {s:List UInt8}{a:Nat}{r:Sg}{b:Nat}(h:zgh s a=.ok r b):SgOk r:=by
 unfold zgh at h;cases hn:z8k s a with
 | bad e c=>rw[hn] at h;cases h
 | ok y c =>
   obtain⟨_,rfl,rfl⟩:=zaq hn;have hl:=zsl s c;rw[hn] at h;simp only[PR.next] at h;split at h
   . exact z17s h
   split at h
   . cases h
   . cases h;exact⟨zfz hl,fun _=>⟨rfl,hl⟩⟩
theorem zdg {s:List UInt8} {a:Nat} {t:List Int} {b:Nat} (h:ze5 s a=.ok t b):SetOk t:=by
 unfold ze5 at h;cases hn:zgh s a with
 | bad e c=>rw[hn] at h;cases h
 | ok r c =>
   have h1:=zpw hn;rw[hn] at h;simp only[PR.next] at h;split at h
   . cases h;exact h1.1
   . rename_i hc;cases hm:zgh s (c+1) with
     | bad e d=>rw[hm] at h;cases h
     | ok q d =>
       have h2:=zpw hm;rw[hm] at h;simp only at h;split at h
       . cases h
       . rename_i hd;cases h;simp at hc hd;have e1:=h1.2 hc.1;have e2:=h2.2 hd.1;exact zuh _ _ z5a (by omega)
theorem zsj (N:Nat) {s:List UInt8} {a:Nat} (o:Nat) (ha:a<=s.length) (hs:s.length<=256) (hN:300<=N) :
 z2x N (pst s a o)=okP s o id (ze5 s a)/\z2w N (pst s a o)=zd5 (ze5 s a):=by
 unfold z2x z2w ze5;rw[(zwi N o ha hs hN).1,(zwi N o ha hs hN).2];cases h:zgh s a with
 | bad e c=>exact⟨rfl,rfl⟩
 | ok r c =>
   have hg:=zpw h;have hc:=z1k (zgy s a) h;simp only[okP,zd5,Option.bind_some,orP,PR.next];unfold z85 z84 z58 z57 z83 z82 z56 z55;obtain⟨st,cls,v⟩:=r;simp only[sgF];cases cls with
   | true=>exact⟨rfl,rfl⟩
   | false =>
     simp only[cond_false,Bool.false_or];obtain⟨e1,hv⟩:=hg.2 rfl;simp only at e1 hv;rw[show (45:Int)=((45:Nat):Int) from rfl,zkm N o 45 hc.2 hs];cases hb:isB s c 45 with
     | false=>exact⟨rfl,rfl⟩
     | true =>
       simp only[Option.bind_some,Bool.not_true,cond_true,cond_false,Bool.false_eq_true,if_false];have hlt:c+1<=s.length:=by simp[isB] at hb;omega
       rw[(zwi N o hlt hs hN).1,(zwi N o hlt hs hN).2];cases h2:zgh s (c+1) with
       | bad e d=>exact⟨rfl,rfl⟩
       | ok q d =>
         have hg2:=zpw h2;obtain⟨st2,cls2,v2⟩:=q;simp only[okP,zd5,Option.bind_some,orP,sgF];cases cls2 with
         | true=>exact⟨rfl,rfl⟩
         | false =>
           obtain⟨e2,hv2⟩:=hg2.2 rfl;simp only at e2 hv2;subst e1;subst e2;simp only[cond_false,Bool.false_or];rw[zko hv (by omega),zko hv2 (by omega)];simp only[Option.bind_some];by_cases hlt2:v2<v
           . rw[decide_eq_true hlt2,decide_eq_true (show (v2:Int)<v by omega)];exact⟨rfl,rfl⟩
           . rw[decide_eq_false hlt2,decide_eq_false (show ¬ (v2:Int)<v by omega)];simp only[cond_false];rw[zyd (x:=(v:Int)) (by omega) (by omega),zyd (x:=(v2:Int)) (by omega) (by omega),z11g N hv hv2 (by omega)];exact⟨rfl,rfl⟩
theorem z17b {N:Nat}(hN:5<=N){s t:List Int}(hs:SetOk s)(ht:SetOk t):z9v N s t=some (orS s t):=by
 obtain⟨k,rfl⟩:∃ k,N=k+5:=⟨N - 5,by omega⟩
 exact or_eq k hs ht
theorem z19r {N:Nat}(hN:5<=N){s:List Int}(hs:SetOk s):z7b N s=some (ztg s):=by
 obtain⟨k,rfl⟩:∃ k,N=k+5:=⟨N - 5,by omega⟩
 exact z1hg k hs
theorem zqr {s:List UInt8}:∀ (k a:Nat) {acc t:List Int} {b:Nat},SetOk acc->z79 s k a acc=.ok t b->SetOk t
 | 0,a,acc,t,b,ha,h=>by cases h
 | k + 1,a,acc,t,b,ha,h=>by
   unfold z79 at h;split at h
   . cases h;exact ha
   . cases hi:ze5 s a with
     | bad e c=>rw[hi] at h;cases h
     | ok u c =>
       rw[hi] at h;exact zqr k c (z11f ha (zdg hi)) h
theorem zpe (N:Nat) {s:List UInt8} (o:Nat) (hs:s.length<=256) (hN:300<=N) (x2:List Int) (nt:Bool) (k0:PSt->List Int->Option (List Int×(PSt×Unit))):∀ (k N' a:Nat) (acc:List Int),k<=N'->a<=s.length->s.length<a+k->SetOk acc →
 iter (fun (v:(PSt×(List Int))) r=>z3w N x2 nt v.1 v.2 (fun p set_=>(r (p,set_))) k0) N' (pst s a o,acc)=match z79 s k a acc with | .ok t b=>k0 (pst s b o) t | .bad ..=>none
 | 0,N',a,acc,h1,h2,h3,h4=>by omega
 | k + 1,N',a,acc,h1,h2,h3,h4=>by
   obtain⟨M,rfl⟩:∃ M,N'=M+1:=⟨N' - 1,by omega⟩
   simp only[iter,z79];unfold z3w;dsimp only;rw[show (93:Int)=((93:Nat):Int) from rfl,zkm N o 93 h2 hs];cases hb:isB s a 93 with
   | true=>rfl
   | false =>
     simp only[Option.bind_some,Bool.not_false,cond_true,cond_false,Bool.false_eq_true,if_false];rw[(zsj N o h2 hs hN).1];cases hi:ze5 s a with
     | bad e c=>rfl
     | ok t c =>
       have hc:=z1k (z9t s a) hi;simp only[okP,Option.bind_some,PR.next,id];rw[z17b (by omega) h4 (zdg hi)];simp only[Option.bind_some];exact zpe N o hs hN x2 nt k0 k M c _ (by omega) hc.2 (by omega) (z11f h4 (zdg hi))
theorem zmp (N:Nat) {s:List UInt8} (o:Nat) (hs:s.length<=256) (hN:300<=N) (x2:List Int) (nt:Bool) (k0:(Int×(Int×Unit))->Option (Int×(Int×Unit))) (k1:PSt->List Int->Option (Int×(Int×Unit))):∀ (k N' a:Nat) (acc:List Int),k<=N'->a<=s.length->s.length<a+k->SetOk acc →
 iter (fun (v:(PSt×(List Int))) r=>z2z N x2 nt v.1 v.2 (fun p set_=>(r (p,set_))) k0 k1) N' (pst s a o,acc)=match z79 s k a acc with | .ok t b=>k1 (pst s b o) t | .bad e c=>k0 (e,((c:Int),()))
 | 0,N',a,acc,h1,h2,h3,h4=>by omega
 | k + 1,N',a,acc,h1,h2,h3,h4=>by
   obtain⟨M,rfl⟩:∃ M,N'=M+1:=⟨N' - 1,by omega⟩
   simp only[iter,z79];unfold z2z;dsimp only;rw[show (93:Int)=((93:Nat):Int) from rfl,zkm N o 93 h2 hs];cases hb:isB s a 93 with
   | true=>rfl
   | false =>
     simp only[Option.bind_some,Bool.not_false,cond_true,cond_false,Bool.false_eq_true,if_false];rw[(zsj N o h2 hs hN).1,(zsj N o h2 hs hN).2];cases hi:ze5 s a with
     | bad e c=>rfl
     | ok t c =>
       have hc:=z1k (z9t s a) hi;simp only[okP,zd5,orP,Option.bind_some,PR.next,id];rw[z17b (by omega) h4 (zdg hi)];simp only[Option.bind_some];exact zmp N o hs hN x2 nt k0 k1 k M c _ (by omega) hc.2 (by omega) (z11f h4 (zdg hi))
theorem zun {s:List UInt8}{a b:Nat}(ha:a<s.length)(hb:gb s a=b):zco s a b=.ok () (a+1):=by
 unfold zco z8k;rw[if_pos ha];simp only[PR.next,hb,if_true]
theorem zpm (N:Nat) {s:List UInt8} {a:Nat} (o:Nat) (ha:a<s.length) (hb:gb s a=91) (hs:s.length<=256) (hN:300<=N) :
 z2y N (pst s a o)=okP s o id (zba s (a+1))/\z2g N (pst s a o)=zd5 (zba s (a+1)):=by
 unfold z2y z2g zba;have q:=zmk N o 91 (Nat.le_of_lt ha) hs;rw[zun ha hb] at q;rw[show (91:Int)=((91:Nat):Int) from rfl,q.1,q.2];simp only[okP,zd5,orP,Option.bind_some];rw[show (94:Int)=((94:Nat):Int) from rfl,zkm N o 94 (show a+1<=s.length by omega) hs];simp only[Option.bind_some];have e:(cond (isB s (a+1) 94) (a+1+1) (a+1))=(if isB s (a+1) 94=true then a+1+1 else a+1):=by cases isB s (a+1) 94<;>rfl
 rw[e];have hle:(if isB s (a+1) 94=true then a+1+1 else a+1)<=s.length:=by
  split
  . rename_i h;simp[isB] at h;omega
  . omega
 generalize (if isB s (a+1) 94=true then a+1+1 else a+1)=a1 at hle;rw[(zsj N o hle hs hN).1,(zsj N o hle hs hN).2];cases hi:ze5 s a1 with
 | bad e c=>exact⟨rfl,rfl⟩
 | ok t c =>
   have hc:=z1k (z9t s a1) hi;simp only[okP,zd5,orP,Option.bind_some,PR.next,id];unfold z98 z6p;rw[zpe N o hs hN _ _ _ (s.length+1) N c t (by omega) hc.2 (by omega) (zdg hi),zmp N o hs hN _ _ _ _ (s.length+1) N c t (by omega) hc.2 (by omega) (zdg hi)];cases hm:z79 s (s.length+1) c t with
   | bad e d=>exact⟨rfl,rfl⟩
   | ok acc d =>
     have hk:=zqr _ _ (zdg hi) hm;simp only;cases isB s (a+1) 94 with
     | true =>
       simp only[cond_true,if_true];rw[z19r (by omega) hk];exact⟨rfl,rfl⟩
     | false=>exact⟨rfl,rfl⟩
theorem zwo {v b:Nat}(hv:v<=17)(hb:48<=b)(hb2:b<=57) :
 (if ((17:Int)<(Go.IntKind.wrap Go.IntKind.i64 ((Go.IntKind.wrap Go.IntKind.i64 ((10:Int)*(v:Int)))+(Go.IntKind.wrap Go.IntKind.i64 (Go.IntKind.wrap Go.IntKind.u8 ((b:Int) - (48:Int))))))) then (17:Int) else (Go.IntKind.wrap Go.IntKind.i64 ((Go.IntKind.wrap Go.IntKind.i64 ((10:Int)*(v:Int)))+(Go.IntKind.wrap Go.IntKind.i64 (Go.IntKind.wrap Go.IntKind.u8 ((b:Int) - (48:Int)))))))=((min (10*v+(b - 48)) 17:Nat):Int):=by
 rw[zyd (by omega) (by omega),z5p (x:=(b:Int) - 48) (by unfold I64;omega),z5p (x:=10*(v:Int)) (by unfold I64;omega),z5p (by unfold I64;omega)];split<;>omega
theorem z157 (N:Nat){s:List UInt8}{a v:Nat}(fr:Int)(o:Nat)(hs:s.length<=256)(hv:v<=17)(h:a<s.length)(hd:zib (gb s a)=true)(rec:PSt->Int->Option (Int×(PSt×Unit)))(k0:PSt->Int->Option (Int×(PSt×Unit))) :
 z2q N fr (pst s a o) (v:Int) rec k0=rec (pst s (a+1) o) ((min (10*v+(gb s a - 48)) 17:Nat):Int):=by
 unfold z2q z5r pst;dsimp only;have hd':48<=gb s a/\gb s a<=57:=by simpa[zib] using hd
 rw[decide_eq_true (show (a:Int)<(s.length:Int) by omega),ze8 h,ze9,zkd,hd];simp only[cond_true,Option.bind_some];rw[zi0 (by omega),zwo hv hd'.1 hd'.2]
theorem z154 (N:Nat){s:List UInt8}{a v:Nat}(fr:Int)(o:Nat)(hn:¬ (a<s.length/\zib (gb s a)=true))(rec:PSt->Int->Option (Int×(PSt×Unit)))(k0:PSt->Int->Option (Int×(PSt×Unit))) :
 z2q N fr (pst s a o) (v:Int) rec k0=k0 (pst s a o) (v:Int):=by
 unfold z2q z5r pst;dsimp only;rcases Nat.lt_or_ge a s.length with h|h
 . rw[decide_eq_true (show (a:Int)<(s.length:Int) by omega),ze8 h,ze9,zkd];have hd:zib (gb s a)=false:=by
    cases hd:zib (gb s a) with
    | true=>exact absurd ⟨h,hd⟩ hn
    | false=>rfl
   rw[hd];rfl
 . rw[decide_eq_false (show ¬ (a:Int)<(s.length:Int) by omega)];rfl
theorem zs3 (N:Nat){s:List UInt8}(fr:Int)(o:Nat)(hs:s.length<=256)(k0:PSt->Int->Option (Int×(PSt×Unit))):∀ (k N' a v:Nat),k<=N'->a<=s.length->s.length<a+k->v<=17 →
 iter (fun (v:(PSt×Int)) r=>z2q N fr v.1 v.2 (fun p n=>(r (p,n))) k0) N' (pst s a o,(v:Int))=k0 (pst s (z7d s k a v).2 o) ((z7d s k a v).1:Int)
 | 0,N',a,v,h1,h2,h3,h4=>by omega
 | k + 1,N',a,v,h1,h2,h3,h4=>by
   obtain⟨M,rfl⟩:∃ M,N'=M+1:=⟨N' - 1,by omega⟩
   rw[iter];dsimp only;by_cases hc:a<s.length/\zib (gb s a)=true
   . rw[z157 N fr o hs h4 hc.1 hc.2,zs3 N fr o hs k0 k M (a+1) _ (by omega) (by omega) (by omega) (Nat.min_le_right _ _)]
     conv=>rhs;rw[z7d,if_pos hc]
   . rw[z154 N fr o hc]
     conv=>rhs;rw[z7d,if_neg hc]
theorem z11k (N:Nat){s:List UInt8}{a v:Nat}(fr:Int)(o:Nat)(hs:s.length<=256)(hv:v<=17)(h:a<s.length)(hd:zib (gb s a)=true)(rec:PSt->Int->Option (Int×(Int×Unit)))(k0:PSt->Int->Option (Int×(Int×Unit))) :
 z1s N fr (pst s a o) (v:Int) rec k0=rec (pst s (a+1) o) ((min (10*v+(gb s a - 48)) 17:Nat):Int):=by
 unfold z1s z3y pst;dsimp only;have hd':48<=gb s a/\gb s a<=57:=by simpa[zib] using hd
 rw[decide_eq_true (show (a:Int)<(s.length:Int) by omega),ze8 h,ze9,zkd,hd];simp only[cond_true,Option.bind_some];rw[zi0 (by omega),zwo hv hd'.1 hd'.2]
theorem z11j (N:Nat){s:List UInt8}{a v:Nat}(fr:Int)(o:Nat)(hn:¬ (a<s.length/\zib (gb s a)=true))(rec:PSt->Int->Option (Int×(Int×Unit)))(k0:PSt->Int->Option (Int×(Int×Unit))) :
 z1s N fr (pst s a o) (v:Int) rec k0=k0 (pst s a o) (v:Int):=by
 unfold z1s z3y pst;dsimp only;rcases Nat.lt_or_ge a s.length with h|h
 . rw[decide_eq_true (show (a:Int)<(s.length:Int) by omega),ze8 h,ze9,zkd];have hd:zib (gb s a)=false:=by
    cases hd:zib (gb s a) with
    | true=>exact absurd ⟨h,hd⟩ hn
    | false=>rfl
   rw[hd];rfl
 . rw[decide_eq_false (show ¬ (a:Int)<(s.length:Int) by omega)];rfl
theorem zou (N:Nat){s:List UInt8}(fr:Int)(o:Nat)(hs:s.length<=256)(k0:PSt->Int->Option (Int×(Int×Unit))):∀ (k N' a v:Nat),k<=N'->a<=s.length->s.length<a+k->v<=17 →
 iter (fun (v:(PSt×Int)) r=>z1s N fr v.1 v.2 (fun p n=>(r (p,n))) k0) N' (pst s a o,(v:Int))=k0 (pst s (z7d s k a v).2 o) ((z7d s k a v).1:Int)
 | 0,N',a,v,h1,h2,h3,h4=>by omega
 | k + 1,N',a,v,h1,h2,h3,h4=>by
   obtain⟨M,rfl⟩:∃ M,N'=M+1:=⟨N' - 1,by omega⟩
   rw[iter];dsimp only;by_cases hc:a<s.length/\zib (gb s a)=true
   . rw[z11k N fr o hs h4 hc.1 hc.2,zou N fr o hs k0 k M (a+1) _ (by omega) (by omega) (by omega) (Nat.min_le_right _ _)]
     conv=>rhs;rw[z7d,if_pos hc]
   . rw[z11j N fr o hc]
     conv=>rhs;rw[z7d,if_neg hc]
theorem z156 (N:Nat) {s:List UInt8} {a:Nat} (o:Nat) (ha:a<=s.length) (hs:s.length<=256) (hN:300<=N) :
 z3a N (pst s a o)=okP s o (fun v:Nat=>(v:Int)) (zrm s a)/\z37 N (pst s a o)=zd5 (zrm s a):=by
 unfold z3a z37 z8r z5w zrm;rw[(zht N o ha).1,(zht N o ha).2];cases h:z8k s a with
 | bad e c=>exact⟨rfl,rfl⟩
 | ok x c =>
   obtain⟨h1,rfl,rfl⟩:=zaq h;simp only[okP,zd5,orP,Option.bind_some,PR.next,zkd];cases hd:zib (gb s c) with
   | false=>exact⟨rfl,rfl⟩
   | true =>
     simp only[Bool.not_true,cond_false,if_true];unfold z8q zca z5v z9j;rw[show (0:Int)=((0:Nat):Int) from rfl,zs3 N _ o hs _ (s.length+1) N c 0 (by omega) ha (by omega) (by omega),zou N _ o hs _ (s.length+1) N c 0 (by omega) ha (by omega) (by omega)];generalize hq:z7d s (s.length+1) c 0=q;obtain⟨v,b⟩:=q;unfold z8p z8o z5u z5t;simp only[pst];rw[ze8 h1,ze9];simp only[zi0 (show c<=100000 by omega),cond_true,show (48:Int)=((48:Nat):Int) from rfl,eqI];by_cases h48:gb s c=48
     . rw[decide_eq_true h48];simp only[cond_true];by_cases hb:c+1<b
       . rw[decide_eq_true (show ((c+1:Nat):Int)<(b:Int) by omega),if_pos ⟨h48,hb⟩];exact⟨rfl,rfl⟩
       . rw[decide_eq_false (show ¬ ((c+1:Nat):Int)<(b:Int) by omega),if_neg (fun h=>hb h.2)];simp only[cond_false];by_cases hv:16<v
         . rw[decide_eq_true (show (16:Int)<(v:Int) by omega),if_pos hv];exact⟨rfl,rfl⟩
         . rw[decide_eq_false (show ¬ (16:Int)<(v:Int) by omega),if_neg hv];exact⟨rfl,rfl⟩
     . rw[decide_eq_false h48,if_neg (fun h=>h48 h.1)];simp only[cond_false];by_cases hv:16<v
       . rw[decide_eq_true (show (16:Int)<(v:Int) by omega),if_pos hv];exact⟨rfl,rfl⟩
       . rw[decide_eq_false (show ¬ (16:Int)<(v:Int) by omega),if_neg hv];exact⟨rfl,rfl⟩
def lhF (x:Int×Int):Int×(Int×Unit):=(x.1,(x.2,()))
theorem z1mw (N:Nat){s:List UInt8}{a:Nat}(o lo hi fr:Nat)(ha:a<=s.length)(hs:s.length<=256) :
 z4h N (pst s a o) (lo:Int) (hi:Int) (fr:Int) ((zw N (pst s a o) (125:Int)).bind fun y1=>some (((lo:Int),((hi:Int),())),(y1.2.1,())))=okP s o lhF (zwz s lo hi fr a) ∧
 z3e N (pst s a o) (lo:Int) (hi:Int) (fr:Int) (fun p4=>some p4) (orP (z15 N (pst s a o) (125:Int)) (fun z1=>some z1) ((zw N (pst s a o) (125:Int)).bind fun y1=>none))=zd5 (zwz s lo hi fr a):=by
 unfold z4h z3e zwz;have e:decide ((hi:Int)<(if ((1:Int) > (lo:Int)) then (1:Int) else (lo:Int)))=decide (hi<max lo 1):=by
  refine decide_eq_decide.2 ?_;split<;>omega
 rw[e];by_cases h:hi<max lo 1
 . rw[decide_eq_true h,if_pos h];exact⟨rfl,rfl⟩
 . rw[decide_eq_false h,if_neg h];simp only[cond_false];have q:=zmk N o 125 ha hs;rw[show (125:Int)=((125:Nat):Int) from rfl,q.1,q.2];cases zco s a 125 with
   | bad e c=>exact⟨rfl,rfl⟩
   | ok x c=>exact⟨rfl,rfl⟩
theorem zxz (N:Nat) {s:List UInt8} {a:Nat} (o:Nat) (ha:a<=s.length) (hs:s.length<=256) (hN:300<=N) :
 z3i N (pst s a o)=okP s o lhF (z9n s a)/\z36 N (pst s a o)=zd5 (z9n s a):=by
 unfold z3i z36 z9n;rw[(z156 N o ha hs hN).1,(z156 N o ha hs hN).2];cases h:zrm s a with
 | bad e c=>exact⟨rfl,rfl⟩
 | ok lo c =>
   have hc:=z1k (zgg s a) h;simp only[okP,zd5,orP,Option.bind_some,PR.next];unfold z6m z4m;rw[show (44:Int)=((44:Nat):Int) from rfl,zkm N o 44 hc.2 hs];simp only[Option.bind_some];cases h1:isB s c 44 with
   | false=>exact z1mw N o lo lo a hc.2 hs
   | true =>
     have hlt:c+1<=s.length:=by simp[isB] at h1;omega
     simp only[cond_true,if_true];have q:=zkm N o 125 hlt hs;rw[show (125:Int)=((125:Nat):Int) from rfl,q];simp only[Option.bind_some];cases h2:isB s (c+1) 125 with
     | true=>exact⟨rfl,rfl⟩
     | false =>
       simp only[cond_false,Bool.false_eq_true,if_false];rw[(z156 N o hlt hs hN).1,(z156 N o hlt hs hN).2];cases h3:zrm s (c+1) with
       | bad e d=>exact⟨rfl,rfl⟩
       | ok hi d =>
         have hd:=z1k (zgg s (c+1)) h3;simp only[okP,zd5,orP,Option.bind_some,PR.next];exact z1mw N o lo hi (c+1) hd.2 hs
end
end Go.Proofs.YthgcpalmjcomlaaDoorLg
set_option linter.all false
set_option maxRecDepth 100000
namespace Go.Proofs.YthgcpalmjcomlaaDoorLg
noncomputable section
open Go Go.Lift Go.Proofs.YthgcpalmjcomlaaDoorPx
theorem zf3 {x:Int}(h:-9223372036854775808<=x)(h2:x<=9223372036854775807):(Lit.int .i64 x).wf=true:=by
 simp[Lit.wf,IntKind.min,IntKind.max,IntKind.signed,IntKind.bits];omega
theorem z1ed {x:Int}(h:U64 x):(Lit.int .u64 x).wf=true:=by
 unfold U64 at h;simp[Lit.wf,IntKind.min,IntKind.max,IntKind.signed,IntKind.bits];omega
theorem zwf {st:List Int}(h:SetOk st):st.length=4/\∀ x∈st,(Lit.int .u64 x).wf=true:=by
 obtain⟨a,b,c,d,rfl,ha,hb,hc,hd⟩:=h;refine⟨rfl,fun x hx=>?_⟩;simp only[List.mem_cons,List.not_mem_nil,or_false] at hx;rcases hx with rfl|rfl|rfl|rfl<;>exact z1ed (by assumption)
theorem z4p:∀ xs ys:List Tree,z2j (xs++ys)=z2j xs+z2j ys
 | [],ys=>by simp[z2j]
 | x::xs,ys=>by simp[z2j,z4p xs ys,Nat.add_assoc]
theorem z46 (t:Tree):z2j [t]=z1z t:=by simp[z2j]
theorem zp8 (k:Int)(t:Tree):z2j (zj0 k t)<=z1z t:=by
 unfold zj0;cases z2b t == k with
 | true =>
   obtain⟨kk,st,ks,lo,hi⟩:=t;show z2j ks<=_;rw[z1z];omega
 | false=>rw[cond_false,z46];exact Nat.le_refl _
theorem zh6 (k:Int):∀ ps:List Tree,z2j (zev k ps)<=z2j ps
 | []=>Nat.le_refl _
 | p::ps=>by
   have:=zh6 k ps;have h2:=zp8 k p;show z2j (zj0 k p++zev k ps)<=z2j (p::ps);rw[z4p,z2j];omega
theorem zpd (k:Int)(ps:List Tree):z1z (zcp k ps)<=z2j ps+1:=by
 have h:=zh6 k ps;unfold zcp;split
 . rename_i x hx;rw[hx,z46] at h;omega
 . rw[z1z];omega
theorem z15p (k:Int)(t:Tree):z1z (zcp k [t])<=z1z t:=by
 have e:zev k [t]=zj0 k t:=by simp[zev]
 have h:=zp8 k t;unfold zcp;rw[e];split
 . rename_i x hx;rw[hx,z46] at h;exact h
 . unfold zj0;cases hk:z2b t == k with
   | true =>
     obtain⟨kk,st,ks,lo,hi⟩:=t;show z1z (.mk k [0,0,0,0] ks 0 0)<=_;rw[z1z,z1z];exact Nat.le_refl _
   | false =>
     rename_i hne;exact absurd (by unfold zj0;rw[hk];rfl) (hne t)
theorem z19n (k:Int){t:Tree}(h:WfN t):∀ x∈zj0 k t,WfN x:=by
 unfold zj0;cases z2b t == k with
 | true =>
   obtain⟨kk,st,ks,lo,hi⟩:=t;rw[WfN] at h;exact (WfNs_all ks).1 h.2.2.1.2
 | false =>
   intro x hx;simp at hx;subst hx;exact h
theorem z12g (k:Int):∀ {ps:List Tree},(∀ x∈ps,WfN x)->∀ x∈zev k ps,WfN x
 | [],_,x,hx=>by cases hx
 | p::ps,h,x,hx=>by
   have hx:x∈zj0 k p++zev k ps:=hx;rcases List.mem_append.1 hx with hx|hx
   . exact z19n k (h p (by simp)) x hx
   . exact z12g k (fun y hy=>h y (by simp[hy])) x hx
theorem z_wf:([0,0,0,0]:List Int).length=4/\∀ x∈([0,0,0,0]:List Int),(Lit.int .u64 x).wf=true:=zwf z5a
theorem z125 {k:Int}(hk:k=2\/k=3){ps:List Tree}(h:∀ x∈ps,WfN x)(hn:z2j ps<=1000000):WfN (zcp k ps):=by
 have hf:=z12g k h;have hl:=Nat.le_trans (z6h (zev k ps)) (zh6 k ps);unfold zcp;split
 . rename_i x hx;exact hf x (by rw[hx];simp)
 . rw[WfN];refine⟨zf3 (by omega) (by omega),z_wf,⟨Nat.le_trans hl (Nat.le_trans hn (by unfold maxLen;omega)),(WfNs_all _).2 hf⟩,zf3 (by omega) (by omega),zf3 (by omega) (by omega)⟩
theorem zwn {st:List Int}(h:SetOk st):WfN (z14b st):=by
 unfold z14b;rw[WfN];exact⟨zf3 (by omega) (by omega),zwf h,⟨Nat.zero_le _,by rw[WfNs];trivial⟩,zf3 (by omega) (by omega),zf3 (by omega) (by omega)⟩
theorem z1ew {t:Tree}{lo hi:Int}(h:WfN t)(h1:-1<=lo/\lo<=100)(h2:-1<=hi/\hi<=100):WfN (z14a t lo hi):=by
 unfold z14a;rw[WfN];exact⟨zf3 (by omega) (by omega),zwf z4_ok,⟨by unfold maxLen;simp,by rw[WfNs,WfNs];exact⟨h,trivial⟩⟩,zf3 (by omega) (by omega),zf3 (by omega) (by omega)⟩
def TOk (a b:Nat)(c:Nat)(t:Tree):Prop:=WfN t/\z1z t+c<=3*(b - a)+1
def TRes (a c:Nat)(r:PR Tree):Prop:=∀ t b,r=.ok t b->TOk a b c t
theorem TRes.bad {a c:Nat}{e:Int}{x:Nat}:TRes a c (.bad e x):=fun t b h=>by cases h
theorem TRes.next {α:Type}{a c:Nat}{r:PR α}{f:α->Nat->PR Tree}(h:∀ x b,r=.ok x b->TRes a c (f x b)):TRes a c (r.next f):=by
 cases r with
 | bad e x=>exact TRes.bad
 | ok x b=>exact h x b rfl
theorem z166 {s:List UInt8}{a:Nat}{t:List Int}{b:Nat}(h:zba s a=.ok t b):SetOk t:=by
 unfold zba at h;cases hi:ze5 s (if isB s a 94=true then a+1 else a) with
 | bad e c=>rw[hi] at h;cases h
 | ok u c =>
   rw[hi] at h;simp only[PR.next] at h;cases hm:z79 s (s.length+1) c u with
   | bad e d=>rw[hm] at h;cases h
   | ok v d =>
     rw[hm] at h;simp only at h;have hk:=zqr _ _ (zdg hi) hm;cases h;split
     . exact zwu hk
     . exact hk
theorem z17h {s:List UInt8}{a v b:Nat}(h:zrm s a=.ok v b):v<=16:=by
 unfold zrm at h;cases hn:z8k s a with
 | bad e c=>rw[hn] at h;cases h
 | ok y c =>
   rw[hn] at h;simp only[PR.next] at h;split at h
   . split at h
     . cases h
     split at h
     . cases h
     . cases h;omega
   . cases h
theorem z17m {s:List UInt8}{lo hi fr a:Nat}{x:Int×Int}{b:Nat}(hl:lo<=16)(hh:hi<=16)(h:zwz s lo hi fr a=.ok x b):x=((lo:Int),(hi:Int))/\max lo 1<=hi:=by
 unfold zwz at h;split at h
 . cases h
 . cases hn:zco s a 125 with
   | bad e c=>rw[hn] at h;cases h
   | ok y c=>rw[hn] at h;cases h;exact⟨rfl,by omega⟩
theorem z13r {s:List UInt8} {a:Nat} {x:Int×Int} {b:Nat} (h:z9n s a=.ok x b):0<=x.1/\x.1<=16/\(x.2=-1\/(1<=x.2/\x.1<=x.2/\x.2<=16)):=by
 unfold z9n at h;cases hn:zrm s a with
 | bad e c=>rw[hn] at h;cases h
 | ok lo c =>
   have hl:=z17h hn;rw[hn] at h;simp only[PR.next] at h;split at h
   . split at h
     . cases h;exact⟨by simp,by simp;omega,.inl rfl⟩
     . cases hm:zrm s (c+1) with
       | bad e d=>rw[hm] at h;cases h
       | ok hi d =>
         have hh:=z17h hm;rw[hm] at h;obtain⟨rfl,h3⟩:=z17m hl hh h;exact⟨by simp,by simp;omega,.inr ⟨by simp;omega,by simp;omega,by simp;omega⟩⟩
   . obtain⟨rfl,h3⟩:=z17m hl hl h;exact⟨by simp,by simp;omega,.inr ⟨by simp;omega,by simp,by simp;omega⟩⟩
abbrev z16f (s:List UInt8)(sub:Option (Nat->PR Tree)):Prop:=∀ f,sub=some f->∀ b,b<=s.length->Ahead s b (f b)
abbrev z1dh (s:List UInt8)(sub:Option (Nat->PR Tree)):Prop:=∀ f,sub=some f->∀ b,b<=s.length->TRes b 0 (f b)
theorem zj2 (st:List Int):z1z (z14b st)=1:=by unfold z14b;rw[z1z,z2j]
theorem z11r (t:Tree)(lo hi:Int):z1z (z14a t lo hi)=1+z1z t:=by unfold z14a;rw[z1z,z46]
theorem z13y {sub:Option (Nat->PR Tree)}{s:List UInt8}{a:Nat}(hA:z16f s sub)(hT:z1dh s sub)(ha:a<s.length):TRes a 2 (z9s sub s a):=by
 unfold z9s;split
 . cases sub with
   | none=>exact TRes.bad
   | some f =>
     refine TRes.next fun t a1 h1=>TRes.next fun _ a2 h2=>?_
     have g1:=z1k (hA f rfl (a+1) (by omega)) h1;have g2:=z1k (zk7 s a1 41) h2;have g3:=hT f rfl (a+1) (by omega) t a1 h1;intro t' b e;cases e;exact⟨g3.1,by have:=g3.2;omega⟩
 split
 . intro t b e;cases e;exact⟨zwn (zuh 256 0 z5a (by omega)),by rw[zj2];omega⟩
 split
 . refine TRes.next fun st a1 h1=>?_
   have g1:=z1k (znb (a+1)) h1;intro t b e;cases e;exact⟨zwn (z166 h1),by rw[zj2];omega⟩
 split
 . refine TRes.next fun st a1 h1=>?_
   have g1:=z1k (zn7 (Nat.le_of_lt ha)) h1;intro t b e;cases e;exact⟨zwn (z17s h1).1,by rw[zj2];omega⟩
 split
 . exact TRes.bad
 . intro t b e;cases e;exact⟨zwn (zfz (zsl s a)),by rw[zj2];omega⟩
theorem zk3 {sub:Option (Nat->PR Tree)}{s:List UInt8}{a:Nat}(hA:z16f s sub)(hT:z1dh s sub)(ha:a<s.length):TRes a 2 (zb7 sub s a):=by
 refine TRes.next fun t a1 h1=>?_
 have g1:=z1k (zeb hA ha) h1;have g2:=z13y hA hT ha t a1 h1;have hr:∀ lo hi b,-1<=lo/\lo<=100->-1<=hi/\hi<=100->a1<b->TOk a b 2 (z14a t lo hi):=fun lo hi b h1 h2 hb=>⟨z1ew g2.1 h1 h2,by rw[z11r];have:=g2.2;omega⟩
 split
 . split
   . intro t' b e;cases e;exact hr _ _ _ (by omega) (by omega) (by omega)
   split
   . intro t' b e;cases e;exact hr _ _ _ (by omega) (by omega) (by omega)
   split
   . intro t' b e;cases e;exact hr _ _ _ (by omega) (by omega) (by omega)
   split
   . refine TRes.next fun lh a2 h2=>?_
     have g3:=z1k (zks (show a1+1<=s.length by omega)) h2;have g4:=z13r h2;intro t' b e;cases e;exact hr _ _ _ (by omega) (by omega) (by omega)
   . intro t' b e;cases e;exact g2
 . intro t' b e;cases e;exact g2
theorem zey {sub:Option (Nat->PR Tree)} {s:List UInt8} (hs:s.length<=256) (hA:z16f s sub) (hT:z1dh s sub) (a0:Nat):∀ (k a:Nat) (ps:List Tree),a<=s.length->a0<=a->(∀ x∈ps,WfN x)->z2j ps<=3*(a - a0)->TRes a0 0 (zi6 sub s k a ps)
 | 0,a,ps,h1,h2,h3,h4=>TRes.bad
 | k + 1,a,ps,h1,h2,h3,h4=>by
   unfold zi6;split
   . intro t b e;cases e;have:=zpd 2 ps;exact⟨z125 (.inl rfl) h3 (by omega),by omega⟩
   . rename_i hc;have hlt:a<s.length:=by simp[zd6] at hc;exact hc.1
     refine TRes.next fun t a1 e1=>?_
     have g1:=z1k (zcl hA hlt) e1;have g2:=zk3 hA hT hlt t a1 e1;refine zey hs hA hT a0 k a1 _ g1.2 (by omega) (fun x hx=>?_) ?_
     . rcases List.mem_append.1 hx with hx|hx
       . exact h3 x hx
       . simp at hx;subst hx;exact g2.1
     . rw[z4p,z46];have:=g2.2;omega
theorem ztc {sub:Option (Nat->PR Tree)} {s:List UInt8} (hs:s.length<=256) (hA:z16f s sub) (hT:z1dh s sub) (a0:Nat):∀ (k a:Nat) (ps:List Tree),a<=s.length->a0<=a->(∀ x∈ps,WfN x)->((∃ t,ps=[t]/\z1z t<=3*(a - a0)+1)\/z2j ps+1<=3*(a - a0))->TRes a0 0 (ze6 sub s k a ps)
 | 0,a,ps,h1,h2,h3,h4=>TRes.bad
 | k + 1,a,ps,h1,h2,h3,h4=>by
   have hn:z2j ps<=3*(a - a0)+1:=by
    rcases h4 with⟨t,rfl,h⟩|h
    . rw[z46];exact h
    . omega
   unfold ze6;split
   . rename_i hc;have hlt:a<s.length:=by simp[isB] at hc;exact hc.1
     refine TRes.next fun t a1 e1=>?_
     have g1:=z1k (z6g hA _ (a+1) [] (by omega)) e1;have g2:=zey hs hA hT (a+1) _ (a+1) [] (by omega) (Nat.le_refl _) (fun x hx=>by cases hx) (by simp[z2j]) t a1 e1;refine ztc hs hA hT a0 k a1 _ g1.2 (by omega) (fun x hx=>?_) (.inr ?_)
     . rcases List.mem_append.1 hx with hx|hx
       . exact h3 x hx
       . simp at hx;subst hx;exact g2.1
     . rw[z4p,z46];have:=g2.2;omega
   . intro t b e;cases e;refine⟨z125 (.inr rfl) h3 (by omega),?_⟩;rcases h4 with⟨t,rfl,h⟩|h
     . have:=z15p 3 t;omega
     . have:=zpd 3 ps;omega
theorem zy4 {s:List UInt8}(hs:s.length<=256):∀ (d a:Nat),a<=s.length->TRes a 0 (zfw s d a):=by
 have key:∀ (sub:Option (Nat->PR Tree)),z16f s sub->z1dh s sub->∀ a,a<=s.length->TRes a 0 ((zi6 sub s (s.length+1) a []).next fun t a1=>ze6 sub s (s.length+1) a1 [t]):=by
  intro sub hA hT a ha;refine TRes.next fun t a1 e1=>?_
  have g1:=z1k (z6g hA _ a [] ha) e1;have g2:=zey hs hA hT a _ a [] ha (Nat.le_refl _) (fun x hx=>by cases hx) (by simp[z2j]) t a1 e1;exact ztc hs hA hT a _ a1 _ g1.2 g1.1 (fun x hx=>by simp at hx;subst hx;exact g2.1) (.inl ⟨t,rfl,g2.2⟩)
 intro d
 induction d with
 | zero=>intro a ha;unfold zfw;exact key none (fun f h=>by cases h) (fun f h=>by cases h) a ha
 | succ d ih=>intro a ha;unfold zfw;exact key _ (fun f h=>by cases h;exact zec s d) (fun f h=>by cases h;exact ih) a ha
end
end Go.Proofs.YthgcpalmjcomlaaDoorLg
set_option linter.all false
set_option maxRecDepth 100000
namespace Go.Proofs.YthgcpalmjcomlaaDoorLg
noncomputable section
open Go Go.Lift Go.Proofs.YthgcpalmjcomlaaDoorPx
def zdn (s:List UInt8):Nat->Option (Nat->PR Tree)
 | 0=>none
 | d+1=>some (zfw s d)
theorem za8 (s:List UInt8)(d:Nat):z16f s (zdn s d):=by
 cases d with
 | zero=>intro f h;cases h
 | succ d=>intro f h;cases h;exact zec s d
theorem zoq {s:List UInt8}(hs:s.length<=256)(d:Nat):z1dh s (zdn s d):=by
 cases d with
 | zero=>intro f h;cases h
 | succ d=>intro f h;cases h;exact zy4 hs d
theorem zwb (s:List UInt8)(d a:Nat):zfw s d a=(zi6 (zdn s d) s (s.length+1) a []).next fun t a1=>ze6 (zdn s d) s (s.length+1) a1 [t]:=by
 cases d<;>(rw[zfw];rfl)
def zy9 (s:List UInt8)(d:Nat)(self:PSt->Option (NodT.den×(PSt×Unit))):Prop:=∀ d',d=d'+1->∀ a,a<=s.length->self (pst s a (16 - d'))=okP s (16 - d') unN (zfw s d' a)
def z1ct (s:List UInt8)(d:Nat)(self:PSt->Option (Int×(Int×Unit))):Prop:=∀ d',d=d'+1->∀ a,a<=s.length->self (pst s a (16 - d'))=zd5 (zfw s d' a)
def zpb (sub:Option (Nat->PR Tree)) (s:List UInt8) (a:Nat):PR Tree:=match sub with
    | none=>.bad 3 a
    | some f=>(f (a+1)).next fun t a1=>(zco s a1 41).next fun _ a2=>.ok t a2
theorem z12c (N:Nat) {s:List UInt8} {a d:Nat} (hd:d<=16) (ha:a<s.length) (hb:gb s a=40) (hs:s.length<=256) (self:PSt->Option (NodT.den×(PSt×Unit))) (hself:zy9 s d self) :
 z3v N self (pst s a (16 - d))=okP s (16 - d) unN (zpb (zdn s d) s a):=by
 unfold z3v z72;simp only[pst];rw[show (16:Int)=((16:Nat):Int) from rfl,eqI];cases d with
 | zero=>rfl
 | succ d =>
   rw[decide_eq_false (by omega)];simp only[cond_false];rw[zi0 (by omega),show 16 - (d+1)+1=16 - d by omega];have q:=zmk N (16 - d) 40 (Nat.le_of_lt ha) hs;rw[zun ha hb] at q;unfold pst at q;rw[show (40:Int)=((40:Nat):Int) from rfl,q.1];simp only[okP,Option.bind_some];rw[hself d rfl (a+1) (by omega)];show _=okP s (16 - (d+1)) unN ((zfw s d (a+1)).next fun t a1=>(zco s a1 41).next fun _ a2=>.ok t a2);cases h:zfw s d (a+1) with
   | bad e c=>rfl
   | ok t c =>
     have hc:=z1k (zec s d (a+1) (by omega)) h;simp only[okP,Option.bind_some,PR.next];rw[show (41:Int)=((41:Nat):Int) from rfl,(zmk N (16 - d) 41 hc.2 hs).1];cases zco s c 41 with
     | bad e b=>rfl
     | ok u b =>
       simp only[okP,Option.bind_some,pst];have e:IntKind.wrap .i64 (((16 - d:Nat):Int) - 1)=((16 - (d+1):Nat):Int):=by
        rw[z5p (by unfold I64;omega)];omega
       rw[e]
theorem z1bq (N:Nat){s:List UInt8}{a d:Nat}(hd:d<=16)(ha:a<s.length)(hb:gb s a=40)(hs:s.length<=256)(self:PSt->Option (Int×(Int×Unit)))(hself:z1ct s d self)(hok:zy9 s d (zf N)) :
 z3h N self (pst s a (16 - d))=zd5 (zpb (zdn s d) s a):=by
 unfold z3h z4t;simp only[pst];rw[show (16:Int)=((16:Nat):Int) from rfl,eqI];cases d with
 | zero=>rfl
 | succ d =>
   rw[decide_eq_false (by omega)];simp only[cond_false];rw[zi0 (by omega),show 16 - (d+1)+1=16 - d by omega];have q:=zmk N (16 - d) 40 (Nat.le_of_lt ha) hs;rw[zun ha hb] at q;unfold pst at q;rw[show (40:Int)=((40:Nat):Int) from rfl,q.1,q.2];simp only[okP,zd5,orP,Option.bind_some];rw[hself d rfl (a+1) (by omega),hok d rfl (a+1) (by omega)];show _=zd5 ((zfw s d (a+1)).next fun t a1=>(zco s a1 41).next fun _ a2=>.ok t a2);cases h:zfw s d (a+1) with
   | bad e c=>rfl
   | ok t c =>
     have hc:=z1k (zec s d (a+1) (by omega)) h;simp only[okP,zd5,orP,Option.bind_some,PR.next];have q:=zmk N (16 - d) 41 hc.2 hs;rw[show (41:Int)=((41:Nat):Int) from rfl,q.1,q.2];cases zco s c 41 with
     | bad e b=>rfl
     | ok u b=>rfl
theorem z17d {N:Nat}(hN:257<N):z1w N (0:Int) (255:Int)=some (ofS 256 0 z4):=by
 rw[show (0:Int)=((0:Nat):Int) from rfl,show (255:Int)=((255:Nat):Int) from rfl,z11g N (by omega) (by omega) hN];rfl
theorem z17w (N:Nat){s:List UInt8}{a d:Nat}(hd:d<=16)(ha:a<s.length)(hs:s.length<=256)(hN:300<=N)(self:PSt->Option (NodT.den×(PSt×Unit)))(hself:zy9 s d self) :
 z44 N self (pst s a (16 - d))=okP s (16 - d) unN (z9s (zdn s d) s a):=by
 have hl:=zsl s a;unfold z44 z9s;simp only[pst];rw[ze8 ha,ze9];simp only[cond_true,show (40:Int)=((40:Nat):Int) from rfl,show (46:Int)=((46:Nat):Int) from rfl,show (91:Int)=((91:Nat):Int) from rfl,show (92:Int)=((92:Nat):Int) from rfl,eqI];by_cases e1:gb s a=40
 . rw[decide_eq_true e1,if_pos e1];simp only[cond_true];have q:=z12c N hd ha e1 hs self hself;unfold pst at q;rw[q];show _=okP s (16 - d) unN (zpb (zdn s d) s a);cases zpb (zdn s d) s a<;>rfl
 rw[decide_eq_false e1,if_neg e1];simp only[cond_false];by_cases e2:gb s a=46
 . rw[decide_eq_true e2,if_pos e2];simp only[cond_true];rw[z17d (by omega),zi0 (by omega)];rfl
 rw[decide_eq_false e2,if_neg e2];simp only[cond_false];by_cases e3:gb s a=91
 . rw[decide_eq_true e3,if_pos e3];simp only[cond_true];have q:=(zpm N (16 - d) ha e3 hs hN).1;unfold pst at q;rw[q];cases zba s (a+1)<;>rfl
 rw[decide_eq_false e3,if_neg e3];simp only[cond_false];by_cases e4:gb s a=92
 . rw[decide_eq_true e4,if_pos e4];simp only[cond_true];have q:=(z1bv N (16 - d) ha e4 hs hN).1;unfold pst at q;rw[q];cases zqm s a<;>rfl
 rw[decide_eq_false e4,if_neg e4];simp only[cond_false];unfold z88;rw[z175 hl];cases specials.contains (gb s a) with
 | true=>rfl
 | false =>
   simp only[cond_false,Bool.false_eq_true,if_false];rw[zgb hl (by omega),zi0 (by omega)];rfl
theorem z1nd (N:Nat){s:List UInt8}{a d:Nat}(hd:d<=16)(ha:a<s.length)(hs:s.length<=256)(hN:300<=N)(self:PSt->Option (Int×(Int×Unit)))(hself:z1ct s d self)(hok:zy9 s d (zf N)) :
 z3p N self (pst s a (16 - d))=zd5 (z9s (zdn s d) s a):=by
 have hl:=zsl s a;unfold z3p z9s;simp only[pst];rw[ze8 ha,ze9];simp only[cond_true,show (40:Int)=((40:Nat):Int) from rfl,show (46:Int)=((46:Nat):Int) from rfl,show (91:Int)=((91:Nat):Int) from rfl,show (92:Int)=((92:Nat):Int) from rfl,eqI];by_cases e1:gb s a=40
 . rw[decide_eq_true e1,if_pos e1];simp only[cond_true];have q:=z1bq N hd ha e1 hs self hself hok;have q2:=z12c N hd ha e1 hs _ hok;unfold pst at q q2;rw[q,q2];show _=zd5 (zpb (zdn s d) s a);cases zpb (zdn s d) s a<;>rfl
 rw[decide_eq_false e1,if_neg e1];simp only[cond_false];by_cases e2:gb s a=46
 . rw[decide_eq_true e2,if_pos e2];simp only[cond_true];rw[z17d (by omega)];rfl
 rw[decide_eq_false e2,if_neg e2];simp only[cond_false];by_cases e3:gb s a=91
 . rw[decide_eq_true e3,if_pos e3];simp only[cond_true];have q:=zpm N (16 - d) ha e3 hs hN;unfold pst at q;rw[q.1,q.2];cases zba s (a+1)<;>rfl
 rw[decide_eq_false e3,if_neg e3];simp only[cond_false];by_cases e4:gb s a=92
 . rw[decide_eq_true e4,if_pos e4];simp only[cond_true];have q:=z1bv N (16 - d) ha e4 hs hN;unfold pst at q;rw[q.1,q.2];cases zqm s a<;>rfl
 rw[decide_eq_false e4,if_neg e4];simp only[cond_false];unfold z59;rw[z175 hl];cases specials.contains (gb s a) with
 | true=>rfl
 | false =>
   simp only[cond_false,Bool.false_eq_true,if_false];rw[zgb hl (by omega)];rfl
theorem z1mu (t:Tree):List.map Go.Lift.foN ([unN t]:List NodT.den)=[t]:=by
 rw[List.map_cons,foN_unN,List.map_nil]
theorem z11a (N:Nat) {s:List UInt8} {a d:Nat} (hd:d<=16) (ha:a<s.length) (hs:s.length<=256) (hN:300<=N) (self:PSt->Option (NodT.den×(PSt×Unit))) (hself:zy9 s d self) :
 z2a N self (pst s a (16 - d))=okP s (16 - d) unN (zb7 (zdn s d) s a):=by
 unfold z2a zb7;rw[z17w N hd ha hs hN self hself];cases h:z9s (zdn s d) s a with
 | bad e c=>rfl
 | ok t c =>
   have hc:=z1k (zeb (za8 s d) ha) h;simp only[okP,Option.bind_some,PR.next,pst,eqI];by_cases hlt:c<s.length
   . rw[decide_eq_false (by omega),if_pos hlt,ze8 hlt,ze9];simp only[cond_false,cond_true];unfold z6z;simp only[show (43:Int)=((43:Nat):Int) from rfl,show (42:Int)=((42:Nat):Int) from rfl,show (63:Int)=((63:Nat):Int) from rfl,show (123:Int)=((123:Nat):Int) from rfl,eqI];rw[zi0 (by omega),z1mu];by_cases e1:gb s c=43
     . rw[decide_eq_true e1,if_pos e1];rfl
     rw[decide_eq_false e1,if_neg e1];by_cases e2:gb s c=42
     . rw[decide_eq_true e2,if_pos e2];rfl
     rw[decide_eq_false e2,if_neg e2];by_cases e3:gb s c=63
     . rw[decide_eq_true e3,if_pos e3];rfl
     rw[decide_eq_false e3,if_neg e3];by_cases e4:gb s c=123
     . rw[decide_eq_true e4,if_pos e4];simp only[cond_true,cond_false];have q:=(zxz N (16 - d) (show c+1<=s.length by omega) hs hN).1;unfold pst at q;rw[q];cases z9n s (c+1)<;>rfl
     . rw[decide_eq_false e4,if_neg e4];rfl
   . rw[decide_eq_true (by omega),if_neg hlt];rfl
theorem z19m (N:Nat) {s:List UInt8} {a d:Nat} (hd:d<=16) (ha:a<s.length) (hs:s.length<=256) (hN:300<=N) (self:PSt->Option (Int×(Int×Unit))) (hself:z1ct s d self) (hok:zy9 s d (zf N)) :
 z2d N self (pst s a (16 - d))=zd5 (zb7 (zdn s d) s a):=by
 unfold z2d zb7;rw[z1nd N hd ha hs hN self hself hok,z17w N hd ha hs hN _ hok];cases h:z9s (zdn s d) s a with
 | bad e c=>rfl
 | ok t c =>
   have hc:=z1k (zeb (za8 s d) ha) h;simp only[okP,zd5,orP,Option.bind_some,PR.next,pst,eqI];by_cases hlt:c<s.length
   . rw[decide_eq_false (by omega),if_pos hlt,ze8 hlt,ze9];simp only[cond_false,cond_true];unfold z4r;simp only[show (43:Int)=((43:Nat):Int) from rfl,show (42:Int)=((42:Nat):Int) from rfl,show (63:Int)=((63:Nat):Int) from rfl,show (123:Int)=((123:Nat):Int) from rfl,eqI];rw[zi0 (by omega)];by_cases e1:gb s c=43
     . rw[decide_eq_true e1,if_pos e1];rfl
     rw[decide_eq_false e1,if_neg e1];by_cases e2:gb s c=42
     . rw[decide_eq_true e2,if_pos e2];rfl
     rw[decide_eq_false e2,if_neg e2];by_cases e3:gb s c=63
     . rw[decide_eq_true e3,if_pos e3];rfl
     rw[decide_eq_false e3,if_neg e3];by_cases e4:gb s c=123
     . rw[decide_eq_true e4,if_pos e4];simp only[cond_true,cond_false];have q:=zxz N (16 - d) (show c+1<=s.length by omega) hs hN;unfold pst at q;rw[q.1,q.2];cases z9n s (c+1)<;>rfl
     . rw[decide_eq_false e4,if_neg e4];rfl
   . rw[decide_eq_true (by omega),if_neg hlt];rfl
theorem room {n:Nat}(h:n<=10000):decide (((n+1)*80)<=70368744177664)=true:=decide_eq_true (by omega)
theorem z169 (N:Nat) (self:PSt->Option (NodT.den×(PSt×Unit))) (x2:NodT.den) (s:List UInt8) (a o:Nat) (L:List NodT.den) (rec:PSt->List NodT.den->Option (NodT.den×(PSt×Unit))) (k0:PSt->List NodT.den->Option (NodT.den×(PSt×Unit))) :
 z49 N self x2 (pst s a o) L rec k0=cond (zd6 s a) (k0 (pst s a o) L) ((z2a N self (pst s a o)).bind fun y=>cond (decide (((L.length+1)*80)<=70368744177664)) (rec y.2.1 (L++[y.1])) none):=by
 unfold z49 z8y;unfold zd6;simp only[pst];rcases Nat.lt_or_ge a s.length with h|h
 . rw[decide_eq_true (show (a:Int)<(s.length:Int) by omega),decide_eq_true h,ze8 h,ze9];simp only[cond_true,Bool.not_true,Bool.false_or,bne,show (124:Int)=((124:Nat):Int) from rfl,show (41:Int)=((41:Nat):Int) from rfl,eqI];by_cases e1:gb s a=124
   . have e2:(gb s a == 124)=true:=by simpa using e1
     rw[decide_eq_true e1,e2];rfl
   . have e2:(gb s a == 124)=false:=by simpa using e1
     rw[decide_eq_false e1,e2];by_cases e3:gb s a=41
     . have e4:(gb s a == 41)=true:=by simpa using e3
       rw[decide_eq_true e3,e4];rfl
     . have e4:(gb s a == 41)=false:=by simpa using e3
       rw[decide_eq_false e3,e4];rfl
 . rw[decide_eq_false (show ¬ (a:Int)<(s.length:Int) by omega),decide_eq_false (show ¬ a<s.length by omega)];rfl
theorem z13l (N:Nat) (self:PSt->Option (Int×(Int×Unit))) (x2:NodT.den) (s:List UInt8) (a o:Nat) (L:List NodT.den) (rec:PSt->List NodT.den->Option (Int×(Int×Unit))) (k0:(Int×(Int×Unit))->Option (Int×(Int×Unit))) (k1:PSt->List NodT.den->Option (Int×(Int×Unit))) :
 z34 N self x2 (pst s a o) L rec k0 k1=cond (zd6 s a) (k1 (pst s a o) L) (orP (z2d N self (pst s a o)) (fun z=>k0 z) ((z2a N (zf N) (pst s a o)).bind fun y=>cond (decide (((L.length+1)*80)<=70368744177664)) (rec y.2.1 (L++[y.1])) none)):=by
 unfold z34 z5z;unfold zd6;simp only[pst];rcases Nat.lt_or_ge a s.length with h|h
 . rw[decide_eq_true (show (a:Int)<(s.length:Int) by omega),decide_eq_true h,ze8 h,ze9];simp only[cond_true,Bool.not_true,Bool.false_or,bne,show (124:Int)=((124:Nat):Int) from rfl,show (41:Int)=((41:Nat):Int) from rfl,eqI];by_cases e1:gb s a=124
   . have e2:(gb s a == 124)=true:=by simpa using e1
     rw[decide_eq_true e1,e2];rfl
   . have e2:(gb s a == 124)=false:=by simpa using e1
     rw[decide_eq_false e1,e2];by_cases e3:gb s a=41
     . have e4:(gb s a == 41)=true:=by simpa using e3
       rw[decide_eq_true e3,e4];rfl
     . have e4:(gb s a == 41)=false:=by simpa using e3
       rw[decide_eq_false e3,e4];rfl
 . rw[decide_eq_false (show ¬ (a:Int)<(s.length:Int) by omega),decide_eq_false (show ¬ a<s.length by omega)];rfl
theorem zxy (N:Nat) {s:List UInt8} {d:Nat} (hd:d<=16) (hs:s.length<=256) (hN:300<=N) (self:PSt->Option (NodT.den×(PSt×Unit))) (hself:zy9 s d self) (x2:NodT.den) (k0:PSt->List NodT.den->Option (NodT.den×(PSt×Unit)))
 (hk:∀ a ps,z2j ps<=3*a->a<=s.length->k0 (pst s a (16 - d)) (ps.map unN)=some (unN (zcp 2 ps),(pst s a (16 - d),()))):∀ (k N' a:Nat) (ps:List Tree),k<=N'->a<=s.length->s.length<a+k->z2j ps<=3*a →
 iter (fun (v:(PSt×(List NodT.den))) r=>z49 N self x2 v.1 v.2 (fun p parts=>(r (p,parts))) k0) N' (pst s a (16 - d),ps.map unN)=okP s (16 - d) unN (zi6 (zdn s d) s k a ps)
 | 0,N',a,ps,h1,h2,h3,h4=>by omega
 | k + 1,N',a,ps,h1,h2,h3,h4=>by
   obtain⟨M,rfl⟩:∃ M,N'=M+1:=⟨N' - 1,by omega⟩
   rw[iter,zi6];dsimp only;rw[z169];cases hst:zd6 s a with
   | true =>
     simp only[cond_true,if_true];rw[hk a ps h4 h2];rfl
   | false =>
     have hlt:a<s.length:=by
      unfold zd6 at hst;simp at hst;exact hst.1
     simp only[cond_false,Bool.false_eq_true,if_false];rw[z11a N hd hlt hs hN self hself];cases hp:zb7 (zdn s d) s a with
     | bad e c=>rfl
     | ok t c =>
       have hc:=z1k (zcl (za8 s d) hlt) hp;have ht:=(zk3 (za8 s d) (zoq hs d) hlt t c hp).2;have hl:=z6h ps;simp only[okP,Option.bind_some,PR.next];rw[room (by rw[List.length_map];omega)];simp only[cond_true];have:=zxy N hd hs hN self hself x2 k0 hk k M c (ps++[t]) (by omega) hc.2 (by omega) (by rw[z4p,z46];omega);rw[List.map_append] at this;exact this
theorem zt2 (N:Nat) {s:List UInt8} {d:Nat} (hd:d<=16) (hs:s.length<=256) (hN:300<=N) (self:PSt->Option (Int×(Int×Unit))) (hself:z1ct s d self) (hok:zy9 s d (zf N)) (x2:NodT.den) (k0:(Int×(Int×Unit))->Option (Int×(Int×Unit))) (k1:PSt->List NodT.den->Option (Int×(Int×Unit))) (hk0:∀ z,k0 z=some z)
 (hk:∀ a ps,z2j ps<=3*a->a<=s.length->k1 (pst s a (16 - d)) (ps.map unN)=none):∀ (k N' a:Nat) (ps:List Tree),k<=N'->a<=s.length->s.length<a+k->z2j ps<=3*a →
 iter (fun (v:(PSt×(List NodT.den))) r=>z34 N self x2 v.1 v.2 (fun p parts=>(r (p,parts))) k0 k1) N' (pst s a (16 - d),ps.map unN)=zd5 (zi6 (zdn s d) s k a ps)
 | 0,N',a,ps,h1,h2,h3,h4=>by omega
 | k + 1,N',a,ps,h1,h2,h3,h4=>by
   obtain⟨M,rfl⟩:∃ M,N'=M+1:=⟨N' - 1,by omega⟩
   rw[iter,zi6];dsimp only;rw[z13l];cases hst:zd6 s a with
   | true =>
     simp only[cond_true,if_true];rw[hk a ps h4 h2];rfl
   | false =>
     have hlt:a<s.length:=by
      unfold zd6 at hst;simp at hst;exact hst.1
     simp only[cond_false,Bool.false_eq_true,if_false];rw[z19m N hd hlt hs hN self hself hok,z11a N hd hlt hs hN _ hok];cases hp:zb7 (zdn s d) s a with
     | bad e c=>exact hk0 _
     | ok t c =>
       have hc:=z1k (zcl (za8 s d) hlt) hp;have ht:=(zk3 (za8 s d) (zoq hs d) hlt t c hp).2;have hl:=z6h ps;simp only[okP,zd5,orP,Option.bind_some,PR.next];rw[room (by rw[List.length_map];omega)];simp only[cond_true];have:=zt2 N hd hs hN self hself hok x2 k0 k1 hk0 hk k M c (ps++[t]) (by omega) hc.2 (by omega) (by rw[z4p,z46];omega);rw[List.map_append] at this;exact this
theorem zqo {N:Nat}(hN:2000<=N)(k:Int){ps:List Tree}(h:z2j ps<=1000):z7c N k (List.map Go.Lift.foN (ps.map unN))=some (unN (zcp k ps)):=by
 have h1:=z6h ps;have h2:=Nat.le_trans (z6h (zev k ps)) (zh6 k ps);rw[zsa];exact z1bn N k ps (by unfold maxLen;omega) (by omega) (by omega)
theorem z16a (N:Nat){s:List UInt8}{a d:Nat}(hd:d<=16)(ha:a<=s.length)(hs:s.length<=256)(hN:2000<=N)(self:PSt->Option (NodT.den×(PSt×Unit)))(hself:zy9 s d self) :
 z3d N self (pst s a (16 - d))=okP s (16 - d) unN (zi6 (zdn s d) s (s.length+1) a []):=by
 unfold z3d z8z zcd;exact zxy N hd hs (by omega) self hself _ _ (fun b ps h1 h2=>by (try dsimp only);rw[zqo hN 2 (by omega)];rfl) (s.length+1) N a [] (by omega) ha (by omega) (Nat.zero_le _)
theorem z1n4 (N:Nat){s:List UInt8}{a d:Nat}(hd:d<=16)(ha:a<=s.length)(hs:s.length<=256)(hN:2000<=N)(self:PSt->Option (Int×(Int×Unit)))(hself:z1ct s d self)(hok:zy9 s d (zf N)) :
 z39 N self (pst s a (16 - d))=zd5 (zi6 (zdn s d) s (s.length+1) a []):=by
 unfold z39 z60 z9k;exact zt2 N hd hs (by omega) self hself hok _ _ _ (fun z=>rfl) (fun b ps h1 h2=>by (try dsimp only);rw[zqo hN 2 (by omega)];rfl) (s.length+1) N a [] (by omega) ha (by omega) (Nat.zero_le _)
theorem zte (N:Nat) {s:List UInt8} {d:Nat} (hd:d<=16) (hs:s.length<=256) (hN:2000<=N) (self:PSt->Option (NodT.den×(PSt×Unit))) (hself:zy9 s d self) (x2:NodT.den) (k0:PSt->List NodT.den->Option (NodT.den×(PSt×Unit)))
 (hk:∀ a ps,z2j ps<=3*a+1->a<=s.length->k0 (pst s a (16 - d)) (ps.map unN)=some (unN (zcp 3 ps),(pst s a (16 - d),()))):∀ (k N' a:Nat) (ps:List Tree),k<=N'->a<=s.length->s.length<a+k->z2j ps<=3*a+1 →
 iter (fun (v:(PSt×(List NodT.den))) r=>z62 N self x2 v.1 v.2 (fun p parts=>(r (p,parts))) k0) N' (pst s a (16 - d),ps.map unN)=okP s (16 - d) unN (ze6 (zdn s d) s k a ps)
 | 0,N',a,ps,h1,h2,h3,h4=>by omega
 | k + 1,N',a,ps,h1,h2,h3,h4=>by
   obtain⟨M,rfl⟩:∃ M,N'=M+1:=⟨N' - 1,by omega⟩
   rw[iter,ze6];dsimp only
   conv=>lhs;unfold z62
   rw[show (124:Int)=((124:Nat):Int) from rfl,zkm N (16 - d) 124 h2 hs];cases hb:isB s a 124 with
   | false =>
     simp only[Option.bind_some,cond_false,Bool.false_eq_true,if_false];rw[hk a ps h4 h2];rfl
   | true =>
     have hlt:a+1<=s.length:=by simp[isB] at hb;omega
     simp only[Option.bind_some,cond_true,if_true];rw[z16a N hd hlt hs hN self hself];cases hp:zi6 (zdn s d) s (s.length+1) (a+1) [] with
     | bad e c=>rfl
     | ok t c =>
       have hc:=z1k (z6g (za8 s d) _ (a+1) [] hlt) hp;have ht:=(zey hs (za8 s d) (zoq hs d) (a+1) _ (a+1) [] hlt (Nat.le_refl _) (fun x hx=>by cases hx) (by simp[z2j]) t c hp).2;have hl:=z6h ps;simp only[okP,Option.bind_some,PR.next];rw[room (by rw[List.length_map];omega)];simp only[cond_true];have:=zte N hd hs hN self hself x2 k0 hk k M c (ps++[t]) (by omega) hc.2 (by omega) (by rw[z4p,z46];omega);rw[List.map_append] at this;exact this
theorem zpo (N:Nat) {s:List UInt8} {d:Nat} (hd:d<=16) (hs:s.length<=256) (hN:2000<=N) (self:PSt->Option (Int×(Int×Unit))) (hself:z1ct s d self) (hok:zy9 s d (zf N)) (x2:NodT.den) (k0:(Int×(Int×Unit))->Option (Int×(Int×Unit))) (k1:PSt->List NodT.den->Option (Int×(Int×Unit))) (hk0:∀ z,k0 z=some z)
 (hk:∀ a ps,z2j ps<=3*a+1->a<=s.length->k1 (pst s a (16 - d)) (ps.map unN)=none):∀ (k N' a:Nat) (ps:List Tree),k<=N'->a<=s.length->s.length<a+k->z2j ps<=3*a+1 →
 iter (fun (v:(PSt×(List NodT.den))) r=>z43 N self x2 v.1 v.2 (fun p parts=>(r (p,parts))) k0 k1) N' (pst s a (16 - d),ps.map unN)=zd5 (ze6 (zdn s d) s k a ps)
 | 0,N',a,ps,h1,h2,h3,h4=>by omega
 | k + 1,N',a,ps,h1,h2,h3,h4=>by
   obtain⟨M,rfl⟩:∃ M,N'=M+1:=⟨N' - 1,by omega⟩
   rw[iter,ze6];dsimp only
   conv=>lhs;unfold z43
   rw[show (124:Int)=((124:Nat):Int) from rfl,zkm N (16 - d) 124 h2 hs];cases hb:isB s a 124 with
   | false =>
     simp only[Option.bind_some,cond_false,Bool.false_eq_true,if_false];rw[hk a ps h4 h2];rfl
   | true =>
     have hlt:a+1<=s.length:=by simp[isB] at hb;omega
     simp only[Option.bind_some,cond_true,if_true];rw[z1n4 N hd hlt hs hN self hself hok,z16a N hd hlt hs hN _ hok];cases hp:zi6 (zdn s d) s (s.length+1) (a+1) [] with
     | bad e c=>exact hk0 _
     | ok t c =>
       have hc:=z1k (z6g (za8 s d) _ (a+1) [] hlt) hp;have ht:=(zey hs (za8 s d) (zoq hs d) (a+1) _ (a+1) [] hlt (Nat.le_refl _) (fun x hx=>by cases hx) (by simp[z2j]) t c hp).2;have hl:=z6h ps;simp only[okP,zd5,orP,Option.bind_some,PR.next];rw[room (by rw[List.length_map];omega)];simp only[cond_true];have:=zpo N hd hs hN self hself hok x2 k0 k1 hk0 hk k M c (ps++[t]) (by omega) hc.2 (by omega) (by rw[z4p,z46];omega);rw[List.map_append] at this;exact this
theorem zy5 (N:Nat){s:List UInt8}{a d:Nat}(hd:d<=16)(ha:a<=s.length)(hs:s.length<=256)(hN:2000<=N)(self:PSt->Option (NodT.den×(PSt×Unit)))(hself:zy9 s d self) :
 z6r N self (pst s a (16 - d))=okP s (16 - d) unN (zfw s d a):=by
 unfold z6r;rw[z16a N hd ha hs hN self hself,zwb];cases hp:zi6 (zdn s d) s (s.length+1) a [] with
 | bad e c=>rfl
 | ok t c =>
   have hc:=z1k (z6g (za8 s d) _ a [] ha) hp;have ht:=(zey hs (za8 s d) (zoq hs d) a _ a [] ha (Nat.le_refl _) (fun x hx=>by cases hx) (by simp[z2j]) t c hp).2;simp only[okP,Option.bind_some,PR.next];unfold zcf;exact zte N hd hs hN self hself _ _ (fun b ps h1 h2=>by (try dsimp only);rw[zqo hN 3 (by omega)];rfl) (s.length+1) N c [t] (by omega) hc.2 (by omega) (by rw[z46];omega)
theorem z1cq {s:List UInt8}(hs:s.length<=256):∀ (d N:Nat),d<=16->2000+d<=N->∀ a,a<=s.length->zf N (pst s a (16 - d))=okP s (16 - d) unN (zfw s d a)
 | 0,N,hd,hN,a,ha=>by
   obtain⟨M,rfl⟩:∃ M,N=M+1:=⟨N - 1,by omega⟩
   exact zy5 (M+1) hd ha hs (by omega) _ (fun d' h=>by omega)
 | d + 1,N,hd,hN,a,ha=>by
   obtain⟨M,rfl⟩:∃ M,N=M+1:=⟨N - 1,by omega⟩
   exact zy5 (M+1) hd ha hs (by omega) _ (fun d' h b hb=>by
    obtain rfl:d=d':=by omega
    exact z1cq hs d M (by omega) (by omega) b hb)
theorem z1nf {s:List UInt8}(hs:s.length<=256){d N:Nat}(hd:d<=16)(hN:2000+d<=N):zy9 s d (zf N):=fun d' h a ha=>z1cq hs d' N (by omega) (by omega) a ha
theorem alt_f {s:List UInt8}(hs:s.length<=256):∀ (d N:Nat),d<=16->2000+d<=N->∀ a,a<=s.length->zo N (pst s a (16 - d))=zd5 (zfw s d a):=by
 have step:∀ (d M:Nat),d<=16->2000+d<=M+1->z1ct s d (zo M)->∀ a,a<=s.length->zo (M+1) (pst s a (16 - d))=zd5 (zfw s d a):=by
  intro d M hd hN hself a ha;have hok:=z1nf hs hd hN;show z4j (M+1) (zo M) (pst s a (16 - d))=_;unfold z4j;rw[z1n4 (M+1) hd ha hs (by omega) _ hself hok,z16a (M+1) hd ha hs (by omega) _ hok,zwb];cases hp:zi6 (zdn s d) s (s.length+1) a [] with
  | bad e c=>rfl
  | ok t c =>
    have hc:=z1k (z6g (za8 s d) _ a [] ha) hp;have ht:=(zey hs (za8 s d) (zoq hs d) a _ a [] ha (Nat.le_refl _) (fun x hx=>by cases hx) (by simp[z2j]) t c hp).2;simp only[okP,zd5,orP,Option.bind_some,PR.next];unfold z9l;exact zpo (M+1) hd hs (by omega) _ hself hok _ _ _ (fun z=>rfl) (fun b ps h1 h2=>by (try dsimp only);rw[zqo (by omega) 3 (by omega)];rfl) (s.length+1) (M+1) c [t] (by omega) hc.2 (by omega) (by rw[z46];omega)
 intro d
 induction d with
 | zero =>
   intro N hd hN a ha;obtain⟨M,rfl⟩:∃ M,N=M+1:=⟨N - 1,by omega⟩
   exact step 0 M hd hN (fun d' h=>by omega) a ha
 | succ d ih =>
   intro N hd hN a ha;obtain⟨M,rfl⟩:∃ M,N=M+1:=⟨N - 1,by omega⟩
   exact step (d+1) M hd hN (fun d' h b hb=>by
    obtain rfl:d=d':=by omega
    exact ih M (by omega) (by omega) b hb) a ha
def psF (r:PR Tree):denL [NodT,z16h]:=match r with
 | .bad e a=>(z19s,((e,(a:Int),()),()))
 | .ok t _=>(unN t,((0,0,()),()))
theorem z11e {N:Nat}(hN:2020<=N)(s:List UInt8):z65 N s=some (psF (zb8 s)):=by
 unfold z65 zb8;by_cases h:256<s.length
 . rw[decide_eq_true (show (256:Int)<(s.length:Int) by omega),if_pos h];rfl
 . rw[decide_eq_false (show ¬ (256:Int)<(s.length:Int) by omega),if_neg h];have hs:s.length<=256:=by omega
   have h1:=z1cq hs 16 N (Nat.le_refl _) (by omega) 0 (Nat.zero_le _);have h2:=alt_f hs 16 N (Nat.le_refl _) (by omega) 0 (Nat.zero_le _);unfold pst at h1 h2;simp only[cond_false];have e1:zo N (s,(0,(0,())))=zd5 (zfw s 16 0):=h2;have e2:zf N (s,(0,(0,())))=okP s 0 unN (zfw s 16 0):=h1;rw[e1,e2];cases hm:zfw s 16 0 with
   | bad e a=>rfl
   | ok t a =>
     simp only[okP,zd5,orP,Option.bind_some,PR.next,pst];by_cases ha:a<s.length
     . rw[decide_eq_true (show (a:Int)<(s.length:Int) by omega),if_pos ha];rfl
     . rw[decide_eq_false (show ¬ (a:Int)<(s.length:Int) by omega),if_neg ha];rfl
end
end Go.Proofs.YthgcpalmjcomlaaDoorLg
set_option linter.all false
set_option maxRecDepth 100000
namespace Go.Proofs.YthgcpalmjcomlaaDoorLg
noncomputable section
open Go Go.Lift Go.Proofs.YthgcpalmjcomlaaDoorPx
theorem zs1 {s:List Int} (hs:SetOk s) (h1:zhv s=1):∃ b:Nat,b<256/\zak s 256 0=(b:Int)/\s=z9e b:=by
 have hl:=zit s 256 0;simp only[Nat.zero_add] at hl;have hz:(zkv s 256 0).length=1:=hl.trans h1;obtain⟨c,hcl⟩:=List.length_eq_one_iff.1 hz;have hm:=(zgu s 256 0 c).1 (by rw[hcl];exact List.mem_singleton.2 rfl);have hall:∀ i,i<256->hasS s i=decide (i=c):=fun i hi=>by
  by_cases e:i=c
  . rw[e,decide_eq_true rfl];exact hm.2.2
  . rw[decide_eq_false e];cases hh:hasS s i with
    | false=>rfl
    | true =>
      have:=(zgu s 256 0 i).2 ⟨by omega,by omega,hh⟩;rw[hcl] at this;exact absurd (List.mem_singleton.1 this) e
 refine⟨c,by omega,zli hm.2.2 256 0 (by omega) (by omega) (fun i h3 h4=>by rw[hall i (by omega),decide_eq_false (by omega)]),?_⟩;obtain⟨d1,d2⟩:=zk4 (lo:=c) (hi:=c) (Nat.le_refl _) (by omega);rw[show c+1 - c=1 by omega] at d1 d2;exact zef hs d1 (fun i hi=>by rw[hall i hi];show _=hasS (ofS 1 c z4) i;rw[d2 i hi];exact decide_eq_decide.2 (by omega))
theorem z1bt {s:List Int}(hs:SetOk s)(h:zhv s=256):s=ofS 256 0 z4:=by
 obtain⟨d1,d2⟩:=zk4 (lo:=0) (hi:=255) (by omega) (by omega);exact zef hs d1 (fun i hi=>by rw[zqz 256 h i hi];have:=d2 i hi;rw[this,decide_eq_true (by omega)])
theorem zz1:ofS 10 48 z4=[287948901175001088,0,0,0]:=by kernel_rfl
theorem z109:z1dg zbp z4=[287948901175001088,576460745995190270,0,0]:=by kernel_rfl
theorem z13i {S:List UInt8}{a:Nat}(h94:isB S a 94=false)(h93:isB S a 93=false):zba S a=z79 S (S.length+2) a z4:=by
 unfold zba;rw[h94,if_neg (by decide)];show _=(if isB S a 93=true then _ else _)
 rw[h93,if_neg (by decide)];cases hi:ze5 S a with
 | bad e b=>rfl
 | ok t a1 =>
   rw[z1f,z1f];have ht:SetOk t:=zdg hi;have ho:orS z4 t=t:=zef (z11f z5a ht) ht (fun b hb=>by rw[show z4=[0,0,0,0] from rfl,z17l z5a ht hb,zbl,Bool.false_or]);rw[ho];cases z79 S (S.length+1) a1 t<;>rfl
theorem z14h:([91,94,92,120,48,48,45,92,120,102,102,93]:List UInt8)=91::94::((z9u brkB 0++[45]++z9u brkB 255)++[93]):=by decide +kernel
theorem z1ep {S:List UInt8}{a:Nat}{s:List Int}(sub:Option (Nat->PR Tree))(hs:SetOk s)(h:At S a (zyn s)):z9s sub S a=.ok (z14b s) (a+(zyn s).length):=by
 unfold zyn at h ⊢;by_cases h1:zhv s=1
 . rw[if_pos h1] at h ⊢;obtain⟨b,hb,hl,e⟩:=zs1 hs h1;rw[hl,Int.toNat_natCast] at h ⊢;rw[z13z sub hb h,<- e]
 rw[if_neg h1] at h ⊢;by_cases h2:zhv s=256
 . rw[if_pos h2] at h ⊢;unfold z9s;rw[h.2.1,if_neg (by decide),if_pos (by decide),<- z1bt hs h2];rfl
 rw[if_neg h2] at h ⊢;by_cases h3:s=[287948901175001088,0,0,0]
 . rw[if_pos h3] at h ⊢;unfold z9s zqm;rw[h.2.1,if_neg (by decide),if_neg (by decide),if_neg (by decide),if_pos (by decide),nxt h.2.2];simp only[z1f];rw[if_pos (show (100:UInt8).toNat=100 by decide),z1f,zz1,h3];rfl
 rw[if_neg h3] at h ⊢;by_cases h4:s=[287948901175001088,576460745995190270,0,0]
 . rw[if_pos h4] at h ⊢;unfold z9s zqm;rw[h.2.1,if_neg (by decide),if_neg (by decide),if_neg (by decide),if_pos (by decide),nxt h.2.2];simp only[z1f];rw[if_neg (show ¬ (119:UInt8).toNat=100 by decide),if_pos (show (119:UInt8).toNat=119 by decide),z1f,z109,h4];rfl
 rw[if_neg h4] at h ⊢;by_cases h5:zhv s=0
 . rw[if_pos h5] at h ⊢;have hz:=zxx hs h5;have hlen:([91,94,92,120,48,48,45,92,120,102,102,93]:List UInt8).length=12:=rfl;have hl9:(z9u brkB 0++[(45:UInt8)]++z9u brkB 255).length=9:=by decide +kernel
   rw[hlen];rw[z14h] at h;obtain⟨g1,g2⟩:=h.2.2.2.2.app;unfold z9s zba;rw[h.2.1,if_neg (by decide),if_neg (by decide),if_pos (by decide),isb h.2.2,show decide ((94:UInt8).toNat=94)=true by decide,if_pos rfl,zpg (by omega) (by omega) g1,z1f];rw[z79,isb g2,if_pos (show decide ((93:UInt8).toNat=93)=true by decide),z1f,if_pos rfl,z1f];have hno:ztg (ofS (255+1 - 0) 0 z4)=s:=by
    obtain⟨d1,d2⟩:=zk4 (lo:=0) (hi:=255) (by omega) (by omega);refine zef (zwu d1) hs (fun i hi=>?_);rw[zuq d1 hi,d2 i hi,hz,zbl,decide_eq_true (by omega)];rfl
   rw[hno,hl9]
 rw[if_neg h5] at h ⊢;rw[List.append_assoc] at h;have h6:At S (a+1) (RT (hasS s) 0++[93]):=h.2.2;have hne:RT (hasS s) 0≠[]:=by
  rcases zes s 256 0 with⟨c,g1,g2,g3,g4,g5⟩|⟨g1,g2⟩
  . have:=(zya (f:=hasS s) (c:=c) (by omega) g4 (fun i hi=>g5 i (by omega) hi)).2;obtain⟨U,hU⟩:=zi1 (lo:=c) (hi:=zcx (hasS s) (256 - c) c - 1) (by omega);obtain⟨c1,C1,hc1,_⟩:=zj6 (b:=c) (by omega);rw[this,hU,hc1];simp
  . exfalso;apply h5;have:s=[0,0,0,0]:=zef hs z5a (fun b hb=>by rw[g2 b (by omega) (by omega),zbl]);rw[this];exact z13c (s:=s)
 rcases zwd (hasS s) 256 0 rfl with e|⟨b,U,hb,e⟩
 . exact absurd e hne
 obtain⟨c1,C1,hc1,_,q93,q94⟩:=zj6 hb;have h7:=h6;rw[e,hc1] at h7;have i94:isB S (a+1) 94=false:=by rw[isb h7];exact decide_eq_false (fun e=>q94 (UInt8.toNat_inj.1 e))
 have i93:isB S (a+1) 93=false:=by rw[isb h7];exact decide_eq_false (fun e=>q93 (UInt8.toNat_inj.1 e))
 unfold z9s;rw[h.2.1,if_neg (by decide),if_neg (by decide),if_pos (by decide),z13i i94 i93];have hlow:z15c s 0 z4:=⟨z5a,fun i hi=>by rw[show z4=[0,0,0,0] from rfl,zbl,decide_eq_false (by omega),Bool.and_false]⟩
 have hit:=zj5 hs 257 0 (S.length+2) (a+1) z4 (by omega) (by omega) hlow h6;rw[hit,z1f];congr 1;simp only[List.length_append,List.length_cons,List.length_nil];omega
theorem zsx {n:Nat}(h:n<10):zib (UInt8.ofNat (48+n)).toNat=true/\(UInt8.ofNat (48+n)).toNat=48+n:=by
 have:=of8 (b:=48+n) (by omega);rw[this];refine⟨?_,rfl⟩;unfold zib;rw[decide_eq_true (by omega),decide_eq_true (by omega)];rfl
theorem zq3 {S:List UInt8}{k a v:Nat}{c:UInt8}{T:List UInt8}(h:At S a (c::T))(hd:zib c.toNat=true):z7d S (k+1) a v=z7d S k (a+1) (min (10*v+(c.toNat - 48)) 17):=by
 rw[z7d,if_pos ⟨h.1,by rw[h.2.1];exact hd⟩,h.2.1]
theorem zwj {S:List UInt8}{k a v:Nat}{c:UInt8}{T:List UInt8}(h:At S a (c::T))(hd:zib c.toNat=false):z7d S (k+1) a v=(v,a):=by
 rw[z7d,if_neg (fun e=>by rw[h.2.1,hd] at e;exact absurd e.2 (by decide))]
theorem zwp {S:List UInt8}{a n:Nat}{c:UInt8}{T:List UInt8}(hn:n<=16)(h:At S a (zuk n++c::T))(hc:zib c.toNat=false):zrm S a=.ok n (a+(zuk n).length):=by
 have hle:=h.le;rw[List.length_append,List.length_cons] at hle;unfold zuk at h hle ⊢;by_cases h1:n<10
 . rw[if_pos h1] at h hle ⊢;obtain⟨d1,d2⟩:=zsx h1;obtain⟨k,hk⟩:∃ k,S.length=k+1:=⟨S.length - 1,by simp only[List.length_cons,List.length_nil] at hle;omega⟩
   have hs:z7d S (S.length+1) a 0=(n,a+1):=by
    rw[hk,zq3 h d1,d2,zwj h.2.2 hc,show min (10*0+(48+n - 48)) 17=n by omega]
   unfold zrm;rw[nxt h];simp only[z1f];rw[d1,if_pos rfl,hs,if_neg (by simp),if_neg (by simp only;omega)];rfl
 . rw[if_neg h1] at h hle ⊢;obtain⟨d1,d2⟩:=zsx (n:=n / 10) (by omega);obtain⟨d3,d4⟩:=zsx (n:=n % 10) (by omega);obtain⟨k,hk⟩:∃ k,S.length=k+2:=⟨S.length - 2,by simp only[List.length_cons,List.length_nil] at hle;omega⟩
   have hs:z7d S (S.length+1) a 0=(n,a+2):=by
    rw[hk,zq3 h d1,d2,zq3 h.2.2 d3,d4,zwj h.2.2.2.2 hc,show min (10*min (10*0+(48+n / 10 - 48)) 17+(48+n % 10 - 48)) 17=n by omega]
   unfold zrm;rw[nxt h];simp only[z1f];rw[d1,if_pos rfl,hs,if_neg (fun e=>by rw[d2] at e;omega),if_neg (by simp only;omega)];rfl
theorem z17r {S:List UInt8}{a lo hi fr:Nat}{T:List UInt8}(h:At S a (125::T))(h1:1<=hi)(h2:lo<=hi):zwz S lo hi fr a=.ok ((lo:Int),(hi:Int)) (a+1):=by
 unfold zwz zco;rw[if_neg (by omega),nxt h];simp only[z1f];rw[if_pos (show (125:UInt8).toNat=125 by decide),z1f]
def NR (S:List UInt8)(b:Nat):Prop:=b<S.length->gb S b≠43/\gb S b≠42/\gb S b≠63/\gb S b≠123
theorem zys {S:List UInt8}{a b:Nat}{sub:Option (Nat->PR Tree)}{y:Tree}(ha:z9s sub S a=.ok y b)(h:NR S b):zb7 sub S a=.ok y b:=by
 unfold zb7;rw[ha,z1f];by_cases hb:b<S.length
 . obtain⟨g1,g2,g3,g4⟩:=h hb;rw[if_pos hb,if_neg g1,if_neg g2,if_neg g3,if_neg g4]
 . rw[if_neg hb]
theorem z117 {S:List UInt8}{a b:Nat}{sub:Option (Nat->PR Tree)}{y:Tree}{lo hi:Int}(ha:z9s sub S a=.ok y b)(ht:zkj lo hi=true)(h:At S b (zbb lo hi)) :
 zb7 sub S a=.ok (z14a y lo hi) (b+(zbb lo hi).length):=by
 unfold zkj at ht;rw[decide_eq_true_eq] at ht;unfold zb7;rw[ha,z1f];unfold zbb at h ⊢;by_cases c1:lo=0/\hi=-1
 . rw[if_pos c1] at h ⊢;rw[if_pos h.1,h.2.1,if_neg (by decide),if_pos (by decide),c1.1,c1.2];rfl
 rw[if_neg c1] at h ⊢;by_cases c2:lo=1/\hi=-1
 . rw[if_pos c2] at h ⊢;rw[if_pos h.1,h.2.1,if_pos (by decide),c2.1,c2.2];rfl
 rw[if_neg c2] at h ⊢;by_cases c3:lo=0/\hi=1
 . rw[if_pos c3] at h ⊢;rw[if_pos h.1,h.2.1,if_neg (by decide),if_neg (by decide),if_pos (by decide),c3.1,c3.2];rfl
 rw[if_neg c3] at h ⊢;obtain⟨l,rfl⟩:∃ l:Nat,lo=(l:Int):=⟨lo.toNat,by omega⟩
 rw[Int.toNat_natCast] at h ⊢;by_cases c4:hi=(l:Int)
 . rw[if_pos c4] at h ⊢;subst c4;rw[List.append_assoc] at h;have g1:At S (b+1) (zuk l++[125]):=h.2.2;have g2:=g1.app.2;rw[if_pos h.1,show gb S b=(123:UInt8).toNat from h.2.1,if_neg (by decide),if_neg (by decide),if_neg (by decide),if_pos (by decide)];unfold z9n;rw[zwp (by omega) g1 (by decide),z1f,isb g2,if_neg (show ¬ decide ((125:UInt8).toNat=44)=true by decide),z17r g2 (by omega) (Nat.le_refl _),z1f];congr 1;simp only[List.length_append,List.length_cons,List.length_nil];omega
 rw[if_neg c4] at h ⊢;by_cases c5:hi=-1
 . rw[if_pos c5] at h ⊢;rw[List.append_assoc] at h;have g1:At S (b+1) (zuk l++[44,125]):=h.2.2;have g2:=g1.app.2;rw[if_pos h.1,show gb S b=(123:UInt8).toNat from h.2.1,if_neg (by decide),if_neg (by decide),if_neg (by decide),if_pos (by decide)];unfold z9n;rw[zwp (by omega) g1 (by decide),z1f,isb g2,if_pos (show decide ((44:UInt8).toNat=44)=true by decide),isb g2.2.2,if_pos (show decide ((125:UInt8).toNat=125)=true by decide),z1f,c5];congr 1;simp only[List.length_append,List.length_cons,List.length_nil];omega
 rw[if_neg c5] at h ⊢;obtain⟨m,rfl⟩:∃ m:Nat,hi=(m:Int):=⟨hi.toNat,by omega⟩
 rw[Int.toNat_natCast] at h ⊢;rw[List.append_assoc,List.append_assoc,List.append_assoc] at h;have g1:At S (b+1) (zuk l++44::(zuk m++[125])):=h.2.2;have g2:=g1.app.2;have g3:=g2.2.2.app.2;have hd:∃ c U,zuk m++[125]=c::U/\c≠125:=by
  unfold zuk;split
  . refine⟨_,_,rfl,fun e=>?_⟩;have:=(zsx (n:=m) (by assumption)).2;rw[e] at this;have:(125:Nat)=48+m:=this;omega
  . refine⟨_,_,rfl,fun e=>?_⟩;have:=(zsx (n:=m / 10) (by omega)).2;rw[e] at this;have:(125:Nat)=48+m / 10:=this;omega
 obtain⟨c,U,hcU,hc⟩:=hd;have g4:=g2.2.2;rw[hcU] at g4;rw[if_pos h.1,show gb S b=(123:UInt8).toNat from h.2.1,if_neg (by decide),if_neg (by decide),if_neg (by decide),if_pos (by decide)];unfold z9n;rw[zwp (by omega) g1 (by decide),z1f,isb g2,if_pos (show decide ((44:UInt8).toNat=44)=true by decide),isb g4,if_neg (show ¬ decide (c.toNat=125)=true from fun e=>hc (UInt8.toNat_inj.1 (of_decide_eq_true e))),zwp (by omega) g2.2.2 (by decide),z1f,z17r g3 (by omega) (by omega),z1f];congr 1;simp only[List.length_append,List.length_cons,List.length_nil];omega
end
end Go.Proofs.YthgcpalmjcomlaaDoorLg
set_option linter.all false
set_option maxRecDepth 100000
namespace Go.Proofs.YthgcpalmjcomlaaDoorLg
noncomputable section
open Go Go.Lift Go.Proofs.YthgcpalmjcomlaaDoorPx
def Hd (T:List UInt8):Prop:=∃ c U,T=c::U/\c≠124/\c≠41/\c≠43/\c≠42/\c≠63/\c≠123
theorem Hd.app {T U:List UInt8}(h:Hd T):Hd (T++U):=by
 obtain⟨c,V,rfl,h⟩:=h;exact⟨c,V++U,rfl,h⟩
theorem z14u:((List.range 256).all fun b=>match z9u spcB b with|[]=>false|c::_=>c != 124 && c != 41 && c != 43 && c != 42 && c != 63 && c != 123)=true:=by decide +kernel
theorem z177 (s:List Int) (hs:SetOk s):Hd (zyn s):=by
 unfold zyn;by_cases h1:zhv s=1
 . rw[if_pos h1];obtain⟨b,hb,hl,_⟩:=zs1 hs h1;rw[hl,Int.toNat_natCast];have ht:=zft z14u hb;cases he:z9u spcB b with
   | nil=>rw[he] at ht;cases ht
   | cons c U =>
     rw[he] at ht;simp only[Bool.and_eq_true,bne_iff_ne,ne_eq] at ht;exact⟨c,U,rfl,ht.1.1.1.1.1,ht.1.1.1.1.2,ht.1.1.1.2,ht.1.1.2,ht.1.2,ht.2⟩
 rw[if_neg h1];split
 . exact⟨_,_,rfl,by decide⟩
 . split
   . exact⟨_,_,rfl,by decide⟩
   . split
     . exact⟨_,_,rfl,by decide⟩
     . split
       . exact⟨_,_,rfl,by decide⟩
       . exact⟨91,RT (hasS s) 0++[93],(List.append_assoc _ _ _).trans List.singleton_append,by decide⟩
theorem z179 (s:List UInt8):Hd (zoi true s):=by
 unfold zoi;rw[if_pos rfl];exact⟨_,_,rfl,by decide⟩
theorem z30 {k:Int}{st:List Int}{ks:List Tree}{lo hi:Int}(h:zb1 (.mk k st ks lo hi)=true):shT k st ks lo hi=true/\∀ x∈ks,zb1 x=true:=by
 rw[zb1,Bool.and_eq_true] at h;refine⟨h.1,?_⟩;have:∀ ks:List Tree,zm4 ks=true->∀ x∈ks,zb1 x=true:=by
  intro ks
  induction ks with
  | nil=>intro _ x hx;cases hx
  | cons y ys ih =>
    intro h x hx;rw[zm4,Bool.and_eq_true] at h;rcases List.mem_cons.1 hx with rfl|hx
    . exact h.1
    . exact ih h.2 x hx
 exact this ks h.2
theorem zbf {k:Int}{st:List Int}{ks:List Tree}{lo hi:Int}(h:shT k st ks lo hi=true) :
 (k=1/\ks=[]/\lo=0/\hi=0)\/(k=2/\st=z4/\lo=0/\hi=0/\ks.length≠1/\∀ x∈ks,z2b x≠2)\/(k=3/\st=z4/\lo=0/\hi=0/\2<=ks.length/\∀ x∈ks,z2b x≠3)\/(k=4/\st=z4/\(∃ y,ks=[y])/\zkj lo hi=true):=by
 unfold shT at h;by_cases h1:k=1
 . rw[if_pos h1] at h;simp only[Bool.and_eq_true,beq_iff_eq] at h;exact .inl ⟨h1,List.length_eq_zero_iff.1 h.1,h.2.1,h.2.2⟩
 rw[if_neg h1] at h;by_cases h2:k=2
 . rw[if_pos h2] at h;simp only[Bool.and_eq_true,beq_iff_eq,bne_iff_ne,ne_eq,Bool.not_eq_true',List.any_eq_false] at h;exact .inr (.inl ⟨h2,h.1,h.2.1,h.2.2.1,h.2.2.2.1,fun x hx=>by simpa using h.2.2.2.2 x hx⟩)
 rw[if_neg h2] at h;by_cases h3:k=3
 . rw[if_pos h3] at h;simp only[Bool.and_eq_true,beq_iff_eq,decide_eq_true_eq,Bool.not_eq_true',List.any_eq_false] at h;exact .inr (.inr (.inl ⟨h3,h.1,h.2.1,h.2.2.1,h.2.2.2.1,fun x hx=>by simpa using h.2.2.2.2 x hx⟩))
 rw[if_neg h3] at h;by_cases h4:k=4
 . rw[if_pos h4] at h;simp only[Bool.and_eq_true,beq_iff_eq] at h;exact .inr (.inr (.inr ⟨h4,h.1,List.length_eq_one_iff.1 h.2.1,h.2.2⟩))
 . rw[if_neg h4] at h;cases h
theorem zcu {k:Int}{st:List Int}{ks:List Tree}{lo hi:Int}(h:WfN (.mk k st ks lo hi)):SetOk st/\∀ x∈ks,WfN x:=by
 rw[WfN] at h;exact⟨z14x h.2.1,(WfNs_all ks).1 h.2.2.1.2⟩
theorem zmg {x:Tree}{ks:List Tree}{k:Int}{st:List Int}{lo hi:Int}(h:x∈ks):z1z x<z1z (.mk k st ks lo hi):=by
 have:=zgz h;rw[z1z];omega
def EndA (S:List UInt8)(b:Nat):Prop:=b=S.length\/(b<S.length/\gb S b=41)
def EndC (S:List UInt8)(b:Nat):Prop:=b=S.length\/(b<S.length/\(gb S b=41\/gb S b=124))
theorem EndA.c {S:List UInt8}{b:Nat}(h:EndA S b):EndC S b:=by
 rcases h with h|h
 . exact .inl h
 . exact .inr ⟨h.1,.inl h.2⟩
theorem EndC.nr {S:List UInt8}{b:Nat}(h:EndC S b):NR S b:=by
 intro hb;rcases h with h|⟨_,h|h⟩
 . omega
 . rw[h];decide
 . rw[h];decide
theorem EndC.stop {S:List UInt8}{b:Nat}(h:EndC S b):zd6 S b=true:=by
 unfold zd6;rcases h with h|⟨h0,h|h⟩
 . rw[decide_eq_false (by omega)];rfl
 . rw[h,decide_eq_true h0];rfl
 . rw[h,decide_eq_true h0];rfl
theorem Hd.nr {S:List UInt8}{a:Nat}{T:List UInt8}(h:Hd T)(ha:At S a T):NR S a/\zd6 S a=false:=by
 obtain⟨c,U,rfl,h1,h2,h3,h4,h5,h6⟩:=h;have n:∀ d:UInt8,c≠d->c.toNat≠d.toNat:=fun d h e=>h (UInt8.toNat_inj.1 e)
 refine⟨fun _=>?_,?_⟩
 . rw[ha.2.1];exact⟨n 43 h3,n 42 h4,n 63 h5,n 123 h6⟩
 . unfold zd6;have n1:c.toNat≠124:=n 124 h1;have n2:c.toNat≠41:=n 41 h2;rw[ha.2.1,decide_eq_true ha.1,beq_eq_false_iff_ne.2 n1,beq_eq_false_iff_ne.2 n2];rfl
def z1e4 (t:Tree):Prop:=∀ (S:List UInt8) (d a:Nat),zja t<=d->At S a (zbd t)->EndA S (a+(zbd t).length)->zfw S d a=.ok t (a+(zbd t).length)
def Good (x:Tree):Prop:=WfN x/\zb1 x=true
theorem z140 {m:Nat}(H:∀ y,z1z y<=m->Good y->z1e4 y){y:Tree}{e:Bool}(hg:Good y)(hm:e=true->z1z y<=m)(he:e=false->z2b y=1){S:List UInt8}{d a:Nat}(hd:zja y+e.toNat<=d)
 (h:At S a (zoi e (zbd y))):z9s (zdn S d) S a=.ok y (a+(zoi e (zbd y)).length):=by
 cases e with
 | false =>
   obtain⟨k,st,ks,lo,hi⟩:=y;have hk:k=1:=he rfl;subst hk;obtain⟨w1,_⟩:=zcu hg.1;rcases zbf (z30 hg.2).1 with⟨_,rfl,rfl,rfl⟩|⟨q,_⟩|⟨q,_⟩|⟨q,_⟩
   . have e1:zbd (.mk 1 st [] 0 0)=zyn st:=by rw[zbd,zfv,z12t,if_pos rfl];rfl
     rw[zoi,if_neg (by decide),e1] at h ⊢;exact z1ep _ w1 h
   all_goals exact absurd q (by decide)
 | true =>
   rw[zoi,if_pos rfl] at h ⊢;rw[List.append_assoc] at h;have h1:At S (a+1) (zbd y++[41]):=h.2.2;obtain⟨h2,h3⟩:=h1.app;obtain⟨d',rfl⟩:∃ d',d=d'+1:=⟨d - 1,by simp only[Bool.toNat_true] at hd;omega⟩
   have ih:=H y (hm rfl) hg S d' (a+1) (by simp only[Bool.toNat_true] at hd;omega) h2 (.inr ⟨h3.1,h3.2.1⟩);unfold z9s;rw[show gb S a=(40:UInt8).toNat from h.2.1,if_pos (by decide)];show (zfw S d' (a+1)).next _=_;rw[ih,z1f];unfold zco;rw[nxt h3];simp only[z1f];rw[if_pos (show (41:UInt8).toNat=41 by decide),z1f];congr 1;simp only[List.length_append,List.length_cons,List.length_nil];omega
def zfm (x:Tree):List UInt8:=zoi (decide (z2b x=3)) (zbd x)
theorem z111 (st:List Int)(y:Tree)(lo hi:Int):zbd (.mk 4 st [y] lo hi)=zoi (decide (z2b y≠1)) (zbd y)++zbb lo hi:=by
 rw[zbd,zfv,zfv,z12t,if_neg (by decide),if_pos rfl,List.append_nil];have e1:zpn 4 0=[]:=by unfold zpn;rw[if_neg (by decide)]
 have e2:zal 4 (z2b y)=decide (z2b y≠1):=by unfold zal;exact decide_eq_decide.2 (by omega)
 rw[e1,e2];rfl
theorem zwl {x:Tree} (hg:Good x) (h2:z2b x≠2):Hd (zfm x):=by
 obtain⟨k,st,ks,lo,hi⟩:=x;obtain⟨w1,w2⟩:=zcu hg.1;unfold zfm;rcases zbf (z30 hg.2).1 with⟨rfl,rfl,rfl,rfl⟩|⟨q,_⟩|⟨rfl,_⟩|⟨rfl,rfl,⟨y,rfl⟩,_⟩
 . have e1:zbd (.mk 1 st [] 0 0)=zyn st:=by rw[zbd,zfv,z12t,if_pos rfl];rfl
   rw[show decide (z2b (Tree.mk 1 st [] 0 0)=3)=false from rfl,zoi,if_neg (by decide),e1];exact z177 st w1
 . exact absurd q h2
 . exact z179 _
 . rw[show decide (z2b (Tree.mk 4 z4 [y] lo hi)=3)=false from rfl,zoi,if_neg (by decide),z111];refine Hd.app ?_;by_cases h1:z2b y=1
   . obtain⟨k',st',ks',lo',hi'⟩:=y;have hk:k'=1:=h1;subst hk;have hy:=(z30 hg.2).2 _ (List.mem_singleton.2 rfl);obtain⟨v1,_⟩:=zcu (w2 _ (List.mem_singleton.2 rfl));rcases zbf (z30 hy).1 with⟨_,rfl,rfl,rfl⟩|⟨q,_⟩|⟨q,_⟩|⟨q,_⟩
     . have e1:zbd (.mk 1 st' [] 0 0)=zyn st':=by rw[zbd,zfv,z12t,if_pos rfl];rfl
       rw[decide_eq_false (by simpa using h1),zoi,if_neg (by decide),e1];exact z177 st' v1
     all_goals exact absurd q (by decide)
   . rw[decide_eq_true h1];exact z179 _
theorem z151 {m:Nat} (H:∀ y,z1z y<=m->Good y->z1e4 y) {x:Tree} (hg:Good x) (h2:z2b x≠2) (h3:z2b x=3->z1z x<=m) (hn:z1z x<=m+1) {S:List UInt8} {d a:Nat} (hd:zja x+(decide (z2b x=3)).toNat<=d)
 (h:At S a (zfm x)) (hnr:NR S (a+(zfm x).length)):zb7 (zdn S d) S a=.ok x (a+(zfm x).length):=by
 by_cases h4:z2b x=4
 . obtain⟨k,st,ks,lo,hi⟩:=x;have hk:k=4:=h4;subst hk;obtain⟨w1,w2⟩:=zcu hg.1;rcases zbf (z30 hg.2).1 with⟨q,_⟩|⟨q,_⟩|⟨q,_⟩|⟨_,rfl,⟨y,rfl⟩,ht⟩
   . exact absurd q (by decide)
   . exact absurd q (by decide)
   . exact absurd q (by decide)
   . have hgy:Good y:=⟨w2 _ (List.mem_singleton.2 rfl),(z30 hg.2).2 _ (List.mem_singleton.2 rfl)⟩
     have hny:=zmg (k:=4) (st:=z4) (lo:=lo) (hi:=hi) (List.mem_singleton.2 rfl:y∈[y]);unfold zfm at h hnr ⊢;rw[show decide (z2b (Tree.mk 4 z4 [y] lo hi)=3)=false from rfl] at h hnr hd ⊢;rw[zoi,if_neg (by decide),z111] at h hnr ⊢;obtain⟨g1,g2⟩:=h.app;have hdy:zja y+(decide (z2b y≠1)).toNat<=d:=by
      rw[zja,zjc,zjc] at hd;have e2:zal 4 (z2b y)=decide (z2b y≠1):=by unfold zal;exact decide_eq_decide.2 (by omega)
      rw[e2] at hd;omega
     have ha:=z140 H hgy (e:=decide (z2b y≠1)) (fun _=>by omega) (fun e=>by
      have:=of_decide_eq_false e;exact Decidable.not_not.1 this) hdy g1
     rw[z117 ha ht g2,List.length_append,Nat.add_assoc];rfl
 . have he:decide (z2b x=3)=false->z2b x=1:=fun e=>by
    have n3:=of_decide_eq_false e;obtain⟨k,st,ks,lo,hi⟩:=x;rcases zbf (z30 hg.2).1 with⟨q,_⟩|⟨q,_⟩|⟨q,_⟩|⟨q,_⟩
    . exact q
    . exact absurd q h2
    . exact absurd q n3
    . exact absurd q h4
   exact zys (z140 H hg (fun e=>h3 (of_decide_eq_true e)) he hd h) hnr
theorem zmu {k:Int}:∀ {ks:List Tree},(∀ x∈ks,z2b x≠k)->zev k ks=ks
 | [],_=>rfl
 | x::xs,h=>by
   have h1:zj0 k x=[x]:=by unfold zj0;rw[beq_eq_false_iff_ne.2 (h x List.mem_cons_self)];rfl
   have h2:=zmu (k:=k) (ks:=xs) (fun y hy=>h y (List.mem_cons_of_mem _ hy));unfold zev at h2 ⊢;rw[List.flatMap_cons,h1,h2];rfl
theorem zk0 (x:Tree)(xs:List Tree)(i:Nat):zfv (x::xs) 2 i=zfm x++zfv xs 2 (i+1):=by
 rw[zfv];have e1:zpn 2 i=[]:=by unfold zpn;rw[if_neg (by omega)]
 have e2:zal 2 (z2b x)=decide (z2b x=3):=by unfold zal;exact decide_eq_decide.2 (by omega)
 rw[e1,e2];rfl
theorem zr4 {m:Nat} (H:∀ y,z1z y<=m->Good y->z1e4 y) {S:List UInt8} {d:Nat}:∀ (ks:List Tree) (k i a:Nat) (ps:List Tree),(∀ x∈ks,Good x/\z2b x≠2/\(z2b x=3->z1z x<=m)/\z1z x<=m+1)->zjc ks 2<=d →
 At S a (zfv ks 2 i)->EndC S (a+(zfv ks 2 i).length)->S.length<a+k->zi6 (zdn S d) S k a ps=.ok (zcp 2 (ps++ks)) (a+(zfv ks 2 i).length)
 | [],k,i,a,ps,_,_,h,he,hk=>by
   rw[zfv] at h he ⊢;obtain⟨k,rfl⟩:∃ k',k=k'+1:=⟨k - 1,by have:=h.le;simp only[List.length_nil] at this;omega⟩
   rw[zi6,if_pos (show zd6 S a=true from he.stop),List.append_nil];rfl
 | x :: xs,k,i,a,ps,hx,hd,h,he,hk=>by
   obtain⟨g1,g2,g3,g4⟩:=hx x List.mem_cons_self;have hh:=zwl g1 g2;rw[zk0] at h he ⊢;obtain⟨q1,q2⟩:=h.app;have e2:zal 2 (z2b x)=decide (z2b x=3):=by unfold zal;exact decide_eq_decide.2 (by omega)
   rw[zjc,e2] at hd;rw[List.length_append,<- Nat.add_assoc] at he;have hnr:NR S (a+(zfm x).length):=by
    cases xs with
    | nil=>rw[zfv] at he;exact he.nr
    | cons y ys =>
      obtain⟨p1,p2,_⟩:=hx y (List.mem_cons_of_mem _ List.mem_cons_self);rw[zk0] at q2;exact ((zwl p1 p2).nr q2.app.1).1
   have hst:=(hh.nr q1).2;obtain⟨c,U,hU,_⟩:=hh;have hpos:0<(zfm x).length:=by rw[hU];simp
   have hle:=q1.le;obtain⟨k,rfl⟩:∃ k',k=k'+1:=⟨k - 1,by omega⟩
   rw[zi6,hst,if_neg (by decide),z151 H g1 g2 g3 g4 (by omega) q1 hnr,z1f];rw[zr4 H xs k (i+1) (a+(zfm x).length) (ps++[x]) (fun y hy=>hx y (List.mem_cons_of_mem _ hy)) (by omega) q2 he (by omega)];rw[List.append_assoc,List.length_append,Nat.add_assoc];rfl
theorem z13m {m:Nat}(H:∀ y,z1z y<=m->Good y->z1e4 y){t:Tree}(hg:Good t)(h3:z2b t≠3)(hn:z1z t<=m+1){S:List UInt8}{d a:Nat}(hd:zja t<=d)(h:At S a (zbd t))(he:EndC S (a+(zbd t).length)) :
 zi6 (zdn S d) S (S.length+1) a []=.ok t (a+(zbd t).length):=by
 by_cases h2:z2b t=2
 . obtain⟨k,st,ks,lo,hi⟩:=t;have hk:k=2:=h2;subst hk;obtain⟨w1,w2⟩:=zcu hg.1;rcases zbf (z30 hg.2).1 with⟨q,_⟩|⟨_,rfl,rfl,rfl,hl,hks⟩|⟨q,_⟩|⟨q,_⟩
   . exact absurd q (by decide)
   . have e1:zbd (.mk 2 z4 ks 0 0)=zfv ks 2 0:=by rw[zbd,z12t,if_neg (by decide),if_neg (by decide),List.append_nil]
     rw[e1] at h he ⊢;rw[zja] at hd;have:=zr4 H ks (S.length+1) 0 a [] (fun x hx=>⟨⟨w2 x hx,(z30 hg.2).2 x hx⟩,hks x hx,fun _=>by have:=zmg (k:=2) (st:=z4) (lo:=0) (hi:=0) hx;omega,by have:=zmg (k:=2) (st:=z4) (lo:=0) (hi:=0) hx;omega⟩) hd h he (by omega);rw[this];congr 1;show zcp 2 ks=_;unfold zcp;rw[zmu hks]
     match ks,hl with
     | [],_=>rfl
     | [x],h1=>exact absurd rfl h1
     | x::y::zs,_=>rfl
   . exact absurd q (by decide)
   . exact absurd q (by decide)
 . have e0:zfm t=zbd t:=by unfold zfm;rw[decide_eq_false h3,zoi,if_neg (by decide)]
   have e1:zfv [t] 2 0=zbd t:=by rw[zk0,e0,zfv,List.append_nil]
   have e2:zal 2 (z2b t)=false:=by unfold zal;exact decide_eq_false (by omega)
   rw[<- e1] at h he ⊢;rw[zr4 H [t] (S.length+1) 0 a [] (fun x hx=>by rw[List.mem_singleton.1 hx];exact⟨hg,h2,fun e=>absurd e h3,hn⟩) (by rw[zjc,zjc,e2];simp only[Bool.toNat_false];omega) h he (by omega)];congr 1;show zcp 2 [t]=t;unfold zcp;rw[zmu (ks:=[t]) (fun x hx=>by rw[List.mem_singleton.1 hx];exact h2)]
theorem z141 {m:Nat} (H:∀ y,z1z y<=m->Good y->z1e4 y) {S:List UInt8} {d:Nat}:∀ (ks:List Tree) (k i a:Nat) (ps:List Tree),0<i->(∀ x∈ks,Good x/\z2b x≠3/\z1z x<=m)->zjc ks 3<=d →
 At S a (zfv ks 3 i)->EndA S (a+(zfv ks 3 i).length)->S.length<a+k->ze6 (zdn S d) S k a ps=.ok (zcp 3 (ps++ks)) (a+(zfv ks 3 i).length)
 | [],k,i,a,ps,_,_,_,h,he,hk=>by
   rw[zfv] at h he ⊢;have hl:=h.le;obtain⟨k,rfl⟩:∃ k',k=k'+1:=⟨k - 1,by simp only[List.length_nil] at hl;omega⟩
   have hb:isB S a 124=false:=by
    unfold isB;rcases he with he|⟨_,he⟩
    . rw[decide_eq_false (by simp only[List.length_nil] at he;omega)];rfl
    . rw[show gb S a=41 from he];simp
   rw[ze6,hb,if_neg (by decide),List.append_nil];rfl
 | x :: xs,k,i,a,ps,hi,hx,hd,h,he,hk=>by
   obtain⟨g1,g2,g3⟩:=hx x List.mem_cons_self;have e1:zpn 3 i=[124]:=by unfold zpn;rw[if_pos ⟨rfl,hi⟩]
   have e2:zal 3 (z2b x)=false:=by unfold zal;exact decide_eq_false (by omega)
   have e3:zfv (x::xs) 3 i=124::(zbd x++zfv xs 3 (i+1)):=by rw[zfv,e1,e2,zoi,if_neg (by decide)];rfl
   rw[e3] at h he ⊢;rw[zjc,e2] at hd;simp only[Bool.toNat_false,Nat.add_zero] at hd;have hb:=isb h 124;obtain⟨q1,q2⟩:=h.2.2.app;have hle:=q1.le;have h0:=h.1;rw[List.length_cons,List.length_append,show a+((zbd x).length+(zfv xs 3 (i+1)).length+1)=a+1+(zbd x).length+(zfv xs 3 (i+1)).length by omega] at he ⊢;have hec:EndC S (a+1+(zbd x).length):=by
    cases xs with
    | nil=>rw[zfv] at he;exact he.c
    | cons y ys =>
      have e4:zpn 3 (i+1)=[124]:=by unfold zpn;rw[if_pos ⟨rfl,by omega⟩]
      rw[zfv,e4] at q2;exact .inr ⟨q2.1,.inr q2.2.1⟩
   obtain⟨k,rfl⟩:∃ k',k=k'+1:=⟨k - 1,by omega⟩
   rw[ze6,hb,if_pos (by decide),z13m H g1 g2 (by omega) (by omega) q1 hec,z1f];rw[z141 H xs k (i+1) (a+1+(zbd x).length) (ps++[x]) (by omega) (fun y hy=>hx y (List.mem_cons_of_mem _ hy)) (by omega) q2 he (by omega),List.append_assoc];rfl
theorem z1cr (s:List UInt8)(d a:Nat):zfw s d a=(zi6 (zdn s d) s (s.length+1) a []).next fun t a1=>ze6 (zdn s d) s (s.length+1) a1 [t]:=by
 cases d<;>rfl
theorem z17x:∀ (n:Nat) (t:Tree),z1z t<=n->Good t->z1e4 t
 | 0,t,hn,_=>by have:=zk6 t;omega
 | m + 1,t, hn,hg=>by
   intro S d a hd h he;have H:=z17x m;rw[z1cr];by_cases h3:z2b t=3
   . obtain⟨k,st,ks,lo,hi⟩:=t;have hk:k=3:=h3;subst hk;obtain⟨w1,w2⟩:=zcu hg.1;rcases zbf (z30 hg.2).1 with⟨q,_⟩|⟨q,_⟩|⟨_,rfl,rfl,rfl,hl,hks⟩|⟨q,_⟩
     . exact absurd q (by decide)
     . exact absurd q (by decide)
     . have hall:∀ x∈ks,Good x/\z2b x≠3/\z1z x<=m:=fun x hx=>⟨⟨w2 x hx,(z30 hg.2).2 x hx⟩,hks x hx,by have:=zmg (k:=3) (st:=z4) (lo:=0) (hi:=0) hx;omega⟩
       match ks,hl,hks,hall,h,he,hd with
       | x :: xs,hl,hks,hall,h,he,hd =>
         obtain⟨g1,g2,g3⟩:=hall x List.mem_cons_self;have e0:zpn 3 0=[]:=by unfold zpn;rw[if_neg (by omega)]
         have e2:zal 3 (z2b x)=false:=by unfold zal;exact decide_eq_false (by omega)
         have e1:zbd (.mk 3 z4 (x::xs) 0 0)=zbd x++zfv xs 3 1:=by
          rw[zbd,z12t,if_neg (by decide),if_neg (by decide),List.append_nil,zfv,e0,e2,zoi,if_neg (by decide)];rfl
         rw[e1] at h he ⊢;rw[zja,zjc,e2] at hd;simp only[Bool.toNat_false,Nat.add_zero] at hd;obtain⟨q1,q2⟩:=h.app;rw[List.length_append,<- Nat.add_assoc] at he ⊢;have hec:EndC S (a+(zbd x).length):=by
          cases xs with
          | nil=>rw[zfv] at he;exact he.c
          | cons y ys =>
            have e4:zpn 3 1=[124]:=by unfold zpn;rw[if_pos ⟨rfl,by omega⟩]
            rw[zfv,e4] at q2;exact .inr ⟨q2.1,.inr q2.2.1⟩
         rw[z13m H g1 g2 (by omega) (by omega) q1 hec,z1f,z141 H xs (S.length+1) 1 (a+(zbd x).length) [x] (by omega) (fun y hy=>hall y (List.mem_cons_of_mem _ hy)) (by omega) q2 he (by omega)];congr 1;show zcp 3 (x::xs)=_;unfold zcp;rw[zmu hks]
         match xs,hl with
         | [],hl=>exact absurd hl (by simp)
         | y::ys,_=>rfl
     . exact absurd q (by decide)
   . rw[z13m H hg h3 hn hd h he.c,z1f];have hb:isB S (a+(zbd t).length) 124=false:=by
      unfold isB;rcases he with he|⟨_,he⟩
      . rw[decide_eq_false (by omega)];rfl
      . rw[he];simp
     rw[ze6,hb,if_neg (by decide)];congr 1;unfold zcp;rw[zmu (ks:=[t]) (fun x hx=>by rw[List.mem_singleton.1 hx];exact h3)]
theorem zyv {t:Tree}(hg:Good t)(hl:(zbd t).length<=256)(hd:zja t<=16):zb8 (zbd t)=.ok t (zbd t).length:=by
 have h:=At.self (zbd t) ((zbd t).length - 0) 0 rfl (Nat.zero_le _);rw[List.drop_zero] at h;have:=z17x (z1z t) t (Nat.le_refl _) hg (zbd t) 16 0 hd h (.inl (by omega));rw[Nat.zero_add] at this;unfold zb8;rw[if_neg (by omega),this,z1f,if_neg (by omega)]
end
end Go.Proofs.YthgcpalmjcomlaaDoorLg
set_option linter.all false
set_option maxRecDepth 100000
namespace Go.Proofs.YthgcpalmjcomlaaDoorLg
noncomputable section
open Go Go.Lift Go.Proofs.YthgcpalmjcomlaaDoorPx
abbrev PP:=NodT.den×(List Int×(Bool×(Int×((Int×(Int×Unit))×Unit))))
def badP (e:Int)(a:Nat):PP:=(z19s,(z4,(false,((0:Int),((e,((a:Int),())),())))))
def refP {α:Type}(f:α->Nat->PP):PR α->PP
 | .bad e a=>badP e a
 | .ok x a=>f x a
def Nz {α:Type}(r:PR α):Prop:=match r with
 | .bad e _=>(e != 0)=true
 | .ok _ _=>True
theorem Nz.next {α β:Type}{r:PR α}{f:α->Nat->PR β}(h:Nz r)(hf:∀ x b,r=.ok x b->Nz (f x b)):Nz (r.next f):=by
 cases r with
 | bad e b=>exact h
 | ok x b=>exact hf x b rfl
theorem z11v {s:List UInt8}{a:Nat}(h:a<s.length):z8k s a=.ok (gb s a) a:=by unfold z8k;rw[if_pos h]
theorem zwx {s:List UInt8}{a:Nat}(h:s.length<=a):z8k s a=.bad 1 s.length:=by unfold z8k;rw[if_neg (by omega)]
end
end Go.Proofs.YthgcpalmjcomlaaDoorLg
set_option linter.all false
set_option maxRecDepth 100000
namespace Go.Proofs.YthgcpalmjcomlaaDoorLg
noncomputable section
open Go Go.Lift Go.Proofs.YthgcpalmjcomlaaDoorPx
theorem z19j {s:List UInt8}{a:Nat}(h:¬ zd6 s a=true):a<s.length:=by
 simp[zd6] at h;exact h.1
def Can (t:Tree):Prop:=(z2b t=2->(zyx t).length≠1)/\(z2b t=3->(zyx t).length≠1/\t=.mk 3 z4 (zyx t) 0 0)
def CanR (r:PR Tree):Prop:=∀ t b,r=.ok t b->Can t
theorem CanR.bad {e:Int}{x:Nat}:CanR (.bad e x):=fun t b h=>by cases h
theorem CanR.ok {t:Tree}{x:Nat}(h:Can t):CanR (.ok t x):=fun t b h=>by cases h;assumption
theorem CanR.next {α:Type}{r:PR α}{f:α->Nat->PR Tree}(h:∀ x b,r=.ok x b->CanR (f x b)):CanR (r.next f):=by
 cases r with
 | bad e b=>exact CanR.bad
 | ok x b=>exact h x b rfl
def RefR {α:Type}(f:α->Nat->PP)(r:PR α)(p:PP):Prop:=match r with
 | .bad e a=>p.2.2.2.2.1=(e,((a:Int),()))
 | .ok x a=>p=f x a
theorem RefR.of {α:Type}{f:α->Nat->PP}(r:PR α):RefR f r (refP f r):=by cases r<;>rfl
end
end Go.Proofs.YthgcpalmjcomlaaDoorLg
set_option linter.all false
set_option maxRecDepth 100000
namespace Go.Proofs.YthgcpalmjcomlaaDoorLg
noncomputable section
open Go Go.Lift Go.Proofs.YthgcpalmjcomlaaDoorPx
mutual
theorem zov:∀ a:Tree,zo9 a a=true
 | .mk k st ks lo hi=>by rw[zo9];simp[zox ks]
theorem zox:∀ a:List Tree,zoc a a=true
 | []=>by simp[zoc]
 | x::xs=>by rw[zoc,zov x,zox xs];rfl
end
end
end Go.Proofs.YthgcpalmjcomlaaDoorLg
set_option linter.all false
set_option maxRecDepth 100000
namespace Go.Proofs.YthgcpalmjcomlaaDoorLg
noncomputable section
open Go Go.Lift Go.Proofs.YthgcpalmjcomlaaDoorPx
def zlx (r:PR Tree):Tree:=match r with
 | .bad _ _=>.mk 0 z4 [] 0 0
 | .ok t _=>t
theorem z150 (r:PR Tree):(psF r).1=unN (zlx r):=by cases r<;>rfl
theorem z18i:WfN (.mk 0 z4 [] 0 0):=by
 rw[WfN];refine⟨?_,zwf z5a,?_,?_,?_⟩
 . exact zf3 (by omega) (by omega)
 . exact⟨by unfold maxLen;simp,by simp[WfNs]⟩
 . exact zf3 (by omega) (by omega)
 . exact zf3 (by omega) (by omega)
theorem zyt (s:List UInt8):WfN (zlx (zb8 s))/\z1z (zlx (zb8 s))<=1000:=by
 have hz:WfN (.mk 0 z4 [] 0 0)/\z1z (.mk 0 z4 [] 0 0)<=1000:=⟨z18i,by simp[z1z,z2j]⟩
 unfold zb8;by_cases hl:256<s.length
 . rw[if_pos hl];exact hz
 . rw[if_neg hl];have hs:s.length<=256:=by omega
   cases h:zfw s 16 0 with
   | bad e c=>exact hz
   | ok t c =>
     have hc:=z1k (zec s 16 0 (by omega)) h;have ht:=zy4 hs 16 0 (by omega) t c h;simp only[PR.next];split
     . exact hz
     . exact⟨ht.1,by have:=ht.2;show z1z t<=1000;omega⟩
end
end Go.Proofs.YthgcpalmjcomlaaDoorLg
set_option linter.all false
set_option maxRecDepth 100000
namespace Go.Proofs.YthgcpalmjcomlaaDoorLg
noncomputable section
open Go Go.Lift Go.Proofs.YthgcpalmjcomlaaDoorPx
def RgR (r:PR Tree):Prop:=∀ t b,r=.ok t b->zb1 t=true
theorem RgR.bad {e:Int}{x:Nat}:RgR (.bad e x):=fun t b h=>by cases h
theorem RgR.ok {t:Tree}{x:Nat}(h:zb1 t=true):RgR (.ok t x):=fun t b h=>by cases h;assumption
theorem RgR.next {α:Type}{r:PR α}{f:α->Nat->PR Tree}(h:∀ x b,r=.ok x b->RgR (f x b)):RgR (r.next f):=by
 cases r with
 | bad e b=>exact RgR.bad
 | ok x b=>exact h x b rfl
def zj4 (sub:Option (Nat->PR Tree))(s:List UInt8):Nat->Nat->List Tree->PR (List Tree)
 | 0,_,_=>.bad 0 0
 | k+1,a,ps=>if isB s a 124 then (zi6 sub s (s.length+1) (a+1) []).next fun t a1=>zj4 sub s k a1 (ps++[t]) else .ok ps a
theorem z11t {α β γ:Type}(r:PR α)(f:α->Nat->PR β)(g:β->Nat->PR γ):(r.next f).next g=r.next fun x a=>(f x a).next g:=by cases r<;>rfl
theorem ztd (sub:Option (Nat->PR Tree))(s:List UInt8):∀ (k a:Nat) (ps:List Tree),ze6 sub s k a ps=(zj4 sub s k a ps).next fun L b=>.ok (zcp 3 L) b
 | 0,a,ps=>rfl
 | k + 1,a,ps=>by
   rw[ze6,zj4];split
   . rw[z11t];congr 1
     funext t a1
     exact ztd sub s k a1 _
   . rfl
structure Cx (s S:List UInt8) (p:Nat):Prop where
 len:s.length+p<=S.length
 at_:∀ a,a<s.length->gb S (a+p)=gb s a
 end_:s.length+p<S.length->gb S (s.length+p)=41\/gb S (s.length+p)=124
def Lf {α:Type}(p:Nat)(r r':PR α):Prop:=∀ x b,r=.ok x b->r'=.ok x (b+p)
theorem Lf.next {α β:Type}{p:Nat}{r r':PR α}{f f':α->Nat->PR β}(h:Lf p r r')(hf:∀ x b,r=.ok x b->Lf p (f x b) (f' x (b+p))):Lf p (r.next f) (r'.next f'):=by
 cases hr:r with
 | bad e c=>intro x b e;cases e
 | ok x b=>rw[h x b hr];exact hf x b hr
theorem Lf.bad {α:Type}{p:Nat}{e:Int}{a:Nat}{r':PR α}:Lf p (.bad e a) r':=fun x b h=>by cases h
theorem Lf.ok {α:Type}{p:Nat}{x:α}{a:Nat}:Lf p (.ok x a) (.ok x (a+p)):=fun y b h=>by cases h;rfl
variable {s S:List UInt8} {p:Nat}
theorem Cx.next (h:Cx s S p)(a:Nat):Lf p (z8k s a) (z8k S (a+p)):=by
 rcases Nat.lt_or_ge a s.length with hl|hl
 . have:=h.len;rw[z11v hl,z11v (show a+p<S.length by omega),h.at_ a hl];exact Lf.ok
 . rw[zwx hl];exact Lf.bad
theorem Cx.isb (h:Cx s S p) {a b:Nat} (ha:a<=s.length) (hb:b≠41/\b≠124):isB S (a+p) b=isB s a b:=by
 have:=h.len;unfold isB;rcases Nat.lt_or_ge a s.length with hl|hl
 . rw[decide_eq_true hl,decide_eq_true (show a+p<S.length by omega),h.at_ a hl]
 . obtain rfl:a=s.length:=by omega
   rw[decide_eq_false (show ¬ s.length<s.length by omega)];rcases Nat.lt_or_ge (s.length+p) S.length with h2|h2
   . have:=h.end_ h2;have e:(gb S (s.length+p) == b)=false:=by
      rw[beq_eq_false_iff_ne];omega
     rw[e];simp
   . rw[decide_eq_false (by omega)];rfl
theorem Cx.isb_t (h:Cx s S p){a b:Nat}(e:isB s a b=true):isB S (a+p) b=true:=by
 have:=h.len;simp[isB] at e;have q:=h.at_ a e.1;simp[isB,q,e.2];omega
theorem Cx.isb_in (h:Cx s S p){a b:Nat}(ha:a<s.length):isB S (a+p) b=isB s a b:=by
 have:=h.len;unfold isB;rw[decide_eq_true ha,decide_eq_true (show a+p<S.length by omega),h.at_ a ha]
theorem Cx.need (h:Cx s S p)(a b:Nat):Lf p (zco s a b) (zco S (a+p) b):=by
 refine (h.next a).next fun c a1 _=>?_
 split
 . rw[show a1+p+1=a1+1+p by omega];exact Lf.ok
 . exact Lf.bad
theorem Cx.hex (h:Cx s S p)(fr fr' a:Nat):Lf p (zth s fr a) (zth S fr' (a+p)):=by
 refine (h.next a).next fun c a1 _=>?_
 split
 . rw[show a1+p+1=a1+1+p by omega];exact Lf.ok
 split
 . rw[show a1+p+1=a1+1+p by omega];exact Lf.ok
 . exact Lf.bad
theorem Cx.esc (h:Cx s S p)(a:Nat):Lf p (zqm s a) (zqm S (a+p)):=by
 unfold zqm;rw[show a+p+1=a+1+p by omega,show a+p+2=a+2+p by omega];refine (h.next (a+1)).next fun c a1 _=>?_
 split
 . exact Lf.ok
 split
 . exact Lf.ok
 split
 . exact (h.hex a (a+p) (a+2)).next fun x a2 _=>(h.hex a (a+p) a2).next fun y a3 _=>Lf.ok
 split
 . exact Lf.ok
 . exact Lf.bad
theorem Cx.sign (h:Cx s S p)(a:Nat):Lf p (zgh s a) (zgh S (a+p)):=by
 refine (h.next a).next fun c a1 _=>?_
 split
 . exact h.esc a
 split
 . exact Lf.bad
 . rw[show a+p+1=a+1+p by omega];exact Lf.ok
theorem Cx.item (h:Cx s S p)(a:Nat):Lf p (ze5 s a) (ze5 S (a+p)):=by
 refine (h.sign a).next fun r a1 e=>?_
 have hc:=z1k (zgy s a) e;rw[h.isb hc.2 (by decide),show a1+p+1=a1+1+p by omega];split
 . exact Lf.ok
 . refine (h.sign (a1+1)).next fun q a2 _=>?_
   split
   . exact Lf.bad
   . exact Lf.ok
theorem Cx.items (h:Cx s S p):∀ (k k' a:Nat) (acc:List Int),a<=s.length->k<=k'->Lf p (z79 s k a acc) (z79 S k' (a+p) acc)
 | 0,k',a,acc,ha,hk=>Lf.bad
 | k + 1,k',a,acc,ha,hk=>by
   obtain⟨j,rfl⟩:∃ j,k'=j+1:=⟨k' - 1,by omega⟩
   unfold z79;rw[h.isb ha (by decide),show a+p+1=a+1+p by omega];split
   . exact Lf.ok
   . refine (h.item a).next fun t a1 e=>?_
     exact Cx.items h k j a1 _ (z1k (z9t s a) e).2 (by omega)
theorem Cx.cls (h:Cx s S p){a:Nat}(ha:a<=s.length):Lf p (zba s a) (zba S (a+p)):=by
 have hl:=h.len;unfold zba;rw[h.isb ha (by decide),show (if isB s a 94=true then a+p+1 else a+p)=(if isB s a 94=true then a+1 else a)+p by split<;>omega];refine (h.item _).next fun t a1 e=>?_
 refine (h.items _ _ a1 t (z1k (z9t s _) e).2 (by omega)).next fun acc a2 _=>Lf.ok
theorem Cx.scan (h:Cx s S p):∀ (k k' a v:Nat),a<=s.length->s.length<a+k->k<=k'->z7d S k' (a+p) v=((z7d s k a v).1,(z7d s k a v).2+p)
 | 0,k',a,v,h1,h2,h3=>by omega
 | k + 1,k',a,v,h1,h2,h3=>by
   have hl:=h.len;obtain⟨j,rfl⟩:∃ j,k'=j+1:=⟨k' - 1,by omega⟩
   rw[z7d,z7d];rcases Nat.lt_or_ge a s.length with hlt|hge
   . rw[h.at_ a hlt];by_cases hd:zib (gb s a)=true
     . rw[if_pos ⟨(by omega:a+p<S.length),hd⟩,if_pos ⟨hlt,hd⟩,show a+p+1=a+1+p by omega];exact Cx.scan h k j (a+1) _ (by omega) (by omega) (by omega)
     . rw[if_neg (fun q=>hd q.2),if_neg (fun q=>hd q.2)]
   . obtain rfl:a=s.length:=by omega
     rw[if_neg (fun q=>by
      have:=h.end_ q.1;have q2:=q.2;rcases this with e|e<;>(rw[e] at q2;exact absurd q2 (by decide)))]
     rw[if_neg (fun q=>absurd q.1 (by omega))]
theorem Cx.num (h:Cx s S p){a:Nat}(ha:a<=s.length):Lf p (zrm s a) (zrm S (a+p)):=by
 have hl:=h.len;unfold zrm;rw[h.scan (s.length+1) (S.length+1) a 0 ha (by omega) (by omega)];refine (h.next a).next fun c a1 _=>?_
 split
 . dsimp only;by_cases q:c=48/\a+1<(z7d s (s.length+1) a 0).2
   . rw[if_pos q];exact Lf.bad
   . have q':¬ (c=48/\a+p+1<(z7d s (s.length+1) a 0).2+p):=fun w=>q ⟨w.1,by omega⟩
     rw[if_neg q,if_neg q'];by_cases v:16<(z7d s (s.length+1) a 0).1
     . rw[if_pos v];exact Lf.bad
     . rw[if_neg v,if_neg v];exact Lf.ok
 . exact Lf.bad
theorem Cx.fin (h:Cx s S p)(lo hi fr fr' a:Nat):Lf p (zwz s lo hi fr a) (zwz S lo hi fr' (a+p)):=by
 unfold zwz;split
 . exact Lf.bad
 . exact (h.need a 125).next fun _ _ _=>Lf.ok
theorem Cx.braces (h:Cx s S p){a:Nat}(ha:a<=s.length):Lf p (z9n s a) (z9n S (a+p)):=by
 refine (h.num ha).next fun lo a1 e=>?_
 have hc:=z1k (zgg s a) e;rw[h.isb hc.2 (by decide)];split
 . rename_i h44;have hlt:a1<s.length:=by simp[isB] at h44;omega
   rw[show a1+p+1=a1+1+p by omega,h.isb (by omega) (by decide),show a1+p+2=a1+2+p by omega];split
   . exact Lf.ok
   . exact (h.num (by omega)).next fun hi a2 _=>h.fin lo hi _ _ a2
 . exact h.fin lo lo _ _ a1
def Ld {α:Type}(D:Prop)(p:Nat)(r r':PR α):Prop:=∀ x b,r=.ok x b->r'=.ok x (b+p)\/(D/\∃ c,r'=.bad 3 c)
theorem Lf.ld {α:Type}{D:Prop}{p:Nat}{r r':PR α}(h:Lf p r r'):Ld D p r r':=fun x b e=>Or.inl (h x b e)
theorem Ld.next {α β:Type}{D:Prop}{p:Nat}{r r':PR α}{f f':α->Nat->PR β}(h:Ld D p r r')(hf:∀ x b,r=.ok x b->Ld D p (f x b) (f' x (b+p))):Ld D p (r.next f) (r'.next f'):=by
 cases hr:r with
 | bad e c=>intro x b e;cases e
 | ok x b =>
   rcases h x b hr with e|⟨hD,c,e⟩
   . rw[e];exact hf x b hr
   . rw[e];exact fun _ _ _=>Or.inr ⟨hD,c,rfl⟩
def z1di (D:Prop)(s:List UInt8)(p:Nat)(sub sub':Option (Nat->PR Tree)):Prop:=∀ f,sub=some f->(sub'=none/\D)\/∃ f',sub'=some f'/\∀ a,a<=s.length->∀ x b,f a=.ok x b->b<s.length->f' (a+p)=.ok x (b+p)\/(D/\∃ c,f' (a+p)=.bad 3 c)
theorem Cx.atom (h:Cx s S p) {D:Prop} {sub sub':Option (Nat->PR Tree)} (hS:z1di D s p sub sub') {a:Nat} (ha:a<s.length):Ld D p (z9s sub s a) (z9s sub' S (a+p)):=by
 unfold z9s;rw[h.at_ a ha,show a+p+1=a+1+p by omega];split
 . cases sub with
   | none=>exact fun x b e=>by cases e
   | some f =>
     intro x b e;rcases hS f rfl with⟨rfl,hD⟩|⟨f',rfl,hf⟩
     . exact Or.inr ⟨hD,_,rfl⟩
     . dsimp only at e ⊢;cases hr:f (a+1) with
       | bad ee c=>rw[hr] at e;cases e
       | ok t c =>
         rw[hr] at e;cases hn:zco s c 41 with
         | bad ee c2=>simp only[PR.next,hn] at e;cases e
         | ok u c2 =>
           simp only[PR.next,hn] at e;have hc:c<s.length:=by
            rcases Nat.lt_or_ge c s.length with q|q
            . exact q
            . unfold zco at hn;rw[zwx q] at hn;cases hn
           rcases hf (a+1) (by omega) t c hr hc with q|⟨hD,c3,q⟩
           . rw[q];simp only[PR.next];rw[h.need c 41 u c2 hn];cases e;exact Or.inl rfl
           . rw[q];exact Or.inr ⟨hD,c3,rfl⟩
 split
 . exact Lf.ok.ld
 split
 . refine ((h.cls (a:=a+1) (by omega)).next fun _ _ _=>?_).ld;exact Lf.ok
 split
 . refine ((h.esc a).next fun _ _ _=>?_).ld;exact Lf.ok
 split
 . exact Lf.bad.ld
 . exact Lf.ok.ld
theorem Cx.piece (h:Cx s S p){D:Prop}{sub sub':Option (Nat->PR Tree)}(hA:z16f s sub)(hS:z1di D s p sub sub'){a:Nat}(ha:a<s.length):Ld D p (zb7 sub s a) (zb7 sub' S (a+p)):=by
 have hl:=h.len;refine (h.atom hS ha).next fun t a1 e=>?_
 have hc:=z1k (zeb hA ha) e;rcases Nat.lt_or_ge a1 s.length with hlt|hge
 . rw[if_pos hlt,if_pos (show a1+p<S.length by omega),h.at_ a1 hlt,show a1+p+1=a1+1+p by omega];split
   . exact Lf.ok.ld
   split
   . exact Lf.ok.ld
   split
   . exact Lf.ok.ld
   split
   . refine ((h.braces (a:=a1+1) (by omega)).next fun _ _ _=>?_).ld;exact Lf.ok
   . exact Lf.ok.ld
 . obtain rfl:a1=s.length:=by omega
   rw[if_neg (by omega)];split
   . rename_i h2;have:=h.end_ h2;rw[if_neg (by omega),if_neg (by omega),if_neg (by omega),if_neg (by omega)];exact Lf.ok.ld
   . exact Lf.ok.ld
theorem Cx.stop (h:Cx s S p){a:Nat}(ha:a<=s.length):zd6 S (a+p)=zd6 s a:=by
 have hl:=h.len;unfold zd6;rcases Nat.lt_or_ge a s.length with hlt|hge
 . rw[decide_eq_true hlt,decide_eq_true (show a+p<S.length by omega),h.at_ a hlt]
 . obtain rfl:a=s.length:=by omega
   rw[decide_eq_false (show ¬ s.length<s.length by omega)];rcases Nat.lt_or_ge (s.length+p) S.length with h2|h2
   . rcases h.end_ h2 with e|e<;>simp[e]
   . rw[decide_eq_false (by omega)];rfl
theorem Cx.cat (h:Cx s S p){D:Prop}{sub sub':Option (Nat->PR Tree)}(hA:z16f s sub)(hS:z1di D s p sub sub'):∀ (k k' a:Nat) (ps:List Tree),a<=s.length->k<=k'->Ld D p (zi6 sub s k a ps) (zi6 sub' S k' (a+p) ps)
 | 0,k',a,ps,ha,hk=>Lf.bad.ld
 | k + 1,k',a,ps,ha,hk=>by
   obtain⟨j,rfl⟩:∃ j,k'=j+1:=⟨k' - 1,by omega⟩
   unfold zi6;rw[h.stop ha];split
   . exact Lf.ok.ld
   . rename_i hst;have hlt:=z19j hst;refine (h.piece hA hS hlt).next fun t a1 e=>?_
     exact Cx.cat h hA hS k j a1 _ (z1k (zcl hA hlt) e).2 (by omega)
theorem Cx.altsL (h:Cx s S p) {D:Prop} {sub sub':Option (Nat->PR Tree)} (hA:z16f s sub) (hS:z1di D s p sub sub') (Q:List Tree):∀ (k k' a:Nat) (ps L:List Tree) (b:Nat),a<=s.length->k<=k'->zj4 sub s k a ps=.ok L b->(b<s.length\/isB S (s.length+p) 124=false) →
 zj4 sub' S k' (a+p) (Q++ps)=.ok (Q++L) (b+p)\/(D/\∃ c,zj4 sub' S k' (a+p) (Q++ps)=.bad 3 c)
 | 0,k',a,ps,L,b,ha,hk,e,hb=>by cases e
 | k + 1,k',a,ps,L,b,ha,hk,e,hb=>by
   have hl:=h.len;obtain⟨j,rfl⟩:∃ j,k'=j+1:=⟨k' - 1,by omega⟩
   rw[zj4] at e;rw[zj4];cases hi:isB s a 124 with
   | true =>
     rw[hi] at e;rw[h.isb_t hi,if_pos rfl];rw[if_pos rfl] at e;have hlt:a<s.length:=by simp[isB] at hi;omega
     cases hc:zi6 sub s (s.length+1) (a+1) [] with
     | bad x y=>rw[hc] at e;cases e
     | ok t a1 =>
       rw[hc] at e;have hp:=z1k (z6g hA _ (a+1) [] (by omega)) hc;rw[show a+p+1=a+1+p by omega];rcases h.cat hA hS (s.length+1) (S.length+1) (a+1) [] (by omega) (by omega) t a1 hc with q|⟨hD,c,q⟩
       . rw[q];simp only[PR.next];rw[List.append_assoc];exact Cx.altsL h hA hS Q k j a1 _ L b hp.2 (by omega) e hb
       . rw[q];exact Or.inr ⟨hD,c,rfl⟩
   | false =>
     rw[hi,if_neg (by simp)] at e;cases e;have hf:isB S (a+p) 124=false:=by
      rcases hb with hb|hb
      . rw[h.isb_in hb];exact hi
      . rcases Nat.lt_or_ge a s.length with hlt|hge
        . rw[h.isb_in hlt];exact hi
        . obtain rfl:a=s.length:=by omega
          exact hb
     rw[hf,if_neg (by simp)];exact Or.inl rfl
theorem Cx.alt (h:Cx s S p) {D:Prop}:∀ (d d':Nat),(d<=d'\/D)->∀ a,a<=s.length->∀ x b,zfw s d a=.ok x b->(b<s.length\/isB S (s.length+p) 124=false)->zfw S d' (a+p)=.ok x (b+p)\/(D/\∃ c,zfw S d' (a+p)=.bad 3 c):=by
 have step : ∀ (d d':Nat),z1di D s p (zdn s d) (zdn S d')->∀ a,a<=s.length->∀ x b,zfw s d a=.ok x b->(b<s.length\/isB S (s.length+p) 124=false)->zfw S d' (a+p)=.ok x (b+p)\/(D/\∃ c,zfw S d' (a+p)=.bad 3 c):=by
  intro d d' hS a ha x b e hb;have hl:=h.len;rw[zwb] at e ⊢;cases hc:zi6 (zdn s d) s (s.length+1) a [] with
  | bad y z=>rw[hc] at e;cases e
  | ok t a1 =>
    rw[hc] at e;simp only[PR.next] at e;have hp:=z1k (z6g (za8 s d) _ a [] ha) hc;rcases h.cat (za8 s d) hS (s.length+1) (S.length+1) a [] ha (by omega) t a1 hc with q|⟨hD,c,q⟩
    . rw[q];simp only[PR.next];rw[ztd] at e ⊢;cases hL:zj4 (zdn s d) s (s.length+1) a1 [t] with
      | bad y z=>rw[hL] at e;cases e
      | ok L b1 =>
        rw[hL] at e;cases e;rcases h.altsL (za8 s d) hS [] (s.length+1) (S.length+1) a1 [t] L _ hp.2 (by omega) hL hb with q|⟨hD,c,q⟩
        . simp only[List.nil_append] at q;rw[q];exact Or.inl rfl
        . simp only[List.nil_append] at q;rw[q];exact Or.inr ⟨hD,c,rfl⟩
    . rw[q];exact Or.inr ⟨hD,c,rfl⟩
 intro d
 induction d with
 | zero=>intro d' hd;exact step 0 d' (fun f e=>by cases e)
 | succ d ih =>
   intro d' hd;refine step (d+1) d' fun f e=>?_
   cases e;cases d' with
   | zero =>
     refine Or.inl ⟨rfl,?_⟩;rcases hd with hd|hd
     . omega
     . exact hd
   | succ d' =>
     refine Or.inr ⟨_,rfl,fun a ha x b e hb=>ih d' ?_ a ha x b e (Or.inl hb)⟩;rcases hd with hd|hd
     . exact Or.inl (by omega)
     . exact Or.inr hd
end
end Go.Proofs.YthgcpalmjcomlaaDoorLg
set_option linter.all false
set_option maxRecDepth 100000
namespace Go.Proofs.YthgcpalmjcomlaaDoorLg
noncomputable section
open Go Go.Lift Go.Proofs.YthgcpalmjcomlaaDoorPx
theorem Cx.sub {s S:List UInt8}{p:Nat}(h:Cx s S p){D:Prop}{d d':Nat}(hd:d<=d'\/D):z1di D s p (zdn s d) (zdn S d'):=by
 intro f e;cases d with
 | zero=>cases e
 | succ d =>
   cases e;cases d' with
   | zero =>
     refine Or.inl ⟨rfl,?_⟩;rcases hd with hd|hd
     . omega
     . exact hd
   | succ d' =>
     refine Or.inr ⟨_,rfl,fun a ha x b e hb=>h.alt d d' ?_ a ha x b e (Or.inl hb)⟩;rcases hd with hd|hd
     . exact Or.inl (by omega)
     . exact Or.inr hd
end
end Go.Proofs.YthgcpalmjcomlaaDoorLg
set_option linter.all false
set_option maxRecDepth 100000
namespace Go.Proofs.YthgcpalmjcomlaaDoorLg
noncomputable section
open Go Go.Lift Go.Proofs.YthgcpalmjcomlaaDoorPx
def zue (k:Int):Nat:=if k=3 then 3 else if k=2 then 2 else if k=4 then 1 else 0
def lvT (c:Nat)(k:Int):Nat:=4*(17 - c)+zue k
theorem z161 {N:Nat}(hN:320<=N){k:Int}{st:List Int}{ks:List Tree}{lo hi:Int}(hg:Good (.mk k st ks lo hi)):z6x N (k,st,ks,lo,hi,())=some (z12t k st lo hi):=by
 obtain⟨w1,_⟩:=zcu hg.1;unfold z6x z12t;dsimp only;by_cases h1:k=1
 . rw[z29 (beq_iff_eq.2 h1),if_pos h1,z113 (by omega) w1,Option.bind_some]
 . rw[z6t (beq_eq_false_iff_ne.2 h1),if_neg h1];by_cases h4:k=4
   . rw[z29 (beq_iff_eq.2 h4),if_pos h4];rcases zbf (z30 hg.2).1 with⟨q,_⟩|⟨q,_⟩|⟨q,_⟩|⟨_,_,_,ht⟩
     . exact absurd q h1
     . omega
     . omega
     . rw[zuf (by omega) ht,Option.bind_some]
   . rw[z6t (beq_eq_false_iff_ne.2 h4),if_neg h4]
theorem z112 (k:Int):zue k<=3:=by
 unfold zue;split
 . omega
 . split
   . omega
   . split<;>omega
theorem z1hk {k:Int} {st:List Int} {ks:List Tree} {lo hi:Int} (hg:Good (.mk k st ks lo hi)) {x:Tree} (hx:x∈ks) {c:Nat} (hc:c<=16):lvT (c+(zal k (z2b x)).toNat) (z2b x)+1<=lvT c k:=by
 have hr:=z112 (z2b x);unfold lvT;cases he:zal k (z2b x) with
 | true=>simp only[Bool.toNat_true];omega
 | false =>
   simp only[Bool.toNat_false,Nat.add_zero];have hn:=of_decide_eq_false he;have:zue (z2b x)+1<=zue k:=by
    rcases zbf (z30 hg.2).1 with⟨_,q,_⟩|⟨h2,_,_,_,_,h5⟩|⟨h3,_,_,_,_,h5⟩|⟨h4,_⟩
    . rw[q] at hx;cases hx
    . have:=h5 x hx;subst h2;unfold zue;rw[if_neg (by omega),if_neg this,if_neg (by omega:¬ (2:Int)=3),if_pos rfl];split<;>omega
    . have:=h5 x hx;subst h3;unfold zue;rw[if_neg this,if_pos rfl];split
      . omega
      . split<;>omega
    . subst h4;have:z2b x=1:=by omega
      rw[this];decide
   omega
def KidSp (self:NodT.den->Bool->zis->Option zis)(k:Int)(c Y:Nat)(x:Tree):Prop:=∀ xs:List UInt8,xs.length<=Y+1->∃ s,self (unN x) (zal k (z2b x)) (xs,((c:Int),true))=some s ∧
 (xs.length<=256->s.1.length<=Y)/\(256<xs.length->s.1.length<=xs.length+2410/\s.2.2=false)/\(s.2.2=true->s=(xs++zoi (zal k (z2b x)) (zbd x),((c:Int),true))/\c+(zja x+(zal k (z2b x)).toNat)<=16)
theorem zsh (N:Nat) {self:NodT.den->Bool->zis->Option zis} {n:NodT.den} {k:Int} (hk:n.1=k) {c Y:Nat} (hc:c<=16) (hY:Y<=10000000):∀ (ks:List Tree) (i:Nat) (xs:List UInt8),(∀ x∈ks,KidSp self k c Y x)->xs.length<=Y →
 ∃ q,z9o N self n i ks (xs,((c:Int),true))=some q/\q.1.1.length<=Y+2411/\(q.1.2.2=true->q=((xs++zfv ks k i,((c:Int),true)),true)/\c+zjc ks k<=16)
 | [],i,xs,_,hx=>⟨_,rfl,by show xs.length<=_;omega,fun _=>⟨by rw[zfv,List.append_nil],by rw[zjc];omega⟩⟩
 | x :: rest,i,xs,hks,hx=>by
   have hb:zz4 n i (xs,((c:Int),true))=some (xs++zpn k i,((c:Int),true)):=by
    unfold zz4 zpn;rw[hk];by_cases h:k=3/\0<i
    . rw[if_pos h,if_pos h,if_pos (show zbr xs 1=true by unfold zbr;exact decide_eq_true (by omega))]
    . rw[if_neg h,if_neg h,List.append_nil]
   have hbl:=z16b k i;have hen:z26 N n (unN x)=some (zal k (z2b x)):=by rw[z12y,hk];rfl
   obtain⟨s,h1,h2,h3,h4⟩:=hks x List.mem_cons_self (xs++zpn k i) (by rw[List.length_append];omega);have hstep:z9o N self n i (x::rest) (xs,((c:Int),true))=z9o N self n (i+1) rest s:=by
    rw[z9o,if_neg (by simp),hb,Option.bind_some,hen,Option.bind_some,h1,Option.bind_some]
   rw[hstep];rw[List.length_append] at h2 h3;cases hf:s.2.2 with
   | true =>
     obtain⟨h5,h6⟩:=h4 hf;have hle:s.1.length<=Y:=by
      by_cases hl:xs.length+(zpn k i).length<=256
      . exact h2 hl
      . have:=(h3 (by omega)).2;rw[hf] at this;cases this
     obtain⟨q,g1,g2,g3⟩:=zsh N hk hc hY rest (i+1) s.1 (fun y hy=>hks y (List.mem_cons_of_mem _ hy)) hle;have hs:s=(s.1,((c:Int),true)):=by rw[h5]
     rw[hs];refine⟨q,g1,g2,fun ht=>?_⟩;obtain⟨g4,g5⟩:=g3 ht;refine⟨?_,by rw[zjc];omega⟩;rw[g4,zfv,h5];simp only[List.append_assoc]
   | false =>
     have hle:s.1.length<=Y+2411:=by
      by_cases hl:xs.length+(zpn k i).length<=256
      . have:=h2 hl;omega
      . have:=(h3 (by omega)).1;omega
     cases rest with
     | nil=>exact⟨(s,true),rfl,hle,fun ht=>by rw[hf] at ht;cases ht⟩
     | cons y ys=>exact⟨(s,false),by rw[z9o,if_pos hf],hle,fun ht=>by rw[hf] at ht;cases ht⟩
theorem zwm {N:Nat}{n:NodT.den}{E:List UInt8}(he:z6x N n=some E)(hE:E.length<=2400)(e:Bool){s:zis}(hs:s.1.length<=100000000) :
 z152 N n e s=some (if e=true then (s.1++E++[41],(Go.RowKit.wrap64 (s.2.1 - 1),s.2.2)) else (s.1++E,s.2)):=by
 unfold z152;rw[he,Option.bind_some,if_pos (show zbr s.1 (E.length+1)=true by unfold zbr;exact decide_eq_true (by omega))]
theorem z107 {N:Nat} (hN:320<=N):∀ (h:Nat) (t:Tree),z1z t<=h->Good t->∀ (e:Bool) (xs:List UInt8) (c:Nat),c<=16->xs.length<=10000000 →
 ∃ s,zo8 N h (unN t) e (xs,((c:Int),true))=some s/\(xs.length<=256->s.1.length<=256+5000*(lvT (c+e.toNat) (z2b t)+1))/\(256<xs.length->s.1.length<=xs.length+2410/\s.2.2=false) ∧
   (s.2.2=true->s=(xs++zoi e (zbd t),((c:Int),true))/\c+(zja t+e.toNat)<=16)
 | 0,t,hn,_=>by have:=zk6 t;omega
 | h + 1,.mk k st ks lo hi,hn,hg=>by
   intro e xs c hc hx;have hen:=z161 hN hg;have hE:=z162 k st lo hi;obtain⟨w1,w2⟩:=zcu hg.1;have hkl:ks.length<=9223372036854775807:=by
    have hw:=hg.1;rw[WfN] at hw;have:=hw.2.2.1.1;unfold maxLen at this;omega
   obtain⟨c1,hc1⟩:∃ c1,c1=c+e.toNat:=⟨_,rfl⟩
   have he1:e.toNat<=1:=by cases e<;>decide
   obtain⟨xs1,hxs1⟩:∃ xs1,xs1=xs++(if e=true then [40] else []):=⟨_,rfl⟩
   have hl1:xs1.length=xs.length+e.toNat:=by rw[hxs1,List.length_append];cases e<;>simp
   have hin:z1hx e (xs,((c:Int),true))=some (xs1,((c1:Int),true)):=by
    unfold z1hx;cases e with
    | true =>
      rw[if_pos rfl,if_pos (show zbr xs 1=true by unfold zbr;exact decide_eq_true (by omega)),hxs1,if_pos rfl,hc1];congr 3;unfold Go.RowKit.wrap64;simp only[Bool.toNat_true];omega
    | false =>
      rw[if_neg (by decide),hxs1,if_neg (by decide),List.append_nil,hc1];rfl
   show ∃ s,zo8 N (h+1) (k,st,ks,lo,hi,()) e (xs,((c:Int),true))=some s/\_;rw[zo8];dsimp only;rw[if_pos (show decide (ks.length<=9223372036854775807)=true from decide_eq_true hkl),hin,Option.bind_some];have hk2:z2b (.mk k st ks lo hi)=k:=rfl;have hlv:lvT c1 k<=71:=by have:=z112 k;unfold lvT;omega
   rw[hk2,<- hc1];by_cases hfit:xs1.length<=256/\c1<=16
   . have hf : zmv (xs1,((c1:Int),true))=(xs1,((c1:Int),true)):=by
      unfold zmv;rw[decide_eq_true hfit.1,decide_eq_true (show (c1:Int)<=16 by omega)];rfl
     rw[hf];obtain⟨q,g1,g2,g3⟩:=zsh N (self:=zo8 N h) (n:=(k,st,ks,lo,hi,())) (k:=k) rfl hfit.2 (Y:=256+5000*lvT c1 k) (by omega) ks 0 xs1 (fun x hxm zs hz=>by
      have hgx:Good x:=⟨w2 x hxm,(z30 hg.2).2 x hxm⟩
      have hnx:=zmg (k:=k) (st:=st) (lo:=lo) (hi:=hi) hxm;have hlk:=z1hk hg hxm hfit.2;obtain⟨s,a1,a2,a3,a4⟩:=z107 hN h x (by omega) hgx (zal k (z2b x)) zs c1 hfit.2 (by omega);exact⟨s,a1,fun hh=>by have:=a2 hh;omega,a3,a4⟩) (by omega)
     rw[g1,Option.bind_some];by_cases hq:q.2=false
     . rw[if_pos hq];have hff:q.1.2.2≠true:=fun ht=>by rw[(g3 ht).1] at hq;cases hq
       exact⟨q.1,rfl,fun _=>by omega,fun hh=>by omega,fun ht=>absurd ht hff⟩
     . rw[if_neg hq,zwm hen hE e (by omega)];refine⟨_,rfl,fun _=>?_,fun hh=>by omega,fun ht=>?_⟩
       . cases e with
         | true=>rw[if_pos rfl];simp only[List.length_append,List.length_cons,List.length_nil];omega
         | false=>rw[if_neg (by decide)];simp only[List.length_append];omega
       . have hqt:q.1.2.2=true:=by
          cases e with
          | true=>rw[if_pos rfl] at ht;exact ht
          | false=>rw[if_neg (by decide)] at ht;exact ht
         obtain⟨g4,g5⟩:=g3 hqt;rw[g4];refine⟨?_,by rw[zja];omega⟩;rw[zbd,hxs1];cases e with
         | true =>
           rw[if_pos rfl,if_pos rfl,zoi,if_pos rfl];have hw:Go.RowKit.wrap64 ((c1:Int) - 1)=(c:Int):=by
            simp only[Bool.toNat_true] at hc1;unfold Go.RowKit.wrap64;omega
           simp only[hw,List.append_assoc]
         | false =>
           have:c1=c:=by simp only[Bool.toNat_false] at hc1;omega
           rw[if_neg (by decide),if_neg (by decide),zoi,if_neg (by decide),this];simp only[List.append_assoc,List.append_nil,List.nil_append]
   . have hf:zmv (xs1,((c1:Int),true))=(xs1,((c1:Int),false)):=by
      unfold zmv;by_cases h1:xs1.length<=256
      . rw[decide_eq_true h1,decide_eq_false (show ¬ (c1:Int)<=16 by omega)];rfl
      . rw[decide_eq_false h1];rfl
     rw[hf];cases ks with
     | nil =>
       rw[z9o,Option.bind_some,if_neg (by simp),zwm hen hE e (by show xs1.length<=_;omega)];refine⟨_,rfl,fun _=>?_,fun _=>⟨?_,?_⟩,fun ht=>?_⟩
       . cases e with
         | true=>rw[if_pos rfl];simp only[List.length_append,List.length_cons,List.length_nil];omega
         | false=>rw[if_neg (by decide)];simp only[List.length_append];omega
       . cases e with
         | true=>rw[if_pos rfl];simp only[List.length_append,List.length_cons,List.length_nil];omega
         | false=>rw[if_neg (by decide)];simp only[List.length_append];omega
       . cases e with
         | true=>rw[if_pos rfl]
         | false=>rw[if_neg (by decide)]
       . exfalso;cases e with
         | true=>rw[if_pos rfl] at ht;cases ht
         | false=>rw[if_neg (by decide)] at ht;cases ht
     | cons y ys =>
       rw[z9o,if_pos rfl,Option.bind_some,if_pos rfl];exact⟨_,rfl,fun _=>by show xs1.length<=_;omega,fun _=>⟨by show xs1.length<=_;omega,rfl⟩,fun ht=>by cases ht⟩
theorem z1eo {N:Nat}{t:Tree}(hN:z1z t+320<=N)(hw:WfN t):∃ r,z5d N (unN t)=some r/\(r.2.1=false->r.1=[])/\(r.2.1=true->Good t/\r.1=zbd t/\(zbd t).length<=256/\zja t<=16):=by
 unfold z5d;rw[zmb N t (by omega) hw,Option.bind_some];cases hr:zb1 t with
 | false=>rw[if_pos rfl];exact⟨([],(false,())),rfl,(fun _=>rfl),(fun h=>by cases h)⟩
 | true =>
   rw[if_neg (by decide)];obtain⟨s,h1,h2,h3,h4⟩:=z107 (N:=N) (by omega) N t (by omega) ⟨hw,hr⟩ false [] 0 (by omega) (by simp);have h1':zo8 N N (unN t) false ([],((0:Int),true))=some s:=h1;rw[h1',Option.bind_some];by_cases hq:s.2.2=true/\s.1.length<=256
   . rw[if_pos hq];obtain⟨g1,g2⟩:=h4 hq.1;have e:s.1=zbd t:=by rw[g1,zoi,if_neg (by decide)];rfl
     rw[e] at hq;refine⟨(s.1,(true,())),rfl,(fun h=>by cases h),(fun _=>⟨⟨hw,hr⟩,e,hq.2,?_⟩)⟩;simp only[Bool.toNat_false] at g2;omega
   . rw[if_neg hq];exact⟨([],(false,())),rfl,(fun _=>rfl),(fun h=>by cases h)⟩
end
end Go.Proofs.YthgcpalmjcomlaaDoorLg
set_option linter.all false
set_option maxRecDepth 100000
namespace Go.Proofs.YthgcpalmjcomlaaDoorLg
noncomputable section
open Go Go.Lift Go.Proofs.YthgcpalmjcomlaaDoorPx
theorem zyf (k:Nat):z45 (k+2500)=some true:=by kernel_rfl
theorem z1cs (s:List UInt8):∃ N,z20 N s=some true:=by
 refine⟨3000+2500,?_⟩;have w:=zyf 3000;have hp:=z11e (N:=3000+2500) (by omega) s;obtain⟨hw,hn⟩:=zyt s;obtain⟨⟨t,is,⟨⟩⟩,h1,h2,h3⟩:=z1eo (N:=3000+2500) (t:=zlx (zb8 s)) (by omega) hw;have hpt:=z11e (N:=3000+2500) (by omega) t;have hsa:=zp1 (3000+2500) (zlx (zb8 s)) (zlx (zb8 s)) (by omega) hw;generalize 3000+2500=N at *;simp only at h2 h3;rw[z20,w];by_cases hl:200<s.length
 . rw[z29 (decide_eq_true (by omega))];rfl
 rw[z6t (decide_eq_false (by omega)),hp,Option.bind_some,z150,h1,Option.bind_some,z4e,z4d,w];dsimp only;cases hf:((psF (zb8 s)).2.1.1 != (0:Int)) with
 | true=>rfl
 | false =>
   rw[cond_false];cases is with
   | false=>rfl
   | true =>
     obtain⟨g1,g2,g3,g4⟩:=h3 rfl;subst g2;rw[Bool.not_true,cond_false,hpt,Option.bind_some,zyv g1 g3 g4];have e1:(psF (PR.ok (zlx (zb8 s)) (zbd (zlx (zb8 s))).length)).1=unN (zlx (zb8 s)):=rfl;have e2:(psF (PR.ok (zlx (zb8 s)) (zbd (zlx (zb8 s))).length)).2.1=((0:Int),((0:Int),())):=rfl;rw[e1,e2,h1,Option.bind_some,show eqD (T.pair (T.int Go.IntKind.i64) (T.pair (T.int Go.IntKind.i64) T.unit)) ((0:Int),((0:Int),())) ((0:Int),((0:Int),()))=true from rfl,cond_true,hsa,Option.bind_some,zov,cond_true];dsimp only;rw[beq_self_eq_true];rfl
end
end Go.Proofs.YthgcpalmjcomlaaDoorLg
set_option linter.all false
namespace Go.Proofs.YthgcpalmjcomlaaDoorPx
noncomputable section
open Go Go.Lift
theorem zu2 {P:Program}{w:World}{base:Nat}{sp:Nat->Bool}{held:Bool}{fuel:Nat}{t:TypeId}{c:Value}{s:List UInt8}{p:List MemPlace}
 (ht:P.underlying t=some .string) (h:DataW.trod (fun _=>()) P w base sp held fuel t [c]=some (.lit (.string s),p)):c=.string ⟨⟨s⟩⟩:=by
 cases fuel with
 | zero=>simp[DataW.trod] at h
 | succ fuel =>
   cases c<;>simp[DataW.trod,ht] at h
   obtain⟨_,h,_⟩:=h;subst h;rfl
theorem zup {P:Program} {w:World} {base:Nat} {sp:Nat->Bool} {held:Bool} {fuel:Nat} {e:TypeId} {f0 f1 f2:Field} {k:IntKind} {a b:Int} {s:List UInt8} {cs:List Value} {p:List MemPlace}
 (he:P.underlying e=some (.struct #[f0,f1,f2])) (h0:P.underlying f0.type=some (.int k)) (h1:P.underlying f1.type=some (.int k)) (h2:P.underlying f2.type=some .string) (o0:f0.offset=0) (o1:f1.offset=1) (o2:f2.offset=2) (c0:P.cellsOf f0.type=1) (c1:P.cellsOf f1.type=1) (c2:P.cellsOf f2.type=1) (ce:P.cellsOf e=3)
 (h:DataW.trod (fun _=>()) P w base sp held fuel e cs=some (.agg [.lit (.int k a),.lit (.int k b),.lit (.string s)],p)):cs=[.int k a,.int k b,.string ⟨⟨s⟩⟩]:=by
 cases fuel with
 | zero=>simp[DataW.trod] at h
 | succ fuel =>
   simp only[DataW.trod,he,ce] at h;split at h
   . rename_i hl;obtain⟨x,y,z,rfl⟩:∃ x y z,cs=[x,y,z]:=by
      match cs,hl with
      | [x,y,z],_=>exact⟨x,y,z,rfl⟩
     simp only[o0,o1,o2,c0,c1,c2,List.mapM_cons,List.mapM_nil,Option.map_eq_some_iff,Option.bind_eq_bind,Option.bind_eq_some_iff,Option.pure_def,Option.some.injEq,List.drop_zero,List.drop_succ_cons,List.take_succ_cons,List.take_zero] at h;obtain⟨xs,⟨y0,g0,_,⟨y1,g1,_,⟨y2,g2,_,rfl,rfl⟩,rfl⟩,rfl⟩,hx⟩:=h;obtain⟨n0,rfl,rfl⟩:=zi8 h0 g0;obtain⟨n1,rfl,rfl⟩:=zi8 h1 g1;simp at hx;obtain⟨⟨rfl,rfl,h3⟩,_⟩:=hx;obtain⟨y2a,y2b⟩:=y2;dsimp only at h3;subst h3;rw[zu2 h2 g2]
   . cases h
abbrev iisT (k:IntKind):T:=.pair (.int k) (.pair (.int k) (.pair .str .unit))
theorem z144 (S:Hp)(k:IntKind):∀ (l:List (Int×(Int×(List UInt8×Unit)))) (cs:List Value),cs.length=3*l.length->(∀ i,(h:i<l.length)->(cs.drop (i*3)).take 3=[.int k (l[i]).1,.int k (l[i]).2.1,.string ⟨⟨(l[i]).2.2.1⟩⟩])->All (Rd S (iisT k)) l cs
 | [],cs,hl,_=>List.length_eq_zero_iff.1 (by simpa using hl)
 | x :: r,cs,hl,h=>by
   refine⟨cs.take 3,cs.drop 3,(List.take_append_drop 3 cs).symm,?_,z144 S k r (cs.drop 3) (by simp at hl ⊢;omega) fun i hi=>?_⟩
   . have:=h 0 (by simp);simp only[Nat.zero_mul,List.drop_zero,List.getElem_cons_zero] at this;rw[this];exact⟨[_],[_,_],rfl,rfl,[_],[_],rfl,rfl,[_],[],rfl,rfl,rfl⟩
   . have:=h (i+1) (by simpa using hi);simp only[List.getElem_cons_succ] at this;rw[List.drop_drop,show 3+i*3=(i+1)*3 by omega];exact this
theorem z15u {P:Program}{W:World}{name:String}{g:Nat}{t e:TypeId}{f0 f1 f2:Field}{k:IntKind}{n:Nat}{l:List (Int×(Int×(List UInt8×Unit)))}{r:List (String×DataW Unit)}{ps:List MemPlace}
 (hg:P.globalNamed name=some g) (hty:(P.globals[g]?).map (·.type)=some t) (ht:P.underlying t=some (.array n e)) (he:P.underlying e=some (.struct #[f0,f1,f2])) (h0:P.underlying f0.type=some (.int k)) (h1:P.underlying f1.type=some (.int k)) (h2:P.underlying f2.type=some .string) (o0:f0.offset=0) (o1:f1.offset=1) (o2:f2.offset=2) (c0:P.cellsOf f0.type=1) (c1:P.cellsOf f1.type=1) (c2:P.cellsOf f2.type=1) (ce:P.cellsOf e=3) (ct:P.cellsOf t=3*n)
 (h:DataW.LaidVars P W ((name,.agg (l.map fun x=>.agg [.lit (.int k x.1),.lit (.int k x.2.1),.lit (.string x.2.2.1)]))::r) ps) :
 VR (hp W) (.ptr (.arr n (iisT k))) l (.pointer (some ⟨g,0,none⟩))/\∃ q,DataW.LaidVars P W r q:=by
 obtain⟨g',t',cs,fuel,p,q,e1,e2,e3,e4,e5,_⟩:=h;obtain rfl:=Option.some.inj (hg.symm.trans e1);obtain rfl:=Option.some.inj (hty.symm.trans e2);refine⟨?_,q,e5⟩;simp only[World.var?,hg,Option.bind_some] at e3;split at e3
 case h_2=>cases e3
 rename_i cs' t2 fr hh;simp only[Option.some.injEq] at e3;subst e3;cases fuel with
 | zero=>simp[DataW.trod] at e4
 | succ fuel =>
   simp only[DataW.trod,ht,ce,ct] at e4;split at e4
   case isFalse=>cases e4
   rename_i hlen;simp only[Option.map_eq_some_iff] at e4;obtain⟨xs,hm,hx⟩:=e4;obtain⟨m1,m2⟩:=zmm hm;simp only[Prod.mk.injEq,DataW.agg.injEq] at hx;have hl:l.length=n:=by
    have:=congrArg List.length hx.1;simp only[List.length_map,List.length_range] at this m1;omega
   refine VR.of_one rfl ⟨g,0,cs'.toList,rfl,⟨cs',t2,fr,[],[],hh,by simp,rfl⟩,hl,z144 (hp W) k l cs'.toList (by omega) fun i hi=>?_⟩;obtain⟨y,y1,y2⟩:=m2 i (by simp;omega);simp only[List.getElem_range] at y2;have hy:(xs.map (·.1))[i]?=some y.1:=by rw[List.getElem?_map,y1];rfl
   rw[hx.1,List.getElem?_map,List.getElem?_eq_getElem hi,Option.map_some,Option.some.injEq] at hy;obtain⟨y0,yp⟩:=y;dsimp only at hy;subst hy;exact zup he h0 h1 h2 o0 o1 o2 c0 c1 c2 ce y2
theorem zsd {P:Program}{W:World}{name:String}{d:DataW Unit}{r:List (String×DataW Unit)}{ps:List MemPlace}(h:DataW.LaidVars P W ((name,d)::r) ps):∃ q,DataW.LaidVars P W r q:=by
 obtain⟨g',t',cs,fuel,p,q,e1,e2,e3,e4,e5,_⟩:=h;exact⟨q,e5⟩
end
end Go.Proofs.YthgcpalmjcomlaaDoorPx
