import Derived.Test.YthgcpalmjcomlaaDoorLgW
import Derived.LaidLaws
import Derived.Test.YthgcpalmjcomlaaDoorLgPrRa1
import Derived.Test.YthgcpalmjcomlaaDoorLgPrRa6
import Derived.KernelRfl
set_option linter.all false
namespace Go.Proofs.YthgcpalmjcomlaaDoorPx
noncomputable section
open Go Go.Lift
theorem znc {α β:Type}{f:α->Option β}:∀ {l:List α} {ys:List β},l.mapM f=some ys->ys.length=l.length/\∀ i,(h:i<l.length)->∃ y,ys[i]?=some y/\f l[i]=some y
 | [],ys,h=>by simp at h;subst h;simp
 | a :: l,ys,h=>by
   simp only[List.mapM_cons,Option.pure_def,Option.bind_eq_bind,Option.bind_eq_some_iff,Option.some.injEq] at h;obtain⟨y,hy,zs,hz,rfl⟩:=h;obtain⟨h1,h2⟩:=znc hz;refine⟨by simp[h1],fun i hi=>?_⟩;cases i with
   | zero=>exact⟨y,rfl,hy⟩
   | succ i =>
     obtain⟨z,e1,e2⟩:=h2 i (by simpa using hi);exact⟨z,by simpa using e1,by simpa using e2⟩
theorem zim {H:Type}{enc:TypeId×Value->H}{P:Program}{w:World}{base:Nat}{sp:Nat->Bool}{held:Bool}{fuel:Nat}{t:TypeId}{k:IntKind}{c:Value}{y:DataW H×List MemPlace}
 (ht:P.underlying t=some (.int k)) (h:DataW.trod enc P w base sp held fuel t [c]=some y):∃ n,c=.int k n/\y=(.lit (.int k n),[]):=by
 cases fuel with
 | zero=>simp[DataW.trod] at h
 | succ fuel =>
   cases c<;>simp[DataW.trod,ht] at h
   rename_i k' n;obtain⟨⟨rfl,_⟩,rfl⟩:=h;exact⟨n,rfl,rfl⟩
theorem zt3 {P:Program} {w:World} {base:Nat} {sp:Nat->Bool} {held:Bool} {fuel:Nat} {t e:TypeId} {k:IntKind} {n:Nat} {cs:List Value} {ns:List Int} {p:List MemPlace}
 (ht:P.underlying t=some (.array n e)) (he:P.underlying e=some (.int k)) (hc:P.cellsOf e=1) (hct:P.cellsOf t=n)
 (h:DataW.trod (fun _=>()) P w base sp held fuel t cs=some (.agg (ns.map fun i=>.lit (.int k i)),p)):cs=ns.map (fun i=>.int k i)/\ns.length=n:=by
 cases fuel with
 | zero=>simp[DataW.trod] at h
 | succ fuel =>
   simp only[DataW.trod,ht,hc,hct] at h;split at h
   . rename_i hl;simp only[Option.map_eq_some_iff] at h;obtain⟨xs,hm,hx⟩:=h;obtain⟨h1,h2⟩:=znc hm;simp only[Prod.mk.injEq,DataW.agg.injEq] at hx;have hlen:ns.length=n:=by
      have:=congrArg List.length hx.1;simp only[List.length_map,List.length_range] at this h1;omega
     refine⟨List.ext_getElem? fun i=>?_,hlen⟩;by_cases hi:i<n
     . obtain⟨y,e1,e2⟩:=h2 i (by simpa using hi);have hci:(cs.drop (i*1)).take 1=[cs[i]'(by omega)]:=by
        rw[Nat.mul_one,List.drop_eq_getElem_cons (by omega:i<cs.length)];rfl
       simp only[List.getElem_range] at e2;rw[hci] at e2;obtain⟨m,hm1,hm2⟩:=zim he e2;have hy:(xs.map (·.1))[i]?=some (.lit (.int k m)):=by rw[List.getElem?_map,e1,hm2];rfl
       rw[hx.1,List.getElem?_map] at hy;have hn:ns[i]?=some (ns[i]'(by omega)):=List.getElem?_eq_getElem (by omega);rw[hn] at hy;simp only[Option.map_some,Option.some.injEq,DataW.lit.injEq,Lit.int.injEq,true_and] at hy;rw[List.getElem?_eq_getElem (by omega:i<cs.length),hm1,List.getElem?_map,hn,Option.map_some,hy]
     . rw[List.getElem?_eq_none (by omega),List.getElem?_eq_none (by rw[List.length_map];omega)]
   . cases h
theorem zjz (S:Hp)(k:IntKind):∀ ns:List Int,All (Rd S (.int k)) ns (ns.map fun i=>.int k i)
 | []=>rfl
 | x::r=>⟨[.int k x],_,rfl,rfl,zjz S k r⟩
theorem z12o {P:Program}{W:World}{name:String}{g:Nat}{t e:TypeId}{k:IntKind}{n:Nat}{ns:List Int}{r:List (String×DataW Unit)}{ps:List MemPlace}
 (hg:P.globalNamed name=some g) (hty:(P.globals[g]?).map (·.type)=some t) (ht:P.underlying t=some (.array n e)) (he:P.underlying e=some (.int k)) (hc:P.cellsOf e=1) (hct:P.cellsOf t=n)
 (h:DataW.LaidVars P W ((name,.agg (ns.map fun i=>.lit (.int k i)))::r) ps) :
 VR (hp W) (.ptr (.arr n (.int k))) ns (.pointer (some ⟨g,0,none⟩))/\∃ q,DataW.LaidVars P W r q:=by
 obtain⟨g',t',cs,fuel,p,q,e1,e2,e3,e4,e5,_⟩:=h;obtain rfl:=Option.some.inj (hg.symm.trans e1);obtain rfl:=Option.some.inj (hty.symm.trans e2);obtain⟨h1,h2⟩:=zt3 ht he hc hct e4;refine⟨?_,q,e5⟩;simp only[World.var?,hg,Option.bind_some] at e3;split at e3
 . rename_i cs' t2 fr hh;simp only[Option.some.injEq] at e3;subst e3;refine VR.of_one rfl ⟨g,0,cs'.toList,rfl,⟨cs',t2,fr,[],[],hh,by simp,rfl⟩,?_⟩;rw[h1];exact⟨h2,zjz _ _ _⟩
 . cases e3
end
end Go.Proofs.YthgcpalmjcomlaaDoorPx
set_option linter.all false
namespace Go.Proofs.YthgcpalmjcomlaaDoorPx
noncomputable section
open Go Go.Lift
theorem z184 (x:Int):IntKind.wrap .u8 x=x % 256:=by
 simp only[IntKind.wrap,IntKind.bits,IntKind.signed,Bool.false_and,Bool.false_eq_true,if_false];rfl
theorem zk0 {x:Int}(h0:0<=x)(h1:x<256):IntKind.wrap .u8 x=x:=by rw[z184];omega
theorem z18a (u:UInt8):u.toNat<256:=u.toNat_lt
theorem zrx {i:Nat}(h:i<9223372036854775807):IntKind.wrap .i64 ((i:Int)+1)=((i+1:Nat):Int):=by
 rw[z5q (by unfold I64;omega)];omega
theorem zra {α:Type}(l:List α)(d:α)(i:Nat)(h:i<l.length):l.getD i d∈l:=by
 rw[List.getD_eq_getElem?_getD,List.getElem?_eq_getElem h];simp
theorem z136 {α:Type}(l:List α)(d:α)(i:Nat)(h:i<l.length):l.drop i=l.getD i d::l.drop (i+1):=by
 rw[List.getD_eq_getElem?_getD,List.getElem?_eq_getElem h,Option.getD_some,List.drop_eq_getElem_cons h]
theorem z135 {α:Type}(l:List α){i:Nat}(h:l.length<=i):l.drop i=[]:=List.drop_of_length_le h
end
end Go.Proofs.YthgcpalmjcomlaaDoorPx
set_option linter.all false
namespace Go.Proofs.YthgcpalmjcomlaaDoorPx
noncomputable section
open Go Go.Lift
def U64 (x:Int):Prop:=0<=x/\x<18446744073709551616
instance (x:Int):Decidable (U64 x):=by unfold U64;infer_instance
def bit (w:Int)(i:Nat):Bool:=w.toNat.testBit i
theorem zqe (x:Int):IntKind.wrap .u64 x=x % 18446744073709551616:=rfl
theorem zqf (x:Int):U64 (IntKind.wrap .u64 x):=by rw[zqe];unfold U64;omega
theorem z6w {x:Int}(h:U64 x):IntKind.wrap .u64 x=x:=by rw[zqe];unfold U64 at h;omega
theorem zkg {x:Int}(h:U64 x):(BitVec.ofInt 64 x).toNat=x.toNat:=by
 unfold U64 at h;rw[BitVec.toNat_ofInt];omega
theorem z13q (v:BitVec 64):U64 ((v.toNat:Nat):Int):=by
 have:=v.isLt;unfold U64;omega
theorem zrq {x y:Int}(hx:U64 x)(hy:U64 y):bitsOp .and .u64 x y=((x.toNat &&& y.toNat:Nat):Int):=by
 have e:bitsOp .and .u64 x y=IntKind.wrap .u64 ((BitVec.ofInt 64 x &&& BitVec.ofInt 64 y).toNat:Int):=rfl;rw[e,z6w (z13q _),BitVec.toNat_and,zkg hx,zkg hy]
theorem z1e1 {x y:Int}(hx:U64 x)(hy:U64 y):bitsOp .or .u64 x y=((x.toNat ||| y.toNat:Nat):Int):=by
 have e:bitsOp .or .u64 x y=IntKind.wrap .u64 ((BitVec.ofInt 64 x ||| BitVec.ofInt 64 y).toNat:Int):=rfl;rw[e,z6w (z13q _),BitVec.toNat_or,zkg hx,zkg hy]
theorem z183 {x y:Int}(hx:U64 x)(hy:U64 y):bitsOp .xor .u64 x y=((x.toNat ^^^ y.toNat:Nat):Int):=by
 have e:bitsOp .xor .u64 x y=IntKind.wrap .u64 ((BitVec.ofInt 64 x ^^^ BitVec.ofInt 64 y).toNat:Int):=rfl;rw[e,z6w (z13q _),BitVec.toNat_xor,zkg hx,zkg hy]
theorem z18c {x y:Int}(hx:U64 x)(hy:U64 y):U64 (bitsOp .and .u64 x y):=by
 have e:bitsOp .and .u64 x y=IntKind.wrap .u64 ((BitVec.ofInt 64 x &&& BitVec.ofInt 64 y).toNat:Int):=rfl;rw[e];exact zqf _
theorem z16n {x y:Int}(hx:U64 x)(hy:U64 y):U64 (bitsOp .or .u64 x y):=by
 have e:bitsOp .or .u64 x y=IntKind.wrap .u64 ((BitVec.ofInt 64 x ||| BitVec.ofInt 64 y).toNat:Int):=rfl;rw[e];exact zqf _
theorem z18b {x y:Int}(hx:U64 x)(hy:U64 y):U64 (bitsOp .xor .u64 x y):=by
 have e:bitsOp .xor .u64 x y=IntKind.wrap .u64 ((BitVec.ofInt 64 x ^^^ BitVec.ofInt 64 y).toNat:Int):=rfl;rw[e];exact zqf _
theorem z1c3 {x y:Int}(hx:U64 x)(hy:U64 y)(i:Nat):bit (bitsOp .and .u64 x y) i=(bit x i && bit y i):=by
 rw[zrq hx hy];simp only[bit,Int.toNat_natCast,Nat.testBit_and]
theorem z17g {x y:Int}(hx:U64 x)(hy:U64 y)(i:Nat):bit (bitsOp .or .u64 x y) i=(bit x i || bit y i):=by
 rw[z1e1 hx hy];simp only[bit,Int.toNat_natCast,Nat.testBit_or]
theorem zk4:U64 18446744073709551615:=by unfold U64;omega
theorem z1c2 {x:Int}(hx:U64 x){i:Nat}(hi:i<64):bit (bitsOp .xor .u64 18446744073709551615 x) i=!bit x i:=by
 rw[z183 zk4 hx];have e:(18446744073709551615:Int).toNat=2^64 - 1:=rfl;simp only[bit,Int.toNat_natCast,Nat.testBit_xor,e,Nat.testBit_two_pow_sub_one,hi,decide_true,Bool.true_xor]
theorem zu9 {n:Nat}(hn:n<64):U64 ((2^n:Nat):Int):=by
 have hp:2^n<2^64:=Nat.pow_lt_pow_right (by omega) hn;have e:(2:Nat)^64=18446744073709551616:=rfl;rw[e] at hp;generalize 2^n=q at hp;unfold U64;omega
theorem shl1 {n:Nat}(hn:n<64):shlI .u64 1 (n:Int)=((2^n:Nat):Int):=by
 have e:shlI .u64 1 (n:Int)=IntKind.wrap .u64 (1*2^(min (n:Int).toNat 64)):=rfl;have hp:2^n<2^64:=Nat.pow_lt_pow_right (by omega) hn;rw[e,Int.toNat_natCast,Nat.min_eq_left (by omega),Int.one_mul];have e2:((2:Int)^n)=((2^n:Nat):Int):=by rw[Int.natCast_pow];rfl
 rw[e2,z6w (zu9 hn)]
theorem z1c1 (n i:Nat):bit ((2^n:Nat):Int) i=decide (n=i):=by
 simp only[bit,Int.toNat_natCast,Nat.testBit_two_pow]
theorem z1c0 {x:Int}(hx:U64 x){n:Nat}(hn:n<64)(i:Nat):bit (bitsOp .or .u64 x (shlI .u64 1 (n:Int))) i=(bit x i || decide (n=i)):=by
 rw[shl1 hn,z17g hx (zu9 hn),z1c1]
theorem zue {x:Int}(hx:0<=x){n:Nat}(hn:n<64):z21 .u64 x (n:Int)=((x.toNat >>> n:Nat):Int):=by
 have e:z21 .u64 x (n:Int)=x.fdiv (2^(min (n:Int).toNat 64)):=rfl;rw[e,Int.toNat_natCast,Nat.min_eq_left (by omega),Nat.shiftRight_eq_div_pow];have e2:((2:Int)^n)=((2^n:Nat):Int):=by rw[Int.natCast_pow];rfl
 rw[e2,Int.fdiv_eq_ediv_of_nonneg _ (Int.natCast_nonneg _),Int.natCast_ediv];congr 1;omega
theorem z1b6 {x:Int}(hx:U64 x){n:Nat}(hn:n<64):(bitsOp .and .u64 (z21 .u64 x (n:Int)) 1 == 1)=bit x n:=by
 have hs:U64 (z21 .u64 x (n:Int)):=by
  rw[zue hx.1 hn,Nat.shiftRight_eq_div_pow];have h:=Nat.div_le_self x.toNat (2^n);generalize x.toNat / 2^n=q at *;unfold U64 at *;omega
 rw[zrq hs (by unfold U64;omega),zue hx.1 hn];simp only[Int.toNat_natCast,bit,Nat.testBit];have e:(1:Int).toNat=1:=rfl;rw[e,Nat.and_comm (x.toNat >>> n) 1];have h01:1 &&& (x.toNat >>> n)=(x.toNat >>> n) % 2:=by rw[Nat.and_comm];exact Nat.and_one_is_mod _
 rw[h01];have:(x.toNat >>> n) % 2<2:=Nat.mod_lt _ (by omega);rcases Nat.lt_or_ge ((x.toNat >>> n) % 2) 1 with h|h
 . have h0:(x.toNat >>> n) % 2=0:=by omega
   rw[h0];rfl
 . have h0:(x.toNat >>> n) % 2=1:=by omega
   rw[h0];rfl
def SetOk (s:List Int):Prop:=∃ a b c d,s=[a,b,c,d]/\U64 a/\U64 b/\U64 c/\U64 d
def hasS (s:List Int)(b:Nat):Bool:=bit (s.getD (b / 64) 0) (b % 64)
theorem SetOk.length {s:List Int}(h:SetOk s):s.length=4:=by
 obtain⟨a,b,c,d,rfl,_⟩:=h;rfl
theorem SetOk.word {s:List Int}(h:SetOk s){i:Nat}(hi:i<4):U64 (s.getD i 0):=by
 obtain⟨a,b,c,d,rfl,ha,hb,hc,hd⟩:=h
 match i,hi with
 | 0,_=>exact ha
 | 1,_=>exact hb
 | 2,_=>exact hc
 | 3,_=>exact hd
theorem SetOk.set {s:List Int}(h:SetOk s){i:Nat}(hi:i<4){x:Int}(hx:U64 x):SetOk (s.set i x):=by
 obtain⟨a,b,c,d,rfl,ha,hb,hc,hd⟩:=h
 match i,hi with
 | 0,_=>exact⟨x,b,c,d,rfl,hx,hb,hc,hd⟩
 | 1,_=>exact⟨a,x,c,d,rfl,ha,hx,hc,hd⟩
 | 2,_=>exact⟨a,b,x,d,rfl,ha,hb,hx,hd⟩
 | 3,_=>exact⟨a,b,c,x,rfl,ha,hb,hc,hx⟩
def zipS (f:Int->Int->Int)(s t:List Int):List Int:=List.zipWith f s t
theorem SetOk.zip {s t:List Int}(f:Int->Int->Int)(hf:∀ x y,U64 x->U64 y->U64 (f x y))(hs:SetOk s)(ht:SetOk t):SetOk (zipS f s t):=by
 obtain⟨a,b,c,d,rfl,ha,hb,hc,hd⟩:=hs;obtain⟨a',b',c',d',rfl,ha',hb',hc',hd'⟩:=ht;exact⟨_,_,_,_,rfl,hf _ _ ha ha',hf _ _ hb hb',hf _ _ hc hc',hf _ _ hd hd'⟩
theorem SetOk.map {s:List Int}(f:Int->Int)(hf:∀ x,U64 x->U64 (f x))(hs:SetOk s):SetOk (s.map f):=by
 obtain⟨a,b,c,d,rfl,ha,hb,hc,hd⟩:=hs;exact⟨_,_,_,_,rfl,hf _ ha,hf _ hb,hf _ hc,hf _ hd⟩
theorem zwi {s t:List Int}(f:Int->Int->Int)(hs:SetOk s)(ht:SetOk t){i:Nat}(hi:i<4):(zipS f s t).getD i 0=f (s.getD i 0) (t.getD i 0):=by
 obtain⟨a,b,c,d,rfl,ha,hb,hc,hd⟩:=hs;obtain⟨a',b',c',d',rfl,ha',hb',hc',hd'⟩:=ht
 match i,hi with
 | 0,_=>rfl
 | 1,_=>rfl
 | 2,_=>rfl
 | 3,_=>rfl
theorem z15h {s:List Int}(f:Int->Int)(hs:SetOk s){i:Nat}(hi:i<4):(s.map f).getD i 0=f (s.getD i 0):=by
 obtain⟨a,b,c,d,rfl,ha,hb,hc,hd⟩:=hs
 match i,hi with
 | 0,_=>rfl
 | 1,_=>rfl
 | 2,_=>rfl
 | 3,_=>rfl
def orS:=zipS (bitsOp .or .u64)
def zzz:=zipS (bitsOp .and .u64)
def zu4 (s:List Int):List Int:=s.map (bitsOp .xor .u64 18446744073709551615)
theorem z11n {s t:List Int}(hs:SetOk s)(ht:SetOk t):SetOk (orS s t):=SetOk.zip _ (fun _ _=>z16n) hs ht
theorem z1mg {s t:List Int}(hs:SetOk s)(ht:SetOk t):SetOk (zzz s t):=SetOk.zip _ (fun _ _=>z18c) hs ht
theorem zxj {s:List Int}(hs:SetOk s):SetOk (zu4 s):=SetOk.map _ (fun _ h=>z18b zk4 h) hs
theorem z178 {s t:List Int}(hs:SetOk s)(ht:SetOk t){b:Nat}(hb:b<256):hasS (orS s t) b=(hasS s b || hasS t b):=by
 have hi:b / 64<4:=by omega
 rw[hasS,orS,zwi _ hs ht hi,z17g (hs.word hi) (ht.word hi)];rfl
theorem zr9 {s t:List Int}(hs:SetOk s)(ht:SetOk t){b:Nat}(hb:b<256):hasS (zzz s t) b=(hasS s b && hasS t b):=by
 have hi:b / 64<4:=by omega
 rw[hasS,zzz,zwi _ hs ht hi,z1c3 (hs.word hi) (ht.word hi)];rfl
theorem zv8 {s:List Int}(hs:SetOk s){b:Nat}(hb:b<256):hasS (zu4 s) b=!hasS s b:=by
 have hi:b / 64<4:=by omega
 rw[hasS,zu4,z15h _ hs hi,z1c2 (hs.word hi) (by omega)];rfl
def zyj (s:List Int)(b:Nat):List Int:=s.set (b / 64) (bitsOp .or .u64 (s.getD (b / 64) 0) (shlI .u64 1 ((b % 64:Nat):Int)))
theorem zmc {s:List Int}(hs:SetOk s){b:Nat}(hb:b<256):SetOk (zyj s b):=by
 have hi:b / 64<4:=by omega
 exact hs.set hi (z16n (hs.word hi) (by rw[shl1 (by omega)];exact zu9 (by omega)))
theorem z15r {s:List Int}(hs:SetOk s){b c:Nat}(hb:b<256)(hc:c<256):hasS (zyj s b) c=(hasS s c || decide (b=c)):=by
 have hi:b / 64<4:=by omega
 have hl:=hs.length;unfold hasS zyj;by_cases h:b / 64=c / 64
 . rw[h];have e:(s.set (c / 64) (bitsOp .or .u64 (s.getD (c / 64) 0) (shlI .u64 1 ((b % 64:Nat):Int)))).getD (c / 64) 0=bitsOp .or .u64 (s.getD (c / 64) 0) (shlI .u64 1 ((b % 64:Nat):Int)):=by
    rw[List.getD_eq_getElem?_getD,List.getElem?_set_self (by omega)];rfl
   rw[e,z1c0 (hs.word (by omega)) (by omega)];congr 1;exact decide_eq_decide.2 (by omega)
 . have e:(s.set (b / 64) (bitsOp .or .u64 (s.getD (b / 64) 0) (shlI .u64 1 ((b % 64:Nat):Int)))).getD (c / 64) 0=s.getD (c / 64) 0:=by
    rw[List.getD_eq_getElem?_getD,List.getElem?_set_ne h,<- List.getD_eq_getElem?_getD]
   rw[e,decide_eq_false (by omega),Bool.or_false]
theorem z59:SetOk [0,0,0,0]:=⟨0,0,0,0,rfl,by decide,by decide,by decide,by decide⟩
theorem zbp (b:Nat):hasS [0,0,0,0] b=false:=by
 have e:([0,0,0,0]:List Int).getD (b / 64) 0=0:=by
  rw[List.getD_eq_getElem?_getD]
  match b / 64 with
  | 0=>rfl
  | 1=>rfl
  | 2=>rfl
  | 3=>rfl
  | n+4=>rfl
 rw[hasS,e,bit];exact Nat.zero_testBit _
theorem zhj {x:Int}(h:(Lit.int .u64 x).wf=true):U64 x:=by
 simp only[Lit.wf,Bool.and_eq_true,decide_eq_true_eq] at h;have h0:(IntKind.min .u64:Int)=0:=rfl;have h1:(IntKind.max .u64:Int)=18446744073709551615:=rfl;unfold U64;omega
theorem z14q {s:List Int}(h:s.length=4/\∀ x∈s,Wf (.int .u64) x):SetOk s:=by
 obtain⟨hl,hx⟩:=h
 match s,hl with
 | [a,b,c,d],_ =>
   exact⟨a,b,c,d,rfl,zhj (hx a (by simp)),zhj (hx b (by simp)),zhj (hx c (by simp)),zhj (hx d (by simp))⟩
end
end Go.Proofs.YthgcpalmjcomlaaDoorPx
set_option linter.all false
namespace Go.Proofs.YthgcpalmjcomlaaDoorPx
noncomputable section
open Go Go.Lift
theorem ztx {j a b c d:Nat}(ha:a<2^j)(hc:c<2^j):(a+2^j*b) &&& (c+2^j*d)=(a &&& c)+2^j*(b &&& d):=by
 have hp:0<2^j:=Nat.two_pow_pos j;have hac:a &&& c<2^j:=Nat.lt_of_le_of_lt Nat.and_le_left ha;have h1:((a+2^j*b) &&& (c+2^j*d)) % 2^j=a &&& c:=by
  rw[Nat.and_mod_two_pow,Nat.add_mul_mod_self_left,Nat.add_mul_mod_self_left,Nat.mod_eq_of_lt ha,Nat.mod_eq_of_lt hc]
 have h2:((a+2^j*b) &&& (c+2^j*d)) / 2^j=b &&& d:=by
  rw[Nat.and_div_two_pow,Nat.add_mul_div_left _ _ hp,Nat.add_mul_div_left _ _ hp,Nat.div_eq_of_lt ha,Nat.div_eq_of_lt hc,Nat.zero_add,Nat.zero_add]
 have h3:=Nat.mod_add_div ((a+2^j*b) &&& (c+2^j*d)) (2^j);rw[h1,h2] at h3;exact h3.symm
def zhq (k:Nat):Nat->Nat
 | 0=>0
 | n+1=>(2^k - 1)+2^(2*k)*zhq k n
def z6y (k:Nat):Nat->Nat->Nat
 | 0,_=>0
 | n+1,x=>(x % 2^k+x / 2^k % 2^k)+2^(2*k)*z6y k n (x / 2^(2*k))
def zvd (k:Nat):Nat->Nat->Nat
 | 0,_=>0
 | n+1,x=>x % 2^k+zvd k n (x / 2^k)
def dle (k m:Nat):Nat->Nat->Prop
 | 0,_=>True
 | n+1,x=>x % 2^k<=m/\dle k m n (x / 2^k)
theorem zby (k:Nat):2^(2*k)=2^k*2^k:=by rw[Nat.two_mul,Nat.pow_add]
theorem z1dz {k:Nat}(hk:0<k):2<=2^k:=by
 have:=Nat.pow_le_pow_right (n:=2) (by omega) hk;simpa using this
theorem z172 {k:Nat}:2^k - 1<2^(2*k):=by
 have h:2^k<=2^(2*k):=Nat.pow_le_pow_right (by omega) (by omega);have:=Nat.two_pow_pos k;omega
theorem z1c4 (k x:Nat):(x % 2^(2*k)) &&& (2^k - 1)=x % 2^k:=by
 rw[Nat.and_two_pow_sub_one_eq_mod,zby,Nat.mod_mul_left_mod]
theorem zya (k:Nat):∀ n x,x &&& zhq k n=0+(match n with|0=>0|n+1=>x % 2^k+2^(2*k)*((x / 2^(2*k)) &&& zhq k n))
 | 0,x=>by simp only[zhq,Nat.and_zero]
 | n+1,x=>by
   have h:=ztx (j:=2*k) (a:=x % 2^(2*k)) (b:=x / 2^(2*k)) (c:=2^k - 1) (d:=zhq k n) (Nat.mod_lt _ (Nat.two_pow_pos _)) z172;rw[Nat.mod_add_div] at h;rw[zhq,h,z1c4,Nat.zero_add]
theorem zuc (k:Nat):∀ n x,((x / 2^k) &&& zhq k n)+(x &&& zhq k n)=z6y k n x
 | 0,x=>by simp only[zhq,Nat.and_zero,z6y]
 | n+1,x=>by
   have e:x / 2^k / 2^(2*k)=x / 2^(2*k) / 2^k:=by rw[Nat.div_div_eq_div_mul,Nat.div_div_eq_div_mul,Nat.mul_comm]
   have h:=zuc k n (x / 2^(2*k));have h1:=zya k (n+1) (x / 2^k);have h2:=zya k (n+1) x;simp only[Nat.zero_add] at h1 h2;rw[h1,h2,z6y,<- h,e,Nat.mul_add];omega
theorem zrf (x k:Nat):x / 2^(2*k)=x / 2^k / 2^k:=by rw[zby,Nat.div_div_eq_div_mul]
theorem zrc {k:Nat}(hk:0<k)(x y:Nat):x % 2^k+y % 2^k<2^(2*k):=by
 have h1:=Nat.mod_lt x (Nat.two_pow_pos k);have h2:=Nat.mod_lt y (Nat.two_pow_pos k);have h3:=z1dz hk;rw[zby];have:2*2^k<=2^k*2^k:=Nat.mul_le_mul_right _ h3;omega
theorem zs2 {k:Nat}(hk:0<k)(n x:Nat):z6y k (n+1) x % 2^(2*k)=x % 2^k+x / 2^k % 2^k:=by
 rw[z6y,Nat.add_mul_mod_self_left,Nat.mod_eq_of_lt (zrc hk _ _)]
theorem zs3 {k:Nat}(hk:0<k)(n x:Nat):z6y k (n+1) x / 2^(2*k)=z6y k n (x / 2^(2*k)):=by
 rw[z6y,Nat.add_mul_div_left _ _ (Nat.two_pow_pos _),Nat.div_eq_of_lt (zrc hk _ _),Nat.zero_add]
theorem zjp {k:Nat}(hk:0<k):∀ n x,zvd (2*k) n (z6y k n x)=zvd k (2*n) x
 | 0,x=>rfl
 | n+1,x=>by
   rw[zvd,zs2 hk,zs3 hk,zjp hk n,Nat.mul_add,Nat.mul_one];simp only[zvd];rw[zrf,Nat.add_assoc]
theorem zm8 {k m:Nat}(hk:0<k):∀ n x,dle k m (2*n) x->dle (2*k) (m+m) n (z6y k n x)
 | 0,x,_=>trivial
 | n+1,x,h=>by
   rw[Nat.mul_add,Nat.mul_one] at h;simp only[dle] at h;rw[dle,zs2 hk,zs3 hk];refine⟨by omega,zm8 hk n _ ?_⟩;rw[zrf];exact h.2.2
theorem zwr {k m:Nat}(hm:m+m<2^k):∀ n x,dle k m (2*n+1) x->((x / 2^k+x) &&& zhq k n)=z6y k n x
 | 0,x,_=>by simp only[zhq,Nat.and_zero,z6y]
 | n + 1,x,h=>by
   have e2:2*(n+1)+1=(2*n+1)+1+1:=by omega
   rw[e2] at h;simp only[dle] at h;obtain⟨h0,h1,h2⟩:=h;have ih:=zwr hm n (x / 2^k / 2^k) h2;have h3:=h2.1;have d0:=Nat.mod_add_div x (2^k);have d1:=Nat.mod_add_div (x / 2^k) (2^k);have d2:=Nat.mod_add_div (x / 2^k / 2^k) (2^k);have hB:=Nat.two_pow_pos k;have e:x / 2^k+x=((x % 2^k+x / 2^k % 2^k)+2^k*(x / 2^k % 2^k+x / 2^k / 2^k % 2^k))+2^(2*k)*(x / 2^k / 2^k / 2^k+x / 2^k / 2^k):=by
    rw[zby];generalize 2^k=B at *;generalize x / B / B / B=r2 at *;generalize x / B / B % B=c at *;generalize x / B / B=r1 at *;generalize x / B % B=b at *;generalize x / B=r0 at *;generalize x % B=a at *;subst d0;subst d2;subst d1;simp only[Nat.mul_add,Nat.mul_assoc];omega
   have hlt:(x % 2^k+x / 2^k % 2^k)+2^k*(x / 2^k % 2^k+x / 2^k / 2^k % 2^k)<2^(2*k):=by
    have g1:x % 2^k+x / 2^k % 2^k<2^k:=by omega
    have g2:x / 2^k % 2^k+x / 2^k / 2^k % 2^k+1<=2^k:=by omega
    have g3:=Nat.mul_le_mul_left (2^k) g2;rw[Nat.mul_add,Nat.mul_one] at g3;rw[zby];omega
   have hs:=ztx (j:=2*k) (b:=x / 2^k / 2^k / 2^k+x / 2^k / 2^k) (d:=zhq k n) hlt (z172 (k:=k));rw[e,zhq,hs,Nat.and_two_pow_sub_one_eq_mod,Nat.add_mul_mod_self_left,Nat.mod_eq_of_lt (by omega),ih,z6y,zrf]
theorem zh7 {k:Nat}(hk:0<k):∀ n x,z6y k n x<2^(2*k*n)
 | 0,x=>by simp only[z6y,Nat.mul_zero,Nat.pow_zero];omega
 | n+1,x=>by
   have h:=zrc hk x (x / 2^k);have ih:=zh7 hk n (x / 2^(2*k));rw[z6y,Nat.mul_add,Nat.mul_one,Nat.pow_add,Nat.mul_comm (2^(2*k*n))];have g:=Nat.mul_le_mul_left (2^(2*k)) (show z6y k n (x / 2^(2*k))+1<=2^(2*k*n) from ih);rw[Nat.mul_add,Nat.mul_one] at g;omega
theorem zy4 {k m:Nat}:∀ n x,dle k m n x->x<2^(k*n)->dle k m (n+1) x
 | 0,x,_,h=>by
   simp only[Nat.mul_zero,Nat.pow_zero] at h;have:x=0:=by omega
   subst this;simp only[dle,Nat.zero_mod];exact⟨Nat.zero_le _,trivial⟩
 | n+1,x,hd,h=>by
   refine⟨hd.1,zy4 n _ hd.2 ?_⟩;rw[Nat.mul_add,Nat.mul_one,Nat.pow_add,Nat.mul_comm] at h;exact Nat.div_lt_of_lt_mul h
def pop:Nat->Nat->Nat
 | 0,_=>0
 | n+1,x=>x % 2+pop n (x / 2)
theorem zy3:∀ n x,zvd 1 n x=pop n x
 | 0,_=>rfl
 | n+1,x=>by
   rw[zvd,pop,zy3 n]
theorem z137:∀ n x,dle 1 1 n x
 | 0,_=>trivial
 | n+1,x=>⟨by omega,z137 n _⟩
def fld (x i:Nat):Nat:=x / 256^i % 256
theorem zhf (x i:Nat):fld x (i+1)=fld (x / 256) i:=by
 unfold fld;rw[Nat.pow_succ,Nat.mul_comm,Nat.div_div_eq_div_mul]
theorem zhe (x:Nat):fld x 0=x % 256:=by
 unfold fld;rw[Nat.pow_zero,Nat.div_one]
theorem hop {m:Nat}(j:Nat)(hm:m+m<256):∀ i x,(∀ i,fld x i<=m)->fld (x+x / 256^j) i=fld x i+fld x (i+j)
 | 0,x,h=>by
   have h0:=h 0;have hj:=h j;have e0:fld x 0=x % 256:=zhe x;have ej:fld x j=x / 256^j % 256:=rfl;rw[Nat.zero_add,zhe (x+x / 256^j),Nat.add_mod,<- e0,<- ej];exact Nat.mod_eq_of_lt (by omega)
 | i + 1,x,h=>by
   have h0:=h 0;have hj:=h j;have e0:fld x 0=x % 256:=zhe x;have ej:fld x j=x / 256^j % 256:=rfl;have ed:x / 256^j / 256=x / 256 / 256^j:=by rw[Nat.div_div_eq_div_mul,Nat.div_div_eq_div_mul,Nat.mul_comm]
   have e:(x+x / 256^j) / 256=x / 256+x / 256 / 256^j:=by
    rw[<- ed];rw[e0] at h0;rw[ej] at hj;generalize x / 256^j=r at *;omega
   have e1:i+1+j=(i+j)+1:=by omega
   rw[zhf,e,hop j hm i (x / 256) (fun i=>by rw[<- zhf];exact h _),e1,zhf x i,zhf x (i+j)]
theorem z12s {m:Nat}:∀ n x,dle 8 m n x->x<2^(8*n)->∀ i,fld x i<=m
 | 0,x,_,hx,i=>by
   simp only[Nat.mul_zero,Nat.pow_zero] at hx;have:x=0:=by omega
   subst this;unfold fld;rw[Nat.zero_div];exact Nat.zero_le _
 | n+1,x,h,hx,0=>by
   rw[zhe];exact h.1
 | n+1,x,h,hx,i+1=>by
   rw[zhf];refine z12s n _ h.2 ?_ i;rw[Nat.mul_add,Nat.mul_one,Nat.pow_add,Nat.mul_comm] at hx;exact Nat.div_lt_of_lt_mul hx
theorem z15z:∀ n x,zvd 8 (n+1) x=fld x 0+zvd 8 n (x / 256)
 | _,x=>by rw[zvd,zhe]
theorem fold8 {x:Nat}(h:dle 8 8 8 x)(hx:x<18446744073709551616) :
 ((x+x / 256)+(x+x / 256) / 65536+((x+x / 256)+(x+x / 256) / 65536) / 4294967296) % 128=zvd 8 8 x:=by
 have hf:=z12s 8 x h (by simp only[Nat.reduceMul,Nat.reducePow];exact hx);have p1:(256:Nat)=256^1:=rfl;have p2:(65536:Nat)=256^2:=rfl;have p4:(4294967296:Nat)=256^4:=rfl;have s1:∀ i,fld (x+x / 256) i=fld x i+fld x (i+1):=fun i=>by
  have:=hop 1 (m:=8) (by omega) i x hf
  rwa [<- p1] at this
 have l1:∀ i,fld (x+x / 256) i<=16:=fun i=>by
  have:=hf i;have:=hf (i+1);rw[s1];omega
 generalize x+x / 256=y at *;have s2:∀ i,fld (y+y / 65536) i=fld y i+fld y (i+2):=fun i=>by
  have:=hop 2 (m:=16) (by omega) i y l1
  rwa [<- p2] at this
 have l2:∀ i,fld (y+y / 65536) i<=32:=fun i=>by
  have:=l1 i;have:=l1 (i+2);rw[s2];omega
 generalize y+y / 65536=z at *;have s3:fld (z+z / 4294967296) 0=fld z 0+fld z (0+4):=by
  have:=hop 4 (m:=32) (by omega) 0 z l2
  rwa [<- p4] at this
 have e:(z+z / 4294967296) % 128=fld (z+z / 4294967296) 0 % 128:=by
  rw[zhe,Nat.mod_mod_of_dvd];exact⟨2,rfl⟩
 have h0:=l2 0;have h4:=l2 4;rw[e,s3,Nat.zero_add,Nat.mod_eq_of_lt (by omega),s2,s2,s1,s1,s1,s1];simp only[z15z];simp only[<- zhf];simp only[zvd,Nat.zero_add,Nat.reduceAdd];omega
theorem z15v {x:Nat}(hx:x<1085102592571150096) :
 x+x / 256<18446744073709551616/\(x+x / 256)+(x+x / 256) / 65536<18446744073709551616
 /\ (x+x / 256)+(x+x / 256) / 65536+((x+x / 256)+(x+x / 256) / 65536) / 4294967296<9223372036854775808:=by
 have h1:x+x / 256<1200000000000000000:=by omega
 generalize x+x / 256=y at *;have h2:y+y / 65536<1300000000000000000:=by omega
 generalize y+y / 65536=z at *;refine⟨by omega,by omega,by omega⟩
end
end Go.Proofs.YthgcpalmjcomlaaDoorPx
set_option linter.all false
namespace Go.Proofs.YthgcpalmjcomlaaDoorPx
noncomputable section
open Go Go.Lift
theorem z138 {k m:Nat}:∀ n x,dle k m (n+1) x->x<2^(k*(n+1))->x<(m+1)*2^(k*n)
 | 0,x,h,hx=>by
   have h0:=h.1;rw[Nat.zero_add,Nat.mul_one] at hx;rw[Nat.mod_eq_of_lt hx] at h0;rw[Nat.mul_zero,Nat.pow_zero,Nat.mul_one];omega
 | n+1,x,h,hx=>by
   rw[Nat.mul_add,Nat.mul_one,Nat.pow_add,Nat.mul_comm (2^(k*(n+1)))] at hx;have ih:=z138 n (x / 2^k) h.2 (Nat.div_lt_of_lt_mul hx);have e:=(Nat.div_lt_iff_lt_mul (Nat.two_pow_pos k)).1 ih;rw[Nat.mul_add,Nat.mul_one,Nat.pow_add,<- Nat.mul_assoc];exact e
def s1I (x:Int):Int:=IntKind.wrap .u64 (bitsOp .and .u64 (z21 .u64 x 1) 6148914691236517205+bitsOp .and .u64 x 6148914691236517205)
def s2I (x:Int):Int:=IntKind.wrap .u64 (bitsOp .and .u64 (z21 .u64 x 2) 3689348814741910323+bitsOp .and .u64 x 3689348814741910323)
def s3I (x:Int):Int:=bitsOp .and .u64 (IntKind.wrap .u64 (z21 .u64 x 4+x)) 1085102592571150095
def s4I (k x:Int):Int:=IntKind.wrap .u64 (x+z21 .u64 x k)
def zuq (x:Int):Int:=bitsOp .and .i64 (IntKind.wrap .i64 (s4I 32 (s4I 16 (s4I 8 (s3I (s2I (s1I x))))))) 127
theorem zk3 {n:Nat}(h:n<18446744073709551616):U64 (n:Int):=by unfold U64;omega
theorem zqj {n k:Nat}(hk:k<64):z21 .u64 (n:Int) (k:Int)=((n / 2^k:Nat):Int):=by
 rw[zue (by omega) hk,Int.toNat_natCast,Nat.shiftRight_eq_div_pow]
theorem zoc {n m:Nat}(hn:n<18446744073709551616)(hm:m<18446744073709551616):bitsOp .and .u64 (n:Int) (m:Int)=((n &&& m:Nat):Int):=by
 rw[zrq (zk3 hn) (zk3 hm),Int.toNat_natCast,Int.toNat_natCast]
theorem z1c5 {n:Nat}(hn:n<9223372036854775808):bitsOp .and .i64 (n:Int) 127=((n % 128:Nat):Int):=by
 have e:bitsOp .and .i64 (n:Int) 127=IntKind.wrap .i64 ((BitVec.ofInt 64 (n:Int) &&& BitVec.ofInt 64 127).toNat:Int):=rfl;have e1:(BitVec.ofInt 64 (n:Int)).toNat=n:=by rw[BitVec.toNat_ofInt];omega
 have e2:(BitVec.ofInt 64 (127:Int)).toNat=127:=rfl;have e3:n &&& 127=n % 128:=Nat.and_two_pow_sub_one_eq_mod n 7;rw[e,BitVec.toNat_and,e1,e2,e3,z5q (by unfold I64;omega)]
theorem m1:(6148914691236517205:Nat)=zhq 1 32:=by decide
theorem m2:(3689348814741910323:Nat)=zhq 2 16:=by decide
theorem m3:(1085102592571150095:Nat)=zhq 4 8:=by decide
theorem z1du {n:Nat}(h:n<18446744073709551616):s1I (n:Int)=((z6y 1 32 n:Nat):Int):=by
 have hs:z6y 1 32 n<18446744073709551616:=zh7 (by omega) 32 n;have hd:n / 2^1<18446744073709551616:=Nat.lt_of_le_of_lt (Nat.div_le_self _ _) h;have e:=zuc 1 32 n;have a1:z21 .u64 (n:Int) 1=((n / 2^1:Nat):Int):=zqj (k:=1) (by omega);have a2:=zoc hd (m:=6148914691236517205) (by omega);have a3:=zoc h (m:=6148914691236517205) (by omega);rw[m1] at a2 a3;unfold s1I;rw[a1];show IntKind.wrap .u64 (bitsOp .and .u64 _ ((6148914691236517205:Nat):Int)+bitsOp .and .u64 _ ((6148914691236517205:Nat):Int))=_;rw[m1,a2,a3,<- e,z6w]
 . rw[Int.natCast_add]
 . rw[<- Int.natCast_add,e];exact zk3 hs
theorem z1dt {n:Nat}(h:n<18446744073709551616):s2I (n:Int)=((z6y 2 16 n:Nat):Int):=by
 have hs:z6y 2 16 n<18446744073709551616:=zh7 (by omega) 16 n;have hd:n / 2^2<18446744073709551616:=Nat.lt_of_le_of_lt (Nat.div_le_self _ _) h;have e:=zuc 2 16 n;have a1:z21 .u64 (n:Int) 2=((n / 2^2:Nat):Int):=zqj (k:=2) (by omega);have a2:=zoc hd (m:=3689348814741910323) (by omega);have a3:=zoc h (m:=3689348814741910323) (by omega);rw[m2] at a2 a3;unfold s2I;rw[a1];show IntKind.wrap .u64 (bitsOp .and .u64 _ ((3689348814741910323:Nat):Int)+bitsOp .and .u64 _ ((3689348814741910323:Nat):Int))=_;rw[m2,a2,a3,<- e,z6w]
 . rw[Int.natCast_add]
 . rw[<- Int.natCast_add,e];exact zk3 hs
theorem z1ds {n:Nat}(h:n<18446744073709551616)(hd:dle 4 4 16 n):s3I (n:Int)=((z6y 4 8 n:Nat):Int):=by
 have hb:n<(4+1)*2^(4*15):=z138 15 n hd h;simp only[Nat.reduceAdd,Nat.reduceMul,Nat.reducePow] at hb;have e:=zwr (k:=4) (m:=4) (by decide) 8 n (zy4 16 n hd h);have a1:z21 .u64 (n:Int) 4=((n / 2^4:Nat):Int):=zqj (k:=4) (by omega);have hd2:n / 2^4+n<18446744073709551616:=by
  have:=Nat.div_le_self n (2^4);omega
 have a2:=zoc hd2 (m:=1085102592571150095) (by omega);rw[m3,e] at a2;unfold s3I;rw[a1,<- Int.natCast_add,z6w (zk3 hd2)];show bitsOp .and .u64 _ ((1085102592571150095:Nat):Int)=_;rw[m3,a2]
theorem z10w {n k:Nat}(hk:k<64)(h:n+n / 2^k<18446744073709551616):s4I (k:Int) (n:Int)=((n+n / 2^k:Nat):Int):=by
 unfold s4I;rw[zqj hk,<- Int.natCast_add,z6w (zk3 h)]
theorem z158 {n:Nat}(h:n<18446744073709551616):zuq (n:Int)=((pop 64 n:Nat):Int):=by
 have h1:z6y 1 32 n<18446744073709551616:=zh7 (by omega) 32 n;have d1:dle 2 2 32 (z6y 1 32 n):=zm8 (by omega) 32 n (z137 64 n);have u1:zvd 2 32 (z6y 1 32 n)=pop 64 n:=by rw[<- zy3];exact zjp (by omega) 32 n
 unfold zuq;rw[z1du h];generalize z6y 1 32 n=x at *;have h2:z6y 2 16 x<18446744073709551616:=zh7 (by omega) 16 x;have d2:dle 4 4 16 (z6y 2 16 x):=zm8 (by omega) 16 x d1;have u2:zvd 4 16 (z6y 2 16 x)=pop 64 n:=by rw[<- u1];exact zjp (by omega) 16 x
 rw[z1dt h1];generalize z6y 2 16 x=y at *;have h3:z6y 4 8 y<18446744073709551616:=zh7 (by omega) 8 y;have d3:dle 8 8 8 (z6y 4 8 y):=zm8 (by omega) 8 y d2;have u3:zvd 8 8 (z6y 4 8 y)=pop 64 n:=by rw[<- u2];exact zjp (by omega) 8 y
 rw[z1ds h2 d2];generalize z6y 4 8 y=z at *;have hb:z<(8+1)*2^(8*7):=z138 7 z d3 h3;simp only[Nat.reduceAdd,Nat.reduceMul,Nat.reducePow] at hb;obtain⟨l1,l2,l3⟩:=z15v (x:=z) (by omega);have f:=fold8 d3 h3;have q1:s4I 8 (z:Int)=((z+z / 256:Nat):Int):=z10w (k:=8) (by omega) l1;rw[q1];generalize z+z / 256=a at *;have q2:s4I 16 (a:Int)=((a+a / 65536:Nat):Int):=z10w (k:=16) (by omega) l2;rw[q2];generalize a+a / 65536=b at *;have q3:s4I 32 (b:Int)=((b+b / 4294967296:Nat):Int):=z10w (k:=32) (by omega) (by omega);rw[q3,z5q (by unfold I64;omega),z1c5 l3,f,u3]
theorem zqw {x:Int}(h:U64 x):zuq x=((pop 64 x.toNat:Nat):Int):=by
 obtain⟨n,rfl⟩:=Int.eq_ofNat_of_zero_le h.1;have:=h.2;rw[Int.toNat_natCast,z158 (by omega)]
def cnt (f:Nat->Bool):Nat->Nat
 | 0=>0
 | n+1=>cnt f n+(f n).toNat
theorem z13f (f:Nat->Bool):∀ n,cnt f n<=n
 | 0=>Nat.le_refl _
 | n+1=>by
   have:=z13f f n;have:(f n).toNat<=1:=by cases f n<;>decide
   simp only[cnt];omega
theorem znu {f g:Nat->Bool}:∀ n,(∀ i,i<n->f i=g i)->cnt f n=cnt g n
 | 0,_=>rfl
 | n+1,h=>by rw[cnt,cnt,znu n (fun i hi=>h i (by omega)),h n (by omega)]
theorem zky (f:Nat->Bool)(m:Nat):∀ n,cnt f (m+n)=cnt f m+cnt (fun i=>f (m+i)) n
 | 0=>rfl
 | n+1=>by rw[<- Nat.add_assoc,cnt,cnt,zky f m n,Nat.add_assoc]
theorem zmz:∀ n x,pop n x=cnt (fun i=>x.testBit i) n
 | 0,_=>rfl
 | n+1,x=>by
   have h:cnt (fun i=>x.testBit i) (1+n)=cnt (fun i=>x.testBit i) 1+cnt (fun i=>x.testBit (1+i)) n:=zky _ 1 n;have e:cnt (fun i=>x.testBit (1+i)) n=cnt (fun i=>(x / 2).testBit i) n:=znu n (fun i _=>by rw[Nat.add_comm,Nat.testBit_succ]);rw[Nat.add_comm n 1,h,e,<- zmz n,Nat.add_comm 1 n,pop];congr 1;simp only[cnt,Nat.testBit_zero,Nat.zero_add];have:=Nat.mod_lt x (show 0<2 by omega);obtain h|h:x % 2=0\/x % 2=1:=by omega
   . rw[h];rfl
   . rw[h];rfl
theorem ztm {f g h:Nat->Bool}:∀ n,(∀ i,i<n->g i=(f i && h i))->∀ {g':Nat->Bool},(∀ i,i<n->g' i=(f i && !h i))->cnt g n+cnt g' n=cnt f n
 | 0,_,_,_=>rfl
 | n+1,h1,g',h2=>by
   have ih:=ztm n (fun i hi=>h1 i (by omega)) (fun i hi=>h2 i (by omega));rw[cnt,cnt,cnt,<- ih,h1 n (by omega),h2 n (by omega)];cases f n<;>cases h n<;>simp only[Bool.and_true,Bool.and_false,Bool.not_true,Bool.not_false,Bool.toNat_true,Bool.toNat_false]<;>omega
def zi0 (s:List Int):Nat:=cnt (hasS s) 256
theorem zvj {s:List Int}{a b c d:Int}(e:s=[a,b,c,d]):zi0 s=pop 64 a.toNat+pop 64 b.toNat+pop 64 c.toNat+pop 64 d.toNat:=by
 subst e;have h1:cnt (hasS [a,b,c,d]) (64+(64+(64+64)))=_:=zky _ 64 _;rw[zky _ 64 (64+64),zky _ 64 64] at h1;unfold zi0;rw[show (256:Nat)=64+(64+(64+64)) from rfl,h1,zmz,zmz,zmz,zmz,Nat.add_assoc,Nat.add_assoc];have k (w:Nat) (hw:w<4):cnt (fun i=>hasS [a,b,c,d] (64*w+i)) 64=cnt (fun i=>([a,b,c,d].getD w 0).toNat.testBit i) 64:=znu 64 (fun i hi=>by
  unfold hasS bit;rw[show (64*w+i) / 64=w by omega,show (64*w+i) % 64=i by omega])
 have k0:=k 0 (by omega);have k1:=k 1 (by omega);have k2:=k 2 (by omega);have k3:=k 3 (by omega);simp only[Nat.mul_zero,Nat.zero_add,Nat.mul_one,Nat.reduceMul] at k0 k1 k2 k3;have e2:(fun i=>hasS [a,b,c,d] (64+(64+i)))=fun i=>hasS [a,b,c,d] (128+i):=by funext i;rw[<- Nat.add_assoc]
 have e3:(fun i=>hasS [a,b,c,d] (64+(64+(64+i))))=fun i=>hasS [a,b,c,d] (192+i):=by funext i;rw[<- Nat.add_assoc,<- Nat.add_assoc]
 have e0:cnt (hasS [a,b,c,d]) 64=cnt (fun i=>hasS [a,b,c,d] i) 64:=rfl;rw[e0,k0,k1,e2,k2,e3,k3];rfl
theorem zzr {s t:List Int}(hs:SetOk s)(ht:SetOk t):zi0 (zzz s t)+zi0 (zzz s (zu4 t))=zi0 s :=
 ztm (h:=hasS t) 256 (fun i hi=>zr9 hs ht hi) (fun i hi=>by rw[zr9 hs (zxj ht) hi,zv8 ht hi])
theorem zvi (s:List Int):zi0 s<=256:=z13f _ _
theorem zlv {x y:Int}(hx:U64 x)(hy:U64 y)(h:∀ i,i<64->bit x i=bit y i):x=y:=by
 have e:x.toNat=y.toNat:=Nat.eq_of_testBit_eq (fun i=>by
  by_cases hi:i<64
  . exact h i hi
  . have e64:(18446744073709551616:Nat)<=2^i:=Nat.le_trans (by decide) (Nat.pow_le_pow_right (n:=2) (by omega) (show 64<=i by omega));rw[Nat.testBit_lt_two_pow (Nat.lt_of_lt_of_le (by have:=hx.2;omega) e64),Nat.testBit_lt_two_pow (Nat.lt_of_lt_of_le (by have:=hy.2;omega) e64)])
 have:=hx.1;have:=hy.1;omega
theorem zen {s t:List Int}(hs:SetOk s)(ht:SetOk t)(h:∀ b,b<256->hasS s b=hasS t b):s=t:=by
 obtain⟨a,b,c,d,rfl,ha,hb,hc,hd⟩:=hs;obtain⟨e,f,g,k,rfl,he,hf,hg,hk⟩:=ht;have q (w:Nat) (hw:w<4):∀ i,i<64->bit ([a,b,c,d].getD w 0) i=bit ([e,f,g,k].getD w 0) i:=fun i hi=>by
  have:=h (64*w+i) (by omega);unfold hasS at this
  rwa [show (64*w+i) / 64=w by omega,show (64*w+i) % 64=i by omega] at this
 rw[zlv ha he (q 0 (by omega)),zlv hb hf (q 1 (by omega)),zlv hc hg (q 2 (by omega)),zlv hd hk (q 3 (by omega))]
end
end Go.Proofs.YthgcpalmjcomlaaDoorPx
set_option linter.all false
namespace Go.Proofs.YthgcpalmjcomlaaDoorPx
noncomputable section
open Go Go.Lift
def zln (s:List Int):Nat->Nat->List Nat
 | 0,_=>[]
 | n+1,b=>if hasS s b=true then b::zln s n (b+1) else zln s n (b+1)
theorem zh5 (s:List Int):∀ n b c,c∈zln s n b ↔ b<=c/\c<b+n/\hasS s c=true
 | 0,b,c=>by simp only[zln,List.not_mem_nil,false_iff];omega
 | n + 1,b,c=>by
   have ih:=zh5 s n (b+1) c;rw[zln];split
   . rename_i h;rw[List.mem_cons,ih];constructor
     . rintro (rfl|h1)
       . exact⟨Nat.le_refl _,by omega,h⟩
       . exact⟨by omega,by omega,h1.2.2⟩
     . rintro⟨h1,h2,h3⟩;by_cases e:c=b
       . exact .inl e
       . exact .inr ⟨by omega,by omega,h3⟩
   . rename_i h;rw[ih];constructor
     . rintro⟨h1,h2,h3⟩;exact⟨by omega,by omega,h3⟩
     . rintro⟨h1,h2,h3⟩;have:c≠b:=fun e=>h (e ▸ h3)
       exact⟨by omega,by omega,h3⟩
theorem zj0 (s:List Int):∀ n b,(zln s n b).length=cnt (fun i=>hasS s (b+i)) n
 | 0,_=>rfl
 | n + 1,b=>by
   have e:cnt (fun i=>hasS s (b+i)) (1+n)=cnt (fun i=>hasS s (b+i)) 1+cnt (fun i=>hasS s (b+(1+i))) n:=zky _ 1 n;have e2:cnt (fun i=>hasS s (b+(1+i))) n=cnt (fun i=>hasS s (b+1+i)) n:=by simp only[Nat.add_assoc]
   rw[Nat.add_comm n 1,e,e2,<- zj0 s n (b+1),Nat.add_comm 1 n,zln];simp only[cnt,Nat.add_zero,Nat.zero_add];cases h:hasS s b
   . rw[if_neg (by decide)];show _=0+_;omega
   . rw[if_pos rfl,List.length_cons];show _=1+_;omega
def z1ck (l:List UInt8)(s:List Int):List Int:=l.foldl (fun s u=>zyj s u.toNat) s
theorem z16w:∀ (l:List UInt8) {s:List Int},SetOk s->SetOk (z1ck l s)
 | [],_,h=>h
 | u::l,_,h=>z16w l (zmc h (z18a u))
def zak (s:List Int):Nat->Nat->Int
 | 0,_=>-1
 | n+1,b=>if hasS s b=true then (b:Int) else zak s n (b+1)
theorem zm4 {s:List Int}{c:Nat}(hc:hasS s c=true):∀ n b,b<=c->c<b+n->(∀ i,b<=i->i<c->hasS s i=false)->zak s n b=(c:Int)
 | 0,b,h1,h2,_=>by omega
 | n + 1,b,h1,h2,h=>by
   rw[zak];by_cases e:b=c
   . subst e;rw[if_pos hc]
   . have hb:=h b (Nat.le_refl _) (by omega);rw[if_neg (by rw[hb];decide)];exact zm4 hc n (b+1) (by omega) (by omega) (fun i h3 h4=>h i (by omega) h4)
theorem zpr {s:List Int}(h:∀ i,hasS s i=false):∀ n b,zak s n b=-1
 | 0,_=>rfl
 | n+1,b=>by
   rw[zak,if_neg (by rw[h b];decide),zpr h n (b+1)]
theorem z15i:∀ x:Nat,x≠0->∃ t q,x=2^t*(2*q+1):=by
 intro x
 induction x using Nat.strongRecOn with
 | _ x ih =>
   intro h;by_cases e:x % 2=1
   . exact⟨0,x / 2,by rw[Nat.pow_zero];omega⟩
   . obtain⟨t,q,h1⟩:=ih (x / 2) (by omega) (by omega);refine⟨t+1,q,?_⟩;rw[Nat.pow_succ,Nat.mul_comm (2^t) 2,Nat.mul_assoc,<- h1];omega
theorem z125 (t q i:Nat):(2^t*(2*q+1)).testBit i=if i<t then false else if i=t then true else q.testBit (i - t - 1):=by
 have e:2^t*(2*q+1)=2^t*(2*q+1)+0:=rfl;rw[e,Nat.testBit_two_pow_mul_add _ (Nat.two_pow_pos t)];split
 . exact Nat.zero_testBit i
 . rename_i h;split
   . rename_i h2;subst h2;rw[Nat.sub_self,Nat.testBit_zero];exact decide_eq_true (by omega)
   . rename_i h2;obtain⟨j,hj⟩:∃ j,i - t=j+1:=⟨i - t - 1,by omega⟩
     rw[hj,Nat.testBit_succ];congr 1;omega
theorem z19b {t q:Nat}(h:2^t*(2*q+1)<2^64):(2^t*(2*q+1)) &&& (2^64 - 2^t*(2*q+1))=2^t:=by
 have hp:=Nat.two_pow_pos t;have ht:t<64:=by
  have:2^t*1<=2^t*(2*q+1):=Nat.mul_le_mul_left _ (by omega);exact (Nat.pow_lt_pow_iff_right (a:=2) (by omega)).1 (by omega)
 have e:2^t*(2*q+1)=(2^t*(2*q)+(2^t - 1))+1:=by
  rw[Nat.mul_add,Nat.mul_one];omega
 have hlt:2^t*(2*q)+(2^t - 1)<2^64:=by omega
 apply Nat.eq_of_testBit_eq;intro i;have hb:=z125 t q i;rw[Nat.testBit_and,Nat.testBit_two_pow];have hs:(2^64 - 2^t*(2*q+1)).testBit i=(decide (i<64) && !(2^t*(2*q)+(2^t - 1)).testBit i):=by
  rw[e,Nat.testBit_two_pow_sub_succ hlt]
 rw[hs,hb,Nat.testBit_two_pow_mul_add _ (by omega)];by_cases h1:i<t
 . rw[if_pos h1,if_pos h1,Bool.false_and];exact (decide_eq_false (by omega)).symm
 . rw[if_neg h1,if_neg h1];by_cases h2:i=t
   . subst h2;rw[if_pos rfl,Nat.sub_self,Nat.testBit_zero,decide_eq_true ht,decide_eq_false (by omega)];exact (decide_eq_true rfl).symm
   . obtain⟨j,hj⟩:∃ j,i - t=j+1:=⟨i - t - 1,by omega⟩
     have ej:i - t - 1=j:=by omega
     have eq2:2*q / 2=q:=by omega
     rw[if_neg h2,hj,Nat.testBit_succ,eq2,Nat.add_sub_cancel,decide_eq_false (p:=t=i) (by omega)];cases q.testBit j<;>cases decide (i<64)<;>rfl
end
end Go.Proofs.YthgcpalmjcomlaaDoorPx
set_option linter.all false
set_option maxRecDepth 100000
namespace Go.Proofs.YthgcpalmjcomlaaDoorLg
noncomputable section
open Go Go.Lift Go.Proofs.YthgcpalmjcomlaaDoorPx
theorem or4 (N:Nat)(a b c d e f g h:Int):za5 (N+5) [a,b,c,d] [e,f,g,h]=some (orS [a,b,c,d] [e,f,g,h]):=by kernel_rfl
theorem not4 (N:Nat)(a b c d:Int):z7d (N+5) [a,b,c,d]=some (zu4 [a,b,c,d]):=by kernel_rfl
theorem or_eq (N:Nat){s t:List Int}(hs:SetOk s)(ht:SetOk t):za5 (N+5) s t=some (orS s t):=by
 obtain⟨a,b,c,d,rfl,_⟩:=hs;obtain⟨e,f,g,h,rfl,_⟩:=ht;exact or4 ..
theorem z1gh (N:Nat){s:List Int}(hs:SetOk s):z7d (N+5) s=some (zu4 s):=by
 obtain⟨a,b,c,d,rfl,_⟩:=hs;exact not4 ..
theorem z1m3 {b:Nat}(hb:b<256):Go.IntKind.wrap .u8 (Int.tdiv (b:Int) (64:Int))=((b / 64:Nat):Int):=by
 rw[Int.tdiv_eq_ediv_of_nonneg (by omega),zk0 (by omega) (by omega)];omega
theorem z1gk (b:Nat):Int.tmod (b:Int) (64:Int)=((b % 64:Nat):Int):=by
 rw[Int.tmod_eq_emod_of_nonneg (by omega)];omega
theorem z1h3 (N:Nat){s:List Int}(hs:SetOk s){b:Nat}(hb:b<256):zcw N s (b:Int)=some (hasS s b):=by
 have hi:b / 64<4:=by omega
 rw[zcw,z1m3 hb,z1gk,Int.toNat_natCast,z2a (zcs hi),z2a (decide_eq_true (by rw[hs.length];exact hi)),z2a (decide_eq_true (by omega)),
  z1b6 (hs.word hi) (by omega)]
 rfl
theorem z10d (N:Nat){s:List Int}(hs:SetOk s){b:Nat}(hb:b<256):z9d N s (b:Int)=some (zyj s b):=by
 have hi:b / 64<4:=by omega
 rw[z9d,z1m3 hb,z1gk,Int.toNat_natCast,z2a (zcs hi),z2a (decide_eq_true (by rw[hs.length];exact hi)),z2a (decide_eq_true (by omega)),
  z2a (zcs hi),z2a (decide_eq_true (by rw[hs.length];exact hi))]
 rfl
def ofS:Nat->Nat->List Int->List Int
 | 0,_,s=>s
 | n+1,b,s=>ofS n (b+1) (zyj s b)
theorem zus:∀ (n b:Nat) {s:List Int},SetOk s->b+n<=256->SetOk (ofS n b s)
 | 0,_,_,hs,_=>hs
 | n+1,b,_,hs,h=>zus n (b+1) (zmc hs (by omega)) (by omega)
theorem zxt:∀ (n b:Nat) {s:List Int},SetOk s->b+n<=256->∀ {c:Nat},c<256->hasS (ofS n b s) c=(hasS s c || decide (b<=c/\c<b+n))
 | 0,b,s,hs,_,c,_=>by
   have:decide (b<=c/\c<b+0)=false:=decide_eq_false (by omega);rw[this,Bool.or_false];rfl
 | n+1,b,s,hs,h,c,hc=>by
   rw[ofS,zxt n (b+1) (zmc hs (by omega)) (by omega) hc,z15r hs (by omega) hc,Bool.or_assoc];congr 1;rw[<- Bool.decide_or];exact decide_eq_decide.2 (by omega)
theorem z11r (N:Nat) {lo hi:Nat} (hl:lo<256) (hh:hi<256) (hN:257<N) :
 z1w N (lo:Int) (hi:Int)=some (ofS (hi+1 - lo) lo [0,0,0,0]):=by
 have wl:Go.IntKind.wrap .i64 (lo:Int)=(lo:Int):=z5q (by unfold I64;omega);have wh:Go.IntKind.wrap .i64 (hi:Int)=(hi:Int):=z5q (by unfold I64;omega);rw[z1w,zju,wl]
 let R:List Int×Int->Option (List Int):=fun v=>some (ofS (hi+1 - v.2.toNat) v.2.toNat v.1)
 have h:=zgp (step:=fun (v:((List Int)×Int)) r=>zbq N (hi:Int) [(0:Int),(0:Int),(0:Int),(0:Int)] v.1 v.2 (fun s b=>(r (s,b))) (fun s=>some s))
  (I:=fun v=>SetOk v.1/\0<=v.2/\v.2<=256) (m:=fun v=>256 - v.2.toNat) (R:=R)
  (by
   rintro⟨s,b⟩ r ⟨hs,h0,h1⟩ hr;obtain⟨b,rfl⟩:=Int.eq_ofNat_of_zero_le h0;simp only at hs h0 h1 ⊢;rw[zbq,wh];by_cases hb:b<=hi
   . have wb:Go.IntKind.wrap .u8 (b:Int)=(b:Int):=zk0 (by omega) (by omega);have wb1:Go.IntKind.wrap .i64 ((b:Int)+1)=((b+1:Nat):Int):=zrx (by omega);rw[z2a (decide_eq_true (by omega)),wb,z10d N hs (by omega)];simp only[Option.bind_some];rw[wb1,hr _ ⟨zmc hs (by omega),by simp only;omega,by simp only;omega⟩ (by simp only[Int.toNat_natCast];omega)];simp only[R,Int.toNat_natCast];have e:hi+1 - b=(hi+1 - (b+1))+1:=by omega
     rw[e,ofS]
   . rw[z6u (decide_eq_false (by omega))];simp only[R,Int.toNat_natCast];have e:hi+1 - b=0:=by omega
     rw[e,ofS]) N ([(0:Int),(0:Int),(0:Int),(0:Int)],(lo:Int)) ⟨z59,by simp only;omega,by simp only;omega⟩ (by simp only[Int.toNat_natCast];omega)
 rw[h];simp only[R,Int.toNat_natCast]
theorem z14k (N:Nat) (l:List UInt8) (hl:l.length<9223372036854775807) (hN:l.length<N):z3n N l=some (z1ck l [0,0,0,0]):=by
 rw[z3n,zfn]
 let R:List Int×Int->Option (List Int):=fun v=>some (z1ck (l.drop v.2.toNat) v.1)
 have h:=zgp (step:=fun (v:((List Int)×Int)) r=>z8n N l [(0:Int),(0:Int),(0:Int),(0:Int)] ((l.length:Nat):Int) v.1 v.2 (fun set_ x7=>(r (set_,x7))) (fun set_=>some set_))
  (I:=fun v=>SetOk v.1/\0<=v.2/\v.2<=l.length) (m:=fun v=>l.length - v.2.toNat) (R:=R)
  (by
   rintro⟨s,i⟩ r ⟨hs,h0,h1⟩ hr;simp only at hs h0 h1;obtain⟨i,rfl⟩:=Int.eq_ofNat_of_zero_le h0;simp only;rw[z8n];by_cases hi:i<l.length
   . have wi:Go.IntKind.wrap .i64 ((i:Int)+1)=((i+1:Nat):Int):=zrx (by omega);rw[z2a (decide_eq_true (by omega)),z2a (zcs hi),Int.toNat_natCast,z10d N hs (z18a _),wi];simp only[Option.bind_some];rw[hr _ ⟨zmc hs (z18a _),by simp only;omega,by simp only;omega⟩ (by simp only[Int.toNat_natCast];omega)];simp only[R,Int.toNat_natCast];rw[z136 l 0 i hi];rfl
   . rw[z6u (decide_eq_false (by omega))];simp only[R,Int.toNat_natCast];rw[z135 l (by omega)];rfl) N ([0,0,0,0],(0:Int)) ⟨z59,Int.le_refl _,by simp only;omega⟩ (by simp only[Int.toNat_zero];omega)
 exact h
def zs5 (t:Nat):Int:=z21 .u64 (Go.IntKind.wrap .u64 ((285870213051353865:Int)*((2^t:Nat):Int))) 58
theorem z10i:((List.range 64).all fun t=>inR (zs5 t) 64 && (Go.IntKind.wrap .i64 (List.getD glob1 (Int.toNat (zs5 t)) (0:Int)) == (t:Int)))=true:=by kernel_rfl
theorem z14m {t:Nat}(h:t<64):inR (zs5 t) 64=true/\Go.IntKind.wrap .i64 (List.getD glob1 (Int.toNat (zs5 t)) (0:Int))=(t:Int):=by
 have:=List.all_eq_true.1 z10i t (List.mem_range.2 h);rw[Bool.and_eq_true,beq_iff_eq] at this;exact this
theorem tz_eq (N:Nat){x:Int}(h:U64 x){t q:Nat}(e:x.toNat=2^t*(2*q+1))(ht:t<64):z1v N x=some (t:Int):=by
 have hp:=Nat.two_pow_pos t;have hpos:0<x.toNat:=by
  rw[e];exact Nat.mul_pos hp (by omega)
 have h1:=h.2;have hz:(x == (0:Int))=false:=by
  rw[beq_eq_false_iff_ne];omega
 have hn:Go.IntKind.wrap .u64 ((0:Int) - x)=((2^64 - x.toNat:Nat):Int):=by
  rw[zqe,show (2:Nat)^64=18446744073709551616 from rfl];omega
 have hu:U64 ((2^64 - x.toNat:Nat):Int):=by
  rw[show (2:Nat)^64=18446744073709551616 from rfl];unfold U64;omega
 have ha:bitsOp .and .u64 x (Go.IntKind.wrap .u64 ((0:Int) - x))=((2^t:Nat):Int):=by
  have hlt:2^t*(2*q+1)<2^64:=by rw[<- e,show (2:Nat)^64=18446744073709551616 from rfl];omega
  rw[hn,zrq h hu,Int.toNat_natCast,e,z19b hlt]
 obtain⟨t1,t2⟩:=z14m ht;rw[z1v,z6u hz,ha];rw[show z21 .u64 (Go.IntKind.wrap .u64 ((285870213051353865:Int)*((2^t:Nat):Int))) 58=zs5 t from rfl,z2a t1,t2]
theorem z1lz (N:Nat)(a b c d:Int)(k0:Int->Option Int):zfq (N+5) [a,b,c,d] 0 k0 =
 cond (a == 0) (cond (b == 0) (cond (c == 0) (cond (d == 0) none (k0 3)) (k0 2)) (k0 1)) (k0 0):=by kernel_rfl
theorem zm7 (N:Nat) {s:List Int} (hs:SetOk s) {w:Nat} (hw:w<4) (hz:∀ v,v<w->s.getD v 0=0) (hx:s.getD w 0≠0) :
 (cond (inR (w:Int) 4)
  (cond (decide ((Int.toNat (w:Int))<(List.length s)))
   ((z1v N (List.getD s (Int.toNat (w:Int)) (0:Int))).bind fun y =>
     some (Go.IntKind.wrap .i64 ((Go.IntKind.wrap .i64 ((w:Int)*(64:Int)))+y)))
   (none))
  (none))=some (zak s 256 0):=by
 have hu:=hs.word hw;have h0:=hu.1;have h1:=hu.2;obtain⟨t,q,e⟩:=z15i (s.getD w 0).toNat (by omega);have ht:t<64:=by
  have:2^t*1<=2^t*(2*q+1):=Nat.mul_le_mul_left _ (by omega);refine (Nat.pow_lt_pow_iff_right (a:=2) (by omega)).1 ?_;rw[show (2:Nat)^64=18446744073709551616 from rfl];omega
 have hb (i:Nat):bit (s.getD w 0) i=if i<t then false else if i=t then true else q.testBit (i - t - 1):=by
  unfold bit;rw[e,z125]
 have hc:hasS s (64*w+t)=true:=by
  unfold hasS;rw[show (64*w+t) / 64=w by omega,show (64*w+t) % 64=t by omega,hb,if_neg (by omega),if_pos rfl]
 have hl:=zm4 hc 256 0 (by omega) (by omega) (fun i _ hi=>by
  unfold hasS;by_cases hv:i / 64<w
  . rw[hz _ hv];exact Nat.zero_testBit _
  . rw[show i / 64=w by omega,hb,if_pos (by omega)])
 rw[z2a (zcs hw),Int.toNat_natCast,z2a (decide_eq_true (by rw[hs.length];exact hw)),tz_eq N hu e ht];simp only[Option.bind_some];rw[hl,z5q (x:=(w:Int)*64) (by unfold I64;omega),z5q (by unfold I64;omega)];congr 1;omega
theorem z130 (s:List Int):eqD (T.arr 4 (T.int Go.IntKind.u64)) s s=true:=(zio _ _ _ rfl).2 rfl
theorem zxx (N:Nat) {s:List Int} (hs:SetOk s):z1c (N+5) s=some (zak s 256 0):=by
 have hs':=hs;obtain⟨a,b,c,d,rfl,ha,hb,hc,hd⟩:=hs';rw[z1c];by_cases e:([a,b,c,d]:List Int)=[0,0,0,0]
 . rw[e,z2a (z130 _),zpr zbp]
 . have en : eqD (T.arr 4 (T.int Go.IntKind.u64)) [a,b,c,d] ([(0:Int),(0:Int),(0:Int),(0:Int)]:List Int)=false:=by
    rw[<- Bool.not_eq_true];exact fun h=>e ((zio _ _ _ rfl).1 h)
   rw[z6u en,z1lz];by_cases ea:a=0
   . rw[z2a (beq_iff_eq.2 ea)];by_cases eb:b=0
     . rw[z2a (beq_iff_eq.2 eb)];by_cases ec:c=0
       . rw[z2a (beq_iff_eq.2 ec)];by_cases ed:d=0
         . exact absurd (by rw[ea,eb,ec,ed]) e
         . rw[z6u (beq_eq_false_iff_ne.2 ed)];have z:∀ v,v<3->([a,b,c,d]:List Int).getD v 0=0:=by
            intro v hv;obtain rfl|rfl|rfl:v=0\/v=1\/v=2:=by omega
            . exact ea
            . exact eb
            . exact ec
           exact zm7 (N+5) hs (w:=3) (by omega) z ed
       . rw[z6u (beq_eq_false_iff_ne.2 ec)];have z:∀ v,v<2->([a,b,c,d]:List Int).getD v 0=0:=by
          intro v hv;obtain rfl|rfl:v=0\/v=1:=by omega
          . exact ea
          . exact eb
         exact zm7 (N+5) hs (w:=2) (by omega) z ec
     . rw[z6u (beq_eq_false_iff_ne.2 eb)];have z:∀ v,v<1->([a,b,c,d]:List Int).getD v 0=0:=by
        intro v hv;obtain rfl:v=0:=by omega
        exact ea
       exact zm7 (N+5) hs (w:=1) (by omega) z eb
   . rw[z6u (beq_eq_false_iff_ne.2 ea)];exact zm7 (N+5) hs (w:=0) (by omega) (fun v hv=>by omega) ea
end
end Go.Proofs.YthgcpalmjcomlaaDoorLg
set_option linter.all false
set_option maxRecDepth 100000
namespace Go.Proofs.YthgcpalmjcomlaaDoorLg
noncomputable section
open Go Go.Lift Go.Proofs.YthgcpalmjcomlaaDoorPx
inductive PR (α:Type) where
 | bad (e:Int) (a:Nat)
 | ok (x:α) (a:Nat)
def PR.next {α β:Type}(r:PR α)(f:α->Nat->PR β):PR β:=match r with
 | .bad e a=>.bad e a
 | .ok x a=>f x a
def gb (s:List UInt8)(i:Nat):Nat:=(s.getD i 0).toNat
def isB (s:List UInt8)(a b:Nat):Bool:=decide (a<s.length) && gb s a == b
def zir (b:Nat):Bool:=decide (48<=b) && decide (b<=57)
def z8k (s:List UInt8)(a:Nat):PR Nat:=if a<s.length then .ok (gb s a) a else .bad 1 s.length
def zcp (s:List UInt8)(a b:Nat):PR Unit:=(z8k s a).next fun c a=>if c=b then .ok () (a+1) else .bad 2 a
def zu5 (s:List UInt8)(fr a:Nat):PR Nat:=(z8k s a).next fun b a=>if zir b then .ok (b - 48) (a+1) else if 97<=b/\b<=102 then .ok (b - 87) (a+1) else .bad 2 fr
def z4:List Int:=[0,0,0,0]
def z9e (b:Nat):List Int:=ofS 1 b z4
def zbv:List UInt8:=[48,49,50,51,52,53,54,55,56,57,65,66,67,68,69,70,71,72,73,74,75,76,77,78,79,80,81,82,83,84,85,86,87,88,89,90,95,97,98,99,100,101,102,103,104,105,106,107,108,109,110,111,112,113,114,115,116,117,118,119,120,121,122]
def specials:List Nat:=[92,46,91,93,40,41,123,125,124,42,43,63]
def escapes:List Nat:=[92,46,91,93,40,41,123,125,124,42,43,63,45,94]
abbrev Sg:=List Int×Bool×Nat
def zr1 (s:List UInt8)(a:Nat):PR Sg:=(z8k s (a+1)).next fun b a1 =>
 if b=100 then .ok (ofS 10 48 z4,true,0) (a+2)
 else if b=119 then .ok (z1ck zbv z4,true,0) (a+2)
 else if b=120 then (zu5 s a (a+2)).next fun h a2=>(zu5 s a a2).next fun l a3=>.ok (z9e (16*h+l),false,16*h+l) a3
 else if escapes.contains b then .ok (z9e b,false,b) (a+2) else .bad 2 a
def zgn (s:List UInt8)(a:Nat):PR Sg:=(z8k s a).next fun b _ =>
 if b=92 then zr1 s a else if b=91\/b=93\/b=45\/b=94 then .bad 2 a else .ok (z9e b,false,b) (a+1)
def ze7 (s:List UInt8)(a:Nat):PR (List Int):=(zgn s a).next fun r a1 =>
 if r.2.1 || !(isB s a1 45) then .ok r.1 a1
 else (zgn s (a1+1)).next fun q a2=>if q.2.1 || decide (q.2.2<r.2.2) then .bad 2 (a1+1) else .ok (ofS (q.2.2+1 - r.2.2) r.2.2 z4) a2
def z7a (s:List UInt8):Nat->Nat->List Int->PR (List Int)
 | 0,_,_=>.bad 0 0
 | k+1,a,acc=>if isB s a 93 then .ok acc (a+1) else (ze7 s a).next fun t a1=>z7a s k a1 (orS acc t)
def zbb (s:List UInt8)(a:Nat):PR (List Int) :=
 (ze7 s (if isB s a 94 then a+1 else a)).next fun t a1=>(z7a s (s.length+1) a1 t).next fun acc a2=>.ok (if isB s a 94 then zu4 acc else acc) a2
def z7h (s:List UInt8):Nat->Nat->Nat->Nat×Nat
 | 0,a,v=>(v,a)
 | k+1,a,v=>if a<s.length/\zir (gb s a) then z7h s k (a+1) (min (10*v+(gb s a - 48)) 17) else (v,a)
def zru (s:List UInt8)(a:Nat):PR Nat:=(z8k s a).next fun b _ =>
 if zir b then
 if b=48/\a+1<(z7h s (s.length+1) a 0).2 then .bad 2 a
 else if 16<(z7h s (s.length+1) a 0).1 then .bad 3 a
 else .ok (z7h s (s.length+1) a 0).1 (z7h s (s.length+1) a 0).2
 else .bad 2 a
def zxo (s:List UInt8)(lo:Nat)(hi:Nat)(fr a:Nat):PR (Int×Int) :=
 if hi<max lo 1 then .bad 2 fr else (zcp s a 125).next fun _ a1=>.ok ((lo:Int),(hi:Int)) a1
def z9n (s:List UInt8)(a:Nat):PR (Int×Int):=(zru s a).next fun lo a1 =>
 if isB s a1 44 then
 if isB s (a1+1) 125 then .ok ((lo:Int),-1) (a1+2) else (zru s (a1+1)).next fun hi a2=>zxo s lo hi (a1+1) a2
 else zxo s lo lo a a1
def z148 (st:List Int):Tree:=.mk 1 st [] 0 0
def z147 (t:Tree)(lo hi:Int):Tree:=.mk 4 z4 [t] lo hi
def za1 (sub:Option (Nat->PR Tree)) (s:List UInt8) (a:Nat):PR Tree :=
 if gb s a=40 then (match sub with
  | none=>.bad 3 a
  | some f=>(f (a+1)).next fun t a1=>(zcp s a1 41).next fun _ a2=>.ok t a2)
 else if gb s a=46 then .ok (z148 (ofS 256 0 z4)) (a+1)
 else if gb s a=91 then (zbb s (a+1)).next fun st a1=>.ok (z148 st) a1
 else if gb s a=92 then (zr1 s a).next fun r a1=>.ok (z148 r.1) a1
 else if specials.contains (gb s a) then .bad 2 a
 else .ok (z148 (z9e (gb s a))) (a+1)
def zb9 (sub:Option (Nat->PR Tree))(s:List UInt8)(a:Nat):PR Tree:=(za1 sub s a).next fun t a1 =>
 if a1<s.length then
 if gb s a1=43 then .ok (z147 t 1 (-1)) (a1+1)
 else if gb s a1=42 then .ok (z147 t 0 (-1)) (a1+1)
 else if gb s a1=63 then .ok (z147 t 0 1) (a1+1)
 else if gb s a1=123 then (z9n s (a1+1)).next fun lh a2=>.ok (z147 t lh.1 lh.2) a2
 else .ok t a1
 else .ok t a1
def zdd (s:List UInt8)(a:Nat):Bool:=!(decide (a<s.length)) || (gb s a == 124 || gb s a == 41)
def zih (sub:Option (Nat->PR Tree))(s:List UInt8):Nat->Nat->List Tree->PR Tree
 | 0,_,_=>.bad 0 0
 | k+1,a,ps=>if zdd s a then .ok (zcr 2 ps) a else (zb9 sub s a).next fun t a1=>zih sub s k a1 (ps++[t])
def ze8 (sub:Option (Nat->PR Tree))(s:List UInt8):Nat->Nat->List Tree->PR Tree
 | 0,_,_=>.bad 0 0
 | k+1,a,ps=>if isB s a 124 then (zih sub s (s.length+1) (a+1) []).next fun t a1=>ze8 sub s k a1 (ps++[t]) else .ok (zcr 3 ps) a
def zfv (s:List UInt8):Nat->Nat->PR Tree
 | 0,a=>(zih none s (s.length+1) a []).next fun t a1=>ze8 none s (s.length+1) a1 [t]
 | d+1,a=>(zih (some (zfv s d)) s (s.length+1) a []).next fun t a1=>ze8 (some (zfv s d)) s (s.length+1) a1 [t]
def zba (s:List UInt8):PR Tree:=if 256<s.length then .bad 3 256 else (zfv s 16 0).next fun t a=>if a<s.length then .bad 2 a else .ok t a
def Ahead {α:Type}(s:List UInt8)(a:Nat)(r:PR α):Prop:=match r with
 | .bad _ b=>b<=s.length
 | .ok _ b=>a<=b/\b<=s.length
theorem Ahead.bind {α β:Type}{s:List UInt8}{a c:Nat}{r:PR α}{f:α->Nat->PR β}(h:Ahead s a r)(hf:∀ x b,r=.ok x b->a<=b->b<=s.length->Ahead s c (f x b)):Ahead s c (r.next f):=by
 cases r with
 | bad e b=>exact h
 | ok x b=>exact hf x b rfl h.1 h.2
theorem Ahead.le {α:Type}{s:List UInt8}{a b:Nat}{r:PR α}(h:Ahead s a r)(hab:b<=a):Ahead s b r:=by
 cases r with
 | bad e c=>exact h
 | ok x c=>exact⟨Nat.le_trans hab h.1,h.2⟩
theorem ze4 (s:List UInt8)(a:Nat):Ahead s a (z8k s a):=by
 unfold z8k;split
 . exact⟨Nat.le_refl _,by omega⟩
 . exact Nat.le_refl _
theorem zat {s:List UInt8}{a x b:Nat}(h:z8k s a=.ok x b):a<s.length/\x=gb s a/\b=a:=by
 unfold z8k at h;split at h
 . cases h;exact⟨by assumption,rfl,rfl⟩
 . cases h
theorem zki (s:List UInt8)(a b:Nat):Ahead s (a+1) (zcp s a b):=by
 refine (ze4 s a).bind fun c a1 h h1 h2=>?_
 obtain⟨q1,q2,rfl⟩:=zat h;split
 . exact⟨Nat.le_refl _,by omega⟩
 . exact Nat.le_of_lt q1
theorem znk {s:List UInt8}{fr:Nat}(hf:fr<=s.length)(a:Nat):Ahead s (a+1) (zu5 s fr a):=by
 refine (ze4 s a).bind fun c a1 h h1 h2=>?_
 obtain⟨q1,q2,rfl⟩:=zat h;split
 . exact⟨Nat.le_refl _,by omega⟩
 . split
   . exact⟨Nat.le_refl _,by omega⟩
   . exact hf
theorem znr {s:List UInt8}{a:Nat}(ha:a<=s.length):Ahead s (a+2) (zr1 s a):=by
 refine (ze4 s (a+1)).bind fun c a1 h h1 h2=>?_
 obtain⟨q1,q2,rfl⟩:=zat h;split
 . exact⟨Nat.le_refl _,by omega⟩
 split
 . exact⟨Nat.le_refl _,by omega⟩
 split
 . refine (znk ha (a+2)).bind fun x b _ g1 g2=>?_
   refine (znk ha b).bind fun y b2 _ g3 g4=>?_
   exact⟨by omega,g4⟩
 split
 . exact⟨Nat.le_refl _,by omega⟩
 . exact ha
theorem zh9 (s:List UInt8)(a:Nat):Ahead s (a+1) (zgn s a):=by
 refine (ze4 s a).bind fun c a1 h h1 h2=>?_
 obtain⟨q1,q2,rfl⟩:=zat h;split
 . exact (znr (by omega)).le (by omega)
 split
 . exact Nat.le_of_lt q1
 . exact⟨Nat.le_refl _,by omega⟩
theorem za3 (s:List UInt8)(a:Nat):Ahead s (a+1) (ze7 s a):=by
 refine (zh9 s a).bind fun r a1 _ h1 h2=>?_
 split
 . exact⟨h1,h2⟩
 . rename_i hc;refine (zh9 s (a1+1)).bind fun q a2 _ g1 g2=>?_
   skip
   split
   . show a1+1<=s.length;simp[isB] at hc;omega
   . exact⟨by omega,g2⟩
theorem znj (s:List UInt8):∀ (k a:Nat) (acc:List Int),a<=s.length->Ahead s (a+1) (z7a s k a acc)
 | 0,a,acc,ha=>Nat.zero_le _
 | k + 1,a,acc,ha=>by
   unfold z7a;split
   . rename_i h;simp[isB] at h;exact⟨Nat.le_refl _,by omega⟩
   . exact (za3 s a).bind fun t a1 _ h1 h2=>(znj s k a1 _ h2).le (by omega)
theorem znv {s:List UInt8}(a:Nat):Ahead s (a+2) (zbb s a):=by
 unfold zbb;refine (za3 s _).bind fun t a1 _ h1 h2=>?_
 refine (znj s _ a1 _ h2).bind fun acc a2 _ g1 g2=>?_
 refine⟨?_,g2⟩;split at h1<;>omega
theorem zk9 (s:List UInt8):∀ (k a v:Nat),a<=s.length->a<=(z7h s k a v).2/\(z7h s k a v).2<=s.length
 | 0,a,v,h=>⟨Nat.le_refl _,h⟩
 | k + 1,a,v,h=>by
   unfold z7h;split
   . rename_i hc;have:=zk9 s k (a+1) (min (10*v+(gb s a - 48)) 17) (by omega);exact⟨by omega,this.2⟩
   . exact⟨Nat.le_refl _,h⟩
theorem z10u {s:List UInt8}{k a v:Nat}(h:a<s.length)(hd:zir (gb s a)=true):a+1<=(z7h s (k+1) a v).2:=by
 unfold z7h;rw[if_pos ⟨h,hd⟩];exact (zk9 s k (a+1) _ (by omega)).1
theorem zgk (s:List UInt8)(a:Nat):Ahead s (a+1) (zru s a):=by
 refine (ze4 s a).bind fun c a1 h h1 h2=>?_
 obtain⟨q1,rfl,rfl⟩:=zat h;split
 . rename_i hd;split
   . exact Nat.le_of_lt q1
   split
   . exact Nat.le_of_lt q1
   . exact⟨z10u q1 hd,(zk9 s _ _ _ (by omega)).2⟩
 . exact Nat.le_of_lt q1
theorem zt9 {s:List UInt8}{lo hi fr a:Nat}(hf:fr<=s.length):Ahead s (a+1) (zxo s lo hi fr a):=by
 unfold zxo;split
 . exact hf
 . exact (zki s a 125).bind fun _ a1 _ h1 h2=>⟨h1,h2⟩
theorem zlk {s:List UInt8}{a:Nat}(ha:a<=s.length):Ahead s (a+1) (z9n s a):=by
 refine (zgk s a).bind fun lo a1 _ h1 h2=>?_
 split
 . rename_i hc;simp[isB] at hc;split
   . rename_i hc2;simp[isB] at hc2;exact⟨by omega,by omega⟩
   . refine (zgk s (a1+1)).bind fun hi a2 _ g1 g2=>?_
     exact (zt9 (by omega)).le (by omega)
 . exact (zt9 ha).le (by omega)
theorem zeh {sub:Option (Nat->PR Tree)}{s:List UInt8}{a:Nat}(hs:∀ f,sub=some f->∀ b,b<=s.length->Ahead s b (f b))(ha:a<s.length):Ahead s (a+1) (za1 sub s a):=by
 unfold za1;split
 . cases sub with
   | none=>exact Nat.le_of_lt ha
   | some f =>
     refine (hs f rfl (a+1) (by omega)).bind fun t a1 _ h1 h2=>?_
     exact (zki s a1 41).bind fun _ a2 _ g1 g2=>⟨by omega,g2⟩
 split
 . exact⟨Nat.le_refl _,by omega⟩
 split
 . exact (znv (a+1)).bind fun st a1 _ h1 h2=>⟨by omega,h2⟩
 split
 . exact (znr (by omega)).bind fun st a1 _ h1 h2=>⟨by omega,h2⟩
 split
 . exact Nat.le_of_lt ha
 . exact⟨Nat.le_refl _,by omega⟩
theorem zcl {sub:Option (Nat->PR Tree)}{s:List UInt8}{a:Nat}(hs:∀ f,sub=some f->∀ b,b<=s.length->Ahead s b (f b))(ha:a<s.length):Ahead s (a+1) (zb9 sub s a):=by
 refine (zeh hs ha).bind fun t a1 _ h1 h2=>?_
 split
 . split
   . exact⟨by omega,by omega⟩
   split
   . exact⟨by omega,by omega⟩
   split
   . exact⟨by omega,by omega⟩
   split
   . exact (zlk (by omega)).bind fun lh a2 _ g1 g2=>⟨by omega,g2⟩
   . exact⟨h1,h2⟩
 . exact⟨h1,h2⟩
theorem z6h {sub:Option (Nat->PR Tree)} {s:List UInt8} (hs:∀ f,sub=some f->∀ b,b<=s.length->Ahead s b (f b)):∀ (k a:Nat) (ps:List Tree),a<=s.length->Ahead s a (zih sub s k a ps)
 | 0,a,ps,ha=>Nat.zero_le _
 | k + 1,a,ps,ha=>by
   unfold zih;split
   . exact⟨Nat.le_refl _,ha⟩
   . rename_i hc;have hlt:a<s.length:=by
      simp[zdd] at hc;exact hc.1
     exact (zcl hs hlt).bind fun t a1 _ h1 h2=>(z6h hs k a1 _ h2).le (by omega)
theorem zl0 {sub:Option (Nat->PR Tree)}{s:List UInt8}(hs:∀ f,sub=some f->∀ b,b<=s.length->Ahead s b (f b)):∀ (k a:Nat) (ps:List Tree),a<=s.length->Ahead s a (ze8 sub s k a ps)
 | 0,a,ps,ha=>Nat.zero_le _
 | k + 1,a,ps,ha=>by
   unfold ze8;split
   . rename_i hc;simp[isB] at hc;exact (z6h hs _ (a+1) [] (by omega)).bind fun t a1 _ h1 h2=>(zl0 hs k a1 _ h2).le (by omega)
   . exact⟨Nat.le_refl _,ha⟩
theorem zei (s:List UInt8):∀ (d a:Nat),a<=s.length->Ahead s a (zfv s d a)
 | 0,a,ha=>by
   have hs:∀ f,(none:Option (Nat->PR Tree))=some f->∀ b,b<=s.length->Ahead s b (f b):=fun f h=>by cases h
   unfold zfv;exact (z6h hs _ a [] ha).bind fun t a1 _ h1 h2=>(zl0 hs _ a1 _ h2).le h1
 | d+1,a,ha=>by
   have hs:∀ f,some (zfv s d)=some f->∀ b,b<=s.length->Ahead s b (f b):=fun f h=>by cases h;exact zei s d
   unfold zfv;exact (z6h hs _ a [] ha).bind fun t a1 _ h1 h2=>(zl0 hs _ a1 _ h2).le h1
end
end Go.Proofs.YthgcpalmjcomlaaDoorLg
set_option linter.all false
set_option maxRecDepth 100000
namespace Go.Proofs.YthgcpalmjcomlaaDoorLg
noncomputable section
open Go Go.Lift Go.Proofs.YthgcpalmjcomlaaDoorPx
def spcB:List UInt8:=[92,46,91,93,40,41,124,123,125,42,43,63]
def brkB:List UInt8:=[92,91,93,45,94]
def z149 (h:Nat):UInt8:=([48,49,50,51,52,53,54,55,56,57,97,98,99,100,101,102]:List UInt8).getD h 0
def za4 (sl:List UInt8)(b:Nat):List UInt8 :=
 if sl.contains (UInt8.ofNat b) then [92,UInt8.ofNat b] else if b<32\/126<b then [92,120,z149 (b / 16),z149 (b % 16)] else [UInt8.ofNat b]
theorem zjo (sl:List UInt8)(b:Nat):(za4 sl b).length<=4:=by
 unfold za4;split
 . simp
 . split<;>simp
theorem zfs {p:Nat->Bool}{n:Nat}(h:((List.range n).all p)=true){b:Nat}(hb:b<n):p b=true :=
 List.all_eq_true.1 h b (List.mem_range.2 hb)
theorem z12z (N:Nat):((List.range 256).all fun b=>(zad N (b:Int) == some (za4 spcB b)) && (z4r N (b:Int) brkB == some (za4 brkB b)))=true:=by kernel_rfl
theorem z13p (N:Nat){b:Nat}(hb:b<256):zad N (b:Int)=some (za4 spcB b):=by
 have:=zfs (z12z N) hb;rw[Bool.and_eq_true] at this;exact beq_iff_eq.1 this.1
theorem znq (N:Nat){b:Nat}(hb:b<256):z4r N (b:Int) brkB=some (za4 brkB b):=by
 have:=zfs (z12z N) hb;rw[Bool.and_eq_true] at this;exact beq_iff_eq.1 this.2
def zd3 (f:Nat->Bool):Nat->Nat->Nat
 | 0,p=>p
 | n+1,p=>if f p=true then zd3 f n (p+1) else p
theorem zes (f:Nat->Bool):∀ n p,p<=zd3 f n p/\zd3 f n p<=p+n
 | 0,p=>⟨Nat.le_refl _,Nat.le_refl _⟩
 | n+1,p=>by
   rw[zd3];have:=zes f n (p+1);split<;>omega
theorem z110 (f:Nat->Bool):∀ n p i,p<=i->i<zd3 f n p->f i=true
 | 0,p,i,h1,h2=>by rw[zd3] at h2;omega
 | n + 1,p,i,h1,h2=>by
   rw[zd3] at h2;split at h2
   . rename_i h;by_cases e:p=i
     . rw[<- e];exact h
     . exact z110 f n (p+1) i (by omega) h2
   . omega
theorem zqo (f:Nat->Bool):∀ n p,zd3 f n p<p+n->f (zd3 f n p)=false
 | 0,p,h=>by rw[zd3] at h;omega
 | n + 1,p,h=>by
   rw[zd3] at h ⊢;split
   . rename_i hf;rw[if_pos hf] at h;exact zqo f n (p+1) (by omega)
   . rename_i hf;simpa using hf
theorem zpc {f g:Nat->Bool}:∀ n p,(∀ i,p<=i->i<p+n->f i=g i)->zd3 f n p=zd3 g n p
 | 0,p,_=>rfl
 | n+1,p,h=>by
   rw[zd3,zd3,h p (Nat.le_refl _) (by omega),zpc n (p+1) (fun i h1 h2=>h i (by omega) (by omega))]
def zff (lo hi:Nat):List UInt8:=if hi=lo then za4 brkB lo else if hi=lo+1 then za4 brkB lo++za4 brkB hi else za4 brkB lo++[45]++za4 brkB hi
theorem zpb (lo hi:Nat):(zff lo hi).length<=9:=by
 have h1:=zjo brkB lo;have h2:=zjo brkB hi;unfold zff;split
 . omega
 . split<;>simp only[List.length_append,List.length_cons,List.length_nil]<;>omega
def zeo (f:Nat->Bool):Nat->Nat->List UInt8
 | 0,_=>[]
 | k+1,p=>if p<256 then (if p<zd3 f (256 - p) p then zff p (zd3 f (256 - p) p - 1) else [])++zeo f k (zd3 f (256 - p) p+1) else []
theorem zp9 (f:Nat->Bool):∀ k k' p,256<p+k->256<p+k'->zeo f k p=zeo f k' p
 | 0,0,p,_,_=>rfl
 | 0,k'+1,p,h,_=>by rw[zeo,zeo,if_neg (by omega)]
 | k+1,0,p,_,h=>by rw[zeo,zeo,if_neg (by omega)]
 | k + 1,k'+1,p,h,h'=>by
   rw[zeo,zeo];by_cases hp:p<256
   . have:=(zes f (256 - p) p).1;rw[if_pos hp,if_pos hp,zp9 f k k' _ (by omega) (by omega)]
   . rw[if_neg hp,if_neg hp]
def RT (f:Nat->Bool)(p:Nat):List UInt8:=zeo f 257 p
theorem zqc {f:Nat->Bool}{p:Nat}(h:256<=p):RT f p=[]:=by rw[RT,zeo,if_neg (by omega)]
theorem zrt {f:Nat->Bool}{p:Nat}(h:p<256):RT f p=(if p<zd3 f (256 - p) p then zff p (zd3 f (256 - p) p - 1) else [])++RT f (zd3 f (256 - p) p+1):=by
 have:=(zes f (256 - p) p).1;rw[RT,zeo,if_pos h,RT,zp9 f 256 257 _ (by omega) (by omega)]
theorem zwf {f:Nat->Bool}{p:Nat}(h:p<256)(hf:f p=false):RT f p=RT f (p+1):=by
 have e:zd3 f (256 - p) p=p:=by
  rw[show 256 - p=(255 - p)+1 by omega,zd3,if_neg (by rw[hf];decide)]
 rw[zrt h,e,if_neg (by omega),List.nil_append]
theorem zjy {f:Nat->Bool}:∀ n p,p+n<=256->(∀ i,p<=i->i<p+n->f i=false)->RT f p=RT f (p+n)
 | 0,p,_,_=>rfl
 | n+1,p,h,hf=>by
   rw[zwf (by omega) (hf p (Nat.le_refl _) (by omega)),zjy n (p+1) (by omega) (fun i h1 h2=>hf i (by omega) (by omega))];congr 1;omega
theorem z144 (f:Nat->Bool):∀ k p,(zeo f k p).length<=9*k
 | 0,_=>by simp[zeo]
 | k + 1,p=>by
   rw[zeo];have:=z144 f k (zd3 f (256 - p) p+1);have h2:=zpb p (zd3 f (256 - p) p - 1);split
   . rw[List.length_append];split
     . omega
     . simp only[List.length_nil];omega
   . simp
def zyp (s:List Int):List UInt8 :=
 if zi0 s=1 then za4 spcB (zak s 256 0).toNat else if zi0 s=256 then [46] else if s=[287948901175001088,0,0,0] then [92,100] else if s=[287948901175001088,576460745995190270,0,0] then [92,119] else
 if zi0 s=0 then [91,94,92,120,48,48,45,92,120,102,102,93] else [91]++RT (hasS s) 0++[93]
theorem z14p (s:List Int):(zyp s).length<=2400:=by
 have h1:=zjo spcB (zak s 256 0).toNat;have h2:(RT (hasS s) 0).length<=9*257:=z144 _ _ _;unfold zyp;split
 . omega
 . split
   . decide
   . split
     . decide
     . split
       . decide
       . split
         . decide
         . simp only[List.length_append,List.length_cons,List.length_nil];omega
end
end Go.Proofs.YthgcpalmjcomlaaDoorLg
set_option linter.all false
set_option maxRecDepth 100000
namespace Go.Proofs.YthgcpalmjcomlaaDoorLg
noncomputable section
open Go Go.Lift Go.Proofs.YthgcpalmjcomlaaDoorPx
def At (S:List UInt8):Nat->List UInt8->Prop
 | a,[]=>a<=S.length
 | a,c::T=>a<S.length/\gb S a=c.toNat/\At S (a+1) T
theorem At.le {S:List UInt8}:∀ {T:List UInt8} {a:Nat},At S a T->a+T.length<=S.length
 | [],a,h=>h
 | c::T,a,h=>by have:=h.2.2.le;rw[List.length_cons];omega
theorem At.app {S:List UInt8}:∀ {T U:List UInt8} {a:Nat},At S a (T++U)->At S a T/\At S (a+T.length) U
 | [],U,a,h=>⟨Nat.le_trans (Nat.le_add_right _ _) h.le,h⟩
 | c::T,U,a,h=>by
   have:=At.app (T:=T) h.2.2;refine⟨⟨h.1,h.2.1,this.1⟩,?_⟩;rw[List.length_cons,show a+(T.length+1)=a+1+T.length by omega];exact this.2
theorem At.self (S:List UInt8):∀ (n a:Nat),n=S.length - a->a<=S.length->At S a (S.drop a)
 | 0,a,h,ha=>by rw[List.drop_eq_nil_of_le (by omega)];exact ha
 | n+1,a,h,ha=>by
   have hl:a<S.length:=by omega
   rw[List.drop_eq_getElem_cons hl];exact⟨hl,by unfold gb;rw[List.getD_eq_getElem?_getD,List.getElem?_eq_getElem hl];rfl,At.self S n (a+1) (by omega) (by omega)⟩
theorem z1f {α β:Type}(x:α)(a:Nat)(f:α->Nat->PR β):(PR.ok x a).next f=f x a:=rfl
theorem nxt {S:List UInt8}{a:Nat}{c:UInt8}{T:List UInt8}(h:At S a (c::T)):z8k S a=.ok c.toNat a:=by
 unfold z8k;rw[if_pos h.1,h.2.1]
theorem isb {S:List UInt8}{a:Nat}{c:UInt8}{T:List UInt8}(h:At S a (c::T))(b:Nat):isB S a b=decide (c.toNat=b):=by
 unfold isB;rw[decide_eq_true h.1,h.2.1,Bool.true_and];by_cases e:c.toNat=b
 . rw[e,beq_self_eq_true,decide_eq_true rfl]
 . rw[beq_eq_false_iff_ne.2 e,decide_eq_false e]
theorem z15p:((List.range 16).all fun v=>(zir (z149 v).toNat && ((z149 v).toNat - 48 == v)) || (!(zir (z149 v).toNat) && decide (97<=(z149 v).toNat/\(z149 v).toNat<=102) && ((z149 v).toNat - 87 == v)))=true:=by decide +kernel
theorem z177 {S:List UInt8}{a v fr:Nat}(hv:v<16){T:List UInt8}(h:At S a (z149 v::T)):zu5 S fr a=.ok v (a+1):=by
 have ht:=zfs z15p hv;unfold zu5;rw[nxt h];simp only[z1f];cases hd:zir (z149 v).toNat with
 | true =>
   rw[hd] at ht;simp only[Bool.true_and,Bool.not_true,Bool.false_and,Bool.or_false,beq_iff_eq] at ht;rw[if_pos rfl,ht]
 | false =>
   rw[hd] at ht;simp only[Bool.false_and,Bool.not_false,Bool.true_and,Bool.false_or,Bool.and_eq_true,decide_eq_true_eq,beq_iff_eq] at ht;rw[if_neg (by decide),if_pos ht.1,ht.2]
theorem z15w:((List.range 256).all fun b=>(!(spcB.contains (UInt8.ofNat b)) || (b != 100 && b != 119 && b != 120 && escapes.contains b)) && (!(brkB.contains (UInt8.ofNat b)) || (b != 100 && b != 119 && b != 120 && escapes.contains b)))=true:=by decide +kernel
theorem zxz:((List.range 256).all fun b=>(spcB.contains (UInt8.ofNat b) || !(specials.contains b)) && (brkB.contains (UInt8.ofNat b) || (b != 92 && b != 91 && b != 93 && b != 45 && b != 94)))=true:=by decide +kernel
theorem of8 {b:Nat}(hb:b<256):(UInt8.ofNat b).toNat=b:=by rw[UInt8.toNat_ofNat',Nat.mod_eq_of_lt hb]
theorem z12x {S:List UInt8}{a b:Nat}(hb:b<256){sl:List UInt8}(hsl:sl=spcB\/sl=brkB)(hc:sl.contains (UInt8.ofNat b)=true\/b<32\/126<b)(h:At S a (za4 sl b)) :
 gb S a=92/\a<S.length/\zr1 S a=.ok (z9e b,false,b) (a+(za4 sl b).length):=by
 have ht:=zfs z15w hb;unfold za4 at h ⊢;by_cases h1:sl.contains (UInt8.ofNat b)=true
 . rw[if_pos h1] at h ⊢;have hx:(b != 100 && b != 119 && b != 120 && escapes.contains b)=true:=by
    rw[Bool.and_eq_true] at ht;rcases hsl with rfl|rfl
    . rw[h1] at ht;simpa using ht.1
    . rw[h1] at ht;simpa using ht.2
   simp only[Bool.and_eq_true,bne_iff_ne,ne_eq] at hx;obtain⟨⟨⟨x1,x2⟩,x3⟩,x4⟩:=hx;refine⟨h.2.1,h.1,?_⟩;unfold zr1;rw[nxt h.2.2,of8 hb];simp only[z1f];rw[if_neg x1,if_neg x2,if_neg x3,if_pos x4];rfl
 . have h2:b<32\/126<b:=by rcases hc with hc|hc;exact absurd hc h1;exact hc
   rw[if_neg h1,if_pos h2] at h ⊢;refine⟨h.2.1,h.1,?_⟩;unfold zr1;rw[nxt h.2.2];simp only[z1f];rw[if_neg (show ¬ (120:UInt8).toNat=100 by decide),if_neg (show ¬ (120:UInt8).toNat=119 by decide),if_pos (show (120:UInt8).toNat=120 by decide)];have h3:=h.2.2.2.2;rw[show a+1+1=a+2 by omega] at h3;rw[z177 (by omega) h3,z1f,z177 (by omega) h3.2.2,z1f,show 16*(b / 16)+b % 16=b by omega];rfl
theorem zud {S:List UInt8}{a b:Nat}(hb:b<256)(h:At S a (za4 brkB b)):zgn S a=.ok (z9e b,false,b) (a+(za4 brkB b).length):=by
 by_cases hc:brkB.contains (UInt8.ofNat b)=true\/b<32\/126<b
 . obtain⟨h1,h2,h3⟩:=z12x hb (.inr rfl) hc h;unfold zgn z8k;rw[if_pos h2,h1];simp only[z1f];rw[if_pos trivial,h3]
 . have h1:¬ brkB.contains (UInt8.ofNat b)=true:=fun e=>hc (.inl e)
   have ht:=zfs zxz hb;rw[Bool.and_eq_true] at ht;have hx:=ht.2;rw[Bool.eq_false_iff.2 h1,Bool.false_or] at hx;simp only[Bool.and_eq_true,bne_iff_ne,ne_eq] at hx;unfold za4 at h ⊢;rw[if_neg h1,if_neg (fun e=>hc (.inr e))] at h ⊢;unfold zgn;rw[nxt h,of8 hb];simp only[z1f];rw[if_neg hx.1.1.1.1,if_neg (by omega)];rfl
theorem z13y {S:List UInt8}{a b:Nat}(sub:Option (Nat->PR Tree))(hb:b<256)(h:At S a (za4 spcB b)):za1 sub S a=.ok (z148 (z9e b)) (a+(za4 spcB b).length):=by
 by_cases hc:spcB.contains (UInt8.ofNat b)=true\/b<32\/126<b
 . obtain⟨h1,h2,h3⟩:=z12x hb (.inl rfl) hc h;unfold za1;rw[h1,if_neg (by decide),if_neg (by decide),if_neg (by decide),if_pos rfl,h3];rfl
 . have h1:¬ spcB.contains (UInt8.ofNat b)=true:=fun e=>hc (.inl e)
   have ht:=zfs zxz hb;rw[Bool.and_eq_true] at ht;have hx:=ht.1;rw[Bool.eq_false_iff.2 h1,Bool.false_or,Bool.not_eq_true'] at hx;have hn:b≠40/\b≠46/\b≠91/\b≠92:=by
    refine⟨?_,?_,?_,?_⟩<;>(rintro rfl;exact absurd hx (by decide))
   unfold za4 at h ⊢;rw[if_neg h1,if_neg (fun e=>hc (.inr e))] at h ⊢;unfold za1;rw[h.2.1,of8 hb,if_neg hn.1,if_neg hn.2.1,if_neg hn.2.2.1,if_neg hn.2.2.2,hx];rfl
theorem z15q:((List.range 256).all fun b=>match za4 brkB b with|[]=>false|c::_=>c != 45 && c != 93 && c != 94)=true:=by decide +kernel
theorem zjn {b:Nat}(hb:b<256):∃ c T,za4 brkB b=c::T/\c≠45/\c≠93/\c≠94:=by
 have ht:=zfs z15q hb;cases he:za4 brkB b with
 | nil=>rw[he] at ht;cases ht
 | cons c T =>
   rw[he] at ht;simp only[Bool.and_eq_true,bne_iff_ne,ne_eq] at ht;exact⟨c,T,rfl,ht.1.1,ht.1.2,ht.2⟩
theorem zia {lo hi:Nat}(hl:lo<256):∃ U,zff lo hi=za4 brkB lo++U:=by
 unfold zff;split
 . exact⟨[],by simp⟩
 . split
   . exact⟨_,rfl⟩
   . exact⟨_,List.append_assoc _ _ _⟩
theorem zwg (f:Nat->Bool):∀ n p,n=256 - p->RT f p=[]\/∃ b U,b<256/\RT f p=za4 brkB b++U
 | 0,p,h=>.inl (zqc (by omega))
 | n + 1,p,h=>by
   cases hf:f p with
   | false=>rw[zwf (by omega) hf];exact zwg f n (p+1) (by omega)
   | true =>
     have hgt:p<zd3 f (256 - p) p:=by
      rw[show 256 - p=(255 - p)+1 by omega,zd3,if_pos hf];have:=(zes f (255 - p) (p+1)).1;omega
     obtain⟨U,hU⟩:=zia (lo:=p) (hi:=zd3 f (256 - p) p - 1) (by omega);exact .inr ⟨p,U++RT f (zd3 f (256 - p) p+1),by omega,by rw[zrt (by omega),if_pos hgt,hU,List.append_assoc]⟩
theorem z15c {S:List UInt8}{a:Nat}{f:Nat->Bool}{p:Nat}(h:At S a (RT f p++[93])):isB S a 45=false:=by
 rcases zwg f (256 - p) p rfl with e|⟨b,U,hb,e⟩
 . rw[e] at h;rw[isb h];rfl
 . obtain⟨c,T,hc,h1,_⟩:=zjn hb;rw[e,hc] at h;rw[isb h];exact decide_eq_false (fun e=>h1 (UInt8.toNat_inj.1 e))
theorem zr7 {S:List UInt8}{a b:Nat}(hb:b<256)(h:At S a (za4 brkB b))(hd:isB S (a+(za4 brkB b).length) 45=false):ze7 S a=.ok (z9e b) (a+(za4 brkB b).length):=by
 unfold ze7;rw[zud hb h];simp only[z1f];rw[hd];rfl
theorem zpv {S:List UInt8}{a lo hi:Nat}(hl:lo<=hi)(hh:hi<256)(h:At S a (za4 brkB lo++[45]++za4 brkB hi)) :
 ze7 S a=.ok (ofS (hi+1 - lo) lo z4) (a+(za4 brkB lo++[45]++za4 brkB hi).length):=by
 obtain⟨h1,h2⟩:=h.app;obtain⟨h3,h4⟩:=h1.app;unfold ze7;rw[zud (by omega) h3];simp only[z1f];rw[isb h4,if_neg (show ¬ (false || !(decide ((45:UInt8).toNat=45)))=true by decide)];rw[List.length_append,<- Nat.add_assoc] at h2;have h5:At S (a+(za4 brkB lo).length+1) (za4 brkB hi):=h2;rw[zud hh h5];simp only[z1f];rw[decide_eq_false (show ¬ hi<lo by omega),if_neg (by decide)];congr 1;simp only[List.length_append,List.length_cons,List.length_nil];omega
def z15j (s:List Int)(p:Nat)(t:List Int):Prop:=SetOk t/\∀ i,i<256->hasS t i=(hasS s i && decide (i<p))
theorem zxp {s t u:List Int}{lo hi:Nat}(ht:z15j s lo t)(hu:SetOk u)(hb:∀ i,i<256->hasS u i=decide (lo<=i/\i<hi))(hs:∀ i,lo<=i->i<hi->hasS s i=true)(hl:lo<=hi):z15j s hi (orS t u):=by
 refine⟨z11n ht.1 hu,fun i hi2=>?_⟩;rw[z178 ht.1 hu hi2,ht.2 i hi2,hb i hi2];by_cases h1:i<lo
 . rw[decide_eq_true h1,decide_eq_false (show ¬ (lo<=i/\i<hi) by omega),decide_eq_true (show i<hi by omega)];simp
 . by_cases h2:i<hi
   . rw[hs i (by omega) h2,decide_eq_false h1,decide_eq_true (show lo<=i/\i<hi by omega),decide_eq_true h2];simp
   . rw[decide_eq_false h1,decide_eq_false (show ¬ (lo<=i/\i<hi) by omega),decide_eq_false h2];simp
theorem zm2 {s t:List Int}{e:Nat}(h:z15j s e t)(he:e<256->hasS s e=false):z15j s (e+1) t:=by
 refine⟨h.1,fun i hi=>?_⟩;rw[h.2 i hi];by_cases h1:i<e
 . rw[decide_eq_true h1,decide_eq_true (by omega)]
 . by_cases h2:i=e
   . rw[h2,he (by omega)];simp
   . rw[decide_eq_false h1,decide_eq_false (by omega)]
theorem zkf {lo hi:Nat}(hl:lo<=hi)(hh:hi<256):SetOk (ofS (hi+1 - lo) lo z4)/\∀ i,i<256->hasS (ofS (hi+1 - lo) lo z4) i=decide (lo<=i/\i<hi+1):=by
 refine⟨zus _ _ z59 (by omega),fun i hi2=>?_⟩;rw[show z4=[0,0,0,0] from rfl,zxt _ _ z59 (by omega) hi2,zbp,Bool.false_or];exact decide_eq_decide.2 (by omega)
theorem zjl {S:List UInt8} {s:List Int} (hs:SetOk s):∀ (n p k a:Nat) (acc:List Int),257 - p<=n->S.length<a+k->z15j s p acc->At S a (RT (hasS s) p++[93])->z7a S k a acc=.ok s (a+(RT (hasS s) p).length+1)
 | 0,p,k,a,acc,hn,hk,hacc,h=>by
   rw[zqc (by omega)] at h ⊢;obtain⟨k,rfl⟩:∃ k',k=k'+1:=⟨k - 1,by have:=h.1;omega⟩
   rw[z7a,isb h];rw[if_pos (show decide ((93:UInt8).toNat=93)=true by decide)];have:acc=s:=zen hacc.1 hs (fun b hb=>by rw[hacc.2 b hb,decide_eq_true (by omega),Bool.and_true]);rw[this];rfl
 | n + 1,p, k,a,acc,hn,hk,hacc,h=>by
   by_cases hp:p<256
   . cases hf:hasS s p with
     | false =>
       rw[zwf hp hf] at h ⊢;exact zjl hs n (p+1) k a acc (by omega) hk (zm2 hacc (fun _=>hf)) h
     | true =>
       have hgt:p<zd3 (hasS s) (256 - p) p:=by
        rw[show 256 - p=(255 - p)+1 by omega,zd3,if_pos hf];have:=(zes (hasS s) (255 - p) (p+1)).1;omega
       have he:=(zes (hasS s) (256 - p) p).2;have hin:=z110 (hasS s) (256 - p) p;have hend:=zqo (hasS s) (256 - p) p;rw[zrt hp,if_pos hgt] at h ⊢;generalize zd3 (hasS s) (256 - p) p=e at *;rw[List.append_assoc] at h;obtain⟨g1,g2⟩:=h.app;have hd:=z15c g2;have hend':e<256->hasS s e=false:=fun h=>hend (by omega)
       obtain⟨b1,b2⟩:=zkf (lo:=p) (hi:=p) (Nat.le_refl _) hp;rw[show p+1 - p=1 by omega] at b1 b2;obtain⟨c0,C0,hc0,_,q93,_⟩:=zjn hp;obtain⟨U,hU⟩:=zia (lo:=p) (hi:=e - 1) hp;have hnb:isB S a 93=false:=by
        have g3:=g1;rw[hU,hc0] at g3;rw[isb g3];exact decide_eq_false (fun e=>q93 (UInt8.toNat_inj.1 e))
       have hle:=g2.le;have hpos:0<(zff p (e - 1)).length:=by rw[hU,hc0];simp
       obtain⟨k,rfl⟩:∃ k',k=k'+1:=⟨k - 1,by have:=g1.le;omega⟩
       rw[z7a,hnb,if_neg (by decide)];unfold zff at g1 g2 hd hpos ⊢;by_cases e1:e - 1=p
       . rw[if_pos e1] at g1 g2 hd hpos ⊢;rw[zr7 hp g1 hd];have hfu:S.length<(a+(za4 brkB p).length)+k:=by omega
         have hlo:z15j s e (orS acc (z9e p)):=by
          have:=zxp hacc b1 b2 (fun i h1 h2=>by rw[show i=p by omega];exact hf) (by omega);rw[show e=p+1 by omega];exact this
         have hit:=zjl hs n (e+1) k (a+(za4 brkB p).length) _ (by omega) hfu (zm2 hlo hend') g2;rw[z1f,hit];rw[List.length_append];congr 1;omega
       . rw[if_neg e1] at g1 g2 hd hpos ⊢;by_cases e2:e - 1=p+1
         . rw[if_pos e2] at g1 g2 hd hpos ⊢;obtain⟨g3,g4⟩:=g1.app;obtain⟨c1,C1,hc1,q45,q93b,_⟩:=zjn (b:=e - 1) (by omega);have g5:=g4;rw[hc1] at g5;have hd1:isB S (a+(za4 brkB p).length) 45=false:=by rw[isb g5];exact decide_eq_false (fun e=>q45 (UInt8.toNat_inj.1 e))
           have hd2:isB S (a+(za4 brkB p).length) 93=false:=by rw[isb g5];exact decide_eq_false (fun e=>q93b (UInt8.toNat_inj.1 e))
           rw[zr7 hp g3 hd1];rw[z1f];have hl1:0<(za4 brkB p).length:=by rw[hc0];simp
           have hl2:=g4.le;obtain⟨k,rfl⟩:∃ k',k=k'+1:=⟨k - 1,by have:=g5.1;omega⟩
           rw[z7a,hd2,if_neg (by decide)];rw[List.length_append,<- Nat.add_assoc] at hd g2;rw[zr7 (by omega) g4 hd];rw[z1f];obtain⟨d1,d2⟩:=zkf (lo:=e - 1) (hi:=e - 1) (Nat.le_refl _) (by omega);rw[show e - 1+1 - (e - 1)=1 by omega] at d1 d2;have l1:=zxp hacc b1 b2 (fun i h1 h2=>by rw[show i=p by omega];exact hf) (by omega);have l2:z15j s e (orS (orS acc (z9e p)) (z9e (e - 1))):=by
            have:=zxp (lo:=p+1) (hi:=e) l1 d1 (fun i hi=>by rw[d2 i hi];exact decide_eq_decide.2 (by omega)) (fun i h1 h2=>hin i (by omega) h2) (by omega);exact this
           have hl3:0<(za4 brkB (e - 1)).length:=by rw[hc1];simp
           have hfu:S.length<(a+(za4 brkB p).length+(za4 brkB (e - 1)).length)+k:=by omega
           have hit:=zjl hs n (e+1) k (a+(za4 brkB p).length+(za4 brkB (e - 1)).length) _ (by omega) hfu (zm2 l2 hend') g2;rw[hit];rw[List.length_append,List.length_append];congr 1;omega
         . rw[if_neg e2] at g1 g2 hd hpos ⊢;rw[zpv (by omega) (by omega) g1];rw[z1f];obtain⟨d1,d2⟩:=zkf (lo:=p) (hi:=e - 1) (by omega) (by omega);have l1:z15j s e (orS acc (ofS (e - 1+1 - p) p z4)):=zxp hacc d1 (fun i hi=>by rw[d2 i hi];exact decide_eq_decide.2 (by omega)) (fun i h1 h2=>hin i h1 h2) (by omega);have hfu:S.length<(a+(za4 brkB p++[(45:UInt8)]++za4 brkB (e - 1)).length)+k:=by omega
           have hit:=zjl hs n (e+1) k (a+(za4 brkB p++[(45:UInt8)]++za4 brkB (e - 1)).length) _ (by omega) hfu (zm2 l1 hend') g2;rw[hit];congr 1;simp only[List.length_append];omega
   . rw[zqc (by omega)] at h ⊢;obtain⟨k,rfl⟩:∃ k',k=k'+1:=⟨k - 1,by have:=h.1;omega⟩
     rw[z7a,isb h];rw[if_pos (show decide ((93:UInt8).toNat=93)=true by decide)];have:acc=s:=zen hacc.1 hs (fun b hb=>by rw[hacc.2 b hb,decide_eq_true (by omega),Bool.and_true]);rw[this];rfl
end
end Go.Proofs.YthgcpalmjcomlaaDoorLg
set_option linter.all false
set_option maxRecDepth 100000
namespace Go.Proofs.YthgcpalmjcomlaaDoorLg
noncomputable section
open Go Go.Lift Go.Proofs.YthgcpalmjcomlaaDoorPx
theorem less4 (N:Nat)(a b c d e f g h:Int):zap (N+5) [a,b,c,d] [e,f,g,h]=some (zzz [a,b,c,d] (zu4 [e,f,g,h])):=by kernel_rfl
theorem z12a {N:Nat}(hN:5<=N){s t:List Int}(hs:SetOk s)(ht:SetOk t):zap N s t=some (zzz s (zu4 t)):=by
 obtain⟨k,rfl⟩:∃ k,N=k+5:=⟨N - 5,by omega⟩
 obtain⟨a,b,c,d,rfl,_⟩:=hs;obtain⟨e,f,g,h,rfl,_⟩:=ht;exact less4 ..
theorem z1bf (N:Nat)(a b c d:Int):z9t (N+5) [a,b,c,d]=some (Go.IntKind.wrap .i64 (Go.IntKind.wrap .i64 (Go.IntKind.wrap .i64 (Go.IntKind.wrap .i64 (0+zuq a)+zuq b)+zuq c)+zuq d)):=by kernel_rfl
theorem zzq {N:Nat}(hN:5<=N){s:List Int}(hs:SetOk s):z9t N s=some ((zi0 s:Nat):Int):=by
 obtain⟨k,rfl⟩:∃ k,N=k+5:=⟨N - 5,by omega⟩
 obtain⟨a,b,c,d,rfl,ha,hb,hc,hd⟩:=hs;have h:=zvi [a,b,c,d];rw[zvj rfl] at h;rw[z1bf,zqw ha,zqw hb,zqw hc,zqw hd,zvj rfl];generalize pop 64 a.toNat=p at *;generalize pop 64 b.toNat=q at *;generalize pop 64 c.toNat=r at *;generalize pop 64 d.toNat=t at *;rw[z5q (x:=0+(p:Int)) (by unfold I64;omega),z5q (x:=0+(p:Int)+q) (by unfold I64;omega),z5q (x:=0+(p:Int)+q+r) (by unfold I64;omega),
  z5q (by unfold I64;omega)]
 congr 1;omega
theorem zks {N:Nat}(hN:5<=N){s:List Int}(hs:SetOk s):z1c N s=some (zak s 256 0):=by
 obtain⟨k,rfl⟩:∃ k,N=k+5:=⟨N - 5,by omega⟩
 exact zxx k hs
theorem wrapS {a:Nat}(h:a<=100000):IntKind.wrap .i64 ((a:Int)+1)=((a+1:Nat):Int):=by
 rw[show ((a:Int)+1)=((a+1:Nat):Int) from rfl];exact z5q (by unfold I64;omega)
theorem z10a {a:Nat}(h:a<256):IntKind.wrap .u8 (a:Int)=(a:Int):=zk0 (by omega) (by omega)
theorem zly (s t:List Int):eqD (T.arr 4 (T.int Go.IntKind.u64)) s t=decide (s=t):=by
 by_cases h:s=t
 . rw[h,decide_eq_true rfl];exact z130 t
 . rw[decide_eq_false h];cases hb:eqD (T.arr 4 (T.int Go.IntKind.u64)) s t with
   | false=>rfl
   | true=>exact absurd ((zio _ _ _ rfl).1 hb) h
theorem zy5 {s:List Int}(hs:SetOk s)(h:zi0 s=0):s=[0,0,0,0]:=by
 refine zen hs z59 (fun b hb=>?_);rw[zbp];cases hh:hasS s b with
 | false=>rfl
 | true =>
   have hm:=(zh5 s 256 0 b).2 ⟨by omega,by omega,hh⟩;have hl:=zj0 s 256 0;simp only[Nat.zero_add] at hl;have hz:(zln s 256 0).length=0:=hl.trans h;rw[List.length_eq_zero_iff.1 hz] at hm;cases hm
theorem z13e {s:List Int}:zi0 [0,0,0,0]=0:=by
 rw[zvj rfl];decide
end
end Go.Proofs.YthgcpalmjcomlaaDoorLg
set_option linter.all false
set_option maxRecDepth 100000
namespace Go.Proofs.YthgcpalmjcomlaaDoorLg
noncomputable section
open Go Go.Lift Go.Proofs.YthgcpalmjcomlaaDoorPx
theorem z1cc {f g:Nat->Bool} {p:Nat} (h:∀ i,p<=i->i<256->f i=g i):RT f p=RT g p:=by
 have hh:∀ k q,p<=q->zeo f k q=zeo g k q:=by
  intro k
  induction k with
  | zero=>intro q _;rfl
  | succ k ih =>
    intro q hq;rw[zeo,zeo];by_cases hq2:q<256
    . rw[if_pos hq2,if_pos hq2,zpc (f:=f) (g:=g) (256 - q) q (fun i h1 h2=>h i (by omega) (by omega))];have:=(zes g (256 - q) q).1;rw[ih _ (by omega)]
    . rw[if_neg hq2,if_neg hq2]
 exact hh 257 p (Nat.le_refl _)
theorem zf3 (s:List Int):∀ n b,(∃ c,b<=c/\c<b+n/\zak s n b=(c:Int)/\hasS s c=true/\∀ i,b<=i->i<c->hasS s i=false)\/(zak s n b=-1/\∀ i,b<=i->i<b+n->hasS s i=false)
 | 0,b=>.inr ⟨rfl,fun i h1 h2=>by omega⟩
 | n + 1,b=>by
   rw[zak];cases hb:hasS s b with
   | true=>exact .inl ⟨b,by omega,by omega,by rw[if_pos rfl],hb,fun i h1 h2=>by omega⟩
   | false =>
     rw[if_neg (by decide)];rcases zf3 s n (b+1) with⟨c,h1,h2,h3,h4,h5⟩|⟨h1,h2⟩
     . refine .inl ⟨c,by omega,by omega,h3,h4,fun i h6 h7=>?_⟩;by_cases e:i=b
       . rw[e];exact hb
       . exact h5 i (by omega) h7
     . refine .inr ⟨h1,fun i h6 h7=>?_⟩;by_cases e:i=b
       . rw[e];exact hb
       . exact h2 i (by omega) (by omega)
theorem z11g {N:Nat}(hN:300<=N){s:List Int}(hs:SetOk s)(o:Unit×(List Int×Unit)){lo:Nat}(hl:lo<256)(hlo:hasS s lo=true)(k0:Int->Option (List UInt8)) :
 z9g N s o (lo:Int) (lo:Int) k0=k0 ((zd3 (hasS s) (256 - lo) lo - 1:Nat):Int):=by
 rw[z9g,zg5];refine (zgp (fun v=>∃ h:Nat,v=(h:Int)/\h<=255) (fun v=>256 - v.toNat) (fun v=>k0 ((zd3 (hasS s) (255 - v.toNat) (v.toNat+1) - 1:Nat):Int)) ?_ N (lo:Int) ⟨lo,rfl,by omega⟩ (by simp only[Int.toNat_natCast];omega)).trans (by
  simp only[Int.toNat_natCast];rw[show 256 - lo=(255 - lo)+1 by omega,zd3,if_pos hlo])
 rintro _ r ⟨h,rfl,hh⟩ hr;simp only[Int.toNat_natCast];rw[zc2,zc4];by_cases hlt:h<255
 . rw[z2a (decide_eq_true (by omega)),wrapS (by omega),z10a (by omega),z1h3 N hs (by omega),Option.bind_some,show 255 - h=(254 - h)+1 by omega,zd3];cases hb:hasS s (h+1) with
   | true=>rw[cond_true,if_pos rfl,hr _ ⟨h+1,rfl,by omega⟩ (by simp only[Int.toNat_natCast];omega),Int.toNat_natCast,show 255 - (h+1)=254 - h by omega]
   | false=>rw[cond_false,if_neg (by decide),show h+1 - 1=h by omega]
 . rw[z6u (decide_eq_false (by omega)),show 255 - h=0 by omega,zd3,show h+1 - 1=h by omega]
theorem z14s (N:Nat){lo hi:Nat}(h:lo<=hi)(hh:hi<256):zc5 N (lo:Int) (hi:Int)=some (zff lo hi):=by
 have h1:=zjo brkB lo;have h2:=zjo brkB hi;have w:IntKind.wrap .u8 ((hi:Int) - (lo:Int))=((hi - lo:Nat):Int):=by
  rw[show ((hi:Int) - (lo:Int))=((hi - lo:Nat):Int) by omega];exact z10a (by omega)
 rw[zc5,show ([(92:UInt8),(91:UInt8),(93:UInt8),(45:UInt8),(94:UInt8)]:List UInt8)=brkB from rfl,znq N (by omega),Option.bind_some,znq N hh,Option.bind_some,w,zff];by_cases e0:hi=lo
 . rw[z2a (beq_iff_eq.2 (by omega)),if_pos e0]
 rw[z6u (beq_eq_false_iff_ne.2 (by omega)),if_neg e0];by_cases e1:hi=lo+1
 . rw[z2a (beq_iff_eq.2 (by omega)),if_pos e1,z2a (decide_eq_true (by omega))]
 . rw[z6u (beq_eq_false_iff_ne.2 (by omega)),if_neg e1,z2a (decide_eq_true (by omega)),z2a (decide_eq_true (by simp only[List.length_append,List.length_cons,List.length_nil];omega))]
theorem z186 (N:Nat){o s:List UInt8}(h:o.length+s.length<=1000000):z19 N ((),(z3j o,())) s=some ((((s.length:Nat):Int),(Go.Value.nilIface,())),(((),(z3j (o++s),())),())):=by
 rw[z19,show decide _=true from decide_eq_true (by simp[z3j];omega)];simp[z3j]
theorem z12m {s:List Int}{c:Nat}(hc:c<256)(h:hasS s c=true):1<=zi0 s:=by
 have hm:=(zh5 s 256 0 c).2 ⟨by omega,by omega,h⟩;have hl:=zj0 s 256 0;simp only[Nat.zero_add] at hl;have h2:0<(zln s 256 0).length:=List.length_pos_of_mem hm;have h3:(zln s 256 0).length=zi0 s:=hl;omega
theorem z15k {t:List Int} (ht:SetOk t) {c e n:Nat} (hn:n=e - c) (hce:c<e) (he:e<=256) (h4:hasS t c=true) (h5:∀ i,i<c->hasS t i=false) (hend:e<256->hasS t e=false) :
 SetOk (ofS n c [0,0,0,0])/\SetOk (zzz t (zu4 (ofS n c [0,0,0,0])))/\zi0 (zzz t (zu4 (ofS n c [0,0,0,0])))+1<=zi0 t/\RT (hasS (zzz t (zu4 (ofS n c [0,0,0,0])))) 0=RT (hasS t) (e+1):=by
 have hof:=zus n c z59 (by omega);have hoh:∀ i,i<256->hasS (ofS n c [0,0,0,0]) i=decide (c<=i/\i<e):=fun i hi=>by
  rw[zxt _ _ z59 (by omega) hi,zbp,Bool.false_or];exact decide_eq_decide.2 (by omega)
 generalize ofS n c [0,0,0,0]=u at *;have hno:=zxj hof;have hand:=z1mg ht hno;have hpar:=zzr ht hof;have hc1:1<=zi0 (zzz t u):=z12m (c:=c) (by omega) (by rw[zr9 ht hof (by omega),h4,hoh c (by omega),decide_eq_true (by omega)];rfl);have hbit:∀ i,i<256->hasS (zzz t (zu4 u)) i=(hasS t i && !decide (c<=i/\i<e)):=fun i hi=>by
  rw[zr9 ht hno hi,zv8 hof hi,hoh i hi]
 refine⟨hof,hand,by omega,?_⟩;generalize zzz t (zu4 u)=t2 at *;by_cases h256:e<256
 . have hfe:=hend h256;have hz:∀ i,0<=i->i<0+(e+1)->hasS t2 i=false:=fun i _ hi=>by
    rw[hbit i (by omega)];by_cases g1:i<c
    . rw[h5 i g1];rfl
    . by_cases g2:i<e
      . rw[decide_eq_true (by omega)];simp
      . rw[show i=e by omega,hfe];rfl
   have h6:=zjy (f:=hasS t2) (e+1) 0 (by omega) hz;rw[Nat.zero_add] at h6;rw[h6];refine z1cc (fun i g1 g2=>?_);rw[hbit i g2,decide_eq_false (by omega)];simp
 . have hz:∀ i,0<=i->i<0+256->hasS t2 i=false:=fun i _ hi=>by
    rw[hbit i (by omega)];by_cases g1:i<c
    . rw[h5 i g1];rfl
    . rw[decide_eq_true (by omega)];simp
   have h6:=zjy (f:=hasS t2) 256 0 (by omega) hz;rw[Nat.zero_add] at h6;rw[h6,zqc (Nat.le_refl _),zqc (by omega)]
theorem zyg {f:Nat->Bool}{c:Nat}(hc:c<256)(h4:f c=true)(h5:∀ i,i<c->f i=false) :
 c<zd3 f (256 - c) c/\RT f 0=zff c (zd3 f (256 - c) c - 1)++RT f (zd3 f (256 - c) c+1):=by
 have hgt:c<zd3 f (256 - c) c:=by
  rw[show 256 - c=(255 - c)+1 by omega,zd3,if_pos h4];have:=(zes f (255 - c) (c+1)).1;omega
 have h6:=zjy (f:=f) c 0 (by omega) (fun i _ h7=>h5 i (by omega));rw[Nat.zero_add] at h6;exact⟨hgt,by rw[h6,zrt hc,if_pos hgt]⟩
theorem str14 (N:Nat){o:List UInt8}(h:o.length<=100000):(zs1 (((),(z3j o,())),())).bind (fun y1=>some y1.1)=some o:=by
 have h2:zs1 (((),(z3j o,())),())=some (o,(((),((),())),())):=by
  unfold zs1;dsimp only;rw[zph,show decide _=true from decide_eq_true (by simp[z3j];omega),zk6];rfl
 rw[h2];rfl
theorem zys {N:Nat}(hN:300<=N){t:List Int}(ht:SetOk t){o:List UInt8}(ho:o.length+9*zi0 t<=9*256){c:Nat}(hc:c<256)(h4:hasS t c=true)(h5:∀ i,i<c->hasS t i=false)
 (k0:List Int->(Unit×(List Int×Unit))->Option (List UInt8)) :
 ∃ t2,SetOk t2/\zi0 t2+1<=zi0 t/\∃ x:List UInt8,x.length<=9/\RT (hasS t) 0=x++RT (hasS t2) 0/\z9h N t ((),(z3j o,())) (c:Int) k0=k0 t2 ((),(z3j (o++x),())):=by
 obtain⟨hgt,hRT⟩:=zyg hc h4 h5;have he:=(zes (hasS t) (256 - c) c).2;have hend:=zqo (hasS t) (256 - c) c;have hpe:=z11g (o:=((),(z3j o,()))) hN ht hc h4;generalize zd3 (hasS t) (256 - c) c=e at *;obtain⟨g1,g2,g3,g4⟩:=z15k ht (n:=e - 1+1 - c) (by omega) hgt (by omega) h4 h5 (fun h=>hend (by omega));have hl:=zpb c (e - 1);have hcn:=z12m hc h4;refine⟨_,g2,g3,zff c (e - 1),hl,by rw[g4];exact hRT,?_⟩;rw[z9h,hpe,z10a hc,z10a (by omega),z14s N (by omega) (by omega),Option.bind_some,z186 N (by omega),Option.bind_some,z11r N hc (by omega) (by omega),Option.bind_some,z12a (by omega) ht g1,Option.bind_some]
end
end Go.Proofs.YthgcpalmjcomlaaDoorLg
set_option linter.all false
set_option maxRecDepth 100000
namespace Go.Proofs.YthgcpalmjcomlaaDoorLg
noncomputable section
open Go Go.Lift Go.Proofs.YthgcpalmjcomlaaDoorPx
def appS (b:List Int)(f:Nat->Bool):List UInt8:=zdq b++RT f 0
theorem z16f (f:Nat->Bool):appS [] f=RT f 0:=List.nil_append _
theorem zy9 (o:List UInt8)(f:Nat->Bool):appS (z3j o) f=o++RT f 0:=by unfold appS;rw[zk6]
theorem z10x {N:Nat}(hN:300<=N){s:List Int}(hs:SetOk s):zac N s=some (RT (hasS s) 0):=by
 rw[zac,zks (by omega) hs,Option.bind_some,zg6];have hc0:=zvi s;refine (zgp (fun v=>∃ (t:List Int) (o:List UInt8),v.1=t/\v.2.1=((),(z3j o,()))/\v.2.2=zak t 256 0/\SetOk t/\o.length+9*zi0 t<=9*256) (fun v=>zi0 v.1) (fun v=>some (appS v.2.1.2.1 (hasS v.1))) ?_ N (s,(((),([],())),zak s 256 0)) ⟨s,[],rfl,rfl,rfl,hs,by simp only[List.length_nil];omega⟩ (by simp only;omega)).trans (congrArg some (z16f (hasS s)));rintro⟨t',b',l'⟩ r ⟨t,o,e1,e2,e3,ht,ho⟩ hr;simp only at e1 e2 e3;subst e1 e2 e3;simp only;rw[zc3,zy9];rcases zf3 t' 256 0 with⟨c,h1,h2,h3,h4,h5⟩|⟨h1,h2⟩
 . obtain⟨t2,q1,q2,x,q3,q4,q5⟩:=zys hN ht ho (c:=c) (by omega) h4 (fun i hi=>h5 i (by omega) hi) (fun s1 out1=>(z1c N s1).bind fun y=>r (s1,out1,y));rw[h3,z2a (decide_eq_true (by omega)),q5,zks (by omega) q1,Option.bind_some,hr _ ⟨t2,o++x,rfl,rfl,rfl,q1,by rw[List.length_append];omega⟩ (by simp only;omega)];simp only;rw[zy9,q4,List.append_assoc]
 . have hz:=zjy (f:=hasS t') 256 0 (by omega) (fun i g1 g2=>h2 i g1 (by omega));rw[Nat.zero_add] at hz;rw[h1,z6u (decide_eq_false (by omega)),hz,zqc (Nat.le_refl _),List.append_nil];exact str14 N (by omega)
theorem z1lv (N:Nat):z1w (N+300) 0 255=some [18446744073709551615,18446744073709551615,18446744073709551615,18446744073709551615]:=by kernel_rfl
theorem z11i (N:Nat):z3n (N+300) ([(48:UInt8),(49:UInt8),(50:UInt8),(51:UInt8),(52:UInt8),(53:UInt8),(54:UInt8),(55:UInt8),(56:UInt8),(57:UInt8)]:List UInt8)=some [287948901175001088,0,0,0]:=by kernel_rfl
theorem z1b9:SetOk [18446744073709551615,18446744073709551615,18446744073709551615,18446744073709551615]:=⟨_,_,_,_,rfl,zk4,zk4,zk4,zk4⟩
theorem zxu:((List.range 256).all fun b=>hasS [18446744073709551615,18446744073709551615,18446744073709551615,18446744073709551615] b)=true:=by decide +kernel
theorem zrh {f:Nat->Bool}:∀ n,cnt f n=n->∀ i,i<n->f i=true
 | 0,_,i,h=>by omega
 | n + 1,h,i,hi=>by
   rw[cnt] at h;have h1:=z13f f n;have h2:(f n).toNat<=1:=by cases f n<;>decide
   by_cases e:i=n
   . subst e;cases hf:f i with
     | true=>rfl
     | false=>rw[hf] at h;simp at h;omega
   . exact zrh n (by omega) i (by omega)
theorem z13g {f:Nat->Bool}:∀ n,(∀ i,i<n->f i=true)->cnt f n=n
 | 0,_=>rfl
 | n+1,h=>by rw[cnt,z13g n (fun i hi=>h i (by omega)),h n (by omega)];rfl
theorem zxv {s:List Int}(hs:SetOk s):s=[18446744073709551615,18446744073709551615,18446744073709551615,18446744073709551615] ↔ zi0 s=256:=by
 constructor
 . rintro rfl;exact z13g 256 (fun i hi=>zfs zxu hi)
 . intro h;exact zen hs z1b9 (fun b hb=>by rw[zrh 256 h b hb,zfs zxu hb])
theorem z11a {N:Nat}(hN:300<=N){s:List Int}(hs:SetOk s):zc6 N s=some (zyp s):=by
 have hc:=zvi s;have hrl:(RT (hasS s) 0).length<=9*257:=z144 _ _ _;have hrn:=z10x hN hs;obtain⟨k,rfl⟩:∃ k,N=k+300:=⟨N - 300,by omega⟩
 rw[zc6,zzq (by omega) hs,Option.bind_some];unfold zyp;by_cases h1:zi0 s=1
 . rw[z2a (beq_iff_eq.2 (by omega)),if_pos h1,zks (by omega) hs,Option.bind_some];rcases zf3 s 256 0 with⟨c,h2,h3,h4,h5,h6⟩|⟨h2,h3⟩
   . rw[h4,z10a (by omega),z13p _ (by omega),Option.bind_some,Int.toNat_natCast]
   . exfalso;have hl:=zj0 s 256 0;simp only[Nat.zero_add] at hl;have hz:(zln s 256 0).length=1:=hl.trans h1;obtain⟨c,hcl⟩:=List.length_eq_one_iff.1 hz;have hm:=(zh5 s 256 0 c).1 (by rw[hcl];exact List.mem_singleton.2 rfl);rw[h3 c (by omega) (by omega)] at hm;exact absurd hm.2.2 (by decide)
 rw[z6u (beq_eq_false_iff_ne.2 (by omega)),if_neg h1,z1lv,Option.bind_some,zly];by_cases h256:zi0 s=256
 . rw[decide_eq_true ((zxv hs).2 h256),cond_true,if_pos h256]
 rw[decide_eq_false (fun e=>h256 ((zxv hs).1 e)),cond_false,if_neg h256,z11i,Option.bind_some,zly];by_cases hd:s=[287948901175001088,0,0,0]
 . rw[decide_eq_true hd,cond_true,if_pos hd]
 rw[decide_eq_false hd,cond_false,if_neg hd];refine (congrArg (fun o:Option (List Int)=>o.bind _) (show z3n (k+300) _=some [287948901175001088,576460745995190270,0,0] by kernel_rfl)).trans ?_;rw[Option.bind_some,zly];by_cases hw:s=[287948901175001088,576460745995190270,0,0]
 . rw[decide_eq_true hw,cond_true,if_pos hw]
 rw[decide_eq_false hw,cond_false,if_neg hw,zly];by_cases h0:zi0 s=0
 . rw[decide_eq_true (zy5 hs h0),cond_true,if_pos h0]
 . have hne:s≠[0,0,0,0]:=fun e=>h0 (by rw[e];exact z13e (s:=s))
   rw[decide_eq_false hne,cond_false,if_neg h0,hrn,Option.bind_some,z2a (decide_eq_true (by omega)),z2a (decide_eq_true (by simp only[List.length_append,List.length_cons,List.length_nil];omega))]
end
end Go.Proofs.YthgcpalmjcomlaaDoorLg
set_option linter.all false
set_option maxRecDepth 100000
namespace Go.Proofs.YthgcpalmjcomlaaDoorLg
noncomputable section
open Go Go.Lift Go.Proofs.YthgcpalmjcomlaaDoorPx
def zuu (n:Nat):List UInt8:=if n<10 then [UInt8.ofNat (48+n)] else [UInt8.ofNat (48+n / 10),UInt8.ofNat (48+n % 10)]
def zbe (lo hi:Int):List UInt8 :=
 if lo=0/\hi=-1 then [42] else if lo=1/\hi=-1 then [43] else if lo=0/\hi=1 then [63] else if hi=lo then [123]++zuu lo.toNat++[125] else if hi=-1 then [123]++zuu lo.toNat++[44,125] else
 [123]++zuu lo.toNat++[44]++zuu hi.toNat++[125]
theorem zz0 (N:Nat):((List.range 17).all fun lo=>(List.range 18).all fun h=>z9f (N+20) (lo:Int) ((h:Int) - 1) == some (zbe (lo:Int) ((h:Int) - 1)))=true:=by kernel_rfl
theorem zul {N:Nat}(hN:20<=N){lo hi:Int}(h:zl2 lo hi=true):z9f N lo hi=some (zbe lo hi):=by
 obtain⟨k,rfl⟩:∃ k,N=k+20:=⟨N - 20,by omega⟩
 unfold zl2 at h;rw[decide_eq_true_eq] at h;obtain⟨a,rfl⟩:∃ a:Nat,lo=(a:Int):=⟨lo.toNat,by omega⟩
 obtain⟨b,rfl⟩:∃ b:Nat,hi=(b:Int) - 1:=⟨(hi+1).toNat,by omega⟩
 have h1:=zfs (zz0 k) (b:=a) (by omega);exact beq_iff_eq.1 (zfs h1 (b:=b) (by omega))
theorem zxi (n:Nat):(zuu n).length<=2:=by unfold zuu;split<;>simp
theorem zrz (lo hi:Int):(zbe lo hi).length<=7:=by
 have h1:=zxi lo.toNat;have h2:=zxi hi.toNat;unfold zbe;split
 . simp
 . split
   . simp
   . split
     . simp
     . split
       . simp only[List.length_append,List.length_cons,List.length_nil];omega
       . split<;>simp only[List.length_append,List.length_cons,List.length_nil]<;>omega
def zam (k kk:Int):Bool:=decide ((k=2/\kk=3)\/(k=4/\kk≠1))
theorem zzm (N:Nat) (a b:Int) (r s:List Int×(List Tree×(Int×(Int×Unit)))):z27 N (a,r) (b,s)=some (zam a b):=by
 unfold z27 zam;simp only[Bool.cond_eq_ite,beq_iff_eq];by_cases h2:a=2
 . rw[if_pos h2];by_cases h3:b=3
   . rw[if_pos h3,decide_eq_true (.inl ⟨h2,h3⟩)]
   . rw[if_neg h3,if_neg (by omega),decide_eq_false (by omega)]
 . rw[if_neg h2];by_cases h4:a=4
   . rw[if_pos h4];congr 1;by_cases h1:b=1
     . rw[h1,decide_eq_false (by omega)];rfl
     . rw[decide_eq_true (.inr ⟨h4,h1⟩)];exact bne_iff_ne.2 h1
   . rw[if_neg h4,decide_eq_false (by omega)]
theorem z133 (N:Nat)(n k:NodT.den):z27 N n k=some (zam n.1 k.1):=zzm N n.1 k.1 n.2 k.2
def zom (e:Bool)(s:List UInt8):List UInt8:=if e=true then [40]++s++[41] else s
def zq8 (k:Int)(i:Nat):List UInt8:=if k=3/\0<i then [124] else []
def z132 (k:Int)(st:List Int)(lo hi:Int):List UInt8:=if k=1 then zyp st else if k=4 then zbe lo hi else []
mutual
def zbf:Tree->List UInt8
 | .mk k st ks lo hi=>zfu ks k 0++z132 k st lo hi
def zfu:List Tree->Int->Nat->List UInt8
 | [],_,_=>[]
 | x::xs,k,i=>zq8 k i++(zom (zam k (z2c x)) (zbf x)++zfu xs k (i+1))
end
mutual
def zjq:Tree->Nat
 | .mk k _ ks _ _=>zjr ks k
def zjr:List Tree->Int->Nat
 | [],_=>0
 | x::xs,k=>max (zjq x+(zam k (z2c x)).toNat) (zjr xs k)
end
theorem z16a (k:Int)(i:Nat):(zq8 k i).length<=1:=by unfold zq8;split<;>simp
theorem z15y (k:Int)(st:List Int)(lo hi:Int):(z132 k st lo hi).length<=2400:=by
 have:=z14p st;have:=zrz lo hi;unfold z132;split
 . omega
 . split
   . omega
   . simp
end
end Go.Proofs.YthgcpalmjcomlaaDoorLg
set_option linter.all false
set_option maxRecDepth 100000
namespace Go.Proofs.YthgcpalmjcomlaaDoorLg
noncomputable section
open Go Go.Lift Go.Proofs.YthgcpalmjcomlaaDoorPx
abbrev PSt:=List UInt8×(Int×(Int×Unit))
@[reducible] def pst (s:List UInt8) (a o:Nat):PSt:=(s,((a:Int),((o:Int),())))
def okP {α β:Type}(s:List UInt8)(o:Nat)(f:α->β):PR α->Option (β×(PSt×Unit))
 | .ok x a=>some (f x,(pst s a o,()))
 | .bad ..=>none
def zda {α:Type}:PR α->Option (Int×(Int×Unit))
 | .bad e a=>some (e,((a:Int),()))
 | .ok ..=>none
theorem zi5 {a:Nat}(h:a<=100000):IntKind.wrap .i64 ((a:Int)+1)=((a+1:Nat):Int):=by
 rw[show ((a:Int)+1)=((a+1:Nat):Int) from rfl];exact z5q (by unfold I64;omega)
theorem zed (s:List UInt8)(a:Nat):(((UInt8.toNat (List.getD s (Int.toNat (a:Int)) (0:UInt8))):Nat):Int)=(gb s a:Int):=by rw[Int.toNat_natCast];rfl
theorem zt5 (s:List UInt8)(a:Nat):gb s a<256:=(s.getD a 0).toNat_lt
theorem eqI (a b:Nat):(((a:Int)) == (b:Int))=decide (a=b):=by
 by_cases h:a=b
 . subst h;simp
 . rw[decide_eq_false h];simp;omega
theorem zea {s:List UInt8}{a:Nat}(h:a<s.length):inR (a:Int) s.length=true:=zcs h
theorem zhx (N:Nat){s:List UInt8}{a:Nat}(o:Nat)(ha:a<=s.length) :
 z14 N (pst s a o)=okP s o (fun b:Nat=>(b:Int)) (z8k s a)/\z1i N (pst s a o)=zda (z8k s a):=by
 unfold z14 z80 z1i z52 pst z8k;dsimp only;rw[eqI];rcases Nat.lt_or_ge a s.length with h|h
 . rw[decide_eq_false (by omega),if_pos h];simp only[cond_false];rw[zea h,zed];exact⟨rfl,rfl⟩
 . have e:a=s.length:=by omega
   rw[decide_eq_true e,if_neg (by omega)];subst e;exact⟨rfl,rfl⟩
theorem zl3 (N:Nat){s:List UInt8}{a:Nat}(o b:Nat)(ha:a<=s.length)(hs:s.length<=256) :
 zq N (pst s a o) (b:Int)=some (isB s a b,(pst s (cond (isB s a b) (a+1) a) o,())):=by
 unfold zq z7w z7v pst isB;dsimp only;rw[eqI];rcases Nat.lt_or_ge a s.length with h|h
 . rw[decide_eq_false (by omega),decide_eq_true h];simp only[cond_false,Bool.true_and];rw[zea h,zed,zi5 (by omega)];simp only[cond_true,bne,eqI];by_cases hb:gb s a=b
   . rw[decide_eq_true hb];simp[hb]
   . rw[decide_eq_false hb];have h2:(gb s a == b)=false:=by simpa using hb
     simp[h2]
 . have e:a=s.length:=by omega
   rw[decide_eq_true e,decide_eq_false (by omega)];rfl
theorem zn9 (N:Nat){s:List UInt8}{a:Nat}(o b:Nat)(ha:a<=s.length)(hs:s.length<=256) :
 zr N (pst s a o) (b:Int)=okP s o (fun _:Unit=>()) (zcp s a b)/\z16 N (pst s a o) (b:Int)=zda (zcp s a b):=by
 unfold zr z81 z16 z53 zcp;rw[(zhx N o ha).1,(zhx N o ha).2];cases h:z8k s a with
 | bad e c=>exact⟨rfl,rfl⟩
 | ok x c =>
   obtain⟨h1,rfl,rfl⟩:=zat h;simp only[okP,zda,PR.next,Option.bind_some,orP,bne,eqI,pst];by_cases hb:gb s c=b
   . rw[decide_eq_true hb,if_pos hb,zi5 (by omega)];exact⟨rfl,rfl⟩
   . rw[decide_eq_false hb,if_neg hb];exact⟨rfl,rfl⟩
theorem zkx (N b:Nat):z4w N (b:Int)=some (zir b):=by
 unfold z4w zir;by_cases h:48<=b
 . rw[decide_eq_true (by omega),decide_eq_true h];simp only[cond_true,Bool.true_and];congr 1;exact decide_eq_decide.2 (by omega)
 . rw[decide_eq_false (by omega),decide_eq_false h];rfl
theorem zyh {x:Int}(h:0<=x)(h2:x<256):IntKind.wrap .u8 x=x:=by
 show x % 256=x;omega
theorem z1h2 (N:Nat) {s:List UInt8} {a:Nat} (o fr:Nat) (ha:a<=s.length) (hs:s.length<=256) :
 z3c N (pst s a o) (fr:Int)=okP s o (fun b:Nat=>(b:Int)) (zu5 s fr a)/\z38 N (pst s a o) (fr:Int)=zda (zu5 s fr a):=by
 unfold z3c z38 zu5;rw[(zhx N o ha).1,(zhx N o ha).2];cases h:z8k s a with
 | bad e c=>exact⟨rfl,rfl⟩
 | ok x c =>
   obtain⟨h1,rfl,rfl⟩:=zat h;have hl:=zt5 s c;simp only[okP,zda,PR.next,Option.bind_some,orP,zkx,pst];cases hd:zir (gb s c) with
   | true =>
     have hd':48<=gb s c/\gb s c<=57:=by simpa[zir] using hd
     simp only[cond_true,if_true];rw[zi5 (by omega),zyh (by omega) (by omega),show ((gb s c:Int) - 48)=((gb s c - 48:Nat):Int) by omega];exact⟨rfl,by first|rfl|trivial⟩
   | false =>
     simp only[cond_false,Bool.false_eq_true,if_false];unfold z8w z8v z5y z5x;by_cases h2:97<=gb s c/\gb s c<=102
     . rw[if_pos h2,decide_eq_false (by omega),decide_eq_false (by omega)];simp only[cond_false];rw[zi5 (by omega),zyh (x:=(gb s c:Int) - 97) (by omega) (by omega),zyh (by omega) (by omega),show ((gb s c:Int) - 97+10)=((gb s c - 87:Nat):Int) by omega];exact⟨rfl,by first|rfl|trivial⟩
     . rw[if_neg h2];by_cases h3:(gb s c:Int)<97
       . rw[decide_eq_true h3];exact⟨rfl,rfl⟩
       . rw[decide_eq_false h3,decide_eq_true (show (102:Int)<gb s c by omega)];exact⟨rfl,rfl⟩
theorem zgj {N b:Nat}(hb:b<256)(hN:257<N):z1w N (b:Int) (b:Int)=some (z9e b):=by
 rw[z11r N hb hb hN,Nat.add_sub_cancel_left];rfl
theorem z12y:((List.range 256).all fun b=>decide (Go.Lib.indexByte ([(92:UInt8),(46:UInt8),(91:UInt8),(93:UInt8),(40:UInt8),(41:UInt8),(123:UInt8),(125:UInt8),(124:UInt8),(42:UInt8),(43:UInt8),(63:UInt8),(45:UInt8),(94:UInt8)]:List UInt8) (Nat.toUInt8 b)<(0:Int)) == !(escapes.contains b))=true:=by kernel_rfl
theorem z1m1 {b:Nat}(hb:b<256):decide (Go.Lib.indexByte ([(92:UInt8),(46:UInt8),(91:UInt8),(93:UInt8),(40:UInt8),(41:UInt8),(123:UInt8),(125:UInt8),(124:UInt8),(42:UInt8),(43:UInt8),(63:UInt8),(45:UInt8),(94:UInt8)]:List UInt8) (Nat.toUInt8 (Int.toNat (b:Int)))<(0:Int))=!(escapes.contains b):=by
 have:=List.all_eq_true.1 z12y b (by simpa using hb);rw[Int.toNat_natCast];exact eq_of_beq this
theorem z10o:((List.range 256).all fun b=>decide ((0:Int)<=Go.Lib.indexByte ([(92:UInt8),(46:UInt8),(91:UInt8),(93:UInt8),(40:UInt8),(41:UInt8),(123:UInt8),(125:UInt8),(124:UInt8),(42:UInt8),(43:UInt8),(63:UInt8)]:List UInt8) (Nat.toUInt8 b)) == specials.contains b)=true:=by kernel_rfl
theorem z16q {b:Nat}(hb:b<256):decide ((0:Int)<=Go.Lib.indexByte ([(92:UInt8),(46:UInt8),(91:UInt8),(93:UInt8),(40:UInt8),(41:UInt8),(123:UInt8),(125:UInt8),(124:UInt8),(42:UInt8),(43:UInt8),(63:UInt8)]:List UInt8) (Nat.toUInt8 (Int.toNat (b:Int))))=specials.contains b:=by
 have:=List.all_eq_true.1 z10o b (by simpa using hb);rw[Int.toNat_natCast];exact eq_of_beq this
theorem z11x:((List.range 16).all fun h=>(List.range 16).all fun l=>Go.Lift.bitsOp Go.BinOp.or Go.IntKind.u8 (Go.Lift.shlI Go.IntKind.u8 (h:Int) (4:Int)) (l:Int) == ((16*h+l:Nat):Int))=true:=by kernel_rfl
theorem z1gj {h l:Nat}(hh:h<16)(hl:l<16):Go.Lift.bitsOp Go.BinOp.or Go.IntKind.u8 (Go.Lift.shlI Go.IntKind.u8 (h:Int) (4:Int)) (l:Int)=((16*h+l:Nat):Int):=by
 have:=List.all_eq_true.1 (List.all_eq_true.1 z11x h (by simpa using hh)) l (by simpa using hl);exact eq_of_beq this
theorem zxs {s:List UInt8}{fr a x b:Nat}(h:zu5 s fr a=.ok x b):x<16:=by
 unfold zu5 at h;cases hn:z8k s a with
 | bad e c=>rw[hn] at h;cases h
 | ok y c =>
   rw[hn] at h;simp only[PR.next] at h;split at h
   . rename_i hd;cases h;simp[zir] at hd;omega
   . split at h
     . cases h;omega
     . cases h
def sgF (r:Sg):List Int×(Bool×Unit):=(r.1,(r.2.1,()))
theorem z1l {α:Type}{s:List UInt8}{a x:Nat}{r:PR α}{y:α}(h:Ahead s a r)(e:r=.ok y x):a<=x/\x<=s.length:=by rw[e] at h;exact h
theorem z1bb (N:Nat) {s:List UInt8} {a:Nat} (o:Nat) (ha:a<s.length) (hb:gb s a=92) (hs:s.length<=256) (hN:300<=N) :
 z25 N (pst s a o)=okP s o sgF (zr1 s a)/\z28 N (pst s a o)=zda (zr1 s a):=by
 have hneed:zcp s a 92=.ok () (a+1):=by
  unfold zcp z8k;rw[if_pos ha];simp only[PR.next,hb,if_true]
 unfold z25 z28 zr1;have q:=zn9 N o 92 (Nat.le_of_lt ha) hs;rw[hneed] at q;rw[show (92:Int)=((92:Nat):Int) from rfl,q.1,q.2];simp only[okP,zda,Option.bind_some,orP];rw[(zhx N o (show a+1<=s.length by omega)).1,(zhx N o (show a+1<=s.length by omega)).2];cases h:z8k s (a+1) with
 | bad e c=>exact⟨rfl,rfl⟩
 | ok x c =>
   obtain⟨h1,rfl,rfl⟩:=zat h;have hl:=zt5 s (a+1);simp only[okP,zda,Option.bind_some,orP,PR.next,pst];unfold z6m z4l;rw[zi5 (by omega)];simp only[show (100:Int)=((100:Nat):Int) from rfl,show (119:Int)=((119:Nat):Int) from rfl,show (120:Int)=((120:Nat):Int) from rfl,eqI];by_cases e1:gb s (a+1)=100
   . rw[decide_eq_true e1,if_pos e1];simp only[cond_true];rw[show (48:Int)=((48:Nat):Int) from rfl,show (57:Int)=((57:Nat):Int) from rfl,z11r N (by omega) (by omega) (by omega)];exact⟨rfl,rfl⟩
   rw[decide_eq_false e1,if_neg e1];simp only[cond_false];by_cases e2:gb s (a+1)=119
   . rw[decide_eq_true e2,if_pos e2];simp only[cond_true];have ht:=z14k N zbv (by decide) (by simp[zbv];omega);unfold zbv at ht;rw[ht];exact⟨rfl,rfl⟩
   rw[decide_eq_false e2,if_neg e2];simp only[cond_false];by_cases e3:gb s (a+1)=120
   . rw[decide_eq_true e3,if_pos e3];simp only[cond_true];have q:=z1h2 N o a (show a+1+1<=s.length by omega) hs;unfold pst at q;rw[q.1,q.2,show a+2=a+1+1 from rfl];cases hx:zu5 s a (a+1+1) with
     | bad e c=>exact⟨rfl,rfl⟩
     | ok x c =>
       have hc:=z1l (znk (Nat.le_of_lt ha) (a+1+1)) hx;have hx16:=zxs hx;simp only[okP,zda,Option.bind_some,orP,PR.next];have q:=z1h2 N o a hc.2 hs;rw[q.1,q.2];cases hy:zu5 s a c with
       | bad e d=>exact⟨rfl,rfl⟩
       | ok y d =>
         have hy16:=zxs hy;simp only[okP,zda,Option.bind_some,orP,PR.next];rw[z1gj hx16 hy16,zgj (by omega) (by omega)];exact⟨rfl,rfl⟩
   rw[decide_eq_false e3,if_neg e3,z1m1 hl];simp only[cond_false];cases e4:escapes.contains (gb s (a+1)) with
   | true =>
     simp only[Bool.not_true,cond_false,if_true];rw[zgj hl (by omega)];exact⟨rfl,rfl⟩
   | false=>exact⟨rfl,rfl⟩
theorem zwy (N:Nat){s:List UInt8}{a:Nat}(o:Nat)(ha:a<=s.length)(hs:s.length<=256)(hN:300<=N) :
 z2u N (pst s a o)=okP s o sgF (zgn s a)/\z2t N (pst s a o)=zda (zgn s a):=by
 unfold z2u z2t zgn;rw[(zhx N o ha).1,(zhx N o ha).2];cases h:z8k s a with
 | bad e c=>exact⟨rfl,rfl⟩
 | ok x c =>
   obtain⟨h1,rfl,rfl⟩:=zat h;have hl:=zt5 s c;simp only[okP,zda,Option.bind_some,orP,PR.next];unfold z7y z51 z7x z50;simp only[show (92:Int)=((92:Nat):Int) from rfl,show (91:Int)=((91:Nat):Int) from rfl,show (93:Int)=((93:Nat):Int) from rfl,show (45:Int)=((45:Nat):Int) from rfl,show (94:Int)=((94:Nat):Int) from rfl,eqI];by_cases e1:gb s c=92
   . rw[decide_eq_true e1,if_pos e1];simp only[cond_true];have q:=z1bb N o h1 e1 hs hN;rw[q.1,q.2];cases hx:zr1 s c with
     | bad e d=>exact⟨rfl,rfl⟩
     | ok x d=>exact⟨rfl,rfl⟩
   rw[decide_eq_false e1,if_neg e1];simp only[cond_false];by_cases f1:gb s c=91
   . rw[decide_eq_true f1,if_pos (by simp[f1])];exact⟨rfl,rfl⟩
   rw[decide_eq_false f1];by_cases f2:gb s c=93
   . rw[decide_eq_true f2,if_pos (by simp[f2])];exact⟨rfl,rfl⟩
   rw[decide_eq_false f2];by_cases f3:gb s c=45
   . rw[decide_eq_true f3,if_pos (by simp[f3])];exact⟨rfl,rfl⟩
   rw[decide_eq_false f3];by_cases f4:gb s c=94
   . rw[decide_eq_true f4,if_pos (by simp[f4])];exact⟨rfl,rfl⟩
   rw[decide_eq_false f4,if_neg (by simp[f1,f2,f3,f4])];simp only[cond_false];rw[zgj hl (by omega)];try unfold pst
   try simp only
   rw[zi5 (by omega)];exact⟨rfl,rfl⟩
theorem z4_ok:SetOk z4:=z59
theorem zg0 {b:Nat}(hb:b<256):SetOk (z9e b):=zus 1 b z59 (by omega)
theorem zsv {b:Nat}(hb:b<256):zak (z9e b) 256 0=(b:Int):=by
 have hh:∀ c,c<256->hasS (z9e b) c=decide (b=c):=by
  intro c hc;unfold z9e z4;rw[zxt 1 b z59 (by omega) hc,zbp];simp only[Bool.false_or];exact decide_eq_decide.2 (by omega)
 refine zm4 (c:=b) (by rw[hh b hb];simp) 256 0 (Nat.zero_le _) (by omega) (fun i _ hi=>?_);rw[hh i (by omega)];exact decide_eq_false (by omega)
theorem zlf {N b:Nat}(hb:b<256)(hN:5<=N):z1c N (z9e b)=some (b:Int):=by
 obtain⟨k,rfl⟩:∃ k,N=k+5:=⟨N - 5,by omega⟩
 rw[zxx k (zg0 hb),zsv hb]
def SgOk (r:Sg):Prop:=SetOk r.1/\(r.2.1=false->r.1=z9e r.2.2/\r.2.2<256)
theorem z139:SetOk (ofS 10 48 z4):=zus 10 48 z59 (by omega)
theorem z14d:SetOk (z1ck zbv z4):=z16w zbv z59
theorem z17d {s:List UInt8} {a:Nat} {r:Sg} {b:Nat} (h:zr1 s a=.ok r b):SgOk r:=by
 unfold zr1 at h;cases hn:z8k s (a+1) with
 | bad e c=>rw[hn] at h;cases h
 | ok y c =>
   obtain⟨_,rfl,rfl⟩:=zat hn;have hl:=zt5 s (a+1);rw[hn] at h;simp only[PR.next] at h;split at h
   . cases h;exact⟨z139,fun h=>by cases h⟩
   split at h
   . cases h;exact⟨z14d,fun h=>by cases h⟩
   split at h
   . cases hx:zu5 s a (a+2) with
     | bad e c=>rw[hx] at h;cases h
     | ok x c =>
       rw[hx] at h;simp only at h;cases hy:zu5 s a c with
       | bad e c=>rw[hy] at h;cases h
       | ok y d =>
         rw[hy] at h;simp only at h;cases h;have:=zxs hx;have:=zxs hy;exact⟨zg0 (by omega),fun _=>⟨rfl,by show 16*x+y<256;omega⟩⟩
   split at h
   . cases h;exact⟨zg0 hl,fun _=>⟨rfl,hl⟩⟩
   . cases h
theorem zqi {s:List UInt8}{a:Nat}{r:Sg}{b:Nat}(h:zgn s a=.ok r b):SgOk r:=by
 unfold zgn at h;cases hn:z8k s a with
 | bad e c=>rw[hn] at h;cases h
 | ok y c =>
   obtain⟨_,rfl,rfl⟩:=zat hn;have hl:=zt5 s c;rw[hn] at h;simp only[PR.next] at h;split at h
   . exact z17d h
   split at h
   . cases h
   . cases h;exact⟨zg0 hl,fun _=>⟨rfl,hl⟩⟩
theorem zdk {s:List UInt8} {a:Nat} {t:List Int} {b:Nat} (h:ze7 s a=.ok t b):SetOk t:=by
 unfold ze7 at h;cases hn:zgn s a with
 | bad e c=>rw[hn] at h;cases h
 | ok r c =>
   have h1:=zqi hn;rw[hn] at h;simp only[PR.next] at h;split at h
   . cases h;exact h1.1
   . rename_i hc;cases hm:zgn s (c+1) with
     | bad e d=>rw[hm] at h;cases h
     | ok q d =>
       have h2:=zqi hm;rw[hm] at h;simp only at h;split at h
       . cases h
       . rename_i hd;cases h;simp at hc hd;have e1:=h1.2 hc.1;have e2:=h2.2 hd.1;exact zus _ _ z59 (by omega)
theorem zt1 (N:Nat) {s:List UInt8} {a:Nat} (o:Nat) (ha:a<=s.length) (hs:s.length<=256) (hN:300<=N) :
 z2x N (pst s a o)=okP s o id (ze7 s a)/\z2w N (pst s a o)=zda (ze7 s a):=by
 unfold z2x z2w ze7;rw[(zwy N o ha hs hN).1,(zwy N o ha hs hN).2];cases h:zgn s a with
 | bad e c=>exact⟨rfl,rfl⟩
 | ok r c =>
   have hg:=zqi h;have hc:=z1l (zh9 s a) h;simp only[okP,zda,Option.bind_some,orP,PR.next];unfold z85 z84 z57 z56 z83 z82 z55 z54;obtain⟨st,cls,v⟩:=r;simp only[sgF];cases cls with
   | true=>exact⟨rfl,rfl⟩
   | false =>
     simp only[cond_false,Bool.false_or];obtain⟨e1,hv⟩:=hg.2 rfl;simp only at e1 hv;rw[show (45:Int)=((45:Nat):Int) from rfl,zl3 N o 45 hc.2 hs];cases hb:isB s c 45 with
     | false=>exact⟨rfl,rfl⟩
     | true =>
       simp only[Option.bind_some,Bool.not_true,cond_true,cond_false,Bool.false_eq_true,if_false];have hlt:c+1<=s.length:=by simp[isB] at hb;omega
       rw[(zwy N o hlt hs hN).1,(zwy N o hlt hs hN).2];cases h2:zgn s (c+1) with
       | bad e d=>exact⟨rfl,rfl⟩
       | ok q d =>
         have hg2:=zqi h2;obtain⟨st2,cls2,v2⟩:=q;simp only[okP,zda,Option.bind_some,orP,sgF];cases cls2 with
         | true=>exact⟨rfl,rfl⟩
         | false =>
           obtain⟨e2,hv2⟩:=hg2.2 rfl;simp only at e2 hv2;subst e1;subst e2;simp only[cond_false,Bool.false_or];rw[zlf hv (by omega),zlf hv2 (by omega)];simp only[Option.bind_some];by_cases hlt2:v2<v
           . rw[decide_eq_true hlt2,decide_eq_true (show (v2:Int)<v by omega)];exact⟨rfl,rfl⟩
           . rw[decide_eq_false hlt2,decide_eq_false (show ¬ (v2:Int)<v by omega)];simp only[cond_false];rw[zyh (x:=(v:Int)) (by omega) (by omega),zyh (x:=(v2:Int)) (by omega) (by omega),z11r N hv hv2 (by omega)];exact⟨rfl,rfl⟩
theorem z16y {N:Nat}(hN:5<=N){s t:List Int}(hs:SetOk s)(ht:SetOk t):za5 N s t=some (orS s t):=by
 obtain⟨k,rfl⟩:∃ k,N=k+5:=⟨N - 5,by omega⟩
 exact or_eq k hs ht
theorem z197 {N:Nat}(hN:5<=N){s:List Int}(hs:SetOk s):z7d N s=some (zu4 s):=by
 obtain⟨k,rfl⟩:∃ k,N=k+5:=⟨N - 5,by omega⟩
 exact z1gh k hs
theorem zr6 {s:List UInt8}:∀ (k a:Nat) {acc t:List Int} {b:Nat},SetOk acc->z7a s k a acc=.ok t b->SetOk t
 | 0,a,acc,t,b,ha,h=>by cases h
 | k + 1,a,acc,t,b,ha,h=>by
   unfold z7a at h;split at h
   . cases h;exact ha
   . cases hi:ze7 s a with
     | bad e c=>rw[hi] at h;cases h
     | ok u c =>
       rw[hi] at h;exact zr6 k c (z11n ha (zdk hi)) h
theorem zpu (N:Nat) {s:List UInt8} (o:Nat) (hs:s.length<=256) (hN:300<=N) (x2:List Int) (nt:Bool) (k0:PSt->List Int->Option (List Int×(PSt×Unit))):∀ (k N' a:Nat) (acc:List Int),k<=N'->a<=s.length->s.length<a+k->SetOk acc →
 iter (fun (v:(PSt×(List Int))) r=>z3w N x2 nt v.1 v.2 (fun p set_=>(r (p,set_))) k0) N' (pst s a o,acc)=match z7a s k a acc with | .ok t b=>k0 (pst s b o) t | .bad ..=>none
 | 0,N',a,acc,h1,h2,h3,h4=>by omega
 | k + 1,N',a,acc,h1,h2,h3,h4=>by
   obtain⟨M,rfl⟩:∃ M,N'=M+1:=⟨N' - 1,by omega⟩
   simp only[iter,z7a];unfold z3w;dsimp only;rw[show (93:Int)=((93:Nat):Int) from rfl,zl3 N o 93 h2 hs];cases hb:isB s a 93 with
   | true=>rfl
   | false =>
     simp only[Option.bind_some,Bool.not_false,cond_true,cond_false,Bool.false_eq_true,if_false];rw[(zt1 N o h2 hs hN).1];cases hi:ze7 s a with
     | bad e c=>rfl
     | ok t c =>
       have hc:=z1l (za3 s a) hi;simp only[okP,Option.bind_some,PR.next,id];rw[z16y (by omega) h4 (zdk hi)];simp only[Option.bind_some];exact zpu N o hs hN x2 nt k0 k M c _ (by omega) hc.2 (by omega) (z11n h4 (zdk hi))
theorem zni (N:Nat) {s:List UInt8} (o:Nat) (hs:s.length<=256) (hN:300<=N) (x2:List Int) (nt:Bool) (k0:(Int×(Int×Unit))->Option (Int×(Int×Unit))) (k1:PSt->List Int->Option (Int×(Int×Unit))):∀ (k N' a:Nat) (acc:List Int),k<=N'->a<=s.length->s.length<a+k->SetOk acc →
 iter (fun (v:(PSt×(List Int))) r=>z2z N x2 nt v.1 v.2 (fun p set_=>(r (p,set_))) k0 k1) N' (pst s a o,acc)=match z7a s k a acc with | .ok t b=>k1 (pst s b o) t | .bad e c=>k0 (e,((c:Int),()))
 | 0,N',a,acc,h1,h2,h3,h4=>by omega
 | k + 1,N',a,acc,h1,h2,h3,h4=>by
   obtain⟨M,rfl⟩:∃ M,N'=M+1:=⟨N' - 1,by omega⟩
   simp only[iter,z7a];unfold z2z;dsimp only;rw[show (93:Int)=((93:Nat):Int) from rfl,zl3 N o 93 h2 hs];cases hb:isB s a 93 with
   | true=>rfl
   | false =>
     simp only[Option.bind_some,Bool.not_false,cond_true,cond_false,Bool.false_eq_true,if_false];rw[(zt1 N o h2 hs hN).1,(zt1 N o h2 hs hN).2];cases hi:ze7 s a with
     | bad e c=>rfl
     | ok t c =>
       have hc:=z1l (za3 s a) hi;simp only[okP,zda,orP,Option.bind_some,PR.next,id];rw[z16y (by omega) h4 (zdk hi)];simp only[Option.bind_some];exact zni N o hs hN x2 nt k0 k1 k M c _ (by omega) hc.2 (by omega) (z11n h4 (zdk hi))
theorem zuw {s:List UInt8}{a b:Nat}(ha:a<s.length)(hb:gb s a=b):zcp s a b=.ok () (a+1):=by
 unfold zcp z8k;rw[if_pos ha];simp only[PR.next,hb,if_true]
theorem zq6 (N:Nat) {s:List UInt8} {a:Nat} (o:Nat) (ha:a<s.length) (hb:gb s a=91) (hs:s.length<=256) (hN:300<=N) :
 z2y N (pst s a o)=okP s o id (zbb s (a+1))/\z2h N (pst s a o)=zda (zbb s (a+1)):=by
 unfold z2y z2h zbb;have q:=zn9 N o 91 (Nat.le_of_lt ha) hs;rw[zuw ha hb] at q;rw[show (91:Int)=((91:Nat):Int) from rfl,q.1,q.2];simp only[okP,zda,orP,Option.bind_some];rw[show (94:Int)=((94:Nat):Int) from rfl,zl3 N o 94 (show a+1<=s.length by omega) hs];simp only[Option.bind_some];have e:(cond (isB s (a+1) 94) (a+1+1) (a+1))=(if isB s (a+1) 94=true then a+1+1 else a+1):=by cases isB s (a+1) 94<;>rfl
 rw[e];have hle:(if isB s (a+1) 94=true then a+1+1 else a+1)<=s.length:=by
  split
  . rename_i h;simp[isB] at h;omega
  . omega
 generalize (if isB s (a+1) 94=true then a+1+1 else a+1)=a1 at hle;rw[(zt1 N o hle hs hN).1,(zt1 N o hle hs hN).2];cases hi:ze7 s a1 with
 | bad e c=>exact⟨rfl,rfl⟩
 | ok t c =>
   have hc:=z1l (za3 s a1) hi;simp only[okP,zda,orP,Option.bind_some,PR.next,id];unfold z9a z6r;rw[zpu N o hs hN _ _ _ (s.length+1) N c t (by omega) hc.2 (by omega) (zdk hi),zni N o hs hN _ _ _ _ (s.length+1) N c t (by omega) hc.2 (by omega) (zdk hi)];cases hm:z7a s (s.length+1) c t with
   | bad e d=>exact⟨rfl,rfl⟩
   | ok acc d =>
     have hk:=zr6 _ _ (zdk hi) hm;simp only;cases isB s (a+1) 94 with
     | true =>
       simp only[cond_true,if_true];rw[z197 (by omega) hk];exact⟨rfl,rfl⟩
     | false=>exact⟨rfl,rfl⟩
theorem zxg {v b:Nat}(hv:v<=17)(hb:48<=b)(hb2:b<=57) :
 (if ((17:Int)<(Go.IntKind.wrap Go.IntKind.i64 ((Go.IntKind.wrap Go.IntKind.i64 ((10:Int)*(v:Int)))+(Go.IntKind.wrap Go.IntKind.i64 (Go.IntKind.wrap Go.IntKind.u8 ((b:Int) - (48:Int))))))) then (17:Int) else (Go.IntKind.wrap Go.IntKind.i64 ((Go.IntKind.wrap Go.IntKind.i64 ((10:Int)*(v:Int)))+(Go.IntKind.wrap Go.IntKind.i64 (Go.IntKind.wrap Go.IntKind.u8 ((b:Int) - (48:Int)))))))=((min (10*v+(b - 48)) 17:Nat):Int):=by
 rw[zyh (by omega) (by omega),z5q (x:=(b:Int) - 48) (by unfold I64;omega),z5q (x:=10*(v:Int)) (by unfold I64;omega),z5q (by unfold I64;omega)];split<;>omega
theorem z15b (N:Nat){s:List UInt8}{a v:Nat}(fr:Int)(o:Nat)(hs:s.length<=256)(hv:v<=17)(h:a<s.length)(hd:zir (gb s a)=true)(rec:PSt->Int->Option (Int×(PSt×Unit)))(k0:PSt->Int->Option (Int×(PSt×Unit))) :
 z2q N fr (pst s a o) (v:Int) rec k0=rec (pst s (a+1) o) ((min (10*v+(gb s a - 48)) 17:Nat):Int):=by
 unfold z2q z5s pst;dsimp only;have hd':48<=gb s a/\gb s a<=57:=by simpa[zir] using hd
 rw[decide_eq_true (show (a:Int)<(s.length:Int) by omega),zea h,zed,zkx,hd];simp only[cond_true,Option.bind_some];rw[zi5 (by omega),zxg hv hd'.1 hd'.2]
theorem z159 (N:Nat){s:List UInt8}{a v:Nat}(fr:Int)(o:Nat)(hn:¬ (a<s.length/\zir (gb s a)=true))(rec:PSt->Int->Option (Int×(PSt×Unit)))(k0:PSt->Int->Option (Int×(PSt×Unit))) :
 z2q N fr (pst s a o) (v:Int) rec k0=k0 (pst s a o) (v:Int):=by
 unfold z2q z5s pst;dsimp only;rcases Nat.lt_or_ge a s.length with h|h
 . rw[decide_eq_true (show (a:Int)<(s.length:Int) by omega),zea h,zed,zkx];have hd:zir (gb s a)=false:=by
    cases hd:zir (gb s a) with
    | true=>exact absurd ⟨h,hd⟩ hn
    | false=>rfl
   rw[hd];rfl
 . rw[decide_eq_false (show ¬ (a:Int)<(s.length:Int) by omega)];rfl
theorem zsa (N:Nat){s:List UInt8}(fr:Int)(o:Nat)(hs:s.length<=256)(k0:PSt->Int->Option (Int×(PSt×Unit))):∀ (k N' a v:Nat),k<=N'->a<=s.length->s.length<a+k->v<=17 →
 iter (fun (v:(PSt×Int)) r=>z2q N fr v.1 v.2 (fun p n=>(r (p,n))) k0) N' (pst s a o,(v:Int))=k0 (pst s (z7h s k a v).2 o) ((z7h s k a v).1:Int)
 | 0,N',a,v,h1,h2,h3,h4=>by omega
 | k + 1,N',a,v,h1,h2,h3,h4=>by
   obtain⟨M,rfl⟩:∃ M,N'=M+1:=⟨N' - 1,by omega⟩
   rw[iter];dsimp only;by_cases hc:a<s.length/\zir (gb s a)=true
   . rw[z15b N fr o hs h4 hc.1 hc.2,zsa N fr o hs k0 k M (a+1) _ (by omega) (by omega) (by omega) (Nat.min_le_right _ _)]
     conv=>rhs;rw[z7h,if_pos hc]
   . rw[z159 N fr o hc]
     conv=>rhs;rw[z7h,if_neg hc]
theorem z11u (N:Nat){s:List UInt8}{a v:Nat}(fr:Int)(o:Nat)(hs:s.length<=256)(hv:v<=17)(h:a<s.length)(hd:zir (gb s a)=true)(rec:PSt->Int->Option (Int×(Int×Unit)))(k0:PSt->Int->Option (Int×(Int×Unit))) :
 z1r N fr (pst s a o) (v:Int) rec k0=rec (pst s (a+1) o) ((min (10*v+(gb s a - 48)) 17:Nat):Int):=by
 unfold z1r z3z pst;dsimp only;have hd':48<=gb s a/\gb s a<=57:=by simpa[zir] using hd
 rw[decide_eq_true (show (a:Int)<(s.length:Int) by omega),zea h,zed,zkx,hd];simp only[cond_true,Option.bind_some];rw[zi5 (by omega),zxg hv hd'.1 hd'.2]
theorem z11t (N:Nat){s:List UInt8}{a v:Nat}(fr:Int)(o:Nat)(hn:¬ (a<s.length/\zir (gb s a)=true))(rec:PSt->Int->Option (Int×(Int×Unit)))(k0:PSt->Int->Option (Int×(Int×Unit))) :
 z1r N fr (pst s a o) (v:Int) rec k0=k0 (pst s a o) (v:Int):=by
 unfold z1r z3z pst;dsimp only;rcases Nat.lt_or_ge a s.length with h|h
 . rw[decide_eq_true (show (a:Int)<(s.length:Int) by omega),zea h,zed,zkx];have hd:zir (gb s a)=false:=by
    cases hd:zir (gb s a) with
    | true=>exact absurd ⟨h,hd⟩ hn
    | false=>rfl
   rw[hd];rfl
 . rw[decide_eq_false (show ¬ (a:Int)<(s.length:Int) by omega)];rfl
theorem zp6 (N:Nat){s:List UInt8}(fr:Int)(o:Nat)(hs:s.length<=256)(k0:PSt->Int->Option (Int×(Int×Unit))):∀ (k N' a v:Nat),k<=N'->a<=s.length->s.length<a+k->v<=17 →
 iter (fun (v:(PSt×Int)) r=>z1r N fr v.1 v.2 (fun p n=>(r (p,n))) k0) N' (pst s a o,(v:Int))=k0 (pst s (z7h s k a v).2 o) ((z7h s k a v).1:Int)
 | 0,N',a,v,h1,h2,h3,h4=>by omega
 | k + 1,N',a,v,h1,h2,h3,h4=>by
   obtain⟨M,rfl⟩:∃ M,N'=M+1:=⟨N' - 1,by omega⟩
   rw[iter];dsimp only;by_cases hc:a<s.length/\zir (gb s a)=true
   . rw[z11u N fr o hs h4 hc.1 hc.2,zp6 N fr o hs k0 k M (a+1) _ (by omega) (by omega) (by omega) (Nat.min_le_right _ _)]
     conv=>rhs;rw[z7h,if_pos hc]
   . rw[z11t N fr o hc]
     conv=>rhs;rw[z7h,if_neg hc]
theorem z15a (N:Nat) {s:List UInt8} {a:Nat} (o:Nat) (ha:a<=s.length) (hs:s.length<=256) (hN:300<=N) :
 z3b N (pst s a o)=okP s o (fun v:Nat=>(v:Int)) (zru s a)/\z37 N (pst s a o)=zda (zru s a):=by
 unfold z3b z37 z8u z5w zru;rw[(zhx N o ha).1,(zhx N o ha).2];cases h:z8k s a with
 | bad e c=>exact⟨rfl,rfl⟩
 | ok x c =>
   obtain⟨h1,rfl,rfl⟩:=zat h;simp only[okP,zda,orP,Option.bind_some,PR.next,zkx];cases hd:zir (gb s c) with
   | false=>exact⟨rfl,rfl⟩
   | true =>
     simp only[Bool.not_true,cond_false,if_true];unfold z8t zca z5v z9j;rw[show (0:Int)=((0:Nat):Int) from rfl,zsa N _ o hs _ (s.length+1) N c 0 (by omega) ha (by omega) (by omega),zp6 N _ o hs _ (s.length+1) N c 0 (by omega) ha (by omega) (by omega)];generalize hq:z7h s (s.length+1) c 0=q;obtain⟨v,b⟩:=q;unfold z8s z8r z5u z5t;simp only[pst];rw[zea h1,zed];simp only[zi5 (show c<=100000 by omega),cond_true,show (48:Int)=((48:Nat):Int) from rfl,eqI];by_cases h48:gb s c=48
     . rw[decide_eq_true h48];simp only[cond_true];by_cases hb:c+1<b
       . rw[decide_eq_true (show ((c+1:Nat):Int)<(b:Int) by omega),if_pos ⟨h48,hb⟩];exact⟨rfl,rfl⟩
       . rw[decide_eq_false (show ¬ ((c+1:Nat):Int)<(b:Int) by omega),if_neg (fun h=>hb h.2)];simp only[cond_false];by_cases hv:16<v
         . rw[decide_eq_true (show (16:Int)<(v:Int) by omega),if_pos hv];exact⟨rfl,rfl⟩
         . rw[decide_eq_false (show ¬ (16:Int)<(v:Int) by omega),if_neg hv];exact⟨rfl,rfl⟩
     . rw[decide_eq_false h48,if_neg (fun h=>h48 h.1)];simp only[cond_false];by_cases hv:16<v
       . rw[decide_eq_true (show (16:Int)<(v:Int) by omega),if_pos hv];exact⟨rfl,rfl⟩
       . rw[decide_eq_false (show ¬ (16:Int)<(v:Int) by omega),if_neg hv];exact⟨rfl,rfl⟩
def lhF (x:Int×Int):Int×(Int×Unit):=(x.1,(x.2,()))
theorem z1m0 (N:Nat){s:List UInt8}{a:Nat}(o lo hi fr:Nat)(ha:a<=s.length)(hs:s.length<=256) :
 z4h N (pst s a o) (lo:Int) (hi:Int) (fr:Int) ((zr N (pst s a o) (125:Int)).bind fun y1=>some (((lo:Int),((hi:Int),())),(y1.2.1,())))=okP s o lhF (zxo s lo hi fr a) ∧
 z3f N (pst s a o) (lo:Int) (hi:Int) (fr:Int) (fun p4=>some p4) (orP (z16 N (pst s a o) (125:Int)) (fun z1=>some z1) ((zr N (pst s a o) (125:Int)).bind fun y1=>none))=zda (zxo s lo hi fr a):=by
 unfold z4h z3f zxo;have e:decide ((hi:Int)<(if ((1:Int) > (lo:Int)) then (1:Int) else (lo:Int)))=decide (hi<max lo 1):=by
  refine decide_eq_decide.2 ?_;split<;>omega
 rw[e];by_cases h:hi<max lo 1
 . rw[decide_eq_true h,if_pos h];exact⟨rfl,rfl⟩
 . rw[decide_eq_false h,if_neg h];simp only[cond_false];have q:=zn9 N o 125 ha hs;rw[show (125:Int)=((125:Nat):Int) from rfl,q.1,q.2];cases zcp s a 125 with
   | bad e c=>exact⟨rfl,rfl⟩
   | ok x c=>exact⟨rfl,rfl⟩
theorem zy7 (N:Nat) {s:List UInt8} {a:Nat} (o:Nat) (ha:a<=s.length) (hs:s.length<=256) (hN:300<=N) :
 z3i N (pst s a o)=okP s o lhF (z9n s a)/\z36 N (pst s a o)=zda (z9n s a):=by
 unfold z3i z36 z9n;rw[(z15a N o ha hs hN).1,(z15a N o ha hs hN).2];cases h:zru s a with
 | bad e c=>exact⟨rfl,rfl⟩
 | ok lo c =>
   have hc:=z1l (zgk s a) h;simp only[okP,zda,orP,Option.bind_some,PR.next];unfold z6n z4m;rw[show (44:Int)=((44:Nat):Int) from rfl,zl3 N o 44 hc.2 hs];simp only[Option.bind_some];cases h1:isB s c 44 with
   | false=>exact z1m0 N o lo lo a hc.2 hs
   | true =>
     have hlt:c+1<=s.length:=by simp[isB] at h1;omega
     simp only[cond_true,if_true];have q:=zl3 N o 125 hlt hs;rw[show (125:Int)=((125:Nat):Int) from rfl,q];simp only[Option.bind_some];cases h2:isB s (c+1) 125 with
     | true=>exact⟨rfl,rfl⟩
     | false =>
       simp only[cond_false,Bool.false_eq_true,if_false];rw[(z15a N o hlt hs hN).1,(z15a N o hlt hs hN).2];cases h3:zru s (c+1) with
       | bad e d=>exact⟨rfl,rfl⟩
       | ok hi d =>
         have hd:=z1l (zgk s (c+1)) h3;simp only[okP,zda,orP,Option.bind_some,PR.next];exact z1m0 N o lo hi (c+1) hd.2 hs
end
end Go.Proofs.YthgcpalmjcomlaaDoorLg
set_option linter.all false
set_option maxRecDepth 100000
namespace Go.Proofs.YthgcpalmjcomlaaDoorLg
noncomputable section
open Go Go.Lift Go.Proofs.YthgcpalmjcomlaaDoorPx
theorem zfd {x:Int}(h:-9223372036854775808<=x)(h2:x<=9223372036854775807):(Lit.int .i64 x).wf=true:=by
 simp[Lit.wf,IntKind.min,IntKind.max,IntKind.signed,IntKind.bits];omega
theorem z1df {x:Int}(h:U64 x):(Lit.int .u64 x).wf=true:=by
 unfold U64 at h;simp[Lit.wf,IntKind.min,IntKind.max,IntKind.signed,IntKind.bits];omega
theorem zwk {st:List Int}(h:SetOk st):st.length=4/\∀ x∈st,(Lit.int .u64 x).wf=true:=by
 obtain⟨a,b,c,d,rfl,ha,hb,hc,hd⟩:=h;refine⟨rfl,fun x hx=>?_⟩;simp only[List.mem_cons,List.not_mem_nil,or_false] at hx;rcases hx with rfl|rfl|rfl|rfl<;>exact z1df (by assumption)
theorem z4p:∀ xs ys:List Tree,z2k (xs++ys)=z2k xs+z2k ys
 | [],ys=>by simp[z2k]
 | x::xs,ys=>by simp[z2k,z4p xs ys,Nat.add_assoc]
theorem z48 (t:Tree):z2k [t]=z1z t:=by simp[z2k]
theorem zpg (k:Int)(t:Tree):z2k (zjb k t)<=z1z t:=by
 unfold zjb;cases z2c t == k with
 | true =>
   obtain⟨kk,st,ks,lo,hi⟩:=t;show z2k ks<=_;rw[z1z];omega
 | false=>rw[cond_false,z48];exact Nat.le_refl _
theorem zhg (k:Int):∀ ps:List Tree,z2k (zal k ps)<=z2k ps
 | []=>Nat.le_refl _
 | p::ps=>by
   have:=zhg k ps;have h2:=zpg k p;show z2k (zjb k p++zal k ps)<=z2k (p::ps);rw[z4p,z2k];omega
theorem zpt (k:Int)(ps:List Tree):z1z (zcr k ps)<=z2k ps+1:=by
 have h:=zhg k ps;unfold zcr;split
 . rename_i x hx;rw[hx,z48] at h;omega
 . rw[z1z];omega
theorem z15n (k:Int)(t:Tree):z1z (zcr k [t])<=z1z t:=by
 have e:zal k [t]=zjb k t:=by simp[zal]
 have h:=zpg k t;unfold zcr;rw[e];split
 . rename_i x hx;rw[hx,z48] at h;exact h
 . unfold zjb;cases hk:z2c t == k with
   | true =>
     obtain⟨kk,st,ks,lo,hi⟩:=t;show z1z (.mk k [0,0,0,0] ks 0 0)<=_;rw[z1z,z1z];exact Nat.le_refl _
   | false =>
     rename_i hne;exact absurd (by unfold zjb;rw[hk];rfl) (hne t)
theorem z193 (k:Int){t:Tree}(h:WfN t):∀ x∈zjb k t,WfN x:=by
 unfold zjb;cases z2c t == k with
 | true =>
   obtain⟨kk,st,ks,lo,hi⟩:=t;rw[WfN] at h;exact (zhm ks).1 h.2.2.1.2
 | false =>
   intro x hx;simp at hx;subst hx;exact h
theorem z12t (k:Int):∀ {ps:List Tree},(∀ x∈ps,WfN x)->∀ x∈zal k ps,WfN x
 | [],_,x,hx=>by cases hx
 | p::ps,h,x,hx=>by
   have hx:x∈zjb k p++zal k ps:=hx;rcases List.mem_append.1 hx with hx|hx
   . exact z193 k (h p (by simp)) x hx
   . exact z12t k (fun y hy=>h y (by simp[hy])) x hx
theorem z_wf:([0,0,0,0]:List Int).length=4/\∀ x∈([0,0,0,0]:List Int),(Lit.int .u64 x).wf=true:=zwk z59
theorem z12f {k:Int}(hk:k=2\/k=3){ps:List Tree}(h:∀ x∈ps,WfN x)(hn:z2k ps<=1000000):WfN (zcr k ps):=by
 have hf:=z12t k h;have hl:=Nat.le_trans (z6j (zal k ps)) (zhg k ps);unfold zcr;split
 . rename_i x hx;exact hf x (by rw[hx];simp)
 . rw[WfN];refine⟨zfd (by omega) (by omega),z_wf,⟨Nat.le_trans hl (Nat.le_trans hn (by unfold maxLen;omega)),(zhm _).2 hf⟩,zfd (by omega) (by omega),zfd (by omega) (by omega)⟩
theorem zxe {st:List Int}(h:SetOk st):WfN (z148 st):=by
 unfold z148;rw[WfN];exact⟨zfd (by omega) (by omega),zwk h,⟨Nat.zero_le _,by rw[z143];trivial⟩,zfd (by omega) (by omega),zfd (by omega) (by omega)⟩
theorem z1dv {t:Tree}{lo hi:Int}(h:WfN t)(h1:-1<=lo/\lo<=100)(h2:-1<=hi/\hi<=100):WfN (z147 t lo hi):=by
 unfold z147;rw[WfN];exact⟨zfd (by omega) (by omega),zwk z4_ok,⟨by unfold maxLen;simp,by rw[z143,z143];exact⟨h,trivial⟩⟩,zfd (by omega) (by omega),zfd (by omega) (by omega)⟩
def TOk (a b:Nat)(c:Nat)(t:Tree):Prop:=WfN t/\z1z t+c<=3*(b - a)+1
def TRes (a c:Nat)(r:PR Tree):Prop:=∀ t b,r=.ok t b->TOk a b c t
theorem TRes.bad {a c:Nat}{e:Int}{x:Nat}:TRes a c (.bad e x):=fun t b h=>by cases h
theorem TRes.next {α:Type}{a c:Nat}{r:PR α}{f:α->Nat->PR Tree}(h:∀ x b,r=.ok x b->TRes a c (f x b)):TRes a c (r.next f):=by
 cases r with
 | bad e x=>exact TRes.bad
 | ok x b=>exact h x b rfl
theorem z162 {s:List UInt8}{a:Nat}{t:List Int}{b:Nat}(h:zbb s a=.ok t b):SetOk t:=by
 unfold zbb at h;cases hi:ze7 s (if isB s a 94=true then a+1 else a) with
 | bad e c=>rw[hi] at h;cases h
 | ok u c =>
   rw[hi] at h;simp only[PR.next] at h;cases hm:z7a s (s.length+1) c u with
   | bad e d=>rw[hm] at h;cases h
   | ok v d =>
     rw[hm] at h;simp only at h;have hk:=zr6 _ _ (zdk hi) hm;cases h;split
     . exact zxj hk
     . exact hk
theorem z170 {s:List UInt8}{a v b:Nat}(h:zru s a=.ok v b):v<=16:=by
 unfold zru at h;cases hn:z8k s a with
 | bad e c=>rw[hn] at h;cases h
 | ok y c =>
   rw[hn] at h;simp only[PR.next] at h;split at h
   . split at h
     . cases h
     split at h
     . cases h
     . cases h;omega
   . cases h
theorem z17b {s:List UInt8}{lo hi fr a:Nat}{x:Int×Int}{b:Nat}(hl:lo<=16)(hh:hi<=16)(h:zxo s lo hi fr a=.ok x b):x=((lo:Int),(hi:Int))/\max lo 1<=hi:=by
 unfold zxo at h;split at h
 . cases h
 . cases hn:zcp s a 125 with
   | bad e c=>rw[hn] at h;cases h
   | ok y c=>rw[hn] at h;cases h;exact⟨rfl,by omega⟩
theorem z13s {s:List UInt8} {a:Nat} {x:Int×Int} {b:Nat} (h:z9n s a=.ok x b):0<=x.1/\x.1<=16/\(x.2=-1\/(1<=x.2/\x.1<=x.2/\x.2<=16)):=by
 unfold z9n at h;cases hn:zru s a with
 | bad e c=>rw[hn] at h;cases h
 | ok lo c =>
   have hl:=z170 hn;rw[hn] at h;simp only[PR.next] at h;split at h
   . split at h
     . cases h;exact⟨by simp,by simp;omega,.inl rfl⟩
     . cases hm:zru s (c+1) with
       | bad e d=>rw[hm] at h;cases h
       | ok hi d =>
         have hh:=z170 hm;rw[hm] at h;obtain⟨rfl,h3⟩:=z17b hl hh h;exact⟨by simp,by simp;omega,.inr ⟨by simp;omega,by simp;omega,by simp;omega⟩⟩
   . obtain⟨rfl,h3⟩:=z17b hl hl h;exact⟨by simp,by simp;omega,.inr ⟨by simp;omega,by simp,by simp;omega⟩⟩
abbrev z16g (s:List UInt8)(sub:Option (Nat->PR Tree)):Prop:=∀ f,sub=some f->∀ b,b<=s.length->Ahead s b (f b)
abbrev z1cq (s:List UInt8)(sub:Option (Nat->PR Tree)):Prop:=∀ f,sub=some f->∀ b,b<=s.length->TRes b 0 (f b)
theorem zjg (st:List Int):z1z (z148 st)=1:=by unfold z148;rw[z1z,z2k]
theorem z11v (t:Tree)(lo hi:Int):z1z (z147 t lo hi)=1+z1z t:=by unfold z147;rw[z1z,z48]
theorem z13x {sub:Option (Nat->PR Tree)}{s:List UInt8}{a:Nat}(hA:z16g s sub)(hT:z1cq s sub)(ha:a<s.length):TRes a 2 (za1 sub s a):=by
 unfold za1;split
 . cases sub with
   | none=>exact TRes.bad
   | some f =>
     refine TRes.next fun t a1 h1=>TRes.next fun _ a2 h2=>?_
     have g1:=z1l (hA f rfl (a+1) (by omega)) h1;have g2:=z1l (zki s a1 41) h2;have g3:=hT f rfl (a+1) (by omega) t a1 h1;intro t' b e;cases e;exact⟨g3.1,by have:=g3.2;omega⟩
 split
 . intro t b e;cases e;exact⟨zxe (zus 256 0 z59 (by omega)),by rw[zjg];omega⟩
 split
 . refine TRes.next fun st a1 h1=>?_
   have g1:=z1l (znv (a+1)) h1;intro t b e;cases e;exact⟨zxe (z162 h1),by rw[zjg];omega⟩
 split
 . refine TRes.next fun st a1 h1=>?_
   have g1:=z1l (znr (Nat.le_of_lt ha)) h1;intro t b e;cases e;exact⟨zxe (z17d h1).1,by rw[zjg];omega⟩
 split
 . exact TRes.bad
 . intro t b e;cases e;exact⟨zxe (zg0 (zt5 s a)),by rw[zjg];omega⟩
theorem zka {sub:Option (Nat->PR Tree)}{s:List UInt8}{a:Nat}(hA:z16g s sub)(hT:z1cq s sub)(ha:a<s.length):TRes a 2 (zb9 sub s a):=by
 refine TRes.next fun t a1 h1=>?_
 have g1:=z1l (zeh hA ha) h1;have g2:=z13x hA hT ha t a1 h1;have hr:∀ lo hi b,-1<=lo/\lo<=100->-1<=hi/\hi<=100->a1<b->TOk a b 2 (z147 t lo hi):=fun lo hi b h1 h2 hb=>⟨z1dv g2.1 h1 h2,by rw[z11v];have:=g2.2;omega⟩
 split
 . split
   . intro t' b e;cases e;exact hr _ _ _ (by omega) (by omega) (by omega)
   split
   . intro t' b e;cases e;exact hr _ _ _ (by omega) (by omega) (by omega)
   split
   . intro t' b e;cases e;exact hr _ _ _ (by omega) (by omega) (by omega)
   split
   . refine TRes.next fun lh a2 h2=>?_
     have g3:=z1l (zlk (show a1+1<=s.length by omega)) h2;have g4:=z13s h2;intro t' b e;cases e;exact hr _ _ _ (by omega) (by omega) (by omega)
   . intro t' b e;cases e;exact g2
 . intro t' b e;cases e;exact g2
theorem zf9 {sub:Option (Nat->PR Tree)} {s:List UInt8} (hs:s.length<=256) (hA:z16g s sub) (hT:z1cq s sub) (a0:Nat):∀ (k a:Nat) (ps:List Tree),a<=s.length->a0<=a->(∀ x∈ps,WfN x)->z2k ps<=3*(a - a0)->TRes a0 0 (zih sub s k a ps)
 | 0,a,ps,h1,h2,h3,h4=>TRes.bad
 | k + 1,a,ps,h1,h2,h3,h4=>by
   unfold zih;split
   . intro t b e;cases e;have:=zpt 2 ps;exact⟨z12f (.inl rfl) h3 (by omega),by omega⟩
   . rename_i hc;have hlt:a<s.length:=by simp[zdd] at hc;exact hc.1
     refine TRes.next fun t a1 e1=>?_
     have g1:=z1l (zcl hA hlt) e1;have g2:=zka hA hT hlt t a1 e1;refine zf9 hs hA hT a0 k a1 _ g1.2 (by omega) (fun x hx=>?_) ?_
     . rcases List.mem_append.1 hx with hx|hx
       . exact h3 x hx
       . simp at hx;subst hx;exact g2.1
     . rw[z4p,z48];have:=g2.2;omega
theorem zty {sub:Option (Nat->PR Tree)} {s:List UInt8} (hs:s.length<=256) (hA:z16g s sub) (hT:z1cq s sub) (a0:Nat):∀ (k a:Nat) (ps:List Tree),a<=s.length->a0<=a->(∀ x∈ps,WfN x)->((∃ t,ps=[t]/\z1z t<=3*(a - a0)+1)\/z2k ps+1<=3*(a - a0))->TRes a0 0 (ze8 sub s k a ps)
 | 0,a,ps,h1,h2,h3,h4=>TRes.bad
 | k + 1,a,ps,h1,h2,h3,h4=>by
   have hn:z2k ps<=3*(a - a0)+1:=by
    rcases h4 with⟨t,rfl,h⟩|h
    . rw[z48];exact h
    . omega
   unfold ze8;split
   . rename_i hc;have hlt:a<s.length:=by simp[isB] at hc;exact hc.1
     refine TRes.next fun t a1 e1=>?_
     have g1:=z1l (z6h hA _ (a+1) [] (by omega)) e1;have g2:=zf9 hs hA hT (a+1) _ (a+1) [] (by omega) (Nat.le_refl _) (fun x hx=>by cases hx) (by simp[z2k]) t a1 e1;refine zty hs hA hT a0 k a1 _ g1.2 (by omega) (fun x hx=>?_) (.inr ?_)
     . rcases List.mem_append.1 hx with hx|hx
       . exact h3 x hx
       . simp at hx;subst hx;exact g2.1
     . rw[z4p,z48];have:=g2.2;omega
   . intro t b e;cases e;refine⟨z12f (.inr rfl) h3 (by omega),?_⟩;rcases h4 with⟨t,rfl,h⟩|h
     . have:=z15n 3 t;omega
     . have:=zpt 3 ps;omega
theorem zyb {s:List UInt8}(hs:s.length<=256):∀ (d a:Nat),a<=s.length->TRes a 0 (zfv s d a):=by
 have key:∀ (sub:Option (Nat->PR Tree)),z16g s sub->z1cq s sub->∀ a,a<=s.length->TRes a 0 ((zih sub s (s.length+1) a []).next fun t a1=>ze8 sub s (s.length+1) a1 [t]):=by
  intro sub hA hT a ha;refine TRes.next fun t a1 e1=>?_
  have g1:=z1l (z6h hA _ a [] ha) e1;have g2:=zf9 hs hA hT a _ a [] ha (Nat.le_refl _) (fun x hx=>by cases hx) (by simp[z2k]) t a1 e1;exact zty hs hA hT a _ a1 _ g1.2 g1.1 (fun x hx=>by simp at hx;subst hx;exact g2.1) (.inl ⟨t,rfl,g2.2⟩)
 intro d
 induction d with
 | zero=>intro a ha;unfold zfv;exact key none (fun f h=>by cases h) (fun f h=>by cases h) a ha
 | succ d ih=>intro a ha;unfold zfv;exact key _ (fun f h=>by cases h;exact zei s d) (fun f h=>by cases h;exact ih) a ha
end
end Go.Proofs.YthgcpalmjcomlaaDoorLg
set_option linter.all false
set_option maxRecDepth 100000
namespace Go.Proofs.YthgcpalmjcomlaaDoorLg
noncomputable section
open Go Go.Lift Go.Proofs.YthgcpalmjcomlaaDoorPx
def zdr (s:List UInt8):Nat->Option (Nat->PR Tree)
 | 0=>none
 | d+1=>some (zfv s d)
theorem za9 (s:List UInt8)(d:Nat):z16g s (zdr s d):=by
 cases d with
 | zero=>intro f h;cases h
 | succ d=>intro f h;cases h;exact zei s d
theorem zp1 {s:List UInt8}(hs:s.length<=256)(d:Nat):z1cq s (zdr s d):=by
 cases d with
 | zero=>intro f h;cases h
 | succ d=>intro f h;cases h;exact zyb hs d
theorem zwd (s:List UInt8)(d a:Nat):zfv s d a=(zih (zdr s d) s (s.length+1) a []).next fun t a1=>ze8 (zdr s d) s (s.length+1) a1 [t]:=by
 cases d<;>(rw[zfv];rfl)
def zyf (s:List UInt8)(d:Nat)(self:PSt->Option (NodT.den×(PSt×Unit))):Prop:=∀ d',d=d'+1->∀ a,a<=s.length->self (pst s a (16 - d'))=okP s (16 - d') unN (zfv s d' a)
def z1ca (s:List UInt8)(d:Nat)(self:PSt->Option (Int×(Int×Unit))):Prop:=∀ d',d=d'+1->∀ a,a<=s.length->self (pst s a (16 - d'))=zda (zfv s d' a)
def zpn (sub:Option (Nat->PR Tree)) (s:List UInt8) (a:Nat):PR Tree:=match sub with
    | none=>.bad 3 a
    | some f=>(f (a+1)).next fun t a1=>(zcp s a1 41).next fun _ a2=>.ok t a2
theorem z12n (N:Nat) {s:List UInt8} {a d:Nat} (hd:d<=16) (ha:a<s.length) (hb:gb s a=40) (hs:s.length<=256) (self:PSt->Option (NodT.den×(PSt×Unit))) (hself:zyf s d self) :
 z3v N self (pst s a (16 - d))=okP s (16 - d) unN (zpn (zdr s d) s a):=by
 unfold z3v z74;simp only[pst];rw[show (16:Int)=((16:Nat):Int) from rfl,eqI];cases d with
 | zero=>rfl
 | succ d =>
   rw[decide_eq_false (by omega)];simp only[cond_false];rw[zi5 (by omega),show 16 - (d+1)+1=16 - d by omega];have q:=zn9 N (16 - d) 40 (Nat.le_of_lt ha) hs;rw[zuw ha hb] at q;unfold pst at q;rw[show (40:Int)=((40:Nat):Int) from rfl,q.1];simp only[okP,Option.bind_some];rw[hself d rfl (a+1) (by omega)];show _=okP s (16 - (d+1)) unN ((zfv s d (a+1)).next fun t a1=>(zcp s a1 41).next fun _ a2=>.ok t a2);cases h:zfv s d (a+1) with
   | bad e c=>rfl
   | ok t c =>
     have hc:=z1l (zei s d (a+1) (by omega)) h;simp only[okP,Option.bind_some,PR.next];rw[show (41:Int)=((41:Nat):Int) from rfl,(zn9 N (16 - d) 41 hc.2 hs).1];cases zcp s c 41 with
     | bad e b=>rfl
     | ok u b =>
       simp only[okP,Option.bind_some,pst];have e:IntKind.wrap .i64 (((16 - d:Nat):Int) - 1)=((16 - (d+1):Nat):Int):=by
        rw[z5q (by unfold I64;omega)];omega
       rw[e]
theorem z1b7 (N:Nat){s:List UInt8}{a d:Nat}(hd:d<=16)(ha:a<s.length)(hb:gb s a=40)(hs:s.length<=256)(self:PSt->Option (Int×(Int×Unit)))(hself:z1ca s d self)(hok:zyf s d (ze N)) :
 z3h N self (pst s a (16 - d))=zda (zpn (zdr s d) s a):=by
 unfold z3h z4u;simp only[pst];rw[show (16:Int)=((16:Nat):Int) from rfl,eqI];cases d with
 | zero=>rfl
 | succ d =>
   rw[decide_eq_false (by omega)];simp only[cond_false];rw[zi5 (by omega),show 16 - (d+1)+1=16 - d by omega];have q:=zn9 N (16 - d) 40 (Nat.le_of_lt ha) hs;rw[zuw ha hb] at q;unfold pst at q;rw[show (40:Int)=((40:Nat):Int) from rfl,q.1,q.2];simp only[okP,zda,orP,Option.bind_some];rw[hself d rfl (a+1) (by omega),hok d rfl (a+1) (by omega)];show _=zda ((zfv s d (a+1)).next fun t a1=>(zcp s a1 41).next fun _ a2=>.ok t a2);cases h:zfv s d (a+1) with
   | bad e c=>rfl
   | ok t c =>
     have hc:=z1l (zei s d (a+1) (by omega)) h;simp only[okP,zda,orP,Option.bind_some,PR.next];have q:=zn9 N (16 - d) 41 hc.2 hs;rw[show (41:Int)=((41:Nat):Int) from rfl,q.1,q.2];cases zcp s c 41 with
     | bad e b=>rfl
     | ok u b=>rfl
theorem z16z {N:Nat}(hN:257<N):z1w N (0:Int) (255:Int)=some (ofS 256 0 z4):=by
 rw[show (0:Int)=((0:Nat):Int) from rfl,show (255:Int)=((255:Nat):Int) from rfl,z11r N (by omega) (by omega) hN];rfl
theorem z17i (N:Nat){s:List UInt8}{a d:Nat}(hd:d<=16)(ha:a<s.length)(hs:s.length<=256)(hN:300<=N)(self:PSt->Option (NodT.den×(PSt×Unit)))(hself:zyf s d self) :
 z45 N self (pst s a (16 - d))=okP s (16 - d) unN (za1 (zdr s d) s a):=by
 have hl:=zt5 s a;unfold z45 za1;simp only[pst];rw[zea ha,zed];simp only[cond_true,show (40:Int)=((40:Nat):Int) from rfl,show (46:Int)=((46:Nat):Int) from rfl,show (91:Int)=((91:Nat):Int) from rfl,show (92:Int)=((92:Nat):Int) from rfl,eqI];by_cases e1:gb s a=40
 . rw[decide_eq_true e1,if_pos e1];simp only[cond_true];have q:=z12n N hd ha e1 hs self hself;unfold pst at q;rw[q];show _=okP s (16 - d) unN (zpn (zdr s d) s a);cases zpn (zdr s d) s a<;>rfl
 rw[decide_eq_false e1,if_neg e1];simp only[cond_false];by_cases e2:gb s a=46
 . rw[decide_eq_true e2,if_pos e2];simp only[cond_true];rw[z16z (by omega),zi5 (by omega)];rfl
 rw[decide_eq_false e2,if_neg e2];simp only[cond_false];by_cases e3:gb s a=91
 . rw[decide_eq_true e3,if_pos e3];simp only[cond_true];have q:=(zq6 N (16 - d) ha e3 hs hN).1;unfold pst at q;rw[q];cases zbb s (a+1)<;>rfl
 rw[decide_eq_false e3,if_neg e3];simp only[cond_false];by_cases e4:gb s a=92
 . rw[decide_eq_true e4,if_pos e4];simp only[cond_true];have q:=(z1bb N (16 - d) ha e4 hs hN).1;unfold pst at q;rw[q];cases zr1 s a<;>rfl
 rw[decide_eq_false e4,if_neg e4];simp only[cond_false];unfold z88;rw[z16q hl];cases specials.contains (gb s a) with
 | true=>rfl
 | false =>
   simp only[cond_false,Bool.false_eq_true,if_false];rw[zgj hl (by omega),zi5 (by omega)];rfl
theorem z1mf (N:Nat){s:List UInt8}{a d:Nat}(hd:d<=16)(ha:a<s.length)(hs:s.length<=256)(hN:300<=N)(self:PSt->Option (Int×(Int×Unit)))(hself:z1ca s d self)(hok:zyf s d (ze N)) :
 z3p N self (pst s a (16 - d))=zda (za1 (zdr s d) s a):=by
 have hl:=zt5 s a;unfold z3p za1;simp only[pst];rw[zea ha,zed];simp only[cond_true,show (40:Int)=((40:Nat):Int) from rfl,show (46:Int)=((46:Nat):Int) from rfl,show (91:Int)=((91:Nat):Int) from rfl,show (92:Int)=((92:Nat):Int) from rfl,eqI];by_cases e1:gb s a=40
 . rw[decide_eq_true e1,if_pos e1];simp only[cond_true];have q:=z1b7 N hd ha e1 hs self hself hok;have q2:=z12n N hd ha e1 hs _ hok;unfold pst at q q2;rw[q,q2];show _=zda (zpn (zdr s d) s a);cases zpn (zdr s d) s a<;>rfl
 rw[decide_eq_false e1,if_neg e1];simp only[cond_false];by_cases e2:gb s a=46
 . rw[decide_eq_true e2,if_pos e2];simp only[cond_true];rw[z16z (by omega)];rfl
 rw[decide_eq_false e2,if_neg e2];simp only[cond_false];by_cases e3:gb s a=91
 . rw[decide_eq_true e3,if_pos e3];simp only[cond_true];have q:=zq6 N (16 - d) ha e3 hs hN;unfold pst at q;rw[q.1,q.2];cases zbb s (a+1)<;>rfl
 rw[decide_eq_false e3,if_neg e3];simp only[cond_false];by_cases e4:gb s a=92
 . rw[decide_eq_true e4,if_pos e4];simp only[cond_true];have q:=z1bb N (16 - d) ha e4 hs hN;unfold pst at q;rw[q.1,q.2];cases zr1 s a<;>rfl
 rw[decide_eq_false e4,if_neg e4];simp only[cond_false];unfold z58;rw[z16q hl];cases specials.contains (gb s a) with
 | true=>rfl
 | false =>
   simp only[cond_false,Bool.false_eq_true,if_false];rw[zgj hl (by omega)];rfl
theorem z1lw (t:Tree):List.map Go.Lift.foN ([unN t]:List NodT.den)=[t]:=by
 rw[List.map_cons,z12r,List.map_nil]
theorem z11d (N:Nat) {s:List UInt8} {a d:Nat} (hd:d<=16) (ha:a<s.length) (hs:s.length<=256) (hN:300<=N) (self:PSt->Option (NodT.den×(PSt×Unit))) (hself:zyf s d self) :
 z2b N self (pst s a (16 - d))=okP s (16 - d) unN (zb9 (zdr s d) s a):=by
 unfold z2b zb9;rw[z17i N hd ha hs hN self hself];cases h:za1 (zdr s d) s a with
 | bad e c=>rfl
 | ok t c =>
   have hc:=z1l (zeh (za9 s d) ha) h;simp only[okP,Option.bind_some,PR.next,pst,eqI];by_cases hlt:c<s.length
   . rw[decide_eq_false (by omega),if_pos hlt,zea hlt,zed];simp only[cond_false,cond_true];unfold z72;simp only[show (43:Int)=((43:Nat):Int) from rfl,show (42:Int)=((42:Nat):Int) from rfl,show (63:Int)=((63:Nat):Int) from rfl,show (123:Int)=((123:Nat):Int) from rfl,eqI];rw[zi5 (by omega),z1lw];by_cases e1:gb s c=43
     . rw[decide_eq_true e1,if_pos e1];rfl
     rw[decide_eq_false e1,if_neg e1];by_cases e2:gb s c=42
     . rw[decide_eq_true e2,if_pos e2];rfl
     rw[decide_eq_false e2,if_neg e2];by_cases e3:gb s c=63
     . rw[decide_eq_true e3,if_pos e3];rfl
     rw[decide_eq_false e3,if_neg e3];by_cases e4:gb s c=123
     . rw[decide_eq_true e4,if_pos e4];simp only[cond_true,cond_false];have q:=(zy7 N (16 - d) (show c+1<=s.length by omega) hs hN).1;unfold pst at q;rw[q];cases z9n s (c+1)<;>rfl
     . rw[decide_eq_false e4,if_neg e4];rfl
   . rw[decide_eq_true (by omega),if_neg hlt];rfl
theorem z192 (N:Nat) {s:List UInt8} {a d:Nat} (hd:d<=16) (ha:a<s.length) (hs:s.length<=256) (hN:300<=N) (self:PSt->Option (Int×(Int×Unit))) (hself:z1ca s d self) (hok:zyf s d (ze N)) :
 z2d N self (pst s a (16 - d))=zda (zb9 (zdr s d) s a):=by
 unfold z2d zb9;rw[z1mf N hd ha hs hN self hself hok,z17i N hd ha hs hN _ hok];cases h:za1 (zdr s d) s a with
 | bad e c=>rfl
 | ok t c =>
   have hc:=z1l (zeh (za9 s d) ha) h;simp only[okP,zda,orP,Option.bind_some,PR.next,pst,eqI];by_cases hlt:c<s.length
   . rw[decide_eq_false (by omega),if_pos hlt,zea hlt,zed];simp only[cond_false,cond_true];unfold z4s;simp only[show (43:Int)=((43:Nat):Int) from rfl,show (42:Int)=((42:Nat):Int) from rfl,show (63:Int)=((63:Nat):Int) from rfl,show (123:Int)=((123:Nat):Int) from rfl,eqI];rw[zi5 (by omega)];by_cases e1:gb s c=43
     . rw[decide_eq_true e1,if_pos e1];rfl
     rw[decide_eq_false e1,if_neg e1];by_cases e2:gb s c=42
     . rw[decide_eq_true e2,if_pos e2];rfl
     rw[decide_eq_false e2,if_neg e2];by_cases e3:gb s c=63
     . rw[decide_eq_true e3,if_pos e3];rfl
     rw[decide_eq_false e3,if_neg e3];by_cases e4:gb s c=123
     . rw[decide_eq_true e4,if_pos e4];simp only[cond_true,cond_false];have q:=zy7 N (16 - d) (show c+1<=s.length by omega) hs hN;unfold pst at q;rw[q.1,q.2];cases z9n s (c+1)<;>rfl
     . rw[decide_eq_false e4,if_neg e4];rfl
   . rw[decide_eq_true (by omega),if_neg hlt];rfl
theorem room {n:Nat}(h:n<=10000):decide (((n+1)*80)<=70368744177664)=true:=decide_eq_true (by omega)
theorem z164 (N:Nat) (self:PSt->Option (NodT.den×(PSt×Unit))) (x2:NodT.den) (s:List UInt8) (a o:Nat) (L:List NodT.den) (rec:PSt->List NodT.den->Option (NodT.den×(PSt×Unit))) (k0:PSt->List NodT.den->Option (NodT.den×(PSt×Unit))) :
 z4b N self x2 (pst s a o) L rec k0=cond (zdd s a) (k0 (pst s a o) L) ((z2b N self (pst s a o)).bind fun y=>cond (decide (((L.length+1)*80)<=70368744177664)) (rec y.2.1 (L++[y.1])) none):=by
 unfold z4b z8x;unfold zdd;simp only[pst];rcases Nat.lt_or_ge a s.length with h|h
 . rw[decide_eq_true (show (a:Int)<(s.length:Int) by omega),decide_eq_true h,zea h,zed];simp only[cond_true,Bool.not_true,Bool.false_or,bne,show (124:Int)=((124:Nat):Int) from rfl,show (41:Int)=((41:Nat):Int) from rfl,eqI];by_cases e1:gb s a=124
   . have e2:(gb s a == 124)=true:=by simpa using e1
     rw[decide_eq_true e1,e2];rfl
   . have e2:(gb s a == 124)=false:=by simpa using e1
     rw[decide_eq_false e1,e2];by_cases e3:gb s a=41
     . have e4:(gb s a == 41)=true:=by simpa using e3
       rw[decide_eq_true e3,e4];rfl
     . have e4:(gb s a == 41)=false:=by simpa using e3
       rw[decide_eq_false e3,e4];rfl
 . rw[decide_eq_false (show ¬ (a:Int)<(s.length:Int) by omega),decide_eq_false (show ¬ a<s.length by omega)];rfl
theorem z13j (N:Nat) (self:PSt->Option (Int×(Int×Unit))) (x2:NodT.den) (s:List UInt8) (a o:Nat) (L:List NodT.den) (rec:PSt->List NodT.den->Option (Int×(Int×Unit))) (k0:(Int×(Int×Unit))->Option (Int×(Int×Unit))) (k1:PSt->List NodT.den->Option (Int×(Int×Unit))) :
 z34 N self x2 (pst s a o) L rec k0 k1=cond (zdd s a) (k1 (pst s a o) L) (orP (z2d N self (pst s a o)) (fun z=>k0 z) ((z2b N (ze N) (pst s a o)).bind fun y=>cond (decide (((L.length+1)*80)<=70368744177664)) (rec y.2.1 (L++[y.1])) none)):=by
 unfold z34 z5z;unfold zdd;simp only[pst];rcases Nat.lt_or_ge a s.length with h|h
 . rw[decide_eq_true (show (a:Int)<(s.length:Int) by omega),decide_eq_true h,zea h,zed];simp only[cond_true,Bool.not_true,Bool.false_or,bne,show (124:Int)=((124:Nat):Int) from rfl,show (41:Int)=((41:Nat):Int) from rfl,eqI];by_cases e1:gb s a=124
   . have e2:(gb s a == 124)=true:=by simpa using e1
     rw[decide_eq_true e1,e2];rfl
   . have e2:(gb s a == 124)=false:=by simpa using e1
     rw[decide_eq_false e1,e2];by_cases e3:gb s a=41
     . have e4:(gb s a == 41)=true:=by simpa using e3
       rw[decide_eq_true e3,e4];rfl
     . have e4:(gb s a == 41)=false:=by simpa using e3
       rw[decide_eq_false e3,e4];rfl
 . rw[decide_eq_false (show ¬ (a:Int)<(s.length:Int) by omega),decide_eq_false (show ¬ a<s.length by omega)];rfl
theorem zy6 (N:Nat) {s:List UInt8} {d:Nat} (hd:d<=16) (hs:s.length<=256) (hN:300<=N) (self:PSt->Option (NodT.den×(PSt×Unit))) (hself:zyf s d self) (x2:NodT.den) (k0:PSt->List NodT.den->Option (NodT.den×(PSt×Unit)))
 (hk:∀ a ps,z2k ps<=3*a->a<=s.length->k0 (pst s a (16 - d)) (ps.map unN)=some (unN (zcr 2 ps),(pst s a (16 - d),()))):∀ (k N' a:Nat) (ps:List Tree),k<=N'->a<=s.length->s.length<a+k->z2k ps<=3*a →
 iter (fun (v:(PSt×(List NodT.den))) r=>z4b N self x2 v.1 v.2 (fun p parts=>(r (p,parts))) k0) N' (pst s a (16 - d),ps.map unN)=okP s (16 - d) unN (zih (zdr s d) s k a ps)
 | 0,N',a,ps,h1,h2,h3,h4=>by omega
 | k + 1,N',a,ps,h1,h2,h3,h4=>by
   obtain⟨M,rfl⟩:∃ M,N'=M+1:=⟨N' - 1,by omega⟩
   rw[iter,zih];dsimp only;rw[z164];cases hst:zdd s a with
   | true =>
     simp only[cond_true,if_true];rw[hk a ps h4 h2];rfl
   | false =>
     have hlt:a<s.length:=by
      unfold zdd at hst;simp at hst;exact hst.1
     simp only[cond_false,Bool.false_eq_true,if_false];rw[z11d N hd hlt hs hN self hself];cases hp:zb9 (zdr s d) s a with
     | bad e c=>rfl
     | ok t c =>
       have hc:=z1l (zcl (za9 s d) hlt) hp;have ht:=(zka (za9 s d) (zp1 hs d) hlt t c hp).2;have hl:=z6j ps;simp only[okP,Option.bind_some,PR.next];rw[room (by rw[List.length_map];omega)];simp only[cond_true];have:=zy6 N hd hs hN self hself x2 k0 hk k M c (ps++[t]) (by omega) hc.2 (by omega) (by rw[z4p,z48];omega);rw[List.map_append] at this;exact this
theorem ztp (N:Nat) {s:List UInt8} {d:Nat} (hd:d<=16) (hs:s.length<=256) (hN:300<=N) (self:PSt->Option (Int×(Int×Unit))) (hself:z1ca s d self) (hok:zyf s d (ze N)) (x2:NodT.den) (k0:(Int×(Int×Unit))->Option (Int×(Int×Unit))) (k1:PSt->List NodT.den->Option (Int×(Int×Unit))) (hk0:∀ z,k0 z=some z)
 (hk:∀ a ps,z2k ps<=3*a->a<=s.length->k1 (pst s a (16 - d)) (ps.map unN)=none):∀ (k N' a:Nat) (ps:List Tree),k<=N'->a<=s.length->s.length<a+k->z2k ps<=3*a →
 iter (fun (v:(PSt×(List NodT.den))) r=>z34 N self x2 v.1 v.2 (fun p parts=>(r (p,parts))) k0 k1) N' (pst s a (16 - d),ps.map unN)=zda (zih (zdr s d) s k a ps)
 | 0,N',a,ps,h1,h2,h3,h4=>by omega
 | k + 1,N',a,ps,h1,h2,h3,h4=>by
   obtain⟨M,rfl⟩:∃ M,N'=M+1:=⟨N' - 1,by omega⟩
   rw[iter,zih];dsimp only;rw[z13j];cases hst:zdd s a with
   | true =>
     simp only[cond_true,if_true];rw[hk a ps h4 h2];rfl
   | false =>
     have hlt:a<s.length:=by
      unfold zdd at hst;simp at hst;exact hst.1
     simp only[cond_false,Bool.false_eq_true,if_false];rw[z192 N hd hlt hs hN self hself hok,z11d N hd hlt hs hN _ hok];cases hp:zb9 (zdr s d) s a with
     | bad e c=>exact hk0 _
     | ok t c =>
       have hc:=z1l (zcl (za9 s d) hlt) hp;have ht:=(zka (za9 s d) (zp1 hs d) hlt t c hp).2;have hl:=z6j ps;simp only[okP,zda,orP,Option.bind_some,PR.next];rw[room (by rw[List.length_map];omega)];simp only[cond_true];have:=ztp N hd hs hN self hself hok x2 k0 k1 hk0 hk k M c (ps++[t]) (by omega) hc.2 (by omega) (by rw[z4p,z48];omega);rw[List.map_append] at this;exact this
theorem zr5 {N:Nat}(hN:2000<=N)(k:Int){ps:List Tree}(h:z2k ps<=1000):z7g N k (List.map Go.Lift.foN (ps.map unN))=some (unN (zcr k ps)):=by
 have h1:=z6j ps;have h2:=Nat.le_trans (z6j (zal k ps)) (zhg k ps);rw[zso];exact z1b4 N k ps (by unfold maxLen;omega) (by omega) (by omega)
theorem z165 (N:Nat){s:List UInt8}{a d:Nat}(hd:d<=16)(ha:a<=s.length)(hs:s.length<=256)(hN:2000<=N)(self:PSt->Option (NodT.den×(PSt×Unit)))(hself:zyf s d self) :
 z3d N self (pst s a (16 - d))=okP s (16 - d) unN (zih (zdr s d) s (s.length+1) a []):=by
 unfold z3d z8y zcd;exact zy6 N hd hs (by omega) self hself _ _ (fun b ps h1 h2=>by (try dsimp only);rw[zr5 hN 2 (by omega)];rfl) (s.length+1) N a [] (by omega) ha (by omega) (Nat.zero_le _)
theorem z1m6 (N:Nat){s:List UInt8}{a d:Nat}(hd:d<=16)(ha:a<=s.length)(hs:s.length<=256)(hN:2000<=N)(self:PSt->Option (Int×(Int×Unit)))(hself:z1ca s d self)(hok:zyf s d (ze N)) :
 z39 N self (pst s a (16 - d))=zda (zih (zdr s d) s (s.length+1) a []):=by
 unfold z39 z60 z9k;exact ztp N hd hs (by omega) self hself hok _ _ _ (fun z=>rfl) (fun b ps h1 h2=>by (try dsimp only);rw[zr5 hN 2 (by omega)];rfl) (s.length+1) N a [] (by omega) ha (by omega) (Nat.zero_le _)
theorem zu0 (N:Nat) {s:List UInt8} {d:Nat} (hd:d<=16) (hs:s.length<=256) (hN:2000<=N) (self:PSt->Option (NodT.den×(PSt×Unit))) (hself:zyf s d self) (x2:NodT.den) (k0:PSt->List NodT.den->Option (NodT.den×(PSt×Unit)))
 (hk:∀ a ps,z2k ps<=3*a+1->a<=s.length->k0 (pst s a (16 - d)) (ps.map unN)=some (unN (zcr 3 ps),(pst s a (16 - d),()))):∀ (k N' a:Nat) (ps:List Tree),k<=N'->a<=s.length->s.length<a+k->z2k ps<=3*a+1 →
 iter (fun (v:(PSt×(List NodT.den))) r=>z62 N self x2 v.1 v.2 (fun p parts=>(r (p,parts))) k0) N' (pst s a (16 - d),ps.map unN)=okP s (16 - d) unN (ze8 (zdr s d) s k a ps)
 | 0,N',a,ps,h1,h2,h3,h4=>by omega
 | k + 1,N',a,ps,h1,h2,h3,h4=>by
   obtain⟨M,rfl⟩:∃ M,N'=M+1:=⟨N' - 1,by omega⟩
   rw[iter,ze8];dsimp only
   conv=>lhs;unfold z62
   rw[show (124:Int)=((124:Nat):Int) from rfl,zl3 N (16 - d) 124 h2 hs];cases hb:isB s a 124 with
   | false =>
     simp only[Option.bind_some,cond_false,Bool.false_eq_true,if_false];rw[hk a ps h4 h2];rfl
   | true =>
     have hlt:a+1<=s.length:=by simp[isB] at hb;omega
     simp only[Option.bind_some,cond_true,if_true];rw[z165 N hd hlt hs hN self hself];cases hp:zih (zdr s d) s (s.length+1) (a+1) [] with
     | bad e c=>rfl
     | ok t c =>
       have hc:=z1l (z6h (za9 s d) _ (a+1) [] hlt) hp;have ht:=(zf9 hs (za9 s d) (zp1 hs d) (a+1) _ (a+1) [] hlt (Nat.le_refl _) (fun x hx=>by cases hx) (by simp[z2k]) t c hp).2;have hl:=z6j ps;simp only[okP,Option.bind_some,PR.next];rw[room (by rw[List.length_map];omega)];simp only[cond_true];have:=zu0 N hd hs hN self hself x2 k0 hk k M c (ps++[t]) (by omega) hc.2 (by omega) (by rw[z4p,z48];omega);rw[List.map_append] at this;exact this
theorem zqb (N:Nat) {s:List UInt8} {d:Nat} (hd:d<=16) (hs:s.length<=256) (hN:2000<=N) (self:PSt->Option (Int×(Int×Unit))) (hself:z1ca s d self) (hok:zyf s d (ze N)) (x2:NodT.den) (k0:(Int×(Int×Unit))->Option (Int×(Int×Unit))) (k1:PSt->List NodT.den->Option (Int×(Int×Unit))) (hk0:∀ z,k0 z=some z)
 (hk:∀ a ps,z2k ps<=3*a+1->a<=s.length->k1 (pst s a (16 - d)) (ps.map unN)=none):∀ (k N' a:Nat) (ps:List Tree),k<=N'->a<=s.length->s.length<a+k->z2k ps<=3*a+1 →
 iter (fun (v:(PSt×(List NodT.den))) r=>z43 N self x2 v.1 v.2 (fun p parts=>(r (p,parts))) k0 k1) N' (pst s a (16 - d),ps.map unN)=zda (ze8 (zdr s d) s k a ps)
 | 0,N',a,ps,h1,h2,h3,h4=>by omega
 | k + 1,N',a,ps,h1,h2,h3,h4=>by
   obtain⟨M,rfl⟩:∃ M,N'=M+1:=⟨N' - 1,by omega⟩
   rw[iter,ze8];dsimp only
   conv=>lhs;unfold z43
   rw[show (124:Int)=((124:Nat):Int) from rfl,zl3 N (16 - d) 124 h2 hs];cases hb:isB s a 124 with
   | false =>
     simp only[Option.bind_some,cond_false,Bool.false_eq_true,if_false];rw[hk a ps h4 h2];rfl
   | true =>
     have hlt:a+1<=s.length:=by simp[isB] at hb;omega
     simp only[Option.bind_some,cond_true,if_true];rw[z1m6 N hd hlt hs hN self hself hok,z165 N hd hlt hs hN _ hok];cases hp:zih (zdr s d) s (s.length+1) (a+1) [] with
     | bad e c=>exact hk0 _
     | ok t c =>
       have hc:=z1l (z6h (za9 s d) _ (a+1) [] hlt) hp;have ht:=(zf9 hs (za9 s d) (zp1 hs d) (a+1) _ (a+1) [] hlt (Nat.le_refl _) (fun x hx=>by cases hx) (by simp[z2k]) t c hp).2;have hl:=z6j ps;simp only[okP,zda,orP,Option.bind_some,PR.next];rw[room (by rw[List.length_map];omega)];simp only[cond_true];have:=zqb N hd hs hN self hself hok x2 k0 k1 hk0 hk k M c (ps++[t]) (by omega) hc.2 (by omega) (by rw[z4p,z48];omega);rw[List.map_append] at this;exact this
theorem zyc (N:Nat){s:List UInt8}{a d:Nat}(hd:d<=16)(ha:a<=s.length)(hs:s.length<=256)(hN:2000<=N)(self:PSt->Option (NodT.den×(PSt×Unit)))(hself:zyf s d self) :
 z6s N self (pst s a (16 - d))=okP s (16 - d) unN (zfv s d a):=by
 unfold z6s;rw[z165 N hd ha hs hN self hself,zwd];cases hp:zih (zdr s d) s (s.length+1) a [] with
 | bad e c=>rfl
 | ok t c =>
   have hc:=z1l (z6h (za9 s d) _ a [] ha) hp;have ht:=(zf9 hs (za9 s d) (zp1 hs d) a _ a [] ha (Nat.le_refl _) (fun x hx=>by cases hx) (by simp[z2k]) t c hp).2;simp only[okP,Option.bind_some,PR.next];unfold zcf;exact zu0 N hd hs hN self hself _ _ (fun b ps h1 h2=>by (try dsimp only);rw[zr5 hN 3 (by omega)];rfl) (s.length+1) N c [t] (by omega) hc.2 (by omega) (by rw[z48];omega)
theorem z1c6 {s:List UInt8}(hs:s.length<=256):∀ (d N:Nat),d<=16->2000+d<=N->∀ a,a<=s.length->ze N (pst s a (16 - d))=okP s (16 - d) unN (zfv s d a)
 | 0,N,hd,hN,a,ha=>by
   obtain⟨M,rfl⟩:∃ M,N=M+1:=⟨N - 1,by omega⟩
   exact zyc (M+1) hd ha hs (by omega) _ (fun d' h=>by omega)
 | d + 1,N,hd,hN,a,ha=>by
   obtain⟨M,rfl⟩:∃ M,N=M+1:=⟨N - 1,by omega⟩
   exact zyc (M+1) hd ha hs (by omega) _ (fun d' h b hb=>by
    obtain rfl:d=d':=by omega
    exact z1c6 hs d M (by omega) (by omega) b hb)
theorem z1mh {s:List UInt8}(hs:s.length<=256){d N:Nat}(hd:d<=16)(hN:2000+d<=N):zyf s d (ze N):=fun d' h a ha=>z1c6 hs d' N (by omega) (by omega) a ha
theorem alt_f {s:List UInt8}(hs:s.length<=256):∀ (d N:Nat),d<=16->2000+d<=N->∀ a,a<=s.length->zo N (pst s a (16 - d))=zda (zfv s d a):=by
 have step:∀ (d M:Nat),d<=16->2000+d<=M+1->z1ca s d (zo M)->∀ a,a<=s.length->zo (M+1) (pst s a (16 - d))=zda (zfv s d a):=by
  intro d M hd hN hself a ha;have hok:=z1mh hs hd hN;show z4j (M+1) (zo M) (pst s a (16 - d))=_;unfold z4j;rw[z1m6 (M+1) hd ha hs (by omega) _ hself hok,z165 (M+1) hd ha hs (by omega) _ hok,zwd];cases hp:zih (zdr s d) s (s.length+1) a [] with
  | bad e c=>rfl
  | ok t c =>
    have hc:=z1l (z6h (za9 s d) _ a [] ha) hp;have ht:=(zf9 hs (za9 s d) (zp1 hs d) a _ a [] ha (Nat.le_refl _) (fun x hx=>by cases hx) (by simp[z2k]) t c hp).2;simp only[okP,zda,orP,Option.bind_some,PR.next];unfold z9l;exact zqb (M+1) hd hs (by omega) _ hself hok _ _ _ (fun z=>rfl) (fun b ps h1 h2=>by (try dsimp only);rw[zr5 (by omega) 3 (by omega)];rfl) (s.length+1) (M+1) c [t] (by omega) hc.2 (by omega) (by rw[z48];omega)
 intro d
 induction d with
 | zero =>
   intro N hd hN a ha;obtain⟨M,rfl⟩:∃ M,N=M+1:=⟨N - 1,by omega⟩
   exact step 0 M hd hN (fun d' h=>by omega) a ha
 | succ d ih =>
   intro N hd hN a ha;obtain⟨M,rfl⟩:∃ M,N=M+1:=⟨N - 1,by omega⟩
   exact step (d+1) M hd hN (fun d' h b hb=>by
    obtain rfl:d=d':=by omega
    exact ih M (by omega) (by omega) b hb) a ha
def psF (r:PR Tree):z4q [NodT,z16j]:=match r with
 | .bad e a=>(z198,((e,(a:Int),()),()))
 | .ok t _=>(unN t,((0,0,()),()))
theorem z11l {N:Nat}(hN:2020<=N)(s:List UInt8):z65 N s=some (psF (zba s)):=by
 unfold z65 zba;by_cases h:256<s.length
 . rw[decide_eq_true (show (256:Int)<(s.length:Int) by omega),if_pos h];rfl
 . rw[decide_eq_false (show ¬ (256:Int)<(s.length:Int) by omega),if_neg h];have hs:s.length<=256:=by omega
   have h1:=z1c6 hs 16 N (Nat.le_refl _) (by omega) 0 (Nat.zero_le _);have h2:=alt_f hs 16 N (Nat.le_refl _) (by omega) 0 (Nat.zero_le _);unfold pst at h1 h2;simp only[cond_false];have e1:zo N (s,(0,(0,())))=zda (zfv s 16 0):=h2;have e2:ze N (s,(0,(0,())))=okP s 0 unN (zfv s 16 0):=h1;rw[e1,e2];cases hm:zfv s 16 0 with
   | bad e a=>rfl
   | ok t a =>
     simp only[okP,zda,orP,Option.bind_some,PR.next,pst];by_cases ha:a<s.length
     . rw[decide_eq_true (show (a:Int)<(s.length:Int) by omega),if_pos ha];rfl
     . rw[decide_eq_false (show ¬ (a:Int)<(s.length:Int) by omega),if_neg ha];rfl
end
end Go.Proofs.YthgcpalmjcomlaaDoorLg
set_option linter.all false
set_option maxRecDepth 100000
namespace Go.Proofs.YthgcpalmjcomlaaDoorLg
noncomputable section
open Go Go.Lift Go.Proofs.YthgcpalmjcomlaaDoorPx
theorem zs4 {s:List Int} (hs:SetOk s) (h1:zi0 s=1):∃ b:Nat,b<256/\zak s 256 0=(b:Int)/\s=z9e b:=by
 have hl:=zj0 s 256 0;simp only[Nat.zero_add] at hl;have hz:(zln s 256 0).length=1:=hl.trans h1;obtain⟨c,hcl⟩:=List.length_eq_one_iff.1 hz;have hm:=(zh5 s 256 0 c).1 (by rw[hcl];exact List.mem_singleton.2 rfl);have hall:∀ i,i<256->hasS s i=decide (i=c):=fun i hi=>by
  by_cases e:i=c
  . rw[e,decide_eq_true rfl];exact hm.2.2
  . rw[decide_eq_false e];cases hh:hasS s i with
    | false=>rfl
    | true =>
      have:=(zh5 s 256 0 i).2 ⟨by omega,by omega,hh⟩;rw[hcl] at this;exact absurd (List.mem_singleton.1 this) e
 refine⟨c,by omega,zm4 hm.2.2 256 0 (by omega) (by omega) (fun i h3 h4=>by rw[hall i (by omega),decide_eq_false (by omega)]),?_⟩;obtain⟨d1,d2⟩:=zkf (lo:=c) (hi:=c) (Nat.le_refl _) (by omega);rw[show c+1 - c=1 by omega] at d1 d2;exact zen hs d1 (fun i hi=>by rw[hall i hi];show _=hasS (ofS 1 c z4) i;rw[d2 i hi];exact decide_eq_decide.2 (by omega))
theorem z1ba {s:List Int}(hs:SetOk s)(h:zi0 s=256):s=ofS 256 0 z4:=by
 obtain⟨d1,d2⟩:=zkf (lo:=0) (hi:=255) (by omega) (by omega);exact zen hs d1 (fun i hi=>by rw[zrh 256 h i hi];have:=d2 i hi;rw[this,decide_eq_true (by omega)])
theorem zzo:ofS 10 48 z4=[287948901175001088,0,0,0]:=by kernel_rfl
theorem z10c:z1ck zbv z4=[287948901175001088,576460745995190270,0,0]:=by kernel_rfl
theorem z13h {S:List UInt8}{a:Nat}(h94:isB S a 94=false)(h93:isB S a 93=false):zbb S a=z7a S (S.length+2) a z4:=by
 unfold zbb;rw[h94,if_neg (by decide)];show _=(if isB S a 93=true then _ else _)
 rw[h93,if_neg (by decide)];cases hi:ze7 S a with
 | bad e b=>rfl
 | ok t a1 =>
   rw[z1f,z1f];have ht:SetOk t:=zdk hi;have ho:orS z4 t=t:=zen (z11n z59 ht) ht (fun b hb=>by rw[show z4=[0,0,0,0] from rfl,z178 z59 ht hb,zbp,Bool.false_or]);rw[ho];cases z7a S (S.length+1) a1 t<;>rfl
theorem z14c:([91,94,92,120,48,48,45,92,120,102,102,93]:List UInt8)=91::94::((za4 brkB 0++[45]++za4 brkB 255)++[93]):=by decide +kernel
theorem zbz {S:List UInt8}{a:Nat}{s:List Int}(sub:Option (Nat->PR Tree))(hs:SetOk s)(h:At S a (zyp s)):za1 sub S a=.ok (z148 s) (a+(zyp s).length):=by
 unfold zyp at h ⊢;by_cases h1:zi0 s=1
 . rw[if_pos h1] at h ⊢;obtain⟨b,hb,hl,e⟩:=zs4 hs h1;rw[hl,Int.toNat_natCast] at h ⊢;rw[z13y sub hb h,<- e]
 rw[if_neg h1] at h ⊢;by_cases h2:zi0 s=256
 . rw[if_pos h2] at h ⊢;unfold za1;rw[h.2.1,if_neg (by decide),if_pos (by decide),<- z1ba hs h2];rfl
 rw[if_neg h2] at h ⊢;by_cases h3:s=[287948901175001088,0,0,0]
 . rw[if_pos h3] at h ⊢;unfold za1 zr1;rw[h.2.1,if_neg (by decide),if_neg (by decide),if_neg (by decide),if_pos (by decide),nxt h.2.2];simp only[z1f];rw[if_pos (show (100:UInt8).toNat=100 by decide),z1f,zzo,h3];rfl
 rw[if_neg h3] at h ⊢;by_cases h4:s=[287948901175001088,576460745995190270,0,0]
 . rw[if_pos h4] at h ⊢;unfold za1 zr1;rw[h.2.1,if_neg (by decide),if_neg (by decide),if_neg (by decide),if_pos (by decide),nxt h.2.2];simp only[z1f];rw[if_neg (show ¬ (119:UInt8).toNat=100 by decide),if_pos (show (119:UInt8).toNat=119 by decide),z1f,z10c,h4];rfl
 rw[if_neg h4] at h ⊢;by_cases h5:zi0 s=0
 . rw[if_pos h5] at h ⊢;have hz:=zy5 hs h5;have hlen:([91,94,92,120,48,48,45,92,120,102,102,93]:List UInt8).length=12:=rfl;have hl9:(za4 brkB 0++[(45:UInt8)]++za4 brkB 255).length=9:=by decide +kernel
   rw[hlen];rw[z14c] at h;obtain⟨g1,g2⟩:=h.2.2.2.2.app;unfold za1 zbb;rw[h.2.1,if_neg (by decide),if_neg (by decide),if_pos (by decide),isb h.2.2,show decide ((94:UInt8).toNat=94)=true by decide,if_pos rfl,zpv (by omega) (by omega) g1,z1f];rw[z7a,isb g2,if_pos (show decide ((93:UInt8).toNat=93)=true by decide),z1f,if_pos rfl,z1f];have hno:zu4 (ofS (255+1 - 0) 0 z4)=s:=by
    obtain⟨d1,d2⟩:=zkf (lo:=0) (hi:=255) (by omega) (by omega);refine zen (zxj d1) hs (fun i hi=>?_);rw[zv8 d1 hi,d2 i hi,hz,zbp,decide_eq_true (by omega)];rfl
   rw[hno,hl9]
 rw[if_neg h5] at h ⊢;rw[List.append_assoc] at h;have h6:At S (a+1) (RT (hasS s) 0++[93]):=h.2.2;have hne:RT (hasS s) 0≠[]:=by
  rcases zf3 s 256 0 with⟨c,g1,g2,g3,g4,g5⟩|⟨g1,g2⟩
  . have:=(zyg (f:=hasS s) (c:=c) (by omega) g4 (fun i hi=>g5 i (by omega) hi)).2;obtain⟨U,hU⟩:=zia (lo:=c) (hi:=zd3 (hasS s) (256 - c) c - 1) (by omega);obtain⟨c1,C1,hc1,_⟩:=zjn (b:=c) (by omega);rw[this,hU,hc1];simp
  . exfalso;apply h5;have:s=[0,0,0,0]:=zen hs z59 (fun b hb=>by rw[g2 b (by omega) (by omega),zbp]);rw[this];exact z13e (s:=s)
 rcases zwg (hasS s) 256 0 rfl with e|⟨b,U,hb,e⟩
 . exact absurd e hne
 obtain⟨c1,C1,hc1,_,q93,q94⟩:=zjn hb;have h7:=h6;rw[e,hc1] at h7;have i94:isB S (a+1) 94=false:=by rw[isb h7];exact decide_eq_false (fun e=>q94 (UInt8.toNat_inj.1 e))
 have i93:isB S (a+1) 93=false:=by rw[isb h7];exact decide_eq_false (fun e=>q93 (UInt8.toNat_inj.1 e))
 unfold za1;rw[h.2.1,if_neg (by decide),if_neg (by decide),if_pos (by decide),z13h i94 i93];have hlow:z15j s 0 z4:=⟨z59,fun i hi=>by rw[show z4=[0,0,0,0] from rfl,zbp,decide_eq_false (by omega),Bool.and_false]⟩
 have hit:=zjl hs 257 0 (S.length+2) (a+1) z4 (by omega) (by omega) hlow h6;rw[hit,z1f];congr 1;simp only[List.length_append,List.length_cons,List.length_nil];omega
theorem zti {n:Nat}(h:n<10):zir (UInt8.ofNat (48+n)).toNat=true/\(UInt8.ofNat (48+n)).toNat=48+n:=by
 have:=of8 (b:=48+n) (by omega);rw[this];refine⟨?_,rfl⟩;unfold zir;rw[decide_eq_true (by omega),decide_eq_true (by omega)];rfl
theorem zqm {S:List UInt8}{k a v:Nat}{c:UInt8}{T:List UInt8}(h:At S a (c::T))(hd:zir c.toNat=true):z7h S (k+1) a v=z7h S k (a+1) (min (10*v+(c.toNat - 48)) 17):=by
 rw[z7h,if_pos ⟨h.1,by rw[h.2.1];exact hd⟩,h.2.1]
theorem zx0 {S:List UInt8}{k a v:Nat}{c:UInt8}{T:List UInt8}(h:At S a (c::T))(hd:zir c.toNat=false):z7h S (k+1) a v=(v,a):=by
 rw[z7h,if_neg (fun e=>by rw[h.2.1,hd] at e;exact absurd e.2 (by decide))]
theorem zxh {S:List UInt8}{a n:Nat}{c:UInt8}{T:List UInt8}(hn:n<=16)(h:At S a (zuu n++c::T))(hc:zir c.toNat=false):zru S a=.ok n (a+(zuu n).length):=by
 have hle:=h.le;rw[List.length_append,List.length_cons] at hle;unfold zuu at h hle ⊢;by_cases h1:n<10
 . rw[if_pos h1] at h hle ⊢;obtain⟨d1,d2⟩:=zti h1;obtain⟨k,hk⟩:∃ k,S.length=k+1:=⟨S.length - 1,by simp only[List.length_cons,List.length_nil] at hle;omega⟩
   have hs:z7h S (S.length+1) a 0=(n,a+1):=by
    rw[hk,zqm h d1,d2,zx0 h.2.2 hc,show min (10*0+(48+n - 48)) 17=n by omega]
   unfold zru;rw[nxt h];simp only[z1f];rw[d1,if_pos rfl,hs,if_neg (by simp),if_neg (by simp only;omega)];rfl
 . rw[if_neg h1] at h hle ⊢;obtain⟨d1,d2⟩:=zti (n:=n / 10) (by omega);obtain⟨d3,d4⟩:=zti (n:=n % 10) (by omega);obtain⟨k,hk⟩:∃ k,S.length=k+2:=⟨S.length - 2,by simp only[List.length_cons,List.length_nil] at hle;omega⟩
   have hs:z7h S (S.length+1) a 0=(n,a+2):=by
    rw[hk,zqm h d1,d2,zqm h.2.2 d3,d4,zx0 h.2.2.2.2 hc,show min (10*min (10*0+(48+n / 10 - 48)) 17+(48+n % 10 - 48)) 17=n by omega]
   unfold zru;rw[nxt h];simp only[z1f];rw[d1,if_pos rfl,hs,if_neg (fun e=>by rw[d2] at e;omega),if_neg (by simp only;omega)];rfl
theorem z17c {S:List UInt8}{a lo hi fr:Nat}{T:List UInt8}(h:At S a (125::T))(h1:1<=hi)(h2:lo<=hi):zxo S lo hi fr a=.ok ((lo:Int),(hi:Int)) (a+1):=by
 unfold zxo zcp;rw[if_neg (by omega),nxt h];simp only[z1f];rw[if_pos (show (125:UInt8).toNat=125 by decide),z1f]
def NR (S:List UInt8)(b:Nat):Prop:=b<S.length->gb S b≠43/\gb S b≠42/\gb S b≠63/\gb S b≠123
theorem zz1 {S:List UInt8}{a b:Nat}{sub:Option (Nat->PR Tree)}{y:Tree}(ha:za1 sub S a=.ok y b)(h:NR S b):zb9 sub S a=.ok y b:=by
 unfold zb9;rw[ha,z1f];by_cases hb:b<S.length
 . obtain⟨g1,g2,g3,g4⟩:=h hb;rw[if_pos hb,if_neg g1,if_neg g2,if_neg g3,if_neg g4]
 . rw[if_neg hb]
theorem z11c {S:List UInt8}{a b:Nat}{sub:Option (Nat->PR Tree)}{y:Tree}{lo hi:Int}(ha:za1 sub S a=.ok y b)(ht:zl2 lo hi=true)(h:At S b (zbe lo hi)) :
 zb9 sub S a=.ok (z147 y lo hi) (b+(zbe lo hi).length):=by
 unfold zl2 at ht;rw[decide_eq_true_eq] at ht;unfold zb9;rw[ha,z1f];unfold zbe at h ⊢;by_cases c1:lo=0/\hi=-1
 . rw[if_pos c1] at h ⊢;rw[if_pos h.1,h.2.1,if_neg (by decide),if_pos (by decide),c1.1,c1.2];rfl
 rw[if_neg c1] at h ⊢;by_cases c2:lo=1/\hi=-1
 . rw[if_pos c2] at h ⊢;rw[if_pos h.1,h.2.1,if_pos (by decide),c2.1,c2.2];rfl
 rw[if_neg c2] at h ⊢;by_cases c3:lo=0/\hi=1
 . rw[if_pos c3] at h ⊢;rw[if_pos h.1,h.2.1,if_neg (by decide),if_neg (by decide),if_pos (by decide),c3.1,c3.2];rfl
 rw[if_neg c3] at h ⊢;obtain⟨l,rfl⟩:∃ l:Nat,lo=(l:Int):=⟨lo.toNat,by omega⟩
 rw[Int.toNat_natCast] at h ⊢;by_cases c4:hi=(l:Int)
 . rw[if_pos c4] at h ⊢;subst c4;rw[List.append_assoc] at h;have g1:At S (b+1) (zuu l++[125]):=h.2.2;have g2:=g1.app.2;rw[if_pos h.1,show gb S b=(123:UInt8).toNat from h.2.1,if_neg (by decide),if_neg (by decide),if_neg (by decide),if_pos (by decide)];unfold z9n;rw[zxh (by omega) g1 (by decide),z1f,isb g2,if_neg (show ¬ decide ((125:UInt8).toNat=44)=true by decide),z17c g2 (by omega) (Nat.le_refl _),z1f];congr 1;simp only[List.length_append,List.length_cons,List.length_nil];omega
 rw[if_neg c4] at h ⊢;by_cases c5:hi=-1
 . rw[if_pos c5] at h ⊢;rw[List.append_assoc] at h;have g1:At S (b+1) (zuu l++[44,125]):=h.2.2;have g2:=g1.app.2;rw[if_pos h.1,show gb S b=(123:UInt8).toNat from h.2.1,if_neg (by decide),if_neg (by decide),if_neg (by decide),if_pos (by decide)];unfold z9n;rw[zxh (by omega) g1 (by decide),z1f,isb g2,if_pos (show decide ((44:UInt8).toNat=44)=true by decide),isb g2.2.2,if_pos (show decide ((125:UInt8).toNat=125)=true by decide),z1f,c5];congr 1;simp only[List.length_append,List.length_cons,List.length_nil];omega
 rw[if_neg c5] at h ⊢;obtain⟨m,rfl⟩:∃ m:Nat,hi=(m:Int):=⟨hi.toNat,by omega⟩
 rw[Int.toNat_natCast] at h ⊢;rw[List.append_assoc,List.append_assoc,List.append_assoc] at h;have g1:At S (b+1) (zuu l++44::(zuu m++[125])):=h.2.2;have g2:=g1.app.2;have g3:=g2.2.2.app.2;have hd:∃ c U,zuu m++[125]=c::U/\c≠125:=by
  unfold zuu;split
  . refine⟨_,_,rfl,fun e=>?_⟩;have:=(zti (n:=m) (by assumption)).2;rw[e] at this;have:(125:Nat)=48+m:=this;omega
  . refine⟨_,_,rfl,fun e=>?_⟩;have:=(zti (n:=m / 10) (by omega)).2;rw[e] at this;have:(125:Nat)=48+m / 10:=this;omega
 obtain⟨c,U,hcU,hc⟩:=hd;have g4:=g2.2.2;rw[hcU] at g4;rw[if_pos h.1,show gb S b=(123:UInt8).toNat from h.2.1,if_neg (by decide),if_neg (by decide),if_neg (by decide),if_pos (by decide)];unfold z9n;rw[zxh (by omega) g1 (by decide),z1f,isb g2,if_pos (show decide ((44:UInt8).toNat=44)=true by decide),isb g4,if_neg (show ¬ decide (c.toNat=125)=true from fun e=>hc (UInt8.toNat_inj.1 (of_decide_eq_true e))),zxh (by omega) g2.2.2 (by decide),z1f,z17c g3 (by omega) (by omega),z1f];congr 1;simp only[List.length_append,List.length_cons,List.length_nil];omega
end
end Go.Proofs.YthgcpalmjcomlaaDoorLg
set_option linter.all false
set_option maxRecDepth 100000
namespace Go.Proofs.YthgcpalmjcomlaaDoorLg
noncomputable section
open Go Go.Lift Go.Proofs.YthgcpalmjcomlaaDoorPx
def Hd (T:List UInt8):Prop:=∃ c U,T=c::U/\c≠124/\c≠41/\c≠43/\c≠42/\c≠63/\c≠123
theorem Hd.app {T U:List UInt8}(h:Hd T):Hd (T++U):=by
 obtain⟨c,V,rfl,h⟩:=h;exact⟨c,V++U,rfl,h⟩
theorem z14o:((List.range 256).all fun b=>match za4 spcB b with|[]=>false|c::_=>c != 124 && c != 41 && c != 43 && c != 42 && c != 63 && c != 123)=true:=by decide +kernel
theorem z16s (s:List Int) (hs:SetOk s):Hd (zyp s):=by
 unfold zyp;by_cases h1:zi0 s=1
 . rw[if_pos h1];obtain⟨b,hb,hl,_⟩:=zs4 hs h1;rw[hl,Int.toNat_natCast];have ht:=zfs z14o hb;cases he:za4 spcB b with
   | nil=>rw[he] at ht;cases ht
   | cons c U =>
     rw[he] at ht;simp only[Bool.and_eq_true,bne_iff_ne,ne_eq] at ht;exact⟨c,U,rfl,ht.1.1.1.1.1,ht.1.1.1.1.2,ht.1.1.1.2,ht.1.1.2,ht.1.2,ht.2⟩
 rw[if_neg h1];split
 . exact⟨_,_,rfl,by decide⟩
 . split
   . exact⟨_,_,rfl,by decide⟩
   . split
     . exact⟨_,_,rfl,by decide⟩
     . split
       . exact⟨_,_,rfl,by decide⟩
       . exact⟨91,RT (hasS s) 0++[93],(List.append_assoc _ _ _).trans List.singleton_append,by decide⟩
theorem z16x (s:List UInt8):Hd (zom true s):=by
 unfold zom;rw[if_pos rfl];exact⟨_,_,rfl,by decide⟩
theorem z31 {k:Int}{st:List Int}{ks:List Tree}{lo hi:Int}(h:zb2 (.mk k st ks lo hi)=true):shT k st ks lo hi=true/\∀ x∈ks,zb2 x=true:=by
 rw[zb2,Bool.and_eq_true] at h;refine⟨h.1,?_⟩;have:∀ ks:List Tree,zmp ks=true->∀ x∈ks,zb2 x=true:=by
  intro ks
  induction ks with
  | nil=>intro _ x hx;cases hx
  | cons y ys ih =>
    intro h x hx;rw[zmp,Bool.and_eq_true] at h;rcases List.mem_cons.1 hx with rfl|hx
    . exact h.1
    . exact ih h.2 x hx
 exact this ks h.2
theorem zbh {k:Int}{st:List Int}{ks:List Tree}{lo hi:Int}(h:shT k st ks lo hi=true) :
 (k=1/\ks=[]/\lo=0/\hi=0)\/(k=2/\st=z4/\lo=0/\hi=0/\ks.length≠1/\∀ x∈ks,z2c x≠2)\/(k=3/\st=z4/\lo=0/\hi=0/\2<=ks.length/\∀ x∈ks,z2c x≠3)\/(k=4/\st=z4/\(∃ y,ks=[y])/\zl2 lo hi=true):=by
 unfold shT at h;by_cases h1:k=1
 . rw[if_pos h1] at h;simp only[Bool.and_eq_true,beq_iff_eq] at h;exact .inl ⟨h1,List.length_eq_zero_iff.1 h.1,h.2.1,h.2.2⟩
 rw[if_neg h1] at h;by_cases h2:k=2
 . rw[if_pos h2] at h;simp only[Bool.and_eq_true,beq_iff_eq,bne_iff_ne,ne_eq,Bool.not_eq_true',List.any_eq_false] at h;exact .inr (.inl ⟨h2,h.1,h.2.1,h.2.2.1,h.2.2.2.1,fun x hx=>by simpa using h.2.2.2.2 x hx⟩)
 rw[if_neg h2] at h;by_cases h3:k=3
 . rw[if_pos h3] at h;simp only[Bool.and_eq_true,beq_iff_eq,decide_eq_true_eq,Bool.not_eq_true',List.any_eq_false] at h;exact .inr (.inr (.inl ⟨h3,h.1,h.2.1,h.2.2.1,h.2.2.2.1,fun x hx=>by simpa using h.2.2.2.2 x hx⟩))
 rw[if_neg h3] at h;by_cases h4:k=4
 . rw[if_pos h4] at h;simp only[Bool.and_eq_true,beq_iff_eq] at h;exact .inr (.inr (.inr ⟨h4,h.1,List.length_eq_one_iff.1 h.2.1,h.2.2⟩))
 . rw[if_neg h4] at h;cases h
theorem zcz {k:Int}{st:List Int}{ks:List Tree}{lo hi:Int}(h:WfN (.mk k st ks lo hi)):SetOk st/\∀ x∈ks,WfN x:=by
 rw[WfN] at h;exact⟨z14q h.2.1,(zhm ks).1 h.2.2.1.2⟩
theorem zn7 {x:Tree}{ks:List Tree}{k:Int}{st:List Int}{lo hi:Int}(h:x∈ks):z1z x<z1z (.mk k st ks lo hi):=by
 have:=zhc h;rw[z1z];omega
def EndA (S:List UInt8)(b:Nat):Prop:=b=S.length\/(b<S.length/\gb S b=41)
def EndC (S:List UInt8)(b:Nat):Prop:=b=S.length\/(b<S.length/\(gb S b=41\/gb S b=124))
theorem EndA.c {S:List UInt8}{b:Nat}(h:EndA S b):EndC S b:=by
 rcases h with h|h
 . exact .inl h
 . exact .inr ⟨h.1,.inl h.2⟩
theorem EndC.nr {S:List UInt8}{b:Nat}(h:EndC S b):NR S b:=by
 intro hb;rcases h with h|⟨_,h|h⟩
 . omega
 . rw[h];decide
 . rw[h];decide
theorem EndC.stop {S:List UInt8}{b:Nat}(h:EndC S b):zdd S b=true:=by
 unfold zdd;rcases h with h|⟨h0,h|h⟩
 . rw[decide_eq_false (by omega)];rfl
 . rw[h,decide_eq_true h0];rfl
 . rw[h,decide_eq_true h0];rfl
theorem Hd.nr {S:List UInt8}{a:Nat}{T:List UInt8}(h:Hd T)(ha:At S a T):NR S a/\zdd S a=false:=by
 obtain⟨c,U,rfl,h1,h2,h3,h4,h5,h6⟩:=h;have n:∀ d:UInt8,c≠d->c.toNat≠d.toNat:=fun d h e=>h (UInt8.toNat_inj.1 e)
 refine⟨fun _=>?_,?_⟩
 . rw[ha.2.1];exact⟨n 43 h3,n 42 h4,n 63 h5,n 123 h6⟩
 . unfold zdd;have n1:c.toNat≠124:=n 124 h1;have n2:c.toNat≠41:=n 41 h2;rw[ha.2.1,decide_eq_true ha.1,beq_eq_false_iff_ne.2 n1,beq_eq_false_iff_ne.2 n2];rfl
def z1dd (t:Tree):Prop:=∀ (S:List UInt8) (d a:Nat),zjq t<=d->At S a (zbf t)->EndA S (a+(zbf t).length)->zfv S d a=.ok t (a+(zbf t).length)
def Good (x:Tree):Prop:=WfN x/\zb2 x=true
theorem z13z {m:Nat}(H:∀ y,z1z y<=m->Good y->z1dd y){y:Tree}{e:Bool}(hg:Good y)(hm:e=true->z1z y<=m)(he:e=false->z2c y=1){S:List UInt8}{d a:Nat}(hd:zjq y+e.toNat<=d)
 (h:At S a (zom e (zbf y))):za1 (zdr S d) S a=.ok y (a+(zom e (zbf y)).length):=by
 cases e with
 | false =>
   obtain⟨k,st,ks,lo,hi⟩:=y;have hk:k=1:=he rfl;subst hk;obtain⟨w1,_⟩:=zcz hg.1;rcases zbh (z31 hg.2).1 with⟨_,rfl,rfl,rfl⟩|⟨q,_⟩|⟨q,_⟩|⟨q,_⟩
   . have e1:zbf (.mk 1 st [] 0 0)=zyp st:=by rw[zbf,zfu,z132,if_pos rfl];rfl
     rw[zom,if_neg (by decide),e1] at h ⊢;exact zbz _ w1 h
   all_goals exact absurd q (by decide)
 | true =>
   rw[zom,if_pos rfl] at h ⊢;rw[List.append_assoc] at h;have h1:At S (a+1) (zbf y++[41]):=h.2.2;obtain⟨h2,h3⟩:=h1.app;obtain⟨d',rfl⟩:∃ d',d=d'+1:=⟨d - 1,by simp only[Bool.toNat_true] at hd;omega⟩
   have ih:=H y (hm rfl) hg S d' (a+1) (by simp only[Bool.toNat_true] at hd;omega) h2 (.inr ⟨h3.1,h3.2.1⟩);unfold za1;rw[show gb S a=(40:UInt8).toNat from h.2.1,if_pos (by decide)];show (zfv S d' (a+1)).next _=_;rw[ih,z1f];unfold zcp;rw[nxt h3];simp only[z1f];rw[if_pos (show (41:UInt8).toNat=41 by decide),z1f];congr 1;simp only[List.length_append,List.length_cons,List.length_nil];omega
def zfl (x:Tree):List UInt8:=zom (decide (z2c x=3)) (zbf x)
theorem z118 (st:List Int)(y:Tree)(lo hi:Int):zbf (.mk 4 st [y] lo hi)=zom (decide (z2c y≠1)) (zbf y)++zbe lo hi:=by
 rw[zbf,zfu,zfu,z132,if_neg (by decide),if_pos rfl,List.append_nil];have e1:zq8 4 0=[]:=by unfold zq8;rw[if_neg (by decide)]
 have e2:zam 4 (z2c y)=decide (z2c y≠1):=by unfold zam;exact decide_eq_decide.2 (by omega)
 rw[e1,e2];rfl
theorem zx8 {x:Tree} (hg:Good x) (h2:z2c x≠2):Hd (zfl x):=by
 obtain⟨k,st,ks,lo,hi⟩:=x;obtain⟨w1,w2⟩:=zcz hg.1;unfold zfl;rcases zbh (z31 hg.2).1 with⟨rfl,rfl,rfl,rfl⟩|⟨q,_⟩|⟨rfl,_⟩|⟨rfl,rfl,⟨y,rfl⟩,_⟩
 . have e1:zbf (.mk 1 st [] 0 0)=zyp st:=by rw[zbf,zfu,z132,if_pos rfl];rfl
   rw[show decide (z2c (Tree.mk 1 st [] 0 0)=3)=false from rfl,zom,if_neg (by decide),e1];exact z16s st w1
 . exact absurd q h2
 . exact z16x _
 . rw[show decide (z2c (Tree.mk 4 z4 [y] lo hi)=3)=false from rfl,zom,if_neg (by decide),z118];refine Hd.app ?_;by_cases h1:z2c y=1
   . obtain⟨k',st',ks',lo',hi'⟩:=y;have hk:k'=1:=h1;subst hk;have hy:=(z31 hg.2).2 _ (List.mem_singleton.2 rfl);obtain⟨v1,_⟩:=zcz (w2 _ (List.mem_singleton.2 rfl));rcases zbh (z31 hy).1 with⟨_,rfl,rfl,rfl⟩|⟨q,_⟩|⟨q,_⟩|⟨q,_⟩
     . have e1:zbf (.mk 1 st' [] 0 0)=zyp st':=by rw[zbf,zfu,z132,if_pos rfl];rfl
       rw[decide_eq_false (by simpa using h1),zom,if_neg (by decide),e1];exact z16s st' v1
     all_goals exact absurd q (by decide)
   . rw[decide_eq_true h1];exact z16x _
theorem z151 {m:Nat} (H:∀ y,z1z y<=m->Good y->z1dd y) {x:Tree} (hg:Good x) (h2:z2c x≠2) (h3:z2c x=3->z1z x<=m) (hn:z1z x<=m+1) {S:List UInt8} {d a:Nat} (hd:zjq x+(decide (z2c x=3)).toNat<=d)
 (h:At S a (zfl x)) (hnr:NR S (a+(zfl x).length)):zb9 (zdr S d) S a=.ok x (a+(zfl x).length):=by
 by_cases h4:z2c x=4
 . obtain⟨k,st,ks,lo,hi⟩:=x;have hk:k=4:=h4;subst hk;obtain⟨w1,w2⟩:=zcz hg.1;rcases zbh (z31 hg.2).1 with⟨q,_⟩|⟨q,_⟩|⟨q,_⟩|⟨_,rfl,⟨y,rfl⟩,ht⟩
   . exact absurd q (by decide)
   . exact absurd q (by decide)
   . exact absurd q (by decide)
   . have hgy:Good y:=⟨w2 _ (List.mem_singleton.2 rfl),(z31 hg.2).2 _ (List.mem_singleton.2 rfl)⟩
     have hny:=zn7 (k:=4) (st:=z4) (lo:=lo) (hi:=hi) (List.mem_singleton.2 rfl:y∈[y]);unfold zfl at h hnr ⊢;rw[show decide (z2c (Tree.mk 4 z4 [y] lo hi)=3)=false from rfl] at h hnr hd ⊢;rw[zom,if_neg (by decide),z118] at h hnr ⊢;obtain⟨g1,g2⟩:=h.app;have hdy:zjq y+(decide (z2c y≠1)).toNat<=d:=by
      rw[zjq,zjr,zjr] at hd;have e2:zam 4 (z2c y)=decide (z2c y≠1):=by unfold zam;exact decide_eq_decide.2 (by omega)
      rw[e2] at hd;omega
     have ha:=z13z H hgy (e:=decide (z2c y≠1)) (fun _=>by omega) (fun e=>by
      have:=of_decide_eq_false e;exact Decidable.not_not.1 this) hdy g1
     rw[z11c ha ht g2,List.length_append,Nat.add_assoc];rfl
 . have he:decide (z2c x=3)=false->z2c x=1:=fun e=>by
    have n3:=of_decide_eq_false e;obtain⟨k,st,ks,lo,hi⟩:=x;rcases zbh (z31 hg.2).1 with⟨q,_⟩|⟨q,_⟩|⟨q,_⟩|⟨q,_⟩
    . exact q
    . exact absurd q h2
    . exact absurd q n3
    . exact absurd q h4
   exact zz1 (z13z H hg (fun e=>h3 (of_decide_eq_true e)) he hd h) hnr
theorem zno {k:Int}:∀ {ks:List Tree},(∀ x∈ks,z2c x≠k)->zal k ks=ks
 | [],_=>rfl
 | x::xs,h=>by
   have h1:zjb k x=[x]:=by unfold zjb;rw[beq_eq_false_iff_ne.2 (h x List.mem_cons_self)];rfl
   have h2:=zno (k:=k) (ks:=xs) (fun y hy=>h y (List.mem_cons_of_mem _ hy));unfold zal at h2 ⊢;rw[List.flatMap_cons,h1,h2];rfl
theorem zk5 (x:Tree)(xs:List Tree)(i:Nat):zfu (x::xs) 2 i=zfl x++zfu xs 2 (i+1):=by
 rw[zfu];have e1:zq8 2 i=[]:=by unfold zq8;rw[if_neg (by omega)]
 have e2:zam 2 (z2c x)=decide (z2c x=3):=by unfold zam;exact decide_eq_decide.2 (by omega)
 rw[e1,e2];rfl
theorem zrk {m:Nat} (H:∀ y,z1z y<=m->Good y->z1dd y) {S:List UInt8} {d:Nat}:∀ (ks:List Tree) (k i a:Nat) (ps:List Tree),(∀ x∈ks,Good x/\z2c x≠2/\(z2c x=3->z1z x<=m)/\z1z x<=m+1)->zjr ks 2<=d →
 At S a (zfu ks 2 i)->EndC S (a+(zfu ks 2 i).length)->S.length<a+k->zih (zdr S d) S k a ps=.ok (zcr 2 (ps++ks)) (a+(zfu ks 2 i).length)
 | [],k,i,a,ps,_,_,h,he,hk=>by
   rw[zfu] at h he ⊢;obtain⟨k,rfl⟩:∃ k',k=k'+1:=⟨k - 1,by have:=h.le;simp only[List.length_nil] at this;omega⟩
   rw[zih,if_pos (show zdd S a=true from he.stop),List.append_nil];rfl
 | x :: xs,k,i,a,ps,hx,hd,h,he,hk=>by
   obtain⟨g1,g2,g3,g4⟩:=hx x List.mem_cons_self;have hh:=zx8 g1 g2;rw[zk5] at h he ⊢;obtain⟨q1,q2⟩:=h.app;have e2:zam 2 (z2c x)=decide (z2c x=3):=by unfold zam;exact decide_eq_decide.2 (by omega)
   rw[zjr,e2] at hd;rw[List.length_append,<- Nat.add_assoc] at he;have hnr:NR S (a+(zfl x).length):=by
    cases xs with
    | nil=>rw[zfu] at he;exact he.nr
    | cons y ys =>
      obtain⟨p1,p2,_⟩:=hx y (List.mem_cons_of_mem _ List.mem_cons_self);rw[zk5] at q2;exact ((zx8 p1 p2).nr q2.app.1).1
   have hst:=(hh.nr q1).2;obtain⟨c,U,hU,_⟩:=hh;have hpos:0<(zfl x).length:=by rw[hU];simp
   have hle:=q1.le;obtain⟨k,rfl⟩:∃ k',k=k'+1:=⟨k - 1,by omega⟩
   rw[zih,hst,if_neg (by decide),z151 H g1 g2 g3 g4 (by omega) q1 hnr,z1f];rw[zrk H xs k (i+1) (a+(zfl x).length) (ps++[x]) (fun y hy=>hx y (List.mem_cons_of_mem _ hy)) (by omega) q2 he (by omega)];rw[List.append_assoc,List.length_append,Nat.add_assoc];rfl
theorem z13k {m:Nat}(H:∀ y,z1z y<=m->Good y->z1dd y){t:Tree}(hg:Good t)(h3:z2c t≠3)(hn:z1z t<=m+1){S:List UInt8}{d a:Nat}(hd:zjq t<=d)(h:At S a (zbf t))(he:EndC S (a+(zbf t).length)) :
 zih (zdr S d) S (S.length+1) a []=.ok t (a+(zbf t).length):=by
 by_cases h2:z2c t=2
 . obtain⟨k,st,ks,lo,hi⟩:=t;have hk:k=2:=h2;subst hk;obtain⟨w1,w2⟩:=zcz hg.1;rcases zbh (z31 hg.2).1 with⟨q,_⟩|⟨_,rfl,rfl,rfl,hl,hks⟩|⟨q,_⟩|⟨q,_⟩
   . exact absurd q (by decide)
   . have e1:zbf (.mk 2 z4 ks 0 0)=zfu ks 2 0:=by rw[zbf,z132,if_neg (by decide),if_neg (by decide),List.append_nil]
     rw[e1] at h he ⊢;rw[zjq] at hd;have:=zrk H ks (S.length+1) 0 a [] (fun x hx=>⟨⟨w2 x hx,(z31 hg.2).2 x hx⟩,hks x hx,fun _=>by have:=zn7 (k:=2) (st:=z4) (lo:=0) (hi:=0) hx;omega,by have:=zn7 (k:=2) (st:=z4) (lo:=0) (hi:=0) hx;omega⟩) hd h he (by omega);rw[this];congr 1;show zcr 2 ks=_;unfold zcr;rw[zno hks]
     match ks,hl with
     | [],_=>rfl
     | [x],h1=>exact absurd rfl h1
     | x::y::zs,_=>rfl
   . exact absurd q (by decide)
   . exact absurd q (by decide)
 . have e0:zfl t=zbf t:=by unfold zfl;rw[decide_eq_false h3,zom,if_neg (by decide)]
   have e1:zfu [t] 2 0=zbf t:=by rw[zk5,e0,zfu,List.append_nil]
   have e2:zam 2 (z2c t)=false:=by unfold zam;exact decide_eq_false (by omega)
   rw[<- e1] at h he ⊢;rw[zrk H [t] (S.length+1) 0 a [] (fun x hx=>by rw[List.mem_singleton.1 hx];exact⟨hg,h2,fun e=>absurd e h3,hn⟩) (by rw[zjr,zjr,e2];simp only[Bool.toNat_false];omega) h he (by omega)];congr 1;show zcr 2 [t]=t;unfold zcr;rw[zno (ks:=[t]) (fun x hx=>by rw[List.mem_singleton.1 hx];exact h2)]
theorem z140 {m:Nat} (H:∀ y,z1z y<=m->Good y->z1dd y) {S:List UInt8} {d:Nat}:∀ (ks:List Tree) (k i a:Nat) (ps:List Tree),0<i->(∀ x∈ks,Good x/\z2c x≠3/\z1z x<=m)->zjr ks 3<=d →
 At S a (zfu ks 3 i)->EndA S (a+(zfu ks 3 i).length)->S.length<a+k->ze8 (zdr S d) S k a ps=.ok (zcr 3 (ps++ks)) (a+(zfu ks 3 i).length)
 | [],k,i,a,ps,_,_,_,h,he,hk=>by
   rw[zfu] at h he ⊢;have hl:=h.le;obtain⟨k,rfl⟩:∃ k',k=k'+1:=⟨k - 1,by simp only[List.length_nil] at hl;omega⟩
   have hb:isB S a 124=false:=by
    unfold isB;rcases he with he|⟨_,he⟩
    . rw[decide_eq_false (by simp only[List.length_nil] at he;omega)];rfl
    . rw[show gb S a=41 from he];simp
   rw[ze8,hb,if_neg (by decide),List.append_nil];rfl
 | x :: xs,k,i,a,ps,hi,hx,hd,h,he,hk=>by
   obtain⟨g1,g2,g3⟩:=hx x List.mem_cons_self;have e1:zq8 3 i=[124]:=by unfold zq8;rw[if_pos ⟨rfl,hi⟩]
   have e2:zam 3 (z2c x)=false:=by unfold zam;exact decide_eq_false (by omega)
   have e3:zfu (x::xs) 3 i=124::(zbf x++zfu xs 3 (i+1)):=by rw[zfu,e1,e2,zom,if_neg (by decide)];rfl
   rw[e3] at h he ⊢;rw[zjr,e2] at hd;simp only[Bool.toNat_false,Nat.add_zero] at hd;have hb:=isb h 124;obtain⟨q1,q2⟩:=h.2.2.app;have hle:=q1.le;have h0:=h.1;rw[List.length_cons,List.length_append,show a+((zbf x).length+(zfu xs 3 (i+1)).length+1)=a+1+(zbf x).length+(zfu xs 3 (i+1)).length by omega] at he ⊢;have hec:EndC S (a+1+(zbf x).length):=by
    cases xs with
    | nil=>rw[zfu] at he;exact he.c
    | cons y ys =>
      have e4:zq8 3 (i+1)=[124]:=by unfold zq8;rw[if_pos ⟨rfl,by omega⟩]
      rw[zfu,e4] at q2;exact .inr ⟨q2.1,.inr q2.2.1⟩
   obtain⟨k,rfl⟩:∃ k',k=k'+1:=⟨k - 1,by omega⟩
   rw[ze8,hb,if_pos (by decide),z13k H g1 g2 (by omega) (by omega) q1 hec,z1f];rw[z140 H xs k (i+1) (a+1+(zbf x).length) (ps++[x]) (by omega) (fun y hy=>hx y (List.mem_cons_of_mem _ hy)) (by omega) q2 he (by omega),List.append_assoc];rfl
theorem z1c7 (s:List UInt8)(d a:Nat):zfv s d a=(zih (zdr s d) s (s.length+1) a []).next fun t a1=>ze8 (zdr s d) s (s.length+1) a1 [t]:=by
 cases d<;>rfl
theorem z17k:∀ (n:Nat) (t:Tree),z1z t<=n->Good t->z1dd t
 | 0,t,hn,_=>by have:=zkh t;omega
 | m + 1,t, hn,hg=>by
   intro S d a hd h he;have H:=z17k m;rw[z1c7];by_cases h3:z2c t=3
   . obtain⟨k,st,ks,lo,hi⟩:=t;have hk:k=3:=h3;subst hk;obtain⟨w1,w2⟩:=zcz hg.1;rcases zbh (z31 hg.2).1 with⟨q,_⟩|⟨q,_⟩|⟨_,rfl,rfl,rfl,hl,hks⟩|⟨q,_⟩
     . exact absurd q (by decide)
     . exact absurd q (by decide)
     . have hall:∀ x∈ks,Good x/\z2c x≠3/\z1z x<=m:=fun x hx=>⟨⟨w2 x hx,(z31 hg.2).2 x hx⟩,hks x hx,by have:=zn7 (k:=3) (st:=z4) (lo:=0) (hi:=0) hx;omega⟩
       match ks,hl,hks,hall,h,he,hd with
       | x :: xs,hl,hks,hall,h,he,hd =>
         obtain⟨g1,g2,g3⟩:=hall x List.mem_cons_self;have e0:zq8 3 0=[]:=by unfold zq8;rw[if_neg (by omega)]
         have e2:zam 3 (z2c x)=false:=by unfold zam;exact decide_eq_false (by omega)
         have e1:zbf (.mk 3 z4 (x::xs) 0 0)=zbf x++zfu xs 3 1:=by
          rw[zbf,z132,if_neg (by decide),if_neg (by decide),List.append_nil,zfu,e0,e2,zom,if_neg (by decide)];rfl
         rw[e1] at h he ⊢;rw[zjq,zjr,e2] at hd;simp only[Bool.toNat_false,Nat.add_zero] at hd;obtain⟨q1,q2⟩:=h.app;rw[List.length_append,<- Nat.add_assoc] at he ⊢;have hec:EndC S (a+(zbf x).length):=by
          cases xs with
          | nil=>rw[zfu] at he;exact he.c
          | cons y ys =>
            have e4:zq8 3 1=[124]:=by unfold zq8;rw[if_pos ⟨rfl,by omega⟩]
            rw[zfu,e4] at q2;exact .inr ⟨q2.1,.inr q2.2.1⟩
         rw[z13k H g1 g2 (by omega) (by omega) q1 hec,z1f,z140 H xs (S.length+1) 1 (a+(zbf x).length) [x] (by omega) (fun y hy=>hall y (List.mem_cons_of_mem _ hy)) (by omega) q2 he (by omega)];congr 1;show zcr 3 (x::xs)=_;unfold zcr;rw[zno hks]
         match xs,hl with
         | [],hl=>exact absurd hl (by simp)
         | y::ys,_=>rfl
     . exact absurd q (by decide)
   . rw[z13k H hg h3 hn hd h he.c,z1f];have hb:isB S (a+(zbf t).length) 124=false:=by
      unfold isB;rcases he with he|⟨_,he⟩
      . rw[decide_eq_false (by omega)];rfl
      . rw[he];simp
     rw[ze8,hb,if_neg (by decide)];congr 1;unfold zcr;rw[zno (ks:=[t]) (fun x hx=>by rw[List.mem_singleton.1 hx];exact h3)]
theorem zz5 {t:Tree}(hg:Good t)(hl:(zbf t).length<=256)(hd:zjq t<=16):zba (zbf t)=.ok t (zbf t).length:=by
 have h:=At.self (zbf t) ((zbf t).length - 0) 0 rfl (Nat.zero_le _);rw[List.drop_zero] at h;have:=z17k (z1z t) t (Nat.le_refl _) hg (zbf t) 16 0 hd h (.inl (by omega));rw[Nat.zero_add] at this;unfold zba;rw[if_neg (by omega),this,z1f,if_neg (by omega)]
end
end Go.Proofs.YthgcpalmjcomlaaDoorLg
set_option linter.all false
set_option maxRecDepth 100000
namespace Go.Proofs.YthgcpalmjcomlaaDoorLg
noncomputable section
open Go Go.Lift Go.Proofs.YthgcpalmjcomlaaDoorPx
abbrev PP:=NodT.den×(List Int×(Bool×(Int×((Int×(Int×Unit))×Unit))))
def badP (e:Int)(a:Nat):PP:=(z198,(z4,(false,((0:Int),((e,((a:Int),())),())))))
def refP {α:Type}(f:α->Nat->PP):PR α->PP
 | .bad e a=>badP e a
 | .ok x a=>f x a
def Nz {α:Type}(r:PR α):Prop:=match r with
 | .bad e _=>(e != 0)=true
 | .ok _ _=>True
theorem Nz.next {α β:Type}{r:PR α}{f:α->Nat->PR β}(h:Nz r)(hf:∀ x b,r=.ok x b->Nz (f x b)):Nz (r.next f):=by
 cases r with
 | bad e b=>exact h
 | ok x b=>exact hf x b rfl
theorem z120 {s:List UInt8}{a:Nat}(h:a<s.length):z8k s a=.ok (gb s a) a:=by unfold z8k;rw[if_pos h]
theorem zxm {s:List UInt8}{a:Nat}(h:s.length<=a):z8k s a=.bad 1 s.length:=by unfold z8k;rw[if_neg (by omega)]
end
end Go.Proofs.YthgcpalmjcomlaaDoorLg
set_option linter.all false
set_option maxRecDepth 100000
namespace Go.Proofs.YthgcpalmjcomlaaDoorLg
noncomputable section
open Go Go.Lift Go.Proofs.YthgcpalmjcomlaaDoorPx
theorem z18v {s:List UInt8}{a:Nat}(h:¬ zdd s a=true):a<s.length:=by
 simp[zdd] at h;exact h.1
def Can (t:Tree):Prop:=(z2c t=2->(zzd t).length≠1)/\(z2c t=3->(zzd t).length≠1/\t=.mk 3 z4 (zzd t) 0 0)
def CanR (r:PR Tree):Prop:=∀ t b,r=.ok t b->Can t
theorem CanR.bad {e:Int}{x:Nat}:CanR (.bad e x):=fun t b h=>by cases h
theorem CanR.ok {t:Tree}{x:Nat}(h:Can t):CanR (.ok t x):=fun t b h=>by cases h;assumption
theorem CanR.next {α:Type}{r:PR α}{f:α->Nat->PR Tree}(h:∀ x b,r=.ok x b->CanR (f x b)):CanR (r.next f):=by
 cases r with
 | bad e b=>exact CanR.bad
 | ok x b=>exact h x b rfl
def RefR {α:Type}(f:α->Nat->PP)(r:PR α)(p:PP):Prop:=match r with
 | .bad e a=>p.2.2.2.2.1=(e,((a:Int),()))
 | .ok x a=>p=f x a
theorem RefR.of {α:Type}{f:α->Nat->PP}(r:PR α):RefR f r (refP f r):=by cases r<;>rfl
end
end Go.Proofs.YthgcpalmjcomlaaDoorLg
set_option linter.all false
set_option maxRecDepth 100000
namespace Go.Proofs.YthgcpalmjcomlaaDoorLg
noncomputable section
open Go Go.Lift Go.Proofs.YthgcpalmjcomlaaDoorPx
mutual
theorem zp7:∀ a:Tree,zoe a a=true
 | .mk k st ks lo hi=>by rw[zoe];simp[zp8 ks]
theorem zp8:∀ a:List Tree,zof a a=true
 | []=>by simp[zof]
 | x::xs=>by rw[zof,zp7 x,zp8 xs];rfl
end
end
end Go.Proofs.YthgcpalmjcomlaaDoorLg
set_option linter.all false
set_option maxRecDepth 100000
namespace Go.Proofs.YthgcpalmjcomlaaDoorLg
noncomputable section
open Go Go.Lift Go.Proofs.YthgcpalmjcomlaaDoorPx
def zme (r:PR Tree):Tree:=match r with
 | .bad _ _=>.mk 0 z4 [] 0 0
 | .ok t _=>t
theorem z150 (r:PR Tree):(psF r).1=unN (zme r):=by cases r<;>rfl
theorem z182:WfN (.mk 0 z4 [] 0 0):=by
 rw[WfN];refine⟨?_,zwk z59,?_,?_,?_⟩
 . exact zfd (by omega) (by omega)
 . exact⟨by unfold maxLen;simp,by simp[z143]⟩
 . exact zfd (by omega) (by omega)
 . exact zfd (by omega) (by omega)
theorem zz4 (s:List UInt8):WfN (zme (zba s))/\z1z (zme (zba s))<=1000:=by
 have hz:WfN (.mk 0 z4 [] 0 0)/\z1z (.mk 0 z4 [] 0 0)<=1000:=⟨z182,by simp[z1z,z2k]⟩
 unfold zba;by_cases hl:256<s.length
 . rw[if_pos hl];exact hz
 . rw[if_neg hl];have hs:s.length<=256:=by omega
   cases h:zfv s 16 0 with
   | bad e c=>exact hz
   | ok t c =>
     have hc:=z1l (zei s 16 0 (by omega)) h;have ht:=zyb hs 16 0 (by omega) t c h;simp only[PR.next];split
     . exact hz
     . exact⟨ht.1,by have:=ht.2;show z1z t<=1000;omega⟩
end
end Go.Proofs.YthgcpalmjcomlaaDoorLg
set_option linter.all false
set_option maxRecDepth 100000
namespace Go.Proofs.YthgcpalmjcomlaaDoorLg
noncomputable section
open Go Go.Lift Go.Proofs.YthgcpalmjcomlaaDoorPx
def RgR (r:PR Tree):Prop:=∀ t b,r=.ok t b->zb2 t=true
theorem RgR.bad {e:Int}{x:Nat}:RgR (.bad e x):=fun t b h=>by cases h
theorem RgR.ok {t:Tree}{x:Nat}(h:zb2 t=true):RgR (.ok t x):=fun t b h=>by cases h;assumption
theorem RgR.next {α:Type}{r:PR α}{f:α->Nat->PR Tree}(h:∀ x b,r=.ok x b->RgR (f x b)):RgR (r.next f):=by
 cases r with
 | bad e b=>exact RgR.bad
 | ok x b=>exact h x b rfl
def zjj (sub:Option (Nat->PR Tree))(s:List UInt8):Nat->Nat->List Tree->PR (List Tree)
 | 0,_,_=>.bad 0 0
 | k+1,a,ps=>if isB s a 124 then (zih sub s (s.length+1) (a+1) []).next fun t a1=>zjj sub s k a1 (ps++[t]) else .ok ps a
theorem z11y {α β γ:Type}(r:PR α)(f:α->Nat->PR β)(g:β->Nat->PR γ):(r.next f).next g=r.next fun x a=>(f x a).next g:=by cases r<;>rfl
theorem ztz (sub:Option (Nat->PR Tree))(s:List UInt8):∀ (k a:Nat) (ps:List Tree),ze8 sub s k a ps=(zjj sub s k a ps).next fun L b=>.ok (zcr 3 L) b
 | 0,a,ps=>rfl
 | k + 1,a,ps=>by
   rw[ze8,zjj];split
   . rw[z11y];congr 1
     funext t a1
     exact ztz sub s k a1 _
   . rfl
structure Cx (s S:List UInt8) (p:Nat):Prop where
 len:s.length+p<=S.length
 at_:∀ a,a<s.length->gb S (a+p)=gb s a
 end_:s.length+p<S.length->gb S (s.length+p)=41\/gb S (s.length+p)=124
def Lf {α:Type}(p:Nat)(r r':PR α):Prop:=∀ x b,r=.ok x b->r'=.ok x (b+p)
theorem Lf.next {α β:Type}{p:Nat}{r r':PR α}{f f':α->Nat->PR β}(h:Lf p r r')(hf:∀ x b,r=.ok x b->Lf p (f x b) (f' x (b+p))):Lf p (r.next f) (r'.next f'):=by
 cases hr:r with
 | bad e c=>intro x b e;cases e
 | ok x b=>rw[h x b hr];exact hf x b hr
theorem Lf.bad {α:Type}{p:Nat}{e:Int}{a:Nat}{r':PR α}:Lf p (.bad e a) r':=fun x b h=>by cases h
theorem Lf.ok {α:Type}{p:Nat}{x:α}{a:Nat}:Lf p (.ok x a) (.ok x (a+p)):=fun y b h=>by cases h;rfl
variable {s S:List UInt8} {p:Nat}
theorem Cx.next (h:Cx s S p)(a:Nat):Lf p (z8k s a) (z8k S (a+p)):=by
 rcases Nat.lt_or_ge a s.length with hl|hl
 . have:=h.len;rw[z120 hl,z120 (show a+p<S.length by omega),h.at_ a hl];exact Lf.ok
 . rw[zxm hl];exact Lf.bad
theorem Cx.isb (h:Cx s S p) {a b:Nat} (ha:a<=s.length) (hb:b≠41/\b≠124):isB S (a+p) b=isB s a b:=by
 have:=h.len;unfold isB;rcases Nat.lt_or_ge a s.length with hl|hl
 . rw[decide_eq_true hl,decide_eq_true (show a+p<S.length by omega),h.at_ a hl]
 . obtain rfl:a=s.length:=by omega
   rw[decide_eq_false (show ¬ s.length<s.length by omega)];rcases Nat.lt_or_ge (s.length+p) S.length with h2|h2
   . have:=h.end_ h2;have e:(gb S (s.length+p) == b)=false:=by
      rw[beq_eq_false_iff_ne];omega
     rw[e];simp
   . rw[decide_eq_false (by omega)];rfl
theorem Cx.isb_t (h:Cx s S p){a b:Nat}(e:isB s a b=true):isB S (a+p) b=true:=by
 have:=h.len;simp[isB] at e;have q:=h.at_ a e.1;simp[isB,q,e.2];omega
theorem Cx.isb_in (h:Cx s S p){a b:Nat}(ha:a<s.length):isB S (a+p) b=isB s a b:=by
 have:=h.len;unfold isB;rw[decide_eq_true ha,decide_eq_true (show a+p<S.length by omega),h.at_ a ha]
theorem Cx.need (h:Cx s S p)(a b:Nat):Lf p (zcp s a b) (zcp S (a+p) b):=by
 refine (h.next a).next fun c a1 _=>?_
 split
 . rw[show a1+p+1=a1+1+p by omega];exact Lf.ok
 . exact Lf.bad
theorem Cx.hex (h:Cx s S p)(fr fr' a:Nat):Lf p (zu5 s fr a) (zu5 S fr' (a+p)):=by
 refine (h.next a).next fun c a1 _=>?_
 split
 . rw[show a1+p+1=a1+1+p by omega];exact Lf.ok
 split
 . rw[show a1+p+1=a1+1+p by omega];exact Lf.ok
 . exact Lf.bad
theorem Cx.esc (h:Cx s S p)(a:Nat):Lf p (zr1 s a) (zr1 S (a+p)):=by
 unfold zr1;rw[show a+p+1=a+1+p by omega,show a+p+2=a+2+p by omega];refine (h.next (a+1)).next fun c a1 _=>?_
 split
 . exact Lf.ok
 split
 . exact Lf.ok
 split
 . exact (h.hex a (a+p) (a+2)).next fun x a2 _=>(h.hex a (a+p) a2).next fun y a3 _=>Lf.ok
 split
 . exact Lf.ok
 . exact Lf.bad
theorem Cx.sign (h:Cx s S p)(a:Nat):Lf p (zgn s a) (zgn S (a+p)):=by
 refine (h.next a).next fun c a1 _=>?_
 split
 . exact h.esc a
 split
 . exact Lf.bad
 . rw[show a+p+1=a+1+p by omega];exact Lf.ok
theorem Cx.item (h:Cx s S p)(a:Nat):Lf p (ze7 s a) (ze7 S (a+p)):=by
 refine (h.sign a).next fun r a1 e=>?_
 have hc:=z1l (zh9 s a) e;rw[h.isb hc.2 (by decide),show a1+p+1=a1+1+p by omega];split
 . exact Lf.ok
 . refine (h.sign (a1+1)).next fun q a2 _=>?_
   split
   . exact Lf.bad
   . exact Lf.ok
theorem Cx.items (h:Cx s S p):∀ (k k' a:Nat) (acc:List Int),a<=s.length->k<=k'->Lf p (z7a s k a acc) (z7a S k' (a+p) acc)
 | 0,k',a,acc,ha,hk=>Lf.bad
 | k + 1,k',a,acc,ha,hk=>by
   obtain⟨j,rfl⟩:∃ j,k'=j+1:=⟨k' - 1,by omega⟩
   unfold z7a;rw[h.isb ha (by decide),show a+p+1=a+1+p by omega];split
   . exact Lf.ok
   . refine (h.item a).next fun t a1 e=>?_
     exact Cx.items h k j a1 _ (z1l (za3 s a) e).2 (by omega)
theorem Cx.cls (h:Cx s S p){a:Nat}(ha:a<=s.length):Lf p (zbb s a) (zbb S (a+p)):=by
 have hl:=h.len;unfold zbb;rw[h.isb ha (by decide),show (if isB s a 94=true then a+p+1 else a+p)=(if isB s a 94=true then a+1 else a)+p by split<;>omega];refine (h.item _).next fun t a1 e=>?_
 refine (h.items _ _ a1 t (z1l (za3 s _) e).2 (by omega)).next fun acc a2 _=>Lf.ok
theorem Cx.scan (h:Cx s S p):∀ (k k' a v:Nat),a<=s.length->s.length<a+k->k<=k'->z7h S k' (a+p) v=((z7h s k a v).1,(z7h s k a v).2+p)
 | 0,k',a,v,h1,h2,h3=>by omega
 | k + 1,k',a,v,h1,h2,h3=>by
   have hl:=h.len;obtain⟨j,rfl⟩:∃ j,k'=j+1:=⟨k' - 1,by omega⟩
   rw[z7h,z7h];rcases Nat.lt_or_ge a s.length with hlt|hge
   . rw[h.at_ a hlt];by_cases hd:zir (gb s a)=true
     . rw[if_pos ⟨(by omega:a+p<S.length),hd⟩,if_pos ⟨hlt,hd⟩,show a+p+1=a+1+p by omega];exact Cx.scan h k j (a+1) _ (by omega) (by omega) (by omega)
     . rw[if_neg (fun q=>hd q.2),if_neg (fun q=>hd q.2)]
   . obtain rfl:a=s.length:=by omega
     rw[if_neg (fun q=>by
      have:=h.end_ q.1;have q2:=q.2;rcases this with e|e<;>(rw[e] at q2;exact absurd q2 (by decide)))]
     rw[if_neg (fun q=>absurd q.1 (by omega))]
theorem Cx.num (h:Cx s S p){a:Nat}(ha:a<=s.length):Lf p (zru s a) (zru S (a+p)):=by
 have hl:=h.len;unfold zru;rw[h.scan (s.length+1) (S.length+1) a 0 ha (by omega) (by omega)];refine (h.next a).next fun c a1 _=>?_
 split
 . dsimp only;by_cases q:c=48/\a+1<(z7h s (s.length+1) a 0).2
   . rw[if_pos q];exact Lf.bad
   . have q':¬ (c=48/\a+p+1<(z7h s (s.length+1) a 0).2+p):=fun w=>q ⟨w.1,by omega⟩
     rw[if_neg q,if_neg q'];by_cases v:16<(z7h s (s.length+1) a 0).1
     . rw[if_pos v];exact Lf.bad
     . rw[if_neg v,if_neg v];exact Lf.ok
 . exact Lf.bad
theorem Cx.fin (h:Cx s S p)(lo hi fr fr' a:Nat):Lf p (zxo s lo hi fr a) (zxo S lo hi fr' (a+p)):=by
 unfold zxo;split
 . exact Lf.bad
 . exact (h.need a 125).next fun _ _ _=>Lf.ok
theorem Cx.braces (h:Cx s S p){a:Nat}(ha:a<=s.length):Lf p (z9n s a) (z9n S (a+p)):=by
 refine (h.num ha).next fun lo a1 e=>?_
 have hc:=z1l (zgk s a) e;rw[h.isb hc.2 (by decide)];split
 . rename_i h44;have hlt:a1<s.length:=by simp[isB] at h44;omega
   rw[show a1+p+1=a1+1+p by omega,h.isb (by omega) (by decide),show a1+p+2=a1+2+p by omega];split
   . exact Lf.ok
   . exact (h.num (by omega)).next fun hi a2 _=>h.fin lo hi _ _ a2
 . exact h.fin lo lo _ _ a1
def Ld {α:Type}(D:Prop)(p:Nat)(r r':PR α):Prop:=∀ x b,r=.ok x b->r'=.ok x (b+p)\/(D/\∃ c,r'=.bad 3 c)
theorem Lf.ld {α:Type}{D:Prop}{p:Nat}{r r':PR α}(h:Lf p r r'):Ld D p r r':=fun x b e=>Or.inl (h x b e)
theorem Ld.next {α β:Type}{D:Prop}{p:Nat}{r r':PR α}{f f':α->Nat->PR β}(h:Ld D p r r')(hf:∀ x b,r=.ok x b->Ld D p (f x b) (f' x (b+p))):Ld D p (r.next f) (r'.next f'):=by
 cases hr:r with
 | bad e c=>intro x b e;cases e
 | ok x b =>
   rcases h x b hr with e|⟨hD,c,e⟩
   . rw[e];exact hf x b hr
   . rw[e];exact fun _ _ _=>Or.inr ⟨hD,c,rfl⟩
def z1cr (D:Prop)(s:List UInt8)(p:Nat)(sub sub':Option (Nat->PR Tree)):Prop:=∀ f,sub=some f->(sub'=none/\D)\/∃ f',sub'=some f'/\∀ a,a<=s.length->∀ x b,f a=.ok x b->b<s.length->f' (a+p)=.ok x (b+p)\/(D/\∃ c,f' (a+p)=.bad 3 c)
theorem Cx.atom (h:Cx s S p) {D:Prop} {sub sub':Option (Nat->PR Tree)} (hS:z1cr D s p sub sub') {a:Nat} (ha:a<s.length):Ld D p (za1 sub s a) (za1 sub' S (a+p)):=by
 unfold za1;rw[h.at_ a ha,show a+p+1=a+1+p by omega];split
 . cases sub with
   | none=>exact fun x b e=>by cases e
   | some f =>
     intro x b e;rcases hS f rfl with⟨rfl,hD⟩|⟨f',rfl,hf⟩
     . exact Or.inr ⟨hD,_,rfl⟩
     . dsimp only at e ⊢;cases hr:f (a+1) with
       | bad ee c=>rw[hr] at e;cases e
       | ok t c =>
         rw[hr] at e;cases hn:zcp s c 41 with
         | bad ee c2=>simp only[PR.next,hn] at e;cases e
         | ok u c2 =>
           simp only[PR.next,hn] at e;have hc:c<s.length:=by
            rcases Nat.lt_or_ge c s.length with q|q
            . exact q
            . unfold zcp at hn;rw[zxm q] at hn;cases hn
           rcases hf (a+1) (by omega) t c hr hc with q|⟨hD,c3,q⟩
           . rw[q];simp only[PR.next];rw[h.need c 41 u c2 hn];cases e;exact Or.inl rfl
           . rw[q];exact Or.inr ⟨hD,c3,rfl⟩
 split
 . exact Lf.ok.ld
 split
 . refine ((h.cls (a:=a+1) (by omega)).next fun _ _ _=>?_).ld;exact Lf.ok
 split
 . refine ((h.esc a).next fun _ _ _=>?_).ld;exact Lf.ok
 split
 . exact Lf.bad.ld
 . exact Lf.ok.ld
theorem Cx.piece (h:Cx s S p){D:Prop}{sub sub':Option (Nat->PR Tree)}(hA:z16g s sub)(hS:z1cr D s p sub sub'){a:Nat}(ha:a<s.length):Ld D p (zb9 sub s a) (zb9 sub' S (a+p)):=by
 have hl:=h.len;refine (h.atom hS ha).next fun t a1 e=>?_
 have hc:=z1l (zeh hA ha) e;rcases Nat.lt_or_ge a1 s.length with hlt|hge
 . rw[if_pos hlt,if_pos (show a1+p<S.length by omega),h.at_ a1 hlt,show a1+p+1=a1+1+p by omega];split
   . exact Lf.ok.ld
   split
   . exact Lf.ok.ld
   split
   . exact Lf.ok.ld
   split
   . refine ((h.braces (a:=a1+1) (by omega)).next fun _ _ _=>?_).ld;exact Lf.ok
   . exact Lf.ok.ld
 . obtain rfl:a1=s.length:=by omega
   rw[if_neg (by omega)];split
   . rename_i h2;have:=h.end_ h2;rw[if_neg (by omega),if_neg (by omega),if_neg (by omega),if_neg (by omega)];exact Lf.ok.ld
   . exact Lf.ok.ld
theorem Cx.stop (h:Cx s S p){a:Nat}(ha:a<=s.length):zdd S (a+p)=zdd s a:=by
 have hl:=h.len;unfold zdd;rcases Nat.lt_or_ge a s.length with hlt|hge
 . rw[decide_eq_true hlt,decide_eq_true (show a+p<S.length by omega),h.at_ a hlt]
 . obtain rfl:a=s.length:=by omega
   rw[decide_eq_false (show ¬ s.length<s.length by omega)];rcases Nat.lt_or_ge (s.length+p) S.length with h2|h2
   . rcases h.end_ h2 with e|e<;>simp[e]
   . rw[decide_eq_false (by omega)];rfl
theorem Cx.cat (h:Cx s S p){D:Prop}{sub sub':Option (Nat->PR Tree)}(hA:z16g s sub)(hS:z1cr D s p sub sub'):∀ (k k' a:Nat) (ps:List Tree),a<=s.length->k<=k'->Ld D p (zih sub s k a ps) (zih sub' S k' (a+p) ps)
 | 0,k',a,ps,ha,hk=>Lf.bad.ld
 | k + 1,k',a,ps,ha,hk=>by
   obtain⟨j,rfl⟩:∃ j,k'=j+1:=⟨k' - 1,by omega⟩
   unfold zih;rw[h.stop ha];split
   . exact Lf.ok.ld
   . rename_i hst;have hlt:=z18v hst;refine (h.piece hA hS hlt).next fun t a1 e=>?_
     exact Cx.cat h hA hS k j a1 _ (z1l (zcl hA hlt) e).2 (by omega)
theorem Cx.altsL (h:Cx s S p) {D:Prop} {sub sub':Option (Nat->PR Tree)} (hA:z16g s sub) (hS:z1cr D s p sub sub') (Q:List Tree):∀ (k k' a:Nat) (ps L:List Tree) (b:Nat),a<=s.length->k<=k'->zjj sub s k a ps=.ok L b->(b<s.length\/isB S (s.length+p) 124=false) →
 zjj sub' S k' (a+p) (Q++ps)=.ok (Q++L) (b+p)\/(D/\∃ c,zjj sub' S k' (a+p) (Q++ps)=.bad 3 c)
 | 0,k',a,ps,L,b,ha,hk,e,hb=>by cases e
 | k + 1,k',a,ps,L,b,ha,hk,e,hb=>by
   have hl:=h.len;obtain⟨j,rfl⟩:∃ j,k'=j+1:=⟨k' - 1,by omega⟩
   rw[zjj] at e;rw[zjj];cases hi:isB s a 124 with
   | true =>
     rw[hi] at e;rw[h.isb_t hi,if_pos rfl];rw[if_pos rfl] at e;have hlt:a<s.length:=by simp[isB] at hi;omega
     cases hc:zih sub s (s.length+1) (a+1) [] with
     | bad x y=>rw[hc] at e;cases e
     | ok t a1 =>
       rw[hc] at e;have hp:=z1l (z6h hA _ (a+1) [] (by omega)) hc;rw[show a+p+1=a+1+p by omega];rcases h.cat hA hS (s.length+1) (S.length+1) (a+1) [] (by omega) (by omega) t a1 hc with q|⟨hD,c,q⟩
       . rw[q];simp only[PR.next];rw[List.append_assoc];exact Cx.altsL h hA hS Q k j a1 _ L b hp.2 (by omega) e hb
       . rw[q];exact Or.inr ⟨hD,c,rfl⟩
   | false =>
     rw[hi,if_neg (by simp)] at e;cases e;have hf:isB S (a+p) 124=false:=by
      rcases hb with hb|hb
      . rw[h.isb_in hb];exact hi
      . rcases Nat.lt_or_ge a s.length with hlt|hge
        . rw[h.isb_in hlt];exact hi
        . obtain rfl:a=s.length:=by omega
          exact hb
     rw[hf,if_neg (by simp)];exact Or.inl rfl
theorem Cx.alt (h:Cx s S p) {D:Prop}:∀ (d d':Nat),(d<=d'\/D)->∀ a,a<=s.length->∀ x b,zfv s d a=.ok x b->(b<s.length\/isB S (s.length+p) 124=false)->zfv S d' (a+p)=.ok x (b+p)\/(D/\∃ c,zfv S d' (a+p)=.bad 3 c):=by
 have step : ∀ (d d':Nat),z1cr D s p (zdr s d) (zdr S d')->∀ a,a<=s.length->∀ x b,zfv s d a=.ok x b->(b<s.length\/isB S (s.length+p) 124=false)->zfv S d' (a+p)=.ok x (b+p)\/(D/\∃ c,zfv S d' (a+p)=.bad 3 c):=by
  intro d d' hS a ha x b e hb;have hl:=h.len;rw[zwd] at e ⊢;cases hc:zih (zdr s d) s (s.length+1) a [] with
  | bad y z=>rw[hc] at e;cases e
  | ok t a1 =>
    rw[hc] at e;simp only[PR.next] at e;have hp:=z1l (z6h (za9 s d) _ a [] ha) hc;rcases h.cat (za9 s d) hS (s.length+1) (S.length+1) a [] ha (by omega) t a1 hc with q|⟨hD,c,q⟩
    . rw[q];simp only[PR.next];rw[ztz] at e ⊢;cases hL:zjj (zdr s d) s (s.length+1) a1 [t] with
      | bad y z=>rw[hL] at e;cases e
      | ok L b1 =>
        rw[hL] at e;cases e;rcases h.altsL (za9 s d) hS [] (s.length+1) (S.length+1) a1 [t] L _ hp.2 (by omega) hL hb with q|⟨hD,c,q⟩
        . simp only[List.nil_append] at q;rw[q];exact Or.inl rfl
        . simp only[List.nil_append] at q;rw[q];exact Or.inr ⟨hD,c,rfl⟩
    . rw[q];exact Or.inr ⟨hD,c,rfl⟩
 intro d
 induction d with
 | zero=>intro d' hd;exact step 0 d' (fun f e=>by cases e)
 | succ d ih =>
   intro d' hd;refine step (d+1) d' fun f e=>?_
   cases e;cases d' with
   | zero =>
     refine Or.inl ⟨rfl,?_⟩;rcases hd with hd|hd
     . omega
     . exact hd
   | succ d' =>
     refine Or.inr ⟨_,rfl,fun a ha x b e hb=>ih d' ?_ a ha x b e (Or.inl hb)⟩;rcases hd with hd|hd
     . exact Or.inl (by omega)
     . exact Or.inr hd
end
end Go.Proofs.YthgcpalmjcomlaaDoorLg
set_option linter.all false
set_option maxRecDepth 100000
namespace Go.Proofs.YthgcpalmjcomlaaDoorLg
noncomputable section
open Go Go.Lift Go.Proofs.YthgcpalmjcomlaaDoorPx
theorem Cx.sub {s S:List UInt8}{p:Nat}(h:Cx s S p){D:Prop}{d d':Nat}(hd:d<=d'\/D):z1cr D s p (zdr s d) (zdr S d'):=by
 intro f e;cases d with
 | zero=>cases e
 | succ d =>
   cases e;cases d' with
   | zero =>
     refine Or.inl ⟨rfl,?_⟩;rcases hd with hd|hd
     . omega
     . exact hd
   | succ d' =>
     refine Or.inr ⟨_,rfl,fun a ha x b e hb=>h.alt d d' ?_ a ha x b e (Or.inl hb)⟩;rcases hd with hd|hd
     . exact Or.inl (by omega)
     . exact Or.inr hd
end
end Go.Proofs.YthgcpalmjcomlaaDoorLg
set_option linter.all false
set_option maxRecDepth 100000
namespace Go.Proofs.YthgcpalmjcomlaaDoorLg
noncomputable section
open Go Go.Lift Go.Proofs.YthgcpalmjcomlaaDoorPx
def zuk (k:Int):Nat:=if k=3 then 3 else if k=2 then 2 else if k=4 then 1 else 0
def lvT (c:Nat)(k:Int):Nat:=4*(17 - c)+zuk k
theorem z15x {N:Nat}(hN:320<=N){k:Int}{st:List Int}{ks:List Tree}{lo hi:Int}(hg:Good (.mk k st ks lo hi)):z70 N (k,st,ks,lo,hi,())=some (z132 k st lo hi):=by
 obtain⟨w1,_⟩:=zcz hg.1;unfold z70 z132;dsimp only;by_cases h1:k=1
 . rw[z2a (beq_iff_eq.2 h1),if_pos h1,z11a (by omega) w1,Option.bind_some]
 . rw[z6u (beq_eq_false_iff_ne.2 h1),if_neg h1];by_cases h4:k=4
   . rw[z2a (beq_iff_eq.2 h4),if_pos h4];rcases zbh (z31 hg.2).1 with⟨q,_⟩|⟨q,_⟩|⟨q,_⟩|⟨_,_,_,ht⟩
     . exact absurd q h1
     . omega
     . omega
     . rw[zul (by omega) ht,Option.bind_some]
   . rw[z6u (beq_eq_false_iff_ne.2 h4),if_neg h4]
theorem z119 (k:Int):zuk k<=3:=by
 unfold zuk;split
 . omega
 . split
   . omega
   . split<;>omega
theorem z1gl {k:Int} {st:List Int} {ks:List Tree} {lo hi:Int} (hg:Good (.mk k st ks lo hi)) {x:Tree} (hx:x∈ks) {c:Nat} (hc:c<=16):lvT (c+(zam k (z2c x)).toNat) (z2c x)+1<=lvT c k:=by
 have hr:=z119 (z2c x);unfold lvT;cases he:zam k (z2c x) with
 | true=>simp only[Bool.toNat_true];omega
 | false =>
   simp only[Bool.toNat_false,Nat.add_zero];have hn:=of_decide_eq_false he;have:zuk (z2c x)+1<=zuk k:=by
    rcases zbh (z31 hg.2).1 with⟨_,q,_⟩|⟨h2,_,_,_,_,h5⟩|⟨h3,_,_,_,_,h5⟩|⟨h4,_⟩
    . rw[q] at hx;cases hx
    . have:=h5 x hx;subst h2;unfold zuk;rw[if_neg (by omega),if_neg this,if_neg (by omega:¬ (2:Int)=3),if_pos rfl];split<;>omega
    . have:=h5 x hx;subst h3;unfold zuk;rw[if_neg this,if_pos rfl];split
      . omega
      . split<;>omega
    . subst h4;have:z2c x=1:=by omega
      rw[this];decide
   omega
def KidSp (self:NodT.den->Bool->ziy->Option ziy)(k:Int)(c Y:Nat)(x:Tree):Prop:=∀ xs:List UInt8,xs.length<=Y+1->∃ s,self (unN x) (zam k (z2c x)) (xs,((c:Int),true))=some s ∧
 (xs.length<=256->s.1.length<=Y)/\(256<xs.length->s.1.length<=xs.length+2410/\s.2.2=false)/\(s.2.2=true->s=(xs++zom (zam k (z2c x)) (zbf x),((c:Int),true))/\c+(zjq x+(zam k (z2c x)).toNat)<=16)
theorem zsz (N:Nat) {self:NodT.den->Bool->ziy->Option ziy} {n:NodT.den} {k:Int} (hk:n.1=k) {c Y:Nat} (hc:c<=16) (hY:Y<=10000000):∀ (ks:List Tree) (i:Nat) (xs:List UInt8),(∀ x∈ks,KidSp self k c Y x)->xs.length<=Y →
 ∃ q,z9o N self n i ks (xs,((c:Int),true))=some q/\q.1.1.length<=Y+2411/\(q.1.2.2=true->q=((xs++zfu ks k i,((c:Int),true)),true)/\c+zjr ks k<=16)
 | [],i,xs,_,hx=>⟨_,rfl,by show xs.length<=_;omega,fun _=>⟨by rw[zfu,List.append_nil],by rw[zjr];omega⟩⟩
 | x :: rest,i,xs,hks,hx=>by
   have hb:zzu n i (xs,((c:Int),true))=some (xs++zq8 k i,((c:Int),true)):=by
    unfold zzu zq8;rw[hk];by_cases h:k=3/\0<i
    . rw[if_pos h,if_pos h,if_pos (show zc0 xs 1=true by unfold zc0;exact decide_eq_true (by omega))]
    . rw[if_neg h,if_neg h,List.append_nil]
   have hbl:=z16a k i;have hen:z27 N n (unN x)=some (zam k (z2c x)):=by rw[z133,hk];rfl
   obtain⟨s,h1,h2,h3,h4⟩:=hks x List.mem_cons_self (xs++zq8 k i) (by rw[List.length_append];omega);have hstep:z9o N self n i (x::rest) (xs,((c:Int),true))=z9o N self n (i+1) rest s:=by
    rw[z9o,if_neg (by simp),hb,Option.bind_some,hen,Option.bind_some,h1,Option.bind_some]
   rw[hstep];rw[List.length_append] at h2 h3;cases hf:s.2.2 with
   | true =>
     obtain⟨h5,h6⟩:=h4 hf;have hle:s.1.length<=Y:=by
      by_cases hl:xs.length+(zq8 k i).length<=256
      . exact h2 hl
      . have:=(h3 (by omega)).2;rw[hf] at this;cases this
     obtain⟨q,g1,g2,g3⟩:=zsz N hk hc hY rest (i+1) s.1 (fun y hy=>hks y (List.mem_cons_of_mem _ hy)) hle;have hs:s=(s.1,((c:Int),true)):=by rw[h5]
     rw[hs];refine⟨q,g1,g2,fun ht=>?_⟩;obtain⟨g4,g5⟩:=g3 ht;refine⟨?_,by rw[zjr];omega⟩;rw[g4,zfu,h5];simp only[List.append_assoc]
   | false =>
     have hle:s.1.length<=Y+2411:=by
      by_cases hl:xs.length+(zq8 k i).length<=256
      . have:=h2 hl;omega
      . have:=(h3 (by omega)).1;omega
     cases rest with
     | nil=>exact⟨(s,true),rfl,hle,fun ht=>by rw[hf] at ht;cases ht⟩
     | cons y ys=>exact⟨(s,false),by rw[z9o,if_pos hf],hle,fun ht=>by rw[hf] at ht;cases ht⟩
theorem zxb {N:Nat}{n:NodT.den}{E:List UInt8}(he:z70 N n=some E)(hE:E.length<=2400)(e:Bool){s:ziy}(hs:s.1.length<=100000000) :
 z156 N n e s=some (if e=true then (s.1++E++[41],(Go.RowKit.wrap64 (s.2.1 - 1),s.2.2)) else (s.1++E,s.2)):=by
 unfold z156;rw[he,Option.bind_some,if_pos (show zc0 s.1 (E.length+1)=true by unfold zc0;exact decide_eq_true (by omega))]
theorem z10b {N:Nat} (hN:320<=N):∀ (h:Nat) (t:Tree),z1z t<=h->Good t->∀ (e:Bool) (xs:List UInt8) (c:Nat),c<=16->xs.length<=10000000 →
 ∃ s,zod N h (unN t) e (xs,((c:Int),true))=some s/\(xs.length<=256->s.1.length<=256+5000*(lvT (c+e.toNat) (z2c t)+1))/\(256<xs.length->s.1.length<=xs.length+2410/\s.2.2=false) ∧
   (s.2.2=true->s=(xs++zom e (zbf t),((c:Int),true))/\c+(zjq t+e.toNat)<=16)
 | 0,t,hn,_=>by have:=zkh t;omega
 | h + 1,.mk k st ks lo hi,hn,hg=>by
   intro e xs c hc hx;have hen:=z15x hN hg;have hE:=z15y k st lo hi;obtain⟨w1,w2⟩:=zcz hg.1;have hkl:ks.length<=9223372036854775807:=by
    have hw:=hg.1;rw[WfN] at hw;have:=hw.2.2.1.1;unfold maxLen at this;omega
   obtain⟨c1,hc1⟩:∃ c1,c1=c+e.toNat:=⟨_,rfl⟩
   have he1:e.toNat<=1:=by cases e<;>decide
   obtain⟨xs1,hxs1⟩:∃ xs1,xs1=xs++(if e=true then [40] else []):=⟨_,rfl⟩
   have hl1:xs1.length=xs.length+e.toNat:=by rw[hxs1,List.length_append];cases e<;>simp
   have hin:z1gz e (xs,((c:Int),true))=some (xs1,((c1:Int),true)):=by
    unfold z1gz;cases e with
    | true =>
      rw[if_pos rfl,if_pos (show zc0 xs 1=true by unfold zc0;exact decide_eq_true (by omega)),hxs1,if_pos rfl,hc1];congr 3;unfold Go.RowKit.wrap64;simp only[Bool.toNat_true];omega
    | false =>
      rw[if_neg (by decide),hxs1,if_neg (by decide),List.append_nil,hc1];rfl
   show ∃ s,zod N (h+1) (k,st,ks,lo,hi,()) e (xs,((c:Int),true))=some s/\_;rw[zod];dsimp only;rw[if_pos (show decide (ks.length<=9223372036854775807)=true from decide_eq_true hkl),hin,Option.bind_some];have hk2:z2c (.mk k st ks lo hi)=k:=rfl;have hlv:lvT c1 k<=71:=by have:=z119 k;unfold lvT;omega
   rw[hk2,<- hc1];by_cases hfit:xs1.length<=256/\c1<=16
   . have hf : znp (xs1,((c1:Int),true))=(xs1,((c1:Int),true)):=by
      unfold znp;rw[decide_eq_true hfit.1,decide_eq_true (show (c1:Int)<=16 by omega)];rfl
     rw[hf];obtain⟨q,g1,g2,g3⟩:=zsz N (self:=zod N h) (n:=(k,st,ks,lo,hi,())) (k:=k) rfl hfit.2 (Y:=256+5000*lvT c1 k) (by omega) ks 0 xs1 (fun x hxm zs hz=>by
      have hgx:Good x:=⟨w2 x hxm,(z31 hg.2).2 x hxm⟩
      have hnx:=zn7 (k:=k) (st:=st) (lo:=lo) (hi:=hi) hxm;have hlk:=z1gl hg hxm hfit.2;obtain⟨s,a1,a2,a3,a4⟩:=z10b hN h x (by omega) hgx (zam k (z2c x)) zs c1 hfit.2 (by omega);exact⟨s,a1,fun hh=>by have:=a2 hh;omega,a3,a4⟩) (by omega)
     rw[g1,Option.bind_some];by_cases hq:q.2=false
     . rw[if_pos hq];have hff:q.1.2.2≠true:=fun ht=>by rw[(g3 ht).1] at hq;cases hq
       exact⟨q.1,rfl,fun _=>by omega,fun hh=>by omega,fun ht=>absurd ht hff⟩
     . rw[if_neg hq,zxb hen hE e (by omega)];refine⟨_,rfl,fun _=>?_,fun hh=>by omega,fun ht=>?_⟩
       . cases e with
         | true=>rw[if_pos rfl];simp only[List.length_append,List.length_cons,List.length_nil];omega
         | false=>rw[if_neg (by decide)];simp only[List.length_append];omega
       . have hqt:q.1.2.2=true:=by
          cases e with
          | true=>rw[if_pos rfl] at ht;exact ht
          | false=>rw[if_neg (by decide)] at ht;exact ht
         obtain⟨g4,g5⟩:=g3 hqt;rw[g4];refine⟨?_,by rw[zjq];omega⟩;rw[zbf,hxs1];cases e with
         | true =>
           rw[if_pos rfl,if_pos rfl,zom,if_pos rfl];have hw:Go.RowKit.wrap64 ((c1:Int) - 1)=(c:Int):=by
            simp only[Bool.toNat_true] at hc1;unfold Go.RowKit.wrap64;omega
           simp only[hw,List.append_assoc]
         | false =>
           have:c1=c:=by simp only[Bool.toNat_false] at hc1;omega
           rw[if_neg (by decide),if_neg (by decide),zom,if_neg (by decide),this];simp only[List.append_assoc,List.append_nil,List.nil_append]
   . have hf:znp (xs1,((c1:Int),true))=(xs1,((c1:Int),false)):=by
      unfold znp;by_cases h1:xs1.length<=256
      . rw[decide_eq_true h1,decide_eq_false (show ¬ (c1:Int)<=16 by omega)];rfl
      . rw[decide_eq_false h1];rfl
     rw[hf];cases ks with
     | nil =>
       rw[z9o,Option.bind_some,if_neg (by simp),zxb hen hE e (by show xs1.length<=_;omega)];refine⟨_,rfl,fun _=>?_,fun _=>⟨?_,?_⟩,fun ht=>?_⟩
       . cases e with
         | true=>rw[if_pos rfl];simp only[List.length_append,List.length_cons,List.length_nil];omega
         | false=>rw[if_neg (by decide)];simp only[List.length_append];omega
       . cases e with
         | true=>rw[if_pos rfl];simp only[List.length_append,List.length_cons,List.length_nil];omega
         | false=>rw[if_neg (by decide)];simp only[List.length_append];omega
       . cases e with
         | true=>rw[if_pos rfl]
         | false=>rw[if_neg (by decide)]
       . exfalso;cases e with
         | true=>rw[if_pos rfl] at ht;cases ht
         | false=>rw[if_neg (by decide)] at ht;cases ht
     | cons y ys =>
       rw[z9o,if_pos rfl,Option.bind_some,if_pos rfl];exact⟨_,rfl,fun _=>by show xs1.length<=_;omega,fun _=>⟨by show xs1.length<=_;omega,rfl⟩,fun ht=>by cases ht⟩
theorem z1dr {N:Nat}{t:Tree}(hN:z1z t+320<=N)(hw:WfN t):∃ r,z5i N (unN t)=some r/\(r.2.1=false->r.1=[])/\(r.2.1=true->Good t/\r.1=zbf t/\(zbf t).length<=256/\zjq t<=16):=by
 unfold z5i;rw[zmx N t (by omega) hw,Option.bind_some];cases hr:zb2 t with
 | false=>rw[if_pos rfl];exact⟨([],(false,())),rfl,(fun _=>rfl),(fun h=>by cases h)⟩
 | true =>
   rw[if_neg (by decide)];obtain⟨s,h1,h2,h3,h4⟩:=z10b (N:=N) (by omega) N t (by omega) ⟨hw,hr⟩ false [] 0 (by omega) (by simp);have h1':zod N N (unN t) false ([],((0:Int),true))=some s:=h1;rw[h1',Option.bind_some];by_cases hq:s.2.2=true/\s.1.length<=256
   . rw[if_pos hq];obtain⟨g1,g2⟩:=h4 hq.1;have e:s.1=zbf t:=by rw[g1,zom,if_neg (by decide)];rfl
     rw[e] at hq;refine⟨(s.1,(true,())),rfl,(fun h=>by cases h),(fun _=>⟨⟨hw,hr⟩,e,hq.2,?_⟩)⟩;simp only[Bool.toNat_false] at g2;omega
   . rw[if_neg hq];exact⟨([],(false,())),rfl,(fun _=>rfl),(fun h=>by cases h)⟩
end
end Go.Proofs.YthgcpalmjcomlaaDoorLg
set_option linter.all false
set_option maxRecDepth 100000
namespace Go.Proofs.YthgcpalmjcomlaaDoorLg
noncomputable section
open Go Go.Lift Go.Proofs.YthgcpalmjcomlaaDoorPx
theorem zyi (k:Nat):z46 (k+2500)=some true:=by kernel_rfl
theorem z1c8 (s:List UInt8):∃ N,z23 N s=some true:=by
 refine⟨3000+2500,?_⟩;have w:=zyi 3000;have hp:=z11l (N:=3000+2500) (by omega) s;obtain⟨hw,hn⟩:=zz4 s;obtain⟨⟨t,is,⟨⟩⟩,h1,h2,h3⟩:=z1dr (N:=3000+2500) (t:=zme (zba s)) (by omega) hw;have hpt:=z11l (N:=3000+2500) (by omega) t;have hsa:=zpd (3000+2500) (zme (zba s)) (zme (zba s)) (by omega) hw;generalize 3000+2500=N at *;simp only at h2 h3;rw[z23,w];by_cases hl:200<s.length
 . rw[z2a (decide_eq_true (by omega))];rfl
 rw[z6u (decide_eq_false (by omega)),hp,Option.bind_some,z150,h1,Option.bind_some,z4e,z4d,w];dsimp only;cases hf:((psF (zba s)).2.1.1 != (0:Int)) with
 | true=>rfl
 | false =>
   rw[cond_false];cases is with
   | false=>rfl
   | true =>
     obtain⟨g1,g2,g3,g4⟩:=h3 rfl;subst g2;rw[Bool.not_true,cond_false,hpt,Option.bind_some,zz5 g1 g3 g4];have e1:(psF (PR.ok (zme (zba s)) (zbf (zme (zba s))).length)).1=unN (zme (zba s)):=rfl;have e2:(psF (PR.ok (zme (zba s)) (zbf (zme (zba s))).length)).2.1=((0:Int),((0:Int),())):=rfl;rw[e1,e2,h1,Option.bind_some,show eqD (T.pair (T.int Go.IntKind.i64) (T.pair (T.int Go.IntKind.i64) T.unit)) ((0:Int),((0:Int),())) ((0:Int),((0:Int),()))=true from rfl,cond_true,hsa,Option.bind_some,zp7,cond_true];dsimp only;rw[beq_self_eq_true];rfl
end
end Go.Proofs.YthgcpalmjcomlaaDoorLg
set_option linter.all false
namespace Go.Proofs.YthgcpalmjcomlaaDoorPx
noncomputable section
open Go Go.Lift
theorem zub {P:Program}{w:World}{base:Nat}{sp:Nat->Bool}{held:Bool}{fuel:Nat}{t:TypeId}{c:Value}{s:List UInt8}{p:List MemPlace}
 (ht:P.underlying t=some .string) (h:DataW.trod (fun _=>()) P w base sp held fuel t [c]=some (.lit (.string s),p)):c=.string ⟨⟨s⟩⟩:=by
 cases fuel with
 | zero=>simp[DataW.trod] at h
 | succ fuel =>
   cases c<;>simp[DataW.trod,ht] at h
   obtain⟨_,h,_⟩:=h;subst h;rfl
theorem zv7 {P:Program} {w:World} {base:Nat} {sp:Nat->Bool} {held:Bool} {fuel:Nat} {e:TypeId} {f0 f1 f2:Field} {k:IntKind} {a b:Int} {s:List UInt8} {cs:List Value} {p:List MemPlace}
 (he:P.underlying e=some (.struct #[f0,f1,f2])) (h0:P.underlying f0.type=some (.int k)) (h1:P.underlying f1.type=some (.int k)) (h2:P.underlying f2.type=some .string) (o0:f0.offset=0) (o1:f1.offset=1) (o2:f2.offset=2) (c0:P.cellsOf f0.type=1) (c1:P.cellsOf f1.type=1) (c2:P.cellsOf f2.type=1) (ce:P.cellsOf e=3)
 (h:DataW.trod (fun _=>()) P w base sp held fuel e cs=some (.agg [.lit (.int k a),.lit (.int k b),.lit (.string s)],p)):cs=[.int k a,.int k b,.string ⟨⟨s⟩⟩]:=by
 cases fuel with
 | zero=>simp[DataW.trod] at h
 | succ fuel =>
   simp only[DataW.trod,he,ce] at h;split at h
   . rename_i hl;obtain⟨x,y,z,rfl⟩:∃ x y z,cs=[x,y,z]:=by
      match cs,hl with
      | [x,y,z],_=>exact⟨x,y,z,rfl⟩
     simp only[o0,o1,o2,c0,c1,c2,List.mapM_cons,List.mapM_nil,Option.map_eq_some_iff,Option.bind_eq_bind,Option.bind_eq_some_iff,Option.pure_def,Option.some.injEq,List.drop_zero,List.drop_succ_cons,List.take_succ_cons,List.take_zero] at h;obtain⟨xs,⟨y0,g0,_,⟨y1,g1,_,⟨y2,g2,_,rfl,rfl⟩,rfl⟩,rfl⟩,hx⟩:=h;obtain⟨n0,rfl,rfl⟩:=zim h0 g0;obtain⟨n1,rfl,rfl⟩:=zim h1 g1;simp at hx;obtain⟨⟨rfl,rfl,h3⟩,_⟩:=hx;obtain⟨y2a,y2b⟩:=y2;dsimp only at h3;subst h3;rw[zub h2 g2]
   . cases h
abbrev iisT (k:IntKind):T:=.pair (.int k) (.pair (.int k) (.pair .str .unit))
theorem z145 (S:Hp)(k:IntKind):∀ (l:List (Int×(Int×(List UInt8×Unit)))) (cs:List Value),cs.length=3*l.length->(∀ i,(h:i<l.length)->(cs.drop (i*3)).take 3=[.int k (l[i]).1,.int k (l[i]).2.1,.string ⟨⟨(l[i]).2.2.1⟩⟩])->All (Rd S (iisT k)) l cs
 | [],cs,hl,_=>List.length_eq_zero_iff.1 (by simpa using hl)
 | x :: r,cs,hl,h=>by
   refine⟨cs.take 3,cs.drop 3,(List.take_append_drop 3 cs).symm,?_,z145 S k r (cs.drop 3) (by simp at hl ⊢;omega) fun i hi=>?_⟩
   . have:=h 0 (by simp);simp only[Nat.zero_mul,List.drop_zero,List.getElem_cons_zero] at this;rw[this];exact⟨[_],[_,_],rfl,rfl,[_],[_],rfl,rfl,[_],[],rfl,rfl,rfl⟩
   . have:=h (i+1) (by simpa using hi);simp only[List.getElem_cons_succ] at this;rw[List.drop_drop,show 3+i*3=(i+1)*3 by omega];exact this
theorem z15s {P:Program}{W:World}{name:String}{g:Nat}{t e:TypeId}{f0 f1 f2:Field}{k:IntKind}{n:Nat}{l:List (Int×(Int×(List UInt8×Unit)))}{r:List (String×DataW Unit)}{ps:List MemPlace}
 (hg:P.globalNamed name=some g) (hty:(P.globals[g]?).map (·.type)=some t) (ht:P.underlying t=some (.array n e)) (he:P.underlying e=some (.struct #[f0,f1,f2])) (h0:P.underlying f0.type=some (.int k)) (h1:P.underlying f1.type=some (.int k)) (h2:P.underlying f2.type=some .string) (o0:f0.offset=0) (o1:f1.offset=1) (o2:f2.offset=2) (c0:P.cellsOf f0.type=1) (c1:P.cellsOf f1.type=1) (c2:P.cellsOf f2.type=1) (ce:P.cellsOf e=3) (ct:P.cellsOf t=3*n)
 (h:DataW.LaidVars P W ((name,.agg (l.map fun x=>.agg [.lit (.int k x.1),.lit (.int k x.2.1),.lit (.string x.2.2.1)]))::r) ps) :
 VR (hp W) (.ptr (.arr n (iisT k))) l (.pointer (some ⟨g,0,none⟩))/\∃ q,DataW.LaidVars P W r q:=by
 obtain⟨g',t',cs,fuel,p,q,e1,e2,e3,e4,e5,_⟩:=h;obtain rfl:=Option.some.inj (hg.symm.trans e1);obtain rfl:=Option.some.inj (hty.symm.trans e2);refine⟨?_,q,e5⟩;simp only[World.var?,hg,Option.bind_some] at e3;split at e3
 case h_2=>cases e3
 rename_i cs' t2 fr hh;simp only[Option.some.injEq] at e3;subst e3;cases fuel with
 | zero=>simp[DataW.trod] at e4
 | succ fuel =>
   simp only[DataW.trod,ht,ce,ct] at e4;split at e4
   case isFalse=>cases e4
   rename_i hlen;simp only[Option.map_eq_some_iff] at e4;obtain⟨xs,hm,hx⟩:=e4;obtain⟨m1,m2⟩:=znc hm;simp only[Prod.mk.injEq,DataW.agg.injEq] at hx;have hl:l.length=n:=by
    have:=congrArg List.length hx.1;simp only[List.length_map,List.length_range] at this m1;omega
   refine VR.of_one rfl ⟨g,0,cs'.toList,rfl,⟨cs',t2,fr,[],[],hh,by simp,rfl⟩,hl,z145 (hp W) k l cs'.toList (by omega) fun i hi=>?_⟩;obtain⟨y,y1,y2⟩:=m2 i (by simp;omega);simp only[List.getElem_range] at y2;have hy:(xs.map (·.1))[i]?=some y.1:=by rw[List.getElem?_map,y1];rfl
   rw[hx.1,List.getElem?_map,List.getElem?_eq_getElem hi,Option.map_some,Option.some.injEq] at hy;obtain⟨y0,yp⟩:=y;dsimp only at hy;subst hy;exact zv7 he h0 h1 h2 o0 o1 o2 c0 c1 c2 ce y2
theorem zsw {P:Program}{W:World}{name:String}{d:DataW Unit}{r:List (String×DataW Unit)}{ps:List MemPlace}(h:DataW.LaidVars P W ((name,d)::r) ps):∃ q,DataW.LaidVars P W r q:=by
 obtain⟨g',t',cs,fuel,p,q,e1,e2,e3,e4,e5,_⟩:=h;exact⟨q,e5⟩
end
end Go.Proofs.YthgcpalmjcomlaaDoorPx
