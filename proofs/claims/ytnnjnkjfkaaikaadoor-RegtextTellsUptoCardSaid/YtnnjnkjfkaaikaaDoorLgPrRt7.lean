import Derived.Test.YtnnjnkjfkaaikaaDoorLgW
import Derived.LaidLaws
import Derived.Test.YtnnjnkjfkaaikaaDoorLgPrRt6
import Derived.KernelRfl
set_option linter.all false
namespace Go.Proofs.YtnnjnkjfkaaikaaDoorPx
noncomputable section
open Go Go.Lift
theorem zp3 {α β:Type}{f:α->Option β}:∀ {l:List α} {ys:List β},l.mapM f=some ys->ys.length=l.length/\∀ i,(h:i<l.length)->∃ y,ys[i]?=some y/\f l[i]=some y
 | [],ys,h=>by simp at h;subst h;simp
 | a :: l,ys,h=>by
   simp only[List.mapM_cons,Option.pure_def,Option.bind_eq_bind,Option.bind_eq_some_iff,Option.some.injEq] at h;obtain⟨y,hy,zs,hz,rfl⟩:=h;obtain⟨h1,h2⟩:=zp3 hz;refine⟨by simp[h1],fun i hi=>?_⟩;cases i with
   | zero=>exact⟨y,rfl,hy⟩
   | succ i =>
     obtain⟨z,e1,e2⟩:=h2 i (by simpa using hi);exact⟨z,by simpa using e1,by simpa using e2⟩
theorem zki {H:Type}{enc:TypeId×Value->H}{P:Program}{w:World}{base:Nat}{sp:Nat->Bool}{held:Bool}{fuel:Nat}{t:TypeId}{k:IntKind}{c:Value}{y:DataW H×List MemPlace}
 (ht:P.underlying t=some (.int k)) (h:DataW.trod enc P w base sp held fuel t [c]=some y):∃ n,c=.int k n/\y=(.lit (.int k n),[]):=by
 cases fuel with
 | zero=>simp[DataW.trod] at h
 | succ fuel =>
   cases c<;>simp[DataW.trod,ht] at h
   rename_i k' n;obtain⟨⟨rfl,_⟩,rfl⟩:=h;exact⟨n,rfl,rfl⟩
theorem zui {P:Program} {w:World} {base:Nat} {sp:Nat->Bool} {held:Bool} {fuel:Nat} {t e:TypeId} {k:IntKind} {n:Nat} {cs:List Value} {ns:List Int} {p:List MemPlace}
 (ht:P.underlying t=some (.array n e)) (he:P.underlying e=some (.int k)) (hc:P.cellsOf e=1) (hct:P.cellsOf t=n)
 (h:DataW.trod (fun _=>()) P w base sp held fuel t cs=some (.agg (ns.map fun i=>.lit (.int k i)),p)):cs=ns.map (fun i=>.int k i)/\ns.length=n:=by
 cases fuel with
 | zero=>simp[DataW.trod] at h
 | succ fuel =>
   simp only[DataW.trod,ht,hc,hct] at h;split at h
   . rename_i hl;simp only[Option.map_eq_some_iff] at h;obtain⟨xs,hm,hx⟩:=h;obtain⟨h1,h2⟩:=zp3 hm;simp only[Prod.mk.injEq,DataW.agg.injEq] at hx;have hlen:ns.length=n:=by
      have:=congrArg List.length hx.1;simp only[List.length_map,List.length_range] at this h1;omega
     refine⟨List.ext_getElem? fun i=>?_,hlen⟩;by_cases hi:i<n
     . obtain⟨y,e1,e2⟩:=h2 i (by simpa using hi);have hci:(cs.drop (i*1)).take 1=[cs[i]'(by omega)]:=by
        rw[Nat.mul_one,List.drop_eq_getElem_cons (by omega:i<cs.length)];rfl
       simp only[List.getElem_range] at e2;rw[hci] at e2;obtain⟨m,hm1,hm2⟩:=zki he e2;have hy:(xs.map (·.1))[i]?=some (.lit (.int k m)):=by rw[List.getElem?_map,e1,hm2];rfl
       rw[hx.1,List.getElem?_map] at hy;have hn:ns[i]?=some (ns[i]'(by omega)):=List.getElem?_eq_getElem (by omega);rw[hn] at hy;simp only[Option.map_some,Option.some.injEq,DataW.lit.injEq,Lit.int.injEq,true_and] at hy;rw[List.getElem?_eq_getElem (by omega:i<cs.length),hm1,List.getElem?_map,hn,Option.map_some,hy]
     . rw[List.getElem?_eq_none (by omega),List.getElem?_eq_none (by rw[List.length_map];omega)]
   . cases h
theorem zls (S:Hp)(k:IntKind):∀ ns:List Int,All (Rd S (.int k)) ns (ns.map fun i=>.int k i)
 | []=>rfl
 | x::r=>⟨[.int k x],_,rfl,rfl,zls S k r⟩
end
end Go.Proofs.YtnnjnkjfkaaikaaDoorPx
set_option linter.all false
namespace Go.Proofs.YtnnjnkjfkaaikaaDoorPx
noncomputable section
open Go Go.Lift
theorem z18b (x:Int):IntKind.wrap .u8 x=x % 256:=by
 simp only[IntKind.wrap,IntKind.bits,IntKind.signed,Bool.false_and,Bool.false_eq_true,if_false];rfl
theorem zlt {x:Int}(h0:0<=x)(h1:x<256):IntKind.wrap .u8 x=x:=by rw[z18b];omega
theorem zkv {i:Nat}(h:i<9223372036854775807):IntKind.wrap .i64 ((i:Int)+1)=((i+1:Nat):Int):=by
 rw[z5x (by unfold I64;omega)];omega
theorem getD_mem {α:Type}(l:List α)(d:α)(i:Nat)(h:i<l.length):l.getD i d∈l:=by
 rw[List.getD_eq_getElem?_getD,List.getElem?_eq_getElem h];simp
theorem z13y {α:Type}(l:List α)(d:α)(i:Nat)(h:i<l.length):l.drop i=l.getD i d::l.drop (i+1):=by
 rw[List.getD_eq_getElem?_getD,List.getElem?_eq_getElem h,Option.getD_some,List.drop_eq_getElem_cons h]
theorem zuu {α:Type}(l:List α){i:Nat}(h:l.length<=i):l.drop i=[]:=List.drop_of_length_le h
theorem zqh {p:Prop}[Decidable p](h:p):decide p=true:=decide_eq_true h
theorem z142 {p:Prop}[Decidable p](h:¬ p):decide p=false:=decide_eq_false h
end
end Go.Proofs.YtnnjnkjfkaaikaaDoorPx
set_option linter.all false
namespace Go.Proofs.YtnnjnkjfkaaikaaDoorPx
noncomputable section
open Go Go.Lift
def U64 (x:Int):Prop:=0<=x/\x<18446744073709551616
instance (x:Int):Decidable (U64 x):=by unfold U64;infer_instance
def bit (w:Int)(i:Nat):Bool:=w.toNat.testBit i
theorem zrr (x:Int):IntKind.wrap .u64 x=x % 18446744073709551616:=rfl
theorem zru (x:Int):U64 (IntKind.wrap .u64 x):=by rw[zrr];unfold U64;omega
theorem z56 {x:Int}(h:U64 x):IntKind.wrap .u64 x=x:=by rw[zrr];unfold U64 at h;omega
theorem zm9 {x:Int}(h:U64 x):(BitVec.ofInt 64 x).toNat=x.toNat:=by
 unfold U64 at h;rw[BitVec.toNat_ofInt];omega
theorem z14e (v:BitVec 64):U64 ((v.toNat:Nat):Int):=by
 have:=v.isLt;unfold U64;omega
theorem zt7 {x y:Int}(hx:U64 x)(hy:U64 y):zb .and .u64 x y=((x.toNat &&& y.toNat:Nat):Int):=by
 have e:zb .and .u64 x y=IntKind.wrap .u64 ((BitVec.ofInt 64 x &&& BitVec.ofInt 64 y).toNat:Int):=rfl;rw[e,z56 (z14e _),BitVec.toNat_and,zm9 hx,zm9 hy]
theorem z1f5 {x y:Int}(hx:U64 x)(hy:U64 y):zb .or .u64 x y=((x.toNat ||| y.toNat:Nat):Int):=by
 have e:zb .or .u64 x y=IntKind.wrap .u64 ((BitVec.ofInt 64 x ||| BitVec.ofInt 64 y).toNat:Int):=rfl;rw[e,z56 (z14e _),BitVec.toNat_or,zm9 hx,zm9 hy]
theorem z18a {x y:Int}(hx:U64 x)(hy:U64 y):zb .xor .u64 x y=((x.toNat ^^^ y.toNat:Nat):Int):=by
 have e:zb .xor .u64 x y=IntKind.wrap .u64 ((BitVec.ofInt 64 x ^^^ BitVec.ofInt 64 y).toNat:Int):=rfl;rw[e,z56 (z14e _),BitVec.toNat_xor,zm9 hx,zm9 hy]
theorem z18l {x y:Int}(hx:U64 x)(hy:U64 y):U64 (zb .and .u64 x y):=by
 have e:zb .and .u64 x y=IntKind.wrap .u64 ((BitVec.ofInt 64 x &&& BitVec.ofInt 64 y).toNat:Int):=rfl;rw[e];exact zru _
theorem z1el {x y:Int}(hx:U64 x)(hy:U64 y):U64 (zb .or .u64 x y):=by
 have e:zb .or .u64 x y=IntKind.wrap .u64 ((BitVec.ofInt 64 x ||| BitVec.ofInt 64 y).toNat:Int):=rfl;rw[e];exact zru _
theorem z18k {x y:Int}(hx:U64 x)(hy:U64 y):U64 (zb .xor .u64 x y):=by
 have e:zb .xor .u64 x y=IntKind.wrap .u64 ((BitVec.ofInt 64 x ^^^ BitVec.ofInt 64 y).toNat:Int):=rfl;rw[e];exact zru _
theorem z1d1 {x y:Int}(hx:U64 x)(hy:U64 y)(i:Nat):bit (zb .and .u64 x y) i=(bit x i && bit y i):=by
 rw[zt7 hx hy];simp only[bit,Int.toNat_natCast,Nat.testBit_and]
theorem z1qz {x y:Int}(hx:U64 x)(hy:U64 y)(i:Nat):bit (zb .or .u64 x y) i=(bit x i || bit y i):=by
 rw[z1f5 hx hy];simp only[bit,Int.toNat_natCast,Nat.testBit_or]
theorem zlx:U64 18446744073709551615:=by unfold U64;omega
theorem z1d0 {x:Int}(hx:U64 x){i:Nat}(hi:i<64):bit (zb .xor .u64 18446744073709551615 x) i=!bit x i:=by
 rw[z18a zlx hx];have e:(18446744073709551615:Int).toNat=2^64 - 1:=rfl;simp only[bit,Int.toNat_natCast,Nat.testBit_xor,e,Nat.testBit_two_pow_sub_one,hi,decide_true,Bool.true_xor]
theorem zvl {n:Nat}(hn:n<64):U64 ((2^n:Nat):Int):=by
 have hp:2^n<2^64:=Nat.pow_lt_pow_right (by omega) hn;have e:(2:Nat)^64=18446744073709551616:=rfl;rw[e] at hp;generalize 2^n=q at hp;unfold U64;omega
theorem shl1 {n:Nat}(hn:n<64):z11d .u64 1 (n:Int)=((2^n:Nat):Int):=by
 have e:z11d .u64 1 (n:Int)=IntKind.wrap .u64 (1*2^(min (n:Int).toNat 64)):=rfl;have hp:2^n<2^64:=Nat.pow_lt_pow_right (by omega) hn;rw[e,Int.toNat_natCast,Nat.min_eq_left (by omega),Int.one_mul];have e2:((2:Int)^n)=((2^n:Nat):Int):=by rw[Int.natCast_pow];rfl
 rw[e2,z56 (zvl hn)]
theorem z1cz (n i:Nat):bit ((2^n:Nat):Int) i=decide (n=i):=by
 simp only[bit,Int.toNat_natCast,Nat.testBit_two_pow]
theorem z1cy {x:Int}(hx:U64 x){n:Nat}(hn:n<64)(i:Nat):bit (zb .or .u64 x (z11d .u64 1 (n:Int))) i=(bit x i || decide (n=i)):=by
 rw[shl1 hn,z1qz hx (zvl hn),z1cz]
theorem zvq {x:Int}(hx:0<=x){n:Nat}(hn:n<64):z21 .u64 x (n:Int)=((x.toNat >>> n:Nat):Int):=by
 have e:z21 .u64 x (n:Int)=x.fdiv (2^(min (n:Int).toNat 64)):=rfl;rw[e,Int.toNat_natCast,Nat.min_eq_left (by omega),Nat.shiftRight_eq_div_pow];have e2:((2:Int)^n)=((2^n:Nat):Int):=by rw[Int.natCast_pow];rfl
 rw[e2,Int.fdiv_eq_ediv_of_nonneg _ (Int.natCast_nonneg _),Int.natCast_ediv];congr 1;omega
theorem z1by {x:Int}(hx:U64 x){n:Nat}(hn:n<64):(zb .and .u64 (z21 .u64 x (n:Int)) 1 == 1)=bit x n:=by
 have hs:U64 (z21 .u64 x (n:Int)):=by
  rw[zvq hx.1 hn,Nat.shiftRight_eq_div_pow];have h:=Nat.div_le_self x.toNat (2^n);generalize x.toNat / 2^n=q at *;unfold U64 at *;omega
 rw[zt7 hs (by unfold U64;omega),zvq hx.1 hn];simp only[Int.toNat_natCast,bit,Nat.testBit];have e:(1:Int).toNat=1:=rfl;rw[e,Nat.and_comm (x.toNat >>> n) 1];have h01:1 &&& (x.toNat >>> n)=(x.toNat >>> n) % 2:=by rw[Nat.and_comm];exact Nat.and_one_is_mod _
 rw[h01];have:(x.toNat >>> n) % 2<2:=Nat.mod_lt _ (by omega);rcases Nat.lt_or_ge ((x.toNat >>> n) % 2) 1 with h|h
 . have h0:(x.toNat >>> n) % 2=0:=by omega
   rw[h0];rfl
 . have h0:(x.toNat >>> n) % 2=1:=by omega
   rw[h0];rfl
def zli:Nat->Int->Int
 | 0,w=>w
 | n+1,w=>zli n (w.tdiv 2)
theorem zuj:∀ (n:Nat) {w:Int},0<=w->zli n w=((w.toNat / 2^n:Nat):Int)
 | 0,w,h=>by simp only[zli,Nat.pow_zero,Nat.div_one];omega
 | n+1,w,h=>by
   have h2:w.tdiv 2=((w.toNat / 2:Nat):Int):=by rw[Int.tdiv_eq_ediv_of_nonneg h];omega
   rw[zli,zuj n (by rw[h2];omega),h2,Int.toNat_natCast,Nat.div_div_eq_div_mul,Nat.pow_succ,Nat.mul_comm 2]
theorem z10j {x:Int}(hx:0<=x)(n:Nat):((zli n x).tmod 2 == 1)=bit x n:=by
 rw[zuj n hx,Int.tmod_eq_emod_of_nonneg (Int.natCast_nonneg _),bit,Nat.testBit_eq_decide_div_mod_eq];generalize x.toNat / 2^n=q;rcases Nat.mod_two_eq_zero_or_one q with h|h
 . rw[h];have:((q:Nat):Int) % 2=0:=by omega
   rw[this];rfl
 . rw[h];have:((q:Nat):Int) % 2=1:=by omega
   rw[this];rfl
def SetOk (s:List Int):Prop:=∃ a b c d,s=[a,b,c,d]/\U64 a/\U64 b/\U64 c/\U64 d
def z3n (s:List Int)(b:Nat):Bool:=bit (s.getD (b / 64) 0) (b % 64)
theorem SetOk.length {s:List Int}(h:SetOk s):s.length=4:=by
 obtain⟨a,b,c,d,rfl,_⟩:=h;rfl
theorem SetOk.word {s:List Int}(h:SetOk s){i:Nat}(hi:i<4):U64 (s.getD i 0):=by
 obtain⟨a,b,c,d,rfl,ha,hb,hc,hd⟩:=h
 match i,hi with
 | 0,_=>exact ha
 | 1,_=>exact hb
 | 2,_=>exact hc
 | 3,_=>exact hd
theorem SetOk.set {s:List Int}(h:SetOk s){i:Nat}(hi:i<4){x:Int}(hx:U64 x):SetOk (s.set i x):=by
 obtain⟨a,b,c,d,rfl,ha,hb,hc,hd⟩:=h
 match i,hi with
 | 0,_=>exact⟨x,b,c,d,rfl,hx,hb,hc,hd⟩
 | 1,_=>exact⟨a,x,c,d,rfl,ha,hx,hc,hd⟩
 | 2,_=>exact⟨a,b,x,d,rfl,ha,hb,hx,hd⟩
 | 3,_=>exact⟨a,b,c,x,rfl,ha,hb,hc,hx⟩
def zipS (f:Int->Int->Int)(s t:List Int):List Int:=List.zipWith f s t
theorem SetOk.zip {s t:List Int}(f:Int->Int->Int)(hf:∀ x y,U64 x->U64 y->U64 (f x y))(hs:SetOk s)(ht:SetOk t):SetOk (zipS f s t):=by
 obtain⟨a,b,c,d,rfl,ha,hb,hc,hd⟩:=hs;obtain⟨a',b',c',d',rfl,ha',hb',hc',hd'⟩:=ht;exact⟨_,_,_,_,rfl,hf _ _ ha ha',hf _ _ hb hb',hf _ _ hc hc',hf _ _ hd hd'⟩
theorem SetOk.map {s:List Int}(f:Int->Int)(hf:∀ x,U64 x->U64 (f x))(hs:SetOk s):SetOk (s.map f):=by
 obtain⟨a,b,c,d,rfl,ha,hb,hc,hd⟩:=hs;exact⟨_,_,_,_,rfl,hf _ ha,hf _ hb,hf _ hc,hf _ hd⟩
theorem z14z {s t:List Int}(f:Int->Int->Int)(hs:SetOk s)(ht:SetOk t){i:Nat}(hi:i<4):(zipS f s t).getD i 0=f (s.getD i 0) (t.getD i 0):=by
 obtain⟨a,b,c,d,rfl,ha,hb,hc,hd⟩:=hs;obtain⟨a',b',c',d',rfl,ha',hb',hc',hd'⟩:=ht
 match i,hi with
 | 0,_=>rfl
 | 1,_=>rfl
 | 2,_=>rfl
 | 3,_=>rfl
theorem z15w {s:List Int}(f:Int->Int)(hs:SetOk s){i:Nat}(hi:i<4):(s.map f).getD i 0=f (s.getD i 0):=by
 obtain⟨a,b,c,d,rfl,ha,hb,hc,hd⟩:=hs
 match i,hi with
 | 0,_=>rfl
 | 1,_=>rfl
 | 2,_=>rfl
 | 3,_=>rfl
def z113:=zipS (zb .and .u64)
def z130 (s:List Int):List Int:=s.map (zb .xor .u64 18446744073709551615)
theorem z1r0 {s t:List Int}(hs:SetOk s)(ht:SetOk t):SetOk (z113 s t):=SetOk.zip _ (fun _ _=>z18l) hs ht
theorem z178 {s:List Int}(hs:SetOk s):SetOk (z130 s):=SetOk.map _ (fun _ h=>z18k zlx h) hs
theorem zsq {s t:List Int}(hs:SetOk s)(ht:SetOk t){b:Nat}(hb:b<256):z3n (z113 s t) b=(z3n s b && z3n t b):=by
 have hi:b / 64<4:=by omega
 rw[z3n,z113,z14z _ hs ht hi,z1d1 (hs.word hi) (ht.word hi)];rfl
theorem z13m {s:List Int}(hs:SetOk s){b:Nat}(hb:b<256):z3n (z130 s) b=!z3n s b:=by
 have hi:b / 64<4:=by omega
 rw[z3n,z130,z15w _ hs hi,z1d0 (hs.word hi) (by omega)];rfl
def z11r (s:List Int)(b:Nat):List Int:=s.set (b / 64) (zb .or .u64 (s.getD (b / 64) 0) (z11d .u64 1 ((b % 64:Nat):Int)))
theorem zvi {s:List Int}(hs:SetOk s){b:Nat}(hb:b<256):SetOk (z11r s b):=by
 have hi:b / 64<4:=by omega
 exact hs.set hi (z1el (hs.word hi) (by rw[shl1 (by omega)];exact zvl (by omega)))
theorem z164 {s:List Int}(hs:SetOk s){b c:Nat}(hb:b<256)(hc:c<256):z3n (z11r s b) c=(z3n s c || decide (b=c)):=by
 have hi:b / 64<4:=by omega
 have hl:=hs.length;unfold z3n z11r;by_cases h:b / 64=c / 64
 . rw[h];have e:(s.set (c / 64) (zb .or .u64 (s.getD (c / 64) 0) (z11d .u64 1 ((b % 64:Nat):Int)))).getD (c / 64) 0=zb .or .u64 (s.getD (c / 64) 0) (z11d .u64 1 ((b % 64:Nat):Int)):=by
    rw[List.getD_eq_getElem?_getD,List.getElem?_set_self (by omega)];rfl
   rw[e,z1cy (hs.word (by omega)) (by omega)];congr 1;exact decide_eq_decide.2 (by omega)
 . have e:(s.set (b / 64) (zb .or .u64 (s.getD (b / 64) 0) (z11d .u64 1 ((b % 64:Nat):Int)))).getD (c / 64) 0=s.getD (c / 64) 0:=by
    rw[List.getD_eq_getElem?_getD,List.getElem?_set_ne h,<- List.getD_eq_getElem?_getD]
   rw[e,decide_eq_false (by omega),Bool.or_false]
theorem zsh:SetOk [0,0,0,0]:=⟨0,0,0,0,rfl,by decide,by decide,by decide,by decide⟩
theorem zsp (b:Nat):z3n [0,0,0,0] b=false:=by
 have e:([0,0,0,0]:List Int).getD (b / 64) 0=0:=by
  rw[List.getD_eq_getElem?_getD]
  match b / 64 with
  | 0=>rfl
  | 1=>rfl
  | 2=>rfl
  | 3=>rfl
  | n+4=>rfl
 rw[z3n,e,bit];exact Nat.zero_testBit _
theorem zj6 {x:Int}(h:(Lit.int .u64 x).wf=true):U64 x:=by
 simp only[Lit.wf,Bool.and_eq_true,decide_eq_true_eq] at h;have h0:(IntKind.min .u64:Int)=0:=rfl;have h1:(IntKind.max .u64:Int)=18446744073709551615:=rfl;unfold U64;omega
theorem zyd {s:List Int}(h:s.length=4/\∀ x∈s,Wf (.int .u64) x):SetOk s:=by
 obtain⟨hl,hx⟩:=h
 match s,hl with
 | [a,b,c,d],_ =>
   exact⟨a,b,c,d,rfl,zj6 (hx a (by simp)),zj6 (hx b (by simp)),zj6 (hx c (by simp)),zj6 (hx d (by simp))⟩
theorem z10y {x:Int}(h:(Lit.int .u8 x).wf=true):0<=x/\x<256:=by
 simp only[Lit.wf,Bool.and_eq_true,decide_eq_true_eq] at h;have h0:(IntKind.min .u8:Int)=0:=rfl;have h1:(IntKind.max .u8:Int)=255:=rfl;omega
end
end Go.Proofs.YtnnjnkjfkaaikaaDoorPx
set_option linter.all false
namespace Go.Proofs.YtnnjnkjfkaaikaaDoorPx
noncomputable section
open Go Go.Lift
theorem zve {j a b c d:Nat}(ha:a<2^j)(hc:c<2^j):(a+2^j*b) &&& (c+2^j*d)=(a &&& c)+2^j*(b &&& d):=by
 have hp:0<2^j:=Nat.two_pow_pos j;have hac:a &&& c<2^j:=Nat.lt_of_le_of_lt Nat.and_le_left ha;have h1:((a+2^j*b) &&& (c+2^j*d)) % 2^j=a &&& c:=by
  rw[Nat.and_mod_two_pow,Nat.add_mul_mod_self_left,Nat.add_mul_mod_self_left,Nat.mod_eq_of_lt ha,Nat.mod_eq_of_lt hc]
 have h2:((a+2^j*b) &&& (c+2^j*d)) / 2^j=b &&& d:=by
  rw[Nat.and_div_two_pow,Nat.add_mul_div_left _ _ hp,Nat.add_mul_div_left _ _ hp,Nat.div_eq_of_lt ha,Nat.div_eq_of_lt hc,Nat.zero_add,Nat.zero_add]
 have h3:=Nat.mod_add_div ((a+2^j*b) &&& (c+2^j*d)) (2^j);rw[h1,h2] at h3;exact h3.symm
def zjh (k:Nat):Nat->Nat
 | 0=>0
 | n+1=>(2^k - 1)+2^(2*k)*zjh k n
def z6h (k:Nat):Nat->Nat->Nat
 | 0,_=>0
 | n+1,x=>(x % 2^k+x / 2^k % 2^k)+2^(2*k)*z6h k n (x / 2^(2*k))
def zwt (k:Nat):Nat->Nat->Nat
 | 0,_=>0
 | n+1,x=>x % 2^k+zwt k n (x / 2^k)
def dle (k m:Nat):Nat->Nat->Prop
 | 0,_=>True
 | n+1,x=>x % 2^k<=m/\dle k m n (x / 2^k)
theorem zd6 (k:Nat):2^(2*k)=2^k*2^k:=by rw[Nat.two_mul,Nat.pow_add]
theorem z1f3 {k:Nat}(hk:0<k):2<=2^k:=by
 have:=Nat.pow_le_pow_right (n:=2) (by omega) hk;simpa using this
theorem z17b {k:Nat}:2^k - 1<2^(2*k):=by
 have h:2^k<=2^(2*k):=Nat.pow_le_pow_right (by omega) (by omega);have:=Nat.two_pow_pos k;omega
theorem z1d2 (k x:Nat):(x % 2^(2*k)) &&& (2^k - 1)=x % 2^k:=by
 rw[Nat.and_two_pow_sub_one_eq_mod,zd6,Nat.mod_mul_left_mod]
theorem zzf (k:Nat):∀ n x,x &&& zjh k n=0+(match n with|0=>0|n+1=>x % 2^k+2^(2*k)*((x / 2^(2*k)) &&& zjh k n))
 | 0,x=>by simp only[zjh,Nat.and_zero]
 | n+1,x=>by
   have h:=zve (j:=2*k) (a:=x % 2^(2*k)) (b:=x / 2^(2*k)) (c:=2^k - 1) (d:=zjh k n) (Nat.mod_lt _ (Nat.two_pow_pos _)) z17b;rw[Nat.mod_add_div] at h;rw[zjh,h,z1d2,Nat.zero_add]
theorem zvo (k:Nat):∀ n x,((x / 2^k) &&& zjh k n)+(x &&& zjh k n)=z6h k n x
 | 0,x=>by simp only[zjh,Nat.and_zero,z6h]
 | n+1,x=>by
   have e:x / 2^k / 2^(2*k)=x / 2^(2*k) / 2^k:=by rw[Nat.div_div_eq_div_mul,Nat.div_div_eq_div_mul,Nat.mul_comm]
   have h:=zvo k n (x / 2^(2*k));have h1:=zzf k (n+1) (x / 2^k);have h2:=zzf k (n+1) x;simp only[Nat.zero_add] at h1 h2;rw[h1,h2,z6h,<- h,e,Nat.mul_add];omega
theorem zsv (x k:Nat):x / 2^(2*k)=x / 2^k / 2^k:=by rw[zd6,Nat.div_div_eq_div_mul]
theorem zss {k:Nat}(hk:0<k)(x y:Nat):x % 2^k+y % 2^k<2^(2*k):=by
 have h1:=Nat.mod_lt x (Nat.two_pow_pos k);have h2:=Nat.mod_lt y (Nat.two_pow_pos k);have h3:=z1f3 hk;rw[zd6];have:2*2^k<=2^k*2^k:=Nat.mul_le_mul_right _ h3;omega
theorem ztj {k:Nat}(hk:0<k)(n x:Nat):z6h k (n+1) x % 2^(2*k)=x % 2^k+x / 2^k % 2^k:=by
 rw[z6h,Nat.add_mul_mod_self_left,Nat.mod_eq_of_lt (zss hk _ _)]
theorem ztk {k:Nat}(hk:0<k)(n x:Nat):z6h k (n+1) x / 2^(2*k)=z6h k n (x / 2^(2*k)):=by
 rw[z6h,Nat.add_mul_div_left _ _ (Nat.two_pow_pos _),Nat.div_eq_of_lt (zss hk _ _),Nat.zero_add]
theorem zlj {k:Nat}(hk:0<k):∀ n x,zwt (2*k) n (z6h k n x)=zwt k (2*n) x
 | 0,x=>rfl
 | n+1,x=>by
   rw[zwt,ztj hk,ztk hk,zlj hk n,Nat.mul_add,Nat.mul_one];simp only[zwt];rw[zsv,Nat.add_assoc]
theorem zny {k m:Nat}(hk:0<k):∀ n x,dle k m (2*n) x->dle (2*k) (m+m) n (z6h k n x)
 | 0,x,_=>trivial
 | n+1,x,h=>by
   rw[Nat.mul_add,Nat.mul_one] at h;simp only[dle] at h;rw[dle,ztj hk,ztk hk];refine⟨by omega,zny hk n _ ?_⟩;rw[zsv];exact h.2.2
theorem zy6 {k m:Nat}(hm:m+m<2^k):∀ n x,dle k m (2*n+1) x->((x / 2^k+x) &&& zjh k n)=z6h k n x
 | 0,x,_=>by simp only[zjh,Nat.and_zero,z6h]
 | n + 1,x,h=>by
   have e2:2*(n+1)+1=(2*n+1)+1+1:=by omega
   rw[e2] at h;simp only[dle] at h;obtain⟨h0,h1,h2⟩:=h;have ih:=zy6 hm n (x / 2^k / 2^k) h2;have h3:=h2.1;have d0:=Nat.mod_add_div x (2^k);have d1:=Nat.mod_add_div (x / 2^k) (2^k);have d2:=Nat.mod_add_div (x / 2^k / 2^k) (2^k);have hB:=Nat.two_pow_pos k;have e:x / 2^k+x=((x % 2^k+x / 2^k % 2^k)+2^k*(x / 2^k % 2^k+x / 2^k / 2^k % 2^k))+2^(2*k)*(x / 2^k / 2^k / 2^k+x / 2^k / 2^k):=by
    rw[zd6];generalize 2^k=B at *;generalize x / B / B / B=r2 at *;generalize x / B / B % B=c at *;generalize x / B / B=r1 at *;generalize x / B % B=b at *;generalize x / B=r0 at *;generalize x % B=a at *;subst d0;subst d2;subst d1;simp only[Nat.mul_add,Nat.mul_assoc];omega
   have hlt:(x % 2^k+x / 2^k % 2^k)+2^k*(x / 2^k % 2^k+x / 2^k / 2^k % 2^k)<2^(2*k):=by
    have g1:x % 2^k+x / 2^k % 2^k<2^k:=by omega
    have g2:x / 2^k % 2^k+x / 2^k / 2^k % 2^k+1<=2^k:=by omega
    have g3:=Nat.mul_le_mul_left (2^k) g2;rw[Nat.mul_add,Nat.mul_one] at g3;rw[zd6];omega
   have hs:=zve (j:=2*k) (b:=x / 2^k / 2^k / 2^k+x / 2^k / 2^k) (d:=zjh k n) hlt (z17b (k:=k));rw[e,zjh,hs,Nat.and_two_pow_sub_one_eq_mod,Nat.add_mul_mod_self_left,Nat.mod_eq_of_lt (by omega),ih,z6h,zsv]
theorem ziv {k:Nat}(hk:0<k):∀ n x,z6h k n x<2^(2*k*n)
 | 0,x=>by simp only[z6h,Nat.mul_zero,Nat.pow_zero];omega
 | n+1,x=>by
   have h:=zss hk x (x / 2^k);have ih:=ziv hk n (x / 2^(2*k));rw[z6h,Nat.mul_add,Nat.mul_one,Nat.pow_add,Nat.mul_comm (2^(2*k*n))];have g:=Nat.mul_le_mul_left (2^(2*k)) (show z6h k n (x / 2^(2*k))+1<=2^(2*k*n) from ih);rw[Nat.mul_add,Nat.mul_one] at g;omega
theorem zz7 {k m:Nat}:∀ n x,dle k m n x->x<2^(k*n)->dle k m (n+1) x
 | 0,x,_,h=>by
   simp only[Nat.mul_zero,Nat.pow_zero] at h;have:x=0:=by omega
   subst this;simp only[dle,Nat.zero_mod];exact⟨Nat.zero_le _,trivial⟩
 | n+1,x,hd,h=>by
   refine⟨hd.1,zz7 n _ hd.2 ?_⟩;rw[Nat.mul_add,Nat.mul_one,Nat.pow_add,Nat.mul_comm] at h;exact Nat.div_lt_of_lt_mul h
def pop:Nat->Nat->Nat
 | 0,_=>0
 | n+1,x=>x % 2+pop n (x / 2)
theorem zz6:∀ n x,zwt 1 n x=pop n x
 | 0,_=>rfl
 | n+1,x=>by
   rw[zwt,pop,zz6 n]
theorem z13z:∀ n x,dle 1 1 n x
 | 0,_=>trivial
 | n+1,x=>⟨by omega,z13z n _⟩
def fld (x i:Nat):Nat:=x / 256^i % 256
theorem zj2 (x i:Nat):fld x (i+1)=fld (x / 256) i:=by
 unfold fld;rw[Nat.pow_succ,Nat.mul_comm,Nat.div_div_eq_div_mul]
theorem zj1 (x:Nat):fld x 0=x % 256:=by
 unfold fld;rw[Nat.pow_zero,Nat.div_one]
theorem hop {m:Nat}(j:Nat)(hm:m+m<256):∀ i x,(∀ i,fld x i<=m)->fld (x+x / 256^j) i=fld x i+fld x (i+j)
 | 0,x,h=>by
   have h0:=h 0;have hj:=h j;have e0:fld x 0=x % 256:=zj1 x;have ej:fld x j=x / 256^j % 256:=rfl;rw[Nat.zero_add,zj1 (x+x / 256^j),Nat.add_mod,<- e0,<- ej];exact Nat.mod_eq_of_lt (by omega)
 | i + 1,x,h=>by
   have h0:=h 0;have hj:=h j;have e0:fld x 0=x % 256:=zj1 x;have ej:fld x j=x / 256^j % 256:=rfl;have ed:x / 256^j / 256=x / 256 / 256^j:=by rw[Nat.div_div_eq_div_mul,Nat.div_div_eq_div_mul,Nat.mul_comm]
   have e:(x+x / 256^j) / 256=x / 256+x / 256 / 256^j:=by
    rw[<- ed];rw[e0] at h0;rw[ej] at hj;generalize x / 256^j=r at *;omega
   have e1:i+1+j=(i+j)+1:=by omega
   rw[zj2,e,hop j hm i (x / 256) (fun i=>by rw[<- zj2];exact h _),e1,zj2 x i,zj2 x (i+j)]
theorem z13q {m:Nat}:∀ n x,dle 8 m n x->x<2^(8*n)->∀ i,fld x i<=m
 | 0,x,_,hx,i=>by
   simp only[Nat.mul_zero,Nat.pow_zero] at hx;have:x=0:=by omega
   subst this;unfold fld;rw[Nat.zero_div];exact Nat.zero_le _
 | n+1,x,h,hx,0=>by
   rw[zj1];exact h.1
 | n+1,x,h,hx,i+1=>by
   rw[zj2];refine z13q n _ h.2 ?_ i;rw[Nat.mul_add,Nat.mul_one,Nat.pow_add,Nat.mul_comm] at hx;exact Nat.div_lt_of_lt_mul hx
theorem z16a:∀ n x,zwt 8 (n+1) x=fld x 0+zwt 8 n (x / 256)
 | _,x=>by rw[zwt,zj1]
theorem fold8 {x:Nat}(h:dle 8 8 8 x)(hx:x<18446744073709551616) :
 ((x+x / 256)+(x+x / 256) / 65536+((x+x / 256)+(x+x / 256) / 65536) / 4294967296) % 128=zwt 8 8 x:=by
 have hf:=z13q 8 x h (by simp only[Nat.reduceMul,Nat.reducePow];exact hx);have p1:(256:Nat)=256^1:=rfl;have p2:(65536:Nat)=256^2:=rfl;have p4:(4294967296:Nat)=256^4:=rfl;have s1:∀ i,fld (x+x / 256) i=fld x i+fld x (i+1):=fun i=>by
  have:=hop 1 (m:=8) (by omega) i x hf
  rwa [<- p1] at this
 have l1:∀ i,fld (x+x / 256) i<=16:=fun i=>by
  have:=hf i;have:=hf (i+1);rw[s1];omega
 generalize x+x / 256=y at *;have s2:∀ i,fld (y+y / 65536) i=fld y i+fld y (i+2):=fun i=>by
  have:=hop 2 (m:=16) (by omega) i y l1
  rwa [<- p2] at this
 have l2:∀ i,fld (y+y / 65536) i<=32:=fun i=>by
  have:=l1 i;have:=l1 (i+2);rw[s2];omega
 generalize y+y / 65536=z at *;have s3:fld (z+z / 4294967296) 0=fld z 0+fld z (0+4):=by
  have:=hop 4 (m:=32) (by omega) 0 z l2
  rwa [<- p4] at this
 have e:(z+z / 4294967296) % 128=fld (z+z / 4294967296) 0 % 128:=by
  rw[zj1,Nat.mod_mod_of_dvd];exact⟨2,rfl⟩
 have h0:=l2 0;have h4:=l2 4;rw[e,s3,Nat.zero_add,Nat.mod_eq_of_lt (by omega),s2,s2,s1,s1,s1,s1];simp only[z16a];simp only[<- zj2];simp only[zwt,Nat.zero_add,Nat.reduceAdd];omega
theorem z168 {x:Nat}(hx:x<1085102592571150096) :
 x+x / 256<18446744073709551616/\(x+x / 256)+(x+x / 256) / 65536<18446744073709551616
 /\ (x+x / 256)+(x+x / 256) / 65536+((x+x / 256)+(x+x / 256) / 65536) / 4294967296<9223372036854775808:=by
 have h1:x+x / 256<1200000000000000000:=by omega
 generalize x+x / 256=y at *;have h2:y+y / 65536<1300000000000000000:=by omega
 generalize y+y / 65536=z at *;refine⟨by omega,by omega,by omega⟩
end
end Go.Proofs.YtnnjnkjfkaaikaaDoorPx
set_option linter.all false
namespace Go.Proofs.YtnnjnkjfkaaikaaDoorPx
noncomputable section
open Go Go.Lift
theorem z140 {k m:Nat}:∀ n x,dle k m (n+1) x->x<2^(k*(n+1))->x<(m+1)*2^(k*n)
 | 0,x,h,hx=>by
   have h0:=h.1;rw[Nat.zero_add,Nat.mul_one] at hx;rw[Nat.mod_eq_of_lt hx] at h0;rw[Nat.mul_zero,Nat.pow_zero,Nat.mul_one];omega
 | n+1,x,h,hx=>by
   rw[Nat.mul_add,Nat.mul_one,Nat.pow_add,Nat.mul_comm (2^(k*(n+1)))] at hx;have ih:=z140 n (x / 2^k) h.2 (Nat.div_lt_of_lt_mul hx);have e:=(Nat.div_lt_iff_lt_mul (Nat.two_pow_pos k)).1 ih;rw[Nat.mul_add,Nat.mul_one,Nat.pow_add,<- Nat.mul_assoc];exact e
def s1I (x:Int):Int:=IntKind.wrap .u64 (zb .and .u64 (z21 .u64 x 1) 6148914691236517205+zb .and .u64 x 6148914691236517205)
def s2I (x:Int):Int:=IntKind.wrap .u64 (zb .and .u64 (z21 .u64 x 2) 3689348814741910323+zb .and .u64 x 3689348814741910323)
def s3I (x:Int):Int:=zb .and .u64 (IntKind.wrap .u64 (z21 .u64 x 4+x)) 1085102592571150095
def s4I (k x:Int):Int:=IntKind.wrap .u64 (x+z21 .u64 x k)
def zw9 (x:Int):Int:=zb .and .i64 (IntKind.wrap .i64 (s4I 32 (s4I 16 (s4I 8 (s3I (s2I (s1I x))))))) 127
theorem zlw {n:Nat}(h:n<18446744073709551616):U64 (n:Int):=by unfold U64;omega
theorem zrz {n k:Nat}(hk:k<64):z21 .u64 (n:Int) (k:Int)=((n / 2^k:Nat):Int):=by
 rw[zvq (by omega) hk,Int.toNat_natCast,Nat.shiftRight_eq_div_pow]
theorem zq3 {n m:Nat}(hn:n<18446744073709551616)(hm:m<18446744073709551616):zb .and .u64 (n:Int) (m:Int)=((n &&& m:Nat):Int):=by
 rw[zt7 (zlw hn) (zlw hm),Int.toNat_natCast,Int.toNat_natCast]
theorem z1d3 {n:Nat}(hn:n<9223372036854775808):zb .and .i64 (n:Int) 127=((n % 128:Nat):Int):=by
 have e:zb .and .i64 (n:Int) 127=IntKind.wrap .i64 ((BitVec.ofInt 64 (n:Int) &&& BitVec.ofInt 64 127).toNat:Int):=rfl;have e1:(BitVec.ofInt 64 (n:Int)).toNat=n:=by rw[BitVec.toNat_ofInt];omega
 have e2:(BitVec.ofInt 64 (127:Int)).toNat=127:=rfl;have e3:n &&& 127=n % 128:=Nat.and_two_pow_sub_one_eq_mod n 7;rw[e,BitVec.toNat_and,e1,e2,e3,z5x (by unfold I64;omega)]
theorem m1:(6148914691236517205:Nat)=zjh 1 32:=by decide
theorem m2:(3689348814741910323:Nat)=zjh 2 16:=by decide
theorem m3:(1085102592571150095:Nat)=zjh 4 8:=by decide
theorem z1ez {n:Nat}(h:n<18446744073709551616):s1I (n:Int)=((z6h 1 32 n:Nat):Int):=by
 have hs:z6h 1 32 n<18446744073709551616:=ziv (by omega) 32 n;have hd:n / 2^1<18446744073709551616:=Nat.lt_of_le_of_lt (Nat.div_le_self _ _) h;have e:=zvo 1 32 n;have a1:z21 .u64 (n:Int) 1=((n / 2^1:Nat):Int):=zrz (k:=1) (by omega);have a2:=zq3 hd (m:=6148914691236517205) (by omega);have a3:=zq3 h (m:=6148914691236517205) (by omega);rw[m1] at a2 a3;unfold s1I;rw[a1];show IntKind.wrap .u64 (zb .and .u64 _ ((6148914691236517205:Nat):Int)+zb .and .u64 _ ((6148914691236517205:Nat):Int))=_;rw[m1,a2,a3,<- e,z56]
 . rw[Int.natCast_add]
 . rw[<- Int.natCast_add,e];exact zlw hs
theorem z1ey {n:Nat}(h:n<18446744073709551616):s2I (n:Int)=((z6h 2 16 n:Nat):Int):=by
 have hs:z6h 2 16 n<18446744073709551616:=ziv (by omega) 16 n;have hd:n / 2^2<18446744073709551616:=Nat.lt_of_le_of_lt (Nat.div_le_self _ _) h;have e:=zvo 2 16 n;have a1:z21 .u64 (n:Int) 2=((n / 2^2:Nat):Int):=zrz (k:=2) (by omega);have a2:=zq3 hd (m:=3689348814741910323) (by omega);have a3:=zq3 h (m:=3689348814741910323) (by omega);rw[m2] at a2 a3;unfold s2I;rw[a1];show IntKind.wrap .u64 (zb .and .u64 _ ((3689348814741910323:Nat):Int)+zb .and .u64 _ ((3689348814741910323:Nat):Int))=_;rw[m2,a2,a3,<- e,z56]
 . rw[Int.natCast_add]
 . rw[<- Int.natCast_add,e];exact zlw hs
theorem z1ex {n:Nat}(h:n<18446744073709551616)(hd:dle 4 4 16 n):s3I (n:Int)=((z6h 4 8 n:Nat):Int):=by
 have hb:n<(4+1)*2^(4*15):=z140 15 n hd h;simp only[Nat.reduceAdd,Nat.reduceMul,Nat.reducePow] at hb;have e:=zy6 (k:=4) (m:=4) (by decide) 8 n (zz7 16 n hd h);have a1:z21 .u64 (n:Int) 4=((n / 2^4:Nat):Int):=zrz (k:=4) (by omega);have hd2:n / 2^4+n<18446744073709551616:=by
  have:=Nat.div_le_self n (2^4);omega
 have a2:=zq3 hd2 (m:=1085102592571150095) (by omega);rw[m3,e] at a2;unfold s3I;rw[a1,<- Int.natCast_add,z56 (zlw hd2)];show zb .and .u64 _ ((1085102592571150095:Nat):Int)=_;rw[m3,a2]
theorem z12b {n k:Nat}(hk:k<64)(h:n+n / 2^k<18446744073709551616):s4I (k:Int) (n:Int)=((n+n / 2^k:Nat):Int):=by
 unfold s4I;rw[zrz hk,<- Int.natCast_add,z56 (zlw h)]
theorem z15r {n:Nat}(h:n<18446744073709551616):zw9 (n:Int)=((pop 64 n:Nat):Int):=by
 have h1:z6h 1 32 n<18446744073709551616:=ziv (by omega) 32 n;have d1:dle 2 2 32 (z6h 1 32 n):=zny (by omega) 32 n (z13z 64 n);have u1:zwt 2 32 (z6h 1 32 n)=pop 64 n:=by rw[<- zz6];exact zlj (by omega) 32 n
 unfold zw9;rw[z1ez h];generalize z6h 1 32 n=x at *;have h2:z6h 2 16 x<18446744073709551616:=ziv (by omega) 16 x;have d2:dle 4 4 16 (z6h 2 16 x):=zny (by omega) 16 x d1;have u2:zwt 4 16 (z6h 2 16 x)=pop 64 n:=by rw[<- u1];exact zlj (by omega) 16 x
 rw[z1ey h1];generalize z6h 2 16 x=y at *;have h3:z6h 4 8 y<18446744073709551616:=ziv (by omega) 8 y;have d3:dle 8 8 8 (z6h 4 8 y):=zny (by omega) 8 y d2;have u3:zwt 8 8 (z6h 4 8 y)=pop 64 n:=by rw[<- u2];exact zlj (by omega) 8 y
 rw[z1ex h2 d2];generalize z6h 4 8 y=z at *;have hb:z<(8+1)*2^(8*7):=z140 7 z d3 h3;simp only[Nat.reduceAdd,Nat.reduceMul,Nat.reducePow] at hb;obtain⟨l1,l2,l3⟩:=z168 (x:=z) (by omega);have f:=fold8 d3 h3;have q1:s4I 8 (z:Int)=((z+z / 256:Nat):Int):=z12b (k:=8) (by omega) l1;rw[q1];generalize z+z / 256=a at *;have q2:s4I 16 (a:Int)=((a+a / 65536:Nat):Int):=z12b (k:=16) (by omega) l2;rw[q2];generalize a+a / 65536=b at *;have q3:s4I 32 (b:Int)=((b+b / 4294967296:Nat):Int):=z12b (k:=32) (by omega) (by omega);rw[q3,z5x (by unfold I64;omega),z1d3 l3,f,u3]
theorem zse {x:Int}(h:U64 x):zw9 x=((pop 64 x.toNat:Nat):Int):=by
 obtain⟨n,rfl⟩:=Int.eq_ofNat_of_zero_le h.1;have:=h.2;rw[Int.toNat_natCast,z15r (by omega)]
def cnt (f:Nat->Bool):Nat->Nat
 | 0=>0
 | n+1=>cnt f n+(f n).toNat
theorem z147 (f:Nat->Bool):∀ n,cnt f n<=n
 | 0=>Nat.le_refl _
 | n+1=>by
   have:=z147 f n;have:(f n).toNat<=1:=by cases f n<;>decide
   simp only[cnt];omega
theorem zpi {f g:Nat->Bool}:∀ n,(∀ i,i<n->f i=g i)->cnt f n=cnt g n
 | 0,_=>rfl
 | n+1,h=>by rw[cnt,cnt,zpi n (fun i hi=>h i (by omega)),h n (by omega)]
theorem zmp (f:Nat->Bool)(m:Nat):∀ n,cnt f (m+n)=cnt f m+cnt (fun i=>f (m+i)) n
 | 0=>rfl
 | n+1=>by rw[<- Nat.add_assoc,cnt,cnt,zmp f m n,Nat.add_assoc]
theorem zos:∀ n x,pop n x=cnt (fun i=>x.testBit i) n
 | 0,_=>rfl
 | n+1,x=>by
   have h:cnt (fun i=>x.testBit i) (1+n)=cnt (fun i=>x.testBit i) 1+cnt (fun i=>x.testBit (1+i)) n:=zmp _ 1 n;have e:cnt (fun i=>x.testBit (1+i)) n=cnt (fun i=>(x / 2).testBit i) n:=zpi n (fun i _=>by rw[Nat.add_comm,Nat.testBit_succ]);rw[Nat.add_comm n 1,h,e,<- zos n,Nat.add_comm 1 n,pop];congr 1;simp only[cnt,Nat.testBit_zero,Nat.zero_add];have:=Nat.mod_lt x (show 0<2 by omega);obtain h|h:x % 2=0\/x % 2=1:=by omega
   . rw[h];rfl
   . rw[h];rfl
theorem zv1 {f g h:Nat->Bool}:∀ n,(∀ i,i<n->g i=(f i && h i))->∀ {g':Nat->Bool},(∀ i,i<n->g' i=(f i && !h i))->cnt g n+cnt g' n=cnt f n
 | 0,_,_,_=>rfl
 | n+1,h1,g',h2=>by
   have ih:=zv1 n (fun i hi=>h1 i (by omega)) (fun i hi=>h2 i (by omega));rw[cnt,cnt,cnt,<- ih,h1 n (by omega),h2 n (by omega)];cases f n<;>cases h n<;>simp only[Bool.and_true,Bool.and_false,Bool.not_true,Bool.not_false,Bool.toNat_true,Bool.toNat_false]<;>omega
def zkm (s:List Int):Nat:=cnt (z3n s) 256
theorem zwy {s:List Int}{a b c d:Int}(e:s=[a,b,c,d]):zkm s=pop 64 a.toNat+pop 64 b.toNat+pop 64 c.toNat+pop 64 d.toNat:=by
 subst e;have h1:cnt (z3n [a,b,c,d]) (64+(64+(64+64)))=_:=zmp _ 64 _;rw[zmp _ 64 (64+64),zmp _ 64 64] at h1;unfold zkm;rw[show (256:Nat)=64+(64+(64+64)) from rfl,h1,zos,zos,zos,zos,Nat.add_assoc,Nat.add_assoc];have k (w:Nat) (hw:w<4):cnt (fun i=>z3n [a,b,c,d] (64*w+i)) 64=cnt (fun i=>([a,b,c,d].getD w 0).toNat.testBit i) 64:=zpi 64 (fun i hi=>by
  unfold z3n bit;rw[show (64*w+i) / 64=w by omega,show (64*w+i) % 64=i by omega])
 have k0:=k 0 (by omega);have k1:=k 1 (by omega);have k2:=k 2 (by omega);have k3:=k 3 (by omega);simp only[Nat.mul_zero,Nat.zero_add,Nat.mul_one,Nat.reduceMul] at k0 k1 k2 k3;have e2:(fun i=>z3n [a,b,c,d] (64+(64+i)))=fun i=>z3n [a,b,c,d] (128+i):=by funext i;rw[<- Nat.add_assoc]
 have e3:(fun i=>z3n [a,b,c,d] (64+(64+(64+i))))=fun i=>z3n [a,b,c,d] (192+i):=by funext i;rw[<- Nat.add_assoc,<- Nat.add_assoc]
 have e0:cnt (z3n [a,b,c,d]) 64=cnt (fun i=>z3n [a,b,c,d] i) 64:=rfl;rw[e0,k0,k1,e2,k2,e3,k3];rfl
theorem z10u {s t:List Int}(hs:SetOk s)(ht:SetOk t):zkm (z113 s t)+zkm (z113 s (z130 t))=zkm s :=
 zv1 (h:=z3n t) 256 (fun i hi=>zsq hs ht hi) (fun i hi=>by rw[zsq hs (z178 ht) hi,z13m ht hi])
theorem zsx (s:List Int):zkm s<=256:=z147 _ _
theorem znl {x y:Int}(hx:U64 x)(hy:U64 y)(h:∀ i,i<64->bit x i=bit y i):x=y:=by
 have e:x.toNat=y.toNat:=Nat.eq_of_testBit_eq (fun i=>by
  by_cases hi:i<64
  . exact h i hi
  . have e64:(18446744073709551616:Nat)<=2^i:=Nat.le_trans (by decide) (Nat.pow_le_pow_right (n:=2) (by omega) (show 64<=i by omega));rw[Nat.testBit_lt_two_pow (Nat.lt_of_lt_of_le (by have:=hx.2;omega) e64),Nat.testBit_lt_two_pow (Nat.lt_of_lt_of_le (by have:=hy.2;omega) e64)])
 have:=hx.1;have:=hy.1;omega
theorem z129 {s t:List Int}(hs:SetOk s)(ht:SetOk t)(h:∀ b,b<256->z3n s b=z3n t b):s=t:=by
 obtain⟨a,b,c,d,rfl,ha,hb,hc,hd⟩:=hs;obtain⟨e,f,g,k,rfl,he,hf,hg,hk⟩:=ht;have q (w:Nat) (hw:w<4):∀ i,i<64->bit ([a,b,c,d].getD w 0) i=bit ([e,f,g,k].getD w 0) i:=fun i hi=>by
  have:=h (64*w+i) (by omega);unfold z3n at this
  rwa [show (64*w+i) / 64=w by omega,show (64*w+i) % 64=i by omega] at this
 rw[znl ha he (q 0 (by omega)),znl hb hf (q 1 (by omega)),znl hc hg (q 2 (by omega)),znl hd hk (q 3 (by omega))]
end
end Go.Proofs.YtnnjnkjfkaaikaaDoorPx
set_option linter.all false
namespace Go.Proofs.YtnnjnkjfkaaikaaDoorPx
noncomputable section
open Go Go.Lift
def znc (s:List Int):Nat->Nat->List Nat
 | 0,_=>[]
 | n+1,b=>if z3n s b=true then b::znc s n (b+1) else znc s n (b+1)
theorem zit (s:List Int):∀ n b c,c∈znc s n b ↔ b<=c/\c<b+n/\z3n s c=true
 | 0,b,c=>by simp only[znc,List.not_mem_nil,false_iff];omega
 | n + 1,b,c=>by
   have ih:=zit s n (b+1) c;rw[znc];split
   . rename_i h;rw[List.mem_cons,ih];constructor
     . rintro (rfl|h1)
       . exact⟨Nat.le_refl _,by omega,h⟩
       . exact⟨by omega,by omega,h1.2.2⟩
     . rintro⟨h1,h2,h3⟩;by_cases e:c=b
       . exact .inl e
       . exact .inr ⟨by omega,by omega,h3⟩
   . rename_i h;rw[ih];constructor
     . rintro⟨h1,h2,h3⟩;exact⟨by omega,by omega,h3⟩
     . rintro⟨h1,h2,h3⟩;have:c≠b:=fun e=>h (e ▸ h3)
       exact⟨by omega,by omega,h3⟩
theorem zkx (s:List Int):∀ n b,(znc s n b).length=cnt (fun i=>z3n s (b+i)) n
 | 0,_=>rfl
 | n + 1,b=>by
   have e:cnt (fun i=>z3n s (b+i)) (1+n)=cnt (fun i=>z3n s (b+i)) 1+cnt (fun i=>z3n s (b+(1+i))) n:=zmp _ 1 n;have e2:cnt (fun i=>z3n s (b+(1+i))) n=cnt (fun i=>z3n s (b+1+i)) n:=by simp only[Nat.add_assoc]
   rw[Nat.add_comm n 1,e,e2,<- zkx s n (b+1),Nat.add_comm 1 n,znc];simp only[cnt,Nat.add_zero,Nat.zero_add];cases h:z3n s b
   . rw[if_neg (by decide)];show _=0+_;omega
   . rw[if_pos rfl,List.length_cons];show _=1+_;omega
def za8 (s:List Int):Nat->Nat->Int
 | 0,_=>-1
 | n+1,b=>if z3n s b=true then (b:Int) else za8 s n (b+1)
theorem zsm {s:List Int}{c:Nat}(hc:z3n s c=true):∀ n b,b<=c->c<b+n->(∀ i,b<=i->i<c->z3n s i=false)->za8 s n b=(c:Int)
 | 0,b,h1,h2,_=>by omega
 | n + 1,b,h1,h2,h=>by
   rw[za8];by_cases e:b=c
   . subst e;rw[if_pos hc]
   . have hb:=h b (Nat.le_refl _) (by omega);rw[if_neg (by rw[hb];decide)];exact zsm hc n (b+1) (by omega) (by omega) (fun i h3 h4=>h i (by omega) h4)
theorem zra {s:List Int}(h:∀ i,z3n s i=false):∀ n b,za8 s n b=-1
 | 0,_=>rfl
 | n+1,b=>by
   rw[za8,if_neg (by rw[h b];decide),zra h n (b+1)]
theorem z15x:∀ x:Nat,x≠0->∃ t q,x=2^t*(2*q+1):=by
 intro x
 induction x using Nat.strongRecOn with
 | _ x ih =>
   intro h;by_cases e:x % 2=1
   . exact⟨0,x / 2,by rw[Nat.pow_zero];omega⟩
   . obtain⟨t,q,h1⟩:=ih (x / 2) (by omega) (by omega);refine⟨t+1,q,?_⟩;rw[Nat.pow_succ,Nat.mul_comm (2^t) 2,Nat.mul_assoc,<- h1];omega
theorem z136 (t q i:Nat):(2^t*(2*q+1)).testBit i=if i<t then false else if i=t then true else q.testBit (i - t - 1):=by
 have e:2^t*(2*q+1)=2^t*(2*q+1)+0:=rfl;rw[e,Nat.testBit_two_pow_mul_add _ (Nat.two_pow_pos t)];split
 . exact Nat.zero_testBit i
 . rename_i h;split
   . rename_i h2;subst h2;rw[Nat.sub_self,Nat.testBit_zero];exact decide_eq_true (by omega)
   . rename_i h2;obtain⟨j,hj⟩:∃ j,i - t=j+1:=⟨i - t - 1,by omega⟩
     rw[hj,Nat.testBit_succ];congr 1;omega
theorem z19k {t q:Nat}(h:2^t*(2*q+1)<2^64):(2^t*(2*q+1)) &&& (2^64 - 2^t*(2*q+1))=2^t:=by
 have hp:=Nat.two_pow_pos t;have ht:t<64:=by
  have:2^t*1<=2^t*(2*q+1):=Nat.mul_le_mul_left _ (by omega);exact (Nat.pow_lt_pow_iff_right (a:=2) (by omega)).1 (by omega)
 have e:2^t*(2*q+1)=(2^t*(2*q)+(2^t - 1))+1:=by
  rw[Nat.mul_add,Nat.mul_one];omega
 have hlt:2^t*(2*q)+(2^t - 1)<2^64:=by omega
 apply Nat.eq_of_testBit_eq;intro i;have hb:=z136 t q i;rw[Nat.testBit_and,Nat.testBit_two_pow];have hs:(2^64 - 2^t*(2*q+1)).testBit i=(decide (i<64) && !(2^t*(2*q)+(2^t - 1)).testBit i):=by
  rw[e,Nat.testBit_two_pow_sub_succ hlt]
 rw[hs,hb,Nat.testBit_two_pow_mul_add _ (by omega)];by_cases h1:i<t
 . rw[if_pos h1,if_pos h1,Bool.false_and];exact (decide_eq_false (by omega)).symm
 . rw[if_neg h1,if_neg h1];by_cases h2:i=t
   . subst h2;rw[if_pos rfl,Nat.sub_self,Nat.testBit_zero,decide_eq_true ht,decide_eq_false (by omega)];exact (decide_eq_true rfl).symm
   . obtain⟨j,hj⟩:∃ j,i - t=j+1:=⟨i - t - 1,by omega⟩
     have ej:i - t - 1=j:=by omega
     have eq2:2*q / 2=q:=by omega
     rw[if_neg h2,hj,Nat.testBit_succ,eq2,Nat.add_sub_cancel,decide_eq_false (p:=t=i) (by omega)];cases q.testBit j<;>cases decide (i<64)<;>rfl
end
end Go.Proofs.YtnnjnkjfkaaikaaDoorPx
set_option linter.all false
set_option maxRecDepth 100000
namespace Go.Proofs.YtnnjnkjfkaaikaaDoorLg
noncomputable section
open Go Go.Lift Go.Proofs.YtnnjnkjfkaaikaaDoorPx
theorem z1qo {b:Nat}(hb:b<256):Go.IntKind.wrap .u8 (Int.tdiv (b:Int) (64:Int))=((b / 64:Nat):Int):=by
 rw[Int.tdiv_eq_ediv_of_nonneg (by omega),zlt (by omega) (by omega)];omega
theorem z19j (b:Nat):Int.tmod (b:Int) (64:Int)=((b % 64:Nat):Int):=by
 rw[Int.tmod_eq_emod_of_nonneg (by omega)];omega
theorem z1jb (N:Nat){s:List Int}(hs:SetOk s){b:Nat}(hb:b<256):zel N s (b:Int)=some (z3n s b):=by
 have hi:b / 64<4:=by omega
 rw[zel,z1qo hb,z19j,Int.toNat_natCast,z13 (zeg hi),z13 (decide_eq_true (by rw[hs.length];exact hi)),z13 (decide_eq_true (by omega)),
  z1by (hs.word hi) (by omega)]
 rfl
theorem z18d (N:Nat){s:List Int}(hs:SetOk s){b:Nat}(hb:b<256):z9g N s (b:Int)=some (z11r s b):=by
 have hi:b / 64<4:=by omega
 rw[z9g,z1qo hb,z19j,Int.toNat_natCast,z13 (zeg hi),z13 (decide_eq_true (by rw[hs.length];exact hi)),z13 (decide_eq_true (by omega)),
  z13 (zeg hi),z13 (decide_eq_true (by rw[hs.length];exact hi))]
 rfl
def ofS:Nat->Nat->List Int->List Int
 | 0,_,s=>s
 | n+1,b,s=>ofS n (b+1) (z11r s b)
theorem z1it:∀ (n b:Nat) {s:List Int},SetOk s->b+n<=256->SetOk (ofS n b s)
 | 0,_,_,hs,_=>hs
 | n+1,b,_,hs,h=>z1it n (b+1) (zvi hs (by omega)) (by omega)
theorem z17h:∀ (n b:Nat) {s:List Int},SetOk s->b+n<=256->∀ {c:Nat},c<256->z3n (ofS n b s) c=(z3n s c || decide (b<=c/\c<b+n))
 | 0,b,s,hs,_,c,_=>by
   have:decide (b<=c/\c<b+0)=false:=decide_eq_false (by omega);rw[this,Bool.or_false];rfl
 | n+1,b,s,hs,h,c,hc=>by
   rw[ofS,z17h n (b+1) (zvi hs (by omega)) (by omega) hc,z164 hs (by omega) hc,Bool.or_assoc];congr 1;rw[<- Bool.decide_or];exact decide_eq_decide.2 (by omega)
theorem of_eq (N:Nat) {lo hi:Nat} (hl:lo<256) (hh:hi<256) (hN:257<N) :
 z29 N (lo:Int) (hi:Int)=some (ofS (hi+1 - lo) lo [0,0,0,0]):=by
 have wl:Go.IntKind.wrap .i64 (lo:Int)=(lo:Int):=z5x (by unfold I64;omega);have wh:Go.IntKind.wrap .i64 (hi:Int)=(hi:Int):=z5x (by unfold I64;omega);rw[z29,zlm,wl]
 let R:List Int×Int->Option (List Int):=fun v=>some (ofS (hi+1 - v.2.toNat) v.2.toNat v.1)
 have h:=zbo (step:=fun (v:((List Int)×Int)) r=>zcz N (hi:Int) [(0:Int),(0:Int),(0:Int),(0:Int)] v.1 v.2 (fun s b=>(r (s,b))) (fun s=>some s))
  (I:=fun v=>SetOk v.1/\0<=v.2/\v.2<=256) (m:=fun v=>256 - v.2.toNat) (R:=R)
  (by
   rintro⟨s,b⟩ r ⟨hs,h0,h1⟩ hr;obtain⟨b,rfl⟩:=Int.eq_ofNat_of_zero_le h0;simp only at hs h0 h1 ⊢;rw[zcz,wh];by_cases hb:b<=hi
   . have wb:Go.IntKind.wrap .u8 (b:Int)=(b:Int):=zlt (by omega) (by omega);have wb1:Go.IntKind.wrap .i64 ((b:Int)+1)=((b+1:Nat):Int):=zkv (by omega);rw[z13 (decide_eq_true (by omega)),wb,z18d N hs (by omega)];simp only[Option.bind_some];rw[wb1,hr _ ⟨zvi hs (by omega),by simp only;omega,by simp only;omega⟩ (by simp only[Int.toNat_natCast];omega)];simp only[R,Int.toNat_natCast];have e:hi+1 - b=(hi+1 - (b+1))+1:=by omega
     rw[e,ofS]
   . rw[z2i (decide_eq_false (by omega))];simp only[R,Int.toNat_natCast];have e:hi+1 - b=0:=by omega
     rw[e,ofS]) N ([(0:Int),(0:Int),(0:Int),(0:Int)],(lo:Int)) ⟨zsh,by simp only;omega,by simp only;omega⟩ (by simp only[Int.toNat_natCast];omega)
 rw[h];simp only[R,Int.toNat_natCast]
theorem zw0 (N:Nat) (b:Nat) {w:Int} (hw:U64 w) (k0:Int->Option Bool) (hN:64<N) :
 za7 N (b:Int) w (0:Int) k0=k0 (zli (b % 64) w):=by
 let R:Int×Int->Option Bool:=fun v=>k0 (zli (b % 64 - v.2.toNat) v.1)
 have h:=zbo (step:=fun (v:(Int×Int)) r=>z6c N (b:Int) v.1 v.2 (fun w i=>(r (w,i))) k0)
  (I:=fun v=>U64 v.1/\0<=v.2/\v.2<=64) (m:=fun v=>64 - v.2.toNat) (R:=R)
  (by
   rintro⟨w,i⟩ r ⟨hw,h0,h1⟩ hr;obtain⟨i,rfl⟩:=Int.eq_ofNat_of_zero_le h0;simp only at hw h0 h1 ⊢;rw[z6c,z19j];by_cases hb:i<b % 64
   . have u2:U64 (Int.tdiv w 2):=by
      rw[Int.tdiv_eq_ediv_of_nonneg hw.1];unfold U64 at *;omega
     have wb1:Go.IntKind.wrap .i64 ((i:Int)+1)=((i+1:Nat):Int):=zkv (by omega);rw[z13 (decide_eq_true (by omega)),z56 u2,wb1,hr _ ⟨u2,by simp only;omega,by simp only;omega⟩ (by simp only[Int.toNat_natCast];omega)];simp only[R,Int.toNat_natCast];have e:b % 64 - i=(b % 64 - (i+1))+1:=by omega
     rw[e,zli]
   . rw[z2i (decide_eq_false (by omega))];simp only[R,Int.toNat_natCast];have e:b % 64 - i=0:=by omega
     rw[e,zli]) N (w,(0:Int)) ⟨hw,Int.le_refl _,(by omega:(0:Int)<=64)⟩ (by simp only;omega)
 rw[za7,h];rfl
theorem zoq (N:Nat){s:List Int}(hs:SetOk s){b:Nat}(hb:b<256)(hN:64<N):z2t N s (b:Int)=some (z3n s b):=by
 have hi:b / 64<4:=by omega
 have e:Go.IntKind.wrap .i64 (Int.tdiv (b:Int) (64:Int))=((b / 64:Nat):Int):=by
  rw[Int.tdiv_eq_ediv_of_nonneg (by omega),z5x (by unfold I64;omega)];omega
 rw[z2t,e,Int.toNat_natCast,z13 (zeg hi),z13 (decide_eq_true (by rw[hs.length];exact hi)),zw0 N b (hs.word hi) _ hN,z10j (hs.word hi).1];rfl
def ztl (t:Nat):Int:=z21 .u64 (Go.IntKind.wrap .u64 ((285870213051353865:Int)*((2^t:Nat):Int))) 58
theorem z11z:((List.range 64).all fun t=>inR (ztl t) 64 && (Go.IntKind.wrap .i64 (List.getD glob1 (Int.toNat (ztl t)) (0:Int)) == (t:Int)))=true:=by kernel_rfl
theorem z159 {t:Nat}(h:t<64):inR (ztl t) 64=true/\Go.IntKind.wrap .i64 (List.getD glob1 (Int.toNat (ztl t)) (0:Int))=(t:Int):=by
 have:=List.all_eq_true.1 z11z t (List.mem_range.2 h);rw[Bool.and_eq_true,beq_iff_eq] at this;exact this
theorem tz_eq (N:Nat){x:Int}(h:U64 x){t q:Nat}(e:x.toNat=2^t*(2*q+1))(ht:t<64):z1x N x=some (t:Int):=by
 have hp:=Nat.two_pow_pos t;have hpos:0<x.toNat:=by
  rw[e];exact Nat.mul_pos hp (by omega)
 have h1:=h.2;have hz:(x == (0:Int))=false:=by
  rw[beq_eq_false_iff_ne];omega
 have hn:Go.IntKind.wrap .u64 ((0:Int) - x)=((2^64 - x.toNat:Nat):Int):=by
  rw[zrr,show (2:Nat)^64=18446744073709551616 from rfl];omega
 have hu:U64 ((2^64 - x.toNat:Nat):Int):=by
  rw[show (2:Nat)^64=18446744073709551616 from rfl];unfold U64;omega
 have ha:zb .and .u64 x (Go.IntKind.wrap .u64 ((0:Int) - x))=((2^t:Nat):Int):=by
  have hlt:2^t*(2*q+1)<2^64:=by rw[<- e,show (2:Nat)^64=18446744073709551616 from rfl];omega
  rw[hn,zt7 h hu,Int.toNat_natCast,e,z19k hlt]
 obtain⟨t1,t2⟩:=z159 ht;rw[z1x,z2i hz,ha];rw[show z21 .u64 (Go.IntKind.wrap .u64 ((285870213051353865:Int)*((2^t:Nat):Int))) 58=ztl t from rfl,z13 t1,t2]
theorem z1qm (N:Nat)(a b c d:Int)(k0:Int->Option Int):zhg (N+5) [a,b,c,d] 0 k0 =
 cond (a == 0) (cond (b == 0) (cond (c == 0) (cond (d == 0) none (k0 3)) (k0 2)) (k0 1)) (k0 0):=by kernel_rfl
theorem znw (N:Nat) {s:List Int} (hs:SetOk s) {w:Nat} (hw:w<4) (hz:∀ v,v<w->s.getD v 0=0) (hx:s.getD w 0≠0) :
 (cond (inR (w:Int) 4)
  (cond (decide ((Int.toNat (w:Int))<(List.length s)))
   ((z1x N (List.getD s (Int.toNat (w:Int)) (0:Int))).bind fun y =>
     some (Go.IntKind.wrap .i64 ((Go.IntKind.wrap .i64 ((w:Int)*(64:Int)))+y)))
   (none))
  (none))=some (za8 s 256 0):=by
 have hu:=hs.word hw;have h0:=hu.1;have h1:=hu.2;obtain⟨t,q,e⟩:=z15x (s.getD w 0).toNat (by omega);have ht:t<64:=by
  have:2^t*1<=2^t*(2*q+1):=Nat.mul_le_mul_left _ (by omega);refine (Nat.pow_lt_pow_iff_right (a:=2) (by omega)).1 ?_;rw[show (2:Nat)^64=18446744073709551616 from rfl];omega
 have hb (i:Nat):bit (s.getD w 0) i=if i<t then false else if i=t then true else q.testBit (i - t - 1):=by
  unfold bit;rw[e,z136]
 have hc:z3n s (64*w+t)=true:=by
  unfold z3n;rw[show (64*w+t) / 64=w by omega,show (64*w+t) % 64=t by omega,hb,if_neg (by omega),if_pos rfl]
 have hl:=zsm hc 256 0 (by omega) (by omega) (fun i _ hi=>by
  unfold z3n;by_cases hv:i / 64<w
  . rw[hz _ hv];exact Nat.zero_testBit _
  . rw[show i / 64=w by omega,hb,if_pos (by omega)])
 rw[z13 (zeg hw),Int.toNat_natCast,z13 (decide_eq_true (by rw[hs.length];exact hw)),tz_eq N hu e ht];simp only[Option.bind_some];rw[hl,z5x (x:=(w:Int)*64) (by unfold I64;omega),z5x (by unfold I64;omega)];congr 1;omega
theorem z13v (s:List Int):eqD (T.arr 4 (T.int Go.IntKind.u64)) s s=true:=(zkk _ _ _ rfl).2 rfl
theorem z169 (N:Nat) {s:List Int} (hs:SetOk s):z1l (N+5) s=some (za8 s 256 0):=by
 have hs':=hs;obtain⟨a,b,c,d,rfl,ha,hb,hc,hd⟩:=hs';rw[z1l];by_cases e:([a,b,c,d]:List Int)=[0,0,0,0]
 . rw[e,z13 (z13v _),zra zsp]
 . have en : eqD (T.arr 4 (T.int Go.IntKind.u64)) [a,b,c,d] ([(0:Int),(0:Int),(0:Int),(0:Int)]:List Int)=false:=by
    rw[<- Bool.not_eq_true];exact fun h=>e ((zkk _ _ _ rfl).1 h)
   rw[z2i en,z1qm];by_cases ea:a=0
   . rw[z13 (beq_iff_eq.2 ea)];by_cases eb:b=0
     . rw[z13 (beq_iff_eq.2 eb)];by_cases ec:c=0
       . rw[z13 (beq_iff_eq.2 ec)];by_cases ed:d=0
         . exact absurd (by rw[ea,eb,ec,ed]) e
         . rw[z2i (beq_eq_false_iff_ne.2 ed)];have z:∀ v,v<3->([a,b,c,d]:List Int).getD v 0=0:=by
            intro v hv;obtain rfl|rfl|rfl:v=0\/v=1\/v=2:=by omega
            . exact ea
            . exact eb
            . exact ec
           exact znw (N+5) hs (w:=3) (by omega) z ed
       . rw[z2i (beq_eq_false_iff_ne.2 ec)];have z:∀ v,v<2->([a,b,c,d]:List Int).getD v 0=0:=by
          intro v hv;obtain rfl|rfl:v=0\/v=1:=by omega
          . exact ea
          . exact eb
         exact znw (N+5) hs (w:=2) (by omega) z ec
     . rw[z2i (beq_eq_false_iff_ne.2 eb)];have z:∀ v,v<1->([a,b,c,d]:List Int).getD v 0=0:=by
        intro v hv;obtain rfl:v=0:=by omega
        exact ea
       exact znw (N+5) hs (w:=1) (by omega) z eb
   . rw[z2i (beq_eq_false_iff_ne.2 ea)];exact znw (N+5) hs (w:=0) (by omega) (fun v hv=>by omega) ea
end
end Go.Proofs.YtnnjnkjfkaaikaaDoorLg
set_option linter.all false
set_option maxRecDepth 100000
namespace Go.Proofs.YtnnjnkjfkaaikaaDoorLg
noncomputable section
open Go Go.Lift Go.Proofs.YtnnjnkjfkaaikaaDoorPx
def z1dj:List UInt8:=[92,46,91,93,40,41,124,123,125,42,43,63]
def zpm:List UInt8:=[92,91,93,45,94]
def hexB (h:Nat):UInt8:=([48,49,50,51,52,53,54,55,56,57,97,98,99,100,101,102]:List UInt8).getD h 0
def ztd (sl:List UInt8)(b:Nat):List UInt8 :=
 if sl.contains (UInt8.ofNat b) then [92,UInt8.ofNat b] else if b<32\/126<b then [92,120,hexB (b / 16),hexB (b % 16)] else [UInt8.ofNat b]
theorem zgy (sl:List UInt8)(b:Nat):(ztd sl b).length<=4:=by
 unfold ztd;split
 . simp
 . split<;>simp
theorem zjt {p:Nat->Bool}{n:Nat}(h:((List.range n).all p)=true){b:Nat}(hb:b<n):p b=true :=
 List.all_eq_true.1 h b (List.mem_range.2 hb)
theorem z13u (N:Nat):((List.range 256).all fun b=>(z8x N (b:Int) == some (ztd z1dj b)) && (z4a N (b:Int) zpm == some (ztd zpm b)))=true:=by kernel_rfl
theorem z128 (N:Nat):((List.range 256).all fun b=>(z43 (N+20) (b:Int) == some (ztd z1dj b)) && (z3b (N+20) (b:Int) zpm == some (ztd zpm b)))=true:=by kernel_rfl
theorem zv5 (N:Nat){b:Nat}(hb:b<256):z8x N (b:Int)=some (ztd z1dj b):=by
 have:=zjt (z13u N) hb;rw[Bool.and_eq_true] at this;exact beq_iff_eq.1 this.1
theorem zpf (N:Nat){b:Nat}(hb:b<256):z4a N (b:Int) zpm=some (ztd zpm b):=by
 have:=zjt (z13u N) hb;rw[Bool.and_eq_true] at this;exact beq_iff_eq.1 this.2
theorem zqz {N:Nat}(hN:20<=N){b:Nat}(hb:b<256):z43 N (b:Int)=some (ztd z1dj b):=by
 obtain⟨k,rfl⟩:∃ k,N=k+20:=⟨N - 20,by omega⟩
 have:=zjt (z128 k) hb;rw[Bool.and_eq_true] at this;exact beq_iff_eq.1 this.1
theorem zo8 {N:Nat}(hN:20<=N){b:Nat}(hb:b<256):z3b N (b:Int) zpm=some (ztd zpm b):=by
 obtain⟨k,rfl⟩:∃ k,N=k+20:=⟨N - 20,by omega⟩
 have:=zjt (z128 k) hb;rw[Bool.and_eq_true] at this;exact beq_iff_eq.1 this.2
def zhj (f:Nat->Bool):Nat->Nat->Nat
 | 0,p=>p
 | n+1,p=>if f p=true then zhj f n (p+1) else p
theorem zjz (f:Nat->Bool):∀ n p,p<=zhj f n p/\zhj f n p<=p+n
 | 0,p=>⟨Nat.le_refl _,Nat.le_refl _⟩
 | n+1,p=>by
   rw[zhj];have:=zjz f n (p+1);split<;>omega
theorem zyg (f:Nat->Bool):∀ n p,zhj f n p<p+n->f (zhj f n p)=false
 | 0,p,h=>by rw[zhj] at h;omega
 | n + 1,p,h=>by
   rw[zhj] at h ⊢;split
   . rename_i hf;rw[if_pos hf] at h;exact zyg f n (p+1) (by omega)
   . rename_i hf;simpa using hf
theorem zqw {f g:Nat->Bool}:∀ n p,(∀ i,p<=i->i<p+n->f i=g i)->zhj f n p=zhj g n p
 | 0,p,_=>rfl
 | n+1,p,h=>by
   rw[zhj,zhj,h p (Nat.le_refl _) (by omega),zqw n (p+1) (fun i h1 h2=>h i (by omega) (by omega))]
def zfl (lo hi:Nat):List UInt8:=if hi=lo then ztd zpm lo else if hi=lo+1 then ztd zpm lo++ztd zpm hi else ztd zpm lo++[45]++ztd zpm hi
theorem zm2 (lo hi:Nat):(zfl lo hi).length<=9:=by
 have h1:=zgy zpm lo;have h2:=zgy zpm hi;unfold zfl;split
 . omega
 . split<;>simp only[List.length_append,List.length_cons,List.length_nil]<;>omega
def zgd (f:Nat->Bool):Nat->Nat->List UInt8
 | 0,_=>[]
 | k+1,p=>if p<256 then (if p<zhj f (256 - p) p then zfl p (zhj f (256 - p) p - 1) else [])++zgd f k (zhj f (256 - p) p+1) else []
theorem zqu (f:Nat->Bool):∀ k k' p,256<p+k->256<p+k'->zgd f k p=zgd f k' p
 | 0,0,p,_,_=>rfl
 | 0,k'+1,p,h,_=>by rw[zgd,zgd,if_neg (by omega)]
 | k+1,0,p,_,h=>by rw[zgd,zgd,if_neg (by omega)]
 | k + 1,k'+1,p,h,h'=>by
   rw[zgd,zgd];by_cases hp:p<256
   . have:=(zjz f (256 - p) p).1;rw[if_pos hp,if_pos hp,zqu f k k' _ (by omega) (by omega)]
   . rw[if_neg hp,if_neg hp]
def RT (f:Nat->Bool)(p:Nat):List UInt8:=zgd f 257 p
theorem zzi {f:Nat->Bool}{p:Nat}(h:256<=p):RT f p=[]:=by rw[RT,zgd,if_neg (by omega)]
theorem zxx {f:Nat->Bool}{p:Nat}(h:p<256):RT f p=(if p<zhj f (256 - p) p then zfl p (zhj f (256 - p) p - 1) else [])++RT f (zhj f (256 - p) p+1):=by
 have:=(zjz f (256 - p) p).1;rw[RT,zgd,if_pos h,RT,zqu f 256 257 _ (by omega) (by omega)]
theorem z1d8 {f:Nat->Bool}{p:Nat}(h:p<256)(hf:f p=false):RT f p=RT f (p+1):=by
 have e:zhj f (256 - p) p=p:=by
  rw[show 256 - p=(255 - p)+1 by omega,zhj,if_neg (by rw[hf];decide)]
 rw[zxx h,e,if_neg (by omega),List.nil_append]
theorem zlr {f:Nat->Bool}:∀ n p,p+n<=256->(∀ i,p<=i->i<p+n->f i=false)->RT f p=RT f (p+n)
 | 0,p,_,_=>rfl
 | n+1,p,h,hf=>by
   rw[z1d8 (by omega) (hf p (Nat.le_refl _) (by omega)),zlr n (p+1) (by omega) (fun i h1 h2=>hf i (by omega) (by omega))];congr 1;omega
theorem zzh (f:Nat->Bool):∀ k p,(zgd f k p).length<=9*k
 | 0,_=>by simp[zgd]
 | k + 1,p=>by
   rw[zgd];have:=zzh f k (zhj f (256 - p) p+1);have h2:=zm2 p (zhj f (256 - p) p - 1);split
   . rw[List.length_append];split
     . omega
     . simp only[List.length_nil];omega
   . simp
def z198 (s:List Int):List UInt8 :=
 if zkm s=1 then ztd z1dj (za8 s 256 0).toNat else if zkm s=256 then [46] else if s=[287948901175001088,0,0,0] then [92,100] else if s=[287948901175001088,576460745995190270,0,0] then [92,119] else
 if zkm s=0 then [91,94,92,120,48,48,45,92,120,102,102,93] else [91]++RT (z3n s) 0++[93]
theorem z15b (s:List Int):(z198 s).length<=2400:=by
 have h1:=zgy z1dj (za8 s 256 0).toNat;have h2:(RT (z3n s) 0).length<=9*257:=zzh _ _ _;unfold z198;split
 . omega
 . split
   . decide
   . split
     . decide
     . split
       . decide
       . split
         . decide
         . simp only[List.length_append,List.length_cons,List.length_nil];omega
end
end Go.Proofs.YtnnjnkjfkaaikaaDoorLg
set_option linter.all false
set_option maxRecDepth 100000
namespace Go.Proofs.YtnnjnkjfkaaikaaDoorLg
noncomputable section
open Go Go.Lift Go.Proofs.YtnnjnkjfkaaikaaDoorPx
mutual
def z23:Tree->Nat
 | .mk _ _ ks _ _=>1+zap ks
def zap:List Tree->Nat
 | []=>0
 | x::xs=>z23 x+zap xs
end
mutual
def zzq:Tree->Int
 | .mk _ _ ks _ _=>zvp ks 1
def zvp:List Tree->Int->Int
 | [],n=>n
 | x::xs,n=>zvp xs (IntKind.wrap .i64 (n+zzq x))
end
mutual
def z17l:Tree->Int
 | .mk _ _ ks _ _=>IntKind.wrap .i64 (z1c3 ks 0+1)
def z1c3:List Tree->Int->Int
 | [],n=>n
 | x::xs,n=>z1c3 xs (cond (decide (n<z17l x)) (z17l x) n)
end
def z3d (x:Tree):Int:=(unN x).1
def zh3 (lo hi:Int):Bool:=decide (0<=lo/\lo<=16/\(hi=-1\/(1<=hi/\lo<=hi/\hi<=16)))
def shT (k:Int)(st:List Int)(ks:List Tree)(lo hi:Int):Bool :=
 if k=1 then ks.length == 0 && (lo == 0 && hi == 0)
 else if k=2 then st == [0,0,0,0] && (lo == 0 && (hi == 0 && (ks.length != 1 && !(ks.any fun x=>z3d x == 2))))
 else if k=3 then st == [0,0,0,0] && (lo == 0 && (hi == 0 && (decide (2<=ks.length) && !(ks.any fun x=>z3d x == 3))))
 else if k=4 then st == [0,0,0,0] && (ks.length == 1 && zh3 lo hi)
 else false
mutual
def z5l:Tree->Bool
 | .mk k st ks lo hi=>shT k st ks lo hi && zh5 ks
def zh5:List Tree->Bool
 | []=>true
 | x::xs=>z5l x && zh5 xs
end
theorem zfy:∀ x:Tree,0<z23 x
 | .mk ..=>by rw[z23];omega
theorem zd1:∀ {ks:List Tree} {x:Tree},x∈ks->z23 x<=zap ks
 | y::ks,x,h=>by
   rw[zap];rcases List.mem_cons.1 h with rfl|h
   . omega
   . have:=zd1 h;omega
theorem zfz:∀ ks:List Tree,ks.length<=zap ks
 | []=>by simp
 | y::ks=>by have:=zfz ks;have:=zfy y;rw[zap,List.length_cons];omega
def dT:Tree:=.mk 0 [] [] 0 0
theorem zt9 {ks:List Tree}(h:z1dr ks){i:Nat}(hi:i<ks.length):WfN (ks.getD i dT):=by
 rw[List.getD_eq_getElem?_getD,List.getElem?_eq_getElem hi];exact (zlq ks).1 h _ (List.getElem_mem hi)
theorem getD_mem {ks:List Tree}{i:Nat}(hi:i<ks.length):ks.getD i dT∈ks:=by
 rw[List.getD_eq_getElem?_getD,List.getElem?_eq_getElem hi];exact List.getElem_mem hi
theorem eqD4 (x y:List Int):eqD (T.arr 4 (T.int .u64)) x y=(x == y):=by
 rw[z1c1 (t:=.arr 4 (.int .u64)) rfl,Bool.eq_iff_iff,decide_eq_true_eq,beq_iff_eq]
theorem zzr (d:Tree){xs:List Tree}{i:Nat}(h:i<xs.length)(n:Int):zvp (xs.drop i) n=zvp (xs.drop (i+1)) (IntKind.wrap .i64 (n+zzq (xs.getD i d))):=by
 rw[List.drop_eq_getElem_cons h,zvp,List.getD_eq_getElem?_getD,List.getElem?_eq_getElem h];rfl
theorem z179 {i len:Nat}(h:i<len)(hm:len<=maxLen):IntKind.wrap .i64 ((i:Int)+1)=((i+1:Nat):Int):=by
 rw[z5x (by unfold I64;unfold maxLen at hm;omega)];omega
theorem z141 (d:Tree){xs:List Tree}{i:Nat}(h:i<xs.length)(n:Int):z1c3 (xs.drop i) n=z1c3 (xs.drop (i+1)) (cond (decide (n<z17l (xs.getD i d))) (z17l (xs.getD i d)) n):=by
 rw[List.drop_eq_getElem_cons h,z1c3,List.getD_eq_getElem?_getD,List.getElem?_eq_getElem h];rfl
theorem zqx:∀ (N:Nat) (a:Tree),z23 a<N->WfN a->z27 N (unN a)=some (zzq a,z17l a,())
 | 0,_,h,_=>absurd h (Nat.not_lt_zero _)
 | N + 1,.mk k st ks lo hi,h,hw=>by
   rw[z23] at h;rw[WfN] at hw;have hlen:=zfz ks;show z6a (N+1) (z27 N) _=_;rw[zzq,z17l];unfold z6a ze4;have key:=zbo (step:=fun (v:(Int×Int×Int)) r=>z5d (N+1) (z27 N) (k,st,ks,lo,hi,()) v.1 v.2.1 v.2.2 (fun all deep i=>(r (all,deep,i))) (fun all deep=>some (all,((IntKind.wrap .i64 (deep+(1:Int))),()))))
    (fun v=>∃ i:Nat,v.2.2=(i:Int)/\i<=ks.length) (fun v=>ks.length - v.2.2.toNat) (fun v=>some (zvp (ks.drop v.2.2.toNat) v.1,IntKind.wrap .i64 (z1c3 (ks.drop v.2.2.toNat) v.2.1+1),())) (by
    rintro⟨n,d,v⟩ r ⟨i,rfl,hi⟩ hr;unfold z5d z8t;dsimp only;rcases Nat.lt_or_ge i ks.length with h'|h'
    . rw[z13 (decide_eq_true (by omega)),z13 (zeg h'),Int.toNat_natCast];have e:=zqx N (ks.getD i dT) (by have:=zd1 (getD_mem h');omega) (zt9 hw.2.2.1.2 h');have e2:z27 N (unN (ks.getD i (Tree.mk (0:Int) ([]:List Int) ([]:List Tree) (0:Int) (0:Int))))=some (zzq (ks.getD i dT),z17l (ks.getD i dT),()):=e;rw[e2,Option.bind_some,z179 h' hw.2.2.1.1];dsimp only;rw[hr _ ⟨i+1,rfl,by omega⟩ (by simp only[Int.toNat_natCast];omega),hr _ ⟨i+1,rfl,by omega⟩ (by simp only[Int.toNat_natCast];omega)];simp only[Int.toNat_natCast];rw[zzr dT h',z141 dT h'];cases decide (d<z17l (ks.getD i dT))<;>rfl
    . rw[z2i (decide_eq_false (by omega)),Int.toNat_natCast,List.drop_eq_nil_of_le h',zvp,z1c3])
   have:=key (N+1) (1,0,0) ⟨0,rfl,by omega⟩ (by simp;omega);simp only[Int.toNat_zero,List.drop_zero] at this;exact this
theorem zvy (N:Nat)(lo hi:Int):zdg N lo hi=some (zh3 lo hi):=by
 unfold zdg zf7 zf6 zh3;simp only[Bool.cond_eq_ite,decide_eq_true_eq,beq_iff_eq,if_true,Bool.false_eq_true,if_false]
 repeat' split
 all_goals first
  | (simp only[Option.some.injEq];rw[eq_comm];first|(apply decide_eq_true;omega)|(apply decide_eq_false;omega)|(rw[Bool.eq_iff_iff,decide_eq_true_eq,decide_eq_true_eq];omega))
  | omega
theorem zvz (N:Nat)(lo hi:Int):z1g N lo hi=some (zh3 lo hi):=by
 unfold z1g z7o z7n zh3;simp only[Bool.cond_eq_ite,decide_eq_true_eq,beq_iff_eq,if_true,Bool.false_eq_true,if_false]
 repeat' split
 all_goals first
  | (simp only[Option.some.injEq];rw[eq_comm];first|(apply decide_eq_true;omega)|(apply decide_eq_false;omega)|(rw[Bool.eq_iff_iff,decide_eq_true_eq,decide_eq_true_eq];omega))
  | omega
theorem zpa {ks:List Tree} (hm:ks.length<=maxLen) (f:Tree->Option Bool) (e:Bool) (step:Int->(Int->Option Bool)->Option Bool)
 (hs:∀ (i:Nat) (r:Int->Option Bool),i<=ks.length->step (i:Int) r=cond (decide ((i:Int)<(ks.length:Int))) (match f (ks.getD i dT) with
  | some b=>some b
  | none=>r (IntKind.wrap .i64 ((i:Int)+1))) (some e)) (n:Nat) (hn:ks.length<n):iter step n 0=some ((ks.findSome? f).getD e):=by
 have key:=zbo (step:=step) (fun v=>∃ i:Nat,v=(i:Int)/\i<=ks.length) (fun v=>ks.length - v.toNat) (fun v=>some (((ks.drop v.toNat).findSome? f).getD e)) (by
  rintro v r ⟨i,rfl,hi⟩ hr;rw[hs i r hi];rcases Nat.lt_or_ge i ks.length with h|h
  . have eg:ks.getD i dT=ks[i]:=by rw[List.getD_eq_getElem?_getD,List.getElem?_eq_getElem h];rfl
    rw[z13 (decide_eq_true (by omega)),Int.toNat_natCast,List.drop_eq_getElem_cons h,List.findSome?_cons,eg];cases hf:f ks[i] with
    | some b=>rfl
    | none =>
      dsimp only;rw[z179 h hm,hr _ ⟨i+1,rfl,by omega⟩ (by simp only[Int.toNat_natCast];omega),Int.toNat_natCast]
  . rw[z2i (decide_eq_false (by omega)),Int.toNat_natCast,List.drop_eq_nil_of_le h];rfl)
 have:=key n 0 ⟨0,rfl,by omega⟩ (by simp;omega);simpa using this
theorem zn6 (p:Tree->Bool):∀ ks:List Tree,(ks.findSome? fun x=>cond (p x) (some true) none).getD false=ks.any p
 | []=>rfl
 | x::ks=>by
   rw[List.findSome?_cons,List.any_cons];cases hp:p x with
   | true=>rfl
   | false=>simpa using zn6 p ks
theorem zjo:∀ ks:List Tree,(ks.findSome? fun x=>cond (z5l x) none (some false)).getD true=zh5 ks
 | []=>by rw[zh5];rfl
 | x::ks=>by
   rw[List.findSome?_cons,zh5];cases hp:z5l x with
   | true=>simpa using zjo ks
   | false=>rfl
theorem zig (p:Tree->Bool):∀ ks:List Tree,(ks.findSome? fun x=>cond (z5l x && !(p x)) none (some false)).getD true=(zh5 ks && !(ks.any p))
 | []=>by rw[zh5];rfl
 | x :: ks=>by
   rw[List.findSome?_cons,zh5,List.any_cons];cases hp:z5l x with
   | false=>rfl
   | true =>
     cases hq:p x with
     | true=>simp
     | false=>simpa using zig p ks
theorem ztf (N:Nat)(k:Int)(st:List Int)(ks:List Tree)(lo hi kind:Int)(hm:ks.length<=maxLen)(hN:ks.length<N):z8y N (k,st,ks,lo,hi,()) kind=some (ks.any fun x=>z3d x == kind):=by
 unfold z8y zhy;rw[<- zn6];refine zpa hm (fun x=>cond (z3d x == kind) (some true) none) false _ (fun i r hi=>?_) N hN;unfold zdf;dsimp only;rcases Nat.lt_or_ge i ks.length with h|h
 . rw[z13 (decide_eq_true (by omega)),z13 (decide_eq_true (by omega)),z13 (zeg h),Int.toNat_natCast];change cond (z3d (ks.getD i dT) == kind) _ _=_;cases z3d (ks.getD i dT) == kind<;>rfl
 . rw[z2i (decide_eq_false (by omega)),z2i (decide_eq_false (by omega))]
theorem z127 (N:Nat)(k:Int)(st:List Int)(ks:List Tree)(lo hi:Int)(hm:ks.length<=maxLen)(hN:ks.length<N):zb5 N (k,st,ks,lo,hi,())=some (shT k st ks lo hi):=by
 unfold zb5 zdh;dsimp only;rw[ztf N k st ks lo hi 2 hm hN,ztf N k st ks lo hi 3 hm hN,zvy,eqD4];unfold shT;simp only[Option.bind_some];have e0:((ks.length:Int) == 0)=(ks.length == 0):=by rw[Bool.eq_iff_iff,beq_iff_eq,beq_iff_eq];omega
 have e1:((ks.length:Int) == 1)=(ks.length == 1):=by rw[Bool.eq_iff_iff,beq_iff_eq,beq_iff_eq];omega
 have e2:decide ((2:Int)<=(ks.length:Int))=decide (2<=ks.length):=by rw[Bool.eq_iff_iff,decide_eq_true_eq,decide_eq_true_eq];omega
 simp only[bne,e0,e1,e2];by_cases h1:k=1
 . subst h1;cases lo == 0<;>cases hi == 0<;>cases ks.length == 0<;>rfl
 rw[if_neg h1];by_cases h2:k=2
 . subst h2;cases lo == 0<;>cases hi == 0<;>cases ks.length == 1<;>cases st == [0,0,0,0]<;>rfl
 rw[if_neg h2];by_cases h3:k=3
 . subst h3;cases lo == 0<;>cases hi == 0<;>cases decide (2<=ks.length)<;>cases st == [0,0,0,0]<;>rfl
 rw[if_neg h3];have f1:(k == 1)=false:=by simpa using h1
 have f2:(k == 2)=false:=by simpa using h2
 have f3:(k == 3)=false:=by simpa using h3
 by_cases h4:k=4
 . subst h4;cases lo == 0<;>cases hi == 0<;>cases ks.length == 1<;>cases st == [0,0,0,0]<;>rfl
 have f4:(k == 4)=false:=by simpa using h4
 rw[if_neg h4,f1,f2,f3,f4];cases lo == 0<;>rfl
theorem zoo:∀ (N:Nat) (a:Tree),z23 a<N->WfN a->z5c N (unN a)=some (z5l a)
 | 0,_,h,_=>absurd h (Nat.not_lt_zero _)
 | N + 1,.mk k st ks lo hi,h,hw=>by
   rw[z23] at h;rw[WfN] at hw;have hlen:=zfz ks;show zcu (N+1) (z5c N) (k,st,ks,lo,hi,())=_;rw[z5l];unfold zcu zjl;rw[z127 (N+1) k st ks lo hi hw.2.2.1.1 (by omega),Option.bind_some];cases shT k st ks lo hi with
   | false=>rfl
   | true =>
     simp only[Bool.not_true,cond_false,Bool.true_and];rw[<- zjo];refine zpa hw.2.2.1.1 (fun x=>cond (z5l x) none (some false)) true _ (fun i r hi=>?_) (N+1) (by omega);unfold zfa;dsimp only;rcases Nat.lt_or_ge i ks.length with h'|h'
     . rw[z13 (decide_eq_true (by omega)),z13 (decide_eq_true (by omega)),z13 (zeg h'),Int.toNat_natCast];have e:z5c N (unN (ks.getD i (Tree.mk (0:Int) ([]:List Int) ([]:List Tree) (0:Int) (0:Int))))=some (z5l (ks.getD i dT)):=zoo N (ks.getD i dT) (by have:=zd1 (getD_mem h');omega) (zt9 hw.2.2.1.2 h');rw[e,Option.bind_some];cases z5l (ks.getD i dT)<;>rfl
     . rw[z2i (decide_eq_false (by omega)),z2i (decide_eq_false (by omega))]
def shU (k:Int)(st:List Int)(ks:List Tree)(lo hi:Int):Bool :=
 if k=1 then ks.length == 0 && (lo == 0 && hi == 0)
 else if k=2 then st == [0,0,0,0] && (lo == 0 && (hi == 0 && (ks.length != 1)))
 else if k=3 then st == [0,0,0,0] && (lo == 0 && (hi == 0 && (decide (2<=ks.length))))
 else if k=4 then st == [0,0,0,0] && (ks.length == 1 && zh3 lo hi)
 else false
theorem z197 (k:Int)(st:List Int)(ks:List Tree)(lo hi:Int):shT k st ks lo hi=(shU k st ks lo hi && !(ks.any fun x=>z3d x == k && decide (k<4))):=by
 unfold shT shU;by_cases h1:k=1
 . subst h1;rw[if_pos rfl,if_pos rfl];cases ks with
   | nil=>simp
   | cons x xs=>simp
 rw[if_neg h1,if_neg h1];by_cases h2:k=2
 . subst h2;simp[Bool.and_assoc]
 rw[if_neg h2,if_neg h2];by_cases h3:k=3
 . subst h3;simp[Bool.and_assoc]
 rw[if_neg h3,if_neg h3];by_cases h4:k=4
 . subst h4;simp
 rw[if_neg h4];rfl
theorem z19a {N:Nat}{k:Int}{st:List Int}{ks:List Tree}{lo hi:Int}(hm:ks.length<=maxLen)(hN:ks.length<N+1)(self:NodT.den->Option Bool)(hself:∀ i,i<ks.length->self (unN (ks.getD i dT))=some (z5l (ks.getD i dT))) :
 z7s (N+1) self (k,st,ks,lo,hi,()) (ks.length:Int) 0 (fun x23=>some x23) (some true)=some (zh5 ks && !(ks.any fun x=>z3d x == k && decide (k<4))):=by
 unfold z7s;rw[<- zig];refine zpa hm (fun x=>cond (z5l x && !(z3d x == k && decide (k<4))) none (some false)) true _ (fun i r hi=>?_) (N+1) hN;unfold z7p z7r z7q;dsimp only;rcases Nat.lt_or_ge i ks.length with h'|h'
 . have ht:decide ((i:Int)<(ks.length:Int))=true:=decide_eq_true (by omega);rw[z13 ht,z13 ht,z13 (zeg h'),z13 (zeg h'),Int.toNat_natCast];have e:self (unN (ks.getD i (Tree.mk (0:Int) ([]:List Int) ([]:List Tree) (0:Int) (0:Int))))=some (z5l (ks.getD i dT)):=hself i h';rw[e,Option.bind_some];change cond (!(z5l (ks.getD i dT))) _ (cond (z3d (ks.getD i dT) == k) _ _)=_;cases z5l (ks.getD i dT)<;>cases z3d (ks.getD i dT) == k<;>cases decide (k<4)<;>rfl
 . have ht:decide ((i:Int)<(ks.length:Int))=false:=decide_eq_false (by omega);rw[z2i ht,z2i ht]
theorem zop:∀ (N:Nat) (a:Tree),z23 a<N->WfN a->z28 N (unN a)=some (z5l a)
 | 0,_,h,_=>absurd h (Nat.not_lt_zero _)
 | N + 1,.mk k st ks lo hi,h,hw=>by
   rw[z23] at h;rw[WfN] at hw;have hlen:=zfz ks;show z5e (N+1) (z28 N) (k,st,ks,lo,hi,())=_;rw[z5l,z197];unfold z5e z7y z7x z7w z7v z7u z7t;dsimp only;rw[z19a hw.2.2.1.1 (by omega) (z28 N) (fun i hi=>zop N _ (by have:=zd1 (getD_mem hi);omega) (zt9 hw.2.2.1.2 hi)),zvz,eqD4];simp only[Option.bind_some];have e0:((ks.length:Int) == 0)=(ks.length == 0):=by rw[Bool.eq_iff_iff,beq_iff_eq,beq_iff_eq];omega
   have e1:((ks.length:Int) == 1)=(ks.length == 1):=by rw[Bool.eq_iff_iff,beq_iff_eq,beq_iff_eq];omega
   have e2:decide ((ks.length:Int)<2)=!(decide (2<=ks.length)):=by rw[Bool.eq_iff_iff,Bool.not_eq_true',decide_eq_true_eq,decide_eq_false_iff_not];omega
   unfold shU;simp only[bne,e0,e1,e2];generalize (ks.any fun x=>z3d x == k && decide (k<4))=q;generalize zh5 ks=p;by_cases h1:k=1
   . subst h1;cases lo == 0<;>cases hi == 0<;>cases ks.length == 0<;>cases p<;>cases q<;>rfl
   rw[if_neg h1];by_cases h2:k=2
   . subst h2;cases lo == 0<;>cases hi == 0<;>cases ks.length == 1<;>cases st == [0,0,0,0]<;>cases p<;>cases q<;>rfl
   rw[if_neg h2];by_cases h3:k=3
   . subst h3;cases lo == 0<;>cases hi == 0<;>cases decide (2<=ks.length)<;>cases st == [0,0,0,0]<;>cases p<;>cases q<;>rfl
   rw[if_neg h3];by_cases h4:k=4
   . subst h4;cases zh3 lo hi<;>cases ks.length == 1<;>cases st == [0,0,0,0]<;>cases p<;>cases q<;>rfl
   rw[if_neg h4];rcases Int.lt_or_le k 1 with h5|h5
   . rw[z13 (decide_eq_true h5)];rfl
   . rw[z2i (decide_eq_false (by omega)),decide_eq_true (show (4:Int)<k by omega)];rfl
end
end Go.Proofs.YtnnjnkjfkaaikaaDoorLg
set_option linter.all false
set_option maxRecDepth 100000
namespace Go.Proofs.YtnnjnkjfkaaikaaDoorLg
noncomputable section
open Go Go.Lift Go.Proofs.YtnnjnkjfkaaikaaDoorPx
theorem less4 (N:Nat)(a b c d e f g h:Int):zbl (N+5) [a,b,c,d] [e,f,g,h]=some (z113 [a,b,c,d] (z130 [e,f,g,h])):=by kernel_rfl
theorem z13b {N:Nat}(hN:5<=N){s t:List Int}(hs:SetOk s)(ht:SetOk t):zbl N s t=some (z113 s (z130 t)):=by
 obtain⟨k,rfl⟩:∃ k,N=k+5:=⟨N - 5,by omega⟩
 obtain⟨a,b,c,d,rfl,_⟩:=hs;obtain⟨e,f,g,h,rfl,_⟩:=ht;exact less4 ..
theorem z1c5 (N:Nat)(a b c d:Int):zad (N+5) [a,b,c,d]=some (Go.IntKind.wrap .i64 (Go.IntKind.wrap .i64 (Go.IntKind.wrap .i64 (Go.IntKind.wrap .i64 (0+zw9 a)+zw9 b)+zw9 c)+zw9 d)):=by kernel_rfl
theorem z10t {N:Nat}(hN:5<=N){s:List Int}(hs:SetOk s):zad N s=some ((zkm s:Nat):Int):=by
 obtain⟨k,rfl⟩:∃ k,N=k+5:=⟨N - 5,by omega⟩
 obtain⟨a,b,c,d,rfl,ha,hb,hc,hd⟩:=hs;have h:=zsx [a,b,c,d];rw[zwy rfl] at h;rw[z1c5,zse ha,zse hb,zse hc,zse hd,zwy rfl];generalize pop 64 a.toNat=p at *;generalize pop 64 b.toNat=q at *;generalize pop 64 c.toNat=r at *;generalize pop 64 d.toNat=t at *;rw[z5x (x:=0+(p:Int)) (by unfold I64;omega),z5x (x:=0+(p:Int)+q) (by unfold I64;omega),z5x (x:=0+(p:Int)+q+r) (by unfold I64;omega),
  z5x (by unfold I64;omega)]
 congr 1;omega
theorem zmk {N:Nat}(hN:5<=N){s:List Int}(hs:SetOk s):z1l N s=some (za8 s 256 0):=by
 obtain⟨k,rfl⟩:∃ k,N=k+5:=⟨N - 5,by omega⟩
 exact z169 k hs
theorem zrs {a:Nat}(h:a<=100000):IntKind.wrap .i64 ((a:Int)+1)=((a+1:Nat):Int):=by
 rw[show ((a:Int)+1)=((a+1:Nat):Int) from rfl];exact z5x (by unfold I64;omega)
theorem z11p {a:Nat}(h:a<256):IntKind.wrap .u8 (a:Int)=(a:Int):=zlt (by omega) (by omega)
theorem zvw {N:Nat}(hN:300<=N){s:List Int}(hs:SetOk s):z4n N s=some (za8 s 256 0):=by
 rw[z4n,zcm];refine (zbo (fun v=>∃ b:Nat,v=(b:Int)/\b<=256) (fun v=>256 - v.toNat) (fun v=>some (za8 s (256 - v.toNat) v.toNat)) ?_ N 0 ⟨0,rfl,by omega⟩ (by show 256 - Int.toNat 0<N;omega)).trans (by rfl);rintro _ r ⟨b,rfl,hb⟩ hr;simp only[Int.toNat_natCast];rw[z7z];by_cases h:b<256
 . rw[z13 (decide_eq_true (by omega)),zoq N hs h (by omega),Option.bind_some,show 256 - b=(255 - b)+1 by omega,za8];cases hh:z3n s b with
   | true=>rw[cond_true,if_pos rfl]
   | false =>
     rw[cond_false,if_neg (by decide),zrs (by omega),hr _ ⟨b+1,rfl,by omega⟩ (by simp only[Int.toNat_natCast];omega),Int.toNat_natCast,show 256 - (b+1)=255 - b by omega]
 . rw[z2i (decide_eq_false (by omega)),show 256 - b=0 by omega];rfl
theorem zw1 {N:Nat}(hN:300<=N){s:List Int}(hs:SetOk s)(k0:Int->Option (List UInt8)):za6 N s 0 0 k0=k0 ((zkm s:Nat):Int):=by
 rw[za6];refine (zbo (fun v=>∃ n b:Nat,v=((n:Int),(b:Int))/\b<=256/\n<=b/\n=cnt (z3n s) b) (fun v=>256 - v.2.toNat) (fun v=>k0 ((zkm s:Nat):Int)) ?_ N (0,0) ⟨0,0,rfl,by omega,by omega,rfl⟩ (by simp only;omega));rintro _ r ⟨n,b,rfl,hb,hnb,hn⟩ hr;rw[za1,za5];by_cases h:b<256
 . rw[z13 (decide_eq_true (by omega)),zoq N hs h (by omega),Option.bind_some];dsimp only;rw[zrs (a:=b) (by omega)];cases hh:z3n s b with
   | true=>rw[cond_true,zrs (a:=n) (by omega)];exact hr _ ⟨n+1,b+1,rfl,by omega,by omega,by rw[cnt,hh,hn];rfl⟩ (by simp only[Int.toNat_natCast];omega)
   | false=>rw[cond_false];exact hr _ ⟨n,b+1,rfl,by omega,by omega,by rw[cnt,hh,hn];rfl⟩ (by simp only[Int.toNat_natCast];omega)
 . rw[z2i (decide_eq_false (by omega)),hn,show b=256 by omega];rfl
theorem z12m {N:Nat}(hN:300<=N){s:List Int}(hs:SetOk s)(o:List UInt8){lo:Nat}(hl:lo<256)(k0:Int->Option (List UInt8)):z69 N s o (lo:Int) (lo:Int) k0=k0 ((zhj (z3n s) (256 - lo) lo:Nat):Int):=by
 rw[z69,zeu];refine (zbo (fun v=>∃ h:Nat,v=(h:Int)/\h<=256) (fun v=>256 - v.toNat) (fun v=>k0 ((zhj (z3n s) (256 - v.toNat) v.toNat:Nat):Int)) ?_ N (lo:Int) ⟨lo,rfl,by omega⟩ (by simp only[Int.toNat_natCast];omega)).trans (by simp only[Int.toNat_natCast]);rintro _ r ⟨h,rfl,hh⟩ hr;simp only[Int.toNat_natCast];rw[z9z,za3];by_cases hlt:h<256
 . rw[z13 (decide_eq_true (by omega)),zoq N hs hlt (by omega),Option.bind_some,zrs (by omega),show 256 - h=(255 - h)+1 by omega,zhj];cases hb:z3n s h with
   | true=>rw[cond_true,if_pos rfl,hr _ ⟨h+1,rfl,by omega⟩ (by simp only[Int.toNat_natCast];omega),Int.toNat_natCast,show 256 - (h+1)=255 - h by omega]
   | false=>rw[cond_false,if_neg (by decide)]
 . rw[z2i (decide_eq_false (by omega)),show 256 - h=0 by omega];rfl
theorem zzv {N:Nat} (hN:300<=N) {s:List Int} (hs:SetOk s) (k0:List UInt8->Option (List UInt8)):za4 N s [91] 0 k0=k0 ([91]++RT (z3n s) 0):=by
 rw[za4];refine (zbo (fun v=>∃ (o:List UInt8) (p:Nat),v=(o,(p:Int))/\p<=257/\o.length<=1+9*p) (fun v=>257 - v.2.toNat) (fun v=>k0 (v.1++RT (z3n s) v.2.toNat)) ?_ N ([91],0) ⟨[91],0,rfl,by omega,by decide⟩ (by simp only;omega)).trans (by rfl);rintro _ r ⟨o,p,rfl,hp,ho⟩ hr;simp only[Int.toNat_natCast];rw[za0];by_cases hlt:p<256
 . rw[z13 (decide_eq_true (by omega)),z12m hN hs o hlt,zxx hlt];have he:=zjz (z3n s) (256 - p) p;generalize zhj (z3n s) (256 - p) p=e at he;rw[za2,zrs (by omega)];by_cases h1:p<e
   . have hs1:(ztd zpm p).length<=4:=zgy _ _;have hs2:(ztd zpm (e - 1)).length<=4:=zgy _ _;have w2:IntKind.wrap .i64 ((p:Int)+2)=((p+2:Nat):Int):=by
      rw[show ((p:Int)+2)=((p+2:Nat):Int) from rfl];exact z5x (by unfold I64;omega)
     have w3:IntKind.wrap .i64 ((e:Int) - 1)=((e - 1:Nat):Int):=by
      rw[show ((e:Int) - 1)=((e - 1:Nat):Int) by omega];exact z5x (by unfold I64;omega)
     rw[z13 (decide_eq_true (by omega)),show ([(92:UInt8),(91:UInt8),(93:UInt8),(45:UInt8),(94:UInt8)]:List UInt8)=zpm from rfl,zo8 (by omega) hlt,Option.bind_some,z13 (decide_eq_true (by omega)),if_pos h1];rw[z68,w2];have fin:∀ o3:List UInt8,o3=o++zfl p (e - 1)->r (o3,((e+1:Nat):Int))=k0 (o++(zfl p (e - 1)++RT (z3n s) (e+1))):=by
      intro o3 ho3;have hl:=zm2 p (e - 1);rw[hr _ ⟨o3,e+1,rfl,by omega,by rw[ho3,List.length_append];omega⟩ (by simp only[Int.toNat_natCast];omega)];simp only[Int.toNat_natCast];rw[ho3,List.append_assoc]
     by_cases h3:p+2<e
     . rw[z13 (decide_eq_true (by omega)),z13 (decide_eq_true (by simp only[List.length_append];omega)),z47,zrs (by omega),z13 (decide_eq_true (by omega)),w3,show ([(92:UInt8),(91:UInt8),(93:UInt8),(45:UInt8),(94:UInt8)]:List UInt8)=zpm from rfl,zo8 (by omega) (by omega),Option.bind_some,z13 (decide_eq_true (by simp only[List.length_append,List.length_cons,List.length_nil];omega))];refine fin _ ?_;rw[zfl,if_neg (by omega),if_neg (by omega)];simp only[List.append_assoc]
     . rw[z2i (decide_eq_false (by omega)),z47,zrs (by omega)];by_cases h2:p+1<e
       . rw[z13 (decide_eq_true (by omega)),w3,show ([(92:UInt8),(91:UInt8),(93:UInt8),(45:UInt8),(94:UInt8)]:List UInt8)=zpm from rfl,zo8 (by omega) (by omega),Option.bind_some,z13 (decide_eq_true (by simp only[List.length_append];omega))];refine fin _ ?_;rw[zfl,if_neg (by omega),if_pos (by omega)];simp only[List.append_assoc]
       . rw[z2i (decide_eq_false (by omega))];refine fin _ ?_;rw[zfl,if_pos (by omega)]
   . have h2:e=p:=by omega
     have w2:IntKind.wrap .i64 ((p:Int)+2)=((p+2:Nat):Int):=by
      rw[show ((p:Int)+2)=((p+2:Nat):Int) from rfl];exact z5x (by unfold I64;omega)
     rw[z2i (decide_eq_false (by omega)),z68,w2,z2i (decide_eq_false (by omega)),z47,zrs (by omega),z2i (decide_eq_false (by omega)),if_neg h1,List.nil_append];rw[hr _ ⟨o,e+1,rfl,by omega,by omega⟩ (by simp only[Int.toNat_natCast];omega)];simp only[Int.toNat_natCast]
 . rw[z2i (decide_eq_false (by omega)),zzi (by omega),List.append_nil]
theorem z16b (N:Nat):z6b (N+300)=some [287948901175001088,0,0,0]:=by kernel_rfl
theorem z18c (N:Nat):z71 (N+300)=some [287948901175001088,576460745995190270,0,0]:=by kernel_rfl
theorem zix (s t:List Int):eqD (T.arr 4 (T.int Go.IntKind.u64)) s t=decide (s=t):=by
 by_cases h:s=t
 . rw[h,decide_eq_true rfl];exact z13v t
 . rw[decide_eq_false h];cases hb:eqD (T.arr 4 (T.int Go.IntKind.u64)) s t with
   | false=>rfl
   | true=>exact absurd ((zkk _ _ _ rfl).1 hb) h
theorem zza {s:List Int}(hs:SetOk s)(h:zkm s=0):s=[0,0,0,0]:=by
 refine z129 hs zsh (fun b hb=>?_);rw[zsp];cases hh:z3n s b with
 | false=>rfl
 | true =>
   have hm:=(zit s 256 0 b).2 ⟨by omega,by omega,hh⟩;have hl:=zkx s 256 0;simp only[Nat.zero_add] at hl;have hz:(znc s 256 0).length=0:=hl.trans h;rw[List.length_eq_zero_iff.1 hz] at hm;cases hm
theorem z1c8 {s:List Int}:zkm [0,0,0,0]=0:=by
 rw[zwy rfl];decide
theorem ztt {N:Nat} (hN:300<=N) {s:List Int} (hs:SetOk s):z4m N s=some (z198 s):=by
 rw[z4m,zw1 hN hs];have hc:=zsx s;have hrl:(RT (z3n s) 0).length<=9*257:=zzh _ _ _;obtain⟨k,rfl⟩:∃ k,N=k+300:=⟨N - 300,by omega⟩
 unfold z198;by_cases h0:zkm s=0
 . rw[h0,z13 (by rfl),if_neg (by decide),if_neg (by decide)];have hz:=zza hs h0;rw[if_neg (by rw[hz];decide),if_neg (by rw[hz];decide),if_pos rfl]
 rw[z2i (beq_eq_false_iff_ne.2 (by omega))];by_cases h256:zkm s=256
 . rw[z13 (beq_iff_eq.2 (by omega)),if_neg (by omega),if_pos h256]
 rw[z2i (beq_eq_false_iff_ne.2 (by omega))];by_cases h1:zkm s=1
 . rw[z13 (beq_iff_eq.2 (by omega)),if_pos h1,zvw hN hs,Option.bind_some];obtain⟨c,hc1,hc2⟩:∃ c:Nat,c<256/\za8 s 256 0=(c:Int):=by
    have hl:=zkx s 256 0;simp only[Nat.zero_add] at hl;have hz:(znc s 256 0).length=1:=hl.trans h1;obtain⟨c,hcl⟩:=List.length_eq_one_iff.1 hz;have hm:=(zit s 256 0 c).1 (by rw[hcl];exact List.mem_singleton.2 rfl);refine⟨c,by omega,zsm hm.2.2 256 0 (by omega) (by omega) (fun i h3 h4=>?_)⟩;cases hh:z3n s i with
    | false=>rfl
    | true =>
      have:=(zit s 256 0 i).2 ⟨by omega,by omega,hh⟩;rw[hcl] at this;have:=List.mem_singleton.1 this;omega
   rw[hc2,zqz (by omega) hc1,Option.bind_some,Int.toNat_natCast]
 rw[z2i (beq_eq_false_iff_ne.2 (by omega)),if_neg h1,if_neg h256,z16b,Option.bind_some,zix];by_cases hd:s=[287948901175001088,0,0,0]
 . rw[decide_eq_true hd,cond_true,if_pos hd]
 rw[decide_eq_false hd,cond_false,if_neg hd,z18c,Option.bind_some,zix];by_cases hw:s=[287948901175001088,576460745995190270,0,0]
 . rw[decide_eq_true hw,cond_true,if_pos hw]
 rw[decide_eq_false hw,cond_false,if_neg hw,zzv hN hs,if_neg h0,z13 (decide_eq_true (by simp only[List.length_append,List.length_cons,List.length_nil];omega))]
end
end Go.Proofs.YtnnjnkjfkaaikaaDoorLg
set_option linter.all false
set_option maxRecDepth 100000
namespace Go.Proofs.YtnnjnkjfkaaikaaDoorLg
noncomputable section
open Go Go.Lift Go.Proofs.YtnnjnkjfkaaikaaDoorPx
theorem z1d9 {f g:Nat->Bool} {p:Nat} (h:∀ i,p<=i->i<256->f i=g i):RT f p=RT g p:=by
 have hh:∀ k q,p<=q->zgd f k q=zgd g k q:=by
  intro k
  induction k with
  | zero=>intro q _;rfl
  | succ k ih =>
    intro q hq;rw[zgd,zgd];by_cases hq2:q<256
    . rw[if_pos hq2,if_pos hq2,zqw (f:=f) (g:=g) (256 - q) q (fun i h1 h2=>h i (by omega) (by omega))];have:=(zjz g (256 - q) q).1;rw[ih _ (by omega)]
    . rw[if_neg hq2,if_neg hq2]
 exact hh 257 p (Nat.le_refl _)
theorem zkg (s:List Int):∀ n b,(∃ c,b<=c/\c<b+n/\za8 s n b=(c:Int)/\z3n s c=true/\∀ i,b<=i->i<c->z3n s i=false)\/(za8 s n b=-1/\∀ i,b<=i->i<b+n->z3n s i=false)
 | 0,b=>.inr ⟨rfl,fun i h1 h2=>by omega⟩
 | n + 1,b=>by
   rw[za8];cases hb:z3n s b with
   | true=>exact .inl ⟨b,by omega,by omega,by rw[if_pos rfl],hb,fun i h1 h2=>by omega⟩
   | false =>
     rw[if_neg (by decide)];rcases zkg s n (b+1) with⟨c,h1,h2,h3,h4,h5⟩|⟨h1,h2⟩
     . refine .inl ⟨c,by omega,by omega,h3,h4,fun i h6 h7=>?_⟩;by_cases e:i=b
       . rw[e];exact hb
       . exact h5 i (by omega) h7
     . refine .inr ⟨h1,fun i h6 h7=>?_⟩;by_cases e:i=b
       . rw[e];exact hb
       . exact h2 i (by omega) (by omega)
theorem z12q {N:Nat}(hN:300<=N){s:List Int}(hs:SetOk s)(o:Unit×(List Int×Unit)){lo:Nat}(hl:lo<256)(hlo:z3n s lo=true)(k0:Int->Option (List UInt8)) :
 z9k N s o (lo:Int) (lo:Int) k0=k0 ((zhj (z3n s) (256 - lo) lo - 1:Nat):Int):=by
 rw[z9k,zhu];refine (zbo (fun v=>∃ h:Nat,v=(h:Int)/\h<=255) (fun v=>256 - v.toNat) (fun v=>k0 ((zhj (z3n s) (255 - v.toNat) (v.toNat+1) - 1:Nat):Int)) ?_ N (lo:Int) ⟨lo,rfl,by omega⟩ (by simp only[Int.toNat_natCast];omega)).trans (by
  simp only[Int.toNat_natCast];rw[show 256 - lo=(255 - lo)+1 by omega,zhj,if_pos hlo])
 rintro _ r ⟨h,rfl,hh⟩ hr;simp only[Int.toNat_natCast];rw[zd9,zdb];by_cases hlt:h<255
 . rw[z13 (decide_eq_true (by omega)),zrs (by omega),z11p (by omega),z1jb N hs (by omega),Option.bind_some,show 255 - h=(254 - h)+1 by omega,zhj];cases hb:z3n s (h+1) with
   | true=>rw[cond_true,if_pos rfl,hr _ ⟨h+1,rfl,by omega⟩ (by simp only[Int.toNat_natCast];omega),Int.toNat_natCast,show 255 - (h+1)=254 - h by omega]
   | false=>rw[cond_false,if_neg (by decide),show h+1 - 1=h by omega]
 . rw[z2i (decide_eq_false (by omega)),show 255 - h=0 by omega,zhj,show h+1 - 1=h by omega]
theorem z15d (N:Nat){lo hi:Nat}(h:lo<=hi)(hh:hi<256):zdc N (lo:Int) (hi:Int)=some (zfl lo hi):=by
 have h1:=zgy zpm lo;have h2:=zgy zpm hi;have w:IntKind.wrap .u8 ((hi:Int) - (lo:Int))=((hi - lo:Nat):Int):=by
  rw[show ((hi:Int) - (lo:Int))=((hi - lo:Nat):Int) by omega];exact z11p (by omega)
 rw[zdc,show ([(92:UInt8),(91:UInt8),(93:UInt8),(45:UInt8),(94:UInt8)]:List UInt8)=zpm from rfl,zpf N (by omega),Option.bind_some,zpf N hh,Option.bind_some,w,zfl];by_cases e0:hi=lo
 . rw[z13 (beq_iff_eq.2 (by omega)),if_pos e0]
 rw[z2i (beq_eq_false_iff_ne.2 (by omega)),if_neg e0];by_cases e1:hi=lo+1
 . rw[z13 (beq_iff_eq.2 (by omega)),if_pos e1,z13 (decide_eq_true (by omega))]
 . rw[z2i (beq_eq_false_iff_ne.2 (by omega)),if_neg e1,z13 (decide_eq_true (by omega)),z13 (decide_eq_true (by simp only[List.length_append,List.length_cons,List.length_nil];omega))]
theorem z18g (N:Nat){o s:List UInt8}(h:o.length+s.length<=1000000):z1a N ((),(z30 o,())) s=some ((((s.length:Nat):Int),(Go.Value.nilIface,())),(((),(z30 (o++s),())),())):=by
 rw[z1a,show decide _=true from decide_eq_true (by simp[z30];omega)];simp[z30]
theorem z13n {s:List Int}{c:Nat}(hc:c<256)(h:z3n s c=true):1<=zkm s:=by
 have hm:=(zit s 256 0 c).2 ⟨by omega,by omega,h⟩;have hl:=zkx s 256 0;simp only[Nat.zero_add] at hl;have h2:0<(znc s 256 0).length:=List.length_pos_of_mem hm;have h3:(znc s 256 0).length=zkm s:=hl;omega
theorem z15y {t:List Int} (ht:SetOk t) {c e n:Nat} (hn:n=e - c) (hce:c<e) (he:e<=256) (h4:z3n t c=true) (h5:∀ i,i<c->z3n t i=false) (hend:e<256->z3n t e=false) :
 SetOk (ofS n c [0,0,0,0])/\SetOk (z113 t (z130 (ofS n c [0,0,0,0])))/\zkm (z113 t (z130 (ofS n c [0,0,0,0])))+1<=zkm t/\RT (z3n (z113 t (z130 (ofS n c [0,0,0,0])))) 0=RT (z3n t) (e+1):=by
 have hof:=z1it n c zsh (by omega);have hoh:∀ i,i<256->z3n (ofS n c [0,0,0,0]) i=decide (c<=i/\i<e):=fun i hi=>by
  rw[z17h _ _ zsh (by omega) hi,zsp,Bool.false_or];exact decide_eq_decide.2 (by omega)
 generalize ofS n c [0,0,0,0]=u at *;have hno:=z178 hof;have hand:=z1r0 ht hno;have hpar:=z10u ht hof;have hc1:1<=zkm (z113 t u):=z13n (c:=c) (by omega) (by rw[zsq ht hof (by omega),h4,hoh c (by omega),decide_eq_true (by omega)];rfl);have hbit:∀ i,i<256->z3n (z113 t (z130 u)) i=(z3n t i && !decide (c<=i/\i<e)):=fun i hi=>by
  rw[zsq ht hno hi,z13m hof hi,hoh i hi]
 refine⟨hof,hand,by omega,?_⟩;generalize z113 t (z130 u)=t2 at *;by_cases h256:e<256
 . have hfe:=hend h256;have hz:∀ i,0<=i->i<0+(e+1)->z3n t2 i=false:=fun i _ hi=>by
    rw[hbit i (by omega)];by_cases g1:i<c
    . rw[h5 i g1];rfl
    . by_cases g2:i<e
      . rw[decide_eq_true (by omega)];simp
      . rw[show i=e by omega,hfe];rfl
   have h6:=zlr (f:=z3n t2) (e+1) 0 (by omega) hz;rw[Nat.zero_add] at h6;rw[h6];refine z1d9 (fun i g1 g2=>?_);rw[hbit i g2,decide_eq_false (by omega)];simp
 . have hz:∀ i,0<=i->i<0+256->z3n t2 i=false:=fun i _ hi=>by
    rw[hbit i (by omega)];by_cases g1:i<c
    . rw[h5 i g1];rfl
    . rw[decide_eq_true (by omega)];simp
   have h6:=zlr (f:=z3n t2) 256 0 (by omega) hz;rw[Nat.zero_add] at h6;rw[h6,zzi (Nat.le_refl _),zzi (by omega)]
theorem z16q {f:Nat->Bool}{c:Nat}(hc:c<256)(h4:f c=true)(h5:∀ i,i<c->f i=false) :
 c<zhj f (256 - c) c/\RT f 0=zfl c (zhj f (256 - c) c - 1)++RT f (zhj f (256 - c) c+1):=by
 have hgt:c<zhj f (256 - c) c:=by
  rw[show 256 - c=(255 - c)+1 by omega,zhj,if_pos h4];have:=(zjz f (255 - c) (c+1)).1;omega
 have h6:=zlr (f:=f) c 0 (by omega) (fun i _ h7=>h5 i (by omega));rw[Nat.zero_add] at h6;exact⟨hgt,by rw[h6,zxx hc,if_pos hgt]⟩
theorem str14 (N:Nat){o:List UInt8}(h:o.length<=100000):(zti (((),(z30 o,())),())).bind (fun y1=>some y1.1)=some o:=by
 have h2:zti (((),(z30 o,())),())=some (o,(((),((),())),())):=by
  unfold zti;dsimp only;rw[zr1,show decide _=true from decide_eq_true (by simp[z30];omega),zlz];rfl
 rw[h2];rfl
theorem zzt {N:Nat}(hN:300<=N){t:List Int}(ht:SetOk t){o:List UInt8}(ho:o.length+9*zkm t<=9*256){c:Nat}(hc:c<256)(h4:z3n t c=true)(h5:∀ i,i<c->z3n t i=false)
 (k0:List Int->(Unit×(List Int×Unit))->Option (List UInt8)) :
 ∃ t2,SetOk t2/\zkm t2+1<=zkm t/\∃ x:List UInt8,x.length<=9/\RT (z3n t) 0=x++RT (z3n t2) 0/\z9l N t ((),(z30 o,())) (c:Int) k0=k0 t2 ((),(z30 (o++x),())):=by
 obtain⟨hgt,hRT⟩:=z16q hc h4 h5;have he:=(zjz (z3n t) (256 - c) c).2;have hend:=zyg (z3n t) (256 - c) c;have hpe:=z12q (o:=((),(z30 o,()))) hN ht hc h4;generalize zhj (z3n t) (256 - c) c=e at *;obtain⟨g1,g2,g3,g4⟩:=z15y ht (n:=e - 1+1 - c) (by omega) hgt (by omega) h4 h5 (fun h=>hend (by omega));have hl:=zm2 c (e - 1);have hcn:=z13n hc h4;refine⟨_,g2,g3,zfl c (e - 1),hl,by rw[g4];exact hRT,?_⟩;rw[z9l,hpe,z11p hc,z11p (by omega),z15d N (by omega) (by omega),Option.bind_some,z18g N (by omega),Option.bind_some,of_eq N hc (by omega) (by omega),Option.bind_some,z13b (by omega) ht g1,Option.bind_some]
end
end Go.Proofs.YtnnjnkjfkaaikaaDoorLg
set_option linter.all false
set_option maxRecDepth 100000
namespace Go.Proofs.YtnnjnkjfkaaikaaDoorLg
noncomputable section
open Go Go.Lift Go.Proofs.YtnnjnkjfkaaikaaDoorPx
def appS (b:List Int)(f:Nat->Bool):List UInt8:=zd7 b++RT f 0
theorem z16n (f:Nat->Bool):appS [] f=RT f 0:=List.nil_append _
theorem zze (o:List UInt8)(f:Nat->Bool):appS (z30 o) f=o++RT f 0:=by unfold appS;rw[zlz]
theorem z12c {N:Nat}(hN:300<=N){s:List Int}(hs:SetOk s):zb4 N s=some (RT (z3n s) 0):=by
 rw[zb4,zmk (by omega) hs,Option.bind_some,zhv];have hc0:=zsx s;refine (zbo (fun v=>∃ (t:List Int) (o:List UInt8),v.1=t/\v.2.1=((),(z30 o,()))/\v.2.2=za8 t 256 0/\SetOk t/\o.length+9*zkm t<=9*256) (fun v=>zkm v.1) (fun v=>some (appS v.2.1.2.1 (z3n v.1))) ?_ N (s,(((),([],())),za8 s 256 0)) ⟨s,[],rfl,rfl,rfl,hs,by simp only[List.length_nil];omega⟩ (by simp only;omega)).trans (congrArg some (z16n (z3n s)));rintro⟨t',b',l'⟩ r ⟨t,o,e1,e2,e3,ht,ho⟩ hr;simp only at e1 e2 e3;subst e1 e2 e3;simp only;rw[zda,zze];rcases zkg t' 256 0 with⟨c,h1,h2,h3,h4,h5⟩|⟨h1,h2⟩
 . obtain⟨t2,q1,q2,x,q3,q4,q5⟩:=zzt hN ht ho (c:=c) (by omega) h4 (fun i hi=>h5 i (by omega) hi) (fun s1 out1=>(z1l N s1).bind fun y=>r (s1,out1,y));rw[h3,z13 (decide_eq_true (by omega)),q5,zmk (by omega) q1,Option.bind_some,hr _ ⟨t2,o++x,rfl,rfl,rfl,q1,by rw[List.length_append];omega⟩ (by simp only;omega)];simp only;rw[zze,q4,List.append_assoc]
 . have hz:=zlr (f:=z3n t') 256 0 (by omega) (fun i g1 g2=>h2 i g1 (by omega));rw[Nat.zero_add] at hz;rw[h1,z2i (decide_eq_false (by omega)),hz,zzi (Nat.le_refl _),List.append_nil];exact str14 N (by omega)
theorem z1qj (N:Nat):z29 (N+300) 0 255=some [18446744073709551615,18446744073709551615,18446744073709551615,18446744073709551615]:=by kernel_rfl
theorem z12s (N:Nat):z48 (N+300) ([(48:UInt8),(49:UInt8),(50:UInt8),(51:UInt8),(52:UInt8),(53:UInt8),(54:UInt8),(55:UInt8),(56:UInt8),(57:UInt8)]:List UInt8)=some [287948901175001088,0,0,0]:=by kernel_rfl
theorem z1c0:SetOk [18446744073709551615,18446744073709551615,18446744073709551615,18446744073709551615]:=⟨_,_,_,_,rfl,zlx,zlx,zlx,zlx⟩
theorem zyx:((List.range 256).all fun b=>z3n [18446744073709551615,18446744073709551615,18446744073709551615,18446744073709551615] b)=true:=by decide +kernel
theorem zzb {f:Nat->Bool}:∀ n,cnt f n=n->∀ i,i<n->f i=true
 | 0,_,i,h=>by omega
 | n + 1,h,i,hi=>by
   rw[cnt] at h;have h1:=z147 f n;have h2:(f n).toNat<=1:=by cases f n<;>decide
   by_cases e:i=n
   . subst e;cases hf:f i with
     | true=>rfl
     | false=>rw[hf] at h;simp at h;omega
   . exact zzb n (by omega) i (by omega)
theorem z148 {f:Nat->Bool}:∀ n,(∀ i,i<n->f i=true)->cnt f n=n
 | 0,_=>rfl
 | n+1,h=>by rw[cnt,z148 n (fun i hi=>h i (by omega)),h n (by omega)];rfl
theorem zyy {s:List Int}(hs:SetOk s):s=[18446744073709551615,18446744073709551615,18446744073709551615,18446744073709551615] ↔ zkm s=256:=by
 constructor
 . rintro rfl;exact z148 256 (fun i hi=>zjt zyx hi)
 . intro h;exact z129 hs z1c0 (fun b hb=>by rw[zzb 256 h b hb,zjt zyx hb])
theorem zu1 {N:Nat}(hN:300<=N){s:List Int}(hs:SetOk s):zau N s=some (z198 s):=by
 have hc:=zsx s;have hrl:(RT (z3n s) 0).length<=9*257:=zzh _ _ _;have hrn:=z12c hN hs;obtain⟨k,rfl⟩:∃ k,N=k+300:=⟨N - 300,by omega⟩
 rw[zau,z10t (by omega) hs,Option.bind_some];unfold z198;by_cases h1:zkm s=1
 . rw[z13 (beq_iff_eq.2 (by omega)),if_pos h1,zmk (by omega) hs,Option.bind_some];rcases zkg s 256 0 with⟨c,h2,h3,h4,h5,h6⟩|⟨h2,h3⟩
   . rw[h4,z11p (by omega),zv5 _ (by omega),Option.bind_some,Int.toNat_natCast]
   . exfalso;have hl:=zkx s 256 0;simp only[Nat.zero_add] at hl;have hz:(znc s 256 0).length=1:=hl.trans h1;obtain⟨c,hcl⟩:=List.length_eq_one_iff.1 hz;have hm:=(zit s 256 0 c).1 (by rw[hcl];exact List.mem_singleton.2 rfl);rw[h3 c (by omega) (by omega)] at hm;exact absurd hm.2.2 (by decide)
 rw[z2i (beq_eq_false_iff_ne.2 (by omega)),if_neg h1,z1qj,Option.bind_some,zix];by_cases h256:zkm s=256
 . rw[decide_eq_true ((zyy hs).2 h256),cond_true,if_pos h256]
 rw[decide_eq_false (fun e=>h256 ((zyy hs).1 e)),cond_false,if_neg h256,z12s,Option.bind_some,zix];by_cases hd:s=[287948901175001088,0,0,0]
 . rw[decide_eq_true hd,cond_true,if_pos hd]
 rw[decide_eq_false hd,cond_false,if_neg hd];refine (congrArg (fun o:Option (List Int)=>o.bind _) (show z48 (k+300) _=some [287948901175001088,576460745995190270,0,0] by kernel_rfl)).trans ?_;rw[Option.bind_some,zix];by_cases hw:s=[287948901175001088,576460745995190270,0,0]
 . rw[decide_eq_true hw,cond_true,if_pos hw]
 rw[decide_eq_false hw,cond_false,if_neg hw,zix];by_cases h0:zkm s=0
 . rw[decide_eq_true (zza hs h0),cond_true,if_pos h0]
 . have hne:s≠[0,0,0,0]:=fun e=>h0 (by rw[e];exact z1c8 (s:=s))
   rw[decide_eq_false hne,cond_false,if_neg h0,hrn,Option.bind_some,z13 (decide_eq_true (by omega)),z13 (decide_eq_true (by simp only[List.length_append,List.length_cons,List.length_nil];omega))]
end
end Go.Proofs.YtnnjnkjfkaaikaaDoorLg
set_option linter.all false
set_option maxRecDepth 100000
namespace Go.Proofs.YtnnjnkjfkaaikaaDoorLg
noncomputable section
open Go Go.Lift Go.Proofs.YtnnjnkjfkaaikaaDoorPx
def z1dl (n:Nat):List UInt8:=if n<10 then [UInt8.ofNat (48+n)] else [UInt8.ofNat (48+n / 10),UInt8.ofNat (48+n % 10)]
def zg9 (lo hi:Int):List UInt8 :=
 if lo=0/\hi=-1 then [42] else if lo=1/\hi=-1 then [43] else if lo=0/\hi=1 then [63] else if hi=lo then [123]++z1dl lo.toNat++[125] else if hi=-1 then [123]++z1dl lo.toNat++[44,125] else
 [123]++z1dl lo.toNat++[44]++z1dl hi.toNat++[125]
theorem z104 (N:Nat):((List.range 17).all fun lo=>(List.range 18).all fun h=>z9j (N+20) (lo:Int) ((h:Int) - 1) == some (zg9 (lo:Int) ((h:Int) - 1)))=true:=by kernel_rfl
theorem zzu (N:Nat):((List.range 17).all fun lo=>(List.range 18).all fun h=>z4l (N+20) (lo:Int) ((h:Int) - 1) == some (zg9 (lo:Int) ((h:Int) - 1)))=true:=by kernel_rfl
theorem zw4 {N:Nat}(hN:20<=N){lo hi:Int}(h:zh3 lo hi=true):z9j N lo hi=some (zg9 lo hi):=by
 obtain⟨k,rfl⟩:∃ k,N=k+20:=⟨N - 20,by omega⟩
 unfold zh3 at h;rw[decide_eq_true_eq] at h;obtain⟨a,rfl⟩:∃ a:Nat,lo=(a:Int):=⟨lo.toNat,by omega⟩
 obtain⟨b,rfl⟩:∃ b:Nat,hi=(b:Int) - 1:=⟨(hi+1).toNat,by omega⟩
 have h1:=zjt (z104 k) (b:=a) (by omega);exact beq_iff_eq.1 (zjt h1 (b:=b) (by omega))
theorem zvv {N:Nat}(hN:20<=N){lo hi:Int}(h:zh3 lo hi=true):z4l N lo hi=some (zg9 lo hi):=by
 obtain⟨k,rfl⟩:∃ k,N=k+20:=⟨N - 20,by omega⟩
 unfold zh3 at h;rw[decide_eq_true_eq] at h;obtain⟨a,rfl⟩:∃ a:Nat,lo=(a:Int):=⟨lo.toNat,by omega⟩
 obtain⟨b,rfl⟩:∃ b:Nat,hi=(b:Int) - 1:=⟨(hi+1).toNat,by omega⟩
 have h1:=zjt (zzu k) (b:=a) (by omega);exact beq_iff_eq.1 (zjt h1 (b:=b) (by omega))
theorem zyr (n:Nat):(z1dl n).length<=2:=by unfold z1dl;split<;>simp
theorem zmu (lo hi:Int):(zg9 lo hi).length<=7:=by
 have h1:=zyr lo.toNat;have h2:=zyr hi.toNat;unfold zg9;split
 . simp
 . split
   . simp
   . split
     . simp
     . split
       . simp only[List.length_append,List.length_cons,List.length_nil];omega
       . split<;>simp only[List.length_append,List.length_cons,List.length_nil]<;>omega
def z6x (k kk:Int):Bool:=decide ((k=2/\kk=3)\/(k=4/\kk≠1))
theorem z10p (N:Nat) (a b:Int) (r s:List Int×(List Tree×(Int×(Int×Unit)))):z1u N (a,r) (b,s)=some (z6x a b):=by
 unfold z1u z6x;simp only[Bool.cond_eq_ite,beq_iff_eq];by_cases h2:a=2
 . rw[if_pos h2];by_cases h3:b=3
   . rw[if_pos h3,decide_eq_true (.inl ⟨h2,h3⟩)]
   . rw[if_neg h3,if_neg (by omega),decide_eq_false (by omega)]
 . rw[if_neg h2];by_cases h4:a=4
   . rw[if_pos h4];congr 1;by_cases h1:b=1
     . rw[h1,decide_eq_false (by omega)];rfl
     . rw[decide_eq_true (.inr ⟨h4,h1⟩)];exact bne_iff_ne.2 h1
   . rw[if_neg h4,decide_eq_false (by omega)]
theorem zut (N:Nat)(n k:NodT.den):z1u N n k=some (z6x n.1 k.1):=z10p N n.1 k.1 n.2 k.2
def zu5 (e:Bool)(s:List UInt8):List UInt8:=if e=true then [40]++s++[41] else s
def zt5 (k:Int)(i:Nat):List UInt8:=if k=3/\0<i then [124] else []
def z17k (k:Int)(st:List Int)(lo hi:Int):List UInt8:=if k=1 then z198 st else if k=4 then zg9 lo hi else []
mutual
def zly:Tree->List UInt8
 | .mk k st ks lo hi=>zo4 ks k 0++z17k k st lo hi
def zo4:List Tree->Int->Nat->List UInt8
 | [],_,_=>[]
 | x::xs,k,i=>zt5 k i++(zu5 (z6x k (z3d x)) (zly x)++zo4 xs k (i+1))
end
mutual
def zgz:Tree->Nat
 | .mk k _ ks _ _=>zeo ks k
def zeo:List Tree->Int->Nat
 | [],_=>0
 | x::xs,k=>max (zgz x+(z6x k (z3d x)).toNat) (zeo xs k)
end
theorem zs9 (e:Bool)(s:List UInt8):(zu5 e s).length=s.length+2*e.toNat:=by
 unfold zu5;cases e with
 | true=>rw[if_pos rfl];simp only[List.length_append,List.length_cons,List.length_nil,Bool.toNat_true];omega
 | false=>rw[if_neg (by decide)];simp
theorem zt4 (k:Int)(i:Nat):(zt5 k i).length<=1:=by unfold zt5;split<;>simp
theorem znx (k:Int)(st:List Int)(lo hi:Int):(z17k k st lo hi).length<=2400:=by
 have:=z15b st;have:=zmu lo hi;unfold z17k;split
 . omega
 . split
   . omega
   . simp
mutual
theorem zy2:∀ t:Tree,(zly t).length+3<=2410*z23 t
 | .mk k st ks lo hi=>by
   have h1:=zrv ks k 0;have h2:=znx k st lo hi;rw[zly,z23,List.length_append];omega
theorem zrv:∀ (ks:List Tree) (k:Int) (i:Nat),(zo4 ks k i).length<=2410*zap ks
 | [],_,_=>by simp[zo4,zap]
 | x::xs,k,i=>by
   have h1:=zy2 x;have h2:=zrv xs k (i+1);have h3:=zs9 (z6x k (z3d x)) (zly x);have h4:=zt4 k i;have h5:=zfy x;have h6:(z6x k (z3d x)).toNat<=1:=by cases z6x k (z3d x)<;>decide
   rw[zo4,zap,List.length_append,List.length_append];omega
end
mutual
theorem zz8:∀ t:Tree,zgz t<=z23 t
 | .mk k st ks lo hi=>by
   have h1:=zz9 ks k;rw[zgz,z23];omega
theorem zz9:∀ (ks:List Tree) (k:Int),zeo ks k<=zap ks+1
 | [],_=>by simp[zeo]
 | x::xs,k=>by
   have h1:=zz8 x;have h2:=zz9 xs k;have h6:(z6x k (z3d x)).toNat<=1:=by cases z6x k (z3d x)<;>decide
   rw[zeo,zap];omega
end
end
end Go.Proofs.YtnnjnkjfkaaikaaDoorLg
set_option linter.all false
set_option maxRecDepth 100000
namespace Go.Proofs.YtnnjnkjfkaaikaaDoorLg
noncomputable section
open Go Go.Lift Go.Proofs.YtnnjnkjfkaaikaaDoorPx
def z4:List Int:=[0,0,0,0]
def Good (x:Tree):Prop:=WfN x/\z5l x=true
theorem z6i {k:Int}{st:List Int}{ks:List Tree}{lo hi:Int}(h:z5l (.mk k st ks lo hi)=true):shT k st ks lo hi=true/\∀ x∈ks,z5l x=true:=by
 rw[z5l,Bool.and_eq_true] at h;refine⟨h.1,?_⟩;have:∀ ks:List Tree,zh5 ks=true->∀ x∈ks,z5l x=true:=by
  intro ks
  induction ks with
  | nil=>intro _ x hx;cases hx
  | cons y ys ih =>
    intro h x hx;rw[zh5,Bool.and_eq_true] at h;rcases List.mem_cons.1 hx with rfl|hx
    . exact h.1
    . exact ih h.2 x hx
 exact this ks h.2
theorem znp {k:Int}{st:List Int}{ks:List Tree}{lo hi:Int}(h:shT k st ks lo hi=true) :
 (k=1/\ks=[]/\lo=0/\hi=0)\/(k=2/\st=z4/\lo=0/\hi=0/\ks.length≠1/\∀ x∈ks,z3d x≠2)\/(k=3/\st=z4/\lo=0/\hi=0/\2<=ks.length/\∀ x∈ks,z3d x≠3)\/(k=4/\st=z4/\(∃ y,ks=[y])/\zh3 lo hi=true):=by
 unfold shT at h;by_cases h1:k=1
 . rw[if_pos h1] at h;simp only[Bool.and_eq_true,beq_iff_eq] at h;exact .inl ⟨h1,List.length_eq_zero_iff.1 h.1,h.2.1,h.2.2⟩
 rw[if_neg h1] at h;by_cases h2:k=2
 . rw[if_pos h2] at h;simp only[Bool.and_eq_true,beq_iff_eq,bne_iff_ne,ne_eq,Bool.not_eq_true',List.any_eq_false] at h;exact .inr (.inl ⟨h2,h.1,h.2.1,h.2.2.1,h.2.2.2.1,fun x hx=>by simpa using h.2.2.2.2 x hx⟩)
 rw[if_neg h2] at h;by_cases h3:k=3
 . rw[if_pos h3] at h;simp only[Bool.and_eq_true,beq_iff_eq,decide_eq_true_eq,Bool.not_eq_true',List.any_eq_false] at h;exact .inr (.inr (.inl ⟨h3,h.1,h.2.1,h.2.2.1,h.2.2.2.1,fun x hx=>by simpa using h.2.2.2.2 x hx⟩))
 rw[if_neg h3] at h;by_cases h4:k=4
 . rw[if_pos h4] at h;simp only[Bool.and_eq_true,beq_iff_eq] at h;exact .inr (.inr (.inr ⟨h4,h.1,List.length_eq_one_iff.1 h.2.1,h.2.2⟩))
 . rw[if_neg h4] at h;cases h
theorem znm {k:Int}{st:List Int}{ks:List Tree}{lo hi:Int}(h:WfN (.mk k st ks lo hi)):SetOk st/\∀ x∈ks,WfN x:=by
 rw[WfN] at h;exact⟨zyd h.2.1,(zlq ks).1 h.2.2.1.2⟩
theorem zwd {x:Tree}{ks:List Tree}{k:Int}{st:List Int}{lo hi:Int}(h:x∈ks):z23 x<z23 (.mk k st ks lo hi):=by
 have:=zd1 h;rw[z23];omega
end
end Go.Proofs.YtnnjnkjfkaaikaaDoorLg
set_option linter.all false
set_option maxRecDepth 100000
namespace Go.Proofs.YtnnjnkjfkaaikaaDoorLg
noncomputable section
open Go Go.Lift Go.Proofs.YtnnjnkjfkaaikaaDoorPx
def zw3 (k:Int):Nat:=if k=3 then 3 else if k=2 then 2 else if k=4 then 1 else 0
def lvT (c:Nat)(k:Int):Nat:=4*(17 - c)+zw3 k
theorem zz5 {N:Nat}(hN:320<=N){k:Int}{st:List Int}{ks:List Tree}{lo hi:Int}(hg:Good (.mk k st ks lo hi)):z6k N (k,st,ks,lo,hi,())=some (z17k k st lo hi):=by
 obtain⟨w1,_⟩:=znm hg.1;unfold z6k z17k;dsimp only;by_cases h1:k=1
 . rw[z13 (beq_iff_eq.2 h1),if_pos h1,zu1 (by omega) w1,Option.bind_some]
 . rw[z2i (beq_eq_false_iff_ne.2 h1),if_neg h1];by_cases h4:k=4
   . rw[z13 (beq_iff_eq.2 h4),if_pos h4];rcases znp (z6i hg.2).1 with⟨q,_⟩|⟨q,_⟩|⟨q,_⟩|⟨_,_,_,ht⟩
     . exact absurd q h1
     . omega
     . omega
     . rw[zw4 (by omega) ht,Option.bind_some]
   . rw[z2i (beq_eq_false_iff_ne.2 h4),if_neg h4]
theorem zw2 (k:Int):zw3 k<=3:=by
 unfold zw3;split
 . omega
 . split
   . omega
   . split<;>omega
theorem z17a {k:Int} {st:List Int} {ks:List Tree} {lo hi:Int} (hg:Good (.mk k st ks lo hi)) {x:Tree} (hx:x∈ks) {c:Nat} (hc:c<=16):lvT (c+(z6x k (z3d x)).toNat) (z3d x)+1<=lvT c k:=by
 have hr:=zw2 (z3d x);unfold lvT;cases he:z6x k (z3d x) with
 | true=>simp only[Bool.toNat_true];omega
 | false =>
   simp only[Bool.toNat_false,Nat.add_zero];have hn:=of_decide_eq_false he;have:zw3 (z3d x)+1<=zw3 k:=by
    rcases znp (z6i hg.2).1 with⟨_,q,_⟩|⟨h2,_,_,_,_,h5⟩|⟨h3,_,_,_,_,h5⟩|⟨h4,_⟩
    . rw[q] at hx;cases hx
    . have:=h5 x hx;subst h2;unfold zw3;rw[if_neg (by omega),if_neg this,if_neg (by omega:¬ (2:Int)=3),if_pos rfl];split<;>omega
    . have:=h5 x hx;subst h3;unfold zw3;rw[if_neg this,if_pos rfl];split
      . omega
      . split<;>omega
    . subst h4;have:z3d x=1:=by omega
      rw[this];decide
   omega
def z1dg (self:NodT.den->Bool->zin->Option zin)(k:Int)(c Y:Nat)(x:Tree):Prop:=∀ xs:List UInt8,xs.length<=Y+1->∃ s,self (unN x) (z6x k (z3d x)) (xs,((c:Int),true))=some s ∧
 (xs.length<=256->s.1.length<=Y)/\(256<xs.length->s.1.length<=xs.length+2410/\s.2.2=false)/\(s.2.2=true->s=(xs++zu5 (z6x k (z3d x)) (zly x),((c:Int),true))/\c+(zgz x+(z6x k (z3d x)).toNat)<=16)
theorem zpb (N:Nat) {self:NodT.den->Bool->zin->Option zin} {n:NodT.den} {k:Int} (hk:n.1=k) {c Y:Nat} (hc:c<=16) (hY:Y<=10000000):∀ (ks:List Tree) (i:Nat) (xs:List UInt8),(∀ x∈ks,z1dg self k c Y x)->xs.length<=Y →
 ∃ q,z5g N self n i ks (xs,((c:Int),true))=some q/\q.1.1.length<=Y+2411/\(q.1.2.2=true->q=((xs++zo4 ks k i,((c:Int),true)),true)/\c+zeo ks k<=16)
 | [],i,xs,_,hx=>⟨_,rfl,by show xs.length<=_;omega,fun _=>⟨by rw[zo4,List.append_nil],by rw[zeo];omega⟩⟩
 | x :: rest,i,xs,hks,hx=>by
   have hb:zv9 n i (xs,((c:Int),true))=some (xs++zt5 k i,((c:Int),true)):=by
    unfold zv9 zt5;rw[hk];by_cases h:k=3/\0<i
    . rw[if_pos h,if_pos h,if_pos (show z9i xs 1=true by unfold z9i;exact decide_eq_true (by omega))]
    . rw[if_neg h,if_neg h,List.append_nil]
   have hbl:=zt4 k i;have hen:z1u N n (unN x)=some (z6x k (z3d x)):=by rw[zut,hk];rfl
   obtain⟨s,h1,h2,h3,h4⟩:=hks x List.mem_cons_self (xs++zt5 k i) (by rw[List.length_append];omega);have hstep:z5g N self n i (x::rest) (xs,((c:Int),true))=z5g N self n (i+1) rest s:=by
    rw[z5g,if_neg (by simp),hb,Option.bind_some,hen,Option.bind_some,h1,Option.bind_some]
   rw[hstep];rw[List.length_append] at h2 h3;cases hf:s.2.2 with
   | true =>
     obtain⟨h5,h6⟩:=h4 hf;have hle:s.1.length<=Y:=by
      by_cases hl:xs.length+(zt5 k i).length<=256
      . exact h2 hl
      . have:=(h3 (by omega)).2;rw[hf] at this;cases this
     obtain⟨q,g1,g2,g3⟩:=zpb N hk hc hY rest (i+1) s.1 (fun y hy=>hks y (List.mem_cons_of_mem _ hy)) hle;have hs:s=(s.1,((c:Int),true)):=by rw[h5]
     rw[hs];refine⟨q,g1,g2,fun ht=>?_⟩;obtain⟨g4,g5⟩:=g3 ht;refine⟨?_,by rw[zeo];omega⟩;rw[g4,zo4,h5];simp only[List.append_assoc]
   | false =>
     have hle:s.1.length<=Y+2411:=by
      by_cases hl:xs.length+(zt5 k i).length<=256
      . have:=h2 hl;omega
      . have:=(h3 (by omega)).1;omega
     cases rest with
     | nil=>exact⟨(s,true),rfl,hle,fun ht=>by rw[hf] at ht;cases ht⟩
     | cons y ys=>exact⟨(s,false),by rw[z5g,if_pos hf],hle,fun ht=>by rw[hf] at ht;cases ht⟩
theorem zsb {N:Nat}{n:NodT.den}{E:List UInt8}(he:z6k N n=some E)(hE:E.length<=2400)(e:Bool){s:zin}(hs:s.1.length<=100000000) :
 z15p N n e s=some (if e=true then (s.1++E++[41],(Go.RowKit.wrap64 (s.2.1 - 1),s.2.2)) else (s.1++E,s.2)):=by
 unfold z15p;rw[he,Option.bind_some,if_pos (show z9i s.1 (E.length+1)=true by unfold z9i;exact decide_eq_true (by omega))]
theorem zvh {N:Nat} (hN:320<=N):∀ (h:Nat) (t:Tree),z23 t<=h->Good t->∀ (e:Bool) (xs:List UInt8) (c:Nat),c<=16->xs.length<=10000000 →
 ∃ s,zhl N h (unN t) e (xs,((c:Int),true))=some s/\(xs.length<=256->s.1.length<=256+5000*(lvT (c+e.toNat) (z3d t)+1))/\(256<xs.length->s.1.length<=xs.length+2410/\s.2.2=false) ∧
   (s.2.2=true->s=(xs++zu5 e (zly t),((c:Int),true))/\c+(zgz t+e.toNat)<=16)
 | 0,t,hn,_=>by have:=zfy t;omega
 | h + 1,.mk k st ks lo hi,hn,hg=>by
   intro e xs c hc hx;have hen:=zz5 hN hg;have hE:=znx k st lo hi;obtain⟨w1,w2⟩:=znm hg.1;have hkl:ks.length<=9223372036854775807:=by
    have hw:=hg.1;rw[WfN] at hw;have:=hw.2.2.1.1;unfold maxLen at this;omega
   obtain⟨c1,hc1⟩:∃ c1,c1=c+e.toNat:=⟨_,rfl⟩
   have he1:e.toNat<=1:=by cases e<;>decide
   obtain⟨xs1,hxs1⟩:∃ xs1,xs1=xs++(if e=true then [40] else []):=⟨_,rfl⟩
   have hl1:xs1.length=xs.length+e.toNat:=by rw[hxs1,List.length_append];cases e<;>simp
   have hin:z1bx e (xs,((c:Int),true))=some (xs1,((c1:Int),true)):=by
    unfold z1bx;cases e with
    | true =>
      rw[if_pos rfl,if_pos (show z9i xs 1=true by unfold z9i;exact decide_eq_true (by omega)),hxs1,if_pos rfl,hc1];congr 3;unfold Go.RowKit.wrap64;simp only[Bool.toNat_true];omega
    | false =>
      rw[if_neg (by decide),hxs1,if_neg (by decide),List.append_nil,hc1];rfl
   show ∃ s,zhl N (h+1) (k,st,ks,lo,hi,()) e (xs,((c:Int),true))=some s/\_;rw[zhl];dsimp only;rw[if_pos (show decide (ks.length<=9223372036854775807)=true from decide_eq_true hkl),hin,Option.bind_some];have hk2:z3d (.mk k st ks lo hi)=k:=rfl;have hlv:lvT c1 k<=71:=by have:=zw2 k;unfold lvT;omega
   rw[hk2,<- hc1];by_cases hfit:xs1.length<=256/\c1<=16
   . have hf : zmj (xs1,((c1:Int),true))=(xs1,((c1:Int),true)):=by
      unfold zmj;rw[decide_eq_true hfit.1,decide_eq_true (show (c1:Int)<=16 by omega)];rfl
     rw[hf];obtain⟨q,g1,g2,g3⟩:=zpb N (self:=zhl N h) (n:=(k,st,ks,lo,hi,())) (k:=k) rfl hfit.2 (Y:=256+5000*lvT c1 k) (by omega) ks 0 xs1 (fun x hxm zs hz=>by
      have hgx:Good x:=⟨w2 x hxm,(z6i hg.2).2 x hxm⟩
      have hnx:=zwd (k:=k) (st:=st) (lo:=lo) (hi:=hi) hxm;have hlk:=z17a hg hxm hfit.2;obtain⟨s,a1,a2,a3,a4⟩:=zvh hN h x (by omega) hgx (z6x k (z3d x)) zs c1 hfit.2 (by omega);exact⟨s,a1,fun hh=>by have:=a2 hh;omega,a3,a4⟩) (by omega)
     rw[g1,Option.bind_some];by_cases hq:q.2=false
     . rw[if_pos hq];have hff:q.1.2.2≠true:=fun ht=>by rw[(g3 ht).1] at hq;cases hq
       exact⟨q.1,rfl,fun _=>by omega,fun hh=>by omega,fun ht=>absurd ht hff⟩
     . rw[if_neg hq,zsb hen hE e (by omega)];refine⟨_,rfl,fun _=>?_,fun hh=>by omega,fun ht=>?_⟩
       . cases e with
         | true=>rw[if_pos rfl];simp only[List.length_append,List.length_cons,List.length_nil];omega
         | false=>rw[if_neg (by decide)];simp only[List.length_append];omega
       . have hqt:q.1.2.2=true:=by
          cases e with
          | true=>rw[if_pos rfl] at ht;exact ht
          | false=>rw[if_neg (by decide)] at ht;exact ht
         obtain⟨g4,g5⟩:=g3 hqt;rw[g4];refine⟨?_,by rw[zgz];omega⟩;rw[zly,hxs1];cases e with
         | true =>
           rw[if_pos rfl,if_pos rfl,zu5,if_pos rfl];have hw:Go.RowKit.wrap64 ((c1:Int) - 1)=(c:Int):=by
            simp only[Bool.toNat_true] at hc1;unfold Go.RowKit.wrap64;omega
           simp only[hw,List.append_assoc]
         | false =>
           have:c1=c:=by simp only[Bool.toNat_false] at hc1;omega
           rw[if_neg (by decide),if_neg (by decide),zu5,if_neg (by decide),this];simp only[List.append_assoc,List.append_nil,List.nil_append]
   . have hf:zmj (xs1,((c1:Int),true))=(xs1,((c1:Int),false)):=by
      unfold zmj;by_cases h1:xs1.length<=256
      . rw[decide_eq_true h1,decide_eq_false (show ¬ (c1:Int)<=16 by omega)];rfl
      . rw[decide_eq_false h1];rfl
     rw[hf];cases ks with
     | nil =>
       rw[z5g,Option.bind_some,if_neg (by simp),zsb hen hE e (by show xs1.length<=_;omega)];refine⟨_,rfl,fun _=>?_,fun _=>⟨?_,?_⟩,fun ht=>?_⟩
       . cases e with
         | true=>rw[if_pos rfl];simp only[List.length_append,List.length_cons,List.length_nil];omega
         | false=>rw[if_neg (by decide)];simp only[List.length_append];omega
       . cases e with
         | true=>rw[if_pos rfl];simp only[List.length_append,List.length_cons,List.length_nil];omega
         | false=>rw[if_neg (by decide)];simp only[List.length_append];omega
       . cases e with
         | true=>rw[if_pos rfl]
         | false=>rw[if_neg (by decide)]
       . exfalso;cases e with
         | true=>rw[if_pos rfl] at ht;cases ht
         | false=>rw[if_neg (by decide)] at ht;cases ht
     | cons y ys =>
       rw[z5g,if_pos rfl,Option.bind_some,if_pos rfl];exact⟨_,rfl,fun _=>by show xs1.length<=_;omega,fun _=>⟨by show xs1.length<=_;omega,rfl⟩,fun ht=>by cases ht⟩
end
end Go.Proofs.YtnnjnkjfkaaikaaDoorLg
set_option linter.all false
set_option maxRecDepth 100000
namespace Go.Proofs.YtnnjnkjfkaaikaaDoorLg
noncomputable section
open Go Go.Lift Go.Proofs.YtnnjnkjfkaaikaaDoorPx
def z1rc (self:NodT.den->Bool->zin->Option zin)(k:Int)(c:Nat)(x:Tree):Prop:=∀ (xs:List UInt8) (s:zin),xs.length<=10000000->self (unN x) (z6x k (z3d x)) (xs,((c:Int),true))=some s->s.2.2=false →
 256<xs.length+(zu5 (z6x k (z3d x)) (zly x)).length\/16<c+(zgz x+(z6x k (z3d x)).toNat)
theorem zue (N:Nat) {self:NodT.den->Bool->zin->Option zin} {n:NodT.den} {k:Int} (hk:n.1=k) {c Y:Nat} (hc:c<=16) (hY:Y<=9000000):∀ (ks:List Tree) (i:Nat) (xs:List UInt8),(∀ x∈ks,z1dg self k c Y x)->(∀ x∈ks,z1rc self k c x)->xs.length<=Y →
 ∀ q,z5g N self n i ks (xs,((c:Int),true))=some q->q.1.2.2=false->256<xs.length+(zo4 ks k i).length\/16<c+zeo ks k
 | [],i,xs,_,_,hx=>fun q hq hf=>by
   rw[z5g] at hq;obtain rfl:=Option.some.inj hq;cases hf
 | x :: rest,i,xs,hks,hno,hx=>fun q hq hf=>by
   have hb:zv9 n i (xs,((c:Int),true))=some (xs++zt5 k i,((c:Int),true)):=by
    unfold zv9 zt5;rw[hk];by_cases h:k=3/\0<i
    . rw[if_pos h,if_pos h,if_pos (show z9i xs 1=true by unfold z9i;exact decide_eq_true (by omega))]
    . rw[if_neg h,if_neg h,List.append_nil]
   have hbl:=zt4 k i;have hen:z1u N n (unN x)=some (z6x k (z3d x)):=by rw[zut,hk];rfl
   obtain⟨s,h1,h2,h3,h4⟩:=hks x List.mem_cons_self (xs++zt5 k i) (by rw[List.length_append];omega);have hstep:z5g N self n i (x::rest) (xs,((c:Int),true))=z5g N self n (i+1) rest s:=by
    rw[z5g,if_neg (by simp),hb,Option.bind_some,hen,Option.bind_some,h1,Option.bind_some]
   rw[hstep] at hq;rw[List.length_append] at h2 h3;rw[zo4,zeo,List.length_append,List.length_append];cases hsf:s.2.2 with
   | true =>
     obtain⟨h5,h6⟩:=h4 hsf;have hle:s.1.length<=Y:=by
      by_cases hl:xs.length+(zt5 k i).length<=256
      . exact h2 hl
      . have:=(h3 (by omega)).2;rw[hsf] at this;cases this
     have hs:s=(s.1,((c:Int),true)):=by rw[h5]
     have hsl:s.1.length=xs.length+(zt5 k i).length+(zu5 (z6x k (z3d x)) (zly x)).length:=by rw[h5];simp only[List.length_append]
     rw[hs] at hq;have:=zue N hk hc hY rest (i+1) s.1 (fun y hy=>hks y (List.mem_cons_of_mem _ hy)) (fun y hy=>hno y (List.mem_cons_of_mem _ hy)) hle q hq hf;omega
   | false =>
     have:=hno x List.mem_cons_self (xs++zt5 k i) s (by rw[List.length_append];omega) h1 hsf;rw[List.length_append] at this;omega
theorem z11q {N:Nat} (hN:320<=N):∀ (h:Nat) (t:Tree),z23 t<=h->Good t->∀ (e:Bool) (xs:List UInt8) (c:Nat),c<=16->xs.length<=10000000 →
 ∀ s,zhl N h (unN t) e (xs,((c:Int),true))=some s->s.2.2=false->256<xs.length+(zu5 e (zly t)).length\/16<c+(zgz t+e.toNat)
 | 0,t,hn,_=>by have:=zfy t;omega
 | h + 1,.mk k st ks lo hi,hn,hg=>by
   intro e xs c hc hx s hs hsf;have hen:=zz5 hN hg;have hE:=znx k st lo hi;obtain⟨w1,w2⟩:=znm hg.1;have hkl:ks.length<=9223372036854775807:=by
    have hw:=hg.1;rw[WfN] at hw;have:=hw.2.2.1.1;unfold maxLen at this;omega
   obtain⟨c1,hc1⟩:∃ c1,c1=c+e.toNat:=⟨_,rfl⟩
   have he1:e.toNat<=1:=by cases e<;>decide
   obtain⟨xs1,hxs1⟩:∃ xs1,xs1=xs++(if e=true then [40] else []):=⟨_,rfl⟩
   have hl1:xs1.length=xs.length+e.toNat:=by rw[hxs1,List.length_append];cases e<;>simp
   have hin:z1bx e (xs,((c:Int),true))=some (xs1,((c1:Int),true)):=by
    unfold z1bx;cases e with
    | true =>
      rw[if_pos rfl,if_pos (show z9i xs 1=true by unfold z9i;exact decide_eq_true (by omega)),hxs1,if_pos rfl,hc1];congr 3;unfold Go.RowKit.wrap64;simp only[Bool.toNat_true];omega
    | false =>
      rw[if_neg (by decide),hxs1,if_neg (by decide),List.append_nil,hc1];rfl
   have hs':zhl N (h+1) (k,st,ks,lo,hi,()) e (xs,((c:Int),true))=some s:=hs;rw[zhl] at hs';dsimp only at hs';rw[if_pos (show decide (ks.length<=9223372036854775807)=true from decide_eq_true hkl),hin,Option.bind_some] at hs';have hpl:=zs9 e (zly (.mk k st ks lo hi));rw[hpl];by_cases hfit:xs1.length<=256/\c1<=16
   case neg=>omega
   have hf:zmj (xs1,((c1:Int),true))=(xs1,((c1:Int),true)):=by
    unfold zmj;rw[decide_eq_true hfit.1,decide_eq_true (show (c1:Int)<=16 by omega)];rfl
   rw[hf] at hs';have hk2:z3d (.mk k st ks lo hi)=k:=rfl;have hlv:lvT c1 k<=71:=by have:=zw2 k;unfold lvT;omega
   have hsp:∀ x∈ks,z1dg (zhl N h) k c1 (256+5000*lvT c1 k) x:=fun x hxm zs hz=>by
    have hgx:Good x:=⟨w2 x hxm,(z6i hg.2).2 x hxm⟩
    have hnx:=zwd (k:=k) (st:=st) (lo:=lo) (hi:=hi) hxm;have hlk:=z17a hg hxm hfit.2;obtain⟨s,a1,a2,a3,a4⟩:=zvh hN h x (by omega) hgx (z6x k (z3d x)) zs c1 hfit.2 (by omega);exact⟨s,a1,fun hh=>by have:=a2 hh;omega,a3,a4⟩
   have hno:∀ x∈ks,z1rc (zhl N h) k c1 x:=fun x hxm zs s' hz hs2 hsf2=>by
    have hgx:Good x:=⟨w2 x hxm,(z6i hg.2).2 x hxm⟩
    have hnx:=zwd (k:=k) (st:=st) (lo:=lo) (hi:=hi) hxm;exact z11q hN h x (by omega) hgx (z6x k (z3d x)) zs c1 hfit.2 hz s' hs2 hsf2
   obtain⟨q,g1,g2,g3⟩:=zpb N (self:=zhl N h) (n:=(k,st,ks,lo,hi,())) (k:=k) rfl hfit.2 (Y:=256+5000*lvT c1 k) (by omega) ks 0 xs1 hsp (by omega);have hkn:=zue N (self:=zhl N h) (n:=(k,st,ks,lo,hi,())) (k:=k) rfl hfit.2 (Y:=256+5000*lvT c1 k) (by omega) ks 0 xs1 hsp hno (by omega) q g1;rw[g1,Option.bind_some] at hs';have fin:q.1.2.2=false->256<xs.length+((zly (.mk k st ks lo hi)).length+2*e.toNat)\/16<c+(zgz (.mk k st ks lo hi)+e.toNat):=fun hq=>by
    have:=hkn hq;rw[zly,zgz,List.length_append];omega
   by_cases hq:q.2=false
   . refine fin ?_;cases ht:q.1.2.2 with
     | false=>rfl
     | true=>rw[(g3 ht).1] at hq;cases hq
   . rw[if_neg hq,zsb hen hE e (by omega)] at hs';refine fin ?_;obtain rfl:=Option.some.inj hs';cases e with
     | true=>rw[if_pos rfl] at hsf;exact hsf
     | false=>rw[if_neg (by decide)] at hsf;exact hsf
def zrx (t:Tree):List UInt8×Bool×Unit:=if z5l t=true/\(zly t).length<=256/\zgz t<=16 then (zly t,true,()) else ([],false,())
theorem z11y {N:Nat}{t:Tree}(hN:z23 t+320<=N)(hw:WfN t):z6l N (unN t)=some (zrx t):=by
 unfold z6l zrx;rw[zoo N t (by omega) hw,Option.bind_some];cases hr:z5l t with
 | false=>rw[if_pos rfl,if_neg (fun h=>by cases h.1)]
 | true =>
   rw[if_neg (by decide)];obtain⟨s,h1,h2,h3,h4⟩:=zvh (N:=N) (by omega) N t (by omega) ⟨hw,hr⟩ false [] 0 (by omega) (by simp);have hno:=z11q (N:=N) (by omega) N t (by omega) ⟨hw,hr⟩ false [] 0 (by omega) (by simp) s h1;have h1':zhl N N (unN t) false ([],((0:Int),true))=some s:=h1;rw[h1',Option.bind_some];rw[zu5,if_neg (by decide)] at hno;simp only[List.length_nil,Bool.toNat_false] at hno;by_cases hq:s.2.2=true
   . obtain⟨g1,g2⟩:=h4 hq;have e:s.1=zly t:=by rw[g1,zu5,if_neg (by decide)];rfl
     simp only[Bool.toNat_false] at g2;by_cases hl:(zly t).length<=256
     . rw[if_pos ⟨hq,by rw[e];exact hl⟩,if_pos ⟨rfl,hl,by omega⟩,e]
     . rw[if_neg (fun h=>hl (by rw[<- e];exact h.2)),if_neg (fun h=>hl h.2.1)]
   . rw[if_neg (fun h=>hq h.1)];have hqf:s.2.2=false:=by cases h:s.2.2;rfl;exact absurd h hq
     have:=hno hqf;rw[if_neg (by omega)]
theorem zvx (N:Nat) {self:NodT.den->Option (List UInt8×Int×Unit)} (a b:Int) (r q:List Int×(List Tree×(Int×(Int×Unit)))) {out s:List UInt8} {deep i d:Int} {k0:Bool->Option (List UInt8×Int×Unit)}:z3s N self (a,r) out deep i (b,q) s d k0=k0 (z6x a b):=by
 unfold z3s z6x;simp only[Bool.cond_eq_ite,beq_iff_eq];by_cases h2:a=2
 . rw[if_pos h2];by_cases h3:b=3
   . rw[if_pos h3,decide_eq_true (.inl ⟨h2,h3⟩)]
   . rw[if_neg h3,if_neg (by omega),decide_eq_false (by omega)]
 . rw[if_neg h2];by_cases h4:a=4
   . rw[if_pos h4];congr 1;by_cases h1:b=1
     . rw[h1,decide_eq_false (by omega)];rfl
     . rw[decide_eq_true (.inr ⟨h4,h1⟩)];exact bne_iff_ne.2 h1
   . rw[if_neg h4,decide_eq_false (by omega)]
theorem z100 (N:Nat){self:NodT.den->Option (List UInt8×Int×Unit)}{n k:NodT.den}{out s:List UInt8}{deep i d:Int}{k0:Bool->Option (List UInt8×Int×Unit)}:z3s N self n out deep i k s d k0=k0 (z6x n.1 k.1):=zvx N n.1 k.1 n.2 k.2
theorem z11w (x:Tree)(xs:List Tree)(k:Int)(i:Nat):zo4 (x::xs) k i=zt5 k i++(zu5 (z6x k (z3d x)) (zly x)++zo4 xs k (i+1)):=by rw[zo4]
theorem z10r (x:Tree)(xs:List Tree)(k:Int):zeo (x::xs) k=max (zgz x+(z6x k (z3d x)).toNat) (zeo xs k):=by rw[zeo]
theorem ztg : ∀ (h:Nat) (t:Tree) (N:Nat),z23 t<=h->h+320<=N->Good t->z23 t<=2000000->z1v N (unN t)=some (zly t,(((zgz t:Nat):Int),()))
 | 0,t,_,hn,_,_,_=>by have:=zfy t;omega
 | h+1,.mk k st ks lo hi,0,hn,hN,hg,hm=>by omega
 | h + 1,.mk k st ks lo hi,N+1,hn,hN,hg,hm=>by
   obtain⟨w1,w2⟩:=znm hg.1;have hkl:ks.length<=9223372036854775807:=by
    have hw:=hg.1;rw[WfN] at hw;have:=hw.2.2.1.1;unfold maxLen at this;omega
   have hnl:zap ks+1=z23 (.mk k st ks lo hi):=by rw[z23];omega
   have htl:=zrv ks k 0;show z67 (N+1) (z1v N) (k,st,ks,lo,hi,())=_;unfold z67;dsimp only;by_cases h1:k=1
   . subst h1;rw[z13 (by rfl),ztt (by omega) w1,Option.bind_some];rcases znp (z6i hg.2).1 with⟨_,q,_⟩|⟨q,_⟩|⟨q,_⟩|⟨q,_⟩
     . subst q;rw[zly,zo4,zgz,zeo,z17k,if_pos rfl];rfl
     . omega
     . omega
     . omega
   rw[z2i (beq_eq_false_iff_ne.2 h1)]
   -- the kids
   have kids : ∀ (k0:List UInt8->Int->Option (List UInt8×Int×Unit)),z8p (N+1) (z1v N) (k,st,ks,lo,hi,()) [] 0 0 k0=k0 (zo4 ks k 0) ((zeo ks k:Nat):Int):=fun k0=>by
    unfold z8p;rw[zbo (I:=fun (v:List UInt8×Int×Int)=>∃ (o:List UInt8) (d i:Nat),v=(o,((d:Int),(i:Int)))/\i<=ks.length/\o++zo4 (ks.drop i) k i=zo4 ks k 0/\max d (zeo (ks.drop i) k)=zeo ks k) (m:=fun v=>ks.length - v.2.2.toNat) (R:=fun _=>k0 (zo4 ks k 0) ((zeo ks k:Nat):Int)) ?_ (N+1) ([],((0:Int),(0:Int))) ⟨[],0,0,rfl,by omega,rfl,by simp⟩ (by
     have:ks.length<=zap ks:=zfz ks;simp;omega)]
    rintro v r ⟨o,d,i,rfl,hile,ho,hd⟩ hr;dsimp only at hr ⊢;rw[Int.toNat_natCast] at hr;unfold z8k;dsimp only;by_cases hlt:i<ks.length
    case neg =>
     rw[z2i (z142 (by omega))];rw[zuu ks (by omega),zo4,List.append_nil] at ho;rw[zuu ks (by omega),zeo,Nat.max_zero] at hd;rw[ho,hd]
    rw[z13 (zqh (by omega))];unfold z8o;dsimp only;rw[z13 (zeg hlt),Int.toNat_natCast];have hxm:=Go.Proofs.YtnnjnkjfkaaikaaDoorPx.getD_mem ks (Tree.mk 0 [] [] 0 0) i hlt;rw[z13y ks (Tree.mk 0 [] [] 0 0) i hlt] at ho hd;generalize List.getD ks i (Tree.mk 0 [] [] 0 0)=x at hxm ho hd;rw[z11w] at ho;rw[z10r] at hd;have hgx:Good x:=⟨w2 x hxm,(z6i hg.2).2 x hxm⟩
    have hnx:=zd1 hxm;have hxl:=zy2 x;have hxd:=zz8 x;have hol:o.length+(zt5 k i).length+(zu5 (z6x k (z3d x)) (zly x)).length<=(zo4 ks k 0).length:=by
     rw[<- ho];simp only[List.length_append];omega
    have hpl:=zs9 (z6x k (z3d x)) (zly x);rw[ztg h x N (by omega) (by omega) hgx (by omega),Option.bind_some];unfold z8n;rw[z100];show cond (z6x k (z3d x)) _ _=_
    -- behind the brackets
    have behind:∀ (s:List UInt8) (dd:Nat),s=zu5 (z6x k (z3d x)) (zly x)->dd=zgz x+(z6x k (z3d x)).toNat →
     z3r (N+1) (z1v N) (k,st,ks,lo,hi,()) o ((d:Nat):Int) ((i:Nat):Int) s ((dd:Nat):Int) (fun out1=>cond (decide (((List.length out1)+(List.length s))<=9223372036854775807))
      (cond (decide (((d:Nat):Int)<((dd:Nat):Int)))
       ((fun out1 deep1=>r (out1,deep1,IntKind.wrap .i64 ((i:Int)+1))) (out1++s) ((dd:Nat):Int))
       ((fun out1 deep1=>r (out1,deep1,IntKind.wrap .i64 ((i:Int)+1))) (out1++s) ((d:Nat):Int)))
      (none))=k0 (zo4 ks k 0) ((zeo ks k:Nat):Int):=fun s dd hs hdd=>by
     have hb:∀ (K:List UInt8->Option (List UInt8×Int×Unit)),z3r (N+1) (z1v N) (k,st,ks,lo,hi,()) o ((d:Nat):Int) ((i:Nat):Int) s ((dd:Nat):Int) K=K (o++zt5 k i):=fun K=>by
      unfold z3r z8m zt5;dsimp only;by_cases h0:0<i
      . rw[z13 (zqh (by omega))];by_cases h3:k=3
        . rw[z13 (beq_iff_eq.2 h3),z13 (zqh (by omega)),if_pos ⟨h3,h0⟩]
        . rw[z2i (beq_eq_false_iff_ne.2 h3),if_neg (fun h=>h3 h.1),List.append_nil]
      . rw[z2i (z142 (by omega)),cond_false,if_neg (fun h=>h0 h.2),List.append_nil]
     have hmax:d<=zeo ks k/\dd<=zeo ks k:=by omega
     rw[hb,z13 (zqh (by rw[List.length_append,hs];omega))];dsimp only;rw[zkv (by omega)];have ho2:((o++zt5 k i)++s)++zo4 (ks.drop (i+1)) k (i+1)=zo4 ks k 0:=by rw[<- ho,hs];simp only[List.append_assoc]
     by_cases hlt2:d<dd
     . rw[z13 (zqh (by omega))];exact hr _ ⟨_,dd,i+1,rfl,by omega,ho2,by omega⟩ (by dsimp only;rw[Int.toNat_natCast];omega)
     . rw[z2i (z142 (by omega))];exact hr _ ⟨_,d,i+1,rfl,by omega,ho2,by omega⟩ (by dsimp only;rw[Int.toNat_natCast];omega)
    cases he:z6x k (z3d x) with
    | false =>
      rw[cond_false];exact behind (zly x) (zgz x) (by rw[he,zu5,if_neg (by decide)]) (by rw[he];rfl)
    | true =>
      rw[cond_true];dsimp only;rw[z13 (zqh (by omega)),z13 (zqh (by simp only[List.length_append,List.length_cons,List.length_nil];omega)),zkv (by omega)];exact behind (([40]++zly x)++[41]) (zgz x+1) (by rw[he,zu5,if_pos rfl]) (by rw[he];rfl)
   rw[kids];unfold z8l;dsimp only;have hE:=znx k st lo hi;rw[zly,zgz];by_cases h4:k=4
   . rcases znp (z6i hg.2).1 with⟨q,_⟩|⟨q,_⟩|⟨q,_⟩|⟨_,_,_,ht⟩
     . omega
     . omega
     . omega
     . rw[z13 (beq_iff_eq.2 h4),zvv (by omega) ht,Option.bind_some];have hl7:=zmu lo hi;rw[z13 (zqh (by omega)),z17k,if_neg h1,if_pos h4]
   . rw[z2i (beq_eq_false_iff_ne.2 h4),z17k,if_neg h1,if_neg h4,List.append_nil]
theorem ztz {N:Nat}{t:Tree}(hN:z23 t+320<=N)(hm:z23 t<=2000000)(hw:WfN t):z5o N (unN t)=some (zrx t):=by
 unfold z5o zrx;rw[zop N t (by omega) hw,Option.bind_some];cases hr:z5l t with
 | false=>rw[Bool.not_false,cond_true,if_neg (fun h=>by cases h.1)]
 | true =>
   rw[Bool.not_true,cond_false,ztg (z23 t) t N (Nat.le_refl _) (by omega) ⟨hw,hr⟩ hm,Option.bind_some];unfold z8r z8q;dsimp only;by_cases h1:(zly t).length<=256
   case neg=>rw[z13 (zqh (by omega)),cond_true,if_neg (fun h=>h1 h.2.1)]
   rw[z2i (z142 (by omega))];by_cases h2:zgz t<=16
   case neg=>rw[zqh (by omega),cond_true,if_neg (fun h=>h2 h.2.2)]
   rw[z142 (by omega),cond_false,if_pos ⟨rfl,h1,h2⟩]
end
end Go.Proofs.YtnnjnkjfkaaikaaDoorLg
set_option linter.all false
set_option maxRecDepth 100000
namespace Go.Proofs.YtnnjnkjfkaaikaaDoorLg
noncomputable section
open Go Go.Lift Go.Proofs.YtnnjnkjfkaaikaaDoorPx
theorem zzk (k:Nat):z4o (k+2500)=some true:=by kernel_rfl
theorem z165 {N:Nat}{a:Tree}(hN:z23 a<N)(hw:WfN a):∃ g,z4p N (unN a)=some g:=by
 unfold z4p;rw[zqx N a hN hw,Option.bind_some];cases decide ((300:Int)<zzq a)<;>exact⟨_,rfl⟩
theorem z192 (t:Tree)(hm:z23 t<=2000000)(hw:WfN t){s:List Int}(hs:SetOk s){b:Int}(h0:0<=b)(h1:b<256):∃ N,z1p N (unN t) s b=some true:=by
 refine⟨z23 t+1500+2500,?_⟩;have w:=zzk (z23 t+1500);obtain⟨g,hg⟩:=z165 (N:=z23 t+1500+2500) (a:=t) (by omega) hw;have e1:=z11y (N:=z23 t+1500+2500) (t:=t) (by omega) hw;have e2:=ztz (N:=z23 t+1500+2500) (t:=t) (by omega) hm hw;have e3:=zu1 (N:=z23 t+1500+2500) (s:=s) (by omega) hs;have e4:=ztt (N:=z23 t+1500+2500) (s:=s) (by omega) hs;obtain⟨n,rfl⟩:=Int.eq_ofNat_of_zero_le h0;have e5:=zv5 (z23 t+1500+2500) (b:=n) (by omega);have e6:=zqz (N:=z23 t+1500+2500) (by omega) (b:=n) (by omega);generalize z23 t+1500+2500=N at *;have e7:Go.IntKind.wrap Go.IntKind.i64 ((n:Nat):Int)=((n:Nat):Int):=z5x (by unfold I64;omega);rw[z1p,hg,Option.bind_some,w];cases g with
 | true=>rfl
 | false =>
   rw[cond_false,e1,Option.bind_some,e2,Option.bind_some,beq_self_eq_true,cond_true,beq_self_eq_true,cond_true,e3,Option.bind_some,e4,Option.bind_some,beq_self_eq_true,cond_true,e5,Option.bind_some,e7,e6,Option.bind_some,beq_self_eq_true,cond_true];rfl
theorem z18f {a:NodT.den}(h:Wf NodT a):WfN (foN a):=by
 obtain⟨k,st,ks,lo,hi,u⟩:=a;obtain⟨h1,h2,h3,h4,h5,_⟩:=h;show WfN (.mk k st ks lo hi);rw[WfN];exact⟨h1,h2,⟨h3.1,(zlq ks).2 h3.2⟩,h4,h5⟩
theorem z157 (a:NodT.den)(s:List Int)(b:Int)(ha:Wf NodT a)(hs:Wf (.arr 4 (.int .u64)) s)(hb:Wf (.int .u8) b)(hq:z23 (foN a)<=2000000):∃ N,z1p N a s b=some true:=by
 obtain⟨h0,h1⟩:=z10y (x:=b) hb;have:=z192 (foN a) hq (z18f ha) (zyd hs) h0 h1;rw[z11v] at this;exact this
end
end Go.Proofs.YtnnjnkjfkaaikaaDoorLg
