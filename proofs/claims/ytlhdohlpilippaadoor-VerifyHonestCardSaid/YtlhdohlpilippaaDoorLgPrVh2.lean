import Derived.Test.YtlhdohlpilippaaDoorLgPrVh1
import Derived.Test.YtlhdohlpilippaaDoorLgW
import Derived.Test.YtlhdohlpilippaaDoorChecked
import Derived.Lib.Builder
import Derived.Lib.UnsafeStr
import Derived.Lib.Walk
import Derived.WalkKit
import Derived.Laws.Externs
import Derived.KernelRfl
import Derived.Shelf.RegionOpenPlain
import Derived.Lib.AppendStr
import Derived.Lib.Strings
import Derived.Laws.Rows
import Derived.Laws.Tables
set_option linter.all false
namespace Go.Proofs.YtlhdohlpilippaaDoorLg
noncomputable section
open Go Go.Lift Go.Proofs
set_option maxHeartbeats 1000000 in
set_option maxRecDepth 100000 in
theorem z18n (b:Nat)(w:World)(h0:w.cell? ⟨b,0,none⟩=some (.pointer (some ⟨b,0,none⟩))) :
 Calls Tryd.prog 54 #[.pointer (some ⟨b,0,none⟩)] w fun e w'=>e=.returned (.tuple #[])/\w'=w:=by
 have hi:(Tryd.prog.info? 73).map (·.size)=some 2:=by kernel_rfl
 obtain⟨j,hj,hjs⟩:=Option.map_eq_some_iff.1 hi;have mixed:Tryd.prog.follows .mixedOrders=true:=by kernel_rfl
 have u77:=run_underlying (P:=Tryd.prog) Tryd.underlying73;have u75:=run_underlying (P:=Tryd.prog) Tryd.underlying70
 go_enter Tryd.func54,Tryd.ntmps54
 go_wp2
 rw[Lib.run_neq_ptr_same w _ Tryd.underlying70 hj]
 go_wp2
 go_end0
 exact⟨rfl,rfl⟩
set_option maxHeartbeats 1000000 in
set_option maxRecDepth 100000 in
theorem z134 (b:Nat)(w:World)(h0:w.cell? ⟨b,0,none⟩=some (.pointer none))(hsh:w.shape? b=some (73,2))(hfz:w.frozen? ⟨b,0,none⟩=false) :
 Calls Tryd.prog 54 #[.pointer (some ⟨b,0,none⟩)] w fun e w'=>e=.returned (.tuple #[])/\w'=w.setCell ⟨b,0,none⟩ (.pointer (some ⟨b,0,none⟩)):=by
 have hi:(Tryd.prog.info? 73).map (·.size)=some 2:=by kernel_rfl
 obtain⟨j,hj,hjs⟩:=Option.map_eq_some_iff.1 hi;have hlies:liesAt Tryd.prog Tryd.prog.depth 73 (2 / Tryd.prog.cellsOf 73) 0 73 1=true:=by kernel_rfl
 have mixed:Tryd.prog.follows .mixedOrders=true:=by kernel_rfl
 have u77:=run_underlying (P:=Tryd.prog) Tryd.underlying73;have u75:=run_underlying (P:=Tryd.prog) Tryd.underlying70
 go_enter Tryd.func54,Tryd.ntmps54
 go_wp2
 rw[Lib.run_to_unsafe w ⟨b,0,none⟩ Tryd.underlying70 Tryd.underlying116 hj (by rw[hjs];decide) hsh (Nat.zero_lt_succ 1)];simp only[Result.andThen];rw[Oper.upon_value]
 go_wp2
 rw[run_callFunc_extern Tryd.func69 (by kernel_rfl) (by kernel_rfl) (by kernel_rfl) (e:=Extern.AbiNoEscape.same) (by kernel_rfl)];rw[Lib.run_noEscape];simp only[Result.andThen];rw[Oper.upon_value]
 go_wp2
 rw[Lib.run_from_unsafe w ⟨b,0,none⟩ Tryd.underlying116 Tryd.underlying70 hj hsh hlies];simp only[Result.andThen];rw[Oper.upon_value]
 go_wp2
 go_end0
 exact⟨rfl,rfl⟩
abbrev BT:T:=.pair (.self 73) (.pair (.own (.byt 5)) .unit)
def z14f:List A->Res:=z14 [(0,.box BT)] (fun x=>some ((),(x.1,()))) (zi4 (.tup []) [(0,.box BT)] 0)
theorem cc_ct (glob:Nat->Option Dat):Contract Tryd.prog glob 54 z14f:=by
 refine Contract.hand ⟨_,Tryd.func54,by kernel_rfl,by decide⟩ ?_;intro w S vals ob x y har hS hg hy;obtain⟨x,u⟩:=x;cases u;cases hy;obtain⟨⟨v,hv,hA⟩,_⟩:=har.rel 0 _ rfl;have hlen:=har.len;obtain⟨v',rfl⟩:∃ v',vals=[v']:=List.length_eq_one_iff.1 (by simpa[mkS,z39] using hlen.symm);simp at hv;subst hv;obtain⟨b,cs,E,fr,bs,hob,rfl,hcs,hfr,c1,c2,b1,b2,hc,hbb,h1,h2⟩:=hA;obtain⟨hb1,v0,hc1,hE,hv0⟩:=h1;dsimp only at hE hv0;subst hE;subst hb1;subst hc1;have hl2:=h2.length;have hsz:cs.size=2:=by
  have:=congrArg List.length hc;simp[T.size] at this hl2;omega
 have hc0:cs[0]?=some v0:=by rw[<- Array.getElem?_toList,hc];rfl
 have hin:∀ i k,k∈ob i->i=0:=fun i k hk=>by
  rcases Nat.lt_or_ge i 1 with h|h
  . omega
  . rw[har.out i (by simpa[mkS,z39] using h)] at hk;cases hk
 -- how it ends,whatever the cell holds behind it
 have fin:∀ (w':World) (v1:Value),(v1=.pointer none\/v1=.pointer (some ⟨b,0,none⟩))->hp w' b=some (.cells (cs.setIfInBounds 0 v1) 73 fr)->(∀ k,k≠b->hp w' k=hp w k)->w'.heap.size=w.heap.size->w'.tape=w.tape->w'.os=w.os->w'.output=w.output →
  Lift.Ends w S (mkS [(0,.box BT)] 0 (x,())) [.pointer (some ⟨b,0,none⟩)] ob (.tup []) [.box BT x] (.returned (.tuple #[])) w':=by
  intro w' v1 hv1 hw1 hoth hs1 ht1 ho1 hp1;have hbm:b∈ob 0:=by rw[hob];simp
  have hSb:=har.hid 0 b hbm;have hnd:=har.nd 0;rw[hob] at hnd;have hne:∀ k∈bs,k≠b:=fun k hk e=>by subst e;exact (List.nodup_cons.1 hnd).1 hk
  refine⟨.tuple #[],S,[],ob,rfl,⟨by rw[hs1];exact Nat.le_refl _,fun k hk hn=>hoth k (fun e=>hn ⟨0,by rw[e];exact hbm⟩),ht1,ho1,hp1⟩,Lift.Sub.refl _,fun k o hk=>?_,fun k hk=>.inl hk,⟨⟨rfl,#[],rfl,.nil⟩,rfl⟩,(fun k hk=>by cases hk),.nil,?_,?_,har.inj,har.nd,fun i hi=>hi⟩
  . rw[hoth k (fun e=>by subst e;rw[hSb] at hk;cases hk)];exact hS k o hk
  . intro i z hz hb;cases i with
    | zero =>
      simp[mkS,z39,AS.mk] at hz;subst hz;refine⟨.box BT x,_,rfl,rfl,rfl,b,_,73,fr,bs,hob,rfl,hw1,?_,[v1],c2,[],b2,?_,by simpa using hbb,⟨rfl,v1,rfl,rfl,hv1⟩,RdO.mono (Lift.Sub.refl _) _ _ _ _ (fun k hk=>hoth k (hne k (by rw[hbb];simpa using hk))) h2⟩
      . exact hfr.of_size (by simp)
      . rw[Array.toList_setIfInBounds,hc];rfl
    | succ i=>simp[mkS,z39] at hz
  . exact fun i k hk=>⟨.inl ⟨i,hk⟩,har.hid i k hk,fun h=>by cases h⟩
 rcases hv0 with rfl|rfl
 . refine (z134 b w (by simp only[World.cell?,show w.heap[b]?=_ from hcs];simpa using hc0) (by simp only[World.shape?,show w.heap[b]?=_ from hcs,hsz]) ?_).mono ?_
   . simp only[World.frozen?,show w.heap[b]?=_ from hcs];have:=hfr.2 0 (by omega);simp;omega
   . rintro e w' ⟨rfl,rfl⟩;refine fin _ (.pointer (some ⟨b,0,none⟩)) (.inr rfl) ?_ (fun k hk=>heap_setCell_other w ⟨b,0,none⟩ k _ hk) (by simp) rfl rfl rfl;have:=setCell_eq_setRow w b 0 cs 73 fr (.pointer (some ⟨b,0,none⟩)) hcs;show (w.setCell ⟨b,0,none⟩ _).heap[b]?=_;rw[this];exact setRow_heap w b cs _ 73 fr hcs
 . refine (z18n b w (by simp only[World.cell?,show w.heap[b]?=_ from hcs];simpa using hc0)).mono ?_;rintro e w' ⟨rfl,rfl⟩;refine fin _ (.pointer (some ⟨b,0,none⟩)) (.inr rfl) ?_ (fun _ _=>rfl) rfl rfl rfl rfl;have:cs.setIfInBounds 0 (.pointer (some ⟨b,0,none⟩))=cs:=by
    apply Array.ext_getElem?;intro i;by_cases h:0=i
    . subst h;rw[Array.getElem?_setIfInBounds_self_of_lt (by omega),hc0]
    . rw[Array.getElem?_setIfInBounds_ne h]
   rw[this];exact hcs
theorem zs9 (w:World)(B:Nat->Prop):WF w B w.drew:=⟨Nat.le_refl _,fun _ _ _=>rfl,rfl,rfl,rfl⟩
theorem zxw (w:World)(g n:Nat):WF w (fun k=>k=g) (w.drew.freeze ⟨g,0,none⟩ n):=by
 unfold World.freeze;split
 . exact zs9 w _
 . refine⟨?_,fun k hk hn=>?_,rfl,rfl,rfl⟩
   . show w.heap.size<=(Array.modify w.heap g _).size;rw[Array.size_modify];exact Nat.le_refl _
   simp only[Array.getElem?_modify];rw[if_neg (fun e=>hn e.symm)];rfl
theorem z14p (w:World)(o:Obj)(B:Nat->Prop):WF w B (w.drew.alloc o) :=
 ⟨by show w.heap.size<=(w.heap.push o).size;rw[Array.size_push];exact Nat.le_succ _,fun k hk hn=>by
  show (w.heap.push o)[k]?=_;rw[Array.getElem?_push];simp[Nat.ne_of_lt hk],rfl,rfl,rfl⟩
set_option maxHeartbeats 2000000 in
set_option maxRecDepth 100000 in
theorem zy5 (b g cap:Nat)(q:Value)(l:List UInt8)(cur:Array Value)(fr fr':Nat×Nat)(w:World)(hbk:w.heap[b]?=some (.cells #[q,.slice (some ⟨g,0,none⟩) l.length cap] 73 fr'))(h0:l≠[])(hg:w.heap[g]?=some (.cells cur 5 fr))(hnc:l.length<=cap)(hsz:cur.size=cap)(h63:l.length<=9223372036854775807)
 (hcell:∀ (j:Nat) (x:UInt8),l[j]?=some x->cur[j]?=some (Value.int .u8 x.toNat)) :
 Calls Tryd.prog 33 #[.pointer (some ⟨b,0,none⟩)] w fun e w'=>e=.returned (.string ⟨l.toArray⟩)/\WF w (fun k=>k=g) w':=by
 have hl0:l.length≠0:=by simpa using h0
 have c1:w.drew.cell? ⟨b,1,none⟩=some (.slice (some ⟨g,0,none⟩) l.length cap):=by
  have:w.drew.heap[b]?=some (.cells #[q,.slice (some ⟨g,0,none⟩) l.length cap] 73 fr'):=hbk;simp[World.cell?,this]
 have hcells:Tryd.prog.cellsOf 5=1:=by kernel_rfl
 have hSD:(Builtin.unsafeSliceData_ #[71] 102 #[.slice (some ⟨g,0,none⟩) l.length cap]).run Tryd.prog w.drew=.ok (.pointer (some ⟨g,0,none⟩)) w.drew :=
  Lib.run_unsafeSliceData_row _ _ _ _ _ _ (by omega)
 have hUS:(Builtin.unsafeString_ #[102,3] 9 #[.pointer (some ⟨g,0,none⟩),.int .i64 l.length]).run Tryd.prog w.drew=.ok (.string ⟨l.toArray⟩) (w.drew.freeze ⟨g,0,none⟩ l.length):=by
  refine Lib.run_unsafeString_row w.drew 102 3 9 5 Tryd.underlying102 hcells g cur.size (by have hg':w.drew.heap[g]?=some (.cells cur 5 fr):=hg;simp[World.shape?,hg']) l h0 (by omega) h63 ?_;intro j x hx;have hg':w.drew.heap[g]?=some (.cells cur 5 fr):=hg;have ha:(⟨g,0,none⟩:Addr).add j=⟨g,j,none⟩:=by rw[z65,Nat.zero_add]
  rw[ha];simp[World.cell?,hg',hcell j x hx]
 have mixed:Tryd.prog.follows .mixedOrders=true:=by kernel_rfl
 have u77:=run_underlying (P:=Tryd.prog) Tryd.underlying73;have u75:=run_underlying (P:=Tryd.prog) Tryd.underlying70;have u67:=run_underlying (P:=Tryd.prog) Tryd.underlying71;have u91:=run_underlying (P:=Tryd.prog) Tryd.underlying102
 go_enter Tryd.func33,Tryd.ntmps33
 go_wp2
 go_region_o
 all_goals (go_wp2;go_ret;exact⟨rfl,zxw w g _⟩)
theorem zdc (W:World)(q:Option Addr):(Builtin.unsafeString_ #[102,3] 9 #[.pointer q,.int .i64 0]).run Tryd.prog W=.ok (.string .empty) W:=Lib.run_unsafeString_none W _ _ _ q
set_option maxHeartbeats 2000000 in
set_option maxRecDepth 100000 in
theorem z15l (b:Nat)(q:Value)(fr':Nat×Nat)(w:World)(hbk:w.heap[b]?=some (.cells #[q,.slice none 0 0] 73 fr')) :
 Calls Tryd.prog 33 #[.pointer (some ⟨b,0,none⟩)] w fun e w'=>e=.returned (.string ⟨#[]⟩)/\WF w (fun _=>False) w':=by
 have hUS:=zdc;have c1:w.drew.cell? ⟨b,1,none⟩=some (.slice none 0 0):=by
  have:w.drew.heap[b]?=some (.cells #[q,.slice none 0 0] 73 fr'):=hbk;simp[World.cell?,this]
 have hSD:(Builtin.unsafeSliceData_ #[71] 102 #[.slice none 0 0]).run Tryd.prog w.drew=.ok (.pointer none) w.drew:=rfl;have mixed:Tryd.prog.follows .mixedOrders=true:=by kernel_rfl
 have u77:=run_underlying (P:=Tryd.prog) Tryd.underlying73;have u75:=run_underlying (P:=Tryd.prog) Tryd.underlying70;have u67:=run_underlying (P:=Tryd.prog) Tryd.underlying71;have u91:=run_underlying (P:=Tryd.prog) Tryd.underlying102
 go_enter Tryd.func33,Tryd.ntmps33
 go_wp2
 go_region_o
 all_goals (go_wp2;go_ret;exact⟨rfl,zs9 w _⟩)
set_option maxHeartbeats 2000000 in
set_option maxRecDepth 100000 in
theorem z11r (b g cap:Nat)(q:Value)(fr':Nat×Nat)(w:World)(hc0:cap≠0)(hbk:w.heap[b]?=some (.cells #[q,.slice (some ⟨g,0,none⟩) 0 cap] 73 fr')) :
 Calls Tryd.prog 33 #[.pointer (some ⟨b,0,none⟩)] w fun e w'=>e=.returned (.string ⟨#[]⟩)/\WF w (fun _=>False) w':=by
 have hUS:=zdc;have c1:w.drew.cell? ⟨b,1,none⟩=some (.slice (some ⟨g,0,none⟩) 0 cap):=by
  have:w.drew.heap[b]?=some (.cells #[q,.slice (some ⟨g,0,none⟩) 0 cap] 73 fr'):=hbk;simp[World.cell?,this]
 have hSD:(Builtin.unsafeSliceData_ #[71] 102 #[.slice (some ⟨g,0,none⟩) 0 cap]).run Tryd.prog w.drew=.ok (.pointer (some ⟨g,0,none⟩)) w.drew :=
  Lib.run_unsafeSliceData_row _ _ _ _ _ _ hc0
 clear hc0;have mixed:Tryd.prog.follows .mixedOrders=true:=by kernel_rfl
 have u77:=run_underlying (P:=Tryd.prog) Tryd.underlying73;have u75:=run_underlying (P:=Tryd.prog) Tryd.underlying70;have u67:=run_underlying (P:=Tryd.prog) Tryd.underlying71;have u91:=run_underlying (P:=Tryd.prog) Tryd.underlying102
 go_enter Tryd.func33,Tryd.ntmps33
 go_wp2
 go_region_o
 all_goals (go_wp2;go_ret;exact⟨rfl,zs9 w _⟩)
set_option maxHeartbeats 2000000 in
set_option maxRecDepth 100000 in
theorem zwa (b g:Nat)(q:Value)(cur:Array Value)(fr fr':Nat×Nat)(w:World)(hbk:w.heap[b]?=some (.cells #[q,.slice (some ⟨g,0,none⟩) 0 0] 73 fr'))(hg:w.heap[g]?=some (.cells cur 5 fr)) :
 Calls Tryd.prog 33 #[.pointer (some ⟨b,0,none⟩)] w fun e w'=>e=.returned (.string ⟨#[]⟩)/\WF w (fun _=>False) w':=by
 have hUS:=zdc;have hlt:b<w.heap.size:=by
  rcases Nat.lt_or_ge b w.heap.size with h'|h'
  . exact h'
  . simp[Array.getElem?_eq_none h'] at hbk
 have c1:w.drew.cell? ⟨b,1,none⟩=some (.slice (some ⟨g,0,none⟩) 0 0):=by
  have:w.drew.heap[b]?=some (.cells #[q,.slice (some ⟨g,0,none⟩) 0 0] 73 fr'):=hbk;simp[World.cell?,this]
 have hSD:(Builtin.unsafeSliceData_ #[71] 102 #[.slice (some ⟨g,0,none⟩) 0 0]).run Tryd.prog w.drew=.ok (.pointer (some ⟨w.drew.heap.size,0,none⟩)) (w.drew.alloc (.view ⟨g,0,none⟩ 5)) :=
  Lib.run_unsafeSliceData_zero w.drew _ _ 5 Tryd.underlying102 ⟨g,0,none⟩ 0 (5,cur.size) (by have hg':w.drew.heap[g]?=some (.cells cur 5 fr):=hg;simp[World.shape?,hg'])
 have c2:(w.drew.alloc (.view ⟨g,0,none⟩ 5)).cell? ⟨b,1,none⟩=some (.slice (some ⟨g,0,none⟩) 0 0):=by
  have:(w.drew.alloc (.view ⟨g,0,none⟩ 5)).heap[b]?=some (.cells #[q,.slice (some ⟨g,0,none⟩) 0 0] 73 fr'):=by
   show (w.heap.push _)[b]?=_;rw[Array.getElem?_push,if_neg (Nat.ne_of_lt hlt)];exact hbk
  simp only[World.cell?,this];rfl
 have c3:(w.alloc (.view ⟨g,0,none⟩ 5)).drew.cell? ⟨b,1,none⟩=some (.slice (some ⟨g,0,none⟩) 0 0):=c2;have c0:w.cell? ⟨b,1,none⟩=some (.slice (some ⟨g,0,none⟩) 0 0):=c1;have mixed:Tryd.prog.follows .mixedOrders=true:=by kernel_rfl
 have u77:=run_underlying (P:=Tryd.prog) Tryd.underlying73;have u75:=run_underlying (P:=Tryd.prog) Tryd.underlying70;have u67:=run_underlying (P:=Tryd.prog) Tryd.underlying71;have u91:=run_underlying (P:=Tryd.prog) Tryd.underlying102
 go_enter Tryd.func33,Tryd.ntmps33
 go_wp2
 go_region_o
 all_goals (go_wp2;go_ret;exact⟨rfl,z14p w _ _⟩)
abbrev BT':T:=.pair (.self 73) (.pair .any .unit)
def zz1 (xs:List Int):Bool:=xs.all fun n=>decide (0<=n) && decide (n<256)
def zsg (x:z1k [(0,.box BT)]):Option (List UInt8×(z1k [(0,.box BT')])) :=
 cond (zz1 x.1.2.1 && decide (x.1.2.1.length<=9223372036854775807)) (some (z43 x.1.2.1,(((),((),())),()))) none
def zsf:List A->Res:=z14 [(0,.box BT)] zsg (zi4 (.v .str) [(0,.box BT')] 0)
theorem z10w {S:Hp}{q:Nat}:∀ (xs:List Int) (cs:List Value),All (Rd S (.byt q)) xs cs->cs=xs.map (Value.int .u8)
 | [],_,h=>h
 | x::xs,_,⟨c1,c2,e,h1,h2⟩=>by
   have e1:c1=[Value.int .u8 x]:=h1;rw[e,e1,z10w xs c2 h2];rfl
theorem z13p (glob:Nat->Option Dat):Contract Tryd.prog glob 33 zsf:=by
 refine Contract.hand ⟨_,Tryd.func33,by kernel_rfl,by decide⟩ ?_;intro w S vals ob x y har hS hg hy;obtain⟨⟨su,xs,uu⟩,u⟩:=x;cases u;cases su;cases uu;unfold zsg at hy;dsimp only at hy xs;cases hck:(zz1 xs && decide (xs.length<=9223372036854775807)) with
 | false=>rw[hck] at hy;cases hy
 | true =>
 rw[hck] at hy;simp only[cond] at hy;cases hy;simp only[Bool.and_eq_true,decide_eq_true_eq] at hck;obtain⟨hbytes,h63⟩:=hck;obtain⟨⟨v,hv,hA⟩,_⟩:=har.rel 0 _ rfl;have hlen:=har.len;obtain⟨v',rfl⟩:∃ v',vals=[v']:=List.length_eq_one_iff.1 (by simpa[mkS,z39] using hlen.symm);simp at hv;subst hv;obtain⟨b,cs,E,fr,bs,hob,rfl,hcs,hfr,c1,c2,b1,b2,hc,hbb,⟨hb1,v0,hc1,hE,hv0⟩,d1,d2,e1,e2,hc2,hb2,⟨s,hd1,hrow⟩,he2,hd2⟩:=hA;have hd2:d2=[]:=hd2;dsimp only at hE hv0 hrow;subst hE;subst hb1;subst hc1;subst hd1;subst hd2;subst he2;have hcsA:cs=#[v0,s]:=by
  apply Array.toList_inj.1;rw[hc,hc2];rfl
 subst hcsA;have hbs:bs=e1:=by rw[hbb,hb2];simp
 subst hbs;have hbm:b∈ob 0:=by rw[hob];simp
 have hnd:=har.nd 0;rw[hob] at hnd;have fin:∀ (w':World) (l:List UInt8) (B:Nat->Prop),(∀ k,B k->k∈bs)->WF w B w' →
  Lift.Ends w S (mkS [(0,.box BT)] 0 (((),xs,()),())) [.pointer (some ⟨b,0,none⟩)] ob (.v .str l) [.box BT' ((),((),()))] (.returned (.string ⟨⟨l⟩⟩)) w':=by
  intro w' l B hB hwf;have hne:∀ k,B k->k∈ob 0/\k≠b:=fun k hk=>⟨by rw[hob];simp[hB k hk],fun e=>by subst e;exact (List.nodup_cons.1 hnd).1 (hB k hk)⟩
  have hw1:hp w' b=some (.cells #[v0,s] 73 fr):=by
   have:=hwf.same b (z5w hcs) (fun h=>(hne b h).2 rfl);simp only[hp] at hcs ⊢;rw[this];exact hcs
  refine⟨_,S,[],fun i=>if i=0 then [b] else [],rfl,hwf.weaken (fun k hk=>⟨0,(hne k hk).1⟩),Lift.Sub.refl _,fun k o hk=>?_,fun k hk=>.inl hk,⟨⟨VR.str,rfl⟩,rfl⟩,(fun k hk=>by cases hk),.nil,?_,?_,?_,?_,?_⟩
  . have h1:=hS k o hk;have:=hwf.same k (z5w h1) (fun h=>by rw[har.hid 0 k (hne k h).1] at hk;cases hk);simp only[hp] at h1 ⊢;rw[this];exact h1
  . intro i z hz hb;cases i with
    | zero =>
      simp[mkS,z39,AS.mk] at hz;subst hz;exact⟨.box BT' ((),((),())),_,rfl,rfl,rfl,b,_,73,fr,[],by simp,rfl,hw1,hfr,[v0],[s],[],[],rfl,rfl,⟨rfl,v0,rfl,rfl,hv0⟩,[s],[],[],[],rfl,rfl,⟨rfl,s,rfl,hrow.one⟩,rfl,rfl⟩
    | succ i=>simp[mkS,z39] at hz
  . intro i k hk;dsimp only at hk;split at hk
    . simp at hk;subst hk;exact⟨.inl ⟨0,hbm⟩,har.hid 0 _ hbm,fun h=>by cases h⟩
    . cases hk
  . intro i j k hi hj;dsimp only at hi hj;split at hi<;>split at hj
    . omega
    . cases hj
    . cases hi
    . cases hi
  . intro i;dsimp only;split
    . simp
    . exact .nil
  . intro i hi;dsimp only;split
    . rename_i h;subst h;rw[hi] at hbm;cases hbm
    . rfl
 rcases hrow with⟨rfl,⟨ad0,had0,hadq⟩,_⟩|⟨g,cap,cur,E2,fr2,hbg,rfl,hg2,hfr2,hsz2,hle2,hall,hE2⟩
 . obtain rfl:=hadq _ rfl;subst had0;refine (z15l b v0 fr w hcs).mono ?_;rintro e w' ⟨rfl,hwf⟩;exact fin w' [] _ (fun k h=>h.elim) hwf
 . have hE2:E2=5:=hE2 5 rfl;subst hE2;have hsz2:cur.size=cap:=by rw[hsz2];simp[T.size]
   by_cases hx0:xs=[]
   . subst hx0;by_cases hc0:cap=0
     . subst hc0;refine (zwa b g v0 cur fr2 fr w hcs hg2).mono ?_;rintro e w' ⟨rfl,hwf⟩;exact fin w' [] _ (fun k h=>h.elim) hwf
     . refine (z11r b g cap v0 fr w hc0 hcs).mono ?_;rintro e w' ⟨rfl,hwf⟩;exact fin w' [] _ (fun k h=>h.elim) hwf
   . have hll:(z43 xs).length=xs.length:=by simp[z43]
     have hcells:=z10w _ _ hall;refine (zy5 b g cap v0 (z43 xs) cur fr2 fr w (by rw[hll];exact hcs) (fun h=>hx0 (by simpa[z43] using h)) hg2 (by rw[hll];exact hle2) hsz2 (by rw[hll];exact h63) ?_).mono ?_
     . intro j z hz;simp only[z43,List.getElem?_map] at hz;cases hn:xs[j]? with
       | none=>rw[hn] at hz;cases hz
       | some n =>
         rw[hn] at hz;simp only[Option.map_some,Option.some.injEq] at hz;have hjl:j<xs.length:=by
          rcases Nat.lt_or_ge j xs.length with h|h
          . exact h
          . rw[List.getElem?_eq_none h] at hn;cases hn
         have h1:(cur.toList.take (xs.length*1))[j]?=some (Value.int .u8 n):=by
          have:(T.byt 5).size=1:=rfl;rw[this] at hcells;rw[hcells,List.getElem?_map,hn];rfl
         rw[List.getElem?_take_of_lt (by omega)] at h1;have hr:=List.all_eq_true.1 hbytes n (List.mem_of_getElem? hn);simp only[Bool.and_eq_true,decide_eq_true_eq] at hr;rw[<- Array.getElem?_toList,h1,<- hz];congr 2;have:(UInt8.ofNat n.toNat).toNat=n.toNat:=by
          rw[UInt8.toNat_ofNat'];exact Nat.mod_eq_of_lt (by omega)
         rw[this];omega
     . rintro e w' ⟨rfl,hwf⟩;exact fin w' (z43 xs) _ (fun k h=>by subst h;rw[hbg];simp) hwf
end
end Go.Proofs.YtlhdohlpilippaaDoorLg
