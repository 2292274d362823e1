import Derived.Test.YtlhdohlpilippaaDoorLgM
set_option linter.all false
namespace Go.Lift
noncomputable section
section
variable {P:Program} {E:Env} {c:Ctx} {st st':List A} {fp fp':FP} {a:Act} {w:World} {S:Hp} {ob:Nat->List Nat} {o:Oper}
theorem zum {α:Type}(l:List α)(k:Nat):l.take (min l.length k)=l.take k:=by
 by_cases h:l.length<=k
 . rw[Nat.min_eq_left h,List.take_length,List.take_of_length_le h]
 . rw[Nat.min_eq_right (by omega)]
theorem zlf {α:Type}{xs ys:List α}{lo hi:Nat}(h:min ys.length (hi - lo)=0):over xs lo hi ys=xs:=by
 have h2:ys.take (hi - lo)=[]:=by rw[<- zum,h];rfl
 unfold over;rw[h,h2,Nat.add_zero,List.nil_append,List.take_append_drop]
theorem zi2 {S:Hp}{t:T}{xs ys:List t.den}{lo hi:Nat}{c1:List Value}(hall:All (Rd S t) xs c1)(hlo:lo<=hi)(hhi:hi<=xs.length) :
 ∃ d0 d1 d2,c1=d0++(d1++d2)/\d0.length=lo*t.size/\d1.length=min ys.length (hi - lo)*t.size ∧
   ∀ new,All (Rd S t) (ys.take (min ys.length (hi - lo))) new->All (Rd S t) (over xs lo hi ys) (d0++(new++d2)):=by
 have e:xs=xs.take lo++((xs.drop lo).take (min ys.length (hi - lo))++(xs.drop lo).drop (min ys.length (hi - lo))):=by
  rw[List.take_append_drop,List.take_append_drop]
 rw[e] at hall;obtain⟨d0,d3,hc,h0,h3⟩:=All.split hall;obtain⟨d1,d2,hc',h1,h2⟩:=All.split h3;refine⟨d0,d1,d2,by rw[hc,hc'],?_,?_,fun new hnew=>?_⟩
 . rw[All.length (Rd.length t) _ _ h0,List.length_take,Nat.min_eq_left (by omega)]
 . rw[All.length (Rd.length t) _ _ h1,List.length_take,List.length_drop,Nat.min_eq_left (by omega)]
 . unfold over;rw[<- zum ys];refine All.append h0 (All.append hnew ?_)
   rwa [List.drop_drop] at h2
theorem zos {dT el:TypeId}{l:List TypeId}{ee:TyI}{u:Value}{ys:List ee.t.den}{ty:TypeId}(hu:P.underlying dT=some (.slice el))(hok:TyOk P el ee)(hsrc:Src P w S ee.t u ys)
 {b off dl cap:Nat} {cs:Array Value} {E':TypeId} {fr:Nat×Nat} {c0 c1 c2:List Value} (hcs:hp w b=some (.cells cs E' fr)) (hfr:Free cs fr) (hc:cs.toList=c0++(c1++c2)) (h0:c0.length=off)
 (h1:c1.length=min ys.length dl*ee.t.size) :
 ∃ new w' cs',(Builtin.copy_ (dT::l).toArray ty #[.slice (some ⟨b,off,none⟩) dl cap,u]).run P w=.ok (.int .i64 ((min ys.length dl:Nat):Int)) w'/\All (Rd S ee.t) (ys.take (min ys.length dl)) new ∧
   cs'.toList=c0++(new++c2)/\w'=z19 w b (.cells cs' E' fr):=by
 obtain⟨new,hall,hrun⟩:=hsrc.pre (min ys.length dl) (Nat.min_le_left _ _);have hnl:=All.length (Rd.length ee.t) _ _ hall;rw[List.length_take,Nat.min_eq_left (Nat.min_le_left _ _)] at hnl;obtain⟨w',cs',hst,hcs',hw'⟩:=z2w (P:=P) new.toList 0 off cs w c0 c1 c2 hcs hfr hc (by simpa using h0) (by rw[h1,hnl]) (All.cells (Rd.ones ee.t) _ _ hall);refine⟨new.toList,w',cs',?_,hall,hcs',hw'⟩;have hlen:=hsrc.len;have hr:=hrun w rfl;rw[hok.size] at hr;have hmin:Nat.min ys.length dl=min ys.length dl:=rfl;simp only[Builtin.copy_,List.getElem?_toArray,List.getElem?_cons_zero,List.getElem?_cons_succ,Sem.run_bind,run_underlying hu,Result.andThen_ok,hlen,z13 hok,hmin,hr,hst,Sem.run_pure];rfl
theorem zl7 {dT el:TypeId}{l:List TypeId}{ee:TyI}{u:Value}{ys:List ee.t.den}{ty:TypeId}(hu:P.underlying dT=some (.slice el))(hok:TyOk P el ee)(hsrc:Src P w S ee.t u ys)
 {ad:Option Addr} {dl cap:Nat} (h:min ys.length dl=0) :
 (Builtin.copy_ (dT::l).toArray ty #[.slice ad dl cap,u]).run P w=.ok (.int .i64 ((min ys.length dl:Nat):Int)) w:=by
 obtain⟨new,hall,hrun⟩:=hsrc.pre 0 (Nat.zero_le _);have hnew:new=#[]:=by
  have:new.toList=[]:=by simpa[All] using hall
  simpa using this
 subst hnew;have hlen:=hsrc.len;have hr:=hrun w rfl;rw[hok.size] at hr;have hmin:Nat.min ys.length dl=0:=h;simp only[Builtin.copy_,List.getElem?_toArray,List.getElem?_cons_zero,List.getElem?_cons_succ,Sem.run_bind,run_underlying hu,Result.andThen_ok,hlen,z13 hok,hmin,hr,h];cases ad<;>simp[storeCells]<;>rfl
set_option maxHeartbeats 1000000 in
theorem z10f {dT:TypeId} {l:List TypeId} {x y:Operand} (ho:o.op=.call { callee:=.builtin .copy,args:=#[x,y],argTypes:=(dT::l).toArray })
 (h:zn E (ztl E dT x y o.dst) st fp=some ((),st',fp')) (hb:Base P E c) (hs:SimD c st a w S ob):Good P c o a w st':=by
 unfold ztl at h;obtain⟨e,he,h1⟩:=z25 h;clear h;split at h1
 . rename_i el hd;obtain⟨ee,hee,h2⟩:=z25 h1;obtain⟨B,fp1,h3,hB,hBo,hBd,hBr⟩:=zw h2 hs (hb.globS hs);obtain⟨ys,fp2,h4,hsrc⟩:=zut (P:=P) h3 hs hB;obtain⟨A,fp3,h5,hA,hAo,hAd,hAr⟩:=zw h4 hs (hb.globS hs);clear h1 h2 h3 h4;have hu:P.underlying dT=some (.slice el):=(hb.tyOk he).und.trans (by rw[hd]);have hok:=hb.tyOk hee;have hrun:∀ {v:Value} {w':World},(Builtin.copy_ (dT::l).toArray o.type #[a.eval x,a.eval y]).run P w=.ok v w'->(execOp a.eval o).run P w=.ok (.value v) w':=by
    intro v w' hv;simp[execOp,ho,resolve,invoke,builtin,hv]
   split at h5
   . -- a row of one's own
     rename_i r;obtain⟨fp4,h6⟩:=zy h5;clear h5;split at h6
     . rename_i t xs hy;split at h6
       . rename_i xs' hcast;obtain⟨et,ex'⟩:=zcn hcast;subst et;subst ex';obtain⟨hlt,fp5,h7⟩:=z1b h6;have hrow:=hs.row_at hy;have hown:(A.row ee.t (over xs 0 xs.length ys)).own=true:=rfl;by_cases hn:min ys.length xs.length=0
         . have hov:over xs 0 xs.length ys=xs:=zlf (by simpa using hn);rw[hov] at h7;have hx:∃ ad cap,a.eval x=.slice ad xs.length cap:=by
            rw[hA.1];rcases hrow with⟨hx0,⟨ad,hv,_⟩,_⟩|⟨b,cap,cs,E',fr,hob,hv,_⟩
            . exact⟨ad,0,by rw[hv,hx0];rfl⟩
            . exact⟨_,cap,hv⟩
           obtain⟨ad,cap,hx⟩:=hx;have hr:=zl7 (P:=P) (l:=l) (ty:=o.type) hu hok hsrc (ad:=ad) (cap:=cap) hn;rw[<- hx] at hr;refine zb (hrun hr) (zk h7 hb (hs.content0 hlt (x:=.row ee.t xs) hrow rfl (hs.nd r) (fun k hk=>.inl hk) (fun _=>rfl) hs.frame) ?_);have:zn4 0 xs.length ys=((min ys.length xs.length:Nat):Int):=by simp[zn4]
           rw[this];exact VR.int
         . rcases hrow with⟨hx0,_⟩|⟨b,cap,cs,E',fr,hob,hv,hcs,hfr,hsz,hle,hall,hq⟩
           . rw[hx0] at hn;simp at hn
           . obtain⟨d0,d1,d2,hc1,hd0,hd1,hnew⟩:=zi2 (ys:=ys) hall (Nat.zero_le _) (Nat.le_refl xs.length);simp only[Nat.zero_mul,Nat.sub_zero] at hd0 hd1 hnew;have hd00:d0=[]:=List.length_eq_zero_iff.1 hd0;subst hd00;have hsplit:cs.toList=[]++(d1++(d2++cs.toList.drop (xs.length*ee.t.size))):=by
              have:=(List.take_append_drop (xs.length*ee.t.size) cs.toList).symm;rw[hc1] at this;simpa using this
             obtain⟨new,w',cs',hr,hnall,hcs',hw'⟩:=zos (P:=P) (l:=l) (ty:=o.type) (cap:=cap) (off:=0) hu hok hsrc hcs hfr hsplit rfl hd1;have hx:a.eval x=.slice (some ⟨b,0,none⟩) xs.length cap:=by rw[hA.1];exact hv
             rw[<- hx] at hr;have hov:=hnew new hnall;have hovl:(over xs 0 xs.length ys).length=xs.length:=by
              unfold over;simp only[List.length_append,List.length_take,List.length_drop];omega
             have hnl:new.length=d1.length:=by
              rw[All.length (Rd.length ee.t) _ _ hnall,hd1,List.length_take,Nat.min_eq_left (Nat.min_le_left _ _)]
             have hsize:cs'.size=cs.size:=by
              have h1:=congrArg List.length hcs';have h2:=congrArg List.length hsplit;simp at h1 h2;omega
             subst hw';have hlen12:([]++(new++d2)).length=xs.length*ee.t.size:=by
              have h2:=congrArg List.length hc1;rw[List.length_take] at h2;simp only[Array.length_toList] at h2;rw[hsz,Nat.min_eq_left (Nat.mul_le_mul_right _ hle)] at h2;simp at h2 ⊢;omega
             have hA':ARel (hp (z19 w b (.cells cs' E' fr))) S (tv a) (.row ee.t (over xs 0 xs.length ys)) (tv a r) (ob r):=by
              refine .inr ⟨b,cap,cs',E',fr,hob,by rw[hovl];exact hv,z1y hcs,hfr.of_size hsize,by rw[hsize];exact hsz,by rw[hovl];exact hle,?_,hq⟩;rw[hovl,hcs',show []++(new++(d2++cs.toList.drop (xs.length*ee.t.size)))=([]++(new++d2))++cs.toList.drop (xs.length*ee.t.size) by simp,List.take_append_of_le_length (by omega),<- hlen12,List.take_length];exact hov
             refine zb (hrun hr) (zk h7 hb (hs.content hlt (b:=b) (by rw[hob];simp) hA' rfl (fun b' hne=>zo hne) (hs.frame.setObj (hs.fresh r b (by rw[hob];simp)) _)) ?_);have:zn4 0 xs.length ys=((min ys.length xs.length:Nat):Int):=by simp[zn4]
             rw[this];exact VR.int
       . exact (z6 h6).elim
     . exact (z6 h6).elim
   . -- a row in a box
     rename_i r n p;obtain⟨t,z,u,xs,fp4,h6,hy,hin,hn0,hf⟩:=z74 h5;clear h5;split at h6
     . rename_i xs' hcast;obtain⟨et,ex'⟩:=zcn hcast;subst et;subst ex';split at h6
       . rename_i q hq;obtain⟨hlt,fp5,h7⟩:=z1b h6;obtain⟨b,cs,E',fr,b0,b1,b2,c0,c2,hob,hv,hcs,hfr,hcc,hl,hrow,hput⟩:=hs.cel_row hA hy hin hn0 hf;have hnd:=hs.nd r;have hcN:zn4 0 xs.length ys=((min ys.length xs.length:Nat):Int):=by simp[zn4]
         by_cases hn:min ys.length xs.length=0
         . have hov:over xs 0 xs.length ys=xs:=zlf (by simpa using hn);rw[hov] at hq;have hx:∃ ad cap,a.eval x=.slice ad xs.length cap:=by
            rcases hrow with⟨hx0,⟨ad,hv,_⟩,_⟩|⟨b,cap,cs,E',fr,hob,hv,_⟩
            . exact⟨ad,0,by rw[hv,hx0];rfl⟩
            . exact⟨_,cap,hv⟩
           obtain⟨ad,cap,hx⟩:=hx;have hr:=zl7 (P:=P) (l:=l) (ty:=o.type) hu hok hsrc (ad:=ad) (cap:=cap) hn;rw[<- hx] at hr;have hbox:ARel (hp w) S (tv a) (.box q.1 q.2) (tv a r) (ob r):=by
            refine⟨b,cs,E',fr,_,hob,hv,hcs,hfr,?_⟩;rw[hcc];exact hput (hp w) _ (Sub.refl _) (fun _ _=>rfl) _ _ [a.eval x] b1 q hq ⟨_,rfl,hrow⟩
           refine zb (hrun hr) (zk h7 hb (hs.content0 hlt hbox rfl (hs.nd r) (fun k hk=>.inl hk) (fun _=>rfl) hs.frame) ?_);rw[hcN];exact VR.int
         . rcases hrow with⟨hx0,_⟩|⟨bb,cap,ds,F',fr2,hob1,hvx,hds,hfr2,hsz,hle,hall,hbq⟩
           . rw[hx0] at hn;simp at hn
           . subst hob1;obtain⟨d0,d1,d2,hc1,hd0,hd1,hnew⟩:=zi2 (ys:=ys) hall (Nat.zero_le _) (Nat.le_refl xs.length);simp only[Nat.zero_mul,Nat.sub_zero] at hd0 hd1 hnew;have hd00:d0=[]:=List.length_eq_zero_iff.1 hd0;subst hd00;have hsplit:ds.toList=[]++(d1++(d2++ds.toList.drop (xs.length*ee.t.size))):=by
              have:=(List.take_append_drop (xs.length*ee.t.size) ds.toList).symm;rw[hc1] at this;simpa using this
             obtain⟨new,w',ds',hr,hnall,hds',hw'⟩:=zos (P:=P) (l:=l) (ty:=o.type) (cap:=cap) (off:=0) hu hok hsrc hds hfr2 hsplit rfl hd1;rw[<- hvx] at hr;have hov:=hnew new hnall;have hovl:(over xs 0 xs.length ys).length=xs.length:=by
              unfold over;simp only[List.length_append,List.length_take,List.length_drop];omega
             have hnl:new.length=d1.length:=by
              rw[All.length (Rd.length ee.t) _ _ hnall,hd1,List.length_take,Nat.min_eq_left (Nat.min_le_left _ _)]
             have hsize:ds'.size=ds.size:=by
              have h1:=congrArg List.length hds';have h2:=congrArg List.length hsplit;simp at h1 h2;omega
             subst hw';have hlen12:([]++(new++d2)).length=xs.length*ee.t.size:=by
              have h2:=congrArg List.length hc1;rw[List.length_take] at h2;simp only[Array.length_toList] at h2;rw[hsz,Nat.min_eq_left (Nat.mul_le_mul_right _ hle)] at h2;simp at h2 ⊢;omega
             have hrow':RowRel (hp (z19 w bb (.cells ds' F' fr2))) S ee.t (over xs 0 xs.length ys) (a.eval x) [bb]:=by
              refine .inr ⟨bb,cap,ds',F',fr2,rfl,by rw[hovl];exact hvx,z1y hds,hfr2.of_size hsize,by rw[hsize];exact hsz,by rw[hovl];exact hle,?_,hbq⟩;rw[hovl,hds',show []++(new++(d2++ds.toList.drop (xs.length*ee.t.size)))=([]++(new++d2))++ds.toList.drop (xs.length*ee.t.size) by simp,List.take_append_of_le_length (by omega),<- hlen12,List.take_length];exact hov
             rw[hob] at hnd;have hbbm:bb∈ob r:=by rw[hob];simp
             have hne:b≠bb:=fun e=>by subst e;exact (List.nodup_cons.1 hnd).1 (by simp)
             have hnd2:=(List.nodup_cons.1 hnd).2;have hdis:∀ k∈b0++b2,k≠bb:=fun k hk e=>by
              subst e;have h1:=List.nodup_append.1 hnd2;rcases List.mem_append.1 hk with hk|hk
              . exact h1.2.2 k hk k (by simp) rfl
              . exact (List.nodup_cons.1 h1.2.1).1 hk
             have hbox:ARel (hp (z19 w bb (.cells ds' F' fr2))) S (tv a) (.box q.1 q.2) (tv a r) (ob r):=by
              refine⟨b,cs,E',fr,_,hob,hv,by rw[zo hne];exact hcs,hfr,?_⟩;rw[hcc];exact hput (hp (z19 w bb (.cells ds' F' fr2))) _ (Sub.refl _) (fun k hk=>zo (hdis k hk)) _ _ [a.eval x] [bb] q hq ⟨_,rfl,hrow'⟩
             refine zb (hrun hr) (zk h7 hb (hs.content hlt (b:=bb) hbbm hbox rfl (fun b' hne'=>zo hne') (hs.frame.setObj (hs.fresh r bb hbbm) _)) ?_);rw[hcN];exact VR.int
       . exact (z6 h6).elim
     . exact (z6 h6).elim
   . -- a slice of an array inside such a row
     rename_i r n p u q lo hi;obtain⟨t,z,u',xs,fp4,h6,hy,hin,hn0,hf⟩:=z74 h5;clear h5;split at h6
     . rename_i xs' hcast;obtain⟨et,ex'⟩:=z12 hcast;cases et;subst ex';obtain⟨hq,h7⟩:=zr h6;clear h6;dsimp only at h7;obtain⟨m,t',zs,b',cs,E',fr,c0,c1,c2,cap2,off,hz,hzl,hlo,hhi,hcap,hoff,hv,hcs,hfr,hcc,hall,hbm,hrl,hup⟩:=hs.psl_open hA hy hin hn0 hf hq;rw[hz] at h7;simp only[z14s] at h7;split at h7
       . rename_i zs' hcz;obtain⟨e1,e2⟩:=zcn hcz;subst e1;subst e2;split at h7
         . rename_i xs2 hset;split at h7
           . rename_i Z hZ;obtain⟨hlt,fp5,h8⟩:=z1b h7;have hcN:zn4 lo hi ys=((min ys.length (hi - lo):Nat):Int):=rfl;by_cases hn:min ys.length (hi - lo)=0
             . have hov:over zs lo hi ys=zs:=zlf hn;rw[hov] at hset;have hr:=zl7 (P:=P) (l:=l) (ty:=o.type) hu hok hsrc (ad:=some ⟨b',off,none⟩) (cap:=cap2) hn;rw[<- hv] at hr;obtain⟨_,hbox⟩:=hup (.arr m ee.t) zs c1 xs2 w cs Z hset ⟨hzl,hall⟩ hZ hcs (fun _ _=>rfl) hcc;refine zb (hrun hr) (zk h8 hb (hs.content0 hlt hbox rfl (hs.nd r) (fun k hk=>.inl hk) (fun _=>rfl) hs.frame) ?_);rw[hcN];exact VR.int
             . have hlt':lo<hi:=by omega
               have hoff:=hoff hlt';obtain⟨d0,d1,d2,hc1,hd0,hd1,hnew⟩:=zi2 (ys:=ys) hall hlo (by omega);have hsplit:cs.toList=(c0++d0)++(d1++(d2++c2)):=by rw[hcc,hc1];simp
               obtain⟨new,w',cs',hr,hnall,hcs',hw'⟩:=zos (P:=P) (l:=l) (ty:=o.type) (cap:=cap2) (off:=off) hu hok hsrc hcs hfr hsplit (by rw[List.length_append,hd0,hoff]) hd1;rw[<- hv] at hr;subst hw';have hovl:(over zs lo hi ys).length=m:=by
                unfold over;simp only[List.length_append,List.length_take,List.length_drop];omega
               obtain⟨_,hbox⟩:=hup (.arr m ee.t) (over zs lo hi ys) (d0++(new++d2)) xs2 _ cs' Z hset ⟨hovl,hnew new hnall⟩ hZ (z1y hcs) (fun k hk=>zo hk) (by rw[hcs'];simp);refine zb (hrun hr) (zk h8 hb (hs.content hlt (b:=b') hbm hbox rfl (fun b2 hne=>zo hne) (hs.frame.setObj (hs.fresh r b' hbm) _)) ?_);rw[hcN];exact VR.int
           . exact (z6 h7).elim
         . exact (z6 h7).elim
       . exact (z6 h7).elim
     . exact (z6 h6).elim
   . exact (z6 h5).elim
 . exact (z6 h1).elim
end
end
end Go.Lift
