import Derived.Test.YthdblfmolchhpaaGreatDoorLgPrBt4
import Derived.Conc.LoneCalls
import Derived.Defers
import Derived.Orders
import Derived.Tactics
set_option linter.all false
set_option maxRecDepth 100000
namespace Go.Lift
noncomputable section
open Go Go.Conc
variable {P:Program} {ops:Array Oper} {Q:Exit->Act->World->Prop} {rest:List Nat} {a:Act} {w:World}
def RegWp (P:Program)(ops:Array Oper)(Q:Exit->Act->World->Prop)(l:List Nat)(a:Act)(w:World):Prop :=
 ∀ (b:Frame) (k:List Item) (cs:List Frame),∃ e a' w',Q e a' w'/\Arrives P (lone (b.at a (.inRegion ops l::k)) cs w) b k cs e a' w'
theorem RegWp.nil (h:Q .normal a w):RegWp P ops Q [] a w:=fun b k cs=>⟨.normal,a,w,h,.one step_region_end⟩
theorem RegWp.op {i:Nat}{o:Oper}(ho:ops[i]?=some o)(hg:o.guard=none)(h:o.wp P a w (RegWp P ops Q rest) Q\/(o.asks P a w/\LetsOut Q)):RegWp P ops Q (i::rest) a w:=by
 intro b k cs;have hw:Region.wanted o (yielded ops a.tmps)=true:=by simp[Region.wanted,hg]
 rcases h with h|⟨hasks,a₀,w₀,hq⟩
 case inr =>
  by_cases hk:b.kind=.early
  . exact⟨.outgrown,a₀,w₀,hq,.inl hk⟩
  . exact⟨.outgrown,a₀,w₀,hq,.inr (asks_outgrown ho hw hk hasks)⟩
 have hs:=stepG_op (P:=P) (b:=b) (k:=k) (cs:=cs) (w:=w) (rest:=rest) ho hw;have fin:∀ v,(b.at a (.inRegion ops (i::rest)::k)).finish v=b.at (a.put o.dst v) (.inRegion ops rest::k):=fun v=>by rw[Frame.finish_at,ho];rfl
 unfold Oper.wp at h;generalize hr:(execOp a.eval o).run P w=r at h;have goOn:∀ a1 w1 fr,step P (lone (b.at a (.inRegion ops (i::rest)::k)) cs w)=.next (lone fr cs w1)->fr=b.at a1 (.inRegion ops rest::k)->RegWp P ops Q rest a1 w1 →
  ∃ e a' w',Q e a' w'/\Arrives P (lone (b.at a (.inRegion ops (i::rest)::k)) cs w) b k cs e a' w':=by
  rintro a1 w1 fr h1 rfl h2;obtain⟨e,a',w',q,arr⟩:=h2 b k cs;exact⟨e,a',w',q,.of_steps (.one h1) arr⟩
 match r,h,hr with
 | .ok (.value v) w1,h,hr=>exact goOn _ w1 _ (step_lone_go (by rw[hs];simp[stepG.apply,hr])) (fin v) h
 | .ok .skip w1,h,hr=>exact goOn _ w1 _ (step_lone_go (by rw[hs];simp[stepG.apply,hr])) (fin undef) h
 | .ok (.defer d) w1,h,hr =>
   have e1:({ b.at a (.inRegion ops (i::rest)::k) with defers:=d::a.defers }:Frame).finish undef=b.at ({ a with defers:=d::a.defers }.put o.dst undef) (.inRegion ops rest::k):=by
    have:=Frame.finish_at b { a with defers:=d::a.defers } ops i rest k undef;rw[ho] at this;exact this
   refine goOn _ w1 _ (step_lone_go ?_) e1 h;rw[hs];simp only[stepG.apply,Sem.runT_eq,hr,GStep.bare_after];rfl
 | .ok (.enter f args) w1,h,hr =>
   obtain⟨e,w2,fr,hR,st,_,lv⟩:=h (b.at a (.inRegion ops (i::rest)::k)::cs);have ent:step P (lone (b.at a (.inRegion ops (i::rest)::k)) cs w)=.next (lone (Frame.enter P f args .normal) (b.at a (.inRegion ops (i::rest)::k)::cs) w1) :=
    step_lone_go (by rw[hs];simp[stepG.apply,hr,Frame.at])
   cases e with
   | returned v =>
     obtain⟨e,a',w3,q,arr⟩:=hR b k cs;refine⟨e,a',w3,q,.of_steps (.head ent (Steps.trans st (.one ?_))) arr⟩;rw[<- fin];exact step_leave_returned lv
   | panicked chain =>
     refine⟨.panic chain,a,w2,hR,.inRegion ops (i::rest)::k,.head ent (Steps.trans st (.one ?_))⟩;rw[<- Frame.raise_at];exact step_leave_panicked lv
   | outgrown =>
     obtain⟨a₀,w₀,q⟩:=hR;exact⟨.outgrown,a₀,w₀,q,.inr (Outgrown.of_steps (.one ent) st)⟩
 | .ok (.row row args) w1,h,hr =>
   obtain⟨v,w2,hR,st⟩:=h (b.at a (.inRegion ops (i::rest)::k)) cs;have ent:step P (lone (b.at a (.inRegion ops (i::rest)::k)) cs w)=.next (lone (Frame.ofRow P row args .normal) (b.at a (.inRegion ops (i::rest)::k)::cs) w1) :=
    step_lone_go (by rw[hs];simp[stepG.apply,hr,Frame.at])
   obtain⟨e,a',w3,q,arr⟩:=hR b k cs;refine⟨e,a',w3,q,.of_steps (.head ent ?_) arr⟩;rw[<- fin];exact st
 | .halt (.panic v) w1,h,hr =>
   refine⟨_,a,w1,h,.inRegion ops (i::rest)::k,.one (step_lone_go ?_)⟩;rw[hs,<- Frame.raise_at];simp[stepG.apply,hr]
theorem RegWp.list:∀ (l:List Oper) (i:Nat) (a:Act) (w:World),(∀ j,j<l.length->l[j]?=ops[i+j]?)->(∀ o∈l,o.guard=none)->wpList P ops (Exit.then (RegWp P ops Q rest) Q) l a w →
 RegWp P ops Q (List.range' i l.length++rest) a w
 | [],i,a,w,_,_,h=>h
 | o :: l,i,a,w,h0,hg,h=>by
   have ho:ops[i]?=some o:=by have:=h0 0 (by simp);simpa using this.symm
   have hgo:=hg o (List.mem_cons_self ..);have ih:=fun a w=>RegWp.list l (i+1) a w (fun j hj=>by have:=h0 (j+1) (by simp;omega);simpa[Nat.add_assoc,Nat.add_comm 1 j] using this) (fun o ho=>hg o (List.mem_cons_of_mem _ ho))
   rw[List.length_cons,List.range'_succ,List.cons_append];refine RegWp.op ho hgo ?_;unfold wpList at h;rw[if_pos (by simp[Region.wanted,hgo])] at h;rcases h with h|⟨h1,a0,w0,h2⟩
   . left
     unfold Oper.wp at h ⊢;generalize (execOp a.eval o).run P w=r at h
     match r,h with
     | .ok (.value v) w1,h=>exact ih _ _ h
     | .ok .skip w1,h=>exact ih _ _ h
     | .ok (.defer d) w1,h=>exact ih _ _ h
     | .ok (.enter f args) w1,h =>
       refine Calls.mono h ?_;intro e w2 q;cases e with
       | returned v=>exact ih _ _ q
       | panicked chain=>exact q
       | outgrown=>obtain⟨a0,w0,q⟩:=q;exact⟨a0,w0,q⟩
     | .ok (.row row args) w1,h=>exact Rows.mono h fun v w2 q=>ih _ _ q
     | .halt (.panic v) w1,h=>exact h
   . exact .inr ⟨h1,a0,w0,h2⟩
theorem RegWp.tail (l:List Oper)(i:Nat)(h0:∀ j,j<l.length->l[j]?=ops[i+j]?)(hg:l.all (fun o=>o.guard.isNone)=true)
 (h:∀ K:Act->World->Prop,(∀ a w,Q .normal a w->K a w)->wpList P ops (Exit.then K Q) l a w):RegWp P ops Q (List.range' i l.length) a w:=by
 have:=RegWp.list (P:=P) (Q:=Q) (rest:=[]) l i a w h0 (fun o ho=>by have:=List.all_eq_true.1 hg o ho;simpa using this) (h _ (fun _ _ h=>RegWp.nil h));rw[List.append_nil] at this;exact this
theorem RegWp.behind (i:Nat)(hi:i<=ops.size)(hg:(ops.toList.drop i).all (fun o=>o.guard.isNone)=true)
 (h:∀ K:Act->World->Prop,(∀ a w,Q .normal a w->K a w)->wpList P ops (Exit.then K Q) (ops.toList.drop i) a w):RegWp P ops Q (List.range' i (ops.size - i)) a w:=by
 have:=RegWp.tail (P:=P) (Q:=Q) (ops:=ops) (ops.toList.drop i) i (fun j hj=>by simp) hg h;rw[List.length_drop,Array.length_toList] at this;exact this
theorem RegWp.comm {i:Nat}{o:Oper}{cases:Array CommCase}{blocking:Bool}{shape:CommShape}{w1 w2:World}{v:Value}(ho:ops[i]?=some o)(hg:o.guard=none)
 (hr:(execOp a.eval o).run P w=.ok (.comm cases blocking shape) w1)
 (hs:∀ (fr:Frame) (cs:List Frame) (es:Array Event),stepG P true (G fr cs) w=.comm (G fr cs) cases blocking shape w1 es->step P (solo (G fr cs) w)=.next (solo (G (fr.finish v) cs) w2))
 (h:RegWp P ops Q rest (a.put o.dst v) w2):RegWp P ops Q (i::rest) a w:=by
 intro b k cs;have hw:Region.wanted o (yielded ops a.tmps)=true:=by simp[Region.wanted,hg]
 have h0:=stepG_op (P:=P) (b:=b) (k:=k) (cs:=cs) (w:=w) (rest:=rest) ho hw;have h1:∃ es,stepG P true (G (b.at a (.inRegion ops (i::rest)::k)) cs) w=.comm (G (b.at a (.inRegion ops (i::rest)::k)) cs) cases blocking shape w1 es:=by
  have e:(G (b.at a (.inRegion ops (i::rest)::k)) cs)={ frame:=b.at a (.inRegion ops (i::rest)::k),callers:=cs,status:=.running,dying:=none }:=rfl;rw[e,h0];by_cases hk:b.kind=.early
  . simp[stepG.apply,hr,Frame.at,hk,GStep.after]
  . have hk':(b.kind == CallKind.early)=false:=by simpa using hk
    simp[stepG.apply,hr,Frame.at,hk',GStep.after]
 obtain⟨es,h1⟩:=h1;have h2:=hs _ _ _ h1;have fin:(b.at a (.inRegion ops (i::rest)::k)).finish v=b.at (a.put o.dst v) (.inRegion ops rest::k):=by rw[Frame.finish_at,ho];rfl
 rw[fin] at h2;obtain⟨e,a',w',q,arr⟩:=h b k cs;exact⟨e,a',w',q,.of_steps (.one h2) arr⟩
theorem RegWp.send {i:Nat}{o:Oper}{c cap s r:Nat}{buf:Array Value}{tm:Bool}{v:Value}{x y:Operand}(ho:ops[i]?=some o)(hg:o.guard=none)(hop:o.op=.send x y)
 (hx:a.eval x=.chan (some c)) (hy:a.eval y=v) (hc:w.heap[c]?=some (.chan cap buf false s r tm)) (hroom:buf.size<cap)
 (h:RegWp P ops Q rest (a.put o.dst undef) (w.setChan c cap (buf.push v) false (s+1) r tm)):RegWp P ops Q (i::rest) a w:=by
 refine RegWp.comm (cases:=#[scase c v (.tuple #[])]) (blocking:=true) (shape:=.send) (w1:=w) ho hg ?_ ?_ h
 . unfold execOp;simp[hop,hx,hy,scase]
 . exact fun fr cs es h1=>step_lone_send_room h1 hc hroom
theorem RegWp.recv_buf {i:Nat}{o:Oper}{c cap s r:Nat}{buf:Array Value}{tm closed:Bool}{z:Value}(ho:ops[i]?=some o)(hg:o.guard=none)
 (hr:(execOp a.eval o).run P w=.ok (.comm #[rcase c z] true (.recv true)) w) (hc:w.heap[c]?=some (.chan cap buf closed s r tm)) (hsome:0<buf.size)
 (h:RegWp P ops Q rest (a.put o.dst (.tuple #[buf.getD 0 undef,.bool true])) (w.setChan c cap (buf.extract 1 buf.size) closed s (r+1) tm)):RegWp P ops Q (i::rest) a w :=
 RegWp.comm ho hg hr (fun fr cs es h1=>step_lone_recv_buf true h1 hc hsome) h
theorem RegWp.recv_shut {i:Nat}{o:Oper}{c cap s r:Nat}{tm:Bool}{z:Value}(ho:ops[i]?=some o)(hg:o.guard=none)
 (hr:(execOp a.eval o).run P w=.ok (.comm #[rcase c z] true (.recv true)) w) (hc:w.heap[c]?=some (.chan cap #[] true s r tm))
 (h:RegWp P ops Q rest (a.put o.dst (.tuple #[z,.bool false])) w):RegWp P ops Q (i::rest) a w :=
 RegWp.comm ho hg hr (fun fr cs es h1=>step_lone_recv_shut true h1 hc) h
theorem zpd {id:Nat}(h:RegWp P ops Q (List.range ops.size) a w):(Code.region id ops false).wp P Q a w :=
 fun b k cs=>let ⟨e,a',w',q,r⟩:=h b k cs;⟨e,a',w',q,.of_steps (.one step_region) r⟩
theorem z7f {id:Nat}(n:Nat)(hn:n<=ops.size)(hg:(ops.toList.take n).all (fun o=>o.guard.isNone)=true)
 (h:∀ K:Act->World->Prop,(∀ a w,RegWp P ops Q (List.range' n (ops.size - n)) a w->K a w)->wpList P ops (Exit.then K Q) (ops.toList.take n) a w):(Code.region id ops false).wp P Q a w:=by
 refine zpd ?_;have hl:(ops.toList.take n).length=n:=by simp;omega
 have e:List.range ops.size=List.range' 0 n++List.range' n (ops.size - n):=by
  have h1:=List.range'_append (s:=0) (m:=n) (n:=ops.size - n) (step:=1);rw[Nat.one_mul,Nat.zero_add] at h1;rw[h1,List.range_eq_range'];congr 1;omega
 rw[e];have:=RegWp.list (P:=P) (Q:=Q) (rest:=List.range' n (ops.size - n)) (ops.toList.take n) 0 a w (fun j hj=>by rw[hl] at hj;simp[hj]) (fun o ho=>by have:=List.all_eq_true.1 hg o ho;simpa using this) (h _ (fun _ _ h=>h));rw[hl] at this;exact this
def z12y (P:Program)(fn:Func)(R:Ending->World->Prop):Exit->Act->World->Prop
 | .normal,a,w | .ret,a,w=>∃ d v u w',a.defers=[d]/\(∃ b x y z,d.target=.builtin b x y z)/\(invoke d.target d.args).run P w=.ok (.value v) w'/\(results fn a.tmps).run P w'=.ok u w'/\R (.returned u) w'
 | _,_,_=>False
theorem zgl {f:FuncId}{fn:Func}{c:Code}{args:Array Value}{R:Ending->World->Prop}(hf:P.funcs[f]?=some fn)(hb:fn.body=some c)
 (h:c.wp P (z12y P fn R) { tmps:=args++Array.replicate (fn.ntmps - args.size) undef,defers:=[] } w):Calls P f args w R:=by
 intro cs
 let b:Frame:={ (default:Frame) with fn:=f,kind:=.normal }
 have ent:Frame.enter P f args .normal=b.at { tmps:=args++Array.replicate (fn.ntmps - args.size) undef,defers:=[] } [.code c]:=by
  simp[Frame.enter,Frame.at,hf,hb,b]
 obtain⟨e,a1,w1,q,arr⟩:=h b [] cs;rw[<- ent] at arr;have last:∀ todo,(∃ d v u w',a1.defers=[d]/\(∃ b x y z,d.target=.builtin b x y z)/\(invoke d.target d.args).run P w1=.ok (.value v) w'/\(results fn a1.tmps).run P w'=.ok u w'/\R (.returned u) w') →
  Steps P (lone (Frame.enter P f args .normal) cs w) (lone { b.at a1 todo with mode:=.returning } cs w1) →
  ∃ e w' fr,R e w'/\Comes P (lone (Frame.enter P f args .normal) cs w) (lone fr cs w') e/\fr.fn=f/\fr.leaving P w' e:=by
  rintro todo ⟨⟨t,da⟩,v,u,w',hd,⟨b1,x1,y1,z1,ht⟩,hi,hres,hR⟩ st;simp only at ht;subst ht;refine⟨.returned u,w',{ b.at { a1 with defers:=[] } todo with mode:=.returning },hR,Steps.trans st (.one (step_lone_go ?_)),rfl,rfl,rfl,rfl,fn,hf,hres⟩;simp[stepG,unwind,callDeferred,Frame.at,hd,hi]
 cases e with
 | normal=>exact last [] q (Steps.trans arr (.one step_end))
 | ret=>obtain⟨todo,st⟩:=arr;exact last todo q st
 | exit id=>exact q.elim
 | goto l=>exact q.elim
 | panic chain=>exact q.elim
 | outgrown=>exact q.elim
end
end Go.Lift
