import Derived.Test.YtlmlihfmoabinaaDoorLgW
import Derived.Lib.Join
set_option linter.all false
namespace Go.Proofs.YtlmlihfmoabinaaDoorLg
noncomputable section
open Go Go.Lift
def z2e:List UInt8->List UInt8->Bool->Bool->List (List UInt8)
 | [],cur,_,_=>[cur]
 | c::r,cur,q,true=>z2e r (cur++[c]) q false
 | c::r,cur,q,false =>
   if c=92/\q=true then z2e r (cur++[c]) q true
   else if c=34 then z2e r (cur++[c]) (!q) false
   else if c=32/\q=false then cur::z2e r [] q false
   else z2e r (cur++[c]) q false
theorem zb4:∀ (X r cur:List UInt8) (q:Bool),(∀ c∈X,c≠34/\(q=true->c≠92)/\(q=false->c≠32))->z2e (X++r) cur q false=z2e r (cur++X) q false
 | [],r,cur,q,_=>by simp
 | c::X,r,cur,q,h=>by
   obtain⟨h1,h2,h3⟩:=h c List.mem_cons_self;rw[List.cons_append,z2e,if_neg (fun e=>h2 e.2 e.1),if_neg h1,if_neg (fun e=>h3 e.2 e.1),zb4 X r (cur++[c]) q (fun d hd=>h d (List.mem_cons_of_mem _ hd)),List.append_assoc];rfl
def z1c9 (w:List UInt8):Prop:=∀ r cur,z2e (w++r) cur false false=z2e r (cur++w) false false
theorem zl9 {w:List UInt8}(h:∀ c∈w,c≠34/\c≠32):z1c9 w:=fun r cur=>zb4 w r cur false (fun c hc=>⟨(h c hc).1,(fun e=>by cases e),fun _=>(h c hc).2⟩)
theorem z1a5 {b:List UInt8}(h:∀ r cur,z2e (b++r) cur true false=z2e r (cur++b) true false):z1c9 (34::(b++[34])):=fun r cur=>by
 rw[List.cons_append,z2e,if_neg (by decide),if_pos rfl,List.append_assoc,Bool.not_false,h,List.cons_append,z2e,if_neg (by decide),if_pos rfl];simp
theorem z181 (c:UInt8)(r cur:List UInt8):z2e (92::c::r) cur true false=z2e r (cur++[92,c]) true false:=by
 rw[z2e,if_pos ⟨rfl,rfl⟩,z2e,List.append_assoc];rfl
def z6u:List (List UInt8)->List UInt8
 | []=>[]
 | [w]=>w
 | w::v::r=>w++32::z6u (v::r)
theorem z13p:∀ (w:List UInt8) (ws:List (List UInt8)),(∀ v∈w::ws,z1c9 v)->z2e (z6u (w::ws)) [] false false=w::ws
 | w,[],h=>by
   have:=h w List.mem_cons_self [] [];rw[List.append_nil] at this;rw[z6u,this,z2e,List.nil_append]
 | w,v::r,h=>by
   rw[z6u,h w List.mem_cons_self,z2e,if_neg (by decide),if_neg (by decide),if_pos ⟨rfl,rfl⟩,z13p v r (fun x hx=>h x (List.mem_cons_of_mem _ hx)),List.nil_append]
end
end Go.Proofs.YtlmlihfmoabinaaDoorLg
