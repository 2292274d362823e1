import Derived.Test.YtkkkgfmjjkpjdaaGreatDoorLgW
import Derived.Lib.Join
set_option linter.all false
namespace Go.Proofs.YtkkkgfmjjkpjdaaGreatDoorLg
noncomputable section
open Go Go.Lift
def z2k:List UInt8->List UInt8->Bool->Bool->List (List UInt8)
 | [],cur,_,_=>[cur]
 | c::r,cur,q,true=>z2k r (cur++[c]) q false
 | c::r,cur,q,false =>
   if c=92/\q=true then z2k r (cur++[c]) q true
   else if c=34 then z2k r (cur++[c]) (!q) false
   else if c=32/\q=false then cur::z2k r [] q false
   else z2k r (cur++[c]) q false
theorem zce:∀ (X r cur:List UInt8) (q:Bool),(∀ c∈X,c≠34/\(q=true->c≠92)/\(q=false->c≠32))->z2k (X++r) cur q false=z2k r (cur++X) q false
 | [],r,cur,q,_=>by simp
 | c::X,r,cur,q,h=>by
   obtain⟨h1,h2,h3⟩:=h c List.mem_cons_self;rw[List.cons_append,z2k,if_neg (fun e=>h2 e.2 e.1),if_neg h1,if_neg (fun e=>h3 e.2 e.1),zce X r (cur++[c]) q (fun d hd=>h d (List.mem_cons_of_mem _ hd)),List.append_assoc];rfl
def z1gr (w:List UInt8):Prop:=∀ r cur,z2k (w++r) cur false false=z2k r (cur++w) false false
theorem znn {w:List UInt8}(h:∀ c∈w,c≠34/\c≠32):z1gr w:=fun r cur=>zce w r cur false (fun c hc=>⟨(h c hc).1,(fun e=>by cases e),fun _=>(h c hc).2⟩)
theorem z1eg {b:List UInt8}(h:∀ r cur,z2k (b++r) cur true false=z2k r (cur++b) true false):z1gr (34::(b++[34])):=fun r cur=>by
 rw[List.cons_append,z2k,if_neg (by decide),if_pos rfl,List.append_assoc,Bool.not_false,h,List.cons_append,z2k,if_neg (by decide),if_pos rfl];simp
theorem z1cc (c:UInt8)(r cur:List UInt8):z2k (92::c::r) cur true false=z2k r (cur++[92,c]) true false:=by
 rw[z2k,if_pos ⟨rfl,rfl⟩,z2k,List.append_assoc];rfl
def z7l:List (List UInt8)->List UInt8
 | []=>[]
 | [w]=>w
 | w::v::r=>w++32::z7l (v::r)
theorem z17x:∀ (w:List UInt8) (ws:List (List UInt8)),(∀ v∈w::ws,z1gr v)->z2k (z7l (w::ws)) [] false false=w::ws
 | w,[],h=>by
   have:=h w List.mem_cons_self [] [];rw[List.append_nil] at this;rw[z7l,this,z2k,List.nil_append]
 | w,v::r,h=>by
   rw[z7l,h w List.mem_cons_self,z2k,if_neg (by decide),if_neg (by decide),if_pos ⟨rfl,rfl⟩,z17x v r (fun x hx=>h x (List.mem_cons_of_mem _ hx)),List.nil_append]
end
end Go.Proofs.YtkkkgfmjjkpjdaaGreatDoorLg
