import Derived.Test.YtlmlihfmoabinaaDoorLgW
import Derived.Lib.Join
set_option linter.all false
namespace Go.Proofs.YtlmlihfmoabinaaDoorLg
noncomputable section
open Go Go.Lift
def z1k:List UInt8->List UInt8->Bool->Bool->List (List UInt8)
 | [],cur,_,_=>[cur]
 | c::r,cur,q,true=>z1k r (cur++[c]) q false
 | c::r,cur,q,false =>
   if c=92/\q=true then z1k r (cur++[c]) q true
   else if c=34 then z1k r (cur++[c]) (!q) false
   else if c=32/\q=false then cur::z1k r [] q false
   else z1k r (cur++[c]) q false
theorem z81:∀ (X r cur:List UInt8) (q:Bool),(∀ c∈X,c≠34/\(q=true->c≠92)/\(q=false->c≠32))->z1k (X++r) cur q false=z1k r (cur++X) q false
 | [],r,cur,q,_=>by simp
 | c::X,r,cur,q,h=>by
   obtain⟨h1,h2,h3⟩:=h c List.mem_cons_self;rw[List.cons_append,z1k,if_neg (fun e=>h2 e.2 e.1),if_neg h1,if_neg (fun e=>h3 e.2 e.1),z81 X r (cur++[c]) q (fun d hd=>h d (List.mem_cons_of_mem _ hd)),List.append_assoc];rfl
def zze (w:List UInt8):Prop:=∀ r cur,z1k (w++r) cur false false=z1k r (cur++w) false false
theorem zd4 {w:List UInt8}(h:∀ c∈w,c≠34/\c≠32):zze w:=fun r cur=>z81 w r cur false (fun c hc=>⟨(h c hc).1,(fun e=>by cases e),fun _=>(h c hc).2⟩)
theorem zxg {b:List UInt8}(h:∀ r cur,z1k (b++r) cur true false=z1k r (cur++b) true false):zze (34::(b++[34])):=fun r cur=>by
 rw[List.cons_append,z1k,if_neg (by decide),if_pos rfl,List.append_assoc,Bool.not_false,h,List.cons_append,z1k,if_neg (by decide),if_pos rfl];simp
theorem zvh (c:UInt8)(r cur:List UInt8):z1k (92::c::r) cur true false=z1k r (cur++[92,c]) true false:=by
 rw[z1k,if_pos ⟨rfl,rfl⟩,z1k,List.append_assoc];rfl
def zfk:List (List UInt8)->List UInt8
 | []=>[]
 | [w]=>w
 | w::v::r=>w++32::zfk (v::r)
theorem zr7:∀ (w:List UInt8) (ws:List (List UInt8)),(∀ v∈w::ws,zze v)->z1k (zfk (w::ws)) [] false false=w::ws
 | w,[],h=>by
   have:=h w List.mem_cons_self [] [];rw[List.append_nil] at this;rw[zfk,this,z1k,List.nil_append]
 | w,v::r,h=>by
   rw[zfk,h w List.mem_cons_self,z1k,if_neg (by decide),if_neg (by decide),if_pos ⟨rfl,rfl⟩,zr7 v r (fun x hx=>h x (List.mem_cons_of_mem _ hx)),List.nil_append]
end
end Go.Proofs.YtlmlihfmoabinaaDoorLg
