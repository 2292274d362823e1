import Derived.Test.YtkkkgfmjjkpjdaaGreatDoorLgPrOs1
import Derived.Test.YtkkkgfmjjkpjdaaGreatDoorLgW
import Derived.Lib.AtoiAll
import Derived.Lib.ItoaNum
set_option linter.all false
namespace Go.Proofs.YtkkkgfmjjkpjdaaGreatDoorLg
noncomputable section
open Go Go.Lift
theorem z1ae:∀ (n u:Nat),u<=n->Lib.decDigits u≠[]/\∀ c∈Lib.decDigits u,48<=c.toNat/\c.toNat<=57
 | n,u,hn=>by
   rw[Lib.decDigits];by_cases h:u<10
   . rw[dif_pos h];refine⟨by simp,fun c hc=>?_⟩;rw[List.mem_singleton.1 hc];have:(UInt8.ofNat (48+u)).toNat=48+u:=by rw[UInt8.toNat_ofNat'];omega
     omega
   . rw[dif_neg h];refine⟨by simp,fun c hc=>?_⟩;rcases List.mem_append.1 hc with hc|hc
     . cases n with
       | zero=>omega
       | succ n=>exact (z1ae n (u / 10) (by omega)).2 c hc
     . rw[List.mem_singleton.1 hc];have:(UInt8.ofNat (48+u % 10)).toNat=48+u % 10:=by rw[UInt8.toNat_ofNat'];omega
       omega
theorem z1fi:∀ (n u:Nat) (r:List UInt8),u<=n->u<1000000000000000000->Lib.parseUint10 0 (Lib.decDigits u++r)=Lib.parseUint10 u r
 | n,u,r,hn,hu=>by
   rw[Lib.decDigits];have step:∀ (a d:Nat),a<100000000000000000->d<10->Lib.parseUint10 a (UInt8.ofNat (48+d)::r)=Lib.parseUint10 (a*10+d) r:=fun a d ha hd=>by
    have e:(UInt8.ofNat (48+d)).toNat=48+d:=by rw[UInt8.toNat_ofNat'];omega
    rw[Lib.parseUint10,e,if_pos (by omega),if_neg (by omega),if_neg (by omega)];congr 1;omega
   by_cases h:u<10
   . rw[dif_pos h,List.cons_append,List.nil_append,step 0 u (by omega) h];congr 1;omega
   . rw[dif_neg h,List.append_assoc,List.cons_append,List.nil_append];cases n with
     | zero=>omega
     | succ n =>
       rw[z1fi n (u / 10) _ (by omega) (by omega),step (u / 10) (u % 10) (by omega) (by omega)];congr 1;omega
theorem z1oi {n:Int}(h0:0<=n)(h1:n<=1099511627776):Lib.atoiAll (Lib.itoa n)=.ok n:=by
 obtain⟨u,rfl⟩:=Int.eq_ofNat_of_zero_le h0;have hi:Lib.itoa (u:Int)=Lib.decDigits u:=by unfold Lib.itoa;rw[if_neg (by omega)];rfl
 rw[hi];obtain⟨hne,hb⟩:=z1ae u u (Nat.le_refl _);have hp:=z1fi u u [] (Nat.le_refl _) (by omega);rw[List.append_nil] at hp;cases hd:Lib.decDigits u with
 | nil=>exact absurd hd hne
 | cons c r =>
   rw[hd] at hp hb;have hc:=hb c List.mem_cons_self;simp only[Lib.atoiAll];rw[if_neg (by omega),Lib.parseMag,if_neg (by simp),hp];simp only[Lib.parseUint10];rw[if_neg (by omega),if_neg (by omega),if_neg (by omega)]
end
end Go.Proofs.YtkkkgfmjjkpjdaaGreatDoorLg
