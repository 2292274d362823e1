import Derived.Test.YtkkkgfmjjkpjdaaGreatDoorLgPrOs8
import Derived.Lib.MapLaws
set_option linter.all false
namespace Go.Proofs.YtkkkgfmjjkpjdaaGreatDoorPx
noncomputable section
open Go Go.Lift
theorem z122 (s:List UInt8)(i:Nat):runeAt s i=Go.Lib.decodeN (s.length - i) (s.getD i 0).toNat (s.getD (i+1) 0).toNat (s.getD (i+2) 0).toNat (s.getD (i+3) 0).toNat :=
 Go.Lib.decode_N ⟨⟨s⟩⟩ i
theorem z4o {s:List UInt8}{i:Nat}(h:(s.getD i 0).toNat<128):runeAt s i=((s.getD i 0).toNat,1):=by
 rw[z122];exact Go.Lib.decodeN_ascii _ _ _ _ _ h
theorem zco {s:List UInt8}{i:Nat}(hi:i<s.length)(h:128<=(s.getD i 0).toNat) :
 128<=(runeAt s i).1/\1<=(runeAt s i).2/\i+(runeAt s i).2<=s.length/\∀ j,i<=j->j<i+(runeAt s i).2->128<=(s.getD j 0).toNat:=by
 rw[z122];rcases Go.Lib.decodeN_shape (s.length - i) (s.getD i 0).toNat (s.getD (i+1) 0).toNat (s.getD (i+2) 0).toNat (s.getD (i+3) 0).toNat with⟨h1,e⟩|⟨h1,h2,h3,h4,e⟩|⟨h1,h2,h3,h4,h5,h6,e⟩|⟨h1,h2,h3,h4,h5,h6,h7,e⟩|e
 . omega
 . rw[e];refine⟨h4,by omega,by dsimp only;omega,fun j hj hj2=>?_⟩;dsimp only at hj2;obtain rfl|rfl:j=i\/j=i+1:=by omega
   . exact h
   . omega
 . rw[e];refine⟨by dsimp only;omega,by omega,by dsimp only;omega,fun j hj hj2=>?_⟩;dsimp only at hj2;obtain rfl|rfl|rfl:j=i\/j=i+1\/j=i+2:=by omega
   . exact h
   . omega
   . omega
 . rw[e];refine⟨by dsimp only;omega,by omega,by dsimp only;omega,fun j hj hj2=>?_⟩;dsimp only at hj2;obtain rfl|rfl|rfl|rfl:j=i\/j=i+1\/j=i+2\/j=i+3:=by omega
   . exact h
   . omega
   . omega
   . omega
 . rw[e];refine⟨by omega,by omega,by dsimp only;omega,fun j hj hj2=>?_⟩;dsimp only at hj2;obtain rfl:j=i:=by omega
   exact h
end
end Go.Proofs.YtkkkgfmjjkpjdaaGreatDoorPx
