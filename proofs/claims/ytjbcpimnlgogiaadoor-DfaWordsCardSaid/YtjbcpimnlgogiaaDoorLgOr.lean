import Derived.Test.YtjbcpimnlgogiaaDoorLgW
import Derived.Orders
set_option linter.all false
set_option maxRecDepth 100000
namespace Go.Lift
noncomputable section
def zhs (ops:Array Oper):Nat->Array Bool->List (List Nat)
 | 0,_=>[[]]
 | n+1,listed=>if (Region.ready .any ops listed).isEmpty then [[]] else (Region.ready .any ops listed).flatMap fun i=>(zhs ops n (listed.setIfInBounds i true)).map (i::·)
theorem zob (ops:Array Oper):∀ (fuel t:Nat) (listed:Array Bool),Region.linearise.go .any ops fuel t listed []∈zhs ops fuel listed
 | 0,t,listed=>by simp[Region.linearise.go,zhs]
 | fuel+1,t,listed=>by
   simp only[Region.linearise.go,zhs];change (match (Region.ready .any ops listed)[t % (Region.ready .any ops listed).length]? with
    | some i=>Region.linearise.go .any ops fuel (t / (Region.ready .any ops listed).length) (listed.setIfInBounds i true) [i]
    | none=>[].reverse)∈_
   cases hi:(Region.ready .any ops listed)[t % (Region.ready .any ops listed).length]? with
   | none =>
     have hnil:Region.ready .any ops listed=[]:=by
      cases hr:Region.ready .any ops listed with
      | nil=>rfl
      | cons x xs =>
        rw[hr] at hi;have hlt:t % (x::xs).length<(x::xs).length:=Nat.mod_lt _ (by simp);simp at hi;simp at hlt;omega
     rw[hnil];simp
   | some i =>
     have hm:=List.mem_of_getElem? hi;have hne:(Region.ready .any ops listed).isEmpty=false:=by
      cases hr:Region.ready .any ops listed with
      | nil=>rw[hr] at hm;cases hm
      | cons x xs=>rfl
     simp only[hne];rw[linearise_go_acc];simp only[List.reverse_singleton,List.singleton_append];exact List.mem_flatMap.2 ⟨i,hm,List.mem_map.2 ⟨_,zob ops fuel _ _,rfl⟩⟩
theorem zt6 (ops:Array Oper)(t:Nat):Region.schedule true ops t∈zhs ops ops.size (Array.replicate ops.size false):=by
 simp only[Region.schedule,Bool.true_or,if_true];exact zob ops ops.size t _
def regOps:Code->Array Oper
 | .region _ ops _=>ops
 | _=>#[]
def seqI {β:Type} (E:Env) (all:Array Oper):List Nat->List A->(List A->Option β)->Option β
 | [],st,K=>K st
 | i::r,st,K=>match all[i]? with
   | none=>none
   | some o=>(z35 E all o).cps E st fp0 fun _ st' _=>seqI E all r st' K
section
variable {P:Program} {E:Env} {c:Ctx}
theorem zl4 {ρ:Option Nat} {all:Array Oper} {Q:Exit->Act->World->Prop} (hb:Base P E c) {st1:List A} (hq:∀ a' w',Sim c st1 a' w'->Q .normal a' w'):∀ (l:List Nat) (st:List A) (a:Act) (w:World),seqI E all l st (fun s=>some s)=some st1->Sim c st a w →
 wpOpsIn (FR ρ) 0 P all Q l a w
 | [],st,a,w,h,hs=>by
   cases h;exact hq a w hs
 | i :: r,st,a,w,h,hs=>by
   rw[wpOpsIn_cons];unfold wpOpIn;simp only[seqI] at h;split at h
   . cases h
   . rename_i o ho;rw[ho];dsimp only;obtain⟨_,st2,fp2,h1,h2⟩:=z1f h;have hg:=zbg h1 hb hs;split
     . rename_i hw;rw[if_pos hw] at hg;exact Oper.wpIn_mono (fun a' w' hs'=>zl4 hb hq r st2 a' w' h2 hs') (hg ρ Q)
     . rename_i hw;rw[if_neg hw] at hg;exact⟨fun _ _=>trivial,zl4 hb hq r st2 _ _ h2 hg⟩
theorem z1de {id:Nat}{ops:Array Oper}{st st':List A}(hb:Base P E c)(live:List Nat)(orders:List (List Nat))(hord:zhs ops ops.size (Array.replicate ops.size false)=orders)
 (h:∀ l∈orders,∃ st1,seqI E ops l st (fun s=>some s)=some st1/\restr live 0 st1=st') (Q:Exit->Act->World->Prop) (a:Act) (w:World) (hs:Sim c st a w) (hq:∀ a' w',Sim c st' a' w'->Q .normal a' w'):(Code.region id ops true).wp P Q a w:=by
 refine (wpIn_wide (n:=0)).1 (wpIn_region_draw (F:=FR none) fun t=>?_);rw[hb.env.mixed];have hm:=zt6 ops t;rw[hord] at hm;obtain⟨st1,h1,h2⟩:=h _ hm;refine zl4 hb (st1:=st1) (fun a' w' hs'=>hq a' w' (by rw[<- h2];exact hs'.restr live)) _ st a _ h1 ?_;obtain⟨S,ob,hs⟩:=hs;exact⟨S,ob,hs.world (Sub.refl _) ⟨hs.frame.size,hs.frame.same,hs.frame.tape,hs.frame.os,hs.frame.output⟩⟩
end
end
end Go.Lift
