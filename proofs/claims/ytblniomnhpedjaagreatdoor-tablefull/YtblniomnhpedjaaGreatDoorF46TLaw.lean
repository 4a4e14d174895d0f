/-
  The law's may and lay, where no operation fails but the power may go. Conditions: the law's world lies there; lengths within reach; the table of sums holds its numbers.
-/
import Derived.Test.YtblniomnhpedjaaGreatDoorF45TParts1
import Derived.BigRegion
namespace Go.Proofs.YtblniomnhpedjaaGreatDoor
open Go.RowKit
theorem RTab.keepX {X : Nat→Prop} {w w' : World} {r : Nat} {l : List Af} (h : RTab w r l) (hc : Chg X w w') (h1 : ¬ X r) (h2 : ∀ u,w.cell? ⟨r,0,none⟩=some u→∀ q,u.ownBlock=some q→¬ X q) : RTab w' r l:=by
 obtain ⟨u,hu,ao,cap,e,g1,g2,g4⟩:=h
 refine ⟨u,hc.keep hu h1,ao,cap,e,g1,g2,fun hne=>?_⟩
 obtain ⟨c,off,ha,hlt,hcc⟩:=g4 hne
 have hnc : ¬ X c:=h2 u (by rw [Ae hu]; rfl) c (by rw [e,ha]; rfl)
 exact ⟨c,off,ha,Nat.lt_of_lt_of_le hlt hc.size,fun j hj=>⟨(World.cell?_of_block (w:=w) (hc.block c hlt hnc)).trans (hcc j hj).1,(World.cell?_of_block (w:=w) (hc.block c hlt hnc)).trans (hcc j hj).2⟩⟩
section
variable {B : Nat} {w : World} {F : Nat→Prop} {x d g t b r : Nat} {S : Dk} {L : Lw} {sure bad : Bool} {lp : List Af} {ps : List Al} {v : Value} {most last : Int}
end
end Go.Proofs.YtblniomnhpedjaaGreatDoor
