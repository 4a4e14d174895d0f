/-
  Pairs and puts within bounds, plainly. No program.
-/
import Derived.Test.YtblniomnhpedjaaGreatDoorP22TRight
import Derived.Test.YtblniomnhpedjaaGreatDoorP25TKeys
namespace Go.Proofs.YtblniomnhpedjaaGreatDoor
def okP (p : Af) : Prop:=p.1.length≤2048∧p.2.length≤4096
theorem L6 {p : An} (h : Cp p=true) : p.1.length≤2048∧p.2.1.length≤4096:=by
 unfold Cp at h
 simp only [Bool.and_eq_true,Bool.not_eq_true',decide_eq_false_iff_not] at h
 omega
theorem done_each {l : List Af} (h : ∀ x∈l,okP x) {p : An} (hp : Cp p=true) : ∀ x∈Bu l p,okP x:=by
 intro x hx
 unfold Bu at hx
 rcases List.mem_append.1 hx with hx | hx
 ·rcases List.mem_append.1 hx with hx | hx
  ·exact h x (List.mem_of_mem_take hx)
  ·by_cases hg : p.2.2=true
   ·rw [if_pos hg] at hx; cases hx
   ·rw [if_neg hg] at hx
    simp at hx
    subst hx
    exact L6 hp
 ·exact h x (List.mem_of_mem_drop hx)
theorem Gi : ∀ (ps : List An) {l : List Af},(∀ x∈l,okP x)→ps.all Cp=true→∀ x∈Ai l ps,okP x
 | [],_,h,_=>h
 | p :: r,l,h,hp=>by
  rw [List.all_cons,Bool.and_eq_true] at hp
  exact Gi r (done_each h hp.1) hp.2
theorem Er {ps : List An} (h : Bc ps=true) : ps.length≤2000∧ps.all Cp=true∧Bk ps≤1048576:=by
 unfold Bc at h
 simp only [Bool.and_eq_true,decide_eq_true_eq] at h
 exact ⟨h.1.1,h.1.2,h.2⟩
theorem Jc (p : An) : (Aw p).length≤p.1.length+p.2.1.length+20:=by
 unfold Aw
 have h1:=txt_le p.1
 have h2:=txt_le p.2.1
 split
 ·rw [List.append_nil]; omega
 ·rw [List.length_append]; omega
theorem most_le (ps : List An) : By (ps.map Aw)≤30+30 * ps.length+Bk ps:=by
 unfold By Bk
 induction ps with
 | nil=>simp
 | cons p r ih=>
  have:=Jc p
  simp only [List.map_cons,List.sum_cons,List.length_cons] at ih ⊢
  omega
end Go.Proofs.YtblniomnhpedjaaGreatDoor
