/-
  Pairs and puts within bounds, plainly. No program.
-/
import Derived.Test.YtblniomnhpedjaaGreatDoorG25TTake
import Derived.Test.YtblniomnhpedjaaGreatDoorG28TKeys
namespace Go.Proofs.YtblniomnhpedjaaGreatDoor
def okP (p : Af) : Prop:=p.1.length≤2048∧p.2.length≤4096
theorem Jq {p : Al} (h : Ce p=true) : p.1.length≤2048∧p.2.1.length≤4096:=by
 unfold Ce at h
 simp only [Bool.and_eq_true,Bool.not_eq_true',decide_eq_false_iff_not] at h
 omega
theorem done_each {l : List Af} (h : ∀ x∈l,okP x) {p : Al} (hp : Ce p=true) : ∀ x∈Bu l p,okP x:=by
 intro x hx
 unfold Bu at hx
 rcases List.mem_append.1 hx with hx | hx
 ·rcases List.mem_append.1 hx with hx | hx
  ·exact h x (List.mem_of_mem_take hx)
  ·by_cases hg : p.2.2=true
   ·rw [if_pos hg] at hx; cases hx
   ·rw [if_neg hg] at hx
    simp at hx
    subst hx
    exact Jq hp
 ·exact h x (List.mem_of_mem_drop hx)
theorem Gq : ∀ (ps : List Al) {l : List Af},(∀ x∈l,okP x)→ps.all Ce=true→∀ x∈Ak l ps,okP x
 | [],_,h,_=>h
 | p :: r,l,h,hp=>by
  rw [List.all_cons,Bool.and_eq_true] at hp
  exact Gq r (done_each h hp.1) hp.2
theorem Eg {ps : List Al} (h : A8 ps=true) : ps.length≤2000∧ps.all Ce=true∧Be ps≤1048576:=by
 unfold A8 at h
 simp only [Bool.and_eq_true,decide_eq_true_eq] at h
 exact ⟨h.1.1,h.1.2,h.2⟩
theorem H9 (p : Al) : (As p).length≤p.1.length+p.2.1.length+20:=by
 unfold As
 have h1:=txt_le p.1
 have h2:=txt_le p.2.1
 split
 ·rw [List.append_nil]; omega
 ·rw [List.length_append]; omega
theorem most_le (ps : List Al) : By (ps.map As)≤30+30 * ps.length+Be ps:=by
 unfold By Be
 induction ps with
 | nil=>simp
 | cons p r ih=>
  have:=H9 p
  simp only [List.map_cons,List.sum_cons,List.length_cons] at ih ⊢
  omega
end Go.Proofs.YtblniomnhpedjaaGreatDoor
