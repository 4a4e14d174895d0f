/-
  Pairs and puts within bounds, plainly. No program.
-/
import Derived.Test.YtblniomnhpedjaaGreatDoorF25TTake
import Derived.Test.YtblniomnhpedjaaGreatDoorF28TKeys
namespace Go.Proofs.YtblniomnhpedjaaGreatDoor
def okP (p : Af) : Prop:=p.1.length≤2048∧p.2.length≤4096
theorem Jg {p : Al} (h : Ce p=true) : p.1.length≤2048∧p.2.1.length≤4096:=by
 unfold Ce at h
 simp only [Bool.and_eq_true,Bool.not_eq_true',decide_eq_false_iff_not] at h
 omega
theorem done_each {l : List Af} (h : ∀ x∈l,okP x) {p : Al} (hp : Ce p=true) : ∀ x∈B9 l p,okP x:=by
 intro x hx
 unfold B9 at hx
 rcases List.mem_append.1 hx with hx | hx
 ·rcases List.mem_append.1 hx with hx | hx
  ·exact h x (List.mem_of_mem_take hx)
  ·by_cases hg : p.2.2=true
   ·rw [if_pos hg] at hx; cases hx
   ·rw [if_neg hg] at hx
    simp at hx
    subst hx
    exact Jg hp
 ·exact h x (List.mem_of_mem_drop hx)
theorem Gb : ∀ (ps : List Al) {l : List Af},(∀ x∈l,okP x)→ps.all Ce=true→∀ x∈Ak l ps,okP x
 | [],_,h,_=>h
 | p :: r,l,h,hp=>by
  rw [List.all_cons,Bool.and_eq_true] at hp
  exact Gb r (done_each h hp.1) hp.2
theorem Er {ps : List Al} (h : Ba ps=true) : ps.length≤2000∧ps.all Ce=true∧Br ps≤1048576:=by
 unfold Ba at h
 simp only [Bool.and_eq_true,decide_eq_true_eq] at h
 exact ⟨h.1.1,h.1.2,h.2⟩
theorem Hq (p : Al) : (As p).length≤p.1.length+p.2.1.length+20:=by
 unfold As
 have h1:=txt_le p.1
 have h2:=txt_le p.2.1
 split
 ·rw [List.append_nil]; omega
 ·rw [List.length_append]; omega
theorem most_le (ps : List Al) : Bt (ps.map As)≤30+30 * ps.length+Br ps:=by
 unfold Bt Br
 induction ps with
 | nil=>simp
 | cons p r ih=>
  have:=Hq p
  simp only [List.map_cons,List.sum_cons,List.length_cons] at ih ⊢
  omega
end Go.Proofs.YtblniomnhpedjaaGreatDoor
