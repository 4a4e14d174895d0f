/-
  Pairs and puts within bounds, plainly. No program.
-/
import Derived.Test.YtblniomnhpedjaaGreatDoorL25TTake
import Derived.Test.YtblniomnhpedjaaGreatDoorL28TKeys
namespace Go.Proofs.YtblniomnhpedjaaGreatDoor
def okP (p : Af) : Prop:=p.1.length≤2048∧p.2.length≤4096
theorem Kc {p : Al} (h : Ci p=true) : p.1.length≤2048∧p.2.1.length≤4096:=by
 unfold Ci at h
 simp only [Bool.and_eq_true,Bool.not_eq_true',decide_eq_false_iff_not] at h
 omega
theorem done_each {l : List Af} (h : ∀ x∈l,okP x) {p : Al} (hp : Ci p=true) : ∀ x∈Bv l p,okP x:=by
 intro x hx
 unfold Bv at hx
 rcases List.mem_append.1 hx with hx | hx
 ·rcases List.mem_append.1 hx with hx | hx
  ·exact h x (List.mem_of_mem_take hx)
  ·by_cases hg : p.2.2=true
   ·rw [if_pos hg] at hx; cases hx
   ·rw [if_neg hg] at hx
    simp at hx
    subst hx
    exact Kc hp
 ·exact h x (List.mem_of_mem_drop hx)
theorem Ge : ∀ (ps : List Al) {l : List Af},(∀ x∈l,okP x)→ps.all Ci=true→∀ x∈Ai l ps,okP x
 | [],_,h,_=>h
 | p :: r,l,h,hp=>by
  rw [List.all_cons,Bool.and_eq_true] at hp
  exact Ge r (done_each h hp.1) hp.2
theorem Ep {ps : List Al} (h : A6 ps=true) : ps.length≤2000∧ps.all Ci=true∧Bh ps≤1048576:=by
 unfold A6 at h
 simp only [Bool.and_eq_true,decide_eq_true_eq] at h
 exact ⟨h.1.1,h.1.2,h.2⟩
theorem Iv (p : Al) : (Ar p).length≤p.1.length+p.2.1.length+20:=by
 unfold Ar
 have h1:=txt_le p.1
 have h2:=txt_le p.2.1
 split
 ·rw [List.append_nil]; omega
 ·rw [List.length_append]; omega
theorem most_le (ps : List Al) : Bx (ps.map Ar)≤30+30 * ps.length+Bh ps:=by
 unfold Bx Bh
 induction ps with
 | nil=>simp
 | cons p r ih=>
  have:=Iv p
  simp only [List.map_cons,List.sum_cons,List.length_cons] at ih ⊢
  omega
end Go.Proofs.YtblniomnhpedjaaGreatDoor
