/-
  Texts joined: PSame, PAsked, PFinds, PLists, PEdits.
-/
import Derived.Test.YtimbleaafoiidaaGreatDoorE19PRow
import Derived.Test.YtimbleaafoiidaaGreatDoorE25PLay0
import Derived.Test.YtimbleaafoiidaaGreatDoorE17PPlain
import Derived.Test.YtimbleaafoiidaaGreatDoorE44PRFind
import Derived.Test.YtimbleaafoiidaaGreatDoorE41PShown
import Derived.Test.YtimbleaafoiidaaGreatDoorE43PSort
/-
  Are two lists of texts the same? Conditions: they lie there.
-/
namespace Go.Proofs.YtimbleaafoiidaaGreatDoor
open Go.RowKit

end Go.Proofs.YtimbleaafoiidaaGreatDoor

/-
  The get that notes what is asked, and what of records stays. Conditions: what it holds lies there; not too much was asked.
-/
namespace Go.Proofs.YtimbleaafoiidaaGreatDoor
open Go.RowKit

end Go.Proofs.YtimbleaafoiidaaGreatDoor

/-
  ProllyFinds, walked. Conditions: the objects lie there; texts within reach; the table holds its numbers.
-/
namespace Go.Proofs.YtimbleaafoiidaaGreatDoor
open Go.RowKit

end Go.Proofs.YtimbleaafoiidaaGreatDoor

/-
  ProllyLists, walked. Conditions: the objects lie there; texts within reach; the table holds its numbers.
-/
namespace Go.Proofs.YtimbleaafoiidaaGreatDoor
open Go.RowKit

end Go.Proofs.YtimbleaafoiidaaGreatDoor

/-
  ProllyEdits, walked. Conditions: the objects and puts lie there; the table holds its numbers.
-/
namespace Go.Proofs.YtimbleaafoiidaaGreatDoor
open Go.RowKit

set_option maxRecDepth 40000 in
set_option maxHeartbeats 1600000 in
theorem edits_any (w : World) (vo : Value) (objs : List Pair) (hv : Ls w.heap.size w 2 pairC vo objs) (hob : ∀ o ∈ objs, o.2.length ≤ 140737488351232) (root : Bs) (vq : Value) (puts : List PutM) (hq : Ls w.heap.size w 3 putC vq puts) (hT : TabW w) :
    Calls Tryz.prog 6 #[vo, .string (strB root), vq] w fun e w' => e = .returned (.bool true) ∧ Below w.heap.size w w' := by
  have hsh := shown_any w hT
  have HV := hide (And.intro hv (And.intro hob hT))
  obtain ⟨ao, cap, rfl, -⟩ := hv
  obtain ⟨om, hom⟩ : ∃ om, om = objs.length := ⟨_, rfl⟩
  rw [← hom] at HV ⊢
  clear hom
  obtain ⟨aq, cq, rfl, hcq, hcq2, -⟩ := id hq
  have hlq := hq.takeL (Nat.min_le_left puts.length 200)
  have hln : (puts.take (min puts.length 200)).length ≤ 200 := by rw [List.length_take]; omega
  have hmin : min (puts.length : Int) 200 = ((min puts.length 200 : Nat) : Int) := by omega
  have hmc : min puts.length 200 ≤ cq := by omega
  have hml : min puts.length 200 ≤ puts.length := by omega
  obtain ⟨pm, hpm⟩ : ∃ pm, pm = puts.length := ⟨_, rfl⟩
  obtain ⟨m, hm⟩ : ∃ m, m = min puts.length 200 := ⟨_, rfl⟩
  rw [← hm] at hlq hln hmin hmc hml
  rw [← hpm] at hmin hml ⊢
  generalize puts.take m = l at *
  have HL := hide (And.intro hlq hln)
  unfold maxLen at hcq2
  clear hob hT hq hlq hln hpm hm hcq
  go_enter Tryz.func6, Tryz.ntmps6
  go_wp2_with fail
  refine hsh.mono ?_
  rintro e w1 ⟨rfl, hb1⟩
  have hfr := from_any w1 ao om cap
  have hb2 : Below w1.heap.size w1 (w1.alloc (.cells #[.slice ao om cap] 25)) := (Below.refl _ _).alloc (Nat.le_refl _) _
  have hc2 := heap_last w1 (.cells #[.slice ao om cap] 25) _ rfl
  have hB2 := hb1.trans (hb2.mono hb1.size)
  have hG := get_from kts1 (by decide) hc2 ((HV.out.1.keep hB2).up hB2.size) HV.out.2.1
  have hed := edit_prog _ _ _ _ _ _ hG root (Below.refl _ _) l _ ((HL.out.1.keep hB2).up hB2.size) (by have := HL.out.2; omega) (fun W hW => HV.out.2.2.keep (hB2.trans (hW.mono hB2.size)) HV.out.2.2.1)
  obtain ⟨R, hR⟩ : ∃ R, editM (listM (findO objs) root [] []) l = R := ⟨_, rfl⟩
  rw [hR] at hed
  have HR := hide (And.intro hR hG.short)
  have H2 := hide hB2
  clear hsh hb1 hb2 hc2 hB2 hG hR
  go_wp2_with fail
  refine hfr.mono ?_
  rintro e w2 ⟨rfl, rfl⟩
  clear hfr
  go_wp2_with fail
  refine hed.mono ?_
  rintro e w3 ⟨u, rfl, hrow, hb3⟩
  have hB3 := H2.out.trans (hb3.mono H2.out.size)
  have hre := edit12_any w3 _ objs ((HV.out.1.keep hB3).up hB3.size) HV.out.2.1 root l _ ((HL.out.1.keep hB3).up hB3.size) (by have := HL.out.2; omega) HR.out.2
  rw [HR.out.1] at hre
  have H3 := hide (And.intro hrow hB3)
  obtain ⟨va, vm, vc, rfl⟩ := row_form hrow
  clear hed hrow hb3 hB3
  go_wp2_with fail
  refine hre.mono ?_
  rintro e w4 ⟨ur, rfl, hrow4, hb4⟩
  have hl4 := ls_of_own pairC_length (own_below H3.out.1 hb4)
  have hm4 := ls_of_own pairC_length hrow4
  obtain ⟨ra, rm, rc, rfl⟩ := row_form hrow4
  have hsm := same_objs w4 R.2.1 R.2.1 _ _ hl4 hm4
  rw [decide_eq_true (rfl : R.2.1 = R.2.1)] at hsm
  have hbq : (R.1 == R.1) = true := by simp
  have htl := toL R.1
  have hiq : (R.2.2 == R.2.2) = true := by simp
  have H4 := hide (H3.out.2.trans (hb4.mono H3.out.2.size))
  clear hre hrow4 hb4 hl4 hm4
  go_wp2_with fail
  refine hsm.mono ?_
  rintro e w5 ⟨rfl, hb5⟩
  have H5 := hide (H4.out.trans (hb5.mono H4.out.size))
  clear hsm hb5
  go_wp2
  go_ret
  exact ⟨rfl, H5.out⟩
theorem edits_bytes (w : World) (vo : Value) (objs : List Pair) (hv : Ls w.heap.size w 2 pairC vo objs) (hob : ∀ o ∈ objs, o.2.length ≤ 140737488351232) (r : ByteArray) (vq : Value) (puts : List PutM) (hq : Ls w.heap.size w 3 putC vq puts) (hT : TabW w) :
    Calls Tryz.prog 6 #[vo, .string r, vq] w fun e w' => e = .returned (.bool true) ∧ Below w.heap.size w w' := by
  have := edits_any w vo objs hv hob r.data.toList vq puts hq hT
  rw [strB_of] at this
  exact this
end Go.Proofs.YtimbleaafoiidaaGreatDoor
