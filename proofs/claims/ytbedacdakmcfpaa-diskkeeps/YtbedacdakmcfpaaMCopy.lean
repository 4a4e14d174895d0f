/-
  maps.Copy of a directory into an empty one. Conditions: what lies there is told by hypotheses.
-/
import Derived.Test.YtbedacdakmcfpaaSyncDir
namespace Go.Proofs.Ytbedacdakmcfpaa
open Go.RowKit

set_option maxRecDepth 20000 in
theorem mcopy_nil (w : World) (c : Nat) : Calls Try.prog 55 #[.map (some c), .map none] w fun e w' => e = .returned (.tuple #[]) ∧ Chg (fun _ => False) w w' := by
  have hrg := run_range_nilMap (P := Try.prog) w 62 _ _ Try.underlying62
  have hnx : ∀ ty, (Instr.next (.pointer (some ⟨w.heap.size, 0, none⟩)) false ty).run Try.prog (w.alloc (.mapIter none 0 #[] 0)) = _ := fun ty => run_next_nilMap w ty 0 0 #[]
  go_enter Try.func55, Try.ntmps55
  go_wp2_with fail
  go_loopw [8] (fun _ wr => wr = w.alloc (.mapIter none 0 #[] 0)) (fun _ _ => 0)
  case atStart => rfl
  case round =>
    subst hrel
    go_wp2
    go_end0
    exact ⟨rfl, (Chg.refl _ w).alloc _⟩

set_option maxRecDepth 20000 in
set_option maxHeartbeats 400000 in
theorem mcopy_some (w : World) (b c : Nat) (fb : Nat → Nat) (l : Dir) (hs : Sorted l) (h : MapW w b (dv fb l)) (hc : MapW w c []) (hbc : b ≠ c) :
    Calls Try.prog 55 #[.map (some c), .map (some b)] w fun e w' => e = .returned (.tuple #[]) ∧ MapW w' c (dv fb l) ∧ Chg (· = c) w w' := by
  obtain ⟨w1, hrun1, hgo1, hch1, hsz1⟩ := Goes.start h Try.underlying62
  have hcl := hc.lt
  have hc1 := hc.keep hch1 (fun h => h)
  have HGO1 := hide hgo1
  have HC1 := hide hc1
  have HCH1 := hide hch1
  clear hgo1 hc1 hch1 h hc
  go_enter Try.func55, Try.ntmps55
  go_wp2_with fail
  go_loopw [8] (fun _ wr => ∃ rl dl : Dir, (dl ++ rl).Perm l ∧ Goes wr b w.heap.size (dv fb rl) ∧ MapW wr c (dv fb dl) ∧ Chg (· = c) w wr) (fun _ wr => leftLen wr b w.heap.size)
  case atStart => exact ⟨l, [], List.Perm.refl _, HGO1.out, HC1.out, HCH1.out.mono fun _ _ h => h.elim⟩
  case round =>
    obtain ⟨rl, dl, hpl, hgo, hmw, hcg⟩ := hrel
    rcases hgo.step (P := Try.prog) 0 with ⟨hr0, hnext⟩ | ⟨k, v, rest, w2, hperm, hnext, hentry, hgo2, hc2, hs2⟩
    · have hrl0 : rl = [] := List.map_eq_nil_iff.1 hr0
      subst hrl0
      rw [List.append_nil] at hpl
      have HM := hide (hmw.perm (hpl.map fun p : Nm × Nat => (Value.string (strB p.1), Value.pointer (some ⟨fb p.2, 0, none⟩))))
      have HC := hide hcg
      clear hgo hmw hcg hr0 hpl
      go_wp2
      go_end0
      exact ⟨rfl, HM.out, HC.out⟩
    · obtain ⟨n, f, rl', hp1, rfl, rfl, hp2⟩ := dv_pick hperm
      have hne : look dl n = none := look_none_of fun p hp e => by
        have h1 : (dl ++ rl).Perm (dl ++ ((n, f) :: rl')) := hp1.append_left dl
        have h2 := ((hpl.symm.trans h1).map fun p : Nm × Nat => p.1).nodup_iff.1 (sorted_keys hs)
        rw [List.map_append, List.nodup_append] at h2
        exact h2.2.2 p.1 (List.mem_map.2 ⟨p, hp, rfl⟩) n (by simp) e
      have hm2 := hmw.keep hc2 (fun e => by omega)
      obtain ⟨w3, hput, hm3, hc3, _⟩ := hm2.put_new (kstr w2) (dv_keys fb dl) Try.underlying62 ⟨_, rfl⟩ (dv_ne hne) (.pointer (some ⟨fb f, 0, none⟩))
      have hlen := hgo.len
      have hgo3 := (hgo2.perm hp2).keep hc3 hbc (fun e => by omega)
      have hm3' := hm3.perm (show ((Value.string (strB n), Value.pointer (some ⟨fb f, 0, none⟩)) :: dv fb dl).Perm (dv fb ((n, f) :: dl)) from List.Perm.refl _)
      have HM := hide hm3'
      have HG := hide hgo3
      have HC := hide ((hcg.trans hc2 (fun i hi e => absurd hi (by omega))).then hc3)
      have HL := hide hlen
      have HPL : Hid (((n, f) :: dl ++ rl').Perm l) := hide ((List.perm_middle.symm.trans (hp1.symm.append_left dl)).trans hpl)
      have HP := hide hp1.length_eq
      clear hm3' hm3 hgo3 hcg hc2 hc3 hlen hpl hp1 hgo hgo2 hmw hm2 hperm hp2
      go_wp2_with fail
      go_roundw
      case rel => exact ⟨rl', (n, f) :: dl, HPL.out, HG.out, HM.out, HC.out⟩
      case measure =>
        rw [HG.out.len, HL.out]
        have := HP.out
        simp [dv, this]
end Go.Proofs.Ytbedacdakmcfpaa
