/-
  What the sum of texts answers. Conditions: the table holds its numbers; all texts together within the reach.
-/
import Derived.Test.YtdbmngbinhemeabDoorCHAdd
namespace Go.Proofs.YtdbmngbinhemeabDoor
open Go.RowKit

/-- The slice v has these texts. -/
def Ps (w : World) (v : Value) (ls : List (List UInt8)) : Prop :=
  ∃ ao cap, v = .slice ao ls.length cap ∧ ls.length ≤ cap ∧ cap ≤ maxLen ∧
    (ls ≠ [] → ∃ b off, ao = some ⟨b, off, none⟩ ∧ b < w.heap.size ∧ ∀ j (h : j < ls.length), w.cell? ⟨b, off + j, none⟩ = some (.string (strB (ls[j]'h))))
theorem Ps.keep {w w' : World} {v : Value} {ls : List (List UInt8)} (h : Ps w v ls) (hb : Below w.heap.size w w') : Ps w' v ls := by
  obtain ⟨ao, cap, hv, h1, h2, h4⟩ := h
  refine ⟨ao, cap, hv, h1, h2, fun hl => ?_⟩
  obtain ⟨b, off, ha, hlt, hc⟩ := h4 hl
  exact ⟨b, off, ha, Nat.lt_of_lt_of_le hlt hb.size, fun j hj => (hb.cell (p := ⟨b, off + j, none⟩) hlt).trans (hc j hj)⟩

def z38 : Array Value := (mcL ⟨0, 0, 0, 0, 0, 0, 0, 0⟩ (List.replicate 64 0) 0).toArray
def m38 : Array Value := (mcL st0 (List.replicate 64 0) 0).toArray
theorem Tryd.zeroMixer : (Tryd.prog.info? 162).map (fun i => (i.zero, i.size)) = some (some (.agg z38), 73) := by kernel_rfl
theorem chain38 : ((((((((z38.setIfInBounds 0 (.int .u32 1779033703)).setIfInBounds 1 (.int .u32 3144134277)).setIfInBounds 2 (.int .u32 1013904242)).setIfInBounds 3 (.int .u32 2773480762)).setIfInBounds 4 (.int .u32 1359893119)).setIfInBounds 5 (.int .u32 2600822924)).setIfInBounds 6 (.int .u32 528734635)).setIfInBounds 7 (.int .u32 1541459225)) = m38 := by kernel_rfl
theorem z38_size : z38.size = 73 := by kernel_rfl
theorem m38_size : m38.size = 73 := by kernel_rfl
theorem m38_one : m38.all (·.oneCell') = true := by kernel_rfl
theorem fed_start (w : World) (g : Nat) (h : w.heap[g]? = some (.cells m38 162)) : Fed w g [] := ⟨List.replicate 64 0, h, by simp, rfl⟩

theorem sha_out (l : List UInt8) : sha l = out (mix st0 (l ++ tail l.length) ((l ++ tail l.length).length / 64)) := rfl

set_option maxRecDepth 20000 in
set_option maxHeartbeats 800000 in
theorem sum_any (w : World) (v : Value) (ls : List (List UInt8)) (h : Ps w v ls) (hT : TabW w) (hsz : ls.flatten.length ≤ 140737488355328) :
    Calls Tryd.prog 94 #[v] w fun e w' => e = .returned (.string (strB (sha ls.flatten))) ∧ Below w.heap.size w w' := by
  obtain ⟨ao, cap, rfl, h1, h2, h4⟩ := h
  unfold maxLen at h2
  obtain ⟨hz, hi38⟩ := zero_of_info Tryd.zeroMixer
  have hch := chain38
  have hzs := z38_size
  have hms : z38.size = m38.size := by rw [z38_size, m38_size]
  have hone := m38_one
  have hfs := fed_start
  have hmi : (Tryd.prog.info? 162).map (·.size) = some m38.size := by rw [m38_size]; exact hi38
  have HFS := hide hfs
  have HONE := hide hone
  have HMI := hide hmi
  have HMS := hide hms
  clear hfs hone hmi hi38 hms
  generalize z38 = Z at *
  generalize m38 = M at *
  go_enter Tryd.func94, Tryd.ntmps94
  go_wp2_with (refine wpList_store_arr _ rfl 162 (.tmp 3) (.tmp 8) rfl _ M rfl rfl 162 Z (heap_last _ _ _ rfl) HMI.out HMS.out HONE.out ?_; intro w1 hrow1 hg1)
  have hb1 : Below w.heap.size w w1 := ((Below.refl _ _).alloc (Nat.le_refl _) _).grown hg1 (by simp) (by intro k hk; injection hk with hk; omega)
  have hF1 := HFS.out w1 w.heap.size hrow1
  have h0 := hT.1
  clear hrow1 hg1 hz hzs HFS HONE HMI HMS
  go_loopw [4, 11] (fun x t wr => ∃ k : Nat, k ≤ ls.length ∧ t = .int .i64 k ∧ x = .int .u64 (((ls.take k).flatten.length : Nat) : Int) ∧ Fed wr w.heap.size (ls.take k).flatten ∧ Below w.heap.size w wr)
    (fun _ t _ => ls.length - (intOf t).toNat)
  case atStart => exact ⟨0, by omega, rfl, rfl, hF1, hb1⟩
  case round =>
    clear hF1 hb1
    obtain ⟨k, hk, rfl, rfl, hF, hb⟩ := hrel
    have hTr := hide (hT.keep hb h0)
    by_cases hlt : k < ls.length
    · obtain ⟨b, off, rfl, hbl, hc⟩ := h4 (by rintro rfl; simp at hlt)
      have hcell := (hb.cell (p := ⟨b, off + k, none⟩) hbl).trans (hc k hlt)
      have hn : (ls.take (k + 1)).flatten = (ls.take k).flatten ++ ls[k] := by
        rw [List.take_succ_eq_append_getElem hlt, List.flatten_append]; simp
      have hle : (ls.take (k + 1)).flatten.length ≤ ls.flatten.length := by
        have : ls.flatten = (ls.take (k + 1)).flatten ++ (ls.drop (k + 1)).flatten := by rw [← List.flatten_append, List.take_append_drop]
        rw [this, List.length_append]; omega
      have hsum : (ls.take k).flatten.length + (ls[k]).length ≤ 140737488355328 := by
        rw [hn, List.length_append] at hle; omega
      have HN := hide hn
      have HF := hide hF
      have HB := hide hb
      clear hn hF hb hle hsz hc h4
      generalize (ls.take k).flatten = A at *
      generalize ls[k] = p at *
      have hps := strB_size p
      generalize hAl : A.length = al at *
      generalize hpl : p.length = pl at *
      have HAL := hide hAl
      have HPL := hide hpl
      clear hAl hpl
      go_wp2_with fail
      refine (add_any _ w.heap.size A p HF.out hTr.out h0).mono ?_
      rintro e1 w2 ⟨rfl, hF2, hb2⟩
      have HF2 := hide hF2
      have HB2 := hide (HB.out.trans hb2)
      clear hF2 hb2
      go_wp2
      go_roundw
      case rel => exact ⟨k + 1, by omega, by go_num, by rw [HN.out, List.length_append, HAL.out, HPL.out]; go_num, by rw [HN.out]; exact HF2.out, HB2.out⟩
      case measure => simp [intOf]; omega
    · have e : ls.take k = ls := List.take_of_length_le (by omega)
      rw [e] at hF ⊢
      have hSH := hide (sha_out ls.flatten)
      clear h4 e
      generalize hA : ls.flatten = A at *
      have HA := hide hA
      clear hA
      have HF := hide hF
      have HB := hide hb
      clear hF hb
      generalize hAl : A.length = al at *
      have HAL := hide hAl
      clear hAl
      go_wp2_with fail
      refine (ending_any _ al (by omega)).mono ?_
      rintro e1 w2 ⟨rfl, hb2⟩
      have hg2 : w.heap.size < wr.heap.size := by
        obtain ⟨B, hrow, _⟩ := HF.out
        exact lt_of_heap hrow
      have hF2 : Fed w2 w.heap.size A := by
        obtain ⟨B, hrow, hx⟩ := HF.out
        exact ⟨B, (hb2.block _ hg2).trans hrow, hx⟩
      have hB2 := HB.out.trans (hb2.mono (Nat.le_of_lt hg2))
      have HF2 := hide hF2
      have HB2 := hide hB2
      clear hF2 hB2 hb2
      go_wp2_with fail
      refine (add_any _ w.heap.size A (tail al) HF2.out (hT.keep HB2.out h0) h0).mono ?_
      rintro e1 w3 ⟨rfl, hF3, hb3⟩
      obtain ⟨B, hrow, _, _⟩ := hF3
      have HB3 := hide (HB2.out.trans hb3)
      generalize mix st0 (A ++ tail al) ((A ++ tail al).length / 64) = S at *
      generalize (A ++ tail al).length % 64 = hh at *
      have hin : (Tryd.prog.info? 159).map (·.size) = some (uc S.list).toList.length := Tryd.infoEight
      have hnb := mcL_numbers S B hh
      clear hb3
      go_wp2_with (refine wpList_load_part _ rfl 159 (.tmp 26) rfl w.heap.size 0 rfl 162 (mcL S B hh) (uc S.list).toList 8 (0, 0) _ hrow (by rw [List.drop_zero]; exact hnb) Tryd.underlying159 rfl hin ?_; rw [Array.toArray_toList])
      refine (bytesOf_any _ S).mono ?_
      rintro e1 w4 ⟨rfl, hb4⟩
      have hb := HB3.out.trans (hb4.mono HB3.out.size)
      clear hb4
      go_wp2
      go_ret
      exact ⟨ret_str (by rw [HA.out, hSH.out]), hb⟩
end Go.Proofs.YtdbmngbinhemeabDoor
