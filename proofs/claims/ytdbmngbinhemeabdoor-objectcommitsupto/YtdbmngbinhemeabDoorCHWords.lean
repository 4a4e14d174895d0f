/-
  What the reference's words of a block, and its constants, answer. Condition: a slice of sixty-four bytes.
-/
import Derived.Test.YtdbmngbinhemeabDoorCHPadded
namespace Go.Proofs.YtdbmngbinhemeabDoor
open Go.RowKit

/-- What making words finds in memory: the numbers so far, noughts behind them. -/
def SW (w : World) (L : List UInt32) (wr : World) : Prop := Below w.heap.size w wr ∧ (∃ z, wr.heap[w.heap.size]? = some (.cells z 173) ∧ z.size = 64) ∧ wr.heap[w.heap.size + 1]? = some (.cells (uc (L ++ List.replicate (64 - L.length) 0)) 173)

theorem sw_start (w : World) : SW w [] ((w.alloc (.cells (uc (List.replicate 64 0)) 173)).alloc (.cells (uc (List.replicate 64 0)) 173)) := by
  refine ⟨((Below.refl _ _).alloc (Nat.le_refl _) _).alloc (by simp) _, ⟨uc (List.replicate 64 0), ?_, by simp [uc]⟩, ?_⟩
  · rw [heap_past _ _ _ (by simp), heap_last _ _ _ rfl]
  · rw [heap_last _ _ _ (by simp)]
    rfl
theorem SW.store {w : World} {L : List UInt32} {wr : World} (h : SW w L wr) (hL : L.length < 64) (k : Nat) (hk : L.length = k) (x : UInt32) : SW w (L ++ [x]) (wr.setCell ⟨w.heap.size + 1, k, none⟩ (.int .u32 (u x))) := by
  subst hk
  obtain ⟨h1, ⟨z, h3, h3'⟩, h4⟩ := h
  have hb : Below (w.heap.size + 1) wr (wr.setCell ⟨w.heap.size + 1, L.length, none⟩ (.int .u32 (u x))) := (Below.refl _ _).setCell (p := ⟨w.heap.size + 1, L.length, none⟩) (Nat.le_refl _) _
  refine ⟨h1.setCell (p := ⟨w.heap.size + 1, L.length, none⟩) (by simp) _, ⟨z, (hb.block _ (by omega)).trans h3, h3'⟩, ?_⟩
  rw [heap_setCell _ _ _ _ _ _ _ h4, uc_set L x 64 hL]
theorem SW.drew {w : World} {L : List UInt32} {wr : World} (h : SW w L wr) : SW w L wr.drew := by
  obtain ⟨h1, h3, h4⟩ := h
  exact ⟨h1.drew, h3, h4⟩
theorem SW.get {w : World} {L : List UInt32} {wr : World} (h : SW w L wr) (k : Nat) (hk : k < L.length) : wr.cell? ⟨w.heap.size + 1, k, none⟩ = some (.int .u32 (u (L.getD k 0))) := by
  rw [cell_of_row _ _ _ _ _ _ h.2.2, uc_get _ _ (by simp; omega)]
  simp [List.getD, List.getElem?_append_left hk]
theorem SW.room {w : World} {L : List UInt32} {wr : World} (h : SW w L wr) (k : Nat) (hk : L.length = k) (hL : k < 64) : wr.cell? ⟨w.heap.size + 1, k, none⟩ = some (.int .u32 (u 0)) ∧ wr.frozen? ⟨w.heap.size + 1, k, none⟩ = false := by
  subst hk
  constructor
  · rw [cell_of_row _ _ _ _ _ _ h.2.2, uc_get _ _ (by simp; omega)]
    obtain ⟨m, hm⟩ : ∃ m, 64 - L.length = m + 1 := ⟨64 - L.length - 1, by omega⟩
    simp [List.getD, hm, List.replicate_succ]
  · simp [World.frozen?, h.2.2]

set_option maxRecDepth 20000 in
set_option maxHeartbeats 1600000 in
theorem words_any (w : World) (b off cap : Nat) (l : List UInt8) (hl : l.length = 64) (h : Sl w (.slice (some ⟨b, off, none⟩) 64 cap) l) :
    Calls Tryd.prog 140 #[.slice (some ⟨b, off, none⟩) 64 cap] w fun e w' => e = .returned (.agg (uc (ext (words l) 48))) ∧ Below w.heap.size w w' := by
  obtain ⟨hbl, hcell⟩ : b < w.heap.size ∧ ∀ j, j < 64 → w.cell? ⟨b, off + j, none⟩ = some (.int .u8 ((l.getD j 0).toNat : Int)) := by
    obtain ⟨ao, cap', hv, h1, h2, h3, h4⟩ := h
    obtain ⟨b', off', ha, hb, hc⟩ := h4 (by rintro rfl; simp at hl)
    injection hv with e1 e2 e3
    rw [← e1] at ha
    injection ha with ha
    injection ha with e4 e5
    subst e4 e5
    refine ⟨hb, fun j hj => ?_⟩
    rw [hc j (by omega), List.getD_eq_getElem?_getD, List.getElem?_eq_getElem (by omega)]
    rfl
  clear h
  go_enter Tryd.func140, Tryd.ntmps140
  go_wp2_with fail
  go_loopw [4] (fun t wr => ∃ k : Nat, k ≤ 16 ∧ t = .int .i64 k ∧ SW w ((words l).take k) wr)
    (fun t _ => 16 - (intOf t).toNat)
  case atStart =>
    refine ⟨0, by omega, rfl, ?_⟩
    exact sw_start w
  case round =>
    obtain ⟨k, hk, rfl, hR⟩ := hrel
    by_cases hlt : k < 16
    · have c0 := (hR.1.cell (p := ⟨b, off + 4 * k, none⟩) hbl).trans (hcell (4 * k) (by omega))
      have c1 := (hR.1.cell (p := ⟨b, off + (4 * k + 1), none⟩) hbl).trans (hcell (4 * k + 1) (by omega))
      have c2 := (hR.1.cell (p := ⟨b, off + (4 * k + 2), none⟩) hbl).trans (hcell (4 * k + 2) (by omega))
      have c3 := (hR.1.cell (p := ⟨b, off + (4 * k + 3), none⟩) hbl).trans (hcell (4 * k + 3) (by omega))
      have hS : (words l).take (k + 1) = (words l).take k ++ [word (l.getD (4 * k) 0) (l.getD (4 * k + 1) 0) (l.getD (4 * k + 2) 0) (l.getD (4 * k + 3) 0)] := words_take l k hlt
      have hlen : ((words l).take k).length = k := by simp [words]; omega
      obtain ⟨hroom, hfr⟩ := hR.room k hlen (by omega)
      generalize l.getD (4 * k) 0 = b0 at *
      generalize l.getD (4 * k + 1) 0 = b1 at *
      generalize l.getD (4 * k + 2) 0 = b2 at *
      generalize l.getD (4 * k + 3) 0 = b3 at *
      rw [u_of8] at c0 c1 c2 c3
      have HS := hide hS
      have HR := hide hR
      have HL := hide hlen
      clear hS hR hlen hcell
      go_wp2_with fail
      go_region
      go_wp2_with fail
      refine ⟨⟨k + 1, by omega, by go_num, ?_⟩, by simp [intOf]; omega⟩
      rw [word_u, HS.out]
      exact (HR.out.store (by rw [HL.out]; omega) k HL.out _).drew
    · obtain rfl : k = 16 := by omega
      rw [List.take_of_length_le (by rw [words_length]; omega)] at hR
      rw [show ((16 : Nat) : Int) = 16 from rfl]
      clear hcell
      go_wp2_with fail
      go_loopw [5] (fun t wr => ∃ k : Nat, 16 ≤ k ∧ k ≤ 64 ∧ t = .int .i64 (k : Int) ∧ SW w (ext (words l) (k - 16)) wr)
        (fun t _ => 64 - (intOf t).toNat)
      case atStart => exact ⟨16, by omega, by omega, rfl, hR⟩
      case round =>
        clear hR
        obtain ⟨k, hk0, hk, rfl, hR⟩ := hrel
        have hlen : (ext (words l) (k - 16)).length = k := by rw [ext_length, words_length]; omega
        by_cases hlt : k < 64
        · have hS : ext (words l) (k + 1 - 16) = ext (words l) (k - 16) ++ [s1 ((ext (words l) (k - 16)).getD (k - 2) 0) + (ext (words l) (k - 16)).getD (k - 7) 0 + s0 ((ext (words l) (k - 16)).getD (k - 15) 0) + (ext (words l) (k - 16)).getD (k - 16) 0] := by
            rw [show k + 1 - 16 = (k - 16) + 1 from by omega]
            show _ ++ [next _] = _
            unfold next
            rw [hlen]
          have c0 := hR.get (k - 2) (by omega)
          have c1 := hR.get (k - 7) (by omega)
          have c2 := hR.get (k - 15) (by omega)
          have c3 := hR.get (k - 16) (by omega)
          obtain ⟨hroom, hfr⟩ := hR.room k hlen (by omega)
          generalize (ext (words l) (k - 16)).getD (k - 2) 0 = b0 at *
          generalize (ext (words l) (k - 16)).getD (k - 7) 0 = b1 at *
          generalize (ext (words l) (k - 16)).getD (k - 15) 0 = b2 at *
          generalize (ext (words l) (k - 16)).getD (k - 16) 0 = b3 at *
          have HS := hide hS
          have HR := hide hR
          have HL := hide hlen
          clear hS hR hlen
          have hx := u_xor
          have hp := u_add
          have hp' := u_add'
          have h3 := u_shr3
          have h10 := u_shr10
          go_wp2_with fail
          refine (rr7 _ b2).mono ?_
          rintro e1 w1 ⟨rfl, rfl⟩
          go_wp2_with fail
          refine (rr18 _ b2).mono ?_
          rintro e1 w1 ⟨rfl, rfl⟩
          go_wp2_with fail
          refine (rr17 _ b0).mono ?_
          rintro e1 w1 ⟨rfl, rfl⟩
          go_wp2_with fail
          refine (rr19 _ b0).mono ?_
          rintro e1 w1 ⟨rfl, rfl⟩
          go_wp2_with fail
          go_region
          go_wp2_with fail
          refine ⟨⟨k + 1, by omega, by omega, by go_num, ?_⟩, by simp [intOf]; omega⟩
          rw [HS.out]
          exact (HR.out.store (by rw [HL.out]; exact hlt) k HL.out _).drew
        · obtain rfl : k = 64 := by omega
          have hb := hR.1
          have hrow := hR.2.2
          rw [hlen] at hrow
          simp only [Nat.sub_self, List.replicate_zero, List.append_nil] at hrow
          obtain ⟨z, hz, hz'⟩ := hR.2.1
          have hsz : (uc (ext (words l) 48)).size = 64 := by rw [uc_size]; exact hlen
          clear hR hlen
          have hi : (Tryd.prog.info? 173).map (·.size) = some (uc (ext (words l) 48)).size := by rw [hsz]; exact Tryd.infoA64
          have HI := hide hi
          have HZ := hide hz'
          have HS := hide hsz
          have hone := hide (uc_one (ext (words l) 48))
          clear hi hz' hsz
          have hrow' : wr.heap[w.heap.size + 1]? = some (.cells (uc (ext (words l) 48)) 173) := hrow
          clear hrow
          generalize hC : uc (ext (words l) 48) = C at *
          have HC := hide hC
          clear hC
          go_wp2_with (first | (refine wpList_load_row rfl 173 (.tmp 3) rfl _ rfl 173 C (0, 0) _ hrow' Tryd.underlying173 rfl HI.out ?_) | (refine wpList_store_arr _ rfl 173 (.tmp 2) (.tmp 92) rfl _ C rfl rfl 173 z hz HI.out (by rw [HZ.out, HS.out]) hone.out ?_; intro w2 hrow2 hg2))
          have hb2 := hb.grown hg2 hb.size (by intro k hk; injection hk with hk; omega)
          refine bodyPost_ret (v := .agg C) (results_cell_row rfl _ _ _ _ _ _ _ rfl hrow2 Tryd.underlying173 rfl HI.out) rfl ⟨ret_agg HC.out.symm, hb2⟩

end Go.Proofs.YtdbmngbinhemeabDoor
