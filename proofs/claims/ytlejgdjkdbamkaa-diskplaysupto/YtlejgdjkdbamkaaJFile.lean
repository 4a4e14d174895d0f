/-
  The reference's Used, Size, CutAt, New. Conditions: as each says.
  The reference's files, written; its fail. Conditions: as each says.
-/
import Derived.Test.YtlejgdjkdbamkaaRefDisk
import Derived.Test.YtlejgdjkdbamkaaJShown
import Derived.Test.YtlejgdjkdbamkaaRefActs
namespace Go.Proofs.Ytlejgdjkdbamkaa
open Go.RowKit

theorem dir_le {S : Dk} (hk : Ok S) : S.dir.length ≤ S.bulk := by
  have h1 := few_ids S.files.length (ids S.dir) hk.oneD (fun i hi => hk.idD hi)
  have h2 : S.files.length ≤ S.bulk := by unfold Dk.bulk; omega
  have h3 : (ids S.dir).length = S.dir.length := by simp [ids]
  omega
theorem used_take (files : List Fl) (l : Dir) (j : Nat) : usedOf files (l.take j) ≤ usedOf files l := by
  unfold usedOf
  conv => rhs; rw [← List.take_append_drop j l]
  rw [List.map_append, List.sum_append]
  omega
set_option maxRecDepth 20000 in
set_option maxHeartbeats 1600000 in
theorem rUsed_any {B r : Nat} {R : Nat → Prop} {S : Dk} {G : Rg} (w : World) (h : RR B w R r S G) (hk : Ok S) (hb : S.bulk < 1099511627776) :
    Calls Try.prog 62 #[.pointer (some ⟨r, 0, none⟩)] w fun e w' => e = .returned (.int .i64 (S.used : Int)) ∧ Chg (fun _ => False) w w' := by
  have hul := used_le hk
  have hid : ∀ p ∈ S.dir, p.2 < S.files.length := fun p hp => hk.idD (List.mem_map.2 ⟨p, hp, rfl⟩)
  have hdl : S.dir.length < 1099511627776 := by have := dir_le hk; omega
  have hblk := h.blk
  have hfls := h.fls
  have hdir := h.dir
  clear h
  obtain ⟨fv, dv, sv, av, lv, off, cut, ks⟩ := G
  dsimp only [rcells] at hblk hfls hdir
  obtain ⟨fa, fcap, rfl⟩ := own_shape hfls
  obtain ⟨da, dcap, rfl⟩ := own_shape hdir
  have c0 := cell_of hblk 0
  have c1 := cell_of hblk 1
  have HBL := hide hblk
  have HFL := hide hfls
  have HDI := hide hdir
  have HID := hide hid
  have hu0 : S.used = usedOf S.files S.dir := rfl
  have HU := hide hu0
  have hul2 : S.used < 1099511627776 := by omega
  clear hblk hfls hdir hid hu0 hk hul
  go_enter Try.func62, Try.ntmps62
  go_wp2_with fail
  go_loopw [3, 4] (fun u i wr => ∃ j : Nat, u = .int .i64 (usedOf S.files (S.dir.take j) : Int) ∧ i = .int .i64 (j : Int) ∧ j ≤ S.dir.length ∧ Chg (fun _ => False) w wr)
    (fun _ i _ => S.dir.length - (intOf i).toNat)
  case atStart => exact ⟨0, by simp [usedOf], rfl, by omega, Chg.refl _ _⟩
  case round =>
    clear c0 c1
    obtain ⟨j, rfl, rfl, hj, hcr⟩ := hrel
    have hb' := hcr.keep HBL.out (fun h => h)
    have c0 := cell_of hb' 0
    have c1 := cell_of hb' 1
    have hut := used_take S.files S.dir j
    have hut1 := used_take S.files S.dir (j + 1)
    rw [← HU.out] at hut hut1
    by_cases hlt : j < S.dir.length
    · obtain ⟨g, rfl, -, -, hc⟩ := own_pos (own_keep HDI.out hcr (fun _ _ h => h)) (by omega)
      have x1 := hc _ _ (nc_at S.dir j hlt).2
      have hfi := HID.out S.dir[j] (List.getElem_mem hlt)
      obtain ⟨g2, rfl, -, -, hc2⟩ := own_pos (own_keep HFL.out hcr (fun _ _ h => h)) (by omega)
      have x2 := hc2 _ _ (fc_at S.files S.dir[j].2 hfi).1
      have hsum : usedOf S.files (S.dir.take (j + 1)) = usedOf S.files (S.dir.take j) + S.files[S.dir[j].2].b.length := by
        unfold usedOf
        rw [List.take_succ_eq_append_getElem hlt, List.map_append, List.sum_append]
        simp [lenOf, hfi]
      have hsz := strB_size S.files[S.dir[j].2].b
      have HS := hide hsum
      rw [hsum] at hut1
      clear hsum hc hc2
      generalize S.files[S.dir[j].2].b = fb at *
      generalize S.dir[j].2 = fi at *
      generalize usedOf S.files (S.dir.take j) = u0 at *
      have hfi0 : (0 : Int) ≤ (fi : Int) := by omega
      have hfi1 : (fi : Int) < (S.files.length : Int) := by omega
      go_wp2_with fail
      refine wp_region_held_drew (S := fun W => W.cell? ⟨r, 0, none⟩ = some (.slice (some ⟨g2, 0, none⟩) S.files.length fcap) ∧ W.cell? ⟨r, 1, none⟩ = some (.slice (some ⟨g, 0, none⟩) S.dir.length dcap) ∧ W.cell? ⟨g, j * 2 + 1, none⟩ = some (.int .i64 (fi : Int)) ∧ W.cell? ⟨g2, fi * 2, none⟩ = some (.string (strB fb))) (by kernel_rfl) (⟨c0, c1, x1, x2⟩) (fun hHeld => ?_)
      refine takeH (i := 0) (v := ?_) rfl (by kernel_rfl) (by kernel_rfl) (by kernel_rfl) (fun _ _ _ h => h) rfl ?_ hHeld ?_
      rotate_left
      · intro w hS; (try dsimp only at hS); obtain ⟨hS0, hS1, hS2, hS3⟩ := hS; go_simp; first | done | (with_reducible rfl)
      try simp only [Act.put, ly1, ly2, ly3]
      refine takeH (i := 1) (v := ?_) rfl (by kernel_rfl) (by kernel_rfl) (by kernel_rfl) (fun _ _ _ h => h) rfl ?_ hHeld ?_
      rotate_left
      · intro w hS; (try dsimp only at hS); obtain ⟨hS0, hS1, hS2, hS3⟩ := hS; go_simp; first | done | (with_reducible rfl)
      try simp only [Act.put, ly1, ly2, ly3]
      refine takeH (i := 2) (v := ?_) rfl (by kernel_rfl) (by kernel_rfl) (by kernel_rfl) (fun _ _ _ h => h) rfl ?_ hHeld ?_
      rotate_left
      · intro w hS; (try dsimp only at hS); obtain ⟨hS0, hS1, hS2, hS3⟩ := hS; go_simp; first | done | (with_reducible rfl)
      try simp only [Act.put, ly1, ly2, ly3]
      refine takeH (i := 3) (v := ?_) rfl (by kernel_rfl) (by kernel_rfl) (by kernel_rfl) (fun _ _ _ h => h) rfl ?_ hHeld ?_
      rotate_left
      · intro w hS; (try dsimp only at hS); obtain ⟨hS0, hS1, hS2, hS3⟩ := hS; go_simp; first | done | (with_reducible rfl)
      try simp only [Act.put, ly1, ly2, ly3]
      refine takeH (i := 4) (v := ?_) rfl (by kernel_rfl) (by kernel_rfl) (by kernel_rfl) (fun _ _ _ h => h) rfl ?_ hHeld ?_
      rotate_left
      · intro w hS; (try dsimp only at hS); obtain ⟨hS0, hS1, hS2, hS3⟩ := hS; go_simp; first | done | (with_reducible rfl)
      try simp only [Act.put, ly1, ly2, ly3]
      refine takeH (i := 5) (v := ?_) rfl (by kernel_rfl) (by kernel_rfl) (by kernel_rfl) (fun _ _ _ h => h) rfl ?_ hHeld ?_
      rotate_left
      · intro w hS; (try dsimp only at hS); obtain ⟨hS0, hS1, hS2, hS3⟩ := hS; go_simp; first | done | (with_reducible rfl)
      try simp only [Act.put, ly1, ly2, ly3]
      refine takeH (i := 6) (v := ?_) rfl (by kernel_rfl) (by kernel_rfl) (by kernel_rfl) (fun _ _ _ h => h) rfl ?_ hHeld ?_
      rotate_left
      · intro w hS; (try dsimp only at hS); obtain ⟨hS0, hS1, hS2, hS3⟩ := hS; go_simp; first | done | (with_reducible rfl)
      try simp only [Act.put, ly1, ly2, ly3]
      refine takeH (i := 7) (v := ?_) rfl (by kernel_rfl) (by kernel_rfl) (by kernel_rfl) (fun _ _ _ h => h) rfl ?_ hHeld ?_
      rotate_left
      · intro w hS; (try dsimp only at hS); obtain ⟨hS0, hS1, hS2, hS3⟩ := hS; go_simp; first | done | (with_reducible rfl)
      try simp only [Act.put, ly1, ly2, ly3]
      refine takeH (i := 8) (v := ?_) rfl (by kernel_rfl) (by kernel_rfl) (by kernel_rfl) (fun _ _ _ h => h) rfl ?_ hHeld ?_
      rotate_left
      · intro w hS; (try dsimp only at hS); obtain ⟨hS0, hS1, hS2, hS3⟩ := hS; go_simp; first | done | (with_reducible rfl)
      try simp only [Act.put, ly1, ly2, ly3]
      refine takeH (i := 9) (v := ?_) rfl (by kernel_rfl) (by kernel_rfl) (by kernel_rfl) (fun _ _ _ h => h) rfl ?_ hHeld ?_
      rotate_left
      · intro w hS; (try dsimp only at hS); obtain ⟨hS0, hS1, hS2, hS3⟩ := hS; go_simp; first | done | (with_reducible rfl)
      try simp only [Act.put, ly1, ly2, ly3]
      refine takeH (i := 10) (v := ?_) rfl (by kernel_rfl) (by kernel_rfl) (by kernel_rfl) (fun _ _ _ h => h) rfl ?_ hHeld ?_
      rotate_left
      · intro w hS; (try dsimp only at hS); obtain ⟨hS0, hS1, hS2, hS3⟩ := hS; go_simp; first | done | (with_reducible rfl)
      try simp only [Act.put, ly1, ly2, ly3]
      refine takeH (i := 11) (v := ?_) rfl (by kernel_rfl) (by kernel_rfl) (by kernel_rfl) (fun _ _ _ h => h) rfl ?_ hHeld ?_
      rotate_left
      · intro w hS; (try dsimp only at hS); obtain ⟨hS0, hS1, hS2, hS3⟩ := hS; go_simp; first | done | (with_reducible rfl)
      try simp only [Act.put, ly1, ly2, ly3]
      refine takeH (i := 12) (v := ?_) rfl (by kernel_rfl) (by kernel_rfl) (by kernel_rfl) (fun _ _ _ h => h) rfl ?_ hHeld ?_
      rotate_left
      · intro w hS; (try dsimp only at hS); obtain ⟨hS0, hS1, hS2, hS3⟩ := hS; go_simp; first | done | (with_reducible rfl)
      try simp only [Act.put, ly1, ly2, ly3]
      refine takeH (i := 13) (v := ?_) rfl (by kernel_rfl) (by kernel_rfl) (by kernel_rfl) (fun _ _ _ h => h) rfl ?_ hHeld ?_
      rotate_left
      · intro w hS; (try dsimp only at hS); obtain ⟨hS0, hS1, hS2, hS3⟩ := hS; go_simp; first | done | (with_reducible rfl)
      try simp only [Act.put, ly1, ly2, ly3]
      refine takeH (i := 14) (v := ?_) rfl (by kernel_rfl) (by kernel_rfl) (by kernel_rfl) (fun _ _ _ h => h) rfl ?_ hHeld ?_
      rotate_left
      · intro w hS; (try dsimp only at hS); obtain ⟨hS0, hS1, hS2, hS3⟩ := hS; go_simp; first | done | (with_reducible rfl)
      try simp only [Act.put, ly1, ly2, ly3]
      refine takeH (i := 15) (v := ?_) rfl (by kernel_rfl) (by kernel_rfl) (by kernel_rfl) (fun _ _ _ h => h) rfl ?_ hHeld ?_
      rotate_left
      · intro w hS; (try dsimp only at hS); obtain ⟨hS0, hS1, hS2, hS3⟩ := hS; go_simp; first | done | (with_reducible rfl)
      try simp only [Act.put, ly1, ly2, ly3]
      refine takeH (i := 16) (v := ?_) rfl (by kernel_rfl) (by kernel_rfl) (by kernel_rfl) (fun _ _ _ h => h) rfl ?_ hHeld ?_
      rotate_left
      · intro w hS; (try dsimp only at hS); obtain ⟨hS0, hS1, hS2, hS3⟩ := hS; go_simp; first | done | (with_reducible rfl)
      try simp only [Act.put, ly1, ly2, ly3]
      refine takeH (i := 17) (v := ?_) rfl (by kernel_rfl) (by kernel_rfl) (by kernel_rfl) (fun _ _ _ h => h) rfl ?_ hHeld ?_
      rotate_left
      · intro w hS; (try dsimp only at hS); obtain ⟨hS0, hS1, hS2, hS3⟩ := hS; go_simp; first | done | (with_reducible rfl)
      try simp only [Act.put, ly1, ly2, ly3]
      refine takeH (i := 18) (v := ?_) rfl (by kernel_rfl) (by kernel_rfl) (by kernel_rfl) (fun _ _ _ h => h) rfl ?_ hHeld ?_
      rotate_left
      · intro w hS; (try dsimp only at hS); obtain ⟨hS0, hS1, hS2, hS3⟩ := hS; go_simp; first | done | (with_reducible rfl)
      try simp only [Act.put, ly1, ly2, ly3]
      refine wpAnyH_done (by kernel_rfl) ?_ _
      go_wp2
      exact ⟨⟨j + 1, by rw [HS.out, IntKind.wrap_i64]; simp; omega, by go_num, by omega, hcr.drew⟩, by simp [intOf]; omega⟩
    · have hdt : S.dir.take j = S.dir := List.take_of_length_le (by omega)
      have HE := hide (show usedOf S.files (S.dir.take j) = S.used by rw [hdt]; exact HU.out.symm)
      clear hdt
      generalize usedOf S.files (S.dir.take j) = u0 at *
      go_wp2
      go_ret
      exact ⟨ret_int (by rw [HE.out]), hcr⟩

set_option maxRecDepth 20000 in
set_option maxHeartbeats 800000 in
theorem rSize_any {B r : Nat} {R : Nat → Prop} {S : Dk} {G : Rg} (w : World) (h : RR B w R r S G) (hk : Ok S) (hb : S.bulk < 1099511627776) (n : Nm) :
    Calls Try.prog 39 #[.pointer (some ⟨r, 0, none⟩), .string (strB n)] w fun e w' => e = .returned (.int .i64 (S.size n)) ∧ w' = w := by
  have hdl : S.dir.length < 1099511627776 := by have := dir_le hk; omega
  have hof := of_any w B G.dv S.dir n h.dir hdl
  have hblk := h.blk
  have hfls := h.fls
  obtain ⟨fa, fcap, hfv⟩ := own_shape hfls
  dsimp only [rcells] at hblk
  rw [hfv] at hblk hfls
  have c0 := cell_of hblk 0
  have c1 := cell_of hblk 1
  clear h
  generalize G.dv = dv at *
  cases hl : look S.dir n with
  | none =>
    rw [hl] at hof
    have HZ := hide (show S.size n = -1 by unfold Dk.size; rw [hl])
    clear hl
    go_enter Try.func39, Try.ntmps39
    go_wp2_with fail
    refine hof.mono ?_
    rintro e w1 ⟨rfl, rfl⟩
    dsimp only [idx]
    go_wp2
    go_ret
    exact ⟨ret_int HZ.out.symm, rfl⟩
  | some f =>
    rw [hl] at hof
    have hfi := hk.idD (look_id hl)
    obtain ⟨g2, rfl, -, -, hc2⟩ := own_pos hfls (by omega)
    have x2 := hc2 _ _ (fc_at S.files f hfi).1
    have hsz := strB_size S.files[f].b
    have HZ := hide (show S.size n = (S.files[f].b.length : Int) by unfold Dk.size; rw [hl]; simp [Dk.bytes, hfi])
    generalize S.files[f].b = fb at *
    have hfi0 : (0 : Int) ≤ (f : Int) := by omega
    have hfi1 : (f : Int) < (S.files.length : Int) := by omega
    clear hl hc2
    go_enter Try.func39, Try.ntmps39
    go_wp2_with fail
    refine hof.mono ?_
    rintro e w1 ⟨rfl, rfl⟩
    dsimp only [idx]
    go_wp2
    go_ret
    exact ⟨ret_int HZ.out.symm, rfl⟩

set_option maxRecDepth 20000 in
theorem rCutAt_any {B r : Nat} {R : Nat → Prop} {S : Dk} {G : Rg} (w : World) (h : RR B w R r S G) (op : Int) :
    Calls Try.prog 35 #[.pointer (some ⟨r, 0, none⟩), .int .i64 op] w fun e w' => e = .returned (.tuple #[]) ∧ RR B w' R r (S.cutAt op) { G with off := false, cut := op } ∧ Chg (· = r) w w' := by
  have H := hide h
  have hb := h.blk
  have c6 := cell_of hb 6
  have c7 := cell_of hb 7
  dsimp only [rcells] at c6 c7
  have t6 := thawed hb 6
  have hb1 := heap_set hb 6 (.bool false)
  have t7 := thawed hb1 7
  clear h
  go_enter Try.func35, Try.ntmps35
  go_wp2
  go_end0
  have hc1 : Chg (· = r) w ((w.setCell ⟨r, 6, none⟩ (.bool false)).setCell ⟨r, 7, none⟩ (.int .i64 op)) := (chg_set _ _ _ _).then (chg_set _ _ _ _)
  exact ⟨rfl, H.out.set hc1 (heap_set hb1 7 _) ⟨rfl, rfl⟩ ⟨rfl, rfl⟩ ⟨rfl, rfl⟩ ⟨rfl, rfl⟩ ⟨rfl, rfl, rfl⟩ (fun e => by cases e) rfl, hc1⟩

set_option maxRecDepth 20000 in
theorem rNew_any (w : World) (B : Nat) (hB : B ≤ w.heap.size) (room : Nat) :
    Calls Try.prog 12 #[.int .i64 (room : Int)] w fun e w' => e = .returned (.pointer (some ⟨w.heap.size, 0, none⟩)) ∧ RR B w' (· = w.heap.size) w.heap.size (Dk.new room) ⟨.slice none 0 0, .slice none 0 0, .slice none 0 0, .slice none 0 0, .slice none 0 0, false, -1, []⟩ ∧ Chg (fun _ => False) w w' := by
  go_enter Try.func12, Try.ntmps12
  go_wp2
  go_ret
  have hc1 : Chg (fun _ => False) w (w.alloc (.cells #[.slice none 0 0, .slice none 0 0, .slice none 0 0, .slice none 0 0, .int .i64 (room : Int), .int .i64 0, .bool false, .int .i64 (-1), .slice none 0 0] 72)) := (Chg.refl _ w).alloc _
  have nilR : ∀ k, (Value.slice none 0 0).ownBlock = some k → k = w.heap.size := fun k hk => by cases hk
  refine ⟨rfl, ⟨heap_last w _, rfl, World.ownsRow_nil _ _ _ _, nilR, World.ownsRow_nil _ _ _ _, nilR, World.ownsRow_nil _ _ _ _, nilR, World.ownsRow_nil _ _ _ _, nilR, World.ownsRow_nil _ _ _ _, nilR, fun k hk => ?_, fun _ => rfl, (fun e => by cases e), rfl⟩, hc1⟩
  subst hk
  exact ⟨hB, by simp⟩
end Go.Proofs.Ytlejgdjkdbamkaa

namespace Go.Proofs.Ytlejgdjkdbamkaa
open Go.RowKit

theorem own_set {w : World} {base size n cap g j : Nat} {e : TypeId} {xs : List Value} (h : w.ownsRow base e size (.slice (some ⟨g, 0, none⟩) n cap) n xs) (_hj : j < n * size) (u : Value) :
    (w.setCell ⟨g, j, none⟩ u).ownsRow base e size (.slice (some ⟨g, 0, none⟩) n cap) n (xs.set j u) := by
  refine ⟨by rw [List.length_set]; exact h.1, Or.inr ?_⟩
  rcases h.2 with ⟨hv, _⟩ | ⟨g', cap', cur, hv, hb, hh, h1, h2, h3, h4⟩
  · cases hv
  · injection hv with e1 e2 e3
    injection e1 with e1
    injection e1 with e1
    subst e1 e3
    refine ⟨g, cap, cur.setIfInBounds j u, rfl, hb, heap_set hh j u, h1, h2, by simp [h3], ?_⟩
    rw [Array.toList_setIfInBounds, ← h4, List.take_set]
theorem fc_length (l : List Fl) : (fc l).length = l.length * 2 := by
  induction l with
  | nil => rfl
  | cons p r ih => simp [fc, ih]; omega
theorem fc_b : ∀ (l : List Fl) (f : Nat) (b : List UInt8) (h : f < l.length) (g : Fl → Fl), g l[f] = { l[f] with b := b } → fc (l.modify f g) = (fc l).set (f * 2) (.string (strB b))
  | x :: r, 0, b, _, g, hg => by
    have hg' : g x = { x with b := b } := hg
    simp [fc, hg']
  | x :: r, f + 1, b, h, g, hg => by
    have := fc_b r f b (by simpa using h) g hg
    rw [show (f + 1) * 2 = f * 2 + 1 + 1 by omega]
    simp [fc, this]
theorem fc_s : ∀ (l : List Fl) (f k : Nat) (h : f < l.length) (g : Fl → Fl), g l[f] = { l[f] with sure := k } → fc (l.modify f g) = (fc l).set (f * 2 + 1) (.int .i64 (k : Int))
  | x :: r, 0, k, _, g, hg => by
    have hg' : g x = { x with sure := k } := hg
    simp [fc, hg']
  | x :: r, f + 1, k, h, g, hg => by
    have := fc_s r f k (by simpa using h) g hg
    rw [show (f + 1) * 2 = f * 2 + 1 + 1 by omega]
    simp [fc, this]
theorem ext_take (b : List UInt8) (k : Nat) : (strB b).extract 0 k = strB (b.take k) := by
  apply ByteArray.ext
  simp [strB]
theorem ext_cut (b : List UInt8) (i k : Nat) : (strB b).extract i (i + k) = strB ((b.drop i).take k) := by
  apply ByteArray.ext
  simp [strB, List.extract_eq_take_drop]
theorem str_app (a b : List UInt8) : strB a ++ strB b = strB (a ++ b) := by
  apply ByteArray.ext
  simp [strB]
section
variable {B r : Nat} {w w' : World} {R : Nat → Prop} {S : Dk} {G : Rg}
/-- The files' row written in place. -/
theorem RR.files {g cap j : Nat} {u : Value} (h : RR B w R r S G) (hg : G.fv = .slice (some ⟨g, 0, none⟩) S.files.length cap) (hj : j < S.files.length * 2) (fl : List Fl) (hlen : fl.length = S.files.length) (hfl : fc fl = (fc S.files).set j u) :
    RR B (w.setCell ⟨g, j, none⟩ u) R r { S with files := fl } G ∧ Chg R w (w.setCell ⟨g, j, none⟩ u) := by
  have hRg : R g := h.flsR g (by rw [hg]; rfl)
  have hgb : ∃ cur, w.heap[g]? = some (.cells cur 80 (0, 0)) := own_block h.fls (by rw [hg]; rfl)
  obtain ⟨cur, hcur⟩ := hgb
  have hc := chg_set w g j u
  have hcR : Chg R w (w.setCell ⟨g, j, none⟩ u) := hc.mono fun k _ e => e ▸ hRg
  have ne : ∀ {v : Value} {n : Nat} {e : TypeId} {size : Nat} {xs : List Value}, w.ownsRow B e size v n xs → e ≠ 80 → ∀ k, v.ownBlock = some k → ¬ k = g := fun hr he k hk e => by
    obtain ⟨c2, hc2⟩ := own_block hr hk
    exact ne_tag hc2 hcur (show _ ≠ 80 from he) e
  refine ⟨⟨hc.keep h.blk (ne_tag h.blk hcur (by simp [tag])), h.self, ?_, h.flsR, own_keep h.dir hc (ne h.dir (by decide)), h.dirR, own_keep h.sur hc (ne h.sur (by decide)), h.surR, own_keep h.act hc (ne h.act (by decide)), h.actR, own_keep h.fai hc (ne h.fai (by decide)), h.faiR,
    fun k hk => ⟨(h.low k hk).1, Nat.lt_of_lt_of_le (h.low k hk).2 hc.size⟩, h.fails, h.off, h.cut⟩, hcR⟩
  have h0 := h.fls
  rw [hg] at h0 ⊢
  show World.ownsRow _ B _ 2 _ fl.length (fc fl)
  rw [hlen, hfl]
  exact own_set h0 hj u
/-- Acts laid anew, or names. -/
theorem RR.acts {av : Value} {acts : List Ac} (h : RR B w R r S G) (hc : Chg (fun _ => False) w w') (hrow : w'.ownsRow B 117 5 av acts.length (acs acts)) (hR : ∀ k, av.ownBlock = some k → w.heap.size ≤ k) :
    RR B (w'.setCell ⟨r, 3, none⟩ av) (Fx R w (w'.setCell ⟨r, 3, none⟩ av)) r { S with acts := acts } { G with av := av } ∧ Chg (· = r) w (w'.setCell ⟨r, 3, none⟩ av) := by
  have h1 := h.keep hc (fun _ _ h => h)
  have hcs := chg_set w' r 3 av
  have hca : Chg (· = r) w (w'.setCell ⟨r, 3, none⟩ av) := (hc.mono fun _ _ h => h.elim).then hcs
  refine ⟨h.newRows hca (heap_set h1.blk 3 _) ⟨rfl, rfl⟩ (own_keep h.dir hca h.neD) (fun k hk => Or.inl (h.dirR k hk)) (own_keep h.sur hca h.neS) (fun k hk => Or.inl (h.surR k hk)) ?_ (fun k hk => Or.inr (hR k hk)) ⟨rfl, rfl, rfl⟩ h.off h.cut, hca⟩
  refine own_keep hrow hcs (fun k hk e => ?_)
  obtain ⟨cur, hcur⟩ := own_block hrow hk
  exact ne_tag hcur h1.blk (show 117 ≠ 72 by decide) e
theorem RR.sup {R' : Nat → Prop} (h : RR B w R r S G) (hR : ∀ k, R k → R' k) (hl : ∀ k, R' k → B ≤ k ∧ k < w.heap.size) : RR B w R' r S G :=
  ⟨h.blk, hR _ h.self, h.fls, fun k hk => hR k (h.flsR k hk), h.dir, fun k hk => hR k (h.dirR k hk), h.sur, fun k hk => hR k (h.surR k hk), h.act, fun k hk => hR k (h.actR k hk), h.fai, fun k hk => hR k (h.faiR k hk), hl, h.fails, h.off, h.cut⟩
end

set_option maxRecDepth 20000 in
set_option maxHeartbeats 1600000 in
theorem fail_sync {B r f : Nat} {R : Nat → Prop} {S : Dk} {G : Rg} (w : World) (h : RR B w R r S G) (hl : S.acts.length < 1099511627776) (hf : f < S.files.length) (hfl : S.files.length < 1099511627776) (hs : S.files[f].sure ≤ S.files[f].b.length) (_hbl : S.files[f].b.length < 1099511627776) :
    Calls Try.prog 64 #[.pointer (some ⟨r, 0, none⟩), .int .i64 2, .int .i64 (f : Int)] w fun e w' => e = .returned (.tuple #[]) ∧ ∃ G' R', RR B w' R' r (S.undoF f) G' ∧ G'.ks = G.ks ∧ (∀ k, R' k → R k ∨ w.heap.size ≤ k) ∧ Chg R w w' := by
  obtain ⟨fa, fcap, hfv⟩ := own_shape h.fls
  have hrow := h.fls
  rw [hfv] at hrow
  obtain ⟨g, rfl, hgB, hgl, hc⟩ := own_pos hrow (by omega)
  have x1 := hc _ _ (fc_at S.files f hf).1
  have x2 := hc _ _ (fc_at S.files f hf).2
  have hb := h.blk
  rw [rcells, hfv] at hb
  have c0 := cell_of hb 0
  have hne : g ≠ r := fun e => by
    obtain ⟨cur, hcur⟩ := own_block h.fls (k := g) (by rw [hfv]; rfl)
    exact ne_tag hcur h.blk (show 80 ≠ 72 by decide) e
  obtain ⟨gcur, hgcur⟩ := own_block h.fls (k := g) (by rw [hfv]; rfl)
  have tg := thawed hgcur (f * 2)
  obtain ⟨hr1, hc1⟩ := (h.keep ((Chg.refl (fun _ => False) w).drew) (fun _ _ h => h)).files hfv (j := f * 2) (u := .string (strB (S.files[f].b.take S.files[f].sure))) (by omega) (S.files.modify f fun x => { x with b := x.b.take x.sure }) (by simp) (fc_b _ _ _ hf _ rfl)
  have hloose := looseA_any _ hr1 hl (f : Int)
  rw [keepA_file] at hloose
  have hsz := strB_size S.files[f].b
  have hwB : B ≤ w.heap.size := by have := h.low _ h.self; omega
  have HH := hide h
  have HR1 := hide hr1
  have HC1 := hide hc1
  generalize hbb : S.files[f].b = fb at *
  generalize hss : S.files[f].sure = su at *
  have hf0 : (0 : Int) ≤ (f : Int) := by omega
  have hf1 : (f : Int) < (S.files.length : Int) := by omega
  have y0 : (w.drew.setCell ⟨g, f * 2, none⟩ (.string (strB (fb.take su)))).cell? ⟨r, 0, none⟩ = some (.slice (some ⟨g, 0, none⟩) S.files.length fcap) := by rw [World.cell?_setCell_far _ _ _ _ hne]; exact c0
  have y2 : (w.drew.setCell ⟨g, f * 2, none⟩ (.string (strB (fb.take su)))).cell? ⟨g, f * 2 + 1, none⟩ = some (.int .i64 (su : Int)) := by
    have := cell_of (heap_set (show w.drew.heap[g]? = some _ from hgcur) (f * 2) (.string (strB (fb.take su)))) (f * 2 + 1)
    have hx2 := x2
    rw [cell_of hgcur] at hx2
    rw [this]
    simpa using hx2
  clear hr1 hc1 h hb hrow hc
  go_enter Try.func64, Try.ntmps64
  go_wp2_with fail
  refine wp_region_held_drew (S := fun W => W.cell? ⟨r, 0, none⟩ = some (.slice (some ⟨g, 0, none⟩) S.files.length fcap) ∧ W.cell? ⟨g, f * 2 + 1, none⟩ = some (.int .i64 (su : Int))) (by kernel_rfl) (⟨c0, x2⟩) (fun hHeld => ?_)
  refine takeH (i := 0) (v := ?_) rfl (by kernel_rfl) (by kernel_rfl) (by kernel_rfl) (fun _ _ _ h => h) rfl ?_ hHeld ?_
  rotate_left
  · intro w hS; (try dsimp only at hS); obtain ⟨hS0, hS1⟩ := hS; go_simp; first | done | (with_reducible rfl)
  try simp only [Act.put, ly1, ly2, ly3]
  refine takeH (i := 1) (v := ?_) rfl (by kernel_rfl) (by kernel_rfl) (by kernel_rfl) (fun _ _ _ h => h) rfl ?_ hHeld ?_
  rotate_left
  · intro w hS; (try dsimp only at hS); obtain ⟨hS0, hS1⟩ := hS; go_simp; first | done | (with_reducible rfl)
  try simp only [Act.put, ly1, ly2, ly3]
  refine takeH (i := 2) (v := ?_) rfl (by kernel_rfl) (by kernel_rfl) (by kernel_rfl) (fun _ _ _ h => h) rfl ?_ hHeld ?_
  rotate_left
  · intro w hS; (try dsimp only at hS); obtain ⟨hS0, hS1⟩ := hS; go_simp; first | done | (with_reducible rfl)
  try simp only [Act.put, ly1, ly2, ly3]
  refine takeH (i := 3) (v := ?_) rfl (by kernel_rfl) (by kernel_rfl) (by kernel_rfl) (fun _ _ _ h => h) rfl ?_ hHeld ?_
  rotate_left
  · intro w hS; (try dsimp only at hS); obtain ⟨hS0, hS1⟩ := hS; go_simp; first | done | (with_reducible rfl)
  try simp only [Act.put, ly1, ly2, ly3]
  refine takeH (i := 4) (v := ?_) rfl (by kernel_rfl) (by kernel_rfl) (by kernel_rfl) (fun _ _ _ h => h) rfl ?_ hHeld ?_
  rotate_left
  · intro w hS; (try dsimp only at hS); obtain ⟨hS0, hS1⟩ := hS; go_simp; first | done | (with_reducible rfl)
  try simp only [Act.put, ly1, ly2, ly3]
  refine takeH (i := 5) (v := ?_) rfl (by kernel_rfl) (by kernel_rfl) (by kernel_rfl) (fun _ _ _ h => h) rfl ?_ hHeld ?_
  rotate_left
  · intro w hS; (try dsimp only at hS); obtain ⟨hS0, hS1⟩ := hS; go_simp; first | done | (with_reducible rfl)
  try simp only [Act.put, ly1, ly2, ly3]
  refine takeH (i := 6) (v := ?_) rfl (by kernel_rfl) (by kernel_rfl) (by kernel_rfl) (fun _ _ _ h => h) rfl ?_ hHeld ?_
  rotate_left
  · intro w hS; (try dsimp only at hS); obtain ⟨hS0, hS1⟩ := hS; go_simp; first | done | (with_reducible rfl)
  try simp only [Act.put, ly1, ly2, ly3]
  refine takeH (i := 7) (v := ?_) rfl (by kernel_rfl) (by kernel_rfl) (by kernel_rfl) (fun _ _ _ h => h) rfl ?_ hHeld ?_
  rotate_left
  · intro w hS; (try dsimp only at hS); obtain ⟨hS0, hS1⟩ := hS; go_simp; first | done | (with_reducible rfl)
  try simp only [Act.put, ly1, ly2, ly3]
  refine takeH (i := 8) (v := ?_) rfl (by kernel_rfl) (by kernel_rfl) (by kernel_rfl) (fun _ _ _ h => h) rfl ?_ hHeld ?_
  rotate_left
  · intro w hS; (try dsimp only at hS); obtain ⟨hS0, hS1⟩ := hS; go_simp; first | done | (with_reducible rfl)
  try simp only [Act.put, ly1, ly2, ly3]
  refine takeH (i := 9) (v := ?_) rfl (by kernel_rfl) (by kernel_rfl) (by kernel_rfl) (fun _ _ _ h => h) rfl ?_ hHeld ?_
  rotate_left
  · intro w hS; (try dsimp only at hS); obtain ⟨hS0, hS1⟩ := hS; go_simp; first | done | (with_reducible rfl)
  try simp only [Act.put, ly1, ly2, ly3]
  refine takeH (i := 10) (v := ?_) rfl (by kernel_rfl) (by kernel_rfl) (by kernel_rfl) (fun _ _ _ h => h) rfl ?_ hHeld ?_
  rotate_left
  · intro w hS; (try dsimp only at hS); obtain ⟨hS0, hS1⟩ := hS; go_simp; first | done | (with_reducible rfl)
  try simp only [Act.put, ly1, ly2, ly3]
  refine takeH (i := 11) (v := ?_) rfl (by kernel_rfl) (by kernel_rfl) (by kernel_rfl) (fun _ _ _ h => h) rfl ?_ hHeld ?_
  rotate_left
  · intro w hS; (try dsimp only at hS); obtain ⟨hS0, hS1⟩ := hS; go_simp; first | done | (with_reducible rfl)
  try simp only [Act.put, ly1, ly2, ly3]
  refine takeH (i := 13) (v := ?_) rfl (by kernel_rfl) (by kernel_rfl) (by kernel_rfl) (fun _ _ _ h => h) rfl ?_ hHeld ?_
  rotate_left
  · intro w hS; (try dsimp only at hS); obtain ⟨hS0, hS1⟩ := hS; go_simp; first | done | (with_reducible rfl)
  try simp only [Act.put, ly1, ly2, ly3]
  refine takeH (i := 14) (v := ?_) rfl (by kernel_rfl) (by kernel_rfl) (by kernel_rfl) (fun _ _ _ h => h) rfl ?_ hHeld ?_
  rotate_left
  · intro w hS; (try dsimp only at hS); obtain ⟨hS0, hS1⟩ := hS; go_simp; first | done | (with_reducible rfl)
  try simp only [Act.put, ly1, ly2, ly3]
  refine takeH (i := 15) (v := ?_) rfl (by kernel_rfl) (by kernel_rfl) (by kernel_rfl) (fun _ _ _ h => h) rfl ?_ hHeld ?_
  rotate_left
  · intro w hS; (try dsimp only at hS); obtain ⟨hS0, hS1⟩ := hS; go_simp; first | done | (with_reducible rfl)
  try simp only [Act.put, ly1, ly2, ly3]
  refine takeH (i := 16) (v := ?_) rfl (by kernel_rfl) (by kernel_rfl) (by kernel_rfl) (fun _ _ _ h => h) rfl ?_ hHeld ?_
  rotate_left
  · intro w hS; (try dsimp only at hS); obtain ⟨hS0, hS1⟩ := hS; go_simp; first | done | (with_reducible rfl)
  try simp only [Act.put, ly1, ly2, ly3]
  refine takeH (i := 17) (v := ?_) rfl (by kernel_rfl) (by kernel_rfl) (by kernel_rfl) (fun _ _ _ h => h) rfl ?_ hHeld ?_
  rotate_left
  · intro w hS; (try dsimp only at hS); obtain ⟨hS0, hS1⟩ := hS; go_simp; first | done | (with_reducible rfl)
  try simp only [Act.put, ly1, ly2, ly3]
  refine takeH (i := 18) (v := ?_) rfl (by kernel_rfl) (by kernel_rfl) (by kernel_rfl) (fun _ _ _ h => h) rfl ?_ hHeld ?_
  rotate_left
  · intro w hS; (try dsimp only at hS); obtain ⟨hS0, hS1⟩ := hS; go_simp; first | done | (with_reducible rfl)
  try simp only [Act.put, ly1, ly2, ly3]
  refine takeH (i := 19) (v := ?_) rfl (by kernel_rfl) (by kernel_rfl) (by kernel_rfl) (fun _ _ _ h => h) rfl ?_ hHeld ?_
  rotate_left
  · intro w hS; (try dsimp only at hS); obtain ⟨hS0, hS1⟩ := hS; go_simp; first | done | (with_reducible rfl)
  try simp only [Act.put, ly1, ly2, ly3]
  refine takeH (i := 20) (v := ?_) rfl (by kernel_rfl) (by kernel_rfl) (by kernel_rfl) (fun _ _ _ h => h) rfl ?_ hHeld ?_
  rotate_left
  · intro w hS; (try dsimp only at hS); obtain ⟨hS0, hS1⟩ := hS; go_simp; first | done | (with_reducible rfl)
  try simp only [Act.put, ly1, ly2, ly3]
  refine onlyH (i := 12) rfl (by kernel_rfl) rfl (fun K hK => ?_)
  go_simp
  refine hK.out _ _ (⟨c0, x2⟩) (fun hHeld => ?_)
  clear hK K
  try simp only [Act.put, ly1, ly2, ly3]
  refine takeH (i := 21) (v := ?_) rfl (by kernel_rfl) (by kernel_rfl) (by kernel_rfl) (fun _ _ _ h => h) rfl ?_ hHeld ?_
  rotate_left
  · intro w hS; (try dsimp only at hS); obtain ⟨hS0, hS1⟩ := hS; go_simp; first | done | (with_reducible rfl)
  try simp only [Act.put, ly1, ly2, ly3]
  rw [ext_take]
  refine takeH (i := 22) (v := ?_) rfl (by kernel_rfl) (by kernel_rfl) (by kernel_rfl) (fun _ _ _ h => h) rfl ?_ hHeld ?_
  rotate_left
  · intro w hS; (try dsimp only at hS); obtain ⟨hS0, hS1⟩ := hS; go_simp; first | done | (with_reducible rfl)
  try simp only [Act.put, ly1, ly2, ly3]
  refine takeH (i := 23) (v := ?_) rfl (by kernel_rfl) (by kernel_rfl) (by kernel_rfl) (fun _ _ _ h => h) rfl ?_ hHeld ?_
  rotate_left
  · intro w hS; (try dsimp only at hS); obtain ⟨hS0, hS1⟩ := hS; go_simp; first | done | (with_reducible rfl)
  try simp only [Act.put, ly1, ly2, ly3]
  refine onlyH (i := 24) rfl (by kernel_rfl) rfl (fun K hK => ?_)
  go_simp
  refine hK.out _ _ (⟨y0, y2⟩) (fun hHeld => ?_)
  clear hK K
  try simp only [Act.put, ly1, ly2, ly3]
  refine wpAnyH_done (by kernel_rfl) ?_ _
  clear hHeld y0 y2
  go_wp2_with fail
  refine hloose.mono ?_
  rintro e w2 ⟨v2, rfl, hv2, hc2⟩
  obtain ⟨va2, vc2, rfl⟩ := own_shape hv2
  obtain ⟨hr3, hc3⟩ := HR1.out.acts hc2 (own_down hv2 (by simp [World.setCell]; omega)) (fun k hk => (own_lt hv2 k hk).1)
  have hb2 := hc2.keep HR1.out.blk (fun h => h)
  have c3 := cell_of hb2 3
  have t3 := thawed hb2 3
  dsimp only [rcells] at c3
  have HR3 := hide hr3
  have HC3 := hide hc3
  clear hr3 hc3 hb2 hv2 hloose
  go_wp2
  go_end0
  have hcw : Chg R w (w.drew.setCell ⟨g, f * 2, none⟩ (.string (strB (fb.take su)))) := ((Chg.refl R w).drew).then HC1.out
  have hRr := HH.out.self
  refine ⟨rfl, _, _, HR3.out, rfl, fun k hk => ?_, hcw.then (HC3.out.mono fun k _ e => e ▸ hRr)⟩
  rcases hk with hk | hk
  · exact Or.inl hk
  · exact Or.inr (Nat.le_trans hcw.size hk.1)
end Go.Proofs.Ytlejgdjkdbamkaa
