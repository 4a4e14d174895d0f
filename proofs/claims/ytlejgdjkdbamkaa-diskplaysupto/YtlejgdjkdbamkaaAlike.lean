/-
  The law's alike and full. Conditions: both disks are one plain disk.
-/
import Derived.Test.YtlejgdjkdbamkaaNilDisk
import Derived.Test.YtlejgdjkdbamkaaRefCrashW
import Derived.Test.YtlejgdjkdbamkaaJShown
import Derived.Test.YtlejgdjkdbamkaaOffPure
namespace Go.Proofs.Ytlejgdjkdbamkaa
open Go.RowKit
theorem alike_at {w : World} {base n cap : Nat} {ao : Option Addr} {ls : List Nm} (h : w.ownsRow base 9 1 (.slice ao n cap) ls.length (tc ls)) {j : Nat} (hj : j < ls.length) :
    ∃ g, ao = some ⟨g, 0, none⟩ ∧ g < w.heap.size ∧ w.cell? ⟨g, j, none⟩ = some (.string (strB ls[j])) := by
  have h0 := h
  rcases h.2 with ⟨hv, hn⟩ | ⟨g, cap', cur, hv, hg, hh, -⟩
  · omega
  · injection hv with e1 e2 e3
    subst e1
    have := World.ownsRow.cells h0 (g := g) rfl j (.string (strB ls[j])) (by simp [tc, hj])
    rw [Addr.add_lit, Nat.zero_add] at this
    exact ⟨g, rfl, lt_of_heap hh, this⟩

set_option maxRecDepth 20000 in
set_option maxHeartbeats 3200000 in
theorem alike_any {B d r : Nat} {F R : Nat → Prop} {S : Dk} {G : Rg} (w : World) (hs : Stands B w F d S) (h : RR B w R r S G) (hb : S.bulk + 12 < 1099511627776) :
    Calls Try.prog 14 #[.pointer (some ⟨d, 0, none⟩), .pointer (some ⟨r, 0, none⟩)] w fun e w' => e = .returned (.bool true) ∧ Chg (fun _ => False) w w' := by
  have hok := hs.ok
  have hdl := dir_le hok
  have hal : S.acts.length ≤ S.bulk := by unfold Dk.bulk; omega
  have hbl := h.blk
  obtain ⟨aa, acap, hav⟩ := own_shape h.act
  obtain ⟨da, dcap, hdv⟩ := own_shape h.dir
  rw [rcells, hav, hdv] at hbl
  have c5 := cell_of hbl 5
  have c3 := cell_of hbl 3
  have hdr : Chg (fun _ => False) w w.drew := (Chg.refl _ w).drew
  have hs1 := hs.keep hdr (fun _ _ h => h)
  have HH := hide h
  have HBL := hide hbl
  have HOK := hide hok
  have n1 : ((S.n : Int) != (S.n : Int)) = false := by simp
  have n2 : ((S.acts.length : Int) != (S.acts.length : Int)) = false := by simp
  clear h hbl hok hs
  go_enter Try.func14, Try.ntmps14
  go_wp2_with fail
  refine wp_region_held_drew (S := fun W => W.cell? ⟨r, 5, none⟩ = some (.int .i64 (S.n : Int)) ∧ W.cell? ⟨r, 3, none⟩ = some (.slice aa S.acts.length acap)) (by kernel_rfl) (⟨c5, c3⟩) (fun hHeld => ?_)
  refine takeH (i := 0) (v := ?_) rfl (by kernel_rfl) (by kernel_rfl) (by kernel_rfl) (fun _ _ _ h => h) rfl ?_ hHeld ?_
  rotate_left
  · intro w hS; (try dsimp only at hS); obtain ⟨hS0, hS1⟩ := hS; go_simp; first | done | (with_reducible rfl)
  try simp only [Act.put, ly1, ly2, ly3]
  refine takeH (i := 1) (v := ?_) rfl (by kernel_rfl) (by kernel_rfl) (by kernel_rfl) (fun _ _ _ h => h) rfl ?_ hHeld ?_
  rotate_left
  · intro w hS; (try dsimp only at hS); obtain ⟨hS0, hS1⟩ := hS; go_simp; first | done | (with_reducible rfl)
  try simp only [Act.put, ly1, ly2, ly3]
  refine takeH (i := 2) (v := ?_) rfl (by kernel_rfl) (by kernel_rfl) (by kernel_rfl) (fun _ _ _ h => h) rfl ?_ hHeld ?_
  rotate_left
  · intro w hS; (try dsimp only at hS); obtain ⟨hS0, hS1⟩ := hS; go_simp; first | done | (with_reducible rfl)
  try simp only [Act.put, ly1, ly2, ly3]
  refine takeH (i := 3) (v := ?_) rfl (by kernel_rfl) (by kernel_rfl) (by kernel_rfl) (fun _ _ _ h => h) rfl ?_ hHeld ?_
  rotate_left
  · intro w hS; (try dsimp only at hS); obtain ⟨hS0, hS1⟩ := hS; go_simp; first | done | (with_reducible rfl)
  try simp only [Act.put, ly1, ly2, ly3]
  refine takeH (i := 5) (v := ?_) rfl (by kernel_rfl) (by kernel_rfl) (by kernel_rfl) (fun _ _ _ h => h) rfl ?_ hHeld ?_
  rotate_left
  · intro w hS; (try dsimp only at hS); obtain ⟨hS0, hS1⟩ := hS; go_simp; first | done | (with_reducible rfl)
  try simp only [Act.put, ly1, ly2, ly3]
  refine takeH (i := 6) (v := ?_) rfl (by kernel_rfl) (by kernel_rfl) (by kernel_rfl) (fun _ _ _ h => h) rfl ?_ hHeld ?_
  rotate_left
  · intro w hS; (try dsimp only at hS); obtain ⟨hS0, hS1⟩ := hS; go_simp; first | done | (with_reducible rfl)
  try simp only [Act.put, ly1, ly2, ly3]
  refine takeH (i := 7) (v := ?_) rfl (by kernel_rfl) (by kernel_rfl) (by kernel_rfl) (fun _ _ _ h => h) rfl ?_ hHeld ?_
  rotate_left
  · intro w hS; (try dsimp only at hS); obtain ⟨hS0, hS1⟩ := hS; go_simp; first | done | (with_reducible rfl)
  try simp only [Act.put, ly1, ly2, ly3]
  refine takeH (i := 8) (v := ?_) rfl (by kernel_rfl) (by kernel_rfl) (by kernel_rfl) (fun _ _ _ h => h) rfl ?_ hHeld ?_
  rotate_left
  · intro w hS; (try dsimp only at hS); obtain ⟨hS0, hS1⟩ := hS; go_simp; first | done | (with_reducible rfl)
  try simp only [Act.put, ly1, ly2, ly3]
  refine onlyH (i := 4) rfl (by kernel_rfl) rfl (fun K hK => ?_)
  go_simp
  refine (ops_lies hs1).mono ?_
  rintro e w1 ⟨rfl, h1⟩
  rw [h1]
  clear h1
  refine hK.out _ _ (⟨c5, c3⟩) (fun hHeld => ?_)
  clear hK K
  try simp only [Act.put, ly1, ly2, ly3]
  refine takeH (i := 9) (v := ?_) rfl (by kernel_rfl) (by kernel_rfl) (by kernel_rfl) (fun _ _ _ h => h) rfl ?_ hHeld ?_
  rotate_left
  · intro w hS; (try dsimp only at hS); obtain ⟨hS0, hS1⟩ := hS; go_simp; first | done | (with_reducible rfl)
  try simp only [Act.put, ly1, ly2, ly3]
  refine takeH (i := 10) (v := ?_) rfl (by kernel_rfl) (by kernel_rfl) (by kernel_rfl) (fun _ _ _ h => h) rfl ?_ hHeld ?_
  rotate_left
  · intro w hS; (try dsimp only at hS); obtain ⟨hS0, hS1⟩ := hS; go_simp; first | done | (with_reducible rfl)
  try simp only [Act.put, ly1, ly2, ly3]
  refine takeH (i := 11) (v := ?_) rfl (by kernel_rfl) (by kernel_rfl) (by kernel_rfl) (fun _ _ _ h => h) rfl ?_ hHeld ?_
  rotate_left
  · intro w hS; (try dsimp only at hS); obtain ⟨hS0, hS1⟩ := hS; go_simp; first | done | (with_reducible rfl)
  try simp only [Act.put, ly1, ly2, ly3]
  refine takeH (i := 12) (v := ?_) rfl (by kernel_rfl) (by kernel_rfl) (by kernel_rfl) (fun _ _ _ h => h) rfl ?_ hHeld ?_
  rotate_left
  · intro w hS; (try dsimp only at hS); obtain ⟨hS0, hS1⟩ := hS; go_simp; first | done | (with_reducible rfl)
  try simp only [Act.put, ly1, ly2, ly3]
  refine takeH (i := 14) (v := ?_) rfl (by kernel_rfl) (by kernel_rfl) (by kernel_rfl) (fun _ _ _ h => h) rfl ?_ hHeld ?_
  rotate_left
  · intro w hS; (try dsimp only at hS); obtain ⟨hS0, hS1⟩ := hS; go_simp; first | done | (with_reducible rfl)
  try simp only [Act.put, ly1, ly2, ly3]
  refine takeH (i := 15) (v := ?_) rfl (by kernel_rfl) (by kernel_rfl) (by kernel_rfl) (fun _ _ _ h => h) rfl ?_ hHeld ?_
  rotate_left
  · intro w hS; (try dsimp only at hS); obtain ⟨hS0, hS1⟩ := hS; go_simp; first | done | (with_reducible rfl)
  try simp only [Act.put, ly1, ly2, ly3]
  refine takeH (i := 16) (v := ?_) rfl (by kernel_rfl) (by kernel_rfl) (by kernel_rfl) (fun _ _ _ h => h) rfl ?_ hHeld ?_
  rotate_left
  · intro w hS; (try dsimp only at hS); obtain ⟨hS0, hS1⟩ := hS; go_simp; first | done | (with_reducible rfl)
  try simp only [Act.put, ly1, ly2, ly3]
  refine takeH (i := 17) (v := ?_) rfl (by kernel_rfl) (by kernel_rfl) (by kernel_rfl) (fun _ _ _ h => h) rfl ?_ hHeld ?_
  rotate_left
  · intro w hS; (try dsimp only at hS); obtain ⟨hS0, hS1⟩ := hS; go_simp; first | done | (with_reducible rfl)
  try simp only [Act.put, ly1, ly2, ly3]
  refine takeH (i := 18) (v := ?_) rfl (by kernel_rfl) (by kernel_rfl) (by kernel_rfl) (fun _ _ _ h => h) rfl ?_ hHeld ?_
  rotate_left
  · intro w hS; (try dsimp only at hS); obtain ⟨hS0, hS1⟩ := hS; go_simp; first | done | (with_reducible rfl)
  try simp only [Act.put, ly1, ly2, ly3]
  refine onlyH (i := 13) rfl (by kernel_rfl) rfl (fun K hK => ?_)
  go_simp
  refine (loose_lies hs1).mono ?_
  rintro e w1' ⟨rfl, h1⟩
  rw [h1]
  clear h1
  refine hK.out _ _ (⟨c5, c3⟩) (fun hHeld => ?_)
  clear hK K
  try simp only [Act.put, ly1, ly2, ly3]
  refine takeH (i := 19) (v := ?_) rfl (by kernel_rfl) (by kernel_rfl) (by kernel_rfl) (fun _ _ _ h => h) rfl ?_ hHeld ?_
  rotate_left
  · intro w hS; (try dsimp only at hS); obtain ⟨hS0, hS1⟩ := hS; go_simp; first | done | (with_reducible rfl)
  try simp only [Act.put, ly1, ly2, ly3]
  refine takeH (i := 20) (v := ?_) rfl (by kernel_rfl) (by kernel_rfl) (by kernel_rfl) (fun _ _ _ h => h) rfl ?_ hHeld ?_
  rotate_left
  · intro w hS; (try dsimp only at hS); obtain ⟨hS0, hS1⟩ := hS; go_simp; first | done | (with_reducible rfl)
  try simp only [Act.put, ly1, ly2, ly3]
  refine wpAnyH_done (by kernel_rfl) ?_ _
  clear hHeld
  go_wp2_with fail
  refine (names_stands hs1 (by omega)).mono ?_
  rintro e w3 ⟨vn, rfl, hvn, hs3, hc3⟩
  obtain ⟨na, ncap, rfl⟩ := own_shape hvn
  have hcw3 : Chg (fun _ => False) w w3 := hdr.then hc3
  have hb3 := hcw3.keep HBL.out (fun h => h)
  have d1 := cell_of hb3 1
  have n3 : ((S.dir.length : Int) != (S.dir.length : Int)) = false := by simp
  have HVN := hide hvn
  have HS3 := hide hs3
  have HC3 := hide hcw3
  clear hvn hs3 hs1 hc3 hcw3 hdr c3 c5 hb3
  go_wp2_with fail
  go_loopw [6] (fun i wr => ∃ j : Nat, i = .int .i64 (j : Int) ∧ j ≤ S.dir.length ∧ Chg (fun _ => False) w3 wr)
    (fun i _ => S.dir.length - (intOf i).toNat)
  case atStart => exact ⟨0, rfl, by omega, Chg.refl _ _⟩
  case round =>
    clear d1
    obtain ⟨j, rfl, hj, hcr⟩ := hrel
    have hcw : Chg (fun _ => False) w wr := HC3.out.then hcr
    have hr := HH.out.keep hcw (fun _ _ h => h)
    have hst := HS3.out.keep hcr (fun _ _ h => h)
    by_cases hlt : j < S.dir.length
    · obtain ⟨gn, rfl, -, -, hcn⟩ := own_pos (own_keep HVN.out hcr (fun _ _ h => h)) (by omega)
      have x1 := hcn j (.string (strB S.dir[j].1)) (by simp [tc, hlt])
      have hdrow := hr.dir
      rw [hdv] at hdrow
      obtain ⟨gd, rfl, -, -, hcd⟩ := own_pos hdrow (by omega)
      have x2 := hcd _ _ (nc_at S.dir j hlt).1
      have hbw := hcw.keep HBL.out (fun h => h)
      have x3 := cell_of hbw 1
      have hne := nm_eq (a := S.dir[j].1) (b := S.dir[j].1) rfl
      have hsz := size_lies (hst.keep ((Chg.refl (fun _ => False) wr).drew) (fun _ _ h => h)) S.dir[j].1
      have hrs := rSize_any _ (hr.keep ((Chg.refl (fun _ => False) wr).drew) (fun _ _ h => h)) HOK.out (by omega) S.dir[j].1
      generalize S.dir[j].1 = nm at *
      have hr1 : (0 : Int) ≤ (j : Int) := by omega
      have hr2 : (j : Int) < (S.dir.length : Int) := by omega
      have n4 : (S.size nm != S.size nm) = false := by simp
      clear hcn hcd hdrow hbw hr hst
      go_wp2_with fail
      refine wp_region_held_drew (S := fun W => W.cell? ⟨gn, j, none⟩ = some (.string (strB nm)) ∧ W.cell? ⟨r, 1, none⟩ = some (.slice (some ⟨gd, 0, none⟩) S.dir.length dcap) ∧ W.cell? ⟨gd, j * 2, none⟩ = some (.string (strB nm))) (by kernel_rfl) (⟨x1, x3, x2⟩) (fun hHeld => ?_)
      refine takeH (i := 0) (v := ?_) rfl (by kernel_rfl) (by kernel_rfl) (by kernel_rfl) (fun _ _ _ h => h) rfl ?_ hHeld ?_
      rotate_left
      · intro w hS; (try dsimp only at hS); obtain ⟨hS0, hS1, hS2⟩ := hS; go_simp; first | done | (with_reducible rfl)
      try simp only [Act.put, ly1, ly2, ly3]
      refine takeH (i := 1) (v := ?_) rfl (by kernel_rfl) (by kernel_rfl) (by kernel_rfl) (fun _ _ _ h => h) rfl ?_ hHeld ?_
      rotate_left
      · intro w hS; (try dsimp only at hS); obtain ⟨hS0, hS1, hS2⟩ := hS; go_simp; first | done | (with_reducible rfl)
      try simp only [Act.put, ly1, ly2, ly3]
      refine takeH (i := 2) (v := ?_) rfl (by kernel_rfl) (by kernel_rfl) (by kernel_rfl) (fun _ _ _ h => h) rfl ?_ hHeld ?_
      rotate_left
      · intro w hS; (try dsimp only at hS); obtain ⟨hS0, hS1, hS2⟩ := hS; go_simp; first | done | (with_reducible rfl)
      try simp only [Act.put, ly1, ly2, ly3]
      refine takeH (i := 3) (v := ?_) rfl (by kernel_rfl) (by kernel_rfl) (by kernel_rfl) (fun _ _ _ h => h) rfl ?_ hHeld ?_
      rotate_left
      · intro w hS; (try dsimp only at hS); obtain ⟨hS0, hS1, hS2⟩ := hS; go_simp; first | done | (with_reducible rfl)
      try simp only [Act.put, ly1, ly2, ly3]
      refine takeH (i := 4) (v := ?_) rfl (by kernel_rfl) (by kernel_rfl) (by kernel_rfl) (fun _ _ _ h => h) rfl ?_ hHeld ?_
      rotate_left
      · intro w hS; (try dsimp only at hS); obtain ⟨hS0, hS1, hS2⟩ := hS; go_simp; first | done | (with_reducible rfl)
      try simp only [Act.put, ly1, ly2, ly3]
      refine takeH (i := 5) (v := ?_) rfl (by kernel_rfl) (by kernel_rfl) (by kernel_rfl) (fun _ _ _ h => h) rfl ?_ hHeld ?_
      rotate_left
      · intro w hS; (try dsimp only at hS); obtain ⟨hS0, hS1, hS2⟩ := hS; go_simp; first | done | (with_reducible rfl)
      try simp only [Act.put, ly1, ly2, ly3]
      refine takeH (i := 6) (v := ?_) rfl (by kernel_rfl) (by kernel_rfl) (by kernel_rfl) (fun _ _ _ h => h) rfl ?_ hHeld ?_
      rotate_left
      · intro w hS; (try dsimp only at hS); obtain ⟨hS0, hS1, hS2⟩ := hS; go_simp; first | done | (with_reducible rfl)
      try simp only [Act.put, ly1, ly2, ly3]
      refine takeH (i := 7) (v := ?_) rfl (by kernel_rfl) (by kernel_rfl) (by kernel_rfl) (fun _ _ _ h => h) rfl ?_ hHeld ?_
      rotate_left
      · intro w hS; (try dsimp only at hS); obtain ⟨hS0, hS1, hS2⟩ := hS; go_simp; first | done | (with_reducible rfl)
      try simp only [Act.put, ly1, ly2, ly3]
      refine takeH (i := 8) (v := ?_) rfl (by kernel_rfl) (by kernel_rfl) (by kernel_rfl) (fun _ _ _ h => h) rfl ?_ hHeld ?_
      rotate_left
      · intro w hS; (try dsimp only at hS); obtain ⟨hS0, hS1, hS2⟩ := hS; go_simp; first | done | (with_reducible rfl)
      try simp only [Act.put, ly1, ly2, ly3]
      refine takeH (i := 9) (v := ?_) rfl (by kernel_rfl) (by kernel_rfl) (by kernel_rfl) (fun _ _ _ h => h) rfl ?_ hHeld ?_
      rotate_left
      · intro w hS; (try dsimp only at hS); obtain ⟨hS0, hS1, hS2⟩ := hS; go_simp; first | done | (with_reducible rfl)
      try simp only [Act.put, ly1, ly2, ly3]
      refine takeH (i := 10) (v := ?_) rfl (by kernel_rfl) (by kernel_rfl) (by kernel_rfl) (fun _ _ _ h => h) rfl ?_ hHeld ?_
      rotate_left
      · intro w hS; (try dsimp only at hS); obtain ⟨hS0, hS1, hS2⟩ := hS; go_simp; first | done | (with_reducible rfl)
      try simp only [Act.put, ly1, ly2, ly3]
      refine takeH (i := 11) (v := ?_) rfl (by kernel_rfl) (by kernel_rfl) (by kernel_rfl) (fun _ _ _ h => h) rfl ?_ hHeld ?_
      rotate_left
      · intro w hS; (try dsimp only at hS); obtain ⟨hS0, hS1, hS2⟩ := hS; go_simp; first | done | (with_reducible rfl)
      try simp only [Act.put, ly1, ly2, ly3]
      refine takeH (i := 12) (v := ?_) rfl (by kernel_rfl) (by kernel_rfl) (by kernel_rfl) (fun _ _ _ h => h) rfl ?_ hHeld ?_
      rotate_left
      · intro w hS; (try dsimp only at hS); obtain ⟨hS0, hS1, hS2⟩ := hS; go_simp; first | done | (with_reducible rfl)
      try simp only [Act.put, ly1, ly2, ly3]
      refine takeH (i := 13) (v := ?_) rfl (by kernel_rfl) (by kernel_rfl) (by kernel_rfl) (fun _ _ _ h => h) rfl ?_ hHeld ?_
      rotate_left
      · intro w hS; (try dsimp only at hS); obtain ⟨hS0, hS1, hS2⟩ := hS; go_simp; first | done | (with_reducible rfl)
      try simp only [Act.put, ly1, ly2, ly3]
      refine takeH (i := 14) (v := ?_) rfl (by kernel_rfl) (by kernel_rfl) (by kernel_rfl) (fun _ _ _ h => h) rfl ?_ hHeld ?_
      rotate_left
      · intro w hS; (try dsimp only at hS); obtain ⟨hS0, hS1, hS2⟩ := hS; go_simp; first | done | (with_reducible rfl)
      try simp only [Act.put, ly1, ly2, ly3]
      refine takeH (i := 15) (v := ?_) rfl (by kernel_rfl) (by kernel_rfl) (by kernel_rfl) (fun _ _ _ h => h) rfl ?_ hHeld ?_
      rotate_left
      · intro w hS; (try dsimp only at hS); obtain ⟨hS0, hS1, hS2⟩ := hS; go_simp; first | done | (with_reducible rfl)
      try simp only [Act.put, ly1, ly2, ly3]
      refine takeH (i := 16) (v := ?_) rfl (by kernel_rfl) (by kernel_rfl) (by kernel_rfl) (fun _ _ _ h => h) rfl ?_ hHeld ?_
      rotate_left
      · intro w hS; (try dsimp only at hS); obtain ⟨hS0, hS1, hS2⟩ := hS; go_simp; first | done | (with_reducible rfl)
      try simp only [Act.put, ly1, ly2, ly3]
      refine takeH (i := 17) (v := ?_) rfl (by kernel_rfl) (by kernel_rfl) (by kernel_rfl) (fun _ _ _ h => h) rfl ?_ hHeld ?_
      rotate_left
      · intro w hS; (try dsimp only at hS); obtain ⟨hS0, hS1, hS2⟩ := hS; go_simp; first | done | (with_reducible rfl)
      try simp only [Act.put, ly1, ly2, ly3]
      refine takeH (i := 18) (v := ?_) rfl (by kernel_rfl) (by kernel_rfl) (by kernel_rfl) (fun _ _ _ h => h) rfl ?_ hHeld ?_
      rotate_left
      · intro w hS; (try dsimp only at hS); obtain ⟨hS0, hS1, hS2⟩ := hS; go_simp; first | done | (with_reducible rfl)
      try simp only [Act.put, ly1, ly2, ly3]
      refine takeH (i := 20) (v := ?_) rfl (by kernel_rfl) (by kernel_rfl) (by kernel_rfl) (fun _ _ _ h => h) rfl ?_ hHeld ?_
      rotate_left
      · intro w hS; (try dsimp only at hS); obtain ⟨hS0, hS1, hS2⟩ := hS; go_simp; first | done | (with_reducible rfl)
      try simp only [Act.put, ly1, ly2, ly3]
      refine takeH (i := 21) (v := ?_) rfl (by kernel_rfl) (by kernel_rfl) (by kernel_rfl) (fun _ _ _ h => h) rfl ?_ hHeld ?_
      rotate_left
      · intro w hS; (try dsimp only at hS); obtain ⟨hS0, hS1, hS2⟩ := hS; go_simp; first | done | (with_reducible rfl)
      try simp only [Act.put, ly1, ly2, ly3]
      refine takeH (i := 22) (v := ?_) rfl (by kernel_rfl) (by kernel_rfl) (by kernel_rfl) (fun _ _ _ h => h) rfl ?_ hHeld ?_
      rotate_left
      · intro w hS; (try dsimp only at hS); obtain ⟨hS0, hS1, hS2⟩ := hS; go_simp; first | done | (with_reducible rfl)
      try simp only [Act.put, ly1, ly2, ly3]
      refine takeH (i := 23) (v := ?_) rfl (by kernel_rfl) (by kernel_rfl) (by kernel_rfl) (fun _ _ _ h => h) rfl ?_ hHeld ?_
      rotate_left
      · intro w hS; (try dsimp only at hS); obtain ⟨hS0, hS1, hS2⟩ := hS; go_simp; first | done | (with_reducible rfl)
      try simp only [Act.put, ly1, ly2, ly3]
      refine takeH (i := 24) (v := ?_) rfl (by kernel_rfl) (by kernel_rfl) (by kernel_rfl) (fun _ _ _ h => h) rfl ?_ hHeld ?_
      rotate_left
      · intro w hS; (try dsimp only at hS); obtain ⟨hS0, hS1, hS2⟩ := hS; go_simp; first | done | (with_reducible rfl)
      try simp only [Act.put, ly1, ly2, ly3]
      refine onlyH (i := 19) rfl (by kernel_rfl) rfl (fun K hK => ?_)
      go_simp
      refine hsz.mono ?_
      rintro e w5 ⟨rfl, h5⟩
      rw [h5]
      clear h5
      refine hK.out _ _ (⟨x1, x3, x2⟩) (fun hHeld => ?_)
      clear hK K
      try simp only [Act.put, ly1, ly2, ly3]
      refine onlyH (i := 25) rfl (by kernel_rfl) rfl (fun K hK => ?_)
      go_simp
      refine hrs.mono ?_
      rintro e w6 ⟨rfl, h6⟩
      rw [h6]
      clear h6
      refine hK.out _ _ (⟨x1, x3, x2⟩) (fun hHeld => ?_)
      clear hK K
      try simp only [Act.put, ly1, ly2, ly3]
      refine takeH (i := 26) (v := ?_) rfl (by kernel_rfl) (by kernel_rfl) (by kernel_rfl) (fun _ _ _ h => h) rfl ?_ hHeld ?_
      rotate_left
      · intro w hS; (try dsimp only at hS); obtain ⟨hS0, hS1, hS2⟩ := hS; go_simp; first | done | (with_reducible rfl)
      try simp only [Act.put, ly1, ly2, ly3]
      refine takeH (i := 27) (v := ?_) rfl (by kernel_rfl) (by kernel_rfl) (by kernel_rfl) (fun _ _ _ h => h) rfl ?_ hHeld ?_
      rotate_left
      · intro w hS; (try dsimp only at hS); obtain ⟨hS0, hS1, hS2⟩ := hS; go_simp; first | done | (with_reducible rfl)
      try simp only [Act.put, ly1, ly2, ly3]
      refine wpAnyH_done (by kernel_rfl) ?_ _
      clear hHeld
      go_wp2_with fail
      exact ⟨⟨j + 1, by go_num, by omega, hcr.drew⟩, by simp [intOf]; omega⟩
    · go_wp2_with fail
      refine (size_lies hst [110, 111, 110, 101]).mono ?_
      rintro e w5 ⟨rfl, h5⟩
      rw [h5]
      clear h5
      go_wp2_with fail
      refine (rSize_any _ hr HOK.out (by omega) [110, 111, 110, 101]).mono ?_
      rintro e w6 ⟨rfl, h6⟩
      rw [h6]
      clear h6
      have n5 : (S.size [110, 111, 110, 101] == S.size [110, 111, 110, 101]) = true := by simp
      go_wp2
      go_ret
      exact ⟨rfl, hcw⟩

set_option maxRecDepth 20000 in
set_option maxHeartbeats 3200000 in
theorem full_any {B d r : Nat} {F R : Nat → Prop} {S : Dk} {G : Rg} (w : World) (hs : Stands B w F d S) (h : RR B w R r S G) (hB : B ≤ w.heap.size) (hb : S.bulk < 274877906944) :
    Calls Try.prog 15 #[.pointer (some ⟨d, 0, none⟩), .pointer (some ⟨r, 0, none⟩)] w fun e w' => e = .returned (.bool true) ∧ Below B w w' := by
  have hok := hs.ok
  go_enter Try.func15, Try.ntmps15
  go_wp2_with fail
  refine (crash_lies hs hB 1099511627776 0 (by omega)).mono ?_
  rintro e w1 ⟨dx, FX, rfl, hsx, hxn, hc1⟩
  have h1 := h.keep hc1 (fun _ _ h => h)
  have hFl := fun k hk => (hs.2.1 k hk).2
  go_wp2_with fail
  refine (rCrash_any w1 h1 hok (by omega) 1099511627776 0).mono ?_
  rintro e w2 ⟨y, GY, RY, rfl, hy, hyk, hyR, hc2⟩
  have hsx2 := hsx.keep hc2 (fun _ _ h => h)
  have hbc := bulk_crash (S := S) 1099511627776 0
  have hcal := calm_crash (S := S) 1099511627776 0
  have hnm : ∀ p ∈ (S.crash 1099511627776 0).dir, isNm p.1 = true := hsx.2.2.dir hsx.ok
  have hdisj : ∀ k, FX k → ¬ RY k := fun k hk hr => by
    have a1 := hxn k hk
    have a2 := (hsx.2.1 k hk).2
    rcases hyR k hr with a3 | a3
    · have := (h.low k a3).2
      omega
    · omega
  have hokT := hsx.ok
  have hbel1 : Below B w w1 := chg_below hc1 hB
  have hbel2 : Below B w w2 := hbel1.trans (chg_below hc2 (Nat.le_trans hB hbel1.size))
  clear hs h h1 hsx hFl hc1 hc2 hbel1 hxn hyR hyk hok
  generalize S.crash 1099511627776 0 = T at *
  have hdlT := dir_le hokT
  have HY := hide hy
  have HOK := hide hokT
  have HNM := hide hnm
  clear hy hokT hnm
  have hal := alike_any w2 hsx2 HY.out (by omega)
  go_wp2_with fail
  refine hal.mono ?_
  rintro e w3 ⟨rfl, hc3⟩
  have hy3 := HY.out.keep hc3 (fun _ _ h => h)
  have hs3 := hsx2.keep hc3 (fun _ _ h => h)
  have hbel3 := hbel2.trans (chg_below hc3 (Nat.le_trans hB hbel2.size))
  obtain ⟨da, dcap, hdv⟩ := own_shape HY.out.dir
  obtain ⟨fa, fcap, hfv⟩ := own_shape HY.out.fls
  have b3 := hy3.blk
  rw [rcells, hdv, hfv] at b3
  have c1 := cell_of b3 1
  have HY3 := hide hy3
  clear hal hc3 hsx2 hbel2 HY hy3 b3
  go_wp2_with fail
  go_loopw [8] (fun i wr => ∃ (j : Nat) (F' : Nat → Prop) (T' : Dk), i = .int .i64 (j : Int) ∧ j ≤ T.dir.length ∧ Stands B wr F' dx T' ∧ Calm T' ∧ T'.dir = T.dir ∧ (∀ f, T'.bytes f = T.bytes f) ∧ T'.bulk ≤ T.bulk + j ∧ (∀ k, F' k → ¬ RY k) ∧ RR B wr RY y T GY ∧ Below B w wr)
    (fun i _ => T.dir.length - (intOf i).toNat)
  case atStart => exact ⟨0, FX, T, rfl, by omega, hs3, hcal, rfl, fun _ => rfl, by omega, hdisj, HY3.out, hbel3⟩
  case round =>
    clear c1 hs3 HY3 hbel3 hdisj hcal
    obtain ⟨j, F', T', rfl, hj, hst, hcal, hdir, hbyt, hbu, hdis, hy, hbel⟩ := hrel
    have hz := Nat.le_trans hB hbel.size
    have hbl := hy.blk
    rw [rcells, hdv, hfv] at hbl
    have c0 := cell_of hbl 0
    have c1 := cell_of hbl 1
    by_cases hlt : j < T.dir.length
    · have hdrow := hy.dir
      rw [hdv] at hdrow
      obtain ⟨gd, rfl, -, hgdl, hcd⟩ := own_pos hdrow (by omega)
      have x1 := hcd _ _ (nc_at T.dir j hlt).1
      have x2 := hcd _ _ (nc_at T.dir j hlt).2
      have hmem := List.getElem_mem hlt
      have hlk : look T'.dir T.dir[j].1 = some T.dir[j].2 := by rw [hdir]; exact mem_look HOK.out.sortD hmem
      have hnm := HNM.out _ hmem
      have hfi : T.dir[j].2 < T.files.length := HOK.out.idD (List.mem_map.2 ⟨_, hmem, rfl⟩)
      have hrd := hcal.read hnm hlk
      have hbf : T'.bytes T.dir[j].2 = T.files[T.dir[j].2].b := by rw [hbyt]; exact bytes_of (List.getElem?_eq_getElem hfi)
      rw [hbf] at hrd
      obtain ⟨g1, g2, g3, g4⟩ := hcal.begun
      have hfrow := hy.fls
      rw [hfv] at hfrow
      obtain ⟨gf, rfl, -, hgfl, hcf⟩ := own_pos hfrow (by omega)
      have x3 := hcf _ _ (fc_at T.files T.dir[j].2 hfi).1
      have hbb := bulk_begun T'
      have hrdl := read_lies hst hz T.dir[j].1 (by omega)
      rw [hrd] at hrdl
      have HG2 := hide (g2.trans hdir)
      have HG3 := hide (show ∀ f, T'.begun.bytes f = T.bytes f from fun f => (g3 f).trans (hbyt f))
      generalize T.files[T.dir[j].2].b = fb at *
      generalize hfn : T.dir[j].2 = fi at *
      generalize T.dir[j].1 = nm at *
      have hr1 : (0 : Int) ≤ (j : Int) := by omega
      have hr2 : (j : Int) < (T.dir.length : Int) := by omega
      have hr3 : (0 : Int) ≤ (fi : Int) := by omega
      have hr4 : (fi : Int) < (T.files.length : Int) := by omega
      clear hcd hcf hdrow hfrow hlk hnm hmem hrd hbf g2 g3 g4 hdir hbyt hfn
      go_wp2_with fail
      refine hrdl.mono ?_
      rintro e w5 ⟨v, rfl, hrow, F5, hs5, hF5, hc5, hv5⟩
      have hbel5 := hbel.trans (hst.below hz hc5)
      have hdl := fun k hk => (hy.low k hk).2
      have hy5 := hy.keep hc5 (fun k hk hf => hdis k hf hk)
      have hsl := sl_of_own hrow
      have hstr : (convert 33 9 v).run Try.prog w5.drew = .ok (.string (strB fb)) w5.drew := run_str w5.drew v _ (hsl.keep ((Chg.refl (fun _ => False) _).drew) (fun _ _ h => h))
      have hdis5 : ∀ k, F5 k → ¬ RY k := fun k hk hr => by
        rcases hF5 k hk with h | h
        · exact hdis k h hr
        · have := hdl k hr
          omega
      have hbl5 := hy5.blk
      rw [rcells, hdv, hfv] at hbl5
      have e0 := cell_of hbl5 0
      have e1 := cell_of hbl5 1
      have hngd : gd < wr.heap.size ∧ RY gd := ⟨hgdl, hy.dirR gd (by rw [hdv]; rfl)⟩
      have hngf : gf < wr.heap.size ∧ RY gf := ⟨hgfl, hy.flsR gf (by rw [hfv]; rfl)⟩
      have e2 := (World.cell?_of_block (hc5.block gd hngd.1 (fun hf => hdis gd hf hngd.2))).trans x2
      have e3 := (World.cell?_of_block (hc5.block gf hngf.1 (fun hf => hdis gf hf hngf.2))).trans x3
      have hne := nm_eq (a := fb) (b := fb) rfl
      have hs5' := hs5.keep ((Chg.refl (fun _ => False) w5).drew) (fun _ _ h => h)
      have hy5' := hy5.keep ((Chg.refl (fun _ => False) w5).drew) (fun _ _ h => h)
      have HS5 := hide hs5'
      have HY5 := hide hy5'
      clear hs5 hs5' hy5 hy5' hrow hsl hst hy hbl hbl5 c0 c1 x1 x2 x3 hc5 hrdl
      go_wp2_with fail
      refine wp_region_held_drew (S := fun W => (convert 33 9 v).run Try.prog W = .ok (.string (strB fb)) W ∧ W.cell? ⟨y, 0, none⟩ = some (.slice (some ⟨gf, 0, none⟩) T.files.length fcap) ∧ W.cell? ⟨y, 1, none⟩ = some (.slice (some ⟨gd, 0, none⟩) T.dir.length dcap) ∧ W.cell? ⟨gd, j * 2 + 1, none⟩ = some (.int .i64 (fi : Int)) ∧ W.cell? ⟨gf, fi * 2, none⟩ = some (.string (strB fb))) (by kernel_rfl) (⟨hstr, e0, e1, e2, e3⟩) (fun hHeld => ?_)
      refine takeH (i := 0) (v := ?_) rfl (by kernel_rfl) (by kernel_rfl) (by kernel_rfl) (fun _ _ _ h => h) rfl ?_ hHeld ?_
      rotate_left
      · intro w hS; (try dsimp only at hS); obtain ⟨hS0, hS1, hS2, hS3, hS4⟩ := hS; go_simp; first | done | (with_reducible rfl)
      try simp only [Act.put, ly1, ly2, ly3]
      refine takeH (i := 1) (v := ?_) rfl (by kernel_rfl) (by kernel_rfl) (by kernel_rfl) (fun _ _ _ h => h) rfl ?_ hHeld ?_
      rotate_left
      · intro w hS; (try dsimp only at hS); obtain ⟨hS0, hS1, hS2, hS3, hS4⟩ := hS; go_simp; first | done | (with_reducible rfl)
      try simp only [Act.put, ly1, ly2, ly3]
      refine takeH (i := 2) (v := ?_) rfl (by kernel_rfl) (by kernel_rfl) (by kernel_rfl) (fun _ _ _ h => h) rfl ?_ hHeld ?_
      rotate_left
      · intro w hS; (try dsimp only at hS); obtain ⟨hS0, hS1, hS2, hS3, hS4⟩ := hS; go_simp; first | done | (with_reducible rfl)
      try simp only [Act.put, ly1, ly2, ly3]
      refine takeH (i := 3) (v := ?_) rfl (by kernel_rfl) (by kernel_rfl) (by kernel_rfl) (fun _ _ _ h => h) rfl ?_ hHeld ?_
      rotate_left
      · intro w hS; (try dsimp only at hS); obtain ⟨hS0, hS1, hS2, hS3, hS4⟩ := hS; go_simp; first | done | (with_reducible rfl)
      try simp only [Act.put, ly1, ly2, ly3]
      refine takeH (i := 4) (v := ?_) rfl (by kernel_rfl) (by kernel_rfl) (by kernel_rfl) (fun _ _ _ h => h) rfl ?_ hHeld ?_
      rotate_left
      · intro w hS; (try dsimp only at hS); obtain ⟨hS0, hS1, hS2, hS3, hS4⟩ := hS; go_simp; first | done | (with_reducible rfl)
      try simp only [Act.put, ly1, ly2, ly3]
      refine takeH (i := 5) (v := ?_) rfl (by kernel_rfl) (by kernel_rfl) (by kernel_rfl) (fun _ _ _ h => h) rfl ?_ hHeld ?_
      rotate_left
      · intro w hS; (try dsimp only at hS); obtain ⟨hS0, hS1, hS2, hS3, hS4⟩ := hS; go_simp; first | done | (with_reducible rfl)
      try simp only [Act.put, ly1, ly2, ly3]
      refine takeH (i := 6) (v := ?_) rfl (by kernel_rfl) (by kernel_rfl) (by kernel_rfl) (fun _ _ _ h => h) rfl ?_ hHeld ?_
      rotate_left
      · intro w hS; (try dsimp only at hS); obtain ⟨hS0, hS1, hS2, hS3, hS4⟩ := hS; go_simp; first | done | (with_reducible rfl)
      try simp only [Act.put, ly1, ly2, ly3]
      refine takeH (i := 7) (v := ?_) rfl (by kernel_rfl) (by kernel_rfl) (by kernel_rfl) (fun _ _ _ h => h) rfl ?_ hHeld ?_
      rotate_left
      · intro w hS; (try dsimp only at hS); obtain ⟨hS0, hS1, hS2, hS3, hS4⟩ := hS; go_simp; first | done | (with_reducible rfl)
      try simp only [Act.put, ly1, ly2, ly3]
      refine takeH (i := 8) (v := ?_) rfl (by kernel_rfl) (by kernel_rfl) (by kernel_rfl) (fun _ _ _ h => h) rfl ?_ hHeld ?_
      rotate_left
      · intro w hS; (try dsimp only at hS); obtain ⟨hS0, hS1, hS2, hS3, hS4⟩ := hS; go_simp; first | done | (with_reducible rfl)
      try simp only [Act.put, ly1, ly2, ly3]
      refine takeH (i := 9) (v := ?_) rfl (by kernel_rfl) (by kernel_rfl) (by kernel_rfl) (fun _ _ _ h => h) rfl ?_ hHeld ?_
      rotate_left
      · intro w hS; (try dsimp only at hS); obtain ⟨hS0, hS1, hS2, hS3, hS4⟩ := hS; go_simp; first | done | (with_reducible rfl)
      try simp only [Act.put, ly1, ly2, ly3]
      refine takeH (i := 10) (v := ?_) rfl (by kernel_rfl) (by kernel_rfl) (by kernel_rfl) (fun _ _ _ h => h) rfl ?_ hHeld ?_
      rotate_left
      · intro w hS; (try dsimp only at hS); obtain ⟨hS0, hS1, hS2, hS3, hS4⟩ := hS; go_simp; first | done | (with_reducible rfl)
      try simp only [Act.put, ly1, ly2, ly3]
      refine takeH (i := 11) (v := ?_) rfl (by kernel_rfl) (by kernel_rfl) (by kernel_rfl) (fun _ _ _ h => h) rfl ?_ hHeld ?_
      rotate_left
      · intro w hS; (try dsimp only at hS); obtain ⟨hS0, hS1, hS2, hS3, hS4⟩ := hS; go_simp; first | done | (with_reducible rfl)
      try simp only [Act.put, ly1, ly2, ly3]
      refine takeH (i := 12) (v := ?_) rfl (by kernel_rfl) (by kernel_rfl) (by kernel_rfl) (fun _ _ _ h => h) rfl ?_ hHeld ?_
      rotate_left
      · intro w hS; (try dsimp only at hS); obtain ⟨hS0, hS1, hS2, hS3, hS4⟩ := hS; go_simp; first | done | (with_reducible rfl)
      try simp only [Act.put, ly1, ly2, ly3]
      refine takeH (i := 13) (v := ?_) rfl (by kernel_rfl) (by kernel_rfl) (by kernel_rfl) (fun _ _ _ h => h) rfl ?_ hHeld ?_
      rotate_left
      · intro w hS; (try dsimp only at hS); obtain ⟨hS0, hS1, hS2, hS3, hS4⟩ := hS; go_simp; first | done | (with_reducible rfl)
      try simp only [Act.put, ly1, ly2, ly3]
      refine takeH (i := 14) (v := ?_) rfl (by kernel_rfl) (by kernel_rfl) (by kernel_rfl) (fun _ _ _ h => h) rfl ?_ hHeld ?_
      rotate_left
      · intro w hS; (try dsimp only at hS); obtain ⟨hS0, hS1, hS2, hS3, hS4⟩ := hS; go_simp; first | done | (with_reducible rfl)
      try simp only [Act.put, ly1, ly2, ly3]
      refine takeH (i := 15) (v := ?_) rfl (by kernel_rfl) (by kernel_rfl) (by kernel_rfl) (fun _ _ _ h => h) rfl ?_ hHeld ?_
      rotate_left
      · intro w hS; (try dsimp only at hS); obtain ⟨hS0, hS1, hS2, hS3, hS4⟩ := hS; go_simp; first | done | (with_reducible rfl)
      try simp only [Act.put, ly1, ly2, ly3]
      refine takeH (i := 16) (v := ?_) rfl (by kernel_rfl) (by kernel_rfl) (by kernel_rfl) (fun _ _ _ h => h) rfl ?_ hHeld ?_
      rotate_left
      · intro w hS; (try dsimp only at hS); obtain ⟨hS0, hS1, hS2, hS3, hS4⟩ := hS; go_simp; first | done | (with_reducible rfl)
      try simp only [Act.put, ly1, ly2, ly3]
      refine takeH (i := 17) (v := ?_) rfl (by kernel_rfl) (by kernel_rfl) (by kernel_rfl) (fun _ _ _ h => h) rfl ?_ hHeld ?_
      rotate_left
      · intro w hS; (try dsimp only at hS); obtain ⟨hS0, hS1, hS2, hS3, hS4⟩ := hS; go_simp; first | done | (with_reducible rfl)
      try simp only [Act.put, ly1, ly2, ly3]
      refine takeH (i := 18) (v := ?_) rfl (by kernel_rfl) (by kernel_rfl) (by kernel_rfl) (fun _ _ _ h => h) rfl ?_ hHeld ?_
      rotate_left
      · intro w hS; (try dsimp only at hS); obtain ⟨hS0, hS1, hS2, hS3, hS4⟩ := hS; go_simp; first | done | (with_reducible rfl)
      try simp only [Act.put, ly1, ly2, ly3]
      refine takeH (i := 19) (v := ?_) rfl (by kernel_rfl) (by kernel_rfl) (by kernel_rfl) (fun _ _ _ h => h) rfl ?_ hHeld ?_
      rotate_left
      · intro w hS; (try dsimp only at hS); obtain ⟨hS0, hS1, hS2, hS3, hS4⟩ := hS; go_simp; first | done | (with_reducible rfl)
      try simp only [Act.put, ly1, ly2, ly3]
      refine takeH (i := 20) (v := ?_) rfl (by kernel_rfl) (by kernel_rfl) (by kernel_rfl) (fun _ _ _ h => h) rfl ?_ hHeld ?_
      rotate_left
      · intro w hS; (try dsimp only at hS); obtain ⟨hS0, hS1, hS2, hS3, hS4⟩ := hS; go_simp; first | done | (with_reducible rfl)
      try simp only [Act.put, ly1, ly2, ly3]
      refine takeH (i := 21) (v := ?_) rfl (by kernel_rfl) (by kernel_rfl) (by kernel_rfl) (fun _ _ _ h => h) rfl ?_ hHeld ?_
      rotate_left
      · intro w hS; (try dsimp only at hS); obtain ⟨hS0, hS1, hS2, hS3, hS4⟩ := hS; go_simp; first | done | (with_reducible rfl)
      try simp only [Act.put, ly1, ly2, ly3]
      refine wpAnyH_done (by kernel_rfl) ?_ _
      clear hHeld
      go_wp2_with fail
      exact ⟨⟨j + 1, F5, T'.begun, by go_num, by omega, HS5.out, g1, HG2.out, HG3.out, by omega, hdis5, HY5.out, hbel5.drew⟩, by simp [intOf]; omega⟩
    · go_wp2
      go_ret
      exact ⟨rfl, hbel⟩
end Go.Proofs.Ytlejgdjkdbamkaa
