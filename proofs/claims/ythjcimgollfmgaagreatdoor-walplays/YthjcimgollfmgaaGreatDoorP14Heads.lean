/-
  Texts joined: Heads, Recs, Recs2, Group1, Group2.
-/
import Derived.Test.YthjcimgollfmgaaGreatDoorP13Groups
import Derived.Laws.MakeOwn
import Derived.Laws.CopyOwn
import Derived.Test.YthjcimgollfmgaaGreatDoorP2Acts
/-
  What takeWord and takeHead answer. Conditions: the bytes lie there; the table holds its numbers.
-/
namespace Go.Proofs.YthjcimgollfmgaaGreatDoor
open Go.RowKit

theorem sl_at {w : World} {v : Value} {l : List UInt8} (h : Sl w v l) (hne : l ≠ []) : ∃ b off cap, v = .slice (some ⟨b, off, none⟩) l.length cap ∧ l.length ≤ cap ∧ cap ≤ maxLen ∧ b < w.heap.size ∧ ∀ j (hj : j < l.length), w.cell? ⟨b, off + j, none⟩ = some (.int .u8 ((l[j]'hj).toNat : Int)) := by
  obtain ⟨ao, cap, rfl, h1, h2, h3, h4⟩ := h
  obtain ⟨b, off, rfl, hb, hc⟩ := h4 hne
  exact ⟨b, off, cap, rfl, h1, h2, hb, hc⟩
theorem or_sum (i a b : Nat) (hb : b < 2 ^ i) (h : 2 ^ i * a + b < 4294967296) : bits .or .u32 ((2 ^ i * a : Nat) : Int) (b : Int) = ((2 ^ i * a + b : Nat) : Int) := by
  rw [u32_or_nat _ _ (by omega) (by omega), ← Nat.two_pow_add_eq_or_of_lt hb]
set_option maxRecDepth 20000 in
theorem takeWord_any (w : World) (v : Value) (a b c d : UInt8) (r : List UInt8) (h : Sl w v (a :: b :: c :: d :: r)) :
    Calls Tryz.prog 107 #[v] w fun e w' => e = .returned (.int .u32 (unword [a, b, c, d] : Int)) ∧ Below w.heap.size w w' := by
  obtain ⟨g, off, cap, rfl, h1, h2, hg, hc⟩ := sl_at h (by simp)
  have hL4 : 4 ≤ (a :: b :: c :: d :: r).length := by simp
  have c0 := hc 0 (by simp)
  have c1 := hc 1 (by simp)
  have c2 := hc 2 (by simp)
  have c3 := hc 3 (by simp)
  simp only [List.getElem_cons_zero, List.getElem_cons_succ, Nat.add_zero] at c0 c1 c2 c3
  have ha := a.toNat_lt
  have hb := b.toNat_lt
  have hcc := c.toNat_lt
  have hd := d.toNat_lt
  have hw : unword [a, b, c, d] = a.toNat * 16777216 + b.toNat * 65536 + c.toNat * 256 + d.toNat := rfl
  rw [hw]
  clear hw
  clear hc h
  generalize (a :: b :: c :: d :: r).length = L at *
  have l0 : (0 : Int) < (L : Int) := by omega
  have l1 : (1 : Int) < (L : Int) := by omega
  have l2 : (2 : Int) < (L : Int) := by omega
  have l3 : (3 : Int) < (L : Int) := by omega
  unfold maxLen at h2
  generalize a.toNat = a at *
  generalize b.toNat = b at *
  generalize c.toNat = c at *
  generalize d.toNat = d at *
  have l00 : 0 < L := by omega
  have wr : ∀ x : Nat, x < 256 → IntKind.u32.wrap (x : Int) = (x : Int) := fun x hx => by rw [IntKind.wrap_u32]; omega
  have wa := wr a ha
  have wb := wr b hb
  have wc := wr c hcc
  have wd := wr d hd
  obtain ⟨A, hA⟩ : ∃ A, A = 2 ^ 24 * a := ⟨_, rfl⟩
  obtain ⟨B, hB⟩ : ∃ B, B = 2 ^ 16 * b := ⟨_, rfl⟩
  obtain ⟨C, hC⟩ : ∃ C, C = 2 ^ 8 * c := ⟨_, rfl⟩
  have ma : IntKind.u32.wrap ((a : Int) * 16777216) = (A : Int) := by rw [IntKind.wrap_u32, hA]; omega
  have mb : IntKind.u32.wrap ((b : Int) * 65536) = (B : Int) := by rw [IntKind.wrap_u32, hB]; omega
  have mc : IntKind.u32.wrap ((c : Int) * 256) = (C : Int) := by rw [IntKind.wrap_u32, hC]; omega
  obtain ⟨X, hX⟩ : ∃ X, X = A + B := ⟨_, rfl⟩
  obtain ⟨Y, hY⟩ : ∃ Y, Y = X + C := ⟨_, rfl⟩
  obtain ⟨Z, hZ⟩ : ∃ Z, Z = Y + d := ⟨_, rfl⟩
  have o1 : bits .or .u32 (A : Int) (B : Int) = (X : Int) := by
    have := or_sum 24 a B (by omega) (by omega)
    rw [hX, hA]
    exact this
  have o2 : bits .or .u32 (X : Int) (C : Int) = (Y : Int) := by
    have := or_sum 16 (2 ^ 8 * a + b) C (by omega) (by omega)
    rw [show 2 ^ 16 * (2 ^ 8 * a + b) = X by omega] at this
    rw [hY]
    exact this
  have o3 : bits .or .u32 (Y : Int) (d : Int) = (Z : Int) := by
    have := or_sum 8 (2 ^ 16 * a + 2 ^ 8 * b + c) d (by omega) (by omega)
    rw [show 2 ^ 8 * (2 ^ 16 * a + 2 ^ 8 * b + c) = Y by omega] at this
    rw [hZ]
    exact this
  have hT : a * 16777216 + b * 65536 + c * 256 + d = Z := by omega
  rw [hT]
  clear hT hA hB hC hX hY hZ wr
  go_enter Tryz.func107, Tryz.ntmps107
  go_wp2_with fail
  refine wp_region_held_drew (S := fun W => W.cell? ⟨g, off, none⟩ = some (.int .u8 (a : Int)) ∧ W.cell? ⟨g, off + 1, none⟩ = some (.int .u8 (b : Int)) ∧ W.cell? ⟨g, off + 2, none⟩ = some (.int .u8 (c : Int)) ∧ W.cell? ⟨g, off + 3, none⟩ = some (.int .u8 (d : Int))) (by kernel_rfl) (⟨c0, c1, c2, c3⟩) (fun hHeld => ?_)
  refine takeH (i := 0) (v := ?_) rfl (by kernel_rfl) (by kernel_rfl) (by kernel_rfl) (fun _ _ _ h => h) rfl ?_ hHeld ?_
  rotate_left
  · intro w hS; (try dsimp only at hS); obtain ⟨hS0, hS1, hS2, hS3⟩ := hS; go_simp; first | done | (with_reducible rfl)
  try simp only [Act.put, ly1, ly2, ly3]
  refine takeH (i := 1) (v := ?_) rfl (by kernel_rfl) (by kernel_rfl) (by kernel_rfl) (fun _ _ _ h => h) rfl ?_ hHeld ?_
  rotate_left
  · intro w hS; (try dsimp only at hS); obtain ⟨hS0, hS1, hS2, hS3⟩ := hS; go_simp; first | done | (with_reducible rfl)
  try simp only [Act.put, ly1, ly2, ly3]
  refine takeH (i := 2) (v := ?_) rfl (by kernel_rfl) (by kernel_rfl) (by kernel_rfl) (fun _ _ _ h => h) rfl ?_ hHeld ?_
  rotate_left
  · intro w hS; (try dsimp only at hS); obtain ⟨hS0, hS1, hS2, hS3⟩ := hS; go_simp; first | done | (with_reducible rfl)
  try simp only [Act.put, ly1, ly2, ly3]
  refine takeH (i := 3) (v := ?_) rfl (by kernel_rfl) (by kernel_rfl) (by kernel_rfl) (fun _ _ _ h => h) rfl ?_ hHeld ?_
  rotate_left
  · intro w hS; (try dsimp only at hS); obtain ⟨hS0, hS1, hS2, hS3⟩ := hS; go_simp; first | done | (with_reducible rfl)
  try simp only [Act.put, ly1, ly2, ly3]
  refine takeH (i := 4) (v := ?_) rfl (by kernel_rfl) (by kernel_rfl) (by kernel_rfl) (fun _ _ _ h => h) rfl ?_ hHeld ?_
  rotate_left
  · intro w hS; (try dsimp only at hS); obtain ⟨hS0, hS1, hS2, hS3⟩ := hS; go_simp; first | done | (with_reducible rfl)
  try simp only [Act.put, ly1, ly2, ly3]
  refine takeH (i := 5) (v := ?_) rfl (by kernel_rfl) (by kernel_rfl) (by kernel_rfl) (fun _ _ _ h => h) rfl ?_ hHeld ?_
  rotate_left
  · intro w hS; (try dsimp only at hS); obtain ⟨hS0, hS1, hS2, hS3⟩ := hS; go_simp; first | done | (with_reducible rfl)
  try simp only [Act.put, ly1, ly2, ly3]
  refine takeH (i := 6) (v := ?_) rfl (by kernel_rfl) (by kernel_rfl) (by kernel_rfl) (fun _ _ _ h => h) rfl ?_ hHeld ?_
  rotate_left
  · intro w hS; (try dsimp only at hS); obtain ⟨hS0, hS1, hS2, hS3⟩ := hS; go_simp; first | done | (with_reducible rfl)
  try simp only [Act.put, ly1, ly2, ly3]
  refine takeH (i := 7) (v := ?_) rfl (by kernel_rfl) (by kernel_rfl) (by kernel_rfl) (fun _ _ _ h => h) rfl ?_ hHeld ?_
  rotate_left
  · intro w hS; (try dsimp only at hS); obtain ⟨hS0, hS1, hS2, hS3⟩ := hS; go_simp; first | done | (with_reducible rfl)
  try simp only [Act.put, ly1, ly2, ly3]
  refine takeH (i := 8) (v := ?_) rfl (by kernel_rfl) (by kernel_rfl) (by kernel_rfl) (fun _ _ _ h => h) rfl ?_ hHeld ?_
  rotate_left
  · intro w hS; (try dsimp only at hS); obtain ⟨hS0, hS1, hS2, hS3⟩ := hS; go_simp; first | done | (with_reducible rfl)
  try simp only [Act.put, ly1, ly2, ly3]
  refine takeH (i := 9) (v := ?_) rfl (by kernel_rfl) (by kernel_rfl) (by kernel_rfl) (fun _ _ _ h => h) rfl ?_ hHeld ?_
  rotate_left
  · intro w hS; (try dsimp only at hS); obtain ⟨hS0, hS1, hS2, hS3⟩ := hS; go_simp; first | done | (with_reducible rfl)
  try simp only [Act.put, ly1, ly2, ly3]
  refine takeH (i := 10) (v := ?_) rfl (by kernel_rfl) (by kernel_rfl) (by kernel_rfl) (fun _ _ _ h => h) rfl ?_ hHeld ?_
  rotate_left
  · intro w hS; (try dsimp only at hS); obtain ⟨hS0, hS1, hS2, hS3⟩ := hS; go_simp; first | done | (with_reducible rfl)
  try simp only [Act.put, ly1, ly2, ly3]
  refine takeH (i := 11) (v := ?_) rfl (by kernel_rfl) (by kernel_rfl) (by kernel_rfl) (fun _ _ _ h => h) rfl ?_ hHeld ?_
  rotate_left
  · intro w hS; (try dsimp only at hS); obtain ⟨hS0, hS1, hS2, hS3⟩ := hS; go_simp; first | done | (with_reducible rfl)
  try simp only [Act.put, ly1, ly2, ly3]
  refine takeH (i := 12) (v := ?_) rfl (by kernel_rfl) (by kernel_rfl) (by kernel_rfl) (fun _ _ _ h => h) rfl ?_ hHeld ?_
  rotate_left
  · intro w hS; (try dsimp only at hS); obtain ⟨hS0, hS1, hS2, hS3⟩ := hS; go_simp; first | done | (with_reducible rfl)
  try simp only [Act.put, ly1, ly2, ly3]
  refine takeH (i := 13) (v := ?_) rfl (by kernel_rfl) (by kernel_rfl) (by kernel_rfl) (fun _ _ _ h => h) rfl ?_ hHeld ?_
  rotate_left
  · intro w hS; (try dsimp only at hS); obtain ⟨hS0, hS1, hS2, hS3⟩ := hS; go_simp; first | done | (with_reducible rfl)
  try simp only [Act.put, ly1, ly2, ly3]
  refine takeH (i := 14) (v := ?_) rfl (by kernel_rfl) (by kernel_rfl) (by kernel_rfl) (fun _ _ _ h => h) rfl ?_ hHeld ?_
  rotate_left
  · intro w hS; (try dsimp only at hS); obtain ⟨hS0, hS1, hS2, hS3⟩ := hS; go_simp; first | done | (with_reducible rfl)
  try simp only [Act.put, ly1, ly2, ly3]
  refine takeH (i := 15) (v := ?_) rfl (by kernel_rfl) (by kernel_rfl) (by kernel_rfl) (fun _ _ _ h => h) rfl ?_ hHeld ?_
  rotate_left
  · intro w hS; (try dsimp only at hS); obtain ⟨hS0, hS1, hS2, hS3⟩ := hS; go_simp; first | done | (with_reducible rfl)
  try simp only [Act.put, ly1, ly2, ly3]
  refine takeH (i := 16) (v := ?_) rfl (by kernel_rfl) (by kernel_rfl) (by kernel_rfl) (fun _ _ _ h => h) rfl ?_ hHeld ?_
  rotate_left
  · intro w hS; (try dsimp only at hS); obtain ⟨hS0, hS1, hS2, hS3⟩ := hS; go_simp; first | done | (with_reducible rfl)
  try simp only [Act.put, ly1, ly2, ly3]
  refine takeH (i := 17) (v := ?_) rfl (by kernel_rfl) (by kernel_rfl) (by kernel_rfl) (fun _ _ _ h => h) rfl ?_ hHeld ?_
  rotate_left
  · intro w hS; (try dsimp only at hS); obtain ⟨hS0, hS1, hS2, hS3⟩ := hS; go_simp; first | done | (with_reducible rfl)
  try simp only [Act.put, ly1, ly2, ly3]
  refine takeH (i := 18) (v := ?_) rfl (by kernel_rfl) (by kernel_rfl) (by kernel_rfl) (fun _ _ _ h => h) rfl ?_ hHeld ?_
  rotate_left
  · intro w hS; (try dsimp only at hS); obtain ⟨hS0, hS1, hS2, hS3⟩ := hS; go_simp; first | done | (with_reducible rfl)
  try simp only [Act.put, ly1, ly2, ly3]
  refine takeH (i := 19) (v := ?_) rfl (by kernel_rfl) (by kernel_rfl) (by kernel_rfl) (fun _ _ _ h => h) rfl ?_ hHeld ?_
  rotate_left
  · intro w hS; (try dsimp only at hS); obtain ⟨hS0, hS1, hS2, hS3⟩ := hS; go_simp; first | done | (with_reducible rfl)
  try simp only [Act.put, ly1, ly2, ly3]
  refine takeH (i := 20) (v := ?_) rfl (by kernel_rfl) (by kernel_rfl) (by kernel_rfl) (fun _ _ _ h => h) rfl ?_ hHeld ?_
  rotate_left
  · intro w hS; (try dsimp only at hS); obtain ⟨hS0, hS1, hS2, hS3⟩ := hS; go_simp; first | done | (with_reducible rfl)
  try simp only [Act.put, ly1, ly2, ly3]
  refine takeH (i := 21) (v := ?_) rfl (by kernel_rfl) (by kernel_rfl) (by kernel_rfl) (fun _ _ _ h => h) rfl ?_ hHeld ?_
  rotate_left
  · intro w hS; (try dsimp only at hS); obtain ⟨hS0, hS1, hS2, hS3⟩ := hS; go_simp; first | done | (with_reducible rfl)
  try simp only [Act.put, ly1, ly2, ly3]
  refine takeH (i := 22) (v := ?_) rfl (by kernel_rfl) (by kernel_rfl) (by kernel_rfl) (fun _ _ _ h => h) rfl ?_ hHeld ?_
  rotate_left
  · intro w hS; (try dsimp only at hS); obtain ⟨hS0, hS1, hS2, hS3⟩ := hS; go_simp; first | done | (with_reducible rfl)
  try simp only [Act.put, ly1, ly2, ly3]
  refine wpAnyH_done (by kernel_rfl) ?_ _
  go_wp2
  go_ret
  exact ⟨rfl, (Below.refl _ w).drew⟩

theorem four_of {l : List UInt8} (h : 4 ≤ l.length) : ∃ a b c d r, l = a :: b :: c :: d :: r := by
  match l, h with
  | a :: b :: c :: d :: r, _ => exact ⟨a, b, c, d, r, rfl⟩
def zs : List Value := bc (List.replicate 12 0)
theorem splice_zs (q : List UInt8) (_h : q.length ≤ 12) : splice zs 0 (bc q) = bc (q ++ List.replicate (12 - q.length) 0) := by
  unfold splice zs
  rw [List.take_zero, List.nil_append, Nat.zero_add, bc_length, bc_append]
  congr 1
  unfold bc
  rw [← List.map_drop, List.drop_replicate]
theorem sizeOf8 : (Tryz.prog.info? 5).map (·.size) = some 1 := by kernel_rfl
theorem headW_eq (cs : List UInt8 → List UInt8) (l : List UInt8) (s : Nat) (h : unword (((l.take 12 ++ List.replicate (12 - (l.take 12).length) 0).drop 4).take 4) = s) : headW cs l = if 2129920 < s then (0, false) else (s, (l.take 12).isPrefixOf (hdW cs s)) := by
  subst h
  rfl
theorem unword_lt (a b c d : UInt8) : unword [a, b, c, d] < 4294967296 := by
  have := a.toNat_lt
  have := b.toNat_lt
  have := c.toNat_lt
  have := d.toNat_lt
  show a.toNat * 16777216 + b.toNat * 65536 + c.toNat * 256 + d.toNat < 4294967296
  omega
set_option maxRecDepth 20000 in
set_option maxHeartbeats 800000 in
theorem takeHead_any (w : World) (v : Value) (l : List UInt8) (h : Sl w v l) (hT : TabW w) :
    Calls Tryz.prog 84 #[v] w fun e w' => e = .returned (.tuple #[.int .i64 ((headW sum4 l).1 : Int), .bool (headW sum4 l).2]) ∧ Below w.heap.size w w' := by
  obtain ⟨i0, hi, hz0, hz1, hz2⟩ := info_parts Tryz.infoB
  have hcut := cutW_any w v l 12 h (by decide)
  have hmk : ∀ W : World, (Instr.makeSlice 78 (.int .i64 12) (.int .i64 12)).run Tryz.prog W = .ok (.slice (some ⟨W.heap.size, 0, none⟩) 12 12) (W.alloc (.cells zs.toArray 5)) := fun W => by
    have := run_make (P := Tryz.prog) W 78 5 i0 (.int .u8 0) Tryz.underlying78 hi hz0 .i64 .i64 12 12 (by omega) (by omega) (by rw [hz2]; omega) (by omega)
    rw [hz1, show madeCells (Value.int IntKind.u8 0).cells ((12 : Int).toNat * 1) = zs.toArray from by kernel_rfl] at this
    exact this
  have HT := hide hT
  obtain ⟨ao, cap, rfl, -⟩ := h.form
  have hq12 : (l.take 12).length ≤ 12 := by rw [List.length_take]; omega
  have hhe0 := headW_eq sum4 l
  have hl12 : (l.take 12 ++ List.replicate (12 - (l.take 12).length) 0).length = 12 := by rw [List.length_append, List.length_replicate]; omega
  have hsp := splice_zs (l.take 12) hq12
  obtain ⟨a, b, c, d, r, hr⟩ := four_of (l := (l.take 12 ++ List.replicate (12 - (l.take 12).length) 0).drop 4) (by rw [List.length_drop, hl12]; omega)
  have hhe := hhe0 (unword [a, b, c, d]) (by rw [hr]; rfl)
  clear hhe0
  have hlt := unword_lt a b c d
  have htw := fun W v hv => takeWord_any W v a b c d r hv
  rw [← hr] at htw
  have hgen : (l.take 12 ++ List.replicate (12 - (l.take 12).length) 0).drop 4 = a :: b :: c :: d :: r := hr
  generalize unword [a, b, c, d] = sz at *
  generalize headW sum4 l = p at *
  generalize l.take 12 = q at *
  generalize hl12e : q ++ List.replicate (12 - q.length) 0 = l12 at *
  have hr8 : (l12.drop 4).length = 8 := by rw [List.length_drop, hl12]
  have HSP := hide hsp
  have HH := hide hhe
  clear hT h hsp hl12e hgen hr hhe
  go_enter Tryz.func84, Tryz.ntmps84
  go_wp2_with fail
  refine hcut.mono ?_
  rintro e w1 ⟨v1, v2, rfl, hs1, -, hb1⟩
  have hs1' := hs1
  obtain ⟨a1, c1, rfl, q1, q2, -, q4⟩ := hs1'
  have hb2 : Below w.heap.size w (w1.alloc (.cells zs.toArray 5)) := hb1.alloc hb1.size _
  have hbA : Below w1.heap.size w1 (w1.alloc (.cells zs.toArray 5)) := (Below.refl _ w1).alloc (Nat.le_refl _) _
  have hs2 := hs1.keepB hbA
  have HS1 := hide hs1
  clear hs1 hcut
  obtain ⟨w3, hcp, hk3, hb3⟩ : ∃ w3, (Builtin.copy_ #[78, 78] 3 #[.slice (some ⟨w1.heap.size, 0, none⟩) 12 12, .slice a1 q.length c1]).run Tryz.prog (w1.alloc (.cells zs.toArray 5)) = .ok (.int .i64 (q.length : Int)) w3 ∧ w3.heap[w1.heap.size]? = some (.cells (bc l12).toArray 5) ∧ Below w1.heap.size w1 w3 := by
    by_cases hq0 : q = []
    · refine ⟨_, ?_, ?_, hbA⟩
      · rw [run_copy_none (P := Tryz.prog) _ 78 78 3 5 _ a1 12 12 q.length c1 Tryz.underlying78 sizeOf8 (by rw [hq0]; rfl), hq0]
        rfl
      · rw [heap_last, ← HSP.out, hq0]
        rfl
    · obtain ⟨b0, off0, rfl, -, -⟩ := q4 hq0
      refine ⟨_, run_copy_row (P := Tryz.prog) _ 78 78 3 5 w1.heap.size 0 12 12 ⟨b0, off0, none⟩ q.length c1 zs.toArray 5 (bc q) Tryz.underlying78 sizeOf8 (heap_last w1 _) (by rw [bc_length]; exact (Nat.min_eq_left hq12).symm) (hs2.cells (Below.refl _ _) _ rfl) (by rw [bc_length]; show 0 + q.length ≤ 12; omega) (bc_one q) |>.trans (by rw [bc_length]; rfl), ?_, below_setRow hbA (Nat.le_refl _) _⟩
      rw [setRow_heap (w1.alloc (.cells zs.toArray 5)) _ _ _ _ _ (heap_last w1 _), ← HSP.out]
      unfold splice
      rw [List.append_assoc, bc_length]
  have HK3 := hide hk3
  clear hk3
  go_wp2_with fail
  have hB3 : Below w.heap.size w w3 := hb1.trans (hb3.mono hb1.size)
  have hsl4 : Sl w3 (.slice (some ⟨w1.heap.size, 4, none⟩) 8 8) (l12.drop 4) := by
    refine ⟨_, 8, by rw [hr8], by rw [hr8]; omega, by decide, by simp, fun _ => ⟨w1.heap.size, 4, rfl, lt_of_heap HK3.out, fun j hj => ?_⟩⟩
    rw [cell_of HK3.out, List.getElem?_toArray, bc_get l12 (4 + j) (by omega), List.getElem_drop]
  refine (htw _ _ hsl4).mono ?_
  rintro e w4 ⟨rfl, hb4⟩
  have hB4 : Below w.heap.size w w4 := hB3.trans (hb4.mono hB3.size)
  have hs4 := HS1.out.keepB (hb3.trans (hb4.mono hb3.size))
  clear htw hsl4 hcp hmk hb2 hbA hs2
  by_cases hbig : 2129920 < sz
  · go_wp2
    go_ret2
    refine ⟨?_, hB4⟩
    rw [HH.out, if_pos hbig]
    rfl
  · have hw64 : IntKind.i64.wrap (sz : Int) = (sz : Int) := by rw [IntKind.wrap_i64]; omega
    have hph := putHead_any w4 sz hlt (HT.out.keep hB4)
    go_wp2_with fail
    refine hph.mono ?_
    rintro e w5 ⟨v5, rfl, ho5, hb5⟩
    have hhp := hasPrefix_any w5 _ _ _ _ (sl_of_own (l := hdW sum4 sz) (by rw [hdW_length sum4_length]; exact ho5)) (hs4.keepB hb5)
    obtain ⟨a5, c5, rfl, -⟩ := own_form ho5
    have hB5 := hB4.trans (hb5.mono hB4.size)
    have HH2 := HH.out
    rw [if_neg hbig] at HH2
    generalize q.isPrefixOf (hdW sum4 sz) = ok at *
    have H3 := hide HH2
    clear HH2
    clear ho5 hph
    go_wp2_with fail
    refine hhp.mono ?_
    rintro e w6 ⟨rfl, rfl⟩
    go_wp2
    go_ret2
    refine ⟨?_, hB5⟩
    rw [H3.out]
    rfl
end Go.Proofs.YthjcimgollfmgaaGreatDoor

/-
  What isTorn, takeRecords, takeGroup and takeGroups answer. Conditions: the bytes lie there, within reach; the table holds its numbers.
-/
namespace Go.Proofs.YthjcimgollfmgaaGreatDoor
open Go.RowKit

set_option maxRecDepth 20000 in
theorem bclone_any (w : World) (v : Value) (l : List UInt8) (h : Sl w v l) (hl : l.length ≤ 1099511627776) :
    Calls Tryz.prog 121 #[v] w fun e w' => ∃ v', e = .returned v' ∧ w'.ownsRow w.heap.size 5 1 v' l.length (bc l) ∧ Below w.heap.size w w' := by
  have he := fun a n c => eqS33 w a n c 0 0
  have h0 := h
  obtain ⟨ao, cap, rfl, h1, h2, h3, h4⟩ := h0
  cases ao with
  | none =>
    have hc := h3 rfl
    have hl0 : l = [] := List.eq_nil_of_length_eq_zero (by omega)
    subst hl0
    subst hc
    clear h h4
    go_enter Tryz.func121, Tryz.ntmps121
    go_wp2
    go_ret
    exact ⟨_, rfl, World.ownsRow_nil _ _ _ _, Below.refl _ _⟩
  | some ad =>
    have hb : Below w.heap.size w (w.alloc (.cells #[] 5)) := (Below.refl _ w).alloc (Nat.le_refl _) _
    have ho : (w.alloc (.cells #[] 5)).ownsRow w.heap.size 5 1 (.slice (some ⟨w.heap.size, 0, none⟩) 0 0) ([] : List UInt8).length (bc []) :=
      ⟨rfl, .inr ⟨_, 0, _, rfl, Nat.le_refl _, heap_last _ _, Nat.le_refl _, by decide, rfl, rfl⟩⟩
    obtain ⟨v', w', hrun, hown, hg⟩ := run_append_sl _ ho (h.keepB hb) (by simp; omega) hb.size 78
    have hB : Below w.heap.size w w' := hb.grown hg hb.size (fun k hk => by injection hk with hk; dsimp only at hk; omega)
    rw [List.nil_append] at hown
    have HR := hide hrun
    have hi : (some ad : Option Addr).isNone = false := rfl
    clear hrun hg ho h h4
    go_enter Tryz.func121, Tryz.ntmps121
    go_wp2_with (at_builtin; refine wpList_plain rfl (fun K hK => wp_append_run (.tmp 5) (.tmp 6) 78 rfl rfl rfl HR.out (hK _ _ ?_)))
    obtain ⟨a', c', rfl, -⟩ := own_form hown
    go_wp2
    go_ret
    exact ⟨_, rfl, hown, hB⟩

theorem one_sl (w : World) : Sl (w.alloc (.cells #[.int .u8 1] 5)) (.slice (some ⟨w.heap.size, 0, none⟩) 1 1) [1] := by
  refine ⟨_, _, rfl, Nat.le_refl _, by decide, by simp, fun _ => ⟨w.heap.size, 0, rfl, by simp, fun j hj => ?_⟩⟩
  obtain rfl : j = 0 := by simp at hj; omega
  rw [cell_of (heap_last w _)]
  rfl
set_option maxRecDepth 20000 in
set_option maxHeartbeats 800000 in
theorem isTorn_any (w : World) (v : Value) (l : List UInt8) (size : Int) (h : Sl w v l) (hl : l.length ≤ 1000000000000) (h0 : 0 ≤ size) (h1 : size ≤ 1000000000000) :
    Calls Tryz.prog 109 #[v, .int .i64 size] w fun e w' => e = .returned (.bool (tornW l size)) ∧ Below w.heap.size w w' := by
  unfold tornW
  cases ht : takeI l 0 with
  | some x =>
    obtain ⟨n, q⟩ := x
    have hti := takeInt_some w v l 0 n q h (by omega) ht
    obtain ⟨-, -, hq, -, hn0, hn1, -⟩ := takeI_sound ht
    obtain ⟨ao, cap, rfl, -⟩ := h.form
    simp only
    by_cases c1 : 0 ≤ n
    · by_cases c2 : (2097152 : Int) < size - q
      · have hr : decide (n ≤ 2097152) = decide (0 ≤ n ∧ n ≤ min (size - (q : Int)) 2097152) := decide_eq_decide.2 (by omega)
        rw [← hr]
        clear hr
        clear h ht
        go_enter Tryz.func109, Tryz.ntmps109
        go_wp2_with fail
        refine hti.mono ?_
        rintro e w1 ⟨rfl, rfl⟩
        go_wp2
        go_ret
        exact ⟨rfl, Below.refl _ _⟩
      · have hr : decide (n ≤ size - q) = decide (0 ≤ n ∧ n ≤ min (size - (q : Int)) 2097152) := decide_eq_decide.2 (by omega)
        rw [← hr]
        clear hr
        clear h ht
        go_enter Tryz.func109, Tryz.ntmps109
        go_wp2_with fail
        refine hti.mono ?_
        rintro e w1 ⟨rfl, rfl⟩
        go_wp2
        go_ret
        exact ⟨rfl, Below.refl _ _⟩
    · have hr : decide (0 ≤ n ∧ n ≤ min (size - (q : Int)) 2097152) = false := decide_eq_false (by omega)
      rw [hr]
      clear hr
      clear h ht
      go_enter Tryz.func109, Tryz.ntmps109
      go_wp2_with fail
      refine hti.mono ?_
      rintro e w1 ⟨rfl, rfl⟩
      go_wp2
      go_ret
      exact ⟨rfl, Below.refl _ _⟩
  | none =>
    have hti := takeInt_none w v l 0 h (by omega) ht
    have hcl := bclone_any w v l h (by omega)
    obtain ⟨ao, cap, rfl, -⟩ := h.form
    simp only
    cases ht2 : takeI (l ++ [1]) 0 with
    | some x =>
      obtain ⟨n, q⟩ := x
      obtain ⟨-, -, hq, -, hn0, hn1, -⟩ := takeI_sound ht2
      rw [List.length_append, List.length_singleton] at hq
      have H2 := hide ht2
      clear ht2
      simp only
      by_cases c1 : 0 ≤ n
      · by_cases c2 : (2097152 : Int) < size - q
        · have hr : decide (n ≤ 2097152) = decide (0 ≤ n ∧ n ≤ min (size - (q : Int)) 2097152) := decide_eq_decide.2 (by omega)
          rw [← hr]
          clear hr
          clear h ht
          go_enter Tryz.func109, Tryz.ntmps109
          go_wp2_with fail
          refine hti.mono ?_
          rintro e w1 ⟨rfl, rfl⟩
          go_wp2_with fail
          refine hcl.mono ?_
          rintro e w2 ⟨v2, rfl, ho2, hb2⟩
          have hbA : Below w2.heap.size w2 (w2.alloc (.cells #[.int .u8 1] 5)) := (Below.refl _ w2).alloc (Nat.le_refl _) _
          obtain ⟨v3, w3, hrun, hown, hg⟩ := run_append_sl _ (ho2.alloc (.cells #[.int .u8 1] 5)) (one_sl w2) (by simp; omega) (Nat.le_trans hb2.size hbA.size) 78
          have hB3 : Below w1.heap.size w1 w3 := (hb2.trans (hbA.mono hb2.size)).grown hg (Nat.le_trans hb2.size hbA.size) (fun k hk => (ho2.lt k hk).1)
          have HR := hide hrun
          have ht3 := takeInt_some w3 v3 (l ++ [1]) 0 n q (sl_of_own hown) (by omega) H2.out
          obtain ⟨a2, c2', rfl, -⟩ := own_form ho2
          obtain ⟨a3, c3', rfl, -⟩ := own_form hown
          generalize (l ++ [1]).length = L1 at *
          clear hrun hg hown ho2
          go_wp2_with (at_builtin; refine wpList_plain rfl (fun K hK => wp_append_run (.tmp 18) (.tmp 19) 78 rfl rfl rfl HR.out (hK _ _ ?_)))
          refine ht3.mono ?_
          rintro e w4 ⟨rfl, rfl⟩
          go_wp2
          go_ret
          exact ⟨rfl, hB3⟩
        · have hr : decide (n ≤ size - q) = decide (0 ≤ n ∧ n ≤ min (size - (q : Int)) 2097152) := decide_eq_decide.2 (by omega)
          rw [← hr]
          clear hr
          clear h ht
          go_enter Tryz.func109, Tryz.ntmps109
          go_wp2_with fail
          refine hti.mono ?_
          rintro e w1 ⟨rfl, rfl⟩
          go_wp2_with fail
          refine hcl.mono ?_
          rintro e w2 ⟨v2, rfl, ho2, hb2⟩
          have hbA : Below w2.heap.size w2 (w2.alloc (.cells #[.int .u8 1] 5)) := (Below.refl _ w2).alloc (Nat.le_refl _) _
          obtain ⟨v3, w3, hrun, hown, hg⟩ := run_append_sl _ (ho2.alloc (.cells #[.int .u8 1] 5)) (one_sl w2) (by simp; omega) (Nat.le_trans hb2.size hbA.size) 78
          have hB3 : Below w1.heap.size w1 w3 := (hb2.trans (hbA.mono hb2.size)).grown hg (Nat.le_trans hb2.size hbA.size) (fun k hk => (ho2.lt k hk).1)
          have HR := hide hrun
          have ht3 := takeInt_some w3 v3 (l ++ [1]) 0 n q (sl_of_own hown) (by omega) H2.out
          obtain ⟨a2, c2', rfl, -⟩ := own_form ho2
          obtain ⟨a3, c3', rfl, -⟩ := own_form hown
          generalize (l ++ [1]).length = L1 at *
          clear hrun hg hown ho2
          go_wp2_with (at_builtin; refine wpList_plain rfl (fun K hK => wp_append_run (.tmp 18) (.tmp 19) 78 rfl rfl rfl HR.out (hK _ _ ?_)))
          refine ht3.mono ?_
          rintro e w4 ⟨rfl, rfl⟩
          go_wp2
          go_ret
          exact ⟨rfl, hB3⟩
      · have hr : decide (0 ≤ n ∧ n ≤ min (size - (q : Int)) 2097152) = false := decide_eq_false (by omega)
        rw [hr]
        clear hr
        clear h ht
        go_enter Tryz.func109, Tryz.ntmps109
        go_wp2_with fail
        refine hti.mono ?_
        rintro e w1 ⟨rfl, rfl⟩
        go_wp2_with fail
        refine hcl.mono ?_
        rintro e w2 ⟨v2, rfl, ho2, hb2⟩
        have hbA : Below w2.heap.size w2 (w2.alloc (.cells #[.int .u8 1] 5)) := (Below.refl _ w2).alloc (Nat.le_refl _) _
        obtain ⟨v3, w3, hrun, hown, hg⟩ := run_append_sl _ (ho2.alloc (.cells #[.int .u8 1] 5)) (one_sl w2) (by simp; omega) (Nat.le_trans hb2.size hbA.size) 78
        have hB3 : Below w1.heap.size w1 w3 := (hb2.trans (hbA.mono hb2.size)).grown hg (Nat.le_trans hb2.size hbA.size) (fun k hk => (ho2.lt k hk).1)
        have HR := hide hrun
        have ht3 := takeInt_some w3 v3 (l ++ [1]) 0 n q (sl_of_own hown) (by omega) H2.out
        obtain ⟨a2, c2', rfl, -⟩ := own_form ho2
        obtain ⟨a3, c3', rfl, -⟩ := own_form hown
        generalize (l ++ [1]).length = L1 at *
        clear hrun hg hown ho2
        go_wp2_with (at_builtin; refine wpList_plain rfl (fun K hK => wp_append_run (.tmp 18) (.tmp 19) 78 rfl rfl rfl HR.out (hK _ _ ?_)))
        refine ht3.mono ?_
        rintro e w4 ⟨rfl, rfl⟩
        go_wp2
        go_ret
        exact ⟨rfl, hB3⟩
    | none =>
      have H2 := hide ht2
      clear ht2
      simp only
      clear h ht
      go_enter Tryz.func109, Tryz.ntmps109
      go_wp2_with fail
      refine hti.mono ?_
      rintro e w1 ⟨rfl, rfl⟩
      go_wp2_with fail
      refine hcl.mono ?_
      rintro e w2 ⟨v2, rfl, ho2, hb2⟩
      have hbA : Below w2.heap.size w2 (w2.alloc (.cells #[.int .u8 1] 5)) := (Below.refl _ w2).alloc (Nat.le_refl _) _
      obtain ⟨v3, w3, hrun, hown, hg⟩ := run_append_sl _ (ho2.alloc (.cells #[.int .u8 1] 5)) (one_sl w2) (by simp; omega) (Nat.le_trans hb2.size hbA.size) 78
      have hB3 : Below w1.heap.size w1 w3 := (hb2.trans (hbA.mono hb2.size)).grown hg (Nat.le_trans hb2.size hbA.size) (fun k hk => (ho2.lt k hk).1)
      have HR := hide hrun
      have ht3 := takeInt_none w3 v3 (l ++ [1]) 0 (sl_of_own hown) (by omega) H2.out
      obtain ⟨a2, c2', rfl, -⟩ := own_form ho2
      obtain ⟨a3, c3', rfl, -⟩ := own_form hown
      generalize (l ++ [1]).length = L1 at *
      clear hrun hg hown ho2
      go_wp2_with (at_builtin; refine wpList_plain rfl (fun K hK => wp_append_run (.tmp 18) (.tmp 19) 78 rfl rfl rfl HR.out (hK _ _ ?_)))
      refine ht3.mono ?_
      rintro e w4 ⟨rfl, rfl⟩
      go_wp2
      go_ret
      exact ⟨rfl, hB3⟩
end Go.Proofs.YthjcimgollfmgaaGreatDoor

/-
  What takeRecords and takeGroup answer. Conditions: the bytes lie there, within reach; the table holds its numbers.
-/
namespace Go.Proofs.YthjcimgollfmgaaGreatDoor
open Go.RowKit

/-- Texts as cells. -/
def tcW (xs : List (List UInt8)) : List Value := xs.map fun x => .string (strB x)
theorem tcW_length (xs : List (List UInt8)) : (tcW xs).length = xs.length := by simp [tcW]
theorem tcW_get (xs : List (List UInt8)) (j : Nat) (h : j < xs.length) : (tcW xs)[j]? = some (.string (strB xs[j])) := by simp [tcW, h]
theorem tcW_snoc (xs : List (List UInt8)) (x : List UInt8) : tcW (xs ++ [x]) = tcW xs ++ [.string (strB x)] := by simp [tcW]
theorem Tryz.infoT : (Tryz.prog.info? 9).map (fun i => (i.zero, i.size, i.bytes)) = some (some (.string ⟨#[]⟩), 1, 16) := by kernel_rfl
theorem tx_of_own {w : World} {base : Nat} {v : Value} {xs : List (List UInt8)} (h : w.ownsRow base 9 1 v xs.length (tcW xs)) : Tx w v xs := by
  have h0 := h
  rcases h.2 with ⟨rfl, hn⟩ | ⟨g, cap, cur, rfl, hg, hh, hc, hm, hs, ht⟩
  · obtain rfl : xs = [] := List.eq_nil_of_length_eq_zero hn
    exact Tx.nil w
  · refine ⟨_, _, rfl, hc, hm, fun _ => ⟨g, 0, rfl, lt_of_heap hh, fun j hj => ?_⟩⟩
    have := World.ownsRow.cells h0 (g := g) rfl j _ (tcW_get xs j hj)
    rw [Addr.add_lit] at this
    exact this
theorem recsW_none {f : Nat} {b : List UInt8} {a : Nat} {size : Int} (ha : a < b.length) (ht : takeT b a 2097152 = none) : recsW (f + 1) b a size = ([], tornW (b.drop a) (size - a)) := by
  unfold recsW
  rw [if_pos ha, ht]
theorem recsW_some {f : Nat} {b : List UInt8} {a q : Nat} {size : Int} {r : List UInt8} (ha : a < b.length) (ht : takeT b a 2097152 = some (r, q)) : recsW (f + 1) b a size = (r :: (recsW f b q size).1, (recsW f b q size).2) := by
  conv => lhs; unfold recsW
  rw [if_pos ha, ht]
theorem recsW_end {f : Nat} {b : List UInt8} {a : Nat} {size : Int} (ha : ¬ a < b.length) : recsW (f + 1) b a size = ([], true) := by
  unfold recsW
  rw [if_neg ha]

set_option maxRecDepth 20000 in
set_option maxHeartbeats 800000 in
theorem takeRecords_any (w : World) (v : Value) (b : List UInt8) (size : Nat) (h : Sl w v b) (hl : b.length ≤ size) (hs : size ≤ 1000000000) :
    Calls Tryz.prog 86 #[v, .int .i64 (size : Int)] w fun e w' => ∃ v', e = .returned (.tuple #[v', .bool (recsW (b.length + 1) b 0 size).2]) ∧ w'.ownsRow w.heap.size 9 1 v' (recsW (b.length + 1) b 0 size).1.length (tcW (recsW (b.length + 1) b 0 size).1) ∧ Below w.heap.size w w' := by
  obtain ⟨i0, hi0, hz0, hz1, hz2⟩ := info_parts Tryz.infoT
  obtain ⟨ao, cap, rfl, c1, c2⟩ := h.form
  unfold maxLen at c2
  have H := hide h
  clear h
  generalize hR : recsW (b.length + 1) b 0 size = R
  have HR := hide hR
  clear hR
  go_enter Tryz.func86, Tryz.ntmps86
  go_wp2
  go_loopw [6, 7] (fun rv at_ wr => ∃ (acc : List (List UInt8)) (a : Nat), at_ = .int .i64 (a : Int) ∧ a ≤ b.length ∧ acc.length ≤ a ∧ wr.ownsRow w.heap.size 9 1 rv acc.length (tcW acc) ∧ Below w.heap.size w wr ∧
      R = (acc ++ (recsW (b.length + 1 - acc.length) b a size).1, (recsW (b.length + 1 - acc.length) b a size).2))
    (fun _ at_ _ => b.length - (intOf at_).toNat)
  case atStart => exact ⟨[], 0, rfl, Nat.zero_le _, Nat.le_refl _, World.ownsRow_nil _ _ _ _, Below.refl _ _, by rw [List.nil_append]; exact HR.out.symm⟩
  case round =>
    obtain ⟨acc, a, rfl, ha, hac, hrow, hB, hE⟩ := hrel
    have hslw := H.out.keepB hB
    obtain ⟨f, hf⟩ : ∃ f, b.length + 1 - acc.length = f + 1 := ⟨b.length - acc.length, by omega⟩
    rw [hf] at hE
    by_cases hlt : a < b.length
    · cases ht : takeT b a 2097152 with
      | none =>
        rw [recsW_none hlt ht] at hE
        have hti := takeText_none wr _ b a 2097152 hslw (by omega) ht
        obtain ⟨v2, hr2, hs2⟩ := run_from wr hslw a (by omega)
        have hto := isTorn_any wr v2 (b.drop a) ((size : Int) - a) hs2 (by rw [List.length_drop]; omega) (by omega) (by omega)
        generalize tornW (b.drop a) ((size : Int) - a) = tb at *
        have HE := hide hE
        have HRW := hide hrow
        obtain ⟨a2, q2, rfl, -⟩ := hs2.form
        obtain ⟨ar, cr, rfl, -⟩ := own_form hrow
        generalize (b.drop a).length = L2 at *
        clear hE hslw hs2 hrow
        go_wp2_with fail
        refine hti.mono ?_
        rintro e w1 ⟨rfl, rfl⟩
        go_wp2_with fail
        refine hto.mono ?_
        rintro e w2 ⟨rfl, hb2⟩
        go_wp2
        go_ret2
        rw [HE.out]
        simp only [List.append_nil]
        exact ⟨_, rfl, own_keepB HRW.out hb2, hB.trans (hb2.mono hB.size)⟩
      | some x =>
        obtain ⟨r, q⟩ := x
        rw [recsW_some hlt ht] at hE
        have hti := takeText_some wr _ b a 2097152 r q hslw (by omega) ht
        obtain ⟨-, hq1, hq2, htx, -⟩ := takeT_sound ht
        have hql : q = a + (txt r).length := by
          have := congrArg List.length htx
          rw [List.length_take, List.length_drop, Int.toNat_natCast] at this
          rw [Int.toNat_natCast] at hq1
          omega
        have htl : 0 < (txt r).length := by have := num_length r.length; unfold txt; rw [List.length_append]; omega
        have hq3 : a < q := by omega
        clear hql
        have hti : Calls Tryz.prog 108 #[.slice ao b.length cap, .int .i64 (a : Int), .int .i64 2097152] wr fun e w' => e = .returned (.tuple #[.string (strB r), .int .i64 (q : Int), .bool true]) ∧ w' = wr := hti
        have HE := hide hE
        have HRW := hide hrow
        have hrow' := hrow
        obtain ⟨ar, cr, rfl, -⟩ := own_form hrow
        clear hE hslw hrow htx
        go_wp2_with fail
        refine hti.mono ?_
        rintro e w1 ⟨rfl, rfl⟩
        go_wp2_with (at_builtin; refine wpList_append_own _ rfl (.tmp 32) (.tmp 34) 27 rfl w.heap.size 9 i0 (.string ⟨#[]⟩) 1 16 Tryz.underlying27 hi0 hz0 hz1 hz2 rfl (by decide) _ _ _ rfl (hrow'.alloc _) ⟨w1.heap.size, 0, none⟩ 1 1 [.string (strB r)] rfl rfl (cell_one_new _ _ _) (by simp [Value.oneCell']) (by unfold maxLen; omega) (by omega) (by have := hB.size; simp; omega) ?_)
        intro v2 w2 hown2 hgrow2 _
        have hb2 : Below w.heap.size w w2 := (hB.alloc hB.size _).grown hgrow2 (by have := hB.size; simp; omega) (fun k hk => (hrow'.lt k hk).1)
        obtain ⟨a3, c3, rfl, -⟩ := own_form hown2
        clear hgrow2 hti
        go_wp2
        go_roundw
        case rel =>
          refine ⟨acc ++ [r], q, rfl, by omega, by rw [List.length_append, List.length_singleton]; omega, by rw [tcW_snoc, List.length_append]; exact hown2, hb2, ?_⟩
          rw [HE.out, List.length_append, List.length_singleton, show b.length + 1 - (acc.length + 1) = f by omega, List.append_assoc]
          rfl
        case measure => simp [intOf] <;> omega
    · obtain rfl : a = b.length := by omega
      rw [recsW_end hlt] at hE
      have HE := hide hE
      have HRW := hide hrow
      obtain ⟨ar, cr, rfl, -⟩ := own_form hrow
      clear hE hrow hslw
      go_wp2
      go_ret2
      rw [HE.out]
      simp only [List.append_nil]
      exact ⟨_, rfl, HRW.out, hB⟩
end Go.Proofs.YthjcimgollfmgaaGreatDoor

/-
  What takeGroup answers. Conditions: the bytes lie there, within reach; the table holds its numbers.
-/
namespace Go.Proofs.YthjcimgollfmgaaGreatDoor
open Go.RowKit

theorem headW_le (cs : List UInt8 → List UInt8) (b : List UInt8) : (headW cs b).1 ≤ 2129920 := by
  rw [headW_eq cs b _ rfl]
  split
  · omega
  · dsimp only
    omega
theorem recsW_each (size : Int) : ∀ (f : Nat) (b : List UInt8) (a : Nat), ∀ r ∈ (recsW f b a size).1, r.length ≤ 2097152
  | 0, b, a => by simp [recsW]
  | f + 1, b, a => by
    by_cases ha : a < b.length
    · cases ht : takeT b a 2097152 with
      | none => rw [recsW_none ha ht]; simp
      | some x =>
        obtain ⟨r, q⟩ := x
        rw [recsW_some ha ht]
        intro r' hr'
        rcases List.mem_cons.1 hr' with rfl | h
        · have := (takeT_sound ht).2.2.2.2
          omega
        · exact recsW_each size f b q r' h
    · rw [recsW_end ha]; simp
set_option maxRecDepth 20000 in
set_option maxHeartbeats 1600000 in
theorem takeGroup_any (w : World) (v : Value) (b : List UInt8) (h : Sl w v b) (hl : b.length ≤ 1000000000) (hT : TabW w) :
    Calls Tryz.prog 60 #[v] w fun e w' => ∃ v', e = .returned (.tuple #[v', .int .i64 ((groupW sum4 b).2.1 : Int), .bool (groupW sum4 b).2.2]) ∧ w'.ownsRow w.heap.size 9 1 v' (groupW sum4 b).1.length (tcW (groupW sum4 b).1) ∧ Below w.heap.size w w' := by
  have hhd := takeHead_any w v b h hT
  have hle := headW_le sum4 b
  obtain ⟨ao, cap, rfl, c1, c2⟩ := h.form
  unfold maxLen at c2
  generalize hG : groupW sum4 b = G
  have hG : groupB sum4 b (headW sum4 b) = G := hG
  generalize headW sum4 b = p at *
  obtain ⟨size, ok⟩ := p
  dsimp only at hle
  have HT := hide hT
  have H := hide h
  unfold groupB at hG
  dsimp only at hG
  clear hT h
  by_cases hok : ok = false
  · rw [if_pos (.inl hok)] at hG
    subst hG hok
    go_enter Tryz.func60, Tryz.ntmps60
    go_wp2_with fail
    refine hhd.mono ?_
    rintro e w1 ⟨rfl, hb1⟩
    go_wp2
    go_ret3
    exact ⟨_, rfl, World.ownsRow_nil _ _ _ _, hb1⟩
  obtain rfl : ok = true := by simpa using hok
  by_cases h12 : b.length < 12
  · rw [if_pos (.inr h12)] at hG
    subst hG
    go_enter Tryz.func60, Tryz.ntmps60
    go_wp2_with fail
    refine hhd.mono ?_
    rintro e w1 ⟨rfl, hb1⟩
    go_wp2
    go_ret3
    exact ⟨_, rfl, World.ownsRow_nil _ _ _ _, hb1⟩
  rw [if_neg (fun e => e.elim (fun e => by cases e) h12)] at hG
  have HG := hide hG
  clear hG hok
  go_enter Tryz.func60, Tryz.ntmps60
  go_wp2_with fail
  refine hhd.mono ?_
  rintro e w1 ⟨rfl, hb1⟩
  obtain ⟨v2, hr2, hs2⟩ := run_from w1 (H.out.keepB hb1) 12 (by omega)
  have hcut := cutW_any w1 v2 (b.drop 12) size hs2 (by omega)
  have hbl : (b.drop 12).length ≤ 1000000000 := by rw [List.length_drop]; omega
  generalize b.drop 12 = bd at *
  obtain ⟨a2, q2, rfl, -⟩ := hs2.form
  have hr2 : ∀ W : World, (Instr.slice 78 (.slice ao b.length cap) (some (.int .i64 12)) none none).run Tryz.prog W = .ok (.slice a2 bd.length q2) W := hr2
  clear hs2 hhd
  go_wp2_with fail
  refine hcut.mono ?_
  rintro e w2 ⟨v3, v4, rfl, hs3, hs4, hb2⟩
  have hB2 := hb1.trans (hb2.mono hb1.size)
  have hbl3 : (bd.take size).length ≤ size := by rw [List.length_take]; omega
  have htr := takeRecords_any w2 v3 (bd.take size) size hs3 hbl3 (by omega)
  have hea := recsW_each size ((bd.take size).length + 1) (bd.take size) 0
  generalize recsW ((bd.take size).length + 1) (bd.take size) 0 size = R at *
  obtain ⟨rs, rok⟩ := R
  generalize bd.take size = body at *
  generalize bd.drop size = rest at *
  dsimp only at htr hea
  have H3 := hide hs3
  have H4 := hide hs4
  obtain ⟨a3, q3, rfl, q31, q32⟩ := hs3.form
  obtain ⟨a4, q4, rfl, q41, q42⟩ := hs4.form
  clear hs3 hs4 hcut
  go_wp2_with fail
  refine htr.mono ?_
  rintro e w3 ⟨v5, rfl, ho5, hb3⟩
  have hB3 := hB2.trans (hb3.mono hB2.size)
  have hir := isRight_any w3 v5 rs (tx_of_own ho5) (fun r hr => by have := hea r hr; omega)
  have HO5 := hide ho5
  obtain ⟨a5, q5, rfl, -⟩ := own_form ho5
  have hG := HG.out
  unfold recB at hG
  dsimp only at hG
  clear HG htr ho5
  cases hrok : rok with
  | false =>
    rw [if_pos (.inl hrok)] at hG
    subst hG
    go_wp2
    go_ret3
    exact ⟨_, rfl, World.ownsRow_nil _ _ _ _, hB3⟩
  | true =>
    cases hri : right rs with
    | false =>
      rw [if_pos (.inr hri)] at hG
      subst hG
      rw [hri] at hir
      go_wp2_with fail
      refine hir.mono ?_
      rintro e w4 ⟨rfl, rfl⟩
      go_wp2
      go_ret3
      exact ⟨_, rfl, World.ownsRow_nil _ _ _ _, hB3⟩
    | true =>
      rw [if_neg (fun e => e.elim (fun e => by rw [hrok] at e; cases e) (fun e => by rw [hri] at e; cases e))] at hG
      rw [hri] at hir
      by_cases hsh : body.length < size
      · rw [if_pos hsh] at hG
        subst hG
        go_wp2_with fail
        refine hir.mono ?_
        rintro e w4 ⟨rfl, rfl⟩
        go_wp2
        go_ret3
        exact ⟨_, rfl, World.ownsRow_nil _ _ _ _, hB3⟩
      · rw [if_neg hsh] at hG
        unfold sumB at hG
        have hcut := cutW_any w3 _ rest 4 (H4.out.keepB hb3) (by decide)
        have HG := hide hG
        clear hG
        go_wp2_with fail
        refine hir.mono ?_
        rintro e w4 ⟨rfl, rfl⟩
        go_wp2_with fail
        refine hcut.mono ?_
        rintro e w5 ⟨v6, v7, rfl, hs6, -, hb5⟩
        have hB5 := hB3.trans (hb5.mono hB3.size)
        have hps := putSum_any w5 _ body ((H3.out.keepB hb3).keepB hb5) (HT.out.keep hB5)
        generalize rest.take 4 = s4 at *
        obtain ⟨a6, q6, rfl, q61, q62⟩ := hs6.form
        have H6 := hide hs6
        clear hs6 hcut
        go_wp2_with fail
        refine hps.mono ?_
        rintro e w6 ⟨v8, rfl, ho8, hb6⟩
        have hB6 := hB5.trans (hb6.mono hB5.size)
        have hhp := hasPrefix_any w6 _ _ _ _ (sl_of_own (l := sum4 body) (by rw [sum4_length]; exact ho8)) (H6.out.keepB hb6)
        obtain ⟨a8, q8, rfl, -⟩ := own_form ho8
        have ho6 := own_keepB HO5.out (hb5.trans (hb6.mono hb5.size))
        generalize s4.isPrefixOf (sum4 body) = sok at *
        clear ho8 hps
        cases sok with
        | false =>
          have hG := HG.out
          rw [if_pos (.inl rfl)] at hG
          subst hG
          go_wp2_with fail
          refine hhp.mono ?_
          rintro e w7 ⟨rfl, rfl⟩
          go_wp2
          go_ret3
          exact ⟨_, rfl, World.ownsRow_nil _ _ _ _, hB6⟩
        | true =>
          by_cases h4 : s4.length < 4
          · have hG := HG.out
            rw [if_pos (.inr h4)] at hG
            subst hG
            go_wp2_with fail
            refine hhp.mono ?_
            rintro e w7 ⟨rfl, rfl⟩
            go_wp2
            go_ret3
            exact ⟨_, rfl, World.ownsRow_nil _ _ _ _, hB6⟩
          · have hG := HG.out
            rw [if_neg (fun e => e.elim (fun e => by cases e) h4)] at hG
            subst hG
            go_wp2_with fail
            refine hhp.mono ?_
            rintro e w7 ⟨rfl, rfl⟩
            go_wp2
            go_ret3
            refine ⟨_, ?_, own_low ho6 hB2.size, hB6⟩
            go_num
end Go.Proofs.YthjcimgollfmgaaGreatDoor

/-
  What takeGroups answers. Conditions: the bytes lie there, within reach; the table holds its numbers.
-/
namespace Go.Proofs.YthjcimgollfmgaaGreatDoor
open Go.RowKit

theorem groupW_le (cs : List UInt8 → List UInt8) (b : List UInt8) : (groupW cs b).2.1 ≤ b.length := by
  show (groupB cs b (headW cs b)).2.1 ≤ _
  generalize headW cs b = p
  unfold groupB
  split
  · exact Nat.zero_le _
  · next h1 =>
    unfold recB
    split
    · exact Nat.zero_le _
    · split
      · exact Nat.zero_le _
      · next h2 h3 =>
        unfold sumB
        split
        · exact Nat.zero_le _
        · next h4 =>
          simp only [List.length_take, List.length_drop, not_or] at h1 h3 h4 ⊢
          omega
theorem Tryz.infoTs : (Tryz.prog.info? 27).map (fun i => (i.zero, i.size, i.bytes)) = some (some (.slice none 0 0), 1, 24) := by kernel_rfl
/-- A row of rows of texts, all made since there were base blocks. -/
def Gs (w : World) (base : Nat) (v : Value) (gs : List (List (List UInt8))) : Prop :=
  ∃ vs : List Value, w.ownsRow base 27 1 v gs.length vs ∧ ∀ (i : Nat) (x : Value) (g : List (List UInt8)), vs[i]? = some x → gs[i]? = some g → w.ownsRow base 9 1 x g.length (tcW g)
theorem Gs.nil (w : World) (base : Nat) : Gs w base (.slice none 0 0) [] := ⟨[], World.ownsRow_nil _ _ _ _, fun i x g h => by simp at h⟩
theorem Gs.keepB {w w' : World} {base : Nat} {v : Value} {gs : List (List (List UInt8))} (h : Gs w base v gs) (hb : Below w.heap.size w w') : Gs w' base v gs := by
  obtain ⟨vs, h1, h2⟩ := h
  exact ⟨vs, own_keepB h1 hb, fun i x g hx hg => own_keepB (h2 i x g hx hg) hb⟩
theorem Gs.low {w : World} {base base' : Nat} {v : Value} {gs : List (List (List UInt8))} (h : Gs w base v gs) (hb : base' ≤ base) : Gs w base' v gs := by
  obtain ⟨vs, h1, h2⟩ := h
  exact ⟨vs, own_low h1 hb, fun i x g hx hg => own_low (h2 i x g hx hg) hb⟩
theorem Gs.form {w : World} {base : Nat} {v : Value} {gs : List (List (List UInt8))} (h : Gs w base v gs) : ∃ ao cap, v = .slice ao gs.length cap ∧ gs.length ≤ cap ∧ cap ≤ maxLen := by
  obtain ⟨vs, h1, -⟩ := h
  exact own_form h1
theorem grow_other {w w' : World} {base base' n m : Nat} {v x : Value} {xs ys : List Value} (h : w.ownsRow base 27 1 v n xs) (hx : w.ownsRow base' 9 1 x m ys) (hg : w.grownBy w' v.ownBlock) : w'.ownsRow base' 9 1 x m ys := by
  refine hx.kept hg ?_
  cases hb : x.ownBlock with
  | none => exact .inl rfl
  | some k =>
    refine .inr fun e => ?_
    obtain ⟨c1, e1⟩ := own_block hx hb
    obtain ⟨c2, e2⟩ := own_block h e.symm
    rw [e1] at e2
    injection e2 with e2
    injection e2 with _ e2
    exact absurd e2 (by decide)

set_option maxRecDepth 20000 in
set_option maxHeartbeats 1600000 in
theorem takeGroups_any (w : World) (v : Value) (b : List UInt8) (h : Sl w v b) (hl : b.length ≤ 1000000000) (hT : TabW w) :
    Calls Tryz.prog 43 #[v] w fun e w' => Below w.heap.size w w' ∧ ((groupsW sum4 (b.length + 1) b 0 = none ∧ e = .returned (.tuple #[.slice none 0 0, .int .i64 0, .bool false])) ∨
      ∃ gs n v', groupsW sum4 (b.length + 1) b 0 = some (gs, n) ∧ n ≤ b.length ∧ gs.length ≤ n ∧ e = .returned (.tuple #[v', .int .i64 (n : Int), .bool true]) ∧ Gs w' w.heap.size v' gs) := by
  obtain ⟨i0, hi0, hz0, hz1, hz2⟩ := info_parts Tryz.infoTs
  obtain ⟨ao, cap, rfl, c1, c2⟩ := h.form
  unfold maxLen at c2
  have H := hide h
  have HT := hide hT
  clear h hT
  generalize hR : groupsW sum4 (b.length + 1) b 0 = R
  have HR := hide hR
  clear hR
  go_enter Tryz.func43, Tryz.ntmps43
  go_wp2
  go_loopw [5, 6] (fun rv at_ wr => ∃ (acc : List (List (List UInt8))) (a : Nat), at_ = .int .i64 (a : Int) ∧ a ≤ b.length ∧ acc.length ≤ a ∧ Gs wr w.heap.size rv acc ∧ Below w.heap.size w wr ∧
      R = (groupsW sum4 (b.length + 1 - acc.length) b a).map fun x => (acc ++ x.1, x.2))
    (fun _ at_ _ => b.length - (intOf at_).toNat)
  case atStart => exact ⟨[], 0, rfl, Nat.zero_le _, Nat.le_refl _, Gs.nil _ _, Below.refl _ _, by rw [← HR.out]; simp only [List.length_nil, Nat.sub_zero, List.nil_append]; cases groupsW sum4 (b.length + 1) b 0 <;> rfl⟩
  case round =>
    obtain ⟨acc, a, rfl, ha, hac, hrow, hB, hE⟩ := hrel
    have hslw := H.out.keepB hB
    obtain ⟨f, hf⟩ : ∃ f, b.length + 1 - acc.length = f + 1 := ⟨b.length - acc.length, by omega⟩
    rw [hf] at hE
    have HRW := hide hrow
    obtain ⟨ar, cr, rfl, hr1, hr2⟩ := hrow.form
    clear hrow
    by_cases hlt : a < b.length
    · rw [groupsW_in _ _ _ _ hlt] at hE
      obtain ⟨v2, hrun2, hs2⟩ := run_from wr hslw a (by omega)
      have hgl := groupW_le sum4 (b.drop a)
      have htg := takeGroup_any wr v2 (b.drop a) hs2 (by rw [List.length_drop]; omega) (HT.out.keep hB)
      have hdl : (b.drop a).length = b.length - a := List.length_drop
      generalize groupW sum4 (b.drop a) = G at *
      obtain ⟨rs, n, ok⟩ := G
      dsimp only at hgl htg hE
      have hna : a + n ≤ b.length := by omega
      obtain ⟨a2, q2, rfl, -⟩ := hs2.form
      generalize (b.drop a).length = L2 at *
      have HE := hide hE
      clear hE hslw hs2 hdl hgl hr1 hr2
      by_cases hbad : ok = false ∨ n = 0 ∧ a = 0
      · have hE := HE.out
        unfold stepG at hE
        rw [if_pos hbad] at hE
        clear HE
        have HE := hide hE
        clear hE
        cases ok
        · clear hbad
          go_wp2_with fail
          refine htg.mono ?_
          rintro e w1 ⟨v3, rfl, -, hb1⟩
          go_wp2
          go_ret3
          exact ⟨hB.trans (hb1.mono hB.size), .inl ⟨HE.out, rfl⟩⟩
        · have hn0 : n = 0 := hbad.elim (fun e => by cases e) (fun e => e.1)
          have ha0 : a = 0 := hbad.elim (fun e => by cases e) (fun e => e.2)
          have hab : ((a : Int) == 0) = true := by simp [ha0]
          subst hn0
          clear hbad ha0
          go_wp2_with fail
          refine htg.mono ?_
          rintro e w1 ⟨v3, rfl, -, hb1⟩
          go_wp2
          go_ret3
          exact ⟨hB.trans (hb1.mono hB.size), .inl ⟨HE.out, rfl⟩⟩
      · have hE := HE.out
        unfold stepG at hE
        rw [if_neg hbad] at hE
        obtain rfl : ok = true := by cases ok; exact absurd (.inl rfl) hbad; rfl
        by_cases hn0 : n = 0
        · subst hn0
          have ha0 : a ≠ 0 := fun e => hbad (.inr ⟨rfl, e⟩)
          rw [if_pos rfl] at hE
          have HE := hide hE
          have hab : ((a : Int) == 0) = false := by simp [ha0]
          clear hE hbad
          go_wp2_with fail
          refine htg.mono ?_
          rintro e w1 ⟨v3, rfl, -, hb1⟩
          go_wp2
          go_ret3
          refine ⟨hB.trans (hb1.mono hB.size), .inr ⟨acc, a, _, ?_, ha, hac, rfl, HRW.out.keepB hb1⟩⟩
          rw [HE.out]
          simp
        · rw [if_neg hn0] at hE
          have HE := hide hE
          have hnb : ((n : Int) == 0) = false := by simp [hn0]
          clear hE hbad
          obtain ⟨vs, hvs, hvg⟩ := HRW.out
          have hvl : vs.length = acc.length := by have := hvs.1; omega
          have HVL := hide hvl
          clear hvl
          go_wp2_with fail
          refine htg.mono ?_
          rintro e w1 ⟨v3, rfl, ho3, hb1⟩
          have hvs1 := own_keepB hvs hb1
          have HO3 := hide ho3
          obtain ⟨a3, c3, rfl, -⟩ := own_form ho3
          have hB1 := hB.trans (hb1.mono hB.size)
          clear ho3
          go_wp2_with (at_builtin; refine wpList_append_own _ rfl (.tmp 34) (.tmp 36) 33 rfl w.heap.size 27 i0 (.slice none 0 0) 1 24 Tryz.underlying33 hi0 hz0 hz1 hz2 rfl (by decide) _ _ _ rfl (hvs1.alloc _) ⟨w1.heap.size, 0, none⟩ 1 1 [.slice a3 rs.length c3] rfl rfl (cell_one_new _ _ _) (by simp [Value.oneCell']) (by unfold maxLen; omega) (by omega) (by have := hB1.size; simp; omega) ?_)
          intro v2 w2 hown2 hgrow2 _
          have hb2 : Below w.heap.size w w2 := (hB1.alloc hB1.size _).grown hgrow2 (by have := hB1.size; simp; omega) (fun k hk => (hvs1.lt k hk).1)
          obtain ⟨a4, c4, rfl, -⟩ := own_form hown2
          have HO2 := hide hown2
          clear hown2 htg
          go_wp2
          go_roundw
          case rel =>
            refine ⟨acc ++ [rs], a + n, rfl, hna, by rw [List.length_append, List.length_singleton]; omega, ⟨vs ++ [.slice a3 rs.length c3], by rw [List.length_append]; exact HO2.out, ?_⟩, hb2, ?_⟩
            · intro i x g hx hg
              have hvl := HVL.out
              by_cases hi : i < vs.length
              · rw [List.getElem?_append_left hi] at hx
                rw [List.getElem?_append_left (by omega)] at hg
                exact grow_other (hvs1.alloc _) ((own_keepB (hvg i x g hx hg) hb1).alloc _) hgrow2
              · rw [List.getElem?_append_right (by omega)] at hx hg
                obtain ⟨i', hi'⟩ : ∃ i', i - vs.length = i' := ⟨_, rfl⟩
                rw [hi'] at hx
                rw [← hvl, hi'] at hg
                cases i' with
                | zero =>
                  simp at hx hg
                  subst hx hg
                  exact grow_other (hvs1.alloc _) ((own_low HO3.out hB.size).alloc _) hgrow2
                | succ i' => simp at hx
            · rw [HE.out, List.length_append, List.length_singleton, show b.length + 1 - (acc.length + 1) = f by omega]
              cases groupsW sum4 f b (a + n) with
              | none => rfl
              | some x => simp
          case measure => simp [intOf] <;> omega
    · obtain rfl : a = b.length := by omega
      rw [groupsW_end _ _ _ _ hlt] at hE
      have HE := hide hE
      clear hE hslw
      go_wp2
      go_ret3
      refine ⟨hB, .inr ⟨acc, b.length, _, ?_, ha, hac, rfl, HRW.out⟩⟩
      rw [HE.out]
      simp
end Go.Proofs.YthjcimgollfmgaaGreatDoor
