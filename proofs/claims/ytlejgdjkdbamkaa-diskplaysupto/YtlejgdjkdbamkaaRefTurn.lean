/-
  The reference's Turn. Conditions: as it says.
-/
import Derived.Test.YtlejgdjkdbamkaaRefRead
import Derived.Test.YtlejgdjkdbamkaaTurnOk
import Derived.Test.YtlejgdjkdbamkaaJShown
import Derived.Laws.IdiomStrings
namespace Go.Proofs.Ytlejgdjkdbamkaa
open Go.RowKit

/-- '[]byte(s)'. -/
theorem tobytes (w : World) (l : List UInt8) (hl : l.length ≤ maxLen) : ∃ cap w' C fr, (convert 9 33 (.string (strB l))).run Try.prog w = .ok (.slice (some ⟨w.heap.size, 0, none⟩) l.length cap) w' ∧ l.length ≤ cap ∧ cap ≤ maxLen ∧ Chg (fun _ => False) w w' ∧
    w'.heap[w.heap.size]? = some (.cells C 5 fr) ∧ (∀ j (h : j < l.length), C[j]? = some (.int .u8 ((l[j]'h).toNat : Int))) ∧ ∀ j, j < l.length → w'.frozen? ⟨w.heap.size, j, none⟩ = false := by
  have hs : (strB l).size = l.length := strB_size l
  have hr := run_bytes_of_string (P := Try.prog) w 9 33 5 (strB l) Try.underlying9 Try.underlying33 Try.underlying5
  rw [hs] at hr
  have hge := grownCap_ge w l.length 0 5
  have hle := grownCap_le_maxLen w l.length 0 5 hl
  refine ⟨_, _, _, _, hr, by omega, hle, ((Chg.refl _ w).drew).alloc _, heap_last w.drew _, fun j hj => ?_, fun j hj => ?_⟩
  · rw [bytesRow_at (strB l) _ j (by show j < l.toArray.size; simpa using hj)]
    simp [strB]
  · have := heap_last w.drew (.cells (bytesRow (strB l) (grownCap w l.length 0 5)) 5 ((bytesRow (strB l) (grownCap w l.length 0 5)).size, (bytesRow (strB l) (grownCap w l.length 0 5)).size + 1))
    rw [show w.drew.heap.size = w.heap.size from rfl] at this
    unfold World.frozen?
    simp only [this]
    simp [bytesRow, strB]
    omega

set_option maxRecDepth 20000 in
set_option maxHeartbeats 3200000 in
theorem rTurn_any {B r : Nat} {R : Nat → Prop} {S : Dk} {G : Rg} (w : World) (h : RR B w R r S G) (hk : Ok S) (n : Nm) (a : Int) (by_ : UInt8) (hb : S.bulk + 12 < 1099511627776) :
    Calls Try.prog 36 #[.pointer (some ⟨r, 0, none⟩), .string (strB n), .int .i64 a, .int .u8 (by_.toNat : Int)] w fun e w' => e = .returned (.int .i64 (S.turn n a by_).2) ∧ RDone B w R r (S.turn n a by_).1 G.ks w' := by
  have hdl := dir_le hk
  have hfl : S.files.length ≤ S.bulk := by unfold Dk.bulk; omega
  have HH := hide h
  have hof := of_any w B G.dv S.dir n h.dir (by omega)
  have c1 := cell_of h.blk 1
  dsimp only [rcells] at c1
  have HD := hide (RDone.same h (Chg.refl _ w))
  go_enter Try.func36, Try.ntmps36
  go_wp2_with fail
  refine hof.mono ?_
  rintro e w4 ⟨rfl, h4⟩
  rw [h4]
  clear hof h4
  cases hl : look S.dir n with
  | none =>
    dsimp only [idx]
    have HE := hide (show S.turn n a by_ = (S, 2) by unfold Dk.turn; rw [hl])
    clear hl h
    go_wp2
    go_ret
    rw [HE.out]
    exact ⟨rfl, HD.out⟩
  | some f =>
    dsimp only [idx]
    have hf : f < S.files.length := hk.idD (look_id hl)
    have hfle := file_le (List.getElem?_eq_getElem hf)
    have hby : S.bytes f = S.files[f].b := bytes_of (List.getElem?_eq_getElem hf)
    obtain ⟨fa, fcap, hfv⟩ := own_shape h.fls
    have hrow := h.fls
    rw [hfv] at hrow
    obtain ⟨g, rfl, -, hgl, hc⟩ := own_pos hrow (by omega)
    have x1 := hc _ _ (fc_at S.files f hf).1
    have hbk := h.blk
    rw [rcells, hfv] at hbk
    have c0 := cell_of hbk 0
    have hsz := strB_size S.files[f].b
    have HT := hide (show S.turn n a by_ = (if a < 0 ∨ (S.files[f].b.length : Int) ≤ a then (S, 2) else ({ S with files := S.files.modify f fun x => { x with b := x.b.modify a.toNat (· ^^^ by_) } }, 0)) by
      unfold Dk.turn
      rw [hl]
      show (if _ then _ else _) = _
      rw [hby])
    have hf0 : (0 : Int) ≤ (f : Int) := by omega
    have hf1 : (f : Int) < (S.files.length : Int) := by omega
    have hfn : ¬ (f : Int) < 0 := by omega
    clear hl hc hrow hby
    by_cases b1 : a < 0
    · have HE := hide (HT.out.trans (if_pos (Or.inl b1)))
      generalize S.files[f].b = fb at *
      clear h
      go_wp2
      go_ret
      rw [HE.out]
      exact ⟨rfl, HD.out⟩
    by_cases b2 : (S.files[f].b.length : Int) ≤ a
    · have HE := hide (HT.out.trans (if_pos (Or.inr b2)))
      generalize S.files[f].b = fb at *
      clear h
      go_wp2
      go_ret
      rw [HE.out]
      exact ⟨rfl, HD.out⟩
    have HE := hide (HT.out.trans (if_neg (by omega)))
    obtain ⟨i, rfl⟩ : ∃ i : Nat, a = (i : Int) := ⟨a.toNat, by omega⟩
    have hi : i < S.files[f].b.length := by omega
    -- the bytes
    obtain ⟨cap, W1, C, fr, hcv, hcap1, hcap2, hcW1, hbW1, hC, hfz⟩ := tobytes w S.files[f].b (by unfold maxLen; omega)
    have u0 : W1.cell? ⟨w.heap.size, i, none⟩ = some (.int .u8 (S.files[f].b[i].toNat : Int)) := (cell_of hbW1 i).trans (hC i hi)
    have uf := hfz i hi
    have hxo := b_xor S.files[f].b[i] by_
    have hbW2 := heap_set hbW1 i (.int .u8 ((S.files[f].b[i] ^^^ by_).toNat : Int))
    have hcW2 : Chg (fun _ => False) w (W1.setCell ⟨w.heap.size, i, none⟩ (.int .u8 ((S.files[f].b[i] ^^^ by_).toNat : Int))) := hcW1.setCell (p := ⟨w.heap.size, i, none⟩) (Or.inr (Nat.le_refl _)) _
    obtain ⟨W2, hW2⟩ : ∃ W, W = W1.setCell ⟨w.heap.size, i, none⟩ (.int .u8 ((S.files[f].b[i] ^^^ by_).toNat : Int)) := ⟨_, rfl⟩
    rw [← hW2] at hbW2 hcW2
    have hr2 := h.keep (hcW2.drew) (fun _ _ h => h)
    have hsl : Sl W2.drew (.slice (some ⟨w.heap.size, 0, none⟩) S.files[f].b.length cap) (S.files[f].b.modify i (· ^^^ by_)) := by
      refine ⟨_, cap, by rw [List.length_modify], by rw [List.length_modify]; exact hcap1, hcap2, (fun e => by cases e), fun _ => ⟨w.heap.size, 0, rfl, lt_of_heap hbW2, fun j hj => ?_⟩⟩
      rw [List.length_modify] at hj
      rw [Nat.zero_add]
      show W2.cell? ⟨w.heap.size, j, none⟩ = _
      rw [cell_of hbW2 j]
      by_cases hij : j = i
      · subst hij
        have hjC : j < C.size := by
          have := hC j hi
          exact (Array.getElem?_eq_some_iff.1 this).1
        simp [hjC]
      · simp only [List.getElem_modify, Array.getElem?_setIfInBounds, if_neg (fun e => hij e.symm : ¬ i = j)]
        exact hC j hj
    have hstr := run_str W2.drew _ _ hsl
    obtain ⟨hr3, hc3⟩ := hr2.files hfv (j := f * 2) (u := .string (strB (S.files[f].b.modify i (· ^^^ by_)))) (by omega) (S.files.modify f fun x => { x with b := x.b.modify i (· ^^^ by_) }) (by simp) (fc_b _ _ _ hf _ rfl)
    have HR3 := hide (show RDone B w R r { S with files := S.files.modify f fun x => { x with b := x.b.modify i (· ^^^ by_) } } G.ks (W2.drew.setCell ⟨g, f * 2, none⟩ (.string (strB (S.files[f].b.modify i (· ^^^ by_))))) from ⟨G, R, hr3, rfl, fun _ h => Or.inl h, (hcW2.drew.mono fun _ _ h => h.elim).then hc3⟩)
    have hbk2 := hcW2.keep hbk (fun h => h)
    have d0 := cell_of hbk2 0
    have hne : g ≠ r := h.neF g (by rw [hfv]; rfl)
    obtain ⟨gcur, hgcur⟩ := own_block h.fls (k := g) (by rw [hfv]; rfl)
    have hg2 := hcW2.keep hgcur (fun h => h)
    have tg := thawed hg2 (f * 2)
    have xg : W2.cell? ⟨g, f * 2, none⟩ = some (.string (strB S.files[f].b)) := (World.cell?_of_block (hcW2.block g hgl (fun h => h))).trans x1
    have y0 : (W2.drew.setCell ⟨g, f * 2, none⟩ (.string (strB (S.files[f].b.modify i (· ^^^ by_))))).cell? ⟨r, 0, none⟩ = some (.slice (some ⟨g, 0, none⟩) S.files.length fcap) := by rw [World.cell?_setCell_far _ _ _ _ hne]; exact d0
    have hstr2 := run_str (W2.drew.setCell ⟨g, f * 2, none⟩ (.string (strB (S.files[f].b.modify i (· ^^^ by_))))) _ _ (hsl.keep (chg_set W2.drew g (f * 2) _) (fun q hq e => by injection hq with hq; simp only at hq; omega))
    have HW2 := hide hW2
    have i0 : (0 : Int) ≤ (i : Int) := by omega
    have i1 : (i : Int) < (S.files[f].b.length : Int) := by omega
    clear hr2 hr3 hc3 hsl h hW2 hC hfz hcW1 hbW1 hbk hbk2 hgcur hg2 hcW2 hbW2
    generalize S.files[f].b[i] ^^^ by_ = xb at *
    generalize S.files[f].b[i] = ob at *
    generalize S.files[f].b.modify i (· ^^^ by_) = nb at *
    generalize S.files[f].b = fb at *
    go_wp2_with fail
    rw [← HW2.out]
    refine wp_region_held_drew (S := fun W => W.cell? ⟨r, 0, none⟩ = some (.slice (some ⟨g, 0, none⟩) S.files.length fcap) ∧ (convert 33 9 (.slice (some ⟨w.heap.size, 0, none⟩) fb.length cap)).run Try.prog W = .ok (.string ⟨nb.toArray⟩) W) (by kernel_rfl) (⟨d0, hstr⟩) (fun hHeld => ?_)
    refine takeH (i := 0) (v := ?_) rfl (by kernel_rfl) (by kernel_rfl) (by kernel_rfl) (fun _ _ _ h => h) rfl ?_ hHeld ?_
    rotate_left
    · intro w hS; (try dsimp only at hS); obtain ⟨hS0, hS1⟩ := hS; go_simp; first | done | (with_reducible rfl)
    try simp only [Act.put, ly1, ly2, ly3]
    refine takeH (i := 1) (v := ?_) rfl (by kernel_rfl) (by kernel_rfl) (by kernel_rfl) (fun _ _ _ h => h) rfl ?_ hHeld ?_
    rotate_left
    · intro w hS; (try dsimp only at hS); obtain ⟨hS0, hS1⟩ := hS; go_simp; first | done | (with_reducible rfl)
    try simp only [Act.put, ly1, ly2, ly3]
    refine takeH (i := 2) (v := ?_) rfl (by kernel_rfl) (by kernel_rfl) (by kernel_rfl) (fun _ _ _ h => h) rfl ?_ hHeld ?_
    rotate_left
    · intro w hS; (try dsimp only at hS); obtain ⟨hS0, hS1⟩ := hS; go_simp; first | done | (with_reducible rfl)
    try simp only [Act.put, ly1, ly2, ly3]
    refine takeH (i := 3) (v := ?_) rfl (by kernel_rfl) (by kernel_rfl) (by kernel_rfl) (fun _ _ _ h => h) rfl ?_ hHeld ?_
    rotate_left
    · intro w hS; (try dsimp only at hS); obtain ⟨hS0, hS1⟩ := hS; go_simp; first | done | (with_reducible rfl)
    try simp only [Act.put, ly1, ly2, ly3]
    refine takeH (i := 4) (v := ?_) rfl (by kernel_rfl) (by kernel_rfl) (by kernel_rfl) (fun _ _ _ h => h) rfl ?_ hHeld ?_
    rotate_left
    · intro w hS; (try dsimp only at hS); obtain ⟨hS0, hS1⟩ := hS; go_simp; first | done | (with_reducible rfl)
    try simp only [Act.put, ly1, ly2, ly3]
    refine takeH (i := 5) (v := ?_) rfl (by kernel_rfl) (by kernel_rfl) (by kernel_rfl) (fun _ _ _ h => h) rfl ?_ hHeld ?_
    rotate_left
    · intro w hS; (try dsimp only at hS); obtain ⟨hS0, hS1⟩ := hS; go_simp; first | done | (with_reducible rfl)
    try simp only [Act.put, ly1, ly2, ly3]
    refine takeH (i := 6) (v := ?_) rfl (by kernel_rfl) (by kernel_rfl) (by kernel_rfl) (fun _ _ _ h => h) rfl ?_ hHeld ?_
    rotate_left
    · intro w hS; (try dsimp only at hS); obtain ⟨hS0, hS1⟩ := hS; go_simp; first | done | (with_reducible rfl)
    try simp only [Act.put, ly1, ly2, ly3]
    refine takeH (i := 7) (v := ?_) rfl (by kernel_rfl) (by kernel_rfl) (by kernel_rfl) (fun _ _ _ h => h) rfl ?_ hHeld ?_
    rotate_left
    · intro w hS; (try dsimp only at hS); obtain ⟨hS0, hS1⟩ := hS; go_simp; first | done | (with_reducible rfl)
    try simp only [Act.put, ly1, ly2, ly3]
    refine takeH (i := 8) (v := ?_) rfl (by kernel_rfl) (by kernel_rfl) (by kernel_rfl) (fun _ _ _ h => h) rfl ?_ hHeld ?_
    rotate_left
    · intro w hS; (try dsimp only at hS); obtain ⟨hS0, hS1⟩ := hS; go_simp; first | done | (with_reducible rfl)
    try simp only [Act.put, ly1, ly2, ly3]
    refine onlyH (i := 9) rfl (by kernel_rfl) rfl (fun K hK => ?_)
    go_simp
    refine hK.out _ _ (⟨y0, hstr2⟩) (fun hHeld => ?_)
    clear hK K
    try simp only [Act.put, ly1, ly2, ly3]
    refine wpAnyH_done (by kernel_rfl) ?_ _
    clear hHeld y0 hstr2 hstr
    go_wp2
    go_ret
    rw [HE.out]
    exact ⟨rfl, HR3.out⟩
end Go.Proofs.Ytlejgdjkdbamkaa
