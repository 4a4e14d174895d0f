/-
  Texts joined: Open, Same, Few, CalmApi, Shown1.
-/
import Derived.Test.YthjcimgollfmgaaGreatDoorP19Api
/-
  What Open does. Conditions: the disk stands, within bounds; the table holds its numbers.
-/
namespace Go.Proofs.YthjcimgollfmgaaGreatDoor
open Go.RowKit
variable {B : Nat} {w w' : World} {F : Nat → Prop} {d l : Nat} {S : Dk} {L : Lw}

/-- Behind Open: the log lies in a block of its own. -/
def Opened (B : Nat) (w : World) (F : Nat → Prop) (d : Nat) (S : Dk) (n : Nm) (w' : World) (x v : Value) : Option (List (List (List UInt8)) × Nat × Nat) → Prop
  | none => x = .pointer none ∧ v = .slice none 0 0 ∧ After B w F d S.begun w'
  | some y => ∃ l F' b1, x = .pointer (some ⟨l, 0, none⟩) ∧ w.heap.size ≤ l ∧ Lg B w' F' d l S.begun ⟨n, false, (y.2.1 : Int), (y.2.2 : Int)⟩ ∧ (∀ k, F' k → F k ∨ w.heap.size ≤ k) ∧ Chg F w w' ∧ Gs w' b1 v y.1 ∧ w.heap.size ≤ b1 ∧ l < b1 ∧ ∀ k, F' k → k < b1

set_option maxRecDepth 20000 in
theorem open_bad (w : World) (d : Nat) (n : Nm) (hn : isLg n = false) :
    Calls Tryz.prog 10 #[.pointer (some ⟨d, 0, none⟩), .string (strB n)] w fun e w' => e = .returned (.tuple #[.pointer none, .slice none 0 0, .int .i64 50]) ∧ w' = w := by
  have hi := isLog_any w n
  rw [hn] at hi
  go_enter Tryz.func10, Tryz.ntmps10
  go_wp2_with fail
  refine hi.mono ?_
  rintro e w1 ⟨rfl, rfl⟩
  go_wp2
  go_ret3
  exact ⟨rfl, rfl⟩

set_option maxRecDepth 20000 in
set_option maxHeartbeats 1600000 in
theorem open_lg (h : Stands B w F d S) (hB : B ≤ w.heap.size) (hB0 : 0 < B) (hT : TabW w) (hb : S.bulk < 1000000000) (n : Nm) (hn : isLg n = true) :
    Calls Tryz.prog 10 #[.pointer (some ⟨d, 0, none⟩), .string (strB n)] w fun e w' => ∃ x v, e = .returned (.tuple #[x, v, .int .i64 (lookW S n).1]) ∧ Opened B w F d S n w' x v (lookW S n).2 := by
  have hi := isLog_any w n
  have hl70 := isLg_len hn
  rw [hn] at hi
  have H := hide h
  have HT := hide hT
  clear h hT hn
  generalize hK : lookW S n = K
  obtain ⟨e1, o1⟩ := K
  cases o1 with
  | none =>
    have hek : (e1 == 0) = false := by
      have := lookW_bad hK
      simp [this]
    have HK := hide hK
    clear hK
    dsimp only
    go_enter Tryz.func10, Tryz.ntmps10
    go_wp2_with fail
    refine hi.mono ?_
    rintro e w ⟨rfl, rfl⟩
    have hcl := copyStr_any w n (by omega)
    go_wp2_with fail
    refine hcl.mono ?_
    rintro e w2 ⟨rfl, hb2⟩
    have hbW : Below w.heap.size w (w2.alloc (.cells #[.pointer (some ⟨d, 0, none⟩), .string (strB n), .bool false, .int .i64 0, .int .i64 0] 69)) := hb2.alloc hb2.size _
    have hgW : Lg B (w2.alloc (.cells #[.pointer (some ⟨d, 0, none⟩), .string (strB n), .bool false, .int .i64 0, .int .i64 0] 69)) F d w2.heap.size S ⟨n, false, 0, 0⟩ := by
      have hs2 := hb2.size
      refine ⟨H.out.keep (chg_new hbW) (fun _ _ h => h), heap_last w2 _, fun hf => ?_, by omega, hl70.2⟩
      have := (H.out.2.1 _ hf).2
      omega
    have hlk := look_lg hgW hB0 (HT.out.keep hbW) hb
    dsimp only at hlk
    rw [HK.out] at hlk
    have hszW : (w2.alloc (.cells #[.pointer (some ⟨d, 0, none⟩), .string (strB n), .bool false, .int .i64 0, .int .i64 0] 69)).heap.size = w2.heap.size + 1 := by simp
    have hs2 := hb2.size
    go_wp2_with fail
    refine hlk.mono ?_
    rintro e w3 ⟨v3, rfl, rfl, ha⟩
    obtain ⟨F3, hg3, hf3, hc3⟩ := ha
    have HS := hide hszW
    clear hszW
    go_wp2
    go_ret3
    have hszW := HS.out
    refine ⟨_, _, rfl, rfl, rfl, F3, hg3.1, fun k hk => ?_, ?_⟩
    · rcases hf3 k hk with h | h
      · exact .inl h
      · exact .inr (by omega)
    · refine ((chg_new hbW).mono fun _ _ h => h.elim).trans hc3 fun k hk h => ?_
      rcases h with h | h
      · exact h
      · omega
  | some y =>
    obtain ⟨hy1, hy2, rfl⟩ := lookW_le hK
    have HK := hide hK
    clear hK
    dsimp only
    go_enter Tryz.func10, Tryz.ntmps10
    go_wp2_with fail
    refine hi.mono ?_
    rintro e w ⟨rfl, rfl⟩
    have hcl := copyStr_any w n (by omega)
    go_wp2_with fail
    refine hcl.mono ?_
    rintro e w2 ⟨rfl, hb2⟩
    have hbW : Below w.heap.size w (w2.alloc (.cells #[.pointer (some ⟨d, 0, none⟩), .string (strB n), .bool false, .int .i64 0, .int .i64 0] 69)) := hb2.alloc hb2.size _
    have hgW : Lg B (w2.alloc (.cells #[.pointer (some ⟨d, 0, none⟩), .string (strB n), .bool false, .int .i64 0, .int .i64 0] 69)) F d w2.heap.size S ⟨n, false, 0, 0⟩ := by
      have hs2 := hb2.size
      refine ⟨H.out.keep (chg_new hbW) (fun _ _ h => h), heap_last w2 _, fun hf => ?_, by omega, hl70.2⟩
      have := (H.out.2.1 _ hf).2
      omega
    have hlk := look_lg hgW hB0 (HT.out.keep hbW) hb
    dsimp only at hlk
    rw [HK.out] at hlk
    have hszW : (w2.alloc (.cells #[.pointer (some ⟨d, 0, none⟩), .string (strB n), .bool false, .int .i64 0, .int .i64 0] 69)).heap.size = w2.heap.size + 1 := by simp
    have hs2 := hb2.size
    go_wp2_with fail
    refine hlk.mono ?_
    rintro e w3 ⟨v3, rfl, F3, b3, hg3, hf3, hc3, hgs, hb3, hF3⟩
    have HS := hide hszW
    have HGS := hide hgs
    obtain ⟨a3, c3, rfl, -⟩ := hgs.form
    clear hszW hgs
    go_wp2
    go_ret3
    have hszW := HS.out
    refine ⟨_, _, rfl, w2.heap.size, F3, b3, rfl, hs2, hg3, fun k hk => ?_, ?_, HGS.out, by omega, by omega, hF3⟩
    · rcases hf3 k hk with h | h
      · exact .inl h
      · exact .inr (by omega)
    · refine ((chg_new hbW).mono fun _ _ h => h.elim).trans hc3 fun k hk h => ?_
      rcases h with h | h
      · exact h
      · omega
end Go.Proofs.YthjcimgollfmgaaGreatDoor

/-
  What the law's same tells: whether groups are the same. Conditions: they can be read.
-/
namespace Go.Proofs.YthjcimgollfmgaaGreatDoor
open Go.RowKit
variable {w w' : World}

/-- Groups that can be read: the slice v holds slices that hold the texts. -/
def Rs (w : World) (v : Value) (gs : List (List (List UInt8))) : Prop :=
  ∃ ao cap, v = .slice ao gs.length cap ∧ gs.length ≤ cap ∧ cap ≤ maxLen ∧
    (gs ≠ [] → ∃ b off, ao = some ⟨b, off, none⟩ ∧ b < w.heap.size ∧ ∀ j (h : j < gs.length), ∃ x, w.cell? ⟨b, off + j, none⟩ = some x ∧ Tx w x gs[j])
theorem Gs.rs {base : Nat} {v : Value} {gs : List (List (List UInt8))} (h : Gs w base v gs) : Rs w v gs := by
  obtain ⟨vs, ho, hx⟩ := h
  have hl : vs.length = gs.length := by have := ho.1; omega
  have h0 := ho
  rcases ho.2 with ⟨rfl, hn⟩ | ⟨g, cap, cur, rfl, hg, hh, hc, hm, hs, ht⟩
  · obtain rfl : gs = [] := List.eq_nil_of_length_eq_zero hn
    exact ⟨none, 0, rfl, Nat.le_refl _, by simp, fun h => absurd rfl h⟩
  · refine ⟨_, _, rfl, hc, hm, fun _ => ⟨g, 0, rfl, lt_of_heap hh, fun j hj => ?_⟩⟩
    have hj' : vs[j]? = some vs[j] := List.getElem?_eq_getElem (by omega)
    have hcell := World.ownsRow.cells h0 (g := g) rfl j _ hj'
    rw [Addr.add_lit] at hcell
    exact ⟨vs[j], hcell, tx_of_own (hx j vs[j] gs[j] hj' (List.getElem?_eq_getElem hj))⟩
theorem Tx.quiet {v : Value} {xs : List (List UInt8)} (h : Tx w v xs) (hc : Chg (fun _ => False) w w') : Tx w' v xs := h.chg hc fun _ _ h => h
theorem Rs.quiet {v : Value} {gs : List (List (List UInt8))} (h : Rs w v gs) (hc : Chg (fun _ => False) w w') : Rs w' v gs := by
  obtain ⟨ao, cap, hv, h1, h2, h4⟩ := h
  refine ⟨ao, cap, hv, h1, h2, fun hl => ?_⟩
  obtain ⟨b, off, ha, hlt, hcell⟩ := h4 hl
  refine ⟨b, off, ha, Nat.lt_of_lt_of_le hlt hc.size, fun j hj => ?_⟩
  obtain ⟨x, hx, hT⟩ := hcell j hj
  exact ⟨x, (World.cell?_of_block (w := w) (hc.block b hlt (fun h => h))).trans hx, hT.quiet hc⟩
theorem Rs.form {v : Value} {gs : List (List (List UInt8))} (h : Rs w v gs) : ∃ ao cap, v = .slice ao gs.length cap := by
  obtain ⟨ao, cap, hv, -⟩ := h
  exact ⟨ao, cap, hv⟩
/-- Its j-th group. -/
theorem Rs.at {ao : Option Addr} {n cap : Nat} {gs : List (List (List UInt8))} (h : Rs w (.slice ao n cap) gs) (j : Nat) (hj : j < gs.length) :
    ∃ b off, ao = some ⟨b, off, none⟩ ∧ n = gs.length ∧ ∃ x, w.cell? ⟨b, off + j, none⟩ = some x ∧ Tx w x gs[j] := by
  obtain ⟨ao', cap', hv, h1, h2, h4⟩ := h
  injection hv with e1 e2 e3
  subst e1 e2 e3
  obtain ⟨b, off, ha, hlt, hcell⟩ := h4 (fun e => by rw [e] at hj; simp at hj)
  exact ⟨b, off, ha, rfl, hcell j hj⟩
theorem Tx.at {ao : Option Addr} {n cap : Nat} {xs : List (List UInt8)} (h : Tx w (.slice ao n cap) xs) (j : Nat) (hj : j < xs.length) :
    ∃ b off, ao = some ⟨b, off, none⟩ ∧ w.cell? ⟨b, off + j, none⟩ = some (.string (strB xs[j])) := by
  obtain ⟨ao', cap', hv, h1, h2, h4⟩ := h
  injection hv with e1 e2 e3
  subst e1
  obtain ⟨b, off, ha, hlt, hcell⟩ := h4 (fun e => by rw [e] at hj; simp at hj)
  exact ⟨b, off, ha, hcell j hj⟩
theorem Tx.len {v : Value} {xs : List (List UInt8)} (h : Tx w v xs) : xs.length ≤ maxLen := by
  obtain ⟨ao', cap', hv, h1, h2, h4⟩ := h
  omega
theorem Rs.len {v : Value} {gs : List (List (List UInt8))} (h : Rs w v gs) : gs.length ≤ maxLen := by
  obtain ⟨ao', cap', hv, h1, h2, h4⟩ := h
  omega
theorem quiet_cell {a : Addr} {v : Value} (h : w.cell? a = some v) (hc : Chg (fun _ => False) w w') : w'.cell? a = some v := (World.cell?_of_block (w := w) (hc.block a.block (World.block_lt_of_cell? w a h) (fun h => h))).trans h
theorem take_one {α : Type} {a b : List α} {k : Nat} (h : a.take k = b.take k) (ha : k < a.length) (hb : k < b.length) (e : a[k] = b[k]) : a.take (k + 1) = b.take (k + 1) := by
  rw [List.take_add_one, List.take_add_one, h, List.getElem?_eq_getElem ha, List.getElem?_eq_getElem hb, e]

set_option maxRecDepth 20000 in
set_option maxHeartbeats 1600000 in
theorem same_any (w : World) (va vb : Value) (gs hs : List (List (List UInt8))) (ha : Rs w va gs) (hb : Rs w vb hs) :
    Calls Tryz.prog 12 #[va, vb] w fun e w' => e = .returned (.bool (decide (gs = hs))) ∧ Chg (fun _ => False) w w' := by
  obtain ⟨aa, ca, rfl⟩ := ha.form
  obtain ⟨ab, cb, rfl⟩ := hb.form
  have hgs := ha.len
  unfold maxLen at hgs
  have HA := hide ha
  have HB := hide hb
  clear ha hb
  by_cases hl : gs.length ≠ hs.length
  · have hd : decide (gs = hs) = false := by
      rw [decide_eq_false_iff_not]
      exact fun e => hl (by rw [e])
    rw [hd]
    have hlb : ((gs.length : Int) == (hs.length : Int)) = false := by simp; omega
    clear hl
    go_enter Tryz.func12, Tryz.ntmps12
    go_wp2
    go_ret
    exact ⟨rfl, Chg.refl _ _⟩
  have hl : gs.length = hs.length := by omega
  have HL := hide hl
  have hlb : ((gs.length : Int) == (hs.length : Int)) = true := by simp [hl]
  clear hl
  go_enter Tryz.func12, Tryz.ntmps12
  go_wp2
  go_loopw [5] (fun i wr => ∃ k : Nat, k ≤ gs.length ∧ i = .int .i64 (k : Int) ∧ Chg (fun _ => False) w wr ∧ gs.take k = hs.take k) (fun i _ => gs.length - (intOf i).toNat)
  case atStart => exact ⟨0, Nat.zero_le _, rfl, Chg.refl _ _, rfl⟩
  case round =>
    obtain ⟨k, hk, rfl, hc, hpre⟩ := hrel
    have HP := hide hpre
    clear hpre
    by_cases hlt : k < gs.length
    · have hlt2 : k < hs.length := by have := HL.out; omega
      obtain ⟨ba, oa, rfl, -, x, hx, hTx⟩ := (HA.out.quiet hc).at k hlt
      obtain ⟨bb, ob, rfl, -, y, hy, hTy⟩ := (HB.out.quiet hc).at k hlt2
      generalize hg : gs[k] = g at *
      generalize hh : hs[k] = h at *
      have HG := hide hg
      have HH := hide hh
      have HX := hide hTx
      have HY := hide hTy
      have hgn := hTx.len
      unfold maxLen at hgn
      obtain ⟨ax, cx, rfl⟩ := hTx.form
      obtain ⟨ay, cy, rfl⟩ := hTy.form
      clear hg hh hTx hTy
      by_cases hgl : g.length ≠ h.length
      · have hd : decide (gs = hs) = false := by
          rw [decide_eq_false_iff_not]
          intro e
          subst e
          exact hgl (by rw [← HG.out, ← HH.out])
        have HD := hide hd
        have hgb : ((g.length : Int) == (h.length : Int)) = false := by simp; omega
        clear hgl hd
        go_wp2
        refine wp_region_held_drew (S := fun W => W.cell? ⟨ba, oa + k, none⟩ = some (.slice ax g.length cx) ∧ W.cell? ⟨bb, ob + k, none⟩ = some (.slice ay h.length cy)) (by kernel_rfl) (⟨hx, hy⟩) (fun hHeld => ?_)
        refine takeH (i := 0) (v := ?_) rfl (by kernel_rfl) (by kernel_rfl) (by kernel_rfl) (fun _ _ _ h => h) rfl ?_ hHeld ?_
        rotate_left
        · intro w hS; (try dsimp only at hS); obtain ⟨hS0, hS1⟩ := hS; go_simp; first | done | (with_reducible rfl)
        try simp only [Act.put, ly1, ly2, ly3]
        refine takeH (i := 1) (v := ?_) rfl (by kernel_rfl) (by kernel_rfl) (by kernel_rfl) (fun _ _ _ h => h) rfl ?_ hHeld ?_
        rotate_left
        · intro w hS; (try dsimp only at hS); obtain ⟨hS0, hS1⟩ := hS; go_simp; first | done | (with_reducible rfl)
        try simp only [Act.put, ly1, ly2, ly3]
        refine takeH (i := 2) (v := ?_) rfl (by kernel_rfl) (by kernel_rfl) (by kernel_rfl) (fun _ _ _ h => h) rfl ?_ hHeld ?_
        rotate_left
        · intro w hS; (try dsimp only at hS); obtain ⟨hS0, hS1⟩ := hS; go_simp; first | done | (with_reducible rfl)
        try simp only [Act.put, ly1, ly2, ly3]
        refine takeH (i := 3) (v := ?_) rfl (by kernel_rfl) (by kernel_rfl) (by kernel_rfl) (fun _ _ _ h => h) rfl ?_ hHeld ?_
        rotate_left
        · intro w hS; (try dsimp only at hS); obtain ⟨hS0, hS1⟩ := hS; go_simp; first | done | (with_reducible rfl)
        try simp only [Act.put, ly1, ly2, ly3]
        refine takeH (i := 4) (v := ?_) rfl (by kernel_rfl) (by kernel_rfl) (by kernel_rfl) (fun _ _ _ h => h) rfl ?_ hHeld ?_
        rotate_left
        · intro w hS; (try dsimp only at hS); obtain ⟨hS0, hS1⟩ := hS; go_simp; first | done | (with_reducible rfl)
        try simp only [Act.put, ly1, ly2, ly3]
        refine takeH (i := 5) (v := ?_) rfl (by kernel_rfl) (by kernel_rfl) (by kernel_rfl) (fun _ _ _ h => h) rfl ?_ hHeld ?_
        rotate_left
        · intro w hS; (try dsimp only at hS); obtain ⟨hS0, hS1⟩ := hS; go_simp; first | done | (with_reducible rfl)
        try simp only [Act.put, ly1, ly2, ly3]
        refine takeH (i := 6) (v := ?_) rfl (by kernel_rfl) (by kernel_rfl) (by kernel_rfl) (fun _ _ _ h => h) rfl ?_ hHeld ?_
        rotate_left
        · intro w hS; (try dsimp only at hS); obtain ⟨hS0, hS1⟩ := hS; go_simp; first | done | (with_reducible rfl)
        try simp only [Act.put, ly1, ly2, ly3]
        refine takeH (i := 7) (v := ?_) rfl (by kernel_rfl) (by kernel_rfl) (by kernel_rfl) (fun _ _ _ h => h) rfl ?_ hHeld ?_
        rotate_left
        · intro w hS; (try dsimp only at hS); obtain ⟨hS0, hS1⟩ := hS; go_simp; first | done | (with_reducible rfl)
        try simp only [Act.put, ly1, ly2, ly3]
        refine takeH (i := 8) (v := ?_) rfl (by kernel_rfl) (by kernel_rfl) (by kernel_rfl) (fun _ _ _ h => h) rfl ?_ hHeld ?_
        rotate_left
        · intro w hS; (try dsimp only at hS); obtain ⟨hS0, hS1⟩ := hS; go_simp; first | done | (with_reducible rfl)
        try simp only [Act.put, ly1, ly2, ly3]
        refine takeH (i := 9) (v := ?_) rfl (by kernel_rfl) (by kernel_rfl) (by kernel_rfl) (fun _ _ _ h => h) rfl ?_ hHeld ?_
        rotate_left
        · intro w hS; (try dsimp only at hS); obtain ⟨hS0, hS1⟩ := hS; go_simp; first | done | (with_reducible rfl)
        try simp only [Act.put, ly1, ly2, ly3]
        refine takeH (i := 10) (v := ?_) rfl (by kernel_rfl) (by kernel_rfl) (by kernel_rfl) (fun _ _ _ h => h) rfl ?_ hHeld ?_
        rotate_left
        · intro w hS; (try dsimp only at hS); obtain ⟨hS0, hS1⟩ := hS; go_simp; first | done | (with_reducible rfl)
        try simp only [Act.put, ly1, ly2, ly3]
        refine wpAnyH_done (by kernel_rfl) ?_ _
        clear hHeld
        go_wp2
        go_ret
        rw [HD.out]
        exact ⟨rfl, hc.drew⟩
      · have hgl : g.length = h.length := by omega
        have HGL := hide hgl
        have hgb : ((g.length : Int) == (h.length : Int)) = true := by simp [hgl]
        clear hgl
        go_wp2
        refine wp_region_held_drew (S := fun W => W.cell? ⟨ba, oa + k, none⟩ = some (.slice ax g.length cx) ∧ W.cell? ⟨bb, ob + k, none⟩ = some (.slice ay h.length cy)) (by kernel_rfl) (⟨hx, hy⟩) (fun hHeld => ?_)
        refine takeH (i := 0) (v := ?_) rfl (by kernel_rfl) (by kernel_rfl) (by kernel_rfl) (fun _ _ _ h => h) rfl ?_ hHeld ?_
        rotate_left
        · intro w hS; (try dsimp only at hS); obtain ⟨hS0, hS1⟩ := hS; go_simp; first | done | (with_reducible rfl)
        try simp only [Act.put, ly1, ly2, ly3]
        refine takeH (i := 1) (v := ?_) rfl (by kernel_rfl) (by kernel_rfl) (by kernel_rfl) (fun _ _ _ h => h) rfl ?_ hHeld ?_
        rotate_left
        · intro w hS; (try dsimp only at hS); obtain ⟨hS0, hS1⟩ := hS; go_simp; first | done | (with_reducible rfl)
        try simp only [Act.put, ly1, ly2, ly3]
        refine takeH (i := 2) (v := ?_) rfl (by kernel_rfl) (by kernel_rfl) (by kernel_rfl) (fun _ _ _ h => h) rfl ?_ hHeld ?_
        rotate_left
        · intro w hS; (try dsimp only at hS); obtain ⟨hS0, hS1⟩ := hS; go_simp; first | done | (with_reducible rfl)
        try simp only [Act.put, ly1, ly2, ly3]
        refine takeH (i := 3) (v := ?_) rfl (by kernel_rfl) (by kernel_rfl) (by kernel_rfl) (fun _ _ _ h => h) rfl ?_ hHeld ?_
        rotate_left
        · intro w hS; (try dsimp only at hS); obtain ⟨hS0, hS1⟩ := hS; go_simp; first | done | (with_reducible rfl)
        try simp only [Act.put, ly1, ly2, ly3]
        refine takeH (i := 4) (v := ?_) rfl (by kernel_rfl) (by kernel_rfl) (by kernel_rfl) (fun _ _ _ h => h) rfl ?_ hHeld ?_
        rotate_left
        · intro w hS; (try dsimp only at hS); obtain ⟨hS0, hS1⟩ := hS; go_simp; first | done | (with_reducible rfl)
        try simp only [Act.put, ly1, ly2, ly3]
        refine takeH (i := 5) (v := ?_) rfl (by kernel_rfl) (by kernel_rfl) (by kernel_rfl) (fun _ _ _ h => h) rfl ?_ hHeld ?_
        rotate_left
        · intro w hS; (try dsimp only at hS); obtain ⟨hS0, hS1⟩ := hS; go_simp; first | done | (with_reducible rfl)
        try simp only [Act.put, ly1, ly2, ly3]
        refine takeH (i := 6) (v := ?_) rfl (by kernel_rfl) (by kernel_rfl) (by kernel_rfl) (fun _ _ _ h => h) rfl ?_ hHeld ?_
        rotate_left
        · intro w hS; (try dsimp only at hS); obtain ⟨hS0, hS1⟩ := hS; go_simp; first | done | (with_reducible rfl)
        try simp only [Act.put, ly1, ly2, ly3]
        refine takeH (i := 7) (v := ?_) rfl (by kernel_rfl) (by kernel_rfl) (by kernel_rfl) (fun _ _ _ h => h) rfl ?_ hHeld ?_
        rotate_left
        · intro w hS; (try dsimp only at hS); obtain ⟨hS0, hS1⟩ := hS; go_simp; first | done | (with_reducible rfl)
        try simp only [Act.put, ly1, ly2, ly3]
        refine takeH (i := 8) (v := ?_) rfl (by kernel_rfl) (by kernel_rfl) (by kernel_rfl) (fun _ _ _ h => h) rfl ?_ hHeld ?_
        rotate_left
        · intro w hS; (try dsimp only at hS); obtain ⟨hS0, hS1⟩ := hS; go_simp; first | done | (with_reducible rfl)
        try simp only [Act.put, ly1, ly2, ly3]
        refine takeH (i := 9) (v := ?_) rfl (by kernel_rfl) (by kernel_rfl) (by kernel_rfl) (fun _ _ _ h => h) rfl ?_ hHeld ?_
        rotate_left
        · intro w hS; (try dsimp only at hS); obtain ⟨hS0, hS1⟩ := hS; go_simp; first | done | (with_reducible rfl)
        try simp only [Act.put, ly1, ly2, ly3]
        refine takeH (i := 10) (v := ?_) rfl (by kernel_rfl) (by kernel_rfl) (by kernel_rfl) (fun _ _ _ h => h) rfl ?_ hHeld ?_
        rotate_left
        · intro w hS; (try dsimp only at hS); obtain ⟨hS0, hS1⟩ := hS; go_simp; first | done | (with_reducible rfl)
        try simp only [Act.put, ly1, ly2, ly3]
        refine wpAnyH_done (by kernel_rfl) ?_ _
        clear hHeld
        go_wp2
        go_loopw [6] (fun j wj => ∃ m : Nat, m ≤ g.length ∧ j = .int .i64 (m : Int) ∧ Chg (fun _ => False) wr wj ∧ g.take m = h.take m) (fun j _ => g.length - (intOf j).toNat)
        case atStart => exact ⟨0, Nat.zero_le _, rfl, (Chg.refl _ _).drew, rfl⟩
        case round =>
          obtain ⟨m, hm, rfl, hcj, hpm⟩ := hrel
          have HPM := hide hpm
          have hx' := quiet_cell hx hcj
          have hy' := quiet_cell hy hcj
          clear hpm
          by_cases hmlt : m < g.length
          · have hmlt2 : m < h.length := by have := HGL.out; omega
            obtain ⟨bx, ox, rfl, hcx⟩ := (HX.out.quiet hcj).at m hmlt
            obtain ⟨by', oy, rfl, hcy⟩ := (HY.out.quiet hcj).at m hmlt2
            generalize hgm : g[m] = r at *
            generalize hhm : h[m] = q at *
            have HR := hide hgm
            have HQ := hide hhm
            clear hgm hhm
            by_cases hrq : r = q
            · have hq : ((strB r).toList == (strB q).toList) = true := by rw [hrq]; exact beq_self_eq_true _
              have HRQ := hide hrq
              clear hrq
              go_wp2
              refine wp_region_held_drew (S := fun W => W.cell? ⟨ba, oa + k, none⟩ = some (.slice (some ⟨bx, ox, none⟩) g.length cx) ∧ W.cell? ⟨bb, ob + k, none⟩ = some (.slice (some ⟨by', oy, none⟩) h.length cy) ∧ W.cell? ⟨bx, ox + m, none⟩ = some (.string (strB r)) ∧ W.cell? ⟨by', oy + m, none⟩ = some (.string (strB q))) (by kernel_rfl) (⟨hx', hy', hcx, hcy⟩) (fun hHeld => ?_)
              refine takeH (i := 0) (v := ?_) rfl (by kernel_rfl) (by kernel_rfl) (by kernel_rfl) (fun _ _ _ h => h) rfl ?_ hHeld ?_
              rotate_left
              · intro w hS; (try dsimp only at hS); obtain ⟨hS0, hS1, hS2, hS3⟩ := hS; go_simp; first | done | (with_reducible rfl)
              try simp only [Act.put, ly1, ly2, ly3]
              refine takeH (i := 1) (v := ?_) rfl (by kernel_rfl) (by kernel_rfl) (by kernel_rfl) (fun _ _ _ h => h) rfl ?_ hHeld ?_
              rotate_left
              · intro w hS; (try dsimp only at hS); obtain ⟨hS0, hS1, hS2, hS3⟩ := hS; go_simp; first | done | (with_reducible rfl)
              try simp only [Act.put, ly1, ly2, ly3]
              refine takeH (i := 2) (v := ?_) rfl (by kernel_rfl) (by kernel_rfl) (by kernel_rfl) (fun _ _ _ h => h) rfl ?_ hHeld ?_
              rotate_left
              · intro w hS; (try dsimp only at hS); obtain ⟨hS0, hS1, hS2, hS3⟩ := hS; go_simp; first | done | (with_reducible rfl)
              try simp only [Act.put, ly1, ly2, ly3]
              refine takeH (i := 3) (v := ?_) rfl (by kernel_rfl) (by kernel_rfl) (by kernel_rfl) (fun _ _ _ h => h) rfl ?_ hHeld ?_
              rotate_left
              · intro w hS; (try dsimp only at hS); obtain ⟨hS0, hS1, hS2, hS3⟩ := hS; go_simp; first | done | (with_reducible rfl)
              try simp only [Act.put, ly1, ly2, ly3]
              refine takeH (i := 4) (v := ?_) rfl (by kernel_rfl) (by kernel_rfl) (by kernel_rfl) (fun _ _ _ h => h) rfl ?_ hHeld ?_
              rotate_left
              · intro w hS; (try dsimp only at hS); obtain ⟨hS0, hS1, hS2, hS3⟩ := hS; go_simp; first | done | (with_reducible rfl)
              try simp only [Act.put, ly1, ly2, ly3]
              refine takeH (i := 5) (v := ?_) rfl (by kernel_rfl) (by kernel_rfl) (by kernel_rfl) (fun _ _ _ h => h) rfl ?_ hHeld ?_
              rotate_left
              · intro w hS; (try dsimp only at hS); obtain ⟨hS0, hS1, hS2, hS3⟩ := hS; go_simp; first | done | (with_reducible rfl)
              try simp only [Act.put, ly1, ly2, ly3]
              refine takeH (i := 6) (v := ?_) rfl (by kernel_rfl) (by kernel_rfl) (by kernel_rfl) (fun _ _ _ h => h) rfl ?_ hHeld ?_
              rotate_left
              · intro w hS; (try dsimp only at hS); obtain ⟨hS0, hS1, hS2, hS3⟩ := hS; go_simp; first | done | (with_reducible rfl)
              try simp only [Act.put, ly1, ly2, ly3]
              refine takeH (i := 7) (v := ?_) rfl (by kernel_rfl) (by kernel_rfl) (by kernel_rfl) (fun _ _ _ h => h) rfl ?_ hHeld ?_
              rotate_left
              · intro w hS; (try dsimp only at hS); obtain ⟨hS0, hS1, hS2, hS3⟩ := hS; go_simp; first | done | (with_reducible rfl)
              try simp only [Act.put, ly1, ly2, ly3]
              refine takeH (i := 8) (v := ?_) rfl (by kernel_rfl) (by kernel_rfl) (by kernel_rfl) (fun _ _ _ h => h) rfl ?_ hHeld ?_
              rotate_left
              · intro w hS; (try dsimp only at hS); obtain ⟨hS0, hS1, hS2, hS3⟩ := hS; go_simp; first | done | (with_reducible rfl)
              try simp only [Act.put, ly1, ly2, ly3]
              refine takeH (i := 9) (v := ?_) rfl (by kernel_rfl) (by kernel_rfl) (by kernel_rfl) (fun _ _ _ h => h) rfl ?_ hHeld ?_
              rotate_left
              · intro w hS; (try dsimp only at hS); obtain ⟨hS0, hS1, hS2, hS3⟩ := hS; go_simp; first | done | (with_reducible rfl)
              try simp only [Act.put, ly1, ly2, ly3]
              refine takeH (i := 10) (v := ?_) rfl (by kernel_rfl) (by kernel_rfl) (by kernel_rfl) (fun _ _ _ h => h) rfl ?_ hHeld ?_
              rotate_left
              · intro w hS; (try dsimp only at hS); obtain ⟨hS0, hS1, hS2, hS3⟩ := hS; go_simp; first | done | (with_reducible rfl)
              try simp only [Act.put, ly1, ly2, ly3]
              refine takeH (i := 11) (v := ?_) rfl (by kernel_rfl) (by kernel_rfl) (by kernel_rfl) (fun _ _ _ h => h) rfl ?_ hHeld ?_
              rotate_left
              · intro w hS; (try dsimp only at hS); obtain ⟨hS0, hS1, hS2, hS3⟩ := hS; go_simp; first | done | (with_reducible rfl)
              try simp only [Act.put, ly1, ly2, ly3]
              refine takeH (i := 12) (v := ?_) rfl (by kernel_rfl) (by kernel_rfl) (by kernel_rfl) (fun _ _ _ h => h) rfl ?_ hHeld ?_
              rotate_left
              · intro w hS; (try dsimp only at hS); obtain ⟨hS0, hS1, hS2, hS3⟩ := hS; go_simp; first | done | (with_reducible rfl)
              try simp only [Act.put, ly1, ly2, ly3]
              refine takeH (i := 13) (v := ?_) rfl (by kernel_rfl) (by kernel_rfl) (by kernel_rfl) (fun _ _ _ h => h) rfl ?_ hHeld ?_
              rotate_left
              · intro w hS; (try dsimp only at hS); obtain ⟨hS0, hS1, hS2, hS3⟩ := hS; go_simp; first | done | (with_reducible rfl)
              try simp only [Act.put, ly1, ly2, ly3]
              refine takeH (i := 14) (v := ?_) rfl (by kernel_rfl) (by kernel_rfl) (by kernel_rfl) (fun _ _ _ h => h) rfl ?_ hHeld ?_
              rotate_left
              · intro w hS; (try dsimp only at hS); obtain ⟨hS0, hS1, hS2, hS3⟩ := hS; go_simp; first | done | (with_reducible rfl)
              try simp only [Act.put, ly1, ly2, ly3]
              refine wpAnyH_done (by kernel_rfl) ?_ _
              clear hHeld
              go_wp2
              go_roundw
              case rel => exact ⟨m + 1, by omega, by go_num, hcj.drew, take_one HPM.out hmlt hmlt2 (by rw [HR.out, HQ.out, HRQ.out])⟩
              case measure => simp [intOf]; omega
            · have hq := strB_ne hrq
              have hd : decide (gs = hs) = false := by
                rw [decide_eq_false_iff_not]
                intro e
                subst e
                have : g = h := HG.out.symm.trans HH.out
                subst this
                exact hrq (HR.out.symm.trans HQ.out)
              have HD := hide hd
              clear hrq hd
              go_wp2
              refine wp_region_held_drew (S := fun W => W.cell? ⟨ba, oa + k, none⟩ = some (.slice (some ⟨bx, ox, none⟩) g.length cx) ∧ W.cell? ⟨bb, ob + k, none⟩ = some (.slice (some ⟨by', oy, none⟩) h.length cy) ∧ W.cell? ⟨bx, ox + m, none⟩ = some (.string (strB r)) ∧ W.cell? ⟨by', oy + m, none⟩ = some (.string (strB q))) (by kernel_rfl) (⟨hx', hy', hcx, hcy⟩) (fun hHeld => ?_)
              refine takeH (i := 0) (v := ?_) rfl (by kernel_rfl) (by kernel_rfl) (by kernel_rfl) (fun _ _ _ h => h) rfl ?_ hHeld ?_
              rotate_left
              · intro w hS; (try dsimp only at hS); obtain ⟨hS0, hS1, hS2, hS3⟩ := hS; go_simp; first | done | (with_reducible rfl)
              try simp only [Act.put, ly1, ly2, ly3]
              refine takeH (i := 1) (v := ?_) rfl (by kernel_rfl) (by kernel_rfl) (by kernel_rfl) (fun _ _ _ h => h) rfl ?_ hHeld ?_
              rotate_left
              · intro w hS; (try dsimp only at hS); obtain ⟨hS0, hS1, hS2, hS3⟩ := hS; go_simp; first | done | (with_reducible rfl)
              try simp only [Act.put, ly1, ly2, ly3]
              refine takeH (i := 2) (v := ?_) rfl (by kernel_rfl) (by kernel_rfl) (by kernel_rfl) (fun _ _ _ h => h) rfl ?_ hHeld ?_
              rotate_left
              · intro w hS; (try dsimp only at hS); obtain ⟨hS0, hS1, hS2, hS3⟩ := hS; go_simp; first | done | (with_reducible rfl)
              try simp only [Act.put, ly1, ly2, ly3]
              refine takeH (i := 3) (v := ?_) rfl (by kernel_rfl) (by kernel_rfl) (by kernel_rfl) (fun _ _ _ h => h) rfl ?_ hHeld ?_
              rotate_left
              · intro w hS; (try dsimp only at hS); obtain ⟨hS0, hS1, hS2, hS3⟩ := hS; go_simp; first | done | (with_reducible rfl)
              try simp only [Act.put, ly1, ly2, ly3]
              refine takeH (i := 4) (v := ?_) rfl (by kernel_rfl) (by kernel_rfl) (by kernel_rfl) (fun _ _ _ h => h) rfl ?_ hHeld ?_
              rotate_left
              · intro w hS; (try dsimp only at hS); obtain ⟨hS0, hS1, hS2, hS3⟩ := hS; go_simp; first | done | (with_reducible rfl)
              try simp only [Act.put, ly1, ly2, ly3]
              refine takeH (i := 5) (v := ?_) rfl (by kernel_rfl) (by kernel_rfl) (by kernel_rfl) (fun _ _ _ h => h) rfl ?_ hHeld ?_
              rotate_left
              · intro w hS; (try dsimp only at hS); obtain ⟨hS0, hS1, hS2, hS3⟩ := hS; go_simp; first | done | (with_reducible rfl)
              try simp only [Act.put, ly1, ly2, ly3]
              refine takeH (i := 6) (v := ?_) rfl (by kernel_rfl) (by kernel_rfl) (by kernel_rfl) (fun _ _ _ h => h) rfl ?_ hHeld ?_
              rotate_left
              · intro w hS; (try dsimp only at hS); obtain ⟨hS0, hS1, hS2, hS3⟩ := hS; go_simp; first | done | (with_reducible rfl)
              try simp only [Act.put, ly1, ly2, ly3]
              refine takeH (i := 7) (v := ?_) rfl (by kernel_rfl) (by kernel_rfl) (by kernel_rfl) (fun _ _ _ h => h) rfl ?_ hHeld ?_
              rotate_left
              · intro w hS; (try dsimp only at hS); obtain ⟨hS0, hS1, hS2, hS3⟩ := hS; go_simp; first | done | (with_reducible rfl)
              try simp only [Act.put, ly1, ly2, ly3]
              refine takeH (i := 8) (v := ?_) rfl (by kernel_rfl) (by kernel_rfl) (by kernel_rfl) (fun _ _ _ h => h) rfl ?_ hHeld ?_
              rotate_left
              · intro w hS; (try dsimp only at hS); obtain ⟨hS0, hS1, hS2, hS3⟩ := hS; go_simp; first | done | (with_reducible rfl)
              try simp only [Act.put, ly1, ly2, ly3]
              refine takeH (i := 9) (v := ?_) rfl (by kernel_rfl) (by kernel_rfl) (by kernel_rfl) (fun _ _ _ h => h) rfl ?_ hHeld ?_
              rotate_left
              · intro w hS; (try dsimp only at hS); obtain ⟨hS0, hS1, hS2, hS3⟩ := hS; go_simp; first | done | (with_reducible rfl)
              try simp only [Act.put, ly1, ly2, ly3]
              refine takeH (i := 10) (v := ?_) rfl (by kernel_rfl) (by kernel_rfl) (by kernel_rfl) (fun _ _ _ h => h) rfl ?_ hHeld ?_
              rotate_left
              · intro w hS; (try dsimp only at hS); obtain ⟨hS0, hS1, hS2, hS3⟩ := hS; go_simp; first | done | (with_reducible rfl)
              try simp only [Act.put, ly1, ly2, ly3]
              refine takeH (i := 11) (v := ?_) rfl (by kernel_rfl) (by kernel_rfl) (by kernel_rfl) (fun _ _ _ h => h) rfl ?_ hHeld ?_
              rotate_left
              · intro w hS; (try dsimp only at hS); obtain ⟨hS0, hS1, hS2, hS3⟩ := hS; go_simp; first | done | (with_reducible rfl)
              try simp only [Act.put, ly1, ly2, ly3]
              refine takeH (i := 12) (v := ?_) rfl (by kernel_rfl) (by kernel_rfl) (by kernel_rfl) (fun _ _ _ h => h) rfl ?_ hHeld ?_
              rotate_left
              · intro w hS; (try dsimp only at hS); obtain ⟨hS0, hS1, hS2, hS3⟩ := hS; go_simp; first | done | (with_reducible rfl)
              try simp only [Act.put, ly1, ly2, ly3]
              refine takeH (i := 13) (v := ?_) rfl (by kernel_rfl) (by kernel_rfl) (by kernel_rfl) (fun _ _ _ h => h) rfl ?_ hHeld ?_
              rotate_left
              · intro w hS; (try dsimp only at hS); obtain ⟨hS0, hS1, hS2, hS3⟩ := hS; go_simp; first | done | (with_reducible rfl)
              try simp only [Act.put, ly1, ly2, ly3]
              refine takeH (i := 14) (v := ?_) rfl (by kernel_rfl) (by kernel_rfl) (by kernel_rfl) (fun _ _ _ h => h) rfl ?_ hHeld ?_
              rotate_left
              · intro w hS; (try dsimp only at hS); obtain ⟨hS0, hS1, hS2, hS3⟩ := hS; go_simp; first | done | (with_reducible rfl)
              try simp only [Act.put, ly1, ly2, ly3]
              refine wpAnyH_done (by kernel_rfl) ?_ _
              clear hHeld
              go_wp2
              go_ret
              rw [HD.out]
              exact ⟨rfl, (hc.then hcj).drew⟩
          · obtain rfl : m = g.length := by omega
            go_wp2
            go_roundw
            case rel =>
              refine ⟨k + 1, by omega, by go_num, hc.then hcj, take_one HP.out hlt hlt2 ?_⟩
              have h1 := HPM.out
              rw [List.take_length, HGL.out, List.take_length] at h1
              rw [HG.out, HH.out, h1]
            case measure => simp [intOf]; omega
    · obtain rfl : k = gs.length := by omega
      have hd : decide (gs = hs) = true := by
        have h1 := HP.out
        rw [List.take_length, HL.out, List.take_length] at h1
        simp [h1]
      have HD := hide hd
      clear hd
      go_wp2
      go_ret
      rw [HD.out]
      exact ⟨rfl, hc⟩
end Go.Proofs.YthjcimgollfmgaaGreatDoor

/-
  What the law's few tells: the first twelve texts, each cut to 600 bytes. Conditions: they can be read.
-/
namespace Go.Proofs.YthjcimgollfmgaaGreatDoor
open Go.RowKit
variable {w w' : World}

def fewW (xs : List (List UInt8)) : List (List UInt8) := (xs.take 12).map (·.take 600)
theorem ext_take (l : List UInt8) (n : Nat) : (strB l).extract 0 n = strB (l.take n) := by
  apply ByteArray.ext
  simp [strB, List.extract_eq_take_drop]
theorem fewW_len (xs : List (List UInt8)) : (fewW xs).length ≤ 12 := by
  unfold fewW
  rw [List.length_map, List.length_take]
  omega
theorem fewW_each (xs : List (List UInt8)) : ∀ r ∈ fewW xs, r.length ≤ 600 := by
  intro r hr
  obtain ⟨x, -, rfl⟩ := List.mem_map.1 hr
  rw [List.length_take]
  omega
theorem sum_each {xs : List (List UInt8)} {m : Nat} (h : ∀ r ∈ xs, r.length ≤ m) : (xs.map List.length).sum ≤ xs.length * m := by
  induction xs with
  | nil => simp
  | cons x r ih =>
    have h1 := h x (List.mem_cons_self ..)
    have h2 := ih fun y hy => h y (List.mem_cons_of_mem _ hy)
    rw [List.map_cons, List.sum_cons, List.length_cons, Nat.succ_mul]
    omega
theorem fewW_right (xs : List (List UInt8)) : right (fewW xs) = true := by
  have h1 := fewW_len xs
  have h2 := sum_each (fewW_each xs)
  unfold right
  simp only [Bool.and_eq_true, decide_eq_true_eq]
  refine ⟨by omega, ?_⟩
  omega
set_option maxRecDepth 20000 in
set_option maxHeartbeats 1600000 in
theorem few_any (w : World) (v : Value) (xs : List (List UInt8)) (h : Tx w v xs) (hx : ∀ x ∈ xs, x.length ≤ 140737488355328) :
    Calls Tryz.prog 32 #[v] w fun e w' => ∃ v', e = .returned v' ∧ w'.ownsRow w.heap.size 9 1 v' (fewW xs).length (tcW (fewW xs)) ∧ Below w.heap.size w w' := by
  obtain ⟨i0, hi0, hz0, hz1, hz2⟩ := info_parts Tryz.infoT
  have hln := h.len
  unfold maxLen at hln
  obtain ⟨ao, cap, rfl⟩ := h.form
  have H := hide h
  clear h
  go_enter Tryz.func32, Tryz.ntmps32
  go_wp2
  go_loopw [3, 4] (fun rv i wr => ∃ k : Nat, k ≤ xs.length ∧ k ≤ 12 ∧ i = .int .i64 (k : Int) ∧ Below w.heap.size w wr ∧ wr.ownsRow w.heap.size 9 1 rv k (tcW ((xs.take k).map (·.take 600)))) (fun _ i _ => 12 - (intOf i).toNat)
  case atStart => exact ⟨0, Nat.zero_le _, by omega, rfl, Below.refl _ _, World.ownsRow_nil _ _ _ _⟩
  case round =>
    obtain ⟨k, hk, hk12, rfl, hB, hrow⟩ := hrel
    by_cases hlt : k < xs.length
    · by_cases h12 : k < 12
      · obtain ⟨b, off, rfl, hc0⟩ := H.out.at k hlt
        have hlb := World.block_lt_of_cell? w _ hc0
        have hc := (hB.cell (p := ⟨b, off + k, none⟩) hlb).trans hc0
        have hxk := hx xs[k] (List.getElem_mem hlt)
        generalize hr : xs[k] = r at *
        have HR := hide hr
        clear hr
        obtain ⟨ar, cr, rfl, hr1, hr2⟩ := own_form hrow
        have HRW := hide hrow
        clear hrow
        obtain ⟨n6, hm, hn6, hr6⟩ : ∃ n6 : Nat, (if (600 : Int) < (r.length : Int) then (600 : Int) else (r.length : Int)) = (n6 : Int) ∧ n6 ≤ r.length ∧ r.take n6 = r.take 600 := by
          by_cases h6 : 600 < r.length
          · exact ⟨600, if_pos (by omega), by omega, rfl⟩
          · refine ⟨r.length, if_neg (by omega), Nat.le_refl _, ?_⟩
            rw [List.take_length, List.take_of_length_le (by omega)]
        have he6 : (strB r).extract 0 n6 = strB (r.take 600) := by rw [ext_take, hr6]
        have hsz := strB_size r
        clear hr6
        generalize hr' : r.take 600 = r' at *
        have HR' := hide hr'
        clear hr'
        go_wp2
        refine wp_region_held_drew (S := fun W => W.cell? ⟨b, off + k, none⟩ = some (.string (strB r))) (by kernel_rfl) (hc) (fun hHeld => ?_)
        refine takeH (i := 0) (v := ?_) rfl (by kernel_rfl) (by kernel_rfl) (by kernel_rfl) (fun _ _ _ h => h) rfl ?_ hHeld ?_
        rotate_left
        · intro w hS; (try dsimp only at hS); obtain hS0 := hS; go_simp; first | done | (with_reducible rfl)
        try simp only [Act.put, ly1, ly2, ly3]
        refine takeH (i := 1) (v := ?_) rfl (by kernel_rfl) (by kernel_rfl) (by kernel_rfl) (fun _ _ _ h => h) rfl ?_ hHeld ?_
        rotate_left
        · intro w hS; (try dsimp only at hS); obtain hS0 := hS; go_simp; first | done | (with_reducible rfl)
        try simp only [Act.put, ly1, ly2, ly3]
        refine takeH (i := 2) (v := ?_) rfl (by kernel_rfl) (by kernel_rfl) (by kernel_rfl) (fun _ _ _ h => h) rfl ?_ hHeld ?_
        rotate_left
        · intro w hS; (try dsimp only at hS); obtain hS0 := hS; go_simp; first | done | (with_reducible rfl)
        try simp only [Act.put, ly1, ly2, ly3]
        refine takeH (i := 3) (v := ?_) rfl (by kernel_rfl) (by kernel_rfl) (by kernel_rfl) (fun _ _ _ h => h) rfl ?_ hHeld ?_
        rotate_left
        · intro w hS; (try dsimp only at hS); obtain hS0 := hS; go_simp; first | done | (with_reducible rfl)
        try simp only [Act.put, ly1, ly2, ly3]
        refine takeH (i := 4) (v := ?_) rfl (by kernel_rfl) (by kernel_rfl) (by kernel_rfl) (fun _ _ _ h => h) rfl ?_ hHeld ?_
        rotate_left
        · intro w hS; (try dsimp only at hS); obtain hS0 := hS; go_simp; first | done | (with_reducible rfl)
        try simp only [Act.put, ly1, ly2, ly3]
        refine takeH (i := 5) (v := ?_) rfl (by kernel_rfl) (by kernel_rfl) (by kernel_rfl) (fun _ _ _ h => h) rfl ?_ hHeld ?_
        rotate_left
        · intro w hS; (try dsimp only at hS); obtain hS0 := hS; go_simp; first | done | (with_reducible rfl)
        try simp only [Act.put, ly1, ly2, ly3]
        refine takeH (i := 6) (v := ?_) rfl (by kernel_rfl) (by kernel_rfl) (by kernel_rfl) (fun _ _ _ h => h) rfl ?_ hHeld ?_
        rotate_left
        · intro w hS; (try dsimp only at hS); obtain hS0 := hS; go_simp; first | done | (with_reducible rfl)
        try simp only [Act.put, ly1, ly2, ly3]
        refine takeH (i := 7) (v := ?_) rfl (by kernel_rfl) (by kernel_rfl) (by kernel_rfl) (fun _ _ _ h => h) rfl ?_ hHeld ?_
        rotate_left
        · intro w hS; (try dsimp only at hS); obtain hS0 := hS; go_simp; first | done | (with_reducible rfl)
        try simp only [Act.put, ly1, ly2, ly3]
        refine takeH (i := 8) (v := ?_) rfl (by kernel_rfl) (by kernel_rfl) (by kernel_rfl) (fun _ _ _ h => h) rfl ?_ hHeld ?_
        rotate_left
        · intro w hS; (try dsimp only at hS); obtain hS0 := hS; go_simp; first | done | (with_reducible rfl)
        try simp only [Act.put, ly1, ly2, ly3]
        refine takeH (i := 9) (v := ?_) rfl (by kernel_rfl) (by kernel_rfl) (by kernel_rfl) (fun _ _ _ h => h) rfl ?_ hHeld ?_
        rotate_left
        · intro w hS; (try dsimp only at hS); obtain hS0 := hS; go_simp; first | done | (with_reducible rfl)
        try simp only [Act.put, ly1, ly2, ly3]
        refine takeH (i := 10) (v := ?_) rfl (by kernel_rfl) (by kernel_rfl) (by kernel_rfl) (fun _ _ _ h => h) rfl ?_ hHeld ?_
        rotate_left
        · intro w hS; (try dsimp only at hS); obtain hS0 := hS; go_simp; first | done | (with_reducible rfl)
        try simp only [Act.put, ly1, ly2, ly3]
        refine takeH (i := 11) (v := ?_) rfl (by kernel_rfl) (by kernel_rfl) (by kernel_rfl) (fun _ _ _ h => h) rfl ?_ hHeld ?_
        rotate_left
        · intro w hS; (try dsimp only at hS); obtain hS0 := hS; go_simp; first | done | (with_reducible rfl)
        try simp only [Act.put, ly1, ly2, ly3]
        refine onlyH (i := 12) rfl (by kernel_rfl) rfl (fun K hK => ?_)
        go_simp
        have hbA : Below w.heap.size w (wr.alloc (.cells #[.string (strB r')] 9)) := hB.alloc hB.size _
        have hrA := HRW.out.alloc (.cells #[.string (strB r')] 9)
        have hcA := (hbA.drew.cell (p := ⟨b, off + k, none⟩) hlb).trans hc0
        have hsA := hbA.size
        obtain ⟨v2, w2, hrun, hown2, hgr2, -⟩ := run_append_own (P := Tryz.prog) (wr.alloc (.cells #[.string (strB r')] 9)).drew w.heap.size 27 27 9 i0 (.string ⟨#[]⟩) 1 16 Tryz.underlying27 hi0 hz0 hz1 hz2 rfl (by decide) _ _ _ (show (wr.alloc (.cells #[.string (strB r')] 9)).drew.ownsRow w.heap.size 9 1 (.slice ar k cr) k _ from hrA) ⟨wr.heap.size, 0, none⟩ 1 1 [.string (strB r')] rfl (cell_one_new wr _ _) (by simp [Value.oneCell']) (by unfold maxLen; omega) (by omega) hsA
        have hb2 : Below w.heap.size w w2 := hbA.drew.grown hgr2 hsA (fun q hq => (HRW.out.lt q hq).1)
        have hc2 := (hb2.cell (p := ⟨b, off + k, none⟩) hlb).trans hc0
        obtain ⟨a2, c2, rfl, -⟩ := own_form hown2
        have HO2 := hide hown2
        clear hown2 hgr2
        refine hK.out _ _ (hcA) (fun hHeld => ?_)
        clear hK K
        try simp only [Act.put, ly1, ly2, ly3]
        refine onlyH (i := 13) rfl (by kernel_rfl) rfl (fun K hK => ?_)
        refine wp_append_run (.tmp 15) (.tmp 27) 27 rfl rfl rfl hrun ?_
        refine hK.out _ _ (hc2) (fun hHeld => ?_)
        clear hK K
        try simp only [Act.put, ly1, ly2, ly3]
        refine takeH (i := 14) (v := ?_) rfl (by kernel_rfl) (by kernel_rfl) (by kernel_rfl) (fun _ _ _ h => h) rfl ?_ hHeld ?_
        rotate_left
        · intro w hS; (try dsimp only at hS); obtain hS0 := hS; go_simp; first | done | (with_reducible rfl)
        try simp only [Act.put, ly1, ly2, ly3]
        refine wpAnyH_done (by kernel_rfl) ?_ _
        clear hHeld
        go_wp2
        go_roundw
        case rel =>
          refine ⟨k + 1, by omega, by omega, by go_num, hb2, ?_⟩
          have e1 : (xs.take (k + 1)).map (·.take 600) = (xs.take k).map (·.take 600) ++ [r'] := by
            rw [List.take_add_one, List.getElem?_eq_getElem hlt, HR.out, List.map_append]
            simp only [Option.toList_some, List.map_cons, List.map_nil, HR'.out]
          rw [e1, tcW_snoc]
          exact HO2.out
        case measure => simp [intOf]; omega
      · obtain rfl : k = 12 := by omega
        have hfx : (xs.take 12).map (·.take 600) = fewW xs := rfl
        have hfl : (fewW xs).length = 12 := by unfold fewW; rw [List.length_map, List.length_take]; omega
        rw [hfx] at hrow
        have HRW := hide hrow
        have HFL := hide hfl
        obtain ⟨ar, cr, rfl, hr1, hr2⟩ := own_form hrow
        clear hrow hfx hfl
        go_wp2
        go_ret
        exact ⟨_, rfl, by rw [HFL.out]; exact HRW.out, hB⟩
    · obtain rfl : k = xs.length := by omega
      have hfx : (xs.take xs.length).map (·.take 600) = fewW xs := by unfold fewW; rw [List.take_length, List.take_of_length_le (by omega)]
      have hfl : (fewW xs).length = xs.length := by unfold fewW; rw [List.length_map, List.length_take]; omega
      rw [hfx] at hrow
      have HRW := hide hrow
      have HFL := hide hfl
      obtain ⟨ar, cr, rfl, hr1, hr2⟩ := own_form hrow
      clear hrow hfx hfl
      go_wp2
      go_ret
      exact ⟨_, rfl, by rw [HFL.out]; exact HRW.out, hB⟩
end Go.Proofs.YthjcimgollfmgaaGreatDoor

/-
  Append, Reset and Open on a disk that nothing fails: what the laws' examples lean on. Conditions: the disk stands, has room; the log and the texts lie beside it; the table holds its numbers.
-/
namespace Go.Proofs.YthjcimgollfmgaaGreatDoor
open Go.RowKit
variable {B : Nat} {w w' : World} {F : Nat → Prop} {d l : Nat} {S : Dk} {L : Lw} {z : Nm} {gs : List (List (List UInt8))} {rs : List (List UInt8)} {v : Value}

/-- A log on a disk that nothing fails: its groups; at most m on the disk, M room. -/
def Calmly (B : Nat) (w : World) (F : Nat → Prop) (d l : Nat) (z : Nm) (gs : List (List (List UInt8))) (m M : Nat) : Prop := ∃ S L, Lg B w F d l S L ∧ Has z S L gs ∧ Calm S ∧ S.bulk ≤ m ∧ S.room = M
/-- Behind a call. -/
def CalmThen (B : Nat) (w : World) (F : Nat → Prop) (d l : Nat) (z : Nm) (gs : List (List (List UInt8))) (m M : Nat) (w' : World) : Prop := ∃ F', Calmly B w' F' d l z gs m M ∧ (∀ k, F' k → F k ∨ w.heap.size ≤ k) ∧ Chg (fun k => F k ∨ k = l) w w'
theorem isLg_nm {n : Nm} (h : isLg n = true) : isNm n = true ∧ isNm (n ++ anewB) = true := by
  simp only [isLg, isNm, Bool.and_eq_true, decide_eq_true_eq, List.all_eq_true, List.length_append] at h ⊢
  have ha : anewB.length = 5 := rfl
  refine ⟨⟨⟨h.1.1, by omega⟩, h.2⟩, ⟨by omega, by omega⟩, fun c hc => ?_⟩
  rcases List.mem_append.1 hc with hc | hc
  · exact h.2 c hc
  · exact (show ∀ c ∈ anewB, 33 ≤ c.toNat ∧ c.toNat ≤ 126 by decide) c hc
theorem wh_range (h : Has z S L gs) (hb : (laid sum4 gs).length ≤ 1099511627776) : 0 ≤ L.wh ∧ L.wh ≤ 1099511627776 := by
  obtain ⟨-, tail, -, h1, -⟩ := h
  omega
theorem append_calm {m M : Nat} (h : Calmly B w F d l z gs m M) (hz : isLg z = true) (hv : TxB w F l v rs) (hr : right rs = true) (hB0 : 0 < B) (hT : TabW w) (hm : 2 * m < 999999990) (hl : (laid sum4 gs).length ≤ 1000000000) (hM : m + (laid sum4 gs).length + (grp sum4 rs).length + 4 ≤ M) :
    Calls Tryz.prog 23 #[.pointer (some ⟨l, 0, none⟩), v] w fun e w' => e = .returned (.int .i64 0) ∧ CalmThen B w F d l z (gs ++ [rs]) (m + (laid sum4 gs).length + (grp sum4 rs).length + 13) M w' := by
  obtain ⟨S, L, hg, hh, hc, hb, hM'⟩ := h
  have hk := hg.1.ok
  have hnm := isLg_nm hz
  have hca := calm_appendW hh hc hk hnm.1 hnm.2 hr (by omega)
  have hbu := bulk_appendW (rs := rs) hh
  have hla := (append_has hh hk hnm.1 hr).1 hca.1
  refine (append_lg hg hv hB0 hT (fun r hr' => by have := right_each hr r hr'; omega) (by omega) (wh_range hh (by omega))).mono ?_
  rintro e w' ⟨rfl, F', h1, h2, h3⟩
  rw [hca.1]
  exact ⟨rfl, F', ⟨_, _, h1, hla, hca.2.calm hc, by omega, hca.2.2.2.trans hM'⟩, h2, h3⟩
theorem reset_calm {m M : Nat} (h : Calmly B w F d l z gs m M) (hz : isLg z = true) (hv : TxB w F l v rs) (hr : right rs = true) (hB0 : 0 < B) (hT : TabW w) (hm : 2 * m < 999999990) (hM : m + (grp sum4 rs).length + 4 ≤ M) :
    Calls Tryz.prog 26 #[.pointer (some ⟨l, 0, none⟩), v] w fun e w' => e = .returned (.int .i64 0) ∧ CalmThen B w F d l z [rs] (m + (grp sum4 rs).length + 13) M w' := by
  obtain ⟨S, L, hg, hh, hc, hb, hM'⟩ := h
  have hk := hg.1.ok
  have hnm := isLg_nm hz
  have hca := calm_resetW hh hc hk hnm.1 hnm.2 hr (by omega)
  have hbu := bulk_resetW S L rs
  have hla := (reset_has hh hk hr).1 hca.1
  refine (reset_lg hg hv hB0 hT (fun r hr' => by have := right_each hr r hr'; omega) (by omega)).mono ?_
  rintro e w' ⟨rfl, F', h1, h2, h3⟩
  rw [hca.1]
  exact ⟨rfl, F', ⟨_, _, h1, hla, hca.2.calm hc, by omega, hca.2.2.2.trans hM'⟩, h2, h3⟩
/-- Open on a disk that holds these groups: the log, the groups. -/
theorem open_calm {tail : List UInt8} (h : Stands B w F d S) (ho : On z S gs tail) (hc : Calm S) (hz : isLg z = true) (hB : B ≤ w.heap.size) (hB0 : 0 < B) (hT : TabW w) (hb : S.bulk < 1000000000) :
    Calls Tryz.prog 10 #[.pointer (some ⟨d, 0, none⟩), .string (strB z)] w fun e w' => ∃ l v F' b1, e = .returned (.tuple #[.pointer (some ⟨l, 0, none⟩), v, .int .i64 0]) ∧ w.heap.size ≤ l ∧
      Calmly B w' F' d l z gs (S.bulk + 1) S.room ∧ (∀ k, F' k → F k ∨ w.heap.size ≤ k) ∧ Chg F w w' ∧ Gs w' b1 v gs ∧ w.heap.size ≤ b1 ∧ l < b1 ∧ ∀ k, F' k → k < b1 := by
  have hnm := isLg_nm hz
  have hlk := ho.look hnm.1 (calm_on hc) (hc.2 _)
  have hbb := bulk_begun' S
  refine (open_lg h hB hB0 hT hb z hz).mono ?_
  rintro e w' ⟨x, v, rfl, hO⟩
  rw [hlk] at hO ⊢
  obtain ⟨l, F', b1, rfl, h1, h2, h3, h4, h5, h6, h7, h8⟩ := hO
  exact ⟨l, v, F', b1, rfl, h1, ⟨_, _, h2, ho.begun.has false, (alt_begun S).calm hc, by omega, (alt_begun S).2.2⟩, h3, h4, h5, h6, h7, h8⟩
end Go.Proofs.YthjcimgollfmgaaGreatDoor

/-
  What the law's examples lean on: texts and groups that a slice was built of. Conditions: none.
-/
namespace Go.Proofs.YthjcimgollfmgaaGreatDoor
open Go.RowKit
variable {B : Nat} {w w' : World} {F : Nat → Prop} {d l : Nat} {z : Nm} {gs : List (List (List UInt8))} {v : Value} {m M : Nat}

theorem Calmly.keep {X : Nat → Prop} (h : Calmly B w F d l z gs m M) (hc : Chg X w w') (hX : ∀ k, F k → ¬ X k) (hl : ¬ X l) : Calmly B w' F d l z gs m M := by
  obtain ⟨S, L, h1, h2⟩ := h
  exact ⟨S, L, h1.keep hc hX hl, h2⟩
theorem Calmly.quiet (h : Calmly B w F d l z gs m M) (hc : Chg (fun _ => False) w w') : Calmly B w' F d l z gs m M := h.keep hc (fun _ _ h => h) (fun h => h)
theorem Calmly.low (h : Calmly B w F d l z gs m M) : (∀ k, F k → k < w.heap.size) ∧ l < w.heap.size := by
  obtain ⟨S, L, h1, h2⟩ := h
  exact ⟨fun k hk => (h1.1.2.1 k hk).2, h1.lt⟩
theorem cell_new (w : World) (cs : List Value) (t : TypeId) (j : Nat) (u : Value) (h : cs[j]? = some u) : (w.alloc (.cells cs.toArray t)).cell? ⟨w.heap.size, j, none⟩ = some u := by
  have := cell_of (heap_last w (.cells cs.toArray t)) j
  rw [this]
  simpa using h
/-- A slice that was built of texts. -/
theorem tx_built (w : World) (xs : List (List UInt8)) (t : TypeId) (hl : xs.length ≤ maxLen) : Tx (w.alloc (.cells (tcW xs).toArray t)) (.slice (some ⟨w.heap.size, 0, none⟩) xs.length xs.length) xs :=
  ⟨_, _, rfl, Nat.le_refl _, hl, fun _ => ⟨w.heap.size, 0, rfl, by simp, fun j hj => by rw [Nat.zero_add]; exact cell_new w _ t j _ (tcW_get xs j hj)⟩⟩
theorem txb_built (h : Calmly B w F d l z gs m M) (xs : List (List UInt8)) (t : TypeId) (hl : xs.length ≤ maxLen) : TxB (w.alloc (.cells (tcW xs).toArray t)) F l (.slice (some ⟨w.heap.size, 0, none⟩) xs.length xs.length) xs := by
  have hlow := h.low
  refine ⟨tx_built w xs t hl, fun g hg => ?_⟩
  injection hg with hg
  have hg : w.heap.size = g := hg
  subst hg
  exact ⟨fun hf => absurd (hlow.1 _ hf) (Nat.lt_irrefl _), fun e => absurd hlow.2 (by rw [← e]; exact Nat.lt_irrefl _), by simp⟩
theorem txb_nil (w : World) (F : Nat → Prop) (l : Nat) : TxB w F l (.slice none 0 0) [] := ⟨Tx.nil w, fun g hg => by cases hg⟩
theorem alloc_quiet (w : World) (o : Obj) : Chg (fun _ => False) w (w.alloc o) := (Chg.refl _ w).alloc o
/-- A slice that was built of such slices. -/
theorem rs_built (w : World) (vs : List Value) (t : TypeId) (gs : List (List (List UInt8))) (hv : vs.length = gs.length) (hl : gs.length ≤ maxLen) (h : ∀ (j : Nat) (x : Value) (g : List (List UInt8)), vs[j]? = some x → gs[j]? = some g → Tx w x g) :
    Rs (w.alloc (.cells vs.toArray t)) (.slice (some ⟨w.heap.size, 0, none⟩) gs.length gs.length) gs := by
  refine ⟨_, _, rfl, Nat.le_refl _, hl, fun _ => ⟨w.heap.size, 0, rfl, by simp, fun j hj => ?_⟩⟩
  have hj' : vs[j]? = some vs[j] := List.getElem?_eq_getElem (by omega)
  refine ⟨vs[j], by rw [Nat.zero_add]; exact cell_new w _ t j _ hj', ?_⟩
  exact (h j vs[j] gs[j] hj' (List.getElem?_eq_getElem hj)).quiet (alloc_quiet w _)
/-- Open once more, beside a log that stands. -/
theorem open_again (h : Calmly B w F d l z gs m M) (hz : isLg z = true) (hB0 : 0 < B) (hT : TabW w) (hm : m < 1000000000) :
    Calls Tryz.prog 10 #[.pointer (some ⟨d, 0, none⟩), .string (strB z)] w fun e w' => ∃ l2 v F' b1, e = .returned (.tuple #[.pointer (some ⟨l2, 0, none⟩), v, .int .i64 0]) ∧ w.heap.size ≤ l2 ∧
      Calmly B w' F' d l z gs (m + 1) M ∧ Calmly B w' F' d l2 z gs (m + 1) M ∧ (∀ k, F' k → F k ∨ w.heap.size ≤ k) ∧ Chg F w w' ∧ Gs w' b1 v gs ∧ w.heap.size ≤ b1 ∧ l2 < b1 ∧ ∀ k, F' k → k < b1 := by
  obtain ⟨S, L, hg, hh, hc, hb, hM⟩ := h
  obtain ⟨hn, tail, ho, h1, h2⟩ := hh
  have hnm := isLg_nm hz
  have hlk := ho.look hnm.1 (calm_on hc) (hc.2 _)
  have hbb := bulk_begun' S
  refine (open_lg hg.1 hg.size hB0 hT (by omega) z hz).mono ?_
  rintro e w' ⟨x, v, rfl, hO⟩
  rw [hlk] at hO ⊢
  obtain ⟨l2, F', b1, rfl, h3, h4, h5, h6, h7, h8, h9, h10⟩ := hO
  have hcb := (alt_begun S).calm hc
  have hMb := (alt_begun S).2.2.trans hM
  exact ⟨l2, v, F', b1, rfl, h3, ⟨_, L, hg.next h4.1 h5 h6, ⟨hn, tail, ho.begun, h1, h2⟩, hcb, by omega, hMb⟩, ⟨_, _, h4, ho.begun.has false, hcb, by omega, hMb⟩, h5, h6, h7, h8, h9, h10⟩
/-- A crash: a disk of its own, with the same groups. -/
theorem crash_calm (h : Calmly B w F d l z gs m M) (hm : m < 1000000000) (keep t : Int) :
    Calls Tryz.prog 20 #[.pointer (some ⟨d, 0, none⟩), .int .i64 keep, .int .i64 t] w fun e w' => ∃ d2 F2 S2 tail, e = .returned (.pointer (some ⟨d2, 0, none⟩)) ∧ Stands B w' F2 d2 S2 ∧ On z S2 gs tail ∧ Calm S2 ∧ S2.bulk ≤ m ∧ (∀ k, F2 k → w.heap.size ≤ k) ∧ Chg (fun _ => False) w w' := by
  obtain ⟨S, L, hg, hh, hc, hb, hM⟩ := h
  obtain ⟨hn, tail, ho, h1, h2⟩ := hh
  have hbc := bulk_crash (S := S) keep t
  refine (crash_lies hg.1 hg.size keep t (by omega)).mono ?_
  rintro e w' ⟨d2, F2, rfl, h3, h4, h5⟩
  exact ⟨d2, F2, _, tail, rfl, h3, ho.crash hg.1.ok keep t, calm_crash keep t, by omega, h4, h5⟩
end Go.Proofs.YthjcimgollfmgaaGreatDoor
