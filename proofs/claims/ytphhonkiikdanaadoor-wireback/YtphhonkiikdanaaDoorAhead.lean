/-
  What the statement's own helpers do: ahead lays bytes with room behind them, stays sees that they are as they were. Condition: bytes within what make takes.
-/
import Derived.Test.YtphhonkiikdanaaDoorFacts
namespace Go.Proofs.YtphhonkiikdanaaDoor
open Go.RowKit

def a5 (k : Nat) : List UInt8 := List.replicate k 165

theorem own_full {w : World} {base g n cap : Nat} {l : List UInt8} (h : w.ownsRow base 5 1 (.slice (some ⟨g, 0, none⟩) n cap) n (bc l)) :
    ∃ xs, w.ownsRow base 5 1 (.slice (some ⟨g, 0, none⟩) cap cap) cap xs ∧ xs.take n = bc l ∧ n ≤ cap := by
  obtain ⟨h1, h2⟩ := h
  rcases h2 with ⟨h0, _⟩ | ⟨g', cap', cur, h0, hbg, hg, hnc, hcm, hcs, htake⟩
  · simp at h0
  · simp only [Value.slice.injEq, Option.some.injEq, Addr.mk.injEq, and_true, true_and] at h0
    obtain ⟨rfl, rfl⟩ := h0
    refine ⟨cur.toList, ⟨by simpa using hcs, .inr ⟨g, cap, cur, rfl, hbg, hg, Nat.le_refl _, hcm, hcs, List.take_of_length_le (by simp; omega)⟩⟩, by simpa using htake, hnc⟩

theorem take_set_next {xs : List Value} {l : List UInt8} {m : Nat} (hm : m < xs.length) (hl : xs.take m = bc l) (c : UInt8) : (xs.set m (.int .u8 (c.toNat : Int))).take (m + 1) = bc (l ++ [c]) := by
  have : (xs.set m (.int .u8 (c.toNat : Int))).take (m + 1) = (xs.set m (.int .u8 (c.toNat : Int))).take m ++ [.int .u8 (c.toNat : Int)] := by
    rw [List.take_succ_eq_append_getElem (by simpa using hm)]; simp
  rw [this, List.take_set_of_le (Nat.le_refl _), hl, bc_append]
  rfl

set_option maxRecDepth 20000 in
set_option maxHeartbeats 800000 in
theorem ahead_any (w : World) (v : Value) (l : List UInt8) (h : Sl w v l) (hr : l.length ≤ 140737488351232) :
    Calls Tryd.prog 10 #[v] w fun e w' => e = .returned (.slice (some ⟨w.heap.size, 0, none⟩) l.length (l.length + 40)) ∧
      w'.ownsRow w.heap.size 5 1 (.slice (some ⟨w.heap.size, 0, none⟩) (l.length + 40) (l.length + 40)) (l.length + 40) (bc (l ++ a5 40)) ∧ Below w.heap.size w w' := by
  have h' := h
  obtain ⟨ao, cap, rfl, h1, h2, h3, h4⟩ := h'
  clear h4
  obtain ⟨i0, hi, hz0, hz1, hz2⟩ := info_parts Tryd.info5
  go_enter Tryd.func10, Tryd.ntmps10
  go_wp2_with (first
    | (at_make; refine wpList_make_own _ rfl _ _ 22 rfl w.heap.size 5 i0 (.int .u8 0) 1 Tryd.underlying22 hi hz0 hz1 .i64 .i64 _ (l.length + 40) rfl rfl (by omega) (by rw [hz2]; omega) (by unfold maxLen; omega) (Nat.le_refl _) ?_; intro w1 hown1 hgrow1)
    | (at_builtin; refine wpList_append_fits_any _ rfl (.tmp 10) (.tmp 11) 22 rfl w.heap.size 5 i0 1 Tryd.underlying22 hi hz1 w.heap.size 0 (l.length + 40) [] rfl hown1 ao l.length cap (bc l) rfl (by rw [bc_length, Nat.mul_one]) (by intro hn; have := h3 hn; omega) (h.cells ((Below.refl _ _).grown hgrow1 (Nat.le_refl _) (by intro k hk; cases hk))) (bc_one l) (by omega) ?_; intro w2 hown2 hgrow2))
  simp only [Nat.zero_add, List.nil_append] at hown2
  have hb2 := ((Below.refl w.heap.size w).grown hgrow1 (Nat.le_refl _) (by intro k hk; cases hk)).grown hgrow2 hgrow1.size (by intro k hk; injection hk with hk; omega)
  obtain ⟨xs, hown3, hxs, _⟩ := own_full hown2
  clear hown1 hown2 hgrow1 hgrow2 h
  go_loopw [5] (fun i wr => ∃ (k : Nat) (ys : List Value), k ≤ 40 ∧ i = .int .i64 ((l.length + k : Nat) : Int) ∧ wr.ownsRow w.heap.size 5 1 (.slice (some ⟨w.heap.size, 0, none⟩) (l.length + 40) (l.length + 40)) (l.length + 40) ys ∧ ys.take (l.length + k) = bc (l ++ a5 k) ∧ Below w.heap.size w wr)
    (fun i _ => l.length + 40 - (intOf i).toNat)
  case atStart => exact ⟨0, xs, by omega, rfl, hown3, by simpa [a5] using hxs, hb2⟩
  case round =>
    obtain ⟨k, ys, hk, rfl, hown, hys, hbel⟩ := hrel
    have hyl : ys.length = l.length + 40 := by have := hown.1; omega
    clear hown3 hxs hb2
    by_cases hlt : k < 40
    · obtain ⟨hst, hgs⟩ := hown.stored (l.length + k) (.int .u8 165)
      have hcs : wr.cell? ⟨w.heap.size, l.length + k, none⟩ = some (ys[l.length + k]'(by omega)) := by
        rw [hown.cellAt (l.length + k) (by omega), List.getElem?_eq_getElem]
      have hfz := hown.frozenAt (l.length + k)
      have hb3 := hbel.grown hgs hbel.size (by intro k hk; injection hk with hk; omega)
      have ht := take_set_next (m := l.length + k) (by omega) hys 165
      have e5 : l ++ a5 k ++ [165] = l ++ a5 (k + 1) := by
        unfold a5; rw [List.append_assoc, List.replicate_succ']
      rw [e5] at ht
      have HT := hide ht
      clear ht e5 hgs hown hbel hys
      go_wp2
      go_roundw
      case rel => exact ⟨k + 1, _, by omega, by go_num, hst, HT.out, hb3⟩
      case measure => simp [intOf]; omega
    · obtain rfl : k = 40 := by omega
      go_wp2
      go_ret
      have e : ys = bc (l ++ a5 40) := by rw [← hys, List.take_of_length_le (by omega)]
      rw [e] at hown
      exact ⟨rfl, hown, hbel⟩

theorem Sl.first {w : World} {g n cap k : Nat} {l : List UInt8} (h : Sl w (.slice (some ⟨g, 0, none⟩) n cap) l) (hk : k ≤ l.length) : Sl w (.slice (some ⟨g, 0, none⟩) k cap) (l.take k) := by
  have := h.cut 0 k (by omega) hk (some ⟨g, 0, none⟩) (fun _ b off ha => by rw [ha]; rfl) (by simp)
  simpa using this

set_option maxRecDepth 20000 in
set_option maxHeartbeats 800000 in
theorem stays_any (w : World) (v : Value) (l : List UInt8) (g : Nat) (h : Sl w v l) (hf : Sl w (.slice (some ⟨g, 0, none⟩) (l.length + 40) (l.length + 40)) (l ++ a5 40)) (hr : l.length ≤ 140737488351232) :
    Calls Tryd.prog 13 #[.slice (some ⟨g, 0, none⟩) l.length (l.length + 40), v] w fun e w' => e = .returned (.bool true) ∧ w' = w := by
  have hx : Sl w (.slice (some ⟨g, 0, none⟩) l.length (l.length + 40)) l := by
    have := hf.first (k := l.length) (by simp)
    rwa [List.take_left] at this
  have hc : ∀ j, j < 40 → w.cell? ⟨g, l.length + j, none⟩ = some (.int .u8 165) := by
    obtain ⟨ao, cap, hv, _, _, _, h4⟩ := hf
    intro j hj
    obtain ⟨b, off, ha, _, hcell⟩ := h4 (by intro e; have := congrArg List.length e; simp [a5] at this)
    injection hv with e1 _ _
    rw [← e1] at ha
    injection ha with ha
    injection ha with e2 e3 _
    subst e2 e3
    have := hcell (l.length + j) (by simp [a5]; omega)
    rw [Nat.zero_add] at this
    rw [this, List.getElem_append_right (by omega)]
    unfold a5
    rw [List.getElem_replicate]
    rfl
  have h' := h
  obtain ⟨ao, cap, rfl, h1, h2, h3, h4⟩ := h'
  clear h4 h3
  unfold maxLen at h2
  go_enter Tryd.func13, Tryd.ntmps13
  go_wp2
  go_loop [6] (fun i => ∃ k : Nat, k ≤ 40 ∧ i = .int .i64 ((l.length + k : Nat) : Int)) (fun i => l.length + 40 - (intOf i).toNat)
  case atStart => exact ⟨0, by omega, rfl⟩
  case round =>
    obtain ⟨k, hk, rfl⟩ := hrel
    by_cases hlt : k < 40
    · have hcell := hc k hlt
      clear hc h hx hf
      go_wp2
      go_round
      case rel => exact ⟨k + 1, by omega, by go_num⟩
      case measure => simp [intOf]; omega
    · clear hc hf
      go_wp2_with (first
        | (refine wpList_strB _ rfl (.tmp 25) rfl hx rfl ?_)
        | (refine wpList_strB _ rfl (.tmp 27) rfl h rfl ?_))
      go_ret
      exact ⟨by simp, rfl⟩
end Go.Proofs.YtphhonkiikdanaaDoor
