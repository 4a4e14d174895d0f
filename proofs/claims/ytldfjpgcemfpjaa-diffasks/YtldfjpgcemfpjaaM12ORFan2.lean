/-
  Texts joined: ORFan2, ORBegun, ORTake.
-/
import Derived.Test.YtldfjpgcemfpjaaM11ORFan
/-
  A fan, made by the reference. Conditions: its parts lie there; its level is a number of 64 bits.
-/
namespace Go.Proofs.Ytldfjpgcemfpjaa
open Go.RowKit

/-- A row of its own, made since B. -/
def Ow (B : Nat) (w : World) (v : Value) (l : Bs) : Prop := w.ownsRow B 5 1 v l.length (bc l)
theorem Ow.sl {B : Nat} {w : World} {v : Value} {l : Bs} (h : Ow B w v l) : Sl w v l := sl_of_own h
theorem Ow.keep {B : Nat} {w w' : World} {v : Value} {l : Bs} (h : Ow B w v l) (hb : Below w.heap.size w w') : Ow B w' v l :=
  World.ownsRow.kept (row := none) h ⟨hb.os, hb.tape, hb.output, hb.size, fun k hk _ => hb.block k hk⟩ (by cases hq : v.ownBlock with | none => exact .inl rfl | some k => exact .inr (by simp))
theorem Ow.app {B B' : Nat} {w : World} {v u : Value} {l m : Bs} (h : Ow B w v l) (k : Ow B' w u m) (hm : 1 ≤ m.length) (hsz : l.length + m.length ≤ 140737488355328) (hB : B ≤ w.heap.size) :
    ∃ v' w', (Builtin.append_ #[93, 93] 93 #[v, u]).run Try.prog w = .ok v' w' ∧ Ow B w' v' (l ++ m) ∧ Below B w w' := by
  obtain ⟨i0, hi, hz0, hz1, hz2⟩ := info_parts Try.infoB
  have hk2 := k.2
  rcases hk2 with ⟨rfl, h0⟩ | ⟨g4, cap4, cur4, rfl, -, -, -, -, -, -⟩
  · omega
  obtain ⟨v5, w5, hrun5, own5, hgr5, -⟩ := run_append_own (P := Try.prog) w B 93 93 5 i0 (.int .u8 0) 1 1 Try.underlying93 hi hz0 hz1 hz2 rfl (by decide) v l.length (bc l) h ⟨g4, 0, none⟩ m.length cap4 (bc m) (by rw [bc_length]; omega) (World.ownsRow.cells k (g := g4) rfl) (bc_one _) (by unfold maxLen; omega) (by omega) hB
  rw [← bc_append, ← List.length_append] at own5
  exact ⟨v5, w5, hrun5, own5, (Below.refl _ _).grown hgr5 hB (fun q hq => (World.ownsRow.lt h q hq).1)⟩
theorem Ow.str {B : Nat} {w : World} {v : Value} {l m : Bs} (h : Ow B w v l) (hsz : l.length + m.length ≤ 140737488355328) (hB : B ≤ w.heap.size) :
    ∃ v' w', (Builtin.append_ #[93, 9] 93 #[v, .string (strB m)]).run Try.prog w = .ok v' w' ∧ Ow B w' v' (l ++ m) ∧ Below B w w' := by
  obtain ⟨i0, hi, hz0, hz1, hz2⟩ := info_parts Try.infoB
  have hds := strB_size m
  obtain ⟨v3, w3, hrun, own3, hgr3, -⟩ := Lib.run_append_own_string (P := Try.prog) w B 93 9 93 5 i0 Try.underlying93 Try.underlying9 hi hz0 hz1 hz2 v l.length (bc l) h (strB m) (by unfold maxLen; omega) (by omega) hB
  have e3 : Lib.strCells (strB m) = bc m := by show bc (strB m).data.toList = _; rw [strB_list]
  rw [e3, ← bc_append, hds, ← List.length_append] at own3
  exact ⟨v3, w3, hrun, own3, (Below.refl _ _).grown hgr3 hB (fun q hq => (World.ownsRow.lt h q hq).1)⟩
theorem Ow.form {B : Nat} {w : World} {v : Value} {l : Bs} (h : Ow B w v l) : ∃ a n c, v = .slice a n c := by
  obtain ⟨a, c, h1, -⟩ := own_form h
  exact ⟨a, _, c, h1⟩
theorem rnum_any (w : World) (n : Int) (h : In64 n) : Calls Try.prog 40 #[.int .i64 n] w fun e w' => ∃ v, e = .returned v ∧ Ow w.heap.size w' v (num n) ∧ Below w.heap.size w w' := rnumber_any w n h
theorem ow_one (w : World) (c : UInt8) : Ow w.heap.size (w.alloc (.cells #[.int .u8 (c.toNat : Int)] 5)) (.slice (some ⟨w.heap.size, 0, none⟩) 1 1) [c] := own_one w c
end Go.Proofs.Ytldfjpgcemfpjaa

/-
  The reference's reader begun, counts, a chunk read. Conditions: lengths within reach.
-/
namespace Go.Proofs.Ytldfjpgcemfpjaa
open Go.RowKit
variable {N : Nat}

/-- Where the reference begins, behind a mark. -/
def rBegin (c : UInt8) (b : Bs) : Pos := if b.head? = some c then some 1 else none
theorem bool_neq (x c : UInt8) : (((x.toNat : Nat) : Int) = ((c.toNat : Nat) : Int)) ↔ x = c := by
  constructor
  · intro h
    have : x.toNat = c.toNat := by omega
    exact UInt8.toNat.inj this
  · intro h; rw [h]
set_option maxRecDepth 20000 in
set_option maxHeartbeats 800000 in
theorem rbegun_any (w : World) (b : Bs) (c : UInt8) (hb : b.length ≤ 140737488351232) :
    Calls Try.prog 70 #[.string (strB b), .int .u8 (c.toNat : Int)] w fun e w' => ∃ g, e = .returned (.pointer (some ⟨g, 0, none⟩)) ∧ Rr w.heap.size w' g b (rBegin c b) ∧ w.heap.size ≤ g ∧ Below w.heap.size w w' := by
  have hs := strB_size b
  have HV := hide hb
  cases b with
  | nil =>
    have hr : rBegin c [] = none := rfl
    rw [hr]
    go_enter Try.func70, Try.ntmps70
    go_wp2_with (refine wpList_tobytes _ rfl (.tmp 5) rfl (strB []) (by rw [strB_size]; unfold maxLen; have := HV.out; omega) rfl ?_; intro v2 w2 hsl2 hb2 hbk2; rw [strB_list] at hsl2; have HS := hide hsl2; have HBK := hide hbk2; clear hbk2; have HB := hide hb2; obtain ⟨ao, cap, rfl, -⟩ := hsl2; clear hb2)
    go_wp2
    go_ret
    refine ⟨_, rfl, ⟨_, 1, heap_last w2 _ _ rfl, fun w' hu => HS.out.und HBK.out ⟨Nat.le_trans (by simp) hu.1, fun k hN hk => (hu.2 k hN hk).trans (heap_past w2 _ k hk)⟩, fun a ha => by cases ha⟩, HB.out.size, HB.out.alloc HB.out.size _⟩
  | cons x r =>
    have hix : ∀ W, (Instr.index 9 (.string (strB (x :: r))) (.int .i64 0)).run Try.prog W = .ok (.int .u8 (x.toNat : Int)) W := fun W => index_str W (x :: r) .i64 0 (by simp)
    by_cases hx : x = c
    · subst hx
      have hr : rBegin x (x :: r) = some 1 := by unfold rBegin; simp
      rw [hr]
      have hpos : 1 ≤ (x :: r).length := by simp
      generalize (x :: r) = l at *
      have hz : ((l.length : Int) == 0) = false := by rw [beq_eq_false_iff_ne]; omega
      go_enter Try.func70, Try.ntmps70
      go_wp2_with (refine wpList_tobytes _ rfl (.tmp 5) rfl (strB l) (by rw [strB_size]; unfold maxLen; have := HV.out; omega) rfl ?_; intro v2 w2 hsl2 hb2 hbk2; rw [strB_list] at hsl2; have HS := hide hsl2; have HBK := hide hbk2; clear hbk2; have HB := hide hb2; obtain ⟨ao, cap, rfl, -⟩ := hsl2; clear hb2)
      go_wp2
      try simp only [hz, Bool.false_or, bne_self_eq_false]
      go_ret
      refine ⟨_, rfl, ⟨_, 1, heap_last w2 _ _ rfl, fun w' hu => HS.out.und HBK.out ⟨Nat.le_trans (by simp) hu.1, fun k hN hk => (hu.2 k hN hk).trans (heap_past w2 _ k hk)⟩, fun a ha => by injection ha with ha; subst ha; exact ⟨rfl, by omega⟩⟩, HB.out.size, HB.out.alloc HB.out.size _⟩
    · have hr : rBegin c (x :: r) = none := by unfold rBegin; simp [hx]
      rw [hr]
      have hne : ¬ (((x.toNat : Nat) : Int) = ((c.toNat : Nat) : Int)) := fun h => hx ((bool_neq x c).1 h)
      have hxc : (((x.toNat : Nat) : Int) != ((c.toNat : Nat) : Int)) = true := by simpa using hne
      have hpos : 1 ≤ (x :: r).length := by simp
      generalize (x :: r) = l at *
      have hz : ((l.length : Int) == 0) = false := by rw [beq_eq_false_iff_ne]; omega
      go_enter Try.func70, Try.ntmps70
      go_wp2_with (refine wpList_tobytes _ rfl (.tmp 5) rfl (strB l) (by rw [strB_size]; unfold maxLen; have := HV.out; omega) rfl ?_; intro v2 w2 hsl2 hb2 hbk2; rw [strB_list] at hsl2; have HS := hide hsl2; have HBK := hide hbk2; clear hbk2; have HB := hide hb2; obtain ⟨ao, cap, rfl, -⟩ := hsl2; clear hb2)
      go_wp2
      try simp only [hz, hxc, Bool.false_or]
      go_ret
      refine ⟨_, rfl, ⟨_, 1, heap_last w2 _ _ rfl, fun w' hu => HS.out.und HBK.out ⟨Nat.le_trans (by simp) hu.1, fun k hN hk => (hu.2 k hN hk).trans (heap_past w2 _ k hk)⟩, fun a ha => by cases ha⟩, HB.out.size, HB.out.alloc HB.out.size _⟩
set_option maxRecDepth 20000 in
theorem rcount_any (w : World) (g : Nat) (l : Bs) (s : Pos) (most : Int) (h : Rr N w g l s) (hl : l.length ≤ 140737488351232) :
    Calls Try.prog 71 #[.pointer (some ⟨g, 0, none⟩), .int .i64 most] w fun e w' => e = .returned (.int .i64 (rC l most s).1) ∧ Rr N w' g l (rC l most s).2 ∧ w.grownBy w' (some g) := by
  have hT := rint_any w g l s h hl
  unfold rC
  obtain ⟨n, q, hn⟩ : ∃ n q, rI l s = (n, q) := ⟨_, _, rfl⟩
  rw [hn] at hT ⊢
  simp only at hT ⊢
  by_cases h1 : n < 0
  · rw [if_pos (.inl h1)]
    simp only
    go_enter Try.func71, Try.ntmps71
    go_wp2_with fail
    refine hT.mono ?_
    rintro e w1 ⟨rfl, R1, gb1⟩
    obtain ⟨v, p, h5, h6, h7⟩ := R1
    have d2 := rc (i := 2) h5 rfl
    have f2 := frozen0 (j := 2) h5
    have hlt := lt_of_heap h5
    go_wp2
    go_ret
    exact ⟨rfl, ⟨v, p, heap_set3b h5, fun w' hu => h6 w' (und_trans (und_gb hlt (gb_set w1 g 2 (.bool true))) hu), fun a ha => by cases ha⟩, gb_trans gb1 (gb_set w1 g 2 (.bool true))⟩
  · by_cases h2 : most < n
    · rw [if_pos (.inr h2)]
      simp only
      go_enter Try.func71, Try.ntmps71
      go_wp2_with fail
      refine hT.mono ?_
      rintro e w1 ⟨rfl, R1, gb1⟩
      obtain ⟨v, p, h5, h6, h7⟩ := R1
      have d2 := rc (i := 2) h5 rfl
      have f2 := frozen0 (j := 2) h5
      have hlt := lt_of_heap h5
      go_wp2
      go_ret
      exact ⟨rfl, ⟨v, p, heap_set3b h5, fun w' hu => h6 w' (und_trans (und_gb hlt (gb_set w1 g 2 (.bool true))) hu), fun a ha => by cases ha⟩, gb_trans gb1 (gb_set w1 g 2 (.bool true))⟩
    · rw [if_neg (by omega)]
      simp only
      go_enter Try.func71, Try.ntmps71
      go_wp2_with fail
      refine hT.mono ?_
      rintro e w1 ⟨rfl, R1, gb1⟩
      go_wp2
      go_ret
      exact ⟨rfl, R1, gb1⟩
end Go.Proofs.Ytldfjpgcemfpjaa

/-
  What bytes behind a mark say, as the reference reads them: the same. Conditions: lengths within reach.
-/
namespace Go.Proofs.Ytldfjpgcemfpjaa
open Go.RowKit
variable {N : Nat}

theorem Rr.grown {a b : World} {g : Nat} {l : Bs} {s : Pos} {row : Option Nat} (h : Rr N a g l s) (k : a.grownBy b row) (hrow : ∀ q, row = some q → g < q) : Rr N b g l s := by
  have hl := h.lt
  obtain ⟨v, p, h1, h2, h3⟩ := h
  exact ⟨v, p, (k.block g hl (fun e => by have := hrow g e.symm; omega)).trans h1, fun w' hu => h2 w' (und_trans ⟨k.size, fun j _ hj => k.block j (by omega) (fun e => by have := hrow j e.symm; omega)⟩ hu), h3⟩
theorem Rr.heap {w : World} {g : Nat} {l : Bs} {s : Pos} (h : Rr N w g l s) : ∃ cs, w.heap[g]? = some (.cells cs 143) := by
  obtain ⟨v, p, h1, _⟩ := h
  exact ⟨_, h1⟩
theorem Rr.bad {w : World} {g : Nat} {l : Bs} {s : Pos} (h : Rr N w g l s) : w.cell? ⟨g, 2, none⟩ = some (.bool s.isNone) := by
  obtain ⟨v, p, h1, _⟩ := h
  exact rc (i := 2) h1 rfl
/-- What bytes behind a mark say to the reference. -/
def rtaken {α : Type} (m : UInt8) (one : Bs → Pos → α × Pos) (right : α → Bool) (b : Bs) : Option α :=
  if (one b (rBegin m b)).2 = some b.length ∧ right (one b (rBegin m b)).1 = true then some (one b (rBegin m b)).1 else none
theorem rtaken_iff {α : Type} {m : UInt8} {one : Bs → Pos → α × Pos} {right : α → Bool} {b : Bs} {enc : α → Bs} {ok : α → Prop} (h : Fm b (one b) enc ok) (hr : ∀ x, right x = true → ok x) (x : α) :
    rtaken m one right b = some x ↔ right x = true ∧ b = m :: enc x := by
  unfold rtaken
  cases b with
  | nil =>
    have e : rBegin m [] = none := rfl
    rw [e]
    constructor
    · intro h1
      rw [h.stop] at h1
      simp at h1
    · rintro ⟨_, h1⟩
      cases h1
  | cons c l =>
    by_cases hc : c = m
    · subst hc
      have e : rBegin c (c :: l) = some 1 := by unfold rBegin; simp
      rw [e]
      constructor
      · intro h1
        split at h1
        · rename_i g
          injection h1 with h1
          subst h1
          refine ⟨g.2, ?_⟩
          have s := (h.sound 1 _ (by simp) g.1).1.1
          rw [show (c :: l).drop (c :: l).length = [] from by simp, List.append_nil] at s
          simpa using s
        · cases h1
      · rintro ⟨h1, h2⟩
        injection h2 with _ h2
        have s : Sees (c :: l) 1 (c :: l).length (enc x) := ⟨by simp [h2], by simp [h2]; omega, Nat.le_refl _⟩
        have e2 := h.put 1 _ x (hr x h1) s
        rw [if_pos (by rw [e2]; exact ⟨rfl, h1⟩), e2]
    · have e : rBegin m (c :: l) = none := by unfold rBegin; simp [hc]
      rw [e]
      constructor
      · intro h1
        rw [h.stop] at h1
        simp at h1
      · rintro ⟨_, h1⟩
        injection h1 with h1 _
        exact absurd h1 hc
end Go.Proofs.Ytldfjpgcemfpjaa
