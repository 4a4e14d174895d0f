/-
  Texts joined: LayMild, BesidePure, Behind.
-/
import Derived.Test.YthjcimgollfmgaaGreatDoorP21Shown2
/-
  The law's lay, on a disk that nothing fails but whose power may go. Conditions: the log stands, is done or cut off, in few operations; the law's world lies beside it; the table holds its numbers.
-/
namespace Go.Proofs.YthjcimgollfmgaaGreatDoor
open Go.RowKit
variable {B : Nat} {w w' : World} {F : Nat → Prop} {d l x : Nat} {S : Dk} {L : Lw} {g : Value}

/-- What a call does: 4 is Reset, all else Append. -/
def layW (kd : Int) (S : Dk) (L : Lw) (rs : List (List UInt8)) : Dk × Lw × Int := if kd = 4 then resetW S L rs else appendW S L rs
theorem TxB.own {w2 : World} {B2 : Nat} {vf : Value} {rs : List (List UInt8)} (h : Lg B w F d l S L) (hB2 : w.heap.size ≤ B2) (hown : w2.ownsRow B2 9 1 vf rs.length (tcW rs)) : TxB w2 F l vf rs := ⟨tx_of_own hown, fun g hg => by
  have h1 := (World.ownsRow.lt hown g hg).1
  have h2 := (World.ownsRow.lt hown g hg).2
  have h3 := h.lt
  exact ⟨fun hf => by have := (h.1.2.1 g hf).2; omega, by omega, h2⟩⟩

set_option maxRecDepth 20000 in
set_option maxHeartbeats 3200000 in
theorem lay_mild (hg : Lg B w F d l S L) (hX : WorldAt w x d l g (.slice none 0 0) false) (hxF : ¬ F x) (hxl : x ≠ l) (kind n torn : Int) (hk : -9223372036854775808 ≤ kind ∧ kind ≤ 9223372036854775807) (vr : Value) (rs : List (List UInt8)) (hv : Tx w vr rs) (hrs : ∀ r ∈ rs, r.length ≤ 140737488355328)
    (hB0 : 0 < B) (hT : TabW w) (hm : 2 * S.bulk < 999999990) (hwh : 0 ≤ L.wh ∧ L.wh ≤ 1099511627776) (hf : Fine (layW (pk kind 8) S L (fewW rs)).2.2) (hn : S.n ≤ (layW (pk kind 8) S L (fewW rs)).1.n ∧ (layW (pk kind 8) S L (fewW rs)).1.n ≤ S.n + 12) :
    Calls Tryz.prog 18 #[.pointer (some ⟨x, 0, none⟩), .agg #[.int .i64 kind, vr, .int .i64 n, .int .i64 torn]] w fun r w' => r = .returned (.tuple #[.int .i64 (layW (pk kind 8) S L (fewW rs)).2.2, .bool true]) ∧
      Then B w F d l (layW (pk kind 8) S L (fewW rs)).1 (layW (pk kind 8) S L (fewW rs)).2.1 w' := by
  have hgl := hg.lt
  have hgs : ∀ k, F k → k < w.heap.size := fun k hk => (hg.1.2.1 k hk).2
  have hxw := lt_of_heap hX
  have hSn : S.n ≤ S.bulk := by unfold Dk.bulk; omega
  obtain ⟨ao, cap, rfl⟩ := hv.form
  have hgA : Chg (fun _ => False) w (w.alloc (.cells #[.int .i64 kind, .slice ao rs.length cap, .int .i64 n, .int .i64 torn] 29)) := (Chg.refl _ _).alloc _
  have hCA := hg.keep hgA (fun _ _ h => h) (fun h => h)
  have hXA := hX.keep hgA (fun h => h)
  have hvA := hv.quiet hgA
  have hTA := hT.keep (hgA.below (fun _ h => h.elim) (Nat.le_refl _))
  have hqA := heap_last w (.cells #[.int .i64 kind, .slice ao rs.length cap, .int .i64 n, .int .i64 torn] 29)
  have hszA : (w.alloc (.cells #[.int .i64 kind, .slice ao rs.length cap, .int .i64 n, .int .i64 torn] 29)).heap.size = w.heap.size + 1 := by simp
  have hpk := fun W => pick_any W kind 8 hk (by omega)
  have hfr := fewW_right rs
  have hea : ∀ r ∈ fewW rs, r.length ≤ 140737488355328 := fun r hr => Nat.le_trans (fewW_each rs r hr) (by omega)
  have hop := ops_lies hCA.1
  generalize hWA : w.alloc (.cells #[.int .i64 kind, .slice ao rs.length cap, .int .i64 n, .int .i64 torn] 29) = wA at *
  obtain ⟨q, hq⟩ : ∃ q, q = w.heap.size := ⟨_, rfl⟩
  rw [← hq] at hqA hszA
  have hWA' : w.alloc (.cells #[.int .i64 kind, .slice ao rs.length cap, .int .i64 n, .int .i64 torn] 29) = wA := hWA
  clear hWA
  have hqF : ¬ F q := fun h => by have := hgs q h; omega
  have hql : q ≠ l := by omega
  have a0 : wA.cell? ⟨x, 0, none⟩ = some (.pointer (some ⟨d, 0, none⟩)) := cell_of hXA 0
  have a1 : wA.cell? ⟨x, 1, none⟩ = some (.pointer (some ⟨l, 0, none⟩)) := cell_of hXA 1
  have q0 : wA.cell? ⟨q, 0, none⟩ = some (.int .i64 kind) := cell_of hqA 0
  have q1 : wA.cell? ⟨q, 1, none⟩ = some (.slice ao rs.length cap) := cell_of hqA 1
  have hkp : ∀ (W : World) (b o : Nat) (u : Value), Below wA.heap.size wA W → wA.cell? ⟨b, o, none⟩ = some u → W.cell? ⟨b, o, none⟩ = some u := fun W b o u hb hu => (hb.cell (p := ⟨b, o, none⟩) (World.block_lt_of_cell? wA ⟨b, o, none⟩ hu)).trans hu
  have hw0 : w.heap.size ≤ wA.heap.size := hgA.size
  generalize pk kind 8 = kd at hpk hf hn ⊢
  have HG := hide hg
  have HCA := hide hCA
  have HQ := hide hq
  clear hX hv hT hg hCA hq
  by_cases h4 : kd = 4
  · subst h4
    have e4 : layW 4 S L (fewW rs) = resetW S L (fewW rs) := if_pos rfl
    rw [e4] at hf hn ⊢
    rcases hf with hf | hf
    · rw [hf]
      go_enter Tryz.func18, Tryz.ntmps18
      go_wp2_with fail
      rw [← HQ.out]
      refine hop.mono ?_
      rintro e w1 ⟨rfl, hw1⟩
      rw [hw1]
      clear hw1
      go_wp2_with fail
      refine (hpk _).mono ?_
      rintro e w1 ⟨rfl, hw1⟩
      rw [hw1]
      clear hw1 hpk
      go_wp2_with fail
      refine wp_region_held_drew (S := fun W => W.cell? ⟨x, 1, none⟩ = some (.pointer (some ⟨l, 0, none⟩)) ∧ W.cell? ⟨q, 1, none⟩ = some (.slice ao rs.length cap)) (by kernel_rfl) (⟨a1, q1⟩) (fun hHeld => ?_)
      refine takeH (i := 0) (v := ?_) rfl (by kernel_rfl) (by kernel_rfl) (by kernel_rfl) (fun _ _ _ h => h) rfl ?_ hHeld ?_
      rotate_left
      · intro w hS; (try dsimp only at hS); obtain ⟨hS0, hS1⟩ := hS; go_simp; first | done | (with_reducible rfl)
      try simp only [Act.put, ly1, ly2, ly3]
      refine takeH (i := 1) (v := ?_) rfl (by kernel_rfl) (by kernel_rfl) (by kernel_rfl) (fun _ _ _ h => h) rfl ?_ hHeld ?_
      rotate_left
      · intro w hS; (try dsimp only at hS); obtain ⟨hS0, hS1⟩ := hS; go_simp; first | done | (with_reducible rfl)
      try simp only [Act.put, ly1, ly2, ly3]
      refine takeH (i := 2) (v := ?_) rfl (by kernel_rfl) (by kernel_rfl) (by kernel_rfl) (fun _ _ _ h => h) rfl ?_ hHeld ?_
      rotate_left
      · intro w hS; (try dsimp only at hS); obtain ⟨hS0, hS1⟩ := hS; go_simp; first | done | (with_reducible rfl)
      try simp only [Act.put, ly1, ly2, ly3]
      refine takeH (i := 3) (v := ?_) rfl (by kernel_rfl) (by kernel_rfl) (by kernel_rfl) (fun _ _ _ h => h) rfl ?_ hHeld ?_
      rotate_left
      · intro w hS; (try dsimp only at hS); obtain ⟨hS0, hS1⟩ := hS; go_simp; first | done | (with_reducible rfl)
      try simp only [Act.put, ly1, ly2, ly3]
      refine takeH (i := 4) (v := ?_) rfl (by kernel_rfl) (by kernel_rfl) (by kernel_rfl) (fun _ _ _ h => h) rfl ?_ hHeld ?_
      rotate_left
      · intro w hS; (try dsimp only at hS); obtain ⟨hS0, hS1⟩ := hS; go_simp; first | done | (with_reducible rfl)
      try simp only [Act.put, ly1, ly2, ly3]
      refine takeH (i := 5) (v := ?_) rfl (by kernel_rfl) (by kernel_rfl) (by kernel_rfl) (fun _ _ _ h => h) rfl ?_ hHeld ?_
      rotate_left
      · intro w hS; (try dsimp only at hS); obtain ⟨hS0, hS1⟩ := hS; go_simp; first | done | (with_reducible rfl)
      try simp only [Act.put, ly1, ly2, ly3]
      refine onlyH (i := 6) rfl (by kernel_rfl) rfl (fun K hK => ?_)
      go_simp
      refine (few_any wA.drew _ rs (hvA.quiet ((Chg.refl (fun _ => False) wA).drew)) hrs).mono ?_
      rintro e w2 ⟨vf, rfl, hown, hb2⟩
      have hb2' : Below wA.heap.size wA w2 := (Below.refl _ wA).drew.trans hb2
      have hC2 : Lg B w2 F d l S L := HCA.out.keep (Chg.of_below hb2') (fun k hk h => by have := hgs k hk; omega) (by omega)
      have hT2 := hTA.keep hb2'
      have htb : TxB w2 F l vf (fewW rs) := TxB.own HCA.out (Nat.le_refl _) hown
      have hap := reset_lg hC2 htb hB0 hT2 hea (by omega)
      obtain ⟨fa, fc, rfl⟩ := (tx_of_own hown).form
      rw [hf] at hap
      have hX2 : WorldAt w2 x d l g (.slice none 0 0) false := hXA.keep (Chg.of_below hb2') (by omega)
      refine hK.out _ _ (⟨hkp w2 x 1 _ hb2' a1, hkp w2 q 1 _ hb2' q1⟩) (fun hHeld => ?_)
      clear hK K
      try simp only [Act.put, ly1, ly2, ly3]
      refine onlyH (i := 7) rfl (by kernel_rfl) rfl (fun K hK => ?_)
      go_simp
      refine hap.mono ?_
      rintro e w3 ⟨rfl, F3, hC3, hF3, hc3⟩
      have hX3 := hX2.keep hc3 (fun h => h.elim hxF hxl)
      have b1 : w3.cell? ⟨x, 1, none⟩ = some (.pointer (some ⟨l, 0, none⟩)) := cell_of hX3 1
      have b0 : w3.cell? ⟨x, 0, none⟩ = some (.pointer (some ⟨d, 0, none⟩)) := cell_of hX3 0
      have q3 : w3.cell? ⟨q, 1, none⟩ = some (.slice ao rs.length cap) := cell_of (hc3.keep ((Chg.of_below hb2').keep hqA (by omega)) (fun h => h.elim hqF hql)) 1
      refine hK.out _ _ (⟨b1, q3⟩) (fun hHeld => ?_)
      clear hK K
      try simp only [Act.put, ly1, ly2, ly3]
      refine takeH (i := 8) (v := ?_) rfl (by kernel_rfl) (by kernel_rfl) (by kernel_rfl) (fun _ _ _ h => h) rfl ?_ hHeld ?_
      rotate_left
      · intro w hS; (try dsimp only at hS); obtain ⟨hS0, hS1⟩ := hS; go_simp; first | done | (with_reducible rfl)
      try simp only [Act.put, ly1, ly2, ly3]
      refine wpAnyH_done (by kernel_rfl) ?_ _
      clear hHeld
      have hgw2 : Chg (fun _ => False) w w2 := hgA.trans (Chg.of_below hb2') (fun k hk h => by omega)
      have hgw3 : Chg (fun k => F k ∨ k = l) w w3 := (hgw2.mono fun _ _ h => h.elim).then hc3
      have hF3w : ∀ k, F3 k → F k ∨ w.heap.size ≤ k := fun k hk => (hF3 k hk).imp id (fun h => Nat.le_trans hgw2.size h)
      have hop3 := ops_lies hC3.1
      have hmy := may_none hX3 0 S.n
      have HC3 := hide hC3
      clear hap hC2 hC3 htb hown hX2 hb2 hvA
      go_wp2_with fail
      refine hmy.mono ?_
      rintro e w4 ⟨rfl, hw4⟩
      rw [hw4]
      clear hw4
      go_wp2_with fail
      refine hop3.mono ?_
      rintro e w5 ⟨rfl, hw5⟩
      rw [hw5]
      clear hw5
      generalize hN : (resetW S L (fewW rs)).1.n = N3 at *
      have hle : decide (((N3 : Nat) : Int) - ((S.n : Nat) : Int) ≤ 12) = true := by rw [decide_eq_true_eq]; omega
      go_wp2
      go_ret2
      exact ⟨rfl, F3, HC3.out, hF3w, hgw3⟩
    · rw [hf]
      go_enter Tryz.func18, Tryz.ntmps18
      go_wp2_with fail
      rw [← HQ.out]
      refine hop.mono ?_
      rintro e w1 ⟨rfl, hw1⟩
      rw [hw1]
      clear hw1
      go_wp2_with fail
      refine (hpk _).mono ?_
      rintro e w1 ⟨rfl, hw1⟩
      rw [hw1]
      clear hw1 hpk
      go_wp2_with fail
      refine wp_region_held_drew (S := fun W => W.cell? ⟨x, 1, none⟩ = some (.pointer (some ⟨l, 0, none⟩)) ∧ W.cell? ⟨q, 1, none⟩ = some (.slice ao rs.length cap)) (by kernel_rfl) (⟨a1, q1⟩) (fun hHeld => ?_)
      refine takeH (i := 0) (v := ?_) rfl (by kernel_rfl) (by kernel_rfl) (by kernel_rfl) (fun _ _ _ h => h) rfl ?_ hHeld ?_
      rotate_left
      · intro w hS; (try dsimp only at hS); obtain ⟨hS0, hS1⟩ := hS; go_simp; first | done | (with_reducible rfl)
      try simp only [Act.put, ly1, ly2, ly3]
      refine takeH (i := 1) (v := ?_) rfl (by kernel_rfl) (by kernel_rfl) (by kernel_rfl) (fun _ _ _ h => h) rfl ?_ hHeld ?_
      rotate_left
      · intro w hS; (try dsimp only at hS); obtain ⟨hS0, hS1⟩ := hS; go_simp; first | done | (with_reducible rfl)
      try simp only [Act.put, ly1, ly2, ly3]
      refine takeH (i := 2) (v := ?_) rfl (by kernel_rfl) (by kernel_rfl) (by kernel_rfl) (fun _ _ _ h => h) rfl ?_ hHeld ?_
      rotate_left
      · intro w hS; (try dsimp only at hS); obtain ⟨hS0, hS1⟩ := hS; go_simp; first | done | (with_reducible rfl)
      try simp only [Act.put, ly1, ly2, ly3]
      refine takeH (i := 3) (v := ?_) rfl (by kernel_rfl) (by kernel_rfl) (by kernel_rfl) (fun _ _ _ h => h) rfl ?_ hHeld ?_
      rotate_left
      · intro w hS; (try dsimp only at hS); obtain ⟨hS0, hS1⟩ := hS; go_simp; first | done | (with_reducible rfl)
      try simp only [Act.put, ly1, ly2, ly3]
      refine takeH (i := 4) (v := ?_) rfl (by kernel_rfl) (by kernel_rfl) (by kernel_rfl) (fun _ _ _ h => h) rfl ?_ hHeld ?_
      rotate_left
      · intro w hS; (try dsimp only at hS); obtain ⟨hS0, hS1⟩ := hS; go_simp; first | done | (with_reducible rfl)
      try simp only [Act.put, ly1, ly2, ly3]
      refine takeH (i := 5) (v := ?_) rfl (by kernel_rfl) (by kernel_rfl) (by kernel_rfl) (fun _ _ _ h => h) rfl ?_ hHeld ?_
      rotate_left
      · intro w hS; (try dsimp only at hS); obtain ⟨hS0, hS1⟩ := hS; go_simp; first | done | (with_reducible rfl)
      try simp only [Act.put, ly1, ly2, ly3]
      refine onlyH (i := 6) rfl (by kernel_rfl) rfl (fun K hK => ?_)
      go_simp
      refine (few_any wA.drew _ rs (hvA.quiet ((Chg.refl (fun _ => False) wA).drew)) hrs).mono ?_
      rintro e w2 ⟨vf, rfl, hown, hb2⟩
      have hb2' : Below wA.heap.size wA w2 := (Below.refl _ wA).drew.trans hb2
      have hC2 : Lg B w2 F d l S L := HCA.out.keep (Chg.of_below hb2') (fun k hk h => by have := hgs k hk; omega) (by omega)
      have hT2 := hTA.keep hb2'
      have htb : TxB w2 F l vf (fewW rs) := TxB.own HCA.out (Nat.le_refl _) hown
      have hap := reset_lg hC2 htb hB0 hT2 hea (by omega)
      obtain ⟨fa, fc, rfl⟩ := (tx_of_own hown).form
      rw [hf] at hap
      have hX2 : WorldAt w2 x d l g (.slice none 0 0) false := hXA.keep (Chg.of_below hb2') (by omega)
      refine hK.out _ _ (⟨hkp w2 x 1 _ hb2' a1, hkp w2 q 1 _ hb2' q1⟩) (fun hHeld => ?_)
      clear hK K
      try simp only [Act.put, ly1, ly2, ly3]
      refine onlyH (i := 7) rfl (by kernel_rfl) rfl (fun K hK => ?_)
      go_simp
      refine hap.mono ?_
      rintro e w3 ⟨rfl, F3, hC3, hF3, hc3⟩
      have hX3 := hX2.keep hc3 (fun h => h.elim hxF hxl)
      have b1 : w3.cell? ⟨x, 1, none⟩ = some (.pointer (some ⟨l, 0, none⟩)) := cell_of hX3 1
      have b0 : w3.cell? ⟨x, 0, none⟩ = some (.pointer (some ⟨d, 0, none⟩)) := cell_of hX3 0
      have q3 : w3.cell? ⟨q, 1, none⟩ = some (.slice ao rs.length cap) := cell_of (hc3.keep ((Chg.of_below hb2').keep hqA (by omega)) (fun h => h.elim hqF hql)) 1
      refine hK.out _ _ (⟨b1, q3⟩) (fun hHeld => ?_)
      clear hK K
      try simp only [Act.put, ly1, ly2, ly3]
      refine takeH (i := 8) (v := ?_) rfl (by kernel_rfl) (by kernel_rfl) (by kernel_rfl) (fun _ _ _ h => h) rfl ?_ hHeld ?_
      rotate_left
      · intro w hS; (try dsimp only at hS); obtain ⟨hS0, hS1⟩ := hS; go_simp; first | done | (with_reducible rfl)
      try simp only [Act.put, ly1, ly2, ly3]
      refine wpAnyH_done (by kernel_rfl) ?_ _
      clear hHeld
      have hgw2 : Chg (fun _ => False) w w2 := hgA.trans (Chg.of_below hb2') (fun k hk h => by omega)
      have hgw3 : Chg (fun k => F k ∨ k = l) w w3 := (hgw2.mono fun _ _ h => h.elim).then hc3
      have hF3w : ∀ k, F3 k → F k ∨ w.heap.size ≤ k := fun k hk => (hF3 k hk).imp id (fun h => Nat.le_trans hgw2.size h)
      have hop3 := ops_lies hC3.1
      have hmy := may_none hX3 35 S.n
      have HC3 := hide hC3
      clear hap hC2 hC3 htb hown hX2 hb2 hvA
      go_wp2_with fail
      refine hmy.mono ?_
      rintro e w4 ⟨rfl, hw4⟩
      rw [hw4]
      clear hw4
      go_wp2_with fail
      refine hop3.mono ?_
      rintro e w5 ⟨rfl, hw5⟩
      rw [hw5]
      clear hw5
      generalize hN : (resetW S L (fewW rs)).1.n = N3 at *
      have hle : decide (((N3 : Nat) : Int) - ((S.n : Nat) : Int) ≤ 12) = true := by rw [decide_eq_true_eq]; omega
      go_wp2
      go_ret2
      exact ⟨rfl, F3, HC3.out, hF3w, hgw3⟩
  · have h4b : (kd == 4) = false := by simp [h4]
    have e4 : layW kd S L (fewW rs) = appendW S L (fewW rs) := if_neg h4
    rw [e4] at hf hn ⊢
    rcases hf with hf | hf
    · rw [hf]
      go_enter Tryz.func18, Tryz.ntmps18
      go_wp2_with fail
      rw [← HQ.out]
      refine hop.mono ?_
      rintro e w1 ⟨rfl, hw1⟩
      rw [hw1]
      clear hw1
      go_wp2_with fail
      refine (hpk _).mono ?_
      rintro e w1 ⟨rfl, hw1⟩
      rw [hw1]
      clear hw1 hpk
      go_wp2_with fail
      refine wp_region_held_drew (S := fun W => W.cell? ⟨x, 1, none⟩ = some (.pointer (some ⟨l, 0, none⟩)) ∧ W.cell? ⟨q, 1, none⟩ = some (.slice ao rs.length cap)) (by kernel_rfl) (⟨a1, q1⟩) (fun hHeld => ?_)
      refine takeH (i := 0) (v := ?_) rfl (by kernel_rfl) (by kernel_rfl) (by kernel_rfl) (fun _ _ _ h => h) rfl ?_ hHeld ?_
      rotate_left
      · intro w hS; (try dsimp only at hS); obtain ⟨hS0, hS1⟩ := hS; go_simp; first | done | (with_reducible rfl)
      try simp only [Act.put, ly1, ly2, ly3]
      refine takeH (i := 1) (v := ?_) rfl (by kernel_rfl) (by kernel_rfl) (by kernel_rfl) (fun _ _ _ h => h) rfl ?_ hHeld ?_
      rotate_left
      · intro w hS; (try dsimp only at hS); obtain ⟨hS0, hS1⟩ := hS; go_simp; first | done | (with_reducible rfl)
      try simp only [Act.put, ly1, ly2, ly3]
      refine takeH (i := 2) (v := ?_) rfl (by kernel_rfl) (by kernel_rfl) (by kernel_rfl) (fun _ _ _ h => h) rfl ?_ hHeld ?_
      rotate_left
      · intro w hS; (try dsimp only at hS); obtain ⟨hS0, hS1⟩ := hS; go_simp; first | done | (with_reducible rfl)
      try simp only [Act.put, ly1, ly2, ly3]
      refine takeH (i := 3) (v := ?_) rfl (by kernel_rfl) (by kernel_rfl) (by kernel_rfl) (fun _ _ _ h => h) rfl ?_ hHeld ?_
      rotate_left
      · intro w hS; (try dsimp only at hS); obtain ⟨hS0, hS1⟩ := hS; go_simp; first | done | (with_reducible rfl)
      try simp only [Act.put, ly1, ly2, ly3]
      refine takeH (i := 4) (v := ?_) rfl (by kernel_rfl) (by kernel_rfl) (by kernel_rfl) (fun _ _ _ h => h) rfl ?_ hHeld ?_
      rotate_left
      · intro w hS; (try dsimp only at hS); obtain ⟨hS0, hS1⟩ := hS; go_simp; first | done | (with_reducible rfl)
      try simp only [Act.put, ly1, ly2, ly3]
      refine takeH (i := 5) (v := ?_) rfl (by kernel_rfl) (by kernel_rfl) (by kernel_rfl) (fun _ _ _ h => h) rfl ?_ hHeld ?_
      rotate_left
      · intro w hS; (try dsimp only at hS); obtain ⟨hS0, hS1⟩ := hS; go_simp; first | done | (with_reducible rfl)
      try simp only [Act.put, ly1, ly2, ly3]
      refine onlyH (i := 6) rfl (by kernel_rfl) rfl (fun K hK => ?_)
      go_simp
      refine (few_any wA.drew _ rs (hvA.quiet ((Chg.refl (fun _ => False) wA).drew)) hrs).mono ?_
      rintro e w2 ⟨vf, rfl, hown, hb2⟩
      have hb2' : Below wA.heap.size wA w2 := (Below.refl _ wA).drew.trans hb2
      have hC2 : Lg B w2 F d l S L := HCA.out.keep (Chg.of_below hb2') (fun k hk h => by have := hgs k hk; omega) (by omega)
      have hT2 := hTA.keep hb2'
      have htb : TxB w2 F l vf (fewW rs) := TxB.own HCA.out (Nat.le_refl _) hown
      have hap := append_lg hC2 htb hB0 hT2 hea hm hwh
      obtain ⟨fa, fc, rfl⟩ := (tx_of_own hown).form
      rw [hf] at hap
      have hX2 : WorldAt w2 x d l g (.slice none 0 0) false := hXA.keep (Chg.of_below hb2') (by omega)
      refine hK.out _ _ (⟨hkp w2 x 1 _ hb2' a1, hkp w2 q 1 _ hb2' q1⟩) (fun hHeld => ?_)
      clear hK K
      try simp only [Act.put, ly1, ly2, ly3]
      refine onlyH (i := 7) rfl (by kernel_rfl) rfl (fun K hK => ?_)
      go_simp
      refine hap.mono ?_
      rintro e w3 ⟨rfl, F3, hC3, hF3, hc3⟩
      have hX3 := hX2.keep hc3 (fun h => h.elim hxF hxl)
      have b1 : w3.cell? ⟨x, 1, none⟩ = some (.pointer (some ⟨l, 0, none⟩)) := cell_of hX3 1
      have b0 : w3.cell? ⟨x, 0, none⟩ = some (.pointer (some ⟨d, 0, none⟩)) := cell_of hX3 0
      have q3 : w3.cell? ⟨q, 1, none⟩ = some (.slice ao rs.length cap) := cell_of (hc3.keep ((Chg.of_below hb2').keep hqA (by omega)) (fun h => h.elim hqF hql)) 1
      refine hK.out _ _ (⟨b1, q3⟩) (fun hHeld => ?_)
      clear hK K
      try simp only [Act.put, ly1, ly2, ly3]
      refine takeH (i := 8) (v := ?_) rfl (by kernel_rfl) (by kernel_rfl) (by kernel_rfl) (fun _ _ _ h => h) rfl ?_ hHeld ?_
      rotate_left
      · intro w hS; (try dsimp only at hS); obtain ⟨hS0, hS1⟩ := hS; go_simp; first | done | (with_reducible rfl)
      try simp only [Act.put, ly1, ly2, ly3]
      refine wpAnyH_done (by kernel_rfl) ?_ _
      clear hHeld
      have hgw2 : Chg (fun _ => False) w w2 := hgA.trans (Chg.of_below hb2') (fun k hk h => by omega)
      have hgw3 : Chg (fun k => F k ∨ k = l) w w3 := (hgw2.mono fun _ _ h => h.elim).then hc3
      have hF3w : ∀ k, F3 k → F k ∨ w.heap.size ≤ k := fun k hk => (hF3 k hk).imp id (fun h => Nat.le_trans hgw2.size h)
      have hop3 := ops_lies hC3.1
      have hmy := may_none hX3 0 S.n
      have HC3 := hide hC3
      clear hap hC2 hC3 htb hown hX2 hb2 hvA
      go_wp2_with fail
      refine hmy.mono ?_
      rintro e w4 ⟨rfl, hw4⟩
      rw [hw4]
      clear hw4
      go_wp2_with fail
      refine hop3.mono ?_
      rintro e w5 ⟨rfl, hw5⟩
      rw [hw5]
      clear hw5
      generalize hN : (appendW S L (fewW rs)).1.n = N3 at *
      have hle : decide (((N3 : Nat) : Int) - ((S.n : Nat) : Int) ≤ 12) = true := by rw [decide_eq_true_eq]; omega
      go_wp2
      go_ret2
      exact ⟨rfl, F3, HC3.out, hF3w, hgw3⟩
    · rw [hf]
      go_enter Tryz.func18, Tryz.ntmps18
      go_wp2_with fail
      rw [← HQ.out]
      refine hop.mono ?_
      rintro e w1 ⟨rfl, hw1⟩
      rw [hw1]
      clear hw1
      go_wp2_with fail
      refine (hpk _).mono ?_
      rintro e w1 ⟨rfl, hw1⟩
      rw [hw1]
      clear hw1 hpk
      go_wp2_with fail
      refine wp_region_held_drew (S := fun W => W.cell? ⟨x, 1, none⟩ = some (.pointer (some ⟨l, 0, none⟩)) ∧ W.cell? ⟨q, 1, none⟩ = some (.slice ao rs.length cap)) (by kernel_rfl) (⟨a1, q1⟩) (fun hHeld => ?_)
      refine takeH (i := 0) (v := ?_) rfl (by kernel_rfl) (by kernel_rfl) (by kernel_rfl) (fun _ _ _ h => h) rfl ?_ hHeld ?_
      rotate_left
      · intro w hS; (try dsimp only at hS); obtain ⟨hS0, hS1⟩ := hS; go_simp; first | done | (with_reducible rfl)
      try simp only [Act.put, ly1, ly2, ly3]
      refine takeH (i := 1) (v := ?_) rfl (by kernel_rfl) (by kernel_rfl) (by kernel_rfl) (fun _ _ _ h => h) rfl ?_ hHeld ?_
      rotate_left
      · intro w hS; (try dsimp only at hS); obtain ⟨hS0, hS1⟩ := hS; go_simp; first | done | (with_reducible rfl)
      try simp only [Act.put, ly1, ly2, ly3]
      refine takeH (i := 2) (v := ?_) rfl (by kernel_rfl) (by kernel_rfl) (by kernel_rfl) (fun _ _ _ h => h) rfl ?_ hHeld ?_
      rotate_left
      · intro w hS; (try dsimp only at hS); obtain ⟨hS0, hS1⟩ := hS; go_simp; first | done | (with_reducible rfl)
      try simp only [Act.put, ly1, ly2, ly3]
      refine takeH (i := 3) (v := ?_) rfl (by kernel_rfl) (by kernel_rfl) (by kernel_rfl) (fun _ _ _ h => h) rfl ?_ hHeld ?_
      rotate_left
      · intro w hS; (try dsimp only at hS); obtain ⟨hS0, hS1⟩ := hS; go_simp; first | done | (with_reducible rfl)
      try simp only [Act.put, ly1, ly2, ly3]
      refine takeH (i := 4) (v := ?_) rfl (by kernel_rfl) (by kernel_rfl) (by kernel_rfl) (fun _ _ _ h => h) rfl ?_ hHeld ?_
      rotate_left
      · intro w hS; (try dsimp only at hS); obtain ⟨hS0, hS1⟩ := hS; go_simp; first | done | (with_reducible rfl)
      try simp only [Act.put, ly1, ly2, ly3]
      refine takeH (i := 5) (v := ?_) rfl (by kernel_rfl) (by kernel_rfl) (by kernel_rfl) (fun _ _ _ h => h) rfl ?_ hHeld ?_
      rotate_left
      · intro w hS; (try dsimp only at hS); obtain ⟨hS0, hS1⟩ := hS; go_simp; first | done | (with_reducible rfl)
      try simp only [Act.put, ly1, ly2, ly3]
      refine onlyH (i := 6) rfl (by kernel_rfl) rfl (fun K hK => ?_)
      go_simp
      refine (few_any wA.drew _ rs (hvA.quiet ((Chg.refl (fun _ => False) wA).drew)) hrs).mono ?_
      rintro e w2 ⟨vf, rfl, hown, hb2⟩
      have hb2' : Below wA.heap.size wA w2 := (Below.refl _ wA).drew.trans hb2
      have hC2 : Lg B w2 F d l S L := HCA.out.keep (Chg.of_below hb2') (fun k hk h => by have := hgs k hk; omega) (by omega)
      have hT2 := hTA.keep hb2'
      have htb : TxB w2 F l vf (fewW rs) := TxB.own HCA.out (Nat.le_refl _) hown
      have hap := append_lg hC2 htb hB0 hT2 hea hm hwh
      obtain ⟨fa, fc, rfl⟩ := (tx_of_own hown).form
      rw [hf] at hap
      have hX2 : WorldAt w2 x d l g (.slice none 0 0) false := hXA.keep (Chg.of_below hb2') (by omega)
      refine hK.out _ _ (⟨hkp w2 x 1 _ hb2' a1, hkp w2 q 1 _ hb2' q1⟩) (fun hHeld => ?_)
      clear hK K
      try simp only [Act.put, ly1, ly2, ly3]
      refine onlyH (i := 7) rfl (by kernel_rfl) rfl (fun K hK => ?_)
      go_simp
      refine hap.mono ?_
      rintro e w3 ⟨rfl, F3, hC3, hF3, hc3⟩
      have hX3 := hX2.keep hc3 (fun h => h.elim hxF hxl)
      have b1 : w3.cell? ⟨x, 1, none⟩ = some (.pointer (some ⟨l, 0, none⟩)) := cell_of hX3 1
      have b0 : w3.cell? ⟨x, 0, none⟩ = some (.pointer (some ⟨d, 0, none⟩)) := cell_of hX3 0
      have q3 : w3.cell? ⟨q, 1, none⟩ = some (.slice ao rs.length cap) := cell_of (hc3.keep ((Chg.of_below hb2').keep hqA (by omega)) (fun h => h.elim hqF hql)) 1
      refine hK.out _ _ (⟨b1, q3⟩) (fun hHeld => ?_)
      clear hK K
      try simp only [Act.put, ly1, ly2, ly3]
      refine takeH (i := 8) (v := ?_) rfl (by kernel_rfl) (by kernel_rfl) (by kernel_rfl) (fun _ _ _ h => h) rfl ?_ hHeld ?_
      rotate_left
      · intro w hS; (try dsimp only at hS); obtain ⟨hS0, hS1⟩ := hS; go_simp; first | done | (with_reducible rfl)
      try simp only [Act.put, ly1, ly2, ly3]
      refine wpAnyH_done (by kernel_rfl) ?_ _
      clear hHeld
      have hgw2 : Chg (fun _ => False) w w2 := hgA.trans (Chg.of_below hb2') (fun k hk h => by omega)
      have hgw3 : Chg (fun k => F k ∨ k = l) w w3 := (hgw2.mono fun _ _ h => h.elim).then hc3
      have hF3w : ∀ k, F3 k → F k ∨ w.heap.size ≤ k := fun k hk => (hF3 k hk).imp id (fun h => Nat.le_trans hgw2.size h)
      have hop3 := ops_lies hC3.1
      have hmy := may_none hX3 35 S.n
      have HC3 := hide hC3
      clear hap hC2 hC3 htb hown hX2 hb2 hvA
      go_wp2_with fail
      refine hmy.mono ?_
      rintro e w4 ⟨rfl, hw4⟩
      rw [hw4]
      clear hw4
      go_wp2_with fail
      refine hop3.mono ?_
      rintro e w5 ⟨rfl, hw5⟩
      rw [hw5]
      clear hw5
      generalize hN : (appendW S L (fewW rs)).1.n = N3 at *
      have hle : decide (((N3 : Nat) : Int) - ((S.n : Nat) : Int) ≤ 12) = true := by rw [decide_eq_true_eq]; omega
      go_wp2
      go_ret2
      exact ⟨rfl, F3, HC3.out, hF3w, hgw3⟩
end Go.Proofs.YthjcimgollfmgaaGreatDoor

/-
  What one log's calls make of another name's bytes on the same disk: nothing; plainly. No program here. Conditions: none.
-/
namespace Go.Proofs.YthjcimgollfmgaaGreatDoor
variable {z n : Nm} {S : Dk} {L : Lw} {all : List UInt8} {gs : List (List (List UInt8))} {rs : List (List UInt8)}

theorem Firm.act (h : Firm z S all) {a : Ac} (ha : avoids z a) : Firm z (S.act a) all := by
  rcases h with ⟨h, e⟩ | ⟨f, h⟩
  · exact .inl ⟨h.act ha, e⟩
  · exact .inr ⟨f, h.act ha⟩
theorem Firm.rename (h : Firm z S all) {a b : Nm} (ha : z ≠ a) (hb : z ≠ b) : Firm z (S.rename a b).1 all := by
  unfold Dk.rename
  split
  · exact h
  split
  · exact h.next
  split
  · exact h.next
  split
  · exact h.next
  split
  · exact h.next
  · exact h.next.act ⟨ha, hb⟩
theorem firm_tidy (h : Firm z S all) (hn : z ≠ n ++ anewB) : Firm z (tidyW S n).1 all := by
  unfold tidyW
  split
  · exact h
  · exact h.remove hn
theorem firm_tidied (h : Firm z S all) (hn : z ≠ n ++ anewB) (s : Bool) (e : Int) : Firm z (tidied S n s e).1 all := firm_tidy h hn
theorem firm_replaceO (h : Firm z S all) (hk : Ok S) (h1 : z ≠ n) (h2 : z ≠ n ++ anewB) (s : Bool) (b : List UInt8) : Firm z (replaceW S n s b).1 all := by
  have t := firm_tidy h h2
  have kt := ok_tidy hk n
  unfold replaceW
  split
  · exact t
  have a := t.append kt h2 b
  have ka := ok_append kt (n ++ anewB) b
  generalize (tidyW S n).1.append (n ++ anewB) b = V at *
  unfold rep2
  split
  · exact firm_tidied a h2 _ _
  have y := a.sync ka h2
  generalize V.1.sync (n ++ anewB) = Y at *
  unfold rep3
  split
  · exact firm_tidied y h2 _ _
  have r := y.rename h2 h1
  generalize Y.1.rename (n ++ anewB) n = N at *
  unfold rep4
  split
  · exact firm_tidied r h2 _ _
  have u := r.settle false
  generalize settleW N.1 false = U at *
  unfold rep5
  split
  · exact firm_tidied u h2 _ _
  · exact u
theorem firm_extendO (h : Firm z S all) (hk : Ok S) (h1 : z ≠ n) (h2 : z ≠ n ++ anewB) (s : Bool) (b : List UInt8) : Firm z (extendW S n s b).1 all := by
  have t := firm_tidy h h2
  have kt := ok_tidy hk n
  unfold extendW
  split
  · exact t
  have u := t.settle s
  have ku := ok_settle kt s
  generalize settleW (tidyW S n).1 s = U at *
  unfold extend2
  split
  · exact u
  have a := u.append ku h1 b
  have ka := ok_append ku n b
  generalize U.1.append n b = V at *
  unfold extend3
  split
  · exact a
  · exact a.sync ka h1
theorem firm_putO (h : Firm z S all) (hk : Ok S) (h1 : z ≠ L.n) (h2 : z ≠ L.n ++ anewB) (b : List UInt8) : Firm z (putW S L b).1 all := by
  unfold putW
  split
  · exact firm_replaceO h hk h1 h2 _ _
  split
  · exact firm_extendO h hk h1 h2 _ _
  · unfold putAnew
    split
    · exact h.begun
    · exact firm_replaceO h.begun hk.begun h1 h2 _ _
theorem firm_resetO (h : Firm z S all) (hk : Ok S) (h1 : z ≠ L.n) (h2 : z ≠ L.n ++ anewB) (rs : List (List UInt8)) : Firm z (resetW S L rs).1 all := by
  unfold resetW
  split
  · exact h
  · rw [noted_bulk]
    exact firm_replaceO h hk h1 h2 _ _
theorem firm_appendO (h : Firm z S all) (hk : Ok S) (h1 : z ≠ L.n) (h2 : z ≠ L.n ++ anewB) (rs : List (List UInt8)) : Firm z (appendW S L rs).1 all := by
  unfold appendW
  split
  · exact h
  split
  · unfold appendP
    rw [noted_bulk]
    exact firm_putO h hk h1 h2 _
  · unfold appendL
    split
    · exact h.begun
    · unfold appendP
      rw [noted_bulk]
      refine firm_putO h.begun hk.begun ?_ ?_ _
      · exact h1
      · exact h2
/-- Another log's call leaves these groups. -/
theorem on_layO {tail : List UInt8} (h : On z S gs tail) (hk : Ok S) (h1 : z ≠ L.n) (h2 : z ≠ L.n ++ anewB) (kd : Int) (rs : List (List UInt8)) : On z (layW kd S L rs).1 gs tail := by
  refine ⟨h.1, h.2.1, ?_⟩
  unfold layW
  split
  · exact firm_resetO h.2.2 hk h1 h2 rs
  · exact firm_appendO h.2.2 hk h1 h2 rs
theorem has_layO {M : Lw} (h : Has z S M gs) (hk : Ok S) (h1 : z ≠ L.n) (h2 : z ≠ L.n ++ anewB) (kd : Int) (rs : List (List UInt8)) : Has z (layW kd S L rs).1 M gs := by
  obtain ⟨hn, tail, ho, h3, h4⟩ := h
  exact ⟨hn, tail, on_layO ho hk h1 h2 kd rs, h3, h4⟩
/-! ### a call of a log's own, on a disk whose power may go -/
theorem lay_has (h : Has z S L gs) (hk : Ok S) (hz : isNm z = true) (kd : Int) (hr : right rs = true) : Laid z (layW kd S L rs) gs (gsThen kd gs rs) := by
  unfold layW gsThen
  split
  · exact reset_has h hk hr
  · exact append_has h hk hz hr
theorem lay_fine (h : Has z S L gs) (hc : Mild S) (hk : Ok S) (hz : isNm z = true) (hn : isNm (z ++ anewB) = true) (kd : Int) (hr : right rs = true) (hb : S.bulk + (laid sum4 gs).length + (grp sum4 rs).length + 4 ≤ S.room) : Fine (layW kd S L rs).2.2 := by
  unfold layW
  split
  · exact mild_resetW h hc hk hz hn hr (by omega)
  · exact mild_appendW h hc hk hz hn hr hb
theorem lay_near (S : Dk) (L : Lw) (kd : Int) (rs : List (List UInt8)) : Near S (layW kd S L rs).1 12 := by
  unfold layW
  split
  · exact (near_resetW S L rs).more (by omega)
  · exact (near_appendW S L rs).more (by omega)
theorem lay_bulk (h : Has z S L gs) (kd : Int) : (layW kd S L rs).1.bulk ≤ S.bulk + (laid sum4 gs).length + (grp sum4 rs).length + 13 := by
  unfold layW
  split
  · have := bulk_resetW S L rs; omega
  · exact bulk_appendW h
theorem lay_bulk' (h : Has z S L gs) (hw : L.wh = L.sz) (kd : Int) : (layW kd S L rs).1.bulk ≤ S.bulk + (grp sum4 rs).length + 13 := by
  unfold layW
  split
  · have := bulk_resetW S L rs; omega
  · exact bulk_appendW' h hw
theorem lay_whole (h : Has z S L gs) (kd : Int) (hr : right rs = true) (h0 : (layW kd S L rs).2.2 = 0) : (layW kd S L rs).2.1.wh = (layW kd S L rs).2.1.sz := by
  unfold layW at h0 ⊢
  split
  · next h4 =>
    rw [if_pos h4] at h0
    exact reset_whole hr h0
  · next h4 =>
    rw [if_neg h4] at h0
    exact append_whole h hr h0
end Go.Proofs.YthjcimgollfmgaaGreatDoor

/-
  The law's behind: the groups behind a call. Conditions: the law's world and its groups can be read.
-/
namespace Go.Proofs.YthjcimgollfmgaaGreatDoor
open Go.RowKit
variable {w w' : World} {P Q : Nat → Prop}

/-- Groups that can be read, in blocks of which P holds. -/
def Rk (P : Nat → Prop) (w : World) (v : Value) (gs : List (List (List UInt8))) : Prop :=
  ∃ (ao : Option Addr) (cap : Nat) (vs : List Value), v = .slice ao gs.length cap ∧ gs.length ≤ cap ∧ cap ≤ maxLen ∧ vs.length = gs.length ∧
    (∀ (j : Nat) (x : Value) (g : List (List UInt8)), vs[j]? = some x → gs[j]? = some g → Tx w x g ∧ ∀ k, x.ownBlock = some k → P k ∧ k < w.heap.size) ∧
    (gs ≠ [] → ∃ b off, ao = some ⟨b, off, none⟩ ∧ b < w.heap.size ∧ P b ∧ ∀ j u, vs[j]? = some u → w.cell? ⟨b, off + j, none⟩ = some u)
theorem Rk.rs {v : Value} {gs : List (List (List UInt8))} (h : Rk P w v gs) : Rs w v gs := by
  obtain ⟨ao, cap, vs, hv, h1, h2, h3, h4, h5⟩ := h
  refine ⟨ao, cap, hv, h1, h2, fun hne => ?_⟩
  obtain ⟨b, off, ha, hb, -, hc⟩ := h5 hne
  refine ⟨b, off, ha, hb, fun j hj => ?_⟩
  have hj' : vs[j]? = some vs[j] := List.getElem?_eq_getElem (by omega)
  exact ⟨vs[j], hc j _ hj', (h4 j _ _ hj' (List.getElem?_eq_getElem hj)).1⟩
theorem Rk.keep {X : Nat → Prop} {v : Value} {gs : List (List (List UInt8))} (h : Rk P w v gs) (hc : Chg X w w') (hX : ∀ k, P k → ¬ X k) : Rk P w' v gs := by
  obtain ⟨ao, cap, vs, hv, h1, h2, h3, h4, h5⟩ := h
  refine ⟨ao, cap, vs, hv, h1, h2, h3, fun j x g hx hg => ?_, fun hne => ?_⟩
  · have := h4 j x g hx hg
    exact ⟨this.1.chg hc fun k hk => hX k (this.2 k hk).1, fun k hk => ⟨(this.2 k hk).1, Nat.lt_of_lt_of_le (this.2 k hk).2 hc.size⟩⟩
  · obtain ⟨b, off, ha, hb, hp, hcell⟩ := h5 hne
    exact ⟨b, off, ha, Nat.lt_of_lt_of_le hb hc.size, hp, fun j u hu => (World.cell?_of_block (w := w) (hc.block b hb (hX b hp))).trans (hcell j u hu)⟩
theorem Rk.mono {v : Value} {gs : List (List (List UInt8))} (h : Rk P w v gs) (hP : ∀ k, k < w.heap.size → P k → Q k) : Rk Q w v gs := by
  obtain ⟨ao, cap, vs, hv, h1, h2, h3, h4, h5⟩ := h
  refine ⟨ao, cap, vs, hv, h1, h2, h3, fun j x g hx hg => ?_, fun hne => ?_⟩
  · have := h4 j x g hx hg
    exact ⟨this.1, fun k hk => ⟨hP k (this.2 k hk).2 (this.2 k hk).1, (this.2 k hk).2⟩⟩
  · obtain ⟨b, off, ha, hb, hp, hcell⟩ := h5 hne
    exact ⟨b, off, ha, hb, hP b hb hp, hcell⟩
theorem Rk.nil (w : World) : Rk P w (.slice none 0 0) [] := ⟨none, 0, [], rfl, Nat.le_refl _, by simp, rfl, fun j x g hx => by simp at hx, fun h => absurd rfl h⟩
theorem Rk.form {v : Value} {gs : List (List (List UInt8))} (h : Rk P w v gs) : ∃ ao cap, v = .slice ao gs.length cap := by
  obtain ⟨ao, cap, vs, hv, -⟩ := h
  exact ⟨ao, cap, hv⟩
/-- A row made since, of slices made since or known. -/
theorem Rk.own {base : Nat} {v : Value} {vs : List Value} {gs : List (List (List UInt8))} (h : w.ownsRow base 27 1 v gs.length vs) (hP : ∀ k, base ≤ k → P k)
    (hx : ∀ (j : Nat) (x : Value) (g : List (List UInt8)), vs[j]? = some x → gs[j]? = some g → Tx w x g ∧ ∀ k, x.ownBlock = some k → P k ∧ k < w.heap.size) : Rk P w v gs := by
  have h0 := h
  have hl : vs.length = gs.length := by have := h.1; omega
  rcases h.2 with ⟨rfl, hn⟩ | ⟨g, cap, cur, rfl, hg, hh, hc, hm, hs, ht⟩
  · obtain rfl : gs = [] := List.eq_nil_of_length_eq_zero hn
    exact Rk.nil w
  · refine ⟨_, _, vs, rfl, hc, hm, hl, hx, fun _ => ⟨g, 0, rfl, lt_of_heap hh, hP g hg, fun j u hu => ?_⟩⟩
    have hcell := World.ownsRow.cells h0 (g := g) rfl j _ hu
    rw [Addr.add_lit] at hcell
    exact hcell
theorem Gs.rk {base : Nat} {v : Value} {gs : List (List (List UInt8))} (h : Gs w base v gs) : Rk (base ≤ ·) w v gs := by
  obtain ⟨vs, ho, hx⟩ := h
  exact Rk.own ho (fun _ h => h) fun j x g h1 h2 => ⟨tx_of_own (hx j x g h1 h2), fun k hk => (hx j x g h1 h2).lt k hk⟩

theorem wp_make_run {P : Program} {o : Oper} {a : Act} {w : World} {K : Act → World → Prop} {Q : Exit → Act → World → Prop} (l c : Operand) (t : TypeId)
    (ho : o.op = .makeSlice t l c) {v1 v2 v' : Value} {w' : World} (hl : a.eval l = v1) (hc : a.eval c = v2)
    (hrun : (Instr.makeSlice t v1 v2).run P w = .ok v' w') (hK : K (a.put o.dst v') w') : o.wp P a w K Q := by
  unfold Oper.wp
  simp [execOp, ho, hl, hc, hrun, Result.andThen]
  exact hK
theorem tx_one {v : Value} {xs : List (List UInt8)} (h : Tx w v xs) : v.oneCell' := by
  obtain ⟨ao, cap, rfl⟩ := h.form
  simp [Value.oneCell']
/-- The groups appended to a row. -/
theorem run_append_rk (w : World) {base : Nat} {v x : Value} {gs : List (List (List UInt8))} (ho : w.ownsRow base 27 1 v 0 []) (hs : Rk P w x gs) (hl : gs.length ≤ 1000000) (hB : base ≤ w.heap.size) (ty : TypeId) :
    ∃ v' w' vs, (Builtin.append_ #[33, 33] ty #[v, x]).run Tryz.prog w = .ok v' w' ∧ w'.ownsRow base 27 1 v' gs.length vs ∧ w.grownBy w' v.ownBlock ∧
      ∀ (j : Nat) (x : Value) (g : List (List UInt8)), vs[j]? = some x → gs[j]? = some g → Tx w x g ∧ ∀ k, x.ownBlock = some k → P k ∧ k < w.heap.size := by
  obtain ⟨i0, hi, hz0, hz1, hz2⟩ := info_parts Tryz.infoTs
  obtain ⟨ao, cap, vs, rfl, h1, h2, h3, h4, h5⟩ := hs
  by_cases he : gs = []
  · subst he
    cases ao with
    | none =>
      obtain ⟨av, cv, rfl, c1, c2⟩ := own_form ho
      refine ⟨_, w, [], run_append_nothing w _ _ _ _ i0 Tryz.underlying33 hi av 0 cv c1 _ ?_, ho, ⟨rfl, rfl, rfl, Nat.le_refl _, fun _ _ _ => rfl⟩, fun j x g hx => by simp at hx⟩
      rw [hz1]
      exact Src.ofNil w Tryz.underlying33 cap
    | some ad =>
      obtain ⟨v', w', hr, hown, hg, _⟩ := run_append_own (P := Tryz.prog) w base 33 ty 27 i0 (.slice none 0 0) 1 24 Tryz.underlying33 hi hz0 hz1 hz2 rfl (by decide) v 0 [] ho ad 0 cap [] rfl (fun j u hu => by cases hu) (fun u hu => by cases hu) (by unfold maxLen; omega) (by omega) hB
      exact ⟨v', w', [], hr, hown, hg, fun j x g hx => by simp at hx⟩
  · obtain ⟨b, off, rfl, hb, hp, hc⟩ := h5 he
    obtain ⟨v', w', hr, hown, hg, _⟩ := run_append_own (P := Tryz.prog) w base 33 ty 27 i0 (.slice none 0 0) 1 24 Tryz.underlying33 hi hz0 hz1 hz2 rfl (by decide) v 0 [] ho ⟨b, off, none⟩ gs.length cap vs (by omega) (fun j u hu => by rw [Addr.add_lit]; exact hc j u hu) (fun u hu => by
      obtain ⟨j, hj, rfl⟩ := List.getElem_of_mem hu
      exact tx_one (h4 j _ _ (List.getElem?_eq_getElem hj) (List.getElem?_eq_getElem (by omega))).1) (by unfold maxLen; omega) (by omega) hB
    rw [Nat.zero_add, List.nil_append] at hown
    exact ⟨v', w', vs, hr, hown, hg, h4⟩

set_option maxRecDepth 20000 in
set_option maxHeartbeats 3200000 in
theorem behind_any {x d l : Nat} {gv f : Value} {t : Bool} {gs : List (List (List UInt8))} (w : World) (hX : WorldAt w x d l gv f t) (hR : Rk P w gv gs) (hgs : gs.length ≤ 1000) (kind n torn : Int) (hk : -9223372036854775808 ≤ kind ∧ kind ≤ 9223372036854775807) (vr : Value) (rs : List (List UInt8)) (hv : Tx w vr rs) (hrs : ∀ r ∈ rs, r.length ≤ 140737488355328) :
    Calls Tryz.prog 17 #[.pointer (some ⟨x, 0, none⟩), .agg #[.int .i64 kind, vr, .int .i64 n, .int .i64 torn]] w fun e w' => ∃ v', e = .returned v' ∧ Rk (fun k => P k ∨ w.heap.size ≤ k) w' v' (gsThen (pk kind 8) gs (fewW rs)) ∧ Below w.heap.size w w' := by
  have hxw := lt_of_heap hX
  obtain ⟨ao, cap, rfl⟩ := hv.form
  obtain ⟨ga, gc, rfl⟩ := hR.form
  obtain ⟨i0, hi0, hz0, hz1, hz2⟩ := info_parts Tryz.infoTs
  have hgA : Chg (fun _ => False) w (w.alloc (.cells #[.int .i64 kind, .slice ao rs.length cap, .int .i64 n, .int .i64 torn] 29)) := (Chg.refl _ _).alloc _
  have hXA := hX.keep hgA (fun h => h)
  have hRA := hR.keep hgA (fun _ _ h => h)
  have hvA := hv.quiet hgA
  have hqA := heap_last w (.cells #[.int .i64 kind, .slice ao rs.length cap, .int .i64 n, .int .i64 torn] 29)
  have hbA : Below w.heap.size w (w.alloc (.cells #[.int .i64 kind, .slice ao rs.length cap, .int .i64 n, .int .i64 torn] 29)) := (Below.refl _ w).alloc (Nat.le_refl _) _
  have hszA : (w.alloc (.cells #[.int .i64 kind, .slice ao rs.length cap, .int .i64 n, .int .i64 torn] 29)).heap.size = w.heap.size + 1 := by simp
  have hpk := fun W => pick_any W kind 8 hk (by omega)
  generalize hWA : w.alloc (.cells #[.int .i64 kind, .slice ao rs.length cap, .int .i64 n, .int .i64 torn] 29) = wA at *
  obtain ⟨q, hq⟩ : ∃ q, q = w.heap.size := ⟨_, rfl⟩
  rw [← hq] at hqA hszA
  have hWA' : w.alloc (.cells #[.int .i64 kind, .slice ao rs.length cap, .int .i64 n, .int .i64 torn] 29) = wA := hWA
  clear hWA
  have x2 : wA.cell? ⟨x, 2, none⟩ = some (.slice ga gs.length gc) := cell_of hXA 2
  have q0 : wA.cell? ⟨q, 0, none⟩ = some (.int .i64 kind) := cell_of hqA 0
  have q1 : wA.cell? ⟨q, 1, none⟩ = some (.slice ao rs.length cap) := cell_of hqA 1
  have hkp : ∀ (W : World) (b o : Nat) (u : Value), Below wA.heap.size wA W → wA.cell? ⟨b, o, none⟩ = some u → W.cell? ⟨b, o, none⟩ = some u := fun W b o u hb hu => (hb.cell (p := ⟨b, o, none⟩) (World.block_lt_of_cell? wA ⟨b, o, none⟩ hu)).trans hu
  have hw0 : w.heap.size ≤ wA.heap.size := hgA.size
  generalize pk kind 8 = kd at hpk ⊢
  have q0w : wA.cell? ⟨w.heap.size, 0, none⟩ = some (.int .i64 kind) := hq ▸ q0
  have HQ := hide hq
  have HR := hide hRA
  clear hX hv hq hR hRA
  go_enter Tryz.func17, Tryz.ntmps17
  go_wp2_with fail
  rw [← HQ.out]
  clear q0w
  refine (hpk _).mono ?_
  rintro e w1 ⟨rfl, hw1⟩
  rw [hw1]
  clear hw1 hpk
  by_cases h4 : kd = 4
  · subst h4
    go_wp2_with fail
    refine (few_any wA _ rs hvA hrs).mono ?_
    rintro e w2 ⟨vf, rfl, hown, hb2⟩
    have HO := hide hown
    obtain ⟨fa, fc, rfl⟩ := (tx_of_own hown).form
    clear hown
    go_wp2
    go_ret
    have hb3 : Below w.heap.size w (w2.alloc (.cells #[.slice fa (fewW rs).length fc] 27)) := (hbA.trans (hb2.mono hw0)).alloc (hbA.trans (hb2.mono hw0)).size _
    refine ⟨_, rfl, ?_, hb3⟩
    unfold gsThen
    rw [if_pos rfl]
    refine ⟨_, _, [.slice fa (fewW rs).length fc], rfl, Nat.le_refl _, by decide, rfl, ?_, fun _ => ⟨_, 0, rfl, by simp, .inr (hbA.trans (hb2.mono hw0)).size, ?_⟩⟩
    · rintro (_ | j) x g hx hg
      · simp at hx hg
        subst hx hg
        exact ⟨(tx_of_own HO.out).quiet (alloc_quiet w2 _), fun k hk => ⟨.inr (by have := (HO.out.lt k hk).1; omega), by have := (HO.out.lt k hk).2; simp; omega⟩⟩
      · simp at hx
    · rintro (_ | j) u hu
      · simp at hu
        subst hu
        exact cell_new w2 [_] _ 0 _ rfl
      · simp at hu
  · have h4b : (kd == 4) = false := by simp [h4]
    go_wp2_with fail
    refine wp_region_held_drew (S := fun W => W.cell? ⟨x, 2, none⟩ = some (.slice ga gs.length gc) ∧ W.cell? ⟨q, 1, none⟩ = some (.slice ao rs.length cap)) (by kernel_rfl) (⟨x2, q1⟩) (fun hHeld => ?_)
    refine takeH (i := 0) (v := ?_) rfl (by kernel_rfl) (by kernel_rfl) (by kernel_rfl) (fun _ _ _ h => h) rfl ?_ hHeld ?_
    rotate_left
    · intro w hS; (try dsimp only at hS); obtain ⟨hS0, hS1⟩ := hS; go_simp; first | done | (with_reducible rfl)
    try simp only [Act.put, ly1, ly2, ly3]
    refine takeH (i := 1) (v := ?_) rfl (by kernel_rfl) (by kernel_rfl) (by kernel_rfl) (fun _ _ _ h => h) rfl ?_ hHeld ?_
    rotate_left
    · intro w hS; (try dsimp only at hS); obtain ⟨hS0, hS1⟩ := hS; go_simp; first | done | (with_reducible rfl)
    try simp only [Act.put, ly1, ly2, ly3]
    refine takeH (i := 2) (v := ?_) rfl (by kernel_rfl) (by kernel_rfl) (by kernel_rfl) (fun _ _ _ h => h) rfl ?_ hHeld ?_
    rotate_left
    · intro w hS; (try dsimp only at hS); obtain ⟨hS0, hS1⟩ := hS; go_simp; first | done | (with_reducible rfl)
    try simp only [Act.put, ly1, ly2, ly3]
    refine takeH (i := 3) (v := ?_) rfl (by kernel_rfl) (by kernel_rfl) (by kernel_rfl) (fun _ _ _ h => h) rfl ?_ hHeld ?_
    rotate_left
    · intro w hS; (try dsimp only at hS); obtain ⟨hS0, hS1⟩ := hS; go_simp; first | done | (with_reducible rfl)
    try simp only [Act.put, ly1, ly2, ly3]
    refine takeH (i := 4) (v := ?_) rfl (by kernel_rfl) (by kernel_rfl) (by kernel_rfl) (fun _ _ _ h => h) rfl ?_ hHeld ?_
    rotate_left
    · intro w hS; (try dsimp only at hS); obtain ⟨hS0, hS1⟩ := hS; go_simp; first | done | (with_reducible rfl)
    try simp only [Act.put, ly1, ly2, ly3]
    refine takeH (i := 5) (v := ?_) rfl (by kernel_rfl) (by kernel_rfl) (by kernel_rfl) (fun _ _ _ h => h) rfl ?_ hHeld ?_
    rotate_left
    · intro w hS; (try dsimp only at hS); obtain ⟨hS0, hS1⟩ := hS; go_simp; first | done | (with_reducible rfl)
    try simp only [Act.put, ly1, ly2, ly3]
    refine takeH (i := 7) (v := ?_) rfl (by kernel_rfl) (by kernel_rfl) (by kernel_rfl) (fun _ _ _ h => h) rfl ?_ hHeld ?_
    rotate_left
    · intro w hS; (try dsimp only at hS); obtain ⟨hS0, hS1⟩ := hS; go_simp; first | done | (with_reducible rfl)
    try simp only [Act.put, ly1, ly2, ly3]
    refine takeH (i := 8) (v := ?_) rfl (by kernel_rfl) (by kernel_rfl) (by kernel_rfl) (fun _ _ _ h => h) rfl ?_ hHeld ?_
    rotate_left
    · intro w hS; (try dsimp only at hS); obtain ⟨hS0, hS1⟩ := hS; go_simp; first | done | (with_reducible rfl)
    try simp only [Act.put, ly1, ly2, ly3]
    refine takeH (i := 9) (v := ?_) rfl (by kernel_rfl) (by kernel_rfl) (by kernel_rfl) (fun _ _ _ h => h) rfl ?_ hHeld ?_
    rotate_left
    · intro w hS; (try dsimp only at hS); obtain ⟨hS0, hS1⟩ := hS; go_simp; first | done | (with_reducible rfl)
    try simp only [Act.put, ly1, ly2, ly3]
    refine takeH (i := 10) (v := ?_) rfl (by kernel_rfl) (by kernel_rfl) (by kernel_rfl) (fun _ _ _ h => h) rfl ?_ hHeld ?_
    rotate_left
    · intro w hS; (try dsimp only at hS); obtain ⟨hS0, hS1⟩ := hS; go_simp; first | done | (with_reducible rfl)
    try simp only [Act.put, ly1, ly2, ly3]
    refine takeH (i := 12) (v := ?_) rfl (by kernel_rfl) (by kernel_rfl) (by kernel_rfl) (fun _ _ _ h => h) rfl ?_ hHeld ?_
    rotate_left
    · intro w hS; (try dsimp only at hS); obtain ⟨hS0, hS1⟩ := hS; go_simp; first | done | (with_reducible rfl)
    try simp only [Act.put, ly1, ly2, ly3]
    refine takeH (i := 13) (v := ?_) rfl (by kernel_rfl) (by kernel_rfl) (by kernel_rfl) (fun _ _ _ h => h) rfl ?_ hHeld ?_
    rotate_left
    · intro w hS; (try dsimp only at hS); obtain ⟨hS0, hS1⟩ := hS; go_simp; first | done | (with_reducible rfl)
    try simp only [Act.put, ly1, ly2, ly3]
    refine onlyH (i := 6) rfl (by kernel_rfl) rfl (fun K hK => ?_)
    obtain ⟨w3, hmk, hown3, hgr3⟩ := run_make_own (P := Tryz.prog) wA.drew wA.heap.size 33 27 i0 (.slice none 0 0) 1 Tryz.underlying33 hi0 hz0 hz1 .i64 .i64 (gs.length + 1) (by rw [hz2]; omega) (by unfold maxLen; omega) (Nat.le_refl _)
    have hb3 : Below wA.heap.size wA w3 := (Below.refl _ wA).drew.grown hgr3 (Nat.le_refl _) (by intro k hk; cases hk)
    have e1 : ((gs.length + 1 : Nat) : Int) = IntKind.i64.wrap ((gs.length : Int) + 1) := by rw [IntKind.wrap_i64]; omega
    rw [e1] at hmk
    refine wp_make_run _ _ 33 rfl rfl rfl hmk ?_
    refine hK.out _ _ (⟨hkp w3 x 2 _ hb3 x2, hkp w3 q 1 _ hb3 q1⟩) (fun hHeld => ?_)
    clear hK K
    try simp only [Act.put, ly1, ly2, ly3]
    refine onlyH (i := 11) rfl (by kernel_rfl) rfl (fun K hK => ?_)
    obtain ⟨v4, w4, vs, hrun4, hown4, hgr4, hvs⟩ := run_append_rk w3 hown3 ((HR.out.mono (Q := fun k => P k ∧ k < wA.heap.size) (fun k h1 h2 => ⟨h2, h1⟩)).keep (chg_new hb3) (fun _ _ h => h)) (by omega) hb3.size 33
    have hb34 : Below wA.heap.size w3 w4 := (Below.refl _ w3).grown hgr4 hb3.size (fun k hk => (hown3.lt k hk).1)
    have hb4 : Below wA.heap.size wA w4 := hb3.grown hgr4 hb3.size (fun k hk => (hown3.lt k hk).1)
    have HO4 := hide hown4
    obtain ⟨a4, c4, rfl, -⟩ := own_form hown4
    clear hown4 hown3 hgr3
    refine wp_append_run (.tmp 19) (.tmp 23) 33 rfl rfl rfl hrun4 ?_
    refine hK.out _ _ (⟨hkp w4 x 2 _ hb4 x2, hkp w4 q 1 _ hb4 q1⟩) (fun hHeld => ?_)
    clear hK K
    try simp only [Act.put, ly1, ly2, ly3]
    refine onlyH (i := 14) rfl (by kernel_rfl) rfl (fun K hK => ?_)
    go_simp
    refine (few_any w4 _ rs (hvA.keep hb4) hrs).mono ?_
    rintro e w5 ⟨vf, rfl, hown5, hb5⟩
    have hb5' : Below wA.heap.size wA w5 := hb4.trans (hb5.mono hb4.size)
    have HO5 := hide hown5
    obtain ⟨fa, fc, rfl⟩ := (tx_of_own hown5).form
    clear hown5
    have hbB : Below wA.heap.size wA (w5.alloc (.cells #[.slice fa (fewW rs).length fc] 27)) := hb5'.alloc hb5'.size _
    refine hK.out _ _ (⟨hkp w5 x 2 _ hb5' x2, hkp w5 q 1 _ hb5' q1⟩) (fun hHeld => ?_)
    clear hK K
    try simp only [Act.put, ly1, ly2, ly3]
    refine onlyH (i := 15) rfl (by kernel_rfl) rfl (fun K hK => ?_)
    go_simp
    refine hK.out _ _ (⟨hkp _ x 2 _ hbB x2, hkp _ q 1 _ hbB q1⟩) (fun hHeld => ?_)
    clear hK K
    try simp only [Act.put, ly1, ly2, ly3]
    refine onlyH (i := 16) rfl (by kernel_rfl) rfl (fun K hK => ?_)
    have hrow5 := (own_keepB HO4.out hb5).alloc (.cells #[.slice fa (fewW rs).length fc] 27)
    obtain ⟨v6, w6, hrun6, hown6, hgr6, -⟩ := run_append_own (P := Tryz.prog) (w5.alloc (.cells #[.slice fa (fewW rs).length fc] 27)) wA.heap.size 33 33 27 i0 (.slice none 0 0) 1 24 Tryz.underlying33 hi0 hz0 hz1 hz2 rfl (by decide) _ _ _ hrow5 ⟨w5.heap.size, 0, none⟩ 1 1 [.slice fa (fewW rs).length fc] rfl (cell_one_new w5 _ _) (by simp [Value.oneCell']) (by unfold maxLen; omega) (by omega) hbB.size
    have hb6 : Below wA.heap.size wA w6 := hbB.grown hgr6 hbB.size (fun k hk => (hrow5.lt k hk).1)
    have hb36 : Below wA.heap.size w3 w6 := ((hb34.trans (hb5.mono hb4.size)).alloc hb5'.size _).grown hgr6 hbB.size (fun k hk => (hrow5.lt k hk).1)
    have HO6 := hide hown6
    obtain ⟨a6, c6, rfl, -⟩ := own_form hown6
    clear hown6
    refine wp_append_run (.tmp 24) (.tmp 28) 33 rfl rfl rfl hrun6 ?_
    refine hK.out _ _ (⟨hkp w6 x 2 _ hb6 x2, hkp w6 q 1 _ hb6 q1⟩) (fun hHeld => ?_)
    clear hK K
    try simp only [Act.put, ly1, ly2, ly3]
    refine takeH (i := 17) (v := ?_) rfl (by kernel_rfl) (by kernel_rfl) (by kernel_rfl) (fun _ _ _ h => h) rfl ?_ hHeld ?_
    rotate_left
    · intro w hS; (try dsimp only at hS); obtain ⟨hS0, hS1⟩ := hS; go_simp; first | done | (with_reducible rfl)
    try simp only [Act.put, ly1, ly2, ly3]
    refine wpAnyH_done (by kernel_rfl) ?_ _
    clear hHeld
    go_wp2
    go_ret
    have hvl : vs.length = gs.length := by have := HO4.out.1; omega
    refine ⟨_, rfl, ?_, hbA.trans (hb6.mono hw0)⟩
    unfold gsThen
    rw [if_neg h4]
    have ho6 : w6.ownsRow wA.heap.size 27 1 (.slice a6 (gs.length + 1) c6) (gs ++ [fewW rs]).length (vs ++ [.slice fa (fewW rs).length fc]) := by rw [List.length_append]; exact HO6.out
    have := Rk.own (P := fun k => P k ∨ w.heap.size ≤ k) ho6 (fun k hk => .inr (by omega)) (fun j y g hy hg => by
      by_cases hj : j < vs.length
      · rw [List.getElem?_append_left hj] at hy
        rw [List.getElem?_append_left (by omega)] at hg
        have h1 := hvs j y g hy hg
        exact ⟨h1.1.chg (Chg.of_below hb36) (fun k hk h => by have := (h1.2 k hk).1.2; omega), fun k hk => ⟨.inl (h1.2 k hk).1.1, by have := (h1.2 k hk).1.2; have := hb6.size; omega⟩⟩
      · rw [List.getElem?_append_right (by omega)] at hy hg
        obtain ⟨j', hj'⟩ : ∃ j', j - vs.length = j' := ⟨_, rfl⟩
        rw [hj'] at hy
        rw [← hvl, hj'] at hg
        cases j' with
        | succ m => simp at hy
        | zero =>
          simp at hy hg
          subst hy hg
          have h1 := grow_other hrow5 (HO5.out.alloc _) hgr6
          exact ⟨tx_of_own h1, fun k hk => ⟨.inr (by have := (h1.lt k hk).1; have := hb4.size; omega), (h1.lt k hk).2⟩⟩)
    exact this
end Go.Proofs.YthjcimgollfmgaaGreatDoor
