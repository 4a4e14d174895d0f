/-
  Texts joined: Plays3, WCrcMath, TellsPure, TellsPure2.
-/
import Derived.Test.YthjcimgollfmgaaGreatDoorP24Plays2
import Derived.Test.YthjcimgollfmgaaGreatDoorP12WPut
import Derived.Test.YthjcimgollfmgaaGreatDoorP19Api
/-
  The law's lay, whatever fails meanwhile. Conditions: the log stands; what the call answers may be; few operations; the law's world lies beside it; the table holds its numbers.
-/
namespace Go.Proofs.YthjcimgollfmgaaGreatDoor
open Go.RowKit
variable {B : Nat} {w w' : World} {F : Nat → Prop} {d l x : Nat} {S : Dk} {L : Lw} {g f : Value} {ks : List Int} {t : Bool}

theorem row_keep {X : Nat → Prop} {base n : Nat} {ty : TypeId} {v : Value} {xs : List Value} (h : w.ownsRow base ty 1 v n xs) (hc : Chg X w w') (hX : ∀ k, v.ownBlock = some k → ¬ X k) : w'.ownsRow base ty 1 v n xs := by
  refine ⟨h.1, ?_⟩
  rcases h.2 with h2 | ⟨k, cap, cur, rfl, hb, hg, rest⟩
  · exact .inl h2
  · exact .inr ⟨k, cap, cur, rfl, hb, hc.keep hg (hX k rfl), rest⟩

set_option maxRecDepth 20000 in
set_option maxHeartbeats 3200000 in
theorem lay_plays {base : Nat} (hg : Lg B w F d l S L) (hX : WorldAt w x d l g f t) (hkr : w.ownsRow base 3 1 f ks.length (icW ks)) (hkl : ks.length ≤ 1000000) (hkx : ∀ k, f.ownBlock = some k → ¬ F k ∧ k ≠ l) (hxF : ¬ F x) (hxl : x ≠ l) (kind n torn : Int) (hk : -9223372036854775808 ≤ kind ∧ kind ≤ 9223372036854775807) (vr : Value) (rs : List (List UInt8)) (hv : Tx w vr rs) (hrs : ∀ r ∈ rs, r.length ≤ 140737488355328)
    (hB0 : 0 < B) (hT : TabW w) (hm : 2 * S.bulk < 999999990) (hwh : 0 ≤ L.wh ∧ L.wh ≤ 1099511627776) (hf : MayBe t ks S.n (layW (pk kind 8) S L (fewW rs)).1.n (layW (pk kind 8) S L (fewW rs)).2.2) (hn : S.n ≤ (layW (pk kind 8) S L (fewW rs)).1.n ∧ (layW (pk kind 8) S L (fewW rs)).1.n ≤ S.n + 12) :
    Calls Tryz.prog 18 #[.pointer (some ⟨x, 0, none⟩), .agg #[.int .i64 kind, vr, .int .i64 n, .int .i64 torn]] w fun r w' => r = .returned (.tuple #[.int .i64 (layW (pk kind 8) S L (fewW rs)).2.2, .bool true]) ∧
      Then B w F d l (layW (pk kind 8) S L (fewW rs)).1 (layW (pk kind 8) S L (fewW rs)).2.1 w' := by
  have hgl := hg.lt
  have hgs : ∀ k, F k → k < w.heap.size := fun k hk => (hg.1.2.1 k hk).2
  have hkw : ∀ k, f.ownBlock = some k → k < w.heap.size := fun k hq => (World.ownsRow.lt hkr k hq).2
  have hxw := lt_of_heap hX
  have hSn : S.n ≤ S.bulk := by unfold Dk.bulk; omega
  obtain ⟨ao, cap, rfl⟩ := hv.form
  have hgA : Chg (fun _ => False) w (w.alloc (.cells #[.int .i64 kind, .slice ao rs.length cap, .int .i64 n, .int .i64 torn] 29)) := (Chg.refl _ _).alloc _
  have hCA := hg.keep hgA (fun _ _ h => h) (fun h => h)
  have hXA := hX.keep hgA (fun h => h)
  have hvA := hv.quiet hgA
  have hTA := hT.keep (hgA.below (fun _ h => h.elim) (Nat.le_refl _))
  have hqA := heap_last w (.cells #[.int .i64 kind, .slice ao rs.length cap, .int .i64 n, .int .i64 torn] 29)
  have hszA : (w.alloc (.cells #[.int .i64 kind, .slice ao rs.length cap, .int .i64 n, .int .i64 torn] 29)).heap.size = w.heap.size + 1 := by simp
  have hpk := fun W => pick_any W kind 8 hk (by omega)
  have hfr := fewW_right rs
  have hea : ∀ r ∈ fewW rs, r.length ≤ 140737488355328 := fun r hr => Nat.le_trans (fewW_each rs r hr) (by omega)
  have hop := ops_lies hCA.1
  generalize hWA : w.alloc (.cells #[.int .i64 kind, .slice ao rs.length cap, .int .i64 n, .int .i64 torn] 29) = wA at *
  obtain ⟨q, hq⟩ : ∃ q, q = w.heap.size := ⟨_, rfl⟩
  rw [← hq] at hqA hszA
  have hWA' : w.alloc (.cells #[.int .i64 kind, .slice ao rs.length cap, .int .i64 n, .int .i64 torn] 29) = wA := hWA
  clear hWA
  have hqF : ¬ F q := fun h => by have := hgs q h; omega
  have hql : q ≠ l := by omega
  have a0 : wA.cell? ⟨x, 0, none⟩ = some (.pointer (some ⟨d, 0, none⟩)) := cell_of hXA 0
  have a1 : wA.cell? ⟨x, 1, none⟩ = some (.pointer (some ⟨l, 0, none⟩)) := cell_of hXA 1
  have q0 : wA.cell? ⟨q, 0, none⟩ = some (.int .i64 kind) := cell_of hqA 0
  have q1 : wA.cell? ⟨q, 1, none⟩ = some (.slice ao rs.length cap) := cell_of hqA 1
  have hkp : ∀ (W : World) (b o : Nat) (u : Value), Below wA.heap.size wA W → wA.cell? ⟨b, o, none⟩ = some u → W.cell? ⟨b, o, none⟩ = some u := fun W b o u hb hu => (hb.cell (p := ⟨b, o, none⟩) (World.block_lt_of_cell? wA ⟨b, o, none⟩ hu)).trans hu
  have hw0 : w.heap.size ≤ wA.heap.size := hgA.size
  generalize pk kind 8 = kd at hpk hf hn ⊢
  have HG := hide hg
  have HCA := hide hCA
  have HQ := hide hq
  have HK := hide (row_keep hkr hgA (fun _ _ h => h))
  clear hX hv hT hg hCA hq hkr
  by_cases h4 : kd = 4
  · subst h4
    have e4 : layW 4 S L (fewW rs) = resetW S L (fewW rs) := if_pos rfl
    rw [e4] at hf hn ⊢
    go_enter Tryz.func18, Tryz.ntmps18
    go_wp2_with fail
    rw [← HQ.out]
    refine hop.mono ?_
    rintro e w1 ⟨rfl, hw1⟩
    rw [hw1]
    clear hw1
    go_wp2_with fail
    refine (hpk _).mono ?_
    rintro e w1 ⟨rfl, hw1⟩
    rw [hw1]
    clear hw1 hpk
    go_wp2_with fail
    refine wp_region_held_drew (S := fun W => W.cell? ⟨x, 1, none⟩ = some (.pointer (some ⟨l, 0, none⟩)) ∧ W.cell? ⟨q, 1, none⟩ = some (.slice ao rs.length cap)) (by kernel_rfl) (⟨a1, q1⟩) (fun hHeld => ?_)
    refine takeH (i := 0) (v := ?_) rfl (by kernel_rfl) (by kernel_rfl) (by kernel_rfl) (fun _ _ _ h => h) rfl ?_ hHeld ?_
    rotate_left
    · intro w hS; (try dsimp only at hS); obtain ⟨hS0, hS1⟩ := hS; go_simp; first | done | (with_reducible rfl)
    try simp only [Act.put, ly1, ly2, ly3]
    refine takeH (i := 1) (v := ?_) rfl (by kernel_rfl) (by kernel_rfl) (by kernel_rfl) (fun _ _ _ h => h) rfl ?_ hHeld ?_
    rotate_left
    · intro w hS; (try dsimp only at hS); obtain ⟨hS0, hS1⟩ := hS; go_simp; first | done | (with_reducible rfl)
    try simp only [Act.put, ly1, ly2, ly3]
    refine takeH (i := 2) (v := ?_) rfl (by kernel_rfl) (by kernel_rfl) (by kernel_rfl) (fun _ _ _ h => h) rfl ?_ hHeld ?_
    rotate_left
    · intro w hS; (try dsimp only at hS); obtain ⟨hS0, hS1⟩ := hS; go_simp; first | done | (with_reducible rfl)
    try simp only [Act.put, ly1, ly2, ly3]
    refine takeH (i := 3) (v := ?_) rfl (by kernel_rfl) (by kernel_rfl) (by kernel_rfl) (fun _ _ _ h => h) rfl ?_ hHeld ?_
    rotate_left
    · intro w hS; (try dsimp only at hS); obtain ⟨hS0, hS1⟩ := hS; go_simp; first | done | (with_reducible rfl)
    try simp only [Act.put, ly1, ly2, ly3]
    refine takeH (i := 4) (v := ?_) rfl (by kernel_rfl) (by kernel_rfl) (by kernel_rfl) (fun _ _ _ h => h) rfl ?_ hHeld ?_
    rotate_left
    · intro w hS; (try dsimp only at hS); obtain ⟨hS0, hS1⟩ := hS; go_simp; first | done | (with_reducible rfl)
    try simp only [Act.put, ly1, ly2, ly3]
    refine takeH (i := 5) (v := ?_) rfl (by kernel_rfl) (by kernel_rfl) (by kernel_rfl) (fun _ _ _ h => h) rfl ?_ hHeld ?_
    rotate_left
    · intro w hS; (try dsimp only at hS); obtain ⟨hS0, hS1⟩ := hS; go_simp; first | done | (with_reducible rfl)
    try simp only [Act.put, ly1, ly2, ly3]
    refine onlyH (i := 6) rfl (by kernel_rfl) rfl (fun K hK => ?_)
    go_simp
    refine (few_any wA.drew _ rs (hvA.quiet ((Chg.refl (fun _ => False) wA).drew)) hrs).mono ?_
    rintro e w2 ⟨vf, rfl, hown, hb2⟩
    have hb2' : Below wA.heap.size wA w2 := (Below.refl _ wA).drew.trans hb2
    have hC2 : Lg B w2 F d l S L := HCA.out.keep (Chg.of_below hb2') (fun k hk h => by have := hgs k hk; omega) (by omega)
    have hT2 := hTA.keep hb2'
    have htb : TxB w2 F l vf (fewW rs) := TxB.own HCA.out (Nat.le_refl _) hown
    have hap := reset_lg hC2 htb hB0 hT2 hea (by omega)
    obtain ⟨fa, fc, rfl⟩ := (tx_of_own hown).form
    have hX2 : WorldAt w2 x d l g f t := hXA.keep (Chg.of_below hb2') (by omega)
    refine hK.out _ _ (⟨hkp w2 x 1 _ hb2' a1, hkp w2 q 1 _ hb2' q1⟩) (fun hHeld => ?_)
    clear hK K
    try simp only [Act.put, ly1, ly2, ly3]
    refine onlyH (i := 7) rfl (by kernel_rfl) rfl (fun K hK => ?_)
    go_simp
    refine hap.mono ?_
    rintro e w3 ⟨rfl, F3, hC3, hF3, hc3⟩
    have hX3 := hX2.keep hc3 (fun h => h.elim hxF hxl)
    have b1 : w3.cell? ⟨x, 1, none⟩ = some (.pointer (some ⟨l, 0, none⟩)) := cell_of hX3 1
    have b0 : w3.cell? ⟨x, 0, none⟩ = some (.pointer (some ⟨d, 0, none⟩)) := cell_of hX3 0
    have q3 : w3.cell? ⟨q, 1, none⟩ = some (.slice ao rs.length cap) := cell_of (hc3.keep ((Chg.of_below hb2').keep hqA (by omega)) (fun h => h.elim hqF hql)) 1
    refine hK.out _ _ (⟨b1, q3⟩) (fun hHeld => ?_)
    clear hK K
    try simp only [Act.put, ly1, ly2, ly3]
    refine takeH (i := 8) (v := ?_) rfl (by kernel_rfl) (by kernel_rfl) (by kernel_rfl) (fun _ _ _ h => h) rfl ?_ hHeld ?_
    rotate_left
    · intro w hS; (try dsimp only at hS); obtain ⟨hS0, hS1⟩ := hS; go_simp; first | done | (with_reducible rfl)
    try simp only [Act.put, ly1, ly2, ly3]
    refine wpAnyH_done (by kernel_rfl) ?_ _
    clear hHeld
    have hgw2 : Chg (fun _ => False) w w2 := hgA.trans (Chg.of_below hb2') (fun k hk h => by omega)
    have hgw3 : Chg (fun k => F k ∨ k = l) w w3 := (hgw2.mono fun _ _ h => h.elim).then hc3
    have hF3w : ∀ k, F3 k → F k ∨ w.heap.size ≤ k := fun k hk => (hF3 k hk).imp id (fun h => Nat.le_trans hgw2.size h)
    have hK2 := row_keep HK.out (Chg.of_below hb2') (fun k hq h => by have := hkw k hq; omega)
    have hK3 := row_keep hK2 hc3 (fun k hq h => h.elim (hkx k hq).1 (hkx k hq).2)
    have hmy := may_any hX3 hC3.1 hK3 hkl hf
    have HC3 := hide hC3
    have HX3 := hide hX3
    clear hK2 hK3 hf
    clear hap hC2 hC3 hX3 htb hown hX2 hb2 hvA
    go_wp2_with fail
    refine hmy.mono ?_
    rintro e w4 ⟨rfl, hw4⟩
    have hC4 := HC3.out.keep hw4 (fun _ _ h => h) (fun h => h)
    have hop3 := ops_lies hC4.1
    have b04 : w4.cell? ⟨x, 0, none⟩ = some (.pointer (some ⟨d, 0, none⟩)) := cell_of (HX3.out.keep hw4 (fun h => h)) 0
    have HC4 := hide hC4
    clear hC4 hmy
    go_wp2_with fail
    refine hop3.mono ?_
    rintro e w5 ⟨rfl, hw5⟩
    rw [hw5]
    clear hw5
    generalize hN : (resetW S L (fewW rs)).1.n = N3 at *
    generalize hE3 : (resetW S L (fewW rs)).2.2 = E3 at *
    have hle : decide (((N3 : Nat) : Int) - ((S.n : Nat) : Int) ≤ 12) = true := by rw [decide_eq_true_eq]; omega
    go_wp2
    go_ret2
    subst hE3
    exact ⟨rfl, F3, HC4.out, hF3w, hgw3.trans hw4 (fun _ _ h => h.elim)⟩
  · have h4b : (kd == 4) = false := by simp [h4]
    have e4 : layW kd S L (fewW rs) = appendW S L (fewW rs) := if_neg h4
    rw [e4] at hf hn ⊢
    go_enter Tryz.func18, Tryz.ntmps18
    go_wp2_with fail
    rw [← HQ.out]
    refine hop.mono ?_
    rintro e w1 ⟨rfl, hw1⟩
    rw [hw1]
    clear hw1
    go_wp2_with fail
    refine (hpk _).mono ?_
    rintro e w1 ⟨rfl, hw1⟩
    rw [hw1]
    clear hw1 hpk
    go_wp2_with fail
    refine wp_region_held_drew (S := fun W => W.cell? ⟨x, 1, none⟩ = some (.pointer (some ⟨l, 0, none⟩)) ∧ W.cell? ⟨q, 1, none⟩ = some (.slice ao rs.length cap)) (by kernel_rfl) (⟨a1, q1⟩) (fun hHeld => ?_)
    refine takeH (i := 0) (v := ?_) rfl (by kernel_rfl) (by kernel_rfl) (by kernel_rfl) (fun _ _ _ h => h) rfl ?_ hHeld ?_
    rotate_left
    · intro w hS; (try dsimp only at hS); obtain ⟨hS0, hS1⟩ := hS; go_simp; first | done | (with_reducible rfl)
    try simp only [Act.put, ly1, ly2, ly3]
    refine takeH (i := 1) (v := ?_) rfl (by kernel_rfl) (by kernel_rfl) (by kernel_rfl) (fun _ _ _ h => h) rfl ?_ hHeld ?_
    rotate_left
    · intro w hS; (try dsimp only at hS); obtain ⟨hS0, hS1⟩ := hS; go_simp; first | done | (with_reducible rfl)
    try simp only [Act.put, ly1, ly2, ly3]
    refine takeH (i := 2) (v := ?_) rfl (by kernel_rfl) (by kernel_rfl) (by kernel_rfl) (fun _ _ _ h => h) rfl ?_ hHeld ?_
    rotate_left
    · intro w hS; (try dsimp only at hS); obtain ⟨hS0, hS1⟩ := hS; go_simp; first | done | (with_reducible rfl)
    try simp only [Act.put, ly1, ly2, ly3]
    refine takeH (i := 3) (v := ?_) rfl (by kernel_rfl) (by kernel_rfl) (by kernel_rfl) (fun _ _ _ h => h) rfl ?_ hHeld ?_
    rotate_left
    · intro w hS; (try dsimp only at hS); obtain ⟨hS0, hS1⟩ := hS; go_simp; first | done | (with_reducible rfl)
    try simp only [Act.put, ly1, ly2, ly3]
    refine takeH (i := 4) (v := ?_) rfl (by kernel_rfl) (by kernel_rfl) (by kernel_rfl) (fun _ _ _ h => h) rfl ?_ hHeld ?_
    rotate_left
    · intro w hS; (try dsimp only at hS); obtain ⟨hS0, hS1⟩ := hS; go_simp; first | done | (with_reducible rfl)
    try simp only [Act.put, ly1, ly2, ly3]
    refine takeH (i := 5) (v := ?_) rfl (by kernel_rfl) (by kernel_rfl) (by kernel_rfl) (fun _ _ _ h => h) rfl ?_ hHeld ?_
    rotate_left
    · intro w hS; (try dsimp only at hS); obtain ⟨hS0, hS1⟩ := hS; go_simp; first | done | (with_reducible rfl)
    try simp only [Act.put, ly1, ly2, ly3]
    refine onlyH (i := 6) rfl (by kernel_rfl) rfl (fun K hK => ?_)
    go_simp
    refine (few_any wA.drew _ rs (hvA.quiet ((Chg.refl (fun _ => False) wA).drew)) hrs).mono ?_
    rintro e w2 ⟨vf, rfl, hown, hb2⟩
    have hb2' : Below wA.heap.size wA w2 := (Below.refl _ wA).drew.trans hb2
    have hC2 : Lg B w2 F d l S L := HCA.out.keep (Chg.of_below hb2') (fun k hk h => by have := hgs k hk; omega) (by omega)
    have hT2 := hTA.keep hb2'
    have htb : TxB w2 F l vf (fewW rs) := TxB.own HCA.out (Nat.le_refl _) hown
    have hap := append_lg hC2 htb hB0 hT2 hea hm hwh
    obtain ⟨fa, fc, rfl⟩ := (tx_of_own hown).form
    have hX2 : WorldAt w2 x d l g f t := hXA.keep (Chg.of_below hb2') (by omega)
    refine hK.out _ _ (⟨hkp w2 x 1 _ hb2' a1, hkp w2 q 1 _ hb2' q1⟩) (fun hHeld => ?_)
    clear hK K
    try simp only [Act.put, ly1, ly2, ly3]
    refine onlyH (i := 7) rfl (by kernel_rfl) rfl (fun K hK => ?_)
    go_simp
    refine hap.mono ?_
    rintro e w3 ⟨rfl, F3, hC3, hF3, hc3⟩
    have hX3 := hX2.keep hc3 (fun h => h.elim hxF hxl)
    have b1 : w3.cell? ⟨x, 1, none⟩ = some (.pointer (some ⟨l, 0, none⟩)) := cell_of hX3 1
    have b0 : w3.cell? ⟨x, 0, none⟩ = some (.pointer (some ⟨d, 0, none⟩)) := cell_of hX3 0
    have q3 : w3.cell? ⟨q, 1, none⟩ = some (.slice ao rs.length cap) := cell_of (hc3.keep ((Chg.of_below hb2').keep hqA (by omega)) (fun h => h.elim hqF hql)) 1
    refine hK.out _ _ (⟨b1, q3⟩) (fun hHeld => ?_)
    clear hK K
    try simp only [Act.put, ly1, ly2, ly3]
    refine takeH (i := 8) (v := ?_) rfl (by kernel_rfl) (by kernel_rfl) (by kernel_rfl) (fun _ _ _ h => h) rfl ?_ hHeld ?_
    rotate_left
    · intro w hS; (try dsimp only at hS); obtain ⟨hS0, hS1⟩ := hS; go_simp; first | done | (with_reducible rfl)
    try simp only [Act.put, ly1, ly2, ly3]
    refine wpAnyH_done (by kernel_rfl) ?_ _
    clear hHeld
    have hgw2 : Chg (fun _ => False) w w2 := hgA.trans (Chg.of_below hb2') (fun k hk h => by omega)
    have hgw3 : Chg (fun k => F k ∨ k = l) w w3 := (hgw2.mono fun _ _ h => h.elim).then hc3
    have hF3w : ∀ k, F3 k → F k ∨ w.heap.size ≤ k := fun k hk => (hF3 k hk).imp id (fun h => Nat.le_trans hgw2.size h)
    have hK2 := row_keep HK.out (Chg.of_below hb2') (fun k hq h => by have := hkw k hq; omega)
    have hK3 := row_keep hK2 hc3 (fun k hq h => h.elim (hkx k hq).1 (hkx k hq).2)
    have hmy := may_any hX3 hC3.1 hK3 hkl hf
    have HC3 := hide hC3
    have HX3 := hide hX3
    clear hK2 hK3 hf
    clear hap hC2 hC3 hX3 htb hown hX2 hb2 hvA
    go_wp2_with fail
    refine hmy.mono ?_
    rintro e w4 ⟨rfl, hw4⟩
    have hC4 := HC3.out.keep hw4 (fun _ _ h => h) (fun h => h)
    have hop3 := ops_lies hC4.1
    have b04 : w4.cell? ⟨x, 0, none⟩ = some (.pointer (some ⟨d, 0, none⟩)) := cell_of (HX3.out.keep hw4 (fun h => h)) 0
    have HC4 := hide hC4
    clear hC4 hmy
    go_wp2_with fail
    refine hop3.mono ?_
    rintro e w5 ⟨rfl, hw5⟩
    rw [hw5]
    clear hw5
    generalize hN : (appendW S L (fewW rs)).1.n = N3 at *
    generalize hE3 : (appendW S L (fewW rs)).2.2 = E3 at *
    have hle : decide (((N3 : Nat) : Int) - ((S.n : Nat) : Int) ≤ 12) = true := by rw [decide_eq_true_eq]; omega
    go_wp2
    go_ret2
    subst hE3
    exact ⟨rfl, F3, HC4.out, hF3w, hgw3.trans hw4 (fun _ _ h => h.elim)⟩
end Go.Proofs.YthjcimgollfmgaaGreatDoor

/-
  Plain facts on the sum: bit by bit and by fours are one; it is linear; bits turned within 32 side by side make it another one. No condition.
-/
namespace Go.Proofs.YthjcimgollfmgaaGreatDoor.Pl

def bs (x : Nat) : Nat := if x % 2 = 1 then x / 2 ^^^ 3988292384 else x / 2
def bsN : Nat → Nat → Nat
  | 0, x => x
  | n + 1, x => bsN n (bs x)

theorem bsN_zero : ∀ n, bsN n 0 = 0
  | 0 => rfl
  | n + 1 => bsN_zero n

theorem xor_half (a b : Nat) : (a ^^^ b) / 2 = a / 2 ^^^ b / 2 := by
  have := Nat.shiftRight_xor_distrib (a := a) (b := b) (i := 1)
  simpa [Nat.shiftRight_eq_div_pow] using this
theorem xor_par (a b : Nat) : (a ^^^ b) % 2 = (a % 2 + b % 2) % 2 := by
  have h := Nat.xor_mod_two_pow (a := a) (b := b) (n := 1)
  rw [Nat.pow_one] at h
  rw [h]
  rcases Nat.mod_two_eq_zero_or_one a with ha | ha <;> rcases Nat.mod_two_eq_zero_or_one b with hb | hb <;> rw [ha, hb] <;> rfl
theorem xor_same {a b c : Nat} (h : a ^^^ b = a ^^^ c) : b = c := by
  have := congrArg (fun z => a ^^^ z) h
  simp only [← Nat.xor_assoc, Nat.xor_self, Nat.zero_xor] at this
  exact this
theorem bs_xor (a b : Nat) : bs (a ^^^ b) = bs a ^^^ bs b := by
  unfold bs
  have hp := xor_par a b
  rw [xor_half]
  rcases Nat.mod_two_eq_zero_or_one a with ha | ha <;> rcases Nat.mod_two_eq_zero_or_one b with hb | hb
  · rw [if_neg (by omega), if_neg (by omega), if_neg (by omega)]
  · rw [if_pos (by omega), if_neg (by omega), if_pos (by omega), Nat.xor_assoc]
  · rw [if_pos (by omega), if_pos (by omega), if_neg (by omega)]
    rw [Nat.xor_assoc, Nat.xor_assoc, Nat.xor_comm (b / 2)]
  · rw [if_neg (by omega), if_pos (by omega), if_pos (by omega)]
    rw [Nat.xor_assoc, ← Nat.xor_assoc (3988292384) (b / 2), Nat.xor_comm 3988292384 (b / 2), Nat.xor_assoc (b / 2), Nat.xor_self, Nat.xor_zero]
theorem bsN_xor : ∀ (n a b : Nat), bsN n (a ^^^ b) = bsN n a ^^^ bsN n b
  | 0, _, _ => rfl
  | n + 1, a, b => by simp only [bsN]; rw [bs_xor, bsN_xor n]
theorem bsN_add : ∀ (m n x : Nat), bsN (m + n) x = bsN n (bsN m x)
  | 0, n, x => by rw [Nat.zero_add]; rfl
  | m + 1, n, x => by rw [show m + 1 + n = (m + n) + 1 by omega]; simp only [bsN]; exact bsN_add m n (bs x)
theorem bs_two (z : Nat) : bs (2 * z) = z := by unfold bs; rw [if_neg (by omega)]; omega
theorem bsN_pow : ∀ (t z : Nat), bsN t (2 ^ t * z) = z
  | 0, z => by simp [bsN]
  | t + 1, z => by
    simp only [bsN]
    rw [show 2 ^ (t + 1) * z = 2 * (2 ^ t * z) by rw [Nat.pow_succ]; rw [Nat.mul_comm (2 ^ t) 2, Nat.mul_assoc], bs_two, bsN_pow t z]

theorem nib_small : ∀ r : Fin 16, bsN 4 r.val = tabL.getD r.val 0 := by decide +kernel
theorem nib_bs (x : Nat) : nib x = bsN 4 x := by
  have hx : x = 2 ^ 4 * (x / 16) ^^^ x % 16 := by
    have h : x % 16 < 2 ^ 4 := Nat.mod_lt _ (by decide)
    have := Nat.two_pow_add_eq_or_of_lt h (x / 16)
    have hxor : 2 ^ 4 * (x / 16) ^^^ x % 16 = 2 ^ 4 * (x / 16) + x % 16 := by
      rw [this]
      apply Nat.eq_of_testBit_eq
      intro i
      rw [Nat.testBit_xor, Nat.testBit_or]
      by_cases hi : i < 4
      · have : (2 ^ 4 * (x / 16)).testBit i = false := by
          rw [Nat.testBit_two_pow_mul]
          simp; omega
        simp [this]
      · have : (x % 16).testBit i = false := Nat.testBit_lt_two_pow (Nat.lt_of_lt_of_le h (Nat.pow_le_pow_right (by decide) (by omega)))
        simp [this]
    rw [hxor]
    omega
  conv => rhs; rw [hx]
  rw [bsN_xor, bsN_pow, nib_small ⟨x % 16, by omega⟩]
  rfl
theorem crcB_bs (s : Nat) (c : UInt8) : crcB s c = bsN 8 (s ^^^ c.toNat) := by
  unfold crcB
  rw [nib_bs, nib_bs, ← bsN_add]

theorem bs_lt (x : Nat) (h : x < 4294967296) : bs x < 4294967296 := by
  unfold bs
  split
  · exact Nat.xor_lt_two_pow (n := 32) (by omega) (by decide)
  · omega
theorem bs_ne (x : Nat) (h : x < 4294967296) (h0 : x ≠ 0) : bs x ≠ 0 := by
  unfold bs
  split
  · intro e
    have e2 : x / 2 = 3988292384 := by
      have h1 : 3988292384 ^^^ (x / 2) = 3988292384 ^^^ 3988292384 := by rw [Nat.xor_comm, e, Nat.xor_self]
      exact xor_same h1
    omega
  · omega
theorem bsN_ne : ∀ (n x : Nat), x < 4294967296 → x ≠ 0 → bsN n x ≠ 0
  | 0, _, _, h => h
  | n + 1, x, h, h0 => bsN_ne n (bs x) (bs_lt x h) (bs_ne x h h0)

theorem crcL_xor (r : List UInt8) : ∀ x d : Nat, crcL (x ^^^ d) r = crcL x r ^^^ bsN (8 * r.length) d := by
  induction r with
  | nil => intro x d; rfl
  | cons c r ih =>
    intro x d
    have e : crcB (x ^^^ d) c = crcB x c ^^^ bsN 8 d := by
      rw [crcB_bs, crcB_bs, Nat.xor_assoc, Nat.xor_comm d, ← Nat.xor_assoc, bsN_xor]
    show crcL (crcB (x ^^^ d) c) r = crcL (crcB x c) r ^^^ _
    rw [e, ih, ← bsN_add]
    congr 2
    simp; omega

/-- One bit turned. -/
theorem crcL_flip (s : Nat) (l : List UInt8) (j t : Nat) (hj : j < l.length) (ht : t < 8) (c' : UInt8) (hc : c'.toNat = l[j].toNat ^^^ 2 ^ t) :
    crcL s (l.set j c') = crcL s l ^^^ bsN (8 * (l.length - j) - t) 1 := by
  have h1 : l = l.take j ++ l[j] :: l.drop (j + 1) := by rw [List.getElem_cons_drop, List.take_append_drop]
  have h2 : l.set j c' = l.take j ++ c' :: l.drop (j + 1) := by rw [List.set_eq_take_append_cons_drop, if_pos hj]
  have hlen : (l.drop (j + 1)).length = l.length - j - 1 := by simp; omega
  rw [h2]
  conv => rhs; lhs; rw [h1]
  rw [crcL_append, crcL_append]
  generalize crcL s (l.take j) = a
  show crcL (crcB a c') _ = crcL (crcB a l[j]) _ ^^^ _
  have e : crcB a c' = crcB a l[j] ^^^ bsN (8 - t) 1 := by
    rw [crcB_bs, crcB_bs, hc, ← Nat.xor_assoc, bsN_xor]
    congr 1
    conv => lhs; rw [show 8 = t + (8 - t) by omega, bsN_add, ← Nat.mul_one (2 ^ t), bsN_pow]
  rw [e, crcL_xor, ← bsN_add, hlen]
  congr 2
  omega

theorem bsN_bit (n i : Nat) (h : i ≤ n) : bsN n (2 ^ i) = bsN (n - i) 1 := by
  conv => lhs; rw [show n = i + (n - i) by omega, bsN_add, ← Nat.mul_one (2 ^ i), bsN_pow]
theorem mod_next (p i : Nat) : p % 2 ^ (i + 1) = p % 2 ^ i ^^^ (p / 2 ^ i % 2) * 2 ^ i := by
  have h1 : p % 2 ^ (i + 1) = 2 ^ i * (p / 2 ^ i % 2) + p % 2 ^ i := by
    rw [Nat.pow_succ, Nat.mod_mul]; omega
  have h2 : p % 2 ^ i < 2 ^ i := Nat.mod_lt _ (Nat.two_pow_pos _)
  rw [h1, Nat.mul_comm (p / 2 ^ i % 2)]
  rw [Nat.two_pow_add_eq_or_of_lt h2]
  apply Nat.eq_of_testBit_eq
  intro k
  rw [Nat.testBit_or, Nat.testBit_xor]
  by_cases hk : k < i
  · have : (2 ^ i * (p / 2 ^ i % 2)).testBit k = false := by
      rw [Nat.testBit_two_pow_mul]
      simp; omega
    simp [this]
  · have : (p % 2 ^ i).testBit k = false := Nat.testBit_lt_two_pow (Nat.lt_of_lt_of_le h2 (Nat.pow_le_pow_right (by decide) (by omega)))
    simp [this]
/-- What turning the pattern's bits does. -/
theorem crc_other (a b : List UInt8) (n p : Nat) (h : crcL 4294967295 b = crcL 4294967295 a ^^^ bsN n p) (hp : p < 4294967296) (h0 : p ≠ 0) : crc b ≠ crc a := by
  intro e
  unfold crc at e
  have e2 : crcL 4294967295 b = crcL 4294967295 a := xor_same e
  rw [e2] at h
  have : bsN n p = 0 := by
    have := congrArg (fun z => crcL 4294967295 a ^^^ z) h
    simp only [Nat.xor_self, ← Nat.xor_assoc, Nat.zero_xor] at this
    exact this.symm
  exact bsN_ne n p hp h0 this
end Go.Proofs.YthjcimgollfmgaaGreatDoor.Pl

/-
  One byte of a log's file turned: what can be read then are the same groups, or nothing. No program here. Conditions: none.
-/
namespace Go.Proofs.YthjcimgollfmgaaGreatDoor

/-- One byte is another one. -/
def Turned (l l' : List UInt8) : Prop := ∃ p c c' r, l = p ++ c :: r ∧ l' = p ++ c' :: r ∧ c ≠ c'
theorem Turned.length {l l' : List UInt8} (h : Turned l l') : l'.length = l.length := by
  obtain ⟨p, c, c', r, rfl, rfl, -⟩ := h
  simp
theorem Turned.ne {l l' : List UInt8} (h : Turned l l') : l' ≠ l := by
  obtain ⟨p, c, c', r, rfl, rfl, hc⟩ := h
  intro e
  have := List.append_cancel_left e
  injection this with this _
  exact hc this.symm
theorem Turned.part {a b x : List UInt8} (h : Turned (a ++ b) x) : (∃ a', Turned a a' ∧ x = a' ++ b) ∨ (∃ b', Turned b b' ∧ x = a ++ b') := by
  obtain ⟨p, c, c', r, h1, rfl, hc⟩ := h
  rcases List.append_eq_append_iff.1 h1 with ⟨s, hp, hb⟩ | ⟨s, ha, hb⟩
  · subst hp
    exact .inr ⟨s ++ c' :: r, ⟨s, c, c', r, hb, rfl, hc⟩, by simp⟩
  · cases s with
    | nil =>
      rw [List.append_nil] at ha
      subst ha
      exact .inr ⟨c' :: r, ⟨[], c, c', r, hb.symm, rfl, hc⟩, by simp⟩
    | cons d s =>
      rw [List.cons_append] at hb
      injection hb with e1 e2
      subst e1 e2 ha
      exact .inl ⟨p ++ c' :: s, ⟨p, c, c', s, rfl, rfl, hc⟩, by simp⟩
theorem turned_modify {l : List UInt8} {i : Nat} {b : UInt8} (hi : i < l.length) (hb : b ≠ 0) : Turned l (l.modify i (· ^^^ b)) := by
  have h1 : l = l.take i ++ l[i] :: l.drop (i + 1) := by rw [List.getElem_cons_drop, List.take_append_drop]
  have h2 : l.modify i (· ^^^ b) = l.take i ++ (l[i] ^^^ b) :: l.drop (i + 1) := by
    rw [List.modify_eq_take_cons_drop hi]
  refine ⟨_, _, _, _, h1, h2, fun e => hb ?_⟩
  have e2 := congrArg (fun z => l[i] ^^^ z) e
  simp only [← UInt8.xor_assoc, UInt8.xor_self, UInt8.zero_xor] at e2
  exact e2.symm
theorem modify_zero (l : List UInt8) (i : Nat) : l.modify i (· ^^^ 0) = l := by
  have : (fun x : UInt8 => x ^^^ 0) = id := by funext x; simp
  rw [this, List.modify_id]
/-- The sum tells one byte. -/
theorem sum4_turned {l l' : List UInt8} (h : Turned l l') : sum4 l ≠ sum4 l' := by
  obtain ⟨p, c, c', r, rfl, rfl, hc⟩ := h
  intro e
  have e1 : crc (p ++ c :: r) = crc (p ++ c' :: r) := by
    have h1 := congrArg unword e
    unfold sum4 at h1
    rwa [unword_word _ (crc_lt _), unword_word _ (crc_lt _)] at h1
  have hx : crcL 4294967295 (p ++ c' :: r) = crcL 4294967295 (p ++ c :: r) ^^^ Pl.bsN (8 * r.length + 8) (c.toNat ^^^ c'.toNat) := by
    rw [crcL_append, crcL_append]
    generalize crcL 4294967295 p = a
    show crcL (crcB a c') r = crcL (crcB a c) r ^^^ _
    have e2 : crcB a c' = crcB a c ^^^ Pl.bsN 8 (c.toNat ^^^ c'.toNat) := by
      rw [Pl.crcB_bs, Pl.crcB_bs, ← Pl.bsN_xor]
      congr 1
      rw [Nat.xor_assoc, ← Nat.xor_assoc c.toNat, Nat.xor_self, Nat.zero_xor]
    rw [e2, Pl.crcL_xor, ← Pl.bsN_add]
    congr 2
    omega
  have hlt : c.toNat ^^^ c'.toNat < 256 := Nat.xor_lt_two_pow (n := 8) c.toNat_lt c'.toNat_lt
  refine Pl.crc_other _ _ _ _ hx (by omega) (fun h0 => hc ?_) e1.symm
  have h1 := congrArg (fun z => c.toNat ^^^ z) h0
  simp only [← Nat.xor_assoc, Nat.xor_self, Nat.zero_xor, Nat.xor_zero] at h1
  exact UInt8.toNat.inj h1.symm
section
variable {cs : List UInt8 → List UInt8} (hcs : ∀ b, (cs b).length = 4) (hone : ∀ l l', Turned l l' → cs l ≠ cs l')
include hcs hone
omit hcs in
theorem sum_turned {M M' : List UInt8} (hl : M.length = M'.length) (h : Turned (M ++ cs M) (M' ++ cs M')) : False := by
  rcases h.part with ⟨a, ha, e⟩ | ⟨b, hb, e⟩
  · have h1 := List.append_inj e (by rw [ha.length, hl])
    rw [← h1.1] at ha
    exact hone _ _ ha h1.2.symm
  · have h1 := List.append_inj e hl.symm
    rw [h1.1] at h1
    exact hb.ne h1.2.symm
omit hone in
theorem headW_is {b : List UInt8} (h : (headW cs b).2 = true) (hl : 12 ≤ b.length) : b.take 12 = hdW cs (headW cs b).1 := by
  have hlt : (b.take 12).length = 12 := by rw [List.length_take]; omega
  obtain ⟨S, hS⟩ : ∃ S, headW cs b = if 2129920 < S then ((0 : Nat), false) else (S, (b.take 12).isPrefixOf (hdW cs S)) := ⟨_, rfl⟩
  rw [hS] at h ⊢
  by_cases hb : 2129920 < S
  · rw [if_pos hb] at h
    cases h
  · rw [if_neg hb] at h ⊢
    obtain ⟨c, hc⟩ := isPre_iff.1 h
    have h2 := congrArg List.length hc
    rw [hdW_length hcs, List.length_append, hlt] at h2
    have : c = [] := List.eq_nil_of_length_eq_zero (by omega)
    show b.take 12 = hdW cs S
    rw [hc, this, List.append_nil]
theorem headW_turned {n : Nat} {h' x : List UInt8} (h : Turned (hdW cs n) h') : (headW cs (h' ++ x)).2 = false := by
  rw [Bool.eq_false_iff]
  intro ht
  have hl := h.length
  rw [hdW_length hcs] at hl
  have h1 := headW_is hcs ht (by rw [List.length_append]; omega)
  rw [List.take_left' hl] at h1
  rw [h1] at h
  exact sum_turned hone (by rw [h8_length, h8_length]) h
/-- A whole group, one byte turned. -/
theorem groupW_turned {g : List (List UInt8)} {l' x : List UInt8} (hr : right g = true) (h : Turned (grp cs g) l') : (groupW cs (l' ++ x)).2.2 = false := by
  have hb : ¬ 2129920 < (bodyW g).length := by have := right_body hr; omega
  unfold grp at h
  show (groupB cs _ _).2.2 = false
  rcases h.part with ⟨h', hh, rfl⟩ | ⟨q, hq, rfl⟩
  · unfold groupB
    rw [List.append_assoc, headW_turned hcs hone hh, if_pos (.inl rfl)]
  · have hl := hdW_length hcs (bodyW g).length
    have hql := hq.length
    rw [List.length_append, hcs] at hql
    rw [List.append_assoc, headW_put hcs _ _ hb]
    unfold groupB
    have hlen : ¬ (hdW cs (bodyW g).length ++ (q ++ x)).length < 12 := by rw [List.length_append, hl]; omega
    rw [if_neg (fun e => e.elim (fun e => by cases e) hlen), List.drop_left' hl]
    simp only
    have e1 : (q ++ x).take (bodyW g).length = q.take (bodyW g).length := List.take_append_of_le_length (by omega)
    have e2 : (q ++ x).drop (bodyW g).length = q.drop (bodyW g).length ++ x := List.drop_append_of_le_length (by omega)
    rw [e1, e2]
    have hbl : (q.take (bodyW g).length).length = (bodyW g).length := by rw [List.length_take]; omega
    have hsl : (q.drop (bodyW g).length).length = 4 := by rw [List.length_drop]; omega
    generalize recsW ((q.take (bodyW g).length).length + 1) (q.take (bodyW g).length) 0 ((bodyW g).length : Int) = R
    unfold recB
    split
    · rfl
    · rw [if_neg (by omega), List.take_left' hsl]
      unfold sumB
      have hp : (q.drop (bodyW g).length).isPrefixOf (cs (q.take (bodyW g).length)) = false := by
        rw [Bool.eq_false_iff]
        intro ht
        obtain ⟨c, hc⟩ := isPre_iff.1 ht
        have h2 := congrArg List.length hc
        rw [hcs, List.length_append, hsl] at h2
        have hc0 : c = [] := List.eq_nil_of_length_eq_zero (by omega)
        rw [hc0, List.append_nil] at hc
        have hqq : q = q.take (bodyW g).length ++ cs (q.take (bodyW g).length) := by rw [hc, List.take_append_drop]
        rw [hqq] at hq
        exact sum_turned hone hbl.symm hq
      rw [if_pos (.inl hp)]
      exact hp
/-- A group of which the end is missing, one byte turned: no whole one. -/
theorem groupW_torn {g : List (List UInt8)} {j : Nat} {t : List UInt8} (hr : right g = true) (hj : j < (grp cs g).length) (h : Turned ((grp cs g).take j) t) : (groupW cs t).2.1 = 0 := by
  have hb : ¬ 2129920 < (bodyW g).length := by have := right_body hr; omega
  have hgl := grp_length hcs g
  have hl := hdW_length hcs (bodyW g).length
  have htl : t.length = j := by rw [h.length, List.length_take]; omega
  show (groupB cs _ _).2.1 = 0
  by_cases hc : (headW cs t).2 = false ∨ t.length < 12
  · unfold groupB
    rw [if_pos hc]
  · have ht : (headW cs t).2 = true := by
      cases hq : (headW cs t).2 with
      | true => rfl
      | false => exact absurd (.inl hq) hc
    have h12 : 12 ≤ t.length := by
      by_cases h1 : 12 ≤ t.length
      · exact h1
      · exact absurd (.inr (by omega)) hc
    have hd := headW_is hcs ht h12
    have e0 : (grp cs g).take j = hdW cs (bodyW g).length ++ (bodyW g ++ cs (bodyW g)).take (j - 12) := by
      unfold grp
      rw [List.take_append, List.take_of_length_le (by omega), hl]
    rw [e0] at h
    rcases h.part with ⟨h', hh, e⟩ | ⟨q, hq, e⟩
    · have hh12 : h'.length = 12 := by rw [hh.length, hl]
      rw [e, List.take_left' hh12] at hd
      rw [hd] at hh
      exact (sum_turned hone (by rw [h8_length, h8_length]) hh).elim
    · have hql : q.length = j - 12 := by rw [e, List.length_append, hl] at htl; omega
      rw [e, headW_put hcs _ _ hb]
      unfold groupB
      have hlen : ¬ (hdW cs (bodyW g).length ++ q).length < 12 := by rw [List.length_append, hl]; omega
      rw [if_neg (fun e => e.elim (fun e => by cases e) hlen), List.drop_left' hl]
      simp only
      generalize recsW ((q.take (bodyW g).length).length + 1) (q.take (bodyW g).length) 0 ((bodyW g).length : Int) = R
      unfold recB
      split
      · rfl
      · split
        · rfl
        · unfold sumB
          have hs : ((q.drop (bodyW g).length).take 4).length < 4 := by rw [List.length_take, List.length_drop]; omega
          rw [if_pos (.inr hs)]
theorem groupsW_turned : ∀ (gs : List (List (List UInt8))) (p x l' : List UInt8) (f : Nat), (∀ g ∈ gs, right g = true) → gs.length < f → Turned (laid cs gs) l' → groupsW cs f (p ++ (l' ++ x)) p.length = none
  | [], p, x, l', f, _, _, h => by
    obtain ⟨a, c, c', r, h1, -⟩ := h
    have e0 : laid cs [] = [] := rfl
    rw [e0] at h1
    exact absurd h1.symm (by simp)
  | g :: gs, p, x, l', f + 1, hr, hf, h => by
    have hg := hr g (List.mem_cons_self ..)
    have hl := grp_length hcs g
    rw [laid_cons] at h
    have hll := h.length
    rw [List.length_append] at hll
    rw [groupsW_in _ _ _ _ (by rw [List.length_append, List.length_append]; omega), List.drop_left]
    rcases h.part with ⟨g', hg', rfl⟩ | ⟨y, hy, rfl⟩
    · rw [List.append_assoc]
      unfold stepG
      rw [if_pos (.inl (groupW_turned hcs hone hg hg'))]
    · rw [List.append_assoc, groupW_put hcs g _ hg]
      have ih := groupsW_turned gs (p ++ grp cs g) x y f (fun z hz => hr z (List.mem_cons_of_mem _ hz)) (by rw [List.length_cons] at hf; omega) hy
      rw [List.append_assoc, List.length_append] at ih
      show stepG p.length (g, (grp cs g).length, true) (groupsW cs f (p ++ (grp cs g ++ (y ++ x))) (p.length + (grp cs g).length)) = none
      rw [ih]
      unfold stepG
      rw [if_neg (fun e => e.elim (fun e => by cases e) (fun e => by have := e.1; simp only at this; omega)), if_neg (by simp only; omega)]
      rfl
omit hone in
theorem groupsW_then (t : List UInt8) (ht : (groupW cs t).2.1 = 0) : ∀ (gs : List (List (List UInt8))) (p : List UInt8) (f : Nat), (∀ g ∈ gs, right g = true) → gs.length + 1 < f → p ++ laid cs gs ≠ [] →
    groupsW cs f (p ++ (laid cs gs ++ t)) p.length = none ∨ groupsW cs f (p ++ (laid cs gs ++ t)) p.length = some (gs, (p ++ laid cs gs).length)
  | [], p, f + 1, _, _, hne => by
    have e0 : laid cs [] = [] := rfl
    rw [e0, List.append_nil] at hne ⊢
    rw [List.nil_append]
    have hp := List.length_pos_iff.2 hne
    by_cases h0 : t = []
    · rw [h0, List.append_nil, groupsW_end _ _ _ _ (Nat.lt_irrefl _)]
      exact .inr rfl
    · have htp := List.length_pos_iff.2 h0
      rw [groupsW_in _ _ _ _ (by rw [List.length_append]; omega), List.drop_left]
      unfold stepG
      split
      · exact .inl rfl
      · first
        | exact .inr rfl
        | (rw [if_pos ht]; exact .inr rfl)
  | g' :: gs, p, f + 1, h, hf, _ => by
    have hg' := h g' (List.mem_cons_self ..)
    have hl := grp_length hcs g'
    have hne : p ++ grp cs g' ++ laid cs gs ≠ [] := fun e => by
      have := congrArg List.length e
      rw [List.length_append, List.length_append, List.length_nil] at this
      omega
    have ih := groupsW_then t ht gs (p ++ grp cs g') f (fun x hx => h x (List.mem_cons_of_mem _ hx)) (by rw [List.length_cons] at hf; omega) hne
    have e : p ++ (laid cs (g' :: gs) ++ t) = p ++ (grp cs g' ++ (laid cs gs ++ t)) := by rw [laid_cons, List.append_assoc]
    have e2 : p ++ grp cs g' ++ (laid cs gs ++ t) = p ++ (grp cs g' ++ (laid cs gs ++ t)) := by rw [List.append_assoc]
    rw [e2, List.length_append] at ih
    rw [e, groupsW_in _ _ _ _ (by rw [List.length_append, List.length_append]; omega), List.drop_left, groupW_put hcs g' _ hg']
    show stepG p.length (g', (grp cs g').length, true) (groupsW cs f (p ++ (grp cs g' ++ (laid cs gs ++ t))) (p.length + (grp cs g').length)) = _ ∨ stepG p.length (g', (grp cs g').length, true) (groupsW cs f (p ++ (grp cs g' ++ (laid cs gs ++ t))) (p.length + (grp cs g').length)) = _
    rcases ih with ih | ih
    · left
      rw [ih]
      unfold stepG
      rw [if_neg (fun e => e.elim (fun e => by cases e) (fun e => by have := e.1; simp only at this; omega)), if_neg (by simp only; omega)]
      rfl
    · right
      rw [ih, stepG_put (by omega), laid_cons, List.append_assoc]
end
/-- One byte of the file turned: nothing can be read, or the same groups. -/
theorem groups_turned {gs : List (List (List UInt8))} {tail l' : List UInt8} (hr : ∀ g ∈ gs, right g = true) (ht : TornTail gs tail) (h : Turned (laid sum4 gs ++ tail) l') :
    groupsW sum4 (l'.length + 1) l' 0 = none ∨ groupsW sum4 (l'.length + 1) l' 0 = some (gs, (laid sum4 gs).length) := by
  have hone : ∀ l l', Turned l l' → sum4 l ≠ sum4 l' := fun l l' h => sum4_turned h
  have hm := laid_many gs
  have hll := h.length
  rw [List.length_append] at hll
  rcases h.part with ⟨a, ha, rfl⟩ | ⟨t, htt, rfl⟩
  · left
    have := groupsW_turned sum4_length hone gs [] tail a ((a ++ tail).length + 1) hr (by omega) ha
    simpa using this
  · rcases ht with rfl | ⟨hne, g, j, hg, hj, rfl⟩
    · obtain ⟨p, c, c', r, h1, -⟩ := htt
      exact absurd h1.symm (by simp)
    · have h0 := groupW_torn sum4_length hone hg hj htt
      have hpos := List.length_pos_iff.2 hne
      have htl : 1 ≤ t.length := by
        obtain ⟨p, c, c', r, -, h2, -⟩ := htt
        rw [h2, List.length_append, List.length_cons]
        omega
      have := groupsW_then sum4_length t h0 gs [] ((laid sum4 gs ++ t).length + 1) hr (by rw [List.length_append]; omega) (by simpa using hne)
      simpa using this
end Go.Proofs.YthjcimgollfmgaaGreatDoor

/-
  A disk of which one byte was turned: what a log reads there. No program here. Conditions: none.
-/
namespace Go.Proofs.YthjcimgollfmgaaGreatDoor
variable {z n : Nm} {S : Dk} {all : List UInt8}

theorem read_turn (h : Firm z S all) (hz : isNm z = true) (hon : S.on = true) (hf : S.fails S.n = false) (at_ : Int) (b : UInt8) : ∃ all', readW (S.turn n at_ b).1 z = (all', 0) ∧ (all' = all ∨ b ≠ 0 ∧ Turned all all') := by
  unfold Dk.turn
  cases hl : look S.dir n with
  | none => exact ⟨all, h.read hz hon hf, .inl rfl⟩
  | some f =>
    dsimp only
    by_cases hr : at_ < 0 ∨ ((S.bytes f).length : Int) ≤ at_
    · rw [if_pos hr]
      exact ⟨all, h.read hz hon hf, .inl rfl⟩
    · rw [if_neg hr]
      dsimp only
      have hof : ({ S with files := S.files.modify f fun x => { x with b := x.b.modify at_.toNat (· ^^^ b) } } : Dk).onFile z = match look S.dir z with
          | none => .error 32
          | some f => .ok (f, S.fails S.n) := by
        show S.onFile z = _
        unfold Dk.onFile
        rw [if_neg (by simp [hon]), if_neg (by simp [hz])]
        cases look S.dir z <;> rfl
      unfold readW Dk.read
      rw [hof]
      rcases h with ⟨h, e⟩ | ⟨f', h⟩
      · rw [h.lookD, e]
        exact ⟨[], rfl, .inl rfl⟩
      · obtain ⟨x, h1, h2, h3⟩ := h.file
        have hb0 : S.bytes f' = all := by simp [Dk.bytes, h1, h2]
        rw [h.lookD, hf]
        by_cases hff : f = f'
        · subst hff
          rw [hb0] at hr
          have hb1 : ({ S with files := S.files.modify f fun x => { x with b := x.b.modify at_.toNat (· ^^^ b) } } : Dk).bytes f = all.modify at_.toNat (· ^^^ b) := by
            simp [Dk.bytes, h1, h2]
          refine ⟨all.modify at_.toNat (· ^^^ b), by simp only [hb1]; rfl, ?_⟩
          by_cases hb : b = 0
          · subst hb
            exact .inl (modify_zero _ _)
          · exact .inr ⟨hb, turned_modify (by omega) hb⟩
        · have hb1 : ({ S with files := S.files.modify f fun x => { x with b := x.b.modify at_.toNat (· ^^^ b) } } : Dk).bytes f' = all := by
            simp [Dk.bytes, h1, h2, hff]
          exact ⟨all, by simp only [hb1]; rfl, .inl rfl⟩
/-- What is opened then: the same groups, or nothing, if a byte was turned. -/
theorem look_turn {gs : List (List (List UInt8))} {tail : List UInt8} (h : On z S gs tail) (hz : isNm z = true) (hon : S.on = true) (hf : S.fails S.n = false) (at_ : Int) (b : UInt8) :
    (∃ x y, lookW (S.turn n at_ b).1 z = (0, some (gs, x, y))) ∨ (lookW (S.turn n at_ b).1 z = (52, none) ∧ b ≠ 0) := by
  obtain ⟨all', h1, h2⟩ := read_turn (n := n) h.2.2 hz hon hf at_ b
  unfold lookW
  rw [h1]
  dsimp only
  rw [if_neg (by decide)]
  rcases h2 with rfl | ⟨hb, ht⟩
  · rw [groups_on h.1 h.2.1]
    exact .inl ⟨_, _, rfl⟩
  · rcases groups_turned h.1 h.2.1 ht with e | e
    · rw [e]
      exact .inr ⟨rfl, hb⟩
    · rw [e]
      exact .inl ⟨_, _, rfl⟩
theorem map_modify_same {α β : Type} (h : α → β) (g : α → α) (hg : ∀ x, h (g x) = h x) : ∀ (l : List α) (i : Nat), (l.modify i g).map h = l.map h
  | [], i => by simp
  | x :: l, 0 => by simp [hg]
  | x :: l, i + 1 => by simp [map_modify_same h g hg l i]
theorem turn_bulk (S : Dk) (n : Nm) (at_ : Int) (b : UInt8) : (S.turn n at_ b).1.bulk = S.bulk := by
  unfold Dk.turn
  cases look S.dir n with
  | none => rfl
  | some f =>
    dsimp only
    split
    · rfl
    · unfold Dk.bulk
      dsimp only
      rw [map_modify_same (fun f : Fl => f.b.length) _ (fun x => by simp), List.length_modify]
theorem turn_same (S : Dk) (n : Nm) (at_ : Int) (b : UInt8) : (S.turn n at_ b).1.on = S.on ∧ (S.turn n at_ b).1.sure = S.sure ∧ (S.turn n at_ b).1.acts = S.acts := by
  unfold Dk.turn
  cases look S.dir n with
  | none => exact ⟨rfl, rfl, rfl⟩
  | some f =>
    dsimp only
    split <;> exact ⟨rfl, rfl, rfl⟩
/-- A byte that is there is turned. -/
theorem turn_zero {S : Dk} {n : Nm} {f : Nat} {at_ : Int} (b : UInt8) (hl : look S.dir n = some f) (h0 : 0 ≤ at_) (h1 : at_ < (S.bytes f).length) : (S.turn n at_ b).2 = 0 := by
  unfold Dk.turn
  rw [hl]
  dsimp only
  rw [if_neg (by omega)]
theorem size_look {S : Dk} {n : Nm} {f : Nat} (hl : look S.dir n = some f) : S.size n = ((S.bytes f).length : Int) := by
  unfold Dk.size
  rw [hl]
theorem names_look {S : Dk} (_h : Ok S) {k : Nat} (hk : k < S.dir.length) : ∃ f, look S.dir (S.dir[k]).1 = some f := by
  have hm : S.dir[k] ∈ S.dir := List.getElem_mem hk
  cases hl : look S.dir (S.dir[k]).1 with
  | some f => exact ⟨f, rfl⟩
  | none => exact absurd rfl (look_none hl _ hm)
end Go.Proofs.YthjcimgollfmgaaGreatDoor
