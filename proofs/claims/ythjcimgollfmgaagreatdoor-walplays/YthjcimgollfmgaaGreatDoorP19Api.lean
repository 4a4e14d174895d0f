/-
  Texts joined: Api, OnPure, HasPure, CalmPure, BulkPure.
-/
import Derived.Test.YthjcimgollfmgaaGreatDoorP18Put
import Derived.Test.YthjcimgollfmgaaGreatDoorP17Firm
import Derived.Test.YthjcimgollfmgaaGreatDoorP9ODisk
/-
  What Append, Reset and Open do. Conditions: the disk stands, within bounds; the log and the texts lie beside it; the table holds its numbers.
-/
namespace Go.Proofs.YthjcimgollfmgaaGreatDoor
open Go.RowKit
variable {B : Nat} {w w' : World} {F : Nat → Prop} {d l : Nat} {S : Dk} {L : Lw}

/-- These texts lie beside disk and log. -/
def TxB (w : World) (F : Nat → Prop) (l : Nat) (v : Value) (rs : List (List UInt8)) : Prop := Tx w v rs ∧ ∀ g, v.ownBlock = some g → ¬ F g ∧ g ≠ l ∧ g < w.heap.size
theorem Tx.chg {X : Nat → Prop} {v : Value} {xs : List (List UInt8)} (h : Tx w v xs) (hc : Chg X w w') (hX : ∀ g, v.ownBlock = some g → ¬ X g) : Tx w' v xs := by
  obtain ⟨ao, cap, hv, h1, h2, h4⟩ := h
  refine ⟨ao, cap, hv, h1, h2, fun hl => ?_⟩
  obtain ⟨b, off, ha, hlt, hcell⟩ := h4 hl
  subst hv ha
  exact ⟨b, off, rfl, Nat.lt_of_lt_of_le hlt hc.size, fun j hj => (World.cell?_of_block (w := w) (hc.block b hlt (hX b rfl))).trans (hcell j hj)⟩
theorem TxB.keep {v : Value} {rs : List (List UInt8)} {F' : Nat → Prop} (h : TxB w F l v rs) (hf : ∀ k, F' k → F k ∨ w.heap.size ≤ k) (hc : Chg (fun k => F k ∨ k = l) w w') : TxB w' F' l v rs := by
  refine ⟨h.1.chg hc fun g hg e => ?_, fun g hg => ⟨fun e => ?_, (h.2 g hg).2.1, Nat.lt_of_lt_of_le (h.2 g hg).2.2 hc.size⟩⟩
  · rcases e with e | e
    · exact (h.2 g hg).1 e
    · exact (h.2 g hg).2.1 e
  · have h3 := h.2 g hg
    rcases hf g e with e | e
    · exact h3.1 e
    · omega
theorem Tx.form {v : Value} {xs : List (List UInt8)} (h : Tx w v xs) : ∃ ao cap, v = .slice ao xs.length cap := by
  obtain ⟨ao, cap, hv, -⟩ := h
  exact ⟨ao, cap, hv⟩
/-- A row made since stands beside. -/
theorem beside_new {v : Value} {b : List UInt8} (h : Lg B w F d l S L) (ho : w'.ownsRow w.heap.size 5 1 v b.length (bc b)) : Beside w' F l v b := by
  have hl := h.lt
  refine ⟨sl_of_own ho, fun g hg => ?_⟩
  have := ho.lt g hg
  refine ⟨fun hf => ?_, fun e => by omega, this.2⟩
  have := (h.1.2.1 g hf).2
  omega
theorem chg_new (hb : Below w.heap.size w w') : Chg (fun _ => False) w w' := (Chg.of_below hb).mono fun k h1 h2 => by omega
theorem Lg.keepB (h : Lg B w F d l S L) (hb : Below w.heap.size w w') : Lg B w' F d l S L := h.keep (chg_new hb) (fun _ _ h => h) (fun h => h)
theorem Lg.thenB (h : Lg B w F d l S L) (hb : Below w.heap.size w w') : Then B w F d l S L w' := ⟨F, h.keepB hb, fun _ h => .inl h, (chg_new hb).mono fun _ _ h => h.elim⟩

theorem Then.grow {w1 : World} (h : Then B w1 F d l S L w') (hc : Chg (fun _ => False) w w1) : Then B w F d l S L w' := h.next (hc.mono fun _ _ h => h.elim) (fun _ h => .inl h)
theorem Then.has {w3 w4 : World} {F3 : Nat → Prop} (hg4 : Lg B w4 F3 d l S L) (hf3 : ∀ k, F3 k → F k ∨ w.heap.size ≤ k) (hc3 : Chg (fun k => F k ∨ k = l) w w3) (hc4 : Chg (fun k => k = l) w3 w4) : Then B w F d l S L w4 := ⟨F3, hg4, hf3, hc3.trans hc4 fun _ _ h => .inr h⟩
theorem grp_small {rs : List (List UInt8)} (h : right rs = true) : (grp sum4 rs).length ≤ 2130000 := by
  have h1 := right_body h
  have h2 := grp_length sum4_length rs
  omega
theorem groupsW_le (cs : List UInt8 → List UInt8) (b : List UInt8) : ∀ (f a : Nat) (gs : List (List (List UInt8))) (n : Nat), a ≤ b.length → groupsW cs f b a = some (gs, n) → n ≤ b.length
  | 0, a, gs, n, ha, h => by
    unfold groupsW at h
    injection h with h
    injection h with _ h
    omega
  | f + 1, a, gs, n, ha, h => by
    by_cases hlt : a < b.length
    · rw [groupsW_in _ _ _ _ hlt] at h
      unfold stepG at h
      have hle := groupW_le cs (b.drop a)
      rw [List.length_drop] at hle
      split at h
      · cases h
      · split at h
        · injection h with h
          injection h with _ h
          omega
        · cases hk : groupsW cs f b (a + (groupW cs (b.drop a)).2.1) with
          | none => rw [hk] at h; cases h
          | some x =>
            rw [hk] at h
            simp only [Option.map_some] at h
            injection h with h
            injection h with _ h
            have := groupsW_le cs b f _ x.1 x.2 (by omega) hk
            omega
    · rw [groupsW_end _ _ _ _ hlt] at h
      injection h with h
      injection h with _ h
      omega
theorem lookW_le {S : Dk} {n : Nm} {e : Int} {y : List (List (List UInt8)) × Nat × Nat} (h : lookW S n = (e, some y)) : y.2.1 ≤ y.2.2 ∧ y.2.2 ≤ S.bulk ∧ e = 0 := by
  have hr := readW_le S n
  unfold lookW at h
  split at h
  · injection h with _ h
    cases h
  · cases hg : groupsW sum4 ((readW S n).1.length + 1) (readW S n).1 0 with
    | none =>
      rw [hg] at h
      injection h with _ h
      cases h
    | some x =>
      rw [hg] at h
      have h5 := groupsW_le sum4 _ _ 0 x.1 x.2 (Nat.zero_le _) hg
      unfold lookG at h
      injection h with h1 h2
      injection h2 with h2
      subst h2
      exact ⟨h5, hr, h1.symm⟩
theorem lookW_bad {S : Dk} {n : Nm} {e : Int} (h : lookW S n = (e, none)) : e ≠ 0 := by
  unfold lookW at h
  split at h
  · next hh =>
    injection h with h _
    rw [← h]
    exact hh
  · cases hg : groupsW sum4 ((readW S n).1.length + 1) (readW S n).1 0 with
    | none =>
      rw [hg] at h
      injection h with h _
      rw [← h]
      decide
    | some x =>
      rw [hg] at h
      injection h with _ h
      cases h
/-- What Append and Reset do once a group is laid. -/
def noted (p : Dk × Bool × Int) (L : Lw) (wh k : Int) : Dk × Lw × Int := if p.2.2 = 0 then (p.1, ⟨L.n, p.2.1, wh + k, wh + k⟩, 0) else (p.1, { L with sure := p.2.1 }, p.2.2)
def resetW (S : Dk) (L : Lw) (rs : List (List UInt8)) : Dk × Lw × Int :=
  if right rs = false then (S, L, 50) else noted (replaceW S L.n L.sure (grp sum4 rs)) L 0 (grp sum4 rs).length
def appendP (S : Dk) (L : Lw) (rs : List (List UInt8)) : Dk × Lw × Int := noted (putW S L (grp sum4 rs)) L L.wh (grp sum4 rs).length
def appendL (S : Dk) (L : Lw) (rs : List (List UInt8)) (x : Int × Option (List (List (List UInt8)) × Nat × Nat)) : Dk × Lw × Int :=
  match x.2 with
  | none => (S, L, x.1)
  | some y => appendP S { L with wh := (y.2.1 : Int), sz := (y.2.2 : Int) } rs
def appendW (S : Dk) (L : Lw) (rs : List (List UInt8)) : Dk × Lw × Int :=
  if right rs = false then (S, L, 50) else if max (S.size L.n) 0 = L.sz then appendP S L rs else appendL S.begun L rs (lookW S L.n)

set_option maxRecDepth 20000 in
set_option maxHeartbeats 1600000 in
theorem reset_lg (h : Lg B w F d l S L) {v : Value} {rs : List (List UInt8)} (hv : TxB w F l v rs) (_hB0 : 0 < B) (hT : TabW w) (hea : ∀ r ∈ rs, r.length ≤ 140737488355328) (hb : 2 * S.bulk < 1000000000) :
    Calls Tryz.prog 26 #[.pointer (some ⟨l, 0, none⟩), v] w fun e w' => e = .returned (.int .i64 (resetW S L rs).2.2) ∧ Then B w F d l (resetW S L rs).1 (resetW S L rs).2.1 w' := by
  have hir := isRight_any w v rs hv.1 hea
  obtain ⟨ao, cap, rfl⟩ := hv.1.form
  have H := hide h
  have HV := hide hv
  have HT := hide hT
  clear h hv hT hea
  obtain ⟨n, s, wh, sz⟩ := L
  unfold resetW
  by_cases hr : right rs = false
  · rw [if_pos hr]
    rw [hr] at hir
    go_enter Tryz.func26, Tryz.ntmps26
    go_wp2_with fail
    refine hir.mono ?_
    rintro e w1 ⟨rfl, rfl⟩
    go_wp2
    go_ret
    exact ⟨rfl, H.out.refl⟩
  rw [if_neg hr]
  have hr : right rs = true := by simpa using hr
  have hgl := grp_small hr
  have hpg := putGroup_any w _ rs HV.out.1 hr HT.out
  rw [hr] at hir
  clear hr
  generalize grp sum4 rs = G at *
  dsimp only
  unfold noted
  generalize hR : replaceW S n s G = R at *
  obtain ⟨S3, s3, e3⟩ := R
  have HR := hide hR
  clear hR
  dsimp only
  by_cases he : e3 = 0
  · rw [if_pos he]
    have heb : (e3 == 0) = true := by simp [he]
    clear he
    go_enter Tryz.func26, Tryz.ntmps26
    go_wp2_with fail
    refine hir.mono ?_
    rintro e w1 ⟨rfl, rfl⟩
    go_wp2_with fail
    refine hpg.mono ?_
    rintro e w2 ⟨v2, rfl, ho2, hb2⟩
    have hrp := replace_lg (H.out.keepB hb2) (beside_new H.out ho2) (by omega)
    dsimp only at hrp
    rw [HR.out] at hrp
    have hc2 := chg_new hb2
    obtain ⟨a2, c2, rfl, -⟩ := own_form ho2
    clear ho2
    go_wp2_with fail
    refine hrp.mono ?_
    rintro e w3 ⟨rfl, ha⟩
    obtain ⟨F3, hg3, hf3, hc3⟩ := ha.grow hc2
    have hha := has_lg hg3 (G.length : Int)
    go_wp2_with fail
    refine hha.mono ?_
    rintro e w4 ⟨rfl, hg4, hc4⟩
    go_wp2
    go_ret
    have he : e3 = 0 := by simpa using heb
    subst he
    rw [Int.zero_add]
    exact ⟨rfl, Then.has hg4 hf3 hc3 hc4⟩
  · rw [if_neg he]
    have heb : (e3 == 0) = false := by simp [he]
    clear he
    go_enter Tryz.func26, Tryz.ntmps26
    go_wp2_with fail
    refine hir.mono ?_
    rintro e w1 ⟨rfl, rfl⟩
    go_wp2_with fail
    refine hpg.mono ?_
    rintro e w2 ⟨v2, rfl, ho2, hb2⟩
    have hrp := replace_lg (H.out.keepB hb2) (beside_new H.out ho2) (by omega)
    dsimp only at hrp
    rw [HR.out] at hrp
    have hc2 := chg_new hb2
    obtain ⟨a2, c2, rfl, -⟩ := own_form ho2
    clear ho2
    go_wp2_with fail
    refine hrp.mono ?_
    rintro e w3 ⟨rfl, ha⟩
    go_wp2
    go_ret
    exact ⟨rfl, ha.grow hc2⟩

set_option maxRecDepth 20000 in
set_option maxHeartbeats 3200000 in
theorem append_lg (h : Lg B w F d l S L) {v : Value} {rs : List (List UInt8)} (hv : TxB w F l v rs) (hB0 : 0 < B) (hT : TabW w) (hea : ∀ r ∈ rs, r.length ≤ 140737488355328) (hb : 2 * S.bulk < 999999990) (hwh : 0 ≤ L.wh ∧ L.wh ≤ 1099511627776) :
    Calls Tryz.prog 23 #[.pointer (some ⟨l, 0, none⟩), v] w fun e w' => e = .returned (.int .i64 (appendW S L rs).2.2) ∧ Then B w F d l (appendW S L rs).1 (appendW S L rs).2.1 w' := by
  have hir := isRight_any w v rs hv.1 hea
  have hle := length_lg h.drew
  have hlk := look_lg h.drew.drew hB0 hT (by omega)
  have hbb := bulk_begun' S
  have x4 := cell_of h.2.1 4
  obtain ⟨ao, cap, rfl⟩ := hv.1.form
  have H := hide h
  have HV := hide hv
  have HT := hide hT
  clear h hv hT hea
  unfold appendW appendL
  by_cases hr : right rs = false
  · rw [if_pos hr]
    rw [hr] at hir
    go_enter Tryz.func23, Tryz.ntmps23
    go_wp2_with fail
    refine hir.mono ?_
    rintro e w1 ⟨rfl, rfl⟩
    go_wp2
    go_ret
    exact ⟨rfl, H.out.refl⟩
  rw [if_neg hr]
  have hr : right rs = true := by simpa using hr
  have hgl := grp_small hr
  rw [hr] at hir
  have HRI := hide hr
  clear hr
  unfold appendP
  generalize hGG : grp sum4 rs = G at *
  have HGG := hide hGG
  clear hGG
  generalize max (S.size L.n) 0 = z at *
  by_cases hz : z = L.sz
  · rw [if_pos hz]
    have hzb : (z == L.sz) = true := by simp [hz]
    clear hz hlk
    unfold noted
    generalize hP : putW S L G = P
    obtain ⟨S5, s5, e5⟩ := P
    have HP := hide hP
    clear hP
    dsimp only
    by_cases he : e5 = 0
    · rw [if_pos he]
      have heb : (e5 == 0) = true := by simp [he]
      clear he
      go_enter Tryz.func23, Tryz.ntmps23
      go_wp2_with fail
      refine hir.mono ?_
      rintro e w ⟨rfl, rfl⟩
      go_wp2
      refine wp_region_held_drew (S := fun W => W.cell? ⟨l, 4, none⟩ = some (.int .i64 L.sz)) (by kernel_rfl) (x4) (fun hHeld => ?_)
      refine takeH (i := 0) (v := ?_) rfl (by kernel_rfl) (by kernel_rfl) (by kernel_rfl) (fun _ _ _ h => h) rfl ?_ hHeld ?_
      rotate_left
      · intro w hS; (try dsimp only at hS); obtain hS0 := hS; go_simp; first | done | (with_reducible rfl)
      try simp only [Act.put, ly1, ly2, ly3]
      refine takeH (i := 1) (v := ?_) rfl (by kernel_rfl) (by kernel_rfl) (by kernel_rfl) (fun _ _ _ h => h) rfl ?_ hHeld ?_
      rotate_left
      · intro w hS; (try dsimp only at hS); obtain hS0 := hS; go_simp; first | done | (with_reducible rfl)
      try simp only [Act.put, ly1, ly2, ly3]
      refine takeH (i := 2) (v := ?_) rfl (by kernel_rfl) (by kernel_rfl) (by kernel_rfl) (fun _ _ _ h => h) rfl ?_ hHeld ?_
      rotate_left
      · intro w hS; (try dsimp only at hS); obtain hS0 := hS; go_simp; first | done | (with_reducible rfl)
      try simp only [Act.put, ly1, ly2, ly3]
      refine takeH (i := 4) (v := ?_) rfl (by kernel_rfl) (by kernel_rfl) (by kernel_rfl) (fun _ _ _ h => h) rfl ?_ hHeld ?_
      rotate_left
      · intro w hS; (try dsimp only at hS); obtain hS0 := hS; go_simp; first | done | (with_reducible rfl)
      try simp only [Act.put, ly1, ly2, ly3]
      refine takeH (i := 5) (v := ?_) rfl (by kernel_rfl) (by kernel_rfl) (by kernel_rfl) (fun _ _ _ h => h) rfl ?_ hHeld ?_
      rotate_left
      · intro w hS; (try dsimp only at hS); obtain hS0 := hS; go_simp; first | done | (with_reducible rfl)
      try simp only [Act.put, ly1, ly2, ly3]
      refine takeH (i := 6) (v := ?_) rfl (by kernel_rfl) (by kernel_rfl) (by kernel_rfl) (fun _ _ _ h => h) rfl ?_ hHeld ?_
      rotate_left
      · intro w hS; (try dsimp only at hS); obtain hS0 := hS; go_simp; first | done | (with_reducible rfl)
      try simp only [Act.put, ly1, ly2, ly3]
      refine takeH (i := 7) (v := ?_) rfl (by kernel_rfl) (by kernel_rfl) (by kernel_rfl) (fun _ _ _ h => h) rfl ?_ hHeld ?_
      rotate_left
      · intro w hS; (try dsimp only at hS); obtain hS0 := hS; go_simp; first | done | (with_reducible rfl)
      try simp only [Act.put, ly1, ly2, ly3]
      refine onlyH (i := 3) rfl (by kernel_rfl) rfl (fun K hK => ?_)
      go_simp
      refine hle.mono ?_
      rintro e w2 ⟨rfl, h2⟩
      rw [h2]
      clear h2
      refine hK.out _ _ (x4) (fun hHeld => ?_)
      clear hK K
      try simp only [Act.put, ly1, ly2, ly3]
      refine takeH (i := 8) (v := ?_) rfl (by kernel_rfl) (by kernel_rfl) (by kernel_rfl) (fun _ _ _ h => h) rfl ?_ hHeld ?_
      rotate_left
      · intro w hS; (try dsimp only at hS); obtain hS0 := hS; go_simp; first | done | (with_reducible rfl)
      try simp only [Act.put, ly1, ly2, ly3]
      refine wpAnyH_done (by kernel_rfl) ?_ _
      clear hHeld
      have hgx := H.out.drew.drew
      have hfx : ∀ k, F k → F k ∨ w.heap.size ≤ k := fun _ h => .inl h
      have hcx : Chg (fun k => F k ∨ k = l) w w.drew.drew := ((Chg.refl _ w).drew).drew
      have hpg := putGroup_any _ _ rs (HV.out.keep hfx hcx).1 HRI.out (HT.out.low (hcx.below (fun k hk => hk.elim (fun hk => (H.out.1.2.1 k hk).1) (fun e => e ▸ H.out.2.2.2.1)) H.out.size) hB0)
      rw [HGG.out] at hpg
      go_wp2_with fail
      refine hpg.mono ?_
      rintro e wg ⟨vg, rfl, hog, hbg⟩
      have hpu := put_lg (hgx.keepB hbg) (beside_new hgx hog) (by omega) (by omega)
      rw [HP.out] at hpu
      dsimp only at hpu
      have hcg := chg_new hbg
      obtain ⟨ag, cg, rfl, -⟩ := own_form hog
      clear hog hpg
      go_wp2_with fail
      refine hpu.mono ?_
      rintro e wp ⟨rfl, ha⟩
      obtain ⟨Fp, hgp, hfp, hcp⟩ := (ha.grow hcg).next hcx hfx
      have y3 := cell_of hgp.2.1 3
      have hha := has_lg hgp (L.wh + (G.length : Int))
      dsimp only at hha
      go_wp2_with fail
      refine hha.mono ?_
      rintro e w9 ⟨rfl, hg9, hc9⟩
      go_wp2
      go_ret
      have he : e5 = 0 := by simpa using heb
      subst he
      exact ⟨rfl, Then.has hg9 hfp hcp hc9⟩
    · rw [if_neg he]
      have heb : (e5 == 0) = false := by simp [he]
      clear he
      go_enter Tryz.func23, Tryz.ntmps23
      go_wp2_with fail
      refine hir.mono ?_
      rintro e w ⟨rfl, rfl⟩
      go_wp2
      refine wp_region_held_drew (S := fun W => W.cell? ⟨l, 4, none⟩ = some (.int .i64 L.sz)) (by kernel_rfl) (x4) (fun hHeld => ?_)
      refine takeH (i := 0) (v := ?_) rfl (by kernel_rfl) (by kernel_rfl) (by kernel_rfl) (fun _ _ _ h => h) rfl ?_ hHeld ?_
      rotate_left
      · intro w hS; (try dsimp only at hS); obtain hS0 := hS; go_simp; first | done | (with_reducible rfl)
      try simp only [Act.put, ly1, ly2, ly3]
      refine takeH (i := 1) (v := ?_) rfl (by kernel_rfl) (by kernel_rfl) (by kernel_rfl) (fun _ _ _ h => h) rfl ?_ hHeld ?_
      rotate_left
      · intro w hS; (try dsimp only at hS); obtain hS0 := hS; go_simp; first | done | (with_reducible rfl)
      try simp only [Act.put, ly1, ly2, ly3]
      refine takeH (i := 2) (v := ?_) rfl (by kernel_rfl) (by kernel_rfl) (by kernel_rfl) (fun _ _ _ h => h) rfl ?_ hHeld ?_
      rotate_left
      · intro w hS; (try dsimp only at hS); obtain hS0 := hS; go_simp; first | done | (with_reducible rfl)
      try simp only [Act.put, ly1, ly2, ly3]
      refine takeH (i := 4) (v := ?_) rfl (by kernel_rfl) (by kernel_rfl) (by kernel_rfl) (fun _ _ _ h => h) rfl ?_ hHeld ?_
      rotate_left
      · intro w hS; (try dsimp only at hS); obtain hS0 := hS; go_simp; first | done | (with_reducible rfl)
      try simp only [Act.put, ly1, ly2, ly3]
      refine takeH (i := 5) (v := ?_) rfl (by kernel_rfl) (by kernel_rfl) (by kernel_rfl) (fun _ _ _ h => h) rfl ?_ hHeld ?_
      rotate_left
      · intro w hS; (try dsimp only at hS); obtain hS0 := hS; go_simp; first | done | (with_reducible rfl)
      try simp only [Act.put, ly1, ly2, ly3]
      refine takeH (i := 6) (v := ?_) rfl (by kernel_rfl) (by kernel_rfl) (by kernel_rfl) (fun _ _ _ h => h) rfl ?_ hHeld ?_
      rotate_left
      · intro w hS; (try dsimp only at hS); obtain hS0 := hS; go_simp; first | done | (with_reducible rfl)
      try simp only [Act.put, ly1, ly2, ly3]
      refine takeH (i := 7) (v := ?_) rfl (by kernel_rfl) (by kernel_rfl) (by kernel_rfl) (fun _ _ _ h => h) rfl ?_ hHeld ?_
      rotate_left
      · intro w hS; (try dsimp only at hS); obtain hS0 := hS; go_simp; first | done | (with_reducible rfl)
      try simp only [Act.put, ly1, ly2, ly3]
      refine onlyH (i := 3) rfl (by kernel_rfl) rfl (fun K hK => ?_)
      go_simp
      refine hle.mono ?_
      rintro e w2 ⟨rfl, h2⟩
      rw [h2]
      clear h2
      refine hK.out _ _ (x4) (fun hHeld => ?_)
      clear hK K
      try simp only [Act.put, ly1, ly2, ly3]
      refine takeH (i := 8) (v := ?_) rfl (by kernel_rfl) (by kernel_rfl) (by kernel_rfl) (fun _ _ _ h => h) rfl ?_ hHeld ?_
      rotate_left
      · intro w hS; (try dsimp only at hS); obtain hS0 := hS; go_simp; first | done | (with_reducible rfl)
      try simp only [Act.put, ly1, ly2, ly3]
      refine wpAnyH_done (by kernel_rfl) ?_ _
      clear hHeld
      have hgx := H.out.drew.drew
      have hfx : ∀ k, F k → F k ∨ w.heap.size ≤ k := fun _ h => .inl h
      have hcx : Chg (fun k => F k ∨ k = l) w w.drew.drew := ((Chg.refl _ w).drew).drew
      have hpg := putGroup_any _ _ rs (HV.out.keep hfx hcx).1 HRI.out (HT.out.low (hcx.below (fun k hk => hk.elim (fun hk => (H.out.1.2.1 k hk).1) (fun e => e ▸ H.out.2.2.2.1)) H.out.size) hB0)
      rw [HGG.out] at hpg
      go_wp2_with fail
      refine hpg.mono ?_
      rintro e wg ⟨vg, rfl, hog, hbg⟩
      have hpu := put_lg (hgx.keepB hbg) (beside_new hgx hog) (by omega) (by omega)
      rw [HP.out] at hpu
      dsimp only at hpu
      have hcg := chg_new hbg
      obtain ⟨ag, cg, rfl, -⟩ := own_form hog
      clear hog hpg
      go_wp2_with fail
      refine hpu.mono ?_
      rintro e wp ⟨rfl, ha⟩
      go_wp2
      go_ret
      exact ⟨rfl, (ha.grow hcg).next hcx hfx⟩
  · rw [if_neg hz]
    have hzb : (z == L.sz) = false := by simp [hz]
    clear hz
    generalize hK : lookW S L.n = K at *
    obtain ⟨e1, o1⟩ := K
    dsimp only at hlk ⊢
    cases o1 with
    | none =>
      have hek : (e1 == 0) = false := by
        have := lookW_bad hK
        simp [this]
      clear hK
      dsimp only
      go_enter Tryz.func23, Tryz.ntmps23
      go_wp2_with fail
      refine hir.mono ?_
      rintro e w ⟨rfl, rfl⟩
      go_wp2
      refine wp_region_held_drew (S := fun W => W.cell? ⟨l, 4, none⟩ = some (.int .i64 L.sz)) (by kernel_rfl) (x4) (fun hHeld => ?_)
      refine takeH (i := 0) (v := ?_) rfl (by kernel_rfl) (by kernel_rfl) (by kernel_rfl) (fun _ _ _ h => h) rfl ?_ hHeld ?_
      rotate_left
      · intro w hS; (try dsimp only at hS); obtain hS0 := hS; go_simp; first | done | (with_reducible rfl)
      try simp only [Act.put, ly1, ly2, ly3]
      refine takeH (i := 1) (v := ?_) rfl (by kernel_rfl) (by kernel_rfl) (by kernel_rfl) (fun _ _ _ h => h) rfl ?_ hHeld ?_
      rotate_left
      · intro w hS; (try dsimp only at hS); obtain hS0 := hS; go_simp; first | done | (with_reducible rfl)
      try simp only [Act.put, ly1, ly2, ly3]
      refine takeH (i := 2) (v := ?_) rfl (by kernel_rfl) (by kernel_rfl) (by kernel_rfl) (fun _ _ _ h => h) rfl ?_ hHeld ?_
      rotate_left
      · intro w hS; (try dsimp only at hS); obtain hS0 := hS; go_simp; first | done | (with_reducible rfl)
      try simp only [Act.put, ly1, ly2, ly3]
      refine takeH (i := 4) (v := ?_) rfl (by kernel_rfl) (by kernel_rfl) (by kernel_rfl) (fun _ _ _ h => h) rfl ?_ hHeld ?_
      rotate_left
      · intro w hS; (try dsimp only at hS); obtain hS0 := hS; go_simp; first | done | (with_reducible rfl)
      try simp only [Act.put, ly1, ly2, ly3]
      refine takeH (i := 5) (v := ?_) rfl (by kernel_rfl) (by kernel_rfl) (by kernel_rfl) (fun _ _ _ h => h) rfl ?_ hHeld ?_
      rotate_left
      · intro w hS; (try dsimp only at hS); obtain hS0 := hS; go_simp; first | done | (with_reducible rfl)
      try simp only [Act.put, ly1, ly2, ly3]
      refine takeH (i := 6) (v := ?_) rfl (by kernel_rfl) (by kernel_rfl) (by kernel_rfl) (fun _ _ _ h => h) rfl ?_ hHeld ?_
      rotate_left
      · intro w hS; (try dsimp only at hS); obtain hS0 := hS; go_simp; first | done | (with_reducible rfl)
      try simp only [Act.put, ly1, ly2, ly3]
      refine takeH (i := 7) (v := ?_) rfl (by kernel_rfl) (by kernel_rfl) (by kernel_rfl) (fun _ _ _ h => h) rfl ?_ hHeld ?_
      rotate_left
      · intro w hS; (try dsimp only at hS); obtain hS0 := hS; go_simp; first | done | (with_reducible rfl)
      try simp only [Act.put, ly1, ly2, ly3]
      refine onlyH (i := 3) rfl (by kernel_rfl) rfl (fun K hK => ?_)
      go_simp
      refine hle.mono ?_
      rintro e w2 ⟨rfl, h2⟩
      rw [h2]
      clear h2
      refine hK.out _ _ (x4) (fun hHeld => ?_)
      clear hK K
      try simp only [Act.put, ly1, ly2, ly3]
      refine takeH (i := 8) (v := ?_) rfl (by kernel_rfl) (by kernel_rfl) (by kernel_rfl) (fun _ _ _ h => h) rfl ?_ hHeld ?_
      rotate_left
      · intro w hS; (try dsimp only at hS); obtain hS0 := hS; go_simp; first | done | (with_reducible rfl)
      try simp only [Act.put, ly1, ly2, ly3]
      refine wpAnyH_done (by kernel_rfl) ?_ _
      clear hHeld
      go_wp2_with fail
      refine hlk.mono ?_
      rintro e w4 ⟨v4, rfl, rfl, ha⟩
      go_wp2
      go_ret
      exact ⟨rfl, ha.drewn.drewn⟩
    | some y =>
      obtain ⟨hy1, hy2, rfl⟩ := lookW_le hK
      clear hK
      obtain ⟨gs, k, zz⟩ := y
      dsimp only at hy1 hy2 ⊢
      unfold noted
      generalize hP : putW S.begun { L with wh := (k : Int), sz := (zz : Int) } G = P
      obtain ⟨S5, s5, e5⟩ := P
      have HP := hide hP
      clear hP
      dsimp only
      by_cases he : e5 = 0
      · rw [if_pos he]
        have heb : (e5 == 0) = true := by simp [he]
        clear he
        go_enter Tryz.func23, Tryz.ntmps23
        go_wp2_with fail
        refine hir.mono ?_
        rintro e w ⟨rfl, rfl⟩
        go_wp2
        refine wp_region_held_drew (S := fun W => W.cell? ⟨l, 4, none⟩ = some (.int .i64 L.sz)) (by kernel_rfl) (x4) (fun hHeld => ?_)
        refine takeH (i := 0) (v := ?_) rfl (by kernel_rfl) (by kernel_rfl) (by kernel_rfl) (fun _ _ _ h => h) rfl ?_ hHeld ?_
        rotate_left
        · intro w hS; (try dsimp only at hS); obtain hS0 := hS; go_simp; first | done | (with_reducible rfl)
        try simp only [Act.put, ly1, ly2, ly3]
        refine takeH (i := 1) (v := ?_) rfl (by kernel_rfl) (by kernel_rfl) (by kernel_rfl) (fun _ _ _ h => h) rfl ?_ hHeld ?_
        rotate_left
        · intro w hS; (try dsimp only at hS); obtain hS0 := hS; go_simp; first | done | (with_reducible rfl)
        try simp only [Act.put, ly1, ly2, ly3]
        refine takeH (i := 2) (v := ?_) rfl (by kernel_rfl) (by kernel_rfl) (by kernel_rfl) (fun _ _ _ h => h) rfl ?_ hHeld ?_
        rotate_left
        · intro w hS; (try dsimp only at hS); obtain hS0 := hS; go_simp; first | done | (with_reducible rfl)
        try simp only [Act.put, ly1, ly2, ly3]
        refine takeH (i := 4) (v := ?_) rfl (by kernel_rfl) (by kernel_rfl) (by kernel_rfl) (fun _ _ _ h => h) rfl ?_ hHeld ?_
        rotate_left
        · intro w hS; (try dsimp only at hS); obtain hS0 := hS; go_simp; first | done | (with_reducible rfl)
        try simp only [Act.put, ly1, ly2, ly3]
        refine takeH (i := 5) (v := ?_) rfl (by kernel_rfl) (by kernel_rfl) (by kernel_rfl) (fun _ _ _ h => h) rfl ?_ hHeld ?_
        rotate_left
        · intro w hS; (try dsimp only at hS); obtain hS0 := hS; go_simp; first | done | (with_reducible rfl)
        try simp only [Act.put, ly1, ly2, ly3]
        refine takeH (i := 6) (v := ?_) rfl (by kernel_rfl) (by kernel_rfl) (by kernel_rfl) (fun _ _ _ h => h) rfl ?_ hHeld ?_
        rotate_left
        · intro w hS; (try dsimp only at hS); obtain hS0 := hS; go_simp; first | done | (with_reducible rfl)
        try simp only [Act.put, ly1, ly2, ly3]
        refine takeH (i := 7) (v := ?_) rfl (by kernel_rfl) (by kernel_rfl) (by kernel_rfl) (fun _ _ _ h => h) rfl ?_ hHeld ?_
        rotate_left
        · intro w hS; (try dsimp only at hS); obtain hS0 := hS; go_simp; first | done | (with_reducible rfl)
        try simp only [Act.put, ly1, ly2, ly3]
        refine onlyH (i := 3) rfl (by kernel_rfl) rfl (fun K hK => ?_)
        go_simp
        refine hle.mono ?_
        rintro e w2 ⟨rfl, h2⟩
        rw [h2]
        clear h2
        refine hK.out _ _ (x4) (fun hHeld => ?_)
        clear hK K
        try simp only [Act.put, ly1, ly2, ly3]
        refine takeH (i := 8) (v := ?_) rfl (by kernel_rfl) (by kernel_rfl) (by kernel_rfl) (fun _ _ _ h => h) rfl ?_ hHeld ?_
        rotate_left
        · intro w hS; (try dsimp only at hS); obtain hS0 := hS; go_simp; first | done | (with_reducible rfl)
        try simp only [Act.put, ly1, ly2, ly3]
        refine wpAnyH_done (by kernel_rfl) ?_ _
        clear hHeld
        go_wp2_with fail
        refine hlk.mono ?_
        rintro e w4 ⟨v4, rfl, F4, b4, hgx, hf4, hc4, hgs4, -⟩
        have hfx : ∀ k, F4 k → F k ∨ w.heap.size ≤ k := hf4
        have hcx : Chg (fun k => F k ∨ k = l) w w4 := hc4.undrew.undrew
        clear hf4 hc4
        obtain ⟨a4, c4, rfl, -⟩ := hgs4.form
        clear hgs4
        have hpg := putGroup_any _ _ rs (HV.out.keep hfx hcx).1 HRI.out (HT.out.low (hcx.below (fun k hk => hk.elim (fun hk => (H.out.1.2.1 k hk).1) (fun e => e ▸ H.out.2.2.2.1)) H.out.size) hB0)
        rw [HGG.out] at hpg
        go_wp2_with fail
        refine hpg.mono ?_
        rintro e wg ⟨vg, rfl, hog, hbg⟩
        have hpu := put_lg (hgx.keepB hbg) (beside_new hgx hog) (by omega) (by dsimp only; omega)
        rw [HP.out] at hpu
        dsimp only at hpu
        have hcg := chg_new hbg
        obtain ⟨ag, cg, rfl, -⟩ := own_form hog
        clear hog hpg
        go_wp2_with fail
        refine hpu.mono ?_
        rintro e wp ⟨rfl, ha⟩
        obtain ⟨Fp, hgp, hfp, hcp⟩ := (ha.grow hcg).next hcx hfx
        have y3 := cell_of hgp.2.1 3
        have hha := has_lg hgp ((k : Int) + (G.length : Int))
        dsimp only at hha
        go_wp2_with fail
        refine hha.mono ?_
        rintro e w9 ⟨rfl, hg9, hc9⟩
        go_wp2
        go_ret
        have he : e5 = 0 := by simpa using heb
        subst he
        exact ⟨rfl, Then.has hg9 hfp hcp hc9⟩
      · rw [if_neg he]
        have heb : (e5 == 0) = false := by simp [he]
        clear he
        go_enter Tryz.func23, Tryz.ntmps23
        go_wp2_with fail
        refine hir.mono ?_
        rintro e w ⟨rfl, rfl⟩
        go_wp2
        refine wp_region_held_drew (S := fun W => W.cell? ⟨l, 4, none⟩ = some (.int .i64 L.sz)) (by kernel_rfl) (x4) (fun hHeld => ?_)
        refine takeH (i := 0) (v := ?_) rfl (by kernel_rfl) (by kernel_rfl) (by kernel_rfl) (fun _ _ _ h => h) rfl ?_ hHeld ?_
        rotate_left
        · intro w hS; (try dsimp only at hS); obtain hS0 := hS; go_simp; first | done | (with_reducible rfl)
        try simp only [Act.put, ly1, ly2, ly3]
        refine takeH (i := 1) (v := ?_) rfl (by kernel_rfl) (by kernel_rfl) (by kernel_rfl) (fun _ _ _ h => h) rfl ?_ hHeld ?_
        rotate_left
        · intro w hS; (try dsimp only at hS); obtain hS0 := hS; go_simp; first | done | (with_reducible rfl)
        try simp only [Act.put, ly1, ly2, ly3]
        refine takeH (i := 2) (v := ?_) rfl (by kernel_rfl) (by kernel_rfl) (by kernel_rfl) (fun _ _ _ h => h) rfl ?_ hHeld ?_
        rotate_left
        · intro w hS; (try dsimp only at hS); obtain hS0 := hS; go_simp; first | done | (with_reducible rfl)
        try simp only [Act.put, ly1, ly2, ly3]
        refine takeH (i := 4) (v := ?_) rfl (by kernel_rfl) (by kernel_rfl) (by kernel_rfl) (fun _ _ _ h => h) rfl ?_ hHeld ?_
        rotate_left
        · intro w hS; (try dsimp only at hS); obtain hS0 := hS; go_simp; first | done | (with_reducible rfl)
        try simp only [Act.put, ly1, ly2, ly3]
        refine takeH (i := 5) (v := ?_) rfl (by kernel_rfl) (by kernel_rfl) (by kernel_rfl) (fun _ _ _ h => h) rfl ?_ hHeld ?_
        rotate_left
        · intro w hS; (try dsimp only at hS); obtain hS0 := hS; go_simp; first | done | (with_reducible rfl)
        try simp only [Act.put, ly1, ly2, ly3]
        refine takeH (i := 6) (v := ?_) rfl (by kernel_rfl) (by kernel_rfl) (by kernel_rfl) (fun _ _ _ h => h) rfl ?_ hHeld ?_
        rotate_left
        · intro w hS; (try dsimp only at hS); obtain hS0 := hS; go_simp; first | done | (with_reducible rfl)
        try simp only [Act.put, ly1, ly2, ly3]
        refine takeH (i := 7) (v := ?_) rfl (by kernel_rfl) (by kernel_rfl) (by kernel_rfl) (fun _ _ _ h => h) rfl ?_ hHeld ?_
        rotate_left
        · intro w hS; (try dsimp only at hS); obtain hS0 := hS; go_simp; first | done | (with_reducible rfl)
        try simp only [Act.put, ly1, ly2, ly3]
        refine onlyH (i := 3) rfl (by kernel_rfl) rfl (fun K hK => ?_)
        go_simp
        refine hle.mono ?_
        rintro e w2 ⟨rfl, h2⟩
        rw [h2]
        clear h2
        refine hK.out _ _ (x4) (fun hHeld => ?_)
        clear hK K
        try simp only [Act.put, ly1, ly2, ly3]
        refine takeH (i := 8) (v := ?_) rfl (by kernel_rfl) (by kernel_rfl) (by kernel_rfl) (fun _ _ _ h => h) rfl ?_ hHeld ?_
        rotate_left
        · intro w hS; (try dsimp only at hS); obtain hS0 := hS; go_simp; first | done | (with_reducible rfl)
        try simp only [Act.put, ly1, ly2, ly3]
        refine wpAnyH_done (by kernel_rfl) ?_ _
        clear hHeld
        go_wp2_with fail
        refine hlk.mono ?_
        rintro e w4 ⟨v4, rfl, F4, b4, hgx, hf4, hc4, hgs4, -⟩
        have hfx : ∀ k, F4 k → F k ∨ w.heap.size ≤ k := hf4
        have hcx : Chg (fun k => F k ∨ k = l) w w4 := hc4.undrew.undrew
        clear hf4 hc4
        obtain ⟨a4, c4, rfl, -⟩ := hgs4.form
        clear hgs4
        have hpg := putGroup_any _ _ rs (HV.out.keep hfx hcx).1 HRI.out (HT.out.low (hcx.below (fun k hk => hk.elim (fun hk => (H.out.1.2.1 k hk).1) (fun e => e ▸ H.out.2.2.2.1)) H.out.size) hB0)
        rw [HGG.out] at hpg
        go_wp2_with fail
        refine hpg.mono ?_
        rintro e wg ⟨vg, rfl, hog, hbg⟩
        have hpu := put_lg (hgx.keepB hbg) (beside_new hgx hog) (by omega) (by dsimp only; omega)
        rw [HP.out] at hpu
        dsimp only at hpu
        have hcg := chg_new hbg
        obtain ⟨ag, cg, rfl, -⟩ := own_form hog
        clear hog hpg
        go_wp2_with fail
        refine hpu.mono ?_
        rintro e wp ⟨rfl, ha⟩
        go_wp2
        go_ret
        exact ⟨rfl, (ha.grow hcg).next hcx hfx⟩
end Go.Proofs.YthjcimgollfmgaaGreatDoor

/-
  Which groups a log's file holds for good, plainly; what look finds there. No program here. Conditions: none.
-/
namespace Go.Proofs.YthjcimgollfmgaaGreatDoor
variable {z : Nm} {S : Dk} {gs : List (List (List UInt8))} {tail : List UInt8}

/-- What may lie behind whole groups: nothing, or the beginning of one, where there are others ahead of it. -/
def TornTail (gs : List (List (List UInt8))) (tail : List UInt8) : Prop := tail = [] ∨ laid sum4 gs ≠ [] ∧ ∃ g j, right g = true ∧ j < (grp sum4 g).length ∧ tail = (grp sum4 g).take j
/-- The name z has these groups, for good. -/
def On (z : Nm) (S : Dk) (gs : List (List (List UInt8))) (tail : List UInt8) : Prop := (∀ g ∈ gs, right g = true) ∧ TornTail gs tail ∧ Firm z S (laid sum4 gs ++ tail)
theorem grp_pos (g : List (List UInt8)) : 16 ≤ (grp sum4 g).length := by
  have := grp_length sum4_length g
  omega
theorem grp_ne (g : List (List UInt8)) : grp sum4 g ≠ [] := fun e => by
  have := grp_pos g
  rw [e] at this
  simp at this
theorem laid_many (gs : List (List (List UInt8))) : gs.length ≤ (laid sum4 gs).length := by
  induction gs with
  | nil => simp
  | cons g r ih =>
    have := grp_pos g
    rw [laid_cons, List.length_append, List.length_cons]
    omega
theorem laid_nil (h : laid sum4 gs = []) : gs = [] := by
  have := laid_many gs
  rw [h] at this
  exact List.eq_nil_of_length_eq_zero (by simpa using this)
theorem groups_on (hr : ∀ g ∈ gs, right g = true) (ht : TornTail gs tail) : groupsW sum4 ((laid sum4 gs ++ tail).length + 1) (laid sum4 gs ++ tail) 0 = some (gs, (laid sum4 gs).length) := by
  have hm := laid_many gs
  rcases ht with rfl | ⟨hne, g, j, hg, hj, rfl⟩
  · have := groupsW_put sum4_length gs [] ((laid sum4 gs ++ []).length + 1) hr (by rw [List.append_nil]; omega)
    rw [List.nil_append, List.length_nil] at this
    rw [List.append_nil] at this ⊢
    exact this
  · by_cases hj0 : j = 0
    · subst hj0
      have := groupsW_put sum4_length gs [] ((laid sum4 gs ++ []).length + 1) hr (by rw [List.append_nil]; omega)
      rw [List.nil_append, List.length_nil] at this
      rw [List.take_zero]
      rw [List.append_nil] at this ⊢
      exact this
    · have := groupsW_cut sum4_length g j hg hj gs [] ((laid sum4 gs ++ (grp sum4 g).take j).length + 1) hr (by rw [List.length_append, List.length_take]; omega) (by rw [List.nil_append]; exact hne)
      rw [List.nil_append, List.length_nil] at this
      exact this
theorem On.look (h : On z S gs tail) (hz : isNm z = true) (hon : S.on = true) (hf : S.fails S.n = false) : lookW S z = (0, some (gs, (laid sum4 gs).length, (laid sum4 gs ++ tail).length)) := by
  unfold lookW
  rw [h.2.2.read hz hon hf]
  dsimp only
  rw [if_neg (by decide), groups_on h.1 h.2.1]
  rfl
theorem On.begun (h : On z S gs tail) : On z S.begun gs tail := ⟨h.1, h.2.1, h.2.2.begun⟩
theorem On.crash (h : On z S gs tail) (hk : Ok S) (keep t : Int) : On z (S.crash keep t) gs tail := ⟨h.1, h.2.1, h.2.2.crash hk keep t⟩
/-- A log that knows what its file holds. -/
def Has (z : Nm) (S : Dk) (L : Lw) (gs : List (List (List UInt8))) : Prop := L.n = z ∧ ∃ tail, On z S gs tail ∧ L.wh = ((laid sum4 gs).length : Int) ∧ L.sz = ((laid sum4 gs ++ tail).length : Int)
/-- Behind a call that lays a group: done; refused; or cut off, and then the one or the other behind a crash. -/
def Laid (z : Nm) (R : Dk × Lw × Int) (old new : List (List (List UInt8))) : Prop :=
  (R.2.2 = 0 → Has z R.1 R.2.1 new) ∧ (R.2.2 ≠ 0 → Has z R.1 R.2.1 old ∨ R.2.2 = 35 ∧ ∀ keep t, ∃ tail, On z (R.1.crash keep t) old tail ∨ On z (R.1.crash keep t) new tail)
theorem right_snoc {rs : List (List UInt8)} (h : ∀ g ∈ gs, right g = true) (hr : right rs = true) : ∀ g ∈ gs ++ [rs], right g = true := by
  intro g hg
  rcases List.mem_append.1 hg with hg | hg
  · exact h g hg
  · rw [List.mem_singleton.1 hg]
    exact hr
theorem laid_snoc (gs : List (List (List UInt8))) (rs : List (List UInt8)) : laid sum4 (gs ++ [rs]) = laid sum4 gs ++ grp sum4 rs := by rw [laid_append, laid_one]
theorem firm_on (hr : ∀ g ∈ gs, right g = true) (h : Firm z S (laid sum4 gs)) : On z S gs [] := ⟨hr, .inl rfl, by rw [List.append_nil]; exact h⟩
end Go.Proofs.YthjcimgollfmgaaGreatDoor

/-
  What Append and Reset make of a log's groups, plainly: done, refused, or cut off, and then the old or the new ones behind a crash. No program here. Conditions: none.
-/
namespace Go.Proofs.YthjcimgollfmgaaGreatDoor
variable {z : Nm} {S : Dk} {L : Lw} {gs new : List (List (List UInt8))} {tail : List UInt8} {rs : List (List UInt8)}

theorem ok_extend (hk : Ok S) (n : Nm) (s : Bool) (b : List UInt8) : Ok (extendW S n s b).1 := by
  unfold extendW
  split
  · exact ok_tidy hk n
  unfold extend2
  split
  · exact ok_settle (ok_tidy hk n) s
  unfold extend3
  split
  · exact ok_append (ok_settle (ok_tidy hk n) s) n b
  · exact ok_sync (ok_append (ok_settle (ok_tidy hk n) s) n b) n
theorem noted_laid {p : Dk × Bool × Int} {wh k : Int} (hR : Replaced z p (laid sum4 gs ++ tail) (laid sum4 new)) (hn : ∀ g ∈ new, right g = true) (ho : ∀ g ∈ gs, right g = true) (ht : TornTail gs tail)
    (hL : L.n = z ∧ L.wh = ((laid sum4 gs).length : Int) ∧ L.sz = ((laid sum4 gs ++ tail).length : Int)) (hk : wh + k = ((laid sum4 new).length : Int)) : Laid z (noted p L wh k) gs new := by
  unfold noted
  split
  · next h0 =>
    refine ⟨fun _ => ⟨hL.1, [], ?_, hk, ?_⟩, fun e => absurd rfl e⟩
    · obtain ⟨g, hg⟩ := hR.1 h0
      exact firm_on hn (.inr ⟨g, hg⟩)
    · rw [List.append_nil]; exact hk
  · next h0 =>
    refine ⟨fun e => absurd e h0, fun _ => ?_⟩
    rcases hR.2 h0 with h1 | ⟨h1, -, h2⟩
    · exact .inl ⟨hL.1, tail, ⟨ho, ht, h1⟩, hL.2.1, hL.2.2⟩
    · refine .inr ⟨h1, fun keep t => ?_⟩
      rcases h2 keep t with h3 | h3
      · exact ⟨tail, .inl ⟨ho, ht, h3⟩⟩
      · exact ⟨[], .inr (firm_on hn h3)⟩
theorem laid_ne (gs : List (List (List UInt8))) (rs : List (List UInt8)) : laid sum4 (gs ++ [rs]) ≠ [] := fun e => by
  have := laid_many (gs ++ [rs])
  rw [e] at this
  simp at this
theorem reset_has (h : Has z S L gs) (hk : Ok S) (hr : right rs = true) : Laid z (resetW S L rs) gs [rs] := by
  obtain ⟨hn, tail, ⟨ho, ht, hF⟩, h1, h2⟩ := h
  unfold resetW
  rw [if_neg (by rw [hr]; decide), hn]
  have hR := firm_replace hF hk (grp_ne rs) L.sure
  rw [← laid_one sum4 rs] at hR ⊢
  refine noted_laid hR (fun g hg => by rw [List.mem_singleton.1 hg]; exact hr) ho ht ⟨hn, h1, h2⟩ ?_
  rw [Int.zero_add]
theorem readAt_firm {all : List UInt8} (h : Firm z S all) (k : Nat) (h0 : (S.readAt z 0 (k : Int)).2 = 0) : (S.readAt z 0 (k : Int)).1 = all.take k := by
  unfold Dk.readAt at h0 ⊢
  split
  · next e he =>
    rw [he] at h0
    dsimp only at h0
    unfold Dk.onFile at he
    split at he
    · cases he; cases h0
    split at he
    · cases he; cases h0
    split at he
    · cases he; cases h0
    · cases he
  · next g fl he =>
    rw [he] at h0
    dsimp only at h0
    have hl := (onFile_look he).1
    rcases h with ⟨h, -⟩ | ⟨f, h⟩
    · rw [h.lookD] at hl; cases hl
    rw [h.lookD] at hl
    injection hl with hl
    subst hl
    obtain ⟨x, h1, h2, h3⟩ := h.file
    have hb : S.bytes f = all := by simp [Dk.bytes, h1, h2]
    split
    · next hh => rw [if_pos hh] at h0; cases h0
    next hh =>
    rw [if_neg hh] at h0
    split
    · next h5 => rw [if_pos h5] at h0; cases h0
    · rw [hb]
      simp
theorem put_has (h : Has z S L gs) (hk : Ok S) (hz : isNm z = true) (hr : right rs = true) : Laid z (appendP S L rs) gs (gs ++ [rs]) := by
  obtain ⟨hn, tail, ⟨ho, ht, hF⟩, h1, h2⟩ := h
  have hnew := right_snoc ho hr
  have hlen : L.wh + ((grp sum4 rs).length : Int) = ((laid sum4 (gs ++ [rs])).length : Int) := by
    rw [laid_snoc, List.length_append, h1]
    omega
  unfold appendP putW
  rw [hn]
  split
  · next h0 =>
    have e0 : gs = [] := laid_nil (List.eq_nil_of_length_eq_zero (by omega))
    subst e0
    have hR := firm_replace hF hk (grp_ne rs) L.sure
    rw [← laid_one sum4 rs] at hR
    rw [List.nil_append, laid_one] at hlen
    rw [← laid_one sum4 rs] at hlen ⊢
    exact noted_laid hR hnew ho ht ⟨hn, h1, h2⟩ hlen
  next h0 =>
  split
  · next he =>
    have et : tail = [] := by
      rw [h1, h2, List.length_append] at he
      exact List.eq_nil_of_length_eq_zero (by omega)
    subst et
    rw [List.append_nil] at hF
    have hne : laid sum4 gs ≠ [] := fun e => h0 (by rw [h1, e]; rfl)
    rcases hF with ⟨-, e⟩ | ⟨f, hK⟩
    · exact absurd e hne
    have hE := firm_extend hK hk hz L.sure (grp sum4 rs)
    have hO := ok_extend hk z L.sure (grp sum4 rs)
    generalize extendW S z L.sure (grp sum4 rs) = p at *
    unfold noted
    split
    · next h5 =>
      have h6 := hE.1 h5
      rw [← laid_snoc] at h6
      exact ⟨fun _ => ⟨hn, [], firm_on hnew (.inr ⟨f, h6⟩), hlen, by rw [List.append_nil]; exact hlen⟩, fun e => absurd rfl e⟩
    · next h5 =>
      refine ⟨fun e => absurd e h5, fun _ => ?_⟩
      rcases hE.2 h5 with h6 | ⟨h6, h7⟩
      · exact .inl ⟨hn, [], firm_on ho (.inr ⟨f, h6⟩), h1, h2⟩
      · refine .inr ⟨h6, fun keep t => ?_⟩
        obtain ⟨k, hk1, hk2⟩ := h7.crash hO keep t
        have hkl : (laid sum4 gs).length ≤ k := by rw [List.length_take] at hk1; omega
        have e1 : (laid sum4 gs ++ grp sum4 rs).take k = laid sum4 gs ++ (grp sum4 rs).take (k - (laid sum4 gs).length) := by
          rw [List.take_append, List.take_of_length_le hkl]
        rw [e1] at hk2
        by_cases hw : k - (laid sum4 gs).length < (grp sum4 rs).length
        · exact ⟨_, .inl ⟨ho, .inr ⟨hne, rs, _, hr, hw, rfl⟩, .inr ⟨f, hk2⟩⟩⟩
        · rw [List.take_of_length_le (by omega), ← laid_snoc] at hk2
          exact ⟨[], .inr (firm_on hnew (.inr ⟨f, hk2⟩))⟩
  · unfold putAnew
    have hrd := readAt_firm hF (laid sum4 gs).length
    rw [← h1] at hrd
    generalize S.readAt z 0 L.wh = r at *
    split
    · next h5 =>
      unfold noted
      rw [if_neg h5]
      exact ⟨fun e => absurd e h5, fun _ => .inl ⟨hn, tail, ⟨ho, ht, hF.begun⟩, h1, h2⟩⟩
    · next h5 =>
      have e1 := hrd (by simpa using h5)
      rw [List.take_left] at e1
      rw [e1]
      have hR := firm_replace (b := laid sum4 gs ++ grp sum4 rs) hF.begun hk.begun (by rw [← laid_snoc]; exact laid_ne gs rs) L.sure
      rw [← laid_snoc] at hR ⊢
      exact noted_laid hR hnew ho ht ⟨hn, h1, h2⟩ hlen
/-- Append, whatever the disk does. -/
theorem append_has (h : Has z S L gs) (hk : Ok S) (hz : isNm z = true) (hr : right rs = true) : Laid z (appendW S L rs) gs (gs ++ [rs]) := by
  have h0 := h
  obtain ⟨hn, tail, ⟨ho, ht, hF⟩, h1, h2⟩ := h
  unfold appendW
  rw [if_neg (by rw [hr]; decide), if_pos (by rw [hn, hF.size, h2])]
  exact put_has h0 hk hz hr
end Go.Proofs.YthjcimgollfmgaaGreatDoor

/-
  On a disk that nothing fails, and that has room, a log's calls are done. No program here. Conditions: none.
-/
namespace Go.Proofs.YthjcimgollfmgaaGreatDoor
variable {z : Nm} {S S' : Dk} {L : Lw} {gs : List (List (List UInt8))} {rs : List (List UInt8)}

/-- What no call on a disk turns: where the power goes, which operations fail, how much room it has. -/
def Alt (S S' : Dk) : Prop := S'.cut = S.cut ∧ S'.fails = S.fails ∧ S'.room = S.room
theorem Alt.refl (S : Dk) : Alt S S := ⟨rfl, rfl, rfl⟩
theorem Alt.trans {S'' : Dk} (h : Alt S S') (k : Alt S' S'') : Alt S S'' := ⟨k.1.trans h.1, k.2.1.trans h.2.1, k.2.2.trans h.2.2⟩
theorem Alt.calm (h : Alt S S') (hc : Calm S) : Calm S' := ⟨h.1.trans hc.1, fun k => by rw [h.2.1]; exact hc.2 k⟩
theorem calm_on (h : Calm S) : S.on = true := by
  unfold Dk.on
  rw [h.1]
theorem alt_begun (S : Dk) : Alt S S.begun := by
  unfold Dk.begun
  split <;> exact ⟨rfl, rfl, rfl⟩
theorem alt_app (S : Dk) (n : Nm) (b : List UInt8) : Alt S (S.app n b) := by
  unfold Dk.app
  split <;> split <;> exact ⟨rfl, rfl, rfl⟩
theorem alt_append (S : Dk) (n : Nm) (b : List UInt8) : Alt S (S.append n b).1 := by
  unfold Dk.append
  split
  · exact ⟨rfl, rfl, rfl⟩
  split
  · exact ⟨rfl, rfl, rfl⟩
  split
  · exact ⟨rfl, rfl, rfl⟩
  split
  · exact ⟨rfl, rfl, rfl⟩
  · exact alt_app S.next n b
theorem alt_sync (S : Dk) (n : Nm) : Alt S (S.sync n).1 := by
  unfold Dk.sync
  split
  · exact alt_begun S
  · split <;> exact alt_begun S
theorem alt_syncDir (S : Dk) : Alt S S.syncDir.1 := by
  unfold Dk.syncDir
  split
  · exact ⟨rfl, rfl, rfl⟩
  split <;> exact ⟨rfl, rfl, rfl⟩
theorem alt_rename (S : Dk) (a b : Nm) : Alt S (S.rename a b).1 := by
  unfold Dk.rename
  split
  · exact ⟨rfl, rfl, rfl⟩
  split
  · exact ⟨rfl, rfl, rfl⟩
  split
  · exact ⟨rfl, rfl, rfl⟩
  split
  · exact ⟨rfl, rfl, rfl⟩
  split <;> exact ⟨rfl, rfl, rfl⟩
theorem alt_remove (S : Dk) (n : Nm) : Alt S (S.remove n).1 := by
  unfold Dk.remove
  split
  · exact alt_begun S
  · split <;> exact alt_begun S
theorem alt_tidy (S : Dk) (n : Nm) : Alt S (tidyW S n).1 := by
  unfold tidyW
  split
  · exact Alt.refl S
  · exact alt_remove S _
theorem alt_settle (S : Dk) (s : Bool) : Alt S (settleW S s).1 := by
  unfold settleW
  split
  · exact Alt.refl S
  · exact alt_syncDir S
theorem calm_file (h : Calm S) {n : Nm} (hn : isNm n = true) {f : Nat} (hl : look S.dir n = some f) : S.onFile n = .ok (f, false) := by
  unfold Dk.onFile
  rw [if_neg (by rw [calm_on h]; decide), if_neg (by rw [hn]; decide), hl, h.2]
theorem calm_tidy (h : Calm S) (hn : isNm (z ++ anewB) = true) : (tidyW S z).2 = 0 := by
  unfold tidyW
  split
  · rfl
  · next hs =>
    unfold Dk.size at hs
    split at hs
    · omega
    · next f hl =>
      unfold Dk.remove
      rw [calm_file h hn hl]
      rfl
theorem calm_append (h : Calm S) {n : Nm} (hn : isNm n = true) {b : List UInt8} (hr : S.used + b.length ≤ S.room) : (S.append n b).2 = 0 := by
  unfold Dk.append
  rw [if_neg (by rw [calm_on h]; decide), if_neg (by rw [hn]; decide), if_neg (fun e => by have := e.2; omega), if_neg (by rw [h.2]; decide)]
theorem calm_sync (h : Calm S) {n : Nm} (hn : isNm n = true) {f : Nat} (hl : look S.dir n = some f) : (S.sync n).2 = 0 := by
  unfold Dk.sync
  rw [calm_file h hn hl]
  rfl
theorem calm_syncDir (h : Calm S) : S.syncDir.2 = 0 := by
  unfold Dk.syncDir
  rw [if_neg (by rw [calm_on h]; decide), if_neg (by rw [h.2]; decide)]
theorem calm_settle (h : Calm S) (s : Bool) : (settleW S s).2.2 = 0 := by
  unfold settleW
  split
  · rfl
  · exact calm_syncDir h
theorem calm_rename (h : Calm S) {a b : Nm} (ha : isNm a = true) (hb : isNm b = true) (hl : look S.dir a ≠ none) : (S.rename a b).2 = 0 := by
  unfold Dk.rename
  rw [if_neg (by rw [calm_on h]; decide), if_neg (fun e => e.elim (fun e => by rw [ha] at e; cases e) (fun e => by rw [hb] at e; cases e)), if_neg hl, if_neg (by rw [h.2]; decide)]
  split <;> rfl
theorem calm_replace (h : Calm S) (hk : Ok S) (hz : isNm z = true) (hn : isNm (z ++ anewB) = true) (s : Bool) {b : List UInt8} (hb : b ≠ []) (hr : S.bulk + b.length + 2 ≤ S.room) : (replaceW S z s b).2.2 = 0 ∧ Alt S (replaceW S z s b).1 := by
  have t0 := calm_tidy h hn
  have t1 := alt_tidy S z
  have t2 := bulk_tidy S z
  have t3 := ok_tidy hk z
  have t4 := tidy_none t0
  unfold replaceW
  rw [if_neg (by rw [t0]; decide)]
  generalize tidyW S z = T at *
  have c1 := t1.calm h
  have u1 := used_le t3
  have a0 := calm_append c1 hn (b := b) (by rw [t1.2.2]; omega)
  have a1 := t1.trans (alt_append T.1 (z ++ anewB) b)
  have a2 := append_new t4 hb a0
  unfold rep2
  rw [if_neg (by rw [a0]; decide)]
  generalize T.1.append (z ++ anewB) b = V at *
  have c2 := a1.calm h
  have y0 := calm_sync c2 hn a2.1
  have y1 := a1.trans (alt_sync V.1 (z ++ anewB))
  have y2 := sync_fresh a2.1 a2.2 y0
  unfold rep3
  rw [if_neg (by rw [y0]; decide)]
  generalize V.1.sync (z ++ anewB) = Y at *
  have c3 := y1.calm h
  have r0 := calm_rename c3 hn hz (by rw [y2.1]; simp)
  have r1 := y1.trans (alt_rename Y.1 (z ++ anewB) z)
  unfold rep4
  rw [if_neg (by rw [r0]; decide)]
  generalize Y.1.rename (z ++ anewB) z = N at *
  have c4 := r1.calm h
  have s0 := calm_settle c4 false
  have s1 := r1.trans (alt_settle N.1 false)
  unfold rep5
  rw [if_neg (by rw [s0]; decide)]
  exact ⟨s0, s1⟩
theorem append_keeps {n : Nm} {f : Nat} (hl : look S.dir n = some f) (b : List UInt8) : look (S.append n b).1.dir n = some f := by
  unfold Dk.append
  split
  · exact hl
  split
  · exact hl
  split
  · exact hl
  split
  · exact hl
  show look (S.next.app n b).dir n = _
  unfold Dk.app
  rw [show look S.next.dir n = some f from hl]
  dsimp only
  split <;> exact hl
theorem calm_extend {f : Nat} {all : List UInt8} (hK : Kx z S f all.length all) (h : Calm S) (hk : Ok S) (hz : isNm z = true) (hn : isNm (z ++ anewB) = true) (s : Bool) {b : List UInt8} (hr : S.bulk + b.length + 3 ≤ S.room) : (extendW S z s b).2.2 = 0 ∧ Alt S (extendW S z s b).1 := by
  have t0 := calm_tidy h hn
  have t1 := alt_tidy S z
  have t2 := bulk_tidy S z
  have t3 := ok_tidy hk z
  have t5 : look (tidyW S z).1.dir z = some f ∧ look (tidyW S z).1.sure z = some f := by
    have : Kx z (tidyW S z).1 f all.length all := by
      unfold tidyW
      split
      · exact hK
      · exact hK.remove (anew_ne z)
    exact ⟨this.lookD, this.lookS⟩
  unfold extendW
  rw [if_neg (by rw [t0]; decide)]
  generalize tidyW S z = T at *
  have c1 := t1.calm h
  have s0 := calm_settle c1 s
  have s1 := t1.trans (alt_settle T.1 s)
  have s2 := bulk_settle T.1 s
  have s3 := ok_settle t3 s
  have s5 : look (settleW T.1 s).1.dir z = some f := by
    unfold settleW
    split
    · exact t5.1
    · unfold Dk.syncDir
      split
      · exact t5.1
      split
      · exact t5.2
      · exact t5.1
  unfold extend2
  rw [if_neg (by rw [s0]; decide)]
  generalize settleW T.1 s = U at *
  have c2 := s1.calm h
  have u1 := used_le s3
  have a0 := calm_append c2 hz (b := b) (by rw [s1.2.2]; omega)
  have a1 := s1.trans (alt_append U.1 z b)
  have a5 := append_keeps s5 b
  unfold extend3
  rw [if_neg (by rw [a0]; decide)]
  generalize U.1.append z b = V at *
  exact ⟨calm_sync (a1.calm h) hz a5, a1.trans (alt_sync V.1 z)⟩
theorem calm_readAt {all : List UInt8} {f : Nat} (hK : Kx z S f all.length all) (h : Calm S) (hz : isNm z = true) (k : Nat) (hl : k ≤ all.length) : (S.readAt z 0 (k : Int)).2 = 0 := by
  obtain ⟨x, h1, h2, h3⟩ := hK.file
  have hb : S.bytes f = all := by simp [Dk.bytes, h1, h2]
  unfold Dk.readAt
  rw [calm_file h hz hK.lookD]
  dsimp only
  rw [hb, if_neg (by omega)]
  rfl
theorem noted_calm {p : Dk × Bool × Int} {wh k : Int} (h : p.2.2 = 0 ∧ Alt S p.1) : (noted p L wh k).2.2 = 0 ∧ Alt S (noted p L wh k).1 := by
  unfold noted
  rw [if_pos h.1]
  exact ⟨rfl, h.2⟩
theorem calm_resetW (h : Has z S L gs) (hc : Calm S) (hk : Ok S) (hz : isNm z = true) (hn : isNm (z ++ anewB) = true) (hr : right rs = true) (hb : S.bulk + (grp sum4 rs).length + 2 ≤ S.room) : (resetW S L rs).2.2 = 0 ∧ Alt S (resetW S L rs).1 := by
  unfold resetW
  rw [if_neg (by rw [hr]; decide), h.1]
  exact noted_calm (calm_replace hc hk hz hn L.sure (grp_ne rs) hb)
theorem calm_appendW (h : Has z S L gs) (hc : Calm S) (hk : Ok S) (hz : isNm z = true) (hn : isNm (z ++ anewB) = true) (hr : right rs = true) (hb : S.bulk + (laid sum4 gs).length + (grp sum4 rs).length + 4 ≤ S.room) : (appendW S L rs).2.2 = 0 ∧ Alt S (appendW S L rs).1 := by
  obtain ⟨hln, tail, ⟨ho, ht, hF⟩, h1, h2⟩ := h
  unfold appendW
  rw [if_neg (by rw [hr]; decide), if_pos (by rw [hln, hF.size, h2])]
  unfold appendP putW
  rw [hln]
  split
  · exact noted_calm (calm_replace hc hk hz hn L.sure (grp_ne rs) (by omega))
  next h0 =>
  have hK : ∃ f, Kx z S f (laid sum4 gs ++ tail).length (laid sum4 gs ++ tail) := by
    rcases hF with ⟨-, e⟩ | hK
    · have := congrArg List.length e
      rw [List.length_append, List.length_nil] at this
      omega
    · exact hK
  obtain ⟨f, hK⟩ := hK
  split
  · exact noted_calm (calm_extend hK hc hk hz hn L.sure (by omega))
  · have r0 := calm_readAt hK hc hz (laid sum4 gs).length (by rw [List.length_append]; omega)
    have r1 := readAt_firm hF (laid sum4 gs).length r0
    rw [← h1] at r0 r1
    unfold putAnew
    rw [if_neg (by rw [r0]; decide), r1, List.take_left]
    have hbb := bulk_begun' S
    have hrm := (alt_begun S).2.2
    have := calm_replace ((alt_begun S).calm hc) hk.begun hz hn L.sure (b := laid sum4 gs ++ grp sum4 rs) (by rw [← laid_snoc]; exact laid_ne gs rs) (by rw [List.length_append, hrm]; omega)
    exact noted_calm ⟨this.1, (alt_begun S).trans this.2⟩
end Go.Proofs.YthjcimgollfmgaaGreatDoor

/-
  How much a disk has behind a log's calls, plainly. No program here. Conditions: none.
-/
namespace Go.Proofs.YthjcimgollfmgaaGreatDoor
variable {z : Nm} {S : Dk} {L : Lw} {gs : List (List (List UInt8))} {rs : List (List UInt8)}

theorem bulk_tidied (S : Dk) (n : Nm) (s : Bool) (e : Int) : (tidied S n s e).1.bulk ≤ S.bulk + 2 := bulk_tidy S n
theorem bulk_replaceW (S : Dk) (n : Nm) (s : Bool) (b : List UInt8) : (replaceW S n s b).1.bulk ≤ S.bulk + b.length + 12 := by
  have t := bulk_tidy S n
  unfold replaceW
  split
  · show (tidyW S n).1.bulk ≤ _; omega
  have a := bulk_append (S := (tidyW S n).1) (n ++ anewB) b
  generalize (tidyW S n).1.append (n ++ anewB) b = V at *
  unfold rep2
  split
  · have := bulk_tidied V.1 n false V.2; omega
  have y := bulk_sync (S := V.1) (n ++ anewB)
  generalize V.1.sync (n ++ anewB) = Y at *
  unfold rep3
  split
  · have := bulk_tidied Y.1 n false Y.2; omega
  have r := bulk_rename (S := Y.1) (n ++ anewB) n
  generalize Y.1.rename (n ++ anewB) n = N at *
  unfold rep4
  split
  · have := bulk_tidied N.1 n false N.2; omega
  have u := bulk_settle N.1 false
  generalize settleW N.1 false = U at *
  unfold rep5
  split
  · have := bulk_tidied U.1 n U.2.1 U.2.2; omega
  · omega
theorem bulk_extendW (S : Dk) (n : Nm) (s : Bool) (b : List UInt8) : (extendW S n s b).1.bulk ≤ S.bulk + b.length + 8 := by
  have t := bulk_tidy S n
  unfold extendW
  split
  · show (tidyW S n).1.bulk ≤ _; omega
  have u := bulk_settle (tidyW S n).1 s
  generalize settleW (tidyW S n).1 s = U at *
  unfold extend2
  split
  · omega
  have a := bulk_append (S := U.1) n b
  generalize U.1.append n b = V at *
  unfold extend3
  split
  · show V.1.bulk ≤ _; omega
  · have y := bulk_sync (S := V.1) n
    show (V.1.sync n).1.bulk ≤ _
    omega
theorem noted_bulk (p : Dk × Bool × Int) (L : Lw) (wh k : Int) : (noted p L wh k).1 = p.1 := by
  unfold noted
  split <;> rfl
theorem bulk_resetW (S : Dk) (L : Lw) (rs : List (List UInt8)) : (resetW S L rs).1.bulk ≤ S.bulk + (grp sum4 rs).length + 12 := by
  unfold resetW
  split
  · show S.bulk ≤ _; omega
  · rw [noted_bulk]
    exact bulk_replaceW _ _ _ _
theorem bulk_appendW (h : Has z S L gs) : (appendW S L rs).1.bulk ≤ S.bulk + (laid sum4 gs).length + (grp sum4 rs).length + 13 := by
  obtain ⟨hln, tail, ⟨ho, ht, hF⟩, h1, h2⟩ := h
  unfold appendW
  split
  · show S.bulk ≤ _; omega
  rw [if_pos (by rw [hln, hF.size, h2])]
  unfold appendP
  rw [noted_bulk]
  unfold putW
  rw [hln]
  split
  · have := bulk_replaceW S z L.sure (grp sum4 rs); omega
  split
  · have := bulk_extendW S z L.sure (grp sum4 rs); omega
  · have hrd := readAt_firm hF (laid sum4 gs).length
    rw [← h1] at hrd
    generalize S.readAt z 0 L.wh = r at *
    have hb := bulk_begun' S
    unfold putAnew
    split
    · show S.begun.bulk ≤ _; omega
    · next h5 =>
      have e1 := hrd (by simpa using h5)
      rw [List.take_left] at e1
      rw [e1]
      have := bulk_replaceW S.begun z L.sure (laid sum4 gs ++ grp sum4 rs)
      rw [List.length_append] at this
      omega
/-- A new disk has no groups. -/
theorem on_new (room : Nat) : On z (Dk.new room) [] [] := ⟨by simp, .inl rfl, .inl ⟨⟨rfl, rfl, fun a ha => by cases ha⟩, rfl⟩⟩
/-- What a log knows that has looked. -/
theorem On.has {tail : List UInt8} (h : On z S gs tail) (s : Bool) : Has z S ⟨z, s, ((laid sum4 gs).length : Int), ((laid sum4 gs ++ tail).length : Int)⟩ gs := ⟨rfl, tail, h, rfl, rfl⟩
end Go.Proofs.YthjcimgollfmgaaGreatDoor
