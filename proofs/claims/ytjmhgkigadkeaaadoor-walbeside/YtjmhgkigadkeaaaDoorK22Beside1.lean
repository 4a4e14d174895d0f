/-
  Texts joined: Beside1, Beside2.
-/
import Derived.Test.YtjmhgkigadkeaaaDoorK21LayMild
import Derived.Deep.CutBlock
import Derived.Deep.CutRange
import Derived.Deep.LoopGhost
/-
  Two logs on one disk, each in a world of the law's: what stays when the one does something. Conditions: none beyond the facts named.
-/
namespace Go.Proofs.YtjmhgkigadkeaaaDoor
open Go.RowKit
variable {B : Nat} {w w' : World} {F F' : Nat → Prop} {X Y d a b : Nat} {S S' : Dk} {La Lb La' : Lw} {ga gb v : Value} {gsa gsb gs : List (List (List UInt8))} {z : Nm}

def nmA : Nm := [97]
def nmB : Nm := [98]
theorem nmA_ok : isLg nmA = true := by decide
theorem nmB_ok : isLg nmB = true := by decide
theorem ab_ne : nmA ≠ nmB ∧ nmA ≠ nmB ++ anewB ∧ nmB ≠ nmA ∧ nmB ≠ nmA ++ anewB := by decide
/-- Open on a disk that holds these groups. -/
theorem open_on {tail : List UInt8} (h : Stands B w F d S) (ho : On z S gs tail) (hon : S.on = true) (hf : S.fails S.n = false) (hz : isLg z = true) (hB : B ≤ w.heap.size) (hB0 : 0 < B) (hT : TabW w) (hb : S.bulk < 1000000000) :
    Calls Tryd.prog 15 #[.pointer (some ⟨d, 0, none⟩), .string (strB z)] w fun e w' => ∃ l v F' b1, e = .returned (.tuple #[.pointer (some ⟨l, 0, none⟩), v, .int .i64 0]) ∧ w.heap.size ≤ l ∧
      Lg B w' F' d l S.begun ⟨z, false, ((laid sum4 gs).length : Int), ((laid sum4 gs ++ tail).length : Int)⟩ ∧ (∀ k, F' k → F k ∨ w.heap.size ≤ k) ∧ Chg F w w' ∧ Gs w' b1 v gs ∧ w.heap.size ≤ b1 ∧ l < b1 ∧ ∀ k, F' k → k < b1 := by
  have hnm := isLg_nm hz
  have hlk := ho.look hnm.1 hon hf
  refine (open_lg h hB hB0 hT hb z hz).mono ?_
  rintro e w' ⟨x, v, rfl, hO⟩
  rw [hlk] at hO ⊢
  obtain ⟨l, F', b1, rfl, h1, h2, h3, h4, h5, h6, h7, h8⟩ := hO
  exact ⟨l, v, F', b1, rfl, h1, h2, h3, h4, h5, h6, h7, h8⟩
/-- Apart from disk, logs and worlds. -/
def Off (F : Nat → Prop) (a b X Y : Nat) (k : Nat) : Prop := ¬ F k ∧ k ≠ a ∧ k ≠ b ∧ k ≠ X ∧ k ≠ Y
structure Two (B : Nat) (w : World) (X Y d a b : Nat) (F : Nat → Prop) (S : Dk) (La Lb : Lw) (ga gb : Value) (gsa gsb : List (List (List UInt8))) : Prop where
  wx : WorldAt w X d a ga (.slice none 0 0) false
  wy : WorldAt w Y d b gb (.slice none 0 0) false
  la : Lg B w F d a S La
  lb : Lg B w F d b S Lb
  ra : Rk (Off F a b X Y) w ga gsa
  rb : Rk (Off F a b X Y) w gb gsb
  ab : a ≠ b
  XF : ¬ F X
  YF : ¬ F Y
  Xl : X ≠ a ∧ X ≠ b
  Yl : Y ≠ a ∧ Y ≠ b
  XY : X ≠ Y
  low : B ≤ X ∧ B ≤ Y
theorem Off.swap {k : Nat} (h : Off F a b X Y k) : Off F b a Y X k := ⟨h.1, h.2.2.1, h.2.1, h.2.2.2.2, h.2.2.2.1⟩
theorem Rk.swap (h : Rk (Off F a b X Y) w v gs) : Rk (Off F b a Y X) w v gs := h.mono fun _ _ h => h.swap
theorem Two.swap (h : Two B w X Y d a b F S La Lb ga gb gsa gsb) : Two B w Y X d b a F S Lb La gb ga gsb gsa :=
  ⟨h.wy, h.wx, h.lb, h.la, h.rb.swap, h.ra.swap, h.ab.symm, h.YF, h.XF, ⟨h.Yl.2, h.Yl.1⟩, ⟨h.Xl.2, h.Xl.1⟩, h.XY.symm, ⟨h.low.2, h.low.1⟩⟩
theorem Two.quiet (h : Two B w X Y d a b F S La Lb ga gb gsa gsb) (hc : Chg (fun _ => False) w w') : Two B w' X Y d a b F S La Lb ga gb gsa gsb :=
  ⟨h.wx.keep hc (fun h => h), h.wy.keep hc (fun h => h), h.la.keep hc (fun _ _ h => h) (fun h => h), h.lb.keep hc (fun _ _ h => h) (fun h => h), h.ra.keep hc (fun _ _ h => h), h.rb.keep hc (fun _ _ h => h), h.ab, h.XF, h.YF, h.Xl, h.Yl, h.XY, h.low⟩
theorem Two.small (h : Two B w X Y d a b F S La Lb ga gb gsa gsb) : (∀ k, F k → k < w.heap.size) ∧ a < w.heap.size ∧ b < w.heap.size ∧ X < w.heap.size ∧ Y < w.heap.size := ⟨fun k hk => (h.la.1.2.1 k hk).2, h.la.lt, h.lb.lt, lt_of_heap h.wx, lt_of_heap h.wy⟩
/-- What was made since is apart. -/
theorem Two.since (h : Two B w X Y d a b F S La Lb ga gb gsa gsb) {k : Nat} (hk : w.heap.size ≤ k) : Off F a b X Y k := by
  have hs := h.small
  exact ⟨fun hf => by have := hs.1 k hf; omega, by omega, by omega, by omega, by omega⟩
theorem Rk.step (h : Rk (Off F a b X Y) w v gs) (hF : ∀ k, F' k → F k ∨ w.heap.size ≤ k) (hc : Chg (fun k => F k ∨ k = a) w w') : Rk (Off F' a b X Y) w' v gs := by
  refine (h.mono (Q := fun k => Off F a b X Y k ∧ ¬ F' k) fun k hk ho => ⟨ho, fun hf => (hF k hf).elim ho.1 (fun h => by omega)⟩).keep hc (fun k ho hx => hx.elim ho.1.1 ho.1.2.1) |>.mono ?_
  intro k _ ho
  exact ⟨ho.2, ho.1.2⟩
theorem Two.step (h : Two B w X Y d a b F S La Lb ga gb gsa gsb) (hl : Then B w F d a S' La' w') : ∃ F', Two B w' X Y d a b F' S' La' Lb ga gb gsa gsb ∧ Below B w w' ∧ (∀ k, F' k → F k ∨ w.heap.size ≤ k) ∧ Chg (fun k => F k ∨ k = a) w w' := by
  have hbl := hl.below h.la
  obtain ⟨F', hg, hF, hc⟩ := hl
  have hs := h.small
  have ap : ∀ {k : Nat}, k < w.heap.size → ¬ F k → ¬ F' k := fun hk hn hf => (hF _ hf).elim hn (fun h => by omega)
  exact ⟨F', ⟨h.wx.keep hc (fun e => e.elim h.XF h.Xl.1), h.wy.keep hc (fun e => e.elim h.YF h.Yl.1), hg, ⟨hg.1, h.lb.2.1.keep hc (fun e => e.elim h.lb.2.2.1 (fun e => h.ab e.symm)), ap hs.2.2.1 h.lb.2.2.1, h.lb.2.2.2⟩, h.ra.step hF hc, h.rb.step hF hc, h.ab, ap hs.2.2.2.1 h.XF, ap hs.2.2.2.2 h.YF, h.Xl, h.Yl, h.XY, h.low⟩, hbl, hF, hc⟩
/-- The world's groups are noted anew. -/
theorem Two.put (h : Two B w X Y d a b F S La Lb ga gb gsa gsb) (hr : Rk (Off F a b X Y) w v gs) : Two B (w.setCell ⟨X, 2, none⟩ v) X Y d a b F S La Lb v gb gs gsb ∧ Below B w (w.setCell ⟨X, 2, none⟩ v) := by
  have hg : Chg (· = X) w (w.setCell ⟨X, 2, none⟩ v) := (Chg.refl (· = X) w).setCell (p := ⟨X, 2, none⟩) (Or.inl rfl) _
  refine ⟨⟨heap_set h.wx 2 v, h.wy.keep hg (fun e => h.XY e.symm), h.la.keep hg (fun k hk e => h.XF (e ▸ hk)) (fun e => h.Xl.1 e.symm), h.lb.keep hg (fun k hk e => h.XF (e ▸ hk)) (fun e => h.Xl.2 e.symm), hr.keep hg (fun k ho e => ho.2.2.2.1 e), h.rb.keep hg (fun k ho e => ho.2.2.2.1 e), h.ab, h.XF, h.YF, h.Xl, h.Yl, h.XY, h.low⟩, ?_⟩
  exact hg.below (fun k e => by rw [e]; exact h.low.1) h.la.size
end Go.Proofs.YtjmhgkigadkeaaaDoor

/-
  WalBeside, walked: two logs on one disk know nothing of one another, whatever crashes. Conditions: what came in lies there; the table holds its numbers.
-/
namespace Go.Proofs.YtjmhgkigadkeaaaDoor
open Go.RowKit

theorem Two.make {B : Nat} {w : World} {F : Nat → Prop} {d a b : Nat} {S : Dk} {La Lb : Lw} (la : Lg B w F d a S La) (lb : Lg B w F d b S Lb) (ab : a ≠ b) :
    Two B ((w.alloc (.cells #[.pointer (some ⟨d, 0, none⟩), .pointer (some ⟨a, 0, none⟩), .slice none 0 0, .slice none 0 0, .bool false] 35)).alloc (.cells #[.pointer (some ⟨d, 0, none⟩), .pointer (some ⟨b, 0, none⟩), .slice none 0 0, .slice none 0 0, .bool false] 35)) w.heap.size (w.heap.size + 1) d a b F S La Lb (.slice none 0 0) (.slice none 0 0) [] [] := by
  have h1 := alloc_quiet w (.cells #[.pointer (some ⟨d, 0, none⟩), .pointer (some ⟨a, 0, none⟩), .slice none 0 0, .slice none 0 0, .bool false] 35)
  have h2 := alloc_quiet (w.alloc (.cells #[.pointer (some ⟨d, 0, none⟩), .pointer (some ⟨a, 0, none⟩), .slice none 0 0, .slice none 0 0, .bool false] 35)) (.cells #[.pointer (some ⟨d, 0, none⟩), .pointer (some ⟨b, 0, none⟩), .slice none 0 0, .slice none 0 0, .bool false] 35)
  have hs := la.size
  have hf : ∀ k, F k → k < w.heap.size := fun k hk => (la.1.2.1 k hk).2
  have ha := la.lt
  have hb := lb.lt
  have e1 : (w.alloc (.cells #[.pointer (some ⟨d, 0, none⟩), .pointer (some ⟨a, 0, none⟩), .slice none 0 0, .slice none 0 0, .bool false] 35)).heap.size = w.heap.size + 1 := by simp
  have hy := heap_last (w.alloc (.cells #[.pointer (some ⟨d, 0, none⟩), .pointer (some ⟨a, 0, none⟩), .slice none 0 0, .slice none 0 0, .bool false] 35)) (.cells #[.pointer (some ⟨d, 0, none⟩), .pointer (some ⟨b, 0, none⟩), .slice none 0 0, .slice none 0 0, .bool false] 35)
  rw [e1] at hy
  exact ⟨h2.keep (heap_last w _) (fun h => h), hy, (la.keep h1 (fun _ _ h => h) (fun h => h)).keep h2 (fun _ _ h => h) (fun h => h), (lb.keep h1 (fun _ _ h => h) (fun h => h)).keep h2 (fun _ _ h => h) (fun h => h), Rk.nil _, Rk.nil _, ab, fun h => by have := hf _ h; omega, fun h => by have := hf _ h; omega, by omega, by omega, by omega, by omega⟩
theorem Tryd.infoW : (Tryd.prog.info? 35).map (fun i => i.size) = some 5 := by kernel_rfl
theorem eqW (w : World) (a : Nat) : (binOp .eql 24 (.pointer (some ⟨a, 0, none⟩)) (.pointer (some ⟨a, 0, none⟩))).run Tryd.prog w = .ok (.bool true) w := by
  obtain ⟨j, hj, _⟩ := Option.map_eq_some_iff.1 Tryd.infoW
  exact run_eql_ptr_same w _ Tryd.underlying24 hj
theorem gsThen_len (kd : Int) (gs : List (List (List UInt8))) (rs : List (List UInt8)) : (gsThen kd gs rs).length ≤ gs.length + 1 := by
  unfold gsThen
  split <;> simp
theorem mild_cut {S : Dk} (h : Mild S) (op : Int) : Mild (S.cutAt op) := h
theorem bulk_cut (S : Dk) (op : Int) : (S.cutAt op).bulk = S.bulk := rfl
theorem has_cut {z : Nm} {S : Dk} {L : Lw} {gs : List (List (List UInt8))} (h : Has z S L gs) (op : Int) : Has z (S.cutAt op) L gs := by
  obtain ⟨h1, tail, ⟨h2, h3, h4⟩, h5⟩ := h
  refine ⟨h1, tail, ⟨h2, h3, ?_⟩, h5⟩
  rcases h4 with ⟨h4, e⟩ | ⟨f, h4⟩
  · exact .inl ⟨⟨h4.lookS, h4.lookD, h4.acts⟩, e⟩
  · exact .inr ⟨f, h4.lookS, h4.lookD, h4.acts, h4.file⟩
theorem has_crash {z : Nm} {S : Dk} {L : Lw} {gs : List (List (List UInt8))} (h : Has z S L gs) (hk : Ok S) (keep t : Int) : ∃ tail, On z (S.crash keep t) gs tail := by
  obtain ⟨h1, tail, h2, -⟩ := h
  exact ⟨tail, h2.crash hk keep t⟩
theorem laid_crash {z : Nm} {R : Dk × Lw × Int} {old new : List (List (List UInt8))} (h : Laid z R old new) (h0 : R.2.2 = 35) (hk : Ok R.1) (keep t : Int) : ∃ gq tail, On z (R.1.crash keep t) gq tail ∧ (gq = old ∨ gq = new) := by
  rcases h.2 (by rw [h0]; decide) with h1 | ⟨-, h1⟩
  · obtain ⟨tail, h2⟩ := has_crash h1 hk keep t
    exact ⟨old, tail, h2, .inl rfl⟩
  · obtain ⟨tail, h2 | h2⟩ := h1 keep t
    · exact ⟨old, tail, h2, .inl rfl⟩
    · exact ⟨new, tail, h2, .inr rfl⟩

set_option maxRecDepth 400000 in
set_option maxHeartbeats 16000000 in
theorem beside_any (w : World) (v1 v2 vt : Value) (os1 os2 : List Oq) (bs : List Bool) (cut keep torn : Int) (ho1 : Ob w.heap.size w v1 os1) (ho2 : Ob w.heap.size w v2 os2) (ht : Tr w.heap.size w vt bs) (hs1 : Small os1) (hs2 : Small os2) (hcut : -9223372036854775808 ≤ cut ∧ cut ≤ 9223372036854775807)
    (hn1 : os1.length ≤ 4611686018427387904) (hn2 : os2.length ≤ 4611686018427387904) (hB0 : 0 < w.heap.size) (hT : TabW w) :
    Calls Tryd.prog 4 #[v1, v2, vt, .int .i64 cut, .int .i64 keep, .int .i64 torn] w fun e w' => e = .returned (.bool true) ∧ Below w.heap.size w w' := by
  have HO1 := hide ho1
  have HO2 := hide ho2
  have HTR := hide ht
  obtain ⟨oa1, oc1, rfl, o11, o12, -⟩ := ho1
  obtain ⟨oa2, oc2, rfl, o21, o22, -⟩ := ho2
  obtain ⟨ta, tc, rfl, t1, t2, -⟩ := ht
  have HT := hide hT
  go_enter Tryd.func4, Tryd.ntmps4
  go_wp2_with fail
  refine (shown_any w hB0 hT).mono ?_
  rintro e w1 ⟨rfl, hb1⟩
  clear hT
  have hnew := new_lies2 (B := w.heap.size) w1 hb1.size 16777216 (by decide)
  go_wp2_with fail
  refine hnew.mono ?_
  rintro e w2 ⟨rfl, hst2, hc2⟩
  generalize w1.heap.size = d at *
  have hb2 : Below w.heap.size w w2 := hb1.trans (hc2.below (fun _ h => h.elim) hb1.size)
  have hopa := open_on hst2 (on_new (z := nmA) 16777216) (calm_on (calm_new _)) rfl nmA_ok hb2.size hB0 (HT.out.keep hb2) (by decide)
  have hopa : Calls Tryd.prog 15 #[.pointer (some ⟨d, 0, none⟩), .string ⟨#[97]⟩] w2 _ := hopa
  clear hnew
  go_wp2_with fail
  refine hopa.mono ?_
  rintro e w3 ⟨a, va, Fa, qa, rfl, ha3, la3, hF3, hc3, hG3, -, -, -⟩
  have hb3 : Below w.heap.size w w3 := hb2.trans (hc3.below (fun k hk => (hst2.2.1 k hk).1) hb2.size)
  have hopb := open_on la3.1 (on_new (z := nmB) 16777216).begun (calm_on ((alt_begun _).calm (calm_new _))) rfl nmB_ok hb3.size hB0 (HT.out.keep hb3) (by decide)
  have hopb : Calls Tryd.prog 15 #[.pointer (some ⟨d, 0, none⟩), .string ⟨#[98]⟩] w3 _ := hopb
  obtain ⟨ga3, gc3, rfl, -⟩ := hG3.form
  clear hopa hG3
  go_wp2_with fail
  refine hopb.mono ?_
  rintro e w4 ⟨b, vb, F, qb, rfl, hb4', lb4, hF4, hc4, hG4, -, -, -⟩
  have hb4 : Below w.heap.size w w4 := hb3.trans (hc4.below (fun k hk => (la3.1.2.1 k hk).1) hb3.size)
  have la4 := la3.next lb4.1 hF4 hc4
  have hab : a ≠ b := by have := la3.lt; omega
  have hTw := Two.make la4 lb4 hab
  have hAc : Has nmA (Dk.new 16777216).begun.begun _ [] := (on_new (z := nmA) 16777216).begun.begun.has false
  have hBc : Has nmB (Dk.new 16777216).begun.begun _ [] := (on_new (z := nmB) 16777216).begun.begun.has false
  obtain ⟨ga4, gc4, rfl, -⟩ := hG4.form
  have hpk := fun W => pick_any W cut 200 hcut (by omega)
  obtain ⟨X, hX⟩ : ∃ X, X = w4.heap.size := ⟨_, rfl⟩
  rw [← hX] at hTw
  have hb6 : Below w.heap.size w ((w4.alloc (.cells #[.pointer (some ⟨d, 0, none⟩), .pointer (some ⟨a, 0, none⟩), .slice none 0 0, .slice none 0 0, .bool false] 35)).alloc (.cells #[.pointer (some ⟨d, 0, none⟩), .pointer (some ⟨b, 0, none⟩), .slice none 0 0, .slice none 0 0, .bool false] 35)) := (hb4.alloc hb4.size _).alloc (hb4.alloc hb4.size _).size _
  have HX := hide hX
  clear hopb hG4 hX hc4 hc3 hF4 hF3 la3 lb4 la4 hst2 hc2 hb1 hb2 hb3
  go_wp2_with fail
  try rw [← HX.out]
  refine (hpk _).mono ?_
  rintro e w6 ⟨rfl, hw6⟩
  rw [hw6]
  clear hw6 hpk w6
  generalize pk cut 200 = cq
  generalize hW6 : ((w4.alloc (.cells #[.pointer (some ⟨d, 0, none⟩), .pointer (some ⟨a, 0, none⟩), .slice none 0 0, .slice none 0 0, .bool false] 35)).alloc (.cells #[.pointer (some ⟨d, 0, none⟩), .pointer (some ⟨b, 0, none⟩), .slice none 0 0, .slice none 0 0, .bool false] 35)) = w6 at *
  have hct := cutAt_lies hTw.la.1 hb6.size cq
  clear hW6
  go_wp2_with fail
  refine hct.mono ?_
  rintro e w7 ⟨rfl, haf⟩
  obtain ⟨F7, hTw7, hb67, -, -⟩ := hTw.step (hTw.la.after haf)
  have hb7 := hb6.trans hb67
  have hA7 := has_cut hAc cq
  have hB7 := has_cut hBc cq
  have hS7 : Mild ((Dk.new 16777216).begun.begun.cutAt cq) ∧ ((Dk.new 16777216).begun.begun.cutAt cq).room = 16777216 ∧ ((Dk.new 16777216).begun.begun.cutAt cq).bulk ≤ 100 := ⟨fun _ => rfl, rfl, by rw [bulk_cut]; decide⟩
  generalize (Dk.new 16777216).begun.begun.cutAt cq = S7 at *
  clear hct hTw hAc hBc haf hb6 hb67 hb4
  generalize X + 1 = Y at *
  go_wp2_with fail
  go_loopg [24, 25, 26] 40 (fun g i k n wr => ∃ (i1 k1 j : Nat) (F : Nat → Prop) (S : Dk) (La Lb : Lw) (ga gb : Value) (gsa gsb : List (List (List UInt8))), g = 40 - j ∧ i = .int .i64 (i1 : Int) ∧ k = .int .i64 (k1 : Int) ∧ n = .int .i64 (j : Int) ∧ i1 ≤ os1.length ∧ k1 ≤ os2.length ∧ j ≤ bs.length ∧ j ≤ 40 ∧ Two w.heap.size wr X Y d a b F S La Lb ga gb gsa gsb ∧ Has nmA S La gsa ∧ Has nmB S Lb gsb ∧ (Mild S ∧ S.room = 16777216 ∧ S.bulk ≤ 100 + j * 297840) ∧ (laid sum4 gsa).length ≤ 7264 * j ∧ (laid sum4 gsb).length ≤ 7264 * j ∧ gsa.length ≤ j ∧ gsb.length ≤ j ∧ Below w.heap.size w wr)
  case atStart => exact ⟨0, 0, 0, F7, S7, _, _, _, _, [], [], rfl, rfl, rfl, rfl, by omega, by omega, by omega, by omega, hTw7, hA7, hB7, ⟨hS7.1, hS7.2.1, by omega⟩, by rw [l0]; omega, by rw [l0]; omega, by simp, by simp, hb7⟩
  case round =>
    clear hTw7 hA7 hB7 hS7 hb7
    obtain ⟨i1, k1, j, F, S, La, Lb, ga, gb, gsa, gsb, rfl, rfl, rfl, rfl, i2, k2, j1, j2, hP, hA, hBh, ⟨hM, hR, hU⟩, hla, hlb, hna, hnb, bb⟩ := hrel
    have hok := hP.la.1.ok
    by_cases hlt : j < bs.length ∧ j < 40
    · obtain ⟨j3, j4⟩ := hlt
      obtain ⟨tb, toff, rfl, htB, htc⟩ := Tr.at (HTR.out.keep bb) j3
      generalize bs[j] = bj at htc
      have hcA : Chg (fun _ => False) wr (wr.alloc (.cells #[.int .i64 0, .slice none 0 0, .int .i64 0, .int .i64 0] 42)) := (Chg.refl _ wr).alloc _
      have hbA : Below w.heap.size wr (wr.alloc (.cells #[.int .i64 0, .slice none 0 0, .int .i64 0, .int .i64 0] 42)) := (Below.refl _ wr).alloc bb.size _
      have htc' := (hbA.cell (p := ⟨tb, toff + j, none⟩) htB).trans htc
      go_upto_region 19 with fail
      go_cut [122] from 101 to 216 (fun c wx => (∃ q, c = .bool q ∧ (q = true → i1 < os1.length)) ∧ wx = wr.alloc (.cells #[.int .i64 0, .slice none 0 0, .int .i64 0, .int .i64 0] 42))
      case first =>
        cases bj with
        | true =>
          by_cases hi1 : i1 < os1.length
          · go_wp2
            go_meet
            exact ⟨⟨_, rfl, fun _ => hi1⟩, rfl⟩
          · have hi1' : ¬ (i1 : Int) < (os1.length : Int) := by omega
            go_wp2
            go_meet
            exact ⟨⟨_, rfl, fun h => by simp at h⟩, rfl⟩
        | false =>
          go_wp2
          go_meet
          exact ⟨⟨_, rfl, fun h => by simp at h⟩, rfl⟩
      case rest =>
        obtain ⟨⟨bq, rfl, hbq⟩, hwc⟩ := hcut
        rw [hwc]
        clear hwc
        go_upto_if 122 with fail
        go_cut [24, 25, 27] from 101 to 216 (fun i k p wx => ∃ (i3 k3 : Nat) (kind nn tt : Int) (u : Value) (rs : List (List UInt8)), i = .int .i64 (i3 : Int) ∧ k = .int .i64 (k3 : Int) ∧ i3 ≤ os1.length ∧ k3 ≤ os2.length ∧ (p = .pointer (some ⟨X, 0, none⟩) ∨ p = .pointer (some ⟨Y, 0, none⟩)) ∧ wx.heap[wr.heap.size]? = some (.cells #[.int .i64 kind, u, .int .i64 nn, .int .i64 tt] 42) ∧ Tb w.heap.size wx u rs ∧ (-9223372036854775808 ≤ kind ∧ kind ≤ 9223372036854775807) ∧ (∀ r ∈ rs, r.length ≤ 140737488355328) ∧ Chg (fun _ => False) wr wx ∧ Below w.heap.size wr wx)
        case first =>
          cases bq with
          | true =>
            have hi1 := hbq rfl
            obtain ⟨ob, off, rfl, hbB, hop⟩ := Ob.at (HO1.out.keep bb) hi1
            obtain ⟨hsk, hsr⟩ := hs1 os1[i1] (List.getElem_mem hi1)
            generalize os1[i1] = o at hop hsk hsr
            obtain ⟨kind, rs, nn, tt⟩ := o
            obtain ⟨d0, ⟨u, d1, hu⟩, d2, d3⟩ := hop
            dsimp only at d0 d1 d2 d3 hu hsk hsr
            have e0 := (hbA.cell (p := ⟨ob, off + i1 * 4, none⟩) hbB).trans d0
            have e1 := (hbA.cell (p := ⟨ob, off + i1 * 4 + 1, none⟩) hbB).trans d1
            have e2 := (hbA.cell (p := ⟨ob, off + i1 * 4 + 2, none⟩) hbB).trans d2
            have e3 := (hbA.cell (p := ⟨ob, off + i1 * 4 + 3, none⟩) hbB).trans d3
            have hcq : Chg (fun _ => False) wr (wr.alloc (.cells #[.int .i64 kind, u, .int .i64 nn, .int .i64 tt] 42)) := (Chg.refl _ wr).alloc _
            have hbq' : Below w.heap.size wr (wr.alloc (.cells #[.int .i64 kind, u, .int .i64 nn, .int .i64 tt] 42)) := (Below.refl _ wr).alloc bb.size _
            have huq := hu.keep hbq'
            have hlq := heap_last wr (.cells #[.int .i64 kind, u, .int .i64 nn, .int .i64 tt] 42)
            obtain ⟨ua, uc, rfl, u1, u2, -⟩ := hu
            go_wp2
            go_meet
            exact ⟨i1 + 1, k1, kind, nn, tt, _, rs, by go_num, rfl, by omega, by omega, .inl rfl, hlq, huq, hsk, hsr, hcq, hbq'⟩
          | false =>
            by_cases hk1 : k1 < os2.length
            · obtain ⟨ob, off, rfl, hbB, hop⟩ := Ob.at (HO2.out.keep bb) hk1
              obtain ⟨hsk, hsr⟩ := hs2 os2[k1] (List.getElem_mem hk1)
              generalize os2[k1] = o at hop hsk hsr
              obtain ⟨kind, rs, nn, tt⟩ := o
              obtain ⟨d0, ⟨u, d1, hu⟩, d2, d3⟩ := hop
              dsimp only at d0 d1 d2 d3 hu hsk hsr
              have e0 := (hbA.cell (p := ⟨ob, off + k1 * 4, none⟩) hbB).trans d0
              have e1 := (hbA.cell (p := ⟨ob, off + k1 * 4 + 1, none⟩) hbB).trans d1
              have e2 := (hbA.cell (p := ⟨ob, off + k1 * 4 + 2, none⟩) hbB).trans d2
              have e3 := (hbA.cell (p := ⟨ob, off + k1 * 4 + 3, none⟩) hbB).trans d3
              have hcq : Chg (fun _ => False) wr (wr.alloc (.cells #[.int .i64 kind, u, .int .i64 nn, .int .i64 tt] 42)) := (Chg.refl _ wr).alloc _
              have hbq' : Below w.heap.size wr (wr.alloc (.cells #[.int .i64 kind, u, .int .i64 nn, .int .i64 tt] 42)) := (Below.refl _ wr).alloc bb.size _
              have huq := hu.keep hbq'
              have hlq := heap_last wr (.cells #[.int .i64 kind, u, .int .i64 nn, .int .i64 tt] 42)
              obtain ⟨ua, uc, rfl, u1, u2, -⟩ := hu
              go_wp2
              go_meet
              exact ⟨i1, k1 + 1, kind, nn, tt, _, rs, rfl, by go_num, by omega, by omega, .inr rfl, hlq, huq, hsk, hsr, hcq, hbq'⟩
            · have hk1' : ¬ (k1 : Int) < (os2.length : Int) := by omega
              have hlq := heap_last wr (.cells #[.int .i64 0, .slice none 0 0, .int .i64 0, .int .i64 0] 42)
              go_wp2
              go_meet
              exact ⟨i1, k1, 0, 0, 0, _, [], rfl, rfl, by omega, by omega, .inl rfl, hlq, ⟨none, 0, rfl, by simp, by simp, fun h => absurd rfl h⟩, by omega, by simp, hcA, hbA⟩
        case rest =>
          obtain ⟨i3, k3, kind, nn, tt, u, rs, rfl, rfl, i4, k4, hp, hq, hu, hkr, hrr, hcq, hbq'⟩ := hcut
          have hPc := hP.quiet hcq
          have hbc := bb.trans hbq'
          have q0 : wc.cell? ⟨wr.heap.size, 0, none⟩ = some (.int .i64 kind) := cell_of hq 0
          have q1 : wc.cell? ⟨wr.heap.size, 1, none⟩ = some u := cell_of hq 1
          have q2 : wc.cell? ⟨wr.heap.size, 2, none⟩ = some (.int .i64 nn) := cell_of hq 2
          have q3 : wc.cell? ⟨wr.heap.size, 3, none⟩ = some (.int .i64 tt) := cell_of hq 3
          have hgf := grp_few rs
          have hux := hu
          obtain ⟨ua, uc, rfl, u1, u2, -⟩ := hux
          have hqlt := lt_of_heap hq
          have hla2 := laid_then (pk kind 8) gsa (fewW rs)
          have hlb2 := laid_then (pk kind 8) gsb (fewW rs)
          have hna2 := gsThen_len (pk kind 8) gsa (fewW rs)
          have hnb2 := gsThen_len (pk kind 8) gsb (fewW rs)
          clear hP htc' hcA hbA hbq
          rcases hp with rfl | rfl
          · have hbeh := behind_any wc hPc.wx hPc.ra (by omega) kind nn tt hkr _ rs (hu.tx hbc.size) hrr
            go_wp2_with fail
            refine hbeh.mono ?_
            rintro e wb ⟨v', rfl, hrk, hbb⟩
            have hrk : Rk (Off F a b X Y) wb v' (gsThen (pk kind 8) gsa (fewW rs)) := hrk.mono (fun k _ h => h.elim id (fun h => hPc.since h))
            have hPb := hPc.quiet (chg_new hbb)
            have hbb' : Below w.heap.size w wb := hbc.trans (hbb.mono hbc.size)
            have p0 := (hbb.cell (p := ⟨wr.heap.size, 0, none⟩) hqlt).trans q0
            have p1 := (hbb.cell (p := ⟨wr.heap.size, 1, none⟩) hqlt).trans q1
            have p2 := (hbb.cell (p := ⟨wr.heap.size, 2, none⟩) hqlt).trans q2
            have p3 := (hbb.cell (p := ⟨wr.heap.size, 3, none⟩) hqlt).trans q3
            have hfine := lay_fine (rs := fewW rs) hA hM hok (isLg_nm nmA_ok).1 (isLg_nm nmA_ok).2 (pk kind 8) (fewW_right rs) (by omega)
            have hnear := lay_near S La (pk kind 8) (fewW rs)
            have hbulk := lay_bulk (rs := fewW rs) hA (pk kind 8)
            have hlaid := lay_has hA hok (isLg_nm nmA_ok).1 (pk kind 8) (fewW_right rs)
            have hother := has_layO (L := La) hBh hok (by rw [hA.1]; exact ab_ne.2.2.1) (by rw [hA.1]; exact ab_ne.2.2.2) (pk kind 8) (fewW rs)
            have hlay := lay_mild hPb.la hPb.wx hPb.XF hPb.Xl.1 kind nn tt hkr _ rs ((hu.keep (hbb.mono hbc.size)).tx hbb'.size) hrr hB0 (HT.out.keep hbb') (by omega) (wh_range hA (by omega)) hfine hnear.2
            clear hbeh hPc
            obtain ⟨va, vc, rfl⟩ := hrk.form
            go_wp2_with fail
            refine hlay.mono ?_
            rintro e wl ⟨rfl, hthen⟩
            obtain ⟨F5, hP5, hbl, hF5, hc5⟩ := hPb.step hthen
            have hrk5 := hrk.step hF5 hc5
            have hb5 := hbb'.trans hbl
            have hM5 := hnear.mild hM
            have hR5 : (layW (pk kind 8) S La (fewW rs)).1.room = 16777216 := hnear.1.2.2.trans hR
            have hok5 := hP5.la.1.ok
            clear hlay hthen hnear hPb hrk hc5
            generalize layW (pk kind 8) S La (fewW rs) = R at *
            generalize gsThen (pk kind 8) gsa (fewW rs) = gs7 at *
            rcases hfine with h0 | h0
            · have z1 : wl.cell? ⟨X, 2, none⟩ = some ga := cell_of hP5.wx 2
              have z2 : wl.frozen? ⟨X, 2, none⟩ = false := thawed hP5.wx 2
              obtain ⟨hP6, hb6⟩ := hP5.put hrk5
              have HP6 := hide hP6
              have HL := hide (hlaid.1 h0)
              clear hP6 hP5 hrk5 hlaid
              rw [h0]
              go_wp2_with fail
              go_roundg (40 - (j + 1))
              case measure => omega
              case rel => exact ⟨i3, k3, j + 1, F5, R.1, R.2.1, Lb, _, gb, gs7, gsb, rfl, rfl, rfl, by go_num, by omega, by omega, by omega, by omega, HP6.out, HL.out, hother, ⟨hM5, hR5, by omega⟩, by omega, by omega, by omega, by omega, hb5.trans hb6⟩
            · rw [h0]
              obtain ⟨gq, tq, hOq, hgq⟩ := laid_crash hlaid h0 hok5 keep torn
              obtain ⟨tp, hOo⟩ := has_crash hother hok5 keep torn
              have hcr := crash_lies hP5.la.1 hb5.size keep torn (by omega)
              have hbc5 := bulk_crash (S := R.1) keep torn
              have hcm := calm_crash (S := R.1) keep torn
              clear hlaid hother
              go_wp2_with fail
              refine hcr.mono ?_
              rintro e w6 ⟨d2, F2, rfl, hst6, hF6, hc6⟩
              generalize R.1.crash keep torn = S6 at *
              have hb6 := hb5.trans (hc6.below (fun _ h => h.elim) hb5.size)
              have hopa := open_on hst6 hOq (calm_on hcm) (hcm.2 _) nmA_ok hb6.size hB0 (HT.out.keep hb6) (by omega)
              have hopa : Calls Tryd.prog 15 #[.pointer (some ⟨d2, 0, none⟩), .string ⟨#[97]⟩] w6 _ := hopa
              clear hcr
              go_wp2_with fail
              refine hopa.mono ?_
              rintro e w7 ⟨l7, v7, F7, b7, rfl, hl7, lg7, hF7, hc7, hG7, hb7', hlb7, hFb7⟩
              have hb7 : Below w.heap.size w w7 := hb6.trans (hc7.below (fun k hk => (hst6.2.1 k hk).1) hb6.size)
              have hcm7 : Calm S6.begun := (alt_begun S6).calm hcm
              have hbg7 := bulk_begun' S6
              have hopb := open_on lg7.1 (hOo).begun (calm_on hcm7) (hcm7.2 _) nmB_ok hb7.size hB0 (HT.out.keep hb7) (by omega)
              have hopb : Calls Tryd.prog 15 #[.pointer (some ⟨d2, 0, none⟩), .string ⟨#[98]⟩] w7 _ := hopb
              have HG7 := hide hG7
              obtain ⟨a7, c7, rfl, -⟩ := hG7.form
              clear hopa hG7
              go_wp2_with fail
              refine hopb.mono ?_
              rintro e w8 ⟨l8, v8, F8, b8, rfl, hl8, lg8, hF8, hc8, hG8, -, -, -⟩
              have hb8 : Below w.heap.size w w8 := hb7.trans (hc8.below (fun k hk => (lg7.1.2.1 k hk).1) hb7.size)
              have hz6 := hc6.size
              have hz7 := hc7.size
              have h68 : Below wl.heap.size wl w8 := ((hc6.below (fun _ h => h.elim) (Nat.le_refl _)).trans (hc7.below (fun k hk => hF6 k hk) hz6)).trans (hc8.below (fun k hk => (hF7 k hk).elim (fun h => hF6 k h) (fun h => by omega)) (by omega))
              have r7 : Rs w8 _ gq := (HG7.out.chg hc8 (fun k hk h => by have := hFb7 k h; omega)).rs
              have r8 : Rs w8 _ gsb := hG8.rs
              have rga : Rs w8 ga gsa := (hP5.ra.keep (chg_new h68) (fun _ _ h => h)).rs
              have rgb : Rs w8 gb gsb := (hP5.rb.keep (chg_new h68) (fun _ _ h => h)).rs
              have hxX : X < wl.heap.size := lt_of_heap hP5.wx
              have hxY : Y < wl.heap.size := lt_of_heap hP5.wy
              have yX : w8.cell? ⟨X, 2, none⟩ = some ga := (h68.cell (p := ⟨X, 2, none⟩) hxX).trans (cell_of hP5.wx 2)
              have yY : w8.cell? ⟨Y, 2, none⟩ = some gb := (h68.cell (p := ⟨Y, 2, none⟩) hxY).trans (cell_of hP5.wy 2)
              obtain ⟨a8, c8, rfl, -⟩ := hG8.form
              have HL7 := hide lg7
              have HP5 := hide hP5
              have rth : Rs w8 _ gs7 := (hrk5.keep (chg_new h68) (fun _ _ h => h)).rs
              clear hopb hG8 lg7 lg8 hc8 hc7 hc6 hP5 hst6 HL7
              by_cases hqe : gq = gsa
              · have HQE := hide hqe
                clear hqe hgq
                have hsm0 := same_any w8 (.slice a7 gq.length c7) ga gq gsa r7 rga
                rw [decide_eq_true HQE.out] at hsm0
                go_wp2_with fail
                refine hsm0.mono ?_
                rintro e w9 ⟨rfl, hs0⟩
                have hsm1 := same_any w9 (.slice a8 gsb.length c8) gb gsb gsb (r8.quiet hs0) (rgb.quiet hs0)
                rw [decide_eq_true rfl] at hsm1
                have cc1 : w9.cell? ⟨Y, 2, none⟩ = some gb := quiet_cell (yY) hs0
                go_wp2_with fail
                refine hsm1.mono ?_
                rintro e w10 ⟨rfl, hs1⟩
                go_wp2
                go_ret
                exact ⟨rfl, ((hb8.trans (hs0.below (fun _ h => h.elim) hb8.size)).trans (hs1.below (fun _ h => h.elim) (hb8.trans (hs0.below (fun _ h => h.elim) hb8.size)).size))⟩
              · have HGQ := hide (hgq.resolve_left hqe)
                have HQE := hide hqe
                clear hqe hgq
                have hsm0 := same_any w8 (.slice a7 gq.length c7) ga gq gsa r7 rga
                rw [decide_eq_false HQE.out] at hsm0
                go_wp2_with fail
                refine hsm0.mono ?_
                rintro e w9 ⟨rfl, hs0⟩
                have hsm1 := same_any w9 (.slice a7 gq.length c7) (.slice va gs7.length vc) gq gs7 (r7.quiet hs0) (rth.quiet hs0)
                rw [decide_eq_true HGQ.out] at hsm1
                have hpe := eqW w9 X
                go_wp2_with fail
                refine hsm1.mono ?_
                rintro e w10 ⟨rfl, hs1⟩
                have hsm2 := same_any w10 (.slice a8 gsb.length c8) gb gsb gsb ((r8.quiet hs0).quiet hs1) ((rgb.quiet hs0).quiet hs1)
                rw [decide_eq_true rfl] at hsm2
                have cc2 : w10.cell? ⟨Y, 2, none⟩ = some gb := quiet_cell (quiet_cell (yY) hs0) hs1
                go_wp2_with fail
                refine hsm2.mono ?_
                rintro e w11 ⟨rfl, hs2⟩
                go_wp2
                go_ret
                exact ⟨rfl, (((hb8.trans (hs0.below (fun _ h => h.elim) hb8.size)).trans (hs1.below (fun _ h => h.elim) (hb8.trans (hs0.below (fun _ h => h.elim) hb8.size)).size)).trans (hs2.below (fun _ h => h.elim) ((hb8.trans (hs0.below (fun _ h => h.elim) hb8.size)).trans (hs1.below (fun _ h => h.elim) (hb8.trans (hs0.below (fun _ h => h.elim) hb8.size)).size)).size))⟩
          · have hbeh := behind_any wc hPc.wy hPc.rb (by omega) kind nn tt hkr _ rs (hu.tx hbc.size) hrr
            go_wp2_with fail
            refine hbeh.mono ?_
            rintro e wb ⟨v', rfl, hrk, hbb⟩
            have hrk : Rk (Off F a b X Y) wb v' (gsThen (pk kind 8) gsb (fewW rs)) := hrk.mono (fun k _ h => h.elim id (fun h => hPc.since h))
            have hPb := hPc.quiet (chg_new hbb)
            have hbb' : Below w.heap.size w wb := hbc.trans (hbb.mono hbc.size)
            have p0 := (hbb.cell (p := ⟨wr.heap.size, 0, none⟩) hqlt).trans q0
            have p1 := (hbb.cell (p := ⟨wr.heap.size, 1, none⟩) hqlt).trans q1
            have p2 := (hbb.cell (p := ⟨wr.heap.size, 2, none⟩) hqlt).trans q2
            have p3 := (hbb.cell (p := ⟨wr.heap.size, 3, none⟩) hqlt).trans q3
            have hfine := lay_fine (rs := fewW rs) hBh hM hok (isLg_nm nmB_ok).1 (isLg_nm nmB_ok).2 (pk kind 8) (fewW_right rs) (by omega)
            have hnear := lay_near S Lb (pk kind 8) (fewW rs)
            have hbulk := lay_bulk (rs := fewW rs) hBh (pk kind 8)
            have hlaid := lay_has hBh hok (isLg_nm nmB_ok).1 (pk kind 8) (fewW_right rs)
            have hother := has_layO (L := Lb) hA hok (by rw [hBh.1]; exact ab_ne.1) (by rw [hBh.1]; exact ab_ne.2.1) (pk kind 8) (fewW rs)
            have hlay := lay_mild hPb.lb hPb.wy hPb.YF hPb.Yl.2 kind nn tt hkr _ rs ((hu.keep (hbb.mono hbc.size)).tx hbb'.size) hrr hB0 (HT.out.keep hbb') (by omega) (wh_range hBh (by omega)) hfine hnear.2
            clear hbeh hPc
            obtain ⟨va, vc, rfl⟩ := hrk.form
            go_wp2_with fail
            refine hlay.mono ?_
            rintro e wl ⟨rfl, hthen⟩
            obtain ⟨F5, hP5, hbl, hF5, hc5⟩ := hPb.swap.step hthen
            have hrk5 := hrk.swap.step hF5 hc5
            have hb5 := hbb'.trans hbl
            have hM5 := hnear.mild hM
            have hR5 : (layW (pk kind 8) S Lb (fewW rs)).1.room = 16777216 := hnear.1.2.2.trans hR
            have hok5 := hP5.la.1.ok
            clear hlay hthen hnear hPb hrk hc5
            generalize layW (pk kind 8) S Lb (fewW rs) = R at *
            generalize gsThen (pk kind 8) gsb (fewW rs) = gs7 at *
            rcases hfine with h0 | h0
            · have z1 : wl.cell? ⟨Y, 2, none⟩ = some gb := cell_of hP5.wx 2
              have z2 : wl.frozen? ⟨Y, 2, none⟩ = false := thawed hP5.wx 2
              obtain ⟨hP6, hb6⟩ := hP5.put hrk5
              have HP6 := hide hP6
              have HL := hide (hlaid.1 h0)
              clear hP6 hP5 hrk5 hlaid
              rw [h0]
              go_wp2_with fail
              go_roundg (40 - (j + 1))
              case measure => omega
              case rel => exact ⟨i3, k3, j + 1, F5, R.1, La, R.2.1, ga, _, gsa, gs7, rfl, rfl, rfl, by go_num, by omega, by omega, by omega, by omega, HP6.out.swap, hother, HL.out, ⟨hM5, hR5, by omega⟩, by omega, by omega, by omega, by omega, hb5.trans hb6⟩
            · rw [h0]
              obtain ⟨gq, tq, hOq, hgq⟩ := laid_crash hlaid h0 hok5 keep torn
              obtain ⟨tp, hOo⟩ := has_crash hother hok5 keep torn
              have hcr := crash_lies hP5.la.1 hb5.size keep torn (by omega)
              have hbc5 := bulk_crash (S := R.1) keep torn
              have hcm := calm_crash (S := R.1) keep torn
              clear hlaid hother
              go_wp2_with fail
              refine hcr.mono ?_
              rintro e w6 ⟨d2, F2, rfl, hst6, hF6, hc6⟩
              generalize R.1.crash keep torn = S6 at *
              have hb6 := hb5.trans (hc6.below (fun _ h => h.elim) hb5.size)
              have hopa := open_on hst6 hOo (calm_on hcm) (hcm.2 _) nmA_ok hb6.size hB0 (HT.out.keep hb6) (by omega)
              have hopa : Calls Tryd.prog 15 #[.pointer (some ⟨d2, 0, none⟩), .string ⟨#[97]⟩] w6 _ := hopa
              clear hcr
              go_wp2_with fail
              refine hopa.mono ?_
              rintro e w7 ⟨l7, v7, F7, b7, rfl, hl7, lg7, hF7, hc7, hG7, hb7', hlb7, hFb7⟩
              have hb7 : Below w.heap.size w w7 := hb6.trans (hc7.below (fun k hk => (hst6.2.1 k hk).1) hb6.size)
              have hcm7 : Calm S6.begun := (alt_begun S6).calm hcm
              have hbg7 := bulk_begun' S6
              have hopb := open_on lg7.1 (hOq).begun (calm_on hcm7) (hcm7.2 _) nmB_ok hb7.size hB0 (HT.out.keep hb7) (by omega)
              have hopb : Calls Tryd.prog 15 #[.pointer (some ⟨d2, 0, none⟩), .string ⟨#[98]⟩] w7 _ := hopb
              have HG7 := hide hG7
              obtain ⟨a7, c7, rfl, -⟩ := hG7.form
              clear hopa hG7
              go_wp2_with fail
              refine hopb.mono ?_
              rintro e w8 ⟨l8, v8, F8, b8, rfl, hl8, lg8, hF8, hc8, hG8, -, -, -⟩
              have hb8 : Below w.heap.size w w8 := hb7.trans (hc8.below (fun k hk => (lg7.1.2.1 k hk).1) hb7.size)
              have hz6 := hc6.size
              have hz7 := hc7.size
              have h68 : Below wl.heap.size wl w8 := ((hc6.below (fun _ h => h.elim) (Nat.le_refl _)).trans (hc7.below (fun k hk => hF6 k hk) hz6)).trans (hc8.below (fun k hk => (hF7 k hk).elim (fun h => hF6 k h) (fun h => by omega)) (by omega))
              have r7 : Rs w8 _ gsa := (HG7.out.chg hc8 (fun k hk h => by have := hFb7 k h; omega)).rs
              have r8 : Rs w8 _ gq := hG8.rs
              have rga : Rs w8 ga gsa := (hP5.rb.keep (chg_new h68) (fun _ _ h => h)).rs
              have rgb : Rs w8 gb gsb := (hP5.ra.keep (chg_new h68) (fun _ _ h => h)).rs
              have hxX : X < wl.heap.size := lt_of_heap hP5.wy
              have hxY : Y < wl.heap.size := lt_of_heap hP5.wx
              have yX : w8.cell? ⟨X, 2, none⟩ = some ga := (h68.cell (p := ⟨X, 2, none⟩) hxX).trans (cell_of hP5.wy 2)
              have yY : w8.cell? ⟨Y, 2, none⟩ = some gb := (h68.cell (p := ⟨Y, 2, none⟩) hxY).trans (cell_of hP5.wx 2)
              obtain ⟨a8, c8, rfl, -⟩ := hG8.form
              have HL7 := hide lg7
              have HP5 := hide hP5
              have rth : Rs w8 _ gs7 := (hrk5.keep (chg_new h68) (fun _ _ h => h)).rs
              clear hopb hG8 lg7 lg8 hc8 hc7 hc6 hP5 hst6 HL7
              by_cases hqe : gq = gsb
              · have HQE := hide hqe
                clear hqe hgq
                have hsm0 := same_any w8 (.slice a7 gsa.length c7) ga gsa gsa r7 rga
                rw [decide_eq_true rfl] at hsm0
                go_wp2_with fail
                refine hsm0.mono ?_
                rintro e w9 ⟨rfl, hs0⟩
                have hsm1 := same_any w9 (.slice a8 gq.length c8) gb gq gsb (r8.quiet hs0) (rgb.quiet hs0)
                rw [decide_eq_true HQE.out] at hsm1
                have cc1 : w9.cell? ⟨Y, 2, none⟩ = some gb := quiet_cell (yY) hs0
                go_wp2_with fail
                refine hsm1.mono ?_
                rintro e w10 ⟨rfl, hs1⟩
                go_wp2
                go_ret
                exact ⟨rfl, ((hb8.trans (hs0.below (fun _ h => h.elim) hb8.size)).trans (hs1.below (fun _ h => h.elim) (hb8.trans (hs0.below (fun _ h => h.elim) hb8.size)).size))⟩
              · have HGQ := hide (hgq.resolve_left hqe)
                have HQE := hide hqe
                clear hqe hgq
                have hsm0 := same_any w8 (.slice a7 gsa.length c7) ga gsa gsa r7 rga
                rw [decide_eq_true rfl] at hsm0
                go_wp2_with fail
                refine hsm0.mono ?_
                rintro e w9 ⟨rfl, hs0⟩
                have hsm1 := same_any w9 (.slice a8 gq.length c8) gb gq gsb (r8.quiet hs0) (rgb.quiet hs0)
                rw [decide_eq_false HQE.out] at hsm1
                have cc1 : w9.cell? ⟨Y, 2, none⟩ = some gb := quiet_cell (yY) hs0
                go_wp2_with fail
                refine hsm1.mono ?_
                rintro e w10 ⟨rfl, hs1⟩
                have hsm2 := same_any w10 (.slice a8 gq.length c8) (.slice va gs7.length vc) gq gs7 ((r8.quiet hs0).quiet hs1) ((rth.quiet hs0).quiet hs1)
                rw [decide_eq_true HGQ.out] at hsm2
                have hpe := eqW w10 Y
                go_wp2_with fail
                refine hsm2.mono ?_
                rintro e w11 ⟨rfl, hs2⟩
                go_wp2
                go_ret
                exact ⟨rfl, (((hb8.trans (hs0.below (fun _ h => h.elim) hb8.size)).trans (hs1.below (fun _ h => h.elim) (hb8.trans (hs0.below (fun _ h => h.elim) hb8.size)).size)).trans (hs2.below (fun _ h => h.elim) ((hb8.trans (hs0.below (fun _ h => h.elim) hb8.size)).trans (hs1.below (fun _ h => h.elim) (hb8.trans (hs0.below (fun _ h => h.elim) hb8.size)).size)).size))⟩
    · by_cases hil : j < bs.length
      · obtain rfl : j = 40 := by omega
        have hct := cutAt_lies hP.la.1 bb.size (-1)
        go_wp2_with fail
        refine hct.mono ?_
        rintro e wl ⟨rfl, haf⟩
        obtain ⟨F5, hP5, hbl, -, -⟩ := hP.step (hP.la.after haf)
        have hb5 := bb.trans hbl
        have hok5 := hP5.la.1.ok
        have hbcut := bulk_cut S (-1)
        obtain ⟨tq, hOq⟩ := has_crash (has_cut hA (-1)) hok5 keep torn
        obtain ⟨tp, hOo⟩ := has_crash (has_cut hBh (-1)) hok5 keep torn
        have hcr := crash_lies hP5.la.1 hb5.size keep torn (by omega)
        have hbc5 := bulk_crash (S := S.cutAt (-1)) keep torn
        have hcm := calm_crash (S := S.cutAt (-1)) keep torn
        clear hct haf hP
        go_wp2_with fail
        refine hcr.mono ?_
        rintro e w6 ⟨d2, F2, rfl, hst6, hF6, hc6⟩
        generalize (S.cutAt (-1)).crash keep torn = S6 at *
        have hb6 := hb5.trans (hc6.below (fun _ h => h.elim) hb5.size)
        have hopa := open_on hst6 hOq (calm_on hcm) (hcm.2 _) nmA_ok hb6.size hB0 (HT.out.keep hb6) (by omega)
        have hopa : Calls Tryd.prog 15 #[.pointer (some ⟨d2, 0, none⟩), .string ⟨#[97]⟩] w6 _ := hopa
        clear hcr
        go_wp2_with fail
        refine hopa.mono ?_
        rintro e w7 ⟨l7, v7, F7, b7, rfl, hl7, lg7, hF7, hc7, hG7, hb7', hlb7, hFb7⟩
        have hb7 : Below w.heap.size w w7 := hb6.trans (hc7.below (fun k hk => (hst6.2.1 k hk).1) hb6.size)
        have hcm7 : Calm S6.begun := (alt_begun S6).calm hcm
        have hbg7 := bulk_begun' S6
        have hopb := open_on lg7.1 (hOo).begun (calm_on hcm7) (hcm7.2 _) nmB_ok hb7.size hB0 (HT.out.keep hb7) (by omega)
        have hopb : Calls Tryd.prog 15 #[.pointer (some ⟨d2, 0, none⟩), .string ⟨#[98]⟩] w7 _ := hopb
        have HG7 := hide hG7
        obtain ⟨a7, c7, rfl, -⟩ := hG7.form
        clear hopa hG7
        go_wp2_with fail
        refine hopb.mono ?_
        rintro e w8 ⟨l8, v8, F8, b8, rfl, hl8, lg8, hF8, hc8, hG8, -, -, -⟩
        have hb8 : Below w.heap.size w w8 := hb7.trans (hc8.below (fun k hk => (lg7.1.2.1 k hk).1) hb7.size)
        have hz6 := hc6.size
        have hz7 := hc7.size
        have h68 : Below wl.heap.size wl w8 := ((hc6.below (fun _ h => h.elim) (Nat.le_refl _)).trans (hc7.below (fun k hk => hF6 k hk) hz6)).trans (hc8.below (fun k hk => (hF7 k hk).elim (fun h => hF6 k h) (fun h => by omega)) (by omega))
        have r7 : Rs w8 _ gsa := (HG7.out.chg hc8 (fun k hk h => by have := hFb7 k h; omega)).rs
        have r8 : Rs w8 _ gsb := hG8.rs
        have rga : Rs w8 ga gsa := (hP5.ra.keep (chg_new h68) (fun _ _ h => h)).rs
        have rgb : Rs w8 gb gsb := (hP5.rb.keep (chg_new h68) (fun _ _ h => h)).rs
        have hxX : X < wl.heap.size := lt_of_heap hP5.wx
        have hxY : Y < wl.heap.size := lt_of_heap hP5.wy
        have yX : w8.cell? ⟨X, 2, none⟩ = some ga := (h68.cell (p := ⟨X, 2, none⟩) hxX).trans (cell_of hP5.wx 2)
        have yY : w8.cell? ⟨Y, 2, none⟩ = some gb := (h68.cell (p := ⟨Y, 2, none⟩) hxY).trans (cell_of hP5.wy 2)
        obtain ⟨a8, c8, rfl, -⟩ := hG8.form
        have HL7 := hide lg7
        have HP5 := hide hP5
        clear hopb hG8 lg7 lg8 hc8 hc7 hc6 hP5 hst6 HL7
        have hsm0 := same_any w8 (.slice a7 gsa.length c7) ga gsa gsa r7 rga
        rw [decide_eq_true rfl] at hsm0
        go_wp2_with fail
        refine hsm0.mono ?_
        rintro e w9 ⟨rfl, hs0⟩
        have hsm1 := same_any w9 (.slice a8 gsb.length c8) gb gsb gsb (r8.quiet hs0) (rgb.quiet hs0)
        rw [decide_eq_true rfl] at hsm1
        have cc1 : w9.cell? ⟨Y, 2, none⟩ = some gb := quiet_cell (yY) hs0
        go_wp2_with fail
        refine hsm1.mono ?_
        rintro e w10 ⟨rfl, hs1⟩
        go_wp2
        go_ret
        exact ⟨rfl, ((hb8.trans (hs0.below (fun _ h => h.elim) hb8.size)).trans (hs1.below (fun _ h => h.elim) (hb8.trans (hs0.below (fun _ h => h.elim) hb8.size)).size))⟩
      · obtain rfl : j = bs.length := by omega
        have hct := cutAt_lies hP.la.1 bb.size (-1)
        go_wp2_with fail
        refine hct.mono ?_
        rintro e wl ⟨rfl, haf⟩
        obtain ⟨F5, hP5, hbl, -, -⟩ := hP.step (hP.la.after haf)
        have hb5 := bb.trans hbl
        have hok5 := hP5.la.1.ok
        have hbcut := bulk_cut S (-1)
        obtain ⟨tq, hOq⟩ := has_crash (has_cut hA (-1)) hok5 keep torn
        obtain ⟨tp, hOo⟩ := has_crash (has_cut hBh (-1)) hok5 keep torn
        have hcr := crash_lies hP5.la.1 hb5.size keep torn (by omega)
        have hbc5 := bulk_crash (S := S.cutAt (-1)) keep torn
        have hcm := calm_crash (S := S.cutAt (-1)) keep torn
        clear hct haf hP
        go_wp2_with fail
        refine hcr.mono ?_
        rintro e w6 ⟨d2, F2, rfl, hst6, hF6, hc6⟩
        generalize (S.cutAt (-1)).crash keep torn = S6 at *
        have hb6 := hb5.trans (hc6.below (fun _ h => h.elim) hb5.size)
        have hopa := open_on hst6 hOq (calm_on hcm) (hcm.2 _) nmA_ok hb6.size hB0 (HT.out.keep hb6) (by omega)
        have hopa : Calls Tryd.prog 15 #[.pointer (some ⟨d2, 0, none⟩), .string ⟨#[97]⟩] w6 _ := hopa
        clear hcr
        go_wp2_with fail
        refine hopa.mono ?_
        rintro e w7 ⟨l7, v7, F7, b7, rfl, hl7, lg7, hF7, hc7, hG7, hb7', hlb7, hFb7⟩
        have hb7 : Below w.heap.size w w7 := hb6.trans (hc7.below (fun k hk => (hst6.2.1 k hk).1) hb6.size)
        have hcm7 : Calm S6.begun := (alt_begun S6).calm hcm
        have hbg7 := bulk_begun' S6
        have hopb := open_on lg7.1 (hOo).begun (calm_on hcm7) (hcm7.2 _) nmB_ok hb7.size hB0 (HT.out.keep hb7) (by omega)
        have hopb : Calls Tryd.prog 15 #[.pointer (some ⟨d2, 0, none⟩), .string ⟨#[98]⟩] w7 _ := hopb
        have HG7 := hide hG7
        obtain ⟨a7, c7, rfl, -⟩ := hG7.form
        clear hopa hG7
        go_wp2_with fail
        refine hopb.mono ?_
        rintro e w8 ⟨l8, v8, F8, b8, rfl, hl8, lg8, hF8, hc8, hG8, -, -, -⟩
        have hb8 : Below w.heap.size w w8 := hb7.trans (hc8.below (fun k hk => (lg7.1.2.1 k hk).1) hb7.size)
        have hz6 := hc6.size
        have hz7 := hc7.size
        have h68 : Below wl.heap.size wl w8 := ((hc6.below (fun _ h => h.elim) (Nat.le_refl _)).trans (hc7.below (fun k hk => hF6 k hk) hz6)).trans (hc8.below (fun k hk => (hF7 k hk).elim (fun h => hF6 k h) (fun h => by omega)) (by omega))
        have r7 : Rs w8 _ gsa := (HG7.out.chg hc8 (fun k hk h => by have := hFb7 k h; omega)).rs
        have r8 : Rs w8 _ gsb := hG8.rs
        have rga : Rs w8 ga gsa := (hP5.ra.keep (chg_new h68) (fun _ _ h => h)).rs
        have rgb : Rs w8 gb gsb := (hP5.rb.keep (chg_new h68) (fun _ _ h => h)).rs
        have hxX : X < wl.heap.size := lt_of_heap hP5.wx
        have hxY : Y < wl.heap.size := lt_of_heap hP5.wy
        have yX : w8.cell? ⟨X, 2, none⟩ = some ga := (h68.cell (p := ⟨X, 2, none⟩) hxX).trans (cell_of hP5.wx 2)
        have yY : w8.cell? ⟨Y, 2, none⟩ = some gb := (h68.cell (p := ⟨Y, 2, none⟩) hxY).trans (cell_of hP5.wy 2)
        obtain ⟨a8, c8, rfl, -⟩ := hG8.form
        have HL7 := hide lg7
        have HP5 := hide hP5
        clear hopb hG8 lg7 lg8 hc8 hc7 hc6 hP5 hst6 HL7
        have hsm0 := same_any w8 (.slice a7 gsa.length c7) ga gsa gsa r7 rga
        rw [decide_eq_true rfl] at hsm0
        go_wp2_with fail
        refine hsm0.mono ?_
        rintro e w9 ⟨rfl, hs0⟩
        have hsm1 := same_any w9 (.slice a8 gsb.length c8) gb gsb gsb (r8.quiet hs0) (rgb.quiet hs0)
        rw [decide_eq_true rfl] at hsm1
        have cc1 : w9.cell? ⟨Y, 2, none⟩ = some gb := quiet_cell (yY) hs0
        go_wp2_with fail
        refine hsm1.mono ?_
        rintro e w10 ⟨rfl, hs1⟩
        go_wp2
        go_ret
        exact ⟨rfl, ((hb8.trans (hs0.below (fun _ h => h.elim) hb8.size)).trans (hs1.below (fun _ h => h.elim) (hb8.trans (hs0.below (fun _ h => h.elim) hb8.size)).size))⟩
end Go.Proofs.YtjmhgkigadkeaaaDoor
