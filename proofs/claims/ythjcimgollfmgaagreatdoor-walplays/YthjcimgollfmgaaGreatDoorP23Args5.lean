/-
  Texts joined: Args5, Beside1, Lasts1, Fails1, AnsPure.
-/
import Derived.Test.YthjcimgollfmgaaGreatDoorP21Shown2
import Derived.Test.YthjcimgollfmgaaGreatDoorP22LayMild
/-
  What came in: calls, truths, in memory that was there when the law began. No condition.
-/
namespace Go.Proofs.YthjcimgollfmgaaGreatDoor
open Go.RowKit
variable {B : Nat} {w w' : World}

/-- A slice of texts, below B. -/
def Tb (B : Nat) (w : World) (v : Value) (ks : List (List UInt8)) : Prop :=
  ∃ ao cap, v = .slice ao ks.length cap ∧ ks.length ≤ cap ∧ cap ≤ maxLen ∧ (ks ≠ [] → ∃ b off, ao = some ⟨b, off, none⟩ ∧ b < B ∧ ∀ j (h : j < ks.length), w.cell? ⟨b, off + j, none⟩ = some (.string (strB ks[j])))
theorem Tb.keep {v : Value} {ks : List (List UInt8)} (h : Tb B w v ks) (hb : Below B w w') : Tb B w' v ks := by
  obtain ⟨ao, cap, hv, h1, h2, h4⟩ := h
  refine ⟨ao, cap, hv, h1, h2, fun hl => ?_⟩
  obtain ⟨b, off, ha, hlt, hc⟩ := h4 hl
  exact ⟨b, off, ha, hlt, fun j hj => (hb.cell (p := ⟨b, off + j, none⟩) hlt).trans (hc j hj)⟩
theorem Tb.tx {v : Value} {ks : List (List UInt8)} (h : Tb B w v ks) (hB : B ≤ w.heap.size) : Tx w v ks := by
  obtain ⟨ao, cap, hv, h1, h2, h4⟩ := h
  refine ⟨ao, cap, hv, h1, h2, fun hl => ?_⟩
  obtain ⟨b, off, ha, hlt, hc⟩ := h4 hl
  exact ⟨b, off, ha, Nat.lt_of_lt_of_le hlt hB, hc⟩
structure Oq where
  kind : Int
  recs : List (List UInt8)
  n : Int
  torn : Int
/-- One call, its four cells from here on. -/
def OpAt (B : Nat) (w : World) (b off : Nat) (o : Oq) : Prop :=
  w.cell? ⟨b, off, none⟩ = some (.int .i64 o.kind) ∧ (∃ u, w.cell? ⟨b, off + 1, none⟩ = some u ∧ Tb B w u o.recs) ∧ w.cell? ⟨b, off + 2, none⟩ = some (.int .i64 o.n) ∧ w.cell? ⟨b, off + 3, none⟩ = some (.int .i64 o.torn)
theorem OpAt.keep {b off : Nat} {o : Oq} (h : OpAt B w b off o) (hb : Below B w w') (hlt : b < B) : OpAt B w' b off o := by
  obtain ⟨h0, ⟨u, h3, h3'⟩, h1, h2⟩ := h
  have k := fun (i : Nat) => hb.cell (p := ⟨b, i, none⟩) hlt
  exact ⟨(k _).trans h0, ⟨u, (k _).trans h3, h3'.keep hb⟩, (k _).trans h1, (k _).trans h2⟩
/-- Calls. -/
def Ob (B : Nat) (w : World) (v : Value) (os : List Oq) : Prop :=
  ∃ ao cap, v = .slice ao os.length cap ∧ os.length ≤ cap ∧ cap ≤ maxLen ∧ (os ≠ [] → ∃ b off, ao = some ⟨b, off, none⟩ ∧ b < B ∧ ∀ j (h : j < os.length), OpAt B w b (off + j * 4) os[j])
theorem Ob.keep {v : Value} {os : List Oq} (h : Ob B w v os) (hb : Below B w w') : Ob B w' v os := by
  obtain ⟨ao, cap, hv, h1, h2, h4⟩ := h
  refine ⟨ao, cap, hv, h1, h2, fun hl => ?_⟩
  obtain ⟨b, off, ha, hlt, hc⟩ := h4 hl
  exact ⟨b, off, ha, hlt, fun j hj => (hc j hj).keep hb hlt⟩
theorem Ob.at {ao : Option Addr} {n cap : Nat} {os : List Oq} (h : Ob B w (.slice ao n cap) os) {j : Nat} (hj : j < os.length) : ∃ b off, ao = some ⟨b, off, none⟩ ∧ b < B ∧ OpAt B w b (off + j * 4) os[j] := by
  obtain ⟨ao', cap', hv, h1, h2, h4⟩ := h
  injection hv with e1 e2 e3
  subst e1 e2 e3
  obtain ⟨b, off, ha, hlt, hc⟩ := h4 (by rintro rfl; simp at hj)
  exact ⟨b, off, ha, hlt, hc j hj⟩
/-- A slice of truths, below B. -/
def Tr (B : Nat) (w : World) (v : Value) (bs : List Bool) : Prop :=
  ∃ ao cap, v = .slice ao bs.length cap ∧ bs.length ≤ cap ∧ cap ≤ maxLen ∧ (bs ≠ [] → ∃ b off, ao = some ⟨b, off, none⟩ ∧ b < B ∧ ∀ j (h : j < bs.length), w.cell? ⟨b, off + j, none⟩ = some (.bool bs[j]))
theorem Tr.keep {v : Value} {bs : List Bool} (h : Tr B w v bs) (hb : Below B w w') : Tr B w' v bs := by
  obtain ⟨ao, cap, hv, h1, h2, h4⟩ := h
  refine ⟨ao, cap, hv, h1, h2, fun hl => ?_⟩
  obtain ⟨b, off, ha, hlt, hc⟩ := h4 hl
  exact ⟨b, off, ha, hlt, fun j hj => (hb.cell (p := ⟨b, off + j, none⟩) hlt).trans (hc j hj)⟩
theorem Tr.at {ao : Option Addr} {n cap : Nat} {bs : List Bool} (h : Tr B w (.slice ao n cap) bs) {j : Nat} (hj : j < bs.length) : ∃ b off, ao = some ⟨b, off, none⟩ ∧ b < B ∧ w.cell? ⟨b, off + j, none⟩ = some (.bool bs[j]) := by
  obtain ⟨ao', cap', hv, h1, h2, h4⟩ := h
  injection hv with e1 e2 e3
  subst e1 e2 e3
  obtain ⟨b, off, ha, hlt, hc⟩ := h4 (by rintro rfl; simp at hj)
  exact ⟨b, off, ha, hlt, hc j hj⟩
/-- Every number is an int, no record is too long. -/
def Small (os : List Oq) : Prop := ∀ o ∈ os, (-9223372036854775808 ≤ o.kind ∧ o.kind ≤ 9223372036854775807) ∧ ∀ r ∈ o.recs, r.length ≤ 140737488355328
theorem grp_few (rs : List (List UInt8)) : (grp sum4 (fewW rs)).length ≤ 7264 := by
  rw [grp_len]
  have h1 := body_len (fewW rs) (fun r hr => Nat.le_trans (fewW_each rs r hr) (by omega))
  have h2 := sum_each (fewW_each rs)
  have h3 := fewW_len rs
  omega
theorem laid_then (kd : Int) (gs : List (List (List UInt8))) (rs : List (List UInt8)) : (laid sum4 (gsThen kd gs rs)).length ≤ (laid sum4 gs).length + (grp sum4 rs).length := by
  unfold gsThen
  split
  · have := laid_len [] rs
    rw [l0] at this
    simp only [List.nil_append] at this
    omega
  · rw [laid_len]
    omega
theorem bytes_calm {F : Nat → Prop} {d l : Nat} {z : Nm} {gs : List (List (List UInt8))} {m M : Nat} (h : Calmly B w F d l z gs m M) : Calls Tryz.prog 21 #[.pointer (some ⟨l, 0, none⟩)] w fun e w' => e = .returned (.int .i64 ((laid sum4 gs).length : Int)) ∧ w' = w := by
  obtain ⟨S, L, hg, hh, -⟩ := h
  obtain ⟨-, tail, -, h1, -⟩ := hh
  have := bytes_lg hg
  rw [h1] at this
  exact this
end Go.Proofs.YthjcimgollfmgaaGreatDoor

/-
  Two logs on one disk, each in a world of the law's: what stays when the one does something. Conditions: none beyond the facts named.
-/
namespace Go.Proofs.YthjcimgollfmgaaGreatDoor
open Go.RowKit
variable {B : Nat} {w w' : World} {F F' : Nat → Prop} {X Y d a b : Nat} {S S' : Dk} {La Lb La' : Lw} {ga gb v : Value} {gsa gsb gs : List (List (List UInt8))} {z : Nm}

def nmA : Nm := [97]
def nmB : Nm := [98]
theorem nmA_ok : isLg nmA = true := by decide
theorem nmB_ok : isLg nmB = true := by decide
theorem ab_ne : nmA ≠ nmB ∧ nmA ≠ nmB ++ anewB ∧ nmB ≠ nmA ∧ nmB ≠ nmA ++ anewB := by decide
/-- Open on a disk that holds these groups. -/
theorem open_on {tail : List UInt8} (h : Stands B w F d S) (ho : On z S gs tail) (hon : S.on = true) (hf : S.fails S.n = false) (hz : isLg z = true) (hB : B ≤ w.heap.size) (hB0 : 0 < B) (hT : TabW w) (hb : S.bulk < 1000000000) :
    Calls Tryz.prog 10 #[.pointer (some ⟨d, 0, none⟩), .string (strB z)] w fun e w' => ∃ l v F' b1, e = .returned (.tuple #[.pointer (some ⟨l, 0, none⟩), v, .int .i64 0]) ∧ w.heap.size ≤ l ∧
      Lg B w' F' d l S.begun ⟨z, false, ((laid sum4 gs).length : Int), ((laid sum4 gs ++ tail).length : Int)⟩ ∧ (∀ k, F' k → F k ∨ w.heap.size ≤ k) ∧ Chg F w w' ∧ Gs w' b1 v gs ∧ w.heap.size ≤ b1 ∧ l < b1 ∧ ∀ k, F' k → k < b1 := by
  have hnm := isLg_nm hz
  have hlk := ho.look hnm.1 hon hf
  refine (open_lg h hB hB0 hT hb z hz).mono ?_
  rintro e w' ⟨x, v, rfl, hO⟩
  rw [hlk] at hO ⊢
  obtain ⟨l, F', b1, rfl, h1, h2, h3, h4, h5, h6, h7, h8⟩ := hO
  exact ⟨l, v, F', b1, rfl, h1, h2, h3, h4, h5, h6, h7, h8⟩
/-- Apart from disk, logs and worlds. -/
def Off (F : Nat → Prop) (a b X Y : Nat) (k : Nat) : Prop := ¬ F k ∧ k ≠ a ∧ k ≠ b ∧ k ≠ X ∧ k ≠ Y
structure Two (B : Nat) (w : World) (X Y d a b : Nat) (F : Nat → Prop) (S : Dk) (La Lb : Lw) (ga gb : Value) (gsa gsb : List (List (List UInt8))) : Prop where
  wx : WorldAt w X d a ga (.slice none 0 0) false
  wy : WorldAt w Y d b gb (.slice none 0 0) false
  la : Lg B w F d a S La
  lb : Lg B w F d b S Lb
  ra : Rk (Off F a b X Y) w ga gsa
  rb : Rk (Off F a b X Y) w gb gsb
  ab : a ≠ b
  XF : ¬ F X
  YF : ¬ F Y
  Xl : X ≠ a ∧ X ≠ b
  Yl : Y ≠ a ∧ Y ≠ b
  XY : X ≠ Y
  low : B ≤ X ∧ B ≤ Y
theorem Off.swap {k : Nat} (h : Off F a b X Y k) : Off F b a Y X k := ⟨h.1, h.2.2.1, h.2.1, h.2.2.2.2, h.2.2.2.1⟩
theorem Rk.swap (h : Rk (Off F a b X Y) w v gs) : Rk (Off F b a Y X) w v gs := h.mono fun _ _ h => h.swap
theorem Two.swap (h : Two B w X Y d a b F S La Lb ga gb gsa gsb) : Two B w Y X d b a F S Lb La gb ga gsb gsa :=
  ⟨h.wy, h.wx, h.lb, h.la, h.rb.swap, h.ra.swap, h.ab.symm, h.YF, h.XF, ⟨h.Yl.2, h.Yl.1⟩, ⟨h.Xl.2, h.Xl.1⟩, h.XY.symm, ⟨h.low.2, h.low.1⟩⟩
theorem Two.quiet (h : Two B w X Y d a b F S La Lb ga gb gsa gsb) (hc : Chg (fun _ => False) w w') : Two B w' X Y d a b F S La Lb ga gb gsa gsb :=
  ⟨h.wx.keep hc (fun h => h), h.wy.keep hc (fun h => h), h.la.keep hc (fun _ _ h => h) (fun h => h), h.lb.keep hc (fun _ _ h => h) (fun h => h), h.ra.keep hc (fun _ _ h => h), h.rb.keep hc (fun _ _ h => h), h.ab, h.XF, h.YF, h.Xl, h.Yl, h.XY, h.low⟩
theorem Two.small (h : Two B w X Y d a b F S La Lb ga gb gsa gsb) : (∀ k, F k → k < w.heap.size) ∧ a < w.heap.size ∧ b < w.heap.size ∧ X < w.heap.size ∧ Y < w.heap.size := ⟨fun k hk => (h.la.1.2.1 k hk).2, h.la.lt, h.lb.lt, lt_of_heap h.wx, lt_of_heap h.wy⟩
/-- What was made since is apart. -/
theorem Two.since (h : Two B w X Y d a b F S La Lb ga gb gsa gsb) {k : Nat} (hk : w.heap.size ≤ k) : Off F a b X Y k := by
  have hs := h.small
  exact ⟨fun hf => by have := hs.1 k hf; omega, by omega, by omega, by omega, by omega⟩
theorem Rk.step (h : Rk (Off F a b X Y) w v gs) (hF : ∀ k, F' k → F k ∨ w.heap.size ≤ k) (hc : Chg (fun k => F k ∨ k = a) w w') : Rk (Off F' a b X Y) w' v gs := by
  refine (h.mono (Q := fun k => Off F a b X Y k ∧ ¬ F' k) fun k hk ho => ⟨ho, fun hf => (hF k hf).elim ho.1 (fun h => by omega)⟩).keep hc (fun k ho hx => hx.elim ho.1.1 ho.1.2.1) |>.mono ?_
  intro k _ ho
  exact ⟨ho.2, ho.1.2⟩
theorem Two.step (h : Two B w X Y d a b F S La Lb ga gb gsa gsb) (hl : Then B w F d a S' La' w') : ∃ F', Two B w' X Y d a b F' S' La' Lb ga gb gsa gsb ∧ Below B w w' ∧ (∀ k, F' k → F k ∨ w.heap.size ≤ k) ∧ Chg (fun k => F k ∨ k = a) w w' := by
  have hbl := hl.below h.la
  obtain ⟨F', hg, hF, hc⟩ := hl
  have hs := h.small
  have ap : ∀ {k : Nat}, k < w.heap.size → ¬ F k → ¬ F' k := fun hk hn hf => (hF _ hf).elim hn (fun h => by omega)
  exact ⟨F', ⟨h.wx.keep hc (fun e => e.elim h.XF h.Xl.1), h.wy.keep hc (fun e => e.elim h.YF h.Yl.1), hg, ⟨hg.1, h.lb.2.1.keep hc (fun e => e.elim h.lb.2.2.1 (fun e => h.ab e.symm)), ap hs.2.2.1 h.lb.2.2.1, h.lb.2.2.2⟩, h.ra.step hF hc, h.rb.step hF hc, h.ab, ap hs.2.2.2.1 h.XF, ap hs.2.2.2.2 h.YF, h.Xl, h.Yl, h.XY, h.low⟩, hbl, hF, hc⟩
/-- The world's groups are noted anew. -/
theorem Two.put (h : Two B w X Y d a b F S La Lb ga gb gsa gsb) (hr : Rk (Off F a b X Y) w v gs) : Two B (w.setCell ⟨X, 2, none⟩ v) X Y d a b F S La Lb v gb gs gsb ∧ Below B w (w.setCell ⟨X, 2, none⟩ v) := by
  have hg : Chg (· = X) w (w.setCell ⟨X, 2, none⟩ v) := (Chg.refl (· = X) w).setCell (p := ⟨X, 2, none⟩) (Or.inl rfl) _
  refine ⟨⟨heap_set h.wx 2 v, h.wy.keep hg (fun e => h.XY e.symm), h.la.keep hg (fun k hk e => h.XF (e ▸ hk)) (fun e => h.Xl.1 e.symm), h.lb.keep hg (fun k hk e => h.XF (e ▸ hk)) (fun e => h.Xl.2 e.symm), hr.keep hg (fun k ho e => ho.2.2.2.1 e), h.rb.keep hg (fun k ho e => ho.2.2.2.1 e), h.ab, h.XF, h.YF, h.Xl, h.Yl, h.XY, h.low⟩, ?_⟩
  exact hg.below (fun k e => by rw [e]; exact h.low.1) h.la.size
end Go.Proofs.YthjcimgollfmgaaGreatDoor

/-
  Lives that came in; one log in a world of the law's. Conditions: none beyond the facts named.
-/
namespace Go.Proofs.YthjcimgollfmgaaGreatDoor
open Go.RowKit
variable {B : Nat} {w w' : World} {F F' : Nat → Prop} {X d a : Nat} {S S' : Dk} {La La' : Lw} {ga v : Value} {gsa gs : List (List (List UInt8))} {z : Nm}

/-- A life: calls, at which operation the power goes, which acts stay. -/
structure Lq where
  calls : List Oq
  cut : Int
  keep : Int
  torn : Int
def LifeAt (B : Nat) (w : World) (b off : Nat) (x : Lq) : Prop :=
  (∃ u, w.cell? ⟨b, off, none⟩ = some u ∧ Ob B w u x.calls) ∧ w.cell? ⟨b, off + 1, none⟩ = some (.int .i64 x.cut) ∧ w.cell? ⟨b, off + 2, none⟩ = some (.int .i64 x.keep) ∧ w.cell? ⟨b, off + 3, none⟩ = some (.int .i64 x.torn)
theorem LifeAt.keep' {b off : Nat} {o : Lq} (h : LifeAt B w b off o) (hb : Below B w w') (hlt : b < B) : LifeAt B w' b off o := by
  obtain ⟨⟨u, h3, h3'⟩, h0, h1, h2⟩ := h
  have k := fun (i : Nat) => hb.cell (p := ⟨b, i, none⟩) hlt
  exact ⟨⟨u, (k _).trans h3, h3'.keep hb⟩, (k _).trans h0, (k _).trans h1, (k _).trans h2⟩
def Lv (B : Nat) (w : World) (v : Value) (xs : List Lq) : Prop :=
  ∃ ao cap, v = .slice ao xs.length cap ∧ xs.length ≤ cap ∧ cap ≤ maxLen ∧ (xs ≠ [] → ∃ b off, ao = some ⟨b, off, none⟩ ∧ b < B ∧ ∀ j (h : j < xs.length), LifeAt B w b (off + j * 4) xs[j])
theorem Lv.keep {v : Value} {xs : List Lq} (h : Lv B w v xs) (hb : Below B w w') : Lv B w' v xs := by
  obtain ⟨ao, cap, hv, h1, h2, h4⟩ := h
  refine ⟨ao, cap, hv, h1, h2, fun hl => ?_⟩
  obtain ⟨b, off, ha, hlt, hc⟩ := h4 hl
  exact ⟨b, off, ha, hlt, fun j hj => (hc j hj).keep' hb hlt⟩
theorem Lv.at {ao : Option Addr} {n cap : Nat} {xs : List Lq} (h : Lv B w (.slice ao n cap) xs) {j : Nat} (hj : j < xs.length) : ∃ b off, ao = some ⟨b, off, none⟩ ∧ b < B ∧ LifeAt B w b (off + j * 4) xs[j] := by
  obtain ⟨ao', cap', hv, h1, h2, h4⟩ := h
  injection hv with e1 e2 e3
  subst e1 e2 e3
  obtain ⟨b, off, ha, hlt, hc⟩ := h4 (by rintro rfl; simp at hj)
  exact ⟨b, off, ha, hlt, hc j hj⟩
def SmallL (xs : List Lq) : Prop := ∀ x ∈ xs, Small x.calls ∧ (-9223372036854775808 ≤ x.cut ∧ x.cut ≤ 9223372036854775807)

/-- Apart from disk, log and world. -/
def Off1 (F : Nat → Prop) (a X : Nat) (k : Nat) : Prop := ¬ F k ∧ k ≠ a ∧ k ≠ X
structure One (B : Nat) (w : World) (X d a : Nat) (F : Nat → Prop) (S : Dk) (La : Lw) (ga : Value) (gsa : List (List (List UInt8))) : Prop where
  wx : WorldAt w X d a ga (.slice none 0 0) false
  la : Lg B w F d a S La
  ra : Rk (Off1 F a X) w ga gsa
  XF : ¬ F X
  Xl : X ≠ a
  low : B ≤ X
theorem One.quiet (h : One B w X d a F S La ga gsa) (hc : Chg (fun _ => False) w w') : One B w' X d a F S La ga gsa :=
  ⟨h.wx.keep hc (fun h => h), h.la.keep hc (fun _ _ h => h) (fun h => h), h.ra.keep hc (fun _ _ h => h), h.XF, h.Xl, h.low⟩
theorem One.small (h : One B w X d a F S La ga gsa) : (∀ k, F k → k < w.heap.size) ∧ a < w.heap.size ∧ X < w.heap.size := ⟨fun k hk => (h.la.1.2.1 k hk).2, h.la.lt, lt_of_heap h.wx⟩
/-- What was made since is apart. -/
theorem One.since (h : One B w X d a F S La ga gsa) {k : Nat} (hk : w.heap.size ≤ k) : Off1 F a X k := by
  have hs := h.small
  exact ⟨fun hf => by have := hs.1 k hf; omega, by omega, by omega⟩
theorem Rk.step1 (h : Rk (Off1 F a X) w v gs) (hF : ∀ k, F' k → F k ∨ w.heap.size ≤ k) (hc : Chg (fun k => F k ∨ k = a) w w') : Rk (Off1 F' a X) w' v gs := by
  refine (h.mono (Q := fun k => Off1 F a X k ∧ ¬ F' k) fun k hk ho => ⟨ho, fun hf => (hF k hf).elim ho.1 (fun h => by omega)⟩).keep hc (fun k ho hx => hx.elim ho.1.1 ho.1.2.1) |>.mono ?_
  intro k _ ho
  exact ⟨ho.2, ho.1.2⟩
theorem One.step (h : One B w X d a F S La ga gsa) (hl : Then B w F d a S' La' w') : ∃ F', One B w' X d a F' S' La' ga gsa ∧ Below B w w' ∧ (∀ k, F' k → F k ∨ w.heap.size ≤ k) ∧ Chg (fun k => F k ∨ k = a) w w' := by
  have hbl := hl.below h.la
  obtain ⟨F', hg, hF, hc⟩ := hl
  have hs := h.small
  have ap : ∀ {k : Nat}, k < w.heap.size → ¬ F k → ¬ F' k := fun hk hn hf => (hF _ hf).elim hn (fun h => by omega)
  exact ⟨F', ⟨h.wx.keep hc (fun e => e.elim h.XF h.Xl), hg, h.ra.step1 hF hc, ap hs.2.2 h.XF, h.Xl, h.low⟩, hbl, hF, hc⟩
/-- The world's groups are noted anew. -/
theorem One.put (h : One B w X d a F S La ga gsa) (hr : Rk (Off1 F a X) w v gs) : One B (w.setCell ⟨X, 2, none⟩ v) X d a F S La v gs ∧ Below B w (w.setCell ⟨X, 2, none⟩ v) := by
  have hg : Chg (· = X) w (w.setCell ⟨X, 2, none⟩ v) := (Chg.refl (· = X) w).setCell (p := ⟨X, 2, none⟩) (Or.inl rfl) _
  refine ⟨⟨heap_set h.wx 2 v, h.la.keep hg (fun k hk e => h.XF (e ▸ hk)) (fun e => h.Xl e.symm), hr.keep hg (fun k ho e => ho.2.2 e), h.XF, h.Xl, h.low⟩, ?_⟩
  exact hg.below (fun k e => by rw [e]; exact h.low) h.la.size
theorem gsThen_len1 (kd : Int) (gs : List (List (List UInt8))) (rs : List (List UInt8)) : (gsThen kd gs rs).length ≤ gs.length + 1 := by
  unfold gsThen
  split <;> simp
theorem mild_cut1 {S : Dk} (h : Mild S) (op : Int) : Mild (S.cutAt op) := h
theorem bulk_cut1 (S : Dk) (op : Int) : (S.cutAt op).bulk = S.bulk := rfl
theorem room_cut1 (S : Dk) (op : Int) : (S.cutAt op).room = S.room := rfl
theorem room_crash1 (S : Dk) (keep t : Int) : (S.crash keep t).room = S.room := rfl
theorem has_cut1 {z : Nm} {S : Dk} {L : Lw} {gs : List (List (List UInt8))} (h : Has z S L gs) (op : Int) : Has z (S.cutAt op) L gs := by
  obtain ⟨h1, tail, ⟨h2, h3, h4⟩, h5⟩ := h
  refine ⟨h1, tail, ⟨h2, h3, ?_⟩, h5⟩
  rcases h4 with ⟨h4, e⟩ | ⟨f, h4⟩
  · exact .inl ⟨⟨h4.lookS, h4.lookD, h4.acts⟩, e⟩
  · exact .inr ⟨f, h4.lookS, h4.lookD, h4.acts, h4.file⟩
theorem has_crash1 {z : Nm} {S : Dk} {L : Lw} {gs : List (List (List UInt8))} (h : Has z S L gs) (hk : Ok S) (keep t : Int) : ∃ tail, On z (S.crash keep t) gs tail := by
  obtain ⟨h1, tail, h2, -⟩ := h
  exact ⟨tail, h2.crash hk keep t⟩
/-- What a crash leaves: the old groups, or the new ones. -/
def Either (z : Nm) (S : Dk) (old new : List (List (List UInt8))) : Prop := ∀ keep t, ∃ gq tail, On z (S.crash keep t) gq tail ∧ (gq = old ∨ gq = new)
theorem either_has {z : Nm} {S : Dk} {L : Lw} {gs new : List (List (List UInt8))} (h : Has z S L gs) (hk : Ok S) : Either z S gs new := fun keep t => by
  obtain ⟨tail, h1⟩ := has_crash1 h hk keep t
  exact ⟨gs, tail, h1, .inl rfl⟩
theorem either_laid {z : Nm} {R : Dk × Lw × Int} {old new : List (List (List UInt8))} (h : Laid z R old new) (h0 : R.2.2 = 35) (hk : Ok R.1) : Either z R.1 old new := fun keep t => by
  rcases h.2 (by rw [h0]; decide) with h1 | ⟨-, h1⟩
  · exact either_has h1 hk keep t
  · obtain ⟨tail, h2 | h2⟩ := h1 keep t
    · exact ⟨old, tail, h2, .inl rfl⟩
    · exact ⟨new, tail, h2, .inr rfl⟩
end Go.Proofs.YthjcimgollfmgaaGreatDoor

/-
  FailAt, SetRoom of a disk that stands (disk's own texts, at a seat that has them). Conditions: as each says.
-/
namespace Go.Proofs.YthjcimgollfmgaaGreatDoor
open Go.RowKit
variable {B : Nat} {w w' : World} {F : Nat → Prop} {d : Nat} {S : Dk} {G : Gh}

set_option maxRecDepth 20000 in
set_option maxHeartbeats 800000 in
/-- The map is there already. -/
theorem failAt_some (w : World) (F : Nat → Prop) (d b : Nat) (r u o1 o2 lv cu ct v : Value) (n : Int) (l ks : List Int) (hd : w.heap[d]? = some (.cells #[r, u, o1, o2, lv, .int .i64 n, cu, ct, .map (some b)] 63))
    (hf : MapO w F (some b) (fv l)) (hv : Is w v ks) (hvb : ∀ g, v.ownBlock = some g → g ≠ b) (hks : ks.length ≤ 4611686018427387904) :
    Calls Tryz.prog 13 #[.pointer (some ⟨d, 0, none⟩), v] w fun e w' => e = .returned (.tuple #[]) ∧ ∃ l', MapO w' F (some b) (fv l') ∧ (∀ k, n ≤ k → (k ∈ l' ↔ k ∈ l ∨ k ∈ ks)) ∧ Chg (· = b) w w' := by
  obtain ⟨vb, off, cap, rfl, hvl, hcap, hc⟩ := hv
  have hvb' : vb ≠ b := hvb vb rfl
  have hdb : d ≠ b := hf.2.ne hd
  have q8 := cell_of hd 8
  have hqm := eqM64
  go_enter Tryz.func13, Tryz.ntmps13
  go_wp2
  go_loopw [19, 5] (fun i x wr => ∃ (j : Nat) (l' : List Int), i = .int .i64 (j : Int) ∧ j ≤ ks.length ∧ MapO wr F (some b) (fv l') ∧ (∀ k, n ≤ k → (k ∈ l' ↔ k ∈ l ∨ k ∈ ks.take j)) ∧ Chg (· = b) w wr)
    (fun i _ _ => ks.length - (intOf i).toNat)
  case atStart => exact ⟨0, l, rfl, by omega, hf, fun k _ => by simp, Chg.refl _ _⟩
  case round =>
    obtain ⟨j, l', rfl, hj, hf', hl', hch⟩ := hrel
    by_cases hlt : j < ks.length
    · have hcj := hc j hlt
      have hcj' : wr.cell? ⟨vb, off + j, none⟩ = some (.int .i64 ks[j]) := by
        rw [← hcj]
        exact World.cell?_of_block (hch.block vb hvl hvb')
      have hd' := hch.keep hd hdb
      have q5 := cell_of hd' 5
      have q8 := cell_of hd' 8
      have htk : ks.take (j + 1) = ks.take j ++ [ks[j]] := by rw [List.take_add_one]; simp [hlt]
      obtain ⟨wp, lp, hp1, hp2, hp3, hp4⟩ := fails_put hf' ks[j]
      have hl1 : n ≤ ks[j] → ∀ k, n ≤ k → (k ∈ lp ↔ k ∈ l ∨ k ∈ ks.take (j + 1)) := fun _ k hk => by
        rw [hp3, hl' k hk, htk, List.mem_append, List.mem_singleton]
        constructor
        · rintro (h | h | h)
          · exact Or.inr (Or.inr h)
          · exact Or.inl h
          · exact Or.inr (Or.inl h)
        · rintro (h | h | h)
          · exact Or.inr (Or.inl h)
          · exact Or.inr (Or.inr h)
          · exact Or.inl h
      have hl2 : ks[j] < n → ∀ k, n ≤ k → (k ∈ l' ↔ k ∈ l ∨ k ∈ ks.take (j + 1)) := fun hlow k hk => by
        rw [hl' k hk, htk, List.mem_append, List.mem_singleton]
        constructor
        · rintro (h | h)
          · exact Or.inl h
          · exact Or.inr (Or.inl h)
        · rintro (h | h | h)
          · exact Or.inl h
          · exact Or.inr h
          · omega
      have HL1 := hide hl1
      have HL2 := hide hl2
      have HP := hide hp3
      clear hc hcj htk hl1 hl2 hp3 hl'
      generalize ks[j] = x at *
      by_cases hx : n ≤ x
      · go_wp2_with fail
        refine ⟨⟨j + 1, lp, by go_num, by omega, hp2, HL1.out hx, hch.then hp4⟩, by simp [intOf]; omega⟩
      · have hx' : x < n := by omega
        go_wp2_with fail
        refine ⟨⟨j + 1, l', by go_num, by omega, hf', HL2.out hx', hch⟩, by simp [intOf]; omega⟩
    · obtain rfl : j = ks.length := by omega
      rw [List.take_length] at hl'
      go_wp2_with fail
      go_end0
      exact ⟨rfl, l', hf', hl', hch⟩
set_option maxRecDepth 20000 in
set_option maxHeartbeats 800000 in
/-- The map is made. -/
theorem failAt_none (w : World) (F : Nat → Prop) (d : Nat) (r u o1 o2 lv cu ct v : Value) (n : Int) (ks : List Int) (hd : w.heap[d]? = some (.cells #[r, u, o1, o2, lv, .int .i64 n, cu, ct, .map none] 63))
    (hF : F w.heap.size) (hv : Is w v ks) (hvb : ∀ g, v.ownBlock = some g → g ≠ d) (hks : ks.length ≤ 4611686018427387904) :
    Calls Tryz.prog 13 #[.pointer (some ⟨d, 0, none⟩), v] w fun e w' => e = .returned (.tuple #[]) ∧ ∃ b, w'.heap[d]? = some (.cells #[r, u, o1, o2, lv, .int .i64 n, cu, ct, .map (some b)] 63) ∧ ∃ l', MapO w' F (some b) (fv l') ∧ (∀ k, n ≤ k → (k ∈ l' ↔ k ∈ ks)) ∧ Chg (· = d) w w' ∧ w.heap.size ≤ b ∧ b < w'.heap.size := by
  have hmm := @run_makeMap Tryz.prog
  obtain ⟨vb, off, cap, rfl, hvl, hcap, hc⟩ := hv
  have hvd : ¬ vb = d := hvb vb rfl
  have q8 := cell_of hd 8
  have t8 := thawed hd 8
  have hqm := eqM64
  have hdl := lt_of_heap hd
  have hd1 := heap_past (.map #[] 0) hd
  have t8' := thawed hd1 8
  have q8' := cell_of hd1 8
  have hm1 := MapW.made w
  obtain ⟨W0, hW0⟩ : ∃ W0, (w.alloc (.map #[] 0)).setCell ⟨d, 8, none⟩ (.map (some w.heap.size)) = W0 := ⟨_, rfl⟩
  have hd0 : W0.heap[d]? = some (.cells #[r, u, o1, o2, lv, .int .i64 n, cu, ct, .map (some w.heap.size)] 63) := by rw [← hW0]; exact heap_set hd1 8 _
  have hc0 : Chg (· = d) w W0 := by rw [← hW0]; exact ((Chg.refl (· = d) w).alloc _).setCell (p := ⟨d, 8, none⟩) (Or.inl rfl) _
  have hf : MapO W0 F (some w.heap.size) (fv []) := by
    refine ⟨hF, ?_⟩
    rw [← hW0]
    exact hm1.keep (chg_set _ d 8 _) (fun e => by omega)
  have hdb : d ≠ w.heap.size := by omega
  have hvb' : vb ≠ w.heap.size := by omega
  have hvl0 : vb < W0.heap.size := Nat.lt_of_lt_of_le hvl hc0.size
  clear hm1 hd1
  go_enter Tryz.func13, Tryz.ntmps13
  go_wp2
  go_loopw [19, 5] (fun i x wr => ∃ (j : Nat) (l' : List Int), i = .int .i64 (j : Int) ∧ j ≤ ks.length ∧ MapO wr F (some w.heap.size) (fv l') ∧ (∀ k, n ≤ k → (k ∈ l' ↔ k ∈ ([] : List Int) ∨ k ∈ ks.take j)) ∧ Chg (· = w.heap.size) W0 wr)
    (fun i _ _ => ks.length - (intOf i).toNat)
  case atStart => exact ⟨0, [], rfl, by omega, hf, fun k _ => by simp, Chg.refl _ _⟩
  case round =>
    obtain ⟨j, l', rfl, hj, hf', hl', hch⟩ := hrel
    by_cases hlt : j < ks.length
    · have hcj := hc j hlt
      have hcj0 : W0.cell? ⟨vb, off + j, none⟩ = some (.int .i64 ks[j]) := (World.cell?_of_block (hc0.block vb hvl hvd)).trans hcj
      have hcj' : wr.cell? ⟨vb, off + j, none⟩ = some (.int .i64 ks[j]) := by
        rw [← hcj0]
        exact World.cell?_of_block (hch.block vb hvl0 hvb')
      have hd' := hch.keep hd0 hdb
      have q5 := cell_of hd' 5
      have q8 := cell_of hd' 8
      have htk : ks.take (j + 1) = ks.take j ++ [ks[j]] := by rw [List.take_add_one]; simp [hlt]
      obtain ⟨wp, lp, hp1, hp2, hp3, hp4⟩ := fails_put hf' ks[j]
      have hl1 : n ≤ ks[j] → ∀ k, n ≤ k → (k ∈ lp ↔ k ∈ ([] : List Int) ∨ k ∈ ks.take (j + 1)) := fun _ k hk => by
        rw [hp3, hl' k hk, htk, List.mem_append, List.mem_singleton]
        constructor
        · rintro (h | h | h)
          · exact Or.inr (Or.inr h)
          · exact Or.inl h
          · exact Or.inr (Or.inl h)
        · rintro (h | h | h)
          · exact Or.inr (Or.inl h)
          · exact Or.inr (Or.inr h)
          · exact Or.inl h
      have hl2 : ks[j] < n → ∀ k, n ≤ k → (k ∈ l' ↔ k ∈ ([] : List Int) ∨ k ∈ ks.take (j + 1)) := fun hlow k hk => by
        rw [hl' k hk, htk, List.mem_append, List.mem_singleton]
        constructor
        · rintro (h | h)
          · exact Or.inl h
          · exact Or.inr (Or.inl h)
        · rintro (h | h | h)
          · exact Or.inl h
          · exact Or.inr h
          · omega
      have HL1 := hide hl1
      have HL2 := hide hl2
      have HP := hide hp3
      clear hc hcj hcj0 htk hl1 hl2 hp3 hl'
      generalize ks[j] = x at *
      by_cases hx : n ≤ x
      · go_wp2_with fail
        refine ⟨⟨j + 1, lp, by go_num, by omega, hp2, HL1.out hx, hch.then hp4⟩, by simp [intOf]; omega⟩
      · have hx' : x < n := by omega
        go_wp2_with fail
        refine ⟨⟨j + 1, l', by go_num, by omega, hf', HL2.out hx', hch⟩, by simp [intOf]; omega⟩
    · obtain rfl : j = ks.length := by omega
      rw [List.take_length] at hl'
      go_wp2_with fail
      go_end0
      exact ⟨rfl, w.heap.size, hch.keep hd0 hdb, l', hf', fun k hk => by simpa using hl' k hk, hc0.trans hch (fun k hk e => by rw [e] at hk; exact absurd hk (Nat.lt_irrefl _)), Nat.le_refl _, hf'.2.lt⟩

theorem failAt_rep (h : Rep w F d S G) {v : Value} {ks : List Int} (hv : Is w v ks) (hvF : ∀ g, v.ownBlock = some g → ¬ F g) (hks : ks.length ≤ 4611686018427387904) :
    Calls Tryz.prog 13 #[.pointer (some ⟨d, 0, none⟩), v] w fun e w' => e = .returned (.tuple #[]) ∧ ∃ G', Rep w' (Fx F w w') d (S.failAt ks) G' ∧ Chg F w w' := by
  have hd := h.disk
  unfold dcells at hd
  obtain ⟨l, hl1, hl2⟩ := h.fails
  cases hfls : G.fls with
  | some b =>
    rw [hfls] at hd hl1
    have hFb : F b := hl1.1
    refine (failAt_some w F d b _ _ _ _ _ _ _ v S.n l ks hd hl1 hv (fun g hg e => hvF g hg (e ▸ hFb)) hks).mono ?_
    rintro e w' ⟨rfl, l', hm, hl', hc⟩
    refine ⟨rfl, { G with fls := some b }, ?_, hc.mono fun k _ e => by rw [e]; exact hFb⟩
    have hdb : d ≠ b := hl1.2.ne hd
    have hr := h.told (F' := Fx F w w') (w' := w') (hc.mono fun k _ e => Or.inr (by rw [hfls, e])) (room := S.room) (cut := S.cut) (fails := (S.failAt ks).fails) (cv := G.cv) (fls := some b) l' h.roomy h.cutv (fun k hk => Or.inl hk)
      (by have := hc.keep hd hdb; rw [this]; rfl) ⟨Or.inl hFb, hm.2⟩
      (fun k hk => by
        rw [hl' k (by omega)]
        show (S.fails k || ks.contains (k : Int)) = true ↔ _
        rw [Bool.or_eq_true, hl2 k hk, List.contains_iff_mem])
      (fun b' e => by rw [← hfls]; exact (h.two b' e).2) (fun b' e => by rw [← hfls]; exact h.three b' e)
    exact hr
  | none =>
    rw [hfls] at hd hl1
    have hl : l = [] := by simpa [MapO, fv] using hl1
    subst hl
    refine (failAt_none w (fun k => k = w.heap.size) d _ _ _ _ _ _ _ v S.n ks hd rfl hv (fun g hg e => hvF g hg (e ▸ h.inD)) hks).mono ?_
    rintro e w' ⟨rfl, b, hd', l', hm, hl', hc, hb1, hb2⟩
    have hcF : Chg F w w' := hc.mono fun k _ e => by rw [e]; exact h.inD
    refine ⟨rfl, { G with fls := some b }, ?_, hcF⟩
    have hr := h.told (F' := Fx F w w') (w' := w') (hc.mono fun k _ e => Or.inl e) (room := S.room) (cut := S.cut) (fails := (S.failAt ks).fails) (cv := G.cv) (fls := some b) l' h.roomy h.cutv (fun k hk => Or.inl hk)
      (by rw [hd']; rfl) ⟨Or.inr ⟨hb1, hb2⟩, hm.2⟩
      (fun k hk => by
        rw [hl' k (by omega)]
        show (S.fails k || ks.contains (k : Int)) = true ↔ _
        rw [Bool.or_eq_true, hl2 k hk, List.contains_iff_mem]
        simp)
      (fun b' e => by
        have hm := h.now
        rw [e] at hm
        intro e2
        injection e2 with e2
        have := hm.2.lt
        omega)
      (fun b' e => by
        have hm := h.sure
        rw [e] at hm
        intro e2
        injection e2 with e2
        have := hm.2.lt
        omega)
    exact hr
set_option maxRecDepth 20000 in
theorem setRoom_rep (h : Rep w F d S G) (r : Int) (hr : r ≤ 9223372036854775807) : Calls Tryz.prog 16 #[.pointer (some ⟨d, 0, none⟩), .int .i64 r] w fun e w' => e = .returned (.tuple #[]) ∧ Rep w' F d (S.setRoom r) G ∧ Chg F w w' := by
  have hd := h.disk
  unfold dcells at hd
  have t0 := thawed hd 0
  have x0 := cell_of hd 0
  have hfin : ∀ v : Int, v = (r.toNat : Int) → Rep (w.setCell ⟨d, 0, none⟩ (.int .i64 v)) F d (S.setRoom r) G ∧ Chg F w (w.setCell ⟨d, 0, none⟩ (.int .i64 v)) := fun v hv =>
    ⟨h.told1 (chg_set w d 0 _) (room := r.toNat) (cut := S.cut) (cv := G.cv) (by omega) h.cutv (by rw [heap_set hd 0 _, hv]; rfl), (chg_set w d 0 _).mono fun k _ e => by rw [e]; exact h.inD⟩
  have HF := hide hfin
  clear hfin hd h
  rcases Int.lt_or_le r 0 with hlt | hlt
  all_goals
    go_enter Tryz.func16, Tryz.ntmps16
    go_wp2
    go_end0
    exact ⟨rfl, HF.out _ (by omega)⟩

theorem failAt_lies (h : Stands B w F d S) (hB : B ≤ w.heap.size) {v : Value} {ks : List Int} (hv : Is w v ks) (hvF : ∀ g, v.ownBlock = some g → ¬ F g) (hks : ks.length ≤ 4611686018427387904) :
    Calls Tryz.prog 13 #[.pointer (some ⟨d, 0, none⟩), v] w fun e w' => e = .returned (.tuple #[]) ∧ After B w F d (S.failAt ks) w' := by
  have h0 := h
  obtain ⟨⟨G, hr⟩, h2, h3⟩ := h
  refine (failAt_rep hr hv hvF hks).mono ?_
  rintro e w' ⟨rfl, G', hr', hc⟩
  exact ⟨rfl, after_of h0 hB hr' hc (h3.same rfl rfl)⟩
theorem setRoom_lies (h : Stands B w F d S) (hB : B ≤ w.heap.size) (r : Int) (hr0 : r ≤ 9223372036854775807) :
    Calls Tryz.prog 16 #[.pointer (some ⟨d, 0, none⟩), .int .i64 r] w fun e w' => e = .returned (.tuple #[]) ∧ After B w F d (S.setRoom r) w' := by
  have h0 := h
  obtain ⟨⟨G, hr⟩, h2, h3⟩ := h
  refine (setRoom_rep hr r hr0).mono ?_
  rintro e w' ⟨rfl, hr', hc⟩
  exact ⟨rfl, after_of h0 hB (hr'.mono fun k hk => Or.inl hk) hc (h3.same rfl rfl)⟩
/-- FailAt of one number. -/
theorem failAt_one {F : Nat → Prop} {d : Nat} {S : Dk} (h : Stands B w F d S) (hB : B ≤ w.heap.size) (k : Int) :
    Calls Tryz.prog 13 #[.pointer (some ⟨d, 0, none⟩), .slice (some ⟨w.heap.size, 0, none⟩) 1 1] (w.alloc (.cells #[.int .i64 k] 3)) fun e w' => e = .returned (.tuple #[]) ∧ After B w F d (S.failAt [k]) w' := by
  have hc : Chg (fun _ => False) w (w.alloc (.cells #[.int .i64 k] 3)) := (Chg.refl _ w).alloc _
  have h1 := h.keep hc (fun _ _ h => h)
  have hi : Is (w.alloc (.cells #[.int .i64 k] 3)) (.slice (some ⟨w.heap.size, 0, none⟩) 1 1) [k] := by
    refine ⟨w.heap.size, 0, 1, rfl, by simp, Nat.le_refl _, fun j hj => ?_⟩
    have hj0 : j = 0 := by simp at hj; omega
    subst hj0
    exact cell_new w _ _ 0 _ rfl
  refine (failAt_lies h1 (Nat.le_trans hB hc.size) hi (fun g hg hF => ?_) (by simp)).mono ?_
  · have := (h.2.1 g hF).2
    cases hg
    exact Nat.lt_irrefl _ this
  · rintro e w' ⟨rfl, F', h2, h3, h4⟩
    refine ⟨rfl, F', h2, fun k hk => ?_, (hc.mono fun _ _ h => h.elim).then h4⟩
    rcases h3 k hk with h | h
    · exact Or.inl h
    · exact Or.inr (Nat.le_trans hc.size h)
end Go.Proofs.YthjcimgollfmgaaGreatDoor

/-
  What a log's calls answer on a disk whose power stays: done; a failing operation among their own; no room, where room is tight. No program here. Conditions: none.
-/
namespace Go.Proofs.YthjcimgollfmgaaGreatDoor
variable {z : Nm} {S S' S1 S2 : Dk} {L : Lw} {gs : List (List (List UInt8))} {rs : List (List UInt8)} {e : Int}

/-- The power stays. -/
def Lit (S : Dk) : Prop := S.cut = none
theorem Lit.on (h : Lit S) : S.on = true := by unfold Dk.on; rw [show S.cut = none from h]
theorem Near.lit {k : Nat} (h : Near S S' k) (hl : Lit S) : Lit S' := h.1.1.trans hl
def Ans (S S' : Dk) (e : Int) : Prop := e = 0 ∨ (e = 34 ∧ ∃ k, S.n ≤ k ∧ k < S'.n ∧ S.fails k = true) ∨ (e = 33 ∧ S.room ≠ 16777216)
theorem Ans.grow (h : Ans S S1 e) (k : S1.n ≤ S2.n) : Ans S S2 e := by
  rcases h with h | ⟨h, j, h1, h2, h3⟩ | h
  · exact .inl h
  · exact .inr (.inl ⟨h, j, h1, by omega, h3⟩)
  · exact .inr (.inr h)
theorem Ans.since {a : Nat} (h : Near S S1 a) (k : Ans S1 S2 e) : Ans S S2 e := by
  rcases k with k | ⟨k, j, h1, h2, h3⟩ | ⟨k, h1⟩
  · exact .inl k
  · exact .inr (.inl ⟨k, j, Nat.le_trans h.2.1 h1, h2, by rw [← h.1.2.1]; exact h3⟩)
  · exact .inr (.inr ⟨k, by rw [← h.1.2.2]; exact h1⟩)
theorem ans_done (S S' : Dk) : Ans S S' 0 := .inl rfl
theorem ans_fail (h : S.fails S.n = true) (hn : S.n < S'.n) : Ans S S' 34 := .inr (.inl ⟨rfl, S.n, Nat.le_refl _, hn, h⟩)
theorem begun_n (h : Lit S) : S.begun = S.next := by unfold Dk.begun; rw [if_neg (by rw [h.on]; decide)]
theorem lit_file (h : Lit S) {n : Nm} (hn : isNm n = true) {f : Nat} (hl : look S.dir n = some f) : S.onFile n = .ok (f, S.fails S.n) := by
  unfold Dk.onFile
  rw [if_neg (by rw [h.on]; decide), if_neg (by rw [hn]; decide), hl]
theorem ans_remove (h : Lit S) {n : Nm} (hn : isNm n = true) {f : Nat} (hl : look S.dir n = some f) : Ans S (S.remove n).1 (S.remove n).2 := by
  unfold Dk.remove
  rw [lit_file h hn hl]
  dsimp only
  split
  · next hf =>
    rw [begun_n h]
    exact ans_fail hf (Nat.lt_succ_self _)
  · exact ans_done _ _
theorem ans_tidy (h : Lit S) (hn : isNm (z ++ anewB) = true) : Ans S (tidyW S z).1 (tidyW S z).2 := by
  unfold tidyW
  split
  · exact ans_done _ _
  · next hs =>
    unfold Dk.size at hs
    split at hs
    · omega
    · next f hl => exact ans_remove h hn hl
theorem ans_append (h : Lit S) {n : Nm} (hn : isNm n = true) {b : List UInt8} (hr : S.room = 16777216 → S.used + b.length ≤ 16777216) : Ans S (S.append n b).1 (S.append n b).2 := by
  unfold Dk.append
  rw [if_neg (by rw [h.on]; decide), if_neg (by rw [hn]; decide)]
  split
  · next hb => exact .inr (.inr ⟨rfl, fun e => by have := hr e; have := hb.2; omega⟩)
  · split
    · next hf => exact ans_fail hf (Nat.lt_succ_self _)
    · exact ans_done _ _
theorem ans_sync (h : Lit S) {n : Nm} (hn : isNm n = true) {f : Nat} (hl : look S.dir n = some f) : Ans S (S.sync n).1 (S.sync n).2 := by
  unfold Dk.sync
  rw [lit_file h hn hl]
  dsimp only
  split
  · next hf =>
    rw [begun_n h]
    exact ans_fail hf (Nat.lt_succ_self _)
  · exact ans_done _ _
theorem ans_syncDir (h : Lit S) : Ans S S.syncDir.1 S.syncDir.2 := by
  unfold Dk.syncDir
  rw [if_neg (by rw [h.on]; decide)]
  split
  · next hf => exact ans_fail hf (Nat.lt_succ_self _)
  · exact ans_done _ _
theorem ans_settle (h : Lit S) (s : Bool) : Ans S (settleW S s).1 (settleW S s).2.2 := by
  unfold settleW
  split
  · exact ans_done _ _
  · exact ans_syncDir h
theorem ans_rename (h : Lit S) {a b : Nm} (ha : isNm a = true) (hb : isNm b = true) (hl : look S.dir a ≠ none) : Ans S (S.rename a b).1 (S.rename a b).2 := by
  have h1 : ¬ (isNm a = false ∨ isNm b = false) := fun e => e.elim (fun e => by rw [ha] at e; cases e) (fun e => by rw [hb] at e; cases e)
  unfold Dk.rename
  rw [if_neg (by rw [h.on]; decide), if_neg h1, if_neg hl]
  split
  · next hf => exact ans_fail hf (Nat.lt_succ_self _)
  · split <;> exact ans_done _ _
theorem n_tidied (S : Dk) (n : Nm) (s : Bool) (e : Int) : S.n ≤ (tidied S n s e).1.n := (near_tidied S n s e).2.1
theorem ans_replace (h : Lit S) (hk : Ok S) (hz : isNm z = true) (hn : isNm (z ++ anewB) = true) (s : Bool) {b : List UInt8} (hb : b ≠ []) (hr : S.room = 16777216 → S.bulk + b.length + 2 ≤ 16777216) : Ans S (replaceW S z s b).1 (replaceW S z s b).2.2 := by
  have t0 := ans_tidy (z := z) h hn
  have t1 := near_tidy S z
  have t2 := bulk_tidy S z
  have t3 := ok_tidy hk z
  unfold replaceW
  split
  · exact t0
  next e0 =>
  have t4 := tidy_none (S := S) (z := z) (by simpa using e0)
  generalize tidyW S z = T at *
  have u1 := used_le t3
  have a0 := ans_append (t1.lit h) hn (b := b) (fun e => by have := hr (t1.1.2.2.symm.trans e); omega)
  have a0 := a0.since t1
  have a1 := t1.trans (near_append T.1 (z ++ anewB) b) (Nat.le_refl _)
  have a2 := append_new (b := b) t4 hb
  unfold rep2
  split
  · exact a0.grow (n_tidied _ _ _ _)
  next e1 =>
  have a2 := a2 (by simpa using e1)
  generalize T.1.append (z ++ anewB) b = V at *
  have y0 := (ans_sync (a1.lit h) hn a2.1).since a1
  have y1 := a1.trans (near_sync V.1 (z ++ anewB)) (Nat.le_refl _)
  unfold rep3
  split
  · exact y0.grow (n_tidied _ _ _ _)
  next e2 =>
  have y2 := sync_fresh a2.1 a2.2 (by simpa using e2)
  generalize V.1.sync (z ++ anewB) = Y at *
  have r0 := (ans_rename (y1.lit h) hn hz (by rw [y2.1]; simp)).since y1
  have r1 := y1.trans (near_rename Y.1 (z ++ anewB) z) (Nat.le_refl _)
  unfold rep4
  split
  · exact r0.grow (n_tidied _ _ _ _)
  generalize Y.1.rename (z ++ anewB) z = N at *
  have s0 := (ans_settle (r1.lit h) false).since r1
  unfold rep5
  split
  · exact s0.grow (n_tidied _ _ _ _)
  · exact s0
theorem ans_extend {f : Nat} {all : List UInt8} (hK : Kx z S f all.length all) (h : Lit S) (hk : Ok S) (hz : isNm z = true) (hn : isNm (z ++ anewB) = true) (s : Bool) {b : List UInt8} (hr : S.room = 16777216 → S.bulk + b.length + 3 ≤ 16777216) : Ans S (extendW S z s b).1 (extendW S z s b).2.2 := by
  have t0 := ans_tidy (z := z) h hn
  have t1 := near_tidy S z
  have t2 := bulk_tidy S z
  have t3 := ok_tidy hk z
  have t5 : look (tidyW S z).1.dir z = some f ∧ look (tidyW S z).1.sure z = some f := by
    have : Kx z (tidyW S z).1 f all.length all := by
      unfold tidyW
      split
      · exact hK
      · exact hK.remove (anew_ne z)
    exact ⟨this.lookD, this.lookS⟩
  unfold extendW
  split
  · exact t0
  generalize tidyW S z = T at *
  have s0 := (ans_settle (t1.lit h) s).since t1
  have s1 := t1.trans (near_settle T.1 s) (Nat.le_refl _)
  have s2 := bulk_settle T.1 s
  have s3 := ok_settle t3 s
  have s5 : look (settleW T.1 s).1.dir z = some f := by
    unfold settleW
    split
    · exact t5.1
    · unfold Dk.syncDir
      split
      · exact t5.1
      split
      · exact t5.2
      · exact t5.1
  unfold extend2
  split
  · exact s0
  generalize settleW T.1 s = U at *
  have u1 := used_le s3
  have a0 := (ans_append (s1.lit h) hz (b := b) (fun e => by have := hr (s1.1.2.2.symm.trans e); omega)).since s1
  have a1 := s1.trans (near_append U.1 z b) (Nat.le_refl _)
  have a5 := append_keeps s5 b
  unfold extend3
  split
  · exact a0
  generalize U.1.append z b = V at *
  exact (ans_sync (a1.lit h) hz a5).since a1
theorem ans_readAt {all : List UInt8} {f : Nat} (hK : Kx z S f all.length all) (h : Lit S) (hz : isNm z = true) (k : Nat) (hl : k ≤ all.length) : Ans S S.begun (S.readAt z 0 (k : Int)).2 := by
  obtain ⟨x, h1, h2, h3⟩ := hK.file
  have hb : S.bytes f = all := by simp [Dk.bytes, h1, h2]
  unfold Dk.readAt
  rw [lit_file h hz hK.lookD]
  dsimp only
  rw [hb, if_neg (by omega)]
  split
  · next hf =>
    rw [begun_n h]
    exact ans_fail hf (Nat.lt_succ_self _)
  · exact ans_done _ _
theorem noted_ans {p : Dk × Bool × Int} {wh k : Int} (h : Ans S p.1 p.2.2) : Ans S (noted p L wh k).1 (noted p L wh k).2.2 := by
  unfold noted
  split
  · exact ans_done _ _
  · exact h
theorem ans_resetW (h : Has z S L gs) (hc : Lit S) (hk : Ok S) (hz : isNm z = true) (hn : isNm (z ++ anewB) = true) (hr : right rs = true) (hb : S.room = 16777216 → S.bulk + (grp sum4 rs).length + 2 ≤ 16777216) : Ans S (resetW S L rs).1 (resetW S L rs).2.2 := by
  unfold resetW
  rw [if_neg (by rw [hr]; decide), h.1]
  exact noted_ans (ans_replace hc hk hz hn L.sure (grp_ne rs) hb)
theorem ans_appendW (h : Has z S L gs) (hc : Lit S) (hk : Ok S) (hz : isNm z = true) (hn : isNm (z ++ anewB) = true) (hr : right rs = true) (hb : S.room = 16777216 → S.bulk + (laid sum4 gs).length + (grp sum4 rs).length + 4 ≤ 16777216) : Ans S (appendW S L rs).1 (appendW S L rs).2.2 := by
  obtain ⟨hln, tail, ⟨ho, ht, hF⟩, h1, h2⟩ := h
  unfold appendW
  rw [if_neg (by rw [hr]; decide), if_pos (by rw [hln, hF.size, h2])]
  unfold appendP putW
  rw [hln]
  split
  · exact noted_ans (ans_replace hc hk hz hn L.sure (grp_ne rs) (fun e => by have := hb e; omega))
  next h0 =>
  have hK : ∃ f, Kx z S f (laid sum4 gs ++ tail).length (laid sum4 gs ++ tail) := by
    rcases hF with ⟨-, e⟩ | hK
    · have := congrArg List.length e
      rw [List.length_append, List.length_nil] at this
      omega
    · exact hK
  obtain ⟨f, hK⟩ := hK
  split
  · exact noted_ans (ans_extend hK hc hk hz hn L.sure (fun e => by have := hb e; omega))
  · have r0 := ans_readAt hK hc hz (laid sum4 gs).length (by rw [List.length_append]; omega)
    have r1 := readAt_firm hF (laid sum4 gs).length
    rw [← h1] at r0 r1
    unfold putAnew
    split
    · exact noted_ans r0
    next e0 =>
    rw [r1 (by simpa using e0), List.take_left]
    have hbb := bulk_begun' S
    have hrm := (alt_begun S).2.2
    exact noted_ans ((ans_replace ((near_begun S).lit hc) hk.begun hz hn L.sure (b := laid sum4 gs ++ grp sum4 rs) (by rw [← laid_snoc]; exact laid_ne gs rs) (fun e => by have := hb (hrm.symm.trans e); rw [List.length_append]; omega)).since (near_begun S))
theorem lay_ans (h : Has z S L gs) (hc : Lit S) (hk : Ok S) (hz : isNm z = true) (hn : isNm (z ++ anewB) = true) (kd : Int) (hr : right rs = true) (hb : S.room = 16777216 → S.bulk + (laid sum4 gs).length + (grp sum4 rs).length + 4 ≤ 16777216) : Ans S (layW kd S L rs).1 (layW kd S L rs).2.2 := by
  unfold layW
  split
  · exact ans_resetW h hc hk hz hn hr (fun e => by have := hb e; omega)
  · exact ans_appendW h hc hk hz hn hr hb
/-- A call that was not done, the power there, leaves the groups. -/
theorem laid_old {R : Dk × Lw × Int} {old new : List (List (List UInt8))} (h : Laid z R old new) (h0 : R.2.2 ≠ 0) (h1 : R.2.2 ≠ 35) : Has z R.1 R.2.1 old := by
  rcases h.2 h0 with g | ⟨g, -⟩
  · exact g
  · exact absurd g h1
end Go.Proofs.YthjcimgollfmgaaGreatDoor
