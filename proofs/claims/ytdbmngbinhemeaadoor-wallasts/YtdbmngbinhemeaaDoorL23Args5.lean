/-
  Texts joined: Args5, Beside1, Lasts1.
-/
import Derived.Test.YtdbmngbinhemeaaDoorL21Shown2
import Derived.Test.YtdbmngbinhemeaaDoorL22LayMild
/-
  What came in: calls, truths, in memory that was there when the law began. No condition.
-/
namespace Go.Proofs.YtdbmngbinhemeaaDoor
open Go.RowKit
variable {B : Nat} {w w' : World}

/-- A slice of texts, below B. -/
def Tb (B : Nat) (w : World) (v : Value) (ks : List (List UInt8)) : Prop :=
  ∃ ao cap, v = .slice ao ks.length cap ∧ ks.length ≤ cap ∧ cap ≤ maxLen ∧ (ks ≠ [] → ∃ b off, ao = some ⟨b, off, none⟩ ∧ b < B ∧ ∀ j (h : j < ks.length), w.cell? ⟨b, off + j, none⟩ = some (.string (strB ks[j])))
theorem Tb.keep {v : Value} {ks : List (List UInt8)} (h : Tb B w v ks) (hb : Below B w w') : Tb B w' v ks := by
  obtain ⟨ao, cap, hv, h1, h2, h4⟩ := h
  refine ⟨ao, cap, hv, h1, h2, fun hl => ?_⟩
  obtain ⟨b, off, ha, hlt, hc⟩ := h4 hl
  exact ⟨b, off, ha, hlt, fun j hj => (hb.cell (p := ⟨b, off + j, none⟩) hlt).trans (hc j hj)⟩
theorem Tb.tx {v : Value} {ks : List (List UInt8)} (h : Tb B w v ks) (hB : B ≤ w.heap.size) : Tx w v ks := by
  obtain ⟨ao, cap, hv, h1, h2, h4⟩ := h
  refine ⟨ao, cap, hv, h1, h2, fun hl => ?_⟩
  obtain ⟨b, off, ha, hlt, hc⟩ := h4 hl
  exact ⟨b, off, ha, Nat.lt_of_lt_of_le hlt hB, hc⟩
structure Oq where
  kind : Int
  recs : List (List UInt8)
  n : Int
  torn : Int
/-- One call, its four cells from here on. -/
def OpAt (B : Nat) (w : World) (b off : Nat) (o : Oq) : Prop :=
  w.cell? ⟨b, off, none⟩ = some (.int .i64 o.kind) ∧ (∃ u, w.cell? ⟨b, off + 1, none⟩ = some u ∧ Tb B w u o.recs) ∧ w.cell? ⟨b, off + 2, none⟩ = some (.int .i64 o.n) ∧ w.cell? ⟨b, off + 3, none⟩ = some (.int .i64 o.torn)
theorem OpAt.keep {b off : Nat} {o : Oq} (h : OpAt B w b off o) (hb : Below B w w') (hlt : b < B) : OpAt B w' b off o := by
  obtain ⟨h0, ⟨u, h3, h3'⟩, h1, h2⟩ := h
  have k := fun (i : Nat) => hb.cell (p := ⟨b, i, none⟩) hlt
  exact ⟨(k _).trans h0, ⟨u, (k _).trans h3, h3'.keep hb⟩, (k _).trans h1, (k _).trans h2⟩
/-- Calls. -/
def Ob (B : Nat) (w : World) (v : Value) (os : List Oq) : Prop :=
  ∃ ao cap, v = .slice ao os.length cap ∧ os.length ≤ cap ∧ cap ≤ maxLen ∧ (os ≠ [] → ∃ b off, ao = some ⟨b, off, none⟩ ∧ b < B ∧ ∀ j (h : j < os.length), OpAt B w b (off + j * 4) os[j])
theorem Ob.keep {v : Value} {os : List Oq} (h : Ob B w v os) (hb : Below B w w') : Ob B w' v os := by
  obtain ⟨ao, cap, hv, h1, h2, h4⟩ := h
  refine ⟨ao, cap, hv, h1, h2, fun hl => ?_⟩
  obtain ⟨b, off, ha, hlt, hc⟩ := h4 hl
  exact ⟨b, off, ha, hlt, fun j hj => (hc j hj).keep hb hlt⟩
theorem Ob.at {ao : Option Addr} {n cap : Nat} {os : List Oq} (h : Ob B w (.slice ao n cap) os) {j : Nat} (hj : j < os.length) : ∃ b off, ao = some ⟨b, off, none⟩ ∧ b < B ∧ OpAt B w b (off + j * 4) os[j] := by
  obtain ⟨ao', cap', hv, h1, h2, h4⟩ := h
  injection hv with e1 e2 e3
  subst e1 e2 e3
  obtain ⟨b, off, ha, hlt, hc⟩ := h4 (by rintro rfl; simp at hj)
  exact ⟨b, off, ha, hlt, hc j hj⟩
/-- A slice of truths, below B. -/
def Tr (B : Nat) (w : World) (v : Value) (bs : List Bool) : Prop :=
  ∃ ao cap, v = .slice ao bs.length cap ∧ bs.length ≤ cap ∧ cap ≤ maxLen ∧ (bs ≠ [] → ∃ b off, ao = some ⟨b, off, none⟩ ∧ b < B ∧ ∀ j (h : j < bs.length), w.cell? ⟨b, off + j, none⟩ = some (.bool bs[j]))
theorem Tr.keep {v : Value} {bs : List Bool} (h : Tr B w v bs) (hb : Below B w w') : Tr B w' v bs := by
  obtain ⟨ao, cap, hv, h1, h2, h4⟩ := h
  refine ⟨ao, cap, hv, h1, h2, fun hl => ?_⟩
  obtain ⟨b, off, ha, hlt, hc⟩ := h4 hl
  exact ⟨b, off, ha, hlt, fun j hj => (hb.cell (p := ⟨b, off + j, none⟩) hlt).trans (hc j hj)⟩
theorem Tr.at {ao : Option Addr} {n cap : Nat} {bs : List Bool} (h : Tr B w (.slice ao n cap) bs) {j : Nat} (hj : j < bs.length) : ∃ b off, ao = some ⟨b, off, none⟩ ∧ b < B ∧ w.cell? ⟨b, off + j, none⟩ = some (.bool bs[j]) := by
  obtain ⟨ao', cap', hv, h1, h2, h4⟩ := h
  injection hv with e1 e2 e3
  subst e1 e2 e3
  obtain ⟨b, off, ha, hlt, hc⟩ := h4 (by rintro rfl; simp at hj)
  exact ⟨b, off, ha, hlt, hc j hj⟩
/-- Every number is an int, no record is too long. -/
def Small (os : List Oq) : Prop := ∀ o ∈ os, (-9223372036854775808 ≤ o.kind ∧ o.kind ≤ 9223372036854775807) ∧ ∀ r ∈ o.recs, r.length ≤ 140737488355328
theorem grp_few (rs : List (List UInt8)) : (grp sum4 (fewW rs)).length ≤ 7264 := by
  rw [grp_len]
  have h1 := body_len (fewW rs) (fun r hr => Nat.le_trans (fewW_each rs r hr) (by omega))
  have h2 := sum_each (fewW_each rs)
  have h3 := fewW_len rs
  omega
theorem laid_then (kd : Int) (gs : List (List (List UInt8))) (rs : List (List UInt8)) : (laid sum4 (gsThen kd gs rs)).length ≤ (laid sum4 gs).length + (grp sum4 rs).length := by
  unfold gsThen
  split
  · have := laid_len [] rs
    rw [l0] at this
    simp only [List.nil_append] at this
    omega
  · rw [laid_len]
    omega
theorem bytes_calm {F : Nat → Prop} {d l : Nat} {z : Nm} {gs : List (List (List UInt8))} {m M : Nat} (h : Calmly B w F d l z gs m M) : Calls Tryd.prog 19 #[.pointer (some ⟨l, 0, none⟩)] w fun e w' => e = .returned (.int .i64 ((laid sum4 gs).length : Int)) ∧ w' = w := by
  obtain ⟨S, L, hg, hh, -⟩ := h
  obtain ⟨-, tail, -, h1, -⟩ := hh
  have := bytes_lg hg
  rw [h1] at this
  exact this
end Go.Proofs.YtdbmngbinhemeaaDoor

/-
  Two logs on one disk, each in a world of the law's: what stays when the one does something. Conditions: none beyond the facts named.
-/
namespace Go.Proofs.YtdbmngbinhemeaaDoor
open Go.RowKit
variable {B : Nat} {w w' : World} {F F' : Nat → Prop} {X Y d a b : Nat} {S S' : Dk} {La Lb La' : Lw} {ga gb v : Value} {gsa gsb gs : List (List (List UInt8))} {z : Nm}

def nmA : Nm := [97]
def nmB : Nm := [98]
theorem nmA_ok : isLg nmA = true := by decide
theorem nmB_ok : isLg nmB = true := by decide
theorem ab_ne : nmA ≠ nmB ∧ nmA ≠ nmB ++ anewB ∧ nmB ≠ nmA ∧ nmB ≠ nmA ++ anewB := by decide
/-- Open on a disk that holds these groups. -/
theorem open_on {tail : List UInt8} (h : Stands B w F d S) (ho : On z S gs tail) (hon : S.on = true) (hf : S.fails S.n = false) (hz : isLg z = true) (hB : B ≤ w.heap.size) (hB0 : 0 < B) (hT : TabW w) (hb : S.bulk < 1000000000) :
    Calls Tryd.prog 15 #[.pointer (some ⟨d, 0, none⟩), .string (strB z)] w fun e w' => ∃ l v F' b1, e = .returned (.tuple #[.pointer (some ⟨l, 0, none⟩), v, .int .i64 0]) ∧ w.heap.size ≤ l ∧
      Lg B w' F' d l S.begun ⟨z, false, ((laid sum4 gs).length : Int), ((laid sum4 gs ++ tail).length : Int)⟩ ∧ (∀ k, F' k → F k ∨ w.heap.size ≤ k) ∧ Chg F w w' ∧ Gs w' b1 v gs ∧ w.heap.size ≤ b1 ∧ l < b1 ∧ ∀ k, F' k → k < b1 := by
  have hnm := isLg_nm hz
  have hlk := ho.look hnm.1 hon hf
  refine (open_lg h hB hB0 hT hb z hz).mono ?_
  rintro e w' ⟨x, v, rfl, hO⟩
  rw [hlk] at hO ⊢
  obtain ⟨l, F', b1, rfl, h1, h2, h3, h4, h5, h6, h7, h8⟩ := hO
  exact ⟨l, v, F', b1, rfl, h1, h2, h3, h4, h5, h6, h7, h8⟩
/-- Apart from disk, logs and worlds. -/
def Off (F : Nat → Prop) (a b X Y : Nat) (k : Nat) : Prop := ¬ F k ∧ k ≠ a ∧ k ≠ b ∧ k ≠ X ∧ k ≠ Y
structure Two (B : Nat) (w : World) (X Y d a b : Nat) (F : Nat → Prop) (S : Dk) (La Lb : Lw) (ga gb : Value) (gsa gsb : List (List (List UInt8))) : Prop where
  wx : WorldAt w X d a ga (.slice none 0 0) false
  wy : WorldAt w Y d b gb (.slice none 0 0) false
  la : Lg B w F d a S La
  lb : Lg B w F d b S Lb
  ra : Rk (Off F a b X Y) w ga gsa
  rb : Rk (Off F a b X Y) w gb gsb
  ab : a ≠ b
  XF : ¬ F X
  YF : ¬ F Y
  Xl : X ≠ a ∧ X ≠ b
  Yl : Y ≠ a ∧ Y ≠ b
  XY : X ≠ Y
  low : B ≤ X ∧ B ≤ Y
theorem Off.swap {k : Nat} (h : Off F a b X Y k) : Off F b a Y X k := ⟨h.1, h.2.2.1, h.2.1, h.2.2.2.2, h.2.2.2.1⟩
theorem Rk.swap (h : Rk (Off F a b X Y) w v gs) : Rk (Off F b a Y X) w v gs := h.mono fun _ _ h => h.swap
theorem Two.swap (h : Two B w X Y d a b F S La Lb ga gb gsa gsb) : Two B w Y X d b a F S Lb La gb ga gsb gsa :=
  ⟨h.wy, h.wx, h.lb, h.la, h.rb.swap, h.ra.swap, h.ab.symm, h.YF, h.XF, ⟨h.Yl.2, h.Yl.1⟩, ⟨h.Xl.2, h.Xl.1⟩, h.XY.symm, ⟨h.low.2, h.low.1⟩⟩
theorem Two.quiet (h : Two B w X Y d a b F S La Lb ga gb gsa gsb) (hc : Chg (fun _ => False) w w') : Two B w' X Y d a b F S La Lb ga gb gsa gsb :=
  ⟨h.wx.keep hc (fun h => h), h.wy.keep hc (fun h => h), h.la.keep hc (fun _ _ h => h) (fun h => h), h.lb.keep hc (fun _ _ h => h) (fun h => h), h.ra.keep hc (fun _ _ h => h), h.rb.keep hc (fun _ _ h => h), h.ab, h.XF, h.YF, h.Xl, h.Yl, h.XY, h.low⟩
theorem Two.small (h : Two B w X Y d a b F S La Lb ga gb gsa gsb) : (∀ k, F k → k < w.heap.size) ∧ a < w.heap.size ∧ b < w.heap.size ∧ X < w.heap.size ∧ Y < w.heap.size := ⟨fun k hk => (h.la.1.2.1 k hk).2, h.la.lt, h.lb.lt, lt_of_heap h.wx, lt_of_heap h.wy⟩
/-- What was made since is apart. -/
theorem Two.since (h : Two B w X Y d a b F S La Lb ga gb gsa gsb) {k : Nat} (hk : w.heap.size ≤ k) : Off F a b X Y k := by
  have hs := h.small
  exact ⟨fun hf => by have := hs.1 k hf; omega, by omega, by omega, by omega, by omega⟩
theorem Rk.step (h : Rk (Off F a b X Y) w v gs) (hF : ∀ k, F' k → F k ∨ w.heap.size ≤ k) (hc : Chg (fun k => F k ∨ k = a) w w') : Rk (Off F' a b X Y) w' v gs := by
  refine (h.mono (Q := fun k => Off F a b X Y k ∧ ¬ F' k) fun k hk ho => ⟨ho, fun hf => (hF k hf).elim ho.1 (fun h => by omega)⟩).keep hc (fun k ho hx => hx.elim ho.1.1 ho.1.2.1) |>.mono ?_
  intro k _ ho
  exact ⟨ho.2, ho.1.2⟩
theorem Two.step (h : Two B w X Y d a b F S La Lb ga gb gsa gsb) (hl : Then B w F d a S' La' w') : ∃ F', Two B w' X Y d a b F' S' La' Lb ga gb gsa gsb ∧ Below B w w' ∧ (∀ k, F' k → F k ∨ w.heap.size ≤ k) ∧ Chg (fun k => F k ∨ k = a) w w' := by
  have hbl := hl.below h.la
  obtain ⟨F', hg, hF, hc⟩ := hl
  have hs := h.small
  have ap : ∀ {k : Nat}, k < w.heap.size → ¬ F k → ¬ F' k := fun hk hn hf => (hF _ hf).elim hn (fun h => by omega)
  exact ⟨F', ⟨h.wx.keep hc (fun e => e.elim h.XF h.Xl.1), h.wy.keep hc (fun e => e.elim h.YF h.Yl.1), hg, ⟨hg.1, h.lb.2.1.keep hc (fun e => e.elim h.lb.2.2.1 (fun e => h.ab e.symm)), ap hs.2.2.1 h.lb.2.2.1, h.lb.2.2.2⟩, h.ra.step hF hc, h.rb.step hF hc, h.ab, ap hs.2.2.2.1 h.XF, ap hs.2.2.2.2 h.YF, h.Xl, h.Yl, h.XY, h.low⟩, hbl, hF, hc⟩
/-- The world's groups are noted anew. -/
theorem Two.put (h : Two B w X Y d a b F S La Lb ga gb gsa gsb) (hr : Rk (Off F a b X Y) w v gs) : Two B (w.setCell ⟨X, 2, none⟩ v) X Y d a b F S La Lb v gb gs gsb ∧ Below B w (w.setCell ⟨X, 2, none⟩ v) := by
  have hg : Chg (· = X) w (w.setCell ⟨X, 2, none⟩ v) := (Chg.refl (· = X) w).setCell (p := ⟨X, 2, none⟩) (Or.inl rfl) _
  refine ⟨⟨heap_set h.wx 2 v, h.wy.keep hg (fun e => h.XY e.symm), h.la.keep hg (fun k hk e => h.XF (e ▸ hk)) (fun e => h.Xl.1 e.symm), h.lb.keep hg (fun k hk e => h.XF (e ▸ hk)) (fun e => h.Xl.2 e.symm), hr.keep hg (fun k ho e => ho.2.2.2.1 e), h.rb.keep hg (fun k ho e => ho.2.2.2.1 e), h.ab, h.XF, h.YF, h.Xl, h.Yl, h.XY, h.low⟩, ?_⟩
  exact hg.below (fun k e => by rw [e]; exact h.low.1) h.la.size
end Go.Proofs.YtdbmngbinhemeaaDoor

/-
  Lives that came in; one log in a world of the law's. Conditions: none beyond the facts named.
-/
namespace Go.Proofs.YtdbmngbinhemeaaDoor
open Go.RowKit
variable {B : Nat} {w w' : World} {F F' : Nat → Prop} {X d a : Nat} {S S' : Dk} {La La' : Lw} {ga v : Value} {gsa gs : List (List (List UInt8))} {z : Nm}

/-- A life: calls, at which operation the power goes, which acts stay. -/
structure Lq where
  calls : List Oq
  cut : Int
  keep : Int
  torn : Int
def LifeAt (B : Nat) (w : World) (b off : Nat) (x : Lq) : Prop :=
  (∃ u, w.cell? ⟨b, off, none⟩ = some u ∧ Ob B w u x.calls) ∧ w.cell? ⟨b, off + 1, none⟩ = some (.int .i64 x.cut) ∧ w.cell? ⟨b, off + 2, none⟩ = some (.int .i64 x.keep) ∧ w.cell? ⟨b, off + 3, none⟩ = some (.int .i64 x.torn)
theorem LifeAt.keep' {b off : Nat} {o : Lq} (h : LifeAt B w b off o) (hb : Below B w w') (hlt : b < B) : LifeAt B w' b off o := by
  obtain ⟨⟨u, h3, h3'⟩, h0, h1, h2⟩ := h
  have k := fun (i : Nat) => hb.cell (p := ⟨b, i, none⟩) hlt
  exact ⟨⟨u, (k _).trans h3, h3'.keep hb⟩, (k _).trans h0, (k _).trans h1, (k _).trans h2⟩
def Lv (B : Nat) (w : World) (v : Value) (xs : List Lq) : Prop :=
  ∃ ao cap, v = .slice ao xs.length cap ∧ xs.length ≤ cap ∧ cap ≤ maxLen ∧ (xs ≠ [] → ∃ b off, ao = some ⟨b, off, none⟩ ∧ b < B ∧ ∀ j (h : j < xs.length), LifeAt B w b (off + j * 4) xs[j])
theorem Lv.keep {v : Value} {xs : List Lq} (h : Lv B w v xs) (hb : Below B w w') : Lv B w' v xs := by
  obtain ⟨ao, cap, hv, h1, h2, h4⟩ := h
  refine ⟨ao, cap, hv, h1, h2, fun hl => ?_⟩
  obtain ⟨b, off, ha, hlt, hc⟩ := h4 hl
  exact ⟨b, off, ha, hlt, fun j hj => (hc j hj).keep' hb hlt⟩
theorem Lv.at {ao : Option Addr} {n cap : Nat} {xs : List Lq} (h : Lv B w (.slice ao n cap) xs) {j : Nat} (hj : j < xs.length) : ∃ b off, ao = some ⟨b, off, none⟩ ∧ b < B ∧ LifeAt B w b (off + j * 4) xs[j] := by
  obtain ⟨ao', cap', hv, h1, h2, h4⟩ := h
  injection hv with e1 e2 e3
  subst e1 e2 e3
  obtain ⟨b, off, ha, hlt, hc⟩ := h4 (by rintro rfl; simp at hj)
  exact ⟨b, off, ha, hlt, hc j hj⟩
def SmallL (xs : List Lq) : Prop := ∀ x ∈ xs, Small x.calls ∧ (-9223372036854775808 ≤ x.cut ∧ x.cut ≤ 9223372036854775807)

/-- Apart from disk, log and world. -/
def Off1 (F : Nat → Prop) (a X : Nat) (k : Nat) : Prop := ¬ F k ∧ k ≠ a ∧ k ≠ X
structure One (B : Nat) (w : World) (X d a : Nat) (F : Nat → Prop) (S : Dk) (La : Lw) (ga : Value) (gsa : List (List (List UInt8))) : Prop where
  wx : WorldAt w X d a ga (.slice none 0 0) false
  la : Lg B w F d a S La
  ra : Rk (Off1 F a X) w ga gsa
  XF : ¬ F X
  Xl : X ≠ a
  low : B ≤ X
theorem One.quiet (h : One B w X d a F S La ga gsa) (hc : Chg (fun _ => False) w w') : One B w' X d a F S La ga gsa :=
  ⟨h.wx.keep hc (fun h => h), h.la.keep hc (fun _ _ h => h) (fun h => h), h.ra.keep hc (fun _ _ h => h), h.XF, h.Xl, h.low⟩
theorem One.small (h : One B w X d a F S La ga gsa) : (∀ k, F k → k < w.heap.size) ∧ a < w.heap.size ∧ X < w.heap.size := ⟨fun k hk => (h.la.1.2.1 k hk).2, h.la.lt, lt_of_heap h.wx⟩
/-- What was made since is apart. -/
theorem One.since (h : One B w X d a F S La ga gsa) {k : Nat} (hk : w.heap.size ≤ k) : Off1 F a X k := by
  have hs := h.small
  exact ⟨fun hf => by have := hs.1 k hf; omega, by omega, by omega⟩
theorem Rk.step1 (h : Rk (Off1 F a X) w v gs) (hF : ∀ k, F' k → F k ∨ w.heap.size ≤ k) (hc : Chg (fun k => F k ∨ k = a) w w') : Rk (Off1 F' a X) w' v gs := by
  refine (h.mono (Q := fun k => Off1 F a X k ∧ ¬ F' k) fun k hk ho => ⟨ho, fun hf => (hF k hf).elim ho.1 (fun h => by omega)⟩).keep hc (fun k ho hx => hx.elim ho.1.1 ho.1.2.1) |>.mono ?_
  intro k _ ho
  exact ⟨ho.2, ho.1.2⟩
theorem One.step (h : One B w X d a F S La ga gsa) (hl : Then B w F d a S' La' w') : ∃ F', One B w' X d a F' S' La' ga gsa ∧ Below B w w' ∧ (∀ k, F' k → F k ∨ w.heap.size ≤ k) ∧ Chg (fun k => F k ∨ k = a) w w' := by
  have hbl := hl.below h.la
  obtain ⟨F', hg, hF, hc⟩ := hl
  have hs := h.small
  have ap : ∀ {k : Nat}, k < w.heap.size → ¬ F k → ¬ F' k := fun hk hn hf => (hF _ hf).elim hn (fun h => by omega)
  exact ⟨F', ⟨h.wx.keep hc (fun e => e.elim h.XF h.Xl), hg, h.ra.step1 hF hc, ap hs.2.2 h.XF, h.Xl, h.low⟩, hbl, hF, hc⟩
/-- The world's groups are noted anew. -/
theorem One.put (h : One B w X d a F S La ga gsa) (hr : Rk (Off1 F a X) w v gs) : One B (w.setCell ⟨X, 2, none⟩ v) X d a F S La v gs ∧ Below B w (w.setCell ⟨X, 2, none⟩ v) := by
  have hg : Chg (· = X) w (w.setCell ⟨X, 2, none⟩ v) := (Chg.refl (· = X) w).setCell (p := ⟨X, 2, none⟩) (Or.inl rfl) _
  refine ⟨⟨heap_set h.wx 2 v, h.la.keep hg (fun k hk e => h.XF (e ▸ hk)) (fun e => h.Xl e.symm), hr.keep hg (fun k ho e => ho.2.2 e), h.XF, h.Xl, h.low⟩, ?_⟩
  exact hg.below (fun k e => by rw [e]; exact h.low) h.la.size
theorem gsThen_len1 (kd : Int) (gs : List (List (List UInt8))) (rs : List (List UInt8)) : (gsThen kd gs rs).length ≤ gs.length + 1 := by
  unfold gsThen
  split <;> simp
theorem mild_cut1 {S : Dk} (h : Mild S) (op : Int) : Mild (S.cutAt op) := h
theorem bulk_cut1 (S : Dk) (op : Int) : (S.cutAt op).bulk = S.bulk := rfl
theorem room_cut1 (S : Dk) (op : Int) : (S.cutAt op).room = S.room := rfl
theorem room_crash1 (S : Dk) (keep t : Int) : (S.crash keep t).room = S.room := rfl
theorem has_cut1 {z : Nm} {S : Dk} {L : Lw} {gs : List (List (List UInt8))} (h : Has z S L gs) (op : Int) : Has z (S.cutAt op) L gs := by
  obtain ⟨h1, tail, ⟨h2, h3, h4⟩, h5⟩ := h
  refine ⟨h1, tail, ⟨h2, h3, ?_⟩, h5⟩
  rcases h4 with ⟨h4, e⟩ | ⟨f, h4⟩
  · exact .inl ⟨⟨h4.lookS, h4.lookD, h4.acts⟩, e⟩
  · exact .inr ⟨f, h4.lookS, h4.lookD, h4.acts, h4.file⟩
theorem has_crash1 {z : Nm} {S : Dk} {L : Lw} {gs : List (List (List UInt8))} (h : Has z S L gs) (hk : Ok S) (keep t : Int) : ∃ tail, On z (S.crash keep t) gs tail := by
  obtain ⟨h1, tail, h2, -⟩ := h
  exact ⟨tail, h2.crash hk keep t⟩
/-- What a crash leaves: the old groups, or the new ones. -/
def Either (z : Nm) (S : Dk) (old new : List (List (List UInt8))) : Prop := ∀ keep t, ∃ gq tail, On z (S.crash keep t) gq tail ∧ (gq = old ∨ gq = new)
theorem either_has {z : Nm} {S : Dk} {L : Lw} {gs new : List (List (List UInt8))} (h : Has z S L gs) (hk : Ok S) : Either z S gs new := fun keep t => by
  obtain ⟨tail, h1⟩ := has_crash1 h hk keep t
  exact ⟨gs, tail, h1, .inl rfl⟩
theorem either_laid {z : Nm} {R : Dk × Lw × Int} {old new : List (List (List UInt8))} (h : Laid z R old new) (h0 : R.2.2 = 35) (hk : Ok R.1) : Either z R.1 old new := fun keep t => by
  rcases h.2 (by rw [h0]; decide) with h1 | ⟨-, h1⟩
  · exact either_has h1 hk keep t
  · obtain ⟨tail, h2 | h2⟩ := h1 keep t
    · exact ⟨old, tail, h2, .inl rfl⟩
    · exact ⟨new, tail, h2, .inr rfl⟩
end Go.Proofs.YtdbmngbinhemeaaDoor
