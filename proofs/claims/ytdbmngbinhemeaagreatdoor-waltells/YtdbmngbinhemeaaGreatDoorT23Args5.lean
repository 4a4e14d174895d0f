/-
  Texts joined: Args5, Beside1, Lasts1, WCrcMath, TellsPure, TellsPure2.
-/
import Derived.Test.YtdbmngbinhemeaaGreatDoorT21Shown2
import Derived.Test.YtdbmngbinhemeaaGreatDoorT22LayMild
import Derived.Test.YtdbmngbinhemeaaGreatDoorT12WPut
import Derived.Test.YtdbmngbinhemeaaGreatDoorT19Api
/-
  What came in: calls, truths, in memory that was there when the law began. No condition.
-/
namespace Go.Proofs.YtdbmngbinhemeaaGreatDoor
open Go.RowKit
variable {B : Nat} {w w' : World}

/-- A slice of texts, below B. -/
def Tb (B : Nat) (w : World) (v : Value) (ks : List (List UInt8)) : Prop :=
  ∃ ao cap, v = .slice ao ks.length cap ∧ ks.length ≤ cap ∧ cap ≤ maxLen ∧ (ks ≠ [] → ∃ b off, ao = some ⟨b, off, none⟩ ∧ b < B ∧ ∀ j (h : j < ks.length), w.cell? ⟨b, off + j, none⟩ = some (.string (strB ks[j])))
theorem Tb.keep {v : Value} {ks : List (List UInt8)} (h : Tb B w v ks) (hb : Below B w w') : Tb B w' v ks := by
  obtain ⟨ao, cap, hv, h1, h2, h4⟩ := h
  refine ⟨ao, cap, hv, h1, h2, fun hl => ?_⟩
  obtain ⟨b, off, ha, hlt, hc⟩ := h4 hl
  exact ⟨b, off, ha, hlt, fun j hj => (hb.cell (p := ⟨b, off + j, none⟩) hlt).trans (hc j hj)⟩
theorem Tb.tx {v : Value} {ks : List (List UInt8)} (h : Tb B w v ks) (hB : B ≤ w.heap.size) : Tx w v ks := by
  obtain ⟨ao, cap, hv, h1, h2, h4⟩ := h
  refine ⟨ao, cap, hv, h1, h2, fun hl => ?_⟩
  obtain ⟨b, off, ha, hlt, hc⟩ := h4 hl
  exact ⟨b, off, ha, Nat.lt_of_lt_of_le hlt hB, hc⟩
structure Oq where
  kind : Int
  recs : List (List UInt8)
  n : Int
  torn : Int
/-- One call, its four cells from here on. -/
def OpAt (B : Nat) (w : World) (b off : Nat) (o : Oq) : Prop :=
  w.cell? ⟨b, off, none⟩ = some (.int .i64 o.kind) ∧ (∃ u, w.cell? ⟨b, off + 1, none⟩ = some u ∧ Tb B w u o.recs) ∧ w.cell? ⟨b, off + 2, none⟩ = some (.int .i64 o.n) ∧ w.cell? ⟨b, off + 3, none⟩ = some (.int .i64 o.torn)
theorem OpAt.keep {b off : Nat} {o : Oq} (h : OpAt B w b off o) (hb : Below B w w') (hlt : b < B) : OpAt B w' b off o := by
  obtain ⟨h0, ⟨u, h3, h3'⟩, h1, h2⟩ := h
  have k := fun (i : Nat) => hb.cell (p := ⟨b, i, none⟩) hlt
  exact ⟨(k _).trans h0, ⟨u, (k _).trans h3, h3'.keep hb⟩, (k _).trans h1, (k _).trans h2⟩
/-- Calls. -/
def Ob (B : Nat) (w : World) (v : Value) (os : List Oq) : Prop :=
  ∃ ao cap, v = .slice ao os.length cap ∧ os.length ≤ cap ∧ cap ≤ maxLen ∧ (os ≠ [] → ∃ b off, ao = some ⟨b, off, none⟩ ∧ b < B ∧ ∀ j (h : j < os.length), OpAt B w b (off + j * 4) os[j])
theorem Ob.keep {v : Value} {os : List Oq} (h : Ob B w v os) (hb : Below B w w') : Ob B w' v os := by
  obtain ⟨ao, cap, hv, h1, h2, h4⟩ := h
  refine ⟨ao, cap, hv, h1, h2, fun hl => ?_⟩
  obtain ⟨b, off, ha, hlt, hc⟩ := h4 hl
  exact ⟨b, off, ha, hlt, fun j hj => (hc j hj).keep hb hlt⟩
theorem Ob.at {ao : Option Addr} {n cap : Nat} {os : List Oq} (h : Ob B w (.slice ao n cap) os) {j : Nat} (hj : j < os.length) : ∃ b off, ao = some ⟨b, off, none⟩ ∧ b < B ∧ OpAt B w b (off + j * 4) os[j] := by
  obtain ⟨ao', cap', hv, h1, h2, h4⟩ := h
  injection hv with e1 e2 e3
  subst e1 e2 e3
  obtain ⟨b, off, ha, hlt, hc⟩ := h4 (by rintro rfl; simp at hj)
  exact ⟨b, off, ha, hlt, hc j hj⟩
/-- A slice of truths, below B. -/
def Tr (B : Nat) (w : World) (v : Value) (bs : List Bool) : Prop :=
  ∃ ao cap, v = .slice ao bs.length cap ∧ bs.length ≤ cap ∧ cap ≤ maxLen ∧ (bs ≠ [] → ∃ b off, ao = some ⟨b, off, none⟩ ∧ b < B ∧ ∀ j (h : j < bs.length), w.cell? ⟨b, off + j, none⟩ = some (.bool bs[j]))
theorem Tr.keep {v : Value} {bs : List Bool} (h : Tr B w v bs) (hb : Below B w w') : Tr B w' v bs := by
  obtain ⟨ao, cap, hv, h1, h2, h4⟩ := h
  refine ⟨ao, cap, hv, h1, h2, fun hl => ?_⟩
  obtain ⟨b, off, ha, hlt, hc⟩ := h4 hl
  exact ⟨b, off, ha, hlt, fun j hj => (hb.cell (p := ⟨b, off + j, none⟩) hlt).trans (hc j hj)⟩
theorem Tr.at {ao : Option Addr} {n cap : Nat} {bs : List Bool} (h : Tr B w (.slice ao n cap) bs) {j : Nat} (hj : j < bs.length) : ∃ b off, ao = some ⟨b, off, none⟩ ∧ b < B ∧ w.cell? ⟨b, off + j, none⟩ = some (.bool bs[j]) := by
  obtain ⟨ao', cap', hv, h1, h2, h4⟩ := h
  injection hv with e1 e2 e3
  subst e1 e2 e3
  obtain ⟨b, off, ha, hlt, hc⟩ := h4 (by rintro rfl; simp at hj)
  exact ⟨b, off, ha, hlt, hc j hj⟩
/-- Every number is an int, no record is too long. -/
def Small (os : List Oq) : Prop := ∀ o ∈ os, (-9223372036854775808 ≤ o.kind ∧ o.kind ≤ 9223372036854775807) ∧ ∀ r ∈ o.recs, r.length ≤ 140737488355328
theorem grp_few (rs : List (List UInt8)) : (grp sum4 (fewW rs)).length ≤ 7264 := by
  rw [grp_len]
  have h1 := body_len (fewW rs) (fun r hr => Nat.le_trans (fewW_each rs r hr) (by omega))
  have h2 := sum_each (fewW_each rs)
  have h3 := fewW_len rs
  omega
theorem laid_then (kd : Int) (gs : List (List (List UInt8))) (rs : List (List UInt8)) : (laid sum4 (gsThen kd gs rs)).length ≤ (laid sum4 gs).length + (grp sum4 rs).length := by
  unfold gsThen
  split
  · have := laid_len [] rs
    rw [l0] at this
    simp only [List.nil_append] at this
    omega
  · rw [laid_len]
    omega
theorem bytes_calm {F : Nat → Prop} {d l : Nat} {z : Nm} {gs : List (List (List UInt8))} {m M : Nat} (h : Calmly B w F d l z gs m M) : Calls Tryz.prog 21 #[.pointer (some ⟨l, 0, none⟩)] w fun e w' => e = .returned (.int .i64 ((laid sum4 gs).length : Int)) ∧ w' = w := by
  obtain ⟨S, L, hg, hh, -⟩ := h
  obtain ⟨-, tail, -, h1, -⟩ := hh
  have := bytes_lg hg
  rw [h1] at this
  exact this
end Go.Proofs.YtdbmngbinhemeaaGreatDoor

/-
  Two logs on one disk, each in a world of the law's: what stays when the one does something. Conditions: none beyond the facts named.
-/
namespace Go.Proofs.YtdbmngbinhemeaaGreatDoor
open Go.RowKit
variable {B : Nat} {w w' : World} {F F' : Nat → Prop} {X Y d a b : Nat} {S S' : Dk} {La Lb La' : Lw} {ga gb v : Value} {gsa gsb gs : List (List (List UInt8))} {z : Nm}

def nmA : Nm := [97]
def nmB : Nm := [98]
theorem nmA_ok : isLg nmA = true := by decide
theorem nmB_ok : isLg nmB = true := by decide
theorem ab_ne : nmA ≠ nmB ∧ nmA ≠ nmB ++ anewB ∧ nmB ≠ nmA ∧ nmB ≠ nmA ++ anewB := by decide
/-- Open on a disk that holds these groups. -/
theorem open_on {tail : List UInt8} (h : Stands B w F d S) (ho : On z S gs tail) (hon : S.on = true) (hf : S.fails S.n = false) (hz : isLg z = true) (hB : B ≤ w.heap.size) (hB0 : 0 < B) (hT : TabW w) (hb : S.bulk < 1000000000) :
    Calls Tryz.prog 10 #[.pointer (some ⟨d, 0, none⟩), .string (strB z)] w fun e w' => ∃ l v F' b1, e = .returned (.tuple #[.pointer (some ⟨l, 0, none⟩), v, .int .i64 0]) ∧ w.heap.size ≤ l ∧
      Lg B w' F' d l S.begun ⟨z, false, ((laid sum4 gs).length : Int), ((laid sum4 gs ++ tail).length : Int)⟩ ∧ (∀ k, F' k → F k ∨ w.heap.size ≤ k) ∧ Chg F w w' ∧ Gs w' b1 v gs ∧ w.heap.size ≤ b1 ∧ l < b1 ∧ ∀ k, F' k → k < b1 := by
  have hnm := isLg_nm hz
  have hlk := ho.look hnm.1 hon hf
  refine (open_lg h hB hB0 hT hb z hz).mono ?_
  rintro e w' ⟨x, v, rfl, hO⟩
  rw [hlk] at hO ⊢
  obtain ⟨l, F', b1, rfl, h1, h2, h3, h4, h5, h6, h7, h8⟩ := hO
  exact ⟨l, v, F', b1, rfl, h1, h2, h3, h4, h5, h6, h7, h8⟩
/-- Apart from disk, logs and worlds. -/
def Off (F : Nat → Prop) (a b X Y : Nat) (k : Nat) : Prop := ¬ F k ∧ k ≠ a ∧ k ≠ b ∧ k ≠ X ∧ k ≠ Y
structure Two (B : Nat) (w : World) (X Y d a b : Nat) (F : Nat → Prop) (S : Dk) (La Lb : Lw) (ga gb : Value) (gsa gsb : List (List (List UInt8))) : Prop where
  wx : WorldAt w X d a ga (.slice none 0 0) false
  wy : WorldAt w Y d b gb (.slice none 0 0) false
  la : Lg B w F d a S La
  lb : Lg B w F d b S Lb
  ra : Rk (Off F a b X Y) w ga gsa
  rb : Rk (Off F a b X Y) w gb gsb
  ab : a ≠ b
  XF : ¬ F X
  YF : ¬ F Y
  Xl : X ≠ a ∧ X ≠ b
  Yl : Y ≠ a ∧ Y ≠ b
  XY : X ≠ Y
  low : B ≤ X ∧ B ≤ Y
theorem Off.swap {k : Nat} (h : Off F a b X Y k) : Off F b a Y X k := ⟨h.1, h.2.2.1, h.2.1, h.2.2.2.2, h.2.2.2.1⟩
theorem Rk.swap (h : Rk (Off F a b X Y) w v gs) : Rk (Off F b a Y X) w v gs := h.mono fun _ _ h => h.swap
theorem Two.swap (h : Two B w X Y d a b F S La Lb ga gb gsa gsb) : Two B w Y X d b a F S Lb La gb ga gsb gsa :=
  ⟨h.wy, h.wx, h.lb, h.la, h.rb.swap, h.ra.swap, h.ab.symm, h.YF, h.XF, ⟨h.Yl.2, h.Yl.1⟩, ⟨h.Xl.2, h.Xl.1⟩, h.XY.symm, ⟨h.low.2, h.low.1⟩⟩
theorem Two.quiet (h : Two B w X Y d a b F S La Lb ga gb gsa gsb) (hc : Chg (fun _ => False) w w') : Two B w' X Y d a b F S La Lb ga gb gsa gsb :=
  ⟨h.wx.keep hc (fun h => h), h.wy.keep hc (fun h => h), h.la.keep hc (fun _ _ h => h) (fun h => h), h.lb.keep hc (fun _ _ h => h) (fun h => h), h.ra.keep hc (fun _ _ h => h), h.rb.keep hc (fun _ _ h => h), h.ab, h.XF, h.YF, h.Xl, h.Yl, h.XY, h.low⟩
theorem Two.small (h : Two B w X Y d a b F S La Lb ga gb gsa gsb) : (∀ k, F k → k < w.heap.size) ∧ a < w.heap.size ∧ b < w.heap.size ∧ X < w.heap.size ∧ Y < w.heap.size := ⟨fun k hk => (h.la.1.2.1 k hk).2, h.la.lt, h.lb.lt, lt_of_heap h.wx, lt_of_heap h.wy⟩
/-- What was made since is apart. -/
theorem Two.since (h : Two B w X Y d a b F S La Lb ga gb gsa gsb) {k : Nat} (hk : w.heap.size ≤ k) : Off F a b X Y k := by
  have hs := h.small
  exact ⟨fun hf => by have := hs.1 k hf; omega, by omega, by omega, by omega, by omega⟩
theorem Rk.step (h : Rk (Off F a b X Y) w v gs) (hF : ∀ k, F' k → F k ∨ w.heap.size ≤ k) (hc : Chg (fun k => F k ∨ k = a) w w') : Rk (Off F' a b X Y) w' v gs := by
  refine (h.mono (Q := fun k => Off F a b X Y k ∧ ¬ F' k) fun k hk ho => ⟨ho, fun hf => (hF k hf).elim ho.1 (fun h => by omega)⟩).keep hc (fun k ho hx => hx.elim ho.1.1 ho.1.2.1) |>.mono ?_
  intro k _ ho
  exact ⟨ho.2, ho.1.2⟩
theorem Two.step (h : Two B w X Y d a b F S La Lb ga gb gsa gsb) (hl : Then B w F d a S' La' w') : ∃ F', Two B w' X Y d a b F' S' La' Lb ga gb gsa gsb ∧ Below B w w' ∧ (∀ k, F' k → F k ∨ w.heap.size ≤ k) ∧ Chg (fun k => F k ∨ k = a) w w' := by
  have hbl := hl.below h.la
  obtain ⟨F', hg, hF, hc⟩ := hl
  have hs := h.small
  have ap : ∀ {k : Nat}, k < w.heap.size → ¬ F k → ¬ F' k := fun hk hn hf => (hF _ hf).elim hn (fun h => by omega)
  exact ⟨F', ⟨h.wx.keep hc (fun e => e.elim h.XF h.Xl.1), h.wy.keep hc (fun e => e.elim h.YF h.Yl.1), hg, ⟨hg.1, h.lb.2.1.keep hc (fun e => e.elim h.lb.2.2.1 (fun e => h.ab e.symm)), ap hs.2.2.1 h.lb.2.2.1, h.lb.2.2.2⟩, h.ra.step hF hc, h.rb.step hF hc, h.ab, ap hs.2.2.2.1 h.XF, ap hs.2.2.2.2 h.YF, h.Xl, h.Yl, h.XY, h.low⟩, hbl, hF, hc⟩
/-- The world's groups are noted anew. -/
theorem Two.put (h : Two B w X Y d a b F S La Lb ga gb gsa gsb) (hr : Rk (Off F a b X Y) w v gs) : Two B (w.setCell ⟨X, 2, none⟩ v) X Y d a b F S La Lb v gb gs gsb ∧ Below B w (w.setCell ⟨X, 2, none⟩ v) := by
  have hg : Chg (· = X) w (w.setCell ⟨X, 2, none⟩ v) := (Chg.refl (· = X) w).setCell (p := ⟨X, 2, none⟩) (Or.inl rfl) _
  refine ⟨⟨heap_set h.wx 2 v, h.wy.keep hg (fun e => h.XY e.symm), h.la.keep hg (fun k hk e => h.XF (e ▸ hk)) (fun e => h.Xl.1 e.symm), h.lb.keep hg (fun k hk e => h.XF (e ▸ hk)) (fun e => h.Xl.2 e.symm), hr.keep hg (fun k ho e => ho.2.2.2.1 e), h.rb.keep hg (fun k ho e => ho.2.2.2.1 e), h.ab, h.XF, h.YF, h.Xl, h.Yl, h.XY, h.low⟩, ?_⟩
  exact hg.below (fun k e => by rw [e]; exact h.low.1) h.la.size
end Go.Proofs.YtdbmngbinhemeaaGreatDoor

/-
  Lives that came in; one log in a world of the law's. Conditions: none beyond the facts named.
-/
namespace Go.Proofs.YtdbmngbinhemeaaGreatDoor
open Go.RowKit
variable {B : Nat} {w w' : World} {F F' : Nat → Prop} {X d a : Nat} {S S' : Dk} {La La' : Lw} {ga v : Value} {gsa gs : List (List (List UInt8))} {z : Nm}

/-- A life: calls, at which operation the power goes, which acts stay. -/
structure Lq where
  calls : List Oq
  cut : Int
  keep : Int
  torn : Int
def LifeAt (B : Nat) (w : World) (b off : Nat) (x : Lq) : Prop :=
  (∃ u, w.cell? ⟨b, off, none⟩ = some u ∧ Ob B w u x.calls) ∧ w.cell? ⟨b, off + 1, none⟩ = some (.int .i64 x.cut) ∧ w.cell? ⟨b, off + 2, none⟩ = some (.int .i64 x.keep) ∧ w.cell? ⟨b, off + 3, none⟩ = some (.int .i64 x.torn)
theorem LifeAt.keep' {b off : Nat} {o : Lq} (h : LifeAt B w b off o) (hb : Below B w w') (hlt : b < B) : LifeAt B w' b off o := by
  obtain ⟨⟨u, h3, h3'⟩, h0, h1, h2⟩ := h
  have k := fun (i : Nat) => hb.cell (p := ⟨b, i, none⟩) hlt
  exact ⟨⟨u, (k _).trans h3, h3'.keep hb⟩, (k _).trans h0, (k _).trans h1, (k _).trans h2⟩
def Lv (B : Nat) (w : World) (v : Value) (xs : List Lq) : Prop :=
  ∃ ao cap, v = .slice ao xs.length cap ∧ xs.length ≤ cap ∧ cap ≤ maxLen ∧ (xs ≠ [] → ∃ b off, ao = some ⟨b, off, none⟩ ∧ b < B ∧ ∀ j (h : j < xs.length), LifeAt B w b (off + j * 4) xs[j])
theorem Lv.keep {v : Value} {xs : List Lq} (h : Lv B w v xs) (hb : Below B w w') : Lv B w' v xs := by
  obtain ⟨ao, cap, hv, h1, h2, h4⟩ := h
  refine ⟨ao, cap, hv, h1, h2, fun hl => ?_⟩
  obtain ⟨b, off, ha, hlt, hc⟩ := h4 hl
  exact ⟨b, off, ha, hlt, fun j hj => (hc j hj).keep' hb hlt⟩
theorem Lv.at {ao : Option Addr} {n cap : Nat} {xs : List Lq} (h : Lv B w (.slice ao n cap) xs) {j : Nat} (hj : j < xs.length) : ∃ b off, ao = some ⟨b, off, none⟩ ∧ b < B ∧ LifeAt B w b (off + j * 4) xs[j] := by
  obtain ⟨ao', cap', hv, h1, h2, h4⟩ := h
  injection hv with e1 e2 e3
  subst e1 e2 e3
  obtain ⟨b, off, ha, hlt, hc⟩ := h4 (by rintro rfl; simp at hj)
  exact ⟨b, off, ha, hlt, hc j hj⟩
def SmallL (xs : List Lq) : Prop := ∀ x ∈ xs, Small x.calls ∧ (-9223372036854775808 ≤ x.cut ∧ x.cut ≤ 9223372036854775807)

/-- Apart from disk, log and world. -/
def Off1 (F : Nat → Prop) (a X : Nat) (k : Nat) : Prop := ¬ F k ∧ k ≠ a ∧ k ≠ X
structure One (B : Nat) (w : World) (X d a : Nat) (F : Nat → Prop) (S : Dk) (La : Lw) (ga : Value) (gsa : List (List (List UInt8))) : Prop where
  wx : WorldAt w X d a ga (.slice none 0 0) false
  la : Lg B w F d a S La
  ra : Rk (Off1 F a X) w ga gsa
  XF : ¬ F X
  Xl : X ≠ a
  low : B ≤ X
theorem One.quiet (h : One B w X d a F S La ga gsa) (hc : Chg (fun _ => False) w w') : One B w' X d a F S La ga gsa :=
  ⟨h.wx.keep hc (fun h => h), h.la.keep hc (fun _ _ h => h) (fun h => h), h.ra.keep hc (fun _ _ h => h), h.XF, h.Xl, h.low⟩
theorem One.small (h : One B w X d a F S La ga gsa) : (∀ k, F k → k < w.heap.size) ∧ a < w.heap.size ∧ X < w.heap.size := ⟨fun k hk => (h.la.1.2.1 k hk).2, h.la.lt, lt_of_heap h.wx⟩
/-- What was made since is apart. -/
theorem One.since (h : One B w X d a F S La ga gsa) {k : Nat} (hk : w.heap.size ≤ k) : Off1 F a X k := by
  have hs := h.small
  exact ⟨fun hf => by have := hs.1 k hf; omega, by omega, by omega⟩
theorem Rk.step1 (h : Rk (Off1 F a X) w v gs) (hF : ∀ k, F' k → F k ∨ w.heap.size ≤ k) (hc : Chg (fun k => F k ∨ k = a) w w') : Rk (Off1 F' a X) w' v gs := by
  refine (h.mono (Q := fun k => Off1 F a X k ∧ ¬ F' k) fun k hk ho => ⟨ho, fun hf => (hF k hf).elim ho.1 (fun h => by omega)⟩).keep hc (fun k ho hx => hx.elim ho.1.1 ho.1.2.1) |>.mono ?_
  intro k _ ho
  exact ⟨ho.2, ho.1.2⟩
theorem One.step (h : One B w X d a F S La ga gsa) (hl : Then B w F d a S' La' w') : ∃ F', One B w' X d a F' S' La' ga gsa ∧ Below B w w' ∧ (∀ k, F' k → F k ∨ w.heap.size ≤ k) ∧ Chg (fun k => F k ∨ k = a) w w' := by
  have hbl := hl.below h.la
  obtain ⟨F', hg, hF, hc⟩ := hl
  have hs := h.small
  have ap : ∀ {k : Nat}, k < w.heap.size → ¬ F k → ¬ F' k := fun hk hn hf => (hF _ hf).elim hn (fun h => by omega)
  exact ⟨F', ⟨h.wx.keep hc (fun e => e.elim h.XF h.Xl), hg, h.ra.step1 hF hc, ap hs.2.2 h.XF, h.Xl, h.low⟩, hbl, hF, hc⟩
/-- The world's groups are noted anew. -/
theorem One.put (h : One B w X d a F S La ga gsa) (hr : Rk (Off1 F a X) w v gs) : One B (w.setCell ⟨X, 2, none⟩ v) X d a F S La v gs ∧ Below B w (w.setCell ⟨X, 2, none⟩ v) := by
  have hg : Chg (· = X) w (w.setCell ⟨X, 2, none⟩ v) := (Chg.refl (· = X) w).setCell (p := ⟨X, 2, none⟩) (Or.inl rfl) _
  refine ⟨⟨heap_set h.wx 2 v, h.la.keep hg (fun k hk e => h.XF (e ▸ hk)) (fun e => h.Xl e.symm), hr.keep hg (fun k ho e => ho.2.2 e), h.XF, h.Xl, h.low⟩, ?_⟩
  exact hg.below (fun k e => by rw [e]; exact h.low) h.la.size
theorem gsThen_len1 (kd : Int) (gs : List (List (List UInt8))) (rs : List (List UInt8)) : (gsThen kd gs rs).length ≤ gs.length + 1 := by
  unfold gsThen
  split <;> simp
theorem mild_cut1 {S : Dk} (h : Mild S) (op : Int) : Mild (S.cutAt op) := h
theorem bulk_cut1 (S : Dk) (op : Int) : (S.cutAt op).bulk = S.bulk := rfl
theorem room_cut1 (S : Dk) (op : Int) : (S.cutAt op).room = S.room := rfl
theorem room_crash1 (S : Dk) (keep t : Int) : (S.crash keep t).room = S.room := rfl
theorem has_cut1 {z : Nm} {S : Dk} {L : Lw} {gs : List (List (List UInt8))} (h : Has z S L gs) (op : Int) : Has z (S.cutAt op) L gs := by
  obtain ⟨h1, tail, ⟨h2, h3, h4⟩, h5⟩ := h
  refine ⟨h1, tail, ⟨h2, h3, ?_⟩, h5⟩
  rcases h4 with ⟨h4, e⟩ | ⟨f, h4⟩
  · exact .inl ⟨⟨h4.lookS, h4.lookD, h4.acts⟩, e⟩
  · exact .inr ⟨f, h4.lookS, h4.lookD, h4.acts, h4.file⟩
theorem has_crash1 {z : Nm} {S : Dk} {L : Lw} {gs : List (List (List UInt8))} (h : Has z S L gs) (hk : Ok S) (keep t : Int) : ∃ tail, On z (S.crash keep t) gs tail := by
  obtain ⟨h1, tail, h2, -⟩ := h
  exact ⟨tail, h2.crash hk keep t⟩
/-- What a crash leaves: the old groups, or the new ones. -/
def Either (z : Nm) (S : Dk) (old new : List (List (List UInt8))) : Prop := ∀ keep t, ∃ gq tail, On z (S.crash keep t) gq tail ∧ (gq = old ∨ gq = new)
theorem either_has {z : Nm} {S : Dk} {L : Lw} {gs new : List (List (List UInt8))} (h : Has z S L gs) (hk : Ok S) : Either z S gs new := fun keep t => by
  obtain ⟨tail, h1⟩ := has_crash1 h hk keep t
  exact ⟨gs, tail, h1, .inl rfl⟩
theorem either_laid {z : Nm} {R : Dk × Lw × Int} {old new : List (List (List UInt8))} (h : Laid z R old new) (h0 : R.2.2 = 35) (hk : Ok R.1) : Either z R.1 old new := fun keep t => by
  rcases h.2 (by rw [h0]; decide) with h1 | ⟨-, h1⟩
  · exact either_has h1 hk keep t
  · obtain ⟨tail, h2 | h2⟩ := h1 keep t
    · exact ⟨old, tail, h2, .inl rfl⟩
    · exact ⟨new, tail, h2, .inr rfl⟩
end Go.Proofs.YtdbmngbinhemeaaGreatDoor

/-
  Plain facts on the sum: bit by bit and by fours are one; it is linear; bits turned within 32 side by side make it another one. No condition.
-/
namespace Go.Proofs.YtdbmngbinhemeaaGreatDoor.Pl

def bs (x : Nat) : Nat := if x % 2 = 1 then x / 2 ^^^ 3988292384 else x / 2
def bsN : Nat → Nat → Nat
  | 0, x => x
  | n + 1, x => bsN n (bs x)

theorem bsN_zero : ∀ n, bsN n 0 = 0
  | 0 => rfl
  | n + 1 => bsN_zero n

theorem xor_half (a b : Nat) : (a ^^^ b) / 2 = a / 2 ^^^ b / 2 := by
  have := Nat.shiftRight_xor_distrib (a := a) (b := b) (i := 1)
  simpa [Nat.shiftRight_eq_div_pow] using this
theorem xor_par (a b : Nat) : (a ^^^ b) % 2 = (a % 2 + b % 2) % 2 := by
  have h := Nat.xor_mod_two_pow (a := a) (b := b) (n := 1)
  rw [Nat.pow_one] at h
  rw [h]
  rcases Nat.mod_two_eq_zero_or_one a with ha | ha <;> rcases Nat.mod_two_eq_zero_or_one b with hb | hb <;> rw [ha, hb] <;> rfl
theorem xor_same {a b c : Nat} (h : a ^^^ b = a ^^^ c) : b = c := by
  have := congrArg (fun z => a ^^^ z) h
  simp only [← Nat.xor_assoc, Nat.xor_self, Nat.zero_xor] at this
  exact this
theorem bs_xor (a b : Nat) : bs (a ^^^ b) = bs a ^^^ bs b := by
  unfold bs
  have hp := xor_par a b
  rw [xor_half]
  rcases Nat.mod_two_eq_zero_or_one a with ha | ha <;> rcases Nat.mod_two_eq_zero_or_one b with hb | hb
  · rw [if_neg (by omega), if_neg (by omega), if_neg (by omega)]
  · rw [if_pos (by omega), if_neg (by omega), if_pos (by omega), Nat.xor_assoc]
  · rw [if_pos (by omega), if_pos (by omega), if_neg (by omega)]
    rw [Nat.xor_assoc, Nat.xor_assoc, Nat.xor_comm (b / 2)]
  · rw [if_neg (by omega), if_pos (by omega), if_pos (by omega)]
    rw [Nat.xor_assoc, ← Nat.xor_assoc (3988292384) (b / 2), Nat.xor_comm 3988292384 (b / 2), Nat.xor_assoc (b / 2), Nat.xor_self, Nat.xor_zero]
theorem bsN_xor : ∀ (n a b : Nat), bsN n (a ^^^ b) = bsN n a ^^^ bsN n b
  | 0, _, _ => rfl
  | n + 1, a, b => by simp only [bsN]; rw [bs_xor, bsN_xor n]
theorem bsN_add : ∀ (m n x : Nat), bsN (m + n) x = bsN n (bsN m x)
  | 0, n, x => by rw [Nat.zero_add]; rfl
  | m + 1, n, x => by rw [show m + 1 + n = (m + n) + 1 by omega]; simp only [bsN]; exact bsN_add m n (bs x)
theorem bs_two (z : Nat) : bs (2 * z) = z := by unfold bs; rw [if_neg (by omega)]; omega
theorem bsN_pow : ∀ (t z : Nat), bsN t (2 ^ t * z) = z
  | 0, z => by simp [bsN]
  | t + 1, z => by
    simp only [bsN]
    rw [show 2 ^ (t + 1) * z = 2 * (2 ^ t * z) by rw [Nat.pow_succ]; rw [Nat.mul_comm (2 ^ t) 2, Nat.mul_assoc], bs_two, bsN_pow t z]

theorem nib_small : ∀ r : Fin 16, bsN 4 r.val = tabL.getD r.val 0 := by decide +kernel
theorem nib_bs (x : Nat) : nib x = bsN 4 x := by
  have hx : x = 2 ^ 4 * (x / 16) ^^^ x % 16 := by
    have h : x % 16 < 2 ^ 4 := Nat.mod_lt _ (by decide)
    have := Nat.two_pow_add_eq_or_of_lt h (x / 16)
    have hxor : 2 ^ 4 * (x / 16) ^^^ x % 16 = 2 ^ 4 * (x / 16) + x % 16 := by
      rw [this]
      apply Nat.eq_of_testBit_eq
      intro i
      rw [Nat.testBit_xor, Nat.testBit_or]
      by_cases hi : i < 4
      · have : (2 ^ 4 * (x / 16)).testBit i = false := by
          rw [Nat.testBit_two_pow_mul]
          simp; omega
        simp [this]
      · have : (x % 16).testBit i = false := Nat.testBit_lt_two_pow (Nat.lt_of_lt_of_le h (Nat.pow_le_pow_right (by decide) (by omega)))
        simp [this]
    rw [hxor]
    omega
  conv => rhs; rw [hx]
  rw [bsN_xor, bsN_pow, nib_small ⟨x % 16, by omega⟩]
  rfl
theorem crcB_bs (s : Nat) (c : UInt8) : crcB s c = bsN 8 (s ^^^ c.toNat) := by
  unfold crcB
  rw [nib_bs, nib_bs, ← bsN_add]

theorem bs_lt (x : Nat) (h : x < 4294967296) : bs x < 4294967296 := by
  unfold bs
  split
  · exact Nat.xor_lt_two_pow (n := 32) (by omega) (by decide)
  · omega
theorem bs_ne (x : Nat) (h : x < 4294967296) (h0 : x ≠ 0) : bs x ≠ 0 := by
  unfold bs
  split
  · intro e
    have e2 : x / 2 = 3988292384 := by
      have h1 : 3988292384 ^^^ (x / 2) = 3988292384 ^^^ 3988292384 := by rw [Nat.xor_comm, e, Nat.xor_self]
      exact xor_same h1
    omega
  · omega
theorem bsN_ne : ∀ (n x : Nat), x < 4294967296 → x ≠ 0 → bsN n x ≠ 0
  | 0, _, _, h => h
  | n + 1, x, h, h0 => bsN_ne n (bs x) (bs_lt x h) (bs_ne x h h0)

theorem crcL_xor (r : List UInt8) : ∀ x d : Nat, crcL (x ^^^ d) r = crcL x r ^^^ bsN (8 * r.length) d := by
  induction r with
  | nil => intro x d; rfl
  | cons c r ih =>
    intro x d
    have e : crcB (x ^^^ d) c = crcB x c ^^^ bsN 8 d := by
      rw [crcB_bs, crcB_bs, Nat.xor_assoc, Nat.xor_comm d, ← Nat.xor_assoc, bsN_xor]
    show crcL (crcB (x ^^^ d) c) r = crcL (crcB x c) r ^^^ _
    rw [e, ih, ← bsN_add]
    congr 2
    simp; omega

/-- One bit turned. -/
theorem crcL_flip (s : Nat) (l : List UInt8) (j t : Nat) (hj : j < l.length) (ht : t < 8) (c' : UInt8) (hc : c'.toNat = l[j].toNat ^^^ 2 ^ t) :
    crcL s (l.set j c') = crcL s l ^^^ bsN (8 * (l.length - j) - t) 1 := by
  have h1 : l = l.take j ++ l[j] :: l.drop (j + 1) := by rw [List.getElem_cons_drop, List.take_append_drop]
  have h2 : l.set j c' = l.take j ++ c' :: l.drop (j + 1) := by rw [List.set_eq_take_append_cons_drop, if_pos hj]
  have hlen : (l.drop (j + 1)).length = l.length - j - 1 := by simp; omega
  rw [h2]
  conv => rhs; lhs; rw [h1]
  rw [crcL_append, crcL_append]
  generalize crcL s (l.take j) = a
  show crcL (crcB a c') _ = crcL (crcB a l[j]) _ ^^^ _
  have e : crcB a c' = crcB a l[j] ^^^ bsN (8 - t) 1 := by
    rw [crcB_bs, crcB_bs, hc, ← Nat.xor_assoc, bsN_xor]
    congr 1
    conv => lhs; rw [show 8 = t + (8 - t) by omega, bsN_add, ← Nat.mul_one (2 ^ t), bsN_pow]
  rw [e, crcL_xor, ← bsN_add, hlen]
  congr 2
  omega

theorem bsN_bit (n i : Nat) (h : i ≤ n) : bsN n (2 ^ i) = bsN (n - i) 1 := by
  conv => lhs; rw [show n = i + (n - i) by omega, bsN_add, ← Nat.mul_one (2 ^ i), bsN_pow]
theorem mod_next (p i : Nat) : p % 2 ^ (i + 1) = p % 2 ^ i ^^^ (p / 2 ^ i % 2) * 2 ^ i := by
  have h1 : p % 2 ^ (i + 1) = 2 ^ i * (p / 2 ^ i % 2) + p % 2 ^ i := by
    rw [Nat.pow_succ, Nat.mod_mul]; omega
  have h2 : p % 2 ^ i < 2 ^ i := Nat.mod_lt _ (Nat.two_pow_pos _)
  rw [h1, Nat.mul_comm (p / 2 ^ i % 2)]
  rw [Nat.two_pow_add_eq_or_of_lt h2]
  apply Nat.eq_of_testBit_eq
  intro k
  rw [Nat.testBit_or, Nat.testBit_xor]
  by_cases hk : k < i
  · have : (2 ^ i * (p / 2 ^ i % 2)).testBit k = false := by
      rw [Nat.testBit_two_pow_mul]
      simp; omega
    simp [this]
  · have : (p % 2 ^ i).testBit k = false := Nat.testBit_lt_two_pow (Nat.lt_of_lt_of_le h2 (Nat.pow_le_pow_right (by decide) (by omega)))
    simp [this]
/-- What turning the pattern's bits does. -/
theorem crc_other (a b : List UInt8) (n p : Nat) (h : crcL 4294967295 b = crcL 4294967295 a ^^^ bsN n p) (hp : p < 4294967296) (h0 : p ≠ 0) : crc b ≠ crc a := by
  intro e
  unfold crc at e
  have e2 : crcL 4294967295 b = crcL 4294967295 a := xor_same e
  rw [e2] at h
  have : bsN n p = 0 := by
    have := congrArg (fun z => crcL 4294967295 a ^^^ z) h
    simp only [Nat.xor_self, ← Nat.xor_assoc, Nat.zero_xor] at this
    exact this.symm
  exact bsN_ne n p hp h0 this
end Go.Proofs.YtdbmngbinhemeaaGreatDoor.Pl

/-
  One byte of a log's file turned: what can be read then are the same groups, or nothing. No program here. Conditions: none.
-/
namespace Go.Proofs.YtdbmngbinhemeaaGreatDoor

/-- One byte is another one. -/
def Turned (l l' : List UInt8) : Prop := ∃ p c c' r, l = p ++ c :: r ∧ l' = p ++ c' :: r ∧ c ≠ c'
theorem Turned.length {l l' : List UInt8} (h : Turned l l') : l'.length = l.length := by
  obtain ⟨p, c, c', r, rfl, rfl, -⟩ := h
  simp
theorem Turned.ne {l l' : List UInt8} (h : Turned l l') : l' ≠ l := by
  obtain ⟨p, c, c', r, rfl, rfl, hc⟩ := h
  intro e
  have := List.append_cancel_left e
  injection this with this _
  exact hc this.symm
theorem Turned.part {a b x : List UInt8} (h : Turned (a ++ b) x) : (∃ a', Turned a a' ∧ x = a' ++ b) ∨ (∃ b', Turned b b' ∧ x = a ++ b') := by
  obtain ⟨p, c, c', r, h1, rfl, hc⟩ := h
  rcases List.append_eq_append_iff.1 h1 with ⟨s, hp, hb⟩ | ⟨s, ha, hb⟩
  · subst hp
    exact .inr ⟨s ++ c' :: r, ⟨s, c, c', r, hb, rfl, hc⟩, by simp⟩
  · cases s with
    | nil =>
      rw [List.append_nil] at ha
      subst ha
      exact .inr ⟨c' :: r, ⟨[], c, c', r, hb.symm, rfl, hc⟩, by simp⟩
    | cons d s =>
      rw [List.cons_append] at hb
      injection hb with e1 e2
      subst e1 e2 ha
      exact .inl ⟨p ++ c' :: s, ⟨p, c, c', s, rfl, rfl, hc⟩, by simp⟩
theorem turned_modify {l : List UInt8} {i : Nat} {b : UInt8} (hi : i < l.length) (hb : b ≠ 0) : Turned l (l.modify i (· ^^^ b)) := by
  have h1 : l = l.take i ++ l[i] :: l.drop (i + 1) := by rw [List.getElem_cons_drop, List.take_append_drop]
  have h2 : l.modify i (· ^^^ b) = l.take i ++ (l[i] ^^^ b) :: l.drop (i + 1) := by
    rw [List.modify_eq_take_cons_drop hi]
  refine ⟨_, _, _, _, h1, h2, fun e => hb ?_⟩
  have e2 := congrArg (fun z => l[i] ^^^ z) e
  simp only [← UInt8.xor_assoc, UInt8.xor_self, UInt8.zero_xor] at e2
  exact e2.symm
theorem modify_zero (l : List UInt8) (i : Nat) : l.modify i (· ^^^ 0) = l := by
  have : (fun x : UInt8 => x ^^^ 0) = id := by funext x; simp
  rw [this, List.modify_id]
/-- The sum tells one byte. -/
theorem sum4_turned {l l' : List UInt8} (h : Turned l l') : sum4 l ≠ sum4 l' := by
  obtain ⟨p, c, c', r, rfl, rfl, hc⟩ := h
  intro e
  have e1 : crc (p ++ c :: r) = crc (p ++ c' :: r) := by
    have h1 := congrArg unword e
    unfold sum4 at h1
    rwa [unword_word _ (crc_lt _), unword_word _ (crc_lt _)] at h1
  have hx : crcL 4294967295 (p ++ c' :: r) = crcL 4294967295 (p ++ c :: r) ^^^ Pl.bsN (8 * r.length + 8) (c.toNat ^^^ c'.toNat) := by
    rw [crcL_append, crcL_append]
    generalize crcL 4294967295 p = a
    show crcL (crcB a c') r = crcL (crcB a c) r ^^^ _
    have e2 : crcB a c' = crcB a c ^^^ Pl.bsN 8 (c.toNat ^^^ c'.toNat) := by
      rw [Pl.crcB_bs, Pl.crcB_bs, ← Pl.bsN_xor]
      congr 1
      rw [Nat.xor_assoc, ← Nat.xor_assoc c.toNat, Nat.xor_self, Nat.zero_xor]
    rw [e2, Pl.crcL_xor, ← Pl.bsN_add]
    congr 2
    omega
  have hlt : c.toNat ^^^ c'.toNat < 256 := Nat.xor_lt_two_pow (n := 8) c.toNat_lt c'.toNat_lt
  refine Pl.crc_other _ _ _ _ hx (by omega) (fun h0 => hc ?_) e1.symm
  have h1 := congrArg (fun z => c.toNat ^^^ z) h0
  simp only [← Nat.xor_assoc, Nat.xor_self, Nat.zero_xor, Nat.xor_zero] at h1
  exact UInt8.toNat.inj h1.symm
section
variable {cs : List UInt8 → List UInt8} (hcs : ∀ b, (cs b).length = 4) (hone : ∀ l l', Turned l l' → cs l ≠ cs l')
include hcs hone
omit hcs in
theorem sum_turned {M M' : List UInt8} (hl : M.length = M'.length) (h : Turned (M ++ cs M) (M' ++ cs M')) : False := by
  rcases h.part with ⟨a, ha, e⟩ | ⟨b, hb, e⟩
  · have h1 := List.append_inj e (by rw [ha.length, hl])
    rw [← h1.1] at ha
    exact hone _ _ ha h1.2.symm
  · have h1 := List.append_inj e hl.symm
    rw [h1.1] at h1
    exact hb.ne h1.2.symm
omit hone in
theorem headW_is {b : List UInt8} (h : (headW cs b).2 = true) (hl : 12 ≤ b.length) : b.take 12 = hdW cs (headW cs b).1 := by
  have hlt : (b.take 12).length = 12 := by rw [List.length_take]; omega
  obtain ⟨S, hS⟩ : ∃ S, headW cs b = if 2129920 < S then ((0 : Nat), false) else (S, (b.take 12).isPrefixOf (hdW cs S)) := ⟨_, rfl⟩
  rw [hS] at h ⊢
  by_cases hb : 2129920 < S
  · rw [if_pos hb] at h
    cases h
  · rw [if_neg hb] at h ⊢
    obtain ⟨c, hc⟩ := isPre_iff.1 h
    have h2 := congrArg List.length hc
    rw [hdW_length hcs, List.length_append, hlt] at h2
    have : c = [] := List.eq_nil_of_length_eq_zero (by omega)
    show b.take 12 = hdW cs S
    rw [hc, this, List.append_nil]
theorem headW_turned {n : Nat} {h' x : List UInt8} (h : Turned (hdW cs n) h') : (headW cs (h' ++ x)).2 = false := by
  rw [Bool.eq_false_iff]
  intro ht
  have hl := h.length
  rw [hdW_length hcs] at hl
  have h1 := headW_is hcs ht (by rw [List.length_append]; omega)
  rw [List.take_left' hl] at h1
  rw [h1] at h
  exact sum_turned hone (by rw [h8_length, h8_length]) h
/-- A whole group, one byte turned. -/
theorem groupW_turned {g : List (List UInt8)} {l' x : List UInt8} (hr : right g = true) (h : Turned (grp cs g) l') : (groupW cs (l' ++ x)).2.2 = false := by
  have hb : ¬ 2129920 < (bodyW g).length := by have := right_body hr; omega
  unfold grp at h
  show (groupB cs _ _).2.2 = false
  rcases h.part with ⟨h', hh, rfl⟩ | ⟨q, hq, rfl⟩
  · unfold groupB
    rw [List.append_assoc, headW_turned hcs hone hh, if_pos (.inl rfl)]
  · have hl := hdW_length hcs (bodyW g).length
    have hql := hq.length
    rw [List.length_append, hcs] at hql
    rw [List.append_assoc, headW_put hcs _ _ hb]
    unfold groupB
    have hlen : ¬ (hdW cs (bodyW g).length ++ (q ++ x)).length < 12 := by rw [List.length_append, hl]; omega
    rw [if_neg (fun e => e.elim (fun e => by cases e) hlen), List.drop_left' hl]
    simp only
    have e1 : (q ++ x).take (bodyW g).length = q.take (bodyW g).length := List.take_append_of_le_length (by omega)
    have e2 : (q ++ x).drop (bodyW g).length = q.drop (bodyW g).length ++ x := List.drop_append_of_le_length (by omega)
    rw [e1, e2]
    have hbl : (q.take (bodyW g).length).length = (bodyW g).length := by rw [List.length_take]; omega
    have hsl : (q.drop (bodyW g).length).length = 4 := by rw [List.length_drop]; omega
    generalize recsW ((q.take (bodyW g).length).length + 1) (q.take (bodyW g).length) 0 ((bodyW g).length : Int) = R
    unfold recB
    split
    · rfl
    · rw [if_neg (by omega), List.take_left' hsl]
      unfold sumB
      have hp : (q.drop (bodyW g).length).isPrefixOf (cs (q.take (bodyW g).length)) = false := by
        rw [Bool.eq_false_iff]
        intro ht
        obtain ⟨c, hc⟩ := isPre_iff.1 ht
        have h2 := congrArg List.length hc
        rw [hcs, List.length_append, hsl] at h2
        have hc0 : c = [] := List.eq_nil_of_length_eq_zero (by omega)
        rw [hc0, List.append_nil] at hc
        have hqq : q = q.take (bodyW g).length ++ cs (q.take (bodyW g).length) := by rw [hc, List.take_append_drop]
        rw [hqq] at hq
        exact sum_turned hone hbl.symm hq
      rw [if_pos (.inl hp)]
      exact hp
/-- A group of which the end is missing, one byte turned: no whole one. -/
theorem groupW_torn {g : List (List UInt8)} {j : Nat} {t : List UInt8} (hr : right g = true) (hj : j < (grp cs g).length) (h : Turned ((grp cs g).take j) t) : (groupW cs t).2.1 = 0 := by
  have hb : ¬ 2129920 < (bodyW g).length := by have := right_body hr; omega
  have hgl := grp_length hcs g
  have hl := hdW_length hcs (bodyW g).length
  have htl : t.length = j := by rw [h.length, List.length_take]; omega
  show (groupB cs _ _).2.1 = 0
  by_cases hc : (headW cs t).2 = false ∨ t.length < 12
  · unfold groupB
    rw [if_pos hc]
  · have ht : (headW cs t).2 = true := by
      cases hq : (headW cs t).2 with
      | true => rfl
      | false => exact absurd (.inl hq) hc
    have h12 : 12 ≤ t.length := by
      by_cases h1 : 12 ≤ t.length
      · exact h1
      · exact absurd (.inr (by omega)) hc
    have hd := headW_is hcs ht h12
    have e0 : (grp cs g).take j = hdW cs (bodyW g).length ++ (bodyW g ++ cs (bodyW g)).take (j - 12) := by
      unfold grp
      rw [List.take_append, List.take_of_length_le (by omega), hl]
    rw [e0] at h
    rcases h.part with ⟨h', hh, e⟩ | ⟨q, hq, e⟩
    · have hh12 : h'.length = 12 := by rw [hh.length, hl]
      rw [e, List.take_left' hh12] at hd
      rw [hd] at hh
      exact (sum_turned hone (by rw [h8_length, h8_length]) hh).elim
    · have hql : q.length = j - 12 := by rw [e, List.length_append, hl] at htl; omega
      rw [e, headW_put hcs _ _ hb]
      unfold groupB
      have hlen : ¬ (hdW cs (bodyW g).length ++ q).length < 12 := by rw [List.length_append, hl]; omega
      rw [if_neg (fun e => e.elim (fun e => by cases e) hlen), List.drop_left' hl]
      simp only
      generalize recsW ((q.take (bodyW g).length).length + 1) (q.take (bodyW g).length) 0 ((bodyW g).length : Int) = R
      unfold recB
      split
      · rfl
      · split
        · rfl
        · unfold sumB
          have hs : ((q.drop (bodyW g).length).take 4).length < 4 := by rw [List.length_take, List.length_drop]; omega
          rw [if_pos (.inr hs)]
theorem groupsW_turned : ∀ (gs : List (List (List UInt8))) (p x l' : List UInt8) (f : Nat), (∀ g ∈ gs, right g = true) → gs.length < f → Turned (laid cs gs) l' → groupsW cs f (p ++ (l' ++ x)) p.length = none
  | [], p, x, l', f, _, _, h => by
    obtain ⟨a, c, c', r, h1, -⟩ := h
    have e0 : laid cs [] = [] := rfl
    rw [e0] at h1
    exact absurd h1.symm (by simp)
  | g :: gs, p, x, l', f + 1, hr, hf, h => by
    have hg := hr g (List.mem_cons_self ..)
    have hl := grp_length hcs g
    rw [laid_cons] at h
    have hll := h.length
    rw [List.length_append] at hll
    rw [groupsW_in _ _ _ _ (by rw [List.length_append, List.length_append]; omega), List.drop_left]
    rcases h.part with ⟨g', hg', rfl⟩ | ⟨y, hy, rfl⟩
    · rw [List.append_assoc]
      unfold stepG
      rw [if_pos (.inl (groupW_turned hcs hone hg hg'))]
    · rw [List.append_assoc, groupW_put hcs g _ hg]
      have ih := groupsW_turned gs (p ++ grp cs g) x y f (fun z hz => hr z (List.mem_cons_of_mem _ hz)) (by rw [List.length_cons] at hf; omega) hy
      rw [List.append_assoc, List.length_append] at ih
      show stepG p.length (g, (grp cs g).length, true) (groupsW cs f (p ++ (grp cs g ++ (y ++ x))) (p.length + (grp cs g).length)) = none
      rw [ih]
      unfold stepG
      rw [if_neg (fun e => e.elim (fun e => by cases e) (fun e => by have := e.1; simp only at this; omega)), if_neg (by simp only; omega)]
      rfl
omit hone in
theorem groupsW_then (t : List UInt8) (ht : (groupW cs t).2.1 = 0) : ∀ (gs : List (List (List UInt8))) (p : List UInt8) (f : Nat), (∀ g ∈ gs, right g = true) → gs.length + 1 < f → p ++ laid cs gs ≠ [] →
    groupsW cs f (p ++ (laid cs gs ++ t)) p.length = none ∨ groupsW cs f (p ++ (laid cs gs ++ t)) p.length = some (gs, (p ++ laid cs gs).length)
  | [], p, f + 1, _, _, hne => by
    have e0 : laid cs [] = [] := rfl
    rw [e0, List.append_nil] at hne ⊢
    rw [List.nil_append]
    have hp := List.length_pos_iff.2 hne
    by_cases h0 : t = []
    · rw [h0, List.append_nil, groupsW_end _ _ _ _ (Nat.lt_irrefl _)]
      exact .inr rfl
    · have htp := List.length_pos_iff.2 h0
      rw [groupsW_in _ _ _ _ (by rw [List.length_append]; omega), List.drop_left]
      unfold stepG
      split
      · exact .inl rfl
      · first
        | exact .inr rfl
        | (rw [if_pos ht]; exact .inr rfl)
  | g' :: gs, p, f + 1, h, hf, _ => by
    have hg' := h g' (List.mem_cons_self ..)
    have hl := grp_length hcs g'
    have hne : p ++ grp cs g' ++ laid cs gs ≠ [] := fun e => by
      have := congrArg List.length e
      rw [List.length_append, List.length_append, List.length_nil] at this
      omega
    have ih := groupsW_then t ht gs (p ++ grp cs g') f (fun x hx => h x (List.mem_cons_of_mem _ hx)) (by rw [List.length_cons] at hf; omega) hne
    have e : p ++ (laid cs (g' :: gs) ++ t) = p ++ (grp cs g' ++ (laid cs gs ++ t)) := by rw [laid_cons, List.append_assoc]
    have e2 : p ++ grp cs g' ++ (laid cs gs ++ t) = p ++ (grp cs g' ++ (laid cs gs ++ t)) := by rw [List.append_assoc]
    rw [e2, List.length_append] at ih
    rw [e, groupsW_in _ _ _ _ (by rw [List.length_append, List.length_append]; omega), List.drop_left, groupW_put hcs g' _ hg']
    show stepG p.length (g', (grp cs g').length, true) (groupsW cs f (p ++ (grp cs g' ++ (laid cs gs ++ t))) (p.length + (grp cs g').length)) = _ ∨ stepG p.length (g', (grp cs g').length, true) (groupsW cs f (p ++ (grp cs g' ++ (laid cs gs ++ t))) (p.length + (grp cs g').length)) = _
    rcases ih with ih | ih
    · left
      rw [ih]
      unfold stepG
      rw [if_neg (fun e => e.elim (fun e => by cases e) (fun e => by have := e.1; simp only at this; omega)), if_neg (by simp only; omega)]
      rfl
    · right
      rw [ih, stepG_put (by omega), laid_cons, List.append_assoc]
end
/-- One byte of the file turned: nothing can be read, or the same groups. -/
theorem groups_turned {gs : List (List (List UInt8))} {tail l' : List UInt8} (hr : ∀ g ∈ gs, right g = true) (ht : TornTail gs tail) (h : Turned (laid sum4 gs ++ tail) l') :
    groupsW sum4 (l'.length + 1) l' 0 = none ∨ groupsW sum4 (l'.length + 1) l' 0 = some (gs, (laid sum4 gs).length) := by
  have hone : ∀ l l', Turned l l' → sum4 l ≠ sum4 l' := fun l l' h => sum4_turned h
  have hm := laid_many gs
  have hll := h.length
  rw [List.length_append] at hll
  rcases h.part with ⟨a, ha, rfl⟩ | ⟨t, htt, rfl⟩
  · left
    have := groupsW_turned sum4_length hone gs [] tail a ((a ++ tail).length + 1) hr (by omega) ha
    simpa using this
  · rcases ht with rfl | ⟨hne, g, j, hg, hj, rfl⟩
    · obtain ⟨p, c, c', r, h1, -⟩ := htt
      exact absurd h1.symm (by simp)
    · have h0 := groupW_torn sum4_length hone hg hj htt
      have hpos := List.length_pos_iff.2 hne
      have htl : 1 ≤ t.length := by
        obtain ⟨p, c, c', r, -, h2, -⟩ := htt
        rw [h2, List.length_append, List.length_cons]
        omega
      have := groupsW_then sum4_length t h0 gs [] ((laid sum4 gs ++ t).length + 1) hr (by rw [List.length_append]; omega) (by simpa using hne)
      simpa using this
end Go.Proofs.YtdbmngbinhemeaaGreatDoor

/-
  A disk of which one byte was turned: what a log reads there. No program here. Conditions: none.
-/
namespace Go.Proofs.YtdbmngbinhemeaaGreatDoor
variable {z n : Nm} {S : Dk} {all : List UInt8}

theorem read_turn (h : Firm z S all) (hz : isNm z = true) (hon : S.on = true) (hf : S.fails S.n = false) (at_ : Int) (b : UInt8) : ∃ all', readW (S.turn n at_ b).1 z = (all', 0) ∧ (all' = all ∨ b ≠ 0 ∧ Turned all all') := by
  unfold Dk.turn
  cases hl : look S.dir n with
  | none => exact ⟨all, h.read hz hon hf, .inl rfl⟩
  | some f =>
    dsimp only
    by_cases hr : at_ < 0 ∨ ((S.bytes f).length : Int) ≤ at_
    · rw [if_pos hr]
      exact ⟨all, h.read hz hon hf, .inl rfl⟩
    · rw [if_neg hr]
      dsimp only
      have hof : ({ S with files := S.files.modify f fun x => { x with b := x.b.modify at_.toNat (· ^^^ b) } } : Dk).onFile z = match look S.dir z with
          | none => .error 32
          | some f => .ok (f, S.fails S.n) := by
        show S.onFile z = _
        unfold Dk.onFile
        rw [if_neg (by simp [hon]), if_neg (by simp [hz])]
        cases look S.dir z <;> rfl
      unfold readW Dk.read
      rw [hof]
      rcases h with ⟨h, e⟩ | ⟨f', h⟩
      · rw [h.lookD, e]
        exact ⟨[], rfl, .inl rfl⟩
      · obtain ⟨x, h1, h2, h3⟩ := h.file
        have hb0 : S.bytes f' = all := by simp [Dk.bytes, h1, h2]
        rw [h.lookD, hf]
        by_cases hff : f = f'
        · subst hff
          rw [hb0] at hr
          have hb1 : ({ S with files := S.files.modify f fun x => { x with b := x.b.modify at_.toNat (· ^^^ b) } } : Dk).bytes f = all.modify at_.toNat (· ^^^ b) := by
            simp [Dk.bytes, h1, h2]
          refine ⟨all.modify at_.toNat (· ^^^ b), by simp only [hb1]; rfl, ?_⟩
          by_cases hb : b = 0
          · subst hb
            exact .inl (modify_zero _ _)
          · exact .inr ⟨hb, turned_modify (by omega) hb⟩
        · have hb1 : ({ S with files := S.files.modify f fun x => { x with b := x.b.modify at_.toNat (· ^^^ b) } } : Dk).bytes f' = all := by
            simp [Dk.bytes, h1, h2, hff]
          exact ⟨all, by simp only [hb1]; rfl, .inl rfl⟩
/-- What is opened then: the same groups, or nothing, if a byte was turned. -/
theorem look_turn {gs : List (List (List UInt8))} {tail : List UInt8} (h : On z S gs tail) (hz : isNm z = true) (hon : S.on = true) (hf : S.fails S.n = false) (at_ : Int) (b : UInt8) :
    (∃ x y, lookW (S.turn n at_ b).1 z = (0, some (gs, x, y))) ∨ (lookW (S.turn n at_ b).1 z = (52, none) ∧ b ≠ 0) := by
  obtain ⟨all', h1, h2⟩ := read_turn (n := n) h.2.2 hz hon hf at_ b
  unfold lookW
  rw [h1]
  dsimp only
  rw [if_neg (by decide)]
  rcases h2 with rfl | ⟨hb, ht⟩
  · rw [groups_on h.1 h.2.1]
    exact .inl ⟨_, _, rfl⟩
  · rcases groups_turned h.1 h.2.1 ht with e | e
    · rw [e]
      exact .inr ⟨rfl, hb⟩
    · rw [e]
      exact .inl ⟨_, _, rfl⟩
theorem map_modify_same {α β : Type} (h : α → β) (g : α → α) (hg : ∀ x, h (g x) = h x) : ∀ (l : List α) (i : Nat), (l.modify i g).map h = l.map h
  | [], i => by simp
  | x :: l, 0 => by simp [hg]
  | x :: l, i + 1 => by simp [map_modify_same h g hg l i]
theorem turn_bulk (S : Dk) (n : Nm) (at_ : Int) (b : UInt8) : (S.turn n at_ b).1.bulk = S.bulk := by
  unfold Dk.turn
  cases look S.dir n with
  | none => rfl
  | some f =>
    dsimp only
    split
    · rfl
    · unfold Dk.bulk
      dsimp only
      rw [map_modify_same (fun f : Fl => f.b.length) _ (fun x => by simp), List.length_modify]
theorem turn_same (S : Dk) (n : Nm) (at_ : Int) (b : UInt8) : (S.turn n at_ b).1.on = S.on ∧ (S.turn n at_ b).1.sure = S.sure ∧ (S.turn n at_ b).1.acts = S.acts := by
  unfold Dk.turn
  cases look S.dir n with
  | none => exact ⟨rfl, rfl, rfl⟩
  | some f =>
    dsimp only
    split <;> exact ⟨rfl, rfl, rfl⟩
/-- A byte that is there is turned. -/
theorem turn_zero {S : Dk} {n : Nm} {f : Nat} {at_ : Int} (b : UInt8) (hl : look S.dir n = some f) (h0 : 0 ≤ at_) (h1 : at_ < (S.bytes f).length) : (S.turn n at_ b).2 = 0 := by
  unfold Dk.turn
  rw [hl]
  dsimp only
  rw [if_neg (by omega)]
theorem size_look {S : Dk} {n : Nm} {f : Nat} (hl : look S.dir n = some f) : S.size n = ((S.bytes f).length : Int) := by
  unfold Dk.size
  rw [hl]
theorem names_look {S : Dk} (_h : Ok S) {k : Nat} (hk : k < S.dir.length) : ∃ f, look S.dir (S.dir[k]).1 = some f := by
  have hm : S.dir[k] ∈ S.dir := List.getElem_mem hk
  cases hl : look S.dir (S.dir[k]).1 with
  | some f => exact ⟨f, rfl⟩
  | none => exact absurd rfl (look_none hl _ hm)
end Go.Proofs.YtdbmngbinhemeaaGreatDoor
