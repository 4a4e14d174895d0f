/-
  What taking texts answers, at any place of any bytes. Conditions: a slice of bytes; a place that is an int.
-/
import Derived.Test.YtdbmngbinhemeabDoorCWTake
namespace Go.Proofs.YtdbmngbinhemeabDoor
open Go.RowKit

/-- What stands at a place: a text of at most so many bytes, and the place behind it. -/
def takeT (l : List UInt8) (p most : Int) : Option (List UInt8 × Nat) :=
  match takeI l p with
  | none => none
  | some (n, q) => if n < 0 ∨ most < n ∨ (l.length : Int) - q < n then none else some ((l.drop q).take n.toNat, q + n.toNat)

set_option maxRecDepth 20000 in
set_option maxHeartbeats 400000 in
theorem takeText_none (w : World) (v : Value) (l : List UInt8) (p most : Int) (h : Sl w v l) (hp : p ≤ 9223372036854775807) (hn : takeT l p most = none) :
    Calls Tryd.prog 120 #[v, .int .i64 p, .int .i64 most] w fun e w' => e = .returned (.tuple #[.string ⟨#[]⟩, .int .i64 0, .bool false]) ∧ w' = w := by
  have h' := h
  obtain ⟨ao, cap, rfl, h1, h2, h3, h4⟩ := h'
  clear h4 h3
  unfold maxLen at h2
  cases ht : takeI l p with
  | none =>
    have HT := hide ht
    clear ht hn
    go_enter Tryd.func120, Tryd.ntmps120
    go_wp2_with fail
    refine (takeInt_none _ _ l p h hp HT.out).mono ?_
    rintro e w1 ⟨rfl, rfl⟩
    clear h
    go_wp2
    go_ret3
    exact ⟨rfl, rfl⟩
  | some x =>
    obtain ⟨n, q⟩ := x
    obtain ⟨u, c, h0, hd, hnu, hq, hu, hql⟩ := takeI_some ht
    have hc : n < 0 ∨ most < n ∨ (l.length : Int) - q < n := by
      unfold takeT at hn
      rw [ht] at hn
      simp only at hn
      split at hn
      · assumption
      · cases hn
    have hq1 : (q : Int) ≤ (l.length : Int) := by omega
    have HT := hide ht
    clear hn hd hnu hq hu hql
    go_enter Tryd.func120, Tryd.ntmps120
    go_wp2_with fail
    refine (takeInt_some _ _ l p n q h hp HT.out).mono ?_
    rintro e w1 ⟨rfl, rfl⟩
    clear h
    go_wp2
    all_goals (go_ret3; exact ⟨rfl, rfl⟩)

/-- 'string(b)'. -/
theorem run_str (w : World) (v : Value) (l : List UInt8) (h : Sl w v l) : (convert 71 9 v).run Tryd.prog w = .ok (.string ⟨l.toArray⟩) w := by
  obtain ⟨ao, cap, rfl, h1, h2, h3, h4⟩ := h
  by_cases hl : l = []
  · subst hl
    cases ao with
    | none =>
      rw [run_convert_bytes_string w 71 9 5 none _ cap Tryd.underlying71 Tryd.underlying5 Tryd.underlying9]
      rfl
    | some a => exact run_convert_bytes_back w 71 9 5 a cap [] Tryd.underlying71 Tryd.underlying5 Tryd.underlying9 (fun j hj => by simp at hj)
  · obtain ⟨b, off, rfl, hb, hc⟩ := h4 hl
    refine run_convert_bytes_back w 71 9 5 ⟨b, off, none⟩ cap l Tryd.underlying71 Tryd.underlying5 Tryd.underlying9 (fun j hj => ?_)
    rw [Addr.add_lit]
    exact hc j hj

theorem wpList_str (w : World) {ops : Array Oper} {rest : List Oper} {o : Oper} {a : Act} {Q : Exit → Act → World → Prop} (hg : o.guard = none) (x : Operand) (hop : o.op = Op.convert 71 9 x)
    {v : Value} {l : List UInt8} (h : Sl w v l) (hx : a.eval x = v) (hK : wpList Tryd.prog ops Q rest (a.put o.dst (.string ⟨l.toArray⟩)) w) : wpList Tryd.prog ops Q (o :: rest) a w := by
  refine wpList_plain hg fun K hK' => ?_
  have hr := run_str w v l h
  unfold Oper.wp
  simp [execOp, hop, hx, hr, Result.andThen]
  exact hK' _ _ hK

/-- 'b[i:j]' of such a slice. -/
theorem Sl.cut {w : World} {ao : Option Addr} {n cap : Nat} {l : List UInt8} (h : Sl w (.slice ao n cap) l) (i j : Nat) (hij : i ≤ j) (hj : j ≤ l.length) :
    ∀ ao', (i < j → ∀ b off, ao = some ⟨b, off, none⟩ → ao' = some ⟨b, off + i, none⟩) → (ao' = none → cap - i = 0) → Sl w (.slice ao' (j - i) (cap - i)) ((l.drop i).take (j - i)) := by
  intro ao' ha' hn'
  obtain ⟨ao0, cap0, hv, h1, h2, h3, h4⟩ := h
  injection hv with e1 e2 e3
  subst e1 e2 e3
  have hlen : ((l.drop i).take (j - i)).length = j - i := by simp; omega
  refine ⟨ao', cap - i, by rw [hlen], by omega, by omega, hn', fun hne => ?_⟩
  have hlt : i < j := by
    rcases Nat.lt_or_ge i j with h | h
    · exact h
    · exfalso; apply hne; rw [show j - i = 0 by omega]; simp
  obtain ⟨b, off, ha, hb, hc⟩ := h4 (by rintro rfl; simp at hj; omega)
  refine ⟨b, off + i, ha' hlt b off ha, hb, fun k hk => ?_⟩
  rw [hlen] at hk
  have := hc (i + k) (by omega)
  rw [Nat.add_assoc, this]
  simp

theorem Sl.cutEnd {w : World} {ao : Option Addr} {n r m : Nat} {l : List UInt8} (hm : r + m ≤ l.length) (h : Sl w (.slice ao n r) l) : Sl w (.slice ao m 0) ((l.drop r).take m) := by
  obtain ⟨ao0, cap0, hv, h1, h2, h3, h4⟩ := h
  injection hv with e1 e2 e3
  obtain rfl : m = 0 := by omega
  rw [List.take_zero]
  exact ⟨ao, 0, rfl, by simp, by simp, fun _ => rfl, fun hl => absurd rfl hl⟩
theorem Sl.cutAt {w : World} {ao : Option Addr} {n cap r m : Nat} {l : List UInt8} (hm : r + m ≤ l.length) (hr : r < cap) (h : Sl w (.slice ao n cap) l) :
    Sl w (.slice (Option.map (fun x => x.add r) ao) m (cap - r)) ((l.drop r).take m) := by
  have := h.cut r (r + m) (by omega) hm (Option.map (fun x => x.add r) ao) (fun _ b off ha => by rw [ha]; simp [Addr.add_lit]) (fun hn => by
    obtain ⟨ao0, cap0, hv, h1, h2, h3, h4⟩ := h
    injection hv with e1 e2 e3
    subst e1 e3
    have := h3 (by simpa using hn)
    omega)
  rw [show r + m - r = m from by omega] at this
  exact this

set_option maxRecDepth 20000 in
set_option maxHeartbeats 400000 in
theorem takeText_some (w : World) (v : Value) (l : List UInt8) (p most : Int) (t : List UInt8) (q : Nat) (h : Sl w v l) (hp : p ≤ 9223372036854775807) (hn : takeT l p most = some (t, q)) :
    Calls Tryd.prog 120 #[v, .int .i64 p, .int .i64 most] w fun e w' => e = .returned (.tuple #[.string ⟨t.toArray⟩, .int .i64 (q : Int), .bool true]) ∧ w' = w := by
  have h' := h
  obtain ⟨ao, cap, rfl, h1, h2, h3, h4⟩ := h'
  clear h4 h3
  unfold maxLen at h2
  cases ht : takeI l p with
  | none => unfold takeT at hn; rw [ht] at hn; cases hn
  | some x =>
    obtain ⟨n, r⟩ := x
    obtain ⟨u, c, h0, hd, hnu, hq, hu, hql⟩ := takeI_some ht
    unfold takeT at hn
    rw [ht] at hn
    simp only at hn
    split at hn
    · cases hn
    rename_i hc
    simp only [Option.some.injEq, Prod.mk.injEq] at hn
    obtain ⟨ht1, ht2⟩ := hn
    have c1 : 0 ≤ n := by omega
    have c2 : n ≤ most := by omega
    have c3 : n ≤ (l.length : Int) - r := by omega
    have hq1 : (r : Int) ≤ (l.length : Int) := by omega
    have HT := hide ht
    have H1 := hide ht1
    have H2 := hide ht2
    obtain ⟨m, rfl⟩ := Int.eq_ofNat_of_zero_le c1
    clear hc ht hd hnu hq hu hql ht1 ht2
    go_enter Tryd.func120, Tryd.ntmps120
    go_wp2_with fail
    refine (takeInt_some _ _ l p m r h hp HT.out).mono ?_
    rintro e w1 ⟨rfl, rfl⟩
    rw [show (m : Int).toNat = m from rfl] at H1 H2
    rcases Nat.lt_or_ge r cap with hrc | hrc
    · have hs := Sl.cutAt (show r + m ≤ l.length by omega) hrc h
      clear h
      go_wp2_with (refine wpList_str _ rfl (.tmp 45) rfl hs (by first | rfl | (simp [go_sem]; done)) ?_)
      go_ret3
      rw [← H1.out, ← H2.out]
      exact ⟨rfl, rfl⟩
    · obtain rfl : cap = r := by omega
      have hs := Sl.cutEnd (show cap + m ≤ l.length by omega) h
      clear h
      go_wp2_with (refine wpList_str _ rfl (.tmp 45) rfl hs (by first | rfl | (simp [go_sem]; done)) ?_)
      go_ret3
      rw [← H1.out, ← H2.out]
      exact ⟨rfl, rfl⟩
end Go.Proofs.YtdbmngbinhemeabDoor
