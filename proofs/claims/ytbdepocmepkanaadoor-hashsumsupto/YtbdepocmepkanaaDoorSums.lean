/-
  The statement HashSums answers true, and leaves all that was there. Conditions: all texts together of at most 1048576 bytes; the table's numbers.
-/
import Derived.Test.YtbdepocmepkanaaDoorJoined
import Derived.Test.YtbdepocmepkanaaDoorRefSum
import Derived.Deep.AppendSrc
namespace Go.Proofs.YtbdepocmepkanaaDoor
open Go.RowKit

theorem wpList_want {P : Program} {w : World} {ops : Array Oper} {rest : List Oper} {o : Oper} {a : Act} {Q : Exit → Act → World → Prop} (hw : Region.wanted o (yielded ops a.tmps) = true)
    (h : ∀ K : Act → World → Prop, (∀ a w, wpList P ops Q rest a w → K a w) → o.wp P a w K Q) : wpList P ops Q (o :: rest) a w :=
  wpList_step fun K hK => by rw [if_pos hw]; exact h K hK
theorem cell_at_new (w : World) (C : Array Value) (e : TypeId) (fr : Nat × Nat) (j : Nat) : (w.alloc (.cells C e fr)).cell? ⟨w.heap.size, j, none⟩ = C[j]? := by
  have : (w.alloc (.cells C e fr)).heap[w.heap.size]? = some (.cells C e fr) := by
    show (w.heap.push (.cells C e fr))[w.heap.size]? = _
    simp
  unfold World.cell?
  simp only [this]
  rfl
/-- '[]byte(s)', guarded. -/
theorem wpList_tobytes (w : World) {ops : Array Oper} {rest : List Oper} {o : Oper} {a : Act} {Q : Exit → Act → World → Prop} (hg : Region.wanted o (yielded ops a.tmps) = true) (x : Operand) (hop : o.op = Op.convert 9 25 x)
    (s : ByteArray) (hs : s.size ≤ maxLen) (hx : a.eval x = .string s)
    (hK : ∀ v' w', Sl w' v' s.data.toList → Below w.heap.size w w' → wpList Tryd.prog ops Q rest (a.put o.dst v') w') : wpList Tryd.prog ops Q (o :: rest) a w := by
  refine wpList_want hg fun K hK' => ?_
  have hr := run_bytes_of_string (P := Tryd.prog) w 9 25 5 s Tryd.underlying9 Tryd.underlying25 Tryd.underlying5
  have hlen : s.data.toList.length = s.size := by simp
  have hge := grownCap_ge w s.size 0 5
  have hle := grownCap_le_maxLen w s.size 0 5 hs
  unfold Oper.wp
  simp only [execOp, hop, hx, Result.andThen, Sem.run_bind, hr]
  refine hK' _ _ (hK _ _ ?_ (((Below.refl _ _).drew).alloc (by simp) _))
  refine ⟨_, grownCap w s.size 0 5, by rw [hlen], by omega, hle, by simp, fun _ => ⟨w.heap.size, 0, rfl, by simp, fun j hj => ?_⟩⟩
  have := cell_at_new w.drew (bytesRow s (grownCap w s.size 0 5)) 5 ((bytesRow s (grownCap w s.size 0 5)).size, (bytesRow s (grownCap w s.size 0 5)).size + 1) j
  rw [show w.drew.heap.size = w.heap.size from rfl] at this
  rw [Nat.zero_add, this, bytesRow_at s _ j (by simpa using hj)]
  simp
/-- 'string(b)', guarded. -/
theorem wpList_strG (w : World) {ops : Array Oper} {rest : List Oper} {o : Oper} {a : Act} {Q : Exit → Act → World → Prop} (hg : Region.wanted o (yielded ops a.tmps) = true) (x : Operand) (hop : o.op = Op.convert 25 9 x)
    {v : Value} {l : List UInt8} (h : Sl w v l) (hx : a.eval x = v) (hK : wpList Tryd.prog ops Q rest (a.put o.dst (.string (strB l))) w) : wpList Tryd.prog ops Q (o :: rest) a w := by
  refine wpList_want hg fun K hK' => ?_
  have hr := run_str w v l h
  unfold Oper.wp
  simp [execOp, hop, hx, hr, Result.andThen]
  exact hK' _ _ hK

set_option maxRecDepth 20000 in
set_option maxHeartbeats 800000 in
theorem sums_any (w : World) (v : Value) (ls : List (List UInt8)) (h : Ps w v ls) (hT : TabW w) (hsz : ls.flatten.length ≤ 1048576) :
    Calls Tryd.prog 3 #[v] w fun e w' => e = .returned (.bool true) ∧ Below w.heap.size w w' := by
  have HP := hide h
  obtain ⟨ao, cap, rfl, _, _, _⟩ := h
  go_enter Tryd.func3, Tryd.ntmps3
  go_wp2_with fail
  refine (shown_any w hT).mono ?_
  rintro e1 w1 ⟨rfl, hb1⟩
  have HT1 := hide (hT.keep hb1 hT.1)
  have HP1 := hide (HP.out.keep hb1)
  have HB1 := hide hb1
  clear hb1
  go_wp2_with fail
  refine (sum_any _ _ ls HP1.out HT1.out (by omega)).mono ?_
  rintro e1 w2 ⟨rfl, hb2⟩
  have HP2 := hide (HP1.out.keep hb2)
  have HB2 := hide (HB1.out.trans (hb2.mono HB1.out.size))
  clear hb2
  go_wp2_with fail
  refine (joined_any _ _ ls HP2.out hsz).mono ?_
  rintro e1 w3 ⟨rfl, hb3⟩
  have HB3 := hide (HB2.out.trans (hb3.mono HB2.out.size))
  clear hb3
  generalize ls.flatten = A at *
  go_wp2_with (refine wpList_tobytes _ rfl (.tmp 10) rfl (strB A) (by rw [strB_size]; unfold maxLen; omega) rfl ?_; intro v4 w4 hsl4 hb4)
  rw [strB_list] at hsl4
  have HB4 := hide (HB3.out.trans (hb4.mono HB3.out.size))
  have HSL4 := hide hsl4
  obtain ⟨ao4, cap4, rfl, _, _, _, _⟩ := hsl4
  clear hb4
  go_wp2_with fail
  refine (refSum_any _ _ A HSL4.out hsz).mono ?_
  rintro e1 w5 ⟨g5, cap5, rfl, hsl5, hb5⟩
  have HB5 := hide (HB4.out.trans (hb5.mono HB4.out.size))
  clear hb5
  go_wp2_with (refine wpList_strG _ rfl (.tmp 12) rfl hsl5 rfl ?_)
  go_ret
  exact ⟨rfl, HB5.out⟩
end Go.Proofs.YtbdepocmepkanaaDoor
