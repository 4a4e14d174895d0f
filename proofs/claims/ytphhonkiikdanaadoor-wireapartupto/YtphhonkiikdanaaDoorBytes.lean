/-
  Laws for a slice of bytes that the call made out of a text: making it, and appending any bytes to it. Condition: the bytes together are within what append takes.
-/
import Derived.Test.YtphhonkiikdanaaDoorText
import Derived.Deep.AppendSrc
namespace Go.Proofs.YtphhonkiikdanaaDoor
open Go.RowKit

/-- The slice v, whose row the call made, has the bytes l; what lies behind them may be written. -/
def OwnB (w : World) (base : Nat) (v : Value) (l : List UInt8) : Prop :=
  ∃ g cap, v = .slice (some ⟨g, 0, none⟩) l.length cap ∧ base ≤ g ∧ g < w.heap.size ∧ l.length ≤ cap ∧ cap ≤ maxLen ∧
    (∀ j, j < cap → (w.cell? ⟨g, j, none⟩).isSome = true ∧ w.frozen? ⟨g, j, none⟩ = false) ∧ ∀ j (h : j < l.length), w.cell? ⟨g, j, none⟩ = some (.int .u8 ((l[j]'h).toNat : Int))

theorem OwnB.sl {w : World} {base : Nat} {v : Value} {l : List UInt8} (h : OwnB w base v l) : Sl w v l := by
  obtain ⟨g, cap, rfl, _, hg, hc, hm, _, hcell⟩ := h
  exact ⟨_, cap, rfl, hc, hm, by simp, fun _ => ⟨g, 0, rfl, hg, fun j hj => by rw [Nat.zero_add]; exact hcell j hj⟩⟩

theorem below_setCells {B : Nat} (b : Nat) (hb : B ≤ b) : ∀ (vs : List Value) (o : Nat) (w0 w : World), Below B w0 w → Below B w0 (w.setCells b o vs)
  | [], _, _, _, h => h
  | v :: r, o, w0, _, h => below_setCells b hb r (o + 1) w0 _ (h.setCell (p := ⟨b, o, none⟩) hb v)

theorem size_setCells (b : Nat) : ∀ (vs : List Value) (o : Nat) (w : World), (w.setCells b o vs).heap.size = w.heap.size
  | [], _, _ => rfl
  | v :: r, o, w => by rw [World.setCells, size_setCells b r (o + 1)]; simp [World.setCell]

theorem cell_at_new (w : World) (C : Array Value) (e : TypeId) (fr : Nat × Nat) (j : Nat) : (w.alloc (.cells C e fr)).cell? ⟨w.heap.size, j, none⟩ = C[j]? := by
  have : (w.alloc (.cells C e fr)).heap[w.heap.size]? = some (.cells C e fr) := by
    show (w.heap.push (.cells C e fr))[w.heap.size]? = _
    simp
  unfold World.cell?
  simp only [this]
  rfl
theorem frozen_at_new (w : World) (C : Array Value) (e : TypeId) (fr : Nat × Nat) (j : Nat) (hj : j < fr.1 ∨ fr.2 ≤ j) : (w.alloc (.cells C e fr)).frozen? ⟨w.heap.size, j, none⟩ = false := by
  have : (w.alloc (.cells C e fr)).heap[w.heap.size]? = some (.cells C e fr) := by
    show (w.heap.push (.cells C e fr))[w.heap.size]? = _
    simp
  unfold World.frozen?
  simp only [this]
  simp
  omega

/-- '[]byte(s)'. -/
theorem wpList_tobytes (w : World) {ops : Array Oper} {rest : List Oper} {o : Oper} {a : Act} {Q : Exit → Act → World → Prop} (hg : o.guard = none) (x : Operand) (hop : o.op = Op.convert 9 22 x)
    (s : ByteArray) (hs : s.size ≤ maxLen) (hx : a.eval x = .string s)
    (hK : ∀ v' w', OwnB w' w.heap.size v' s.data.toList → Below w.heap.size w w' → w.heap.size < w'.heap.size → wpList Tryd.prog ops Q rest (a.put o.dst v') w') : wpList Tryd.prog ops Q (o :: rest) a w := by
  refine wpList_plain hg fun K hK' => ?_
  have hr := run_bytes_of_string (P := Tryd.prog) w 9 22 5 s Tryd.underlying9 Tryd.underlying22 Tryd.underlying5
  have hlen : s.data.toList.length = s.size := by simp
  have hge := grownCap_ge w s.size 0 5
  have hle := grownCap_le_maxLen w s.size 0 5 hs
  have hsz : (bytesRow s (grownCap w s.size 0 5)).size = grownCap w s.size 0 5 := by
    have e : s.data.size = s.size := rfl
    simp [bytesRow]; omega
  unfold Oper.wp
  simp only [execOp, hop, hx, Result.andThen, Sem.run_bind, hr]
  refine hK' _ _ (hK _ _ ?_ (((Below.refl _ _).drew).alloc (by simp) _) (by simp))
  refine ⟨w.heap.size, grownCap w s.size 0 5, by rw [hlen], Nat.le_refl _, by simp, by omega, hle, fun j hj => ⟨?_, ?_⟩, fun j hj => ?_⟩
  · have := cell_at_new w.drew (bytesRow s (grownCap w s.size 0 5)) 5 ((bytesRow s (grownCap w s.size 0 5)).size, (bytesRow s (grownCap w s.size 0 5)).size + 1) j
    rw [show w.drew.heap.size = w.heap.size from rfl] at this
    rw [this]
    simp; omega
  · exact frozen_at_new w.drew _ 5 _ j (Or.inl (by simp only; omega))
  · have := cell_at_new w.drew (bytesRow s (grownCap w s.size 0 5)) 5 ((bytesRow s (grownCap w s.size 0 5)).size, (bytesRow s (grownCap w s.size 0 5)).size + 1) j
    rw [show w.drew.heap.size = w.heap.size from rfl] at this
    rw [this, bytesRow_at s _ j (by simpa using hj)]
    simp

theorem src_of_sl {w : World} {v : Value} {l : List UInt8} (h : Sl w v l) : Src Tryd.prog 1 22 v l.length (bc l) w := by
  have h' := h
  obtain ⟨ao, cap, rfl, h1, h2, h3, h4⟩ := h'
  cases ao with
  | none =>
    have hc := h3 rfl
    obtain rfl : l = [] := List.eq_nil_of_length_eq_zero (by omega)
    exact Src.ofNil w Tryd.underlying22 cap
  | some a => exact Src.ofSlice w Tryd.underlying22 a l.length cap (bc l) (by rw [bc_length, Nat.mul_one]) (h.cells (Below.refl _ _) a rfl) (bc_one l)

/-- 'append(x, y...)', x such a slice, y any. -/
theorem wpList_append_b (w : World) {ops : Array Oper} {rest : List Oper} {o : Oper} {a : Act} {Q : Exit → Act → World → Prop} (hg : o.guard = none) (x y : Operand)
    (hop : o.op = Op.call { callee := .builtin .append, args := #[x, y], argTypes := #[22, 22] })
    (base : Nat) (hbase : base ≤ w.heap.size) {v u : Value} {l r : List UInt8} (h : OwnB w base v l) (hu : Sl w u r) (hx : a.eval x = v) (hy : a.eval y = u) (hb : l.length + r.length ≤ 140737488355328)
    (hK : ∀ v' w', Sl w' v' (l ++ r) → Below base w w' → wpList Tryd.prog ops Q rest (a.put o.dst v') w') : wpList Tryd.prog ops Q (o :: rest) a w := by
  refine wpList_plain hg fun K hK' => ?_
  obtain ⟨i0, hi, hz0, hz1, hz2⟩ := info_parts Tryd.info5
  have hsrc := src_of_sl hu
  rw [← hz1] at hsrc
  have hsl := h.sl
  obtain ⟨g, cap, rfl, hbg, hgl, hlc, hcm, hroom, hcell⟩ := h
  by_cases hfit : l.length + r.length ≤ cap
  · have hr := run_append_room_src (P := Tryd.prog) w 22 22 o.type 5 i0 Tryd.underlying22 hi g 0 l.length cap u r.length (bc r) hsrc hfit
      (fun j hj => by rw [bc_length] at hj; rw [hz1]; exact (hroom _ (by omega)).1) (fun j hj => by rw [bc_length] at hj; rw [hz1]; exact (hroom _ (by omega)).2)
    rw [hz1, Nat.mul_one, Nat.zero_add] at hr
    unfold Oper.wp execOp
    simp only [hop, resolve, invoke, builtin, Sem.run_bind, Sem.run_pure, Result.andThen_ok, List.map_toArray, List.map_cons, List.map_nil, hx, hy, hr]
    refine hK' _ _ (hK _ _ ?_ (below_setCells g hbg _ _ _ _ (Below.refl _ _)))
    refine ⟨some ⟨g, 0, none⟩, cap, by simp, by simpa using hfit, hcm, by simp, fun _ => ⟨g, 0, rfl, by rw [size_setCells]; exact hgl, fun j hj => ?_⟩⟩
    rw [Nat.zero_add]
    by_cases hj2 : j < l.length
    · rw [World.cell?_setCells_out g (bc r) l.length w _ (fun _ _ => Or.inl hj2), hcell j hj2]
      simp [List.getElem_append_left hj2]
    · simp at hj
      have := World.cell?_setCells_in g (bc r) l.length w (fun k hk => by rw [bc_length] at hk; exact (hroom _ (by omega)).1) (j - l.length) (by rw [bc_length]; omega)
      rw [show l.length + (j - l.length) = j from by omega] at this
      rw [this]
      simp [bc, List.getElem_append_right (show l.length ≤ j by omega)]
  · have hold := run_firstCells_some (P := Tryd.prog) w.drew i0.size l.length ⟨g, 0, none⟩ l.length cap (bc l) (by rw [bc_length, hz1, Nat.mul_one]) (fun j u hj => by
      have := hsl.cells (Below.refl _ _) ⟨g, 0, none⟩ rfl j u hj
      simpa using this)
    have hr := run_append_grow_src (P := Tryd.prog) w 22 22 o.type 5 i0 (.int .u8 0) Tryd.underlying22 hi hz0 (some ⟨g, 0, none⟩) l.length cap (bc l) hold u r.length (bc r) hsrc (by omega) (by omega)
      (by rw [hz2]; exact growslice_fits (by omega) (by omega))
    have hge := grownCap_ge w (l.length + r.length) cap 5
    have hle := grownCap_le_maxLen w (l.length + r.length) cap 5 (by unfold maxLen; omega)
    generalize grownCap w (l.length + r.length) cap 5 = gc at *
    unfold Oper.wp execOp
    simp only [hop, resolve, invoke, builtin, Sem.run_bind, Sem.run_pure, Result.andThen_ok, List.map_toArray, List.map_cons, List.map_nil, hx, hy, hr]
    refine hK' _ _ (hK _ _ ?_ (((Below.refl _ _).drew).alloc (by simpa using hbase) _))
    refine ⟨some ⟨w.heap.size, 0, none⟩, gc, by simp, by simpa using hge, hle, by simp, fun _ => ⟨w.heap.size, 0, rfl, by simp, fun j hj => ?_⟩⟩
    rw [Nat.zero_add, show w.heap.size = w.drew.heap.size from rfl, cell_at_new]
    have hj' : j < (bc l ++ bc r).length := by rw [← bc_append, bc_length]; exact hj
    rw [Array.getElem?_append_left (by simpa using hj'), List.getElem?_toArray, ← bc_append, bc_get _ j hj]
end Go.Proofs.YtphhonkiikdanaaDoor
