/-
  What the reference's Sum answers. Condition: at most 1048576 bytes.
-/
import Derived.Test.YtjdbgfidnbgneaaDoorB8OTop4
namespace Go.Proofs.YtjdbgfidnbgneaaDoor
open Go.RowKit

theorem tail_mul (l : List UInt8) : ∃ q, (l ++ tail l.length).length = 64 * q := by
  refine ⟨(l ++ tail l.length).length / 64, ?_⟩
  have : (l ++ tail l.length).length % 64 = 0 := by
    rw [tail_eq, List.length_append, List.length_cons, List.length_append, List.length_replicate, be8_length]
    omega
  omega

/-- Only the block g has changed since w0, and it holds these numbers. -/
def RR (w0 : World) (g : Nat) (L : List UInt32) (wr : World) : Prop := w0.grownBy wr (some g) ∧ wr.heap[g]? = some (.cells (uc L) 141)
theorem grown_same (w : World) (g : Nat) : w.grownBy w (some g) := ⟨rfl, rfl, rfl, Nat.le_refl _, fun _ _ _ => rfl⟩
theorem grown_trans {a b c : World} {g : Nat} (h : a.grownBy b (some g)) (k : b.grownBy c (some g)) : a.grownBy c (some g) :=
  ⟨k.os.trans h.os, k.tape.trans h.tape, k.output.trans h.output, Nat.le_trans h.size k.size, fun i hi hg => (k.block i (Nat.lt_of_lt_of_le hi h.size) hg).trans (h.block i hi hg)⟩
theorem grown_below {a b : World} {g : Nat} (h : Below a.heap.size a b) : a.grownBy b (some g) := ⟨h.os, h.tape, h.output, h.size, fun k hk _ => h.block k hk⟩
theorem grown_new {a b c : World} {g x : Nat} (h : a.grownBy b (some g)) (k : b.grownBy c (some x)) (hx : a.heap.size ≤ x) : a.grownBy c (some g) :=
  ⟨k.os.trans h.os, k.tape.trans h.tape, k.output.trans h.output, Nat.le_trans h.size k.size, fun i hi hg => (k.block i (Nat.lt_of_lt_of_le hi h.size) (by intro e; injection e with e; omega)).trans (h.block i hi hg)⟩
theorem below_grown {n : Nat} {a b c : World} {g : Nat} (h : Below n a b) (k : b.grownBy c (some g)) (hn : n ≤ b.heap.size) (hg : n ≤ g) : Below n a c := h.grown k hn (by intro i hi; injection hi with hi; omega)
theorem RR.keep {w0 wr : World} {g k : Nat} {L : List UInt32} {o : Obj} (h : RR w0 g L wr) (hk : w0.heap[k]? = some o) (hne : k ≠ g) : wr.heap[k]? = some o :=
  (h.1.block k (lt_of_heap hk) (by intro e; injection e with e; exact hne e)).trans hk
theorem RR.cell {w0 wr : World} {g : Nat} {L : List UInt32} (h : RR w0 g L wr) (j : Nat) (hj : j < L.length) : wr.cell? ⟨g, j, none⟩ = some (.int .u32 (u (L.getD j 0))) := by
  rw [cell_of_row _ _ _ _ _ _ h.2, uc_get _ _ hj]
theorem RR.free {w0 wr : World} {g : Nat} {L : List UInt32} (h : RR w0 g L wr) (j : Nat) : wr.frozen? ⟨g, j, none⟩ = false := by simp [World.frozen?, h.2]
theorem RR.drewN {w0 wr : World} {g : Nat} {L : List UInt32} (h : RR w0 g L wr) (n : Nat) : RR w0 g L (wr.drewN n) := by
  obtain ⟨⟨a, b, c, d, e⟩, f⟩ := h
  exact ⟨⟨a, b, c, d, e⟩, f⟩
theorem RR.drew {w0 wr : World} {g : Nat} {L : List UInt32} (h : RR w0 g L wr) : RR w0 g L wr.drew := by
  obtain ⟨⟨a, b, c, d, e⟩, f⟩ := h
  exact ⟨⟨a, b, c, d, e⟩, f⟩
theorem RR.whole {w0 wr w' : World} {g : Nat} {L M : List UInt32} (h : RR w0 g L wr) (h2 : w'.heap[g]? = some (.cells (uc M) 141)) (hg : wr.grownBy w' (some g)) : RR w0 g M w' := ⟨grown_trans h.1 hg, h2⟩
theorem RR.set {w0 wr : World} {g : Nat} {L : List UInt32} (h : RR w0 g L wr) (j : Nat) (x : UInt32) : RR w0 g (L.set j x) (wr.setCell ⟨g, j, none⟩ (.int .u32 (u x))) := by
  refine ⟨grown_trans h.1 ⟨rfl, rfl, rfl, by simp [World.setCell], fun k _ hk => Below.heap_setCell _ _ _ _ (fun e => hk (by simp [e]))⟩, ?_⟩
  rw [heap_setCell _ _ _ _ _ _ _ h.2, uc_set1]

theorem keep_new {wr w5 w6 : World} {g : Nat} {o x : Obj} (hb5 : Below wr.heap.size wr w5) (hg6 : (w5.alloc o).grownBy w6 (some w5.heap.size)) (h : wr.heap[g]? = some x) : w6.heap[g]? = some x := by
  have h1 := lt_of_heap h
  have h2 := hb5.size
  exact (hg6.block g (by simp; omega) (by intro e; injection e with e; omega)).trans ((heap_past _ _ _ (by omega)).trans ((hb5.block g h1).trans h))
theorem below_new {n : Nat} {wr w5 w6 : World} {o : Obj} (hb : Below n wr w5) (hn : n ≤ w5.heap.size) (hg6 : (w5.alloc o).grownBy w6 (some w5.heap.size)) : Below n wr w6 :=
  (hb.alloc hn _).grown hg6 (by simp; omega) (by intro i hi; injection hi with hi; omega)

/-- What the row holds behind a number's four bytes more. -/
theorem append4 (w : World) (base g cap m : Nat) (l : List UInt8) (x : UInt32) (_hm : l.length = m) (hbase : base ≤ w.heap.size)
    (hown : w.ownsRow base 5 1 (.slice (some ⟨g, 0, none⟩) m cap) m (bc l)) (hfit : m + 4 ≤ cap) :
    ∃ w', (Builtin.append_ #[44, 44] 44 #[.slice (some ⟨g, 0, none⟩) m cap, .slice (some ⟨w.heap.size, 0, none⟩) 4 4]).run Tryd.prog (w.alloc (.cells #[.int .u8 ((x >>> 24).toUInt8.toNat : Int), .int .u8 ((x >>> 16).toUInt8.toNat : Int), .int .u8 ((x >>> 8).toUInt8.toNat : Int), .int .u8 (x.toUInt8.toNat : Int)] 5)).drew = .ok (.slice (some ⟨g, 0, none⟩) (m + 4) cap) w' ∧
      w'.ownsRow base 5 1 (.slice (some ⟨g, 0, none⟩) (m + 4) cap) (m + 4) (bc (l ++ be4 x)) ∧ Below base w w' := by
  obtain ⟨i0, hi, hz0, hz1, hz2⟩ := info_parts Tryd.infoB
  have hg : base ≤ g := (hown.lt g rfl).1
  obtain ⟨w', hrun, r1, r2⟩ := run_append_fits (P := Tryd.prog) (w.alloc (.cells #[.int .u8 ((x >>> 24).toUInt8.toNat : Int), .int .u8 ((x >>> 16).toUInt8.toNat : Int), .int .u8 ((x >>> 8).toUInt8.toNat : Int), .int .u8 (x.toUInt8.toNat : Int)] 5)).drew base 44 44 5 i0 1 Tryd.underlying44 hi hz1 g m cap (bc l) (hown.alloc _).drew ⟨w.heap.size, 0, none⟩ 4 4 (bc (be4 x)) rfl (fun j y hj => by
    show (w.alloc _).cell? _ = _
    match j, hj with
    | 0, hj => simp [bc, be4] at hj; subst hj; simp [Addr.add_lit, World.cell?_alloc_at]
    | 1, hj => simp [bc, be4] at hj; subst hj; simp [Addr.add_lit, World.cell?_alloc_at]
    | 2, hj => simp [bc, be4] at hj; subst hj; simp [Addr.add_lit, World.cell?_alloc_at]
    | 3, hj => simp [bc, be4] at hj; subst hj; simp [Addr.add_lit, World.cell?_alloc_at]) (bc_one _) hfit
  refine ⟨w', hrun, by rw [bc_append]; exact r1, ?_⟩
  exact (((Below.refl _ _).alloc hbase _).drew).grown r2 (by show base ≤ (w.alloc _).heap.size; simp; omega) (by intro k hk; injection hk with hk; omega)
theorem byte24w (n : UInt32) : IntKind.u8.wrap (u n / (16777216 : Int)) = (((n >>> 24).toUInt8).toNat : Int) := by rw [IntKind.wrap_u8]; exact byte24 n
theorem byte16w (n : UInt32) : IntKind.u8.wrap (u n / (65536 : Int)) = (((n >>> 16).toUInt8).toNat : Int) := by rw [IntKind.wrap_u8]; exact byte16 n
theorem byte8w (n : UInt32) : IntKind.u8.wrap (u n / (256 : Int)) = (((n >>> 8).toUInt8).toNat : Int) := by rw [IntKind.wrap_u8]; exact byte8 n
theorem byte0w (n : UInt32) : IntKind.u8.wrap (u n) = ((n.toUInt8).toNat : Int) := by rw [IntKind.wrap_u8]; exact byte0 n
theorem wp_append_runH {P : Program} (w : World) {o : Oper} {a : Act} {K : Act → World → Prop} {Q : Exit → Act → World → Prop} (s x : Operand) (t : TypeId)
    (hop : o.op = Op.call { callee := Callee.builtin Builtin.append, args := #[s, x], argTypes := #[t, t] }) {v1 v2 v' : Value} {w' : World} (hs : a.eval s = v1) (hx : a.eval x = v2)
    (hrun : (Builtin.append_ #[t, t] o.type #[v1, v2]).run P w = .ok v' w') (hK : K (a.put o.dst v') w') : Oper.wp P o a w K Q := by
  unfold Oper.wp
  simp [execOp, hop, resolve, invoke, builtin, hs, hx, hrun, Result.andThen]
  exact hK

end Go.Proofs.YtjdbgfidnbgneaaDoor
