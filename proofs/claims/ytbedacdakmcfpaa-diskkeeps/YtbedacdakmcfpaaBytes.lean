/-
  Bytes of a constant, and a text of bytes. Conditions: none.
-/
import Derived.Test.YtbedacdakmcfpaaCopy
import Derived.Laws.IdiomStrings
namespace Go.Proofs.Ytbedacdakmcfpaa
open Go.RowKit

theorem freeze_new (w : World) (C : Array Value) (n : Nat) : (w.alloc (.cells C 5)).freeze ⟨w.heap.size, n, none⟩ 1 = w.alloc (.cells C 5 (n, n + 1)) := by
  have hm : ∀ (a : Array Obj) (x : Obj) (f : Obj → Obj), (a.push x).modify a.size f = a.push (f x) := by
    intro a x f
    apply Array.ext
    · simp
    · intro i h1 h2
      simp only [Array.getElem_modify, Array.getElem_push]
      by_cases h : a.size = i
      · subst h
        simp
      · have hi : i < a.size := by simp at h1; omega
        simp [h, hi]
  unfold World.freeze
  rw [if_neg (by decide)]
  show ({ w.alloc (.cells C 5) with heap := (w.heap.push (.cells C 5)).modify w.heap.size _ } : World) = _
  rw [hm]
  rfl
/-- '[]byte("..")' of a constant: the row that was built gets the run-time's mark. -/
theorem conv33 (w : World) (C : Array Value) (l c n : Nat) (hn : w.heap.size = n) : (convert 33 33 (.slice (some ⟨n, 0, none⟩) l c)).run Try.prog (w.alloc (.cells C 5)) =
    .ok (.slice (some ⟨n, 0, none⟩) l c) (w.alloc (.cells C 5 (C.size, C.size + 1))) := by
  subst hn
  have hsh : (w.alloc (.cells C 5)).shape? w.heap.size = some (5, C.size) := by
    have : (w.alloc (.cells C 5)).heap[w.heap.size]? = some (.cells C 5) := by
      show (w.heap.push (.cells C 5))[w.heap.size]? = _
      simp
    unfold World.shape?
    rw [this]
  simp [convert, run_underlying Try.underlying33, run_underlying Try.underlying5, markStringish, hsh, freeze_new]

theorem cell_new (w : World) (C : Array Value) (e : TypeId) (fr : Nat × Nat) (j : Nat) : (w.alloc (.cells C e fr)).cell? ⟨w.heap.size, j, none⟩ = C[j]? := by
  have : (w.alloc (.cells C e fr)).heap[w.heap.size]? = some (.cells C e fr) := by
    show (w.heap.push (.cells C e fr))[w.heap.size]? = _
    simp
  unfold World.cell?
  simp only [this]
  rfl
/-- A new block that holds these bytes. -/
theorem slNew (w : World) (l : List UInt8) (fr : Nat × Nat) (n : Nat) (hn : n = w.heap.size) (hl : l.length ≤ maxLen) :
    Sl (w.alloc (.cells (bc l).toArray 5 fr)) (.slice (some ⟨n, 0, none⟩) l.length l.length) l := by
  subst hn
  refine ⟨_, _, rfl, Nat.le_refl _, hl, by simp, fun _ => ⟨w.heap.size, 0, rfl, by simp, fun j hj => ?_⟩⟩
  rw [Nat.zero_add, cell_new]
  have := bc_get l j hj
  simpa using this
theorem run_str (w : World) (v : Value) (l : List UInt8) (h : Sl w v l) : (convert 33 9 v).run Try.prog w = .ok (.string ⟨l.toArray⟩) w := by
  obtain ⟨ao, cap, rfl, h1, h2, h3, h4⟩ := h
  by_cases hl : l = []
  · subst hl
    cases ao with
    | none =>
      rw [run_convert_bytes_string w 33 9 5 none _ cap Try.underlying33 Try.underlying5 Try.underlying9]
      rfl
    | some a => exact run_convert_bytes_back w 33 9 5 a cap [] Try.underlying33 Try.underlying5 Try.underlying9 (fun j hj => by simp at hj)
  · obtain ⟨b, off, rfl, hb, hc⟩ := h4 hl
    refine run_convert_bytes_back w 33 9 5 ⟨b, off, none⟩ cap l Try.underlying33 Try.underlying5 Try.underlying9 (fun j hj => ?_)
    rw [Addr.add_lit]
    exact hc j hj

theorem wpList_str (w : World) {ops : Array Oper} {rest : List Oper} {o : Oper} {a : Act} {Q : Exit → Act → World → Prop} (hg : o.guard = none) (x : Operand) (hop : o.op = Op.convert 33 9 x)
    {v : Value} {l : List UInt8} (h : Sl w v l) (hx : a.eval x = v) (hK : wpList Try.prog ops Q rest (a.put o.dst (.string ⟨l.toArray⟩)) w) : wpList Try.prog ops Q (o :: rest) a w := by
  refine wpList_plain hg fun K hK' => ?_
  have hr := run_str w v l h
  unfold Oper.wp
  simp [execOp, hop, hx, hr, Result.andThen]
  exact hK' _ _ hK

end Go.Proofs.Ytbedacdakmcfpaa
