/-
  The document's examples that stand at each statement's head answer true, and leave all that was there. Condition: the table holds its sixteen numbers.
-/
import Derived.Test.YtphhonkiikdanaaDoorCrc
namespace Go.Proofs.YtphhonkiikdanaaDoor
open Go.RowKit

theorem enc64 : [] ++ Pl.enc (Pl.zz 64) = [128, 1] := by decide
theorem take64 : takeI [128, 1] 0 = some (64, 2) := by decide
theorem takeab : takeT [4, 97, 98] 0 2 = some ([97, 98], 3) := by decide
theorem crc19 : crc [[49, 50, 51, 52], [53, 54, 55, 56, 57]].flatten = 3421780262 := by decide +kernel

theorem freeze_new (w : World) (C : Array Value) (n : Nat) : (w.alloc (.cells C 5)).freeze ⟨w.heap.size, n, none⟩ 1 = w.alloc (.cells C 5 (n, n + 1)) := by
  have hm : ∀ (a : Array Obj) (x : Obj) (f : Obj → Obj), (a.push x).modify a.size f = a.push (f x) := by
    intro a x f
    apply Array.ext
    · simp
    · intro i h1 h2
      simp only [Array.getElem_modify, Array.getElem_push]
      by_cases h : a.size = i
      · subst h
        simp
      · have hi : i < a.size := by simp at h1; omega
        simp [h, hi]
  unfold World.freeze
  rw [if_neg (by decide)]
  show ({ w.alloc (.cells C 5) with heap := (w.heap.push (.cells C 5)).modify w.heap.size _ } : World) = _
  rw [hm]
  rfl
/-- '[]byte("..")' of a constant: the row that was built gets the run-time's mark. -/
theorem conv22 (w : World) (C : Array Value) (l c n : Nat) (hn : w.heap.size = n) : (convert 22 22 (.slice (some ⟨n, 0, none⟩) l c)).run Tryd.prog (w.alloc (.cells C 5)) =
    .ok (.slice (some ⟨n, 0, none⟩) l c) (w.alloc (.cells C 5 (C.size, C.size + 1))) := by
  subst hn
  have hsh : (w.alloc (.cells C 5)).shape? w.heap.size = some (5, C.size) := by
    have : (w.alloc (.cells C 5)).heap[w.heap.size]? = some (.cells C 5) := by
      show (w.heap.push (.cells C 5))[w.heap.size]? = _
      simp
    unfold World.shape?
    rw [this]
  simp [convert, run_underlying Tryd.underlying22, run_underlying Tryd.underlying5, markStringish, hsh, freeze_new]

theorem cell_new (w : World) (C : Array Value) (e : TypeId) (fr : Nat × Nat) (j : Nat) : (w.alloc (.cells C e fr)).cell? ⟨w.heap.size, j, none⟩ = C[j]? := by
  have : (w.alloc (.cells C e fr)).heap[w.heap.size]? = some (.cells C e fr) := by
    show (w.heap.push (.cells C e fr))[w.heap.size]? = _
    simp
  unfold World.cell?
  simp only [this]
  rfl
/-- A new block that holds these bytes. -/
theorem slNew (w : World) (l : List UInt8) (fr : Nat × Nat) (n : Nat) (hn : n = w.heap.size) (hl : l.length ≤ maxLen) :
    Sl (w.alloc (.cells (bc l).toArray 5 fr)) (.slice (some ⟨n, 0, none⟩) l.length l.length) l := by
  subst hn
  refine ⟨_, _, rfl, Nat.le_refl _, hl, by simp, fun _ => ⟨w.heap.size, 0, rfl, by simp, fun j hj => ?_⟩⟩
  rw [Nat.zero_add, cell_new]
  have := bc_get l j hj
  simpa using this
theorem ssNew (w : World) (u v : Value) (a b : List UInt8) (n : Nat) (hn : n = w.heap.size) (ha : Sl w u a) (hb : Sl w v b) :
    Ss (w.alloc (.cells #[u, v] 22)) (.slice (some ⟨n, 0, none⟩) 2 2) [a, b] := by
  subst hn
  refine ⟨_, _, rfl, Nat.le_refl _, by decide, fun _ => ⟨w.heap.size, 0, rfl, by simp, fun j hj => ?_⟩⟩
  rw [Nat.zero_add, cell_new]
  match j, hj with
  | 0, _ => exact ⟨u, rfl, ha.keep ((Below.refl _ _).alloc (Nat.le_refl _) _)⟩
  | 1, _ => exact ⟨v, rfl, hb.keep ((Below.refl _ _).alloc (Nat.le_refl _) _)⟩

set_option maxRecDepth 20000 in
set_option maxHeartbeats 800000 in
theorem shown_any (w : World) (hT : TabW w) :
    Calls Tryd.prog 9 #[] w fun e w' => e = .returned (.bool true) ∧ Below w.heap.size w w' := by
  have HT := hide hT
  clear hT
  go_enter Tryd.func9, Tryd.ntmps9
  go_wp2_with fail
  refine (putInt_any _ _ [] 64 (Sl.nil _) (by omega) (by omega) (by simp)).mono ?_
  rintro e w1 ⟨g, m, cap, rfl, hm, hmc, hsl, hb⟩
  rw [enc64] at hm hsl
  obtain rfl : m = 2 := hm
  have hT1 := HT.out.keep hb
  have HT1 := hide hT1
  have hz := hb.size
  clear hT1
  have hcv := conv22
  go_wp2_with fail
  refine (takeInt_some _ _ [128, 1] 0 64 2 hsl (by omega) take64).mono ?_
  rintro e w2 ⟨rfl, rfl⟩
  go_wp2_with fail
  refine (takeText_some _ _ [4, 97, 98] 0 2 [97, 98] 3 (by exact slNew w2 [4, 97, 98] (3, 4) _ rfl (by decide)) (by omega) takeab).mono ?_
  rintro e w3 ⟨rfl, rfl⟩
  go_wp2_with (refine wpList_str _ rfl (.tmp 22) rfl (by exact hsl.keep ((Below.refl _ _).alloc (Nat.le_refl _) _)) rfl ?_)
  refine (crc_any _ _ [[49, 50, 51, 52], [53, 54, 55, 56, 57]] (by exact ssNew _ _ _ _ _ _ (by simp) ((slNew _ [49, 50, 51, 52] (4, 5) _ (by simp) (by decide)).keep ((Below.refl _ _).alloc (Nat.le_refl _) _)) (slNew _ [53, 54, 55, 56, 57] (5, 6) _ (by simp) (by decide))) (by exact HT1.out.keep (((((Below.refl _ _).alloc (Nat.le_refl _) _).alloc (by simp) _).alloc (by simp; omega) _).alloc (by simp; omega) _))).mono ?_
  rintro e w4 ⟨rfl, rfl⟩
  rw [crc19]
  go_wp2
  go_ret
  exact ⟨rfl, (((hb.alloc (by omega) _).alloc (by simp; omega) _).alloc (by simp; omega) _).alloc (by simp; omega) _⟩
end Go.Proofs.YtphhonkiikdanaaDoor
