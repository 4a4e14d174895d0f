/-
  What New answers. No condition.
-/
import Derived.Test.YtbedacdakmcfpaaAsks
namespace Go.Proofs.Ytbedacdakmcfpaa
open Go.RowKit

def newCells (room : Int) : Array Value := #[.int .i64 room, .int .i64 0, .map none, .map none, .slice none 0 0, .int .i64 0, .bool false, .int .i64 0, .map none]
theorem new_lies (w : World) (room : Nat) (hr : room < 9223372036854775808) : ∃ G, Rep (w.alloc (.cells (newCells room) 66)) (· = w.heap.size) w.heap.size (Dk.new room) G :=
  ⟨{ fb := fun _ => 0, rv := fun _ => .nilFunc, sv := fun _ => .nilFunc, now := none, sure := none, fls := none, lv := .slice none 0 0, cv := 0, vs := [] },
    { ok := ok_new room
      disk := heap_last w _
      inD := rfl
      roomy := hr
      cutv := fun c e => by cases e
      now := rfl
      sure := rfl
      both := Iff.rfl
      bare := fun _ => rfl
      fails := ⟨[], rfl, fun k _ => by show false = true ↔ _; simp⟩
      two := fun b e => by cases e
      three := fun b e => by cases e
      row := ⟨rfl, Or.inl ⟨rfl, rfl⟩⟩
      rowF := fun k hk => by cases hk
      many := rfl
      acts := fun j a p ha => by cases ha
      files := fun i hi => by rcases hi with (hi | hi) | hi <;> cases hi
      inj := fun i j hi => by rcases hi with (hi | hi) | hi <;> cases hi
      bytes := fun i f hi => by rcases hi with hi | hi <;> cases hi
      apart := fun i j k hi => by rcases hi with hi | hi <;> cases hi }⟩

set_option maxRecDepth 20000 in
theorem new_bad (w : World) (room : Int) (hr : room < 0) : Calls Try.prog 10 #[.int .i64 room] w fun e w' => e = .returned (.tuple #[.pointer none, .int .i64 2]) ∧ w' = w := by
  go_enter Try.func10, Try.ntmps10
  go_wp2
  go_ret2
  exact ⟨rfl, rfl⟩

set_option maxRecDepth 20000 in
theorem new_rep (w : World) (room : Nat) (hr : room < 9223372036854775808) : Calls Try.prog 10 #[.int .i64 (room : Int)] w fun e w' => ∃ G, e = .returned (.tuple #[.pointer (some ⟨w.heap.size, 0, none⟩), .int .i64 0]) ∧ Rep w' (· = w.heap.size) w.heap.size (Dk.new room) G ∧ Chg (fun _ => False) w w' := by
  obtain ⟨G, hG⟩ := new_lies w room hr
  unfold newCells at hG
  have HG := hide hG
  have h0 : ¬ ((room : Int) < 0) := by omega
  clear hG
  go_enter Try.func10, Try.ntmps10
  go_wp2
  go_ret2
  exact ⟨rfl, ⟨G, HG.out⟩, (Chg.refl _ w).alloc _⟩
end Go.Proofs.Ytbedacdakmcfpaa
