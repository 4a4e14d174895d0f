/-
  What the statements show first. Conditions: the table holds its numbers.
-/
import Derived.Test.YtljhnakjkocanaaGreatDoorV31BRead
import Derived.Test.YtljhnakjkocanaaGreatDoorV28BBuild1
namespace Go.Proofs.YtljhnakjkocanaaGreatDoor
open Go.RowKit

/-- The get of a list that lies there. -/
theorem get_from {w2 : World} {c : Nat} {v : Value} {objs : List Pair} (ts : List TypeId) (hn : 96 ∈ ts) (hc : w2.heap[c]? = some (.cells #[v] 26)) (hv : Ls w2.heap.size w2 2 pairC v objs) (hs : ∀ o ∈ objs, o.2.length ≤ 140737488351232) :
    GetOk 27 #[.pointer (some ⟨c, 0, none⟩)] (findO objs) w2.heap.size ts (fun W _ => Below w2.heap.size w2 W) where
  eg := enters_own Tryz.func27 (by kernel_rfl) rfl
  le W a h := h.size
  keep W W' a r h hm _ := h.trans hm.b
  call W a id h _ := (from1_any W c v objs id ((h.block c (lt_of_heap hc)).trans hc) ((hv.keep h).up h.size)).mono fun e w' hq => ⟨hq.1, hq.2 ▸ h, hq.2 ▸ Mv.refl _ _ _ _⟩
  node := hn
  short id b h := by obtain ⟨o, ho, rfl⟩ := findO_mem h; exact hs o ho
set_option maxRecDepth 20000 in
theorem from_any (w : World) (ao : Option Addr) (m c : Nat) : Calls Tryz.prog 12 #[.slice ao m c] w fun e w' => e = .returned (.func (.func 27) #[] #[.pointer (some ⟨w.heap.size, 0, none⟩)]) ∧ w' = w.alloc (.cells #[.slice ao m c] 26) := by
  have hmf : ∀ (fn : Fn) (first cap : Array Value) (w : World), (Instr.makeFunc fn first cap).run Tryz.prog w = .ok (.func fn first cap) w := fun _ _ _ _ => rfl
  go_enter Tryz.func12, Tryz.ntmps12
  go_wp2
  go_ret
  exact ⟨rfl, rfl⟩
def someB : Bs := [115, 111, 109, 101, 32, 98, 121, 116, 101, 115]
theorem node_chunk (d : Bs) (h : d.length ≤ 1024) : nodeOf (67 :: d) = some (0, d, []) := by
  unfold nodeOf
  rw [(takenChunk_iff (67 :: d) d).2 ⟨by unfold chunkOk; simpa using h, rfl⟩]
theorem shown_read : readP (findO [objOf someB]) (partOf someB) 5 100 [] = ⟨[(partOf someB).1], [98, 121, 116, 101, 115], [partOf someB], 0⟩ := by
  have hfd : findO [objOf someB] (partOf someB).1 = some (67 :: someB) := by unfold findO objOf partOf; simp
  have hask : askN (findO [objOf someB]) (partOf someB) (-1) = (0, 0, someB, []) := askN_yes hfd (node_chunk someB (by decide)) ⟨rfl, .inl rfl⟩
  have he : endP (partOf someB).2 5 100 = 10 := rfl
  unfold readP
  rw [he, goS_chunk rfl (by show max 5 0 < min 10 (0 + 10); decide) (by rw [hask]) (by rw [hask]), hask]
  rfl
set_option maxRecDepth 40000 in
set_option maxHeartbeats 1600000 in
theorem shown_any (w : World) (hT : TabW w) : Calls Tryz.prog 6 #[] w fun e w' => e = .returned (.bool true) ∧ Below w.heap.size w w' := by
  have hcut : cutC someB = [someB] := cut_short (by decide) (by decide)
  have hbd := build_one w someB someB hcut hT (by decide)
  have hsb : strB someB = ⟨#[115, 111, 109, 101, 32, 98, 121, 116, 101, 115]⟩ := rfl
  have hp2 : (partOf someB).2 = 10 := rfl
  rw [hsb, hp2] at hbd
  have hrr : rightR (partOf someB) = true := (rightR_iff _).2 ⟨sha_length _, by decide, by decide⟩
  have hrd := shown_read
  obtain ⟨p, hp⟩ : ∃ p, p = partOf someB := ⟨_, rfl⟩
  obtain ⟨o, ho⟩ : ∃ o, o = objOf someB := ⟨_, rfl⟩
  have ho2 : o.2.length ≤ 140737488351232 := by rw [ho]; decide
  rw [← hp] at hbd hrr hrd hp2
  rw [← ho] at hbd hrd
  clear hcut hsb hp ho
  go_enter Tryz.func6, Tryz.ntmps6
  go_wp2_with fail
  refine hbd.mono ?_
  rintro e w1 ⟨v, rfl, hrow, hb1⟩
  obtain ⟨ao, m, c, rfl⟩ := row_form hrow
  have hb2 : Below w1.heap.size w1 (w1.alloc (.cells #[.string (strB p.1), .int .i64 10] 25)) := (Below.refl _ _).alloc (Nat.le_refl _) _
  have hx2 := heap_last w1 (.cells #[.string (strB p.1), .int .i64 10] 25) _ rfl
  have hB2 := hb1.trans (hb2.mono hb1.size)
  have hrow2 := own_below hrow hb2
  generalize hw2 : w1.alloc (.cells #[.string (strB p.1), .int .i64 10] 25) = w2 at *
  have hfr := from_any w2.drew ao m c
  have hb3 : Below w2.heap.size w2 (w2.alloc (.cells #[.slice ao m c] 26)).drew := ((Below.refl _ _).alloc (Nat.le_refl _) _).drew
  have hc3 : (w2.alloc (.cells #[.slice ao m c] 26)).drew.heap[w2.heap.size]? = _ := heap_last w2 (.cells #[.slice ao m c] 26) _ rfl
  have hx3 := (hb3.block _ (lt_of_heap hx2)).trans hx2
  have hrow3 := own_below hrow2 hb3
  have hls := ls_of_own (cs := pairC) pairC_length hrow3
  have hG := get_from (w2 := (w2.alloc (.cells #[.slice ao m c] 26)).drew) rts (by decide) hc3 hls (by simpa using ho2)
  have hre := bread_any (w2.alloc (.cells #[.slice ao m c] 26)).drew _ _ _ _ _ hG p 5 100 [] (Below.refl _ _) (by simp) hrr (by decide) (by decide) (by decide) (by decide)
  rw [hrd] at hre
  simp only [readV, if_true, hp2] at hre
  have htl := toL [98, 121, 116, 101, 115]
  have hbq : (([98, 121, 116, 101, 115] : Bs) == [98, 121, 116, 101, 115]) = true := rfl
  have htl2 : (⟨#[98, 121, 116, 101, 115]⟩ : ByteArray).toList = [98, 121, 116, 101, 115] := toL [98, 121, 116, 101, 115]
  have hlen : m = 1 := by
    obtain ⟨a', c', hv, -⟩ := own_form hrow
    injection hv with _ h2 _
  subst hlen
  have y0 := cell_of_row w2 w1.heap.size 0 _ _ _ hx2
  have y1 := cell_of_row w2 w1.heap.size 1 _ _ _ hx2
  have z0 := cell_of_row (w2.alloc (.cells #[.slice ao 1 c] 26)) w1.heap.size 0 _ _ _ hx3
  have z1 := cell_of_row (w2.alloc (.cells #[.slice ao 1 c] 26)) w1.heap.size 1 _ _ _ hx3
  simp only [List.getElem?_toArray, List.getElem?_cons_zero, List.getElem?_cons_succ] at y0 y1 z0 z1
  have H3 := hide (And.intro (hB2.trans (hb3.mono hB2.size)) hx3)
  clear hbd hrow hb1 hb2 hB2 hrow2 hb3 hc3 hrow3 hls hG hrd hx2 hx3 hrr ho2
  go_wp2_with fail
  refine wp_region_held_drew (S := fun W => W.cell? ⟨w1.heap.size, 0, none⟩ = some (.string (strB p.1)) ∧ W.cell? ⟨w1.heap.size, 1, none⟩ = some (.int .i64 10)) (by kernel_rfl) (⟨y0, y1⟩) (fun hHeld => ?_)
  refine takeH (i := 0) (v := ?_) rfl (by kernel_rfl) (by kernel_rfl) (by kernel_rfl) (fun _ _ _ h => h) rfl ?_ hHeld ?_
  rotate_left
  · intro w hS; (try dsimp only at hS); obtain ⟨hS0, hS1⟩ := hS; go_simp; first | done | (with_reducible rfl)
  try simp only [Act.put, List.setIfInBounds_toArray, List.set_cons_zero, List.set_cons_succ]
  refine takeH (i := 2) (v := ?_) rfl (by kernel_rfl) (by kernel_rfl) (by kernel_rfl) (fun _ _ _ h => h) rfl ?_ hHeld ?_
  rotate_left
  · intro w hS; (try dsimp only at hS); obtain ⟨hS0, hS1⟩ := hS; go_simp; first | done | (with_reducible rfl)
  try simp only [Act.put, List.setIfInBounds_toArray, List.set_cons_zero, List.set_cons_succ]
  refine onlyH (i := 1) rfl (by kernel_rfl) rfl (fun K hK => ?_)
  go_simp
  refine hfr.mono ?_
  rintro e w3 ⟨rfl, rfl⟩
  go_simp
  refine hK.out _ _ (⟨z0, z1⟩) (fun hHeld => ?_)
  clear hK K
  try simp only [Act.put, List.setIfInBounds_toArray, List.set_cons_zero, List.set_cons_succ]
  refine onlyH (i := 3) rfl (by kernel_rfl) rfl (fun K hK => ?_)
  go_simp
  refine hre.mono ?_
  rintro e w4 ⟨rfl, -, hM4⟩
  have hx4 := hM4.k _ _ _ _ H3.out.2 (by decide) (by simp)
  have u0 := cell_of_row w4 w1.heap.size 0 _ _ _ hx4
  have u1 := cell_of_row w4 w1.heap.size 1 _ _ _ hx4
  simp only [List.getElem?_toArray, List.getElem?_cons_zero, List.getElem?_cons_succ] at u0 u1
  refine hK.out _ _ (⟨u0, u1⟩) (fun hHeld => ?_)
  clear hK K
  try simp only [Act.put, List.setIfInBounds_toArray, List.set_cons_zero, List.set_cons_succ]
  refine takeH (i := 4) (v := ?_) rfl (by kernel_rfl) (by kernel_rfl) (by kernel_rfl) (fun _ _ _ h => h) rfl ?_ hHeld ?_
  rotate_left
  · intro w hS; (try dsimp only at hS); obtain ⟨hS0, hS1⟩ := hS; go_simp; first | done | (with_reducible rfl)
  try simp only [Act.put, List.setIfInBounds_toArray, List.set_cons_zero, List.set_cons_succ]
  refine takeH (i := 5) (v := ?_) rfl (by kernel_rfl) (by kernel_rfl) (by kernel_rfl) (fun _ _ _ h => h) rfl ?_ hHeld ?_
  rotate_left
  · intro w hS; (try dsimp only at hS); obtain ⟨hS0, hS1⟩ := hS; go_simp; first | done | (with_reducible rfl)
  try simp only [Act.put, List.setIfInBounds_toArray, List.set_cons_zero, List.set_cons_succ]
  refine takeH (i := 6) (v := ?_) rfl (by kernel_rfl) (by kernel_rfl) (by kernel_rfl) (fun _ _ _ h => h) rfl ?_ hHeld ?_
  rotate_left
  · intro w hS; (try dsimp only at hS); obtain ⟨hS0, hS1⟩ := hS; go_simp; first | done | (with_reducible rfl)
  try simp only [Act.put, List.setIfInBounds_toArray, List.set_cons_zero, List.set_cons_succ]
  refine takeH (i := 7) (v := ?_) rfl (by kernel_rfl) (by kernel_rfl) (by kernel_rfl) (fun _ _ _ h => h) rfl ?_ hHeld ?_
  rotate_left
  · intro w hS; (try dsimp only at hS); obtain ⟨hS0, hS1⟩ := hS; go_simp; first | done | (with_reducible rfl)
  try simp only [Act.put, List.setIfInBounds_toArray, List.set_cons_zero, List.set_cons_succ]
  refine takeH (i := 8) (v := ?_) rfl (by kernel_rfl) (by kernel_rfl) (by kernel_rfl) (fun _ _ _ h => h) rfl ?_ hHeld ?_
  rotate_left
  · intro w hS; (try dsimp only at hS); obtain ⟨hS0, hS1⟩ := hS; go_simp; first | done | (with_reducible rfl)
  try simp only [Act.put, List.setIfInBounds_toArray, List.set_cons_zero, List.set_cons_succ]
  refine wpAnyH_done (by kernel_rfl) ?_ _
  clear hHeld
  have H4 := hide (H3.out.1.trans (hM4.b.mono (by have := H3.out.1.size; exact this)))
  clear hM4 hre hfr hx4
  go_wp2
  go_ret
  exact ⟨rfl, H4.out⟩
end Go.Proofs.YtljhnakjkocanaaGreatDoor
