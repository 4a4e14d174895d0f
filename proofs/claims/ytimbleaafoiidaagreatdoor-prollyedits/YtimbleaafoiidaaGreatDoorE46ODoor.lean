/-
  Texts joined: ODoor, BDoor, PDoor.
-/
import Derived.Test.YtimbleaafoiidaaGreatDoorCards
import Derived.Test.YtimbleaafoiidaaGreatDoorTie
import Derived.Test.YtimbleaafoiidaaGreatDoorE6ORead
import Derived.OpenShut
import Derived.ShutString
import Derived.ChangeOld
import Derived.SizedLaws
import Derived.Deep.DeepHandedRow
import Derived.Lib.LaidTab
import Derived.Deep.Slices
import Derived.Deep.Strs
import Derived.Test.YtimbleaafoiidaaGreatDoorE41PShown
/-
  What the statements' frames share: the table out of the row's list, what came in out of its reading. No condition.
-/
namespace Go.Proofs.YtimbleaafoiidaaGreatDoor
open Go.ChangeShapes Go.WideShapes Go.ChangeAt Go.RowKit
open Go.ChangeMaps (open_string shut_string)

theorem own : ownKnob Tryz.prog.godebug = none := by kernel_rfl
theorem laidOut : laidOutB Tryz.prog = true := by kernel_rfl
theorem gTab : Tryz.prog.globalNamed "tussock/hash.roundNumbers" = some 0 := by kernel_rfl
theorem gTabType : (Tryz.prog.globals[0]?).map (·.type) = some 166 := by kernel_rfl
theorem cellsTab : Tryz.prog.cellsOf 166 = 64 := by kernel_rfl
theorem cellsU : Tryz.prog.cellsOf 165 = 1 := by kernel_rfl

theorem block_lt {w : World} {p : Addr} {v : Value} (h : w.cell? p = some v) : p.block < w.heap.size := by
  rcases Nat.lt_or_ge p.block w.heap.size with h1 | h1
  · exact h1
  · unfold World.cell? at h
    rw [Array.getElem?_eq_none h1] at h
    simp at h

theorem table {W : World} (h : laidMetH Tryz.prog [("tussock/hash.roundNumbers", Rows.laid_tussock_hash_roundNumbers)] W) :
    Lib.TabIs Tryz.prog W "tussock/hash.roundNumbers" .u32 [1116352408, 1899447441, 3049323471, 3921009573, 961987163, 1508970993, 2453635748, 2870763221, 3624381080, 310598401, 607225278, 1426881987, 1925078388, 2162078206, 2614888103, 3248222580, 3835390401, 4022224774, 264347078, 604807628, 770255983, 1249150122, 1555081692, 1996064986, 2554220882, 2821834349, 2952996808, 3210313671, 3336571891, 3584528711, 113926993, 338241895, 666307205, 773529912, 1294757372, 1396182291, 1695183700, 1986661051, 2177026350, 2456956037, 2730485921, 2820302411, 3259730800, 3345764771, 3516065817, 3600352804, 4094571909, 275423344, 430227734, 506948616, 659060556, 883997877, 958139571, 1322822218, 1537002063, 1747873779, 1955562222, 2024104815, 2227730452, 2361852424, 2428436474, 2756734187, 3204031479, 3329325298] :=
  Lib.tabIs_of_head (rest := []) gTab gTabType Tryz.underlying166 Tryz.underlying165 cellsU cellsTab h
theorem tabW {W : World} (h : laidMetH Tryz.prog [("tussock/hash.roundNumbers", Rows.laid_tussock_hash_roundNumbers)] W) : TabW W := by
  have hc : ∀ j, j < 64 → W.cell? ⟨0, j, none⟩ = some (.int .u32 (u (kL.getD j 0))) := by
    intro j hj
    rw [(table h).cell gTab j (by simpa using hj)]
    have : ∀ j : Fin 64, ([1116352408, 1899447441, 3049323471, 3921009573, 961987163, 1508970993, 2453635748, 2870763221, 3624381080, 310598401, 607225278, 1426881987, 1925078388, 2162078206, 2614888103, 3248222580, 3835390401, 4022224774, 264347078, 604807628, 770255983, 1249150122, 1555081692, 1996064986, 2554220882, 2821834349, 2952996808, 3210313671, 3336571891, 3584528711, 113926993, 338241895, 666307205, 773529912, 1294757372, 1396182291, 1695183700, 1986661051, 2177026350, 2456956037, 2730485921, 2820302411, 3259730800, 3345764771, 3516065817, 3600352804, 4094571909, 275423344, 430227734, 506948616, 659060556, 883997877, 958139571, 1322822218, 1537002063, 1747873779, 1955562222, 2024104815, 2227730452, 2361852424, 2428436474, 2756734187, 3204031479, 3329325298] : List Int).getD j.val 0 = u (kL.getD j.val 0) := by decide +kernel
    rw [this ⟨j, hj⟩]
  exact ⟨block_lt (hc 0 (by omega)), hc⟩

/-- What the table's initialiser lays. -/
def tabCells : Array Value := uc kL

theorem text_le {H : Type} {ts : List TypeId} {ds : List (DataW H)} (hsz : (DataW.weightsEach Tryz.prog ts ds).all (· ≤ reachBytes) = true) {j : Nat} {s : ByteArray}
    (ht : ts[j]? = some 9) (hd : ds[j]? = some (.lit (.string s.data.toList))) : s.size ≤ 140737488351232 := by
  have := sized_string hsz ht hd
  simp only [reachBytes] at this
  simpa using this

theorem choose_list {α : Type} {p : Nat → α → Prop} : ∀ n : Nat, (∀ i, i < n → ∃ a, p i a) → ∃ l : List α, l.length = n ∧ ∀ i (h : i < l.length), p i l[i]
  | 0, _ => ⟨[], rfl, fun i h => by simp at h⟩
  | n + 1, h => by
    obtain ⟨l, hl, hp⟩ := choose_list n (fun i hi => h i (by omega))
    obtain ⟨a, ha⟩ := h n (by omega)
    refine ⟨l ++ [a], by simp [hl], fun i hi => ?_⟩
    simp at hi
    by_cases hin : i < l.length
    · rw [List.getElem_append_left hin]; exact hp i hin
    · obtain rfl : i = n := by omega
      subst hl
      rw [List.getElem_append_right (by omega)]
      simpa using ha
theorem cellsS : Tryz.prog.cellsOf 9 = 1 := by kernel_rfl
end Go.Proofs.YtimbleaafoiidaaGreatDoor

/-
  Objects and a part that came in, out of their reading. No condition.
-/
namespace Go.Proofs.YtimbleaafoiidaaGreatDoor
open Go.ChangeShapes Go.WideShapes Go.ChangeAt Go.RowKit
open Go.ChangeMaps (open_string shut_string)

theorem cellsObj : Tryz.prog.cellsOf 69 = 2 := by kernel_rfl
theorem weights_all {H : Type} {P : Program} {e : TypeId} : ∀ {ds : List (DataW H)} {d : DataW H}, d ∈ ds → ∀ n ∈ d.weights P e, n ∈ DataW.weightsAll P e ds
  | [], d, h, _, _ => by simp at h
  | x :: r, d, h, n, hn => by
    simp only [DataW.weightsAll, List.mem_append]
    rcases List.mem_cons.1 h with rfl | h
    · exact .inl hn
    · exact .inr (weights_all h n hn)
set_option maxRecDepth 100000 in
theorem open_Obj1 {H : Type} {enc : TypeId × Value → H} {W : World} {x : Addr} {i n : Nat} {cs : List Value} {y : DataW H × List MemPlace} (h1 : W.cells? 0 (x.add (i * 2)) 2 = some cs)
    (h2 : DataW.trod enc Tryz.prog W 0 (fun _ => true) true n 69 cs = some y) : ∃ p : Pair, (∀ j u, (pairC p)[j]? = some u → W.cell? (x.add (i * 2 + j)) = some u) ∧ p.2.length ∈ y.1.weights Tryz.prog 69 := by
  obtain ⟨_, hlen, hc⟩ := World.cells?_some h1
  obtain ⟨xs, k, hk, hxy, _, hxl, hf⟩ := DataW.trod_struct Tryz.underlying69 h2
  match xs, hxl, cs, hlen with
  | [y0, y1], _, [v0, v1], _ =>
    have g0 := hf 0 _ rfl
    have g1 := hf 1 _ rfl
    simp [cellsS] at g0 g1
    have c0 := hc 0 (by omega)
    have c1 := hc 1 (by omega)
    rw [Deep.add_add] at c0 c1
    simp at c0 c1
    obtain ⟨s0, e0, d0, -⟩ := DataW.trod_string Tryz.underlying9 g0
    obtain ⟨s1, e1, d1, -⟩ := DataW.trod_string Tryz.underlying9 g1
    simp at e0 e1
    subst e0 e1
    subst d0 d1
    refine ⟨(s0.data.toList, s1.data.toList), fun j u hu => ?_, ?_⟩
    · match j, hu with
      | 0, hu => simp [pairC, strB_of] at hu; subst hu; simpa using c0
      | 1, hu => simp [pairC, strB_of] at hu; subst hu; simpa using c1
    · rw [hxy]
      simp [DataW.weights, DataW.weightsEach, Tryz.underlying69]
set_option maxRecDepth 100000 in
theorem open_objs {H : Type} {enc : TypeId × Value → H} {W : World} {b0 : Nat} {v : Value} {d : DataW H} {ps : List MemPlace} (hval : Value.okWide Tryz.prog W .any b0 25 v) (h : DataW.Trod enc Tryz.prog W 0 (fun _ => true) true 25 v d ps) :
    ∃ os : List Pair, Ls W.heap.size W 2 pairC v os ∧ ∀ o ∈ os, o.2.length ∈ d.weights Tryz.prog 25 := by
  obtain ⟨a, len, cap, rfl⟩ := okWide_slice Tryz.underlying25 hval
  obtain ⟨fuel, hf⟩ := h
  rcases Deep.open_slice Tryz.underlying25 hf with ⟨hcs, hx⟩ | ⟨x, len', cap', m, n, D, Pl, hcs, _, hl, hm, hmm, hx, hcell⟩
  · simp [Value.cells] at hcs
    obtain ⟨rfl, rfl, rfl⟩ := hcs
    exact ⟨[], Ls.nil _ _ _ _, by simp⟩
  · simp [Value.cells] at hcs
    obtain ⟨rfl, rfl, rfl⟩ := hcs
    injection hx with hd _
    have hmc : m = cap := by simpa using hmm
    rw [cellsObj] at hcell
    obtain ⟨os, hll, hp⟩ := choose_list (p := fun i (o : Pair) => (∀ j u, (pairC o)[j]? = some u → W.cell? (x.add (i * 2 + j)) = some u) ∧ o.2.length ∈ (D i).weights Tryz.prog 69) len (fun i hi => by
      obtain ⟨cs, h1, h2⟩ := hcell i (by omega)
      exact open_Obj1 h1 h2)
    refine ⟨os, ⟨some x, cap, by rw [hll], by omega, hm, fun hne => ?_⟩, fun o ho => ?_⟩
    · have hpos : 0 < os.length := List.length_pos_iff.2 hne
      obtain ⟨b, off, spot⟩ := x
      have hc := (hp 0 hpos).1 0 _ rfl
      have hspot : spot = none := by simpa [Addr.add] using World.cell?_spot hc
      subst hspot
      refine ⟨b, off, rfl, ?_, fun j hj i u hu => ?_⟩
      · have := block_lt hc
        rw [Addr.add_lit] at this
        exact this
      · have := (hp j hj).1 i u hu
        rw [Addr.add_lit] at this
        rw [Nat.add_assoc]
        exact this
    · obtain ⟨j, hj, rfl⟩ := List.getElem_of_mem ho
      rw [hd]
      simp only [DataW.weights, Tryz.underlying25, List.mem_cons, List.mem_append]
      refine .inr (.inl (weights_all (d := D j) ?_ _ (hp j hj).2))
      exact List.mem_map.2 ⟨j, by simp; omega, rfl⟩
theorem objs_le {H : Type} {ts : List TypeId} {ds : List (DataW H)} (hsz : (DataW.weightsEach Tryz.prog ts ds).all (· ≤ reachBytes) = true) {j : Nat} {d : DataW H} {os : List Pair}
    (ht : ts[j]? = some 25) (hd : ds[j]? = some d) (h : ∀ o ∈ os, o.2.length ∈ d.weights Tryz.prog 25) : ∀ o ∈ os, o.2.length ≤ 140737488351232 := by
  intro o ho
  have := List.all_eq_true.1 hsz _ (DataW.weights_mem_each ht hd _ (h o ho))
  simp only [reachBytes] at this
  exact of_decide_eq_true this
end Go.Proofs.YtimbleaafoiidaaGreatDoor

/-
  Puts that came in, out of their reading. No condition.
-/
namespace Go.Proofs.YtimbleaafoiidaaGreatDoor
open Go.ChangeShapes Go.WideShapes Go.ChangeAt Go.RowKit

theorem cellsPut : Tryz.prog.cellsOf 108 = 3 := by kernel_rfl
theorem cellsBool : Tryz.prog.cellsOf 4 = 1 := by kernel_rfl
set_option maxRecDepth 100000 in
theorem open_Put1 {H : Type} {enc : TypeId × Value → H} {W : World} {x : Addr} {i n : Nat} {cs : List Value} {y : DataW H × List MemPlace} (h1 : W.cells? 0 (x.add (i * 3)) 3 = some cs)
    (h2 : DataW.trod enc Tryz.prog W 0 (fun _ => true) true n 108 cs = some y) : ∃ p : PutM, ∀ j u, (putC p)[j]? = some u → W.cell? (x.add (i * 3 + j)) = some u := by
  obtain ⟨_, hlen, hc⟩ := World.cells?_some h1
  obtain ⟨xs, k, hk, hxy, _, hxl, hf⟩ := DataW.trod_struct Tryz.underlying108 h2
  match xs, hxl, cs, hlen with
  | [y0, y1, y2], _, [v0, v1, v2], _ =>
    have g0 := hf 0 _ rfl
    have g1 := hf 1 _ rfl
    have g2 := hf 2 _ rfl
    simp [cellsS, cellsBool] at g0 g1 g2
    have c0 := hc 0 (by omega)
    have c1 := hc 1 (by omega)
    have c2 := hc 2 (by omega)
    rw [Deep.add_add] at c0 c1 c2
    simp at c0 c1 c2
    obtain ⟨s0, e0, -⟩ := DataW.trod_string Tryz.underlying9 g0
    obtain ⟨s1, e1, -⟩ := DataW.trod_string Tryz.underlying9 g1
    obtain ⟨s2, e2, -⟩ := DataW.trod_bool Tryz.underlying4 g2
    simp at e0 e1 e2
    subst e0 e1 e2
    refine ⟨(s0.data.toList, (s1.data.toList, s2)), fun j u hu => ?_⟩
    match j, hu with
    | 0, hu => simp [putC, strB_of] at hu; subst hu; simpa using c0
    | 1, hu => simp [putC, strB_of] at hu; subst hu; simpa using c1
    | 2, hu => simp [putC] at hu; subst hu; simpa using c2
set_option maxRecDepth 100000 in
theorem open_puts {H : Type} {enc : TypeId × Value → H} {W : World} {b0 : Nat} {v : Value} {d : DataW H} {ps : List MemPlace} (hval : Value.okWide Tryz.prog W .any b0 52 v) (h : DataW.Trod enc Tryz.prog W 0 (fun _ => true) true 52 v d ps) :
    ∃ os : List PutM, Ls W.heap.size W 3 putC v os := by
  obtain ⟨a, len, cap, rfl⟩ := okWide_slice Tryz.underlying52 hval
  obtain ⟨fuel, hf⟩ := h
  rcases Deep.open_slice Tryz.underlying52 hf with ⟨hcs, hx⟩ | ⟨x, len', cap', m, n, D, Pl, hcs, _, hl, hm, hmm, hx, hcell⟩
  · simp [Value.cells] at hcs
    obtain ⟨rfl, rfl, rfl⟩ := hcs
    exact ⟨[], Ls.nil _ _ _ _⟩
  · simp [Value.cells] at hcs
    obtain ⟨rfl, rfl, rfl⟩ := hcs
    have hmc : m = cap := by simpa using hmm
    rw [cellsPut] at hcell
    obtain ⟨os, hll, hp⟩ := choose_list (p := fun i (o : PutM) => ∀ j u, (putC o)[j]? = some u → W.cell? (x.add (i * 3 + j)) = some u) len (fun i hi => by
      obtain ⟨cs, h1, h2⟩ := hcell i (by omega)
      exact open_Put1 h1 h2)
    refine ⟨os, ⟨some x, cap, by rw [hll], by omega, hm, fun hne => ?_⟩⟩
    have hpos : 0 < os.length := List.length_pos_iff.2 hne
    obtain ⟨b, off, spot⟩ := x
    have hc := hp 0 hpos 0 _ rfl
    have hspot : spot = none := by simpa [Addr.add] using World.cell?_spot hc
    subst hspot
    refine ⟨b, off, rfl, ?_, fun j hj i u hu => ?_⟩
    · have := block_lt hc
      rw [Addr.add_lit] at this
      exact this
    · have := hp j hj i u hu
      rw [Addr.add_lit] at this
      rw [Nat.add_assoc]
      exact this
end Go.Proofs.YtimbleaafoiidaaGreatDoor
