/-
  What the statements' frames share: the table out of the row's list, what came in out of its reading. No condition.
  A slice of texts that came in; how many bytes they have within the bulk. No condition.
-/
import Derived.Test.YtdbmngbinhemeabGreatDoorCards
import Derived.Test.YtdbmngbinhemeabGreatDoorTie
import Derived.Test.YtdbmngbinhemeabGreatDoorROTop1
import Derived.OpenShut
import Derived.ShutString
import Derived.ChangeOld
import Derived.SizedLaws
import Derived.Deep.DeepHandedRow
import Derived.Lib.LaidTab
import Derived.Deep.Slices
import Derived.Deep.Strs
namespace Go.Proofs.YtdbmngbinhemeabGreatDoor
open Go.ChangeShapes Go.WideShapes Go.ChangeAt Go.RowKit
open Go.ChangeMaps (open_string shut_string)

theorem own : ownKnob Tryz.prog.godebug = none := by kernel_rfl
theorem laidOut : laidOutB Tryz.prog = true := by kernel_rfl
theorem gTab : Tryz.prog.globalNamed "tussock/hash.roundNumbers" = some 0 := by kernel_rfl
theorem gTabType : (Tryz.prog.globals[0]?).map (·.type) = some 102 := by kernel_rfl
theorem cellsTab : Tryz.prog.cellsOf 102 = 64 := by kernel_rfl
theorem cellsU : Tryz.prog.cellsOf 101 = 1 := by kernel_rfl

theorem block_lt {w : World} {p : Addr} {v : Value} (h : w.cell? p = some v) : p.block < w.heap.size := by
  rcases Nat.lt_or_ge p.block w.heap.size with h1 | h1
  · exact h1
  · unfold World.cell? at h
    rw [Array.getElem?_eq_none h1] at h
    simp at h

theorem table {W : World} (h : laidMetH Tryz.prog [("tussock/hash.roundNumbers", Rows.laid_tussock_hash_roundNumbers)] W) :
    Lib.TabIs Tryz.prog W "tussock/hash.roundNumbers" .u32 [1116352408, 1899447441, 3049323471, 3921009573, 961987163, 1508970993, 2453635748, 2870763221, 3624381080, 310598401, 607225278, 1426881987, 1925078388, 2162078206, 2614888103, 3248222580, 3835390401, 4022224774, 264347078, 604807628, 770255983, 1249150122, 1555081692, 1996064986, 2554220882, 2821834349, 2952996808, 3210313671, 3336571891, 3584528711, 113926993, 338241895, 666307205, 773529912, 1294757372, 1396182291, 1695183700, 1986661051, 2177026350, 2456956037, 2730485921, 2820302411, 3259730800, 3345764771, 3516065817, 3600352804, 4094571909, 275423344, 430227734, 506948616, 659060556, 883997877, 958139571, 1322822218, 1537002063, 1747873779, 1955562222, 2024104815, 2227730452, 2361852424, 2428436474, 2756734187, 3204031479, 3329325298] :=
  Lib.tabIs_of_head (rest := []) gTab gTabType Tryz.underlying102 Tryz.underlying101 cellsU cellsTab h
theorem tabW {W : World} (h : laidMetH Tryz.prog [("tussock/hash.roundNumbers", Rows.laid_tussock_hash_roundNumbers)] W) : TabW W := by
  have hc : ∀ j, j < 64 → W.cell? ⟨0, j, none⟩ = some (.int .u32 (u (kL.getD j 0))) := by
    intro j hj
    rw [(table h).cell gTab j (by simpa using hj)]
    have : ∀ j : Fin 64, ([1116352408, 1899447441, 3049323471, 3921009573, 961987163, 1508970993, 2453635748, 2870763221, 3624381080, 310598401, 607225278, 1426881987, 1925078388, 2162078206, 2614888103, 3248222580, 3835390401, 4022224774, 264347078, 604807628, 770255983, 1249150122, 1555081692, 1996064986, 2554220882, 2821834349, 2952996808, 3210313671, 3336571891, 3584528711, 113926993, 338241895, 666307205, 773529912, 1294757372, 1396182291, 1695183700, 1986661051, 2177026350, 2456956037, 2730485921, 2820302411, 3259730800, 3345764771, 3516065817, 3600352804, 4094571909, 275423344, 430227734, 506948616, 659060556, 883997877, 958139571, 1322822218, 1537002063, 1747873779, 1955562222, 2024104815, 2227730452, 2361852424, 2428436474, 2756734187, 3204031479, 3329325298] : List Int).getD j.val 0 = u (kL.getD j.val 0) := by decide +kernel
    rw [this ⟨j, hj⟩]
  exact ⟨block_lt (hc 0 (by omega)), hc⟩

/-- What the table's initialiser lays. -/
def tabCells : Array Value := uc kL

theorem text_le {H : Type} {ts : List TypeId} {ds : List (DataW H)} (hsz : (DataW.weightsEach Tryz.prog ts ds).all (· ≤ reachBytes) = true) {j : Nat} {s : ByteArray}
    (ht : ts[j]? = some 9) (hd : ds[j]? = some (.lit (.string s.data.toList))) : s.size ≤ 140737488351232 := by
  have := sized_string hsz ht hd
  simp only [reachBytes] at this
  simpa using this

theorem choose_list {α : Type} {p : Nat → α → Prop} : ∀ n : Nat, (∀ i, i < n → ∃ a, p i a) → ∃ l : List α, l.length = n ∧ ∀ i (h : i < l.length), p i l[i]
  | 0, _ => ⟨[], rfl, fun i h => by simp at h⟩
  | n + 1, h => by
    obtain ⟨l, hl, hp⟩ := choose_list n (fun i hi => h i (by omega))
    obtain ⟨a, ha⟩ := h n (by omega)
    refine ⟨l ++ [a], by simp [hl], fun i hi => ?_⟩
    simp at hi
    by_cases hin : i < l.length
    · rw [List.getElem_append_left hin]; exact hp i hin
    · obtain rfl : i = n := by omega
      subst hl
      rw [List.getElem_append_right (by omega)]
      simpa using ha
theorem cellsS : Tryz.prog.cellsOf 9 = 1 := by kernel_rfl
theorem cellsN : Tryz.prog.cellsOf 2 = 1 := by kernel_rfl
theorem cellsI : Tryz.prog.cellsOf 3 = 1 := by kernel_rfl

theorem cellsPart : Tryz.prog.cellsOf 51 = 2 := by kernel_rfl
set_option maxRecDepth 100000 in
theorem open_Part1 {H : Type} {enc : TypeId × Value → H} {W : World} {x : Addr} {i n : Nat} {cs : List Value} {y : DataW H × List MemPlace} (h1 : W.cells? 0 (x.add (i * 2)) 2 = some cs)
    (h2 : DataW.trod enc Tryz.prog W 0 (fun _ => true) true n 51 cs = some y) : ∃ p : Part, ∀ j u, (partC p)[j]? = some u → W.cell? (x.add (i * 2 + j)) = some u := by
  obtain ⟨_, hlen, hc⟩ := World.cells?_some h1
  obtain ⟨xs, k, hk, hxy, _, hxl, hf⟩ := DataW.trod_struct Tryz.underlying51 h2
  match xs, hxl, cs, hlen with
  | [y0, y1], _, [v0, v1], _ =>
    have g0 := hf 0 _ rfl
    have g1 := hf 1 _ rfl
    simp [cellsS, cellsN] at g0 g1
    have c0 := hc 0 (by omega)
    have c1 := hc 1 (by omega)
    rw [Deep.add_add] at c0 c1
    simp at c0 c1
    obtain ⟨s0, e0, -⟩ := DataW.trod_string Tryz.underlying9 g0
    obtain ⟨s1, e1, -, w1⟩ := DataW.trod_int Tryz.underlying2 g1
    simp at e0 e1
    subst e0 e1
    refine ⟨(s0.data.toList, s1), fun j u hu => ?_⟩
    match j, hu with
    | 0, hu => simp [partC, strB_of] at hu; subst hu; simpa using c0
    | 1, hu => simp [partC] at hu; subst hu; simpa using c1
set_option maxRecDepth 100000 in
/-- A slice of them, out of its cell. -/
theorem open_Parts_at {H : Type} {enc : TypeId × Value → H} {W : World} {v : Value} {d : DataW H} {ps : List MemPlace} {fuel : Nat} (h : DataW.trod enc Tryz.prog W 0 (fun _ => true) true fuel 44 [v] = some (d, ps)) :
    ∃ os : List Part, Ls W.heap.size W 2 partC v os := by
  rcases Deep.open_slice Tryz.underlying44 h with ⟨hcs, hx⟩ | ⟨x, len', cap', m, n, D, Pl, hcs, _, hl, hm, hmm, hx, hcell⟩
  · simp at hcs
    obtain rfl := hcs
    exact ⟨[], Ls.nil _ _ _ _⟩
  · simp at hcs
    obtain rfl := hcs
    have hmc : m = cap' := by simpa using hmm
    rw [cellsPart] at hcell
    obtain ⟨os, hll, hp⟩ := choose_list (p := fun i (o : Part) => ∀ j u, (partC o)[j]? = some u → W.cell? (x.add (i * 2 + j)) = some u) len' (fun i hi => by
      obtain ⟨cs, h1, h2⟩ := hcell i (by omega)
      exact open_Part1 h1 h2)
    refine ⟨os, ⟨some x, cap', by rw [hll], by omega, hm, fun hne => ?_⟩⟩
    have hpos : 0 < os.length := List.length_pos_iff.2 hne
    obtain ⟨b, off, spot⟩ := x
    have hc := hp 0 hpos 0 _ rfl
    have hspot : spot = none := by simpa [Addr.add] using World.cell?_spot hc
    subst hspot
    refine ⟨b, off, rfl, ?_, fun j hj i u hu => ?_⟩
    · have := block_lt hc
      rw [Addr.add_lit] at this
      exact this
    · have := hp j hj i u hu
      rw [Addr.add_lit] at this
      rw [Nat.add_assoc]
      exact this

theorem cellsPair : Tryz.prog.cellsOf 37 = 2 := by kernel_rfl
set_option maxRecDepth 100000 in
theorem open_Pair1 {H : Type} {enc : TypeId × Value → H} {W : World} {x : Addr} {i n : Nat} {cs : List Value} {y : DataW H × List MemPlace} (h1 : W.cells? 0 (x.add (i * 2)) 2 = some cs)
    (h2 : DataW.trod enc Tryz.prog W 0 (fun _ => true) true n 37 cs = some y) : ∃ p : Pair, ∀ j u, (pairC p)[j]? = some u → W.cell? (x.add (i * 2 + j)) = some u := by
  obtain ⟨_, hlen, hc⟩ := World.cells?_some h1
  obtain ⟨xs, k, hk, hxy, _, hxl, hf⟩ := DataW.trod_struct Tryz.underlying37 h2
  match xs, hxl, cs, hlen with
  | [y0, y1], _, [v0, v1], _ =>
    have g0 := hf 0 _ rfl
    have g1 := hf 1 _ rfl
    simp [cellsS] at g0 g1
    have c0 := hc 0 (by omega)
    have c1 := hc 1 (by omega)
    rw [Deep.add_add] at c0 c1
    simp at c0 c1
    obtain ⟨s0, e0, -⟩ := DataW.trod_string Tryz.underlying9 g0
    obtain ⟨s1, e1, -⟩ := DataW.trod_string Tryz.underlying9 g1
    simp at e0 e1
    subst e0 e1
    refine ⟨(s0.data.toList, s1.data.toList), fun j u hu => ?_⟩
    match j, hu with
    | 0, hu => simp [pairC, strB_of] at hu; subst hu; simpa using c0
    | 1, hu => simp [pairC, strB_of] at hu; subst hu; simpa using c1
set_option maxRecDepth 100000 in
/-- A slice of them, out of its cell. -/
theorem open_Pairs_at {H : Type} {enc : TypeId × Value → H} {W : World} {v : Value} {d : DataW H} {ps : List MemPlace} {fuel : Nat} (h : DataW.trod enc Tryz.prog W 0 (fun _ => true) true fuel 38 [v] = some (d, ps)) :
    ∃ os : List Pair, Ls W.heap.size W 2 pairC v os := by
  rcases Deep.open_slice Tryz.underlying38 h with ⟨hcs, hx⟩ | ⟨x, len', cap', m, n, D, Pl, hcs, _, hl, hm, hmm, hx, hcell⟩
  · simp at hcs
    obtain rfl := hcs
    exact ⟨[], Ls.nil _ _ _ _⟩
  · simp at hcs
    obtain rfl := hcs
    have hmc : m = cap' := by simpa using hmm
    rw [cellsPair] at hcell
    obtain ⟨os, hll, hp⟩ := choose_list (p := fun i (o : Pair) => ∀ j u, (pairC o)[j]? = some u → W.cell? (x.add (i * 2 + j)) = some u) len' (fun i hi => by
      obtain ⟨cs, h1, h2⟩ := hcell i (by omega)
      exact open_Pair1 h1 h2)
    refine ⟨os, ⟨some x, cap', by rw [hll], by omega, hm, fun hne => ?_⟩⟩
    have hpos : 0 < os.length := List.length_pos_iff.2 hne
    obtain ⟨b, off, spot⟩ := x
    have hc := hp 0 hpos 0 _ rfl
    have hspot : spot = none := by simpa [Addr.add] using World.cell?_spot hc
    subst hspot
    refine ⟨b, off, rfl, ?_, fun j hj i u hu => ?_⟩
    · have := block_lt hc
      rw [Addr.add_lit] at this
      exact this
    · have := hp j hj i u hu
      rw [Addr.add_lit] at this
      rw [Nat.add_assoc]
      exact this

theorem cellsLink : Tryz.prog.cellsOf 58 = 3 := by kernel_rfl
set_option maxRecDepth 100000 in
theorem open_Link1 {H : Type} {enc : TypeId × Value → H} {W : World} {x : Addr} {i n : Nat} {cs : List Value} {y : DataW H × List MemPlace} (h1 : W.cells? 0 (x.add (i * 3)) 3 = some cs)
    (h2 : DataW.trod enc Tryz.prog W 0 (fun _ => true) true n 58 cs = some y) : ∃ p : Link, ∀ j u, (linkC p)[j]? = some u → W.cell? (x.add (i * 3 + j)) = some u := by
  obtain ⟨_, hlen, hc⟩ := World.cells?_some h1
  obtain ⟨xs, k, hk, hxy, _, hxl, hf⟩ := DataW.trod_struct Tryz.underlying58 h2
  match xs, hxl, cs, hlen with
  | [y0, y1, y2], _, [v0, v1, v2], _ =>
    have g0 := hf 0 _ rfl
    have g1 := hf 1 _ rfl
    have g2 := hf 2 _ rfl
    simp [cellsS, cellsN] at g0 g1 g2
    have c0 := hc 0 (by omega)
    have c1 := hc 1 (by omega)
    have c2 := hc 2 (by omega)
    rw [Deep.add_add] at c0 c1 c2
    simp at c0 c1 c2
    obtain ⟨s0, e0, -⟩ := DataW.trod_string Tryz.underlying9 g0
    obtain ⟨s1, e1, -⟩ := DataW.trod_string Tryz.underlying9 g1
    obtain ⟨s2, e2, -, w2⟩ := DataW.trod_int Tryz.underlying2 g2
    simp at e0 e1 e2
    subst e0 e1 e2
    refine ⟨(s0.data.toList, (s1.data.toList, s2)), fun j u hu => ?_⟩
    match j, hu with
    | 0, hu => simp [linkC, strB_of] at hu; subst hu; simpa using c0
    | 1, hu => simp [linkC, strB_of] at hu; subst hu; simpa using c1
    | 2, hu => simp [linkC] at hu; subst hu; simpa using c2
set_option maxRecDepth 100000 in
/-- A slice of them, out of its cell. -/
theorem open_Links_at {H : Type} {enc : TypeId × Value → H} {W : World} {v : Value} {d : DataW H} {ps : List MemPlace} {fuel : Nat} (h : DataW.trod enc Tryz.prog W 0 (fun _ => true) true fuel 52 [v] = some (d, ps)) :
    ∃ os : List Link, Ls W.heap.size W 3 linkC v os := by
  rcases Deep.open_slice Tryz.underlying52 h with ⟨hcs, hx⟩ | ⟨x, len', cap', m, n, D, Pl, hcs, _, hl, hm, hmm, hx, hcell⟩
  · simp at hcs
    obtain rfl := hcs
    exact ⟨[], Ls.nil _ _ _ _⟩
  · simp at hcs
    obtain rfl := hcs
    have hmc : m = cap' := by simpa using hmm
    rw [cellsLink] at hcell
    obtain ⟨os, hll, hp⟩ := choose_list (p := fun i (o : Link) => ∀ j u, (linkC o)[j]? = some u → W.cell? (x.add (i * 3 + j)) = some u) len' (fun i hi => by
      obtain ⟨cs, h1, h2⟩ := hcell i (by omega)
      exact open_Link1 h1 h2)
    refine ⟨os, ⟨some x, cap', by rw [hll], by omega, hm, fun hne => ?_⟩⟩
    have hpos : 0 < os.length := List.length_pos_iff.2 hne
    obtain ⟨b, off, spot⟩ := x
    have hc := hp 0 hpos 0 _ rfl
    have hspot : spot = none := by simpa [Addr.add] using World.cell?_spot hc
    subst hspot
    refine ⟨b, off, rfl, ?_, fun j hj i u hu => ?_⟩
    · have := block_lt hc
      rw [Addr.add_lit] at this
      exact this
    · have := hp j hj i u hu
      rw [Addr.add_lit] at this
      rw [Nat.add_assoc]
      exact this

theorem cellsLP : Tryz.prog.cellsOf 44 = 1 := by kernel_rfl
theorem cellsLL : Tryz.prog.cellsOf 52 = 1 := by kernel_rfl
theorem cellsLS : Tryz.prog.cellsOf 22 = 1 := by kernel_rfl
theorem cellsFan : Tryz.prog.cellsOf 46 = 2 := by kernel_rfl
theorem cellsBranch : Tryz.prog.cellsOf 54 = 2 := by kernel_rfl
theorem cellsCommit : Tryz.prog.cellsOf 64 = 5 := by kernel_rfl
set_option maxRecDepth 100000 in
theorem open_pairs {H : Type} {enc : TypeId × Value → H} {W : World} {b0 : Nat} {v : Value} {d : DataW H} {ps : List MemPlace} (hval : Value.okWide Tryz.prog W .any b0 38 v) (h : DataW.Trod enc Tryz.prog W 0 (fun _ => true) true 38 v d ps) :
    ∃ os : List Pair, Ls W.heap.size W 2 pairC v os := by
  obtain ⟨a, len, cap, rfl⟩ := okWide_slice Tryz.underlying38 hval
  obtain ⟨fuel, hf⟩ := h
  exact open_Pairs_at hf
set_option maxRecDepth 100000 in
theorem open_fan {H : Type} {enc : TypeId × Value → H} {W : World} {b0 : Nat} {v : Value} {d : DataW H} {ps : List MemPlace} (hval : Value.okWide Tryz.prog W .any b0 46 v) (h : DataW.Trod enc Tryz.prog W 0 (fun _ => true) true 46 v d ps) :
    ∃ (f : Fan) (u : Value), v = .agg #[.int .i64 f.1, u] ∧ Ls W.heap.size W 2 partC u f.2 := by
  obtain ⟨cs, rfl, hcs⟩ := okWide_struct Tryz.underlying46 hval
  obtain ⟨fuel, hf⟩ := h
  rw [cellsFan] at hcs
  obtain ⟨cs⟩ := cs
  obtain ⟨xs, k, hk, hxy, _, hxl, hg⟩ := DataW.trod_struct Tryz.underlying46 hf
  match xs, hxl, cs, hcs with
  | [y0, y1], _, [v0, v1], _ =>
    have g0 := hg 0 _ rfl
    have g1 := hg 1 _ rfl
    simp [cellsI, cellsLP, Value.cells] at g0 g1
    obtain ⟨n0, e0, -, w0⟩ := DataW.trod_int Tryz.underlying3 g0
    obtain ⟨l1, b1⟩ := open_Parts_at g1
    simp at e0
    subst e0
    exact ⟨(n0, l1), v1, rfl, b1⟩
set_option maxRecDepth 100000 in
theorem open_branch {H : Type} {enc : TypeId × Value → H} {W : World} {b0 : Nat} {v : Value} {d : DataW H} {ps : List MemPlace} (hval : Value.okWide Tryz.prog W .any b0 54 v) (h : DataW.Trod enc Tryz.prog W 0 (fun _ => true) true 54 v d ps) :
    ∃ (f : Branch) (u : Value), v = .agg #[.int .i64 f.1, u] ∧ Ls W.heap.size W 3 linkC u f.2 := by
  obtain ⟨cs, rfl, hcs⟩ := okWide_struct Tryz.underlying54 hval
  obtain ⟨fuel, hf⟩ := h
  rw [cellsBranch] at hcs
  obtain ⟨cs⟩ := cs
  obtain ⟨xs, k, hk, hxy, _, hxl, hg⟩ := DataW.trod_struct Tryz.underlying54 hf
  match xs, hxl, cs, hcs with
  | [y0, y1], _, [v0, v1], _ =>
    have g0 := hg 0 _ rfl
    have g1 := hg 1 _ rfl
    simp [cellsI, cellsLL, Value.cells] at g0 g1
    obtain ⟨n0, e0, -, w0⟩ := DataW.trod_int Tryz.underlying3 g0
    obtain ⟨l1, b1⟩ := open_Links_at g1
    simp at e0
    subst e0
    exact ⟨(n0, l1), v1, rfl, b1⟩
set_option maxRecDepth 100000 in
/-- A slice of texts, out of its cell. -/
theorem open_ids_at {H : Type} {enc : TypeId × Value → H} {W : World} {v : Value} {d : DataW H} {ps : List MemPlace} {fuel : Nat} (h : DataW.trod enc Tryz.prog W 0 (fun _ => true) true fuel 22 [v] = some (d, ps)) :
    ∃ ls : List Bs, Ls W.heap.size W 1 idC v ls := by
  rcases Deep.open_strs Tryz.underlying22 Tryz.underlying9 cellsS h with ⟨hcs, hx⟩ | ⟨x, len, cap, m, Sx, hcs, _, hl, hm, hmm, hx, hcell⟩
  · simp at hcs
    obtain rfl := hcs
    exact ⟨[], Ls.nil _ _ _ _⟩
  · simp at hcs
    obtain rfl := hcs
    have hmc : m = cap := by simpa using hmm
    refine ⟨(List.range len).map fun i => (Sx i).data.toList, ⟨some x, cap, by simp, by simpa using hl, hm, fun hne => ?_⟩⟩
    have hpos : 0 < len := by
      rcases Nat.eq_zero_or_pos len with h0 | h0
      · exfalso; apply hne; subst h0; rfl
      · exact h0
    obtain ⟨b, off, spot⟩ := x
    have hc := (hcell 0 (by omega)).1
    have hspot : spot = none := by simpa [Addr.add] using World.cell?_spot hc
    subst hspot
    refine ⟨b, off, rfl, ?_, fun j hj i u hu => ?_⟩
    · have := block_lt hc
      rw [Addr.add_lit] at this
      exact this
    · have hj' : j < len := by simpa using hj
      have hi : i = 0 := by
        have := (List.getElem?_eq_some_iff.1 hu).1
        simpa [idC] using this
      subst hi
      have h1 := (hcell j (by omega)).1
      rw [Addr.add_lit] at h1
      simp [idC, strB_of] at hu
      subst hu
      simpa using h1
set_option maxRecDepth 100000 in
theorem open_commit {H : Type} {enc : TypeId × Value → H} {W : World} {b0 : Nat} {v : Value} {d : DataW H} {ps : List MemPlace} (hval : Value.okWide Tryz.prog W .any b0 64 v) (h : DataW.Trod enc Tryz.prog W 0 (fun _ => true) true 64 v d ps) :
    ∃ (c : Commit) (u : Value), v = .agg #[.string (strB c.1), u, .string (strB c.2.2.1), .int .i64 c.2.2.2.1, .string (strB c.2.2.2.2)] ∧ Ls W.heap.size W 1 idC u c.2.1 := by
  obtain ⟨cs, rfl, hcs⟩ := okWide_struct Tryz.underlying64 hval
  obtain ⟨fuel, hf⟩ := h
  rw [cellsCommit] at hcs
  obtain ⟨cs⟩ := cs
  obtain ⟨xs, k, hk, hxy, _, hxl, hg⟩ := DataW.trod_struct Tryz.underlying64 hf
  match xs, hxl, cs, hcs with
  | [y0, y1, y2, y3, y4], _, [v0, v1, v2, v3, v4], _ =>
    have g0 := hg 0 _ rfl
    have g1 := hg 1 _ rfl
    have g2 := hg 2 _ rfl
    have g3 := hg 3 _ rfl
    have g4 := hg 4 _ rfl
    simp [cellsS, cellsN, cellsLS, Value.cells] at g0 g1 g2 g3 g4
    obtain ⟨s0, e0, -⟩ := DataW.trod_string Tryz.underlying9 g0
    obtain ⟨l1, b1⟩ := open_ids_at g1
    obtain ⟨s2, e2, -⟩ := DataW.trod_string Tryz.underlying9 g2
    obtain ⟨n3, e3, -, w3⟩ := DataW.trod_int Tryz.underlying2 g3
    obtain ⟨s4, e4, -⟩ := DataW.trod_string Tryz.underlying9 g4
    simp at e0 e2 e3 e4
    subst e0 e2 e3 e4
    exact ⟨(s0.data.toList, (l1, (s2.data.toList, (n3, s4.data.toList)))), v1, by simp [strB_of], b1⟩
end Go.Proofs.YtdbmngbinhemeabGreatDoor
namespace Go.Proofs.YtdbmngbinhemeabGreatDoor
open Go.ChangeShapes Go.WideShapes Go.ChangeAt Go.RowKit

theorem bulk_one {H : Type} (d : DataW H) : 1 ≤ Rows.uptoBulk d := by
  cases d with
  | lit l => cases l <;> simp [Rows.uptoBulk]
  | nil => simp [Rows.uptoBulk]
  | ptr d => simp [Rows.uptoBulk]
  | slice elems spare => simp [Rows.uptoBulk]
  | agg parts => simp [Rows.uptoBulk]
  | iface t d => simp [Rows.uptoBulk]
  | map entries => simp [Rows.uptoBulk]
  | held h => simp [Rows.uptoBulk]
theorem bulk_part {H : Type} {d : DataW H} {l : List (DataW H)} (h : d ∈ l) : Rows.uptoBulk d ≤ Rows.uptoBulkAll l := by
  induction l with
  | nil => cases h
  | cons x r ih =>
    simp only [Rows.uptoBulkAll]
    cases List.mem_cons.1 h with
    | inl e => subst e; omega
    | inr e => have := ih e; omega
theorem bulk_bound {H : Type} {l : List (DataW H)} (hk : Rows.uptoSmall H l = true) : Rows.uptoBulkAll l ≤ 1048576 := of_decide_eq_true hk
theorem cellsStr1 : Tryz.prog.cellsOf 9 = 1 := by kernel_rfl
/-- How a slice of texts reads. -/
def shapeT {H : Type} (d : DataW H) (ls : List Bs) : Prop := (d = .nil ∧ ls = []) ∨ ∃ spare, d = .slice (ls.map fun l => .lit (.string l)) spare
set_option maxRecDepth 100000 in
/-- A slice of texts that came in. -/
theorem open_texts {H : Type} {enc : TypeId × Value → H} {W : World} {b0 : Nat} {v : Value} {d : DataW H} {ps : List MemPlace} (hval : Value.okWide Tryz.prog W .any b0 22 v) (h : DataW.Trod enc Tryz.prog W 0 (fun _ => true) true 22 v d ps) :
    ∃ ls, Ls W.heap.size W 1 idC v ls ∧ shapeT d ls := by
  obtain ⟨a, len, cap, rfl⟩ := okWide_slice Tryz.underlying22 hval
  obtain ⟨fuel, hf⟩ := h
  rcases Deep.open_strs Tryz.underlying22 Tryz.underlying9 cellsStr1 hf with ⟨hcs, hx⟩ | ⟨x, len', cap', m, Sx, hcs, _, hl, hm, hmm, hx, hcell⟩
  · simp [Value.cells] at hcs
    obtain ⟨rfl, rfl, rfl⟩ := hcs
    injection hx with hd _
    exact ⟨[], ⟨none, 0, rfl, by simp, by simp, fun h => absurd rfl h⟩, .inl ⟨hd, rfl⟩⟩
  · simp [Value.cells] at hcs
    obtain ⟨rfl, rfl, rfl⟩ := hcs
    injection hx with hd _
    have hmc : m = cap := by simpa using hmm
    refine ⟨(List.range len).map fun i => (Sx i).data.toList, ⟨some x, cap, by simp, by simpa using hl, hm, fun hne => ?_⟩, .inr ⟨_, by rw [hd, List.map_map]; rfl⟩⟩
    have hpos : 0 < len := by
      rcases Nat.eq_zero_or_pos len with h0 | h0
      · exfalso; apply hne; subst h0; rfl
      · exact h0
    obtain ⟨b, off, spot⟩ := x
    have hc := (hcell 0 (by omega)).1
    have hspot : spot = none := by simpa [Addr.add] using World.cell?_spot hc
    subst hspot
    refine ⟨b, off, rfl, ?_, fun k hk j y hy => ?_⟩
    · have := block_lt hc
      rw [Addr.add_lit] at this
      exact this
    · have hk' : k < len := by simpa using hk
      have h1 := (hcell k (by omega)).1
      rw [Addr.add_lit] at h1
      cases j with
      | zero =>
        simp [idC] at hy
        rw [Nat.mul_one, Nat.add_zero, h1, ← hy]
        simp [strB_of]
      | succ j => simp [idC] at hy
theorem bulk_flat {H : Type} : ∀ ls : List (List UInt8), ls.flatten.length ≤ Rows.uptoBulkAll (ls.map fun l => (.lit (.string l) : DataW H))
  | [] => by simp
  | l :: r => by
    have := bulk_flat (H := H) r
    simp only [List.flatten_cons, List.length_append, List.map_cons, Rows.uptoBulkAll, Rows.uptoBulk]
    omega
theorem texts_up {H : Type} {ds : List (DataW H)} (hk : Rows.uptoSmall H ds = true) {d : DataW H} {ls : List (List UInt8)} (hd : d ∈ ds) (h : shapeT d ls) : ls.flatten.length ≤ 1048576 := by
  rcases h with ⟨_, rfl⟩ | ⟨spare, rfl⟩
  · simp
  · have h1 := bulk_bound hk
    have h2 := bulk_part hd
    have h3 := bulk_flat (H := H) ls
    simp only [Rows.uptoBulk] at h2
    omega
end Go.Proofs.YtdbmngbinhemeabGreatDoor
