/-
  What came in, out of its reading: fates, texts. No condition.
-/
import Derived.Test.YtgjmidlcfjgnhaaFates
import Derived.OpenShut
import Derived.ShutString
import Derived.ChangeOld
import Derived.SizedLaws
import Derived.LaidLaws
import Derived.Deep.DeepHandedRow
import Derived.Deep.Slices
import Derived.Deep.Strs
namespace Go.Proofs.Ytgjmidlcfjgnhaa
open Go.ChangeShapes Go.WideShapes Go.ChangeAt Go.RowKit
open Go.ChangeMaps (open_string shut_string)

theorem own : ownKnob Try.prog.godebug = none := by kernel_rfl
theorem laidOut : laidOutB Try.prog = true := by kernel_rfl
theorem block_lt {w : World} {p : Addr} {v : Value} (h : w.cell? p = some v) : p.block < w.heap.size := by
  rcases Nat.lt_or_ge p.block w.heap.size with h1 | h1
  · exact h1
  · unfold World.cell? at h
    rw [Array.getElem?_eq_none h1] at h
    simp at h
theorem text_le {H : Type} {ts : List TypeId} {ds : List (DataW H)} (hsz : (DataW.weightsEach Try.prog ts ds).all (· ≤ reachBytes) = true) {j : Nat} {s : ByteArray}
    (ht : ts[j]? = some 9) (hd : ds[j]? = some (.lit (.string s.data.toList))) : s.size ≤ 140737488351232 := by
  have := sized_string hsz ht hd
  simp only [reachBytes] at this
  simpa using this
theorem choose_list {α : Type} {p : Nat → α → Prop} : ∀ n : Nat, (∀ i, i < n → ∃ a, p i a) → ∃ l : List α, l.length = n ∧ ∀ i (h : i < l.length), p i l[i]
  | 0, _ => ⟨[], rfl, fun i h => by simp at h⟩
  | n + 1, h => by
    obtain ⟨l, hl, hp⟩ := choose_list n (fun i hi => h i (by omega))
    obtain ⟨a, ha⟩ := h n (by omega)
    refine ⟨l ++ [a], by simp [hl], fun i hi => ?_⟩
    simp at hi
    by_cases hin : i < l.length
    · rw [List.getElem_append_left hin]; exact hp i hin
    · obtain rfl : i = n := by omega
      subst hl
      rw [List.getElem_append_right (by omega)]
      simpa using ha
theorem cellsS : Try.prog.cellsOf 9 = 1 := by kernel_rfl
theorem weights_all {H : Type} {P : Program} {e : TypeId} : ∀ {ds : List (DataW H)} {d : DataW H}, d ∈ ds → ∀ n ∈ d.weights P e, n ∈ DataW.weightsAll P e ds
  | [], d, h, _, _ => by simp at h
  | x :: r, d, h, n, hn => by
    simp only [DataW.weightsAll, List.mem_append]
    rcases List.mem_cons.1 h with rfl | h
    · exact .inl hn
    · exact .inr (weights_all h n hn)
theorem cells9 : Try.prog.cellsOf 9 = 1 := by kernel_rfl
theorem bytes9 : Try.prog.bytesOf 9 = 16 := by kernel_rfl
theorem cellsFate : Try.prog.cellsOf 35 = 3 := by kernel_rfl
theorem bytesFate : Try.prog.bytesOf 35 = 24 := by kernel_rfl
theorem cellsI : Try.prog.cellsOf 3 = 1 := by kernel_rfl
theorem cellsU : Try.prog.cellsOf 5 = 1 := by kernel_rfl
theorem i64_of {n : Int} (h : (Lit.int .i64 n).wf = true) : I64 n := by
  have := bounds_i64 h
  unfold I64
  omega
theorem u8_of {n : Int} (h : (Lit.int .u8 n).wf = true) : ∃ b : UInt8, n = (b.toNat : Int) := by
  have := bounds_u8 h
  refine ⟨UInt8.ofNat n.toNat, ?_⟩
  rw [UInt8.toNat_ofNat_of_lt' (by simp [UInt8.size]; omega)]
  omega
set_option maxRecDepth 100000 in
theorem open_Fate1 {H : Type} {enc : TypeId × Value → H} {W : World} {x : Addr} {i n : Nat} {cs : List Value} {y : DataW H × List MemPlace} (h1 : W.cells? 0 (x.add (i * 3)) 3 = some cs)
    (h2 : DataW.trod enc Try.prog W 0 (fun _ => true) true n 35 cs = some y) : ∃ p : Ft, (∀ j u, (fc p)[j]? = some u → W.cell? (x.add (i * 3 + j)) = some u) ∧ I64 p.2.1 := by
  obtain ⟨_, hlen, hc⟩ := World.cells?_some h1
  obtain ⟨xs, k, hk, hxy, _, hxl, hf⟩ := DataW.trod_struct Try.underlying35 h2
  match xs, hxl, cs, hlen with
  | [y0, y1, y2], _, [v0, v1, v2], _ =>
    have g0 := hf 0 _ rfl
    have g1 := hf 1 _ rfl
    have g2 := hf 2 _ rfl
    simp [cellsI, cellsU] at g0 g1 g2
    have c0 := hc 0 (by omega)
    have c1 := hc 1 (by omega)
    have c2 := hc 2 (by omega)
    rw [Deep.add_add] at c0 c1 c2
    simp at c0 c1 c2
    obtain ⟨n0, e0, -, w0⟩ := DataW.trod_int Try.underlying3 g0
    obtain ⟨n1, e1, -, w1⟩ := DataW.trod_int Try.underlying3 g1
    obtain ⟨n2, e2, -, w2⟩ := DataW.trod_int Try.underlying5 g2
    simp at e0 e1 e2
    subst e0 e1 e2
    obtain ⟨b, rfl⟩ := u8_of w2
    refine ⟨(n0, n1, b), fun j u hu => ?_, i64_of w1⟩
    match j, hu with
    | 0, hu => simp [fc] at hu; subst hu; simpa using c0
    | 1, hu => simp [fc] at hu; subst hu; simpa using c1
    | 2, hu => simp [fc] at hu; subst hu; simpa using c2
set_option maxRecDepth 100000 in
theorem open_fates {H : Type} {enc : TypeId × Value → H} {W : World} {b0 : Nat} {v : Value} {d : DataW H} {ps : List MemPlace} (hval : Value.okWide Try.prog W .any b0 22 v) (h : DataW.Trod enc Try.prog W 0 (fun _ => true) true 22 v d ps) :
    ∃ os : List Ft, Fs W v os ∧ (∀ o ∈ os, I64 o.2.1) ∧ (os = [] ∨ ∃ N ∈ d.weights Try.prog 22, os.length * 24 ≤ N) := by
  obtain ⟨a, len, cap, rfl⟩ := okWide_slice Try.underlying22 hval
  obtain ⟨fuel, hf⟩ := h
  rcases Deep.open_slice Try.underlying22 hf with ⟨hcs, hx⟩ | ⟨x, len', cap', m, n, D, Pl, hcs, _, hl, hm, hmm, hx, hcell⟩
  · simp [Value.cells] at hcs
    obtain ⟨rfl, rfl, rfl⟩ := hcs
    exact ⟨[], Fs.nil _, by simp, .inl rfl⟩
  · simp [Value.cells] at hcs
    obtain ⟨rfl, rfl, rfl⟩ := hcs
    injection hx with hd _
    have hmc : m = cap := by simpa using hmm
    rw [cellsFate] at hcell
    obtain ⟨os, hll, hp⟩ := choose_list (p := fun i (o : Ft) => (∀ j u, (fc o)[j]? = some u → W.cell? (x.add (i * 3 + j)) = some u) ∧ I64 o.2.1) len (fun i hi => by
      obtain ⟨cs, h1, h2⟩ := hcell i (by omega)
      exact open_Fate1 h1 h2)
    refine ⟨os, ⟨some x, cap, by rw [hll], by omega, hm, fun hne => ?_⟩, fun o ho => ?_, .inr ?_⟩
    · have hpos : 0 < os.length := List.length_pos_iff.2 hne
      obtain ⟨b, off, spot⟩ := x
      have hc := (hp 0 hpos).1 0 _ rfl
      have hspot : spot = none := by simpa [Addr.add] using World.cell?_spot hc
      subst hspot
      refine ⟨b, off, rfl, ?_, fun j hj i u hu => ?_⟩
      · have := block_lt hc
        rw [Addr.add_lit] at this
        exact this
      · have := (hp j hj).1 i u hu
        rw [Addr.add_lit] at this
        rw [Nat.add_assoc]
        exact this
    · obtain ⟨j, hj, rfl⟩ := List.getElem_of_mem ho
      exact (hp j hj).2
    · refine ⟨(((List.range len).map D).length + ((List.range (m - len)).map fun j => D (len + j)).length) * Try.prog.bytesOf 35, ?_, ?_⟩
      · rw [hd]
        simp [DataW.weights, Try.underlying22]
      · rw [bytesFate, hll]
        simp only [List.length_map, List.length_range]
        omega
theorem fates_le {H : Type} {ts : List TypeId} {ds : List (DataW H)} (hsz : (DataW.weightsEach Try.prog ts ds).all (· ≤ reachBytes) = true) {j : Nat} {d : DataW H} {os : List Ft}
    (ht : ts[j]? = some 22) (hd : ds[j]? = some d) (h2 : os = [] ∨ ∃ N ∈ d.weights Try.prog 22, os.length * 24 ≤ N) : os.length * 24 ≤ 140737488351232 := by
  rcases h2 with rfl | ⟨N, hN, hle⟩
  · simp
  · have := List.all_eq_true.1 hsz _ (DataW.weights_mem_each ht hd _ hN)
    simp only [reachBytes] at this
    exact Nat.le_trans hle (of_decide_eq_true this)
/-- How a slice of texts reads. -/
def shapeT {H : Type} (d : DataW H) (ls : List (List UInt8)) : Prop := (d = .nil ∧ ls = []) ∨ ∃ spare, d = .slice (ls.map fun l => .lit (.string l)) spare
set_option maxRecDepth 100000 in
theorem open_texts {H : Type} {enc : TypeId × Value → H} {W : World} {b0 : Nat} {v : Value} {d : DataW H} {ps : List MemPlace} (hval : Value.okWide Try.prog W .any b0 23 v) (h : DataW.Trod enc Try.prog W 0 (fun _ => true) true 23 v d ps) :
    ∃ ls, Ts W v ls ∧ shapeT d ls := by
  obtain ⟨a, len, cap, rfl⟩ := okWide_slice Try.underlying23 hval
  obtain ⟨fuel, hf⟩ := h
  rcases Deep.open_strs Try.underlying23 Try.underlying9 cells9 hf with ⟨hcs, hx⟩ | ⟨x, len', cap', m, Sx, hcs, _, hl, hm, hmm, hx, hcell⟩
  · simp [Value.cells] at hcs
    obtain ⟨rfl, rfl, rfl⟩ := hcs
    injection hx with hd _
    exact ⟨[], ⟨none, 0, rfl, by simp, by simp, fun h => absurd rfl h⟩, .inl ⟨hd, rfl⟩⟩
  · simp [Value.cells] at hcs
    obtain ⟨rfl, rfl, rfl⟩ := hcs
    injection hx with hd _
    have hmc : m = cap := by simpa using hmm
    refine ⟨(List.range len).map fun i => (Sx i).data.toList, ⟨some x, cap, by simp, by simpa using hl, hm, fun hne => ?_⟩, .inr ⟨_, by rw [hd, List.map_map]; rfl⟩⟩
    have hpos : 0 < len := by
      rcases Nat.eq_zero_or_pos len with h0 | h0
      · exfalso; apply hne; subst h0; rfl
      · exact h0
    obtain ⟨b, off, spot⟩ := x
    have hc := (hcell 0 (by omega)).1
    have hspot : spot = none := by simpa [Addr.add] using World.cell?_spot hc
    subst hspot
    refine ⟨b, off, rfl, ?_, fun j hj => ?_⟩
    · have := block_lt hc
      rw [Addr.add_lit] at this
      exact this
    · have hj' : j < len := by simpa using hj
      have h1 := (hcell j (by omega)).1
      rw [Addr.add_lit] at h1
      rw [h1]
      simp [strB_of]
theorem texts_le {H : Type} {ts : List TypeId} {ds : List (DataW H)} (hsz : (DataW.weightsEach Try.prog ts ds).all (· ≤ reachBytes) = true) {j : Nat} {d : DataW H} {ls : List (List UInt8)}
    (ht : ts[j]? = some 23) (hd : ds[j]? = some d) (h : shapeT d ls) : ls.length ≤ 140737488351232 ∧ ∀ s ∈ ls, s.length ≤ 140737488351232 := by
  have hin : ∀ n ∈ d.weights Try.prog 23, n ≤ 140737488351232 := fun n hn => by
    have := List.all_eq_true.1 hsz _ (DataW.weights_mem_each ht hd _ hn)
    simp only [reachBytes] at this
    exact of_decide_eq_true this
  rcases h with ⟨-, rfl⟩ | ⟨spare, rfl⟩
  · simp
  · refine ⟨?_, fun s hs => hin _ ?_⟩
    · have := hin (((ls.map fun l => (DataW.lit (.string l) : DataW H)).length + spare.length) * Try.prog.bytesOf 9) (by simp [DataW.weights, Try.underlying23])
      rw [bytes9, List.length_map] at this
      omega
    · simp only [DataW.weights, Try.underlying23, List.mem_cons, List.mem_append]
      refine .inr (.inl (weights_all (d := .lit (.string s)) (List.mem_map.2 ⟨s, hs, rfl⟩) _ ?_))
      simp [DataW.weights]
end Go.Proofs.Ytgjmidlcfjgnhaa
