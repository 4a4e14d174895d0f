/-
  Texts joined: PSort, PEdited, PEdited2, PEditP, PRDone2, PREdit, PSameO, PMany, PSameP.
-/
import Derived.Test.YtimbleaafoiidaaGreatDoorE41PShown
import Derived.Test.YtimbleaafoiidaaGreatDoorE42SortF
import Derived.Shelf.SlSortCmp.NoneTotal
import Derived.Sort.OwnSorted
import Derived.Test.YtimbleaafoiidaaGreatDoorE40PBuild
import Derived.Test.YtimbleaafoiidaaGreatDoorE37PRGoes
import Derived.Test.YtimbleaafoiidaaGreatDoorE39PRBuild
import Derived.Test.YtimbleaafoiidaaGreatDoorE19PRow
import Derived.Laws.StructEq
import Derived.Test.YtimbleaafoiidaaGreatDoorE35PFind
import Derived.Test.YtimbleaafoiidaaGreatDoorE23PNodeP
import Derived.Test.YtimbleaafoiidaaGreatDoorE21PRMany
/-
  slices.SortFunc of pairs by their keys. Conditions: the pairs lie there; not too many.
-/
namespace Go.Proofs.YtimbleaafoiidaaGreatDoor
open Go.RowKit Go.Sort Go.Shelf

/-- How two pairs stand. -/
def cfP (x y : Pair) : Int := if ltB x.1 y.1 then -1 else if ltB y.1 x.1 then 1 else 0
theorem cfP_lt (x y : Pair) : ltOf cfP x y = ltB x.1 y.1 := by
  unfold ltOf cfP
  cases h1 : ltB x.1 y.1 with
  | true => rfl
  | false => cases h2 : ltB y.1 x.1 <;> rfl
theorem cfP_swo : SWO (ltOf cfP) where
  irrefl x := by rw [cfP_lt]; exact ltB_irrefl _
  trans x y z h1 h2 := by rw [cfP_lt] at *; exact ltB_trans _ _ _ h1 h2
  ntrans x y z h1 h2 := by
    rw [cfP_lt] at *
    cases h : ltB x.1 z.1 with
    | false => rfl
    | true =>
      cases h3 : ltB y.1 x.1 with
      | true => rw [ltB_trans _ _ _ h3 h] at h2; cases h2
      | false => rw [ltB_total _ _ h1 h3, h2] at h; cases h
theorem nan_any (w : World) (a : Bs) : Calls Tryz.prog 93 #[.string (strB a)] w fun e w' => e = .returned (.bool false) ∧ w' = w := by
  have h : ((strB a).data.toList == (strB a).data.toList) = true := by simp
  go_enter Tryz.func93, Tryz.ntmps93
  go_wp2
  go_ret
  exact ⟨by simp, rfl⟩
theorem gtr_ltB (a b : Bs) : (!ltB a b && !(a == b)) = ltB b a := by
  cases h1 : ltB a b with
  | true =>
    cases h2 : ltB b a with
    | false => rfl
    | true =>
      have := ltB_trans _ _ _ h1 h2
      rw [ltB_irrefl] at this
      cases this
  | false =>
    cases h2 : ltB b a with
    | false => rw [ltB_total _ _ h1 h2]; simp
    | true =>
      have : a ≠ b := fun e => by rw [e, ltB_irrefl] at h2; cases h2
      simpa using this
theorem gtr_str (t : TypeId) (a b : Bs) : binOp .gtr t (.string (strB a)) (.string (strB b)) = pure (.bool (ltB b a)) := by
  rw [← gtr_ltB]
  simp [binOp, Op.stringOp, toLr, ltB]
theorem lss_strS (t : TypeId) (a b : Bs) : binOp .lss t (.string (strB a)) (.string (strB b)) = pure (.bool (ltB a b)) := by simp [binOp, Op.stringOp, toLr, ltB]
/-- How two texts stand. -/
def cfB (a b : Bs) : Int := if ltB a b then -1 else if ltB b a then 1 else 0
theorem compare_any (w : World) (a b : Bs) : Calls Tryz.prog 66 #[.string (strB a), .string (strB b)] w fun e w' => e = .returned (.int .i64 (cfB a b)) ∧ w' = w := by
  have hn := fun w a => nan_any w a
  have hls := lss_strS 9 a b
  have hgt := gtr_str 9 a b
  unfold cfB
  generalize ltB a b = p at *
  generalize ltB b a = q at *
  go_enter Tryz.func66, Tryz.ntmps66
  go_wp2_with fail
  refine (hn _ _).mono ?_
  rintro e w1 ⟨rfl, rfl⟩
  go_wp2_with fail
  refine (hn _ _).mono ?_
  rintro e w2 ⟨rfl, rfl⟩
  cases p
  · cases q
    · go_wp2
      go_ret
      exact ⟨rfl, rfl⟩
    · go_wp2
      go_ret
      exact ⟨rfl, rfl⟩
  · go_wp2
    go_ret
    exact ⟨rfl, rfl⟩
theorem closure_any (x y : Pair) (W : World) : Calls Tryz.prog 65 #[.agg #[.string (strB x.1), .string (strB x.2)], .agg #[.string (strB y.1), .string (strB y.2)]] W fun e w' => e = .returned (.int .i64 (cfP x y)) ∧ ∃ q os', w' = grow (W.drewN q) os' := by
  have hcon := fun W' => compare_any W' x.1 y.1
  rw [show cfP x y = cfB x.1 y.1 from rfl]
  generalize cfB x.1 y.1 = r at hcon ⊢
  go_enter Tryz.func65, Tryz.ntmps65
  go_wp2_with fail
  refine (hcon _).mono ?_
  rintro e w' ⟨rfl, rfl⟩
  go_wp2
  go_ret
  exact ⟨rfl, 0, _, by rw [alloc_eq_grow, alloc_eq_grow, grow_grow]; rfl⟩
theorem flatK_get (d : Array Pair) (j : Nat) (h : j < d.size * 2) : (d.toList.flatMap pairC)[j]? = some (flatK pairC 2 d)[j]! := by
  rw [get_flatK _ _ _ _ h, flat_at d.toList j (by simpa using h)]
  have h1 : j / 2 < d.size := by omega
  rw [getElem!_pos d (j / 2) h1]
  have h2 : j % 2 = 0 ∨ j % 2 = 1 := by omega
  rcases h2 with h2 | h2 <;> rw [h2] <;> simp [pairC]
theorem flat_len (l : List Pair) : (l.flatMap pairC).length = l.length * 2 := by
  induction l with
  | nil => rfl
  | cons a r ih => rw [List.flatMap_cons, List.length_append, ih, List.length_cons]; simp [pairC]; omega
/-- Sorted by their keys, however they lay. -/
theorem sortFunc_any (w : World) (B : Nat) (v : Value) (out : List Pair) (hv : Rw B w 60 2 pairC v out) (hn : out.length ≤ 1000000) :
    Calls Tryz.prog 91 #[v, .func (.func 65) #[] #[]] w fun e w' => e = .returned (.tuple #[]) ∧ ∃ ss, ss.Perm out ∧ ss.Pairwise (fun x y => ltB y.1 x.1 = false) ∧ Rw B w' 60 2 pairC v ss ∧ w.grownBy w' v.ownBlock := by
  have hvf := hv
  obtain ⟨hlen, ⟨rfl, h0⟩ | ⟨g, cap, cur, rfl, hg, hh, hc, hm, hs, ht⟩⟩ := hvf
  · obtain rfl : out = [] := List.eq_nil_of_length_eq_zero h0
    have := AnyF.slices_SortFunc_none (P := Tryz.prog) (ρ := Tryz.sortF_ren) { Tryz.sortF with } none 0 (.func (.func 65) #[] #[]) w
    refine Calls.mono this ?_
    rintro e w' ⟨rfl, rfl⟩
    exact ⟨rfl, [], List.Perm.refl _, List.Pairwise.nil, hv, World.grownBy.refl _ _⟩
  · have hH : HoldsK pairC 2 w g 0 out.toArray := by
      intro j hj
      have hj' : j < out.toArray.size * 2 := by simpa using hj
      refine ⟨?_, by simp [World.frozen?, hh]⟩
      have h1 := flatK_get out.toArray j hj'
      have h2 := World.ownsRow.cells hv (g := g) rfl j _ h1
      rw [Addr.add_lit] at h2
      simpa using h2
    have hcon := AnyQ.slices_SortFunc (P := Tryz.prog) (ρ := Tryz.sortF_ren) Tryz.sortF 2 Tryz.isAgg60 Tryz.sizeOf60 pairC (fun _ => rfl) (fun x v hv => by simp [pairC] at hv; rcases hv with rfl | rfl <;> rfl) cfP cfP_swo 65 #[] g 0 cap out.toArray w (enters_own Tryz.func65 (by kernel_rfl) rfl) (fun _ _ _ _ x y => closure_any x y _) hH (lt_of_heap hh) (by simp; omega)
    have hsz : out.toArray.size = out.length := by simp
    rw [hsz] at hcon
    refine Calls.mono hcon ?_
    rintro e w' ⟨rfl, d', n, os, hp, hso, rfl⟩
    have hd : d'.size = out.length := hp.1.trans hsz
    refine ⟨rfl, d'.toList, ?_, ?_, ?_, ?_⟩
    · have h1 := hp.2.2
      rw [← hd, Array.extract_size] at h1
      rw [hd] at h1
      rw [show out.toArray.extract 0 out.length = out.toArray by rw [← hsz]; exact Array.extract_size] at h1
      simpa using h1
    · rw [List.pairwise_iff_getElem]
      intro i j hi hj hij
      have h1 := hso i j (Nat.zero_le _) hij (by simpa [hd] using hj)
      rw [cfP_lt] at h1
      rw [getElem!_pos d' i (by simpa using hi), getElem!_pos d' j (by simpa using hj)] at h1
      simpa using h1
    · have hb : (sortWorldK pairC 2 w g 0 n d' os).heap[g]? = some (.cells (putCells id 0 (flatK pairC 2 d') cur) 60 (0, 0)) := by
        have hgl := lt_of_heap hh
        unfold sortWorldK putRowK
        rw [heap_grow_old _ _ (by simpa [putRow, mapBlock, Sort.ahead] using hgl)]
        simp [putRow, mapBlock, Sort.ahead, Array.getElem?_modify, hh, onCells]
      refine ⟨by rw [flat_len], .inr ⟨g, cap, _, by simp [hd], hg, hb, by rw [Array.length_toList, hd]; exact hc, hm, by simp [putCells, hs], ?_⟩⟩
      refine List.ext_getElem? fun j => ?_
      by_cases h : j < d'.size * 2
      · have hcz : j < cur.size := by rw [hs]; have : d'.size * 2 ≤ cap * 2 := Nat.mul_le_mul_right 2 (by omega); omega
        rw [flatK_get d' j h, List.getElem?_take_of_lt (by simpa using h), Array.getElem?_toList]
        simp [putCells, hcz, h]
      · rw [List.getElem?_take_eq_none (by simp; omega), List.getElem?_eq_none (by rw [flat_len]; simp; omega)]
    · refine ⟨rfl, rfl, rfl, by simp [sortWorldK, putRowK, putRow, mapBlock, Sort.ahead, grow], fun k hk hne => ?_⟩
      unfold sortWorldK putRowK
      rw [heap_grow_old _ _ (by simpa [putRow, mapBlock, Sort.ahead] using hk)]
      have : g ≠ k := fun e => hne (by rw [e]; rfl)
      simp [putRow, mapBlock, Sort.ahead, Array.getElem?_modify, this]
end Go.Proofs.YtimbleaafoiidaaGreatDoor

/-
  The pairs behind all puts, by the program: a map, its values sorted by their keys. Conditions: the pairs rise; not too many.
-/
namespace Go.Proofs.YtimbleaafoiidaaGreatDoor
open Go.RowKit

theorem valuesF_any (w : World) (b : Nat) : Calls Tryz.prog 64 #[.map (some b)] w fun e w' => e = .returned (.func (.func 92) #[] #[.pointer (some ⟨w.heap.size, 0, none⟩)]) ∧ w' = w.alloc (.cells #[.map (some b)] 130) := by
  go_enter Tryz.func64, Tryz.ntmps64
  go_wp2
  go_ret
  exact ⟨rfl, rfl⟩
theorem collect_vals (w : World) (box b : Nat) (l : List Pair) (hbox : w.heap[box]? = some (.cells #[.map (some b)] 130)) (hm : Mp.MapW w b (pv l)) (hl : l.length ≤ 1000000) :
    Calls Tryz.prog 90 #[.func (.func 92) #[] #[.pointer (some ⟨box, 0, none⟩)]] w fun e w' => ∃ v out, e = .returned v ∧ out.Perm l ∧ Rw w.heap.size w' 60 2 pairC v out ∧ Below w.heap.size w w' := by
  have hc := appendSeq_vals w box b l hbox hm hl
  clear hbox hm
  go_enter Tryz.func90, Tryz.ntmps90
  go_wp2_with fail
  refine hc.mono ?_
  rintro e w' ⟨v, out, rfl, h1, h2, h3⟩
  go_wp2
  go_ret
  exact ⟨v, out, rfl, h1, h2, h3⟩
/-- A map's pairs, by rising keys. -/
theorem sorted_vals (w : World) (box b : Nat) (l : List Pair) (hr : Rises l) (hbox : w.heap[box]? = some (.cells #[.map (some b)] 130)) (hm : Mp.MapW w b (pv l)) (hl : l.length ≤ 1000000) :
    Calls Tryz.prog 63 #[.func (.func 92) #[] #[.pointer (some ⟨box, 0, none⟩)], .func (.func 65) #[] #[]] w fun e w' => ∃ v, e = .returned v ∧ Rw w.heap.size w' 60 2 pairC v l ∧ Below w.heap.size w w' := by
  have hc := collect_vals w box b l hbox hm hl
  clear hbox hm
  go_enter Tryz.func63, Tryz.ntmps63
  go_wp2_with fail
  refine hc.mono ?_
  rintro e w1 ⟨v, out, rfl, h1, h2, h3⟩
  have hs := sortFunc_any w1 w.heap.size v out h2 (by rw [h1.length_eq]; exact hl)
  obtain ⟨va, vm, vc, rfl⟩ := row_form h2
  have H1 := hide (And.intro h1 (And.intro h2 h3))
  clear hc h1 h2 h3
  go_wp2_with fail
  refine hs.mono ?_
  rintro e w2 ⟨rfl, ss, g1, g2, g3, g4⟩
  have hss : Rises ss := by
    have hnd : (ss.map (·.1)).Nodup := ((g1.trans H1.out.1).map (·.1)).nodup_iff.2 (rises_keys hr)
    rw [List.Nodup, List.pairwise_map] at hnd
    refine (g2.and hnd).imp fun {x y} h => ?_
    cases hx : ltB x.1 y.1 with
    | true => rfl
    | false => exact absurd (ltB_total _ _ hx h.1) h.2
  have he : ss = l := rises_unique hss hr (g1.trans H1.out.1)
  rw [he] at g3
  have HB := hide (And.intro g3 (H1.out.2.2.grown g4 H1.out.2.2.size (fun i hi => (World.ownsRow.lt H1.out.2.1 i hi).1)))
  clear hs g1 g2 g3 g4
  go_wp2
  go_ret
  exact ⟨_, rfl, HB.out.1, HB.out.2⟩
/-- Keys of pairs are texts. -/
theorem pv_keys (l : List Pair) : ∀ p ∈ pv l, Mp.KStr p.1 := by
  intro p hp
  obtain ⟨x, -, rfl⟩ := List.mem_map.1 hp
  exact ⟨_, rfl⟩
theorem pv_ne {l : List Pair} {k : Bs} (h : ∀ x ∈ l, x.1 ≠ k) : ∀ p ∈ pv l, p.1 ≠ .string (strB k) := by
  intro p hp e
  obtain ⟨x, hx, rfl⟩ := List.mem_map.1 hp
  injection e with e
  exact h x hx (strB_inj e)
theorem pv_kind (w : World) : Mp.KeyKind Tryz.prog 9 w Mp.KStr := Mp.kind_str Tryz.underlying9
/-- A pair is laid under a key that has none. -/
theorem lay_new {w : World} {b : Nat} {l : List Pair} (h : Mp.MapW w b (pv l)) (x : Pair) (hn : ∀ y ∈ l, y.1 ≠ x.1) :
    ∃ w', (Instr.mapUpdate 130 (.map (some b)) (.string (strB x.1)) (.agg #[.string (strB x.1), .string (strB x.2)])).run Tryz.prog w = .ok () w' ∧ Mp.MapW w' b (pv (x :: l)) ∧ Mp.Chg (· = b) w w' ∧ w'.heap.size = w.heap.size :=
  h.put_new (pv_kind w) (pv_keys l) Tryz.underlying130 ⟨_, rfl⟩ (pv_ne hn) _
theorem lt_ne {a b : Bs} (h : ltB a b = true) : a ≠ b := fun e => by rw [e, ltB_irrefl] at h; cases h
theorem perm_mid (a b : List Pair) (x : Pair) : (a ++ x :: b).Perm (x :: (a ++ b)) := List.perm_middle
/-- A put is done to a map: laid. -/
theorem lay_put {w : World} {b : Nat} {l : List Pair} (h : Mp.MapW w b (pv l)) (hr : Rises l) (p : PutM) (hg : p.2.2 = false) :
    ∃ w', (Instr.mapUpdate 130 (.map (some b)) (.string (strB p.1)) (.agg #[.string (strB p.1), .string (strB p.2.1)])).run Tryz.prog w = .ok () w' ∧ Mp.MapW w' b (pv (doneM l p)) ∧ Mp.Chg (· = b) w w' ∧ w'.heap.size = w.heap.size := by
  obtain ⟨a, c, ha, hc, hl, e⟩ := done_split hr p
  rw [hg] at e
  have he : (pv ((p.1, p.2.1) :: (a ++ c))).Perm (pv (doneM l p)) := by rw [e]; exact ((perm_mid a c (p.1, p.2.1)).symm).map _
  have hne : ∀ y ∈ a ++ c, y.1 ≠ p.1 := fun y hy => by
    rcases List.mem_append.1 hy with hy | hy
    · exact lt_ne (ha y hy)
    · exact (lt_ne (hc y hy)).symm
  rcases hl with rfl | ⟨v, rfl⟩
  · obtain ⟨w', h1, h2, h3, h4⟩ := lay_new h (p.1, p.2.1) hne
    exact ⟨w', h1, h2.perm he, h3, h4⟩
  · have h' := h.perm (((perm_mid a c (p.1, v)).map fun x : Pair => ((Value.string (strB x.1) : Value), Value.agg #[.string (strB x.1), .string (strB x.2)])))
    obtain ⟨w', h1, h2, h3, h4⟩ := Mp.MapW.put_old (x := .string (strB p.1)) (l := pv (a ++ c)) h' (pv_kind w) (pv_keys _) Tryz.underlying130 ⟨_, rfl⟩ (.agg #[.string (strB p.1), .string (strB p.2.1)])
    exact ⟨w', h1, Mp.MapW.perm h2 he, h3, h4⟩
/-- .. taken away. -/
theorem take_put {w : World} {b : Nat} {l : List Pair} (h : Mp.MapW w b (pv l)) (hr : Rises l) (p : PutM) (hg : p.2.2 = true) (ty : TypeId) :
    ∃ w', (Builtin.delete_ #[130, 9] ty #[.map (some b), .string (strB p.1)]).run Tryz.prog w = .ok (.tuple #[]) w' ∧ Mp.MapW w' b (pv (doneM l p)) ∧ Mp.Chg (· = b) w w' ∧ w'.heap.size = w.heap.size := by
  obtain ⟨a, c, ha, hc, hl, e⟩ := done_split hr p
  rw [hg] at e
  have e' : doneM l p = a ++ c := by rw [e]; simp
  have hne : ∀ y ∈ a ++ c, y.1 ≠ p.1 := fun y hy => by
    rcases List.mem_append.1 hy with hy | hy
    · exact lt_ne (ha y hy)
    · exact (lt_ne (hc y hy)).symm
  rw [e']
  rcases hl with rfl | ⟨v, rfl⟩
  · exact h.drop_none (pv_kind w) (pv_keys _) Tryz.underlying130 ⟨_, rfl⟩ (pv_ne hne) ty 9
  · have h' := h.perm (((perm_mid a c (p.1, v)).map fun x : Pair => ((Value.string (strB x.1) : Value), Value.agg #[.string (strB x.1), .string (strB x.2)])))
    exact Mp.MapW.drop_old (x := .string (strB p.1)) (l := pv (a ++ c)) h' (pv_kind w) (pv_keys _) Tryz.underlying130 ⟨_, rfl⟩ ty 9
end Go.Proofs.YtimbleaafoiidaaGreatDoor

/-
  edited: the pairs behind all puts. Conditions: the pairs rise; not too many.
-/
namespace Go.Proofs.YtimbleaafoiidaaGreatDoor
open Go.RowKit

abbrev putO (p : PutM) : Obj := .cells #[.string (strB p.1), .string (strB p.2.1), .bool p.2.2] 108
set_option maxRecDepth 100000 in
set_option maxHeartbeats 1000000 in
theorem edited_any (w : World) (vp vq : Value) (pairs : List Pair) (puts : List PutM) (hp : Ls w.heap.size w 2 pairC vp pairs) (hq : Ls w.heap.size w 3 putC vq puts) (hr : Rises pairs) (hn : pairs.length ≤ 10000) (hm : puts.length ≤ 1000) :
    Calls Tryz.prog 46 #[vp, vq] w fun e w' => ∃ v, e = .returned v ∧ Rw w.heap.size w' 60 2 pairC v (doneA pairs puts) ∧ Below w.heap.size w w' := by
  obtain ⟨ap, cp, rfl, p1, p2, p4⟩ := hp
  obtain ⟨aq, cq, rfl, q1, q2, q4⟩ := hq
  unfold maxLen at p2 q2
  have hb1 : Below w.heap.size w (w.alloc (.map #[] 0)) := (Below.refl _ _).alloc (Nat.le_refl _) _
  have hm1 := Mp.MapW.made w
  have hs1 : (w.alloc (.map #[] 0)).heap.size = w.heap.size + 1 := by simp
  have H1 := hide (And.intro hb1 (And.intro hm1 hs1))
  have hmk : (Instr.makeMap 130 none).run Tryz.prog w = .ok (.map (some w.heap.size)) (w.alloc (.map #[] 0)) := by kernel_rfl
  clear hb1 hm1 hs1
  go_enter Tryz.func46, Tryz.ntmps46
  go_wp2_with fail
  go_loopw [13] (fun t wr => ∃ k : Nat, k ≤ pairs.length ∧ t = .int .i64 k ∧ Mp.MapW wr w.heap.size (pv (pairs.take k)) ∧ Below w.heap.size w wr ∧ w.heap.size < wr.heap.size)
    (fun t _ => pairs.length - (intOf t).toNat)
  case atStart => exact ⟨0, by omega, rfl, H1.out.2.1, H1.out.1, by have := H1.out.2.2; omega⟩
  case round =>
    obtain ⟨k, hk, rfl, hmw, hbr, hsz⟩ := hrel
    by_cases hlt : k < pairs.length
    · obtain ⟨b, off, rfl, hbl, hc⟩ := p4 (by intro e; rw [e] at hlt; simp at hlt)
      have c0 := (hbr.cell (p := ⟨b, off + k * 2 + 0, none⟩) hbl).trans (hc k hlt 0 _ rfl)
      have c1 := (hbr.cell (p := ⟨b, off + k * 2 + 1, none⟩) hbl).trans (hc k hlt 1 _ rfl)
      have htk : pairs.take (k + 1) = pairs.take k ++ [pairs[k]] := by rw [List.take_add_one]; simp [hlt]
      have hne : ∀ y ∈ pairs.take k, y.1 ≠ pairs[k].1 := fun y hy => by
        have h1 := hr.sublist (List.take_sublist (k + 1) pairs)
        rw [htk] at h1
        exact lt_ne ((List.pairwise_append.1 h1).2.2 y hy _ (by simp))
      generalize pairs[k] = x at *
      try simp only [Nat.add_zero] at c0 c1
      have hmA := hmw.same (heap_past wr (pairO x) _ hmw.lt)
      obtain ⟨w2, hrun, hm2, hch, hs2⟩ := lay_new hmA x hne
      have hbA : Below w.heap.size w (wr.alloc (pairO x)) := hbr.trans (((Below.refl _ _).alloc (Nat.le_refl _) _).mono hbr.size)
      have hb2 : Below w.heap.size w w2 := hbA.trans (hch.below (fun i e => by omega) (by simp; omega))
      have hm3 : Mp.MapW w2 w.heap.size (pv (pairs.take (k + 1))) := by
        rw [htk]
        exact hm2.perm ((List.perm_append_singleton x _).symm.map _)
      have hsA : (wr.alloc (pairO x)).heap.size = wr.heap.size + 1 := by simp
      have H2 := hide (And.intro hm3 (And.intro hb2 (show w.heap.size < w2.heap.size by omega)))
      clear hmw hbr hmA hm2 hch hbA hb2 hm3 hne htk hc p4 hsA hs2
      go_wp2_with fail
      go_roundw
      case rel => exact ⟨k + 1, by omega, by go_num, H2.out.1, H2.out.2.1, H2.out.2.2⟩
      case measure => simp [intOf]; omega
    · have hkl : k = pairs.length := by omega
      subst hkl
      rw [List.take_length] at hmw
      have HM := hide (And.intro hmw (And.intro hbr hsz))
      clear hmw hbr
      go_wp2_with fail
      go_loopw [24] (fun t wr => ∃ k : Nat, k ≤ puts.length ∧ t = .int .i64 k ∧ Mp.MapW wr w.heap.size (pv (doneA pairs (puts.take k))) ∧ Below w.heap.size w wr ∧ w.heap.size < wr.heap.size)
        (fun t _ => puts.length - (intOf t).toNat)
      case atStart => exact ⟨0, by omega, rfl, HM.out.1, HM.out.2.1, HM.out.2.2⟩
      case round =>
        obtain ⟨k, hk, rfl, hmw, hbr, hsz2⟩ := hrel
        by_cases hlt : k < puts.length
        · obtain ⟨b, off, rfl, hbl, hc⟩ := q4 (by intro e; rw [e] at hlt; simp at hlt)
          have c0 := (hbr.cell (p := ⟨b, off + k * 3 + 0, none⟩) hbl).trans (hc k hlt 0 _ rfl)
          have c1 := (hbr.cell (p := ⟨b, off + k * 3 + 1, none⟩) hbl).trans (hc k hlt 1 _ rfl)
          have c2 := (hbr.cell (p := ⟨b, off + k * 3 + 2, none⟩) hbl).trans (hc k hlt 2 _ rfl)
          have htk : doneA pairs (puts.take (k + 1)) = doneM (doneA pairs (puts.take k)) puts[k] := by
            rw [show puts.take (k + 1) = puts.take k ++ [puts[k]] by rw [List.take_add_one]; simp [hlt]]
            unfold doneA
            rw [List.foldl_append]
            rfl
          have hrk := doneA_rises hr (puts.take k)
          generalize puts[k] = x at *
          try simp only [Nat.add_zero] at c0 c1 c2
          generalize doneA pairs (puts.take k) = l at *
          have hmA := hmw.same (heap_past wr (putO x) _ hmw.lt)
          have hbA : Below w.heap.size w (wr.alloc (putO x)) := hbr.trans (((Below.refl _ _).alloc (Nat.le_refl _) _).mono hbr.size)
          have hsA : (wr.alloc (putO x)).heap.size = wr.heap.size + 1 := by simp
          cases hgo : x.2.2 with
          | true =>
            rw [hgo] at c2
            obtain ⟨w2, hrun, hm2, hch, hs2⟩ := take_put hmA hrk x hgo 0
            have hb2 : Below w.heap.size w w2 := hbA.trans (hch.below (fun i e => by omega) (by simp; omega))
            rw [← htk] at hm2
            have H2 := hide (And.intro hm2 (And.intro hb2 (show w.heap.size < w2.heap.size by omega)))
            simp only [putO, hgo] at hrun
            clear hmw hbr hmA hm2 hch hbA hb2 htk hc q4 hsA hs2 hrk hgo
            go_wp2_with fail
            go_roundw
            case rel => exact ⟨k + 1, by omega, by go_num, H2.out.1, H2.out.2.1, H2.out.2.2⟩
            case measure => simp [intOf]; omega
          | false =>
            rw [hgo] at c2
            obtain ⟨w2, hrun, hm2, hch, hs2⟩ := lay_put hmA hrk x hgo
            have hb2 : Below w.heap.size w w2 := hbA.trans (hch.below (fun i e => by omega) (by simp; omega))
            rw [← htk] at hm2
            have H2 := hide (And.intro hm2 (And.intro hb2 (show w.heap.size < w2.heap.size by omega)))
            simp only [putO, hgo] at hrun
            clear hmw hbr hmA hm2 hch hbA hb2 htk hc q4 hsA hs2 hrk hgo
            go_wp2_with fail
            go_roundw
            case rel => exact ⟨k + 1, by omega, by go_num, H2.out.1, H2.out.2.1, H2.out.2.2⟩
            case measure => simp [intOf]; omega
        · have hkl : k = puts.length := by omega
          subst hkl
          rw [List.take_length] at hmw
          have hra := doneA_rises hr puts
          have hle := doneA_length puts pairs
          have hbx : Below wr.heap.size wr (wr.alloc (.cells #[.map (some w.heap.size)] 130)) := (Below.refl _ _).alloc (Nat.le_refl _) _
          have hbox := heap_last wr (.cells #[.map (some w.heap.size)] 130) _ rfl
          have hsv := sorted_vals _ _ _ _ hra hbox (hmw.same (hbx.block _ hmw.lt)) (by omega)
          have HB := hide (And.intro hbr hbx)
          have hvf := valuesF_any wr w.heap.size
          clear hmw hbr hbx hbox hra hle
          go_wp2_with fail
          refine hvf.mono ?_
          rintro e w3 ⟨rfl, rfl⟩
          clear hvf
          go_wp2_with fail
          refine hsv.mono ?_
          rintro e w4 ⟨v, rfl, h1, h2⟩
          have hb4 := HB.out.2.trans (h2.mono HB.out.2.size)
          have H4 := hide (And.intro (own_low h1 (Nat.le_trans HB.out.1.size HB.out.2.size)) (HB.out.1.trans (hb4.mono HB.out.1.size)))
          clear hsv h1 h2 hb4
          go_wp2
          go_ret
          exact ⟨v, rfl, H4.out.1, H4.out.2⟩
end Go.Proofs.YtimbleaafoiidaaGreatDoor

/-
  Edit, by the program: are puts right; the pairs behind them, built. Conditions: the get keeps its word; not too many puts.
-/
namespace Go.Proofs.YtimbleaafoiidaaGreatDoor
open Go.RowKit

/-- Is a put right? -/
def putOkM (p : PutM) : Bool := isKeyB p.1 && !decide (128 < p.2.1.length) && !(p.2.2 && !p.2.1.isEmpty)
theorem neq_empty (t : TypeId) (a : Bs) : binOp .neq t (.string (strB a)) (.string ⟨#[]⟩) = pure (.bool (!a.isEmpty)) := by
  cases a <;> simp [binOp, Op.stringOp, strB]
theorem puts_no {l : List PutM} {k : Nat} (h : k < l.length) (hx : putOkM l[k] = false) : l.all putOkM = false := by
  rw [Bool.eq_false_iff]
  intro hc
  have := List.all_eq_true.1 hc l[k] (List.getElem_mem h)
  rw [hx] at this
  cases this
theorem puts_step {l : List PutM} {k : Nat} (h : k < l.length) (ha : (l.take k).all putOkM = true) (hx : putOkM l[k] = true) : (l.take (k + 1)).all putOkM = true := by
  rw [show l.take (k + 1) = l.take k ++ [l[k]] by rw [List.take_add_one]; simp [h], List.all_append, ha]
  simpa using hx
set_option maxRecDepth 40000 in
set_option maxHeartbeats 1600000 in
theorem putsAreRight_any (w : World) (l : List PutM) (v : Value) (hv : Ls w.heap.size w 3 putC v l) :
    Calls Tryz.prog 45 #[v] w fun e w' => e = .returned (.bool (l.all putOkM)) ∧ Below w.heap.size w w' := by
  obtain ⟨ao, cap, rfl, h1, h2, h4⟩ := hv
  unfold maxLen at h2
  go_enter Tryz.func45, Tryz.ntmps45
  go_wp2_with fail
  go_loopw [7] (fun t wr => ∃ k : Nat, k ≤ l.length ∧ t = .int .i64 k ∧ (l.take k).all putOkM = true ∧ Below w.heap.size w wr)
    (fun t _ => l.length - (intOf t).toNat)
  case atStart => exact ⟨0, by omega, rfl, rfl, Below.refl _ _⟩
  case round =>
    obtain ⟨k, hk, rfl, hok, hbr⟩ := hrel
    by_cases hlt : k < l.length
    · obtain ⟨b, off, rfl, hbl, hc⟩ := h4 (by intro e; rw [e] at hlt; simp at hlt)
      have c0 := (hbr.cell (p := ⟨b, off + k * 3 + 0, none⟩) hbl).trans (hc k hlt 0 _ rfl)
      have c1 := (hbr.cell (p := ⟨b, off + k * 3 + 1, none⟩) hbl).trans (hc k hlt 1 _ rfl)
      have c2 := (hbr.cell (p := ⟨b, off + k * 3 + 2, none⟩) hbl).trans (hc k hlt 2 _ rfl)
      have hno := fun h => puts_no (l := l) hlt h
      have hst := fun h => puts_step (l := l) hlt hok h
      have hb1 := hbr.alloc hbr.size (putO l[k])
      generalize l[k] = x at *
      have hx1 := strB_size x.1
      have hx2 := strB_size x.2.1
      have hne := neq_empty 9 x.2.1
      have hput : putOkM x = (isKeyB x.1 && !decide (128 < x.2.1.length) && !(x.2.2 && !x.2.1.isEmpty)) := rfl
      have HH := hide (And.intro hno (And.intro hst (And.intro hb1 hput)))
      try simp only [Nat.add_zero] at c0 c1 c2
      have HB1 := hide HH.out.2.2.1
      clear hno hst hb1 hput hc hbr hok
      cases hkey : isKeyB x.1 with
      | false =>
        have HN : Hid (l.all putOkM = false) := hide (HH.out.1 (by rw [HH.out.2.2.2, hkey]; rfl))
        go_wp2_with fail
        refine (pisKey_any _ x.1).mono ?_
        rintro e w1 ⟨rfl, rfl⟩
        rw [hkey]
        go_wp2
        go_ret
        exact ⟨ret_bool HN.out.symm, HB1.out⟩
      | true =>
        by_cases hvl : 128 < x.2.1.length
        · have qc : decide ((128 : Int) < (x.2.1.length : Int)) = true := decide_eq_true (by omega)
          have qc2 : decide (128 < x.2.1.length) = true := decide_eq_true (by omega)
          have HN : Hid (l.all putOkM = false) := hide (HH.out.1 (by rw [HH.out.2.2.2, hkey, decide_eq_true hvl]; rfl))
          go_wp2_with fail
          refine (pisKey_any _ x.1).mono ?_
          rintro e w1 ⟨rfl, rfl⟩
          rw [hkey]
          go_wp2
          go_ret
          exact ⟨ret_bool HN.out.symm, HB1.out⟩
        have qc : decide ((128 : Int) < (x.2.1.length : Int)) = false := decide_eq_false (by omega)
        have qc2 : decide (128 < x.2.1.length) = false := decide_eq_false (by omega)
        cases hgo : x.2.2 with
        | false =>
          rw [hgo] at c2
          have hb1 := HH.out.2.2.1
          simp only [putO, hgo] at hb1
          have HB1 := hide hb1
          clear hb1
          have HN : Hid ((l.take (k + 1)).all putOkM = true) := hide (HH.out.2.1 (by rw [HH.out.2.2.2, hkey, hgo, decide_eq_false hvl]; rfl))
          go_wp2_with fail
          refine (pisKey_any _ x.1).mono ?_
          rintro e w1 ⟨rfl, rfl⟩
          rw [hkey]
          go_wp2
          go_roundw
          case rel => exact ⟨k + 1, by omega, by go_num, HN.out, HB1.out⟩
          case measure => simp [intOf]; omega
        | true =>
          rw [hgo] at c2
          have hb1 := HH.out.2.2.1
          simp only [putO, hgo] at hb1
          have HB1 := hide hb1
          clear hb1
          cases hem : x.2.1.isEmpty with
          | false =>
            rw [hem] at hne
            have HN : Hid (l.all putOkM = false) := hide (HH.out.1 (by rw [HH.out.2.2.2, hkey, hgo, hem, decide_eq_false hvl]; rfl))
            go_wp2_with fail
            refine (pisKey_any _ x.1).mono ?_
            rintro e w1 ⟨rfl, rfl⟩
            rw [hkey]
            go_wp2
            go_ret
            exact ⟨ret_bool HN.out.symm, HB1.out⟩
          | true =>
            rw [hem] at hne
            have HN : Hid ((l.take (k + 1)).all putOkM = true) := hide (HH.out.2.1 (by rw [HH.out.2.2.2, hkey, hgo, hem, decide_eq_false hvl]; rfl))
            go_wp2_with fail
            refine (pisKey_any _ x.1).mono ?_
            rintro e w1 ⟨rfl, rfl⟩
            rw [hkey]
            go_wp2
            go_roundw
            case rel => exact ⟨k + 1, by omega, by go_num, HN.out, HB1.out⟩
            case measure => simp [intOf]; omega
    · have hkl : k = l.length := by omega
      subst hkl
      rw [List.take_length] at hok
      have HB := hide (And.intro hok hbr)
      clear hok hbr
      go_wp2
      go_ret
      exact ⟨ret_bool HB.out.1.symm, HB.out.2⟩
/-- What Edit answers: of pairs listed so. -/
def editM (L : LsS) (puts : List PutM) : Bs × List Pair × Int :=
  if puts.all putOkM = false then ([], [], 120) else if L.bad ≠ 0 then ([], [], L.bad) else buildM (doneA L.out puts)
set_option maxRecDepth 40000 in
set_option maxHeartbeats 1600000 in
theorem edit_prog (w : World) (g : Nat) (caps : Array Value) (fd : Bs → Option Bs) (B : Nat) (I : World → List Bs → Prop) (hG : GetOk g caps fd B kts1 I) (root : Bs) (hI : I w []) (l : List PutM) (v : Value) (hv : Ls B w 3 putC v l) (hn : l.length ≤ 1000) (hTB : ∀ W, Below B w W → TabW W) :
    Calls Tryz.prog 23 #[.func (.func g) #[] caps, .string (strB root), v] w fun e w' => ∃ u, e = .returned (.tuple #[.string (strB (editM (listM fd root [] []) l).1), u, .int .i64 (editM (listM fd root [] []) l).2.2]) ∧ Rw B w' 69 2 pairC u (editM (listM fd root [] []) l).2.1 ∧ Below B w w' := by
  have hB := hG.le _ _ hI
  have hpr := putsAreRight_any w l v (hv.up hB)
  have HV := hide hv
  have hfew := listM_few fd hG.short root [] []
  obtain ⟨L, hL⟩ : ∃ L, listM fd root [] [] = L := ⟨_, rfl⟩
  have hris : Rises L.out := by rw [← hL]; exact goM_rises fd [] [] 21 _ _ _ List.Pairwise.nil
  rw [hL] at hfew ⊢
  obtain ⟨R, hR⟩ : ∃ R, editM L l = R := ⟨_, rfl⟩
  rw [hR]
  have HR := hide hR
  have HF := hide (And.intro hfew.2 hris)
  have HLQ := hide hL
  have HGI := hide (And.intro hG (And.intro hI hTB))
  obtain ⟨ao, cap, rfl, -⟩ := hv
  clear hR hL hG hI hfew hris hTB
  go_enter Tryz.func23, Tryz.ntmps23
  go_wp2_with fail
  refine hpr.mono ?_
  rintro e w1 ⟨rfl, hb1⟩
  have hB1 := hb1.mono hB
  clear hpr
  cases hok : l.all putOkM with
  | false =>
    have HRN : Hid (R = ([], [], 120)) := hide (by rw [← HR.out]; unfold editM; rw [hok]; rfl)
    have HB1 := hide hB1
    clear hok hb1 hB1
    go_wp2
    go_ret3
    rw [HRN.out]
    exact ⟨_, rfl, World.ownsRow_nil _ _ _ _, HB1.out⟩
  | true =>
    have hI1 := HGI.out.1.below HGI.out.2.1 hb1
    have hlp := list_prog w1 g caps fd B I HGI.out.1 root [] [] [] hI1 (by simp)
    rw [show goM fd [] [] 21 (rootK root) (-1) ⟨[], [], 0⟩ = L from HLQ.out] at hlp
    rw [show strB ([] : Bs) = ⟨#[]⟩ from rfl] at hlp
    have HB1 := hide hB1
    have HOK := hide hok
    clear hok hb1 hI1 hB1
    go_wp2_with fail
    refine hlp.mono ?_
    rintro e w2 ⟨vp, rfl, hrow, hI2, hM2⟩
    have hB2 := HB1.out.trans hM2.b
    clear hlp
    by_cases hbad : L.bad = 0
    · have q1 : (L.bad != 0) = false := by simpa using hbad
      have hout : outOf L = L.out := by unfold outOf; rw [if_pos hbad]
      rw [hout] at hrow
      have HRN : Hid (R = buildM (doneA L.out l)) := hide (by rw [← HR.out]; unfold editM; rw [HOK.out, if_neg (by simp), if_neg (by simpa using hbad)])
      have hed := edited_any w2 vp _ L.out l (ls_of_own pairC_length hrow) ((HV.out.keep hB2).up (by have := hB2.size; omega)) HF.out.2 (by have := HF.out.1; omega) hn
      obtain ⟨va, vm, vc, rfl⟩ := row_form hrow
      have HB2 := hide hB2
      clear hbad hout hrow hI2 hM2 hB2
      go_wp2_with fail
      refine hed.mono ?_
      rintro e w3 ⟨v3, rfl, hrow3, hb3⟩
      have hB3 := HB2.out.trans (hb3.mono (by have := HB2.out.size; omega))
      have hbd := build_any w3 _ v3 (ls_of_own pairC_length hrow3) (HGI.out.2.2 w3 hB3)
      rw [← HRN.out] at hbd
      obtain ⟨va3, vm3, vc3, rfl⟩ := row_form hrow3
      have HB3 := hide hB3
      clear hed hrow3 hb3 hB3
      go_wp2_with fail
      refine hbd.mono ?_
      rintro e w4 ⟨u, rfl, hrow4, hb4⟩
      have hs3 : B ≤ w3.heap.size := by have := HB3.out.size; omega
      have H4 := hide (And.intro (own_low hrow4 hs3) (HB3.out.trans (hb4.mono hs3)))
      obtain ⟨ua, um, uc, rfl⟩ := row_form hrow4
      clear hbd hrow4 hb4 hs3
      go_wp2
      go_ret3
      exact ⟨_, rfl, H4.out.1, H4.out.2⟩
    · have q1 : (L.bad != 0) = true := by simpa using hbad
      have HRN : Hid (R = ([], [], L.bad)) := hide (by rw [← HR.out]; unfold editM; rw [HOK.out, if_neg (by simp), if_pos hbad])
      obtain ⟨va, vm, vc, rfl⟩ := row_form hrow
      have HB2 := hide hB2
      clear hbad hrow hI2 hM2 hB2
      go_wp2
      go_ret3
      rw [HRN.out]
      exact ⟨_, rfl, World.ownsRow_nil _ _ _ _, HB2.out⟩
end Go.Proofs.YtimbleaafoiidaaGreatDoor

/-
  Pairs with a put, by the reference: its walk. Conditions: the pairs lie there, not too many.
-/
namespace Go.Proofs.YtimbleaafoiidaaGreatDoor
open Go.RowKit

theorem Ls.takeL {α : Type} {B : Nat} {w : World} {k : Nat} {cs : α → List Value} {ao : Option Addr} {n cap : Nat} {xs : List α} (h : Ls B w k cs (.slice ao n cap) xs) {z : Nat} (hz : z ≤ xs.length) : Ls B w k cs (.slice ao z cap) (xs.take z) := by
  obtain ⟨ao', cap', e, h1, h2, h4⟩ := h
  injection e with e1 e2 e3
  subst e1 e3
  have hl : (xs.take z).length = z := by rw [List.length_take]; omega
  refine ⟨ao, cap, by rw [hl], by rw [hl]; omega, h2, fun hne => ?_⟩
  obtain ⟨b, off, rfl, hb, hc⟩ := h4 (by rintro rfl; simp at hne)
  refine ⟨b, off, rfl, hb, fun j hj i u hu => ?_⟩
  rw [hl] at hj
  exact hc j (by omega) i u (by simpa using hu)
theorem Ls.dropL {α : Type} {B : Nat} {w : World} {k : Nat} {cs : α → List Value} {ao : Option Addr} {n cap : Nat} {xs : List α} (h : Ls B w k cs (.slice ao n cap) xs) {z : Nat} (hz : z ≤ xs.length) (ao' : Option Addr) (ha : z < xs.length → ∀ b off, ao = some ⟨b, off, none⟩ → ao' = some ⟨b, off + z * k, none⟩) : Ls B w k cs (.slice ao' (n - z) (cap - z)) (xs.drop z) := by
  obtain ⟨ao0, cap', e, h1, h2, h4⟩ := h
  injection e with e1 e2 e3
  subst e1 e2 e3
  have hl : (xs.drop z).length = xs.length - z := List.length_drop
  refine ⟨ao', cap - z, by rw [hl], by rw [hl]; omega, by omega, fun hne => ?_⟩
  have hlt : z < xs.length := by
    rcases Nat.lt_or_ge z xs.length with q | q
    · exact q
    · rw [List.drop_eq_nil_of_le q] at hne; exact absurd rfl hne
  obtain ⟨b, off, rfl, hb, hc⟩ := h4 (by rintro rfl; simp at hlt)
  refine ⟨b, off + z * k, ha hlt b off rfl, hb, fun j hj i u hu => ?_⟩
  rw [hl] at hj
  have := hc (z + j) (by omega) i u (by simpa using hu)
  rwa [Nat.add_mul, ← Nat.add_assoc] at this
theorem row_some {w : World} {B n : Nat} {v : Value} {xs : List Value} (h : w.ownsRow B 60 2 v n xs) (hn : 1 ≤ n) : ∃ a m c, v = .slice (some a) m c := by
  rcases h.2 with ⟨-, h0⟩ | ⟨g, cap, cur, e, -⟩
  · omega
  · exact ⟨_, _, _, e⟩
theorem eql_strP (t : TypeId) (a b : Bs) : binOp .eql t (.string (strB a)) (.string (strB b)) = pure (.bool (a == b)) := by simp [binOp, Op.stringOp, toL]
set_option maxRecDepth 40000 in
set_option maxHeartbeats 3200000 in
theorem done12_any (w : World) (l : List Pair) (v : Value) (hv : Ls w.heap.size w 2 pairC v l) (p : PutM) (hn : l.length ≤ 1000000) :
    Calls Tryz.prog 47 #[v, .agg #[.string (strB p.1), .string (strB p.2.1), .bool p.2.2]] w fun e w' => ∃ u, e = .returned u ∧ Rw w.heap.size w' 60 2 pairC u (doneM l p) ∧ Below w.heap.size w w' := by
  obtain ⟨i0, hi0, hz0, hz1, hz2⟩ := info_parts Tryz.zPair
  have hb0 : Below w.heap.size w (w.alloc (.cells #[.string (strB p.1), .string (strB p.2.1), .bool p.2.2] 108)) := (Below.refl _ _).alloc (Nat.le_refl _) _
  have hx0 := heap_last w (.cells #[.string (strB p.1), .string (strB p.2.1), .bool p.2.2] 108) _ rfl
  have hn0 : (w.alloc (.cells #[.string (strB p.1), .string (strB p.2.1), .bool p.2.2] 108)).heap.size = w.heap.size + 1 := by simp
  generalize hw0 : w.alloc (.cells #[.string (strB p.1), .string (strB p.2.1), .bool p.2.2] 108) = w0 at *
  have hv0 := (hv.keep hb0).up hb0.size
  obtain ⟨ao, cap, hvv, hcap, hcap2, h4⟩ := id hv0
  subst hvv
  obtain ⟨m, hm⟩ : ∃ m, m = l.length := ⟨_, rfl⟩
  rw [← hm] at hcap hn
  unfold maxLen at hcap2
  have HV := hide hv0
  rw [← hm]
  have HM := hide hm
  have c0 := cell_of_row w0 w.heap.size 0 _ _ _ hx0
  simp only [List.getElem?_toArray, List.getElem?_cons_zero] at c0
  have hkt := toL p.1
  have H0 := hide (And.intro hb0 (And.intro hx0 hn0))
  obtain ⟨P, hP⟩ : ∃ P, P = posM l p.1 := ⟨_, rfl⟩
  have HP := hide hP
  obtain ⟨R, hR⟩ : ∃ R, R = doneM l p := ⟨_, rfl⟩
  rw [← hR]
  have HR := hide hR
  clear hv hv0 hb0 hm hn0 hP hR
  go_enter Tryz.func47, Tryz.ntmps47
  go_upto_block 0 with fail
  try rw [hw0]
  go_cut [5] from 7 to 22 (fun t wx => t = .int .i64 (P : Int) ∧ P ≤ m ∧ Below w0.heap.size w0 wx)
  case first =>
    go_wp2_with fail
    go_loopw [5] (fun t wr => ∃ i : Nat, i ≤ m ∧ t = .int .i64 i ∧ (∀ x ∈ l.take i, ltB x.1 p.1 = true) ∧ Below w0.heap.size w0 wr) (fun t _ => m - (intOf t).toNat)
    case atStart => exact ⟨0, by omega, rfl, by simp, Below.refl _ _⟩
    case round =>
      obtain ⟨i, him, rfl, hall, hbr⟩ := hrel
      have d0 := (hbr.cell (p := ⟨w.heap.size, 0, none⟩) (lt_of_heap hx0)).trans c0
      by_cases hlt : i < m
      · have hlt2 : i < l.length := by have := HM.out; omega
        obtain ⟨b, off, rfl, hbB, hcel⟩ := h4 (by rintro rfl; simp at hlt2)
        have y0 := (hbr.cell (p := ⟨b, off + i * 2 + 0, none⟩) hbB).trans (hcel i hlt2 0 _ rfl)
        simp only [Nat.add_zero] at y0
        have hst : ltB l[i].1 p.1 = true → ∀ x ∈ l.take (i + 1), ltB x.1 p.1 = true := fun h x hx => by
          rw [List.take_succ_eq_append_getElem hlt2] at hx
          rcases List.mem_append.1 hx with hx | hx
          · exact hall x hx
          · rw [List.mem_singleton.1 hx]; exact h
        have hno : ltB l[i].1 p.1 = false → posM l p.1 = i := fun h => posM_at l p.1 i (by omega) hall (fun _ => h)
        generalize l[i] = y at *
        have hls := lss_str 9 y.1 p.1
        have hyt := toL y.1
        have HST := hide hst
        have HNO := hide hno
        have HB := hide hbr.drew
        clear hst hno hcel hall hbr
        by_cases hc : ltB y.1 p.1 = true
        · rw [hc] at hls
          have hs2 := HST.out hc
          have HS2 := hide hs2
          clear hc hs2
          go_wp2_with fail
          refine wp_region_held_drew (S := fun W => W.cell? ⟨b, off + i * 2, none⟩ = some (.string (strB y.1)) ∧ W.cell? ⟨w.heap.size, 0, none⟩ = some (.string (strB p.1))) (by kernel_rfl) (⟨y0, d0⟩) (fun hHeld => ?_)
          refine takeK 0 hHeld ?_
          refine takeK 1 hHeld ?_
          refine takeK 2 hHeld ?_
          refine takeK 3 hHeld ?_
          refine takeK 4 hHeld ?_
          refine takeK 5 hHeld ?_
          refine takeK 6 hHeld ?_
          refine takeK 7 hHeld ?_
          refine takeK 8 hHeld ?_
          refine takeK 9 hHeld ?_
          refine takeK 10 hHeld ?_
          refine takeK 11 hHeld ?_
          refine takeK 12 hHeld ?_
          refine takeK 13 hHeld ?_
          refine wpAnyH_done (by kernel_rfl) ?_ _
          clear hHeld
          go_wp2
          go_roundw
          case rel => exact ⟨i + 1, by omega, by go_num, HS2.out, HB.out⟩
          case measure => simp [intOf]; omega
        · have hc : ltB y.1 p.1 = false := by simpa using hc
          rw [hc] at hls
          have HP2 := hide (HP.out.trans (HNO.out hc))
          clear hc
          go_wp2_with fail
          refine wp_region_held_drew (S := fun W => W.cell? ⟨b, off + i * 2, none⟩ = some (.string (strB y.1)) ∧ W.cell? ⟨w.heap.size, 0, none⟩ = some (.string (strB p.1))) (by kernel_rfl) (⟨y0, d0⟩) (fun hHeld => ?_)
          refine takeK 0 hHeld ?_
          refine takeK 1 hHeld ?_
          refine takeK 2 hHeld ?_
          refine takeK 3 hHeld ?_
          refine takeK 4 hHeld ?_
          refine takeK 5 hHeld ?_
          refine takeK 6 hHeld ?_
          refine takeK 7 hHeld ?_
          refine takeK 8 hHeld ?_
          refine takeK 9 hHeld ?_
          refine takeK 10 hHeld ?_
          refine takeK 11 hHeld ?_
          refine takeK 12 hHeld ?_
          refine takeK 13 hHeld ?_
          refine wpAnyH_done (by kernel_rfl) ?_ _
          clear hHeld
          go_wp2
          go_meet
          exact ⟨by rw [HP2.out], by rw [HP2.out]; omega, HB.out⟩
      · have hpe : posM l p.1 = i := posM_at l p.1 i (by have := HM.out; omega) hall (fun h => by have := HM.out; omega)
        have HP2 := hide (HP.out.trans hpe)
        have HB := hide hbr.drew
        have hlf : decide ((i : Int) < (m : Int)) = false := decide_eq_false (by omega)
        have hlf2 : decide (i < m) = false := decide_eq_false (by omega)
        clear hpe hall hbr
        go_wp2_with fail
        refine wp_region_held_drew (S := fun W => W.cell? ⟨w.heap.size, 0, none⟩ = some (.string (strB p.1))) (by kernel_rfl) (d0) (fun hHeld => ?_)
        refine takeK 0 hHeld ?_
        refine takeK 1 hHeld ?_
        refine takeK 2 hHeld ?_
        refine takeK 3 hHeld ?_
        refine takeK 4 hHeld ?_
        refine skipK 5 hHeld ?_
        refine skipK 6 hHeld ?_
        refine skipK 7 hHeld ?_
        refine skipK 8 hHeld ?_
        refine skipK 9 hHeld ?_
        refine skipK 10 hHeld ?_
        refine skipK 11 hHeld ?_
        refine skipK 12 hHeld ?_
        refine takeK 13 hHeld ?_
        refine wpAnyH_done (by kernel_rfl) ?_ _
        clear hHeld
        go_wp2
        go_meet
        exact ⟨by rw [HP2.out], by rw [HP2.out]; omega, HB.out⟩
  case rest =>
    obtain ⟨rfl, hPm, hbc⟩ := hcut
    have hsw : w.heap.size ≤ wc.heap.size := by have := hbc.size; have := H0.out.2.2; omega
    obtain ⟨w1, hmk, hown1, hgr1⟩ := run_make_own (P := Tryz.prog) wc.drew wc.heap.size 22 60 i0 _ 2 Tryz.underlying22 hi0 hz0 hz1 .i64 .i64 (m + 1) (by rw [hz2]; omega) (by unfold maxLen; omega) (Nat.le_refl _)
    have hb1 : Below wc.heap.size wc w1 := (Below.refl _ wc).drew.grown hgr1 (Nat.le_refl _) (by intro k hk; cases hk)
    have e1 : ((m + 1 : Nat) : Int) = IntKind.i64.wrap ((m : Int) + 1) := by rw [IntKind.wrap_i64]; omega
    rw [e1] at hmk
    have hPc : P ≤ cap := by omega
    have hPl : P ≤ l.length := by have := HM.out; omega
    have hlsW : ∀ W : World, Below wc.heap.size wc W → Ls W.heap.size W 2 pairC (.slice ao m cap) l := fun W hW => by
      have h1 := hbc.trans (hW.mono hbc.size)
      have := (HV.out.keep h1).up h1.size
      rwa [← HM.out] at this
    obtain ⟨a2, n2, c2, w2, run2, row2, hb2⟩ := app_pairsL w1 wc.heap.size _ 0 (m + 1) (.slice ao P cap) [] (l.take P) hown1 ((hlsW w1 hb1).takeL hPl) hb1.size (by simp; have := HM.out; omega)
    rw [List.nil_append] at row2
    have hB2 : Below wc.heap.size wc w2 := hb1.trans hb2
    have hxc := (hbc.block _ (lt_of_heap H0.out.2.1)).trans H0.out.2.1
    have boxc : ∀ W : World, Below wc.heap.size wc W → W.cell? ⟨w.heap.size, 0, none⟩ = some (.string (strB p.1)) ∧ W.cell? ⟨w.heap.size, 1, none⟩ = some (.string (strB p.2.1)) ∧ W.cell? ⟨w.heap.size, 2, none⟩ = some (.bool p.2.2) := fun W hW => by
      have hx := (hW.block _ (lt_of_heap hxc)).trans hxc
      have q0 := cell_of_row W w.heap.size 0 _ _ _ hx
      have q1 := cell_of_row W w.heap.size 1 _ _ _ hx
      have q2 := cell_of_row W w.heap.size 2 _ _ _ hx
      simp only [List.getElem?_toArray, List.getElem?_cons_zero, List.getElem?_cons_succ] at q0 q1 q2
      exact ⟨q0, q1, q2⟩
    obtain ⟨k0, k1, k2⟩ := boxc w2 hB2
    have HBX := hide boxc
    have HLS := hide hlsW
    have R2 := hide run2
    have HC := hide (And.intro hbc hPl)
    have hl2 : (l.take P).length = P := by rw [List.length_take]; omega
    clear e1 hgr1 run2 hxc boxc hlsW hbc hown1 hb1 hb2 c0 h4 hx0
    go_wp2_with fail
    refine wp_region_held_drew (S := fun _ => True) (by kernel_rfl) (trivial) (fun hHeld => ?_)
    refine takeK 0 hHeld ?_
    refine takeK 1 hHeld ?_
    refine takeK 2 hHeld ?_
    refine takeK 4 hHeld ?_
    refine takeK 5 hHeld ?_
    refine takeK 6 hHeld ?_
    refine onlyH (i := 3) rfl (by kernel_rfl) rfl (fun K hK => ?_)
    refine wp_make_run _ _ 22 rfl rfl rfl hmk ?_
    refine hK.out _ _ (trivial) (fun hHeld => ?_)
    clear hK K
    try simp only [Act.put, List.setIfInBounds_toArray, List.set_cons_zero, List.set_cons_succ]
    refine onlyH (i := 7) rfl (by kernel_rfl) rfl (fun K hK => ?_)
    refine wp_append_run (.tmp 26) (.tmp 29) 22 rfl rfl rfl R2.out ?_
    refine hK.out _ _ (trivial) (fun hHeld => ?_)
    clear hK K
    try simp only [Act.put, List.setIfInBounds_toArray, List.set_cons_zero, List.set_cons_succ]
    refine takeK 8 hHeld ?_
    refine wpAnyH_done (by kernel_rfl) ?_ _
    clear hHeld hmk R2
    -- the pair
    obtain ⟨vp3, w3, run3, row3, gr3, -⟩ := app_pair w2 wc.heap.size _ (l.take P) (p.1, p.2.1) row2 hB2.size (by rw [hl2]; omega)
    obtain ⟨a3, n3, c3, rfl⟩ := row_some row3 (by rw [List.length_append]; simp)
    have hrA : Rw wc.heap.size (w2.alloc (.cells #[.string (strB p.1), .string (strB p.2.1)] 60)) 60 2 pairC (.slice (some a2) n2 c2) (l.take P) := World.ownsRow.alloc row2 _
    have hB3 : Below wc.heap.size wc w3 := (hB2.alloc hB2.size _).trans ((Below.refl _ _).grown gr3 (by have := hB2.size; simp; omega) (fun q hq => (World.ownsRow.lt hrA q hq).1))
    have R3 := hide run3
    obtain ⟨X, hX⟩ : ∃ X, X = l.take P ++ (if p.2.2 then [] else [(p.1, p.2.1)]) := ⟨_, rfl⟩
    have hRX : R = X ++ l.drop (P + if thereM l p.1 then 1 else 0) := by rw [HR.out, hX]; unfold doneM; rw [← HP.out]
    have hXl : X.length ≤ m + 1 := by rw [hX, List.length_append, hl2]; split <;> simp <;> omega
    have HX := hide (And.intro hRX hXl)
    have H2 := hide (And.intro row2 hB2)
    have H3 := hide (And.intro row3 hB3)
    clear run3 row3 gr3 hrA hB3 row2 hB2 hRX hXl
    cases hg : p.2.2
    all_goals
      rw [hg] at k2 hX
      simp only [Bool.false_eq_true, if_false, if_true, List.append_nil] at hX
      go_upto_region 7 with (at_builtin; refine wpList_plain rfl (fun K hK => wp_append_run (.tmp 34) (.tmp 40) 22 rfl rfl rfl R3.out (hK _ _ ?_)))
      first
        | (have HH := hide (show Rw wc.heap.size w3 60 2 pairC (.slice (some a3) n3 c3) X ∧ Below wc.heap.size wc w3 from ⟨by rw [hX]; exact H3.out.1, H3.out.2⟩)
           clear R3 H2 H3 k0 k1 k2 hX hl2
           generalize w3 = wX at *; generalize a3 = aX at *; generalize n3 = nX at *; generalize c3 = cX at *)
        | (have HH := hide (show Rw wc.heap.size w2 60 2 pairC (.slice (some a2) n2 c2) X ∧ Below wc.heap.size wc w2 from ⟨by rw [hX]; exact H2.out.1, H2.out.2⟩)
           clear R3 H2 H3 k0 k1 k2 hX hl2
           generalize w2 = wX at *; generalize a2 = aX at *; generalize n2 = nX at *; generalize c2 = cX at *)
      obtain ⟨d0, -, -⟩ := HBX.out wX HH.out.2
      clear HBX
      by_cases hlt : P < m
      · have hlt2 : P < l.length := by have := HM.out; omega
        obtain ⟨ao', cap', e, -, -, h4⟩ := HLS.out wX HH.out.2
        injection e with e1 e2 e3
        subst e1 e3
        obtain ⟨b, off, rfl, hbB, hcel⟩ := h4 (by rintro rfl; simp at hlt2)
        have y0 := hcel P hlt2 0 _ rfl
        simp only [Nat.add_zero] at y0
        have hth : thereM l p.1 = (l[P].1 == p.1) := by unfold thereM; rw [← HP.out]; simp [hlt2]
        generalize l[P] = y at *
        have hls := eql_strP 9 y.1 p.1
        have hyt := toL y.1
        clear h4 hcel e2
        cases hc : y.1 == p.1
        · rw [hc] at hls hth
          have HA := hide (show R = X ++ l.drop P by rw [HX.out.1, hth]; simp)
          clear hc hth
          have LSX := (HLS.out wX.drew HH.out.2.drew).dropL (z := P) (by have := HM.out; omega) (some ⟨b, off + P * 2, none⟩) (fun _ _ _ h => by cases h; rfl)
          obtain ⟨a4, n4, c4, w4, run4, row4, hb4⟩ := app_pairsL wX.drew wc.heap.size aX nX cX _ X (l.drop P) HH.out.1 LSX HH.out.2.size (by have := HX.out.2; have := HM.out; simp only [List.length_drop]; omega)
          have R4 := hide run4
          have H4 := hide (And.intro row4 hb4)
          clear run4 row4 hb4 LSX
          refine wp_region_held_drew (S := fun W => W.cell? ⟨b, off + P * 2, none⟩ = some (.string (strB y.1)) ∧ W.cell? ⟨w.heap.size, 0, none⟩ = some (.string (strB p.1))) (by kernel_rfl) (⟨y0, d0⟩) (fun hHeld => ?_)
          refine takeK 0 hHeld ?_
          refine takeK 1 hHeld ?_
          refine takeK 2 hHeld ?_
          refine takeK 3 hHeld ?_
          refine takeK 4 hHeld ?_
          refine takeK 5 hHeld ?_
          refine takeK 6 hHeld ?_
          refine takeK 7 hHeld ?_
          refine takeK 8 hHeld ?_
          refine takeK 9 hHeld ?_
          refine takeK 10 hHeld ?_
          refine takeK 11 hHeld ?_
          refine takeK 12 hHeld ?_
          refine takeK 13 hHeld ?_
          refine wpAnyH_done (by kernel_rfl) ?_ _
          clear hHeld
          go_upto_region 9 with fail
          go_wp2_with (at_builtin; refine wpList_plain rfl (fun K hK => wp_append_run (.tmp 58) (.tmp 61) 22 rfl rfl rfl R4.out (hK _ _ ?_)))
          go_ret
          exact ⟨_, rfl, by rw [HA.out]; exact own_low H4.out.1 hsw, H0.out.1.trans ((HC.out.1.trans ((HH.out.2.drew.trans H4.out.2).mono HC.out.1.size)).mono H0.out.1.size)⟩
        · rw [hc] at hls hth
          have HA := hide (show R = X ++ l.drop (P + 1) by rw [HX.out.1, hth]; simp)
          clear hc hth
          refine wp_region_held_drew (S := fun W => W.cell? ⟨b, off + P * 2, none⟩ = some (.string (strB y.1)) ∧ W.cell? ⟨w.heap.size, 0, none⟩ = some (.string (strB p.1))) (by kernel_rfl) (⟨y0, d0⟩) (fun hHeld => ?_)
          refine takeK 0 hHeld ?_
          refine takeK 1 hHeld ?_
          refine takeK 2 hHeld ?_
          refine takeK 3 hHeld ?_
          refine takeK 4 hHeld ?_
          refine takeK 5 hHeld ?_
          refine takeK 6 hHeld ?_
          refine takeK 7 hHeld ?_
          refine takeK 8 hHeld ?_
          refine takeK 9 hHeld ?_
          refine takeK 10 hHeld ?_
          refine takeK 11 hHeld ?_
          refine takeK 12 hHeld ?_
          refine takeK 13 hHeld ?_
          refine wpAnyH_done (by kernel_rfl) ?_ _
          by_cases hcA : cap = P + 1
          · subst hcA
            obtain rfl : m = P + 1 := by omega
            have LSX := (HLS.out wX.drew HH.out.2.drew).dropL (z := (P + 1)) (by have := HM.out; omega) (some ⟨b, off, none⟩) (fun h => absurd h (by have := HM.out; omega))
            simp only [Nat.sub_self] at LSX
            obtain ⟨a4, n4, c4, w4, run4, row4, hb4⟩ := app_pairsL wX.drew wc.heap.size aX nX cX _ X (l.drop (P + 1)) HH.out.1 LSX HH.out.2.size (by have := HX.out.2; have := HM.out; simp only [List.length_drop]; omega)
            have R4 := hide run4
            have H4 := hide (And.intro row4 hb4)
            clear run4 row4 hb4 LSX
            clear hHeld
            go_upto_region 9 with fail
            go_wp2_with (at_builtin; refine wpList_plain rfl (fun K hK => wp_append_run (.tmp 58) (.tmp 61) 22 rfl rfl rfl R4.out (hK _ _ ?_)))
            go_ret
            exact ⟨_, rfl, by rw [HA.out]; exact own_low H4.out.1 hsw, H0.out.1.trans ((HC.out.1.trans ((HH.out.2.drew.trans H4.out.2).mono HC.out.1.size)).mono H0.out.1.size)⟩
          · skip
            have LSX := (HLS.out wX.drew HH.out.2.drew).dropL (z := (P + 1)) (by have := HM.out; omega) (some ⟨b, off + (P + 1) * 2, none⟩) (fun _ _ _ h => by cases h; rfl)
            obtain ⟨a4, n4, c4, w4, run4, row4, hb4⟩ := app_pairsL wX.drew wc.heap.size aX nX cX _ X (l.drop (P + 1)) HH.out.1 LSX HH.out.2.size (by have := HX.out.2; have := HM.out; simp only [List.length_drop]; omega)
            have R4 := hide run4
            have H4 := hide (And.intro row4 hb4)
            clear run4 row4 hb4 LSX
            clear hHeld
            go_upto_region 9 with fail
            go_wp2_with (at_builtin; refine wpList_plain rfl (fun K hK => wp_append_run (.tmp 58) (.tmp 61) 22 rfl rfl rfl R4.out (hK _ _ ?_)))
            go_ret
            exact ⟨_, rfl, by rw [HA.out]; exact own_low H4.out.1 hsw, H0.out.1.trans ((HC.out.1.trans ((HH.out.2.drew.trans H4.out.2).mono HC.out.1.size)).mono H0.out.1.size)⟩
      · have HA := hide (show R = X ++ l.drop P by rw [HX.out.1]; rw [List.drop_eq_nil_of_le (by have := HM.out; omega), List.drop_eq_nil_of_le (by have := HM.out; omega)])
        obtain rfl : P = m := by omega
        by_cases hcA : cap = P
        · subst hcA
          have LSX := (HLS.out wX.drew HH.out.2.drew).dropL (z := cap) (by have := HM.out; omega) (ao) (fun h => absurd h (by have := HM.out; omega))
          simp only [Nat.sub_self] at LSX
          obtain ⟨a4, n4, c4, w4, run4, row4, hb4⟩ := app_pairsL wX.drew wc.heap.size aX nX cX _ X (l.drop cap) HH.out.1 LSX HH.out.2.size (by have := HX.out.2; have := HM.out; simp only [List.length_drop]; omega)
          have R4 := hide run4
          have H4 := hide (And.intro row4 hb4)
          clear run4 row4 hb4 LSX
          refine wp_region_held_drew (S := fun W => W.cell? ⟨w.heap.size, 0, none⟩ = some (.string (strB p.1))) (by kernel_rfl) (d0) (fun hHeld => ?_)
          refine takeK 0 hHeld ?_
          refine takeK 1 hHeld ?_
          refine takeK 2 hHeld ?_
          refine takeK 3 hHeld ?_
          refine takeK 4 hHeld ?_
          refine skipK 5 hHeld ?_
          refine skipK 6 hHeld ?_
          refine skipK 7 hHeld ?_
          refine skipK 8 hHeld ?_
          refine skipK 9 hHeld ?_
          refine skipK 10 hHeld ?_
          refine skipK 11 hHeld ?_
          refine skipK 12 hHeld ?_
          refine takeK 13 hHeld ?_
          refine wpAnyH_done (by kernel_rfl) ?_ _
          clear hHeld
          go_upto_region 9 with fail
          go_wp2_with (at_builtin; refine wpList_plain rfl (fun K hK => wp_append_run (.tmp 58) (.tmp 61) 22 rfl rfl rfl R4.out (hK _ _ ?_)))
          go_ret
          exact ⟨_, rfl, by rw [HA.out]; exact own_low H4.out.1 hsw, H0.out.1.trans ((HC.out.1.trans ((HH.out.2.drew.trans H4.out.2).mono HC.out.1.size)).mono H0.out.1.size)⟩
        · skip
          have LSX := (HLS.out wX.drew HH.out.2.drew).dropL (z := P) (by have := HM.out; omega) (ao.map (fun x => x.add (P * 2))) (fun h => absurd h (by have := HM.out; omega))
          simp only [Nat.sub_self] at LSX
          obtain ⟨a4, n4, c4, w4, run4, row4, hb4⟩ := app_pairsL wX.drew wc.heap.size aX nX cX _ X (l.drop P) HH.out.1 LSX HH.out.2.size (by have := HX.out.2; have := HM.out; simp only [List.length_drop]; omega)
          have R4 := hide run4
          have H4 := hide (And.intro row4 hb4)
          clear run4 row4 hb4 LSX
          refine wp_region_held_drew (S := fun W => W.cell? ⟨w.heap.size, 0, none⟩ = some (.string (strB p.1))) (by kernel_rfl) (d0) (fun hHeld => ?_)
          refine takeK 0 hHeld ?_
          refine takeK 1 hHeld ?_
          refine takeK 2 hHeld ?_
          refine takeK 3 hHeld ?_
          refine takeK 4 hHeld ?_
          refine skipK 5 hHeld ?_
          refine skipK 6 hHeld ?_
          refine skipK 7 hHeld ?_
          refine skipK 8 hHeld ?_
          refine skipK 9 hHeld ?_
          refine skipK 10 hHeld ?_
          refine skipK 11 hHeld ?_
          refine skipK 12 hHeld ?_
          refine takeK 13 hHeld ?_
          refine wpAnyH_done (by kernel_rfl) ?_ _
          clear hHeld
          go_upto_region 9 with fail
          go_wp2_with (at_builtin; refine wpList_plain rfl (fun K hK => wp_append_run (.tmp 58) (.tmp 61) 22 rfl rfl rfl R4.out (hK _ _ ?_)))
          go_ret
          exact ⟨_, rfl, by rw [HA.out]; exact own_low H4.out.1 hsw, H0.out.1.trans ((HC.out.1.trans ((HH.out.2.drew.trans H4.out.2).mono HC.out.1.size)).mono H0.out.1.size)⟩
end Go.Proofs.YtimbleaafoiidaaGreatDoor

/-
  Edit, by the reference. Conditions: the objects lie there; not too many puts.
-/
namespace Go.Proofs.YtimbleaafoiidaaGreatDoor
open Go.RowKit

theorem doneA_snoc (l : List Pair) (ps : List PutM) {k : Nat} (h : k < ps.length) : doneA l (ps.take (k + 1)) = doneM (doneA l (ps.take k)) ps[k] := by
  rw [show ps.take (k + 1) = ps.take k ++ [ps[k]] by rw [List.take_add_one]; simp [h]]
  unfold doneA
  rw [List.foldl_append]
  rfl
set_option maxRecDepth 40000 in
set_option maxHeartbeats 3200000 in
theorem edit12_any (w : World) (vo : Value) (objs : List Pair) (ho : Ls w.heap.size w 2 pairC vo objs) (hob : ∀ o ∈ objs, o.2.length ≤ 140737488351232) (root : Bs) (l : List PutM) (v : Value) (hv : Ls w.heap.size w 3 putC v l) (hn : l.length ≤ 1000) (hsh : ∀ id b, findO objs id = some b → b.length ≤ 140737488355328) :
    Calls Tryz.prog 24 #[vo, .string (strB root), v] w fun e w' => ∃ u, e = .returned (.tuple #[.string (strB (editM (listM (findO objs) root [] []) l).1), u, .int .i64 (editM (listM (findO objs) root [] []) l).2.2]) ∧ Rw w.heap.size w' 69 2 pairC u (editM (listM (findO objs) root [] []) l).2.1 ∧ Below w.heap.size w w' := by
  have hfew := listM_few (findO objs) hsh root [] []
  obtain ⟨L, hL⟩ : ∃ L, listM (findO objs) root [] [] = L := ⟨_, rfl⟩
  rw [hL] at hfew ⊢
  obtain ⟨R, hR⟩ : ∃ R, editM L l = R := ⟨_, rfl⟩
  rw [hR]
  have HR := hide hR
  have HF := hide hfew.2
  have HLQ := hide hL
  have HO := hide (And.intro ho hob)
  have HV := hide hv
  obtain ⟨ao, cap, rfl, h1, h2, h4⟩ := hv
  obtain ⟨oo, oc, rfl, -⟩ := ho
  unfold maxLen at h2
  clear hR hL hfew hob hsh
  go_enter Tryz.func24, Tryz.ntmps24
  go_wp2_with fail
  go_loopw [9] (fun t wr => ∃ k : Nat, k ≤ l.length ∧ t = .int .i64 k ∧ (l.take k).all putOkM = true ∧ Below w.heap.size w wr)
    (fun t _ => l.length - (intOf t).toNat)
  case atStart => exact ⟨0, by omega, rfl, rfl, Below.refl _ _⟩
  case round =>
    obtain ⟨k, hk, rfl, hok, hbr⟩ := hrel
    by_cases hlt : k < l.length
    · obtain ⟨b, off, rfl, hbl, hc⟩ := h4 (by intro e; rw [e] at hlt; simp at hlt)
      have c0 := (hbr.cell (p := ⟨b, off + k * 3 + 0, none⟩) hbl).trans (hc k hlt 0 _ rfl)
      have c1 := (hbr.cell (p := ⟨b, off + k * 3 + 1, none⟩) hbl).trans (hc k hlt 1 _ rfl)
      have c2 := (hbr.cell (p := ⟨b, off + k * 3 + 2, none⟩) hbl).trans (hc k hlt 2 _ rfl)
      have hno := fun h => puts_no (l := l) hlt h
      have hst := fun h => puts_step (l := l) hlt hok h
      have hb1 := hbr.alloc hbr.size (putO l[k])
      generalize l[k] = x at *
      have hx1 := strB_size x.1
      have hx2 := strB_size x.2.1
      have hne := neq_empty 9 x.2.1
      have hput : putOkM x = (isKeyB x.1 && !decide (128 < x.2.1.length) && !(x.2.2 && !x.2.1.isEmpty)) := rfl
      have HH := hide (And.intro hno (And.intro hst (And.intro hb1 hput)))
      try simp only [Nat.add_zero] at c0 c1 c2
      have HB1 := hide HH.out.2.2.1
      clear hno hst hb1 hput hc hbr hok
      by_cases hk1 : x.1.length < 1
      · have qa : decide ((x.1.length : Int) < 1) = true := decide_eq_true (by omega)
        have qa2 : decide (x.1.length < 1) = true := decide_eq_true (by omega)
        have HN : Hid (l.all putOkM = false) := hide (HH.out.1 (by rw [HH.out.2.2.2, show isKeyB x.1 = false by unfold isKeyB; simp; omega]; rfl))
        go_wp2
        go_ret3
        have HRN : R = ([], [], 120) := by rw [← HR.out]; unfold editM; rw [HN.out]; rfl
        rw [HRN]
        exact ⟨_, rfl, World.ownsRow_nil _ _ _ _, HB1.out⟩
      have qa : decide ((x.1.length : Int) < 1) = false := decide_eq_false (by omega)
      have qa2 : decide (x.1.length < 1) = false := decide_eq_false (by omega)
      by_cases hk2 : 64 < x.1.length
      · have qb : decide ((64 : Int) < (x.1.length : Int)) = true := decide_eq_true (by omega)
        have qb2 : decide (64 < x.1.length) = true := decide_eq_true (by omega)
        have HN : Hid (l.all putOkM = false) := hide (HH.out.1 (by rw [HH.out.2.2.2, show isKeyB x.1 = false by unfold isKeyB; simp; omega]; rfl))
        go_wp2
        go_ret3
        have HRN : R = ([], [], 120) := by rw [← HR.out]; unfold editM; rw [HN.out]; rfl
        rw [HRN]
        exact ⟨_, rfl, World.ownsRow_nil _ _ _ _, HB1.out⟩
      have qb : decide ((64 : Int) < (x.1.length : Int)) = false := decide_eq_false (by omega)
      have qb2 : decide (64 < x.1.length) = false := decide_eq_false (by omega)
      have hkey : isKeyB x.1 = true := by unfold isKeyB; simp; omega
      by_cases hvl : 128 < x.2.1.length
      · have qc : decide ((128 : Int) < (x.2.1.length : Int)) = true := decide_eq_true (by omega)
        have qc2 : decide (128 < x.2.1.length) = true := decide_eq_true (by omega)
        have HN : Hid (l.all putOkM = false) := hide (HH.out.1 (by rw [HH.out.2.2.2, hkey, decide_eq_true hvl]; rfl))
        go_wp2
        go_ret3
        have HRN : R = ([], [], 120) := by rw [← HR.out]; unfold editM; rw [HN.out]; rfl
        rw [HRN]
        exact ⟨_, rfl, World.ownsRow_nil _ _ _ _, HB1.out⟩
      have qc : decide ((128 : Int) < (x.2.1.length : Int)) = false := decide_eq_false (by omega)
      have qc2 : decide (128 < x.2.1.length) = false := decide_eq_false (by omega)
      cases hgo : x.2.2 with
      | false =>
        rw [hgo] at c2
        have hb1 := HH.out.2.2.1
        simp only [putO, hgo] at hb1
        have HB1 := hide hb1
        clear hb1
        have HN : Hid ((l.take (k + 1)).all putOkM = true) := hide (HH.out.2.1 (by rw [HH.out.2.2.2, hkey, hgo, decide_eq_false hvl]; rfl))
        go_wp2
        go_roundw
        case rel => exact ⟨k + 1, by omega, by go_num, HN.out, HB1.out⟩
        case measure => simp [intOf]; omega
      | true =>
        rw [hgo] at c2
        have hb1 := HH.out.2.2.1
        simp only [putO, hgo] at hb1
        have HB1 := hide hb1
        clear hb1
        cases hem : x.2.1.isEmpty with
        | false =>
          rw [hem] at hne
          have HN : Hid (l.all putOkM = false) := hide (HH.out.1 (by rw [HH.out.2.2.2, hkey, hgo, hem, decide_eq_false hvl]; rfl))
          go_wp2
          go_ret3
          have HRN : R = ([], [], 120) := by rw [← HR.out]; unfold editM; rw [HN.out]; rfl
          rw [HRN]
          exact ⟨_, rfl, World.ownsRow_nil _ _ _ _, HB1.out⟩
        | true =>
          rw [hem] at hne
          have HN : Hid ((l.take (k + 1)).all putOkM = true) := hide (HH.out.2.1 (by rw [HH.out.2.2.2, hkey, hgo, hem, decide_eq_false hvl]; rfl))
          go_wp2
          go_roundw
          case rel => exact ⟨k + 1, by omega, by go_num, HN.out, HB1.out⟩
          case measure => simp [intOf]; omega
    · have hkl : k = l.length := by omega
      subst hkl
      rw [List.take_length] at hok
      have hll := list12_any wr _ objs ((HO.out.1.keep hbr).up hbr.size) HO.out.2 root [] []
      rw [HLQ.out, show strB ([] : Bs) = ⟨#[]⟩ from rfl] at hll
      have HOK := hide hok
      have HB := hide hbr
      clear hok hbr
      go_wp2_with fail
      refine hll.mono ?_
      rintro e w2 ⟨vp, va, rfl, hrow, hra, hb2⟩
      have hB2 := HB.out.trans (hb2.mono HB.out.size)
      obtain ⟨raA, raM, raC, rfl⟩ := row_form hra
      clear hll hra
      by_cases hbad : L.bad = 0
      · have q1 : (L.bad != 0) = false := by simpa using hbad
        have hout : outOf L = L.out := by unfold outOf; rw [if_pos hbad]
        rw [hout] at hrow
        have HRN : Hid (R = buildM (doneA L.out l)) := hide (by rw [← HR.out]; unfold editM; rw [HOK.out, if_neg (by simp), if_neg (by simpa using hbad)])
        have hlow := own_low hrow HB.out.size
        obtain ⟨pa, pm, pc, rfl⟩ := row_form hrow
        have H2 := hide (And.intro hlow hB2)
        clear hbad hout hrow hlow hb2 hB2
        go_wp2_with fail
        go_loopw [14, 11] (fun t u wr => ∃ k : Nat, k ≤ l.length ∧ t = .int .i64 k ∧ Rw w.heap.size wr 60 2 pairC u (doneA L.out (l.take k)) ∧ Below w.heap.size w wr)
          (fun t _ _ => l.length - (intOf t).toNat)
        case atStart => exact ⟨0, by omega, rfl, H2.out.1, H2.out.2⟩
        case round =>
          obtain ⟨k, hk, rfl, hrow, hbr⟩ := hrel
          have hlen := doneA_length (l.take k) L.out
          rw [List.length_take] at hlen
          obtain ⟨ua, um, uc, rfl⟩ := row_form hrow
          by_cases hlt : k < l.length
          · obtain ⟨b, off, rfl, hbl, hc⟩ := h4 (by intro e; rw [e] at hlt; simp at hlt)
            have c0 := (hbr.cell (p := ⟨b, off + k * 3 + 0, none⟩) hbl).trans (hc k hlt 0 _ rfl)
            have c1 := (hbr.cell (p := ⟨b, off + k * 3 + 1, none⟩) hbl).trans (hc k hlt 1 _ rfl)
            have c2 := (hbr.cell (p := ⟨b, off + k * 3 + 2, none⟩) hbl).trans (hc k hlt 2 _ rfl)
            have htk := doneA_snoc L.out l hlt
            have hdn := fun x => done12_any wr _ _ (ls_of_own pairC_length hrow) x (by have := HF.out; omega)
            generalize l[k] = x at *
            have hdx := hdn x
            rw [← htk] at hdx
            try simp only [Nat.add_zero] at c0 c1 c2
            have HB := hide hbr
            clear hdn htk hc hbr hrow hlen
            go_wp2_with fail
            refine hdx.mono ?_
            rintro e w3 ⟨u, rfl, hrow3, hb3⟩
            have H3 := hide (And.intro (own_low hrow3 HB.out.size) (HB.out.trans (hb3.mono HB.out.size)))
            clear hdx hrow3 hb3
            go_wp2_with fail
            go_roundw
            case rel => exact ⟨k + 1, by omega, by go_num, H3.out.1, H3.out.2⟩
            case measure => simp [intOf]; omega
          · have hkl : k = l.length := by omega
            subst hkl
            rw [List.take_length] at hrow hlen
            have hum : um = (doneA L.out l).length := by obtain ⟨_, _, e, -⟩ := ls_of_own pairC_length hrow; injection e
            have hbd := build12_any wr _ _ (ls_of_own pairC_length hrow)
            rw [← HRN.out] at hbd
            by_cases hmany : 4096 < um
            · have q2 : decide ((4096 : Int) < (um : Int)) = true := by simp; omega
              have HRM : Hid (R = ([], [], 121)) := hide (by rw [HRN.out]; unfold buildM; rw [if_pos (by omega)])
              have HB := hide hbr
              clear hbd hum hlen hrow hbr
              go_wp2
              go_ret3
              rw [HRM.out]
              exact ⟨_, rfl, World.ownsRow_nil _ _ _ _, HB.out⟩
            · have q2 : decide ((4096 : Int) < (um : Int)) = false := by simp; omega
              have HB := hide hbr
              clear hum hlen hrow hbr
              go_wp2_with fail
              refine hbd.mono ?_
              rintro e w4 ⟨u, rfl, hrow4, hb4⟩
              have H4 := hide (And.intro (own_low hrow4 HB.out.size) (HB.out.trans (hb4.mono HB.out.size)))
              obtain ⟨xa, xm, xc, rfl⟩ := row_form hrow4
              clear hbd hrow4 hb4
              go_wp2
              go_ret3
              exact ⟨_, rfl, H4.out.1, H4.out.2⟩
      · have q1 : (L.bad != 0) = true := by simpa using hbad
        have HRN : Hid (R = ([], [], L.bad)) := hide (by rw [← HR.out]; unfold editM; rw [HOK.out, if_neg (by simp), if_pos hbad])
        obtain ⟨pa, pm, pc, rfl⟩ := row_form hrow
        have H2 := hide hB2
        clear hbad hrow hb2 hB2
        go_wp2
        go_ret3
        rw [HRN.out]
        exact ⟨_, rfl, World.ownsRow_nil _ _ _ _, H2.out⟩
end Go.Proofs.YtimbleaafoiidaaGreatDoor

/-
  Are two lists of objects the same? Conditions: they lie there.
-/
namespace Go.Proofs.YtimbleaafoiidaaGreatDoor
open Go.RowKit

def same1 {α : Type} [DecidableEq α] (x y : α) : Bool := decide (x = y)
theorem same1_true {α : Type} [DecidableEq α] {x y : α} (h : x = y) : same1 x y = true := decide_eq_true h
theorem same1_false {α : Type} [DecidableEq α] {x y : α} (h : ¬ x = y) : same1 x y = false := decide_eq_false h
theorem take_step {α : Type} {xs ys : List α} {k : Nat} (h1 : k < xs.length) (h2 : k < ys.length) (h : xs.take k = ys.take k) (he : xs[k] = ys[k]) : xs.take (k + 1) = ys.take (k + 1) := by
  rw [List.take_succ_eq_append_getElem h1, List.take_succ_eq_append_getElem h2, h, he]
theorem Tryz.eqObj : Tryz.prog.underlying 69 = some (.struct (Tryz.prog.fieldsOf 69)) ∧ Tryz.prog.stoodInHeld 69 = false ∧ Tryz.prog.eqGuardType Tryz.prog.depth 69 = false := ⟨by kernel_rfl, by kernel_rfl, by kernel_rfl⟩
theorem neq_Obj (W : World) (a0 b0 a1 b1 : Bs) : (binOp .neq 69 (.agg #[.string (strB a0), .string (strB a1)]) (.agg #[.string (strB b0), .string (strB b1)])).run Tryz.prog W = .ok (.bool (!(a0 == b0 && a1 == b1))) W := by
  obtain ⟨h1, h2, h3⟩ := Tryz.eqObj
  rw [run_neq_struct, run_equalIn_agg _ _ _ _ _ h1 h2]
  simp only [Program.fieldsOf, Tryz.underlying69]
  by_cases q0 : a0 = b0 <;> by_cases q1 : a1 = b1 <;> simp [Op.eqFields, go_sem, Tryz.underlying9, toL, q0, q1]
theorem neqObj (W : World) (x y : Pair) : (binOp .neq 69 (.agg #[.string (strB x.1), .string (strB x.2)]) (.agg #[.string (strB y.1), .string (strB y.2)])).run Tryz.prog W = .ok (.bool (!(same1 x y))) W := by
  rw [neq_Obj, show (x.1 == y.1 && x.2 == y.2) = same1 x y from by unfold same1; rw [Bool.eq_iff_iff]; simp [Prod.ext_iff]]
set_option maxRecDepth 20000 in
set_option maxHeartbeats 800000 in
theorem same_objs (w : World) (xs ys : List Pair) (vx vy : Value) (hvx : Ls w.heap.size w 2 pairC vx xs) (hvy : Ls w.heap.size w 2 pairC vy ys) :
    Calls Tryz.prog 12 #[vx, vy] w fun e w' => e = .returned (.bool (decide (xs = ys))) ∧ Below w.heap.size w w' := by
  obtain ⟨ax, capx, rfl, gx1, gx2, hx⟩ := hvx
  obtain ⟨ay, capy, rfl, gy1, gy2, hy⟩ := hvy
  unfold maxLen at gx2 gy2
  by_cases hle : xs.length = ys.length
  rotate_left
  · have hle' : ((xs.length : Int) == (ys.length : Int)) = false := by simp; omega
    go_enter Tryz.func12, Tryz.ntmps12
    go_wp2_with fail
    skip
    try go_wp2
    go_ret
    exact ⟨ret_bool (Eq.symm (decide_eq_false (fun e => hle (congrArg List.length e)))), Below.refl _ _⟩
  rw [hle] at gx1 ⊢
  have HLE := hide hle
  clear hle
  go_enter Tryz.func12, Tryz.ntmps12
  go_wp2_with fail
  skip
  go_loopw [5] (fun t wr => ∃ k : Nat, k ≤ ys.length ∧ t = .int .i64 k ∧ xs.take k = ys.take k ∧ Below w.heap.size w wr)
    (fun t _ => ys.length - (intOf t).toNat)
  case atStart => exact ⟨0, by omega, rfl, by simp, Below.refl _ _⟩
  case round =>
    obtain ⟨k, hk, rfl, htk, hbr⟩ := hrel
    have hbw : Below w.heap.size w wr := hbr
    have HB := hide hbr
    have HBW := hide hbw
    have HTK := hide htk
    clear hbr hbw htk
    by_cases hlt2 : k < ys.length
    · have hlt : k < xs.length := by rw [HLE.out]; exact hlt2
      obtain ⟨bx, offx, rfl, hbX, hcx⟩ := hx (by intro e; rw [e] at hlt; simp at hlt)
      obtain ⟨bY, offy, rfl, hbYl, hcy⟩ := hy (by intro e; rw [e] at hlt2; simp at hlt2)
      have c0 := (HBW.out.cell (p := ⟨bx, offx + k * 2 + 0, none⟩) hbX).trans (hcx k hlt 0 _ rfl)
      have d0 := (HBW.out.cell (p := ⟨bY, offy + k * 2 + 0, none⟩) hbYl).trans (hcy k hlt2 0 _ rfl)
      have c1 := (HBW.out.cell (p := ⟨bx, offx + k * 2 + 1, none⟩) hbX).trans (hcx k hlt 1 _ rfl)
      have d1 := (HBW.out.cell (p := ⟨bY, offy + k * 2 + 1, none⟩) hbYl).trans (hcy k hlt2 1 _ rfl)
      have hst := fun he => take_step hlt hlt2 HTK.out he
      have hno : xs[k] ≠ ys[k] → xs ≠ ys := fun hne e => hne (by simp only [e])
      generalize xs[k] = x at *
      generalize ys[k] = y at *
      try simp only [Nat.add_zero] at c0 d0 c1 d1
      have HST := hide hst
      have HNO := hide hno
      have hnq : ∀ W, _ := fun W => neqObj W x y
      clear hst hno hcx hcy hx hy hlt
      go_wp2_with fail
      refine wp_region_held_drew (S := fun W => W.cell? ⟨bx, offx + k * 2, none⟩ = some (.string (strB x.1)) ∧ W.cell? ⟨bx, offx + k * 2 + 1, none⟩ = some (.string (strB x.2)) ∧ W.cell? ⟨bY, offy + k * 2, none⟩ = some (.string (strB y.1)) ∧ W.cell? ⟨bY, offy + k * 2 + 1, none⟩ = some (.string (strB y.2))) (by kernel_rfl) (⟨c0, c1, d0, d1⟩) (fun hHeld => ?_)
      refine takeK 0 hHeld ?_
      refine takeK 1 hHeld ?_
      refine takeK 2 hHeld ?_
      refine takeK 3 hHeld ?_
      refine takeK 4 hHeld ?_
      refine takeK 5 hHeld ?_
      refine takeK 6 hHeld ?_
      refine takeK 7 hHeld ?_
      refine takeK 8 hHeld ?_
      refine wpAnyH_done (by kernel_rfl) ?_ _
      clear hHeld hnq
      have hbD : Below w.heap.size w wr.drew := HB.out.drew
      have HBD := hide hbD
      clear hbD
      by_cases he : x = y
      · have hbe := same1_true he
        rw [hbe]
        go_wp2
        go_roundw
        case rel => exact ⟨k + 1, by omega, by go_num, HST.out he, HBD.out⟩
        case measure => simp [intOf]; omega
      · have hbe := same1_false he
        rw [hbe]
        go_wp2
        go_ret
        exact ⟨ret_bool (Eq.symm (decide_eq_false (fun e => HNO.out he (e)))), HBD.out⟩
    · have hall : xs = ys := by
        have := HTK.out
        have hL := HLE.out
        rwa [List.take_of_length_le (by omega), List.take_of_length_le (by omega)] at this
      go_wp2
      go_ret
      exact ⟨ret_bool (Eq.symm (decide_eq_true (hall))), HBW.out⟩
end Go.Proofs.YtimbleaafoiidaaGreatDoor

/-
  The pairs of a map counted by the program, by any get. Conditions: the get keeps its word; not too much was asked.
-/
namespace Go.Proofs.YtimbleaafoiidaaGreatDoor
open Go.RowKit

end Go.Proofs.YtimbleaafoiidaaGreatDoor

/-
  Are two lists of pairs the same? Conditions: they lie there.
-/
namespace Go.Proofs.YtimbleaafoiidaaGreatDoor
open Go.RowKit

end Go.Proofs.YtimbleaafoiidaaGreatDoor
