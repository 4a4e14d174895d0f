/-
  A node's kid for a key, a leaf's value of a key, by the program. Conditions: lists lie there.
-/
import Derived.Test.YtimbleaafoiidaaGreatDoorE27PAskKid
import Derived.Test.YtimbleaafoiidaaGreatDoorE33PLay
namespace Go.Proofs.YtimbleaafoiidaaGreatDoor
open Go.RowKit

/-- The kid below which a key stands; a key's pair. -/
def kidM (n : NodeM) (key : Bs) : Option Link := n.2.2.find? (fun q => !ltB q.1 key)
def valM (n : NodeM) (key : Bs) : Option Pair := n.2.1.find? (fun p => p.1 == key)
def kidV (o : Option Link) : Value := match o with | some k => .tuple #[.agg #[.string (strB k.1), .string (strB k.2.1), .int .i64 k.2.2], .bool true] | none => .tuple #[.agg #[.string (strB []), .string (strB []), .int .i64 0], .bool false]
def valV (o : Option Pair) : Value := match o with | some k => .tuple #[.string (strB k.2), .bool true] | none => .tuple #[.string (strB []), .bool false]
theorem find_at {α : Type} {f : α → Bool} {l : List α} {k : Nat} (hk : k < l.length) (he : f l[k] = true) (h : ∀ o ∈ l.take k, f o = false) : l.find? f = some l[k] := by
  rw [List.find?_eq_some_iff_getElem]
  refine ⟨he, k, hk, rfl, fun j hj => ?_⟩
  have hm : l[j] ∈ l.take k := by rw [List.mem_take_iff_getElem]; exact ⟨j, by omega, rfl⟩
  rw [h _ hm]
  rfl
theorem find_no {α : Type} {f : α → Bool} {l : List α} (h : ∀ o ∈ l, f o = false) : l.find? f = none := List.find?_eq_none.2 (fun o ho => by rw [h o ho]; simp)
theorem take_no {α : Type} {f : α → Bool} {l : List α} {k : Nat} (hk : k < l.length) (he : f l[k] = false) (h : ∀ o ∈ l.take k, f o = false) : ∀ o ∈ l.take (k + 1), f o = false := by
  rw [List.take_succ_eq_append_getElem hk]
  intro o ho
  rcases List.mem_append.1 ho with ho | ho
  · exact h o ho
  · simp only [List.mem_singleton] at ho; subst ho; exact he
set_option maxRecDepth 20000 in
set_option maxHeartbeats 800000 in
theorem kidOf_any (w : World) (n : NodeM) (vk vp : Value) (key : Bs) (hk : Ls w.heap.size w 3 linkC vk n.2.2) (hp : Ls w.heap.size w 2 pairC vp n.2.1) :
    Calls Tryz.prog 35 #[.agg #[.int .i64 n.1, vk, vp], .string (strB key)] w fun e w' => e = .returned (kidV (kidM n key)) ∧ Below w.heap.size w w' := by
  obtain ⟨lv, ps, ks⟩ := n
  obtain ⟨R, hR⟩ : ∃ R, R = kidV (kidM (lv, ps, ks) key) := ⟨_, rfl⟩
  rw [← hR]
  have hmiss := fun (h : ∀ o ∈ ks, (fun q : Link => !ltB q.1 key) o = false) => hR.trans (congrArg kidV (find_no h))
  have hhit := fun (j : Nat) (hj : j < ks.length) (h1 : (fun q : Link => !ltB q.1 key) ks[j] = true) (h2 : ∀ o ∈ ks.take j, (fun q : Link => !ltB q.1 key) o = false) => hR.trans (congrArg kidV (find_at hj h1 h2))
  simp only at hk hp
  have hb0 : Below w.heap.size w ((w.alloc (.cells #[.int .i64 lv, vk, vp] 83)).alloc (.cells #[.string ⟨#[]⟩, .string ⟨#[]⟩, .int .i64 0] 66)) := ((Below.refl _ _).alloc (Nat.le_refl _) _).alloc (by simp) _
  have hx0 : ((w.alloc (.cells #[.int .i64 lv, vk, vp] 83)).alloc (.cells #[.string ⟨#[]⟩, .string ⟨#[]⟩, .int .i64 0] 66)).heap[w.heap.size]? = some (.cells #[.int .i64 lv, vk, vp] 83) := (heap_past _ _ _ (by simp)).trans (heap_last w _ _ rfl)
  have hy0 : ((w.alloc (.cells #[.int .i64 lv, vk, vp] 83)).alloc (.cells #[.string ⟨#[]⟩, .string ⟨#[]⟩, .int .i64 0] 66)).heap[w.heap.size + 1]? = some (.cells #[.string ⟨#[]⟩, .string ⟨#[]⟩, .int .i64 0] 66) := heap_last _ _ _ (by simp)
  have hk0 := (hk.keep hb0).up hb0.size
  obtain ⟨ap, cp, rfl, -, -⟩ := ls_none hp
  obtain ⟨ak, ck, rfl, k1, k2, k4⟩ := hk0
  unfold maxLen at k2
  generalize hw0 : (w.alloc (.cells #[.int .i64 lv, .slice ak ks.length ck, .slice ap ps.length cp] 83)).alloc (.cells #[.string ⟨#[]⟩, .string ⟨#[]⟩, .int .i64 0] 66) = w0 at *
  have c1 := cell_of_row w0 w.heap.size 1 _ _ _ hx0
  simp only [List.getElem?_toArray, List.getElem?_cons_zero, List.getElem?_cons_succ] at c1
  have HB := hide hb0
  have HY := hide hy0
  have HR := hide (And.intro hmiss hhit)
  clear hb0 hx0 hk hp hy0 hR hmiss hhit
  go_enter Tryz.func35, Tryz.ntmps35
  go_wp2_with fail
  try rw [hw0]
  go_wp2_with fail
  go_loopw [12] (fun t wr => ∃ k : Nat, k ≤ ks.length ∧ t = .int .i64 k ∧ (∀ o ∈ ks.take k, (fun q : Link => !ltB q.1 key) o = false) ∧ Below w0.heap.size w0 wr)
    (fun t _ => ks.length - (intOf t).toNat)
  case atStart => exact ⟨0, by omega, rfl, by simp, Below.refl _ _⟩
  case round =>
    obtain ⟨k, hkk, rfl, hno, hb⟩ := hrel
    have HBr := hide hb
    by_cases hlt : k < ks.length
    · obtain ⟨b, off, rfl, hbB, hc⟩ := k4 (by rintro rfl; simp at hlt)
      have d0 := (hb.cell (p := ⟨b, off + k * 3 + 0, none⟩) hbB).trans (hc k hlt 0 _ rfl)
      have d1 := (hb.cell (p := ⟨b, off + k * 3 + 1, none⟩) hbB).trans (hc k hlt 1 _ rfl)
      have d2 := (hb.cell (p := ⟨b, off + k * 3 + 2, none⟩) hbB).trans (hc k hlt 2 _ rfl)
      simp only [Nat.add_zero] at d0
      have hit := fun h => HR.out.2 k hlt h hno
      have miss := fun h => take_no (f := fun q : Link => !ltB q.1 key) hlt h hno
      have HB1 := hide (HBr.out.alloc HBr.out.size (.cells #[.string (strB ks[k].1), .string (strB ks[k].2.1), .int .i64 ks[k].2.2] 66))
      have hy1 := (HB1.out.block _ (lt_of_heap HY.out)).trans HY.out
      generalize ks[k] = x at *
      have hge := geq_str 9 x.1 key
      have y0 := cell_of_row _ (w.heap.size + 1) 0 _ _ _ hy1
      have y1 := cell_of_row _ (w.heap.size + 1) 1 _ _ _ hy1
      have y2 := cell_of_row _ (w.heap.size + 1) 2 _ _ _ hy1
      simp only [List.getElem?_toArray, List.getElem?_cons_zero, List.getElem?_cons_succ] at y0 y1 y2
      have f0 := frozen0 (j := 0) hy1
      have f1 := frozen0 (j := 1) hy1
      have f2 := frozen0 (j := 2) hy1
      have HHM := hide (And.intro hit miss)
      have HY1 := hide hy1
      have hxl := heap_last wr (.cells #[.string (strB x.1), .string (strB x.2.1), .int .i64 x.2.2] 66) _ rfl
      generalize hwx : wr.alloc (.cells #[.string (strB x.1), .string (strB x.2.1), .int .i64 x.2.2] 66) = wx at *
      have x0 := cell_of_row wx wr.heap.size 0 _ _ _ hxl
      have x1 := cell_of_row wx wr.heap.size 1 _ _ _ hxl
      have x2 := cell_of_row wx wr.heap.size 2 _ _ _ hxl
      simp only [List.getElem?_toArray, List.getElem?_cons_zero, List.getElem?_cons_succ] at x0 x1 x2
      clear hit miss hb hc k4 hno hy1 hxl
      cases hlb : ltB x.1 key with
      | false =>
        rw [hlb] at hge
        have HE := hide (HHM.out.1 (by simp only [hlb]; rfl))
        go_wp2
        refine bodyPost_ret (results_cell_tmp_row rfl _ _ _ _ _ _ _ rfl (heap_set3all HY1.out) Tryz.underlying66 rfl Tryz.infoLinkP) rfl ⟨by rw [HE.out]; rfl, ?_⟩
        have hB1 := HB.out.trans (HB1.out.mono HB.out.size)
        exact ((hB1.setCell (p := ⟨w.heap.size + 1, 0, none⟩) (Nat.le_succ _) _).setCell (p := ⟨w.heap.size + 1, 1, none⟩) (Nat.le_succ _) _).setCell (p := ⟨w.heap.size + 1, 2, none⟩) (Nat.le_succ _) _
      | true =>
        rw [hlb] at hge
        have HE := hide (HHM.out.2 (by simp only [hlb]; rfl))
        go_wp2
        go_roundw
        case rel => exact ⟨k + 1, by omega, by go_num, HE.out, HB1.out⟩
        case measure => simp [intOf]; omega
    · obtain rfl : k = ks.length := by omega
      rw [List.take_length] at hno
      have HE := hide (HR.out.1 hno)
      have hy1 := (hb.block _ (lt_of_heap HY.out)).trans HY.out
      have y0 := cell_of_row _ (w.heap.size + 1) 0 _ _ _ hy1
      have y1 := cell_of_row _ (w.heap.size + 1) 1 _ _ _ hy1
      have y2 := cell_of_row _ (w.heap.size + 1) 2 _ _ _ hy1
      simp only [List.getElem?_toArray, List.getElem?_cons_zero, List.getElem?_cons_succ] at y0 y1 y2
      have f0 := frozen0 (j := 0) hy1
      have f1 := frozen0 (j := 1) hy1
      have f2 := frozen0 (j := 2) hy1
      clear hb k4 hno
      go_wp2
      refine bodyPost_ret (results_cell_tmp_row rfl _ _ _ _ _ _ _ rfl (heap_set3all hy1) Tryz.underlying66 rfl Tryz.infoLinkP) rfl ⟨by rw [HE.out]; rfl, ?_⟩
      have hB1 := HB.out.trans (HBr.out.mono HB.out.size)
      exact ((hB1.setCell (p := ⟨w.heap.size + 1, 0, none⟩) (Nat.le_succ _) _).setCell (p := ⟨w.heap.size + 1, 1, none⟩) (Nat.le_succ _) _).setCell (p := ⟨w.heap.size + 1, 2, none⟩) (Nat.le_succ _) _
set_option maxRecDepth 20000 in
set_option maxHeartbeats 800000 in
theorem valueOf_any (w : World) (n : NodeM) (vk vp : Value) (key : Bs) (hk : Ls w.heap.size w 3 linkC vk n.2.2) (hp : Ls w.heap.size w 2 pairC vp n.2.1) :
    Calls Tryz.prog 37 #[.agg #[.int .i64 n.1, vk, vp], .string (strB key)] w fun e w' => e = .returned (valV (valM n key)) ∧ Below w.heap.size w w' := by
  obtain ⟨lv, ps, ks⟩ := n
  obtain ⟨R, hR⟩ : ∃ R, R = valV (valM (lv, ps, ks) key) := ⟨_, rfl⟩
  rw [← hR]
  have hmiss := fun (h : ∀ o ∈ ps, (fun q : Pair => q.1 == key) o = false) => hR.trans (congrArg valV (find_no h))
  have hhit := fun (j : Nat) (hj : j < ps.length) (h1 : (fun q : Pair => q.1 == key) ps[j] = true) (h2 : ∀ o ∈ ps.take j, (fun q : Pair => q.1 == key) o = false) => hR.trans (congrArg valV (find_at hj h1 h2))
  simp only at hk hp
  have hb0 : Below w.heap.size w (w.alloc (.cells #[.int .i64 lv, vk, vp] 83)) := (Below.refl _ _).alloc (Nat.le_refl _) _
  have hx0 := heap_last w (.cells #[.int .i64 lv, vk, vp] 83) _ rfl
  have hp0 := (hp.keep hb0).up hb0.size
  obtain ⟨ak, ck, rfl, -, -⟩ := ls_none hk
  obtain ⟨ap, cp, rfl, k1, k2, k4⟩ := hp0
  unfold maxLen at k2
  generalize hw0 : w.alloc (.cells #[.int .i64 lv, .slice ak ks.length ck, .slice ap ps.length cp] 83) = w0 at *
  have c1 := cell_of_row w0 w.heap.size 2 _ _ _ hx0
  simp only [List.getElem?_toArray, List.getElem?_cons_zero, List.getElem?_cons_succ] at c1
  have HB := hide hb0
  have HR := hide (And.intro hmiss hhit)
  have tk := toL key
  clear hb0 hx0 hk hp hR hmiss hhit
  go_enter Tryz.func37, Tryz.ntmps37
  go_wp2_with fail
  try rw [hw0]
  go_wp2_with fail
  go_loopw [11] (fun t wr => ∃ k : Nat, k ≤ ps.length ∧ t = .int .i64 k ∧ (∀ o ∈ ps.take k, (fun q : Pair => q.1 == key) o = false) ∧ Below w0.heap.size w0 wr)
    (fun t _ => ps.length - (intOf t).toNat)
  case atStart => exact ⟨0, by omega, rfl, by simp, Below.refl _ _⟩
  case round =>
    obtain ⟨k, hkk, rfl, hno, hb⟩ := hrel
    have HBr := hide hb
    by_cases hlt : k < ps.length
    · obtain ⟨b, off, rfl, hbB, hc⟩ := k4 (by rintro rfl; simp at hlt)
      have d0 := (hb.cell (p := ⟨b, off + k * 2 + 0, none⟩) hbB).trans (hc k hlt 0 _ rfl)
      have d1 := (hb.cell (p := ⟨b, off + k * 2 + 1, none⟩) hbB).trans (hc k hlt 1 _ rfl)
      simp only [Nat.add_zero] at d0
      have hit := fun h => HR.out.2 k hlt h hno
      have miss := fun h => take_no (f := fun q : Pair => q.1 == key) hlt h hno
      have HB1 := hide (HBr.out.alloc HBr.out.size (.cells #[.string (strB ps[k].1), .string (strB ps[k].2)] 60))
      generalize ps[k] = x at *
      have tx := toL x.1
      have HHM := hide (And.intro hit miss)
      have hxl := heap_last wr (.cells #[.string (strB x.1), .string (strB x.2)] 60) _ rfl
      generalize hwx : wr.alloc (.cells #[.string (strB x.1), .string (strB x.2)] 60) = wx at *
      have x0 := cell_of_row wx wr.heap.size 0 _ _ _ hxl
      have x1 := cell_of_row wx wr.heap.size 1 _ _ _ hxl
      simp only [List.getElem?_toArray, List.getElem?_cons_zero, List.getElem?_cons_succ] at x0 x1
      clear hit miss hb hc k4 hno hxl
      cases hlb : (x.1 == key) with
      | true =>
        have HE := hide (HHM.out.1 hlb)
        go_wp2
        go_ret2
        exact ⟨by rw [HE.out]; rfl, HB.out.trans (HB1.out.mono HB.out.size)⟩
      | false =>
        have HE := hide (HHM.out.2 hlb)
        go_wp2
        go_roundw
        case rel => exact ⟨k + 1, by omega, by go_num, HE.out, HB1.out⟩
        case measure => simp [intOf]; omega
    · obtain rfl : k = ps.length := by omega
      rw [List.take_length] at hno
      have HE := hide (HR.out.1 hno)
      clear hb k4 hno
      go_wp2
      go_ret2
      exact ⟨by rw [HE.out]; rfl, HB.out.trans (HBr.out.mono HB.out.size)⟩
end Go.Proofs.YtimbleaafoiidaaGreatDoor
