/-
  New, of any fates, whoever serves. Conditions: fates lie there, within reach, their places ints.
-/
import Derived.Test.YtgjmidlcfjgnhaaNew
namespace Go.Proofs.Ytgjmidlcfjgnhaa
open Go.RowKit

/-- What New answers. -/
def NewSaid (w : World) (sv : Value) (l : List Ft) (ok : Bs → Prop) (e : Ending) (w' : World) : Prop :=
  Below w.heap.size w w' ∧ ((l.all okF = true ∧ ∃ n G, e = .returned (.tuple #[.pointer (some ⟨n, 0, none⟩), .int .i64 0]) ∧ NetW w' n sv ⟨l, [], [], 0⟩ G ok ∧ ∀ k, G.has n k → w.heap.size ≤ k) ∨
    (l.all okF = false ∧ e = .returned (.tuple #[.pointer none, .int .i64 150])))
theorem chg_below {w w' : World} (h : Below w.heap.size w w') : Chg (fun _ => False) w w' := ⟨h.os, h.tape, h.output, h.size, fun k hk _ => h.block k hk⟩

set_option maxRecDepth 20000 in
set_option maxHeartbeats 2000000 in
theorem new_any (w : World) (g : Nat) (caps : Array Value) (vf : Value) (l : List Ft) (ok : Bs → Prop) (hf : Fs w vf l) (hl : l.length * 24 ≤ 140737488355328) (hI : ∀ f ∈ l, I64 f.2.1) :
    Calls Try.prog 9 #[.func (.func g) #[] caps, vf] w (NewSaid w (.func (.func g) #[] caps) l ok) := by
  have hq := eql_nilF
  have HF := hide hf
  obtain ⟨ao, cap, rfl, h1, h2, h4⟩ := hf
  go_enter Try.func9, Try.ntmps9
  go_wp2_with fail
  go_loopw [13] (fun i wr => ∃ j : Nat, i = .int .i64 (j : Int) ∧ j ≤ l.length ∧ (∀ q (hq : q < l.length), q < j → okF l[q] = true) ∧ Below w.heap.size w wr)
    (fun i _ => l.length - (intOf i).toNat)
  case atStart => exact ⟨0, rfl, by omega, (fun q _ h => by omega), Below.refl _ _⟩
  case round =>
    obtain ⟨j, rfl, hj, hall, hb⟩ := hrel
    by_cases hlt : j < l.length
    · obtain ⟨b, off, rfl, hbl, hcell⟩ := h4 (by rintro rfl; simp at hlt)
      have c0 := (hb.cell (p := ⟨b, off + j * 3 + 0, none⟩) hbl).trans (hcell j hlt 0 _ rfl)
      have c1 := (hb.cell (p := ⟨b, off + j * 3 + 1, none⟩) hbl).trans (hcell j hlt 1 _ rfl)
      have c2 := (hb.cell (p := ⟨b, off + j * 3 + 2, none⟩) hbl).trans (hcell j hlt 2 _ rfl)
      simp only [Nat.add_zero] at c0
      have hall2 : okF l[j] = true → ∀ q (hq : q < l.length), q < j + 1 → okF l[q] = true := fun h q hq hqj => by
        by_cases e : q = j
        · subst e; exact h
        · exact hall q hq (by omega)
      have hno : okF l[j] = false → l.all okF = false := fun h => by
        rw [List.all_eq_false]
        exact ⟨l[j], List.getElem_mem hlt, by rw [h]; simp⟩
      have HA := hide (And.intro hall2 hno)
      have hir := isRight_any (wr.alloc (.cells #[.int .i64 (l[j]).1, .int .i64 (l[j]).2.1, .int .u8 ((l[j]).2.2.toNat : Int)] 35)) l[j]
      clear hcell h4 hall hall2 hno
      generalize l[j] = f at *
      have hb1 : Below w.heap.size w (wr.alloc (.cells #[.int .i64 f.1, .int .i64 f.2.1, .int .u8 (f.2.2.toNat : Int)] 35)) := hb.alloc hb.size _
      have hz1 := heap_last wr (.cells #[.int .i64 f.1, .int .i64 f.2.1, .int .u8 (f.2.2.toNat : Int)] 35)
      generalize hw1 : wr.alloc (.cells #[.int .i64 f.1, .int .i64 f.2.1, .int .u8 (f.2.2.toNat : Int)] 35) = w1 at *
      have d0 := cell_of hz1 0
      have d1 := cell_of hz1 1
      have d2 := cell_of hz1 2
      simp only [List.getElem?_toArray, List.getElem?_cons_zero, List.getElem?_cons_succ] at d0 d1 d2
      unfold fv at hir
      have HB := hide hb1
      clear hb1 hz1 hb
      go_wp2_with fail
      refine hir.mono ?_
      rintro e w2 ⟨rfl, hb2⟩
      have HB2 := hide (HB.out.trans (hb2.mono HB.out.size))
      clear hir hb2
      cases hokf : okF f with
      | true =>
        go_wp2_with fail
        go_roundw
        case rel => exact ⟨j + 1, by go_num, by omega, HA.out.1 hokf, HB2.out⟩
        case measure => simp [intOf]; omega
      | false =>
        go_wp2_with fail
        go_ret2
        exact ⟨HB2.out, .inr ⟨HA.out.2 hokf, rfl⟩⟩
    · obtain rfl : j = l.length := by omega
      have hok : l.all okF = true := by
        rw [List.all_eq_true]
        intro f hf
        obtain ⟨q, hq, rfl⟩ := List.getElem_of_mem hf
        exact hall q hq hq
      have hcl := fclone_any wr _ l (HF.out.below hb) hl
      have HB := hide hb
      have HO := hide hok
      clear hall h4 hok hb
      go_wp2_with fail
      refine hcl.mono ?_
      rintro e w1 ⟨v1, rfl, ho1, hb1⟩
      have hv1 : ∀ k, v1.ownBlock = some k → w.heap.size ≤ k ∧ k < w1.heap.size ∧ ∃ c fr, w1.heap[k]? = some (.cells c 35 fr) := fun k hk => by
        obtain ⟨q1, c, fr, q2⟩ := ho1.kind hk
        exact ⟨by have := HB.out.size; omega, lt_of_heap q2, c, fr, q2⟩
      have HF1 := hide ho1.fs
      have hs1 : w.heap.size ≤ w1.heap.size := Nat.le_trans HB.out.size hb1.size
      have HB1 := hide (HB.out.trans (hb1.mono HB.out.size))
      obtain ⟨a1, cc1, rfl⟩ := own_shape ho1
      have HV1 := hide hv1
      clear hcl ho1 hb1 hv1
      -- the net's block
      have hn2 := heap_last w1 (.cells #[.func (.func g) #[] caps, .nilFunc, .nilFunc, .slice a1 l.length cc1, .int .i64 0] 48)
      have hk2 : Chg (fun _ => False) w1 (w1.alloc (.cells #[.func (.func g) #[] caps, .nilFunc, .nilFunc, .slice a1 l.length cc1, .int .i64 0] 48)) := (Chg.refl _ _).alloc _
      have hs2 : (w1.alloc (.cells #[.func (.func g) #[] caps, .nilFunc, .nilFunc, .slice a1 l.length cc1, .int .i64 0] 48)).heap.size = w1.heap.size + 1 := by simp
      generalize hw2 : w1.alloc (.cells #[.func (.func g) #[] caps, .nilFunc, .nilFunc, .slice a1 l.length cc1, .int .i64 0] 48) = w2 at *
      have nw1 := newWay_any w2 w1.heap.size
      have HN2 := hide (And.intro hn2 (And.intro hk2 hs2))
      clear hn2 hk2 hs2
      go_wp2_with fail
      refine nw1.mono ?_
      rintro e w3 ⟨rfl, ht3, hb3, hs3, k3⟩
      have nw2 := newWay_any w3 w1.heap.size
      have H3 := hide (And.intro ht3 (And.intro hb3 (And.intro hs3 k3)))
      clear nw1 ht3 hb3 hs3 k3
      go_wp2_with fail
      refine nw2.mono ?_
      rintro e w4 ⟨rfl, ht4, hb4, hs4, k4⟩
      have hs2 := HN2.out.2.2
      have hs3 := H3.out.2.2.1
      have n4 := k4.keep (H3.out.2.2.2.keep HN2.out.1 (fun h => h)) (fun h => h)
      have t4 := thawed n4 1
      have u4 := thawed n4 2
      have m1 := cell_of n4 1
      have m2 := cell_of n4 2
      simp only [List.getElem?_toArray, List.getElem?_cons_zero, List.getElem?_cons_succ] at m1 m2
      have n5 := heap_set (heap_set n4 1 (wayV w2.heap.size (w2.heap.size + 1))) 2 (wayV w3.heap.size (w3.heap.size + 1))
      have kS : Chg (· = w1.heap.size) w4 ((w4.setCell ⟨w1.heap.size, 1, none⟩ (wayV w2.heap.size (w2.heap.size + 1))).setCell ⟨w1.heap.size, 2, none⟩ (wayV w3.heap.size (w3.heap.size + 1))) := (chg_set _ _ _ _).then (chg_set _ _ _ _)
      have ktot : Chg (fun _ => False) w1 w4 := HN2.out.2.1.then (H3.out.2.2.2.then k4)
      have HNET : Hid (NetW ((w4.setCell ⟨w1.heap.size, 1, none⟩ (wayV w2.heap.size (w2.heap.size + 1))).setCell ⟨w1.heap.size, 2, none⟩ (wayV w3.heap.size (w3.heap.size + 1))) w1.heap.size (.func (.func g) #[] caps) ⟨l, [], [], 0⟩ ⟨.slice a1 l.length cc1, w2.heap.size, w2.heap.size + 1, .slice none 0 0, w3.heap.size, w3.heap.size + 1, .slice none 0 0⟩ ok) := hide
        { net := n5
          fs := (HF1.out.keep ktot (fun _ _ h => h)).keep kS (fun g hg h => by have := (HV1.out g hg).2.1; omega)
          ft := fun g hg => by
            obtain ⟨-, q, c, fr, hh⟩ := HV1.out g hg
            exact ⟨c, fr, kS.keep (ktot.keep hh (fun h => h)) (by omega)⟩
          int := hI
          tf1 := kS.keep (k4.keep H3.out.1 (fun h => h)) (by show w2.heap.size ≠ _; omega)
          tf2 := kS.keep ht4 (by show w3.heap.size ≠ _; omega)
          bx1 := kS.keep (k4.keep H3.out.2.1 (fun h => h)) (by show w2.heap.size + 1 ≠ _; omega)
          bx2 := kS.keep hb4 (by show w3.heap.size + 1 ≠ _; omega)
          ow1 := Own.nil _ _
          ow2 := Own.nil _ _
          ne := by show w2.heap.size + 1 ≠ w3.heap.size + 1; omega
          nr := fun k hk => by cases hk
          ok1 := fun s hs => by cases hs }
      have HG := hide (show ∀ k, (Gn.mk (.slice a1 l.length cc1) w2.heap.size (w2.heap.size + 1) (.slice none 0 0) w3.heap.size (w3.heap.size + 1) (.slice none 0 0)).has w1.heap.size k → w.heap.size ≤ k from fun k hk => by
        rcases hk with h | h | h | h | h | h | h | h
        · omega
        · have h : k = w2.heap.size := h; omega
        · have h : k = w2.heap.size + 1 := h; omega
        · cases h
        · have h : k = w3.heap.size := h; omega
        · have h : k = w3.heap.size + 1 := h; omega
        · cases h
        · exact (HV1.out k h).1)
      have HBL := hide (show Below w.heap.size w ((w4.setCell ⟨w1.heap.size, 1, none⟩ (wayV w2.heap.size (w2.heap.size + 1))).setCell ⟨w1.heap.size, 2, none⟩ (wayV w3.heap.size (w3.heap.size + 1))) from
        HB1.out.trans ((ktot.mono (fun _ _ h => h.elim)).trans kS (fun i hi h => by omega) |>.below (F := fun _ => False) (fun k hk => hk.elim) hs1))
      clear n4 n5 kS ktot ht4 hb4 hs4 k4 hs2 hs3 nw2 H3 HN2
      unfold wayV at *
      go_wp2_with fail
      go_ret2
      exact ⟨HBL.out, .inl ⟨HO.out, _, _, rfl, HNET.out, HG.out⟩⟩
end Go.Proofs.Ytgjmidlcfjgnhaa
