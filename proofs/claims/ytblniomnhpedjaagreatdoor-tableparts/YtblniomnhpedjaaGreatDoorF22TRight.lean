/-
  Texts joined: TRight, TGroup, TTake, TTakes, TTakes2, TLaid, TGroups.
-/
import Derived.Test.YtblniomnhpedjaaGreatDoorF11TWith
import Derived.Test.YtblniomnhpedjaaGreatDoorF21Log
import Derived.Test.YtblniomnhpedjaaGreatDoorF18Puts
import Derived.Test.YtblniomnhpedjaaGreatDoorF3Made
import Derived.Maps.AppendAt
/-
  Are puts right; how many bytes a group takes at most. Conditions: puts, texts lie there.
-/
namespace Go.Proofs.YtblniomnhpedjaaGreatDoor
open Go.RowKit

def putOkT (p : PutM) : Bool := !decide (2048 < p.1.length) && !decide (4096 < p.2.1.length) && !(p.2.2 && !p.2.1.isEmpty)
/-- The bytes of keys and values. -/
def textT (l : List PutM) : Nat := (l.map fun p => p.1.length + p.2.1.length).sum
/-- May puts be done at once? -/
def rightT (l : List PutM) : Bool := decide (l.length ≤ 2000) && l.all putOkT && decide (textT l ≤ 1048576)
theorem textT_append (a b : List PutM) : textT (a ++ b) = textT a + textT b := by simp [textT]
theorem take_snoc {α : Type} (l : List α) {k : Nat} (h : k < l.length) : l.take (k + 1) = l.take k ++ [l[k]] := by rw [List.take_add_one]; simp [h]
theorem textT_take (l : List PutM) {k : Nat} (h : k < l.length) : textT (l.take (k + 1)) = textT (l.take k) + (l[k].1.length + l[k].2.1.length) := by
  rw [take_snoc l h, textT_append]
  generalize l[k] = x
  simp [textT]
theorem neq_emptyT (t : TypeId) (a : Bs) : binOp .neq t (.string (strB a)) (.string ⟨#[]⟩) = pure (.bool (!a.isEmpty)) := by
  cases a <;> simp [binOp, Op.stringOp, strB]
theorem right_no {l : List PutM} {k : Nat} (h : k < l.length) (hx : putOkT l[k] = false) : rightT l = false := by
  have : l.all putOkT = false := by
    rw [Bool.eq_false_iff]
    intro hc
    have := List.all_eq_true.1 hc l[k] (List.getElem_mem h)
    rw [hx] at this
    cases this
  unfold rightT
  rw [this]
  simp
theorem right_step {l : List PutM} {k : Nat} (h : k < l.length) (ha : (l.take k).all putOkT = true) (hx : putOkT l[k] = true) : (l.take (k + 1)).all putOkT = true := by
  rw [take_snoc l h, List.all_append, ha]
  simpa using hx
set_option maxRecDepth 40000 in
set_option maxHeartbeats 1600000 in
theorem areRight_any (w : World) (l : List PutM) (v : Value) (hv : PsT w v l) :
    Calls Tryz.prog 49 #[v] w fun e w' => e = .returned (.bool (rightT l)) ∧ Chg (fun _ => False) w w' := by
  obtain ⟨ao, cap, rfl, h1, h2, h4⟩ := hv
  unfold maxLen at h2
  by_cases hmany : 2000 < l.length
  · have q0 : decide ((2000 : Int) < (l.length : Int)) = true := decide_eq_true (by omega)
    have HN : Hid (rightT l = false) := hide (by unfold rightT; rw [decide_eq_false (by omega)]; rfl)
    clear h4
    go_enter Tryz.func49, Tryz.ntmps49
    go_wp2
    go_ret
    exact ⟨by rw [HN.out]; rfl, Chg.refl _ _⟩
  have q0 : decide ((2000 : Int) < (l.length : Int)) = false := decide_eq_false (by omega)
  go_enter Tryz.func49, Tryz.ntmps49
  go_wp2_with fail
  go_loopw [11, 3] (fun t u wr => ∃ k : Nat, k ≤ l.length ∧ t = .int .i64 k ∧ u = .int .i64 (textT (l.take k)) ∧ textT (l.take k) ≤ k * 6144 ∧ (l.take k).all putOkT = true ∧ Chg (fun _ => False) w wr)
    (fun t _ _ => l.length - (intOf t).toNat)
  case atStart => exact ⟨0, by omega, rfl, rfl, by simp [textT], rfl, Chg.refl _ _⟩
  case round =>
    obtain ⟨k, hk, rfl, rfl, hsum, hok, hch⟩ := hrel
    by_cases hlt : k < l.length
    · obtain ⟨b, off, rfl, hbl, hc⟩ := h4 (by intro e; rw [e] at hlt; simp at hlt)
      have c0 := (World.cell?_of_block (w := w) (a := ⟨b, off + k * 3 + 0, none⟩) (hch.block b hbl (fun h => h))).trans (hc k hlt 0 _ rfl)
      have c1 := (World.cell?_of_block (w := w) (a := ⟨b, off + k * 3 + 1, none⟩) (hch.block b hbl (fun h => h))).trans (hc k hlt 1 _ rfl)
      have c2 := (World.cell?_of_block (w := w) (a := ⟨b, off + k * 3 + 2, none⟩) (hch.block b hbl (fun h => h))).trans (hc k hlt 2 _ rfl)
      have hno := fun h => right_no (l := l) hlt h
      have hst := fun h => right_step (l := l) hlt hok h
      have htt := textT_take l hlt
      generalize l[k] = x at *
      have hb1 := hch.trans (quiet1 wr (putO x)) (fun _ _ h => h)
      have hx1 := strB_size x.1
      have hx2 := strB_size x.2.1
      have hne := neq_emptyT 9 x.2.1
      obtain ⟨tk, htk⟩ : ∃ tk, tk = textT (l.take k) := ⟨_, rfl⟩
      obtain ⟨tn, htn⟩ : ∃ tn, tn = textT (l.take (k + 1)) := ⟨_, rfl⟩
      rw [← htk] at htt hsum
      rw [← htn] at htt
      rw [← htk]
      have hput : putOkT x = (!decide (2048 < x.1.length) && !decide (4096 < x.2.1.length) && !(x.2.2 && !x.2.1.isEmpty)) := rfl
      have HH := hide (And.intro hno (And.intro hst (And.intro hb1 (And.intro hput (And.intro htt (And.intro hsum htn))))))
      try simp only [Nat.add_zero] at c0 c1 c2
      clear hno hst hb1 hput hc hch hok htt htk htn hsum
      have HB1 := hide HH.out.2.2.1
      by_cases hk1 : 2048 < x.1.length
      · have qa : decide ((2048 : Int) < (x.1.length : Int)) = true := decide_eq_true (by omega)
        have HN : Hid (rightT l = false) := hide (HH.out.1 (by rw [HH.out.2.2.2.1, decide_eq_true hk1]; rfl))
        go_wp2
        go_ret
        exact ⟨by rw [HN.out]; rfl, HB1.out⟩
      have qa : decide ((2048 : Int) < (x.1.length : Int)) = false := decide_eq_false (by omega)
      by_cases hk2 : 4096 < x.2.1.length
      · have qb : decide ((4096 : Int) < (x.2.1.length : Int)) = true := decide_eq_true (by omega)
        have HN : Hid (rightT l = false) := hide (HH.out.1 (by rw [HH.out.2.2.2.1, decide_eq_false hk1, decide_eq_true hk2]; rfl))
        go_wp2
        go_ret
        exact ⟨by rw [HN.out]; rfl, HB1.out⟩
      have qb : decide ((4096 : Int) < (x.2.1.length : Int)) = false := decide_eq_false (by omega)
      have hadd1 : IntKind.i64.wrap ((x.1.length : Int) + (x.2.1.length : Int)) = (x.1.length : Int) + (x.2.1.length : Int) := by simp [IntKind.wrap, IntKind.bits, IntKind.signed]; omega
      have hadd2 : IntKind.i64.wrap ((tk : Int) + ((x.1.length : Int) + (x.2.1.length : Int))) = (tn : Int) := by
        have h3 := HH.out.2.2.2.2.1
        have h4 := HH.out.2.2.2.2.2.1
        rw [show (tk : Int) + ((x.1.length : Int) + (x.2.1.length : Int)) = (tn : Int) by omega]
        simp [IntKind.wrap, IntKind.bits, IntKind.signed]
        omega
      cases hgo : x.2.2 with
      | false =>
        rw [hgo] at c2
        have hb1 := HH.out.2.2.1
        simp only [putO, hgo] at hb1
        have HB1 := hide hb1
        clear hb1
        have HN : Hid ((l.take (k + 1)).all putOkT = true) := hide (HH.out.2.1 (by rw [HH.out.2.2.2.1, hgo, decide_eq_false hk1, decide_eq_false hk2]; rfl))
        go_wp2_with fail
        go_roundw
        case rel => exact ⟨k + 1, by omega, by go_num, by rw [← HH.out.2.2.2.2.2.2], by rw [← HH.out.2.2.2.2.2.2]; have := HH.out.2.2.2.2.1; have := HH.out.2.2.2.2.2.1; omega, HN.out, HB1.out⟩
        case measure => simp [intOf]; omega
      | true =>
        rw [hgo] at c2
        have hb1 := HH.out.2.2.1
        simp only [putO, hgo] at hb1
        have HB1 := hide hb1
        clear hb1
        cases hem : x.2.1.isEmpty with
        | false =>
          rw [hem] at hne
          have HN : Hid (rightT l = false) := hide (HH.out.1 (by rw [HH.out.2.2.2.1, hgo, hem, decide_eq_false hk1, decide_eq_false hk2]; rfl))
          go_wp2
          go_ret
          exact ⟨by rw [HN.out]; rfl, HB1.out⟩
        | true =>
          rw [hem] at hne
          have HN : Hid ((l.take (k + 1)).all putOkT = true) := hide (HH.out.2.1 (by rw [HH.out.2.2.2.1, hgo, hem, decide_eq_false hk1, decide_eq_false hk2]; rfl))
          go_wp2_with fail
          go_roundw
          case rel => exact ⟨k + 1, by omega, by go_num, by rw [← HH.out.2.2.2.2.2.2], by rw [← HH.out.2.2.2.2.2.2]; have := HH.out.2.2.2.2.1; have := HH.out.2.2.2.2.2.1; omega, HN.out, HB1.out⟩
          case measure => simp [intOf]; omega
    · have hkl : k = l.length := by omega
      subst hkl
      rw [List.take_length] at hok hsum ⊢
      have HN : Hid (rightT l = decide (textT l ≤ 1048576)) := hide (by unfold rightT; rw [hok, decide_eq_true (show l.length ≤ 2000 by omega)]; rfl)
      have HC := hide hch
      generalize textT l = tt at *
      clear hok hch hsum
      by_cases hle : tt ≤ 1048576
      · have q1 : decide ((tt : Int) ≤ 1048576) = true := decide_eq_true (by omega)
        go_wp2
        go_ret
        exact ⟨by rw [HN.out, decide_eq_true hle]; rfl, HC.out⟩
      · have q1 : decide ((tt : Int) ≤ 1048576) = false := decide_eq_false (by omega)
        go_wp2
        go_ret
        exact ⟨by rw [HN.out, decide_eq_false hle]; rfl, HC.out⟩
end Go.Proofs.YtblniomnhpedjaaGreatDoor

/-
  Puts as records; how many bytes a group takes at most. Conditions: puts, texts lie there; lengths within reach.
-/
namespace Go.Proofs.YtblniomnhpedjaaGreatDoor
open Go.RowKit

/-- A put as a record. -/
def recT (p : PutM) : Bs := txt p.1 ++ if p.2.2 then [] else txt p.2.1
theorem txt_of (r : Bs) : Pl.enc (Pl.zz (strB r).size) ++ (strB r).data.toList = txt r := by have := txt_put r; rwa [List.nil_append] at this
theorem txt_le (r : Bs) : (txt r).length ≤ r.length + 10 := by
  have := num_length r.length
  unfold txt
  rw [List.length_append]
  omega
set_option maxRecDepth 20000 in
set_option maxHeartbeats 1600000 in
theorem putGroupT_any (w : World) (v : Value) (l : List PutM) (hv : PsT w v l) (hn : l.length ≤ 1000000) (hs : ∀ p ∈ l, p.1.length ≤ 1000000 ∧ p.2.1.length ≤ 1000000) :
    Calls Tryz.prog 68 #[v] w fun e w' => ∃ u, e = .returned u ∧ w'.ownsRow w.heap.size 9 1 u (l.map recT).length (tcW (l.map recT)) ∧ Below w.heap.size w w' := by
  obtain ⟨ao, cap, rfl, h1, h2, h4⟩ := hv
  unfold maxLen at h2
  obtain ⟨i0, hi0, hz0, hz1, hz2⟩ := info_parts Tryz.infoT
  go_enter Tryz.func68, Tryz.ntmps68
  go_wp2_with fail
  go_loopw [9, 3] (fun t u wr => ∃ k : Nat, k ≤ l.length ∧ t = .int .i64 k ∧ wr.ownsRow w.heap.size 9 1 u ((l.take k).map recT).length (tcW ((l.take k).map recT)) ∧ Below w.heap.size w wr)
    (fun t _ _ => l.length - (intOf t).toNat)
  case atStart => exact ⟨0, by omega, rfl, World.ownsRow_nil _ _ _ _, Below.refl _ _⟩
  case round =>
    obtain ⟨k, hk, rfl, hrow, hbr⟩ := hrel
    by_cases hlt : k < l.length
    · obtain ⟨b, off, rfl, hbl, hc⟩ := h4 (by intro e; rw [e] at hlt; simp at hlt)
      have c0 := (hbr.cell (p := ⟨b, off + k * 3 + 0, none⟩) hbl).trans (hc k hlt 0 _ rfl)
      have c1 := (hbr.cell (p := ⟨b, off + k * 3 + 1, none⟩) hbl).trans (hc k hlt 1 _ rfl)
      have c2 := (hbr.cell (p := ⟨b, off + k * 3 + 2, none⟩) hbl).trans (hc k hlt 2 _ rfl)
      have hsk := hs _ (List.getElem_mem hlt)
      have htk : (l.take (k + 1)).map recT = (l.take k).map recT ++ [recT l[k]] := by rw [take_snoc l hlt, List.map_append]; rfl
      generalize l[k] = x at *
      have hlen : ((l.take k).map recT).length ≤ 1000000 := by rw [List.length_map, List.length_take]; omega
      generalize (l.take k).map recT = acc at *
      try simp only [Nat.add_zero] at c0 c1 c2
      have hbA : Below wr.heap.size wr (wr.alloc (putO x)) := (Below.refl _ _).alloc (Nat.le_refl _) _
      have hxA := heap_last wr (putO x)
      have hp1 := putText_any (wr.alloc (putO x)) (.slice none 0 0) [] (strB x.1) (Sl.nil _) (by rw [strB_size]; simp; omega)
      rw [txt_of, List.nil_append] at hp1
      have HH := hide (And.intro hrow (And.intro hbr (And.intro hbA (And.intro hxA htk))))
      obtain ⟨ua, uc, rfl, -⟩ := own_form hrow
      clear hc hrow hbr hbA htk
      cases hgo : x.2.2 with
      | true =>
        have hxr : recT x = txt x.1 := by unfold recT; rw [hgo]; simp
        rw [hgo] at c2
        simp only [putO, hgo] at hp1
        have hxA2 := hxA
        have hbA2 := HH.out.2.2.1
        simp only [putO, hgo] at hxA2 hbA2
        have HX := hide (And.intro hxA2 hbA2)
        clear hxA hxA2 hbA2
        have HXR := hide hxr
        clear hxr
        go_wp2_with fail
        refine hp1.mono ?_
        rintro e w1 ⟨g, m, cp, rfl, -, -, hsl, hb1⟩
        have hcv : (convert 68 9 (.slice (some ⟨g, 0, none⟩) m cp)).run Tryz.prog w1 = .ok (.string (strB (recT x))) w1 := by rw [HXR.out]; exact run_strW w1 _ _ hsl
        have hb1w := HX.out.2.trans (hb1.mono HX.out.2.size)
        have y2 := cell_of ((hb1.block _ (lt_of_heap HX.out.1)).trans HX.out.1) 2
        simp only [List.getElem?_toArray, List.getElem?_cons_zero, List.getElem?_cons_succ] at y2
        have HR := hide (And.intro (own_keepB HH.out.1 hb1w) (HH.out.2.1.trans (hb1w.mono HH.out.2.1.size)))
        clear hp1 hsl hb1 hb1w
        go_wp2_with (at_builtin; refine wpList_append_own _ rfl (.tmp 23) (.tmp 26) 58 rfl w.heap.size 9 i0 (.string ⟨#[]⟩) 1 16 Tryz.underlying58 hi0 hz0 hz1 hz2 rfl (by decide) _ _ _ rfl (HR.out.1.alloc _) ⟨w1.heap.size, 0, none⟩ 1 1 [.string (strB (recT x))] rfl rfl (cell_one_new _ _ _) (by simp [Value.oneCell']) (by unfold maxLen; omega) (by omega) (by have := HR.out.2.size; simp; omega) ?_)
        intro v2 w9 hown2 hgrow2 _
        have hb9 : Below w.heap.size w w9 := (HR.out.2.alloc HR.out.2.size _).grown hgrow2 (by have := HR.out.2.size; simp; omega) (fun k hk => (HR.out.1.lt k hk).1)
        obtain ⟨a3, c3, rfl, -⟩ := own_form hown2
        have HF := hide (And.intro hown2 hb9)
        clear hgrow2 hown2 hb9
        go_wp2
        go_roundw
        case rel => exact ⟨k + 1, by omega, by go_num, by rw [HH.out.2.2.2.2, tcW_snoc, List.length_append]; exact HF.out.1, HF.out.2⟩
        case measure => simp [intOf]; omega
      | false =>
        have hxr : recT x = txt x.1 ++ txt x.2.1 := by unfold recT; rw [hgo]; simp
        rw [hgo] at c2
        simp only [putO, hgo] at hp1
        have hxA2 := hxA
        have hbA2 := HH.out.2.2.1
        simp only [putO, hgo] at hxA2 hbA2
        have HX := hide (And.intro hxA2 hbA2)
        clear hxA hxA2 hbA2
        have HXR := hide hxr
        clear hxr
        go_wp2_with fail
        refine hp1.mono ?_
        rintro e w1 ⟨g, m, cp, rfl, -, -, hsl, hb1⟩
        have hx1 := (hb1.block _ (lt_of_heap HX.out.1)).trans HX.out.1
        have y1 := cell_of hx1 1
        have y2 := cell_of hx1 2
        simp only [List.getElem?_toArray, List.getElem?_cons_zero, List.getElem?_cons_succ] at y1 y2
        have hp2 := putText_any w1 _ _ (strB x.2.1) hsl (by rw [strB_size]; have := txt_le x.1; omega)
        rw [txt_of, ← HXR.out] at hp2
        have hb1w := HX.out.2.trans (hb1.mono HX.out.2.size)
        have HB1 := hide hb1w
        clear hp1 hsl hb1 hb1w hx1
        go_wp2_with fail
        refine hp2.mono ?_
        rintro e w2 ⟨g2, m2, cp2, rfl, -, -, hsl2, hb2⟩
        have hcv : (convert 68 9 (.slice (some ⟨g2, 0, none⟩) m2 cp2)).run Tryz.prog w2 = .ok (.string (strB (recT x))) w2 := run_strW w2 _ _ hsl2
        have hb2w := HB1.out.trans (hb2.mono HB1.out.size)
        have HR := hide (And.intro (own_keepB HH.out.1 hb2w) (HH.out.2.1.trans (hb2w.mono HH.out.2.1.size)))
        clear hp2 hsl2 hb2 hb2w
        go_wp2_with (at_builtin; refine wpList_append_own _ rfl (.tmp 23) (.tmp 26) 58 rfl w.heap.size 9 i0 (.string ⟨#[]⟩) 1 16 Tryz.underlying58 hi0 hz0 hz1 hz2 rfl (by decide) _ _ _ rfl (HR.out.1.alloc _) ⟨w2.heap.size, 0, none⟩ 1 1 [.string (strB (recT x))] rfl rfl (cell_one_new _ _ _) (by simp [Value.oneCell']) (by unfold maxLen; omega) (by omega) (by have := HR.out.2.size; simp; omega) ?_)
        intro v2 w9 hown2 hgrow2 _
        have hb9 : Below w.heap.size w w9 := (HR.out.2.alloc HR.out.2.size _).grown hgrow2 (by have := HR.out.2.size; simp; omega) (fun k hk => (HR.out.1.lt k hk).1)
        obtain ⟨a3, c3, rfl, -⟩ := own_form hown2
        have HF := hide (And.intro hown2 hb9)
        clear hgrow2 hown2 hb9
        go_wp2
        go_roundw
        case rel => exact ⟨k + 1, by omega, by go_num, by rw [HH.out.2.2.2.2, tcW_snoc, List.length_append]; exact HF.out.1, HF.out.2⟩
        case measure => simp [intOf]; omega
    · have hkl : k = l.length := by omega
      subst hkl
      rw [List.take_length] at hrow
      obtain ⟨ua, uc, rfl, -⟩ := own_form hrow
      have HR := hide (And.intro hrow hbr)
      clear hrow hbr
      go_wp2
      go_ret
      exact ⟨_, rfl, HR.out.1, HR.out.2⟩
end Go.Proofs.YtblniomnhpedjaaGreatDoor

/-
  takePut: what a record says. Conditions: its bytes lie there.
-/
namespace Go.Proofs.YtblniomnhpedjaaGreatDoor
open Go.RowKit

/-- What a record says, plainly. -/
def takeR (b : Bs) : Option PutM := match takeT b 0 2048 with
  | none => none
  | some (key, q) => if q = b.length then some (key, ([], true)) else match takeT b q 4096 with
    | none => none
    | some (val, r) => if r = b.length then some (key, (val, false)) else none
/-- What was laid is read as it was. -/
theorem takeR_put (p : PutM) (h : putOkT p = true) : takeR (recT p) = some p := by
  unfold putOkT at h
  simp only [Bool.and_eq_true, Bool.not_eq_true', decide_eq_false_iff_not] at h
  obtain ⟨⟨h1, h2⟩, h3⟩ := h
  obtain ⟨key, val, gone⟩ := p
  simp only at h1 h2 h3
  unfold takeR recT
  cases gone with
  | true =>
    have hv : val = [] := by cases val with
      | nil => rfl
      | cons a r => simp at h3
    subst hv
    have := takeT_put [] [] key 2048 (by omega) (by omega)
    simp only [List.nil_append, List.append_nil, List.length_nil, Nat.zero_add] at this
    simp only [if_true, List.append_nil]
    rw [show ((0 : Nat) : Int) = 0 from rfl] at this
    rw [this]
    simp
  | false =>
    have k1 := takeT_put [] (txt val) key 2048 (by omega) (by omega)
    simp only [List.nil_append, List.length_nil, Nat.zero_add] at k1
    rw [show ((0 : Nat) : Int) = 0 from rfl] at k1
    have k2 := takeT_put (txt key) [] val 4096 (by omega) (by omega)
    rw [List.append_nil] at k2
    have hpos : 0 < (txt val).length := by have := num_length val.length; unfold txt; rw [List.length_append]; omega
    simp only [Bool.false_eq_true, if_false]
    rw [k1]
    simp only
    rw [if_neg (by rw [List.length_append]; omega), k2]
    simp
theorem takeT_end {b t : Bs} {p most : Int} {q : Nat} (h : takeT b p most = some (t, q)) : q ≤ b.length := by
  unfold takeT at h
  split at h
  · cases h
  · split at h
    · cases h
    · injection h with h
      injection h with h1 h2
      omega
abbrev putV (p : PutM) : Value := .agg #[.string (strB p.1), .string (strB p.2.1), .bool p.2.2]
theorem Tryz.infoPut : (Tryz.prog.info? 73).map (·.size) = some 3 := by kernel_rfl
theorem results_cell_tmpT {P : Program} {fn : Func} {p u : Tmp} {ty : TypeId} (h : fn.results = #[.cell p ty, .tmp u]) (tmps : Array Value) (w : World) (g : Nat) (t : TypeId) (cs : Array Value) (fr : Nat × Nat) (d : TypeDesc)
    (hp : tmps.getD p undef = .pointer (some ⟨g, 0, none⟩)) (hg : w.heap[g]? = some (.cells cs t fr))
    (hu : P.underlying ty = some d) (hd : (match d with | .struct _ | .array _ _ => true | _ => false) = true) (hi : (P.info? ty).map (·.size) = some cs.size) :
    (results fn tmps).run P w = .ok (.tuple #[.agg cs, tmps.getD u undef]) w := by
  have hp' : tmps[p]?.getD undef = .pointer (some ⟨g, 0, none⟩) := by simpa using hp
  rw [results_cell_tmp h]
  simp [hp', asAddr, run_loadVar_row w g t ty cs fr d hg hu hd hi]
/-- What takePut answers. -/
def takeV (r : Option PutM) (e : Ending) : Prop := match r with
  | some p => e = .returned (.tuple #[putV p, .bool true])
  | none => ∃ p : PutM, e = .returned (.tuple #[putV p, .bool false])
set_option maxRecDepth 20000 in
set_option maxHeartbeats 800000 in
theorem takePut_any (w : World) (v : Value) (b : Bs) (h : Sl w v b) (hl : b.length ≤ 1000000000) :
    Calls Tryz.prog 79 #[v] w fun e w' => takeV (takeR b) e ∧ Below w.heap.size w w' := by
  have hA : ∀ cs : List Value, Below w.heap.size w (w.alloc (.cells cs.toArray 73)) := fun cs => (Below.refl _ _).alloc (Nat.le_refl _) _
  have hA0 := hA [.string ⟨#[]⟩, .string ⟨#[]⟩, .bool false]
  have hs := h.keepB hA0
  have hsd := h
  obtain ⟨ao, cap, rfl, -⟩ := hsd
  cases h1 : takeT b 0 2048 with
  | none =>
    have hR : takeR b = none := by unfold takeR; rw [h1]
    have ht := takeText_none _ _ b 0 2048 hs (by omega) h1
    rw [hR]
    clear hR h1 hs h
    go_enter Tryz.func79, Tryz.ntmps79
    go_wp2_with fail
    refine ht.mono ?_
    rintro e w1 ⟨rfl, rfl⟩
    go_wp2
    refine bodyPost_ret (results_cell_tmpT rfl _ _ _ _ _ _ _ rfl (heap_last w _) Tryz.underlying73 rfl Tryz.infoPut) rfl ?_
    exact ⟨⟨([], ([], false)), rfl⟩, hA [.string (strB []), .string (strB []), .bool false]⟩
  | some kq =>
    obtain ⟨key, q⟩ := kq
    have ht : Calls Tryz.prog _ _ _ fun e w' => e = .returned (.tuple #[.string (strB key), .int .i64 (q : Int), .bool true]) ∧ w' = _ := takeText_some _ _ b 0 2048 key q hs (by omega) h1
    have hq := takeT_end h1
    by_cases hqe : q = b.length
    · have hR : takeR b = some (key, ([], true)) := by unfold takeR; rw [h1]; simp only; rw [if_pos hqe]
      have q1 : ((q : Int) == (b.length : Int)) = true := by simp [hqe]
      rw [hR]
      clear hR h1 hs h hqe hq
      go_enter Tryz.func79, Tryz.ntmps79
      go_wp2_with fail
      refine ht.mono ?_
      rintro e w1 ⟨rfl, rfl⟩
      go_wp2
      refine bodyPost_ret (results_cell_tmpT rfl _ _ _ _ _ _ _ rfl (heap_last w _) Tryz.underlying73 rfl Tryz.infoPut) rfl ?_
      exact ⟨rfl, hA [.string (strB key), .string (strB []), .bool true]⟩
    · have q1 : ((q : Int) == (b.length : Int)) = false := by simpa using fun e => hqe (by omega)
      cases h2 : takeT b q 4096 with
      | none =>
        have hR : takeR b = none := by unfold takeR; rw [h1]; simp only; rw [if_neg hqe, h2]
        have ht2 := takeText_none _ _ b q 4096 hs (by omega) h2
        rw [hR]
        clear hR h1 h2 hs h hqe hq
        go_enter Tryz.func79, Tryz.ntmps79
        go_wp2_with fail
        refine ht.mono ?_
        rintro e w1 ⟨rfl, rfl⟩
        go_wp2_with fail
        refine ht2.mono ?_
        rintro e w2 ⟨rfl, rfl⟩
        go_wp2
        refine bodyPost_ret (results_cell_tmpT rfl _ _ _ _ _ _ _ rfl (heap_last w _) Tryz.underlying73 rfl Tryz.infoPut) rfl ?_
        exact ⟨⟨(key, ([], false)), rfl⟩, hA [.string (strB key), .string (strB []), .bool false]⟩
      | some vr =>
        obtain ⟨val, r⟩ := vr
        have ht2 : Calls Tryz.prog _ _ _ fun e w' => e = .returned (.tuple #[.string (strB val), .int .i64 (r : Int), .bool true]) ∧ w' = _ := takeText_some _ _ b q 4096 val r hs (by omega) h2
        by_cases hre : r = b.length
        · have hR : takeR b = some (key, (val, false)) := by unfold takeR; rw [h1]; simp only; rw [if_neg hqe, h2]; simp only; rw [if_pos hre]
          have q2 : ((r : Int) == (b.length : Int)) = true := by simp [hre]
          rw [hR]
          clear hR h1 h2 hs h hqe hq hre
          go_enter Tryz.func79, Tryz.ntmps79
          go_wp2_with fail
          refine ht.mono ?_
          rintro e w1 ⟨rfl, rfl⟩
          go_wp2_with fail
          refine ht2.mono ?_
          rintro e w2 ⟨rfl, rfl⟩
          go_wp2
          refine bodyPost_ret (results_cell_tmpT rfl _ _ _ _ _ _ _ rfl (heap_last w _) Tryz.underlying73 rfl Tryz.infoPut) rfl ?_
          exact ⟨rfl, hA [.string (strB key), .string (strB val), .bool false]⟩
        · have hR : takeR b = none := by unfold takeR; rw [h1]; simp only; rw [if_neg hqe, h2]; simp only; rw [if_neg hre]
          have q2 : ((r : Int) == (b.length : Int)) = false := by simpa using fun e => hre (by omega)
          rw [hR]
          clear hR h1 h2 hs h hqe hq hre
          go_enter Tryz.func79, Tryz.ntmps79
          go_wp2_with fail
          refine ht.mono ?_
          rintro e w1 ⟨rfl, rfl⟩
          go_wp2_with fail
          refine ht2.mono ?_
          rintro e w2 ⟨rfl, rfl⟩
          go_wp2
          refine bodyPost_ret (results_cell_tmpT rfl _ _ _ _ _ _ _ rfl (heap_last w _) Tryz.underlying73 rfl Tryz.infoPut) rfl ?_
          exact ⟨⟨(key, (val, false)), rfl⟩, hA [.string (strB key), .string (strB val), .bool false]⟩
end Go.Proofs.YtblniomnhpedjaaGreatDoor

/-
  takePuts: what a group's records say. Conditions: they lie there; lengths within reach.
-/
namespace Go.Proofs.YtblniomnhpedjaaGreatDoor
open Go.RowKit

/-- '[]byte(s)'. -/
theorem tobytesT (w : World) (l : Bs) (hl : l.length ≤ maxLen) : ∃ ao cap w', (convert 9 68 (.string (strB l))).run Tryz.prog w = .ok (.slice ao l.length cap) w' ∧ Sl w' (.slice ao l.length cap) l ∧ Below w.heap.size w w' := by
  have hs : (strB l).size = l.length := strB_size l
  have hr := run_bytes_of_string (P := Tryz.prog) w 9 68 5 (strB l) Tryz.underlying9 Tryz.underlying68 Tryz.underlying5
  rw [hs] at hr
  have hge := grownCap_ge w l.length 0 5
  have hle := grownCap_le_maxLen w l.length 0 5 hl
  refine ⟨_, _, _, hr, ?_, ((Below.refl _ w).drew).alloc (by simp) _⟩
  refine ⟨_, _, rfl, by omega, hle, by simp, fun _ => ⟨w.heap.size, 0, rfl, by simp, fun j hj => ?_⟩⟩
  have h := heap_last w.drew (.cells (bytesRow (strB l) (grownCap w l.length 0 5)) 5 ((bytesRow (strB l) (grownCap w l.length 0 5)).size, (bytesRow (strB l) (grownCap w l.length 0 5)).size + 1))
  rw [show w.drew.heap.size = w.heap.size from rfl] at h
  rw [Nat.zero_add, cell_of h, bytesRow_at (strB l) _ j (by show j < l.toArray.size; simpa using hj)]
  simp [strB]
/-- What records say, all of them. -/
def takeL : List Bs → Option (List PutM)
  | [] => some []
  | r :: t => match takeR r, takeL t with
    | some p, some l => some (p :: l)
    | _, _ => none
theorem takeL_snoc (a : List Bs) (r : Bs) : takeL (a ++ [r]) = (takeL a).bind fun l => (takeR r).map fun p => l ++ [p] := by
  induction a with
  | nil => simp only [List.nil_append, takeL]; cases takeR r <;> rfl
  | cons x t ih =>
    rw [List.cons_append, takeL, ih, takeL]
    cases takeR x <;> cases takeL t <;> cases takeR r <;> rfl
theorem takeL_no {rs : List Bs} {k : Nat} (h : k < rs.length) (hx : takeR rs[k] = none) : takeL rs = none := by
  induction rs generalizing k with
  | nil => simp at h
  | cons x t ih =>
    cases k with
    | zero => simp only [List.getElem_cons_zero] at hx; rw [takeL, hx]
    | succ k =>
      simp only [List.getElem_cons_succ] at hx
      rw [takeL, ih (by simpa using h) hx]
      cases takeR x <;> rfl
theorem takeL_length : ∀ (rs : List Bs) (l : List PutM), takeL rs = some l → l.length = rs.length
  | [], l, h => by rw [takeL] at h; injection h with h; subst h; rfl
  | r :: t, l, h => by
    rw [takeL] at h
    cases h1 : takeR r with
    | none => rw [h1] at h; cases h
    | some p =>
      cases h2 : takeL t with
      | none => rw [h1, h2] at h; cases h
      | some m =>
        rw [h1, h2] at h
        injection h with h
        subst h
        rw [List.length_cons, List.length_cons, takeL_length t m h2]
/-- What was laid is read as it was. -/
theorem takeL_put : ∀ (l : List PutM), l.all putOkT = true → takeL (l.map recT) = some l
  | [], _ => rfl
  | p :: r, h => by
    rw [List.all_cons, Bool.and_eq_true] at h
    rw [List.map_cons, takeL, takeR_put p h.1, takeL_put r h.2]
/-- A row of puts of its own. -/
abbrev OwnP (B : Nat) (w : World) (v : Value) (l : List PutM) : Prop := w.ownsRow B 73 3 v l.length (l.flatMap putC)
theorem flatP_at : ∀ (ys : List PutM) (j i : Nat) (h : j < ys.length) (u : Value), (putC (ys[j]'h))[i]? = some u → (ys.flatMap putC)[j * 3 + i]? = some u
  | y :: ys, 0, i, _, u, hu => by
    have hi : i < 3 := by have := (List.getElem?_eq_some_iff.1 hu).1; simpa [putC] using this
    rw [List.flatMap_cons, Nat.zero_mul, Nat.zero_add, List.getElem?_append_left (by simpa [putC] using hi)]
    exact hu
  | y :: ys, j + 1, i, h, u, hu => by
    have := flatP_at ys j i (by simpa using h) u hu
    rw [List.flatMap_cons, List.getElem?_append_right (by simp [putC]; omega)]
    rw [show (j + 1) * 3 + i - (putC y).length = j * 3 + i by simp [putC]; omega]
    exact this
theorem OwnP.ps {B : Nat} {w : World} {v : Value} {l : List PutM} (h : OwnP B w v l) : PsT w v l := by
  have h' := h
  obtain ⟨-, ⟨rfl, h0⟩ | ⟨g, cap, cur, rfl, -, hh, hc, hm, -⟩⟩ := h'
  · obtain rfl : l = [] := List.eq_nil_of_length_eq_zero h0
    exact PsT.nil w
  · refine ⟨_, _, rfl, hc, hm, fun _ => ⟨g, 0, rfl, lt_of_heap hh, fun j hj i u hu => ?_⟩⟩
    have := World.ownsRow.cells h (g := g) rfl _ _ (flatP_at l j i hj u hu)
    rw [Addr.add_lit] at this
    rwa [Nat.add_assoc]
end Go.Proofs.YtblniomnhpedjaaGreatDoor

/-
  takePuts, walked. Conditions: the records lie there; lengths within reach.
-/
namespace Go.Proofs.YtblniomnhpedjaaGreatDoor
open Go.RowKit

theorem Tryz.zPut : (Tryz.prog.info? 73).map (fun i => (i.zero, i.size, i.bytes)) = some (some (.agg #[.string ⟨#[]⟩, .string ⟨#[]⟩, .bool false]), 3, 40) := by kernel_rfl
theorem app_put (w : World) (B : Nat) (v : Value) (xs : List PutM) (p : PutM) (h : OwnP B w v xs) (hB : B ≤ w.heap.size) (hn : xs.length ≤ 4294967296) :
    ∃ v' w', (Builtin.append_ #[27, 27] 27 #[v, .slice (some ⟨w.heap.size, 0, none⟩) 1 1]).run Tryz.prog (w.alloc (putO p)) = .ok v' w' ∧
      OwnP B w' v' (xs ++ [p]) ∧ (w.alloc (putO p)).grownBy w' v.ownBlock := by
  obtain ⟨i0, hi, hz0, hz1, hz2⟩ := info_parts Tryz.zPut
  have hx := heap_last w (putO p)
  obtain ⟨v', w', h1, h2, h3, -, h4⟩ := run_append_own_at (P := Tryz.prog) (w.alloc (putO p)) B 27 27 73 i0 (.agg #[.string ⟨#[]⟩, .string ⟨#[]⟩, .bool false]) 3 40 Tryz.underlying27 hi hz0 hz1 hz2 rfl (by decide) v xs.length (xs.flatMap putC) (h.alloc _) ⟨w.heap.size, 0, none⟩ 1 1 (putC p) rfl (fun j u hu => by
      rw [Addr.add_lit, Nat.zero_add, cell_of hx, List.getElem?_toArray]; exact hu) (by simp [putC, Value.oneCell']) (by unfold maxLen; omega) (by omega) (by simp; omega)
  refine ⟨v', w', h1, ?_, h3⟩
  rw [OwnP, List.length_append, List.flatMap_append]
  simpa using h2
/-- What takePuts answers. -/
def takeLV (B : Nat) (w : World) (r : Option (List PutM)) (e : Ending) : Prop := match r with
  | some l => ∃ u, e = .returned (.tuple #[u, .bool true]) ∧ OwnP B w u l
  | none => e = .returned (.tuple #[.slice none 0 0, .bool false])
set_option maxRecDepth 20000 in
set_option maxHeartbeats 1600000 in
theorem takePuts_any (w : World) (v : Value) (rs : List Bs) (hv : Tx w v rs) (hn : rs.length ≤ 100000000) (hs : ∀ r ∈ rs, r.length ≤ 1000000000) :
    Calls Tryz.prog 59 #[v] w fun e w' => takeLV w.heap.size w' (takeL rs) e ∧ Below w.heap.size w w' := by
  have HV := hide hv
  obtain ⟨ao, cap, rfl, h1, h2, h4⟩ := hv
  unfold maxLen at h2
  go_enter Tryz.func59, Tryz.ntmps59
  go_wp2_with fail
  go_loopw [11, 4] (fun t u wr => ∃ (k : Nat) (acc : List PutM), k ≤ rs.length ∧ t = .int .i64 k ∧ takeL (rs.take k) = some acc ∧ OwnP w.heap.size wr u acc ∧ Below w.heap.size w wr)
    (fun t _ _ => rs.length - (intOf t).toNat)
  case atStart => exact ⟨0, [], by omega, rfl, rfl, World.ownsRow_nil _ _ _ _, Below.refl _ _⟩
  case round =>
    obtain ⟨k, acc, hk, rfl, hacc, hrow, hbr⟩ := hrel
    have hal := takeL_length _ _ hacc
    rw [List.length_take] at hal
    have hal2 : acc.length ≤ 100000000 := by omega
    clear hal
    by_cases hlt : k < rs.length
    · obtain ⟨b, off, rfl, hbl, hc⟩ := h4 (by intro e; rw [e] at hlt; simp at hlt)
      have c0 := (hbr.cell (p := ⟨b, off + k, none⟩) hbl).trans (hc k hlt)
      have hsk := hs _ (List.getElem_mem hlt)
      have hno := fun h => takeL_no (rs := rs) hlt h
      have htk := takeL_snoc (rs.take k) rs[k]
      rw [← take_snoc rs hlt, hacc] at htk
      generalize rs[k] = r at *
      obtain ⟨ba, bc', w1, hcv, hsl, hb1⟩ := tobytesT wr r (by unfold maxLen; omega)
      have htp := takePut_any w1 _ r hsl hsk
      have HH := hide (And.intro hrow (And.intro hbr (And.intro hb1 (And.intro hno htk))))
      obtain ⟨ua, uc, rfl, -⟩ := own_form hrow
      clear hc hrow hbr hb1 hno htk hsl hacc
      cases htr : takeR r with
      | none =>
        rw [htr] at htp
        have HN := hide (HH.out.2.2.2.1 htr)
        clear htr
        go_wp2_with fail
        refine htp.mono ?_
        rintro e w2 ⟨⟨q, rfl⟩, hb2⟩
        have hbw := HH.out.2.1.trans ((HH.out.2.2.1.trans (hb2.mono HH.out.2.2.1.size)).mono HH.out.2.1.size)
        have HB := hide (hbw.alloc hbw.size (putO q))
        clear htp hb2 hbw
        go_wp2
        go_ret2
        rw [HN.out]
        exact ⟨rfl, HB.out⟩
      | some p =>
        rw [htr] at htp
        have htk2 : takeL (rs.take (k + 1)) = some (acc ++ [p]) := by rw [HH.out.2.2.2.2, htr]; rfl
        have HT := hide htk2
        clear htr htk2
        go_wp2_with fail
        refine htp.mono ?_
        rintro e w2 ⟨rfl, hb2⟩
        have hbw2 := HH.out.2.2.1.trans (hb2.mono HH.out.2.2.1.size)
        have hbA : Below wr.heap.size wr (w2.alloc (putO p)) := hbw2.alloc hbw2.size _
        have hrow2 := own_keepB HH.out.1 hbA
        have hxA := heap_last w2 (putO p)
        have hBA := HH.out.2.1.trans (hbA.mono HH.out.2.1.size)
        obtain ⟨v', w3, hrun, hrow3, hgr⟩ := app_put (w2.alloc (putO p)) w.heap.size _ acc p hrow2 hBA.size (by omega)
        have hb3 : Below w.heap.size w w3 := (hBA.alloc hBA.size _).grown hgr (by have := hBA.size; simp only [World.size_alloc] at this ⊢; omega) (fun k hk => (hrow2.lt k hk).1)
        obtain ⟨va, vc, rfl, -⟩ := own_form hrow3
        rw [World.size_alloc] at hrun
        have HF := hide (And.intro hrow3 hb3)
        have HRUN := hide hrun
        clear hrun hrow3 hb3 hgr hrow2 hxA hBA hbA hbw2 hb2 htp
        go_wp2_with (at_builtin; refine wpList_plain rfl (fun K hK => wp_append_run (.tmp 23) (.tmp 25) 27 rfl rfl rfl HRUN.out (hK _ _ ?_)))
        go_wp2
        go_roundw
        case rel =>
          have h9 := HF.out.1
          have e9 : (acc ++ [p]).length = acc.length + 1 := by simp
          refine ⟨k + 1, acc ++ [p], by omega, by go_num, HT.out, ?_, HF.out.2⟩
          rw [← e9]
          exact h9
        case measure => simp [intOf]; omega
    · have hkl : k = rs.length := by omega
      subst hkl
      rw [List.take_length] at hacc
      obtain ⟨ua, uc, rfl, -⟩ := own_form hrow
      have HR := hide (And.intro hrow (And.intro hbr hacc))
      clear hrow hbr hacc
      go_wp2
      go_ret2
      rw [HR.out.2.2]
      exact ⟨⟨_, rfl, HR.out.1⟩, HR.out.2.1⟩
end Go.Proofs.YtblniomnhpedjaaGreatDoor

/-
  isLaid: does a table lay these puts? Conditions: the puts lie there.
-/
namespace Go.Proofs.YtblniomnhpedjaaGreatDoor
open Go.RowKit

/-- None gone, by rising keys, behind a key. -/
def laidFrom : Option Bs → List PutM → Bool
  | _, [] => true
  | last, p :: r => !p.2.2 && (match last with | none => true | some k => ltB k p.1) && laidFrom (some p.1) r
/-- Does a table lay these puts? -/
def laidT (ps : List PutM) (first : Bool) : Bool := if first then laidFrom none ps else decide (0 < ps.length)
def lastK (ps : List PutM) (k : Nat) : Option Bs := if k = 0 then none else (ps[k - 1]?).map (·.1)
theorem laid_at {ps : List PutM} {k : Nat} (h : k < ps.length) (last : Option Bs) : laidFrom last (ps.drop k) = (!ps[k].2.2 && (match last with | none => true | some q => ltB q ps[k].1) && laidFrom (some ps[k].1) (ps.drop (k + 1))) := by
  rw [List.drop_eq_getElem_cons h]
  cases last <;> rfl
theorem leq_strT (t : TypeId) (a b : Bs) : binOp .leq t (.string (strB a)) (.string (strB b)) = pure (.bool (!ltB b a)) := by
  have h1 : (strB a).toList = a := by rw [ByteArray.toList_eq]; exact strB_list a
  have h2 : (strB b).toList = b := by rw [ByteArray.toList_eq]; exact strB_list b
  have hg : (Op.bytesLess a b || a == b) = !ltB b a := by
    show (ltB a b || a == b) = !ltB b a
    cases h3 : ltB b a with
    | true =>
      have h4 : ltB a b = false := by
        cases h5 : ltB a b with
        | false => rfl
        | true => have := ltB_trans _ _ _ h3 h5; rw [ltB_irrefl] at this; cases this
      have h6 : a ≠ b := fun e => by rw [e, ltB_irrefl] at h3; cases h3
      rw [h4]
      simpa using h6
    | false =>
      cases h5 : ltB a b with
      | true => rfl
      | false => rw [ltB_total _ _ h5 h3]; simp
  simp [binOp, Op.stringOp, h1, h2, hg]
set_option maxRecDepth 20000 in
set_option maxHeartbeats 1600000 in
theorem isLaid_any (w : World) (v : Value) (ps : List PutM) (hv : PsT w v ps) (first : Bool) :
    Calls Tryz.prog 60 #[v, .bool first] w fun e w' => e = .returned (.bool (laidT ps first)) ∧ Below w.heap.size w w' := by
  obtain ⟨ao, cap, rfl, h1, h2, h4⟩ := hv
  unfold maxLen at h2
  cases first with
  | false =>
    unfold laidT
    clear h4
    by_cases hz : 0 < ps.length
    · have q : decide ((0 : Int) < (ps.length : Int)) = true := decide_eq_true (by omega)
      have q2 : decide (0 < ps.length) = true := decide_eq_true hz
      go_enter Tryz.func60, Tryz.ntmps60
      go_wp2
      go_ret
      exact ⟨by simp, Below.refl _ _⟩
    · have q : decide ((0 : Int) < (ps.length : Int)) = false := decide_eq_false (by omega)
      have q2 : decide (0 < ps.length) = false := decide_eq_false hz
      go_enter Tryz.func60, Tryz.ntmps60
      go_wp2
      go_ret
      exact ⟨by simp, Below.refl _ _⟩
  | true =>
    rw [show laidT ps true = laidFrom none ps from rfl]
    go_enter Tryz.func60, Tryz.ntmps60
    go_wp2_with fail
    go_loopw [14] (fun t wr => ∃ k : Nat, k ≤ ps.length ∧ t = .int .i64 k ∧ laidFrom none ps = laidFrom (lastK ps k) (ps.drop k) ∧ Below w.heap.size w wr)
      (fun t _ => ps.length - (intOf t).toNat)
    case atStart => exact ⟨0, by omega, rfl, rfl, Below.refl _ _⟩
    case round =>
      obtain ⟨k, hk, rfl, hlf, hbr⟩ := hrel
      by_cases hlt : k < ps.length
      · obtain ⟨b, off, rfl, hbl, hc⟩ := h4 (by intro e; rw [e] at hlt; simp at hlt)
        have c0 := (hbr.cell (p := ⟨b, off + k * 3 + 0, none⟩) hbl).trans (hc k hlt 0 _ rfl)
        have c1 := (hbr.cell (p := ⟨b, off + k * 3 + 1, none⟩) hbl).trans (hc k hlt 1 _ rfl)
        have c2 := (hbr.cell (p := ⟨b, off + k * 3 + 2, none⟩) hbl).trans (hc k hlt 2 _ rfl)
        have hst := laid_at hlt (lastK ps k)
        rw [← hlf] at hst
        have hln : lastK ps (k + 1) = some ps[k].1 := by unfold lastK; simp [hlt]
        rw [← hln] at hst
        have hprev : ∀ j, k = j + 1 → ∃ q : PutM, lastK ps k = some q.1 ∧ wr.cell? ⟨b, off + j * 3, none⟩ = some (.string (strB q.1)) := fun j hj => by
          have hjl : j < ps.length := by omega
          refine ⟨ps[j], by unfold lastK; subst hj; simp [hjl], ?_⟩
          have := (hbr.cell (p := ⟨b, off + j * 3 + 0, none⟩) hbl).trans (hc j hjl 0 _ rfl)
          simpa using this
        generalize ps[k] = x at *
        try simp only [Nat.add_zero] at c0 c1 c2
        have hbA := hbr.alloc hbr.size (putO x)
        have hxA := heap_last wr (putO x)
        have hbA1 : Below wr.heap.size wr (wr.alloc (putO x)) := (Below.refl _ _).alloc (Nat.le_refl _) _
        have x0 := cell_of hxA 0
        have x2 := cell_of hxA 2
        simp only [List.getElem?_toArray, List.getElem?_cons_zero, List.getElem?_cons_succ] at x0 x2
        have hbs := hbr.size
        have HH := hide (And.intro hst (And.intro hbA hlf))
        clear hst hbA hlf hbr hc hxA
        cases hgo : x.2.2 with
        | true =>
          rw [hgo] at c2 x2
          have hb9 := HH.out.2.1
          have hb8 := hbA1
          simp only [putO, hgo] at hb9 hb8 x0 x2
          have HB1 := hide hb9
          clear hb9 hbA1
          have HN : Hid (laidFrom none ps = false) := hide (by rw [HH.out.1, hgo]; rfl)
          clear hprev hb8
          go_wp2_with fail
          refine wp_region_held_drew (S := fun W => W.cell? ⟨wr.heap.size, 2, none⟩ = some (.bool true)) (by kernel_rfl) (x2) (fun hHeld => ?_)
          refine takeH (i := 0) (v := ?_) rfl (by kernel_rfl) (by kernel_rfl) (by kernel_rfl) (fun _ _ _ h => h) rfl ?_ hHeld ?_
          rotate_left
          · intro w hS; (try dsimp only at hS); obtain hS0 := hS; go_simp; first | done | (with_reducible rfl)
          try simp only [Act.put, List.setIfInBounds_toArray, List.set_cons_zero, List.set_cons_succ]
          refine takeH (i := 1) (v := ?_) rfl (by kernel_rfl) (by kernel_rfl) (by kernel_rfl) (fun _ _ _ h => h) rfl ?_ hHeld ?_
          rotate_left
          · intro w hS; (try dsimp only at hS); obtain hS0 := hS; go_simp; first | done | (with_reducible rfl)
          try simp only [Act.put, List.setIfInBounds_toArray, List.set_cons_zero, List.set_cons_succ]
          refine takeH (i := 2) (v := ?_) rfl (by kernel_rfl) (by kernel_rfl) (by kernel_rfl) (fun _ _ _ h => h) rfl ?_ hHeld ?_
          rotate_left
          · intro w hS; (try dsimp only at hS); obtain hS0 := hS; go_simp; first | done | (with_reducible rfl)
          try simp only [Act.put, List.setIfInBounds_toArray, List.set_cons_zero, List.set_cons_succ]
          refine skipH (i := 3) rfl (by kernel_rfl) (by kernel_rfl) (by kernel_rfl) (fun _ _ _ h => h) rfl hHeld ?_
          try simp only [Act.put, List.setIfInBounds_toArray, List.set_cons_zero, List.set_cons_succ]
          refine skipH (i := 4) rfl (by kernel_rfl) (by kernel_rfl) (by kernel_rfl) (fun _ _ _ h => h) rfl hHeld ?_
          try simp only [Act.put, List.setIfInBounds_toArray, List.set_cons_zero, List.set_cons_succ]
          refine skipH (i := 5) rfl (by kernel_rfl) (by kernel_rfl) (by kernel_rfl) (fun _ _ _ h => h) rfl hHeld ?_
          try simp only [Act.put, List.setIfInBounds_toArray, List.set_cons_zero, List.set_cons_succ]
          refine skipH (i := 6) rfl (by kernel_rfl) (by kernel_rfl) (by kernel_rfl) (fun _ _ _ h => h) rfl hHeld ?_
          try simp only [Act.put, List.setIfInBounds_toArray, List.set_cons_zero, List.set_cons_succ]
          refine skipH (i := 7) rfl (by kernel_rfl) (by kernel_rfl) (by kernel_rfl) (fun _ _ _ h => h) rfl hHeld ?_
          try simp only [Act.put, List.setIfInBounds_toArray, List.set_cons_zero, List.set_cons_succ]
          refine skipH (i := 8) rfl (by kernel_rfl) (by kernel_rfl) (by kernel_rfl) (fun _ _ _ h => h) rfl hHeld ?_
          try simp only [Act.put, List.setIfInBounds_toArray, List.set_cons_zero, List.set_cons_succ]
          refine skipH (i := 9) rfl (by kernel_rfl) (by kernel_rfl) (by kernel_rfl) (fun _ _ _ h => h) rfl hHeld ?_
          try simp only [Act.put, List.setIfInBounds_toArray, List.set_cons_zero, List.set_cons_succ]
          refine skipH (i := 10) rfl (by kernel_rfl) (by kernel_rfl) (by kernel_rfl) (fun _ _ _ h => h) rfl hHeld ?_
          try simp only [Act.put, List.setIfInBounds_toArray, List.set_cons_zero, List.set_cons_succ]
          refine skipH (i := 11) rfl (by kernel_rfl) (by kernel_rfl) (by kernel_rfl) (fun _ _ _ h => h) rfl hHeld ?_
          try simp only [Act.put, List.setIfInBounds_toArray, List.set_cons_zero, List.set_cons_succ]
          refine skipH (i := 12) rfl (by kernel_rfl) (by kernel_rfl) (by kernel_rfl) (fun _ _ _ h => h) rfl hHeld ?_
          try simp only [Act.put, List.setIfInBounds_toArray, List.set_cons_zero, List.set_cons_succ]
          refine skipH (i := 13) rfl (by kernel_rfl) (by kernel_rfl) (by kernel_rfl) (fun _ _ _ h => h) rfl hHeld ?_
          try simp only [Act.put, List.setIfInBounds_toArray, List.set_cons_zero, List.set_cons_succ]
          refine skipH (i := 14) rfl (by kernel_rfl) (by kernel_rfl) (by kernel_rfl) (fun _ _ _ h => h) rfl hHeld ?_
          try simp only [Act.put, List.setIfInBounds_toArray, List.set_cons_zero, List.set_cons_succ]
          refine skipH (i := 15) rfl (by kernel_rfl) (by kernel_rfl) (by kernel_rfl) (fun _ _ _ h => h) rfl hHeld ?_
          try simp only [Act.put, List.setIfInBounds_toArray, List.set_cons_zero, List.set_cons_succ]
          refine takeH (i := 16) (v := ?_) rfl (by kernel_rfl) (by kernel_rfl) (by kernel_rfl) (fun _ _ _ h => h) rfl ?_ hHeld ?_
          rotate_left
          · intro w hS; (try dsimp only at hS); obtain hS0 := hS; go_simp; first | done | (with_reducible rfl)
          try simp only [Act.put, List.setIfInBounds_toArray, List.set_cons_zero, List.set_cons_succ]
          refine wpAnyH_done (by kernel_rfl) ?_ _
          clear hHeld
          go_wp2
          go_ret
          rw [HN.out]
          exact ⟨rfl, HB1.out.drew⟩
        | false =>
          rw [hgo] at c2 x2
          have hb9 := HH.out.2.1
          have hb8 := hbA1
          simp only [putO, hgo] at hb9 hb8 x0 x2
          have HB1 := hide hb9
          clear hb9 hbA1
          cases k with
          | zero =>
            have HN : Hid (laidFrom none ps = laidFrom (lastK ps (0 + 1)) (ps.drop (0 + 1))) := hide (by rw [HH.out.1, hgo]; simp [lastK])
            clear hprev hb8
            simp only [Nat.zero_mul, Nat.add_zero] at c0 c1 c2
            go_wp2_with fail
            refine wp_region_held_drew (S := fun W => W.cell? ⟨wr.heap.size, 2, none⟩ = some (.bool false)) (by kernel_rfl) (x2) (fun hHeld => ?_)
            refine takeH (i := 0) (v := ?_) rfl (by kernel_rfl) (by kernel_rfl) (by kernel_rfl) (fun _ _ _ h => h) rfl ?_ hHeld ?_
            rotate_left
            · intro w hS; (try dsimp only at hS); obtain hS0 := hS; go_simp; first | done | (with_reducible rfl)
            try simp only [Act.put, List.setIfInBounds_toArray, List.set_cons_zero, List.set_cons_succ]
            refine takeH (i := 1) (v := ?_) rfl (by kernel_rfl) (by kernel_rfl) (by kernel_rfl) (fun _ _ _ h => h) rfl ?_ hHeld ?_
            rotate_left
            · intro w hS; (try dsimp only at hS); obtain hS0 := hS; go_simp; first | done | (with_reducible rfl)
            try simp only [Act.put, List.setIfInBounds_toArray, List.set_cons_zero, List.set_cons_succ]
            refine takeH (i := 2) (v := ?_) rfl (by kernel_rfl) (by kernel_rfl) (by kernel_rfl) (fun _ _ _ h => h) rfl ?_ hHeld ?_
            rotate_left
            · intro w hS; (try dsimp only at hS); obtain hS0 := hS; go_simp; first | done | (with_reducible rfl)
            try simp only [Act.put, List.setIfInBounds_toArray, List.set_cons_zero, List.set_cons_succ]
            refine takeH (i := 3) (v := ?_) rfl (by kernel_rfl) (by kernel_rfl) (by kernel_rfl) (fun _ _ _ h => h) rfl ?_ hHeld ?_
            rotate_left
            · intro w hS; (try dsimp only at hS); obtain hS0 := hS; go_simp; first | done | (with_reducible rfl)
            try simp only [Act.put, List.setIfInBounds_toArray, List.set_cons_zero, List.set_cons_succ]
            refine takeH (i := 4) (v := ?_) rfl (by kernel_rfl) (by kernel_rfl) (by kernel_rfl) (fun _ _ _ h => h) rfl ?_ hHeld ?_
            rotate_left
            · intro w hS; (try dsimp only at hS); obtain hS0 := hS; go_simp; first | done | (with_reducible rfl)
            try simp only [Act.put, List.setIfInBounds_toArray, List.set_cons_zero, List.set_cons_succ]
            refine takeH (i := 5) (v := ?_) rfl (by kernel_rfl) (by kernel_rfl) (by kernel_rfl) (fun _ _ _ h => h) rfl ?_ hHeld ?_
            rotate_left
            · intro w hS; (try dsimp only at hS); obtain hS0 := hS; go_simp; first | done | (with_reducible rfl)
            try simp only [Act.put, List.setIfInBounds_toArray, List.set_cons_zero, List.set_cons_succ]
            refine skipH (i := 6) rfl (by kernel_rfl) (by kernel_rfl) (by kernel_rfl) (fun _ _ _ h => h) rfl hHeld ?_
            try simp only [Act.put, List.setIfInBounds_toArray, List.set_cons_zero, List.set_cons_succ]
            refine skipH (i := 7) rfl (by kernel_rfl) (by kernel_rfl) (by kernel_rfl) (fun _ _ _ h => h) rfl hHeld ?_
            try simp only [Act.put, List.setIfInBounds_toArray, List.set_cons_zero, List.set_cons_succ]
            refine skipH (i := 8) rfl (by kernel_rfl) (by kernel_rfl) (by kernel_rfl) (fun _ _ _ h => h) rfl hHeld ?_
            try simp only [Act.put, List.setIfInBounds_toArray, List.set_cons_zero, List.set_cons_succ]
            refine skipH (i := 9) rfl (by kernel_rfl) (by kernel_rfl) (by kernel_rfl) (fun _ _ _ h => h) rfl hHeld ?_
            try simp only [Act.put, List.setIfInBounds_toArray, List.set_cons_zero, List.set_cons_succ]
            refine skipH (i := 10) rfl (by kernel_rfl) (by kernel_rfl) (by kernel_rfl) (fun _ _ _ h => h) rfl hHeld ?_
            try simp only [Act.put, List.setIfInBounds_toArray, List.set_cons_zero, List.set_cons_succ]
            refine skipH (i := 11) rfl (by kernel_rfl) (by kernel_rfl) (by kernel_rfl) (fun _ _ _ h => h) rfl hHeld ?_
            try simp only [Act.put, List.setIfInBounds_toArray, List.set_cons_zero, List.set_cons_succ]
            refine skipH (i := 12) rfl (by kernel_rfl) (by kernel_rfl) (by kernel_rfl) (fun _ _ _ h => h) rfl hHeld ?_
            try simp only [Act.put, List.setIfInBounds_toArray, List.set_cons_zero, List.set_cons_succ]
            refine skipH (i := 13) rfl (by kernel_rfl) (by kernel_rfl) (by kernel_rfl) (fun _ _ _ h => h) rfl hHeld ?_
            try simp only [Act.put, List.setIfInBounds_toArray, List.set_cons_zero, List.set_cons_succ]
            refine skipH (i := 14) rfl (by kernel_rfl) (by kernel_rfl) (by kernel_rfl) (fun _ _ _ h => h) rfl hHeld ?_
            try simp only [Act.put, List.setIfInBounds_toArray, List.set_cons_zero, List.set_cons_succ]
            refine takeH (i := 15) (v := ?_) rfl (by kernel_rfl) (by kernel_rfl) (by kernel_rfl) (fun _ _ _ h => h) rfl ?_ hHeld ?_
            rotate_left
            · intro w hS; (try dsimp only at hS); obtain hS0 := hS; go_simp; first | done | (with_reducible rfl)
            try simp only [Act.put, List.setIfInBounds_toArray, List.set_cons_zero, List.set_cons_succ]
            refine takeH (i := 16) (v := ?_) rfl (by kernel_rfl) (by kernel_rfl) (by kernel_rfl) (fun _ _ _ h => h) rfl ?_ hHeld ?_
            rotate_left
            · intro w hS; (try dsimp only at hS); obtain hS0 := hS; go_simp; first | done | (with_reducible rfl)
            try simp only [Act.put, List.setIfInBounds_toArray, List.set_cons_zero, List.set_cons_succ]
            refine wpAnyH_done (by kernel_rfl) ?_ _
            clear hHeld
            go_wp2
            go_roundw
            case rel => exact ⟨0 + 1, by omega, by go_num, HN.out, HB1.out.drew⟩
            case measure => simp [intOf]; omega
          | succ j =>
            obtain ⟨q, hq1, hq2⟩ := hprev j rfl
            have hleq := leq_strT 9 x.1 q.1
            have hstk : laidFrom none ps = (ltB q.1 x.1 && laidFrom (lastK ps (j + 1 + 1)) (ps.drop (j + 1 + 1))) := by rw [HH.out.1, hgo, hq1]; rfl
            have hq3 := (hb8.cell (p := ⟨b, off + j * 3, none⟩) (show b < wr.heap.size by omega)).trans hq2
            have hgt : decide ((0 : Int) < ((j + 1 : Nat) : Int)) = true := decide_eq_true (by omega)
            have hjl : j < ps.length := by omega
            have hwj : IntKind.i64.wrap (j : Int) = (j : Int) := by simp [IntKind.wrap, IntKind.bits, IntKind.signed]; omega
            clear hprev hb8 hq2 hq1
            cases hlb : ltB q.1 x.1 with
            | true =>
              rw [hlb] at hleq
              have HN : Hid (laidFrom none ps = laidFrom (lastK ps (j + 1 + 1)) (ps.drop (j + 1 + 1))) := hide (by rw [hstk, hlb]; rfl)
              clear hstk hlb
              go_wp2_with fail
              refine wp_region_held_drew (S := fun W => W.cell? ⟨wr.heap.size, 2, none⟩ = some (.bool false) ∧ W.cell? ⟨wr.heap.size, 0, none⟩ = some (.string (strB x.1)) ∧ W.cell? ⟨b, off + j * 3, none⟩ = some (.string (strB q.1))) (by kernel_rfl) (⟨x2, x0, hq3⟩) (fun hHeld => ?_)
              refine takeH (i := 0) (v := ?_) rfl (by kernel_rfl) (by kernel_rfl) (by kernel_rfl) (fun _ _ _ h => h) rfl ?_ hHeld ?_
              rotate_left
              · intro w hS; (try dsimp only at hS); obtain ⟨hS0, hS1, hS2⟩ := hS; go_simp; first | done | (with_reducible rfl)
              try simp only [Act.put, List.setIfInBounds_toArray, List.set_cons_zero, List.set_cons_succ]
              refine takeH (i := 1) (v := ?_) rfl (by kernel_rfl) (by kernel_rfl) (by kernel_rfl) (fun _ _ _ h => h) rfl ?_ hHeld ?_
              rotate_left
              · intro w hS; (try dsimp only at hS); obtain ⟨hS0, hS1, hS2⟩ := hS; go_simp; first | done | (with_reducible rfl)
              try simp only [Act.put, List.setIfInBounds_toArray, List.set_cons_zero, List.set_cons_succ]
              refine takeH (i := 2) (v := ?_) rfl (by kernel_rfl) (by kernel_rfl) (by kernel_rfl) (fun _ _ _ h => h) rfl ?_ hHeld ?_
              rotate_left
              · intro w hS; (try dsimp only at hS); obtain ⟨hS0, hS1, hS2⟩ := hS; go_simp; first | done | (with_reducible rfl)
              try simp only [Act.put, List.setIfInBounds_toArray, List.set_cons_zero, List.set_cons_succ]
              refine takeH (i := 3) (v := ?_) rfl (by kernel_rfl) (by kernel_rfl) (by kernel_rfl) (fun _ _ _ h => h) rfl ?_ hHeld ?_
              rotate_left
              · intro w hS; (try dsimp only at hS); obtain ⟨hS0, hS1, hS2⟩ := hS; go_simp; first | done | (with_reducible rfl)
              try simp only [Act.put, List.setIfInBounds_toArray, List.set_cons_zero, List.set_cons_succ]
              refine takeH (i := 4) (v := ?_) rfl (by kernel_rfl) (by kernel_rfl) (by kernel_rfl) (fun _ _ _ h => h) rfl ?_ hHeld ?_
              rotate_left
              · intro w hS; (try dsimp only at hS); obtain ⟨hS0, hS1, hS2⟩ := hS; go_simp; first | done | (with_reducible rfl)
              try simp only [Act.put, List.setIfInBounds_toArray, List.set_cons_zero, List.set_cons_succ]
              refine takeH (i := 5) (v := ?_) rfl (by kernel_rfl) (by kernel_rfl) (by kernel_rfl) (fun _ _ _ h => h) rfl ?_ hHeld ?_
              rotate_left
              · intro w hS; (try dsimp only at hS); obtain ⟨hS0, hS1, hS2⟩ := hS; go_simp; first | done | (with_reducible rfl)
              try simp only [Act.put, List.setIfInBounds_toArray, List.set_cons_zero, List.set_cons_succ]
              refine takeH (i := 6) (v := ?_) rfl (by kernel_rfl) (by kernel_rfl) (by kernel_rfl) (fun _ _ _ h => h) rfl ?_ hHeld ?_
              rotate_left
              · intro w hS; (try dsimp only at hS); obtain ⟨hS0, hS1, hS2⟩ := hS; go_simp; first | done | (with_reducible rfl)
              try simp only [Act.put, List.setIfInBounds_toArray, List.set_cons_zero, List.set_cons_succ]
              refine takeH (i := 7) (v := ?_) rfl (by kernel_rfl) (by kernel_rfl) (by kernel_rfl) (fun _ _ _ h => h) rfl ?_ hHeld ?_
              rotate_left
              · intro w hS; (try dsimp only at hS); obtain ⟨hS0, hS1, hS2⟩ := hS; go_simp; first | done | (with_reducible rfl)
              try simp only [Act.put, List.setIfInBounds_toArray, List.set_cons_zero, List.set_cons_succ]
              refine takeH (i := 8) (v := ?_) rfl (by kernel_rfl) (by kernel_rfl) (by kernel_rfl) (fun _ _ _ h => h) rfl ?_ hHeld ?_
              rotate_left
              · intro w hS; (try dsimp only at hS); obtain ⟨hS0, hS1, hS2⟩ := hS; go_simp; first | done | (with_reducible rfl)
              try simp only [Act.put, List.setIfInBounds_toArray, List.set_cons_zero, List.set_cons_succ]
              refine takeH (i := 9) (v := ?_) rfl (by kernel_rfl) (by kernel_rfl) (by kernel_rfl) (fun _ _ _ h => h) rfl ?_ hHeld ?_
              rotate_left
              · intro w hS; (try dsimp only at hS); obtain ⟨hS0, hS1, hS2⟩ := hS; go_simp; first | done | (with_reducible rfl)
              try simp only [Act.put, List.setIfInBounds_toArray, List.set_cons_zero, List.set_cons_succ]
              refine takeH (i := 10) (v := ?_) rfl (by kernel_rfl) (by kernel_rfl) (by kernel_rfl) (fun _ _ _ h => h) rfl ?_ hHeld ?_
              rotate_left
              · intro w hS; (try dsimp only at hS); obtain ⟨hS0, hS1, hS2⟩ := hS; go_simp; first | done | (with_reducible rfl)
              try simp only [Act.put, List.setIfInBounds_toArray, List.set_cons_zero, List.set_cons_succ]
              refine takeH (i := 11) (v := ?_) rfl (by kernel_rfl) (by kernel_rfl) (by kernel_rfl) (fun _ _ _ h => h) rfl ?_ hHeld ?_
              rotate_left
              · intro w hS; (try dsimp only at hS); obtain ⟨hS0, hS1, hS2⟩ := hS; go_simp; first | done | (with_reducible rfl)
              try simp only [Act.put, List.setIfInBounds_toArray, List.set_cons_zero, List.set_cons_succ]
              refine takeH (i := 12) (v := ?_) rfl (by kernel_rfl) (by kernel_rfl) (by kernel_rfl) (fun _ _ _ h => h) rfl ?_ hHeld ?_
              rotate_left
              · intro w hS; (try dsimp only at hS); obtain ⟨hS0, hS1, hS2⟩ := hS; go_simp; first | done | (with_reducible rfl)
              try simp only [Act.put, List.setIfInBounds_toArray, List.set_cons_zero, List.set_cons_succ]
              refine takeH (i := 13) (v := ?_) rfl (by kernel_rfl) (by kernel_rfl) (by kernel_rfl) (fun _ _ _ h => h) rfl ?_ hHeld ?_
              rotate_left
              · intro w hS; (try dsimp only at hS); obtain ⟨hS0, hS1, hS2⟩ := hS; go_simp; first | done | (with_reducible rfl)
              try simp only [Act.put, List.setIfInBounds_toArray, List.set_cons_zero, List.set_cons_succ]
              refine takeH (i := 14) (v := ?_) rfl (by kernel_rfl) (by kernel_rfl) (by kernel_rfl) (fun _ _ _ h => h) rfl ?_ hHeld ?_
              rotate_left
              · intro w hS; (try dsimp only at hS); obtain ⟨hS0, hS1, hS2⟩ := hS; go_simp; first | done | (with_reducible rfl)
              try simp only [Act.put, List.setIfInBounds_toArray, List.set_cons_zero, List.set_cons_succ]
              refine takeH (i := 15) (v := ?_) rfl (by kernel_rfl) (by kernel_rfl) (by kernel_rfl) (fun _ _ _ h => h) rfl ?_ hHeld ?_
              rotate_left
              · intro w hS; (try dsimp only at hS); obtain ⟨hS0, hS1, hS2⟩ := hS; go_simp; first | done | (with_reducible rfl)
              try simp only [Act.put, List.setIfInBounds_toArray, List.set_cons_zero, List.set_cons_succ]
              refine takeH (i := 16) (v := ?_) rfl (by kernel_rfl) (by kernel_rfl) (by kernel_rfl) (fun _ _ _ h => h) rfl ?_ hHeld ?_
              rotate_left
              · intro w hS; (try dsimp only at hS); obtain ⟨hS0, hS1, hS2⟩ := hS; go_simp; first | done | (with_reducible rfl)
              try simp only [Act.put, List.setIfInBounds_toArray, List.set_cons_zero, List.set_cons_succ]
              refine wpAnyH_done (by kernel_rfl) ?_ _
              clear hHeld
              go_wp2
              go_roundw
              case rel => exact ⟨(j + 1) + 1, by omega, by go_num, HN.out, HB1.out.drew⟩
              case measure => simp [intOf]; omega
            | false =>
              rw [hlb] at hleq
              have HN : Hid (laidFrom none ps = false) := hide (by rw [hstk, hlb]; rfl)
              clear hstk hlb
              go_wp2_with fail
              refine wp_region_held_drew (S := fun W => W.cell? ⟨wr.heap.size, 2, none⟩ = some (.bool false) ∧ W.cell? ⟨wr.heap.size, 0, none⟩ = some (.string (strB x.1)) ∧ W.cell? ⟨b, off + j * 3, none⟩ = some (.string (strB q.1))) (by kernel_rfl) (⟨x2, x0, hq3⟩) (fun hHeld => ?_)
              refine takeH (i := 0) (v := ?_) rfl (by kernel_rfl) (by kernel_rfl) (by kernel_rfl) (fun _ _ _ h => h) rfl ?_ hHeld ?_
              rotate_left
              · intro w hS; (try dsimp only at hS); obtain ⟨hS0, hS1, hS2⟩ := hS; go_simp; first | done | (with_reducible rfl)
              try simp only [Act.put, List.setIfInBounds_toArray, List.set_cons_zero, List.set_cons_succ]
              refine takeH (i := 1) (v := ?_) rfl (by kernel_rfl) (by kernel_rfl) (by kernel_rfl) (fun _ _ _ h => h) rfl ?_ hHeld ?_
              rotate_left
              · intro w hS; (try dsimp only at hS); obtain ⟨hS0, hS1, hS2⟩ := hS; go_simp; first | done | (with_reducible rfl)
              try simp only [Act.put, List.setIfInBounds_toArray, List.set_cons_zero, List.set_cons_succ]
              refine takeH (i := 2) (v := ?_) rfl (by kernel_rfl) (by kernel_rfl) (by kernel_rfl) (fun _ _ _ h => h) rfl ?_ hHeld ?_
              rotate_left
              · intro w hS; (try dsimp only at hS); obtain ⟨hS0, hS1, hS2⟩ := hS; go_simp; first | done | (with_reducible rfl)
              try simp only [Act.put, List.setIfInBounds_toArray, List.set_cons_zero, List.set_cons_succ]
              refine takeH (i := 3) (v := ?_) rfl (by kernel_rfl) (by kernel_rfl) (by kernel_rfl) (fun _ _ _ h => h) rfl ?_ hHeld ?_
              rotate_left
              · intro w hS; (try dsimp only at hS); obtain ⟨hS0, hS1, hS2⟩ := hS; go_simp; first | done | (with_reducible rfl)
              try simp only [Act.put, List.setIfInBounds_toArray, List.set_cons_zero, List.set_cons_succ]
              refine takeH (i := 4) (v := ?_) rfl (by kernel_rfl) (by kernel_rfl) (by kernel_rfl) (fun _ _ _ h => h) rfl ?_ hHeld ?_
              rotate_left
              · intro w hS; (try dsimp only at hS); obtain ⟨hS0, hS1, hS2⟩ := hS; go_simp; first | done | (with_reducible rfl)
              try simp only [Act.put, List.setIfInBounds_toArray, List.set_cons_zero, List.set_cons_succ]
              refine takeH (i := 5) (v := ?_) rfl (by kernel_rfl) (by kernel_rfl) (by kernel_rfl) (fun _ _ _ h => h) rfl ?_ hHeld ?_
              rotate_left
              · intro w hS; (try dsimp only at hS); obtain ⟨hS0, hS1, hS2⟩ := hS; go_simp; first | done | (with_reducible rfl)
              try simp only [Act.put, List.setIfInBounds_toArray, List.set_cons_zero, List.set_cons_succ]
              refine takeH (i := 6) (v := ?_) rfl (by kernel_rfl) (by kernel_rfl) (by kernel_rfl) (fun _ _ _ h => h) rfl ?_ hHeld ?_
              rotate_left
              · intro w hS; (try dsimp only at hS); obtain ⟨hS0, hS1, hS2⟩ := hS; go_simp; first | done | (with_reducible rfl)
              try simp only [Act.put, List.setIfInBounds_toArray, List.set_cons_zero, List.set_cons_succ]
              refine takeH (i := 7) (v := ?_) rfl (by kernel_rfl) (by kernel_rfl) (by kernel_rfl) (fun _ _ _ h => h) rfl ?_ hHeld ?_
              rotate_left
              · intro w hS; (try dsimp only at hS); obtain ⟨hS0, hS1, hS2⟩ := hS; go_simp; first | done | (with_reducible rfl)
              try simp only [Act.put, List.setIfInBounds_toArray, List.set_cons_zero, List.set_cons_succ]
              refine takeH (i := 8) (v := ?_) rfl (by kernel_rfl) (by kernel_rfl) (by kernel_rfl) (fun _ _ _ h => h) rfl ?_ hHeld ?_
              rotate_left
              · intro w hS; (try dsimp only at hS); obtain ⟨hS0, hS1, hS2⟩ := hS; go_simp; first | done | (with_reducible rfl)
              try simp only [Act.put, List.setIfInBounds_toArray, List.set_cons_zero, List.set_cons_succ]
              refine takeH (i := 9) (v := ?_) rfl (by kernel_rfl) (by kernel_rfl) (by kernel_rfl) (fun _ _ _ h => h) rfl ?_ hHeld ?_
              rotate_left
              · intro w hS; (try dsimp only at hS); obtain ⟨hS0, hS1, hS2⟩ := hS; go_simp; first | done | (with_reducible rfl)
              try simp only [Act.put, List.setIfInBounds_toArray, List.set_cons_zero, List.set_cons_succ]
              refine takeH (i := 10) (v := ?_) rfl (by kernel_rfl) (by kernel_rfl) (by kernel_rfl) (fun _ _ _ h => h) rfl ?_ hHeld ?_
              rotate_left
              · intro w hS; (try dsimp only at hS); obtain ⟨hS0, hS1, hS2⟩ := hS; go_simp; first | done | (with_reducible rfl)
              try simp only [Act.put, List.setIfInBounds_toArray, List.set_cons_zero, List.set_cons_succ]
              refine takeH (i := 11) (v := ?_) rfl (by kernel_rfl) (by kernel_rfl) (by kernel_rfl) (fun _ _ _ h => h) rfl ?_ hHeld ?_
              rotate_left
              · intro w hS; (try dsimp only at hS); obtain ⟨hS0, hS1, hS2⟩ := hS; go_simp; first | done | (with_reducible rfl)
              try simp only [Act.put, List.setIfInBounds_toArray, List.set_cons_zero, List.set_cons_succ]
              refine takeH (i := 12) (v := ?_) rfl (by kernel_rfl) (by kernel_rfl) (by kernel_rfl) (fun _ _ _ h => h) rfl ?_ hHeld ?_
              rotate_left
              · intro w hS; (try dsimp only at hS); obtain ⟨hS0, hS1, hS2⟩ := hS; go_simp; first | done | (with_reducible rfl)
              try simp only [Act.put, List.setIfInBounds_toArray, List.set_cons_zero, List.set_cons_succ]
              refine takeH (i := 13) (v := ?_) rfl (by kernel_rfl) (by kernel_rfl) (by kernel_rfl) (fun _ _ _ h => h) rfl ?_ hHeld ?_
              rotate_left
              · intro w hS; (try dsimp only at hS); obtain ⟨hS0, hS1, hS2⟩ := hS; go_simp; first | done | (with_reducible rfl)
              try simp only [Act.put, List.setIfInBounds_toArray, List.set_cons_zero, List.set_cons_succ]
              refine takeH (i := 14) (v := ?_) rfl (by kernel_rfl) (by kernel_rfl) (by kernel_rfl) (fun _ _ _ h => h) rfl ?_ hHeld ?_
              rotate_left
              · intro w hS; (try dsimp only at hS); obtain ⟨hS0, hS1, hS2⟩ := hS; go_simp; first | done | (with_reducible rfl)
              try simp only [Act.put, List.setIfInBounds_toArray, List.set_cons_zero, List.set_cons_succ]
              refine takeH (i := 15) (v := ?_) rfl (by kernel_rfl) (by kernel_rfl) (by kernel_rfl) (fun _ _ _ h => h) rfl ?_ hHeld ?_
              rotate_left
              · intro w hS; (try dsimp only at hS); obtain ⟨hS0, hS1, hS2⟩ := hS; go_simp; first | done | (with_reducible rfl)
              try simp only [Act.put, List.setIfInBounds_toArray, List.set_cons_zero, List.set_cons_succ]
              refine takeH (i := 16) (v := ?_) rfl (by kernel_rfl) (by kernel_rfl) (by kernel_rfl) (fun _ _ _ h => h) rfl ?_ hHeld ?_
              rotate_left
              · intro w hS; (try dsimp only at hS); obtain ⟨hS0, hS1, hS2⟩ := hS; go_simp; first | done | (with_reducible rfl)
              try simp only [Act.put, List.setIfInBounds_toArray, List.set_cons_zero, List.set_cons_succ]
              refine wpAnyH_done (by kernel_rfl) ?_ _
              clear hHeld
              go_wp2
              go_ret
              rw [HN.out]
              exact ⟨rfl, HB1.out.drew⟩
      · have hkl : k = ps.length := by omega
        subst hkl
        rw [List.drop_length] at hlf
        have HR := hide (And.intro hlf hbr)
        clear hlf hbr
        go_wp2
        go_ret
        rw [HR.out.1]
        exact ⟨by simp [laidFrom], HR.out.2⟩
end Go.Proofs.YtblniomnhpedjaaGreatDoor

/-
  takeGroups: what a log's groups say. Conditions: the groups lie there; lengths within reach.
-/
namespace Go.Proofs.YtblniomnhpedjaaGreatDoor
open Go.RowKit

def fitT (l : List Pair) : Bool := decide (l.length ≤ 2000) && decide (weightT l ≤ 1048576)
/-- What groups say, behind these pairs. -/
def tabFrom : List Pair → List (List Bs) → Bool → Option (List Pair)
  | l, [], _ => some l
  | l, g :: r, first => match takeL g with
    | none => none
    | some ps => if rightT ps && laidT ps first && fitT (doneA l ps) then tabFrom (doneA l ps) r false else none
def tabOf (gs : List (List Bs)) : Option (List Pair) := tabFrom [] gs true
theorem tab_at {gs : List (List Bs)} {k : Nat} (h : k < gs.length) (l : List Pair) : tabFrom l (gs.drop k) (decide (k = 0)) = match takeL gs[k] with
    | none => none
    | some ps => if rightT ps && laidT ps (decide (k = 0)) && fitT (doneA l ps) then tabFrom (doneA l ps) (gs.drop (k + 1)) (decide (k + 1 = 0)) else none := by
  rw [List.drop_eq_getElem_cons h, tabFrom]
  rfl
/-- What takeGroups answers. -/
def tabV (B : Nat) (w : World) (r : Option (List Pair)) (e : Ending) : Prop := match r with
  | some l => ∃ v, e = .returned (.tuple #[v, .bool true]) ∧ RowsV w B v l
  | none => e = .returned (.tuple #[.agg #[.map none, .int .i64 0], .bool false])
theorem burden_text (ps : List PutM) (h : rightT ps = true) : burden ps ≤ 2000000 := by
  unfold rightT at h
  simp only [Bool.and_eq_true, decide_eq_true_eq] at h
  have e : burden ps = 16 * ps.length + textT ps := by
    clear h
    induction ps with
    | nil => rfl
    | cons p r ih =>
      rw [burden_cons, ih, List.length_cons]
      unfold textT
      simp
      omega
  omega
end Go.Proofs.YtblniomnhpedjaaGreatDoor
