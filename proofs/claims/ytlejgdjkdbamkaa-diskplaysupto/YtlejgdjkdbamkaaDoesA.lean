/-
  The law's does: ways 0, 1, 2, 3, 4, 5. Conditions: as it says.
-/
import Derived.Test.YtlejgdjkdbamkaaDoesBase
namespace Go.Proofs.Ytlejgdjkdbamkaa
open Go.RowKit

set_option maxRecDepth 20000 in
set_option maxHeartbeats 8000000 in
theorem does_arm0 {B d r m : Nat} {S : Dk} (w : World) (hB : B ≤ w.heap.size) (h : Two B w d r S m) (kind nn torn : Int) (name tto : Nm) (u : Value) (bb : List UInt8) (hu : Sb B w u bb) (r0 : I64 kind) (r4 : I64 nn) (r5 : I64 torn) (hm : m ≤ 900)
    (hnl : name.length < 4611686018427387904) (htl : tto.length < 4611686018427387904) (hb : S.bulk + bb.length + 100 < 274877906944) (hkk : pk kind 15 = 0) :
    Calls Try.prog 13 #[.pointer (some ⟨d, 0, none⟩), .pointer (some ⟨r, 0, none⟩), .agg #[.int .i64 kind, .string (strB name), .string (strB tto), u, .int .i64 nn, .int .i64 torn]] w fun e w' => ∃ d' r' S', e = .returned (.tuple #[.pointer (some ⟨d', 0, none⟩), .pointer (some ⟨r', 0, none⟩), .bool true]) ∧ Two B w' d' r' S' (m + 2) ∧ S'.bulk ≤ S.bulk + bb.length + 10 ∧ Below B w w' := by
  obtain ⟨F, R, G, hs0, hr0, hks, ap⟩ := h
  have hok := hs0.ok
  have hu' := hu
  obtain ⟨ua, uc, rfl, u1, u2, -, -⟩ := hu'
  generalize hul : bb.length = ul at *
  have HUL := hide hul
  clear hul
  have hcA : Chg (fun _ => False) w (w.alloc (.cells #[.int .i64 kind, .string (strB name), .string (strB tto), .slice ua ul uc, .int .i64 nn, .int .i64 torn] 35)) := (Chg.refl _ w).alloc _
  have hbA := chg_below hcA hB
  have hzA : B ≤ (w.alloc (.cells #[.int .i64 kind, .string (strB name), .string (strB tto), .slice ua ul uc, .int .i64 nn, .int .i64 torn] 35)).heap.size := Nat.le_trans hB hbA.size
  have hs := hs0.keep hcA (fun _ _ h => h)
  have hr := hr0.keep hcA (fun _ _ h => h)
  have hbx := heap_last w (.cells #[.int .i64 kind, .string (strB name), .string (strB tto), .slice ua ul uc, .int .i64 nn, .int .i64 torn] 35)
  have hpr := pk_range (c := kind) (n := 15) (by omega)
  have hpk := fun W => pick_any W kind 15 r0 (by omega)
  have hs0l := fun k hk => (hs0.2.1 k hk).2
  have hr0l := fun k hk => (hr0.low k hk).2
  clear hs0 hr0
  go_enter Try.func13, Try.ntmps13
  go_wp2_with fail
  refine (named_any _ name nn r4).mono ?_
  rintro e w2 ⟨rfl, h2⟩
  rw [h2]
  clear h2
  have hn1 : (nmd name nn).length < 4611686018427387904 := nmd_len hnl
  generalize nmd name nn = one at *
  go_wp2_with fail
  refine (named_any _ tto torn r5).mono ?_
  rintro e w3 ⟨rfl, h3⟩
  rw [h3]
  clear h3
  have hn2 : (nmd tto torn).length < 4611686018427387904 := nmd_len htl
  generalize nmd tto torn = two at *
  go_wp2_with fail
  refine (hpk _).mono ?_
  rintro e w4 ⟨rfl, h4⟩
  rw [h4]
  clear h4
  generalize pk kind 15 = kk at *
  clear hpk hpr
  subst hkk
  have k3 := cell_of hbx 3
  have hsl0 : Sl (w.alloc (.cells #[.int .i64 kind, .string (strB name), .string (strB tto), .slice ua ul uc, .int .i64 nn, .int .i64 torn] 35)) (.slice ua ul uc) bb := (hu.keep hbA).sl hzA
  obtain ⟨v1, w5, hrun, hown, hc5⟩ := run_copyB _ hsl0 (by have := HUL.out; omega)
  rw [HUL.out] at hown
  obtain ⟨va, vc, rfl⟩ := own_shape hown
  have HRUN := hide hrun
  have hs5 := hs.keep hc5 (fun _ _ h => h)
  have hr5 := hr.keep hc5 (fun _ _ h => h)
  have hb5 := hbA.trans (chg_below hc5 hzA)
  have hz5 := Nat.le_trans hB hb5.size
  have hbx5 := hc5.keep hbx (fun h => h)
  have hsl5 : Sl w5 (.slice va ul vc) bb := by
    have := sl_of_own (l := bb) (by rw [HUL.out]; exact hown)
    exact this
  clear hrun hsl0
  go_wp2_with (at_builtin; refine wpList_plain rfl (fun K hK => wp_append_run (.const (.slice none 0 0)) (.tmp 56) 33 rfl rfl rfl HRUN.out (hK _ _ ?_)))
  refine (append_lies hs5 hz5 one (by have := HUL.out; omega) hsl5 (fun _ q hq hf => by have h1 := (own_lt hown q hq).1; have h2 := hs0l q hf; simp at h1; omega)).mono ?_
  rintro e w6 ⟨rfl, ha⟩
  obtain ⟨F6, hs6, hr6, ap6, hF6, hc6⟩ := two_disk hr5 ap ha
  have hb6 := hb5.trans (hc6.belowOf (fun k hk => (hs5.2.1 k hk).1) hz5)
  have hz6 := Nat.le_trans hB hb6.size
  have hbx6 := hc6.keep hbx5 (fun hf => absurd (hs0l _ hf) (by omega))
  have hnR : ∀ k, (Value.slice va ul vc).ownBlock = some k → ¬ F6 k ∧ ¬ R k := fun k hk => by
    have h1 := own_lt hown k hk
    have h0 : w.heap.size < k := by have := h1.1; simp at this; omega
    refine ⟨fun hf => ?_, fun hr' => ?_⟩
    · rcases hF6 k hf with h | h
      · have := hs0l k h
        omega
      · omega
    · have := hr0l k hr'
      omega
  have hown6 := own_keep hown hc6 (fun k hk hf => by have := (own_lt hown k hk).1; have := hs0l k hf; simp at *; omega)
  have hrl := own_max hown6
  have HS6 := hide hs6
  have HR6 := hide hr6
  have HO6 := hide hown6
  have HNR := hide hnR
  have HB6 := hide hb6
  have HBX6 := hide hbx6
  have HU := hide hu
  clear hs hr hs5 hr5 hs6 hr6 ha hown hown6 hnR hbx5 hbx6 hsl5 hc6 hc5 hF6 hu hb5 k3
  go_wp2_with fail
  go_loopw [13] (fun i wr => ∃ (j : Nat) (xs : List Value), i = .int .i64 (j : Int) ∧ j ≤ ul ∧ wr.ownsRow (w.alloc (.cells #[.int .i64 kind, .string (strB name), .string (strB tto), .slice ua ul uc, .int .i64 nn, .int .i64 torn] 35)).heap.size 5 1 (.slice va ul vc) ul xs ∧ Chg (fun k => some k = (Value.slice va ul vc).ownBlock) w6 wr)
    (fun i _ => ul - (intOf i).toNat)
  case atStart => exact ⟨0, _, rfl, by omega, HO6.out, Chg.refl _ _⟩
  case round =>
    obtain ⟨j, xs, rfl, hj, hox, hcx⟩ := hrel
    by_cases hlt : j < ul
    · obtain ⟨g, rfl, -, hgl, hcg⟩ := own_pos hox (by omega)
      obtain ⟨cur, hcur⟩ := own_block hox (k := g) rfl
      have tg := thawed hcur j
      have hxl : xs.length = ul * 1 := hox.1
      have cg := hcg j (xs[j]'(by omega)) (List.getElem?_eq_getElem (by omega))
      have hset := own_set hox (j := j) (by omega) (.int .u8 77)
      have hcs := hcx.setCell (p := ⟨g, j, none⟩) (Or.inl rfl) (.int .u8 77)
      have hj0 : (0 : Int) ≤ (j : Int) := by omega
      have hj1 : (j : Int) < (ul : Int) := by omega
      generalize xs[j]'(by omega) = xj at cg
      clear hcg hox hcx hcur
      go_wp2_with fail
      exact ⟨⟨j + 1, _, by go_num, by omega, hset, hcs⟩, by simp [intOf]; omega⟩
    · have hje : ¬ j < ul := hlt
      have hcF : ∀ k, some k = (Value.slice va ul vc).ownBlock → ¬ F6 k ∧ ¬ R k := fun k e => (HNR.out k e.symm)
      have hsE := HS6.out.keep hcx (fun k hf e => (hcF k e).1 hf)
      have hrE := HR6.out.keep hcx (fun k hk e => (hcF k e).2 hk)
      have hbE := HB6.out.trans (hcx.belowOf (fun k e => by have := (own_lt HO6.out k e.symm).1; omega) hz6)
      have hzE := Nat.le_trans hB hbE.size
      have hsb : Sl wr (.slice ua ul uc) bb := (HU.out.keep hbE).sl hzE
      have hstr : (convert 33 9 (.slice ua ul uc)).run Try.prog wr = .ok (.string (strB bb)) wr := run_str wr _ bb hsb
      have hbxE := hcx.keep HBX6.out (fun e => by have := (own_lt HO6.out _ e.symm).1; simp at this; omega)
      have k3 := cell_of hbxE 3
      have HSE := hide hsE
      have HRE := hide hrE
      clear hsE hrE hox hcx hsb hcF
      go_wp2_with fail
      refine (do_append _ HRE.out hok (by omega) one bb (by have := HUL.out; omega) hn1 (by have := HUL.out; omega)).mono ?_
      rintro e w7 ⟨rfl, hd7⟩
      obtain ⟨G7, R7, hr7, hk7, hs7, ap7, hR7, hc7⟩ := two_ref HSE.out ap6 hd7
      have hb7 := hbE.trans (hc7.belowOf (fun k hk => (HRE.out.low k hk).1) hzE)
      have hbu := bulk_append (S := S) one bb
      have heq : ((S.append one bb).2 == (S.append one bb).2) = true := by simp
      have HT := hide (show Two B w7 d r (S.append one bb).1 (m + 2) from ⟨F6, R7, G7, hs7, hr7, by rw [hk7]; omega, ap7⟩)
      clear hd7 hr7 hs7 ap7 hstr k3
      go_wp2
      go_ret3
      exact ⟨d, r, _, rfl, HT.out, by have := HUL.out; omega, hb7⟩

set_option maxRecDepth 20000 in
set_option maxHeartbeats 8000000 in
theorem does_arm1 {B d r m : Nat} {S : Dk} (w : World) (hB : B ≤ w.heap.size) (h : Two B w d r S m) (kind nn torn : Int) (name tto : Nm) (u : Value) (bb : List UInt8) (hu : Sb B w u bb) (r0 : I64 kind) (r4 : I64 nn) (r5 : I64 torn) (hm : m ≤ 900)
    (hnl : name.length < 4611686018427387904) (htl : tto.length < 4611686018427387904) (hb : S.bulk + bb.length + 100 < 274877906944) (hkk : pk kind 15 = 1) :
    Calls Try.prog 13 #[.pointer (some ⟨d, 0, none⟩), .pointer (some ⟨r, 0, none⟩), .agg #[.int .i64 kind, .string (strB name), .string (strB tto), u, .int .i64 nn, .int .i64 torn]] w fun e w' => ∃ d' r' S', e = .returned (.tuple #[.pointer (some ⟨d', 0, none⟩), .pointer (some ⟨r', 0, none⟩), .bool true]) ∧ Two B w' d' r' S' (m + 2) ∧ S'.bulk ≤ S.bulk + bb.length + 10 ∧ Below B w w' := by
  obtain ⟨F, R, G, hs0, hr0, hks, ap⟩ := h
  have hok := hs0.ok
  have hu' := hu
  obtain ⟨ua, uc, rfl, u1, u2, -, -⟩ := hu'
  generalize hul : bb.length = ul at *
  have HUL := hide hul
  clear hul
  have hcA : Chg (fun _ => False) w (w.alloc (.cells #[.int .i64 kind, .string (strB name), .string (strB tto), .slice ua ul uc, .int .i64 nn, .int .i64 torn] 35)) := (Chg.refl _ w).alloc _
  have hbA := chg_below hcA hB
  have hzA : B ≤ (w.alloc (.cells #[.int .i64 kind, .string (strB name), .string (strB tto), .slice ua ul uc, .int .i64 nn, .int .i64 torn] 35)).heap.size := Nat.le_trans hB hbA.size
  have hs := hs0.keep hcA (fun _ _ h => h)
  have hr := hr0.keep hcA (fun _ _ h => h)
  have hbx := heap_last w (.cells #[.int .i64 kind, .string (strB name), .string (strB tto), .slice ua ul uc, .int .i64 nn, .int .i64 torn] 35)
  have hpr := pk_range (c := kind) (n := 15) (by omega)
  have hpk := fun W => pick_any W kind 15 r0 (by omega)
  have hs0l := fun k hk => (hs0.2.1 k hk).2
  have hr0l := fun k hk => (hr0.low k hk).2
  clear hs0 hr0
  go_enter Try.func13, Try.ntmps13
  go_wp2_with fail
  refine (named_any _ name nn r4).mono ?_
  rintro e w2 ⟨rfl, h2⟩
  rw [h2]
  clear h2
  have hn1 : (nmd name nn).length < 4611686018427387904 := nmd_len hnl
  generalize nmd name nn = one at *
  go_wp2_with fail
  refine (named_any _ tto torn r5).mono ?_
  rintro e w3 ⟨rfl, h3⟩
  rw [h3]
  clear h3
  have hn2 : (nmd tto torn).length < 4611686018427387904 := nmd_len htl
  generalize nmd tto torn = two at *
  go_wp2_with fail
  refine (hpk _).mono ?_
  rintro e w4 ⟨rfl, h4⟩
  rw [h4]
  clear h4
  generalize pk kind 15 = kk at *
  clear hpk hpr
  subst hkk
  have k3 := cell_of hbx 3
  have hsl0 : Sl (w.alloc (.cells #[.int .i64 kind, .string (strB name), .string (strB tto), .slice ua ul uc, .int .i64 nn, .int .i64 torn] 35)) (.slice ua ul uc) bb := (hu.keep hbA).sl hzA
  obtain ⟨v1, w5, hrun, hown, hc5⟩ := run_copyB _ hsl0 (by have := HUL.out; omega)
  rw [HUL.out] at hown
  obtain ⟨va, vc, rfl⟩ := own_shape hown
  have HRUN := hide hrun
  have hs5 := hs.keep hc5 (fun _ _ h => h)
  have hr5 := hr.keep hc5 (fun _ _ h => h)
  have hb5 := hbA.trans (chg_below hc5 hzA)
  have hz5 := Nat.le_trans hB hb5.size
  have hbx5 := hc5.keep hbx (fun h => h)
  have hsl5 : Sl w5 (.slice va ul vc) bb := by
    have := sl_of_own (l := bb) (by rw [HUL.out]; exact hown)
    exact this
  clear hrun hsl0
  go_wp2_with (at_builtin; refine wpList_plain rfl (fun K hK => wp_append_run (.const (.slice none 0 0)) (.tmp 56) 33 rfl rfl rfl HRUN.out (hK _ _ ?_)))
  refine (append_lies hs5 hz5 one (by have := HUL.out; omega) hsl5 (fun _ q hq hf => by have h1 := (own_lt hown q hq).1; have h2 := hs0l q hf; simp at h1; omega)).mono ?_
  rintro e w6 ⟨rfl, ha⟩
  obtain ⟨F6, hs6, hr6, ap6, hF6, hc6⟩ := two_disk hr5 ap ha
  have hb6 := hb5.trans (hc6.belowOf (fun k hk => (hs5.2.1 k hk).1) hz5)
  have hz6 := Nat.le_trans hB hb6.size
  have hbx6 := hc6.keep hbx5 (fun hf => absurd (hs0l _ hf) (by omega))
  have hnR : ∀ k, (Value.slice va ul vc).ownBlock = some k → ¬ F6 k ∧ ¬ R k := fun k hk => by
    have h1 := own_lt hown k hk
    have h0 : w.heap.size < k := by have := h1.1; simp at this; omega
    refine ⟨fun hf => ?_, fun hr' => ?_⟩
    · rcases hF6 k hf with h | h
      · have := hs0l k h
        omega
      · omega
    · have := hr0l k hr'
      omega
  have hown6 := own_keep hown hc6 (fun k hk hf => by have := (own_lt hown k hk).1; have := hs0l k hf; simp at *; omega)
  have hrl := own_max hown6
  have HS6 := hide hs6
  have HR6 := hide hr6
  have HO6 := hide hown6
  have HNR := hide hnR
  have HB6 := hide hb6
  have HBX6 := hide hbx6
  have HU := hide hu
  clear hs hr hs5 hr5 hs6 hr6 ha hown hown6 hnR hbx5 hbx6 hsl5 hc6 hc5 hF6 hu hb5 k3
  go_wp2_with fail
  go_loopw [13] (fun i wr => ∃ (j : Nat) (xs : List Value), i = .int .i64 (j : Int) ∧ j ≤ ul ∧ wr.ownsRow (w.alloc (.cells #[.int .i64 kind, .string (strB name), .string (strB tto), .slice ua ul uc, .int .i64 nn, .int .i64 torn] 35)).heap.size 5 1 (.slice va ul vc) ul xs ∧ Chg (fun k => some k = (Value.slice va ul vc).ownBlock) w6 wr)
    (fun i _ => ul - (intOf i).toNat)
  case atStart => exact ⟨0, _, rfl, by omega, HO6.out, Chg.refl _ _⟩
  case round =>
    obtain ⟨j, xs, rfl, hj, hox, hcx⟩ := hrel
    by_cases hlt : j < ul
    · obtain ⟨g, rfl, -, hgl, hcg⟩ := own_pos hox (by omega)
      obtain ⟨cur, hcur⟩ := own_block hox (k := g) rfl
      have tg := thawed hcur j
      have hxl : xs.length = ul * 1 := hox.1
      have cg := hcg j (xs[j]'(by omega)) (List.getElem?_eq_getElem (by omega))
      have hset := own_set hox (j := j) (by omega) (.int .u8 77)
      have hcs := hcx.setCell (p := ⟨g, j, none⟩) (Or.inl rfl) (.int .u8 77)
      have hj0 : (0 : Int) ≤ (j : Int) := by omega
      have hj1 : (j : Int) < (ul : Int) := by omega
      generalize xs[j]'(by omega) = xj at cg
      clear hcg hox hcx hcur
      go_wp2_with fail
      exact ⟨⟨j + 1, _, by go_num, by omega, hset, hcs⟩, by simp [intOf]; omega⟩
    · have hje : ¬ j < ul := hlt
      have hcF : ∀ k, some k = (Value.slice va ul vc).ownBlock → ¬ F6 k ∧ ¬ R k := fun k e => (HNR.out k e.symm)
      have hsE := HS6.out.keep hcx (fun k hf e => (hcF k e).1 hf)
      have hrE := HR6.out.keep hcx (fun k hk e => (hcF k e).2 hk)
      have hbE := HB6.out.trans (hcx.belowOf (fun k e => by have := (own_lt HO6.out k e.symm).1; omega) hz6)
      have hzE := Nat.le_trans hB hbE.size
      have hsb : Sl wr (.slice ua ul uc) bb := (HU.out.keep hbE).sl hzE
      have hstr : (convert 33 9 (.slice ua ul uc)).run Try.prog wr = .ok (.string (strB bb)) wr := run_str wr _ bb hsb
      have hbxE := hcx.keep HBX6.out (fun e => by have := (own_lt HO6.out _ e.symm).1; simp at this; omega)
      have k3 := cell_of hbxE 3
      have HSE := hide hsE
      have HRE := hide hrE
      clear hsE hrE hox hcx hsb hcF
      go_wp2_with fail
      refine (do_append _ HRE.out hok (by omega) one bb (by have := HUL.out; omega) hn1 (by have := HUL.out; omega)).mono ?_
      rintro e w7 ⟨rfl, hd7⟩
      obtain ⟨G7, R7, hr7, hk7, hs7, ap7, hR7, hc7⟩ := two_ref HSE.out ap6 hd7
      have hb7 := hbE.trans (hc7.belowOf (fun k hk => (HRE.out.low k hk).1) hzE)
      have hbu := bulk_append (S := S) one bb
      have heq : ((S.append one bb).2 == (S.append one bb).2) = true := by simp
      have HT := hide (show Two B w7 d r (S.append one bb).1 (m + 2) from ⟨F6, R7, G7, hs7, hr7, by rw [hk7]; omega, ap7⟩)
      clear hd7 hr7 hs7 ap7 hstr k3
      go_wp2
      go_ret3
      exact ⟨d, r, _, rfl, HT.out, by have := HUL.out; omega, hb7⟩

set_option maxRecDepth 20000 in
set_option maxHeartbeats 8000000 in
theorem does_arm2 {B d r m : Nat} {S : Dk} (w : World) (hB : B ≤ w.heap.size) (h : Two B w d r S m) (kind nn torn : Int) (name tto : Nm) (u : Value) (bb : List UInt8) (hu : Sb B w u bb) (r0 : I64 kind) (r4 : I64 nn) (r5 : I64 torn) (hm : m ≤ 900)
    (hnl : name.length < 4611686018427387904) (htl : tto.length < 4611686018427387904) (hb : S.bulk + bb.length + 100 < 274877906944) (hkk : pk kind 15 = 2) :
    Calls Try.prog 13 #[.pointer (some ⟨d, 0, none⟩), .pointer (some ⟨r, 0, none⟩), .agg #[.int .i64 kind, .string (strB name), .string (strB tto), u, .int .i64 nn, .int .i64 torn]] w fun e w' => ∃ d' r' S', e = .returned (.tuple #[.pointer (some ⟨d', 0, none⟩), .pointer (some ⟨r', 0, none⟩), .bool true]) ∧ Two B w' d' r' S' (m + 2) ∧ S'.bulk ≤ S.bulk + bb.length + 10 ∧ Below B w w' := by
  obtain ⟨F, R, G, hs0, hr0, hks, ap⟩ := h
  have hok := hs0.ok
  have hu' := hu
  obtain ⟨ua, uc, rfl, u1, u2, -, -⟩ := hu'
  generalize hul : bb.length = ul at *
  have HUL := hide hul
  clear hul
  have hcA : Chg (fun _ => False) w (w.alloc (.cells #[.int .i64 kind, .string (strB name), .string (strB tto), .slice ua ul uc, .int .i64 nn, .int .i64 torn] 35)) := (Chg.refl _ w).alloc _
  have hbA := chg_below hcA hB
  have hzA : B ≤ (w.alloc (.cells #[.int .i64 kind, .string (strB name), .string (strB tto), .slice ua ul uc, .int .i64 nn, .int .i64 torn] 35)).heap.size := Nat.le_trans hB hbA.size
  have hs := hs0.keep hcA (fun _ _ h => h)
  have hr := hr0.keep hcA (fun _ _ h => h)
  have hbx := heap_last w (.cells #[.int .i64 kind, .string (strB name), .string (strB tto), .slice ua ul uc, .int .i64 nn, .int .i64 torn] 35)
  have hpr := pk_range (c := kind) (n := 15) (by omega)
  have hpk := fun W => pick_any W kind 15 r0 (by omega)
  have hs0l := fun k hk => (hs0.2.1 k hk).2
  have hr0l := fun k hk => (hr0.low k hk).2
  clear hs0 hr0
  go_enter Try.func13, Try.ntmps13
  go_wp2_with fail
  refine (named_any _ name nn r4).mono ?_
  rintro e w2 ⟨rfl, h2⟩
  rw [h2]
  clear h2
  have hn1 : (nmd name nn).length < 4611686018427387904 := nmd_len hnl
  generalize nmd name nn = one at *
  go_wp2_with fail
  refine (named_any _ tto torn r5).mono ?_
  rintro e w3 ⟨rfl, h3⟩
  rw [h3]
  clear h3
  have hn2 : (nmd tto torn).length < 4611686018427387904 := nmd_len htl
  generalize nmd tto torn = two at *
  go_wp2_with fail
  refine (hpk _).mono ?_
  rintro e w4 ⟨rfl, h4⟩
  rw [h4]
  clear h4
  generalize pk kind 15 = kk at *
  clear hpk hpr
  subst hkk
  have k3 := cell_of hbx 3
  have hsl0 : Sl (w.alloc (.cells #[.int .i64 kind, .string (strB name), .string (strB tto), .slice ua ul uc, .int .i64 nn, .int .i64 torn] 35)) (.slice ua ul uc) bb := (hu.keep hbA).sl hzA
  obtain ⟨v1, w5, hrun, hown, hc5⟩ := run_copyB _ hsl0 (by have := HUL.out; omega)
  rw [HUL.out] at hown
  obtain ⟨va, vc, rfl⟩ := own_shape hown
  have HRUN := hide hrun
  have hs5 := hs.keep hc5 (fun _ _ h => h)
  have hr5 := hr.keep hc5 (fun _ _ h => h)
  have hb5 := hbA.trans (chg_below hc5 hzA)
  have hz5 := Nat.le_trans hB hb5.size
  have hbx5 := hc5.keep hbx (fun h => h)
  have hsl5 : Sl w5 (.slice va ul vc) bb := by
    have := sl_of_own (l := bb) (by rw [HUL.out]; exact hown)
    exact this
  clear hrun hsl0
  go_wp2_with (at_builtin; refine wpList_plain rfl (fun K hK => wp_append_run (.const (.slice none 0 0)) (.tmp 56) 33 rfl rfl rfl HRUN.out (hK _ _ ?_)))
  refine (append_lies hs5 hz5 one (by have := HUL.out; omega) hsl5 (fun _ q hq hf => by have h1 := (own_lt hown q hq).1; have h2 := hs0l q hf; simp at h1; omega)).mono ?_
  rintro e w6 ⟨rfl, ha⟩
  obtain ⟨F6, hs6, hr6, ap6, hF6, hc6⟩ := two_disk hr5 ap ha
  have hb6 := hb5.trans (hc6.belowOf (fun k hk => (hs5.2.1 k hk).1) hz5)
  have hz6 := Nat.le_trans hB hb6.size
  have hbx6 := hc6.keep hbx5 (fun hf => absurd (hs0l _ hf) (by omega))
  have hnR : ∀ k, (Value.slice va ul vc).ownBlock = some k → ¬ F6 k ∧ ¬ R k := fun k hk => by
    have h1 := own_lt hown k hk
    have h0 : w.heap.size < k := by have := h1.1; simp at this; omega
    refine ⟨fun hf => ?_, fun hr' => ?_⟩
    · rcases hF6 k hf with h | h
      · have := hs0l k h
        omega
      · omega
    · have := hr0l k hr'
      omega
  have hown6 := own_keep hown hc6 (fun k hk hf => by have := (own_lt hown k hk).1; have := hs0l k hf; simp at *; omega)
  have hrl := own_max hown6
  have HS6 := hide hs6
  have HR6 := hide hr6
  have HO6 := hide hown6
  have HNR := hide hnR
  have HB6 := hide hb6
  have HBX6 := hide hbx6
  have HU := hide hu
  clear hs hr hs5 hr5 hs6 hr6 ha hown hown6 hnR hbx5 hbx6 hsl5 hc6 hc5 hF6 hu hb5 k3
  go_wp2_with fail
  go_loopw [13] (fun i wr => ∃ (j : Nat) (xs : List Value), i = .int .i64 (j : Int) ∧ j ≤ ul ∧ wr.ownsRow (w.alloc (.cells #[.int .i64 kind, .string (strB name), .string (strB tto), .slice ua ul uc, .int .i64 nn, .int .i64 torn] 35)).heap.size 5 1 (.slice va ul vc) ul xs ∧ Chg (fun k => some k = (Value.slice va ul vc).ownBlock) w6 wr)
    (fun i _ => ul - (intOf i).toNat)
  case atStart => exact ⟨0, _, rfl, by omega, HO6.out, Chg.refl _ _⟩
  case round =>
    obtain ⟨j, xs, rfl, hj, hox, hcx⟩ := hrel
    by_cases hlt : j < ul
    · obtain ⟨g, rfl, -, hgl, hcg⟩ := own_pos hox (by omega)
      obtain ⟨cur, hcur⟩ := own_block hox (k := g) rfl
      have tg := thawed hcur j
      have hxl : xs.length = ul * 1 := hox.1
      have cg := hcg j (xs[j]'(by omega)) (List.getElem?_eq_getElem (by omega))
      have hset := own_set hox (j := j) (by omega) (.int .u8 77)
      have hcs := hcx.setCell (p := ⟨g, j, none⟩) (Or.inl rfl) (.int .u8 77)
      have hj0 : (0 : Int) ≤ (j : Int) := by omega
      have hj1 : (j : Int) < (ul : Int) := by omega
      generalize xs[j]'(by omega) = xj at cg
      clear hcg hox hcx hcur
      go_wp2_with fail
      exact ⟨⟨j + 1, _, by go_num, by omega, hset, hcs⟩, by simp [intOf]; omega⟩
    · have hje : ¬ j < ul := hlt
      have hcF : ∀ k, some k = (Value.slice va ul vc).ownBlock → ¬ F6 k ∧ ¬ R k := fun k e => (HNR.out k e.symm)
      have hsE := HS6.out.keep hcx (fun k hf e => (hcF k e).1 hf)
      have hrE := HR6.out.keep hcx (fun k hk e => (hcF k e).2 hk)
      have hbE := HB6.out.trans (hcx.belowOf (fun k e => by have := (own_lt HO6.out k e.symm).1; omega) hz6)
      have hzE := Nat.le_trans hB hbE.size
      have hsb : Sl wr (.slice ua ul uc) bb := (HU.out.keep hbE).sl hzE
      have hstr : (convert 33 9 (.slice ua ul uc)).run Try.prog wr = .ok (.string (strB bb)) wr := run_str wr _ bb hsb
      have hbxE := hcx.keep HBX6.out (fun e => by have := (own_lt HO6.out _ e.symm).1; simp at this; omega)
      have k3 := cell_of hbxE 3
      have HSE := hide hsE
      have HRE := hide hrE
      clear hsE hrE hox hcx hsb hcF
      go_wp2_with fail
      refine (do_append _ HRE.out hok (by omega) one bb (by have := HUL.out; omega) hn1 (by have := HUL.out; omega)).mono ?_
      rintro e w7 ⟨rfl, hd7⟩
      obtain ⟨G7, R7, hr7, hk7, hs7, ap7, hR7, hc7⟩ := two_ref HSE.out ap6 hd7
      have hb7 := hbE.trans (hc7.belowOf (fun k hk => (HRE.out.low k hk).1) hzE)
      have hbu := bulk_append (S := S) one bb
      have heq : ((S.append one bb).2 == (S.append one bb).2) = true := by simp
      have HT := hide (show Two B w7 d r (S.append one bb).1 (m + 2) from ⟨F6, R7, G7, hs7, hr7, by rw [hk7]; omega, ap7⟩)
      clear hd7 hr7 hs7 ap7 hstr k3
      go_wp2
      go_ret3
      exact ⟨d, r, _, rfl, HT.out, by have := HUL.out; omega, hb7⟩

set_option maxRecDepth 20000 in
set_option maxHeartbeats 8000000 in
theorem does_arm3 {B d r m : Nat} {S : Dk} (w : World) (hB : B ≤ w.heap.size) (h : Two B w d r S m) (kind nn torn : Int) (name tto : Nm) (u : Value) (bb : List UInt8) (hu : Sb B w u bb) (r0 : I64 kind) (r4 : I64 nn) (r5 : I64 torn) (hm : m ≤ 900)
    (hnl : name.length < 4611686018427387904) (htl : tto.length < 4611686018427387904) (hb : S.bulk + bb.length + 100 < 274877906944) (hkk : pk kind 15 = 3) :
    Calls Try.prog 13 #[.pointer (some ⟨d, 0, none⟩), .pointer (some ⟨r, 0, none⟩), .agg #[.int .i64 kind, .string (strB name), .string (strB tto), u, .int .i64 nn, .int .i64 torn]] w fun e w' => ∃ d' r' S', e = .returned (.tuple #[.pointer (some ⟨d', 0, none⟩), .pointer (some ⟨r', 0, none⟩), .bool true]) ∧ Two B w' d' r' S' (m + 2) ∧ S'.bulk ≤ S.bulk + bb.length + 10 ∧ Below B w w' := by
  obtain ⟨F, R, G, hs0, hr0, hks, ap⟩ := h
  have hok := hs0.ok
  have hu' := hu
  obtain ⟨ua, uc, rfl, u1, u2, -, -⟩ := hu'
  generalize hul : bb.length = ul at *
  have HUL := hide hul
  clear hul
  have hcA : Chg (fun _ => False) w (w.alloc (.cells #[.int .i64 kind, .string (strB name), .string (strB tto), .slice ua ul uc, .int .i64 nn, .int .i64 torn] 35)) := (Chg.refl _ w).alloc _
  have hbA := chg_below hcA hB
  have hzA : B ≤ (w.alloc (.cells #[.int .i64 kind, .string (strB name), .string (strB tto), .slice ua ul uc, .int .i64 nn, .int .i64 torn] 35)).heap.size := Nat.le_trans hB hbA.size
  have hs := hs0.keep hcA (fun _ _ h => h)
  have hr := hr0.keep hcA (fun _ _ h => h)
  have hbx := heap_last w (.cells #[.int .i64 kind, .string (strB name), .string (strB tto), .slice ua ul uc, .int .i64 nn, .int .i64 torn] 35)
  have hpr := pk_range (c := kind) (n := 15) (by omega)
  have hpk := fun W => pick_any W kind 15 r0 (by omega)
  have hs0l := fun k hk => (hs0.2.1 k hk).2
  have hr0l := fun k hk => (hr0.low k hk).2
  clear hs0 hr0
  go_enter Try.func13, Try.ntmps13
  go_wp2_with fail
  refine (named_any _ name nn r4).mono ?_
  rintro e w2 ⟨rfl, h2⟩
  rw [h2]
  clear h2
  have hn1 : (nmd name nn).length < 4611686018427387904 := nmd_len hnl
  generalize nmd name nn = one at *
  go_wp2_with fail
  refine (named_any _ tto torn r5).mono ?_
  rintro e w3 ⟨rfl, h3⟩
  rw [h3]
  clear h3
  have hn2 : (nmd tto torn).length < 4611686018427387904 := nmd_len htl
  generalize nmd tto torn = two at *
  go_wp2_with fail
  refine (hpk _).mono ?_
  rintro e w4 ⟨rfl, h4⟩
  rw [h4]
  clear h4
  generalize pk kind 15 = kk at *
  clear hpk hpr
  subst hkk
  have k4 := cell_of hbx 4
  have k5 := cell_of hbx 5
  go_wp2_with fail
  refine (read_lies hs hzA one (by omega)).mono ?_
  rintro e w6 ⟨v, rfl, hown, F6, hs6, hF6, hc6, hv6⟩
  obtain ⟨F6', hs6', hr6, ap6, -, -⟩ := two_disk hr ap (show After B _ F d S.begun w6 from ⟨F6, hs6, hF6, hc6⟩)
  have ap6 : ∀ k, F6 k → ¬ R k := fun k hf hk => by
    rcases hF6 k hf with h | h
    · exact ap k h hk
    · have := (hr.low k hk).2
      omega
  have hb6 := hbA.trans (hc6.belowOf (fun k hk => (hs.2.1 k hk).1) hzA)
  have hz6 := Nat.le_trans hB hb6.size
  have hbx6 := hc6.keep hbx (fun hf => absurd (hs0l _ hf) (by omega))
  have k46 := cell_of hbx6 4
  have k56 := cell_of hbx6 5
  have hsl := sl_of_own hown
  obtain ⟨va, vc, rfl⟩ := own_shape hown
  go_wp2_with fail
  refine (do_read _ hr6 hok (by omega) one (by omega) hn1).mono ?_
  rintro e w7 ⟨rfl, hd7⟩
  obtain ⟨G7, R7, hr7, hk7, hs7, ap7, hR7, hc7⟩ := two_ref hs6 ap6 hd7
  have hb7 := hb6.trans (hc7.belowOf (fun k hk => (hr6.low k hk).1) hz6)
  have hnR : ∀ k, (Value.slice va (S.read one).1.length vc).ownBlock = some k → ¬ R k ∧ ¬ R7 k ∧ ¬ F6 k := fun k hk => by
    have h1 := own_lt hown k hk
    have hnr : ¬ R k := fun hr' => by
      have := (hr.low k hr').2
      omega
    refine ⟨hnr, fun hr' => ?_, hv6 k hk⟩
    rcases hR7 k hr' with h | h
    · exact hnr h
    · omega
  have hown7 := own_keep hown hc7 (fun k hk => (hnR k hk).1)
  have hstr : (convert 33 9 (.slice va (S.read one).1.length vc)).run Try.prog w7 = .ok (.string (strB (S.read one).1)) w7 := run_str w7 _ _ (sl_of_own hown7)
  have hne := nm_eq (a := (S.read one).1) (b := (S.read one).1) rfl
  have heq : ((S.read one).2 == (S.read one).2) = true := by simp
  have hbu := bulk_begun S
  have hz7 := Nat.le_trans hB hb7.size
  have HS7 := hide hs7
  have HR7 := hide hr7
  have HO7 := hide hown7
  have HNR := hide hnR
  have HB7 := hide hb7
  have hbase : B ≤ (w.alloc (.cells #[.int .i64 kind, .string (strB name), .string (strB tto), .slice ua ul uc, .int .i64 nn, .int .i64 torn] 35)).heap.size := hzA
  generalize (S.read one).1 = rb at *
  generalize (S.read one).2 = re at *
  have hrl := own_max HO7.out
  clear hs hr hs6 hs6' hr6 ap hd7 hown hown7 hsl hnR hs7 hr7 hF6 hv6 hR7
  go_wp2_with fail
  go_loopw [21] (fun i wr => ∃ (j : Nat) (xs : List Value), i = .int .i64 (j : Int) ∧ j ≤ rb.length ∧ wr.ownsRow (w.alloc (.cells #[.int .i64 kind, .string (strB name), .string (strB tto), .slice ua ul uc, .int .i64 nn, .int .i64 torn] 35)).heap.size 5 1 (.slice va rb.length vc) rb.length xs ∧ Chg (fun k => some k = (Value.slice va rb.length vc).ownBlock) w7 wr)
    (fun i _ => rb.length - (intOf i).toNat)
  case atStart => exact ⟨0, _, rfl, by omega, HO7.out, Chg.refl _ _⟩
  case round =>
    obtain ⟨j, xs, rfl, hj, hox, hcx⟩ := hrel
    by_cases hlt : j < rb.length
    · obtain ⟨g, rfl, -, hgl, hcg⟩ := own_pos hox (by omega)
      obtain ⟨cur, hcur⟩ := own_block hox (k := g) rfl
      have tg := thawed hcur j
      have hxl : xs.length = rb.length * 1 := hox.1
      have cg := hcg j (xs[j]'(by omega)) (List.getElem?_eq_getElem (by omega))
      have hset := own_set hox (j := j) (by omega) (.int .u8 77)
      have hcs := hcx.setCell (p := ⟨g, j, none⟩) (Or.inl rfl) (.int .u8 77)
      have hj0 : (0 : Int) ≤ (j : Int) := by omega
      have hj1 : (j : Int) < (rb.length : Int) := by omega
      generalize xs[j]'(by omega) = xj at cg
      clear hcg hox hcx hcur
      go_wp2_with fail
      exact ⟨⟨j + 1, _, by go_num, by omega, hset, hcs⟩, by simp [intOf]; omega⟩
    · have hje : ¬ j < rb.length := hlt
      have hsE := HS7.out.keep hcx (fun k hf e => (HNR.out k e.symm).2.2 hf)
      have hrE := HR7.out.keep hcx (fun k hk e => (HNR.out k e.symm).2.1 hk)
      have hbE := HB7.out.trans (hcx.belowOf (fun k e => by have := (own_lt HO7.out k e.symm).1; omega) hz7)
      have HT := hide (show Two B wr d r S.begun (m + 2) from ⟨F6, R7, G7, hsE, hrE, by rw [hk7]; omega, ap7⟩)
      clear hsE hrE hox hcx
      go_wp2
      go_ret3
      exact ⟨d, r, _, rfl, HT.out, by omega, hbE⟩

set_option maxRecDepth 20000 in
set_option maxHeartbeats 8000000 in
theorem does_arm4 {B d r m : Nat} {S : Dk} (w : World) (hB : B ≤ w.heap.size) (h : Two B w d r S m) (kind nn torn : Int) (name tto : Nm) (u : Value) (bb : List UInt8) (hu : Sb B w u bb) (r0 : I64 kind) (r4 : I64 nn) (r5 : I64 torn) (hm : m ≤ 900)
    (hnl : name.length < 4611686018427387904) (htl : tto.length < 4611686018427387904) (hb : S.bulk + bb.length + 100 < 274877906944) (hkk : pk kind 15 = 4) :
    Calls Try.prog 13 #[.pointer (some ⟨d, 0, none⟩), .pointer (some ⟨r, 0, none⟩), .agg #[.int .i64 kind, .string (strB name), .string (strB tto), u, .int .i64 nn, .int .i64 torn]] w fun e w' => ∃ d' r' S', e = .returned (.tuple #[.pointer (some ⟨d', 0, none⟩), .pointer (some ⟨r', 0, none⟩), .bool true]) ∧ Two B w' d' r' S' (m + 2) ∧ S'.bulk ≤ S.bulk + bb.length + 10 ∧ Below B w w' := by
  obtain ⟨F, R, G, hs0, hr0, hks, ap⟩ := h
  have hok := hs0.ok
  have hu' := hu
  obtain ⟨ua, uc, rfl, u1, u2, -, -⟩ := hu'
  generalize hul : bb.length = ul at *
  have HUL := hide hul
  clear hul
  have hcA : Chg (fun _ => False) w (w.alloc (.cells #[.int .i64 kind, .string (strB name), .string (strB tto), .slice ua ul uc, .int .i64 nn, .int .i64 torn] 35)) := (Chg.refl _ w).alloc _
  have hbA := chg_below hcA hB
  have hzA : B ≤ (w.alloc (.cells #[.int .i64 kind, .string (strB name), .string (strB tto), .slice ua ul uc, .int .i64 nn, .int .i64 torn] 35)).heap.size := Nat.le_trans hB hbA.size
  have hs := hs0.keep hcA (fun _ _ h => h)
  have hr := hr0.keep hcA (fun _ _ h => h)
  have hbx := heap_last w (.cells #[.int .i64 kind, .string (strB name), .string (strB tto), .slice ua ul uc, .int .i64 nn, .int .i64 torn] 35)
  have hpr := pk_range (c := kind) (n := 15) (by omega)
  have hpk := fun W => pick_any W kind 15 r0 (by omega)
  have hs0l := fun k hk => (hs0.2.1 k hk).2
  have hr0l := fun k hk => (hr0.low k hk).2
  clear hs0 hr0
  go_enter Try.func13, Try.ntmps13
  go_wp2_with fail
  refine (named_any _ name nn r4).mono ?_
  rintro e w2 ⟨rfl, h2⟩
  rw [h2]
  clear h2
  have hn1 : (nmd name nn).length < 4611686018427387904 := nmd_len hnl
  generalize nmd name nn = one at *
  go_wp2_with fail
  refine (named_any _ tto torn r5).mono ?_
  rintro e w3 ⟨rfl, h3⟩
  rw [h3]
  clear h3
  have hn2 : (nmd tto torn).length < 4611686018427387904 := nmd_len htl
  generalize nmd tto torn = two at *
  go_wp2_with fail
  refine (hpk _).mono ?_
  rintro e w4 ⟨rfl, h4⟩
  rw [h4]
  clear h4
  generalize pk kind 15 = kk at *
  clear hpk hpr
  subst hkk
  go_wp2_with fail
  refine (do_sync _ hr hok (by omega) one (by omega) hn1).mono ?_
  rintro e w5 ⟨rfl, hd5⟩
  obtain ⟨G5, R5, hr5, hk5, hs5, ap5, hR5, hc5⟩ := two_ref hs ap hd5
  have hb5 := hbA.trans (hc5.belowOf (fun k hk => (hr.low k hk).1) hzA)
  have hz5 := Nat.le_trans hB hb5.size
  go_wp2_with fail
  refine (sync_lies hs5 hz5 one (by omega)).mono ?_
  rintro e w6 ⟨rfl, ha⟩
  obtain ⟨F6, hs6, hr6, ap6, -, hc6⟩ := two_disk hr5 ap5 ha
  have hb6 := hb5.trans (hc6.belowOf (fun k hk => (hs5.2.1 k hk).1) hz5)
  have hbu := bulk_sync (S := S) one
  have heq : ((S.sync one).2 == (S.sync one).2) = true := by simp
  have HT := hide (show Two B w6 d r (S.sync one).1 (m + 2) from ⟨F6, R5, G5, hs6, hr6, by rw [hk5]; omega, ap6⟩)
  clear hs hr hs5 hr5 hs6 hr6 ha hd5 ap ap5 ap6
  go_wp2
  go_ret3
  exact ⟨d, r, _, rfl, HT.out, by omega, hb6⟩

set_option maxRecDepth 20000 in
set_option maxHeartbeats 8000000 in
theorem does_arm5 {B d r m : Nat} {S : Dk} (w : World) (hB : B ≤ w.heap.size) (h : Two B w d r S m) (kind nn torn : Int) (name tto : Nm) (u : Value) (bb : List UInt8) (hu : Sb B w u bb) (r0 : I64 kind) (r4 : I64 nn) (r5 : I64 torn) (hm : m ≤ 900)
    (hnl : name.length < 4611686018427387904) (htl : tto.length < 4611686018427387904) (hb : S.bulk + bb.length + 100 < 274877906944) (hkk : pk kind 15 = 5) :
    Calls Try.prog 13 #[.pointer (some ⟨d, 0, none⟩), .pointer (some ⟨r, 0, none⟩), .agg #[.int .i64 kind, .string (strB name), .string (strB tto), u, .int .i64 nn, .int .i64 torn]] w fun e w' => ∃ d' r' S', e = .returned (.tuple #[.pointer (some ⟨d', 0, none⟩), .pointer (some ⟨r', 0, none⟩), .bool true]) ∧ Two B w' d' r' S' (m + 2) ∧ S'.bulk ≤ S.bulk + bb.length + 10 ∧ Below B w w' := by
  obtain ⟨F, R, G, hs0, hr0, hks, ap⟩ := h
  have hok := hs0.ok
  have hu' := hu
  obtain ⟨ua, uc, rfl, u1, u2, -, -⟩ := hu'
  generalize hul : bb.length = ul at *
  have HUL := hide hul
  clear hul
  have hcA : Chg (fun _ => False) w (w.alloc (.cells #[.int .i64 kind, .string (strB name), .string (strB tto), .slice ua ul uc, .int .i64 nn, .int .i64 torn] 35)) := (Chg.refl _ w).alloc _
  have hbA := chg_below hcA hB
  have hzA : B ≤ (w.alloc (.cells #[.int .i64 kind, .string (strB name), .string (strB tto), .slice ua ul uc, .int .i64 nn, .int .i64 torn] 35)).heap.size := Nat.le_trans hB hbA.size
  have hs := hs0.keep hcA (fun _ _ h => h)
  have hr := hr0.keep hcA (fun _ _ h => h)
  have hbx := heap_last w (.cells #[.int .i64 kind, .string (strB name), .string (strB tto), .slice ua ul uc, .int .i64 nn, .int .i64 torn] 35)
  have hpr := pk_range (c := kind) (n := 15) (by omega)
  have hpk := fun W => pick_any W kind 15 r0 (by omega)
  have hs0l := fun k hk => (hs0.2.1 k hk).2
  have hr0l := fun k hk => (hr0.low k hk).2
  clear hs0 hr0
  go_enter Try.func13, Try.ntmps13
  go_wp2_with fail
  refine (named_any _ name nn r4).mono ?_
  rintro e w2 ⟨rfl, h2⟩
  rw [h2]
  clear h2
  have hn1 : (nmd name nn).length < 4611686018427387904 := nmd_len hnl
  generalize nmd name nn = one at *
  go_wp2_with fail
  refine (named_any _ tto torn r5).mono ?_
  rintro e w3 ⟨rfl, h3⟩
  rw [h3]
  clear h3
  have hn2 : (nmd tto torn).length < 4611686018427387904 := nmd_len htl
  generalize nmd tto torn = two at *
  go_wp2_with fail
  refine (hpk _).mono ?_
  rintro e w4 ⟨rfl, h4⟩
  rw [h4]
  clear h4
  generalize pk kind 15 = kk at *
  clear hpk hpr
  subst hkk
  go_wp2_with fail
  refine (do_sync _ hr hok (by omega) one (by omega) hn1).mono ?_
  rintro e w5 ⟨rfl, hd5⟩
  obtain ⟨G5, R5, hr5, hk5, hs5, ap5, hR5, hc5⟩ := two_ref hs ap hd5
  have hb5 := hbA.trans (hc5.belowOf (fun k hk => (hr.low k hk).1) hzA)
  have hz5 := Nat.le_trans hB hb5.size
  go_wp2_with fail
  refine (sync_lies hs5 hz5 one (by omega)).mono ?_
  rintro e w6 ⟨rfl, ha⟩
  obtain ⟨F6, hs6, hr6, ap6, -, hc6⟩ := two_disk hr5 ap5 ha
  have hb6 := hb5.trans (hc6.belowOf (fun k hk => (hs5.2.1 k hk).1) hz5)
  have hbu := bulk_sync (S := S) one
  have heq : ((S.sync one).2 == (S.sync one).2) = true := by simp
  have HT := hide (show Two B w6 d r (S.sync one).1 (m + 2) from ⟨F6, R5, G5, hs6, hr6, by rw [hk5]; omega, ap6⟩)
  clear hs hr hs5 hr5 hs6 hr6 ha hd5 ap ap5 ap6
  go_wp2
  go_ret3
  exact ⟨d, r, _, rfl, HT.out, by omega, hb6⟩

end Go.Proofs.Ytlejgdjkdbamkaa
