/-
  What reading digits answers: digitOf, Unhex; the reference's digit. Condition: a text within what make takes.
-/
import Derived.Test.YtbdepocmepkanaaDoorHex
namespace Go.Proofs.YtbdepocmepkanaaDoor
open Go.RowKit

/-- The number of a digit. -/
def undig (n : Nat) : Option Nat := if 48 ≤ n ∧ n ≤ 57 then some (n - 48) else if 97 ≤ n ∧ n ≤ 102 then some (n - 87) else none
/-- The bytes of which a text is the digits. -/
def unhex : List UInt8 → Option (List UInt8)
  | [] => some []
  | [_] => none
  | a :: b :: r => match undig a.toNat, undig b.toNat with
    | some x, some y => (unhex r).map (UInt8.ofNat (16 * x + y) :: ·)
    | _, _ => none

theorem undig_lt {n x : Nat} (h : undig n = some x) : x < 16 := by
  unfold undig at h
  split at h
  · injection h with h; omega
  split at h
  · injection h with h; omega
  · cases h

theorem ret_dig {a b : Int} (h : a = b) : Ending.returned (.tuple #[.int .u8 a, .bool true]) = .returned (.tuple #[.int .u8 b, .bool true]) := by rw [h]
theorem ret_un {a b : ByteArray} {c d : Bool} (h : a = b) (h' : c = d) : Ending.returned (.tuple #[.string a, .bool c]) = .returned (.tuple #[.string b, .bool d]) := by rw [h, h']

set_option maxRecDepth 20000 in
theorem digitOf_some (w : World) (n x : Nat) (hn : n < 256) (hx : undig n = some x) :
    Calls Tryd.prog 22 #[.int .u8 n] w fun e w' => e = .returned (.tuple #[.int .u8 (x : Int), .bool true]) ∧ w' = w := by
  have hc : (48 ≤ n ∧ n ≤ 57 ∧ x = n - 48) ∨ (97 ≤ n ∧ n ≤ 102 ∧ x = n - 87) := by
    unfold undig at hx
    split at hx
    · injection hx with h; omega
    split at hx
    · injection hx with h; omega
    · cases hx
  clear hx
  go_enter Tryd.func22, Tryd.ntmps22
  go_wp2
  all_goals (go_ret2; exact ⟨ret_dig (by omega), rfl⟩)
theorem digitOf_none (w : World) (n : Nat) (hn : n < 256) (hx : undig n = none) :
    Calls Tryd.prog 22 #[.int .u8 n] w fun e w' => e = .returned (.tuple #[.int .u8 0, .bool false]) ∧ w' = w := by
  have hc : n < 48 ∨ (57 < n ∧ n < 97) ∨ 102 < n := by
    unfold undig at hx
    split at hx
    · cases hx
    split at hx
    · cases hx
    · omega
  clear hx
  go_enter Tryd.func22, Tryd.ntmps22
  go_wp2
  all_goals (go_ret2; exact ⟨rfl, rfl⟩)
theorem digit_some (w : World) (n x : Nat) (hn : n < 256) (hx : undig n = some x) :
    Calls Tryd.prog 23 #[.int .u8 n] w fun e w' => e = .returned (.int .i64 (x : Int)) ∧ w' = w := by
  have hc : (48 ≤ n ∧ n ≤ 57 ∧ x = n - 48) ∨ (97 ≤ n ∧ n ≤ 102 ∧ x = n - 87) := by
    unfold undig at hx
    split at hx
    · injection hx with h; omega
    split at hx
    · injection hx with h; omega
    · cases hx
  clear hx
  go_enter Tryd.func23, Tryd.ntmps23
  go_wp2
  all_goals (go_ret; exact ⟨ret_int (by omega), rfl⟩)
theorem digit_none (w : World) (n : Nat) (hn : n < 256) (hx : undig n = none) :
    Calls Tryd.prog 23 #[.int .u8 n] w fun e w' => e = .returned (.int .i64 (-1)) ∧ w' = w := by
  have hc : n < 48 ∨ (57 < n ∧ n < 97) ∨ 102 < n := by
    unfold undig at hx
    split at hx
    · cases hx
    split at hx
    · cases hx
    · omega
  clear hx
  go_enter Tryd.func23, Tryd.ntmps23
  go_wp2
  all_goals (go_ret; exact ⟨rfl, rfl⟩)

theorem unhex_odd : ∀ l : List UInt8, l.length % 2 = 1 → unhex l = none
  | [], h => by simp at h
  | [_], _ => rfl
  | a :: b :: r, h => by
    have := unhex_odd r (by simp at h; omega)
    unfold unhex
    rw [this]
    split <;> rfl
theorem unhex_none {l : List UInt8} {i : Nat} {D : List UInt8} (hu : unhex l = (unhex (l.drop i)).map (D ++ ·)) (hi : i + 1 < l.length) (h : undig (l.getD i 0).toNat = none ∨ undig (l.getD (i + 1) 0).toNat = none) : unhex l = none := by
  have e : l.drop i = l.getD i 0 :: l.getD (i + 1) 0 :: l.drop (i + 2) := by
    rw [List.drop_eq_getElem_cons (by omega), List.drop_eq_getElem_cons hi]
    simp [List.getD, List.getElem?_eq_getElem hi, List.getElem?_eq_getElem (show i < l.length by omega)]
  rw [hu, e]
  unfold unhex
  rcases h with h | h
  · rw [h]; rfl
  · rw [h]
    split
    · rename_i h1 h2; cases h2
    · rfl
theorem unhex_step {l : List UInt8} {i x y : Nat} {D : List UInt8} (hu : unhex l = (unhex (l.drop i)).map (D ++ ·)) (hi : i + 1 < l.length) (hx : undig (l.getD i 0).toNat = some x) (hy : undig (l.getD (i + 1) 0).toNat = some y) :
    unhex l = (unhex (l.drop (i + 2))).map ((D ++ [UInt8.ofNat (16 * x + y)]) ++ ·) := by
  have e : l.drop i = l.getD i 0 :: l.getD (i + 1) 0 :: l.drop (i + 2) := by
    rw [List.drop_eq_getElem_cons (by omega), List.drop_eq_getElem_cons hi]
    simp [List.getD, List.getElem?_eq_getElem hi, List.getElem?_eq_getElem (show i < l.length by omega)]
  rw [hu, e]
  conv => lhs; unfold unhex
  rw [hx, hy]
  simp only [Option.map_map]
  congr 1
  funext r
  simp
theorem or4 (x y : Nat) (hx : x < 16) (hy : y < 16) : bits .or .u8 ((x : Int) * 16) (y : Int) = (((UInt8.ofNat (16 * x + y)).toNat : Nat) : Int) := by
  have h : ∀ a b : Fin 16, bits .or .u8 ((a.val : Int) * 16) (b.val : Int) = (((UInt8.ofNat (16 * a.val + b.val)).toNat : Nat) : Int) := by decide +kernel
  exact h ⟨x, hx⟩ ⟨y, hy⟩
theorem index9i (w : World) (l : List UInt8) (kd : IntKind) (K : Int) (k : Nat) (hK : K = (k : Int)) (h : k < l.length) : (Instr.index 9 (.string (strB l)) (.int kd K)).run Tryd.prog w = .ok (.int .u8 ((l.getD k 0).toNat : Int)) w := by
  subst hK
  exact index9 w l kd k h

theorem undig_dig : ∀ n : Fin 16, undig (dig n.val).toNat = some n.val := by decide +kernel
theorem dig_undig (n x : Nat) (hn : n < 256) (h : undig n = some x) : (dig x).toNat = n := by
  have hh : ∀ m : Fin 256, (match undig m.val with | some x => decide ((dig x).toNat = m.val) | none => true) = true := by decide +kernel
  have := hh ⟨n, hn⟩
  simp only [h] at this
  exact of_decide_eq_true this
theorem unhex_hex : ∀ l : List UInt8, unhex (hex l) = some l
  | [] => rfl
  | c :: r => by
    have ih := unhex_hex r
    have hc := c.toNat_lt
    show unhex (dig (c.toNat / 16) :: dig (c.toNat % 16) :: hex r) = _
    unfold unhex
    rw [undig_dig ⟨c.toNat / 16, by omega⟩, undig_dig ⟨c.toNat % 16, by omega⟩, ih]
    simp only [Option.map_some]
    congr 2
    rw [show 16 * (c.toNat / 16) + c.toNat % 16 = c.toNat from by omega]
    simp
theorem hex_unhex : ∀ (l b : List UInt8), unhex l = some b → hex b = l
  | [], b, h => by
    simp only [unhex, Option.some.injEq] at h
    subst h
    rfl
  | [_], b, h => by simp [unhex] at h
  | p :: q :: r, b, h => by
    unfold unhex at h
    split at h
    · rename_i x y hx hy
      cases hr : unhex r with
      | none => rw [hr] at h; simp at h
      | some d =>
        rw [hr] at h
        simp only [Option.map_some, Option.some.injEq] at h
        subst h
        have h1 := undig_lt hx
        have h2 := undig_lt hy
        have e : (UInt8.ofNat (16 * x + y)).toNat = 16 * x + y := by rw [UInt8.toNat_ofNat']; omega
        show dig ((UInt8.ofNat (16 * x + y)).toNat / 16) :: dig ((UInt8.ofNat (16 * x + y)).toNat % 16) :: hex d = _
        rw [e, show (16 * x + y) / 16 = x from by omega, show (16 * x + y) % 16 = y from by omega, hex_unhex r d hr]
        have a1 := dig_undig _ _ p.toNat_lt hx
        have a2 := dig_undig _ _ q.toNat_lt hy
        rw [UInt8.toNat_inj.1 a1, UInt8.toNat_inj.1 a2]
    · cases h

set_option maxRecDepth 20000 in
set_option maxHeartbeats 800000 in
theorem unhex_any (w : World) (l : List UInt8) (hl : l.length ≤ 281474976702464) :
    Calls Tryd.prog 11 #[.string (strB l)] w fun e w' => e = .returned (.tuple #[.string (strB ((unhex l).getD [])), .bool (unhex l).isSome]) ∧ Below w.heap.size w w' := by
  obtain ⟨i0, hi, hz0, hz1, hz2⟩ := info_parts Tryd.info5
  have hss := strB_size l
  by_cases hodd : l.length % 2 = 1
  · have hN := hide (unhex_odd l hodd)
    have hm : ((l.length : Nat) : Int).tmod 2 = 1 := by rw [Int.tmod_eq_emod_of_nonneg (by omega)]; omega
    go_enter Tryd.func11, Tryd.ntmps11
    go_wp2
    go_ret2
    exact ⟨ret_un (by rw [hN.out]; rfl) (by rw [hN.out]; rfl), Below.refl _ _⟩
  · have hm : ((l.length : Nat) : Int).tmod 2 = 0 := by rw [Int.tmod_eq_emod_of_nonneg (by omega)]; omega
    have hd : ((l.length : Nat) : Int).tdiv 2 = ((l.length / 2 : Nat) : Int) := by rw [Int.tdiv_eq_ediv_of_nonneg (by omega)]; omega
    obtain ⟨q, hq⟩ : ∃ q, q = l.length / 2 := ⟨_, rfl⟩
    rw [← hq] at hd
    have HQ : Hid (2 * q = l.length) := by show _ = _; omega
    have hq' : q ≤ 140737488351232 := by omega
    clear hq
    go_enter Tryd.func11, Tryd.ntmps11
    go_wp2_with (at_make; refine wpList_make_own _ rfl _ _ 25 rfl w.heap.size 5 i0 (.int .u8 0) 1 Tryd.underlying25 hi hz0 hz1 .i64 .i64 _ q rfl rfl (by omega) (by rw [hz2]; omega) (by unfold maxLen; omega) (Nat.le_refl _) ?_; intro w1 hown1 hgrow1)
    have hb1 : Below w.heap.size w w1 := (Below.refl _ _).grown hgrow1 (Nat.le_refl _) (by intro k hk; cases hk)
    clear hgrow1 hm hd
    go_loopw [4, 5] (fun v t wr => ∃ (i m : Nat) (D : List UInt8), i ≤ l.length ∧ i = 2 * m ∧ D.length = m ∧ t = .int .i64 i ∧ v = .slice (some ⟨w.heap.size, 0, none⟩) m q ∧
        wr.ownsRow w.heap.size 5 1 (.slice (some ⟨w.heap.size, 0, none⟩) m q) m (bc D) ∧ unhex l = (unhex (l.drop i)).map (D ++ ·) ∧ Below w.heap.size w wr)
      (fun _ t _ => l.length - (intOf t).toNat)
    case atStart => exact ⟨0, 0, [], by omega, rfl, rfl, rfl, rfl, hown1, by simp, hb1⟩
    case round =>
      clear hown1 hb1
      obtain ⟨i, m, D, hil, him, hDm, rfl, rfl, hown, hu, hb⟩ := hrel
      by_cases hlt : i < l.length
      · have hlt1 : i + 1 < l.length := by omega
        have hix := fun W => index9i W l .i64 i i rfl hlt
        have hiy := fun W => index9i W l .i64 ((i : Int) + 1) (i + 1) (by omega) hlt1
        have ha := UInt8.toNat_lt (l.getD i 0)
        have hb' := UInt8.toNat_lt (l.getD (i + 1) 0)
        have HU := hide hu
        have HB := hide hb
        have HM := hide him
        have HD := hide hDm
        have HO := hide hown
        clear hu hb him hDm hown
        cases hx : undig (l.getD i 0).toNat with
        | none =>
          have hN := hide (unhex_none HU.out hlt1 (.inl hx))
          have HX := hide hx
          clear hx
          cases hy : undig (l.getD (i + 1) 0).toNat with
          | none =>
            have HY := hide hy
            clear hy
            generalize (l.getD i 0).toNat = a at *
            generalize (l.getD (i + 1) 0).toNat = b at *
            go_wp2_with fail
            refine (digitOf_none _ a ha HX.out).mono ?_
            rintro e1 w2 ⟨rfl, rfl⟩
            go_wp2_with fail
            refine (digitOf_none _ b hb' HY.out).mono ?_
            rintro e1 w2 ⟨rfl, rfl⟩
            go_wp2
            go_ret2
            exact ⟨ret_un (by rw [hN.out]; rfl) (by rw [hN.out]; rfl), HB.out⟩
          | some y =>
            have HY := hide hy
            clear hy
            generalize (l.getD i 0).toNat = a at *
            generalize (l.getD (i + 1) 0).toNat = b at *
            go_wp2_with fail
            refine (digitOf_none _ a ha HX.out).mono ?_
            rintro e1 w2 ⟨rfl, rfl⟩
            go_wp2_with fail
            refine (digitOf_some _ b y hb' HY.out).mono ?_
            rintro e1 w2 ⟨rfl, rfl⟩
            go_wp2
            go_ret2
            exact ⟨ret_un (by rw [hN.out]; rfl) (by rw [hN.out]; rfl), HB.out⟩
        | some x =>
          have HX := hide hx
          cases hy : undig (l.getD (i + 1) 0).toNat with
          | none =>
            have hN := hide (unhex_none HU.out hlt1 (.inr hy))
            clear hx
            have HY := hide hy
            clear hy
            generalize (l.getD i 0).toNat = a at *
            generalize (l.getD (i + 1) 0).toNat = b at *
            go_wp2_with fail
            refine (digitOf_some _ a x ha HX.out).mono ?_
            rintro e1 w2 ⟨rfl, rfl⟩
            go_wp2_with fail
            refine (digitOf_none _ b hb' HY.out).mono ?_
            rintro e1 w2 ⟨rfl, rfl⟩
            go_wp2
            go_ret2
            exact ⟨ret_un (by rw [hN.out]; rfl) (by rw [hN.out]; rfl), HB.out⟩
          | some y =>
            have HS := hide (unhex_step HU.out hlt1 hx hy)
            clear hx
            have HY := hide hy
            clear hy
            generalize (l.getD i 0).toNat = a at *
            generalize (l.getD (i + 1) 0).toNat = b at *
            go_wp2_with fail
            refine (digitOf_some _ a x ha HX.out).mono ?_
            rintro e1 w2 ⟨rfl, rfl⟩
            go_wp2_with fail
            refine (digitOf_some _ b y hb' HY.out).mono ?_
            rintro e1 w2 ⟨rfl, rfl⟩
            have hx16 := undig_lt HX.out
            have hy16 := undig_lt HY.out
            have hor := or4 x y hx16 hy16
            generalize UInt8.ofNat (16 * x + y) = zz at *
            have hown := HO.out
            have hmq : m + 1 ≤ q := by have := HM.out; have := HQ.out; omega
            go_wp2_with (at_builtin; refine wpList_append_fits _ rfl (.tmp 45) (.tmp 50) 25 rfl w.heap.size 5 i0 1 Tryd.underlying25 hi hz1 w.heap.size m q (bc D) rfl (hown.alloc _) ⟨w2.heap.size, 0, none⟩ 1 1 (bc [zz]) rfl rfl ?c1 (bc_one _) hmq ?_)
            case c1 =>
              intro j z hj
              match j, hj with
              | 0, hj => simp [bc] at hj; subst hj; simp [Addr.add_lit]
            intro w3 hown3 hgrow3
            have HB3 := hide ((HB.out.alloc HB.out.size (.cells #[.int .u8 ((zz.toNat : Nat) : Int)] 5)).grown hgrow3 (by have := HB.out.size; simp; omega) (by intro k hk; injection hk with hk; omega))
            rw [← bc_append] at hown3
            have HO3 := hide hown3
            clear hgrow3 hown3 hown
            go_wp2
            go_roundw
            case rel => exact ⟨i + 2, m + 1, D ++ [zz], by omega, by have := HM.out; omega, by simp; exact HD.out, by go_num, rfl, HO3.out, HS.out, HB3.out⟩
            case measure => simp [intOf]; omega
      · have hsl := sl_at hDm hown
        rw [List.drop_eq_nil_of_le (by omega)] at hu
        have HU : Hid (unhex l = some D) := by show _ = _; rw [hu]; simp [unhex]
        clear hu hown
        go_wp2_with (refine wpList_strB _ rfl (.tmp 52) rfl hsl rfl ?_)
        go_ret2
        exact ⟨ret_un (by rw [HU.out]; rfl) (by rw [HU.out]; rfl), hb⟩
end Go.Proofs.YtbdepocmepkanaaDoor
