/-
  Texts joined: WPut, WTake, WText, WFacts, WCrc, Group.
-/
import Derived.Test.YthjcimgollfmgaaGreatDoorP1Chg
import Derived.Test.YthjcimgollfmgaaGreatDoorP11Law
import Derived.Lib.AppendStr
import Derived.Laws.IdiomStrings
import Derived.WalkMore
import Derived.Deep.LoopGhost
/-
  What putting numbers and texts answers: withRoom, putBits, PutInt, PutText. Conditions: bytes that are together within what make takes.
-/
namespace Go.Proofs.YthjcimgollfmgaaGreatDoor
open Go.RowKit

theorem Sl.keepB {w w' : World} {v : Value} {l : List UInt8} (h : Sl w v l) (hb : Below w.heap.size w w') : Sl w' v l := by
  obtain ⟨ao, cap, hv, h1, h2, h3, h4⟩ := h
  refine ⟨ao, cap, hv, h1, h2, h3, fun hl => ?_⟩
  obtain ⟨b, off, ha, hlt, hc⟩ := h4 hl
  exact ⟨b, off, ha, Nat.lt_of_lt_of_le hlt hb.size, fun j hj => (hb.cell (p := ⟨b, off + j, none⟩) hlt).trans (hc j hj)⟩

theorem Sl.cells {w w' : World} {ao : Option Addr} {n cap : Nat} {l : List UInt8} (h : Sl w (.slice ao n cap) l) (hb : Below w.heap.size w w') :
    ∀ ad, ao = Option.some ad → ∀ j u, (bc l)[j]? = Option.some u → w'.cell? (ad.add j) = Option.some u := by
  intro ad had j u hu
  obtain ⟨ao', cap', hv, _, _, _, h4⟩ := h.keepB hb
  have hj : j < l.length := by
    have := (List.getElem?_eq_some_iff.1 hu).1
    rwa [bc_length] at this
  obtain ⟨b, off, ha, _, hc⟩ := h4 (by rintro rfl; simp at hj)
  injection hv with e1 e2 e3
  rw [← e1, had] at ha
  injection ha with ha
  subst ha
  rw [bc_get l j hj] at hu
  injection hu with hu
  subst hu
  rw [Addr.add_lit]
  exact hc j hj

theorem Tryz.infoB : (Tryz.prog.info? 5).map (fun i => (i.zero, i.size, i.bytes)) = some (some (.int .u8 0), 1, 1) := by kernel_rfl

set_option maxHeartbeats 400000 in
theorem withRoom_nat (w : World) (v : Value) (l : List UInt8) (room : Nat) (h : Sl w v l) (hr : l.length + room ≤ 281474976710656) :
    Calls Tryz.prog 67 #[v, .int .i64 room] w fun e w' => e = .returned (.slice (some ⟨w.heap.size, 0, none⟩) l.length (l.length + room)) ∧
      w'.ownsRow w.heap.size 5 1 (.slice (some ⟨w.heap.size, 0, none⟩) l.length (l.length + room)) l.length (bc l) ∧ Below w.heap.size w w' ∧ w.heap.size < w'.heap.size := by
  have h' := h
  obtain ⟨ao, cap, rfl, h1, h2, h3, h4⟩ := h'
  clear h4
  obtain ⟨i0, hi, hz0, hz1, hz2⟩ := info_parts Tryz.infoB
  go_enter Tryz.func67, Tryz.ntmps67
  go_wp2_with (first
    | (at_make; refine wpList_make_own _ rfl _ _ 78 rfl w.heap.size 5 i0 (.int .u8 0) 1 Tryz.underlying78 hi hz0 hz1 .i64 .i64 _ (l.length + room) rfl rfl (by omega) (by rw [hz2]; omega) (by unfold maxLen; omega) (Nat.le_refl _) ?_; intro w1 hown1 hgrow1)
    | (at_builtin; refine wpList_append_fits_any _ rfl (.tmp 9) (.tmp 10) 78 rfl w.heap.size 5 i0 1 Tryz.underlying78 hi hz1 w.heap.size 0 (l.length + room) [] rfl hown1 ao l.length cap (bc l) rfl (by rw [bc_length, Nat.mul_one]) (by intro hn; have := h3 hn; omega) (h.cells ((Below.refl _ _).grown hgrow1 (Nat.le_refl _) (by intro k hk; cases hk))) (bc_one l) (by omega) ?_; intro w2 hown2 hgrow2))
  go_ret
  simp only [Nat.zero_add, List.nil_append] at hown2
  refine ⟨rfl, hown2, ((Below.refl _ _).grown hgrow1 (Nat.le_refl _) (by intro k hk; cases hk)).grown hgrow2 hgrow1.size (by intro k hk; injection hk with hk; omega), ?_⟩
  exact (hown2.lt _ rfl).2

theorem withRoom_any (w : World) (v : Value) (l : List UInt8) (room : Int) (h : Sl w v l) (h0 : 0 ≤ room) (hr : (l.length : Int) + room ≤ 281474976710656) :
    Calls Tryz.prog 67 #[v, .int .i64 room] w fun e w' => ∃ cap : Nat, (l.length : Int) + room = cap ∧ e = .returned (.slice (some ⟨w.heap.size, 0, none⟩) l.length cap) ∧
      w'.ownsRow w.heap.size 5 1 (.slice (some ⟨w.heap.size, 0, none⟩) l.length cap) l.length (bc l) ∧ Below w.heap.size w w' ∧ w.heap.size < w'.heap.size := by
  obtain ⟨r, rfl⟩ := Int.eq_ofNat_of_zero_le h0
  refine (withRoom_nat w v l r h (by omega)).mono ?_
  rintro e w' ⟨rfl, a, b, c⟩
  exact ⟨l.length + r, by omega, rfl, a, b, c⟩

theorem or128 (x : Nat) : bits .or .u8 ((x : Int) % 256) 128 = (((UInt8.ofNat (x % 128 + 128)).toNat : Nat) : Int) := by
  have e : (x : Int) % 256 = ((x % 256 : Nat) : Int) := by omega
  rw [e, show (128 : Int) = ((128 : Nat) : Int) from rfl, u8_or_nat _ _ (by omega) (by omega), Pl.byte_small (by omega)]
  have h : ∀ a : Fin 256, a.val ||| 128 = a.val % 128 + 128 := by decide +kernel
  have := h ⟨x % 256, by omega⟩
  simp only at this
  omega
theorem low7 (x : Nat) (h : x < 128) : IntKind.u8.wrap (x : Int) = (((UInt8.ofNat x).toNat : Nat) : Int) := by
  rw [Pl.byte_small (by omega), IntKind.wrap_u8]; omega

/-- 'append(b, s...)' within the capacity. -/
theorem wpList_append_fits_str {P : Program} (w : World) {ops : Array Oper} {rest : List Oper} {o : Oper} {a : Act} {Q : Exit → Act → World → Prop} (hgd : o.guard = none) (sl x : Operand) (t u : TypeId)
    (ho : o.op = .call { callee := .builtin .append, args := #[sl, x], argTypes := #[t, u] })
    (base : Nat) (e : TypeId) (i : TypeInfo) (ht : P.underlying t = some (.slice e)) (hu : P.underlying u = some .string) (hi : P.info? e = some i) (hsize : i.size = 1)
    (g n cap : Nat) (xs : List Value) (hs : a.eval sl = .slice (some ⟨g, 0, none⟩) n cap) (hown : w.ownsRow base e 1 (.slice (some ⟨g, 0, none⟩) n cap) n xs) (s : ByteArray) (hx : a.eval x = .string s)
    (hroom : n + s.size ≤ cap)
    (h : ∀ w', w'.ownsRow base e 1 (.slice (some ⟨g, 0, none⟩) (n + s.size) cap) (n + s.size) (xs ++ Lib.strCells s) → w.grownBy w' (some g) → wpList P ops Q rest (a.put o.dst (.slice (some ⟨g, 0, none⟩) (n + s.size) cap)) w') :
    wpList P ops Q (o :: rest) a w := by
  refine wpList_plain hgd fun K hK => ?_
  have hlen : (xs ++ Lib.strCells s).length = (n + s.size) * 1 := by rw [List.length_append, hown.1, Lib.strCells_length]; omega
  rcases hown.2 with ⟨h0, _⟩ | ⟨g', cap', cur, h0, hbg, hg, hnc, hcm, hcs, htake⟩
  · simp at h0
  · simp only [Value.slice.injEq, Option.some.injEq, Addr.mk.injEq, and_true, true_and] at h0
    obtain ⟨rfl, rfl⟩ := h0
    have hr := Lib.run_append_room_string (P := P) w t u o.type e i ht hu hi hsize g n cap cur hg s hroom (by omega)
    unfold Oper.wp execOp
    simp only [ho, resolve, invoke, builtin, Sem.run_bind, Sem.run_pure, Result.andThen_ok, List.map_toArray, List.map_cons, List.map_nil, hs, hx, hr]
    refine hK _ _ (h _ ⟨hlen, .inr ⟨g, cap, _, rfl, hbg, setRow_heap w g cur _ e _ hg, hroom, hcm, ?_, ?_⟩⟩ ⟨rfl, rfl, rfl, by simp, fun k _ hk => setRow_other w g k _ (fun e => hk (by simp [e]))⟩)
    · have := Lib.strCells_length s
      simp only [List.size_toArray, List.length_append, List.length_take, List.length_drop, Array.length_toList]
      omega
    · rw [Nat.mul_one] at htake hlen ⊢
      rw [htake, ← hlen]
      exact List.take_left

set_option maxRecDepth 20000 in
set_option maxHeartbeats 400000 in
theorem putBits_any (w : World) (base g cap : Nat) (l : List UInt8) (u : Nat) (hu : u < 18446744073709551616) (hbase : base ≤ w.heap.size)
    (hown : w.ownsRow base 5 1 (.slice (some ⟨g, 0, none⟩) l.length cap) l.length (bc l)) (hfit : l.length + (Pl.enc u).length ≤ cap) :
    Calls Tryz.prog 66 #[.slice (some ⟨g, 0, none⟩) l.length cap, .int .u64 u] w fun e w' => e = .returned (.slice (some ⟨g, 0, none⟩) (l ++ Pl.enc u).length cap) ∧
      w'.ownsRow base 5 1 (.slice (some ⟨g, 0, none⟩) (l ++ Pl.enc u).length cap) (l ++ Pl.enc u).length (bc (l ++ Pl.enc u)) ∧ Below base w w' := by
  obtain ⟨i0, hi, hz0, hz1, hz2⟩ := info_parts Tryz.infoB
  have hg : base ≤ g := (hown.lt g rfl).1
  have HF : Hid (l.length + (Pl.enc u).length ≤ cap) := hfit
  have HU : Hid (u < 18446744073709551616) := hu
  clear hfit hu
  go_enter Tryz.func66, Tryz.ntmps66
  go_wp2
  go_loopw [0, 1] (fun v x wr => ∃ (pre : List UInt8) (y f : Nat), v = .slice (some ⟨g, 0, none⟩) (l.length + pre.length) cap ∧ x = .int .u64 y ∧ y < 2 ^ (7 * f + 1) ∧ f ≤ 9 ∧ Pl.enc u = pre ++ Pl.encF f y ∧
      wr.ownsRow base 5 1 (.slice (some ⟨g, 0, none⟩) (l.length + pre.length) cap) (l.length + pre.length) (bc (l ++ pre)) ∧ Below base w wr)
    (fun _ x _ => (intOf x).toNat)
  case atStart => exact ⟨[], u, 9, by simp, rfl, by simpa using HU.out, by omega, rfl, by simpa using hown, Below.refl _ _⟩
  case round =>
    obtain ⟨pre, y, f, rfl, rfl, hy, hf, he, hown', hbel⟩ := hrel
    by_cases hlt : 128 ≤ y
    · obtain ⟨f, rfl⟩ : ∃ f', f = f' + 1 := ⟨f - 1, by cases f with | zero => simp at hy; omega | succ f => omega⟩
      have he' : Pl.enc u = (pre ++ [UInt8.ofNat (y % 128 + 128)]) ++ Pl.encF f (y / 128) := by
        rw [he]; conv => lhs; unfold Pl.encF
        rw [if_neg (by omega)]; simp
      have hy' : y / 128 < 2 ^ (7 * f + 1) := by
        rw [show 7 * (f + 1) + 1 = (7 * f + 1) + 7 from by omega, Nat.pow_add] at hy; omega
      have hcap : l.length + pre.length + 1 ≤ cap := by
        have := HF.out; rw [he'] at this; simp at this; omega
      have HE : Hid (Pl.enc u = (pre ++ [UInt8.ofNat (y % 128 + 128)]) ++ Pl.encF f (y / 128)) := he'
      have HY : Hid (y / 128 < 2 ^ (7 * f + 1)) := hy'
      have hsz := hbel.size
      clear he he' hy hy'
      go_wp2_with (at_builtin; refine wpList_append_fits _ rfl (.tmp 7) (.tmp 11) 78 rfl base 5 i0 1 Tryz.underlying78 hi hz1 g (l.length + pre.length) cap (bc (l ++ pre)) rfl (hown'.alloc _) ⟨wr.heap.size, 0, none⟩ 1 1 (bc [UInt8.ofNat (y % 128 + 128)]) rfl rfl ?c1 (bc_one _) hcap ?_)
      case c1 =>
        intro j x hj
        match j, hj with
        | 0, hj => simp [bc] at hj; subst hj; simp [Addr.add_lit, or128]
      intro w2 hown2 hgrow2
      have hb2 : Below base w w2 := (hbel.alloc (by omega) _).grown hgrow2 (by simp; omega) (by intro k hk; injection hk with hk; omega)
      rw [← bc_append, List.append_assoc] at hown2
      clear hgrow2 hown' hown hbel
      go_wp2
      go_roundw
      case rel => exact ⟨pre ++ [UInt8.ofNat (y % 128 + 128)], y / 128, f, by simp; omega, by go_num, HY.out, by omega, HE.out, by simpa [Nat.add_assoc] using hown2, hb2⟩
      case measure => simp [intOf]; omega
    · have HY : Hid (y < 2 ^ (7 * f + 1)) := hy
      have HE : Hid (Pl.enc u = pre ++ [UInt8.ofNat y]) := by rw [he, Pl.encF_small f y (by omega)]; rfl
      have hcap : l.length + pre.length + 1 ≤ cap := by
        have := HF.out; rw [HE.out] at this; simp at this; omega
      have hsz := hbel.size
      clear hy he
      go_wp2_with (at_builtin; refine wpList_append_fits _ rfl (.tmp 15) (.tmp 18) 78 rfl base 5 i0 1 Tryz.underlying78 hi hz1 g (l.length + pre.length) cap (bc (l ++ pre)) rfl (hown'.alloc _) ⟨wr.heap.size, 0, none⟩ 1 1 (bc [UInt8.ofNat y]) rfl rfl ?c2 (bc_one _) hcap ?_)
      case c2 =>
        intro j x hj
        match j, hj with
        | 0, hj => simp [bc] at hj; subst hj; simp [Addr.add_lit]; omega
      intro w2 hown2 hgrow2
      have hb2 : Below base w w2 := (hbel.alloc (by omega) _).grown hgrow2 (by simp; omega) (by intro k hk; injection hk with hk; omega)
      rw [← bc_append, List.append_assoc] at hown2
      clear hgrow2 hown' hown hbel
      go_wp2
      go_ret
      have e : l.length + pre.length + 1 = (l ++ (pre ++ [UInt8.ofNat y])).length := by simp; omega
      rw [e] at hown2
      rw [HE.out]
      exact ⟨by simp; omega, hown2, hb2⟩

theorem ret_sliceW {ao : Option Addr} {n m cap : Nat} (h : n = m) : Ending.returned (.slice ao n cap) = .returned (.slice ao m cap) := by rw [h]

set_option maxRecDepth 20000 in
set_option maxHeartbeats 400000 in
theorem putText_any (w : World) (v : Value) (l : List UInt8) (s : ByteArray) (h : Sl w v l) (hl : l.length + s.size ≤ 281474976710646) :
    Calls Tryz.prog 49 #[v, .string s] w fun e w' => ∃ g m cap, e = .returned (.slice (some ⟨g, 0, none⟩) m cap) ∧ m = (l ++ (Pl.enc (Pl.zz s.size) ++ s.data.toList)).length ∧ m ≤ cap ∧
      Sl w' (.slice (some ⟨g, 0, none⟩) m cap) (l ++ (Pl.enc (Pl.zz s.size) ++ s.data.toList)) ∧ Below w.heap.size w w' := by
  have HZ : Hid (Pl.zz (s.size : Int) < 18446744073709551616) := Pl.zz_lt _ (by omega) (by omega)
  have hsd : s.data.toList.length = s.size := by simp
  have HD := hide hsd
  clear hsd
  obtain ⟨i0, hi, hz0, hz1, hz2⟩ := info_parts Tryz.infoB
  go_enter Tryz.func49, Tryz.ntmps49
  go_wp2_with fail
  refine (fold_any _ _ (by omega) (by omega)).mono ?_
  rintro e w1 ⟨rfl, rfl⟩
  go_wp2_with fail
  refine (width_any _ _ (by omega) (by have := HZ.out; omega)).mono ?_
  rintro e w1 ⟨k, rfl, hk1, hk2, hk3, rfl⟩
  have HK : Hid ((Pl.enc (Pl.zz s.size)).length ≤ k) := Pl.enc_fits _ k hk1 (by simpa using hk3)
  clear hk3
  go_wp2_with fail
  refine (withRoom_any _ v l _ h (by omega) (by omega)).mono ?_
  rintro e w2 ⟨cap, hcap, rfl, hown, hb, hs⟩
  have hfit : l.length + (Pl.enc (Pl.zz s.size)).length + s.size ≤ cap := by have := HK.out; omega
  have HF := hide hfit
  clear hfit hcap
  go_wp2_with fail
  refine (putBits_any _ _ _ _ l (Pl.zz s.size) HZ.out hb.size hown (by have := HF.out; omega)).mono ?_
  rintro e w3 ⟨rfl, hown3, hb3⟩
  generalize hm : (l ++ Pl.enc (Pl.zz s.size)).length = m at hown3 ⊢
  have HM := hide hm
  clear hm hown
  have hg : w1.heap.size ≤ w1.heap.size := Nat.le_refl _
  go_wp2_with (at_builtin; refine wpList_append_fits_str _ rfl (.tmp 17) (.tmp 18) 78 9 rfl w1.heap.size 5 i0 Tryz.underlying78 Tryz.underlying9 hi hz1 w1.heap.size m cap _ rfl hown3 s rfl (by have := HF.out; have := HM.out; simp at this; omega) ?_; intro w4 hown4 hgrow4)
  go_ret
  have e : Lib.strCells s = bc s.data.toList := rfl
  rw [e, ← bc_append, List.append_assoc] at hown4
  have e2 : m + s.size = (l ++ (Pl.enc (Pl.zz s.size) ++ s.data.toList)).length := by rw [← HM.out, ← List.append_assoc, List.length_append (bs := s.data.toList), HD.out]
  have hfit : m + s.size ≤ cap := by have := HF.out; have := HM.out; simp at this; omega
  have hb4 := (hb.trans hb3).grown hgrow4 (Nat.le_trans hb.size hb3.size) (by intro k hk; injection hk with hk; omega)
  rw [e2] at hown4 hfit
  exact ⟨_, _, _, ret_sliceW e2, rfl, hfit, sl_of_own hown4, hb4⟩
end Go.Proofs.YthjcimgollfmgaaGreatDoor

/-
  What taking numbers and texts answers: takeBits, TakeInt, TakeText, at any place of any bytes. Conditions: a slice of bytes; a place that is an int.
-/
namespace Go.Proofs.YthjcimgollfmgaaGreatDoor
open Go.RowKit

def tk (a : Nat) : Option (Nat × Nat) → Value
  | none => .tuple #[.int .u64 0, .int .i64 0, .bool false]
  | some (u, c) => .tuple #[.int .u64 u, .int .i64 ((a + c : Nat) : Int), .bool true]

theorem ret_tk {x y : Int} {a u c : Nat} (hx : x = (u : Int)) (hy : y = ((a + c : Nat) : Int)) :
    Ending.returned (.tuple #[.int .u64 x, .int .i64 y, .bool true]) = .returned (tk a (some (u, c))) := by
  rw [hx, hy]; rfl
theorem or_sh (acc c k : Nat) (hk : k ≤ 9) (hacc : acc < 2 ^ (7 * k)) (hlt : c * 2 ^ (7 * k) < 18446744073709551616) :
    bits .or .u64 (acc : Int) (IntKind.u64.wrap ((c : Int) * 2 ^ (7 * k))) = ((acc + c * 2 ^ (7 * k) : Nat) : Int) := by
  have e0 : ((c : Int) * 2 ^ (7 * k)) = ((c * 2 ^ (7 * k) : Nat) : Int) := by rw [Int.natCast_mul, Int.natCast_pow]; rfl
  have h63 : (2 : Nat) ^ (7 * k) ≤ 2 ^ 63 := Nat.pow_le_pow_right (by omega) (by omega)
  have e63 : (2 : Nat) ^ 63 = 9223372036854775808 := by decide
  have e1 : IntKind.u64.wrap ((c * 2 ^ (7 * k) : Nat) : Int) = ((c * 2 ^ (7 * k) : Nat) : Int) := by
    generalize c * 2 ^ (7 * k) = t at *
    rw [IntKind.wrap_u64]; omega
  rw [e0, e1, u64_or_nat _ _ (by omega) hlt, Nat.or_comm, Nat.mul_comm c, ← Nat.two_pow_add_eq_or_of_lt hacc c, Nat.add_comm]
theorem or_sh63 (acc c k : Nat) (hk : 7 * (k : Int) = 63) (hacc : acc < 2 ^ (7 * k)) (hc : c ≤ 1) :
    bits .or .u64 (acc : Int) ((c : Int) * 9223372036854775808) = ((acc + c * 2 ^ (7 * k) : Nat) : Int) := by
  obtain rfl : k = 9 := by omega
  have e63 : (2 : Nat) ^ (7 * 9) = 9223372036854775808 := by decide
  have h := or_sh acc c 9 (by omega) hacc (by rw [e63]; omega)
  have e : IntKind.u64.wrap ((c : Int) * 2 ^ (7 * 9)) = (c : Int) * 9223372036854775808 := by
    rw [IntKind.wrap_u64]; omega
  rw [e] at h
  exact h
theorem andNot128 (c : Nat) (h0 : 128 ≤ c) (h1 : c < 256) : IntKind.u64.wrap (bits .andNot .u8 (c : Int) 128) = ((c - 128 : Nat) : Int) := by
  have h : ∀ a : Fin 256, a.val &&& (255 - 128) = a.val % 128 := by decide +kernel
  have e := u8_andNot_nat c 128 h1 (by omega)
  have e2 := h ⟨c, h1⟩
  simp only at e2
  rw [show (128 : Int) = ((128 : Nat) : Int) from rfl, e, e2, IntKind.wrap_u64]
  omega
theorem small_sh (c k : Nat) (hk : k ≤ 8) (hc : c < 128) : c * 2 ^ (7 * k) < 18446744073709551616 := by
  have : (2 : Nat) ^ (7 * k) ≤ 2 ^ 56 := Nat.pow_le_pow_right (by omega) (by omega)
  have e3 : (2 : Nat) ^ 56 = 72057594037927936 := by decide
  rw [e3] at this
  have := Nat.mul_le_mul (show c ≤ 127 by omega) this
  omega
theorem acc_next (acc c k : Nat) (hacc : acc < 2 ^ (7 * k)) (hc : c < 128) : acc + c * 2 ^ (7 * k) < 2 ^ (7 * (k + 1)) := by
  rw [Pl.p7]
  have := Nat.mul_le_mul_right (2 ^ (7 * k)) (show c ≤ 127 by omega)
  omega

set_option maxHeartbeats 400000 in
theorem takeBits_neg (w : World) (v : Value) (at_ : Int) (h : at_ < 0) :
    Calls Tryz.prog 124 #[v, .int .i64 at_] w fun e w' => e = .returned (.tuple #[.int .u64 0, .int .i64 0, .bool false]) ∧ w' = w := by
  go_enter Tryz.func124, Tryz.ntmps124
  go_wp2
  go_step3
  go_wp2
  rw [Exit.noGoto_ret]
  go_ret3
  exact ⟨rfl, rfl⟩

set_option maxRecDepth 20000 in
set_option maxHeartbeats 800000 in
theorem takeBits_at (w : World) (v : Value) (l : List UInt8) (a : Nat) (h : Sl w v l) (ha : (a : Int) ≤ 9223372036854775807) :
    Calls Tryz.prog 124 #[v, .int .i64 a] w fun e w' => e = .returned (tk a (Pl.dec (l.drop a) 0 0)) ∧ w' = w := by
  obtain ⟨ao, cap, rfl, h1, h2, h3, h4⟩ := h
  go_enter Tryz.func124, Tryz.ntmps124
  go_wp2
  go_step3
  go_wp2
  go_step3
  go_wp2
  go_loop [7, 8, 9] (fun x sh i => ∃ (k acc : Nat), k ≤ 9 ∧ x = .int .u64 acc ∧ sh = .int .i64 ((7 * k : Nat) : Int) ∧ i = .int .i64 ((a + k : Nat) : Int) ∧ acc < 2 ^ (7 * k) ∧ Pl.dec (l.drop a) 0 0 = Pl.dec (l.drop (a + k)) k acc)
    (fun _ _ i => l.length - (intOf i).toNat)
  case atStart => exact ⟨0, 0, by omega, rfl, rfl, rfl, by simp, rfl⟩
  case round =>
    obtain ⟨k, acc, hk, rfl, rfl, rfl, hacc, hd⟩ := hrel
    unfold maxLen at h2
    by_cases hlt : a + k < l.length
    · obtain ⟨b, off, rfl, hb, hc⟩ := h4 (by rintro rfl; simp at hlt)
      have hcell := hc (a + k) hlt
      have hdrop : l.drop (a + k) = l[a + k] :: l.drop (a + k + 1) := List.drop_eq_getElem_cons hlt
      rw [hdrop] at hd
      have hc256 := UInt8.toNat_lt l[a + k]
      simp only [Pl.dec] at hd
      generalize (l[a + k]).toNat = c at *
      have HD := hide hd
      have HA := hide hacc
      clear hd hacc hdrop hc h4
      by_cases c1 : k = 9 ∧ 1 < c
      · have hd' : Pl.dec (l.drop a) 0 0 = none := by rw [HD.out, if_pos c1]
        have HN := hide hd'
        clear hd' HD HA
        obtain ⟨rfl, c1⟩ := c1
        go_wp2
        all_goals (go_ret3; exact ⟨by rw [HN.out]; rfl, rfl⟩)
      · by_cases c2 : 0 < k ∧ c = 0
        · have hd' : Pl.dec (l.drop a) 0 0 = none := by rw [HD.out, if_neg c1, if_pos c2]
          have HN := hide hd'
          clear hd' HD HA c1
          obtain ⟨c2, rfl⟩ := c2
          go_wp2
          all_goals (go_ret3; exact ⟨by rw [HN.out]; rfl, rfl⟩)
        · by_cases c3 : c < 128
          · have hd' : Pl.dec (l.drop a) 0 0 = some (acc + c * 2 ^ (7 * k), k + 1) := by rw [HD.out, if_neg c1, if_neg c2, if_pos c3]
            have HN := hide hd'
            clear hd' HD
            have hk9 : k = 9 → c ≤ 1 := by omega
            go_wp2
            · go_ret3
              rw [HN.out]
              exact ⟨ret_tk (or_sh63 acc c k (by assumption) HA.out (by omega)) (by omega), rfl⟩
            · go_ret3
              rw [HN.out]
              exact ⟨ret_tk (or_sh acc c k hk HA.out (small_sh c k (by omega) c3)) (by omega), rfl⟩
            · go_ret3
              rw [HN.out]
              exact ⟨ret_tk (or_sh acc c k hk HA.out (small_sh c k (by omega) c3)) (by omega), rfl⟩
          · have hd' : Pl.dec (l.drop a) 0 0 = Pl.dec (l.drop (a + k + 1)) (k + 1) (acc + (c - 128) * 2 ^ (7 * k)) := by rw [HD.out, if_neg c1, if_neg c2, if_neg c3]
            have HN := hide hd'
            clear hd' HD
            have HB : Hid (bits .or .u64 (acc : Int) (IntKind.u64.wrap (IntKind.u64.wrap (bits .andNot .u8 (c : Int) 128) * 2 ^ (7 * k))) = ((acc + (c - 128) * 2 ^ (7 * k) : Nat) : Int)) := by
              rw [andNot128 c (by omega) (by omega)]
              exact or_sh acc (c - 128) k hk HA.out (small_sh _ k (by omega) (by omega))
            go_wp2
            all_goals go_round
            all_goals first
              | (case rel => exact ⟨k + 1, _, by omega, congrArg (Value.int .u64) HB.out, by go_num, by go_num, acc_next acc (c - 128) k HA.out (by omega), HN.out⟩)
              | (case measure => simp [intOf]; omega)
    · have hd' : Pl.dec (l.drop a) 0 0 = none := by rw [hd, List.drop_eq_nil_of_le (by omega)]; rfl
      have HN := hide hd'
      clear hd' hd hacc h4
      go_wp2
      go_ret3
      exact ⟨by rw [HN.out]; rfl, rfl⟩

/-- What stands at a place: a number, and the place behind it. -/
def takeI (l : List UInt8) (p : Int) : Option (Int × Nat) := if p < 0 then none else (Pl.dec (l.drop p.toNat) 0 0).map fun x => (Pl.unzz x.1, p.toNat + x.2)

theorem takeI_some {l : List UInt8} {p : Int} {n : Int} {q : Nat} (h : takeI l p = some (n, q)) :
    ∃ u c, 0 ≤ p ∧ Pl.dec (l.drop p.toNat) 0 0 = some (u, c) ∧ n = Pl.unzz u ∧ q = p.toNat + c ∧ u < 18446744073709551616 ∧ p.toNat + c ≤ l.length := by
  unfold takeI at h
  split at h
  · cases h
  · cases hd : Pl.dec (l.drop p.toNat) 0 0 with
    | none => rw [hd] at h; cases h
    | some x =>
      rw [hd] at h
      simp only [Option.map_some, Option.some.injEq, Prod.mk.injEq] at h
      obtain ⟨u, c⟩ := x
      have := Pl.dec_take hd
      have h2 := this.2.1
      have h3 := (Pl.enc_length u).1
      have h4 := this.2.2.2
      rw [List.length_drop] at h2
      exact ⟨u, c, by omega, rfl, h.1.symm, h.2.symm, this.1, by omega⟩

theorem takeBits_none (w : World) (v : Value) (l : List UInt8) (p : Int) (h : Sl w v l) (hp : p ≤ 9223372036854775807) (hn : takeI l p = none) :
    Calls Tryz.prog 124 #[v, .int .i64 p] w fun e w' => e = .returned (.tuple #[.int .u64 0, .int .i64 0, .bool false]) ∧ w' = w := by
  by_cases h0 : p < 0
  · exact takeBits_neg w v p h0
  · obtain ⟨a, rfl⟩ := Int.eq_ofNat_of_zero_le (show 0 ≤ p by omega)
    have hd : Pl.dec (l.drop a) 0 0 = none := by
      unfold takeI at hn
      rw [if_neg h0] at hn
      simpa using hn
    have := takeBits_at w v l a h hp
    rw [hd] at this
    exact this
theorem takeBits_some (w : World) (v : Value) (l : List UInt8) (p : Int) (u c q : Nat) (h : Sl w v l) (h0 : 0 ≤ p) (hp : p ≤ 9223372036854775807) (hd : Pl.dec (l.drop p.toNat) 0 0 = some (u, c)) (hq : q = p.toNat + c) :
    Calls Tryz.prog 124 #[v, .int .i64 p] w fun e w' => e = .returned (.tuple #[.int .u64 u, .int .i64 (q : Int), .bool true]) ∧ w' = w := by
  subst hq
  obtain ⟨a, rfl⟩ := Int.eq_ofNat_of_zero_le h0
  have := takeBits_at w v l a h hp
  simp only [Int.toNat_natCast] at hd ⊢
  rw [hd] at this
  exact this

set_option maxHeartbeats 400000 in
theorem takeInt_none (w : World) (v : Value) (l : List UInt8) (p : Int) (h : Sl w v l) (hp : p ≤ 9223372036854775807) (hn : takeI l p = none) :
    Calls Tryz.prog 120 #[v, .int .i64 p] w fun e w' => e = .returned (.tuple #[.int .i64 0, .int .i64 0, .bool false]) ∧ w' = w := by
  have HN := hide hn
  clear hn
  go_enter Tryz.func120, Tryz.ntmps120
  go_wp2_with fail
  refine (takeBits_none _ _ l p h hp HN.out).mono ?_
  rintro e w1 ⟨rfl, rfl⟩
  go_wp2_with fail
  refine (unfold_any 0 _ (by omega)).mono ?_
  rintro e w1 ⟨rfl, rfl⟩
  go_wp2
  go_ret3
  exact ⟨rfl, rfl⟩
set_option maxHeartbeats 400000 in
theorem takeInt_some (w : World) (v : Value) (l : List UInt8) (p n : Int) (q : Nat) (h : Sl w v l) (hp : p ≤ 9223372036854775807) (hn : takeI l p = some (n, q)) :
    Calls Tryz.prog 120 #[v, .int .i64 p] w fun e w' => e = .returned (.tuple #[.int .i64 n, .int .i64 (q : Int), .bool true]) ∧ w' = w := by
  obtain ⟨u, c, h0, hd, rfl, hq, hu, _⟩ := takeI_some hn
  have HD := hide hd
  have HQ := hide hq
  clear hq
  have HU := hide hu
  clear hn hd hu
  go_enter Tryz.func120, Tryz.ntmps120
  go_wp2_with fail
  refine (takeBits_some _ _ l p u c q h h0 hp HD.out HQ.out).mono ?_
  rintro e w1 ⟨rfl, rfl⟩
  go_wp2_with fail
  refine (unfold_any u _ HU.out).mono ?_
  rintro e w1 ⟨rfl, rfl⟩
  go_wp2
  go_ret3
  exact ⟨rfl, rfl⟩

end Go.Proofs.YthjcimgollfmgaaGreatDoor

/-
  What taking texts answers, at any place of any bytes. Conditions: a slice of bytes; a place that is an int.
-/
namespace Go.Proofs.YthjcimgollfmgaaGreatDoor
open Go.RowKit

/-- What stands at a place: a text of at most so many bytes, and the place behind it. -/
def takeT (l : List UInt8) (p most : Int) : Option (List UInt8 × Nat) :=
  match takeI l p with
  | none => none
  | some (n, q) => if n < 0 ∨ most < n ∨ (l.length : Int) - q < n then none else some ((l.drop q).take n.toNat, q + n.toNat)

set_option maxRecDepth 20000 in
set_option maxHeartbeats 400000 in
theorem takeText_none (w : World) (v : Value) (l : List UInt8) (p most : Int) (h : Sl w v l) (hp : p ≤ 9223372036854775807) (hn : takeT l p most = none) :
    Calls Tryz.prog 108 #[v, .int .i64 p, .int .i64 most] w fun e w' => e = .returned (.tuple #[.string ⟨#[]⟩, .int .i64 0, .bool false]) ∧ w' = w := by
  have h' := h
  obtain ⟨ao, cap, rfl, h1, h2, h3, h4⟩ := h'
  clear h4 h3
  unfold maxLen at h2
  cases ht : takeI l p with
  | none =>
    have HT := hide ht
    clear ht hn
    go_enter Tryz.func108, Tryz.ntmps108
    go_wp2_with fail
    refine (takeInt_none _ _ l p h hp HT.out).mono ?_
    rintro e w1 ⟨rfl, rfl⟩
    clear h
    go_wp2
    go_ret3
    exact ⟨rfl, rfl⟩
  | some x =>
    obtain ⟨n, q⟩ := x
    obtain ⟨u, c, h0, hd, hnu, hq, hu, hql⟩ := takeI_some ht
    have hc : n < 0 ∨ most < n ∨ (l.length : Int) - q < n := by
      unfold takeT at hn
      rw [ht] at hn
      simp only at hn
      split at hn
      · assumption
      · cases hn
    have hq1 : (q : Int) ≤ (l.length : Int) := by omega
    have HT := hide ht
    clear hn hd hnu hq hu hql
    go_enter Tryz.func108, Tryz.ntmps108
    go_wp2_with fail
    refine (takeInt_some _ _ l p n q h hp HT.out).mono ?_
    rintro e w1 ⟨rfl, rfl⟩
    clear h
    go_wp2
    all_goals (go_ret3; exact ⟨rfl, rfl⟩)

/-- 'string(b)'. -/
theorem run_strW (w : World) (v : Value) (l : List UInt8) (h : Sl w v l) : (convert 78 9 v).run Tryz.prog w = .ok (.string ⟨l.toArray⟩) w := by
  obtain ⟨ao, cap, rfl, h1, h2, h3, h4⟩ := h
  by_cases hl : l = []
  · subst hl
    cases ao with
    | none =>
      rw [run_convert_bytes_string w 78 9 5 none _ cap Tryz.underlying78 Tryz.underlying5 Tryz.underlying9]
      rfl
    | some a => exact run_convert_bytes_back w 78 9 5 a cap [] Tryz.underlying78 Tryz.underlying5 Tryz.underlying9 (fun j hj => by simp at hj)
  · obtain ⟨b, off, rfl, hb, hc⟩ := h4 hl
    refine run_convert_bytes_back w 78 9 5 ⟨b, off, none⟩ cap l Tryz.underlying78 Tryz.underlying5 Tryz.underlying9 (fun j hj => ?_)
    rw [Addr.add_lit]
    exact hc j hj

theorem wpList_strW (w : World) {ops : Array Oper} {rest : List Oper} {o : Oper} {a : Act} {Q : Exit → Act → World → Prop} (hg : o.guard = none) (x : Operand) (hop : o.op = Op.convert 78 9 x)
    {v : Value} {l : List UInt8} (h : Sl w v l) (hx : a.eval x = v) (hK : wpList Tryz.prog ops Q rest (a.put o.dst (.string ⟨l.toArray⟩)) w) : wpList Tryz.prog ops Q (o :: rest) a w := by
  refine wpList_plain hg fun K hK' => ?_
  have hr := run_strW w v l h
  unfold Oper.wp
  simp [execOp, hop, hx, hr, Result.andThen]
  exact hK' _ _ hK

/-- 'b[i:j]' of such a slice. -/
theorem Sl.cut {w : World} {ao : Option Addr} {n cap : Nat} {l : List UInt8} (h : Sl w (.slice ao n cap) l) (i j : Nat) (hij : i ≤ j) (hj : j ≤ l.length) :
    ∀ ao', (i < j → ∀ b off, ao = Option.some ⟨b, off, none⟩ → ao' = Option.some ⟨b, off + i, none⟩) → (ao' = none → cap - i = 0) → Sl w (.slice ao' (j - i) (cap - i)) ((l.drop i).take (j - i)) := by
  intro ao' ha' hn'
  obtain ⟨ao0, cap0, hv, h1, h2, h3, h4⟩ := h
  injection hv with e1 e2 e3
  subst e1 e2 e3
  have hlen : ((l.drop i).take (j - i)).length = j - i := by simp; omega
  refine ⟨ao', cap - i, by rw [hlen], by omega, by omega, hn', fun hne => ?_⟩
  have hlt : i < j := by
    rcases Nat.lt_or_ge i j with h | h
    · exact h
    · exfalso; apply hne; rw [show j - i = 0 by omega]; simp
  obtain ⟨b, off, ha, hb, hc⟩ := h4 (by rintro rfl; simp at hj; omega)
  refine ⟨b, off + i, ha' hlt b off ha, hb, fun k hk => ?_⟩
  rw [hlen] at hk
  have := hc (i + k) (by omega)
  rw [Nat.add_assoc, this]
  simp

theorem Sl.cutEnd {w : World} {ao : Option Addr} {n r m : Nat} {l : List UInt8} (hm : r + m ≤ l.length) (h : Sl w (.slice ao n r) l) : Sl w (.slice ao m 0) ((l.drop r).take m) := by
  obtain ⟨ao0, cap0, hv, h1, h2, h3, h4⟩ := h
  injection hv with e1 e2 e3
  obtain rfl : m = 0 := by omega
  rw [List.take_zero]
  exact ⟨ao, 0, rfl, by simp, by simp, fun _ => rfl, fun hl => absurd rfl hl⟩
theorem Sl.cutAt {w : World} {ao : Option Addr} {n cap r m : Nat} {l : List UInt8} (hm : r + m ≤ l.length) (hr : r < cap) (h : Sl w (.slice ao n cap) l) :
    Sl w (.slice (Option.map (fun x => x.add r) ao) m (cap - r)) ((l.drop r).take m) := by
  have := h.cut r (r + m) (by omega) hm (Option.map (fun x => x.add r) ao) (fun _ b off ha => by rw [ha]; simp [Addr.add_lit]) (fun hn => by
    obtain ⟨ao0, cap0, hv, h1, h2, h3, h4⟩ := h
    injection hv with e1 e2 e3
    subst e1 e3
    have := h3 (by simpa using hn)
    omega)
  rw [show r + m - r = m from by omega] at this
  exact this

set_option maxRecDepth 20000 in
set_option maxHeartbeats 400000 in
theorem takeText_some (w : World) (v : Value) (l : List UInt8) (p most : Int) (t : List UInt8) (q : Nat) (h : Sl w v l) (hp : p ≤ 9223372036854775807) (hn : takeT l p most = some (t, q)) :
    Calls Tryz.prog 108 #[v, .int .i64 p, .int .i64 most] w fun e w' => e = .returned (.tuple #[.string ⟨t.toArray⟩, .int .i64 (q : Int), .bool true]) ∧ w' = w := by
  have h' := h
  obtain ⟨ao, cap, rfl, h1, h2, h3, h4⟩ := h'
  clear h4 h3
  unfold maxLen at h2
  cases ht : takeI l p with
  | none => unfold takeT at hn; rw [ht] at hn; cases hn
  | some x =>
    obtain ⟨n, r⟩ := x
    obtain ⟨u, c, h0, hd, hnu, hq, hu, hql⟩ := takeI_some ht
    unfold takeT at hn
    rw [ht] at hn
    simp only at hn
    split at hn
    · cases hn
    rename_i hc
    simp only [Option.some.injEq, Prod.mk.injEq] at hn
    obtain ⟨ht1, ht2⟩ := hn
    have c1 : 0 ≤ n := by omega
    have c2 : n ≤ most := by omega
    have c3 : n ≤ (l.length : Int) - r := by omega
    have hq1 : (r : Int) ≤ (l.length : Int) := by omega
    have HT := hide ht
    have H1 := hide ht1
    have H2 := hide ht2
    obtain ⟨m, rfl⟩ := Int.eq_ofNat_of_zero_le c1
    clear hc ht hd hnu hq hu hql ht1 ht2
    go_enter Tryz.func108, Tryz.ntmps108
    go_wp2_with fail
    refine (takeInt_some _ _ l p m r h hp HT.out).mono ?_
    rintro e w1 ⟨rfl, rfl⟩
    rw [show (m : Int).toNat = m from rfl] at H1 H2
    rcases Nat.lt_or_ge r cap with hrc | hrc
    · have hs := Sl.cutAt (show r + m ≤ l.length by omega) hrc h
      clear h
      go_wp2_with (refine wpList_strW _ rfl (.tmp 45) rfl hs (by first | rfl | (simp [go_sem]; done)) ?_)
      go_ret3
      rw [← H1.out, ← H2.out]
      exact ⟨rfl, rfl⟩
    · obtain rfl : cap = r := by omega
      have hs := Sl.cutEnd (show cap + m ≤ l.length by omega) h
      clear h
      go_wp2_with (refine wpList_strW _ rfl (.tmp 45) rfl hs (by first | rfl | (simp [go_sem]; done)) ?_)
      go_ret3
      rw [← H1.out, ← H2.out]
      exact ⟨rfl, rfl⟩
end Go.Proofs.YthjcimgollfmgaaGreatDoor

/-
  Plain facts: what was put is taken as it was, at whatever place; what is taken, put again, has just those bytes; a beginning is none. Condition: numbers within 64 bits.
-/
namespace Go.Proofs.YthjcimgollfmgaaGreatDoor
open Go.RowKit

def num (n : Int) : List UInt8 := Pl.enc (Pl.zz n)
def txt (t : List UInt8) : List UInt8 := num t.length ++ t

theorem num_length (n : Int) : 1 ≤ (num n).length ∧ (num n).length ≤ 10 := Pl.enc_length _

theorem takeI_put (p r : List UInt8) (n : Int) (h0 : -9223372036854775808 ≤ n) (h1 : n ≤ 9223372036854775807) :
    takeI (p ++ (num n ++ r)) p.length = some (n, p.length + (num n).length) := by
  unfold takeI num
  rw [if_neg (by omega), Int.toNat_natCast, List.drop_left, Pl.dec_enc _ r (Pl.zz_lt n h0 h1)]
  simp [Pl.unzz_zz]

theorem takeT_put (p r t : List UInt8) (most : Int) (hm : (t.length : Int) ≤ most) (h1 : (t.length : Int) ≤ 9223372036854775807) :
    takeT (p ++ (txt t ++ r)) p.length most = some (t, p.length + (txt t).length) := by
  unfold takeT txt
  rw [List.append_assoc, takeI_put p (t ++ r) t.length (by omega) h1]
  simp only
  rw [if_neg (by simp; omega)]
  have e : p ++ (num t.length ++ (t ++ r)) = (p ++ num t.length) ++ (t ++ r) := by simp
  have e2 : p.length + (num t.length).length = (p ++ num t.length).length := by simp
  rw [e, e2, List.drop_left, Int.toNat_natCast, List.take_left]
  simp; omega

theorem takeI_sound {l : List UInt8} {p n : Int} {q : Nat} (h : takeI l p = some (n, q)) :
    0 ≤ p ∧ p.toNat ≤ q ∧ q ≤ l.length ∧ (l.drop p.toNat).take (q - p.toNat) = num n ∧ -9223372036854775808 ≤ n ∧ n ≤ 9223372036854775807 ∧ q = p.toNat + (num n).length := by
  obtain ⟨u, c, h0, hd, rfl, rfl, hu, hc⟩ := takeI_some h
  obtain ⟨_, h2, h3, h4⟩ := Pl.dec_take hd
  have hb := Pl.unzz_bd u hu
  have e : num (Pl.unzz u) = Pl.enc u := by unfold num; rw [Pl.zz_unzz]
  rw [e]
  refine ⟨h0, by omega, hc, ?_, hb.1, hb.2, by omega⟩
  rw [show p.toNat + c - p.toNat = c from by omega]
  exact h3

theorem takeT_sound {l t : List UInt8} {p most : Int} {q : Nat} (h : takeT l p most = some (t, q)) :
    0 ≤ p ∧ p.toNat ≤ q ∧ q ≤ l.length ∧ (l.drop p.toNat).take (q - p.toNat) = txt t ∧ (t.length : Int) ≤ most := by
  unfold takeT at h
  cases ht : takeI l p with
  | none => rw [ht] at h; cases h
  | some x =>
    obtain ⟨n, r⟩ := x
    rw [ht] at h
    simp only at h
    split at h
    · cases h
    rename_i hc
    simp only [Option.some.injEq, Prod.mk.injEq] at h
    obtain ⟨rfl, rfl⟩ := h
    obtain ⟨h0, h1, h2, h3, h4, h5, h6⟩ := takeI_sound ht
    obtain ⟨k, rfl⟩ := Int.eq_ofNat_of_zero_le (show 0 ≤ n by omega)
    have hl : ((l.drop r).take k).length = k := by simp; omega
    refine ⟨h0, by omega, by omega, ?_, by simp only [Int.toNat_natCast]; omega⟩
    unfold txt
    simp only [Int.toNat_natCast]
    rw [hl]
    rw [show r + k - p.toNat = (r - p.toNat) + k from by omega, List.take_add, h3, List.drop_drop, show p.toNat + (r - p.toNat) = r from by omega]

theorem takeI_short (n : Int) (j : Nat) (hj : j < (num n).length) (h0 : -9223372036854775808 ≤ n) (h1 : n ≤ 9223372036854775807) : takeI ((num n).take j) 0 = none := by
  unfold takeI
  rw [if_neg (by omega)]
  have := Pl.dec_cut (Pl.zz_lt n h0 h1) hj
  unfold num
  simp [this]
theorem takeI_end (l : List UInt8) : takeI l l.length = none := by
  unfold takeI
  rw [if_neg (by omega)]
  simp [Pl.dec]
theorem takeT_less (t : List UInt8) (h1 : (t.length : Int) ≤ 9223372036854775807) : takeT (txt t) 0 ((t.length : Int) - 1) = none := by
  have := takeI_put [] t t.length (by omega) h1
  simp only [List.nil_append, List.length_nil] at this
  unfold takeT txt
  rw [show ((0 : Int)) = ((0 : Nat) : Int) from rfl, this]
  simp only
  rw [if_pos (by omega)]
theorem takeT_short (t : List UInt8) (j : Nat) (most : Int) (hj : j < (txt t).length) (h1 : (t.length : Int) ≤ 9223372036854775807) : takeT ((txt t).take j) 0 most = none := by
  by_cases hlt : j < (num t.length).length
  · have e : (txt t).take j = (num t.length).take j := by
      unfold txt; rw [List.take_append_of_le_length (by omega)]
    unfold takeT
    rw [e, takeI_short _ j hlt (by omega) h1]
  · have e : (txt t).take j = num t.length ++ t.take (j - (num t.length).length) := by
      unfold txt; rw [List.take_append, List.take_of_length_le (by omega)]
    have hi := takeI_put [] (t.take (j - (num t.length).length)) t.length (by omega) h1
    simp only [List.nil_append, List.length_nil, Nat.zero_add] at hi
    unfold takeT
    rw [e, show ((0 : Int)) = ((0 : Nat) : Int) from rfl, hi]
    simp only
    rw [if_pos]
    right; right
    unfold txt at hj
    simp at hj ⊢
    omega

end Go.Proofs.YthjcimgollfmgaaGreatDoor

/-
  What the sum answers: crcPart and Crc, as a plain function on bytes. Conditions: the table holds its sixteen numbers; the parts are slices of bytes.
-/
namespace Go.Proofs.YthjcimgollfmgaaGreatDoor
open Go.RowKit

def tabL : List Nat := [0, 498536548, 997073096, 651767980, 1994146192, 1802195444, 1303535960, 1342533948, 3988292384, 4027552580, 3604390888, 3412177804, 2607071920, 2262029012, 2685067896, 3183342108]
def nib (x : Nat) : Nat := x / 16 ^^^ tabL.getD (x % 16) 0
def crcB (s : Nat) (c : UInt8) : Nat := nib (nib (s ^^^ c.toNat))
def crcL (s : Nat) (l : List UInt8) : Nat := l.foldl crcB s

/-- The table's cells hold its numbers. -/
def TabW (w : World) : Prop := 0 < w.heap.size ∧ ∀ j, j < 16 → w.cell? ⟨0, j, none⟩ = some (.int .u32 ((tabL.getD j 0 : Nat) : Int))
theorem TabW.keep {w w' : World} (h : TabW w) (hb : Below w.heap.size w w') : TabW w' :=
  ⟨Nat.lt_of_lt_of_le h.1 hb.size, fun j hj => (hb.cell (p := ⟨0, j, none⟩) h.1).trans (h.2 j hj)⟩

theorem tab_lt : ∀ j : Fin 16, tabL.getD j.val 0 < 4294967296 := by decide +kernel
theorem nib_lt (x : Nat) (h : x < 4294967296) : nib x < 4294967296 := by
  unfold nib
  have := tab_lt ⟨x % 16, by omega⟩
  exact Nat.xor_lt_two_pow (n := 32) (by omega) this
theorem crcB_lt (s : Nat) (c : UInt8) (h : s < 4294967296) : crcB s c < 4294967296 :=
  nib_lt _ (nib_lt _ (Nat.xor_lt_two_pow (n := 32) h (by have := c.toNat_lt; omega)))
theorem crcL_lt (l : List UInt8) : ∀ s, s < 4294967296 → crcL s l < 4294967296 := by
  induction l with
  | nil => intro s h; exact h
  | cons c r ih => intro s h; exact ih _ (crcB_lt s c h)
theorem crcL_snoc (s : Nat) (l : List UInt8) (c : UInt8) : crcL s (l ++ [c]) = crcB (crcL s l) c := by simp [crcL, List.foldl_append]

theorem nib_facts (x : Nat) (hx : x < 4294967296) (w : World) (hT : TabW w) : ∃ i t y : Nat, i < 16 ∧ bits .and .u32 (x : Int) 15 = (i : Int) ∧ w.cell? ⟨0, i, none⟩ = some (.int .u32 (t : Int)) ∧
    bits .xor .u32 ((x : Int) / 16) (t : Int) = (y : Int) ∧ y = nib x ∧ y < 4294967296 := by
  refine ⟨x % 16, tabL.getD (x % 16) 0, nib x, by omega, ?_, hT.2 _ (by omega), ?_, rfl, nib_lt x hx⟩
  · rw [show (15 : Int) = ((15 : Nat) : Int) from rfl, u32_and_nat x 15 hx (by omega)]
    have := Nat.and_two_pow_sub_one_eq_mod x 4
    simp at this
    rw [this]
  · have := tab_lt ⟨x % 16, by omega⟩
    rw [show ((x : Int) / 16) = ((x / 16 : Nat) : Int) from by omega, u32_xor_nat _ _ (by omega) this]
    rfl

set_option maxRecDepth 20000 in
set_option maxHeartbeats 400000 in
theorem crcPart_any (w : World) (v : Value) (l : List UInt8) (s : Nat) (hs : s < 4294967296) (h : Sl w v l) (hT : TabW w) :
    Calls Tryz.prog 99 #[.int .u32 s, v] w fun e w' => e = .returned (.int .u32 (crcL s l : Nat)) ∧ w' = w := by
  obtain ⟨ao, cap, rfl, h1, h2, h3, h4⟩ := h
  unfold maxLen at h2
  have HS := hide hs
  have HT := hide hT
  clear hs hT
  go_enter Tryz.func99, Tryz.ntmps99
  go_wp2
  go_loop [0, 9] (fun x i => ∃ k : Nat, k ≤ l.length ∧ i = .int .i64 k ∧ x = .int .u32 ((crcL s (l.take k) : Nat) : Int)) (fun _ i => l.length - (intOf i).toNat)
  case atStart => exact ⟨0, by omega, rfl, rfl⟩
  case round =>
    obtain ⟨k, hk, rfl, rfl⟩ := hrel
    by_cases hlt : k < l.length
    · obtain ⟨b, off, rfl, hb, hc⟩ := h4 (by rintro rfl; simp at hlt)
      have hcell := hc k hlt
      have hn : crcL s (l.take (k + 1)) = crcB (crcL s (l.take k)) l[k] := by rw [← crcL_snoc, List.take_succ_eq_append_getElem hlt]
      have hA := crcL_lt (l.take k) s HS.out
      have hc256 := UInt8.toNat_lt l[k]
      unfold crcB at hn
      generalize hcc : (l[k]).toNat = c at *
      generalize crcL s (l.take k) = A at *
      obtain ⟨x1, hx1⟩ : ∃ x1, x1 = A ^^^ c := ⟨_, rfl⟩
      have hx1l : x1 < 4294967296 := by rw [hx1]; exact Nat.xor_lt_two_pow (n := 32) hA (by omega)
      have e1 : bits .xor .u32 (A : Int) (c : Int) = (x1 : Int) := by rw [u32_xor_nat A c hA (by omega), hx1]
      obtain ⟨i1, t1, y1, hi1, f1, g1, k1, n1, l1⟩ := nib_facts x1 hx1l w HT.out
      obtain ⟨i2, t2, y2, hi2, f2, g2, k2, n2, l2⟩ := nib_facts y1 l1 w HT.out
      have HN : Hid (crcL s (l.take (k + 1)) = y2) := by show _ = _; rw [hn, n2, n1, hx1]
      clear hn hx1 n1 n2 hcc hc h4 hA hx1l l1 l2
      have c0 : (0 : Int) ≤ (c : Int) := by omega
      have c1 : (c : Int) ≤ 255 := by omega
      go_wp2
      go_round
      case rel => exact ⟨k + 1, by omega, by go_num, by rw [HN.out]⟩
      case measure => simp [intOf]; omega
    · clear h4
      go_wp2
      go_ret
      exact ⟨ret_intW (by rw [List.take_of_length_le (by omega)]), rfl⟩

/-- The slice v of slices has these parts. -/
def Ss (w : World) (v : Value) (ls : List (List UInt8)) : Prop :=
  ∃ ao cap, v = .slice ao ls.length cap ∧ ls.length ≤ cap ∧ cap ≤ maxLen ∧
    (ls ≠ [] → ∃ b off, ao = some ⟨b, off, none⟩ ∧ b < w.heap.size ∧ ∀ j (h : j < ls.length), ∃ u, w.cell? ⟨b, off + j, none⟩ = some u ∧ Sl w u (ls[j]'h))
theorem Ss.keep {w w' : World} {v : Value} {ls : List (List UInt8)} (h : Ss w v ls) (hb : Below w.heap.size w w') : Ss w' v ls := by
  obtain ⟨ao, cap, hv, h1, h2, h4⟩ := h
  refine ⟨ao, cap, hv, h1, h2, fun hl => ?_⟩
  obtain ⟨b, off, ha, hlt, hc⟩ := h4 hl
  refine ⟨b, off, ha, Nat.lt_of_lt_of_le hlt hb.size, fun j hj => ?_⟩
  obtain ⟨u, hu, hs⟩ := hc j hj
  exact ⟨u, (hb.cell (p := ⟨b, off + j, none⟩) hlt).trans hu, hs.keepB hb⟩

def crc (l : List UInt8) : Nat := 4294967295 ^^^ crcL 4294967295 l
theorem crcL_append (s : Nat) (a b : List UInt8) : crcL s (a ++ b) = crcL (crcL s a) b := by simp [crcL, List.foldl_append]

set_option maxRecDepth 20000 in
set_option maxHeartbeats 400000 in
theorem crc_any (w : World) (v : Value) (ls : List (List UInt8)) (h : Ss w v ls) (hT : TabW w) :
    Calls Tryz.prog 70 #[v] w fun e w' => e = .returned (.int .u32 (crc ls.flatten : Nat)) ∧ w' = w := by
  obtain ⟨ao, cap, rfl, h1, h2, h4⟩ := h
  unfold maxLen at h2
  have HT := hide hT
  clear hT
  go_enter Tryz.func70, Tryz.ntmps70
  go_wp2
  go_loop [3, 8] (fun x i => ∃ k : Nat, k ≤ ls.length ∧ i = .int .i64 k ∧ x = .int .u32 ((crcL 4294967295 (ls.take k).flatten : Nat) : Int)) (fun _ i => ls.length - (intOf i).toNat)
  case atStart => exact ⟨0, by omega, rfl, rfl⟩
  case round =>
    obtain ⟨k, hk, rfl, rfl⟩ := hrel
    by_cases hlt : k < ls.length
    · obtain ⟨b, off, rfl, hb, hc⟩ := h4 (by rintro rfl; simp at hlt)
      obtain ⟨u, hcell, hsl⟩ := hc k hlt
      have hn : crcL 4294967295 (ls.take (k + 1)).flatten = crcL (crcL 4294967295 (ls.take k).flatten) ls[k] := by
        rw [List.take_succ_eq_append_getElem hlt, List.flatten_append, crcL_append]; simp
      have hA := crcL_lt (ls.take k).flatten 4294967295 (by omega)
      generalize crcL 4294967295 (ls.take k).flatten = A at *
      have HN := hide hn
      have HA := hide hA
      clear hn hA hc h4
      have hu := hsl
      obtain ⟨ao', cap', rfl, _, _, _, _⟩ := hu
      go_wp2_with fail
      refine (crcPart_any _ _ ls[k] A HA.out hsl HT.out).mono ?_
      rintro e w1 ⟨rfl, rfl⟩
      generalize crcL A ls[k] = z at *
      clear hsl
      go_wp2
      go_round
      case rel => exact ⟨k + 1, by omega, by go_num, by rw [HN.out]⟩
      case measure => simp [intOf]; omega
    · clear h4
      have hA := crcL_lt (ls.take k).flatten 4294967295 (by omega)
      have e : ls.take k = ls := List.take_of_length_le (by omega)
      rw [e] at hA ⊢
      have hx : bits .xor .u32 IntKind.u32.max ((crcL 4294967295 ls.flatten : Nat) : Int) = ((crc ls.flatten : Nat) : Int) := by
        rw [show IntKind.u32.max = ((4294967295 : Nat) : Int) from by decide, u32_xor_nat _ _ (by omega) hA]; rfl
      have HX := hide hx
      clear hx hA e
      go_wp2
      go_ret
      exact ⟨ret_intW HX.out, rfl⟩
end Go.Proofs.YthjcimgollfmgaaGreatDoor

/-
  Groups, plainly: which bytes they are, and what any bytes tell of groups: whole ones, and a last one that is torn. No program here. Conditions: none.
-/
namespace Go.Proofs.YthjcimgollfmgaaGreatDoor

def word (n : Nat) : List UInt8 := [UInt8.ofNat (n / 16777216), UInt8.ofNat (n / 65536), UInt8.ofNat (n / 256), UInt8.ofNat n]
def unword (b : List UInt8) : Nat := (b.getD 0 0).toNat * 16777216 + (b.getD 1 0).toNat * 65536 + (b.getD 2 0).toNat * 256 + (b.getD 3 0).toNat
def mkW : List UInt8 := [245, 119, 97, 108]
/-- The sum of bytes, as it lies in the file. -/
def sum4 (b : List UInt8) : List UInt8 := word (crc b)
theorem sum4_length (b : List UInt8) : (sum4 b).length = 4 := rfl
section
variable (cs : List UInt8 → List UInt8)
/-- A head, whichever four bytes are a sum (cs). -/
def hdW (size : Nat) : List UInt8 := (mkW ++ word size) ++ cs (mkW ++ word size)
def bodyW (rs : List (List UInt8)) : List UInt8 := (rs.map txt).flatten
def grp (rs : List (List UInt8)) : List UInt8 := hdW cs (bodyW rs).length ++ (bodyW rs ++ cs (bodyW rs))
end
def right (rs : List (List UInt8)) : Bool := decide (rs.length ≤ 8192) && decide ((rs.map List.length).sum ≤ 2097152)
theorem word_length (n : Nat) : (word n).length = 4 := rfl
theorem h8_length (n : Nat) : (mkW ++ word n).length = 8 := rfl
theorem hdW_length {cs : List UInt8 → List UInt8} (hcs : ∀ b, (cs b).length = 4) (n : Nat) : (hdW cs n).length = 12 := by
  unfold hdW
  rw [List.length_append, h8_length, hcs]
theorem grp_length {cs : List UInt8 → List UInt8} (hcs : ∀ b, (cs b).length = 4) (rs : List (List UInt8)) : (grp cs rs).length = 16 + (bodyW rs).length := by
  unfold grp
  rw [List.length_append, List.length_append, hdW_length hcs, hcs]
  omega
theorem byte_nat (n : Nat) : (UInt8.ofNat n).toNat = n % 256 := by simp
theorem unword_word (n : Nat) (h : n < 4294967296) : unword (word n) = n := by
  simp only [unword, word, List.getD_cons_zero, List.getD_cons_succ, byte_nat]
  omega
theorem right_len {rs : List (List UInt8)} (h : right rs = true) : rs.length ≤ 8192 ∧ (rs.map List.length).sum ≤ 2097152 := by
  simpa [right] using h
theorem txt_len {r : List UInt8} (h : r.length ≤ 2097152) : (txt r).length ≤ r.length + 4 := by
  unfold txt num
  have : Pl.zz (r.length : Int) = 2 * r.length := by unfold Pl.zz; rw [if_pos (by omega)]; omega
  have := Pl.enc_fits (Pl.zz (r.length : Int)) 4 (by omega) (by rw [this]; omega)
  simp
  omega
theorem body_cons (r : List UInt8) (rs : List (List UInt8)) : bodyW (r :: rs) = txt r ++ bodyW rs := rfl
theorem body_append (a b : List (List UInt8)) : bodyW (a ++ b) = bodyW a ++ bodyW b := by simp [bodyW]
theorem body_len : ∀ (rs : List (List UInt8)), (∀ r ∈ rs, r.length ≤ 2097152) → (bodyW rs).length ≤ (rs.map List.length).sum + 4 * rs.length
  | [], _ => by simp [bodyW]
  | r :: rs, h => by
    have h1 := body_len rs (fun x hx => h x (by simp [hx]))
    have h2 := txt_len (h r (by simp))
    rw [body_cons, List.length_append]
    simp
    omega
theorem mem_sum {rs : List (List UInt8)} {r : List UInt8} (h : r ∈ rs) : r.length ≤ (rs.map List.length).sum := by
  induction rs with
  | nil => cases h
  | cons x rs ih =>
    simp only [List.map_cons, List.sum_cons]
    rcases List.mem_cons.1 h with e | e
    · subst e; omega
    · have := ih e; omega
theorem right_each {rs : List (List UInt8)} (h : right rs = true) : ∀ r ∈ rs, r.length ≤ 2097152 := fun r hr => by
  have := (right_len h).2
  have := mem_sum hr
  omega
theorem right_body {rs : List (List UInt8)} (h : right rs = true) : (bodyW rs).length ≤ 2129920 := by
  have h1 := body_len rs (right_each h)
  have := right_len h
  omega
theorem right_pre {a b : List (List UInt8)} (h : right (a ++ b) = true) : right a = true := by
  have := right_len h
  simp only [right, Bool.and_eq_true, decide_eq_true_eq]
  simp at this
  omega

/-! ### what bytes tell -/
/-- Can b, which is no text's, be the beginning of one that ends within size bytes? -/
def tornW (b : List UInt8) (size : Int) : Bool :=
  match takeI b 0 with
  | some (n, q) => decide (0 ≤ n ∧ n ≤ min (size - q) 2097152)
  | none => match takeI (b ++ [1]) 0 with
    | some (n, q) => decide (0 ≤ n ∧ n ≤ min (size - q) 2097152)
    | none => false
/-- Records from a place on, as many as are there; can all of it be theirs? -/
def recsW : Nat → List UInt8 → Nat → Int → List (List UInt8) × Bool
  | 0, _, _, _ => ([], true)
  | f + 1, b, a, size => if a < b.length then
      match takeT b a 2097152 with
      | none => ([], tornW (b.drop a) (size - a))
      | some (r, q) => (r :: (recsW f b q size).1, (recsW f b q size).2)
    else ([], true)
def headW (cs : List UInt8 → List UInt8) (b : List UInt8) : Nat × Bool :=
  let h := b.take 12
  let size := unword (((h ++ List.replicate (12 - h.length) 0).drop 4).take 4)
  if 2129920 < size then (0, false) else (size, h.isPrefixOf (hdW cs size))
/-- Behind the records: the sum. -/
def sumB (cs : List UInt8 → List UInt8) (size : Nat) (body s : List UInt8) (rs : List (List UInt8)) : List (List UInt8) × Nat × Bool :=
  if s.isPrefixOf (cs body) = false ∨ s.length < 4 then ([], 0, s.isPrefixOf (cs body)) else (rs, 16 + size, true)
def recB (cs : List UInt8 → List UInt8) (size : Nat) (body rest : List UInt8) (r : List (List UInt8) × Bool) : List (List UInt8) × Nat × Bool :=
  if r.2 = false ∨ right r.1 = false then ([], 0, false) else if body.length < size then ([], 0, true) else sumB cs size body (rest.take 4) r.1
def groupB (cs : List UInt8 → List UInt8) (b : List UInt8) (h : Nat × Bool) : List (List UInt8) × Nat × Bool :=
  if h.2 = false ∨ b.length < 12 then ([], 0, h.2) else recB cs h.1 ((b.drop 12).take h.1) ((b.drop 12).drop h.1) (recsW (((b.drop 12).take h.1).length + 1) ((b.drop 12).take h.1) 0 h.1)
/-- The group at the beginning: its records, how many bytes it has (0: it is torn), false: none's beginning. -/
def groupW (cs : List UInt8 → List UInt8) (b : List UInt8) : List (List UInt8) × Nat × Bool := groupB cs b (headW cs b)
theorem recsW_put (size : Int) : ∀ (rs : List (List UInt8)) (p : List UInt8) (f : Nat), (∀ r ∈ rs, r.length ≤ 2097152) → rs.length < f → recsW f (p ++ bodyW rs) p.length size = (rs, true)
  | [], p, f + 1, _, _ => by simp [recsW, bodyW]
  | r :: rs, p, f + 1, h, hf => by
    have hr := h r (by simp)
    have ht := takeT_put p (bodyW rs) r 2097152 (by omega) (by omega)
    have hl : 0 < (txt r).length := by have := num_length r.length; unfold txt; simp; omega
    have ih := recsW_put size rs (p ++ txt r) f (fun x hx => h x (by simp [hx])) (by simp at hf; omega)
    rw [List.append_assoc, List.length_append] at ih
    unfold recsW
    rw [body_cons, if_pos (by simp; omega), ht]
    simp only
    rw [ih]

/-! ### what is torn -/
theorem dec_torn (j : Nat) : ∀ (f u k acc : Nat), f + k = 9 → j < (Pl.encF f u).length → Pl.dec ((Pl.encF f u).take j ++ [1]) k acc = some (acc + (u % 2 ^ (7 * j) + 2 ^ (7 * j)) * 2 ^ (7 * k), k + (j + 1)) := by
  induction j with
  | zero =>
    intro f u k acc hk _
    have h1 : (1 : UInt8).toNat = 1 := rfl
    simp only [List.take_zero, List.nil_append, Pl.dec, h1]
    rw [if_neg (by omega), if_neg (by omega), if_pos (by omega)]
    simp [Nat.mod_one]
  | succ j ih =>
    intro f u k acc hk hj
    cases f with
    | zero => simp [Pl.encF] at hj
    | succ f =>
      unfold Pl.encF at hj ⊢
      by_cases h : u < 128
      · rw [if_pos h] at hj
        simp at hj
      · rw [if_neg h] at hj
        simp only [List.length_cons] at hj
        have hb : (UInt8.ofNat (u % 128 + 128)).toNat = u % 128 + 128 := Pl.byte_small (by omega)
        rw [if_neg h]
        simp only [List.take_succ_cons, List.cons_append, Pl.dec, hb]
        rw [if_neg (by omega), if_neg (by omega), if_neg (by omega), ih f (u / 128) (k + 1) _ (by omega) (by omega)]
        simp only [Option.some.injEq, Prod.mk.injEq]
        refine ⟨?_, by omega⟩
        have e1 : u % 2 ^ (7 * (j + 1)) = u % 128 + 128 * (u / 128 % 2 ^ (7 * j)) := by rw [Pl.p7, Nat.mod_mul]
        rw [e1, Pl.p7 k, Pl.p7 j, Nat.add_sub_cancel, Nat.add_assoc]
        congr 1
        generalize 2 ^ (7 * k) = K
        generalize 2 ^ (7 * j) = J
        generalize u / 128 % J = m
        generalize u % 128 = l
        rw [← Nat.mul_assoc, ← Nat.add_mul]
        congr 1
        omega
theorem zz_len (n : Nat) : Pl.zz (n : Int) = 2 * n := by unfold Pl.zz; rw [if_pos (by omega)]; omega
theorem takeI_torn (n j : Nat) (_hn : n ≤ 2097152) (h0 : 0 < j) (hj : j < (num n).length) : ∃ m : Nat, takeI ((num n).take j ++ [1]) 0 = some ((m : Int), j + 1) ∧ m ≤ n := by
  have hu : Pl.zz (n : Int) = 2 * n := zz_len n
  have hd := dec_torn j 9 (Pl.zz (n : Int)) 0 0 rfl hj
  simp only [Nat.mul_zero, Nat.pow_zero, Nat.mul_one, Nat.zero_add] at hd
  have hbig : 2 ^ (7 * j) ≤ Pl.zz (n : Int) := by
    rcases Nat.lt_or_ge (Pl.zz (n : Int)) (2 ^ (7 * j)) with h | h
    · have := Pl.enc_fits _ j h0 h
      unfold num at hj
      omega
    · exact h
  have hdv : 2 ∣ 2 ^ (7 * j) := ⟨2 ^ (7 * j - 1), by rw [← Nat.pow_succ', Nat.succ_eq_add_one, show 7 * j - 1 + 1 = 7 * j by omega]⟩
  have hpar : Pl.zz (n : Int) % 2 ^ (7 * j) % 2 = 0 := by rw [Nat.mod_mod_of_dvd _ hdv, hu]; omega
  have hle : Pl.zz (n : Int) % 2 ^ (7 * j) + 2 ^ (7 * j) ≤ Pl.zz (n : Int) := by
    have h1 := Nat.div_add_mod (Pl.zz (n : Int)) (2 ^ (7 * j))
    have h2 : 1 ≤ Pl.zz (n : Int) / 2 ^ (7 * j) := (Nat.le_div_iff_mul_le (Nat.two_pow_pos _)).2 (by omega)
    have h3 := Nat.mul_le_mul_left (2 ^ (7 * j)) h2
    omega
  obtain ⟨e, he⟩ := hdv
  rw [he] at hpar hle hd
  refine ⟨(Pl.zz (n : Int) % (2 * e) + 2 * e) / 2, ?_, by rw [hu] at *; omega⟩
  unfold takeI
  rw [if_neg (by omega)]
  have e0 : ((num n).take j ++ [1]).drop (0 : Int).toNat = (Pl.encF 9 (Pl.zz (n : Int))).take j ++ [1] := rfl
  rw [e0, hd]
  simp only [Option.map_some, Option.some.injEq, Prod.mk.injEq]
  refine ⟨?_, by simp⟩
  unfold Pl.unzz
  rw [if_pos (by omega)]
theorem takeI_pre (q r : List UInt8) (n : Nat) (hn : n ≤ 2097152) (hq : q = num n ++ r) : takeI q 0 = some ((n : Int), (num n).length) := by
  have := takeI_put [] r n (by omega) (by omega)
  simpa [hq] using this
theorem torn_txt (r : List UInt8) (j : Nat) (size : Int) (hr : r.length ≤ 2097152) (h0 : 0 < j) (hj : j < (txt r).length) (hs : ((txt r).length : Int) ≤ size) : tornW ((txt r).take j) size = true := by
  have hl : (txt r).length = (num r.length).length + r.length := by simp [txt]
  unfold tornW
  by_cases hlt : j < (num r.length).length
  · have e : (txt r).take j = (num r.length).take j := by unfold txt; rw [List.take_append_of_le_length (by omega)]
    rw [e, takeI_short _ j hlt (by omega) (by omega)]
    obtain ⟨m, hm, hmn⟩ := takeI_torn r.length j hr h0 hlt
    rw [hm]
    simp only [decide_eq_true_eq]
    omega
  · have e : (txt r).take j = num r.length ++ r.take (j - (num r.length).length) := by
      unfold txt; rw [List.take_append, List.take_of_length_le (by omega)]
    rw [takeI_pre _ _ _ hr e]
    simp only [decide_eq_true_eq]
    omega
theorem takeI_shift (p q : List UInt8) : takeI (p ++ q) (p.length : Int) = (takeI q 0).map fun x => (x.1, p.length + x.2) := by
  unfold takeI
  rw [if_neg (by omega), if_neg (by omega), Int.toNat_natCast, List.drop_left]
  simp [Function.comp_def]
theorem takeT_shift_none (p q : List UInt8) (m : Int) (h : takeT q 0 m = none) : takeT (p ++ q) (p.length : Int) m = none := by
  unfold takeT at *
  rw [takeI_shift]
  cases ht : takeI q 0 with
  | none => rfl
  | some x =>
    rw [ht] at h
    simp only [Option.map_some] at *
    split at h
    · rw [if_pos]
      rename_i hc
      rcases hc with hc | hc | hc
      · exact .inl hc
      · exact .inr (.inl hc)
      · refine .inr (.inr ?_)
        simp
        omega
    · cases h
theorem recsW_cut' (size : Int) : ∀ (rs : List (List UInt8)) (p : List UInt8) (f i : Nat), (∀ r ∈ rs, r.length ≤ 2097152) → i < f → i ≤ (bodyW rs).length → ((p ++ bodyW rs).length : Int) ≤ size →
    ∃ a b, rs = a ++ b ∧ recsW f (p ++ (bodyW rs).take i) p.length size = (a, true)
  | [], p, f + 1, i, _, _, _, _ => ⟨[], [], rfl, by simp [recsW, bodyW]⟩
  | r :: rs, p, f + 1, i, h, hf, hi, hs => by
    have hr := h r (by simp)
    have hl : 0 < (txt r).length := by have := num_length r.length; unfold txt; simp; omega
    rw [body_cons] at hi hs ⊢
    simp only [List.length_append] at hi hs
    by_cases hc : (txt r).length ≤ i
    · have e : (txt r ++ bodyW rs).take i = txt r ++ (bodyW rs).take (i - (txt r).length) := by rw [List.take_append, List.take_of_length_le hc]
      have ht := takeT_put p ((bodyW rs).take (i - (txt r).length)) r 2097152 (by omega) (by omega)
      obtain ⟨a, b, e1, e2⟩ := recsW_cut' size rs (p ++ txt r) f (i - (txt r).length) (fun x hx => h x (by simp [hx])) (by omega) (by omega) (by simp only [List.length_append]; omega)
      rw [List.append_assoc, List.length_append] at e2
      refine ⟨r :: a, b, by rw [e1]; rfl, ?_⟩
      unfold recsW
      rw [e, if_pos (by simp; omega), ht]
      simp only
      rw [e2]
    · have e : (txt r ++ bodyW rs).take i = (txt r).take i := by rw [List.take_append_of_le_length (by omega)]
      refine ⟨[], r :: rs, rfl, ?_⟩
      unfold recsW
      rw [e]
      by_cases h0 : i = 0
      · subst h0
        rw [if_neg (by simp)]
      · rw [if_pos (by simp; omega), takeT_shift_none _ _ _ (takeT_short r i 2097152 (by omega) (by omega))]
        simp only [List.drop_left]
        rw [torn_txt r i _ hr (by omega) (by omega) (by omega)]
end Go.Proofs.YthjcimgollfmgaaGreatDoor
