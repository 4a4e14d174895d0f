/-
  What putting numbers and texts answers: withRoom, putBits, PutInt, PutText. Conditions: bytes that are together within what make takes.
-/
import Derived.Test.YtdbmngbinhemeabDoorCJWf
import Derived.Lib.AppendStr
import Derived.Laws.IdiomStrings
namespace Go.Proofs.YtdbmngbinhemeabDoor
open Go.RowKit

theorem hide {p : Prop} (h : p) : Hid p := h

/-- A text's bytes as cells. -/
def bc (l : List UInt8) : List Value := l.map fun c => Value.int .u8 (c.toNat : Int)
theorem bc_length (l : List UInt8) : (bc l).length = l.length := by simp [bc]
theorem bc_append (a b : List UInt8) : bc (a ++ b) = bc a ++ bc b := by simp [bc]
theorem bc_one (l : List UInt8) : ∀ u ∈ bc l, u.oneCell' = true := by
  intro u hu
  obtain ⟨_, _, rfl⟩ := List.mem_map.1 hu
  rfl
theorem bc_get (l : List UInt8) (j : Nat) (h : j < l.length) : (bc l)[j]? = some (.int .u8 ((l[j]'h).toNat : Int)) := by
  simp [bc, List.getElem?_map, List.getElem?_eq_getElem h]

/-- The slice v has the bytes l, in the world w. -/
def Sl (w : World) (v : Value) (l : List UInt8) : Prop :=
  ∃ ao cap, v = .slice ao l.length cap ∧ l.length ≤ cap ∧ cap ≤ maxLen ∧ (ao = none → cap = 0) ∧
    (l ≠ [] → ∃ b off, ao = some ⟨b, off, none⟩ ∧ b < w.heap.size ∧ ∀ j (h : j < l.length), w.cell? ⟨b, off + j, none⟩ = some (.int .u8 ((l[j]'h).toNat : Int)))

theorem Sl.nil (w : World) : Sl w (.slice none 0 0) [] := ⟨none, 0, rfl, Nat.le_refl _, by simp, fun _ => rfl, fun h => absurd rfl h⟩

theorem Sl.keep {w w' : World} {v : Value} {l : List UInt8} (h : Sl w v l) (hb : Below w.heap.size w w') : Sl w' v l := by
  obtain ⟨ao, cap, hv, h1, h2, h3, h4⟩ := h
  refine ⟨ao, cap, hv, h1, h2, h3, fun hl => ?_⟩
  obtain ⟨b, off, ha, hlt, hc⟩ := h4 hl
  exact ⟨b, off, ha, Nat.lt_of_lt_of_le hlt hb.size, fun j hj => (hb.cell (p := ⟨b, off + j, none⟩) hlt).trans (hc j hj)⟩

theorem Sl.cells {w w' : World} {ao : Option Addr} {n cap : Nat} {l : List UInt8} (h : Sl w (.slice ao n cap) l) (hb : Below w.heap.size w w') :
    ∀ ad, ao = some ad → ∀ j u, (bc l)[j]? = some u → w'.cell? (ad.add j) = some u := by
  intro ad had j u hu
  obtain ⟨ao', cap', hv, _, _, _, h4⟩ := h.keep hb
  have hj : j < l.length := by
    have := (List.getElem?_eq_some_iff.1 hu).1
    rwa [bc_length] at this
  obtain ⟨b, off, ha, _, hc⟩ := h4 (by rintro rfl; simp at hj)
  injection hv with e1 e2 e3
  rw [← e1, had] at ha
  injection ha with ha
  subst ha
  rw [bc_get l j hj] at hu
  injection hu with hu
  subst hu
  rw [Addr.add_lit]
  exact hc j hj

/-- What the call owns is a slice with these bytes. -/
theorem sl_of_own {w : World} {base : Nat} {v : Value} {l : List UInt8} (h : w.ownsRow base 5 1 v l.length (bc l)) : Sl w v l := by
  obtain ⟨h1, h2⟩ := h
  rcases h2 with ⟨rfl, hn⟩ | ⟨g, cap, cur, rfl, hg, hh, hc, hm, hs, ht⟩
  · obtain rfl : l = [] := List.eq_nil_of_length_eq_zero hn
    exact Sl.nil w
  · refine ⟨_, _, rfl, hc, hm, (fun h => by cases h), fun _ => ⟨g, 0, rfl, ?_, fun j hj => ?_⟩⟩
    · exact (Array.getElem?_eq_some_iff.1 hh).1
    · have := World.ownsRow.cells (w := w) (base := base) (e := 5) (size := 1) (v := .slice (some ⟨g, 0, none⟩) l.length cap) (n := l.length) (xs := bc l) ⟨h1, Or.inr ⟨g, cap, cur, rfl, hg, hh, hc, hm, hs, ht⟩⟩ (g := g) rfl j _ (bc_get l j hj)
      rw [Addr.add_lit] at this
      exact this

theorem Tryd.infoB : (Tryd.prog.info? 5).map (fun i => (i.zero, i.size, i.bytes)) = some (some (.int .u8 0), 1, 1) := by kernel_rfl

set_option maxHeartbeats 400000 in
theorem withRoom_nat (w : World) (v : Value) (l : List UInt8) (room : Nat) (h : Sl w v l) (hr : l.length + room ≤ 281474976710656) :
    Calls Tryd.prog 128 #[v, .int .i64 room] w fun e w' => e = .returned (.slice (some ⟨w.heap.size, 0, none⟩) l.length (l.length + room)) ∧
      w'.ownsRow w.heap.size 5 1 (.slice (some ⟨w.heap.size, 0, none⟩) l.length (l.length + room)) l.length (bc l) ∧ Below w.heap.size w w' ∧ w.heap.size < w'.heap.size := by
  have h' := h
  obtain ⟨ao, cap, rfl, h1, h2, h3, h4⟩ := h'
  clear h4
  obtain ⟨i0, hi, hz0, hz1, hz2⟩ := info_parts Tryd.infoB
  go_enter Tryd.func128, Tryd.ntmps128
  go_wp2_with (first
    | (at_make; refine wpList_make_own _ rfl _ _ 71 rfl w.heap.size 5 i0 (.int .u8 0) 1 Tryd.underlying71 hi hz0 hz1 .i64 .i64 _ (l.length + room) rfl rfl (by omega) (by rw [hz2]; omega) (by unfold maxLen; omega) (Nat.le_refl _) ?_; intro w1 hown1 hgrow1)
    | (at_builtin; refine wpList_append_fits_any _ rfl (.tmp 9) (.tmp 10) 71 rfl w.heap.size 5 i0 1 Tryd.underlying71 hi hz1 w.heap.size 0 (l.length + room) [] rfl hown1 ao l.length cap (bc l) rfl (by rw [bc_length, Nat.mul_one]) (by intro hn; have := h3 hn; omega) (h.cells ((Below.refl _ _).grown hgrow1 (Nat.le_refl _) (by intro k hk; cases hk))) (bc_one l) (by omega) ?_; intro w2 hown2 hgrow2))
  go_ret
  simp only [Nat.zero_add, List.nil_append] at hown2
  refine ⟨rfl, hown2, ((Below.refl _ _).grown hgrow1 (Nat.le_refl _) (by intro k hk; cases hk)).grown hgrow2 hgrow1.size (by intro k hk; injection hk with hk; omega), ?_⟩
  exact (hown2.lt _ rfl).2

theorem withRoom_any (w : World) (v : Value) (l : List UInt8) (room : Int) (h : Sl w v l) (h0 : 0 ≤ room) (hr : (l.length : Int) + room ≤ 281474976710656) :
    Calls Tryd.prog 128 #[v, .int .i64 room] w fun e w' => ∃ cap : Nat, (l.length : Int) + room = cap ∧ e = .returned (.slice (some ⟨w.heap.size, 0, none⟩) l.length cap) ∧
      w'.ownsRow w.heap.size 5 1 (.slice (some ⟨w.heap.size, 0, none⟩) l.length cap) l.length (bc l) ∧ Below w.heap.size w w' ∧ w.heap.size < w'.heap.size := by
  obtain ⟨r, rfl⟩ := Int.eq_ofNat_of_zero_le h0
  refine (withRoom_nat w v l r h (by omega)).mono ?_
  rintro e w' ⟨rfl, a, b, c⟩
  exact ⟨l.length + r, by omega, rfl, a, b, c⟩

theorem or128 (x : Nat) : bits .or .u8 ((x : Int) % 256) 128 = (((UInt8.ofNat (x % 128 + 128)).toNat : Nat) : Int) := by
  have e : (x : Int) % 256 = ((x % 256 : Nat) : Int) := by omega
  rw [e, show (128 : Int) = ((128 : Nat) : Int) from rfl, u8_or_nat _ _ (by omega) (by omega), Pl.byte_small (by omega)]
  have h : ∀ a : Fin 256, a.val ||| 128 = a.val % 128 + 128 := by decide +kernel
  have := h ⟨x % 256, by omega⟩
  simp only at this
  omega
theorem low7 (x : Nat) (h : x < 128) : IntKind.u8.wrap (x : Int) = (((UInt8.ofNat x).toNat : Nat) : Int) := by
  rw [Pl.byte_small (by omega), IntKind.wrap_u8]; omega

/-- 'append(b, s...)' within the capacity. -/
theorem wpList_append_fits_str {P : Program} (w : World) {ops : Array Oper} {rest : List Oper} {o : Oper} {a : Act} {Q : Exit → Act → World → Prop} (hgd : o.guard = none) (sl x : Operand) (t u : TypeId)
    (ho : o.op = .call { callee := .builtin .append, args := #[sl, x], argTypes := #[t, u] })
    (base : Nat) (e : TypeId) (i : TypeInfo) (ht : P.underlying t = some (.slice e)) (hu : P.underlying u = some .string) (hi : P.info? e = some i) (hsize : i.size = 1)
    (g n cap : Nat) (xs : List Value) (hs : a.eval sl = .slice (some ⟨g, 0, none⟩) n cap) (hown : w.ownsRow base e 1 (.slice (some ⟨g, 0, none⟩) n cap) n xs) (s : ByteArray) (hx : a.eval x = .string s)
    (hroom : n + s.size ≤ cap)
    (h : ∀ w', w'.ownsRow base e 1 (.slice (some ⟨g, 0, none⟩) (n + s.size) cap) (n + s.size) (xs ++ Lib.strCells s) → w.grownBy w' (some g) → wpList P ops Q rest (a.put o.dst (.slice (some ⟨g, 0, none⟩) (n + s.size) cap)) w') :
    wpList P ops Q (o :: rest) a w := by
  refine wpList_plain hgd fun K hK => ?_
  have hlen : (xs ++ Lib.strCells s).length = (n + s.size) * 1 := by rw [List.length_append, hown.1, Lib.strCells_length]; omega
  rcases hown.2 with ⟨h0, _⟩ | ⟨g', cap', cur, h0, hbg, hg, hnc, hcm, hcs, htake⟩
  · simp at h0
  · simp only [Value.slice.injEq, Option.some.injEq, Addr.mk.injEq, and_true, true_and] at h0
    obtain ⟨rfl, rfl⟩ := h0
    have hr := Lib.run_append_room_string (P := P) w t u o.type e i ht hu hi hsize g n cap cur hg s hroom (by omega)
    unfold Oper.wp execOp
    simp only [ho, resolve, invoke, builtin, Sem.run_bind, Sem.run_pure, Result.andThen_ok, List.map_toArray, List.map_cons, List.map_nil, hs, hx, hr]
    refine hK _ _ (h _ ⟨hlen, .inr ⟨g, cap, _, rfl, hbg, setRow_heap w g cur _ e _ hg, hroom, hcm, ?_, ?_⟩⟩ ⟨rfl, rfl, rfl, by simp, fun k _ hk => setRow_other w g k _ (fun e => hk (by simp [e]))⟩)
    · have := Lib.strCells_length s
      simp only [List.size_toArray, List.length_append, List.length_take, List.length_drop, Array.length_toList]
      omega
    · rw [Nat.mul_one] at htake hlen ⊢
      rw [htake, ← hlen]
      exact List.take_left

set_option maxRecDepth 20000 in
set_option maxHeartbeats 400000 in
theorem putBits_any (w : World) (base g cap : Nat) (l : List UInt8) (u : Nat) (hu : u < 18446744073709551616) (hbase : base ≤ w.heap.size)
    (hown : w.ownsRow base 5 1 (.slice (some ⟨g, 0, none⟩) l.length cap) l.length (bc l)) (hfit : l.length + (Pl.enc u).length ≤ cap) :
    Calls Tryd.prog 127 #[.slice (some ⟨g, 0, none⟩) l.length cap, .int .u64 u] w fun e w' => e = .returned (.slice (some ⟨g, 0, none⟩) (l ++ Pl.enc u).length cap) ∧
      w'.ownsRow base 5 1 (.slice (some ⟨g, 0, none⟩) (l ++ Pl.enc u).length cap) (l ++ Pl.enc u).length (bc (l ++ Pl.enc u)) ∧ Below base w w' := by
  obtain ⟨i0, hi, hz0, hz1, hz2⟩ := info_parts Tryd.infoB
  have hg : base ≤ g := (hown.lt g rfl).1
  have HF : Hid (l.length + (Pl.enc u).length ≤ cap) := hfit
  have HU : Hid (u < 18446744073709551616) := hu
  clear hfit hu
  go_enter Tryd.func127, Tryd.ntmps127
  go_wp2
  go_loopw [0, 1] (fun v x wr => ∃ (pre : List UInt8) (y f : Nat), v = .slice (some ⟨g, 0, none⟩) (l.length + pre.length) cap ∧ x = .int .u64 y ∧ y < 2 ^ (7 * f + 1) ∧ f ≤ 9 ∧ Pl.enc u = pre ++ Pl.encF f y ∧
      wr.ownsRow base 5 1 (.slice (some ⟨g, 0, none⟩) (l.length + pre.length) cap) (l.length + pre.length) (bc (l ++ pre)) ∧ Below base w wr)
    (fun _ x _ => (intOf x).toNat)
  case atStart => exact ⟨[], u, 9, by simp, rfl, by simpa using HU.out, by omega, rfl, by simpa using hown, Below.refl _ _⟩
  case round =>
    obtain ⟨pre, y, f, rfl, rfl, hy, hf, he, hown', hbel⟩ := hrel
    by_cases hlt : 128 ≤ y
    · obtain ⟨f, rfl⟩ : ∃ f', f = f' + 1 := ⟨f - 1, by cases f with | zero => simp at hy; omega | succ f => omega⟩
      have he' : Pl.enc u = (pre ++ [UInt8.ofNat (y % 128 + 128)]) ++ Pl.encF f (y / 128) := by
        rw [he]; conv => lhs; unfold Pl.encF
        rw [if_neg (by omega)]; simp
      have hy' : y / 128 < 2 ^ (7 * f + 1) := by
        rw [show 7 * (f + 1) + 1 = (7 * f + 1) + 7 from by omega, Nat.pow_add] at hy; omega
      have hcap : l.length + pre.length + 1 ≤ cap := by
        have := HF.out; rw [he'] at this; simp at this; omega
      have HE : Hid (Pl.enc u = (pre ++ [UInt8.ofNat (y % 128 + 128)]) ++ Pl.encF f (y / 128)) := he'
      have HY : Hid (y / 128 < 2 ^ (7 * f + 1)) := hy'
      have hsz := hbel.size
      clear he he' hy hy'
      go_wp2_with (at_builtin; refine wpList_append_fits _ rfl (.tmp 7) (.tmp 11) 71 rfl base 5 i0 1 Tryd.underlying71 hi hz1 g (l.length + pre.length) cap (bc (l ++ pre)) rfl (hown'.alloc _) ⟨wr.heap.size, 0, none⟩ 1 1 (bc [UInt8.ofNat (y % 128 + 128)]) rfl rfl ?c1 (bc_one _) hcap ?_)
      case c1 =>
        intro j x hj
        match j, hj with
        | 0, hj => simp [bc] at hj; subst hj; simp [Addr.add_lit, or128]
      intro w2 hown2 hgrow2
      have hb2 : Below base w w2 := (hbel.alloc (by omega) _).grown hgrow2 (by simp; omega) (by intro k hk; injection hk with hk; omega)
      rw [← bc_append, List.append_assoc] at hown2
      clear hgrow2 hown' hown hbel
      go_wp2
      go_roundw
      case rel => exact ⟨pre ++ [UInt8.ofNat (y % 128 + 128)], y / 128, f, by simp; omega, by go_num, HY.out, by omega, HE.out, by simpa [Nat.add_assoc] using hown2, hb2⟩
      case measure => simp [intOf]; omega
    · have HY : Hid (y < 2 ^ (7 * f + 1)) := hy
      have HE : Hid (Pl.enc u = pre ++ [UInt8.ofNat y]) := by rw [he, Pl.encF_small f y (by omega)]; rfl
      have hcap : l.length + pre.length + 1 ≤ cap := by
        have := HF.out; rw [HE.out] at this; simp at this; omega
      have hsz := hbel.size
      clear hy he
      go_wp2_with (at_builtin; refine wpList_append_fits _ rfl (.tmp 15) (.tmp 18) 71 rfl base 5 i0 1 Tryd.underlying71 hi hz1 g (l.length + pre.length) cap (bc (l ++ pre)) rfl (hown'.alloc _) ⟨wr.heap.size, 0, none⟩ 1 1 (bc [UInt8.ofNat y]) rfl rfl ?c2 (bc_one _) hcap ?_)
      case c2 =>
        intro j x hj
        match j, hj with
        | 0, hj => simp [bc] at hj; subst hj; simp [Addr.add_lit]; omega
      intro w2 hown2 hgrow2
      have hb2 : Below base w w2 := (hbel.alloc (by omega) _).grown hgrow2 (by simp; omega) (by intro k hk; injection hk with hk; omega)
      rw [← bc_append, List.append_assoc] at hown2
      clear hgrow2 hown' hown hbel
      go_wp2
      go_ret
      have e : l.length + pre.length + 1 = (l ++ (pre ++ [UInt8.ofNat y])).length := by simp; omega
      rw [e] at hown2
      rw [HE.out]
      exact ⟨by simp; omega, hown2, hb2⟩

theorem ret_sliceW {ao : Option Addr} {n m cap : Nat} (h : n = m) : Ending.returned (.slice ao n cap) = .returned (.slice ao m cap) := by rw [h]

set_option maxRecDepth 20000 in
set_option maxHeartbeats 400000 in
theorem putInt_any (w : World) (v : Value) (l : List UInt8) (n : Int) (h : Sl w v l) (h0 : -9223372036854775808 ≤ n) (h1 : n ≤ 9223372036854775807) (hl : l.length ≤ 281474976710646) :
    Calls Tryd.prog 93 #[v, .int .i64 n] w fun e w' => ∃ g m cap, e = .returned (.slice (some ⟨g, 0, none⟩) m cap) ∧ m = (l ++ Pl.enc (Pl.zz n)).length ∧ m ≤ cap ∧
      Sl w' (.slice (some ⟨g, 0, none⟩) m cap) (l ++ Pl.enc (Pl.zz n)) ∧ Below w.heap.size w w' := by
  have HZ : Hid (Pl.zz n < 18446744073709551616) := Pl.zz_lt n h0 h1
  go_enter Tryd.func93, Tryd.ntmps93
  go_wp2_with fail
  refine (fold_any n _ h0 h1).mono ?_
  rintro e w1 ⟨rfl, rfl⟩
  go_wp2_with fail
  refine (width_any _ _ (by omega) (by have := HZ.out; omega)).mono ?_
  rintro e w1 ⟨k, rfl, hk1, hk2, hk3, rfl⟩
  have HK : Hid ((Pl.enc (Pl.zz n)).length ≤ k) := Pl.enc_fits _ k hk1 (by simpa using hk3)
  clear hk3
  go_wp2_with fail
  refine (withRoom_any _ v l k h (by omega) (by omega)).mono ?_
  rintro e w2 ⟨cap, hcap, rfl, hown, hb, hs⟩
  have hfit : l.length + (Pl.enc (Pl.zz n)).length ≤ cap := by have := HK.out; omega
  have HF := hide hfit
  clear hfit hcap
  go_wp2_with fail
  refine (putBits_any _ _ _ _ l (Pl.zz n) HZ.out hb.size hown HF.out).mono ?_
  rintro e w3 ⟨rfl, hown3, hb3⟩
  go_wp2_with fail
  go_ret
  exact ⟨_, _, _, ret_sliceW (by simp), rfl, by have := HF.out; simp; omega, sl_of_own hown3, hb.trans hb3⟩

set_option maxRecDepth 20000 in
set_option maxHeartbeats 400000 in
theorem putText_any (w : World) (v : Value) (l : List UInt8) (s : ByteArray) (h : Sl w v l) (hl : l.length + s.size ≤ 281474976710646) :
    Calls Tryd.prog 118 #[v, .string s] w fun e w' => ∃ g m cap, e = .returned (.slice (some ⟨g, 0, none⟩) m cap) ∧ m = (l ++ (Pl.enc (Pl.zz s.size) ++ s.data.toList)).length ∧ m ≤ cap ∧
      Sl w' (.slice (some ⟨g, 0, none⟩) m cap) (l ++ (Pl.enc (Pl.zz s.size) ++ s.data.toList)) ∧ Below w.heap.size w w' := by
  have HZ : Hid (Pl.zz (s.size : Int) < 18446744073709551616) := Pl.zz_lt _ (by omega) (by omega)
  have hsd : s.data.toList.length = s.size := by simp
  have HD := hide hsd
  clear hsd
  obtain ⟨i0, hi, hz0, hz1, hz2⟩ := info_parts Tryd.infoB
  go_enter Tryd.func118, Tryd.ntmps118
  go_wp2_with fail
  refine (fold_any _ _ (by omega) (by omega)).mono ?_
  rintro e w1 ⟨rfl, rfl⟩
  go_wp2_with fail
  refine (width_any _ _ (by omega) (by have := HZ.out; omega)).mono ?_
  rintro e w1 ⟨k, rfl, hk1, hk2, hk3, rfl⟩
  have HK : Hid ((Pl.enc (Pl.zz s.size)).length ≤ k) := Pl.enc_fits _ k hk1 (by simpa using hk3)
  clear hk3
  go_wp2_with fail
  refine (withRoom_any _ v l _ h (by omega) (by omega)).mono ?_
  rintro e w2 ⟨cap, hcap, rfl, hown, hb, hs⟩
  have hfit : l.length + (Pl.enc (Pl.zz s.size)).length + s.size ≤ cap := by have := HK.out; omega
  have HF := hide hfit
  clear hfit hcap
  go_wp2_with fail
  refine (putBits_any _ _ _ _ l (Pl.zz s.size) HZ.out hb.size hown (by have := HF.out; omega)).mono ?_
  rintro e w3 ⟨rfl, hown3, hb3⟩
  generalize hm : (l ++ Pl.enc (Pl.zz s.size)).length = m at hown3 ⊢
  have HM := hide hm
  clear hm hown
  have hg : w1.heap.size ≤ w1.heap.size := Nat.le_refl _
  go_wp2_with (at_builtin; refine wpList_append_fits_str _ rfl (.tmp 17) (.tmp 18) 71 9 rfl w1.heap.size 5 i0 Tryd.underlying71 Tryd.underlying9 hi hz1 w1.heap.size m cap _ rfl hown3 s rfl (by have := HF.out; have := HM.out; simp at this; omega) ?_; intro w4 hown4 hgrow4)
  go_ret
  have e : Lib.strCells s = bc s.data.toList := rfl
  rw [e, ← bc_append, List.append_assoc] at hown4
  have e2 : m + s.size = (l ++ (Pl.enc (Pl.zz s.size) ++ s.data.toList)).length := by rw [← HM.out, ← List.append_assoc, List.length_append (bs := s.data.toList), HD.out]
  have hfit : m + s.size ≤ cap := by have := HF.out; have := HM.out; simp at this; omega
  have hb4 := (hb.trans hb3).grown hgrow4 (Nat.le_trans hb.size hb3.size) (by intro k hk; injection hk with hk; omega)
  rw [e2] at hown4 hfit
  exact ⟨_, _, _, ret_sliceW e2, rfl, hfit, sl_of_own hown4, hb4⟩
end Go.Proofs.YtdbmngbinhemeabDoor
