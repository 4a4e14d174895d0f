/-
  Plain facts: what was put is taken as it was, at whatever place; what is taken, put again, has just those bytes; a beginning is none. Condition: numbers within 64 bits.
-/
import Derived.Test.YtdbmngbinhemeabDoorCWText
namespace Go.Proofs.YtdbmngbinhemeabDoor
open Go.RowKit

def num (n : Int) : List UInt8 := Pl.enc (Pl.zz n)
def txt (t : List UInt8) : List UInt8 := num t.length ++ t

theorem num_length (n : Int) : 1 ≤ (num n).length ∧ (num n).length ≤ 10 := Pl.enc_length _

theorem takeI_put (p r : List UInt8) (n : Int) (h0 : -9223372036854775808 ≤ n) (h1 : n ≤ 9223372036854775807) :
    takeI (p ++ (num n ++ r)) p.length = some (n, p.length + (num n).length) := by
  unfold takeI num
  rw [if_neg (by omega), Int.toNat_natCast, List.drop_left, Pl.dec_enc _ r (Pl.zz_lt n h0 h1)]
  simp [Pl.unzz_zz]

theorem takeT_put (p r t : List UInt8) (most : Int) (hm : (t.length : Int) ≤ most) (h1 : (t.length : Int) ≤ 9223372036854775807) :
    takeT (p ++ (txt t ++ r)) p.length most = some (t, p.length + (txt t).length) := by
  unfold takeT txt
  rw [List.append_assoc, takeI_put p (t ++ r) t.length (by omega) h1]
  simp only
  rw [if_neg (by simp; omega)]
  have e : p ++ (num t.length ++ (t ++ r)) = (p ++ num t.length) ++ (t ++ r) := by simp
  have e2 : p.length + (num t.length).length = (p ++ num t.length).length := by simp
  rw [e, e2, List.drop_left, Int.toNat_natCast, List.take_left]
  simp; omega

theorem takeI_sound {l : List UInt8} {p n : Int} {q : Nat} (h : takeI l p = some (n, q)) :
    0 ≤ p ∧ p.toNat ≤ q ∧ q ≤ l.length ∧ (l.drop p.toNat).take (q - p.toNat) = num n ∧ -9223372036854775808 ≤ n ∧ n ≤ 9223372036854775807 ∧ q = p.toNat + (num n).length := by
  obtain ⟨u, c, h0, hd, rfl, rfl, hu, hc⟩ := takeI_some h
  obtain ⟨_, h2, h3, h4⟩ := Pl.dec_take hd
  have hb := Pl.unzz_bd u hu
  have e : num (Pl.unzz u) = Pl.enc u := by unfold num; rw [Pl.zz_unzz]
  rw [e]
  refine ⟨h0, by omega, hc, ?_, hb.1, hb.2, by omega⟩
  rw [show p.toNat + c - p.toNat = c from by omega]
  exact h3

theorem takeT_sound {l t : List UInt8} {p most : Int} {q : Nat} (h : takeT l p most = some (t, q)) :
    0 ≤ p ∧ p.toNat ≤ q ∧ q ≤ l.length ∧ (l.drop p.toNat).take (q - p.toNat) = txt t ∧ (t.length : Int) ≤ most := by
  unfold takeT at h
  cases ht : takeI l p with
  | none => rw [ht] at h; cases h
  | some x =>
    obtain ⟨n, r⟩ := x
    rw [ht] at h
    simp only at h
    split at h
    · cases h
    rename_i hc
    simp only [Option.some.injEq, Prod.mk.injEq] at h
    obtain ⟨rfl, rfl⟩ := h
    obtain ⟨h0, h1, h2, h3, h4, h5, h6⟩ := takeI_sound ht
    obtain ⟨k, rfl⟩ := Int.eq_ofNat_of_zero_le (show 0 ≤ n by omega)
    have hl : ((l.drop r).take k).length = k := by simp; omega
    refine ⟨h0, by omega, by omega, ?_, by simp only [Int.toNat_natCast]; omega⟩
    unfold txt
    simp only [Int.toNat_natCast]
    rw [hl]
    rw [show r + k - p.toNat = (r - p.toNat) + k from by omega, List.take_add, h3, List.drop_drop, show p.toNat + (r - p.toNat) = r from by omega]

theorem takeI_short (n : Int) (j : Nat) (hj : j < (num n).length) (h0 : -9223372036854775808 ≤ n) (h1 : n ≤ 9223372036854775807) : takeI ((num n).take j) 0 = none := by
  unfold takeI
  rw [if_neg (by omega)]
  have := Pl.dec_cut (Pl.zz_lt n h0 h1) hj
  unfold num
  simp [this]
theorem takeI_end (l : List UInt8) : takeI l l.length = none := by
  unfold takeI
  rw [if_neg (by omega)]
  simp [Pl.dec]
theorem takeT_less (t : List UInt8) (h1 : (t.length : Int) ≤ 9223372036854775807) : takeT (txt t) 0 ((t.length : Int) - 1) = none := by
  have := takeI_put [] t t.length (by omega) h1
  simp only [List.nil_append, List.length_nil] at this
  unfold takeT txt
  rw [show ((0 : Int)) = ((0 : Nat) : Int) from rfl, this]
  simp only
  rw [if_pos (by omega)]
theorem takeT_short (t : List UInt8) (j : Nat) (most : Int) (hj : j < (txt t).length) (h1 : (t.length : Int) ≤ 9223372036854775807) : takeT ((txt t).take j) 0 most = none := by
  by_cases hlt : j < (num t.length).length
  · have e : (txt t).take j = (num t.length).take j := by
      unfold txt; rw [List.take_append_of_le_length (by omega)]
    unfold takeT
    rw [e, takeI_short _ j hlt (by omega) h1]
  · have e : (txt t).take j = num t.length ++ t.take (j - (num t.length).length) := by
      unfold txt; rw [List.take_append, List.take_of_length_le (by omega)]
    have hi := takeI_put [] (t.take (j - (num t.length).length)) t.length (by omega) h1
    simp only [List.nil_append, List.length_nil, Nat.zero_add] at hi
    unfold takeT
    rw [e, show ((0 : Int)) = ((0 : Nat) : Int) from rfl, hi]
    simp only
    rw [if_pos]
    right; right
    unfold txt at hj
    simp at hj ⊢
    omega

theorem putNum_any (w : World) (n : Int) (h0 : -9223372036854775808 ≤ n) (h1 : n ≤ 9223372036854775807) :
    Calls Tryd.prog 93 #[.slice none 0 0, .int .i64 n] w fun e w' => ∃ g m cap, e = .returned (.slice (some ⟨g, 0, none⟩) m cap) ∧ Hid (m = (num n).length) ∧ m ≤ cap ∧
      Sl w' (.slice (some ⟨g, 0, none⟩) m cap) (num n) ∧ Below w.heap.size w w' := putInt_any w _ [] n (Sl.nil _) h0 h1 (by simp)
theorem putTxt_any (w : World) (s : ByteArray) (hl : s.size ≤ 281474976710646) :
    Calls Tryd.prog 118 #[.slice none 0 0, .string s] w fun e w' => ∃ g m cap, e = .returned (.slice (some ⟨g, 0, none⟩) m cap) ∧ Hid (m = (txt s.data.toList).length) ∧ m ≤ cap ∧
      Sl w' (.slice (some ⟨g, 0, none⟩) m cap) (txt s.data.toList) ∧ Below w.heap.size w w' := putText_any w _ [] s (Sl.nil _) (by simpa using hl)

/-- A text of these bytes. -/
def strB (l : List UInt8) : ByteArray := ⟨l.toArray⟩
theorem strB_list (l : List UInt8) : (strB l).data.toList = l := by simp [strB]
theorem strB_size (l : List UInt8) : (strB l).size = l.length := by simp [strB, ByteArray.size]
theorem strB_of (s : ByteArray) : strB s.data.toList = s := by simp [strB]
theorem strB_inj {a b : List UInt8} (h : strB a = strB b) : a = b := by rw [← strB_list a, h, strB_list]

theorem takeText_str (w : World) (v : Value) (l : List UInt8) (p most : Int) (s : ByteArray) (q : Nat) (h : Sl w v l) (hp : p ≤ 9223372036854775807) (hn : takeT l p most = some (s.data.toList, q)) :
    Calls Tryd.prog 120 #[v, .int .i64 p, .int .i64 most] w fun e w' => e = .returned (.tuple #[.string s, .int .i64 (q : Int), .bool true]) ∧ w' = w := by
  have := takeText_some w v l p most _ q h hp hn
  have e : (⟨s.data.toList.toArray⟩ : ByteArray) = s := strB_of s
  rw [e] at this
  exact this

theorem wpList_strB (w : World) {ops : Array Oper} {rest : List Oper} {o : Oper} {a : Act} {Q : Exit → Act → World → Prop} (hg : o.guard = none) (x : Operand) (hop : o.op = Op.convert 71 9 x)
    {v : Value} {l : List UInt8} (h : Sl w v l) (hx : a.eval x = v) (hK : wpList Tryd.prog ops Q rest (a.put o.dst (.string (strB l))) w) : wpList Tryd.prog ops Q (o :: rest) a w :=
  wpList_str w hg x hop h hx hK
end Go.Proofs.YtdbmngbinhemeabDoor
