/-
  What laying numbers' bytes answers: putWord, bytesOf, ending. Conditions: none but room, which the callers have.
-/
import Derived.Test.YtbdepocmepkanaaDoorMixed
import Derived.Lib.AppendStr
import Derived.Laws.IdiomStrings
namespace Go.Proofs.YtbdepocmepkanaaDoor
open Go.RowKit

/-- The slice v has the bytes l, in the world w. -/
def Sl (w : World) (v : Value) (l : List UInt8) : Prop :=
  ∃ ao cap, v = .slice ao l.length cap ∧ l.length ≤ cap ∧ cap ≤ maxLen ∧ (ao = none → cap = 0) ∧
    (l ≠ [] → ∃ b off, ao = some ⟨b, off, none⟩ ∧ b < w.heap.size ∧ ∀ j (h : j < l.length), w.cell? ⟨b, off + j, none⟩ = some (.int .u8 ((l[j]'h).toNat : Int)))

theorem Sl.nil (w : World) : Sl w (.slice none 0 0) [] := ⟨none, 0, rfl, Nat.le_refl _, by simp, fun _ => rfl, fun h => absurd rfl h⟩

theorem Sl.keep {w w' : World} {v : Value} {l : List UInt8} (h : Sl w v l) (hb : Below w.heap.size w w') : Sl w' v l := by
  obtain ⟨ao, cap, hv, h1, h2, h3, h4⟩ := h
  refine ⟨ao, cap, hv, h1, h2, h3, fun hl => ?_⟩
  obtain ⟨b, off, ha, hlt, hc⟩ := h4 hl
  exact ⟨b, off, ha, Nat.lt_of_lt_of_le hlt hb.size, fun j hj => (hb.cell (p := ⟨b, off + j, none⟩) hlt).trans (hc j hj)⟩

theorem Sl.cells {w w' : World} {ao : Option Addr} {n cap : Nat} {l : List UInt8} (h : Sl w (.slice ao n cap) l) (hb : Below w.heap.size w w') :
    ∀ ad, ao = some ad → ∀ j u, (bc l)[j]? = some u → w'.cell? (ad.add j) = some u := by
  intro ad had j u hu
  obtain ⟨ao', cap', hv, _, _, _, h4⟩ := h.keep hb
  have hj : j < l.length := by
    have := (List.getElem?_eq_some_iff.1 hu).1
    rwa [bc_length] at this
  obtain ⟨b, off, ha, _, hc⟩ := h4 (by rintro rfl; simp at hj)
  injection hv with e1 e2 e3
  rw [← e1, had] at ha
  injection ha with ha
  subst ha
  rw [bc_get l j hj] at hu
  injection hu with hu
  subst hu
  rw [Addr.add_lit]
  exact hc j hj

/-- What the call owns is a slice with these bytes. -/
theorem sl_of_own {w : World} {base : Nat} {v : Value} {l : List UInt8} (h : w.ownsRow base 5 1 v l.length (bc l)) : Sl w v l := by
  obtain ⟨h1, h2⟩ := h
  rcases h2 with ⟨rfl, hn⟩ | ⟨g, cap, cur, rfl, hg, hh, hc, hm, hs, ht⟩
  · obtain rfl : l = [] := List.eq_nil_of_length_eq_zero hn
    exact Sl.nil w
  · refine ⟨_, _, rfl, hc, hm, (fun h => by cases h), fun _ => ⟨g, 0, rfl, ?_, fun j hj => ?_⟩⟩
    · exact (Array.getElem?_eq_some_iff.1 hh).1
    · have := World.ownsRow.cells (w := w) (base := base) (e := 5) (size := 1) (v := .slice (some ⟨g, 0, none⟩) l.length cap) (n := l.length) (xs := bc l) ⟨h1, Or.inr ⟨g, cap, cur, rfl, hg, hh, hc, hm, hs, ht⟩⟩ (g := g) rfl j _ (bc_get l j hj)
      rw [Addr.add_lit] at this
      exact this

theorem Tryd.info5 : (Tryd.prog.info? 5).map (fun i => (i.zero, i.size, i.bytes)) = some (some (.int .u8 0), 1, 1) := by kernel_rfl

/-- A text of these bytes. -/
def strB (l : List UInt8) : ByteArray := ⟨l.toArray⟩
theorem strB_list (l : List UInt8) : (strB l).data.toList = l := by simp [strB]
theorem strB_size (l : List UInt8) : (strB l).size = l.length := by simp [strB, ByteArray.size]
theorem strB_of (s : ByteArray) : strB s.data.toList = s := by simp [strB]
theorem strB_inj {a b : List UInt8} (h : strB a = strB b) : a = b := by rw [← strB_list a, h, strB_list]

/-- 'string(b)'. -/
theorem run_str (w : World) (v : Value) (l : List UInt8) (h : Sl w v l) : (convert 25 9 v).run Tryd.prog w = .ok (.string (strB l)) w := by
  obtain ⟨ao, cap, rfl, h1, h2, h3, h4⟩ := h
  by_cases hl : l = []
  · subst hl
    cases ao with
    | none =>
      rw [run_convert_bytes_string w 25 9 5 none _ cap Tryd.underlying25 Tryd.underlying5 Tryd.underlying9]
      rfl
    | some a => exact run_convert_bytes_back w 25 9 5 a cap [] Tryd.underlying25 Tryd.underlying5 Tryd.underlying9 (fun j hj => by simp at hj)
  · obtain ⟨b, off, rfl, hb, hc⟩ := h4 hl
    refine run_convert_bytes_back w 25 9 5 ⟨b, off, none⟩ cap l Tryd.underlying25 Tryd.underlying5 Tryd.underlying9 (fun j hj => ?_)
    rw [Addr.add_lit]
    exact hc j hj
theorem wpList_strB (w : World) {ops : Array Oper} {rest : List Oper} {o : Oper} {a : Act} {Q : Exit → Act → World → Prop} (hg : o.guard = none) (x : Operand) (hop : o.op = Op.convert 25 9 x)
    {v : Value} {l : List UInt8} (h : Sl w v l) (hx : a.eval x = v) (hK : wpList Tryd.prog ops Q rest (a.put o.dst (.string (strB l))) w) : wpList Tryd.prog ops Q (o :: rest) a w := by
  refine wpList_plain hg fun K hK' => ?_
  have hr := run_str w v l h
  unfold Oper.wp
  simp [execOp, hop, hx, hr, Result.andThen]
  exact hK' _ _ hK

theorem byte_u (n : UInt32) (k : UInt32) (j : Nat) (hj : k.toNat = j) (h : j < 32) : u n / 2 ^ j % 256 = (((n >>> k).toUInt8).toNat : Int) := by
  rw [u_shr n k j hj h]
  unfold u
  rw [UInt32.toNat_toUInt8]
  omega
theorem byte24 (n : UInt32) : u n / (16777216 : Int) % (256 : Int) = (((n >>> 24).toUInt8).toNat : Int) := byte_u n 24 24 rfl (by omega)
theorem byte16 (n : UInt32) : u n / (65536 : Int) % (256 : Int) = (((n >>> 16).toUInt8).toNat : Int) := byte_u n 16 16 rfl (by omega)
theorem byte8 (n : UInt32) : u n / (256 : Int) % (256 : Int) = (((n >>> 8).toUInt8).toNat : Int) := byte_u n 8 8 rfl (by omega)
theorem byte0 (n : UInt32) : u n % (256 : Int) = ((n.toUInt8).toNat : Int) := by
  unfold u
  rw [UInt32.toNat_toUInt8]
  omega

set_option maxRecDepth 20000 in
set_option maxHeartbeats 400000 in
theorem putWord_any (w : World) (base g cap : Nat) (l : List UInt8) (n : UInt32) (hbase : base ≤ w.heap.size)
    (hown : w.ownsRow base 5 1 (.slice (some ⟨g, 0, none⟩) l.length cap) l.length (bc l)) (hfit : l.length + 4 ≤ cap) :
    Calls Tryd.prog 25 #[.slice (some ⟨g, 0, none⟩) l.length cap, .int .u32 (u n)] w fun e w' => e = .returned (.slice (some ⟨g, 0, none⟩) (l.length + 4) cap) ∧
      w'.ownsRow base 5 1 (.slice (some ⟨g, 0, none⟩) (l.length + 4) cap) (l.length + 4) (bc (l ++ be4 n)) ∧ Below base w w' := by
  obtain ⟨i0, hi, hz0, hz1, hz2⟩ := info_parts Tryd.info5
  have hg : base ≤ g := (hown.lt g rfl).1
  have h24 := byte24
  have h16 := byte16
  have h8 := byte8
  have h0 := byte0
  go_enter Tryd.func25, Tryd.ntmps25
  go_wp2_with (at_builtin; refine wpList_append_fits _ rfl (.tmp 5) (.tmp 17) 25 rfl base 5 i0 1 Tryd.underlying25 hi hz1 g l.length cap (bc l) rfl (hown.alloc _) ⟨w.heap.size, 0, none⟩ 4 4 (bc (be4 n)) rfl rfl ?c1 (bc_one _) hfit ?_)
  case c1 =>
    intro j x hj
    match j, hj with
    | 0, hj => simp [bc, be4] at hj; subst hj; simp [Addr.add_lit]
    | 1, hj => simp [bc, be4] at hj; subst hj; simp [Addr.add_lit]
    | 2, hj => simp [bc, be4] at hj; subst hj; simp [Addr.add_lit]
    | 3, hj => simp [bc, be4] at hj; subst hj; simp [Addr.add_lit]
  intro w2 hown2 hgrow2
  have hb2 : Below base w w2 := ((Below.refl _ _).alloc hbase _).grown hgrow2 (by simp; omega) (by intro k hk; injection hk with hk; omega)
  rw [← bc_append] at hown2
  clear hgrow2 hown
  go_wp2
  go_ret
  exact ⟨rfl, hown2, hb2⟩
end Go.Proofs.YtbdepocmepkanaaDoor
