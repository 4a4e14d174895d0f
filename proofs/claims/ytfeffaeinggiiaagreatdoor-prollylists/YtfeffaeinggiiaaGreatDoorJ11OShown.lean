/-
  Texts joined: OShown, OOnce, OCommit, OTop4, OEntry, WRef, WVal.
-/
import Derived.Test.YtfeffaeinggiiaaGreatDoorJ10OSay
import Derived.Lib.Bytealg
import Derived.Test.YtfeffaeinggiiaaGreatDoorJ1WFacts
import Derived.Test.YtfeffaeinggiiaaGreatDoorJ0WPlain
/-
  What bytes say, told plainly; what the statements show first. Condition: the table holds its numbers.
-/
namespace Go.Proofs.YtfeffaeinggiiaaGreatDoor
open Go.RowKit

theorem takenLeaf_iff (b : Bs) (hb : b.length ≤ 140737488355328) (f : List Pair) : takenLeaf b = some f ↔ leafOk ltB f = true ∧ b = 76 :: leafB f :=
  taken_iff (enc := leafB) rfl (fun l hl x => leaf_iff ltB l (by omega) x) f
theorem takenFan_iff (b : Bs) (f : Fan) : takenFan b = some f ↔ fanOk f = true ∧ b = 70 :: fanB f :=
  taken_iff (enc := fanB) rfl (fun l _ x => fan_iff l x) f
theorem takenBranch_iff (b : Bs) (hb : b.length ≤ 140737488355328) (f : Branch) : takenBranch b = some f ↔ branchOk ltB f = true ∧ b = 66 :: branchB f :=
  taken_iff (enc := branchB) rfl (fun l hl x => branch_iff ltB l (by omega) x) f
theorem out_length (s : St) : (out s).length = 32 := rfl
theorem sha_length (l : List UInt8) : (sha l).length = 32 := out_length _
theorem ls_pair (w : World) (x : Pair) (n : Nat) (hn : n = w.heap.size) : Ls (w.alloc (.cells #[.string (strB x.1), .string (strB x.2)] 60)).heap.size (w.alloc (.cells #[.string (strB x.1), .string (strB x.2)] 60)) 2 pairC (.slice (some ⟨n, 0, none⟩) 1 1) [x] := by
  subst hn
  refine ⟨_, 1, rfl, Nat.le_refl _, by unfold maxLen; omega, fun _ => ⟨w.heap.size, 0, rfl, by simp, fun j hj i u hu => ?_⟩⟩
  obtain rfl : j = 0 := by simpa using hj
  rw [cell_of_row _ _ _ _ _ _ (heap_last w _ _ rfl)]
  simp only [Nat.zero_mul, Nat.zero_add, List.getElem?_toArray]
  exact hu
theorem leaf_kv : leafOk ltB [([107], [118])] = true ∧ 76 :: leafB [([107], [118])] = [76, 2, 2, 107, 2, 118] := by decide +kernel
theorem taken_kv : takenLeaf [76, 2, 2, 107, 2, 118] = some [([107], [118])] := (takenLeaf_iff _ (by simp) _).2 ⟨leaf_kv.1, leaf_kv.2.symm⟩
end Go.Proofs.YtfeffaeinggiiaaGreatDoor

/-
  Each text once. Conditions: lists lie there, and are short.
-/
namespace Go.Proofs.YtfeffaeinggiiaaGreatDoor
open Go.RowKit

theorem once_snoc : ∀ (xs acc : List Bs) (x : Bs), once acc (xs ++ [x]) = if (once acc xs).contains x then once acc xs else once acc xs ++ [x]
  | [], acc, x => by simp [once]
  | y :: r, acc, x => by
    simp only [List.cons_append, once]
    exact once_snoc r _ x
theorem once_le : ∀ (xs acc : List Bs), (once acc xs).length ≤ acc.length + xs.length
  | [], acc => by simp [once]
  | y :: r, acc => by
    simp only [once]
    by_cases h : acc.contains y = true
    · have := once_le r acc
      rw [if_pos h, List.length_cons]
      omega
    · have := once_le r (acc ++ [y])
      rw [List.length_append] at this
      rw [if_neg h, List.length_cons]
      simp at this
      omega
end Go.Proofs.YtfeffaeinggiiaaGreatDoor

/-
  Whether a commit is right. Condition: its parents lie there.
-/
namespace Go.Proofs.YtfeffaeinggiiaaGreatDoor
open Go.RowKit

theorem commitOk_eq (c : Commit) : commitOk c = ((isIdB c.1) && (decide ((c.2.1.length : Int) ≤ 8)) && (c.2.1.all isIdB) && (((once [] c.2.1).length : Int) == (c.2.1.length : Int)) && (decide ((c.2.2.1.length : Int) ≤ 64)) && (decide ((c.2.2.2.2.length : Int) ≤ 1024)) && (decide (0 ≤ c.2.2.2.1)) && (decide (c.2.2.2.1 ≤ 4611686018427387904))) := by
  unfold commitOk
  rw [Bool.eq_iff_iff]
  simp only [Bool.and_eq_true, decide_eq_true_eq, beq_iff_eq]
  constructor
  · rintro ⟨⟨⟨⟨⟨⟨h0, h1⟩, h2⟩, h3⟩, h4⟩, h5⟩, h6, h7⟩
    exact ⟨⟨⟨⟨⟨⟨⟨h0, by omega⟩, h2⟩, by omega⟩, by omega⟩, by omega⟩, h6⟩, h7⟩
  · rintro ⟨⟨⟨⟨⟨⟨⟨h0, h1⟩, h2⟩, h3⟩, h4⟩, h5⟩, h6⟩, h7⟩
    exact ⟨⟨⟨⟨⟨⟨h0, by omega⟩, h2⟩, by omega⟩, by omega⟩, by omega⟩, h6, h7⟩
end Go.Proofs.YtfeffaeinggiiaaGreatDoor

/-
  Commits made and read. Conditions: the table holds its numbers; lengths within reach.
-/
namespace Go.Proofs.YtfeffaeinggiiaaGreatDoor
open Go.RowKit

theorem commitB_le {c : Commit} (h : commitOk c = true) : (commitB c).length ≤ 3000 ∧ c.2.1.length ≤ 8 ∧ In64 c.2.2.2.1 := by
  simp only [commitOk, isIdB, Bool.and_eq_true, decide_eq_true_eq, List.all_eq_true] at h
  obtain ⟨⟨⟨⟨⟨⟨h1, h2⟩, h3⟩, _⟩, h5⟩, h6⟩, h4⟩ := h
  have := listB_le idB 32 c.2.1 (fun x hx => by have := h3 x hx; show x.length ≤ 32; omega)
  have n1 := num_length c.2.2.2.1
  have n2 := num_length (c.2.2.1.length : Int)
  have n3 := num_length (c.2.2.2.2.length : Int)
  have h7 : c.2.1.length * 32 ≤ 8 * 32 := Nat.mul_le_mul_right _ h2
  refine ⟨by simp only [commitB, txt, List.length_append]; omega, h2, ⟨by omega, by omega⟩⟩
theorem ls_two (w : World) (l m : Bs) (n : Nat) (hn : n = w.heap.size) : Ls (w.alloc (.cells #[.string (strB l), .string (strB m)] 9)).heap.size (w.alloc (.cells #[.string (strB l), .string (strB m)] 9)) 1 idC (.slice (some ⟨n, 0, none⟩) 2 2) [l, m] := by
  subst hn
  refine ⟨_, 2, rfl, Nat.le_refl _, by unfold maxLen; omega, fun _ => ⟨w.heap.size, 0, rfl, by simp, fun j hj i u hu => ?_⟩⟩
  rw [cell_of_row _ _ _ _ _ _ (heap_last w _ _ rfl)]
  have hi : i = 0 := by
    have := (List.getElem?_eq_some_iff.1 hu).1
    simpa [idC] using this
  subst hi
  match j, hj with
  | 0, _ => exact hu
  | 1, _ => exact hu
def takenCommit (b : Bs) : Option Commit := taken [75] gCommit commitOk b
theorem takenCommit_iff (b : Bs) (hb : b.length ≤ 140737488355328) (c : Commit) : takenCommit b = some c ↔ commitOk c = true ∧ b = 75 :: commitB c :=
  taken_iff (enc := commitB) rfl (fun l hl x => commit_iff l (by omega) x) c
theorem heap_set5 {w : World} {g : Nat} {v0 v1 v2 v3 v4 u0 u1 u2 u3 u4 : Value} {t : TypeId} (h : w.heap[g]? = some (.cells #[v0, v1, v2, v3, v4] t)) : (((((w.setCell ⟨g, 0, none⟩ u0).setCell ⟨g, 1, none⟩ u1).setCell ⟨g, 2, none⟩ u2).setCell ⟨g, 3, none⟩ u3).setCell ⟨g, 4, none⟩ u4).heap[g]? = some (.cells #[u0, u1, u2, u3, u4] t) := by
  rw [heap_setCell _ _ _ _ _ _ _ (heap_setCell _ _ _ _ _ _ _ (heap_setCell _ _ _ _ _ _ _ (heap_setCell _ _ _ _ _ _ _ (heap_setCell _ _ _ _ _ _ _ h))))]
  simp
/-- What TakeCommit answers. -/
def commitSaid (B : Nat) (b : Bs) (e : Ending) (w' : World) : Prop :=
  match takenCommit b with
  | some c => ∃ v, e = .returned (.tuple #[.agg #[.string (strB c.1), v, .string (strB c.2.2.1), .int .i64 c.2.2.2.1, .string (strB c.2.2.2.2)], .int .i64 0]) ∧ w'.ownsRow B 9 1 v c.2.1.length (c.2.1.flatMap idC)
  | none => e = .returned (.tuple #[.agg #[.string ⟨#[]⟩, .slice none 0 0, .string ⟨#[]⟩, .int .i64 0, .string ⟨#[]⟩], .int .i64 81])
end Go.Proofs.YtfeffaeinggiiaaGreatDoor

/-
  Names; entries' values read. Conditions: lengths within reach.
-/
namespace Go.Proofs.YtfeffaeinggiiaaGreatDoor
open Go.RowKit

namespace Pt
def name (l : List UInt8) : Bool := decide (1 ≤ l.length ∧ l.length ≤ 64 ∧ l ≠ [46] ∧ l ≠ [46, 46] ∧ 47 ∉ l ∧ 0 ∉ l)
theorem indexByte_none {l : List UInt8} {c : UInt8} (h : c ∉ l) : Lib.indexByte l c = -1 := by
  induction l with
  | nil => rfl
  | cons b t ih =>
    simp only [List.mem_cons, not_or] at h
    unfold Lib.indexByte
    rw [ih h.2]
    simp [show ¬ b = c from fun e => h.1 e.symm]
theorem indexByte_app {p r : List UInt8} {c : UInt8} (h : c ∉ p) : Lib.indexByte (p ++ c :: r) c = p.length := by
  induction p with
  | nil => simp [Lib.indexByte]
  | cons b t ih =>
    simp only [List.mem_cons, not_or] at h
    show Lib.indexByte (b :: (t ++ c :: r)) c = _
    unfold Lib.indexByte
    rw [ih h.2]
    simp only [beq_iff_eq, show ¬ b = c from fun e => h.1 e.symm, if_false, List.length_cons]
    rw [if_neg (by omega)]
    omega
theorem indexByte_neg (l : List UInt8) (c : UInt8) : decide (Lib.indexByte l c < 0) = decide (c ∉ l) := by
  by_cases h : c ∈ l
  · obtain ⟨p, r, rfl, hp⟩ : ∃ p r, l = p ++ c :: r ∧ c ∉ p := by
      induction l with
      | nil => simp at h
      | cons b t ih =>
        by_cases e : b = c
        · exact ⟨[], t, by simp [e], by simp⟩
        · obtain ⟨p, r, rfl, hp⟩ := ih (by simpa [show ¬ c = b from fun x => e x.symm] using h)
          exact ⟨b :: p, r, rfl, by simp [hp]; exact fun x => e x.symm⟩
    rw [indexByte_app hp]
    simp
  · rw [indexByte_none h]
    simp [h]
end Pt
def entryOk (name : Bs) (v : Val) : Bool := Pt.name name && valOk v
theorem heap_set4 {w : World} {g : Nat} {v0 v1 v2 v3 u0 u1 u2 u3 : Value} {t : TypeId} (h : w.heap[g]? = some (.cells #[v0, v1, v2, v3] t)) : ((((w.setCell ⟨g, 0, none⟩ u0).setCell ⟨g, 1, none⟩ u1).setCell ⟨g, 2, none⟩ u2).setCell ⟨g, 3, none⟩ u3).heap[g]? = some (.cells #[u0, u1, u2, u3] t) := by
  rw [heap_setCell _ _ _ _ _ _ _ (heap_setCell _ _ _ _ _ _ _ (heap_setCell _ _ _ _ _ _ _ (heap_setCell _ _ _ _ _ _ _ h)))]
  simp
/-- What a value says, under a name. -/
def takenEntry (name val : Bs) : Option Val := if (gVal val (some 0)).2 = some val.length ∧ entryOk name (gVal val (some 0)).1 = true then some (gVal val (some 0)).1 else none
/-- What TakeEntry answers. -/
def entrySaid (name val : Bs) (e : Ending) : Prop :=
  match takenEntry name val with
  | some v => e = .returned (.tuple #[.agg #[.string (strB name), .int .i64 v.1, .string (strB v.2.1), .int .i64 v.2.2], .int .i64 0])
  | none => e = .returned (.tuple #[.agg #[.string ⟨#[]⟩, .int .i64 0, .string ⟨#[]⟩, .int .i64 0], .int .i64 81])
theorem rc {w : World} {k i : Nat} {cs : Array Value} {t : TypeId} {fr : Nat × Nat} {u : Value} (h : w.heap[k]? = some (Obj.cells cs t fr)) (hu : cs[i]? = some u) : w.cell? ⟨k, i, none⟩ = some u := by rw [cell_of_row w k i _ _ _ h, hu]
theorem begin_nil (b : Bs) : begin [] b = (b, some 0) := by
  unfold begin
  rw [if_pos (by simp [List.isPrefixOf])]
  simp

end Go.Proofs.YtfeffaeinggiiaaGreatDoor

/-
  What the document's answer says: a number's bytes and a text's bytes (the reference's Int and Text). Conditions: numbers within 64 bits; a text within the reach.
-/
namespace Go.Proofs.YtfeffaeinggiiaaGreatDoor
open Go.RowKit

theorem ref_pos (n : Int) (h0 : 0 ≤ n) (h1 : n ≤ 9223372036854775807) : IntKind.u64.wrap (IntKind.u64.wrap n * 2) = ((Pl.zz n : Nat) : Int) := by
  unfold Pl.zz
  rw [if_pos h0, IntKind.wrap_u64, IntKind.wrap_u64]
  omega
theorem ref_neg (n : Int) (h0 : -9223372036854775808 ≤ n) (h1 : n < 0) : bits .xor .u64 IntKind.u64.max (IntKind.u64.wrap (IntKind.u64.wrap n * 2)) = ((Pl.zz n : Nat) : Int) := by
  have e1 : IntKind.u64.wrap (IntKind.u64.wrap n * 2) = ((2 * n + 18446744073709551616).toNat : Int) := by
    rw [IntKind.wrap_u64, IntKind.wrap_u64]; omega
  rw [e1, show IntKind.u64.max = ((18446744073709551615 : Nat) : Int) from by decide, bits_xor_u64_nat _ _ (by omega) (by omega), xor_ones64 _ (by omega)]
  unfold Pl.zz; rw [if_neg (by omega)]
  omega

set_option maxRecDepth 20000 in
set_option maxHeartbeats 800000 in
theorem refInt_any (w : World) (n : Int) (h0 : -9223372036854775808 ≤ n) (h1 : n ≤ 9223372036854775807) :
    Calls Tryz.prog 74 #[.int .i64 n] w fun e w' => ∃ v, e = .returned v ∧ w'.ownsRow w.heap.size 5 1 v (num n).length (bc (num n)) ∧ Below w.heap.size w w' := by
  obtain ⟨i0, hi, hz0, hz1, hz2⟩ := info_parts Tryz.infoB
  have HZ : Hid (Pl.zz n < 18446744073709551616) := Pl.zz_lt n h0 h1
  have HP : Hid (0 ≤ n → n * 2 = ((Pl.zz n : Nat) : Int)) := fun h => by unfold Pl.zz; rw [if_pos h]; omega
  rcases (show n < 0 ∨ 0 ≤ n by omega) with hn | hn
  · have e1 := ref_neg n h0 hn
    go_enter Tryz.func74, Tryz.ntmps74
    go_wp2
    go_loopw [3, 4] (fun x v wr => ∃ (pre : List UInt8) (y f : Nat), x = .int .u64 y ∧ y < 2 ^ (7 * f + 1) ∧ f ≤ 9 ∧ Pl.enc (Pl.zz n) = pre ++ Pl.encF f y ∧
        wr.ownsRow w.heap.size 5 1 v pre.length (bc pre) ∧ Below w.heap.size w wr ∧ pre.length ≤ 9 - f)
      (fun x _ _ => (intOf x).toNat)
    case atStart => exact ⟨[], Pl.zz n, 9, rfl, by simpa using HZ.out, by omega, rfl, World.ownsRow_nil _ _ _ _, Below.refl _ _, by simp⟩
    case round =>
      obtain ⟨pre, y, f, rfl, hy, hf, he, hown', hbel, hpl⟩ := hrel
      have hsz := hbel.size
      by_cases hlt : 128 ≤ y
      · obtain ⟨f, rfl⟩ : ∃ f', f = f' + 1 := ⟨f - 1, by cases f with | zero => simp at hy; omega | succ f => omega⟩
        have he' : Pl.enc (Pl.zz n) = (pre ++ [UInt8.ofNat (y % 128 + 128)]) ++ Pl.encF f (y / 128) := by
          rw [he]; conv => lhs; unfold Pl.encF
          rw [if_neg (by omega)]; simp
        have hy' : y / 128 < 2 ^ (7 * f + 1) := by
          rw [show 7 * (f + 1) + 1 = (7 * f + 1) + 7 from by omega, Nat.pow_add] at hy; omega
        have HE := hide he'
        have HY := hide hy'
        clear he he' hy hy'
        go_wp2_with (at_builtin; refine wpList_append_own _ rfl (.tmp 14) (.tmp 18) 114 rfl w.heap.size 5 i0 (.int .u8 0) 1 1 Tryz.underlying114 hi hz0 hz1 hz2 rfl (by decide) _ _ _ rfl (hown'.alloc _) ⟨wr.heap.size, 0, none⟩ 1 1 (bc [UInt8.ofNat (y % 128 + 128)]) rfl rfl ?c1 (bc_one _) ?c3 ?c4 ?c5 ?_)
        case c1 =>
          intro j x hj
          match j, hj with
          | 0, hj => simp [bc] at hj; subst hj; simp [Addr.add_lit, or128]
        case c3 => unfold maxLen; omega
        case c4 => omega
        case c5 => simp; omega
        intro v2 w2 hown2 hgrow2 _
        have hb2 : Below w.heap.size w w2 := (hbel.alloc hsz _).grown hgrow2 (by simp; omega) (fun k hk => (hown'.lt k hk).1)
        rw [← bc_append] at hown2
        clear hgrow2 hown' hbel
        go_wp2
        go_roundw
        case rel => exact ⟨pre ++ [UInt8.ofNat (y % 128 + 128)], y / 128, f, by go_num, HY.out, by omega, HE.out, by simpa using hown2, hb2, by simp; omega⟩
        case measure => simp [intOf]; omega
      · have HE : Hid (Pl.enc (Pl.zz n) = pre ++ [UInt8.ofNat y]) := by rw [he, Pl.encF_small f y (by omega)]; rfl
        clear hy he
        go_wp2_with (at_builtin; refine wpList_append_own _ rfl (.tmp 22) (.tmp 25) 114 rfl w.heap.size 5 i0 (.int .u8 0) 1 1 Tryz.underlying114 hi hz0 hz1 hz2 rfl (by decide) _ _ _ rfl (hown'.alloc _) ⟨wr.heap.size, 0, none⟩ 1 1 (bc [UInt8.ofNat y]) rfl rfl ?c1 (bc_one _) ?c3 ?c4 ?c5 ?_)
        case c1 =>
          intro j x hj
          match j, hj with
          | 0, hj => simp [bc] at hj; subst hj; simp [Addr.add_lit]; omega
        case c3 => unfold maxLen; omega
        case c4 => omega
        case c5 => simp; omega
        intro v2 w2 hown2 hgrow2 _
        have hb2 : Below w.heap.size w w2 := (hbel.alloc hsz _).grown hgrow2 (by simp; omega) (fun k hk => (hown'.lt k hk).1)
        rw [← bc_append] at hown2
        clear hgrow2 hown' hbel
        go_wp2
        go_ret
        have e : pre.length + 1 = (pre ++ [UInt8.ofNat y]).length := by simp
        rw [e, ← HE.out] at hown2
        exact ⟨v2, rfl, hown2, hb2⟩
  · go_enter Tryz.func74, Tryz.ntmps74
    go_wp2
    go_loopw [3, 4] (fun x v wr => ∃ (pre : List UInt8) (y f : Nat), x = .int .u64 y ∧ y < 2 ^ (7 * f + 1) ∧ f ≤ 9 ∧ Pl.enc (Pl.zz n) = pre ++ Pl.encF f y ∧
        wr.ownsRow w.heap.size 5 1 v pre.length (bc pre) ∧ Below w.heap.size w wr ∧ pre.length ≤ 9 - f)
      (fun x _ _ => (intOf x).toNat)
    case atStart => exact ⟨[], Pl.zz n, 9, congrArg (Value.int .u64) (HP.out hn), by simpa using HZ.out, by omega, rfl, World.ownsRow_nil _ _ _ _, Below.refl _ _, by simp⟩
    case round =>
      obtain ⟨pre, y, f, rfl, hy, hf, he, hown', hbel, hpl⟩ := hrel
      have hsz := hbel.size
      by_cases hlt : 128 ≤ y
      · obtain ⟨f, rfl⟩ : ∃ f', f = f' + 1 := ⟨f - 1, by cases f with | zero => simp at hy; omega | succ f => omega⟩
        have he' : Pl.enc (Pl.zz n) = (pre ++ [UInt8.ofNat (y % 128 + 128)]) ++ Pl.encF f (y / 128) := by
          rw [he]; conv => lhs; unfold Pl.encF
          rw [if_neg (by omega)]; simp
        have hy' : y / 128 < 2 ^ (7 * f + 1) := by
          rw [show 7 * (f + 1) + 1 = (7 * f + 1) + 7 from by omega, Nat.pow_add] at hy; omega
        have HE := hide he'
        have HY := hide hy'
        clear he he' hy hy'
        go_wp2_with (at_builtin; refine wpList_append_own _ rfl (.tmp 14) (.tmp 18) 114 rfl w.heap.size 5 i0 (.int .u8 0) 1 1 Tryz.underlying114 hi hz0 hz1 hz2 rfl (by decide) _ _ _ rfl (hown'.alloc _) ⟨wr.heap.size, 0, none⟩ 1 1 (bc [UInt8.ofNat (y % 128 + 128)]) rfl rfl ?c1 (bc_one _) ?c3 ?c4 ?c5 ?_)
        case c1 =>
          intro j x hj
          match j, hj with
          | 0, hj => simp [bc] at hj; subst hj; simp [Addr.add_lit, or128]
        case c3 => unfold maxLen; omega
        case c4 => omega
        case c5 => simp; omega
        intro v2 w2 hown2 hgrow2 _
        have hb2 : Below w.heap.size w w2 := (hbel.alloc hsz _).grown hgrow2 (by simp; omega) (fun k hk => (hown'.lt k hk).1)
        rw [← bc_append] at hown2
        clear hgrow2 hown' hbel
        go_wp2
        go_roundw
        case rel => exact ⟨pre ++ [UInt8.ofNat (y % 128 + 128)], y / 128, f, by go_num, HY.out, by omega, HE.out, by simpa using hown2, hb2, by simp; omega⟩
        case measure => simp [intOf]; omega
      · have HE : Hid (Pl.enc (Pl.zz n) = pre ++ [UInt8.ofNat y]) := by rw [he, Pl.encF_small f y (by omega)]; rfl
        clear hy he
        go_wp2_with (at_builtin; refine wpList_append_own _ rfl (.tmp 22) (.tmp 25) 114 rfl w.heap.size 5 i0 (.int .u8 0) 1 1 Tryz.underlying114 hi hz0 hz1 hz2 rfl (by decide) _ _ _ rfl (hown'.alloc _) ⟨wr.heap.size, 0, none⟩ 1 1 (bc [UInt8.ofNat y]) rfl rfl ?c1 (bc_one _) ?c3 ?c4 ?c5 ?_)
        case c1 =>
          intro j x hj
          match j, hj with
          | 0, hj => simp [bc] at hj; subst hj; simp [Addr.add_lit]; omega
        case c3 => unfold maxLen; omega
        case c4 => omega
        case c5 => simp; omega
        intro v2 w2 hown2 hgrow2 _
        have hb2 : Below w.heap.size w w2 := (hbel.alloc hsz _).grown hgrow2 (by simp; omega) (fun k hk => (hown'.lt k hk).1)
        rw [← bc_append] at hown2
        clear hgrow2 hown' hbel
        go_wp2
        go_ret
        have e : pre.length + 1 = (pre ++ [UInt8.ofNat y]).length := by simp
        rw [e, ← HE.out] at hown2
        exact ⟨v2, rfl, hown2, hb2⟩

set_option maxRecDepth 20000 in
set_option maxHeartbeats 400000 in
theorem refText_any (w : World) (s : ByteArray) (hs : s.size ≤ 140737488355318) :
    Calls Tryz.prog 75 #[.string s] w fun e w' => ∃ v, e = .returned v ∧ w'.ownsRow w.heap.size 5 1 v (txt s.data.toList).length (bc (txt s.data.toList)) ∧ Below w.heap.size w w' := by
  obtain ⟨i0, hi, hz0, hz1, hz2⟩ := info_parts Tryz.infoB
  have hnl := num_length s.size
  go_enter Tryz.func75, Tryz.ntmps75
  go_wp2_with fail
  refine (refInt_any _ _ (by omega) (by omega)).mono ?_
  rintro e w1 ⟨v, rfl, hown, hb⟩
  generalize hq : (num s.size).length = q at hown hnl
  have HQ := hide hq
  clear hq
  have hz := hb.size
  go_wp2_with (at_builtin; refine Lib.wpList_append_own_string _ rfl _ _ 114 9 rfl w.heap.size 5 i0 Tryz.underlying114 Tryz.underlying9 hi hz0 hz1 hz2 v q (bc (num s.size)) rfl hown s rfl (by unfold maxLen; omega) (by omega) hz ?_; intro v2 w2 hown2 hgrow2 _)
  go_ret
  have e : Lib.strCells s = bc s.data.toList := rfl
  rw [e, ← bc_append] at hown2
  have e2 : q + s.size = (txt s.data.toList).length := by rw [← HQ.out]; unfold txt; simp
  have e3 : num (s.size : Int) ++ s.data.toList = txt s.data.toList := by unfold txt; simp
  rw [e2, e3] at hown2
  exact ⟨v2, rfl, hown2, hb.grown hgrow2 hz (fun k hk => (hown.lt k hk).1)⟩
end Go.Proofs.YtfeffaeinggiiaaGreatDoor

/-
  Plain facts on the document's way to read a number: the first so many bytes that are their own number's bytes are what is read. No condition.
-/
namespace Go.Proofs.YtfeffaeinggiiaaGreatDoor.Pl

/-- What the first bytes say, seven bits each. -/
def val (l : List UInt8) : Nat → Nat
  | 0 => 0
  | i + 1 => val l i ||| ((l.getD i 0).toNat % 128 * 2 ^ (7 * i)) % 18446744073709551616

theorem val_lt (l : List UInt8) : ∀ i, val l i < 18446744073709551616
  | 0 => by simp [val]
  | i + 1 => by
    have h1 := val_lt l i
    unfold val
    exact Nat.or_lt_two_pow (n := 64) h1 (Nat.mod_lt _ (by decide))

theorem val_small (l : List UInt8) : ∀ i, i ≤ 9 → val l i < 2 ^ (7 * i)
  | 0, _ => by simp [val]
  | i + 1, h => by
    have h1 := val_small l i (by omega)
    have hc : (l.getD i 0).toNat % 128 < 128 := Nat.mod_lt _ (by decide)
    have h2 : (l.getD i 0).toNat % 128 * 2 ^ (7 * i) < 2 ^ (7 * (i + 1)) := by
      rw [p7]; exact Nat.mul_lt_mul_of_pos_right hc (Nat.two_pow_pos _)
    have h3 : (2 : Nat) ^ (7 * i) ≤ 2 ^ (7 * (i + 1)) := Nat.pow_le_pow_right (by omega) (by omega)
    unfold val
    exact Nat.or_lt_two_pow (by omega) (Nat.lt_of_le_of_lt (Nat.mod_le _ _) h2)

theorem val_add (l : List UInt8) (i c : Nat) (hi : i ≤ 9) (hc : (l.getD i 0).toNat % 128 = c) (hlt : c * 2 ^ (7 * i) < 18446744073709551616) : val l (i + 1) = val l i + c * 2 ^ (7 * i) := by
  have h1 := val_small l i hi
  conv => lhs; unfold val
  rw [hc, Nat.mod_eq_of_lt hlt, Nat.or_comm, Nat.mul_comm c, ← Nat.two_pow_add_eq_or_of_lt h1 c, Nat.add_comm]

theorem dec_val (l : List UInt8) : ∀ (m k u c : Nat), l.length - k = m → k ≤ 9 → dec (l.drop k) k (val l k) = some (u, c) → val l c = u := by
  intro m
  induction m with
  | zero =>
    intro k u c hm hk h
    rw [List.drop_eq_nil_of_le (by omega)] at h
    simp [dec] at h
  | succ m ih =>
    intro k u c hm hk h
    have hkl : k < l.length := by omega
    rw [List.drop_eq_getElem_cons hkl] at h
    have hg : l.getD k 0 = l[k] := by simp [List.getD, List.getElem?_eq_getElem hkl]
    have hb : l[k].toNat < 256 := l[k].toNat_lt
    simp only [dec] at h
    split at h
    · cases h
    split at h
    · cases h
    split at h
    · rename_i h1 h2 h3
      simp only [Option.some.injEq, Prod.mk.injEq] at h
      rw [← h.1, ← h.2]
      refine val_add l k _ hk (by rw [hg]; exact Nat.mod_eq_of_lt h3) ?_
      by_cases e : k = 9
      · have e2 : (2 : Nat) ^ (7 * k) = 9223372036854775808 := by rw [e]
        have h1' : l[k].toNat ≤ 1 := by omega
        rw [e2]
        omega
      · have : (2 : Nat) ^ (7 * k) ≤ 2 ^ 56 := Nat.pow_le_pow_right (by omega) (by omega)
        have e3 : (2 : Nat) ^ 56 = 72057594037927936 := by decide
        rw [e3] at this
        have := Nat.mul_le_mul (show l[k].toNat ≤ 127 by omega) this
        omega
    · rename_i h1 h2 h3
      have hk8 : k ≤ 8 := by omega
      have : (2 : Nat) ^ (7 * k) ≤ 2 ^ 56 := Nat.pow_le_pow_right (by omega) (by omega)
      have e3 : (2 : Nat) ^ 56 = 72057594037927936 := by decide
      rw [e3] at this
      have := Nat.mul_le_mul (show l[k].toNat - 128 ≤ 127 by omega) this
      rw [← val_add l k (l[k].toNat - 128) hk (by rw [hg]; omega) (by omega)] at h
      exact ih (k + 1) u c (by omega) (by omega) h

/-- What is read is met at its own length. -/
theorem dec_hit {l : List UInt8} {u c : Nat} (h : dec l 0 0 = some (u, c)) : val l c = u ∧ enc (val l c) = l.take c := by
  have h1 := dec_val l l.length 0 u c (by omega) (by omega) (by simpa [val] using h)
  refine ⟨h1, ?_⟩
  rw [h1, (dec_take h).2.2.1]
/-- What is met is what is read. -/
theorem hit_dec {l : List UInt8} {k : Nat} (hk : k ≤ l.length) (h : enc (val l k) = l.take k) : dec l 0 0 = some (val l k, k) := by
  have h1 := dec_enc (val l k) (l.drop k) (val_lt l k)
  rw [h, List.take_append_drop] at h1
  rw [h1]
  simp; omega
end Go.Proofs.YtfeffaeinggiiaaGreatDoor.Pl
