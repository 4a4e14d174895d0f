/-
  The reference's Crash, its parts. Conditions: as it says.
-/
import Derived.Test.YtlejgdjkdbamkaaRefTurn
import Derived.Test.YtlejgdjkdbamkaaJCrash
import Derived.Deep.Upon
namespace Go.Proofs.Ytlejgdjkdbamkaa
open Go.RowKit

def upF (files : List Fl) (cs : List Ac) : List Fl := files.mapIdx fun i x => ⟨x.b, x.sure + moreSum cs i⟩
theorem upF_length (files : List Fl) (cs : List Ac) : (upF files cs).length = files.length := by simp [upF]
theorem upF_nil (files : List Fl) : upF files [] = files := by
  apply List.ext_getElem (by simp [upF])
  intro i h1 h2
  simp [upF, moreSum]
theorem upF_more (files : List Fl) (cs : List Ac) (f k : Nat) : upF files (cs ++ [.more f k]) = (upF files cs).modify f fun x => { x with sure := x.sure + k } := by
  apply List.ext_getElem (by simp [upF])
  intro i h1 h2
  simp only [upF, List.getElem_mapIdx, List.getElem_modify, moreSum_append]
  by_cases e : f = i
  · subst e
    rw [if_pos rfl, moreSum_self]
    simp only [Fl.mk.injEq, true_and]
    omega
  · rw [if_neg e, moreSum_other (fun h => e h.symm)]
    simp
theorem moreSum_dir {a : Ac} (h : isMore a = false) (i : Nat) : moreSum [a] i = 0 := by
  cases a <;> simp [isMore] at h <;> rfl
theorem upF_dir (files : List Fl) (cs : List Ac) {a : Ac} (h : isMore a = false) : upF files (cs ++ [a]) = upF files cs := by
  apply List.ext_getElem (by simp [upF])
  intro i h1 h2
  simp [upF, moreSum_append, moreSum_dir h]
/-- The reference's new disk, half laid. -/
def Dk.half (S : Dk) (files : List Fl) (sure : Dir) : Dk := { files := files, dir := [], sure := sure, acts := [], room := S.room, n := 0, cut := none, fails := fun _ => false }
theorem ac_kind {a : Ac} (h : isMore a = false) : ∃ q0 q1 q2 q3 q4, ac a = [.int .i64 q0, .string q1, .string q2, .int .i64 q3, .int .i64 q4] ∧ q0 ≠ 3 := by
  cases a with
  | more f k => cases h
  | made n f => exact ⟨_, _, _, _, _, rfl, by decide⟩
  | ren x y => exact ⟨_, _, _, _, _, rfl, by decide⟩
  | rem n => exact ⟨_, _, _, _, _, rfl, by decide⟩
theorem can_at {l : Dir} {cs : List Ac} (h : Valid l cs) {j : Nat} (hj : j < cs.length) : canD (appD l (cs.take j)) cs[j] := by
  rw [← List.take_append_drop j cs, valid_append, List.drop_eq_getElem_cons hj] at h
  exact h.2.1
theorem app_len : ∀ (cs : List Ac) (l : Dir), (appD l cs).length ≤ l.length + cs.length
  | [], l => by simp [appD]
  | a :: r, l => by
    have h1 := app_len r (doneD l a)
    have h2 : (doneD l a).length ≤ l.length + 1 := by
      cases a with
      | made n f => show (ins n f l).length ≤ _; rw [ins_length]; omega
      | ren x y =>
        simp only [doneD]
        split
        · rw [ins_length]
          have := del_len y (del x l)
          have := del_len x l
          omega
        · omega
      | rem n => have := del_len n l; show (del n l).length ≤ _; omega
      | more f k => show l.length ≤ _; omega
    show (appD (doneD l a) r).length ≤ _
    simp
    omega
/-- append(nil, row...). -/
theorem run_copy {e : TypeId} {size bytes n : Nat} {z : Value} {v : Value} {xs : List Value} {B : Nat} (w : World) (t ty : TypeId) (i : TypeInfo) (ht : Try.prog.underlying t = some (.slice e)) (hi : Try.prog.info? e = some i) (hz : i.zero = some z)
    (hsize : i.size = size) (hby : i.bytes = bytes) (hzs : z.cells.size = size) (hsz : 0 < size) (h : w.ownsRow B e size v n xs) (h1 : ∀ u ∈ xs, u.oneCell' = true) (h63 : n ≤ maxLen) (hbytes : n * bytes ≤ 140737488355328) :
    ∃ v' w', (Builtin.append_ #[t, t] ty #[.slice none 0 0, v]).run Try.prog w = .ok v' w' ∧ w'.ownsRow w.heap.size e size v' n xs ∧ Chg (fun _ => False) w w' := by
  have h0 := h
  rcases h.2 with ⟨hv, hn⟩ | ⟨g, cap', cur, hv, -⟩
  · subst hv hn
    have hxs : xs = [] := List.eq_nil_of_length_eq_zero (by rw [h.1]; omega)
    subst hxs
    refine ⟨_, w, run_append_nothing w t t ty e i ht hi none 0 0 (Nat.le_refl _) (.slice none 0 0) ?_, World.ownsRow_nil _ _ _ _, Chg.refl _ _⟩
    rw [hsize]
    exact Src.ofNil w ht 0
  · subst hv
    obtain ⟨v', w', hr, ho, hg, _, _⟩ := run_append_own_at (P := Try.prog) w w.heap.size t ty e i z size bytes ht hi hz hsize hby hzs hsz (.slice none 0 0) 0 [] (World.ownsRow_nil _ _ _ _) ⟨g, 0, none⟩ n cap' xs h.1 (World.ownsRow.cells h0 rfl) h1 (by omega) (by simpa using hbytes) (Nat.le_refl _)
    rw [Nat.zero_add, List.nil_append] at ho
    exact ⟨v', w', hr, ho, (Chg.of_grown hg).mono fun k _ e => by cases e⟩
theorem fc_one : ∀ (l : List Fl), ∀ u ∈ fc l, u.oneCell' = true
  | [], u, hu => by cases hu
  | x :: r, u, hu => by
    simp only [fc, List.mem_cons] at hu
    rcases hu with rfl | rfl | hu
    · rfl
    · rfl
    · exact fc_one r u hu
section
variable {B r : Nat} {w w' : World} {R : Nat → Prop} {S : Dk} {G : Rg}
theorem RR.sures {sv : Value} {l : Dir} (h : RR B w R r S G) (hc : Chg (fun _ => False) w w') (hrow : w'.ownsRow B 78 2 sv l.length (nc l)) (hR : ∀ k, sv.ownBlock = some k → R k ∨ w.heap.size ≤ k) :
    RR B (w'.setCell ⟨r, 2, none⟩ sv) (Fx R w (w'.setCell ⟨r, 2, none⟩ sv)) r { S with sure := l } { G with sv := sv } ∧ Chg (· = r) w (w'.setCell ⟨r, 2, none⟩ sv) := by
  have h1 := h.keep hc (fun _ _ h => h)
  have hcs := chg_set w' r 2 sv
  have hca : Chg (· = r) w (w'.setCell ⟨r, 2, none⟩ sv) := (hc.mono fun _ _ h => h.elim).then hcs
  refine ⟨h.newRows hca (heap_set h1.blk 2 _) ⟨rfl, rfl⟩ (own_keep h.dir hca h.neD) (fun k hk => Or.inl (h.dirR k hk)) ?_ hR (own_keep h.act hca h.neA) (fun k hk => Or.inl (h.actR k hk)) ⟨rfl, rfl, rfl⟩ h.off h.cut, hca⟩
  refine own_keep hrow hcs (fun k hk e => ?_)
  obtain ⟨cur, hcur⟩ := own_block hrow hk
  exact ne_tag hcur h1.blk (show 78 ≠ 72 by decide) e
theorem RR.filesNew {fv : Value} {fl : List Fl} (h : RR B w R r S G) (hc : Chg (fun _ => False) w w') (hrow : w'.ownsRow B 80 2 fv fl.length (fc fl)) (hR : ∀ k, fv.ownBlock = some k → w.heap.size ≤ k) :
    RR B (w'.setCell ⟨r, 0, none⟩ fv) (Fx R w (w'.setCell ⟨r, 0, none⟩ fv)) r { S with files := fl } { G with fv := fv } ∧ Chg (· = r) w (w'.setCell ⟨r, 0, none⟩ fv) := by
  have h1 := h.keep hc (fun _ _ h => h)
  have hcs := chg_set w' r 0 fv
  have hca : Chg (· = r) w (w'.setCell ⟨r, 0, none⟩ fv) := (hc.mono fun _ _ h => h.elim).then hcs
  have hB : B ≤ w.heap.size := by have := h.low _ h.self; omega
  have hrow' := own_keep hrow hcs (fun k hk e => by
    obtain ⟨cur, hcur⟩ := own_block hrow hk
    exact ne_tag hcur h1.blk (show 80 ≠ 72 by decide) e)
  refine ⟨⟨heap_set h1.blk 0 _, Or.inl h.self, hrow', fun k hk => Or.inr ⟨hR k hk, (own_lt hrow' k hk).2⟩, own_keep h.dir hca h.neD, fun k hk => Or.inl (h.dirR k hk), own_keep h.sur hca h.neS, fun k hk => Or.inl (h.surR k hk), own_keep h.act hca h.neA, fun k hk => Or.inl (h.actR k hk), own_keep h.fai hca h.neL, fun k hk => Or.inl (h.faiR k hk), fun k hk => ?_, h.fails, h.off, h.cut⟩, hca⟩
  rcases hk with hk | hk
  · exact ⟨(h.low k hk).1, Nat.lt_of_lt_of_le (h.low k hk).2 hca.size⟩
  · exact ⟨by omega, hk.2⟩
end
end Go.Proofs.Ytlejgdjkdbamkaa
