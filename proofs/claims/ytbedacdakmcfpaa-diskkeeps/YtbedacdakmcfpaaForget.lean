/-
  What letting go of bytes does: forget. Conditions: what lies there is told by hypotheses.
-/
import Derived.Test.YtbedacdakmcfpaaRenameOk
namespace Go.Proofs.Ytbedacdakmcfpaa
open Go.RowKit

/-- A file that has no name, and loose acts. -/
def Bare (w : World) (vs : List (Value × Value)) (k : Nat) : Prop := (∃ p ∈ vs, p.1 = .pointer (some ⟨k, 0, none⟩)) ∧ ∃ r s, w.heap[k]? = some (.cells #[r, s, .bool false] 95)
/-- Files keep all but their bytes. -/
def Shaped (w w' : World) : Prop := ∀ (k : Nat) (r s : Value) (nm : Bool), w.heap[k]? = some (.cells #[r, s, .bool nm] 95) → ∃ r', w'.heap[k]? = some (.cells #[r', s, .bool nm] 95)
theorem not_bare {w : World} {vs : List (Value × Value)} {k : Nat} {o : Obj} (h : w.heap[k]? = some o) (ht : tag o ≠ 95) : ¬ Bare w vs k := fun ⟨_, _, _, hb⟩ => ne_tag h hb ht rfl

set_option maxRecDepth 20000 in
set_option maxHeartbeats 400000 in
theorem forget_any (w : World) (d n : Nat) (r u o1 o2 lv o4 c1 c2 fl : Value) (vs : List (Value × Value)) (hd : w.heap[d]? = some (.cells #[r, u, o1, o2, lv, o4, c1, c2, fl] 66)) (hn : vs.length = n) (hrow : w.ownsRow 0 104 2 lv n (vc vs)) (hb : n < 1099511627776)
    (hp : ∀ p ∈ vs, ∃ b r s, ∃ nm : Bool, p.1 = .pointer (some ⟨b, 0, none⟩) ∧ w.heap[b]? = some (.cells #[r, s, .bool nm] 95)) (hfn : ∀ p ∈ vs, ∃ fn fs cs, p.2 = .func fn fs cs) :
    Calls Try.prog 73 #[.pointer (some ⟨d, 0, none⟩)] w fun e w' => e = .returned (.tuple #[]) ∧ Chg (Bare w vs) w w' ∧ Shaped w w' := by
  obtain ⟨a, cap, rfl⟩ := own_shape hrow
  have hdl := cell_of hd 4
  have hrn : ∀ k, (Value.slice a n cap).ownBlock = some k → ¬ Bare w vs k := fun k hk => by
    obtain ⟨cur, hcur⟩ := own_block hrow hk
    exact not_bare hcur (show 104 ≠ 95 by decide)
  go_enter Try.func73, Try.ntmps73
  go_wp2_with fail
  go_loopw [9] (fun x wr => ∃ k : Nat, k ≤ n ∧ x = .int .i64 (k : Int) ∧ Chg (Bare w vs) w wr ∧ Shaped w wr) (fun x _ => n - (intOf x).toNat)
  case atStart => exact ⟨0, Nat.zero_le _, rfl, Chg.refl _ _, fun k r s nm h => ⟨r, h⟩⟩
  case round =>
    obtain ⟨k, hk, rfl, hc, hsh⟩ := hrel
    by_cases hlt : k < n
    · obtain ⟨p, hpk⟩ : ∃ p, vs[k]? = some p := ⟨_, List.getElem?_eq_getElem (by omega)⟩
      obtain ⟨o, v⟩ := p
      have hpm := List.mem_of_getElem? hpk
      have hrr := own_keep hrow hc hrn
      obtain ⟨g, hg⟩ : ∃ g, a = some ⟨g, 0, none⟩ := by
        rcases hrr.2 with ⟨e1, e2⟩ | ⟨g, cap, cur, e1, _⟩
        · omega
        · injection e1 with e1
          exact ⟨g, e1⟩
      subst hg
      have x0 := hrr.cellAt (k * 2) (by omega)
      have x1 := hrr.cellAt (k * 2 + 1) (by omega)
      rw [(vc_get hpk).1] at x0
      rw [(vc_get hpk).2] at x1
      obtain ⟨b, r0, s0, nm, hpo, hfb⟩ := hp _ hpm
      obtain ⟨fn, fs, fc, hfv⟩ := hfn _ hpm
      simp only at hpo hfv
      subst hpo hfv
      obtain ⟨r1, hf1⟩ := hsh b r0 s0 nm hfb
      have hf2 := heap_past (.cells #[.pointer (some ⟨b, 0, none⟩), .func fn fs fc] 104) hf1
      have y2 := cell_of hf2 2
      have y0 := cell_of hf2 0
      have t2 := thawed hf2 0
      have HSH := hide hsh
      have HC := hide hc
      have HPP := hide hp
      have HRN := hide hrn
      clear hsh hrr hp hc hrn hdl
      cases nm with
      | true =>
        go_wp2_with fail
        go_roundw
        case rel => exact ⟨k + 1, by omega, by go_num, HC.out.alloc _, fun j r s nm h => by
          obtain ⟨r', hr'⟩ := HSH.out j r s nm h
          exact ⟨r', heap_past _ hr'⟩⟩
        case measure => simp [intOf]; omega
      | false =>
        go_wp2_with fail
        go_roundw
        case rel =>
          refine ⟨k + 1, by omega, by go_num, (HC.out.alloc _).setCell (p := ⟨b, 0, none⟩) (Or.inl ⟨⟨_, hpm, rfl⟩, r0, s0, hfb⟩) _, fun j r s nm h => ?_⟩
          obtain ⟨r', hr'⟩ := HSH.out j r s nm h
          have hr2 := heap_past (.cells #[.pointer (some ⟨b, 0, none⟩), .func fn fs fc] 104) hr'
          by_cases e : j = b
          · subst e
            exact ⟨_, heap_set hr2 0 _⟩
          · exact ⟨r', heap_set_other hr2 e⟩
        case measure => simp [intOf]; omega
    · have hkn : k = n := by omega
      clear hp
      go_wp2
      go_end0
      exact ⟨rfl, hc, hsh⟩
end Go.Proofs.Ytbedacdakmcfpaa
