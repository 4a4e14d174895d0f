/-
  For the law's does. Conditions: as it says.
-/
import Derived.Test.YtlejgdjkdbamkaaTwo
namespace Go.Proofs.Ytlejgdjkdbamkaa
open Go.RowKit
theorem byte_of (t : Int) : ∃ bt : UInt8, IntKind.u8.wrap t = (bt.toNat : Int) := by
  refine ⟨UInt8.ofNat (t % 256).toNat, ?_⟩
  have h0 : 0 ≤ t % 256 := Int.emod_nonneg _ (by decide)
  have h1 : t % 256 < 256 := Int.emod_lt_of_pos _ (by decide)
  rw [UInt8.toNat_ofNat_of_lt' (by show _ < 256; omega)]
  rw [show IntKind.u8.wrap t = t % 256 from by rw [IntKind.wrap_u8]]
  omega
theorem own_max {w : World} {base n size : Nat} {e : TypeId} {v : Value} {xs : List Value} (h : w.ownsRow base e size v n xs) : n ≤ 9223372036854775807 := by
  rcases h.2 with ⟨_, hn⟩ | ⟨g', cap', cur, hv, _, _, hc, hm, _⟩
  · omega
  · unfold maxLen at hm
    omega
/-- append([]byte(nil), b...). -/
theorem run_copyB (w : World) {v : Value} {l : List UInt8} (h : Sl w v l) (hl : l.length ≤ 140737488355328) : ∃ v' w', (Builtin.append_ #[33, 33] 33 #[.slice none 0 0, v]).run Try.prog w = .ok v' w' ∧ w'.ownsRow w.heap.size 5 1 v' l.length (bc l) ∧ Chg (fun _ => False) w w' := by
  obtain ⟨i0, hi, hz0, hz1, hz2⟩ := info_parts Try.info5
  by_cases he : l = []
  · subst he
    obtain ⟨ao, cap, rfl, h1, h2, h3, -⟩ := h
    cases ao with
    | none =>
      refine ⟨_, w, run_append_nothing w _ _ _ _ i0 Try.underlying33 hi none 0 0 (Nat.le_refl _) _ ?_, World.ownsRow_nil _ _ _ _, Chg.refl _ _⟩
      rw [hz1]
      exact Src.ofNil w Try.underlying33 cap
    | some a =>
      obtain ⟨v', w', hr, ho, hg, _, _⟩ := run_append_own_at (P := Try.prog) w w.heap.size 33 33 5 i0 (.int .u8 0) 1 1 Try.underlying33 hi hz0 hz1 hz2 rfl (by decide) (.slice none 0 0) 0 [] (World.ownsRow_nil _ _ _ _) a 0 cap [] rfl (fun j u hu => by cases hu) (fun u hu => by cases hu) (by unfold maxLen; omega) (by omega) (Nat.le_refl _)
      exact ⟨v', w', hr, ho, (Chg.of_grown hg).mono fun k _ e => by cases e⟩
  · obtain ⟨b, off, cap, rfl, hb, hc⟩ := h.some he
    obtain ⟨v', w', hr, ho, hg, _, _⟩ := run_append_own_at (P := Try.prog) w w.heap.size 33 33 5 i0 (.int .u8 0) 1 1 Try.underlying33 hi hz0 hz1 hz2 rfl (by decide) (.slice none 0 0) 0 [] (World.ownsRow_nil _ _ _ _) ⟨b, off, none⟩ l.length cap (bc l) (by rw [bc_length, Nat.mul_one]) (fun j u hu => by rw [Addr.add_lit]; exact hc j u hu) (bc_one l) (by unfold maxLen; omega) (by omega) (Nat.le_refl _)
    rw [Nat.zero_add, List.nil_append] at ho
    exact ⟨v', w', hr, ho, (Chg.of_grown hg).mono fun k _ e => by cases e⟩
theorem infoInt : (Try.prog.info? 3).map (fun i => (i.zero, i.size, i.bytes)) = some (some (.int .i64 0), 1, 8) := by kernel_rfl
theorem RR.failsNew {B r : Nat} {w w' : World} {R : Nat → Prop} {S : Dk} {G : Rg} {lv : Value} {n1 n2 : Int} (h : RR B w R r S G) (hc : Chg (fun _ => False) w w') (hrow : w'.ownsRow B 3 1 lv (G.ks.length + 2) (ic G.ks ++ [.int .i64 n1, .int .i64 n2])) (hR : ∀ k, lv.ownBlock = some k → w.heap.size ≤ k) :
    RR B (w'.setCell ⟨r, 8, none⟩ lv) (Fx R w (w'.setCell ⟨r, 8, none⟩ lv)) r (S.failAt [n1, n2]) { G with lv := lv, ks := G.ks ++ [n1, n2] } ∧ Chg (· = r) w (w'.setCell ⟨r, 8, none⟩ lv) := by
  have h1 := h.keep hc (fun _ _ h => h)
  have hcs := chg_set w' r 8 lv
  have hca : Chg (· = r) w (w'.setCell ⟨r, 8, none⟩ lv) := (hc.mono fun _ _ h => h.elim).then hcs
  have hB : B ≤ w.heap.size := by have := h.low _ h.self; omega
  have hrow' := own_keep hrow hcs (fun k hk e => by
    obtain ⟨cur, hcur⟩ := own_block hrow hk
    exact ne_tag hcur h1.blk (show 3 ≠ 72 by decide) e)
  refine ⟨⟨heap_set h1.blk 8 _, Or.inl h.self, own_keep h.fls hca h.neF, fun k hk => Or.inl (h.flsR k hk), own_keep h.dir hca h.neD, fun k hk => Or.inl (h.dirR k hk), own_keep h.sur hca h.neS, fun k hk => Or.inl (h.surR k hk), own_keep h.act hca h.neA, fun k hk => Or.inl (h.actR k hk), ?_, fun k hk => Or.inr ⟨hR k hk, (own_lt hrow' k hk).2⟩, fun k hk => ?_, fun k => ?_, h.off, h.cut⟩, hca⟩
  · show World.ownsRow _ B _ 1 lv (G.ks ++ [n1, n2]).length (ic (G.ks ++ [n1, n2]))
    rw [List.length_append, ic, List.map_append]
    exact hrow'
  · rcases hk with hk | hk
    · exact ⟨(h.low k hk).1, Nat.lt_of_lt_of_le (h.low k hk).2 hca.size⟩
    · exact ⟨by omega, hk.2⟩
  · show (S.fails k || [n1, n2].contains (k : Int)) = (G.ks ++ [n1, n2]).contains (k : Int)
    rw [h.fails k, List.contains_append]
theorem nmd_len {s : Nm} {c : Int} (h : s.length < 4611686018427387904) : (nmd s c).length < 4611686018427387904 := by
  unfold nmd fourN
  repeat' split
  all_goals first | exact h | decide
theorem bulk_turn (S : Dk) (n : Nm) (a : Int) (b : UInt8) : (S.turn n a b).1.bulk ≤ S.bulk := by
  unfold Dk.turn
  split
  · exact Nat.le_refl _
  · split
    · exact Nat.le_refl _
    · rename_i f _ _
      unfold Dk.bulk
      have := bulk_modify_b S.files f (fun x : Fl => { x with b := x.b.modify a.toNat (· ^^^ b) }) 0 (fun x => by simp)
      simp only [List.length_modify]
      omega
def opv (o : Oq) (u : Value) : Array Value := #[.int .i64 o.kind, .string (strB o.name), .string (strB o.to), u, .int .i64 o.n, .int .i64 o.torn]
end Go.Proofs.Ytlejgdjkdbamkaa
