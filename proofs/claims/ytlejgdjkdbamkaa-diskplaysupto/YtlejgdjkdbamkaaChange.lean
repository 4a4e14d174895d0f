/-
  What changes of the directory and of files do to memory: unname, change, made, extend. Conditions: what lies there is told by hypotheses.
-/
import Derived.Test.YtlejgdjkdbamkaaActs
import Derived.Test.YtlejgdjkdbamkaaSteps
namespace Go.Proofs.Ytlejgdjkdbamkaa
open Go.RowKit

theorem Try.info104 : (Try.prog.info? 104).map (fun i => (i.zero, i.size, i.bytes)) = some (some (.agg #[.pointer none, .nilFunc]), 2, 16) := by kernel_rfl

theorem chg_set (w : World) (d i : Nat) (v : Value) : Chg (· = d) w (w.setCell ⟨d, i, none⟩ v) := (Chg.refl (· = d) w).setCell (p := ⟨d, i, none⟩) (Or.inl rfl) v
theorem own_shape {w : World} {base size n : Nat} {e : TypeId} {v : Value} {xs : List Value} (h : w.ownsRow base e size v n xs) : ∃ a c, v = .slice a n c := by
  rcases h.2 with ⟨rfl, rfl⟩ | ⟨q, cap, cur, rfl, _⟩
  · exact ⟨_, _, rfl⟩
  · exact ⟨_, _, rfl⟩
theorem own_block {w : World} {base size n k : Nat} {e : TypeId} {v : Value} {xs : List Value} (h : w.ownsRow base e size v n xs) (hk : v.ownBlock = some k) : ∃ cur, w.heap[k]? = some (.cells cur e (0, 0)) := by
  rcases h.2 with ⟨rfl, rfl⟩ | ⟨q, cap, cur, rfl, _, hb, _⟩
  · cases hk
  · injection hk with hk
    subst hk
    exact ⟨cur, hb⟩
/-- A row stays while its block is not written. -/
theorem own_keep {F : Nat → Prop} {w w' : World} {base size n : Nat} {e : TypeId} {v : Value} {xs : List Value} (h : w.ownsRow base e size v n xs) (hc : Chg F w w') (hF : ∀ k, v.ownBlock = some k → ¬ F k) : w'.ownsRow base e size v n xs := by
  refine ⟨h.1, ?_⟩
  rcases h.2 with h | ⟨q, cap, cur, rfl, h1, hb, h2⟩
  · exact Or.inl h
  · exact Or.inr ⟨q, cap, cur, rfl, h1, hc.keep hb (hF q rfl), h2⟩

set_option maxRecDepth 20000 in
/-- A file loses its name. -/
theorem unname_any (w : World) (d f n cap : Nat) (a : Option Addr) (r o1 o2 o3 o4 o5 o6 o7 s nm : Value) (used : Int)
    (hd : w.heap[d]? = some (.cells #[r, .int .i64 used, o1, o2, o3, o4, o5, o6, o7] 66)) (hf : w.heap[f]? = some (.cells #[.slice a n cap, s, nm] 95)) (h0 : (n : Int) ≤ used) (h1 : used < 4611686018427387904) :
    Calls Try.prog 41 #[.pointer (some ⟨d, 0, none⟩), .pointer (some ⟨f, 0, none⟩)] w fun e w' => e = .returned (.tuple #[]) ∧
      w'.heap[d]? = some (.cells #[r, .int .i64 (used - n), o1, o2, o3, o4, o5, o6, o7] 66) ∧ w'.heap[f]? = some (.cells #[.slice a n cap, s, .bool false] 95) ∧
      Chg (fun k => k = d ∨ k = f) w w' ∧ w'.heap.size = w.heap.size := by
  have hne : d ≠ f := ne_of_obj hd hf (by intro e; injection e with e1 e2; exact absurd e2 (by decide))
  have c1 := cell_of hd 1
  have f2 := thawed hf 2
  have g1 := heap_set hf 2 (.bool false)
  have gd := heap_set_other (p := ⟨f, 2, none⟩) (u := .bool false) hd hne
  have d1 := cell_of gd 1
  have d0 := cell_of g1 0
  have e1 := thawed gd 1
  have k1 := heap_set gd 1 (.int .i64 (used - n))
  have k2 := heap_set_other (p := ⟨d, 1, none⟩) (u := .int .i64 (used - n)) g1 (fun e => hne e.symm)
  have hc : Chg (fun k => k = d ∨ k = f) w ((w.setCell ⟨f, 2, none⟩ (.bool false)).setCell ⟨d, 1, none⟩ (.int .i64 (used - n))) :=
    ((Chg.refl _ w).setCell (p := ⟨f, 2, none⟩) (Or.inl (Or.inr rfl)) _).setCell (p := ⟨d, 1, none⟩) (Or.inl (Or.inl rfl)) _
  have HK1 := hide k1
  have HK2 := hide k2
  have HC := hide hc.drew
  have hsz : ((w.setCell ⟨f, 2, none⟩ (.bool false)).setCell ⟨d, 1, none⟩ (.int .i64 (used - n))).heap.size = w.heap.size := by simp [World.setCell]
  have HS := hide hsz
  have fr := thawed hf 0
  have cf := cell_of hf 2
  clear k1 k2 hc hsz
  go_enter Try.func41, Try.ntmps41
  go_wp2_with fail
  go_region
  go_wp2
  go_end0
  exact ⟨rfl, HK1.out, HK2.out, HC.out, HS.out⟩

set_option maxRecDepth 20000 in
/-- An act of the directory is done, and laid behind the loose ones: the closure g does it. -/
theorem change_gen (w : World) (d bn n g : Nat) (caps : Array Value) (l l' : List (Value × Value)) (r u s lv o c1 c2 fl : Value) (xs : List Value)
    (hd : w.heap[d]? = some (.cells #[r, u, .map (some bn), s, lv, o, c1, c2, fl] 66)) (hm : MapW w bn l) (hrow : w.ownsRow 0 104 2 lv n xs) (hn : n < 1099511627776)
    (eg : ∀ args w, (callFunc g args).run Try.prog w = .ok (.enter g args) w)
    (hcall : ∀ W, Chg (fun _ => False) w W → Calls Try.prog g (#[.map (some bn)] ++ caps) W fun e w' => e = .returned (.tuple #[]) ∧ MapW w' bn l' ∧ Chg (· = bn) W w') :
    Calls Try.prog 43 #[.pointer (some ⟨d, 0, none⟩), .func (.func g) #[] caps] w fun e w' => e = .returned (.tuple #[]) ∧ ∃ c lv',
      w'.heap[d]? = some (.cells #[r, u, .map (some bn), s, lv', o, c1, c2, fl] 66) ∧ MapW w' bn l' ∧
      w'.ownsRow 0 104 2 lv' (n + 1) (xs ++ [.pointer none, .func (.func 68) #[] #[.pointer (some ⟨c, 0, none⟩)]]) ∧
      w.heap.size ≤ c ∧ w'.heap[c]? = some (.cells #[.func (.func g) #[] caps] 87) ∧
      (lv'.ownBlock = lv.ownBlock ∨ ∃ q, lv'.ownBlock = some q ∧ w.heap.size ≤ q) ∧ Chg (fun k => k = d ∨ k = bn ∨ some k = lv.ownBlock) w w' := by
  have hmf : ∀ (fn : Fn) (first cap : Array Value) (w : World), (Instr.makeFunc fn first cap).run Try.prog w = .ok (.func fn first cap) w := fun _ _ _ _ => rfl
  obtain ⟨i0, hi, hz0, hz1, hz2⟩ := info_parts Try.info104
  have hca : Chg (fun _ => False) w (w.alloc (.cells #[.func (.func g) #[] caps] 87)).drew := ((Chg.refl _ w).alloc _).drew
  have hd0 := hca.keep hd (fun h => h)
  have hq0 : (w.alloc (.cells #[.func (.func g) #[] caps] 87)).drew.heap[w.heap.size]? = some (.cells #[.func (.func g) #[] caps] 87) := heap_last w _
  have x2 := cell_of hd0 2
  have x0 := cell_of hq0 0
  have hcl := hcall _ hca
  have hdb : d ≠ bn := hm.ne hd
  have hcb : w.heap.size ≠ bn := Nat.ne_of_gt hm.lt
  have hlvb : ∀ k, lv.ownBlock = some k → k ≠ bn ∧ k ≠ d := by
    intro k hk
    rcases hrow.2 with ⟨rfl, _⟩ | ⟨q, cap, cur, rfl, _, hb, _⟩
    · cases hk
    · injection hk with hk
      subst hk
      exact ⟨hm.ne hb, ne_of_obj hb hd (by intro e; injection e with e1 e2; exact absurd e2 (by decide))⟩
  have hrow0 : (w.alloc (.cells #[.func (.func g) #[] caps] 87)).drew.ownsRow 0 104 2 lv n xs := hrow.alloc _
  have HHM := hide hm
  have HLV := hide hlvb
  have HROW := hide hrow0
  have HROWW := hide hrow
  have HCA := hide hca
  have HD := hide hd
  clear hcall hm hrow hlvb hrow0 hca hd
  go_enter Try.func43, Try.ntmps43
  go_wp2_with fail
  refine wp_region_held_drew (S := fun W => W.cell? ⟨w.heap.size, 0, none⟩ = some (.func (.func g) #[] caps) ∧ W.cell? ⟨d, 2, none⟩ = some (.map (some bn))) (by kernel_rfl) (⟨x0, x2⟩) (fun hHeld => ?_)
  refine takeH (i := 0) (v := ?_) rfl (by kernel_rfl) (by kernel_rfl) (by kernel_rfl) (fun _ _ _ h => h) rfl ?_ hHeld ?_
  rotate_left
  · intro w hS; (try dsimp only at hS); obtain ⟨hS0, hS1⟩ := hS; go_simp; first | done | (with_reducible rfl)
  try simp only [Act.put, ly1, ly2, ly3]
  refine takeH (i := 1) (v := ?_) rfl (by kernel_rfl) (by kernel_rfl) (by kernel_rfl) (fun _ _ _ h => h) rfl ?_ hHeld ?_
  rotate_left
  · intro w hS; (try dsimp only at hS); obtain ⟨hS0, hS1⟩ := hS; go_simp; first | done | (with_reducible rfl)
  try simp only [Act.put, ly1, ly2, ly3]
  refine takeH (i := 2) (v := ?_) rfl (by kernel_rfl) (by kernel_rfl) (by kernel_rfl) (fun _ _ _ h => h) rfl ?_ hHeld ?_
  rotate_left
  · intro w hS; (try dsimp only at hS); obtain ⟨hS0, hS1⟩ := hS; go_simp; first | done | (with_reducible rfl)
  try simp only [Act.put, ly1, ly2, ly3]
  refine takeH (i := 3) (v := ?_) rfl (by kernel_rfl) (by kernel_rfl) (by kernel_rfl) (fun _ _ _ h => h) rfl ?_ hHeld ?_
  rotate_left
  · intro w hS; (try dsimp only at hS); obtain ⟨hS0, hS1⟩ := hS; go_simp; first | done | (with_reducible rfl)
  try simp only [Act.put, ly1, ly2, ly3]
  refine takeH (i := 4) (v := ?_) rfl (by kernel_rfl) (by kernel_rfl) (by kernel_rfl) (fun _ _ _ h => h) rfl ?_ hHeld ?_
  rotate_left
  · intro w hS; (try dsimp only at hS); obtain ⟨hS0, hS1⟩ := hS; go_simp; first | done | (with_reducible rfl)
  try simp only [Act.put, ly1, ly2, ly3]
  refine onlyH (i := 5) rfl (by kernel_rfl) rfl (fun K hK => ?_)
  go_simp
  refine hcl.mono ?_
  rintro e w1 ⟨rfl, hm1, hc1⟩
  have hd1 := hc1.keep hd0 hdb
  have hq1 := hc1.keep hq0 hcb
  have y0 := cell_of hq1 0
  have y2 := cell_of hd1 2
  refine hK.out _ _ (⟨y0, y2⟩) (fun hHeld => ?_)
  clear hK K
  try simp only [Act.put, ly1, ly2, ly3]
  refine wpAnyH_done (by kernel_rfl) ?_ _
  clear hHeld
  have hrow1 : w1.ownsRow 0 104 2 lv n xs := own_keep HROW.out hc1 fun k hk => (HLV.out k hk).1
  have y4 := cell_of hd1 4
  have hnews : ∀ j u, [Value.pointer none, .func (.func 68) #[] #[.pointer (some ⟨w.heap.size, 0, none⟩)]][j]? = some u →
      (w1.alloc (.cells #[.pointer none, .func (.func 68) #[] #[.pointer (some ⟨w.heap.size, 0, none⟩)]] 104)).cell? ((⟨w1.heap.size, 0, none⟩ : Addr).add j) = some u := by
    intro j u hu
    rw [Addr.add_lit, Nat.zero_add, cell_of (heap_last w1 _), List.getElem?_toArray]
    exact hu
  have HNE := hide hnews
  have hrow2 := hrow1.alloc (.cells #[.pointer none, .func (.func 68) #[] #[.pointer (some ⟨w.heap.size, 0, none⟩)]] 104)
  clear hnews hcl x0 x2 y0 y2 hrow1
  have hone : ∀ x ∈ [Value.pointer none, .func (.func 68) #[] #[.pointer (some ⟨w.heap.size, 0, none⟩)]], x.oneCell' = true := by
    intro x hx
    simp only [List.mem_cons, List.not_mem_nil, or_false] at hx
    rcases hx with rfl | rfl <;> rfl
  have HON := hide hone
  clear hone
  have hd2 := heap_past (.cells #[.pointer none, .func (.func 68) #[] #[.pointer (some ⟨w.heap.size, 0, none⟩)]] 104) hd1
  have hlt2 : d < (w1.alloc (.cells #[.pointer none, .func (.func 68) #[] #[.pointer (some ⟨w.heap.size, 0, none⟩)]] 104)).heap.size := lt_of_heap hd2
  have hq2 := heap_past (.cells #[.pointer none, .func (.func 68) #[] #[.pointer (some ⟨w.heap.size, 0, none⟩)]] 104) hq1
  go_wp2_with (at_builtin; refine wpList_append_own_at _ rfl (.tmp 14) (.tmp 17) 63 rfl 0 104 i0 (.agg #[.pointer none, .nilFunc]) 2 16 Try.underlying63 hi hz0 hz1 hz2 rfl (by decide) lv n xs rfl hrow2 ⟨w1.heap.size, 0, none⟩ 1 1 [Value.pointer none, .func (.func 68) #[] #[.pointer (some ⟨w.heap.size, 0, none⟩)]] rfl rfl HNE.out HON.out (by unfold maxLen; omega) (by omega) (Nat.zero_le _) ?_; intro lv' w3 hrow3 hgrow hnil hloc; obtain ⟨la, lc, rfl⟩ := own_shape hrow3; have hd3 := (hgrow.block d hlt2 (fun e => (HLV.out d e.symm).2 rfl)).trans hd2; have z4 := thawed hd3 4; have z5 := cell_of hd3 4)
  go_end0
  have hg3 := Chg.of_grown hgrow
  have hc1' : Chg (fun k => k = d ∨ k = bn ∨ some k = lv.ownBlock) w w1 := (HCA.out.mono fun _ _ f => f.elim).then (hc1.mono fun k _ e => Or.inr (Or.inl e))
  have hc3 : Chg (fun k => k = d ∨ k = bn ∨ some k = lv.ownBlock) w w3 := (hc1'.alloc _).then (hg3.mono fun k _ e => Or.inr (Or.inr e))
  have hlq : ∀ k, some k = lv.ownBlock → k < w.heap.size := fun k hk => by
    have := (HROWW.out.lt k hk.symm).2
    exact this
  have hm3 : MapW w3 bn l' := (hm1.keep ((Chg.refl (fun _ => False) w1).alloc _) (fun h => h)).keep hg3 (fun e => (HLV.out bn e.symm).1 rfl)
  refine ⟨rfl, w.heap.size, .slice la (n + 1) lc, heap_set hd3 4 _, hm3.keep (F := (· = d)) (chg_set w3 d 4 _) (fun e => hdb e.symm), ?_, Nat.le_refl _, ?_, ?_, hc3.setCell (p := ⟨d, 4, none⟩) (Or.inl (Or.inl rfl)) _⟩
  · refine own_keep hrow3 (chg_set w3 d 4 _) (fun k hk e => ?_)
    obtain ⟨cur, hcur⟩ := own_block hrow3 hk
    exact ne_of_obj hcur hd3 (by intro e; injection e with e1 e2; exact absurd e2 (by decide)) e
  · refine heap_set_other ?_ (fun e => absurd (lt_of_heap HD.out) (by simp at e; omega))
    exact hg3.keep hq2 (fun e => Nat.lt_irrefl _ (hlq _ e))
  · rcases hloc with h | h
    · exact Or.inl h
    · refine Or.inr ⟨_, h, ?_⟩
      have := hc1'.size
      simp
      omega
end Go.Proofs.Ytlejgdjkdbamkaa
