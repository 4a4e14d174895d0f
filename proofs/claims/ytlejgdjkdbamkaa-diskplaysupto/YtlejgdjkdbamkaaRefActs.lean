/-
  The reference's act. Conditions: as it says.
-/
import Derived.Test.YtlejgdjkdbamkaaJAct
namespace Go.Proofs.Ytlejgdjkdbamkaa
open Go.RowKit

/-- Append onto a slice without room. -/
theorem run_append_full {e : TypeId} {size bytes n cap : Nat} {z : Value} {ao : Option Addr} {xs : List Value} {B : Nat} (w : World) (t ty : TypeId) (i : TypeInfo) (ht : Try.prog.underlying t = some (.slice e)) (hi : Try.prog.info? e = some i) (hz : i.zero = some z)
    (hsize : i.size = size) (hby : i.bytes = bytes) (hzs : z.cells.size = size) (hsz : 0 < size) (h : w.ownsRow B e size (.slice ao n cap) n xs)
    (a : Addr) (m c : Nat) (news : List Value) (hl : news.length = m * size) (hnews : ∀ j u, news[j]? = some u → w.cell? (a.add j) = some u) (h1 : ∀ u ∈ news, u.oneCell' = true) (hm : 0 < m) (h63 : n + m ≤ maxLen) (hbytes : (n + m) * bytes ≤ 140737488355328) :
    ∃ v' w', (Builtin.append_ #[t, t] ty #[.slice ao n n, .slice (some a) m c]).run Try.prog w = .ok v' w' ∧ w'.ownsRow w.heap.size e size v' (n + m) (xs ++ news) ∧ w.grownBy w' none := by
  have h0 := h
  rcases h.2 with ⟨hv, hn⟩ | ⟨g, cap', cur, hv, -⟩
  · injection hv with e1 e2 e3
    subst e1 hn
    have hxs : xs = [] := List.eq_nil_of_length_eq_zero (by rw [h.1]; omega)
    subst hxs
    obtain ⟨v', w', hr, ho, hg, _, _⟩ := run_append_own_at (P := Try.prog) w w.heap.size t ty e i z size bytes ht hi hz hsize hby hzs hsz (.slice none 0 0) 0 [] (World.ownsRow_nil _ _ _ _) a m c news hl hnews h1 h63 hbytes (Nat.le_refl _)
    exact ⟨v', w', hr, ho, hg⟩
  · injection hv with e1 e2 e3
    subst e1
    exact run_append_arg_grows (P := Try.prog) w t ty e i z size bytes ht hi hz hsize hby hzs hsz ⟨g, 0, none⟩ n n xs h.1 (World.ownsRow.cells h0 rfl) a m c news hl hnews (by omega) h63 hbytes
/-- append, as one step of a region that draws, where its run is known. -/
theorem step_append_run {P : Program} {ops : Array Oper} {o : Oper} {a : Act} {w : World} {K : Act → World → Prop} {Q : Exit → Act → World → Prop} {E : Prop}
    (hg : o.guard = none) (s x : Operand) (t : TypeId) (hop : o.op = Op.call { callee := Callee.builtin Builtin.append, args := #[s, x], argTypes := #[t, t] })
    {v1 v2 v' : Value} {w' : World} (hs : a.eval s = v1) (hx : a.eval x = v2) (hrun : (Builtin.append_ #[t, t] o.type #[v1, v2]).run P w = .ok v' w')
    (hK : K (a.put o.dst v') w') : if Region.wanted o (yielded ops a.tmps) = true then Oper.wp P o a w K Q else E := by
  have hw : Region.wanted o (yielded ops a.tmps) = true := by simp [Region.wanted, hg]
  rw [if_pos hw]
  unfold Oper.wp
  simp [execOp, hop, resolve, invoke, builtin, hs, hx, hrun, Result.andThen]
  exact hK
theorem own_cap {w : World} {base n size cap m : Nat} {e : TypeId} {ao : Option Addr} {xs : List Value} (h : w.ownsRow base e size (.slice ao m cap) n xs) : n ≤ cap := by
  rcases h.2 with ⟨hv, hn⟩ | ⟨g', cap', cur, hv, _, _, hc, _⟩
  · omega
  · injection hv with e1 e2 e3
    omega
section
variable {P : Program} {l : List Oper} {Q : Exit → Act → World → Prop} {md : Region.Mode} {S : World → Prop}
/-- What is to be shown of an operation that comes up next. -/
def Up (P : Program) (md : Region.Mode) (l : List Oper) (Q : Exit → Act → World → Prop) (S : World → Prop) (fuel : Nat) (listed : Array Bool) (a : Act) (w : World) (i : Nat) : Prop :=
  ∀ oi, l[i]? = some oi → Region.wanted oi (yielded l.toArray a.tmps) = true ∧ ∀ K' : Act → World → Prop, Shut (∀ a w, S w → (S w → wpAnyH P md l.toArray Q S fuel (listed.setIfInBounds i true) a w) → K' a w) → Oper.wp P oi a w K' Q
theorem Up.mk {fuel : Nat} {listed : Array Bool} {a : Act} {w : World} {i : Nat} {oi : Oper} (hi : l[i]? = some oi) (hg : Region.wanted oi (yielded l.toArray a.tmps) = true)
    (h : ∀ K' : Act → World → Prop, Shut (∀ a w, S w → (S w → wpAnyH P md l.toArray Q S fuel (listed.setIfInBounds i true) a w) → K' a w) → Oper.wp P oi a w K' Q) : Up P md l Q S fuel listed a w i := fun oj hj => by
  rw [hi] at hj
  injection hj with hj
  subst hj
  exact ⟨hg, h⟩
theorem manyH {rs : List Nat} {fuel : Nat} {listed : Array Bool} {a : Act} {w : World} (hr : Region.ready md l.toArray listed = rs) (hne : rs ≠ []) (hin : ∀ i ∈ rs, i < l.length)
    (h : ∀ i ∈ rs, Up P md l Q S fuel listed a w i) : wpAnyH P md l.toArray Q S (fuel + 1) listed a w := by
  refine wpAnyH_ready hr hne ?_
  clear hr hne
  induction rs with
  | nil => exact AllReadyH.nil
  | cons i r ih =>
    have hlt : i < l.length := hin i (by simp)
    obtain ⟨hg, hK⟩ := h i (by simp) l[i] (List.getElem?_eq_getElem hlt)
    exact AllReadyH.cons (o := l[i]) (by simp [hlt]) (fun K hS => by rw [if_pos hg]; exact hK K hS) (ih (fun j hj => hin j (by simp [hj])) (fun j hj => h j (by simp [hj])))
theorem up4 {p : Nat → Prop} {i j k m : Nat} (h1 : p i) (h2 : p j) (h3 : p k) (h4 : p m) : ∀ x ∈ [i, j, k, m], p x := by
  intro x hx
  simp only [List.mem_cons, List.not_mem_nil, or_false] at hx
  rcases hx with rfl | rfl | rfl | rfl <;> assumption
theorem up3 {p : Nat → Prop} {i j k : Nat} (h1 : p i) (h2 : p j) (h3 : p k) : ∀ x ∈ [i, j, k], p x := by
  intro x hx
  simp only [List.mem_cons, List.not_mem_nil, or_false] at hx
  rcases hx with rfl | rfl | rfl <;> assumption
theorem up2 {p : Nat → Prop} {i j : Nat} (h1 : p i) (h2 : p j) : ∀ x ∈ [i, j], p x := by
  intro x hx
  simp only [List.mem_cons, List.not_mem_nil, or_false] at hx
  rcases hx with rfl | rfl <;> assumption
end
theorem RR.neS {B r : Nat} {w : World} {R : Nat → Prop} {S : Dk} {G : Rg} (h : RR B w R r S G) : ∀ k, G.sv.ownBlock = some k → ¬ k = r := fun k hk e => by
  obtain ⟨cur, hcur⟩ := own_block h.sur hk
  exact ne_tag hcur h.blk (show 78 ≠ 72 by decide) e
theorem RR.neD {B r : Nat} {w : World} {R : Nat → Prop} {S : Dk} {G : Rg} (h : RR B w R r S G) : ∀ k, G.dv.ownBlock = some k → ¬ k = r := fun k hk e => by
  obtain ⟨cur, hcur⟩ := own_block h.dir hk
  exact ne_tag hcur h.blk (show 78 ≠ 72 by decide) e
theorem RR.neF {B r : Nat} {w : World} {R : Nat → Prop} {S : Dk} {G : Rg} (h : RR B w R r S G) : ∀ k, G.fv.ownBlock = some k → ¬ k = r := fun k hk e => by
  obtain ⟨cur, hcur⟩ := own_block h.fls hk
  exact ne_tag hcur h.blk (show 80 ≠ 72 by decide) e
theorem RR.neA {B r : Nat} {w : World} {R : Nat → Prop} {S : Dk} {G : Rg} (h : RR B w R r S G) : ∀ k, G.av.ownBlock = some k → ¬ k = r := fun k hk e => by
  obtain ⟨cur, hcur⟩ := own_block h.act hk
  exact ne_tag hcur h.blk (show 117 ≠ 72 by decide) e
theorem RR.neL {B r : Nat} {w : World} {R : Nat → Prop} {S : Dk} {G : Rg} (h : RR B w R r S G) : ∀ k, G.lv.ownBlock = some k → ¬ k = r := fun k hk e => by
  obtain ⟨cur, hcur⟩ := own_block h.fai hk
  exact ne_tag hcur h.blk (show 3 ≠ 72 by decide) e
/-- Rows laid anew. -/
theorem RR.newRows {B r : Nat} {w w' : World} {R : Nat → Prop} {S S' : Dk} {G G' : Rg} (h : RR B w R r S G) (hc : Chg (· = r) w w') (hb : w'.heap[r]? = some (.cells (rcells S' G') 72)) (hfl : S'.files = S.files ∧ G'.fv = G.fv)
    (hdir : w'.ownsRow B 78 2 G'.dv S'.dir.length (nc S'.dir)) (hdR : ∀ k, G'.dv.ownBlock = some k → R k ∨ w.heap.size ≤ k)
    (hsur : w'.ownsRow B 78 2 G'.sv S'.sure.length (nc S'.sure)) (hsR : ∀ k, G'.sv.ownBlock = some k → R k ∨ w.heap.size ≤ k)
    (hact : w'.ownsRow B 117 5 G'.av S'.acts.length (acs S'.acts)) (haR : ∀ k, G'.av.ownBlock = some k → R k ∨ w.heap.size ≤ k)
    (hf : S'.fails = S.fails ∧ G'.lv = G.lv ∧ G'.ks = G.ks) (h6 : G'.off = true → S'.on = false) (h7 : S'.cut = if G'.cut < 0 then none else some G'.cut.toNat) : RR B w' (Fx R w w') r S' G' := by
  have hB : B ≤ w.heap.size := by have := h.low _ h.self; omega
  have fx : ∀ {v : Value} {n : Nat} {e : TypeId} {size : Nat} {xs : List Value}, w'.ownsRow B e size v n xs → (∀ k, v.ownBlock = some k → R k ∨ w.heap.size ≤ k) → ∀ k, v.ownBlock = some k → Fx R w w' k := fun hr hR k hk => by
    rcases hR k hk with h | h
    · exact Or.inl h
    · exact Or.inr ⟨h, (own_lt hr k hk).2⟩
  refine ⟨hb, Or.inl h.self, ?_, ?_, hdir, fx hdir hdR, hsur, fx hsur hsR, hact, fx hact haR, ?_, ?_, ?_, ?_, h6, h7⟩
  · rw [hfl.1, hfl.2]; exact own_keep h.fls hc h.neF
  · rw [hfl.2]; exact fun k hk => Or.inl (h.flsR k hk)
  · rw [hf.2.1, hf.2.2]; exact own_keep h.fai hc h.neL
  · rw [hf.2.1]; exact fun k hk => Or.inl (h.faiR k hk)
  · intro k hk
    rcases hk with hk | hk
    · exact ⟨(h.low k hk).1, Nat.lt_of_lt_of_le (h.low k hk).2 hc.size⟩
    · exact ⟨by omega, hk.2⟩
  · intro k; rw [hf.1, hf.2.2]; exact h.fails k
theorem ac_form (a : Ac) : ∃ q0 q1 q2 q3 q4, ac a = [.int .i64 q0, .string q1, .string q2, .int .i64 q3, .int .i64 q4] := by
  cases a <;> exact ⟨_, _, _, _, _, rfl⟩

set_option maxRecDepth 20000 in
set_option maxHeartbeats 3200000 in
theorem act_any {B r : Nat} {R : Nat → Prop} {S : Dk} {G : Rg} (w : World) (h : RR B w R r S G) (hl : S.acts.length < 1099511627776) (hld : S.dir.length < 1099511627776) (a : Ac) (hcan : canD S.dir a) :
    Calls Try.prog 78 #[.pointer (some ⟨r, 0, none⟩), .agg (ac a).toArray] w fun e w' => e = .returned (.tuple #[]) ∧ ∃ G', RR B w' (Fx R w w') r (S.act a) G' ∧ G'.ks = G.ks ∧ G'.fv = G.fv ∧ Chg (· = r) w w' := by
  obtain ⟨q0, q1, q2, q3, q4, hac⟩ := ac_form a
  have hBw : B ≤ w.heap.size := by have := h.low _ h.self; omega
  have hrl := (h.low _ h.self).2
  have hcan' := hcan
  have hdone := fun W (hW : B ≤ W.heap.size) v (hv : W.ownsRow B 78 2 v S.dir.length (nc S.dir)) => done_any W B v S.dir a hW hv hld hcan
  have hone := ac_one a
  rw [hac] at hdone hone ⊢
  obtain ⟨av0, ac0, hav⟩ := own_shape h.act
  obtain ⟨i0, hi, hz0, hz1, hz2⟩ := info_parts infoAct
  -- the worlds
  obtain ⟨W1, hW1⟩ : ∃ W, W = (w.alloc (.cells #[.int .i64 q0, .string q1, .string q2, .int .i64 q3, .int .i64 q4] 117)).drew := ⟨_, rfl⟩
  have hc1 : Chg (fun _ => False) w W1 := hW1 ▸ ((Chg.refl _ w).alloc _).drew
  have hr1 := h.keep hc1 (fun _ _ h => h)
  have hx1 : W1.heap[w.heap.size]? = some (.cells #[.int .i64 q0, .string q1, .string q2, .int .i64 q3, .int .i64 q4] 117) := by rw [hW1]; exact heap_last w _
  have hs1 : W1.heap.size = w.heap.size + 1 := by rw [hW1]; simp
  obtain ⟨W2, hW2⟩ : ∃ W, W = W1.alloc (.cells #[.int .i64 q0, .string q1, .string q2, .int .i64 q3, .int .i64 q4] 117) := ⟨_, rfl⟩
  have hc2 : Chg (fun _ => False) W1 W2 := hW2 ▸ (Chg.refl _ W1).alloc _
  have hr2 := hr1.keep hc2 (fun _ _ h => h)
  have hx2 := hc2.keep hx1 (fun h => h)
  have hy2 : W2.heap[W1.heap.size]? = some (.cells #[.int .i64 q0, .string q1, .string q2, .int .i64 q3, .int .i64 q4] 117) := by rw [hW2]; exact heap_last W1 _
  have hs2 : W2.heap.size = w.heap.size + 2 := by rw [hW2]; simp; omega
  have hract := hr2.act
  rw [hav] at hract
  obtain ⟨v', W3, hrun, hown, hgr⟩ := run_append_full W2 69 69 i0 Try.underlying69 hi hz0 hz1 hz2 rfl (by decide) hract ⟨w.heap.size + 1, 0, none⟩ 1 1 _ rfl (fun j u hu => by
    rw [Addr.add_lit, Nat.zero_add, ← hs1, cell_of hy2, List.getElem?_toArray]
    exact hu) hone (by decide) (by unfold maxLen; omega) (by omega)
  have hc3 : Chg (fun _ => False) W2 W3 := (Chg.of_grown hgr).mono fun k _ e => by cases e
  have hr3 := hr2.keep hc3 (fun _ _ h => h)
  have hx3 := hc3.keep hx2 (fun h => h)
  obtain ⟨va, vc, rfl⟩ := own_shape hown
  obtain ⟨W4, hW4⟩ : ∃ W, W = W3.setCell ⟨r, 3, none⟩ (.slice va (S.acts.length + 1) vc) := ⟨_, rfl⟩
  have hc4 : Chg (· = r) W3 W4 := hW4 ▸ chg_set _ _ _ _
  have hne3 : w.heap.size ≠ r := by omega
  have hx4 := hc4.keep hx3 hne3
  have hb4 : W4.heap[r]? = some (.cells #[G.fv, G.dv, G.sv, .slice va (S.acts.length + 1) vc, .int .i64 (S.room : Int), .int .i64 (S.n : Int), .bool G.off, .int .i64 G.cut, G.lv] 72) := hW4 ▸ heap_set hr3.blk 3 _
  have hown4 := own_keep hown hc4 (fun k hk e => by
    obtain ⟨cur, hcur⟩ := own_block hown hk
    exact ne_tag hcur hr3.blk (show 117 ≠ 72 by decide) e)
  have hdir4 := own_keep hr3.dir hc4 (fun k hk e => by
    obtain ⟨cur, hcur⟩ := own_block hr3.dir hk
    exact ne_tag hcur hr3.blk (show 78 ≠ 72 by decide) e)
  have hcap := own_cap hract
  have hb1 := hr1.blk
  have hb2 := hr2.blk
  rw [rcells, hav] at hb1 hb2
  have p3 := cell_of hb1 3
  have p3' := cell_of hb2 3
  have p4 := cell_of hr3.blk 3
  have t3 := thawed hr3.blk 3
  dsimp only [rcells] at p4
  have e1 : W1.cell? ⟨w.heap.size, 0, none⟩ = some (.int .i64 q0) ∧ W1.cell? ⟨w.heap.size, 1, none⟩ = some (.string q1) ∧ W1.cell? ⟨w.heap.size, 2, none⟩ = some (.string q2) ∧ W1.cell? ⟨w.heap.size, 3, none⟩ = some (.int .i64 q3) ∧ W1.cell? ⟨w.heap.size, 4, none⟩ = some (.int .i64 q4) := ⟨cell_of hx1 0, cell_of hx1 1, cell_of hx1 2, cell_of hx1 3, cell_of hx1 4⟩
  have e2 : W2.cell? ⟨w.heap.size, 0, none⟩ = some (.int .i64 q0) ∧ W2.cell? ⟨w.heap.size, 1, none⟩ = some (.string q1) ∧ W2.cell? ⟨w.heap.size, 2, none⟩ = some (.string q2) ∧ W2.cell? ⟨w.heap.size, 3, none⟩ = some (.int .i64 q3) ∧ W2.cell? ⟨w.heap.size, 4, none⟩ = some (.int .i64 q4) := ⟨cell_of hx2 0, cell_of hx2 1, cell_of hx2 2, cell_of hx2 3, cell_of hx2 4⟩
  have e3 : W3.cell? ⟨w.heap.size, 0, none⟩ = some (.int .i64 q0) ∧ W3.cell? ⟨w.heap.size, 1, none⟩ = some (.string q1) ∧ W3.cell? ⟨w.heap.size, 2, none⟩ = some (.string q2) ∧ W3.cell? ⟨w.heap.size, 3, none⟩ = some (.int .i64 q3) ∧ W3.cell? ⟨w.heap.size, 4, none⟩ = some (.int .i64 q4) := ⟨cell_of hx3 0, cell_of hx3 1, cell_of hx3 2, cell_of hx3 3, cell_of hx3 4⟩
  have e4 : W4.cell? ⟨w.heap.size, 0, none⟩ = some (.int .i64 q0) ∧ W4.cell? ⟨w.heap.size, 1, none⟩ = some (.string q1) ∧ W4.cell? ⟨w.heap.size, 2, none⟩ = some (.string q2) ∧ W4.cell? ⟨w.heap.size, 3, none⟩ = some (.int .i64 q3) ∧ W4.cell? ⟨w.heap.size, 4, none⟩ = some (.int .i64 q4) := ⟨cell_of hx4 0, cell_of hx4 1, cell_of hx4 2, cell_of hx4 3, cell_of hx4 4⟩
  have HW1 := hide hW1
  have HW2 := hide hW2
  have HW4 := hide hW4
  have HX := hide hdone
  have HALL := hide (And.intro hb4 (And.intro hown4 (And.intro hdir4 (And.intro hx4 hc4))))
  have HRUN := hide hrun
  have HR3 := hide hr3
  have HCC := hide (And.intro hc1 (And.intro hc2 hc3))
  clear hdone hone hcan hcan' hrun hr1 hr2 hr3 hx1 hx2 hx3 hx4 hc1 hc2 hc3 hc4 hb4 hown hown4 hdir4 hgr hract hy2 hW1 hW2 hW4 hb1 hb2
  go_enter Try.func78, Try.ntmps78
  go_upto_region 1 with fail
  go_cut [3] from 4 to 36 (fun p wx => p = .pointer (some ⟨w.heap.size, 0, none⟩) ∧ W4 = wx)
  case first =>
    refine wp_region_held_drew (S := fun W => W.cell? ⟨w.heap.size, 0, none⟩ = some (.int .i64 q0) ∧ W.cell? ⟨w.heap.size, 1, none⟩ = some (.string q1) ∧ W.cell? ⟨w.heap.size, 2, none⟩ = some (.string q2) ∧ W.cell? ⟨w.heap.size, 3, none⟩ = some (.int .i64 q3) ∧ W.cell? ⟨w.heap.size, 4, none⟩ = some (.int .i64 q4)) (by kernel_rfl) (HW1.out ▸ e1) (fun hHeld => ?_)
    refine takeH (i := 0) (v := ?_) rfl (by kernel_rfl) (by kernel_rfl) (by kernel_rfl) (fun _ _ _ h => h) rfl ?_ hHeld ?_
    rotate_left
    · intro w hS; (try dsimp only at hS); obtain ⟨hS0, hS1, hS2, hS3, hS4⟩ := hS; go_simp; first | done | (with_reducible rfl)
    try simp only [Act.put, ly1, ly2, ly3]
    refine takeH (i := 1) (v := ?_) rfl (by kernel_rfl) (by kernel_rfl) (by kernel_rfl) (fun _ _ _ h => h) rfl ?_ hHeld ?_
    rotate_left
    · intro w hS; (try dsimp only at hS); obtain ⟨hS0, hS1, hS2, hS3, hS4⟩ := hS; go_simp; first | done | (with_reducible rfl)
    try simp only [Act.put, ly1, ly2, ly3]
    refine takeH (i := 2) (v := ?_) rfl (by kernel_rfl) (by kernel_rfl) (by kernel_rfl) (fun _ _ _ h => h) rfl ?_ hHeld ?_
    rotate_left
    · intro w hS; (try dsimp only at hS); obtain ⟨hS0, hS1, hS2, hS3, hS4⟩ := hS; go_simp; first | done | (with_reducible rfl)
    try simp only [Act.put, ly1, ly2, ly3]
    refine takeH (i := 3) (v := ?_) rfl (by kernel_rfl) (by kernel_rfl) (by kernel_rfl) (fun _ _ _ h => h) rfl ?_ hHeld ?_
    rotate_left
    · intro w hS; (try dsimp only at hS); obtain ⟨hS0, hS1, hS2, hS3, hS4⟩ := hS; go_simp; first | done | (with_reducible rfl)
    try simp only [Act.put, ly1, ly2, ly3]
    refine takeH (i := 5) (v := ?_) rfl (by kernel_rfl) (by kernel_rfl) (by kernel_rfl) (fun _ _ _ h => h) rfl ?_ hHeld ?_
    rotate_left
    · intro w hS; (try dsimp only at hS); obtain ⟨hS0, hS1, hS2, hS3, hS4⟩ := hS; go_simp; first | done | (with_reducible rfl)
    try simp only [Act.put, ly1, ly2, ly3]
    refine takeH (i := 6) (v := ?_) rfl (by kernel_rfl) (by kernel_rfl) (by kernel_rfl) (fun _ _ _ h => h) rfl ?_ hHeld ?_
    rotate_left
    · intro w hS; (try dsimp only at hS); obtain ⟨hS0, hS1, hS2, hS3, hS4⟩ := hS; go_simp; first | done | (with_reducible rfl)
    try simp only [Act.put, ly1, ly2, ly3]
    refine takeH (i := 7) (v := ?_) rfl (by kernel_rfl) (by kernel_rfl) (by kernel_rfl) (fun _ _ _ h => h) rfl ?_ hHeld ?_
    rotate_left
    · intro w hS; (try dsimp only at hS); obtain ⟨hS0, hS1, hS2, hS3, hS4⟩ := hS; go_simp; first | done | (with_reducible rfl)
    try simp only [Act.put, ly1, ly2, ly3]
    refine takeH (i := 10) (v := ?_) rfl (by kernel_rfl) (by kernel_rfl) (by kernel_rfl) (fun _ _ _ h => h) rfl ?_ hHeld ?_
    rotate_left
    · intro w hS; (try dsimp only at hS); obtain ⟨hS0, hS1, hS2, hS3, hS4⟩ := hS; go_simp; first | done | (with_reducible rfl)
    try simp only [Act.put, ly1, ly2, ly3]
    refine takeH (i := 11) (v := ?_) rfl (by kernel_rfl) (by kernel_rfl) (by kernel_rfl) (fun _ _ _ h => h) rfl ?_ hHeld ?_
    rotate_left
    · intro w hS; (try dsimp only at hS); obtain ⟨hS0, hS1, hS2, hS3, hS4⟩ := hS; go_simp; first | done | (with_reducible rfl)
    try simp only [Act.put, ly1, ly2, ly3]
    refine takeH (i := 12) (v := ?_) rfl (by kernel_rfl) (by kernel_rfl) (by kernel_rfl) (fun _ _ _ h => h) rfl ?_ hHeld ?_
    rotate_left
    · intro w hS; (try dsimp only at hS); obtain ⟨hS0, hS1, hS2, hS3, hS4⟩ := hS; go_simp; first | done | (with_reducible rfl)
    try simp only [Act.put, ly1, ly2, ly3]
    refine takeH (i := 16) (v := ?_) rfl (by kernel_rfl) (by kernel_rfl) (by kernel_rfl) (fun _ _ _ h => h) rfl ?_ hHeld ?_
    rotate_left
    · intro w hS; (try dsimp only at hS); obtain ⟨hS0, hS1, hS2, hS3, hS4⟩ := hS; go_simp; first | done | (with_reducible rfl)
    try simp only [Act.put, ly1, ly2, ly3]
    rw [← HW1.out] at hHeld ⊢
    --TREE
    refine manyH (rs := [4, 8, 13, 17]) (by kernel_rfl) (by simp) (by intro i hi; simp at hi; rcases hi with rfl | rfl | rfl | rfl <;> decide) (up4 ?_ ?_ ?_ ?_)
    · refine Up.mk rfl rfl (fun K hK => ?_)
      go_simp
      refine hK.out _ _ e1 (fun hHeld => ?_)
      clear hK K
      try simp only [Act.put, ly1, ly2, ly3]
      refine manyH (rs := [8, 13, 17]) (by kernel_rfl) (by simp) (by intro i hi; simp at hi; rcases hi with rfl | rfl | rfl <;> decide) (up3 ?_ ?_ ?_)
      · refine Up.mk rfl rfl (fun K hK => ?_)
        go_simp
        refine hK.out _ _ e1 (fun hHeld => ?_)
        clear hK K
        try simp only [Act.put, ly1, ly2, ly3]
        refine takeH (i := 9) (v := ?_) rfl (by kernel_rfl) (by kernel_rfl) (by kernel_rfl) (fun _ _ _ h => h) rfl ?_ hHeld ?_
        rotate_left
        · intro w hS; (try dsimp only at hS); obtain ⟨hS0, hS1, hS2, hS3, hS4⟩ := hS; go_simp; first | done | (with_reducible rfl)
        try simp only [Act.put, ly1, ly2, ly3]
        refine manyH (rs := [13, 17]) (by kernel_rfl) (by simp) (by intro i hi; simp at hi; rcases hi with rfl | rfl <;> decide) (up2 ?_ ?_)
        · refine Up.mk rfl rfl (fun K hK => ?_)
          go_simp
          refine hK.out _ _ e1 (fun hHeld => ?_)
          clear hK K
          try simp only [Act.put, ly1, ly2, ly3]
          refine takeH (i := 14) (v := ?_) rfl (by kernel_rfl) (by kernel_rfl) (by kernel_rfl) (fun _ _ _ h => h) rfl ?_ hHeld ?_
          rotate_left
          · intro w hS; (try dsimp only at hS); obtain ⟨hS0, hS1, hS2, hS3, hS4⟩ := hS; go_simp; first | done | (with_reducible rfl)
          try simp only [Act.put, ly1, ly2, ly3]
          refine takeH (i := 15) (v := ?_) rfl (by kernel_rfl) (by kernel_rfl) (by kernel_rfl) (fun _ _ _ h => h) rfl ?_ hHeld ?_
          rotate_left
          · intro w hS; (try dsimp only at hS); obtain ⟨hS0, hS1, hS2, hS3, hS4⟩ := hS; go_simp; first | done | (with_reducible rfl)
          try simp only [Act.put, ly1, ly2, ly3]
          refine onlyH (i := 17) rfl (by kernel_rfl) rfl (fun K hK => ?_)
          go_simp
          rw [← HW2.out]
          refine hK.out _ _ e2 (fun hHeld => ?_)
          clear hK K
          try simp only [Act.put, ly1, ly2, ly3]
          refine onlyH (i := 18) rfl (by kernel_rfl) rfl (fun K hK => ?_)
          refine wp_append_run (.tmp 19) (.tmp 21) 69 rfl rfl rfl HRUN.out ?_
          refine hK.out _ _ (e3) (fun hHeld => ?_)
          clear hK K
          try simp only [Act.put, ly1, ly2, ly3]
          refine takeH (i := 19) (v := ?_) rfl (by kernel_rfl) (by kernel_rfl) (by kernel_rfl) (fun _ _ _ h => h) rfl ?_ hHeld ?_
          rotate_left
          · intro w hS; (try dsimp only at hS); obtain ⟨hS0, hS1, hS2, hS3, hS4⟩ := hS; go_simp; first | done | (with_reducible rfl)
          try simp only [Act.put, ly1, ly2, ly3]
          refine takeH (i := 20) (v := ?_) rfl (by kernel_rfl) (by kernel_rfl) (by kernel_rfl) (fun _ _ _ h => h) rfl ?_ hHeld ?_
          rotate_left
          · intro w hS; (try dsimp only at hS); obtain ⟨hS0, hS1, hS2, hS3, hS4⟩ := hS; go_simp; first | done | (with_reducible rfl)
          try simp only [Act.put, ly1, ly2, ly3]
          refine onlyH (i := 21) rfl (by kernel_rfl) rfl (fun K hK => ?_)
          go_simp
          rw [← HW4.out]
          refine hK.out _ _ (e4) (fun hHeld => ?_)
          clear hK K
          try simp only [Act.put, ly1, ly2, ly3]
          refine wpAnyH_done (by kernel_rfl) ?_ _
          go_wp2_with fail
          go_meet
          exact ⟨rfl, rfl⟩
        · refine Up.mk rfl rfl (fun K hK => ?_)
          go_simp
          rw [← HW2.out]
          refine hK.out _ _ e2 (fun hHeld => ?_)
          clear hK K
          try simp only [Act.put, ly1, ly2, ly3]
          refine onlyH (i := 13) rfl (by kernel_rfl) rfl (fun K hK => ?_)
          go_simp
          refine hK.out _ _ e2 (fun hHeld => ?_)
          clear hK K
          try simp only [Act.put, ly1, ly2, ly3]
          refine takeH (i := 14) (v := ?_) rfl (by kernel_rfl) (by kernel_rfl) (by kernel_rfl) (fun _ _ _ h => h) rfl ?_ hHeld ?_
          rotate_left
          · intro w hS; (try dsimp only at hS); obtain ⟨hS0, hS1, hS2, hS3, hS4⟩ := hS; go_simp; first | done | (with_reducible rfl)
          try simp only [Act.put, ly1, ly2, ly3]
          refine takeH (i := 15) (v := ?_) rfl (by kernel_rfl) (by kernel_rfl) (by kernel_rfl) (fun _ _ _ h => h) rfl ?_ hHeld ?_
          rotate_left
          · intro w hS; (try dsimp only at hS); obtain ⟨hS0, hS1, hS2, hS3, hS4⟩ := hS; go_simp; first | done | (with_reducible rfl)
          try simp only [Act.put, ly1, ly2, ly3]
          refine onlyH (i := 18) rfl (by kernel_rfl) rfl (fun K hK => ?_)
          refine wp_append_run (.tmp 19) (.tmp 21) 69 rfl rfl rfl HRUN.out ?_
          refine hK.out _ _ (e3) (fun hHeld => ?_)
          clear hK K
          try simp only [Act.put, ly1, ly2, ly3]
          refine takeH (i := 19) (v := ?_) rfl (by kernel_rfl) (by kernel_rfl) (by kernel_rfl) (fun _ _ _ h => h) rfl ?_ hHeld ?_
          rotate_left
          · intro w hS; (try dsimp only at hS); obtain ⟨hS0, hS1, hS2, hS3, hS4⟩ := hS; go_simp; first | done | (with_reducible rfl)
          try simp only [Act.put, ly1, ly2, ly3]
          refine takeH (i := 20) (v := ?_) rfl (by kernel_rfl) (by kernel_rfl) (by kernel_rfl) (fun _ _ _ h => h) rfl ?_ hHeld ?_
          rotate_left
          · intro w hS; (try dsimp only at hS); obtain ⟨hS0, hS1, hS2, hS3, hS4⟩ := hS; go_simp; first | done | (with_reducible rfl)
          try simp only [Act.put, ly1, ly2, ly3]
          refine onlyH (i := 21) rfl (by kernel_rfl) rfl (fun K hK => ?_)
          go_simp
          rw [← HW4.out]
          refine hK.out _ _ (e4) (fun hHeld => ?_)
          clear hK K
          try simp only [Act.put, ly1, ly2, ly3]
          refine wpAnyH_done (by kernel_rfl) ?_ _
          go_wp2_with fail
          go_meet
          exact ⟨rfl, rfl⟩
      · refine Up.mk rfl rfl (fun K hK => ?_)
        go_simp
        refine hK.out _ _ e1 (fun hHeld => ?_)
        clear hK K
        try simp only [Act.put, ly1, ly2, ly3]
        refine takeH (i := 14) (v := ?_) rfl (by kernel_rfl) (by kernel_rfl) (by kernel_rfl) (fun _ _ _ h => h) rfl ?_ hHeld ?_
        rotate_left
        · intro w hS; (try dsimp only at hS); obtain ⟨hS0, hS1, hS2, hS3, hS4⟩ := hS; go_simp; first | done | (with_reducible rfl)
        try simp only [Act.put, ly1, ly2, ly3]
        refine manyH (rs := [8, 17]) (by kernel_rfl) (by simp) (by intro i hi; simp at hi; rcases hi with rfl | rfl <;> decide) (up2 ?_ ?_)
        · refine Up.mk rfl rfl (fun K hK => ?_)
          go_simp
          refine hK.out _ _ e1 (fun hHeld => ?_)
          clear hK K
          try simp only [Act.put, ly1, ly2, ly3]
          refine takeH (i := 9) (v := ?_) rfl (by kernel_rfl) (by kernel_rfl) (by kernel_rfl) (fun _ _ _ h => h) rfl ?_ hHeld ?_
          rotate_left
          · intro w hS; (try dsimp only at hS); obtain ⟨hS0, hS1, hS2, hS3, hS4⟩ := hS; go_simp; first | done | (with_reducible rfl)
          try simp only [Act.put, ly1, ly2, ly3]
          refine takeH (i := 15) (v := ?_) rfl (by kernel_rfl) (by kernel_rfl) (by kernel_rfl) (fun _ _ _ h => h) rfl ?_ hHeld ?_
          rotate_left
          · intro w hS; (try dsimp only at hS); obtain ⟨hS0, hS1, hS2, hS3, hS4⟩ := hS; go_simp; first | done | (with_reducible rfl)
          try simp only [Act.put, ly1, ly2, ly3]
          refine onlyH (i := 17) rfl (by kernel_rfl) rfl (fun K hK => ?_)
          go_simp
          rw [← HW2.out]
          refine hK.out _ _ e2 (fun hHeld => ?_)
          clear hK K
          try simp only [Act.put, ly1, ly2, ly3]
          refine onlyH (i := 18) rfl (by kernel_rfl) rfl (fun K hK => ?_)
          refine wp_append_run (.tmp 19) (.tmp 21) 69 rfl rfl rfl HRUN.out ?_
          refine hK.out _ _ (e3) (fun hHeld => ?_)
          clear hK K
          try simp only [Act.put, ly1, ly2, ly3]
          refine takeH (i := 19) (v := ?_) rfl (by kernel_rfl) (by kernel_rfl) (by kernel_rfl) (fun _ _ _ h => h) rfl ?_ hHeld ?_
          rotate_left
          · intro w hS; (try dsimp only at hS); obtain ⟨hS0, hS1, hS2, hS3, hS4⟩ := hS; go_simp; first | done | (with_reducible rfl)
          try simp only [Act.put, ly1, ly2, ly3]
          refine takeH (i := 20) (v := ?_) rfl (by kernel_rfl) (by kernel_rfl) (by kernel_rfl) (fun _ _ _ h => h) rfl ?_ hHeld ?_
          rotate_left
          · intro w hS; (try dsimp only at hS); obtain ⟨hS0, hS1, hS2, hS3, hS4⟩ := hS; go_simp; first | done | (with_reducible rfl)
          try simp only [Act.put, ly1, ly2, ly3]
          refine onlyH (i := 21) rfl (by kernel_rfl) rfl (fun K hK => ?_)
          go_simp
          rw [← HW4.out]
          refine hK.out _ _ (e4) (fun hHeld => ?_)
          clear hK K
          try simp only [Act.put, ly1, ly2, ly3]
          refine wpAnyH_done (by kernel_rfl) ?_ _
          go_wp2_with fail
          go_meet
          exact ⟨rfl, rfl⟩
        · refine Up.mk rfl rfl (fun K hK => ?_)
          go_simp
          rw [← HW2.out]
          refine hK.out _ _ e2 (fun hHeld => ?_)
          clear hK K
          try simp only [Act.put, ly1, ly2, ly3]
          refine onlyH (i := 8) rfl (by kernel_rfl) rfl (fun K hK => ?_)
          go_simp
          refine hK.out _ _ e2 (fun hHeld => ?_)
          clear hK K
          try simp only [Act.put, ly1, ly2, ly3]
          refine takeH (i := 9) (v := ?_) rfl (by kernel_rfl) (by kernel_rfl) (by kernel_rfl) (fun _ _ _ h => h) rfl ?_ hHeld ?_
          rotate_left
          · intro w hS; (try dsimp only at hS); obtain ⟨hS0, hS1, hS2, hS3, hS4⟩ := hS; go_simp; first | done | (with_reducible rfl)
          try simp only [Act.put, ly1, ly2, ly3]
          refine takeH (i := 15) (v := ?_) rfl (by kernel_rfl) (by kernel_rfl) (by kernel_rfl) (fun _ _ _ h => h) rfl ?_ hHeld ?_
          rotate_left
          · intro w hS; (try dsimp only at hS); obtain ⟨hS0, hS1, hS2, hS3, hS4⟩ := hS; go_simp; first | done | (with_reducible rfl)
          try simp only [Act.put, ly1, ly2, ly3]
          refine onlyH (i := 18) rfl (by kernel_rfl) rfl (fun K hK => ?_)
          refine wp_append_run (.tmp 19) (.tmp 21) 69 rfl rfl rfl HRUN.out ?_
          refine hK.out _ _ (e3) (fun hHeld => ?_)
          clear hK K
          try simp only [Act.put, ly1, ly2, ly3]
          refine takeH (i := 19) (v := ?_) rfl (by kernel_rfl) (by kernel_rfl) (by kernel_rfl) (fun _ _ _ h => h) rfl ?_ hHeld ?_
          rotate_left
          · intro w hS; (try dsimp only at hS); obtain ⟨hS0, hS1, hS2, hS3, hS4⟩ := hS; go_simp; first | done | (with_reducible rfl)
          try simp only [Act.put, ly1, ly2, ly3]
          refine takeH (i := 20) (v := ?_) rfl (by kernel_rfl) (by kernel_rfl) (by kernel_rfl) (fun _ _ _ h => h) rfl ?_ hHeld ?_
          rotate_left
          · intro w hS; (try dsimp only at hS); obtain ⟨hS0, hS1, hS2, hS3, hS4⟩ := hS; go_simp; first | done | (with_reducible rfl)
          try simp only [Act.put, ly1, ly2, ly3]
          refine onlyH (i := 21) rfl (by kernel_rfl) rfl (fun K hK => ?_)
          go_simp
          rw [← HW4.out]
          refine hK.out _ _ (e4) (fun hHeld => ?_)
          clear hK K
          try simp only [Act.put, ly1, ly2, ly3]
          refine wpAnyH_done (by kernel_rfl) ?_ _
          go_wp2_with fail
          go_meet
          exact ⟨rfl, rfl⟩
      · refine Up.mk rfl rfl (fun K hK => ?_)
        go_simp
        rw [← HW2.out]
        refine hK.out _ _ e2 (fun hHeld => ?_)
        clear hK K
        try simp only [Act.put, ly1, ly2, ly3]
        refine manyH (rs := [8, 13]) (by kernel_rfl) (by simp) (by intro i hi; simp at hi; rcases hi with rfl | rfl <;> decide) (up2 ?_ ?_)
        · refine Up.mk rfl rfl (fun K hK => ?_)
          go_simp
          refine hK.out _ _ e2 (fun hHeld => ?_)
          clear hK K
          try simp only [Act.put, ly1, ly2, ly3]
          refine takeH (i := 9) (v := ?_) rfl (by kernel_rfl) (by kernel_rfl) (by kernel_rfl) (fun _ _ _ h => h) rfl ?_ hHeld ?_
          rotate_left
          · intro w hS; (try dsimp only at hS); obtain ⟨hS0, hS1, hS2, hS3, hS4⟩ := hS; go_simp; first | done | (with_reducible rfl)
          try simp only [Act.put, ly1, ly2, ly3]
          refine onlyH (i := 13) rfl (by kernel_rfl) rfl (fun K hK => ?_)
          go_simp
          refine hK.out _ _ e2 (fun hHeld => ?_)
          clear hK K
          try simp only [Act.put, ly1, ly2, ly3]
          refine takeH (i := 14) (v := ?_) rfl (by kernel_rfl) (by kernel_rfl) (by kernel_rfl) (fun _ _ _ h => h) rfl ?_ hHeld ?_
          rotate_left
          · intro w hS; (try dsimp only at hS); obtain ⟨hS0, hS1, hS2, hS3, hS4⟩ := hS; go_simp; first | done | (with_reducible rfl)
          try simp only [Act.put, ly1, ly2, ly3]
          refine takeH (i := 15) (v := ?_) rfl (by kernel_rfl) (by kernel_rfl) (by kernel_rfl) (fun _ _ _ h => h) rfl ?_ hHeld ?_
          rotate_left
          · intro w hS; (try dsimp only at hS); obtain ⟨hS0, hS1, hS2, hS3, hS4⟩ := hS; go_simp; first | done | (with_reducible rfl)
          try simp only [Act.put, ly1, ly2, ly3]
          refine onlyH (i := 18) rfl (by kernel_rfl) rfl (fun K hK => ?_)
          refine wp_append_run (.tmp 19) (.tmp 21) 69 rfl rfl rfl HRUN.out ?_
          refine hK.out _ _ (e3) (fun hHeld => ?_)
          clear hK K
          try simp only [Act.put, ly1, ly2, ly3]
          refine takeH (i := 19) (v := ?_) rfl (by kernel_rfl) (by kernel_rfl) (by kernel_rfl) (fun _ _ _ h => h) rfl ?_ hHeld ?_
          rotate_left
          · intro w hS; (try dsimp only at hS); obtain ⟨hS0, hS1, hS2, hS3, hS4⟩ := hS; go_simp; first | done | (with_reducible rfl)
          try simp only [Act.put, ly1, ly2, ly3]
          refine takeH (i := 20) (v := ?_) rfl (by kernel_rfl) (by kernel_rfl) (by kernel_rfl) (fun _ _ _ h => h) rfl ?_ hHeld ?_
          rotate_left
          · intro w hS; (try dsimp only at hS); obtain ⟨hS0, hS1, hS2, hS3, hS4⟩ := hS; go_simp; first | done | (with_reducible rfl)
          try simp only [Act.put, ly1, ly2, ly3]
          refine onlyH (i := 21) rfl (by kernel_rfl) rfl (fun K hK => ?_)
          go_simp
          rw [← HW4.out]
          refine hK.out _ _ (e4) (fun hHeld => ?_)
          clear hK K
          try simp only [Act.put, ly1, ly2, ly3]
          refine wpAnyH_done (by kernel_rfl) ?_ _
          go_wp2_with fail
          go_meet
          exact ⟨rfl, rfl⟩
        · refine Up.mk rfl rfl (fun K hK => ?_)
          go_simp
          refine hK.out _ _ e2 (fun hHeld => ?_)
          clear hK K
          try simp only [Act.put, ly1, ly2, ly3]
          refine takeH (i := 14) (v := ?_) rfl (by kernel_rfl) (by kernel_rfl) (by kernel_rfl) (fun _ _ _ h => h) rfl ?_ hHeld ?_
          rotate_left
          · intro w hS; (try dsimp only at hS); obtain ⟨hS0, hS1, hS2, hS3, hS4⟩ := hS; go_simp; first | done | (with_reducible rfl)
          try simp only [Act.put, ly1, ly2, ly3]
          refine onlyH (i := 8) rfl (by kernel_rfl) rfl (fun K hK => ?_)
          go_simp
          refine hK.out _ _ e2 (fun hHeld => ?_)
          clear hK K
          try simp only [Act.put, ly1, ly2, ly3]
          refine takeH (i := 9) (v := ?_) rfl (by kernel_rfl) (by kernel_rfl) (by kernel_rfl) (fun _ _ _ h => h) rfl ?_ hHeld ?_
          rotate_left
          · intro w hS; (try dsimp only at hS); obtain ⟨hS0, hS1, hS2, hS3, hS4⟩ := hS; go_simp; first | done | (with_reducible rfl)
          try simp only [Act.put, ly1, ly2, ly3]
          refine takeH (i := 15) (v := ?_) rfl (by kernel_rfl) (by kernel_rfl) (by kernel_rfl) (fun _ _ _ h => h) rfl ?_ hHeld ?_
          rotate_left
          · intro w hS; (try dsimp only at hS); obtain ⟨hS0, hS1, hS2, hS3, hS4⟩ := hS; go_simp; first | done | (with_reducible rfl)
          try simp only [Act.put, ly1, ly2, ly3]
          refine onlyH (i := 18) rfl (by kernel_rfl) rfl (fun K hK => ?_)
          refine wp_append_run (.tmp 19) (.tmp 21) 69 rfl rfl rfl HRUN.out ?_
          refine hK.out _ _ (e3) (fun hHeld => ?_)
          clear hK K
          try simp only [Act.put, ly1, ly2, ly3]
          refine takeH (i := 19) (v := ?_) rfl (by kernel_rfl) (by kernel_rfl) (by kernel_rfl) (fun _ _ _ h => h) rfl ?_ hHeld ?_
          rotate_left
          · intro w hS; (try dsimp only at hS); obtain ⟨hS0, hS1, hS2, hS3, hS4⟩ := hS; go_simp; first | done | (with_reducible rfl)
          try simp only [Act.put, ly1, ly2, ly3]
          refine takeH (i := 20) (v := ?_) rfl (by kernel_rfl) (by kernel_rfl) (by kernel_rfl) (fun _ _ _ h => h) rfl ?_ hHeld ?_
          rotate_left
          · intro w hS; (try dsimp only at hS); obtain ⟨hS0, hS1, hS2, hS3, hS4⟩ := hS; go_simp; first | done | (with_reducible rfl)
          try simp only [Act.put, ly1, ly2, ly3]
          refine onlyH (i := 21) rfl (by kernel_rfl) rfl (fun K hK => ?_)
          go_simp
          rw [← HW4.out]
          refine hK.out _ _ (e4) (fun hHeld => ?_)
          clear hK K
          try simp only [Act.put, ly1, ly2, ly3]
          refine wpAnyH_done (by kernel_rfl) ?_ _
          go_wp2_with fail
          go_meet
          exact ⟨rfl, rfl⟩
    · refine Up.mk rfl rfl (fun K hK => ?_)
      go_simp
      refine hK.out _ _ e1 (fun hHeld => ?_)
      clear hK K
      try simp only [Act.put, ly1, ly2, ly3]
      refine takeH (i := 9) (v := ?_) rfl (by kernel_rfl) (by kernel_rfl) (by kernel_rfl) (fun _ _ _ h => h) rfl ?_ hHeld ?_
      rotate_left
      · intro w hS; (try dsimp only at hS); obtain ⟨hS0, hS1, hS2, hS3, hS4⟩ := hS; go_simp; first | done | (with_reducible rfl)
      try simp only [Act.put, ly1, ly2, ly3]
      refine manyH (rs := [4, 13, 17]) (by kernel_rfl) (by simp) (by intro i hi; simp at hi; rcases hi with rfl | rfl | rfl <;> decide) (up3 ?_ ?_ ?_)
      · refine Up.mk rfl rfl (fun K hK => ?_)
        go_simp
        refine hK.out _ _ e1 (fun hHeld => ?_)
        clear hK K
        try simp only [Act.put, ly1, ly2, ly3]
        refine manyH (rs := [13, 17]) (by kernel_rfl) (by simp) (by intro i hi; simp at hi; rcases hi with rfl | rfl <;> decide) (up2 ?_ ?_)
        · refine Up.mk rfl rfl (fun K hK => ?_)
          go_simp
          refine hK.out _ _ e1 (fun hHeld => ?_)
          clear hK K
          try simp only [Act.put, ly1, ly2, ly3]
          refine takeH (i := 14) (v := ?_) rfl (by kernel_rfl) (by kernel_rfl) (by kernel_rfl) (fun _ _ _ h => h) rfl ?_ hHeld ?_
          rotate_left
          · intro w hS; (try dsimp only at hS); obtain ⟨hS0, hS1, hS2, hS3, hS4⟩ := hS; go_simp; first | done | (with_reducible rfl)
          try simp only [Act.put, ly1, ly2, ly3]
          refine takeH (i := 15) (v := ?_) rfl (by kernel_rfl) (by kernel_rfl) (by kernel_rfl) (fun _ _ _ h => h) rfl ?_ hHeld ?_
          rotate_left
          · intro w hS; (try dsimp only at hS); obtain ⟨hS0, hS1, hS2, hS3, hS4⟩ := hS; go_simp; first | done | (with_reducible rfl)
          try simp only [Act.put, ly1, ly2, ly3]
          refine onlyH (i := 17) rfl (by kernel_rfl) rfl (fun K hK => ?_)
          go_simp
          rw [← HW2.out]
          refine hK.out _ _ e2 (fun hHeld => ?_)
          clear hK K
          try simp only [Act.put, ly1, ly2, ly3]
          refine onlyH (i := 18) rfl (by kernel_rfl) rfl (fun K hK => ?_)
          refine wp_append_run (.tmp 19) (.tmp 21) 69 rfl rfl rfl HRUN.out ?_
          refine hK.out _ _ (e3) (fun hHeld => ?_)
          clear hK K
          try simp only [Act.put, ly1, ly2, ly3]
          refine takeH (i := 19) (v := ?_) rfl (by kernel_rfl) (by kernel_rfl) (by kernel_rfl) (fun _ _ _ h => h) rfl ?_ hHeld ?_
          rotate_left
          · intro w hS; (try dsimp only at hS); obtain ⟨hS0, hS1, hS2, hS3, hS4⟩ := hS; go_simp; first | done | (with_reducible rfl)
          try simp only [Act.put, ly1, ly2, ly3]
          refine takeH (i := 20) (v := ?_) rfl (by kernel_rfl) (by kernel_rfl) (by kernel_rfl) (fun _ _ _ h => h) rfl ?_ hHeld ?_
          rotate_left
          · intro w hS; (try dsimp only at hS); obtain ⟨hS0, hS1, hS2, hS3, hS4⟩ := hS; go_simp; first | done | (with_reducible rfl)
          try simp only [Act.put, ly1, ly2, ly3]
          refine onlyH (i := 21) rfl (by kernel_rfl) rfl (fun K hK => ?_)
          go_simp
          rw [← HW4.out]
          refine hK.out _ _ (e4) (fun hHeld => ?_)
          clear hK K
          try simp only [Act.put, ly1, ly2, ly3]
          refine wpAnyH_done (by kernel_rfl) ?_ _
          go_wp2_with fail
          go_meet
          exact ⟨rfl, rfl⟩
        · refine Up.mk rfl rfl (fun K hK => ?_)
          go_simp
          rw [← HW2.out]
          refine hK.out _ _ e2 (fun hHeld => ?_)
          clear hK K
          try simp only [Act.put, ly1, ly2, ly3]
          refine onlyH (i := 13) rfl (by kernel_rfl) rfl (fun K hK => ?_)
          go_simp
          refine hK.out _ _ e2 (fun hHeld => ?_)
          clear hK K
          try simp only [Act.put, ly1, ly2, ly3]
          refine takeH (i := 14) (v := ?_) rfl (by kernel_rfl) (by kernel_rfl) (by kernel_rfl) (fun _ _ _ h => h) rfl ?_ hHeld ?_
          rotate_left
          · intro w hS; (try dsimp only at hS); obtain ⟨hS0, hS1, hS2, hS3, hS4⟩ := hS; go_simp; first | done | (with_reducible rfl)
          try simp only [Act.put, ly1, ly2, ly3]
          refine takeH (i := 15) (v := ?_) rfl (by kernel_rfl) (by kernel_rfl) (by kernel_rfl) (fun _ _ _ h => h) rfl ?_ hHeld ?_
          rotate_left
          · intro w hS; (try dsimp only at hS); obtain ⟨hS0, hS1, hS2, hS3, hS4⟩ := hS; go_simp; first | done | (with_reducible rfl)
          try simp only [Act.put, ly1, ly2, ly3]
          refine onlyH (i := 18) rfl (by kernel_rfl) rfl (fun K hK => ?_)
          refine wp_append_run (.tmp 19) (.tmp 21) 69 rfl rfl rfl HRUN.out ?_
          refine hK.out _ _ (e3) (fun hHeld => ?_)
          clear hK K
          try simp only [Act.put, ly1, ly2, ly3]
          refine takeH (i := 19) (v := ?_) rfl (by kernel_rfl) (by kernel_rfl) (by kernel_rfl) (fun _ _ _ h => h) rfl ?_ hHeld ?_
          rotate_left
          · intro w hS; (try dsimp only at hS); obtain ⟨hS0, hS1, hS2, hS3, hS4⟩ := hS; go_simp; first | done | (with_reducible rfl)
          try simp only [Act.put, ly1, ly2, ly3]
          refine takeH (i := 20) (v := ?_) rfl (by kernel_rfl) (by kernel_rfl) (by kernel_rfl) (fun _ _ _ h => h) rfl ?_ hHeld ?_
          rotate_left
          · intro w hS; (try dsimp only at hS); obtain ⟨hS0, hS1, hS2, hS3, hS4⟩ := hS; go_simp; first | done | (with_reducible rfl)
          try simp only [Act.put, ly1, ly2, ly3]
          refine onlyH (i := 21) rfl (by kernel_rfl) rfl (fun K hK => ?_)
          go_simp
          rw [← HW4.out]
          refine hK.out _ _ (e4) (fun hHeld => ?_)
          clear hK K
          try simp only [Act.put, ly1, ly2, ly3]
          refine wpAnyH_done (by kernel_rfl) ?_ _
          go_wp2_with fail
          go_meet
          exact ⟨rfl, rfl⟩
      · refine Up.mk rfl rfl (fun K hK => ?_)
        go_simp
        refine hK.out _ _ e1 (fun hHeld => ?_)
        clear hK K
        try simp only [Act.put, ly1, ly2, ly3]
        refine takeH (i := 14) (v := ?_) rfl (by kernel_rfl) (by kernel_rfl) (by kernel_rfl) (fun _ _ _ h => h) rfl ?_ hHeld ?_
        rotate_left
        · intro w hS; (try dsimp only at hS); obtain ⟨hS0, hS1, hS2, hS3, hS4⟩ := hS; go_simp; first | done | (with_reducible rfl)
        try simp only [Act.put, ly1, ly2, ly3]
        refine manyH (rs := [4, 17]) (by kernel_rfl) (by simp) (by intro i hi; simp at hi; rcases hi with rfl | rfl <;> decide) (up2 ?_ ?_)
        · refine Up.mk rfl rfl (fun K hK => ?_)
          go_simp
          refine hK.out _ _ e1 (fun hHeld => ?_)
          clear hK K
          try simp only [Act.put, ly1, ly2, ly3]
          refine takeH (i := 15) (v := ?_) rfl (by kernel_rfl) (by kernel_rfl) (by kernel_rfl) (fun _ _ _ h => h) rfl ?_ hHeld ?_
          rotate_left
          · intro w hS; (try dsimp only at hS); obtain ⟨hS0, hS1, hS2, hS3, hS4⟩ := hS; go_simp; first | done | (with_reducible rfl)
          try simp only [Act.put, ly1, ly2, ly3]
          refine onlyH (i := 17) rfl (by kernel_rfl) rfl (fun K hK => ?_)
          go_simp
          rw [← HW2.out]
          refine hK.out _ _ e2 (fun hHeld => ?_)
          clear hK K
          try simp only [Act.put, ly1, ly2, ly3]
          refine onlyH (i := 18) rfl (by kernel_rfl) rfl (fun K hK => ?_)
          refine wp_append_run (.tmp 19) (.tmp 21) 69 rfl rfl rfl HRUN.out ?_
          refine hK.out _ _ (e3) (fun hHeld => ?_)
          clear hK K
          try simp only [Act.put, ly1, ly2, ly3]
          refine takeH (i := 19) (v := ?_) rfl (by kernel_rfl) (by kernel_rfl) (by kernel_rfl) (fun _ _ _ h => h) rfl ?_ hHeld ?_
          rotate_left
          · intro w hS; (try dsimp only at hS); obtain ⟨hS0, hS1, hS2, hS3, hS4⟩ := hS; go_simp; first | done | (with_reducible rfl)
          try simp only [Act.put, ly1, ly2, ly3]
          refine takeH (i := 20) (v := ?_) rfl (by kernel_rfl) (by kernel_rfl) (by kernel_rfl) (fun _ _ _ h => h) rfl ?_ hHeld ?_
          rotate_left
          · intro w hS; (try dsimp only at hS); obtain ⟨hS0, hS1, hS2, hS3, hS4⟩ := hS; go_simp; first | done | (with_reducible rfl)
          try simp only [Act.put, ly1, ly2, ly3]
          refine onlyH (i := 21) rfl (by kernel_rfl) rfl (fun K hK => ?_)
          go_simp
          rw [← HW4.out]
          refine hK.out _ _ (e4) (fun hHeld => ?_)
          clear hK K
          try simp only [Act.put, ly1, ly2, ly3]
          refine wpAnyH_done (by kernel_rfl) ?_ _
          go_wp2_with fail
          go_meet
          exact ⟨rfl, rfl⟩
        · refine Up.mk rfl rfl (fun K hK => ?_)
          go_simp
          rw [← HW2.out]
          refine hK.out _ _ e2 (fun hHeld => ?_)
          clear hK K
          try simp only [Act.put, ly1, ly2, ly3]
          refine onlyH (i := 4) rfl (by kernel_rfl) rfl (fun K hK => ?_)
          go_simp
          refine hK.out _ _ e2 (fun hHeld => ?_)
          clear hK K
          try simp only [Act.put, ly1, ly2, ly3]
          refine takeH (i := 15) (v := ?_) rfl (by kernel_rfl) (by kernel_rfl) (by kernel_rfl) (fun _ _ _ h => h) rfl ?_ hHeld ?_
          rotate_left
          · intro w hS; (try dsimp only at hS); obtain ⟨hS0, hS1, hS2, hS3, hS4⟩ := hS; go_simp; first | done | (with_reducible rfl)
          try simp only [Act.put, ly1, ly2, ly3]
          refine onlyH (i := 18) rfl (by kernel_rfl) rfl (fun K hK => ?_)
          refine wp_append_run (.tmp 19) (.tmp 21) 69 rfl rfl rfl HRUN.out ?_
          refine hK.out _ _ (e3) (fun hHeld => ?_)
          clear hK K
          try simp only [Act.put, ly1, ly2, ly3]
          refine takeH (i := 19) (v := ?_) rfl (by kernel_rfl) (by kernel_rfl) (by kernel_rfl) (fun _ _ _ h => h) rfl ?_ hHeld ?_
          rotate_left
          · intro w hS; (try dsimp only at hS); obtain ⟨hS0, hS1, hS2, hS3, hS4⟩ := hS; go_simp; first | done | (with_reducible rfl)
          try simp only [Act.put, ly1, ly2, ly3]
          refine takeH (i := 20) (v := ?_) rfl (by kernel_rfl) (by kernel_rfl) (by kernel_rfl) (fun _ _ _ h => h) rfl ?_ hHeld ?_
          rotate_left
          · intro w hS; (try dsimp only at hS); obtain ⟨hS0, hS1, hS2, hS3, hS4⟩ := hS; go_simp; first | done | (with_reducible rfl)
          try simp only [Act.put, ly1, ly2, ly3]
          refine onlyH (i := 21) rfl (by kernel_rfl) rfl (fun K hK => ?_)
          go_simp
          rw [← HW4.out]
          refine hK.out _ _ (e4) (fun hHeld => ?_)
          clear hK K
          try simp only [Act.put, ly1, ly2, ly3]
          refine wpAnyH_done (by kernel_rfl) ?_ _
          go_wp2_with fail
          go_meet
          exact ⟨rfl, rfl⟩
      · refine Up.mk rfl rfl (fun K hK => ?_)
        go_simp
        rw [← HW2.out]
        refine hK.out _ _ e2 (fun hHeld => ?_)
        clear hK K
        try simp only [Act.put, ly1, ly2, ly3]
        refine manyH (rs := [4, 13]) (by kernel_rfl) (by simp) (by intro i hi; simp at hi; rcases hi with rfl | rfl <;> decide) (up2 ?_ ?_)
        · refine Up.mk rfl rfl (fun K hK => ?_)
          go_simp
          refine hK.out _ _ e2 (fun hHeld => ?_)
          clear hK K
          try simp only [Act.put, ly1, ly2, ly3]
          refine onlyH (i := 13) rfl (by kernel_rfl) rfl (fun K hK => ?_)
          go_simp
          refine hK.out _ _ e2 (fun hHeld => ?_)
          clear hK K
          try simp only [Act.put, ly1, ly2, ly3]
          refine takeH (i := 14) (v := ?_) rfl (by kernel_rfl) (by kernel_rfl) (by kernel_rfl) (fun _ _ _ h => h) rfl ?_ hHeld ?_
          rotate_left
          · intro w hS; (try dsimp only at hS); obtain ⟨hS0, hS1, hS2, hS3, hS4⟩ := hS; go_simp; first | done | (with_reducible rfl)
          try simp only [Act.put, ly1, ly2, ly3]
          refine takeH (i := 15) (v := ?_) rfl (by kernel_rfl) (by kernel_rfl) (by kernel_rfl) (fun _ _ _ h => h) rfl ?_ hHeld ?_
          rotate_left
          · intro w hS; (try dsimp only at hS); obtain ⟨hS0, hS1, hS2, hS3, hS4⟩ := hS; go_simp; first | done | (with_reducible rfl)
          try simp only [Act.put, ly1, ly2, ly3]
          refine onlyH (i := 18) rfl (by kernel_rfl) rfl (fun K hK => ?_)
          refine wp_append_run (.tmp 19) (.tmp 21) 69 rfl rfl rfl HRUN.out ?_
          refine hK.out _ _ (e3) (fun hHeld => ?_)
          clear hK K
          try simp only [Act.put, ly1, ly2, ly3]
          refine takeH (i := 19) (v := ?_) rfl (by kernel_rfl) (by kernel_rfl) (by kernel_rfl) (fun _ _ _ h => h) rfl ?_ hHeld ?_
          rotate_left
          · intro w hS; (try dsimp only at hS); obtain ⟨hS0, hS1, hS2, hS3, hS4⟩ := hS; go_simp; first | done | (with_reducible rfl)
          try simp only [Act.put, ly1, ly2, ly3]
          refine takeH (i := 20) (v := ?_) rfl (by kernel_rfl) (by kernel_rfl) (by kernel_rfl) (fun _ _ _ h => h) rfl ?_ hHeld ?_
          rotate_left
          · intro w hS; (try dsimp only at hS); obtain ⟨hS0, hS1, hS2, hS3, hS4⟩ := hS; go_simp; first | done | (with_reducible rfl)
          try simp only [Act.put, ly1, ly2, ly3]
          refine onlyH (i := 21) rfl (by kernel_rfl) rfl (fun K hK => ?_)
          go_simp
          rw [← HW4.out]
          refine hK.out _ _ (e4) (fun hHeld => ?_)
          clear hK K
          try simp only [Act.put, ly1, ly2, ly3]
          refine wpAnyH_done (by kernel_rfl) ?_ _
          go_wp2_with fail
          go_meet
          exact ⟨rfl, rfl⟩
        · refine Up.mk rfl rfl (fun K hK => ?_)
          go_simp
          refine hK.out _ _ e2 (fun hHeld => ?_)
          clear hK K
          try simp only [Act.put, ly1, ly2, ly3]
          refine takeH (i := 14) (v := ?_) rfl (by kernel_rfl) (by kernel_rfl) (by kernel_rfl) (fun _ _ _ h => h) rfl ?_ hHeld ?_
          rotate_left
          · intro w hS; (try dsimp only at hS); obtain ⟨hS0, hS1, hS2, hS3, hS4⟩ := hS; go_simp; first | done | (with_reducible rfl)
          try simp only [Act.put, ly1, ly2, ly3]
          refine onlyH (i := 4) rfl (by kernel_rfl) rfl (fun K hK => ?_)
          go_simp
          refine hK.out _ _ e2 (fun hHeld => ?_)
          clear hK K
          try simp only [Act.put, ly1, ly2, ly3]
          refine takeH (i := 15) (v := ?_) rfl (by kernel_rfl) (by kernel_rfl) (by kernel_rfl) (fun _ _ _ h => h) rfl ?_ hHeld ?_
          rotate_left
          · intro w hS; (try dsimp only at hS); obtain ⟨hS0, hS1, hS2, hS3, hS4⟩ := hS; go_simp; first | done | (with_reducible rfl)
          try simp only [Act.put, ly1, ly2, ly3]
          refine onlyH (i := 18) rfl (by kernel_rfl) rfl (fun K hK => ?_)
          refine wp_append_run (.tmp 19) (.tmp 21) 69 rfl rfl rfl HRUN.out ?_
          refine hK.out _ _ (e3) (fun hHeld => ?_)
          clear hK K
          try simp only [Act.put, ly1, ly2, ly3]
          refine takeH (i := 19) (v := ?_) rfl (by kernel_rfl) (by kernel_rfl) (by kernel_rfl) (fun _ _ _ h => h) rfl ?_ hHeld ?_
          rotate_left
          · intro w hS; (try dsimp only at hS); obtain ⟨hS0, hS1, hS2, hS3, hS4⟩ := hS; go_simp; first | done | (with_reducible rfl)
          try simp only [Act.put, ly1, ly2, ly3]
          refine takeH (i := 20) (v := ?_) rfl (by kernel_rfl) (by kernel_rfl) (by kernel_rfl) (fun _ _ _ h => h) rfl ?_ hHeld ?_
          rotate_left
          · intro w hS; (try dsimp only at hS); obtain ⟨hS0, hS1, hS2, hS3, hS4⟩ := hS; go_simp; first | done | (with_reducible rfl)
          try simp only [Act.put, ly1, ly2, ly3]
          refine onlyH (i := 21) rfl (by kernel_rfl) rfl (fun K hK => ?_)
          go_simp
          rw [← HW4.out]
          refine hK.out _ _ (e4) (fun hHeld => ?_)
          clear hK K
          try simp only [Act.put, ly1, ly2, ly3]
          refine wpAnyH_done (by kernel_rfl) ?_ _
          go_wp2_with fail
          go_meet
          exact ⟨rfl, rfl⟩
    · refine Up.mk rfl rfl (fun K hK => ?_)
      go_simp
      refine hK.out _ _ e1 (fun hHeld => ?_)
      clear hK K
      try simp only [Act.put, ly1, ly2, ly3]
      refine takeH (i := 14) (v := ?_) rfl (by kernel_rfl) (by kernel_rfl) (by kernel_rfl) (fun _ _ _ h => h) rfl ?_ hHeld ?_
      rotate_left
      · intro w hS; (try dsimp only at hS); obtain ⟨hS0, hS1, hS2, hS3, hS4⟩ := hS; go_simp; first | done | (with_reducible rfl)
      try simp only [Act.put, ly1, ly2, ly3]
      refine manyH (rs := [4, 8, 17]) (by kernel_rfl) (by simp) (by intro i hi; simp at hi; rcases hi with rfl | rfl | rfl <;> decide) (up3 ?_ ?_ ?_)
      · refine Up.mk rfl rfl (fun K hK => ?_)
        go_simp
        refine hK.out _ _ e1 (fun hHeld => ?_)
        clear hK K
        try simp only [Act.put, ly1, ly2, ly3]
        refine manyH (rs := [8, 17]) (by kernel_rfl) (by simp) (by intro i hi; simp at hi; rcases hi with rfl | rfl <;> decide) (up2 ?_ ?_)
        · refine Up.mk rfl rfl (fun K hK => ?_)
          go_simp
          refine hK.out _ _ e1 (fun hHeld => ?_)
          clear hK K
          try simp only [Act.put, ly1, ly2, ly3]
          refine takeH (i := 9) (v := ?_) rfl (by kernel_rfl) (by kernel_rfl) (by kernel_rfl) (fun _ _ _ h => h) rfl ?_ hHeld ?_
          rotate_left
          · intro w hS; (try dsimp only at hS); obtain ⟨hS0, hS1, hS2, hS3, hS4⟩ := hS; go_simp; first | done | (with_reducible rfl)
          try simp only [Act.put, ly1, ly2, ly3]
          refine takeH (i := 15) (v := ?_) rfl (by kernel_rfl) (by kernel_rfl) (by kernel_rfl) (fun _ _ _ h => h) rfl ?_ hHeld ?_
          rotate_left
          · intro w hS; (try dsimp only at hS); obtain ⟨hS0, hS1, hS2, hS3, hS4⟩ := hS; go_simp; first | done | (with_reducible rfl)
          try simp only [Act.put, ly1, ly2, ly3]
          refine onlyH (i := 17) rfl (by kernel_rfl) rfl (fun K hK => ?_)
          go_simp
          rw [← HW2.out]
          refine hK.out _ _ e2 (fun hHeld => ?_)
          clear hK K
          try simp only [Act.put, ly1, ly2, ly3]
          refine onlyH (i := 18) rfl (by kernel_rfl) rfl (fun K hK => ?_)
          refine wp_append_run (.tmp 19) (.tmp 21) 69 rfl rfl rfl HRUN.out ?_
          refine hK.out _ _ (e3) (fun hHeld => ?_)
          clear hK K
          try simp only [Act.put, ly1, ly2, ly3]
          refine takeH (i := 19) (v := ?_) rfl (by kernel_rfl) (by kernel_rfl) (by kernel_rfl) (fun _ _ _ h => h) rfl ?_ hHeld ?_
          rotate_left
          · intro w hS; (try dsimp only at hS); obtain ⟨hS0, hS1, hS2, hS3, hS4⟩ := hS; go_simp; first | done | (with_reducible rfl)
          try simp only [Act.put, ly1, ly2, ly3]
          refine takeH (i := 20) (v := ?_) rfl (by kernel_rfl) (by kernel_rfl) (by kernel_rfl) (fun _ _ _ h => h) rfl ?_ hHeld ?_
          rotate_left
          · intro w hS; (try dsimp only at hS); obtain ⟨hS0, hS1, hS2, hS3, hS4⟩ := hS; go_simp; first | done | (with_reducible rfl)
          try simp only [Act.put, ly1, ly2, ly3]
          refine onlyH (i := 21) rfl (by kernel_rfl) rfl (fun K hK => ?_)
          go_simp
          rw [← HW4.out]
          refine hK.out _ _ (e4) (fun hHeld => ?_)
          clear hK K
          try simp only [Act.put, ly1, ly2, ly3]
          refine wpAnyH_done (by kernel_rfl) ?_ _
          go_wp2_with fail
          go_meet
          exact ⟨rfl, rfl⟩
        · refine Up.mk rfl rfl (fun K hK => ?_)
          go_simp
          rw [← HW2.out]
          refine hK.out _ _ e2 (fun hHeld => ?_)
          clear hK K
          try simp only [Act.put, ly1, ly2, ly3]
          refine onlyH (i := 8) rfl (by kernel_rfl) rfl (fun K hK => ?_)
          go_simp
          refine hK.out _ _ e2 (fun hHeld => ?_)
          clear hK K
          try simp only [Act.put, ly1, ly2, ly3]
          refine takeH (i := 9) (v := ?_) rfl (by kernel_rfl) (by kernel_rfl) (by kernel_rfl) (fun _ _ _ h => h) rfl ?_ hHeld ?_
          rotate_left
          · intro w hS; (try dsimp only at hS); obtain ⟨hS0, hS1, hS2, hS3, hS4⟩ := hS; go_simp; first | done | (with_reducible rfl)
          try simp only [Act.put, ly1, ly2, ly3]
          refine takeH (i := 15) (v := ?_) rfl (by kernel_rfl) (by kernel_rfl) (by kernel_rfl) (fun _ _ _ h => h) rfl ?_ hHeld ?_
          rotate_left
          · intro w hS; (try dsimp only at hS); obtain ⟨hS0, hS1, hS2, hS3, hS4⟩ := hS; go_simp; first | done | (with_reducible rfl)
          try simp only [Act.put, ly1, ly2, ly3]
          refine onlyH (i := 18) rfl (by kernel_rfl) rfl (fun K hK => ?_)
          refine wp_append_run (.tmp 19) (.tmp 21) 69 rfl rfl rfl HRUN.out ?_
          refine hK.out _ _ (e3) (fun hHeld => ?_)
          clear hK K
          try simp only [Act.put, ly1, ly2, ly3]
          refine takeH (i := 19) (v := ?_) rfl (by kernel_rfl) (by kernel_rfl) (by kernel_rfl) (fun _ _ _ h => h) rfl ?_ hHeld ?_
          rotate_left
          · intro w hS; (try dsimp only at hS); obtain ⟨hS0, hS1, hS2, hS3, hS4⟩ := hS; go_simp; first | done | (with_reducible rfl)
          try simp only [Act.put, ly1, ly2, ly3]
          refine takeH (i := 20) (v := ?_) rfl (by kernel_rfl) (by kernel_rfl) (by kernel_rfl) (fun _ _ _ h => h) rfl ?_ hHeld ?_
          rotate_left
          · intro w hS; (try dsimp only at hS); obtain ⟨hS0, hS1, hS2, hS3, hS4⟩ := hS; go_simp; first | done | (with_reducible rfl)
          try simp only [Act.put, ly1, ly2, ly3]
          refine onlyH (i := 21) rfl (by kernel_rfl) rfl (fun K hK => ?_)
          go_simp
          rw [← HW4.out]
          refine hK.out _ _ (e4) (fun hHeld => ?_)
          clear hK K
          try simp only [Act.put, ly1, ly2, ly3]
          refine wpAnyH_done (by kernel_rfl) ?_ _
          go_wp2_with fail
          go_meet
          exact ⟨rfl, rfl⟩
      · refine Up.mk rfl rfl (fun K hK => ?_)
        go_simp
        refine hK.out _ _ e1 (fun hHeld => ?_)
        clear hK K
        try simp only [Act.put, ly1, ly2, ly3]
        refine takeH (i := 9) (v := ?_) rfl (by kernel_rfl) (by kernel_rfl) (by kernel_rfl) (fun _ _ _ h => h) rfl ?_ hHeld ?_
        rotate_left
        · intro w hS; (try dsimp only at hS); obtain ⟨hS0, hS1, hS2, hS3, hS4⟩ := hS; go_simp; first | done | (with_reducible rfl)
        try simp only [Act.put, ly1, ly2, ly3]
        refine manyH (rs := [4, 17]) (by kernel_rfl) (by simp) (by intro i hi; simp at hi; rcases hi with rfl | rfl <;> decide) (up2 ?_ ?_)
        · refine Up.mk rfl rfl (fun K hK => ?_)
          go_simp
          refine hK.out _ _ e1 (fun hHeld => ?_)
          clear hK K
          try simp only [Act.put, ly1, ly2, ly3]
          refine takeH (i := 15) (v := ?_) rfl (by kernel_rfl) (by kernel_rfl) (by kernel_rfl) (fun _ _ _ h => h) rfl ?_ hHeld ?_
          rotate_left
          · intro w hS; (try dsimp only at hS); obtain ⟨hS0, hS1, hS2, hS3, hS4⟩ := hS; go_simp; first | done | (with_reducible rfl)
          try simp only [Act.put, ly1, ly2, ly3]
          refine onlyH (i := 17) rfl (by kernel_rfl) rfl (fun K hK => ?_)
          go_simp
          rw [← HW2.out]
          refine hK.out _ _ e2 (fun hHeld => ?_)
          clear hK K
          try simp only [Act.put, ly1, ly2, ly3]
          refine onlyH (i := 18) rfl (by kernel_rfl) rfl (fun K hK => ?_)
          refine wp_append_run (.tmp 19) (.tmp 21) 69 rfl rfl rfl HRUN.out ?_
          refine hK.out _ _ (e3) (fun hHeld => ?_)
          clear hK K
          try simp only [Act.put, ly1, ly2, ly3]
          refine takeH (i := 19) (v := ?_) rfl (by kernel_rfl) (by kernel_rfl) (by kernel_rfl) (fun _ _ _ h => h) rfl ?_ hHeld ?_
          rotate_left
          · intro w hS; (try dsimp only at hS); obtain ⟨hS0, hS1, hS2, hS3, hS4⟩ := hS; go_simp; first | done | (with_reducible rfl)
          try simp only [Act.put, ly1, ly2, ly3]
          refine takeH (i := 20) (v := ?_) rfl (by kernel_rfl) (by kernel_rfl) (by kernel_rfl) (fun _ _ _ h => h) rfl ?_ hHeld ?_
          rotate_left
          · intro w hS; (try dsimp only at hS); obtain ⟨hS0, hS1, hS2, hS3, hS4⟩ := hS; go_simp; first | done | (with_reducible rfl)
          try simp only [Act.put, ly1, ly2, ly3]
          refine onlyH (i := 21) rfl (by kernel_rfl) rfl (fun K hK => ?_)
          go_simp
          rw [← HW4.out]
          refine hK.out _ _ (e4) (fun hHeld => ?_)
          clear hK K
          try simp only [Act.put, ly1, ly2, ly3]
          refine wpAnyH_done (by kernel_rfl) ?_ _
          go_wp2_with fail
          go_meet
          exact ⟨rfl, rfl⟩
        · refine Up.mk rfl rfl (fun K hK => ?_)
          go_simp
          rw [← HW2.out]
          refine hK.out _ _ e2 (fun hHeld => ?_)
          clear hK K
          try simp only [Act.put, ly1, ly2, ly3]
          refine onlyH (i := 4) rfl (by kernel_rfl) rfl (fun K hK => ?_)
          go_simp
          refine hK.out _ _ e2 (fun hHeld => ?_)
          clear hK K
          try simp only [Act.put, ly1, ly2, ly3]
          refine takeH (i := 15) (v := ?_) rfl (by kernel_rfl) (by kernel_rfl) (by kernel_rfl) (fun _ _ _ h => h) rfl ?_ hHeld ?_
          rotate_left
          · intro w hS; (try dsimp only at hS); obtain ⟨hS0, hS1, hS2, hS3, hS4⟩ := hS; go_simp; first | done | (with_reducible rfl)
          try simp only [Act.put, ly1, ly2, ly3]
          refine onlyH (i := 18) rfl (by kernel_rfl) rfl (fun K hK => ?_)
          refine wp_append_run (.tmp 19) (.tmp 21) 69 rfl rfl rfl HRUN.out ?_
          refine hK.out _ _ (e3) (fun hHeld => ?_)
          clear hK K
          try simp only [Act.put, ly1, ly2, ly3]
          refine takeH (i := 19) (v := ?_) rfl (by kernel_rfl) (by kernel_rfl) (by kernel_rfl) (fun _ _ _ h => h) rfl ?_ hHeld ?_
          rotate_left
          · intro w hS; (try dsimp only at hS); obtain ⟨hS0, hS1, hS2, hS3, hS4⟩ := hS; go_simp; first | done | (with_reducible rfl)
          try simp only [Act.put, ly1, ly2, ly3]
          refine takeH (i := 20) (v := ?_) rfl (by kernel_rfl) (by kernel_rfl) (by kernel_rfl) (fun _ _ _ h => h) rfl ?_ hHeld ?_
          rotate_left
          · intro w hS; (try dsimp only at hS); obtain ⟨hS0, hS1, hS2, hS3, hS4⟩ := hS; go_simp; first | done | (with_reducible rfl)
          try simp only [Act.put, ly1, ly2, ly3]
          refine onlyH (i := 21) rfl (by kernel_rfl) rfl (fun K hK => ?_)
          go_simp
          rw [← HW4.out]
          refine hK.out _ _ (e4) (fun hHeld => ?_)
          clear hK K
          try simp only [Act.put, ly1, ly2, ly3]
          refine wpAnyH_done (by kernel_rfl) ?_ _
          go_wp2_with fail
          go_meet
          exact ⟨rfl, rfl⟩
      · refine Up.mk rfl rfl (fun K hK => ?_)
        go_simp
        rw [← HW2.out]
        refine hK.out _ _ e2 (fun hHeld => ?_)
        clear hK K
        try simp only [Act.put, ly1, ly2, ly3]
        refine manyH (rs := [4, 8]) (by kernel_rfl) (by simp) (by intro i hi; simp at hi; rcases hi with rfl | rfl <;> decide) (up2 ?_ ?_)
        · refine Up.mk rfl rfl (fun K hK => ?_)
          go_simp
          refine hK.out _ _ e2 (fun hHeld => ?_)
          clear hK K
          try simp only [Act.put, ly1, ly2, ly3]
          refine onlyH (i := 8) rfl (by kernel_rfl) rfl (fun K hK => ?_)
          go_simp
          refine hK.out _ _ e2 (fun hHeld => ?_)
          clear hK K
          try simp only [Act.put, ly1, ly2, ly3]
          refine takeH (i := 9) (v := ?_) rfl (by kernel_rfl) (by kernel_rfl) (by kernel_rfl) (fun _ _ _ h => h) rfl ?_ hHeld ?_
          rotate_left
          · intro w hS; (try dsimp only at hS); obtain ⟨hS0, hS1, hS2, hS3, hS4⟩ := hS; go_simp; first | done | (with_reducible rfl)
          try simp only [Act.put, ly1, ly2, ly3]
          refine takeH (i := 15) (v := ?_) rfl (by kernel_rfl) (by kernel_rfl) (by kernel_rfl) (fun _ _ _ h => h) rfl ?_ hHeld ?_
          rotate_left
          · intro w hS; (try dsimp only at hS); obtain ⟨hS0, hS1, hS2, hS3, hS4⟩ := hS; go_simp; first | done | (with_reducible rfl)
          try simp only [Act.put, ly1, ly2, ly3]
          refine onlyH (i := 18) rfl (by kernel_rfl) rfl (fun K hK => ?_)
          refine wp_append_run (.tmp 19) (.tmp 21) 69 rfl rfl rfl HRUN.out ?_
          refine hK.out _ _ (e3) (fun hHeld => ?_)
          clear hK K
          try simp only [Act.put, ly1, ly2, ly3]
          refine takeH (i := 19) (v := ?_) rfl (by kernel_rfl) (by kernel_rfl) (by kernel_rfl) (fun _ _ _ h => h) rfl ?_ hHeld ?_
          rotate_left
          · intro w hS; (try dsimp only at hS); obtain ⟨hS0, hS1, hS2, hS3, hS4⟩ := hS; go_simp; first | done | (with_reducible rfl)
          try simp only [Act.put, ly1, ly2, ly3]
          refine takeH (i := 20) (v := ?_) rfl (by kernel_rfl) (by kernel_rfl) (by kernel_rfl) (fun _ _ _ h => h) rfl ?_ hHeld ?_
          rotate_left
          · intro w hS; (try dsimp only at hS); obtain ⟨hS0, hS1, hS2, hS3, hS4⟩ := hS; go_simp; first | done | (with_reducible rfl)
          try simp only [Act.put, ly1, ly2, ly3]
          refine onlyH (i := 21) rfl (by kernel_rfl) rfl (fun K hK => ?_)
          go_simp
          rw [← HW4.out]
          refine hK.out _ _ (e4) (fun hHeld => ?_)
          clear hK K
          try simp only [Act.put, ly1, ly2, ly3]
          refine wpAnyH_done (by kernel_rfl) ?_ _
          go_wp2_with fail
          go_meet
          exact ⟨rfl, rfl⟩
        · refine Up.mk rfl rfl (fun K hK => ?_)
          go_simp
          refine hK.out _ _ e2 (fun hHeld => ?_)
          clear hK K
          try simp only [Act.put, ly1, ly2, ly3]
          refine takeH (i := 9) (v := ?_) rfl (by kernel_rfl) (by kernel_rfl) (by kernel_rfl) (fun _ _ _ h => h) rfl ?_ hHeld ?_
          rotate_left
          · intro w hS; (try dsimp only at hS); obtain ⟨hS0, hS1, hS2, hS3, hS4⟩ := hS; go_simp; first | done | (with_reducible rfl)
          try simp only [Act.put, ly1, ly2, ly3]
          refine onlyH (i := 4) rfl (by kernel_rfl) rfl (fun K hK => ?_)
          go_simp
          refine hK.out _ _ e2 (fun hHeld => ?_)
          clear hK K
          try simp only [Act.put, ly1, ly2, ly3]
          refine takeH (i := 15) (v := ?_) rfl (by kernel_rfl) (by kernel_rfl) (by kernel_rfl) (fun _ _ _ h => h) rfl ?_ hHeld ?_
          rotate_left
          · intro w hS; (try dsimp only at hS); obtain ⟨hS0, hS1, hS2, hS3, hS4⟩ := hS; go_simp; first | done | (with_reducible rfl)
          try simp only [Act.put, ly1, ly2, ly3]
          refine onlyH (i := 18) rfl (by kernel_rfl) rfl (fun K hK => ?_)
          refine wp_append_run (.tmp 19) (.tmp 21) 69 rfl rfl rfl HRUN.out ?_
          refine hK.out _ _ (e3) (fun hHeld => ?_)
          clear hK K
          try simp only [Act.put, ly1, ly2, ly3]
          refine takeH (i := 19) (v := ?_) rfl (by kernel_rfl) (by kernel_rfl) (by kernel_rfl) (fun _ _ _ h => h) rfl ?_ hHeld ?_
          rotate_left
          · intro w hS; (try dsimp only at hS); obtain ⟨hS0, hS1, hS2, hS3, hS4⟩ := hS; go_simp; first | done | (with_reducible rfl)
          try simp only [Act.put, ly1, ly2, ly3]
          refine takeH (i := 20) (v := ?_) rfl (by kernel_rfl) (by kernel_rfl) (by kernel_rfl) (fun _ _ _ h => h) rfl ?_ hHeld ?_
          rotate_left
          · intro w hS; (try dsimp only at hS); obtain ⟨hS0, hS1, hS2, hS3, hS4⟩ := hS; go_simp; first | done | (with_reducible rfl)
          try simp only [Act.put, ly1, ly2, ly3]
          refine onlyH (i := 21) rfl (by kernel_rfl) rfl (fun K hK => ?_)
          go_simp
          rw [← HW4.out]
          refine hK.out _ _ (e4) (fun hHeld => ?_)
          clear hK K
          try simp only [Act.put, ly1, ly2, ly3]
          refine wpAnyH_done (by kernel_rfl) ?_ _
          go_wp2_with fail
          go_meet
          exact ⟨rfl, rfl⟩
    · refine Up.mk rfl rfl (fun K hK => ?_)
      go_simp
      rw [← HW2.out]
      refine hK.out _ _ e2 (fun hHeld => ?_)
      clear hK K
      try simp only [Act.put, ly1, ly2, ly3]
      refine manyH (rs := [4, 8, 13]) (by kernel_rfl) (by simp) (by intro i hi; simp at hi; rcases hi with rfl | rfl | rfl <;> decide) (up3 ?_ ?_ ?_)
      · refine Up.mk rfl rfl (fun K hK => ?_)
        go_simp
        refine hK.out _ _ e2 (fun hHeld => ?_)
        clear hK K
        try simp only [Act.put, ly1, ly2, ly3]
        refine manyH (rs := [8, 13]) (by kernel_rfl) (by simp) (by intro i hi; simp at hi; rcases hi with rfl | rfl <;> decide) (up2 ?_ ?_)
        · refine Up.mk rfl rfl (fun K hK => ?_)
          go_simp
          refine hK.out _ _ e2 (fun hHeld => ?_)
          clear hK K
          try simp only [Act.put, ly1, ly2, ly3]
          refine takeH (i := 9) (v := ?_) rfl (by kernel_rfl) (by kernel_rfl) (by kernel_rfl) (fun _ _ _ h => h) rfl ?_ hHeld ?_
          rotate_left
          · intro w hS; (try dsimp only at hS); obtain ⟨hS0, hS1, hS2, hS3, hS4⟩ := hS; go_simp; first | done | (with_reducible rfl)
          try simp only [Act.put, ly1, ly2, ly3]
          refine onlyH (i := 13) rfl (by kernel_rfl) rfl (fun K hK => ?_)
          go_simp
          refine hK.out _ _ e2 (fun hHeld => ?_)
          clear hK K
          try simp only [Act.put, ly1, ly2, ly3]
          refine takeH (i := 14) (v := ?_) rfl (by kernel_rfl) (by kernel_rfl) (by kernel_rfl) (fun _ _ _ h => h) rfl ?_ hHeld ?_
          rotate_left
          · intro w hS; (try dsimp only at hS); obtain ⟨hS0, hS1, hS2, hS3, hS4⟩ := hS; go_simp; first | done | (with_reducible rfl)
          try simp only [Act.put, ly1, ly2, ly3]
          refine takeH (i := 15) (v := ?_) rfl (by kernel_rfl) (by kernel_rfl) (by kernel_rfl) (fun _ _ _ h => h) rfl ?_ hHeld ?_
          rotate_left
          · intro w hS; (try dsimp only at hS); obtain ⟨hS0, hS1, hS2, hS3, hS4⟩ := hS; go_simp; first | done | (with_reducible rfl)
          try simp only [Act.put, ly1, ly2, ly3]
          refine onlyH (i := 18) rfl (by kernel_rfl) rfl (fun K hK => ?_)
          refine wp_append_run (.tmp 19) (.tmp 21) 69 rfl rfl rfl HRUN.out ?_
          refine hK.out _ _ (e3) (fun hHeld => ?_)
          clear hK K
          try simp only [Act.put, ly1, ly2, ly3]
          refine takeH (i := 19) (v := ?_) rfl (by kernel_rfl) (by kernel_rfl) (by kernel_rfl) (fun _ _ _ h => h) rfl ?_ hHeld ?_
          rotate_left
          · intro w hS; (try dsimp only at hS); obtain ⟨hS0, hS1, hS2, hS3, hS4⟩ := hS; go_simp; first | done | (with_reducible rfl)
          try simp only [Act.put, ly1, ly2, ly3]
          refine takeH (i := 20) (v := ?_) rfl (by kernel_rfl) (by kernel_rfl) (by kernel_rfl) (fun _ _ _ h => h) rfl ?_ hHeld ?_
          rotate_left
          · intro w hS; (try dsimp only at hS); obtain ⟨hS0, hS1, hS2, hS3, hS4⟩ := hS; go_simp; first | done | (with_reducible rfl)
          try simp only [Act.put, ly1, ly2, ly3]
          refine onlyH (i := 21) rfl (by kernel_rfl) rfl (fun K hK => ?_)
          go_simp
          rw [← HW4.out]
          refine hK.out _ _ (e4) (fun hHeld => ?_)
          clear hK K
          try simp only [Act.put, ly1, ly2, ly3]
          refine wpAnyH_done (by kernel_rfl) ?_ _
          go_wp2_with fail
          go_meet
          exact ⟨rfl, rfl⟩
        · refine Up.mk rfl rfl (fun K hK => ?_)
          go_simp
          refine hK.out _ _ e2 (fun hHeld => ?_)
          clear hK K
          try simp only [Act.put, ly1, ly2, ly3]
          refine takeH (i := 14) (v := ?_) rfl (by kernel_rfl) (by kernel_rfl) (by kernel_rfl) (fun _ _ _ h => h) rfl ?_ hHeld ?_
          rotate_left
          · intro w hS; (try dsimp only at hS); obtain ⟨hS0, hS1, hS2, hS3, hS4⟩ := hS; go_simp; first | done | (with_reducible rfl)
          try simp only [Act.put, ly1, ly2, ly3]
          refine onlyH (i := 8) rfl (by kernel_rfl) rfl (fun K hK => ?_)
          go_simp
          refine hK.out _ _ e2 (fun hHeld => ?_)
          clear hK K
          try simp only [Act.put, ly1, ly2, ly3]
          refine takeH (i := 9) (v := ?_) rfl (by kernel_rfl) (by kernel_rfl) (by kernel_rfl) (fun _ _ _ h => h) rfl ?_ hHeld ?_
          rotate_left
          · intro w hS; (try dsimp only at hS); obtain ⟨hS0, hS1, hS2, hS3, hS4⟩ := hS; go_simp; first | done | (with_reducible rfl)
          try simp only [Act.put, ly1, ly2, ly3]
          refine takeH (i := 15) (v := ?_) rfl (by kernel_rfl) (by kernel_rfl) (by kernel_rfl) (fun _ _ _ h => h) rfl ?_ hHeld ?_
          rotate_left
          · intro w hS; (try dsimp only at hS); obtain ⟨hS0, hS1, hS2, hS3, hS4⟩ := hS; go_simp; first | done | (with_reducible rfl)
          try simp only [Act.put, ly1, ly2, ly3]
          refine onlyH (i := 18) rfl (by kernel_rfl) rfl (fun K hK => ?_)
          refine wp_append_run (.tmp 19) (.tmp 21) 69 rfl rfl rfl HRUN.out ?_
          refine hK.out _ _ (e3) (fun hHeld => ?_)
          clear hK K
          try simp only [Act.put, ly1, ly2, ly3]
          refine takeH (i := 19) (v := ?_) rfl (by kernel_rfl) (by kernel_rfl) (by kernel_rfl) (fun _ _ _ h => h) rfl ?_ hHeld ?_
          rotate_left
          · intro w hS; (try dsimp only at hS); obtain ⟨hS0, hS1, hS2, hS3, hS4⟩ := hS; go_simp; first | done | (with_reducible rfl)
          try simp only [Act.put, ly1, ly2, ly3]
          refine takeH (i := 20) (v := ?_) rfl (by kernel_rfl) (by kernel_rfl) (by kernel_rfl) (fun _ _ _ h => h) rfl ?_ hHeld ?_
          rotate_left
          · intro w hS; (try dsimp only at hS); obtain ⟨hS0, hS1, hS2, hS3, hS4⟩ := hS; go_simp; first | done | (with_reducible rfl)
          try simp only [Act.put, ly1, ly2, ly3]
          refine onlyH (i := 21) rfl (by kernel_rfl) rfl (fun K hK => ?_)
          go_simp
          rw [← HW4.out]
          refine hK.out _ _ (e4) (fun hHeld => ?_)
          clear hK K
          try simp only [Act.put, ly1, ly2, ly3]
          refine wpAnyH_done (by kernel_rfl) ?_ _
          go_wp2_with fail
          go_meet
          exact ⟨rfl, rfl⟩
      · refine Up.mk rfl rfl (fun K hK => ?_)
        go_simp
        refine hK.out _ _ e2 (fun hHeld => ?_)
        clear hK K
        try simp only [Act.put, ly1, ly2, ly3]
        refine takeH (i := 9) (v := ?_) rfl (by kernel_rfl) (by kernel_rfl) (by kernel_rfl) (fun _ _ _ h => h) rfl ?_ hHeld ?_
        rotate_left
        · intro w hS; (try dsimp only at hS); obtain ⟨hS0, hS1, hS2, hS3, hS4⟩ := hS; go_simp; first | done | (with_reducible rfl)
        try simp only [Act.put, ly1, ly2, ly3]
        refine manyH (rs := [4, 13]) (by kernel_rfl) (by simp) (by intro i hi; simp at hi; rcases hi with rfl | rfl <;> decide) (up2 ?_ ?_)
        · refine Up.mk rfl rfl (fun K hK => ?_)
          go_simp
          refine hK.out _ _ e2 (fun hHeld => ?_)
          clear hK K
          try simp only [Act.put, ly1, ly2, ly3]
          refine onlyH (i := 13) rfl (by kernel_rfl) rfl (fun K hK => ?_)
          go_simp
          refine hK.out _ _ e2 (fun hHeld => ?_)
          clear hK K
          try simp only [Act.put, ly1, ly2, ly3]
          refine takeH (i := 14) (v := ?_) rfl (by kernel_rfl) (by kernel_rfl) (by kernel_rfl) (fun _ _ _ h => h) rfl ?_ hHeld ?_
          rotate_left
          · intro w hS; (try dsimp only at hS); obtain ⟨hS0, hS1, hS2, hS3, hS4⟩ := hS; go_simp; first | done | (with_reducible rfl)
          try simp only [Act.put, ly1, ly2, ly3]
          refine takeH (i := 15) (v := ?_) rfl (by kernel_rfl) (by kernel_rfl) (by kernel_rfl) (fun _ _ _ h => h) rfl ?_ hHeld ?_
          rotate_left
          · intro w hS; (try dsimp only at hS); obtain ⟨hS0, hS1, hS2, hS3, hS4⟩ := hS; go_simp; first | done | (with_reducible rfl)
          try simp only [Act.put, ly1, ly2, ly3]
          refine onlyH (i := 18) rfl (by kernel_rfl) rfl (fun K hK => ?_)
          refine wp_append_run (.tmp 19) (.tmp 21) 69 rfl rfl rfl HRUN.out ?_
          refine hK.out _ _ (e3) (fun hHeld => ?_)
          clear hK K
          try simp only [Act.put, ly1, ly2, ly3]
          refine takeH (i := 19) (v := ?_) rfl (by kernel_rfl) (by kernel_rfl) (by kernel_rfl) (fun _ _ _ h => h) rfl ?_ hHeld ?_
          rotate_left
          · intro w hS; (try dsimp only at hS); obtain ⟨hS0, hS1, hS2, hS3, hS4⟩ := hS; go_simp; first | done | (with_reducible rfl)
          try simp only [Act.put, ly1, ly2, ly3]
          refine takeH (i := 20) (v := ?_) rfl (by kernel_rfl) (by kernel_rfl) (by kernel_rfl) (fun _ _ _ h => h) rfl ?_ hHeld ?_
          rotate_left
          · intro w hS; (try dsimp only at hS); obtain ⟨hS0, hS1, hS2, hS3, hS4⟩ := hS; go_simp; first | done | (with_reducible rfl)
          try simp only [Act.put, ly1, ly2, ly3]
          refine onlyH (i := 21) rfl (by kernel_rfl) rfl (fun K hK => ?_)
          go_simp
          rw [← HW4.out]
          refine hK.out _ _ (e4) (fun hHeld => ?_)
          clear hK K
          try simp only [Act.put, ly1, ly2, ly3]
          refine wpAnyH_done (by kernel_rfl) ?_ _
          go_wp2_with fail
          go_meet
          exact ⟨rfl, rfl⟩
        · refine Up.mk rfl rfl (fun K hK => ?_)
          go_simp
          refine hK.out _ _ e2 (fun hHeld => ?_)
          clear hK K
          try simp only [Act.put, ly1, ly2, ly3]
          refine takeH (i := 14) (v := ?_) rfl (by kernel_rfl) (by kernel_rfl) (by kernel_rfl) (fun _ _ _ h => h) rfl ?_ hHeld ?_
          rotate_left
          · intro w hS; (try dsimp only at hS); obtain ⟨hS0, hS1, hS2, hS3, hS4⟩ := hS; go_simp; first | done | (with_reducible rfl)
          try simp only [Act.put, ly1, ly2, ly3]
          refine onlyH (i := 4) rfl (by kernel_rfl) rfl (fun K hK => ?_)
          go_simp
          refine hK.out _ _ e2 (fun hHeld => ?_)
          clear hK K
          try simp only [Act.put, ly1, ly2, ly3]
          refine takeH (i := 15) (v := ?_) rfl (by kernel_rfl) (by kernel_rfl) (by kernel_rfl) (fun _ _ _ h => h) rfl ?_ hHeld ?_
          rotate_left
          · intro w hS; (try dsimp only at hS); obtain ⟨hS0, hS1, hS2, hS3, hS4⟩ := hS; go_simp; first | done | (with_reducible rfl)
          try simp only [Act.put, ly1, ly2, ly3]
          refine onlyH (i := 18) rfl (by kernel_rfl) rfl (fun K hK => ?_)
          refine wp_append_run (.tmp 19) (.tmp 21) 69 rfl rfl rfl HRUN.out ?_
          refine hK.out _ _ (e3) (fun hHeld => ?_)
          clear hK K
          try simp only [Act.put, ly1, ly2, ly3]
          refine takeH (i := 19) (v := ?_) rfl (by kernel_rfl) (by kernel_rfl) (by kernel_rfl) (fun _ _ _ h => h) rfl ?_ hHeld ?_
          rotate_left
          · intro w hS; (try dsimp only at hS); obtain ⟨hS0, hS1, hS2, hS3, hS4⟩ := hS; go_simp; first | done | (with_reducible rfl)
          try simp only [Act.put, ly1, ly2, ly3]
          refine takeH (i := 20) (v := ?_) rfl (by kernel_rfl) (by kernel_rfl) (by kernel_rfl) (fun _ _ _ h => h) rfl ?_ hHeld ?_
          rotate_left
          · intro w hS; (try dsimp only at hS); obtain ⟨hS0, hS1, hS2, hS3, hS4⟩ := hS; go_simp; first | done | (with_reducible rfl)
          try simp only [Act.put, ly1, ly2, ly3]
          refine onlyH (i := 21) rfl (by kernel_rfl) rfl (fun K hK => ?_)
          go_simp
          rw [← HW4.out]
          refine hK.out _ _ (e4) (fun hHeld => ?_)
          clear hK K
          try simp only [Act.put, ly1, ly2, ly3]
          refine wpAnyH_done (by kernel_rfl) ?_ _
          go_wp2_with fail
          go_meet
          exact ⟨rfl, rfl⟩
      · refine Up.mk rfl rfl (fun K hK => ?_)
        go_simp
        refine hK.out _ _ e2 (fun hHeld => ?_)
        clear hK K
        try simp only [Act.put, ly1, ly2, ly3]
        refine takeH (i := 14) (v := ?_) rfl (by kernel_rfl) (by kernel_rfl) (by kernel_rfl) (fun _ _ _ h => h) rfl ?_ hHeld ?_
        rotate_left
        · intro w hS; (try dsimp only at hS); obtain ⟨hS0, hS1, hS2, hS3, hS4⟩ := hS; go_simp; first | done | (with_reducible rfl)
        try simp only [Act.put, ly1, ly2, ly3]
        refine manyH (rs := [4, 8]) (by kernel_rfl) (by simp) (by intro i hi; simp at hi; rcases hi with rfl | rfl <;> decide) (up2 ?_ ?_)
        · refine Up.mk rfl rfl (fun K hK => ?_)
          go_simp
          refine hK.out _ _ e2 (fun hHeld => ?_)
          clear hK K
          try simp only [Act.put, ly1, ly2, ly3]
          refine onlyH (i := 8) rfl (by kernel_rfl) rfl (fun K hK => ?_)
          go_simp
          refine hK.out _ _ e2 (fun hHeld => ?_)
          clear hK K
          try simp only [Act.put, ly1, ly2, ly3]
          refine takeH (i := 9) (v := ?_) rfl (by kernel_rfl) (by kernel_rfl) (by kernel_rfl) (fun _ _ _ h => h) rfl ?_ hHeld ?_
          rotate_left
          · intro w hS; (try dsimp only at hS); obtain ⟨hS0, hS1, hS2, hS3, hS4⟩ := hS; go_simp; first | done | (with_reducible rfl)
          try simp only [Act.put, ly1, ly2, ly3]
          refine takeH (i := 15) (v := ?_) rfl (by kernel_rfl) (by kernel_rfl) (by kernel_rfl) (fun _ _ _ h => h) rfl ?_ hHeld ?_
          rotate_left
          · intro w hS; (try dsimp only at hS); obtain ⟨hS0, hS1, hS2, hS3, hS4⟩ := hS; go_simp; first | done | (with_reducible rfl)
          try simp only [Act.put, ly1, ly2, ly3]
          refine onlyH (i := 18) rfl (by kernel_rfl) rfl (fun K hK => ?_)
          refine wp_append_run (.tmp 19) (.tmp 21) 69 rfl rfl rfl HRUN.out ?_
          refine hK.out _ _ (e3) (fun hHeld => ?_)
          clear hK K
          try simp only [Act.put, ly1, ly2, ly3]
          refine takeH (i := 19) (v := ?_) rfl (by kernel_rfl) (by kernel_rfl) (by kernel_rfl) (fun _ _ _ h => h) rfl ?_ hHeld ?_
          rotate_left
          · intro w hS; (try dsimp only at hS); obtain ⟨hS0, hS1, hS2, hS3, hS4⟩ := hS; go_simp; first | done | (with_reducible rfl)
          try simp only [Act.put, ly1, ly2, ly3]
          refine takeH (i := 20) (v := ?_) rfl (by kernel_rfl) (by kernel_rfl) (by kernel_rfl) (fun _ _ _ h => h) rfl ?_ hHeld ?_
          rotate_left
          · intro w hS; (try dsimp only at hS); obtain ⟨hS0, hS1, hS2, hS3, hS4⟩ := hS; go_simp; first | done | (with_reducible rfl)
          try simp only [Act.put, ly1, ly2, ly3]
          refine onlyH (i := 21) rfl (by kernel_rfl) rfl (fun K hK => ?_)
          go_simp
          rw [← HW4.out]
          refine hK.out _ _ (e4) (fun hHeld => ?_)
          clear hK K
          try simp only [Act.put, ly1, ly2, ly3]
          refine wpAnyH_done (by kernel_rfl) ?_ _
          go_wp2_with fail
          go_meet
          exact ⟨rfl, rfl⟩
        · refine Up.mk rfl rfl (fun K hK => ?_)
          go_simp
          refine hK.out _ _ e2 (fun hHeld => ?_)
          clear hK K
          try simp only [Act.put, ly1, ly2, ly3]
          refine takeH (i := 9) (v := ?_) rfl (by kernel_rfl) (by kernel_rfl) (by kernel_rfl) (fun _ _ _ h => h) rfl ?_ hHeld ?_
          rotate_left
          · intro w hS; (try dsimp only at hS); obtain ⟨hS0, hS1, hS2, hS3, hS4⟩ := hS; go_simp; first | done | (with_reducible rfl)
          try simp only [Act.put, ly1, ly2, ly3]
          refine onlyH (i := 4) rfl (by kernel_rfl) rfl (fun K hK => ?_)
          go_simp
          refine hK.out _ _ e2 (fun hHeld => ?_)
          clear hK K
          try simp only [Act.put, ly1, ly2, ly3]
          refine takeH (i := 15) (v := ?_) rfl (by kernel_rfl) (by kernel_rfl) (by kernel_rfl) (fun _ _ _ h => h) rfl ?_ hHeld ?_
          rotate_left
          · intro w hS; (try dsimp only at hS); obtain ⟨hS0, hS1, hS2, hS3, hS4⟩ := hS; go_simp; first | done | (with_reducible rfl)
          try simp only [Act.put, ly1, ly2, ly3]
          refine onlyH (i := 18) rfl (by kernel_rfl) rfl (fun K hK => ?_)
          refine wp_append_run (.tmp 19) (.tmp 21) 69 rfl rfl rfl HRUN.out ?_
          refine hK.out _ _ (e3) (fun hHeld => ?_)
          clear hK K
          try simp only [Act.put, ly1, ly2, ly3]
          refine takeH (i := 19) (v := ?_) rfl (by kernel_rfl) (by kernel_rfl) (by kernel_rfl) (fun _ _ _ h => h) rfl ?_ hHeld ?_
          rotate_left
          · intro w hS; (try dsimp only at hS); obtain ⟨hS0, hS1, hS2, hS3, hS4⟩ := hS; go_simp; first | done | (with_reducible rfl)
          try simp only [Act.put, ly1, ly2, ly3]
          refine takeH (i := 20) (v := ?_) rfl (by kernel_rfl) (by kernel_rfl) (by kernel_rfl) (fun _ _ _ h => h) rfl ?_ hHeld ?_
          rotate_left
          · intro w hS; (try dsimp only at hS); obtain ⟨hS0, hS1, hS2, hS3, hS4⟩ := hS; go_simp; first | done | (with_reducible rfl)
          try simp only [Act.put, ly1, ly2, ly3]
          refine onlyH (i := 21) rfl (by kernel_rfl) rfl (fun K hK => ?_)
          go_simp
          rw [← HW4.out]
          refine hK.out _ _ (e4) (fun hHeld => ?_)
          clear hK K
          try simp only [Act.put, ly1, ly2, ly3]
          refine wpAnyH_done (by kernel_rfl) ?_ _
          go_wp2_with fail
          go_meet
          exact ⟨rfl, rfl⟩
  case rest =>
    obtain ⟨rfl, rfl⟩ := hcut
    obtain ⟨hb4, hown4, hdir4, hx4, hc4⟩ := HALL.out
    have hcW : Chg (· = r) w W4 := (((HCC.out.1.then HCC.out.2.1).then HCC.out.2.2).mono fun _ _ h => h.elim).then hc4
    have hBW : B ≤ W4.heap.size := Nat.le_trans hBw hcW.size
    have y1 := cell_of hb4 1
    have HH := hide h
    clear HALL p3 p3' p4 t3 h e1 e2 e3
    go_wp2_with fail
    refine wp_region_held_drew (S := fun W => W.cell? ⟨w.heap.size, 0, none⟩ = some (.int .i64 q0) ∧ W.cell? ⟨w.heap.size, 1, none⟩ = some (.string q1) ∧ W.cell? ⟨w.heap.size, 2, none⟩ = some (.string q2) ∧ W.cell? ⟨w.heap.size, 3, none⟩ = some (.int .i64 q3) ∧ W.cell? ⟨w.heap.size, 4, none⟩ = some (.int .i64 q4)) (by kernel_rfl) (e4) (fun hHeld => ?_)
    refine takeH (i := 0) (v := ?_) rfl (by kernel_rfl) (by kernel_rfl) (by kernel_rfl) (fun _ _ _ h => h) rfl ?_ hHeld ?_
    rotate_left
    · intro w hS; (try dsimp only at hS); obtain ⟨hS0, hS1, hS2, hS3, hS4⟩ := hS; go_simp; first | done | (with_reducible rfl)
    try simp only [Act.put, ly1, ly2, ly3]
    refine takeH (i := 1) (v := ?_) rfl (by kernel_rfl) (by kernel_rfl) (by kernel_rfl) (fun _ _ _ h => h) rfl ?_ hHeld ?_
    rotate_left
    · intro w hS; (try dsimp only at hS); obtain ⟨hS0, hS1, hS2, hS3, hS4⟩ := hS; go_simp; first | done | (with_reducible rfl)
    try simp only [Act.put, ly1, ly2, ly3]
    refine takeH (i := 2) (v := ?_) rfl (by kernel_rfl) (by kernel_rfl) (by kernel_rfl) (fun _ _ _ h => h) rfl ?_ hHeld ?_
    rotate_left
    · intro w hS; (try dsimp only at hS); obtain ⟨hS0, hS1, hS2, hS3, hS4⟩ := hS; go_simp; first | done | (with_reducible rfl)
    try simp only [Act.put, ly1, ly2, ly3]
    refine takeH (i := 3) (v := ?_) rfl (by kernel_rfl) (by kernel_rfl) (by kernel_rfl) (fun _ _ _ h => h) rfl ?_ hHeld ?_
    rotate_left
    · intro w hS; (try dsimp only at hS); obtain ⟨hS0, hS1, hS2, hS3, hS4⟩ := hS; go_simp; first | done | (with_reducible rfl)
    try simp only [Act.put, ly1, ly2, ly3]
    refine takeH (i := 5) (v := ?_) rfl (by kernel_rfl) (by kernel_rfl) (by kernel_rfl) (fun _ _ _ h => h) rfl ?_ hHeld ?_
    rotate_left
    · intro w hS; (try dsimp only at hS); obtain ⟨hS0, hS1, hS2, hS3, hS4⟩ := hS; go_simp; first | done | (with_reducible rfl)
    try simp only [Act.put, ly1, ly2, ly3]
    refine onlyH (i := 4) rfl (by kernel_rfl) rfl (fun K hK => ?_)
    go_simp
    refine hK.out _ _ (e4) (fun hHeld => ?_)
    clear hK K
    try simp only [Act.put, ly1, ly2, ly3]
    refine onlyH (i := 6) rfl (by kernel_rfl) rfl (fun K hK => ?_)
    go_simp
    have hdir5 := own_keep hdir4 ((Chg.refl (fun _ => False) W4).drew) (fun _ _ h => h)
    refine (HX.out W4.drew hBW G.dv hdir5).mono ?_
    rintro e w6 ⟨v2, rfl, hv2, hor, hc6⟩
    obtain ⟨va2, vc2, rfl⟩ := own_shape hv2
    generalize hnn : (doneD S.dir a).length = nn at *
    have hx6 := hc6.keep (show W4.drew.heap[w.heap.size]? = some _ from hx4) (fun h => h)
    have hb6 := hc6.keep (show W4.drew.heap[r]? = some _ from hb4) (fun h => h)
    have z1 := cell_of hb6 1
    have t1 := thawed hb6 1
    have z0 := cell_of hx6 0
    have e6 : w6.cell? ⟨w.heap.size, 0, none⟩ = some (.int .i64 q0) ∧ w6.cell? ⟨w.heap.size, 1, none⟩ = some (.string q1) ∧ w6.cell? ⟨w.heap.size, 2, none⟩ = some (.string q2) ∧ w6.cell? ⟨w.heap.size, 3, none⟩ = some (.int .i64 q3) ∧ w6.cell? ⟨w.heap.size, 4, none⟩ = some (.int .i64 q4) := ⟨cell_of hx6 0, cell_of hx6 1, cell_of hx6 2, cell_of hx6 3, cell_of hx6 4⟩
    have hx7 : (w6.setCell ⟨r, 1, none⟩ (.slice va2 nn vc2)).heap[w.heap.size]? = some _ := heap_set_other hx6 (by simp; omega)
    have z07 := cell_of hx7 0
    have HB6 := hide hb6
    have HO := hide hor
    have HV2 := hide hv2
    clear hor hv2 hb6
    refine hK.out _ _ (e6) (fun hHeld => ?_)
    clear hK K
    try simp only [Act.put, ly1, ly2, ly3]
    refine takeH (i := 7) (v := ?_) rfl (by kernel_rfl) (by kernel_rfl) (by kernel_rfl) (fun _ _ _ h => h) rfl ?_ hHeld ?_
    rotate_left
    · intro w hS; (try dsimp only at hS); obtain ⟨hS0, hS1, hS2, hS3, hS4⟩ := hS; go_simp; first | done | (with_reducible rfl)
    try simp only [Act.put, ly1, ly2, ly3]
    refine takeH (i := 8) (v := ?_) rfl (by kernel_rfl) (by kernel_rfl) (by kernel_rfl) (fun _ _ _ h => h) rfl ?_ hHeld ?_
    rotate_left
    · intro w hS; (try dsimp only at hS); obtain ⟨hS0, hS1, hS2, hS3, hS4⟩ := hS; go_simp; first | done | (with_reducible rfl)
    try simp only [Act.put, ly1, ly2, ly3]
    refine onlyH (i := 9) rfl (by kernel_rfl) rfl (fun K hK => ?_)
    go_simp
    refine hK.out _ _ (⟨cell_of hx7 0, cell_of hx7 1, cell_of hx7 2, cell_of hx7 3, cell_of hx7 4⟩) (fun hHeld => ?_)
    clear hK K
    try simp only [Act.put, ly1, ly2, ly3]
    refine wpAnyH_done (by kernel_rfl) ?_ _
    clear hHeld
    have hall : ∃ G', RR B (w6.setCell ⟨r, 1, none⟩ (.slice va2 nn vc2)) (Fx R w (w6.setCell ⟨r, 1, none⟩ (.slice va2 nn vc2))) r (S.act a) G' ∧ G'.ks = G.ks ∧ G'.fv = G.fv ∧ Chg (· = r) w (w6.setCell ⟨r, 1, none⟩ (.slice va2 nn vc2)) := by
      have hc67 := chg_set w6 r 1 (.slice va2 nn vc2)
      have hc46 : Chg (fun _ => False) W4 w6 := ((Chg.refl _ W4).drew).then hc6
      have hcall : Chg (· = r) w (w6.setCell ⟨r, 1, none⟩ (.slice va2 nn vc2)) := (hcW.then (hc46.mono fun _ _ h => h.elim)).then hc67
      have hsz := hcW.size
      have hv7 := own_keep HV2.out hc67 (fun k hk e => by
        obtain ⟨cur, hcur⟩ := own_block HV2.out hk
        exact ne_tag hcur HB6.out (show 78 ≠ 72 by decide) e)
      have ho6 := own_keep hown4 hc46 (fun _ _ h => h)
      have ho7 := own_keep ho6 hc67 (fun k hk e => by
        obtain ⟨cur, hcur⟩ := own_block ho6 hk
        exact ne_tag hcur HB6.out (show 117 ≠ 72 by decide) e)
      have hs2' : w.heap.size ≤ W2.heap.size := Nat.le_trans HCC.out.1.size HCC.out.2.1.size
      refine ⟨{ G with dv := .slice va2 nn vc2, av := .slice va (S.acts.length + 1) vc }, HH.out.newRows hcall (heap_set HB6.out 1 _) ⟨rfl, rfl⟩ ?_ ?_ (own_keep HH.out.sur hcall HH.out.neS) (fun k hk => Or.inl (HH.out.surR k hk)) ?_ ?_ ⟨rfl, rfl, rfl⟩ HH.out.off HH.out.cut, rfl, rfl, hcall⟩
      · show World.ownsRow _ B _ 2 _ (doneD S.dir a).length _
        rw [hnn]
        exact hv7
      · intro k hk
        rcases HO.out with e | e
        · exact Or.inl (HH.out.dirR k (by rw [← e]; exact hk))
        · have h1 := e k hk
          exact Or.inr (Nat.le_trans hsz h1)
      · show World.ownsRow _ B _ 5 _ (S.acts ++ [a]).length (acs (S.acts ++ [a]))
        rw [acs_append, acs_one, hac, List.length_append]
        exact own_down ho7 (Nat.le_trans hBw hs2')
      · intro k hk
        have h1 := (own_lt ho7 k hk).1
        exact Or.inr (Nat.le_trans hs2' h1)
    have HALL := hide hall
    clear hall
    by_cases hq : q0 = 3
    · have hqb : (q0 == 3) = true := by simp [hq]
      clear hq
      go_wp2
      refine bodyPost_ret (results_none rfl _ _ _) rfl ?_
      exact ⟨rfl, HALL.out⟩
    · have hqb : (q0 == 3) = false := by simp [hq]
      clear hq
      go_wp2
      go_end0
      exact ⟨rfl, HALL.out⟩
end Go.Proofs.Ytlejgdjkdbamkaa
