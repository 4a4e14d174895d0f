/-
  Texts joined: Made, Settle, Rep.
-/
import Derived.Test.YthjcimgollfmgaaGreatDoorP2Acts
import Derived.Laws.EntriesVeiled
/-
  What making a file, and letting bytes come behind it, do to memory: made, extend. Conditions: what lies there is told by hypotheses; room.
-/
namespace Go.Proofs.YthjcimgollfmgaaGreatDoor
open Go.RowKit

theorem enters69 : ∀ args w, (callFunc 101 args).run Tryz.prog w = .ok (.enter 101 args) w := enters_of Tryz.func101 (by kernel_rfl) rfl

set_option maxRecDepth 20000 in
set_option maxHeartbeats 400000 in
/-- A file is made under a name. -/
theorem made_any (w : World) (d bn n : Nat) (nm : Nm) (l : List (Value × Value)) (r u s lv o c1 c2 fl : Value) (xs : List Value)
    (hd : w.heap[d]? = some (.cells #[r, u, .map (some bn), s, lv, o, c1, c2, fl] 63)) (hm : MapW w bn l) (hk : ∀ p ∈ l, KStr p.1) (hl : ∀ p ∈ l, p.1 ≠ .string (strB nm))
    (hrow : w.ownsRow 0 88 2 lv n xs) (hn : n < 1099511627776) (hnm : nm.length ≤ 80) :
    Calls Tryz.prog 75 #[.pointer (some ⟨d, 0, none⟩), .string (strB nm)] w fun e w' => ∃ q c cf cn lv', e = .returned (.pointer (some ⟨q, 0, none⟩)) ∧
      w'.heap[d]? = some (.cells #[r, u, .map (some bn), s, lv', o, c1, c2, fl] 63) ∧ MapW w' bn ((.string (strB nm), .pointer (some ⟨q, 0, none⟩)) :: l) ∧
      w'.heap[q]? = some (.cells #[.slice none 0 0, .int .i64 0, .bool true] 80) ∧
      w'.ownsRow 0 88 2 lv' (n + 1) (xs ++ [.pointer none, .func (.func 104) #[] #[.pointer (some ⟨c, 0, none⟩)]]) ∧
      w'.heap[c]? = some (.cells #[.func (.func 101) #[] #[.pointer (some ⟨cf, 0, none⟩), .pointer (some ⟨cn, 0, none⟩)]] 134) ∧
      w'.heap[cf]? = some (.cells #[.pointer (some ⟨q, 0, none⟩)] 77) ∧ w'.heap[cn]? = some (.cells #[.string (strB nm)] 9) ∧
      w.heap.size ≤ q ∧ w.heap.size ≤ c ∧ w.heap.size ≤ cf ∧ w.heap.size ≤ cn ∧
      (lv'.ownBlock = lv.ownBlock ∨ ∃ q, lv'.ownBlock = some q ∧ w.heap.size ≤ q) ∧ Chg (fun k => k = d ∨ k = bn ∨ some k = lv.ownBlock) w w' := by
  have hmf : ∀ (fn : Fn) (first cap : Array Value) (w : World), (Instr.makeFunc fn first cap).run Tryz.prog w = .ok (.func fn first cap) w := fun _ _ _ _ => rfl
  have h0 := heap_last w (.cells #[.string (strB nm)] 9)
  have z0 := cell_of h0 0
  have HD := hide hd
  have HM := hide hm
  have HK := hide hk
  have HL := hide hl
  have HR := hide hrow
  clear hd hm hk hl hrow
  go_enter Tryz.func75, Tryz.ntmps75
  go_wp2_with (go_at_call 28; refine (copyStr_any _ nm (by omega)).mono ?_; rintro e w2 ⟨rfl, hb2⟩; have h2 := (hb2.block w.heap.size (by simp)).trans h0; have z2 := cell_of h2 0; have y2 := thawed h2 0)
  have hsz3 : (w2.setCell ⟨w.heap.size, 0, none⟩ (.string (strB nm))).heap.size = w2.heap.size := by simp [World.setCell]
  have hg2 : Chg (fun _ => False) w w2 := ((Chg.refl _ w).alloc _).trans (Chg.of_below hb2) (fun i hi h => by simp at h; omega)
  have hc3 : Chg (fun _ => False) w (w2.setCell ⟨w.heap.size, 0, none⟩ (.string (strB nm))) := hg2.setCell (p := ⟨w.heap.size, 0, none⟩) (Or.inr (Nat.le_refl _)) _
  have k3 := heap_set h2 0 (.string (strB nm))
  have kn := heap_past (.cells #[.pointer (some ⟨w2.heap.size, 0, none⟩)] 77) (heap_past (.cells #[.slice none 0 0, .int .i64 0, .bool true] 80) k3)
  have kq := heap_past (.cells #[.pointer (some ⟨w2.heap.size, 0, none⟩)] 77) (heap_last (w2.setCell ⟨w.heap.size, 0, none⟩ (.string (strB nm))) (.cells #[.slice none 0 0, .int .i64 0, .bool true] 80))
  have kc := heap_last ((w2.setCell ⟨w.heap.size, 0, none⟩ (.string (strB nm))).alloc (.cells #[.slice none 0 0, .int .i64 0, .bool true] 80)) (.cells #[.pointer (some ⟨w2.heap.size, 0, none⟩)] 77)
  rw [hsz3] at kq
  rw [show ((w2.setCell ⟨w.heap.size, 0, none⟩ (.string (strB nm))).alloc (.cells #[.slice none 0 0, .int .i64 0, .bool true] 80)).heap.size = w2.heap.size + 1 by simp [World.setCell]] at kc
  have hc6 : Chg (fun _ => False) w (((w2.setCell ⟨w.heap.size, 0, none⟩ (.string (strB nm))).alloc (.cells #[.slice none 0 0, .int .i64 0, .bool true] 80)).alloc (.cells #[.pointer (some ⟨w2.heap.size, 0, none⟩)] 77)) := (hc3.alloc _).alloc _
  have hws : w.heap.size + 1 ≤ w2.heap.size := by have := hb2.size; simpa using this
  generalize ((w2.setCell ⟨w.heap.size, 0, none⟩ (.string (strB nm))).alloc (.cells #[.slice none 0 0, .int .i64 0, .bool true] 80)).alloc (.cells #[.pointer (some ⟨w2.heap.size, 0, none⟩)] 77) = W at *
  obtain ⟨q, hq⟩ : ∃ q, q = w2.heap.size := ⟨_, rfl⟩
  obtain ⟨cn, hcn⟩ : ∃ cn, cn = w.heap.size := ⟨_, rfl⟩
  rw [← hq] at kq kc hws ⊢
  rw [← hcn] at kn ⊢
  have kd := hc6.keep HD.out (fun h => h)
  have km := HM.out.keep hc6 (fun h => h)
  have kr := own_keep HR.out hc6 (fun _ _ h => h)
  have hcall := change_gen W d bn n 101 #[.pointer (some ⟨q + 1, 0, none⟩), .pointer (some ⟨cn, 0, none⟩)] l ((.string (strB nm), .pointer (some ⟨q, 0, none⟩)) :: l) r u s lv o c1 c2 fl xs kd km kr hn enters69
    (fun W' hW' => made1_raw W' bn (q + 1) cn l nm q (km.keep hW' (fun h => h)) HK.out HL.out (hW'.keep kc (fun h => h)) (hW'.keep kn (fun h => h)))
  have HKQ := hide kq
  have HKC := hide kc
  have HKN := hide kn
  have HKM := hide km
  have HKR := hide kr
  have HKD := hide kd
  clear kq kn km kr kd k3 h0 z0 h2 z2 y2
  refine hcall.mono ?_
  rintro e w7 ⟨rfl, c, lv', r1, r2, r3, r4, r5, r6, r7⟩
  have hn1 : ∀ k x, W.heap[k]? = some x → (∀ cc, x ≠ .cells cc 63 (0, 0)) → (∀ es ck, x ≠ .map es ck) → (∀ cc, x ≠ .cells cc 88 (0, 0)) → ¬ (k = d ∨ k = bn ∨ some k = lv.ownBlock) := by
    intro k x hx n1 n2 n3 h
    rcases h with rfl | rfl | h
    · rw [HKD.out] at hx
      injection hx with hx
      exact n1 _ hx.symm
    · obtain ⟨es, ck, h1, _⟩ := HKM.out
      rw [h1] at hx
      injection hx with hx
      exact n2 _ _ hx.symm
    · obtain ⟨cur, hcur⟩ := own_block HKR.out h.symm
      rw [hcur] at hx
      injection hx with hx
      exact n3 _ hx.symm
  have j5 := r7.keep HKC.out (hn1 _ _ HKC.out (by intro cc e; injection e with e1 e2; exact absurd e2 (by decide)) (by intro es ck e; cases e) (by intro cc e; injection e with e1 e2; exact absurd e2 (by decide)))
  have z5 := cell_of j5 0
  clear hcall kc
  subst hq
  subst hcn
  go_wp2
  go_ret
  refine ⟨w2.heap.size, c, w2.heap.size + 1, w.heap.size, lv', rfl, r1, r2, ?_, r3, r5, j5, ?_, by omega, Nat.le_trans hc6.size r4, by omega, by omega, ?_, (hc6.mono fun _ _ f => f.elim).then r7⟩
  · exact r7.keep HKQ.out (hn1 _ _ HKQ.out (by intro cc e; injection e with e1 e2; exact absurd e2 (by decide)) (by intro es ck e; cases e) (by intro cc e; injection e with e1 e2; exact absurd e2 (by decide)))
  · exact r7.keep HKN.out (hn1 _ _ HKN.out (by intro cc e; injection e with e1 e2; exact absurd e2 (by decide)) (by intro es ck e; cases e) (by intro cc e; injection e with e1 e2; exact absurd e2 (by decide)))
  · rcases r6 with h | ⟨x, h, hx⟩
    · exact Or.inl h
    · exact Or.inr ⟨x, h, Nat.le_trans hc6.size hx⟩
end Go.Proofs.YthjcimgollfmgaaGreatDoor
namespace Go.Proofs.YthjcimgollfmgaaGreatDoor
open Go.RowKit

def tag : Obj → Nat
  | .cells _ t _ => t
  | .map _ _ => 100000
  | _ => 100001
theorem ne_tag {w : World} {a b : Nat} {x y : Obj} (ha : w.heap[a]? = some x) (hb : w.heap[b]? = some y) (h : tag x ≠ tag y) : a ≠ b :=
  ne_of_obj ha hb fun e => h (by rw [e])

theorem wp_append_run {P : Program} {o : Oper} {a : Act} {w : World} {K : Act → World → Prop} {Q : Exit → Act → World → Prop} (s x : Operand) (t : TypeId)
    (ho : o.op = .call { callee := .builtin .append, args := #[s, x], argTypes := #[t, t] }) {v1 v2 v' : Value} {w' : World} (hs : a.eval s = v1) (hx : a.eval x = v2)
    (hrun : (Builtin.append_ #[t, t] o.type #[v1, v2]).run P w = .ok v' w') (hK : K (a.put o.dst v') w') : o.wp P a w K Q := by
  unfold Oper.wp
  simp [execOp, ho, resolve, invoke, builtin, hs, hx, hrun, Result.andThen]
  exact hK

/-- A slice that is not empty, as the source of an append. -/
theorem Sl.some {w : World} {v : Value} {l : List UInt8} (h : Sl w v l) (hne : l ≠ []) : ∃ b off cap, v = .slice (some ⟨b, off, none⟩) l.length cap ∧ b < w.heap.size ∧ ∀ j u, (bc l)[j]? = some u → w.cell? ⟨b, off + j, none⟩ = some u := by
  obtain ⟨ao, cap, rfl, h1, h2, h3, h4⟩ := h
  obtain ⟨b, off, rfl, hb, hc⟩ := h4 hne
  refine ⟨b, off, cap, rfl, hb, fun j u hu => ?_⟩
  have hj : j < l.length := by
    have := (List.getElem?_eq_some_iff.1 hu).1
    rwa [bc_length] at this
  rw [bc_get l j hj] at hu
  injection hu with hu
  subst hu
  exact hc j hj

set_option maxRecDepth 20000 in
set_option maxHeartbeats 800000 in
/-- Bytes come behind a file's. -/
theorem extend_any (w : World) (d f n : Nat) (old new : List UInt8) (r o1 o2 lv o4 c1 c2 fl bv s nmv v : Value) (used : Int) (xs : List Value)
    (hd : w.heap[d]? = some (.cells #[r, .int .i64 used, o1, o2, lv, o4, c1, c2, fl] 63)) (hf : w.heap[f]? = some (.cells #[bv, s, nmv] 80))
    (hbv : w.ownsRow 0 5 1 bv old.length (bc old)) (hrow : w.ownsRow 0 88 2 lv n xs) (hv : Sl w v new) (hne : new ≠ [])
    (hn : n < 1099511627776) (hu0 : 0 ≤ used) (hu : used + new.length < 4611686018427387904) (hlen : old.length + new.length ≤ 70368744177664) :
    Calls Tryz.prog 76 #[.pointer (some ⟨d, 0, none⟩), .pointer (some ⟨f, 0, none⟩), v] w fun e w' => e = .returned (.tuple #[]) ∧ ∃ bv' lv' cf ck,
      w'.heap[d]? = some (.cells #[r, .int .i64 (used + new.length), o1, o2, lv', o4, c1, c2, fl] 63) ∧ w'.heap[f]? = some (.cells #[bv', s, nmv] 80) ∧
      w'.ownsRow 0 5 1 bv' (old ++ new).length (bc (old ++ new)) ∧
      w'.ownsRow 0 88 2 lv' (n + 1) (xs ++ [.pointer (some ⟨f, 0, none⟩), .func (.func 102) #[] #[.pointer (some ⟨cf, 0, none⟩), .pointer (some ⟨ck, 0, none⟩)]]) ∧
      w'.heap[cf]? = some (.cells #[.pointer (some ⟨f, 0, none⟩)] 77) ∧ w'.heap[ck]? = some (.cells #[.int .i64 (new.length : Int)] 3) ∧ w.heap.size ≤ cf ∧ w.heap.size ≤ ck ∧
      (bv'.ownBlock = bv.ownBlock ∨ ∃ q, bv'.ownBlock = some q ∧ w.heap.size ≤ q) ∧ (lv'.ownBlock = lv.ownBlock ∨ ∃ q, lv'.ownBlock = some q ∧ w.heap.size ≤ q) ∧
      Chg (fun k => k = d ∨ k = f ∨ some k = bv.ownBlock ∨ some k = lv.ownBlock) w w' := by
  have hmf : ∀ (fn : Fn) (first cap : Array Value) (w : World), (Instr.makeFunc fn first cap).run Tryz.prog w = .ok (.func fn first cap) w := fun _ _ _ _ => rfl
  obtain ⟨i5, hi5, hz50, hz51, hz52⟩ := info_parts Tryz.info5
  obtain ⟨i0, hi, hz0, hz1, hz2⟩ := info_parts Tryz.info104
  obtain ⟨vb, vo, cap, rfl, hadb, hcell⟩ := hv.some hne
  -- the two variables
  obtain ⟨W2, hW2⟩ : ∃ W, W = ((w.alloc (.cells #[.pointer (some ⟨f, 0, none⟩)] 77)).alloc (.cells #[.int .i64 (new.length : Int)] 3)).drew := ⟨_, rfl⟩
  have hc2 : Chg (fun _ => False) w W2 := hW2 ▸ (((Chg.refl _ w).alloc _).alloc _).drew
  have p1 : W2.heap[w.heap.size]? = some (.cells #[.pointer (some ⟨f, 0, none⟩)] 77) := hW2 ▸ heap_past _ (heap_last w _)
  have p2 : W2.heap[w.heap.size + 1]? = some (.cells #[.int .i64 (new.length : Int)] 3) := by
    have := heap_last (w.alloc (.cells #[.pointer (some ⟨f, 0, none⟩)] 77)) (.cells #[.int .i64 (new.length : Int)] 3)
    rw [hW2]
    show (World.alloc _ _).heap[_]? = _
    simpa using this
  have hd2 := hc2.keep hd (fun h => h)
  have hf2 := hc2.keep hf (fun h => h)
  have hbv2 := own_keep hbv hc2 (fun _ _ h => h)
  have hrow2 := own_keep hrow hc2 (fun _ _ h => h)
  have hcell2 : ∀ j u, (bc new)[j]? = some u → W2.cell? ((⟨vb, vo, none⟩ : Addr).add j) = some u := fun j u hu => by
    rw [Addr.add_lit, ← hcell j u hu]
    exact World.cell?_of_block (hc2.block _ hadb (fun h => h))
  -- the append
  obtain ⟨bv', W3, hrun3, hown3, hgr3, _, hloc3⟩ := run_append_own_at (P := Tryz.prog) W2 0 78 78 5 i5 (.int .u8 0) 1 1 Tryz.underlying78 hi5 hz50 hz51 hz52 rfl (by decide) bv old.length (bc old) hbv2 ⟨vb, vo, none⟩ new.length cap (bc new) (by rw [bc_length, Nat.mul_one]) hcell2 (bc_one _) (by unfold maxLen; omega) (by omega) (Nat.zero_le _)
  obtain ⟨m, hm⟩ : ∃ m, m = (old ++ new).length := ⟨_, rfl⟩
  rw [← bc_append, ← List.length_append, ← hm] at hown3
  obtain ⟨ba, bcap, rfl⟩ := own_shape hown3
  have hg3 := Chg.of_grown hgr3
  have hbn : ∀ k x, W2.heap[k]? = some x → tag x ≠ 5 → ¬ some k = bv.ownBlock := fun k x hx ht e => by
    obtain ⟨cur, hcur⟩ := own_block hbv2 e.symm
    exact ne_tag hx hcur ht rfl
  have p13 := hg3.keep p1 (hbn _ _ p1 (by simp [tag]))
  have p23 := hg3.keep p2 (hbn _ _ p2 (by simp [tag]))
  have hd3 := hg3.keep hd2 (hbn _ _ hd2 (by simp [tag]))
  have hf3 := hg3.keep hf2 (hbn _ _ hf2 (by simp [tag]))
  have hrow3 := own_keep (w' := W3) (F := fun k => some k = bv.ownBlock) hrow2 hg3 (fun k hk e => by
    obtain ⟨cur, hcur⟩ := own_block hrow2 hk
    exact hbn _ _ hcur (show 88 ≠ 5 by decide) e)
  -- the store
  obtain ⟨W4, hW4⟩ : ∃ W, W = W3.setCell ⟨f, 0, none⟩ (.slice ba m bcap) := ⟨_, rfl⟩
  have hc4 : Chg (· = f) W3 W4 := hW4 ▸ chg_set _ _ _ _
  have p14 := hc4.keep p13 (ne_tag p13 hf3 (by simp [tag]))
  have p24 := hc4.keep p23 (ne_tag p23 hf3 (by simp [tag]))
  have hd4 := hc4.keep hd3 (ne_tag hd3 hf3 (by simp [tag]))
  have hf4 : W4.heap[f]? = some (.cells #[.slice ba m bcap, s, nmv] 80) := hW4 ▸ heap_set hf3 0 _
  have hrow4 := own_keep hrow3 hc4 (fun k hk e => by
    obtain ⟨cur, hcur⟩ := own_block hrow3 hk
    exact ne_tag hcur hf3 (show 88 ≠ 80 by decide) e)
  have hown4 := own_keep hown3 hc4 (fun k hk e => by
    obtain ⟨cur, hcur⟩ := own_block hown3 hk
    exact ne_tag hcur hf3 (show 5 ≠ 80 by decide) e)
  -- used
  obtain ⟨W5, hW5⟩ : ∃ W, W = (W4.setCell ⟨d, 1, none⟩ (.int .i64 (used + new.length))).drew := ⟨_, rfl⟩
  have hc5 : Chg (· = d) W4 W5 := hW5 ▸ (chg_set _ _ _ _).drew
  have p15 := hc5.keep p14 (ne_tag p14 hd4 (by simp [tag]))
  have p25 := hc5.keep p24 (ne_tag p24 hd4 (by simp [tag]))
  have hf5 := hc5.keep hf4 (ne_tag hf4 hd4 (by simp [tag]))
  have hd5 : W5.heap[d]? = some (.cells #[r, .int .i64 (used + new.length), o1, o2, lv, o4, c1, c2, fl] 63) := hW5 ▸ heap_set hd4 1 _
  have hrow5 := own_keep hrow4 hc5 (fun k hk e => by
    obtain ⟨cur, hcur⟩ := own_block hrow4 hk
    exact ne_tag hcur hd4 (show 88 ≠ 63 by decide) e)
  have hown5 := own_keep hown4 hc5 (fun k hk e => by
    obtain ⟨cur, hcur⟩ := own_block hown4 hk
    exact ne_tag hcur hd4 (show 5 ≠ 63 by decide) e)
  -- the act
  have hrow6 : (W5.drew.alloc (.cells #[.pointer (some ⟨f, 0, none⟩), .func (.func 102) #[] #[.pointer (some ⟨w.heap.size, 0, none⟩), .pointer (some ⟨w.heap.size + 1, 0, none⟩)]] 88)).ownsRow 0 88 2 lv n xs := World.ownsRow.alloc (w := W5.drew) hrow5 _
  have hq6 := heap_last W5.drew (.cells #[.pointer (some ⟨f, 0, none⟩), .func (.func 102) #[] #[.pointer (some ⟨w.heap.size, 0, none⟩), .pointer (some ⟨w.heap.size + 1, 0, none⟩)]] 88)
  have hone : ∀ x ∈ [Value.pointer (some ⟨f, 0, none⟩), .func (.func 102) #[] #[.pointer (some ⟨w.heap.size, 0, none⟩), .pointer (some ⟨w.heap.size + 1, 0, none⟩)]], x.oneCell' = true := by
    intro x hx
    simp only [List.mem_cons, List.not_mem_nil, or_false] at hx
    rcases hx with rfl | rfl <;> rfl
  obtain ⟨lv', W7, hrun7, hrow7, hgr7, _, hloc7⟩ := run_append_own_at (P := Tryz.prog) _ 0 60 60 88 i0 (.agg #[.pointer none, .nilFunc]) 2 16 Tryz.underlying60 hi hz0 hz1 hz2 rfl (by decide) lv n xs hrow6 ⟨W5.drew.heap.size, 0, none⟩ 1 1 _ rfl (fun j u hu => by
    rw [Addr.add_lit, Nat.zero_add, cell_of hq6, List.getElem?_toArray]
    exact hu) hone (by unfold maxLen; omega) (by omega) (Nat.zero_le _)
  obtain ⟨la, lc, rfl⟩ := own_shape hrow7
  have hc6 : Chg (fun _ => False) W5 (W5.drew.alloc (.cells #[.pointer (some ⟨f, 0, none⟩), .func (.func 102) #[] #[.pointer (some ⟨w.heap.size, 0, none⟩), .pointer (some ⟨w.heap.size + 1, 0, none⟩)]] 88)) := (Chg.refl _ W5).drew.alloc _
  have hg7 := Chg.of_grown hgr7
  have hlk : ∀ k x, W5.heap[k]? = some x → tag x ≠ 88 → ¬ some k = lv.ownBlock := fun k x hx ht e => by
    obtain ⟨cur, hcur⟩ := own_block hrow5 e.symm
    exact ne_tag hx hcur ht rfl
  have p17 := hg7.keep (hc6.keep p15 (fun h => h)) (hlk _ _ p15 (by simp [tag]))
  have p27 := hg7.keep (hc6.keep p25 (fun h => h)) (hlk _ _ p25 (by simp [tag]))
  have hd7 := hg7.keep (hc6.keep hd5 (fun h => h)) (hlk _ _ hd5 (by simp [tag]))
  have hf7 := hg7.keep (hc6.keep hf5 (fun h => h)) (hlk _ _ hf5 (by simp [tag]))
  have hown7 := own_keep (own_keep hown5 hc6 (fun _ _ h => h)) hg7 (fun k hk e => by
    obtain ⟨cur, hcur⟩ := own_block hown5 hk
    exact hlk _ _ hcur (show 5 ≠ 88 by decide) e)
  have e1 := cell_of p1 0
  have e2 := cell_of hf2 0
  have e4 := thawed hf3 0
  have e5 := cell_of hf3 0
  have e6 := cell_of hd4 1
  have e7 := cell_of p24 0
  have e8 := thawed hd4 1
  have e9 := cell_of hd5 4
  have e10 := cell_of p15 0
  have e13 := cell_of p13 0
  have e14 := cell_of p14 0
  have e15 := cell_of (w := W5.drew.alloc (.cells #[.pointer (some ⟨f, 0, none⟩), .func (.func 102) #[] #[.pointer (some ⟨w.heap.size, 0, none⟩), .pointer (some ⟨w.heap.size + 1, 0, none⟩)]] 88)) (hc6.keep p15 (fun h => h)) 0
  have e16 := cell_of p17 0
  have e18 := cell_of (w := (W5.alloc (.cells #[.pointer (some ⟨f, 0, none⟩), .func (.func 102) #[] #[.pointer (some ⟨w.heap.size, 0, none⟩), .pointer (some ⟨w.heap.size + 1, 0, none⟩)]] 88)).drew) (hc6.keep hd5 (fun h => h)) 4
  have e17 := cell_of (heap_set_other (p := ⟨d, 4, none⟩) (u := .slice la (n + 1) lc) p17 (ne_tag p17 hd7 (by simp [tag]))) 0
  have e11 := thawed hd7 4
  have e12 := cell_of hd7 4
  have HALL := hide (And.intro hd7 (And.intro hf7 (And.intro hown7 (And.intro hrow7 (And.intro p17 p27)))))
  have hCALL : Chg (fun k => k = d ∨ k = f ∨ some k = bv.ownBlock ∨ some k = lv.ownBlock) w W7 :=
    (((((hc2.mono fun _ _ h => h.elim).then (hg3.mono fun _ _ h => Or.inr (Or.inr (Or.inl h)))).then (hc4.mono fun _ _ h => Or.inr (Or.inl h))).then (hc5.mono fun _ _ h => Or.inl h)).then (hc6.mono fun _ _ h => h.elim)).then (hg7.mono fun _ _ h => Or.inr (Or.inr (Or.inr h)))
  have HCALL := hide hCALL
  have hsz : w.heap.size ≤ W5.heap.size := Nat.le_trans hc2.size (Nat.le_trans hg3.size (Nat.le_trans hc4.size hc5.size))
  have hsz2 : w.heap.size ≤ W2.heap.size := hc2.size
  have HMM := hide hm
  have HW2 := hide hW2
  have HW4 := hide hW4
  have HW5 := hide hW5
  have HL3 := hide hloc3
  have HL7 := hide hloc7
  clear hm hW2 hW4 hW5 hloc3 hloc7 hd7 hf7 hown7 hrow7 p17 p27 hCALL hd hf hbv hrow hv hcell hcell2 hc2 p1 p2 hd2 hf2 hbv2 hrow2 hbn p13 p23 hd3 hf3 hrow3 hc4 p14 p24 hd4 hf4 hrow4 hown4 hc5 p15 p25 hf5 hd5 hrow5 hown5 hlk hc6 hq6 hone hrow6 hgr3 hgr7 hg3 hg7 hown3
  go_enter Tryz.func76, Tryz.ntmps76
  go_wp2_with fail
  refine wp_region_held_drew (S := fun W => W.cell? ⟨w.heap.size, 0, none⟩ = some (.pointer (some ⟨f, 0, none⟩))) (by kernel_rfl) (HW2.out ▸ e1) (fun hHeld => ?_)
  refine takeH (i := 0) (v := ?_) rfl (by kernel_rfl) (by kernel_rfl) (by kernel_rfl) (fun _ _ _ h => h) rfl ?_ hHeld ?_
  rotate_left
  · intro w hS; (try dsimp only at hS); obtain hS0 := hS; go_simp; first | done | (with_reducible rfl)
  try simp only [Act.put, ly1, ly2, ly3]
  refine takeH (i := 1) (v := ?_) rfl (by kernel_rfl) (by kernel_rfl) (by kernel_rfl) (fun _ _ _ h => h) rfl ?_ hHeld ?_
  rotate_left
  · intro w hS; (try dsimp only at hS); obtain hS0 := hS; go_simp; first | done | (with_reducible rfl)
  try simp only [Act.put, ly1, ly2, ly3]
  refine takeH (i := 2) (v := ?_) rfl (by kernel_rfl) (by kernel_rfl) (by kernel_rfl) (fun _ _ _ h => h) rfl ?_ hHeld ?_
  rotate_left
  · intro w hS; (try dsimp only at hS); obtain hS0 := hS; go_simp; first | done | (with_reducible rfl)
  try simp only [Act.put, ly1, ly2, ly3]
  refine takeH (i := 3) (v := ?_) rfl (by kernel_rfl) (by kernel_rfl) (by kernel_rfl) (fun _ _ _ h => h) rfl ?_ hHeld ?_
  rotate_left
  · intro w hS; (try dsimp only at hS); obtain hS0 := hS; go_simp; first | done | (with_reducible rfl)
  try simp only [Act.put, ly1, ly2, ly3]
  refine takeH (i := 5) (v := ?_) rfl (by kernel_rfl) (by kernel_rfl) (by kernel_rfl) (fun _ _ _ h => h) rfl ?_ hHeld ?_
  rotate_left
  · intro w hS; (try dsimp only at hS); obtain hS0 := hS; go_simp; first | done | (with_reducible rfl)
  try simp only [Act.put, ly1, ly2, ly3]
  rw [← HW2.out] at hHeld ⊢
  refine onlyH (i := 4) rfl (by kernel_rfl) rfl (fun K hK => ?_)
  go_simp
  refine hK.out _ _ (e1) (fun hHeld => ?_)
  clear hK K
  try simp only [Act.put, ly1, ly2, ly3]
  refine onlyH (i := 6) rfl (by kernel_rfl) rfl (fun K hK => ?_)
  refine wp_append_run (.tmp 13) (.tmp 14) 78 rfl rfl rfl hrun3 ?_
  refine hK.out _ _ (e13) (fun hHeld => ?_)
  clear hK K
  try simp only [Act.put, ly1, ly2, ly3]
  refine takeH (i := 7) (v := ?_) rfl (by kernel_rfl) (by kernel_rfl) (by kernel_rfl) (fun _ _ _ h => h) rfl ?_ hHeld ?_
  rotate_left
  · intro w hS; (try dsimp only at hS); obtain hS0 := hS; go_simp; first | done | (with_reducible rfl)
  try simp only [Act.put, ly1, ly2, ly3]
  refine takeH (i := 8) (v := ?_) rfl (by kernel_rfl) (by kernel_rfl) (by kernel_rfl) (fun _ _ _ h => h) rfl ?_ hHeld ?_
  rotate_left
  · intro w hS; (try dsimp only at hS); obtain hS0 := hS; go_simp; first | done | (with_reducible rfl)
  try simp only [Act.put, ly1, ly2, ly3]
  refine onlyH (i := 9) rfl (by kernel_rfl) rfl (fun K hK => ?_)
  go_simp
  rw [← HW4.out]
  refine hK.out _ _ (e14) (fun hHeld => ?_)
  clear hK K
  try simp only [Act.put, ly1, ly2, ly3]
  refine wpAnyH_done (by kernel_rfl) ?_ _
  clear hHeld
  go_wp2_with fail
  go_region
  rw [← HW5.out]
  go_wp2_with fail
  refine wp_region_held_drew (S := fun W => W.cell? ⟨w.heap.size, 0, none⟩ = some (.pointer (some ⟨f, 0, none⟩))) (by kernel_rfl) (e10) (fun hHeld => ?_)
  refine takeH (i := 0) (v := ?_) rfl (by kernel_rfl) (by kernel_rfl) (by kernel_rfl) (fun _ _ _ h => h) rfl ?_ hHeld ?_
  rotate_left
  · intro w hS; (try dsimp only at hS); obtain hS0 := hS; go_simp; first | done | (with_reducible rfl)
  try simp only [Act.put, ly1, ly2, ly3]
  refine takeH (i := 1) (v := ?_) rfl (by kernel_rfl) (by kernel_rfl) (by kernel_rfl) (fun _ _ _ h => h) rfl ?_ hHeld ?_
  rotate_left
  · intro w hS; (try dsimp only at hS); obtain hS0 := hS; go_simp; first | done | (with_reducible rfl)
  try simp only [Act.put, ly1, ly2, ly3]
  refine takeH (i := 2) (v := ?_) rfl (by kernel_rfl) (by kernel_rfl) (by kernel_rfl) (fun _ _ _ h => h) rfl ?_ hHeld ?_
  rotate_left
  · intro w hS; (try dsimp only at hS); obtain hS0 := hS; go_simp; first | done | (with_reducible rfl)
  try simp only [Act.put, ly1, ly2, ly3]
  refine takeH (i := 3) (v := ?_) rfl (by kernel_rfl) (by kernel_rfl) (by kernel_rfl) (fun _ _ _ h => h) rfl ?_ hHeld ?_
  rotate_left
  · intro w hS; (try dsimp only at hS); obtain hS0 := hS; go_simp; first | done | (with_reducible rfl)
  try simp only [Act.put, ly1, ly2, ly3]
  refine takeH (i := 5) (v := ?_) rfl (by kernel_rfl) (by kernel_rfl) (by kernel_rfl) (fun _ _ _ h => h) rfl ?_ hHeld ?_
  rotate_left
  · intro w hS; (try dsimp only at hS); obtain hS0 := hS; go_simp; first | done | (with_reducible rfl)
  try simp only [Act.put, ly1, ly2, ly3]
  refine takeH (i := 6) (v := ?_) rfl (by kernel_rfl) (by kernel_rfl) (by kernel_rfl) (fun _ _ _ h => h) rfl ?_ hHeld ?_
  rotate_left
  · intro w hS; (try dsimp only at hS); obtain hS0 := hS; go_simp; first | done | (with_reducible rfl)
  try simp only [Act.put, ly1, ly2, ly3]
  refine takeH (i := 7) (v := ?_) rfl (by kernel_rfl) (by kernel_rfl) (by kernel_rfl) (fun _ _ _ h => h) rfl ?_ hHeld ?_
  rotate_left
  · intro w hS; (try dsimp only at hS); obtain hS0 := hS; go_simp; first | done | (with_reducible rfl)
  try simp only [Act.put, ly1, ly2, ly3]
  have fin : ∃ bv' lv' cf ck,
      (W7.setCell ⟨d, 4, none⟩ (.slice la (n + 1) lc)).heap[d]? = some (.cells #[r, .int .i64 (used + new.length), o1, o2, lv', o4, c1, c2, fl] 63) ∧ (W7.setCell ⟨d, 4, none⟩ (.slice la (n + 1) lc)).heap[f]? = some (.cells #[bv', s, nmv] 80) ∧
      (W7.setCell ⟨d, 4, none⟩ (.slice la (n + 1) lc)).ownsRow 0 5 1 bv' (old ++ new).length (bc (old ++ new)) ∧
      (W7.setCell ⟨d, 4, none⟩ (.slice la (n + 1) lc)).ownsRow 0 88 2 lv' (n + 1) (xs ++ [.pointer (some ⟨f, 0, none⟩), .func (.func 102) #[] #[.pointer (some ⟨cf, 0, none⟩), .pointer (some ⟨ck, 0, none⟩)]]) ∧
      (W7.setCell ⟨d, 4, none⟩ (.slice la (n + 1) lc)).heap[cf]? = some (.cells #[.pointer (some ⟨f, 0, none⟩)] 77) ∧ (W7.setCell ⟨d, 4, none⟩ (.slice la (n + 1) lc)).heap[ck]? = some (.cells #[.int .i64 (new.length : Int)] 3) ∧ w.heap.size ≤ cf ∧ w.heap.size ≤ ck ∧
      (bv'.ownBlock = bv.ownBlock ∨ ∃ q, bv'.ownBlock = some q ∧ w.heap.size ≤ q) ∧ (lv'.ownBlock = lv.ownBlock ∨ ∃ q, lv'.ownBlock = some q ∧ w.heap.size ≤ q) ∧
      Chg (fun k => k = d ∨ k = f ∨ some k = bv.ownBlock ∨ some k = lv.ownBlock) w (W7.setCell ⟨d, 4, none⟩ (.slice la (n + 1) lc)) := by
    obtain ⟨a1, a2, a3, a4, a5, a6⟩ := HALL.out
    refine ⟨.slice ba m bcap, .slice la (n + 1) lc, w.heap.size, w.heap.size + 1, heap_set a1 4 _, heap_set_other a2 (ne_tag a2 a1 (by simp [tag])), ?_, ?_, heap_set_other a5 (ne_tag a5 a1 (by simp [tag])), heap_set_other a6 (ne_tag a6 a1 (by simp [tag])), Nat.le_refl _, Nat.le_succ _, ?_, ?_, HCALL.out.setCell (p := ⟨d, 4, none⟩) (Or.inl (Or.inl rfl)) _⟩
    · rw [← HMM.out]
      refine own_keep a3 (chg_set W7 d 4 _) (fun k hk e => ?_)
      obtain ⟨cur, hcur⟩ := own_block a3 hk
      exact ne_tag hcur a1 (show 5 ≠ 63 by decide) e
    · refine own_keep a4 (chg_set W7 d 4 _) (fun k hk e => ?_)
      obtain ⟨cur, hcur⟩ := own_block a4 hk
      exact ne_tag hcur a1 (show 88 ≠ 63 by decide) e
    · rcases HL3.out with h | h
      · exact Or.inl h
      · exact Or.inr ⟨_, h, hsz2⟩
    · rcases HL7.out with h | h
      · exact Or.inl h
      · exact Or.inr ⟨_, h, by simp; omega⟩
  have FIN := hide fin
  clear fin
  refine twoH (i := 4) (j := 8) rfl rfl (by kernel_rfl) rfl rfl (fun K hK => ?_) (fun K hK => ?_)
  · go_simp
    refine hK.out _ _ (e10) (fun hHeld => ?_)
    clear hK K
    try simp only [Act.put, ly1, ly2, ly3]
    refine onlyH (i := 8) rfl (by kernel_rfl) rfl (fun K hK => ?_)
    go_simp
    refine hK.out _ _ (e15) (fun hHeld => ?_)
    clear hK K
    try simp only [Act.put, ly1, ly2, ly3]
    refine onlyH (i := 9) rfl (by kernel_rfl) rfl (fun K hK => ?_)
    refine wp_append_run (.tmp 30) (.tmp 34) 60 rfl rfl rfl hrun7 ?_
    refine hK.out _ _ (e16) (fun hHeld => ?_)
    clear hK K
    try simp only [Act.put, ly1, ly2, ly3]
    refine takeH (i := 10) (v := ?_) rfl (by kernel_rfl) (by kernel_rfl) (by kernel_rfl) (fun _ _ _ h => h) rfl ?_ hHeld ?_
    rotate_left
    · intro w hS; (try dsimp only at hS); obtain hS0 := hS; go_simp; first | done | (with_reducible rfl)
    try simp only [Act.put, ly1, ly2, ly3]
    refine takeH (i := 11) (v := ?_) rfl (by kernel_rfl) (by kernel_rfl) (by kernel_rfl) (fun _ _ _ h => h) rfl ?_ hHeld ?_
    rotate_left
    · intro w hS; (try dsimp only at hS); obtain hS0 := hS; go_simp; first | done | (with_reducible rfl)
    try simp only [Act.put, ly1, ly2, ly3]
    refine onlyH (i := 12) rfl (by kernel_rfl) rfl (fun K hK => ?_)
    go_simp
    refine hK.out _ _ (e17) (fun hHeld => ?_)
    clear hK K
    try simp only [Act.put, ly1, ly2, ly3]
    refine wpAnyH_done (by kernel_rfl) ?_ _
    clear hHeld
    go_wp2
    go_end0
    exact ⟨rfl, FIN.out⟩
  · go_simp
    refine hK.out _ _ (e15) (fun hHeld => ?_)
    clear hK K
    try simp only [Act.put, ly1, ly2, ly3]
    refine onlyH (i := 4) rfl (by kernel_rfl) rfl (fun K hK => ?_)
    go_simp
    refine hK.out _ _ (e15) (fun hHeld => ?_)
    clear hK K
    try simp only [Act.put, ly1, ly2, ly3]
    refine onlyH (i := 9) rfl (by kernel_rfl) rfl (fun K hK => ?_)
    refine wp_append_run (.tmp 30) (.tmp 34) 60 rfl rfl rfl hrun7 ?_
    refine hK.out _ _ (e16) (fun hHeld => ?_)
    clear hK K
    try simp only [Act.put, ly1, ly2, ly3]
    refine takeH (i := 10) (v := ?_) rfl (by kernel_rfl) (by kernel_rfl) (by kernel_rfl) (fun _ _ _ h => h) rfl ?_ hHeld ?_
    rotate_left
    · intro w hS; (try dsimp only at hS); obtain hS0 := hS; go_simp; first | done | (with_reducible rfl)
    try simp only [Act.put, ly1, ly2, ly3]
    refine takeH (i := 11) (v := ?_) rfl (by kernel_rfl) (by kernel_rfl) (by kernel_rfl) (fun _ _ _ h => h) rfl ?_ hHeld ?_
    rotate_left
    · intro w hS; (try dsimp only at hS); obtain hS0 := hS; go_simp; first | done | (with_reducible rfl)
    try simp only [Act.put, ly1, ly2, ly3]
    refine onlyH (i := 12) rfl (by kernel_rfl) rfl (fun K hK => ?_)
    go_simp
    refine hK.out _ _ (e17) (fun hHeld => ?_)
    clear hK K
    try simp only [Act.put, ly1, ly2, ly3]
    refine wpAnyH_done (by kernel_rfl) ?_ _
    clear hHeld
    go_wp2
    go_end0
    exact ⟨rfl, FIN.out⟩
end Go.Proofs.YthjcimgollfmgaaGreatDoor

/-
  What taking acts from the loose ones does: settle, slices.DeleteFunc, slices.IndexFunc. Conditions: what lies there is told by hypotheses.
-/
namespace Go.Proofs.YthjcimgollfmgaaGreatDoor
open Go.RowKit

/-- An address that may be compared: nil, or a block of cells. -/
def PV (w : World) (v : Value) : Prop := v = .pointer none ∨ ∃ b c t, v = .pointer (some ⟨b, 0, none⟩) ∧ w.heap[b]? = some (.cells c t (0, 0))
theorem PV.shape {w : World} {v : Value} (h : PV w v) : ∃ p, v = .pointer p := by
  rcases h with h | ⟨b, c, t, h1, h2⟩
  · exact ⟨_, h⟩
  · exact ⟨_, h1⟩
theorem PV.keep {F : Nat → Prop} {w w' : World} {v : Value} (h : PV w v) (hc : Chg F w w') (hF : ∀ b, v = .pointer (some ⟨b, 0, none⟩) → ¬ F b) : PV w' v := by
  rcases h with h | ⟨b, c, t, h1, h2⟩
  · exact Or.inl h
  · exact Or.inr ⟨b, c, t, h1, hc.keep h2 (hF b h1)⟩
def sameP : Value → Value → Bool
  | .pointer none, .pointer none => true
  | .pointer (some a), .pointer (some b) => a.block == b.block
  | _, _ => false
theorem run_equal_nil (w : World) (a b : Value) (ha : PV w a) (hb : PV w b) : (Op.equal 77 a b).run Tryz.prog w = .ok (sameP a b) w := by
  rcases ha with rfl | ⟨x, c, t, rfl, hx⟩ <;> rcases hb with rfl | ⟨y, c', t', rfl, hy⟩
  · show (Op.equalIn (9999 + 1) 77 _ _).run Tryz.prog w = _
    unfold Op.equalIn
    simp [run_underlying Tryz.underlying77, sameP, Result.andThen]
  · show (Op.equalIn (9999 + 1) 77 _ _).run Tryz.prog w = _
    unfold Op.equalIn
    simp [run_underlying Tryz.underlying77, sameP, Result.andThen]
  · show (Op.equalIn (9999 + 1) 77 _ _).run Tryz.prog w = _
    unfold Op.equalIn
    simp [run_underlying Tryz.underlying77, sameP, Result.andThen]
  · rw [run_equal_ptr (n := 2) Tryz.underlying77 (size95 w) hx hy]
    congr 1
theorem eqP (w : World) {a b : Value} (ha : PV w a) (hb : PV w b) : (binOp .eql 77 a b).run Tryz.prog w = .ok (.bool (sameP a b)) w := by
  have h := run_equal_nil w a b ha hb
  rcases ha with rfl | ⟨x, c, t, rfl, hx⟩ <;> rcases hb with rfl | ⟨y, c', t', rfl, hy⟩ <;>
    simp only [binOp, Sem.run_bind, h, Result.andThen, Sem.run_pure]

/-- Acts as cells. -/
def vc (vs : List (Value × Value)) : List Value := vs.flatMap fun p => [p.1, p.2]
theorem vc_length (vs : List (Value × Value)) : (vc vs).length = vs.length * 2 := by
  induction vs with
  | nil => rfl
  | cons p r ih => simp [vc] at ih ⊢; omega
theorem vc_append (a b : List (Value × Value)) : vc (a ++ b) = vc a ++ vc b := by simp [vc]
theorem vc_get {vs : List (Value × Value)} {k : Nat} {p : Value × Value} (h : vs[k]? = some p) : (vc vs)[k * 2]? = some p.1 ∧ (vc vs)[k * 2 + 1]? = some p.2 := by
  induction vs generalizing k with
  | nil => simp at h
  | cons q r ih =>
    have e : vc (q :: r) = q.1 :: q.2 :: vc r := rfl
    rw [e]
    cases k with
    | zero =>
      simp at h
      subst h
      exact ⟨rfl, rfl⟩
    | succ k =>
      have := ih (k := k) (by simpa using h)
      rw [show (k + 1) * 2 = k * 2 + 1 + 1 by omega, show k * 2 + 1 + 1 + 1 = (k * 2 + 1) + 1 + 1 by omega]
      simpa using this

set_option maxRecDepth 20000 in
theorem settle1_any (w : World) (c : Nat) (o v of : Value) (ho : PV w o) (hof : PV w of) (h : w.heap[c]? = some (.cells #[of] 77)) :
    Calls Tryz.prog 118 #[.agg #[o, v], .pointer (some ⟨c, 0, none⟩)] w fun e w' => e = .returned (.bool (sameP o of)) ∧ Chg (fun _ => False) w w' := by
  have hc : Chg (fun _ => False) w (w.alloc (.cells #[o, v] 88)) := (Chg.refl _ w).alloc _
  have h' := hc.keep h (fun h => h)
  have z := cell_of h' 0
  have he := eqP _ (ho.keep hc (fun _ _ h => h)) (hof.keep hc (fun _ _ h => h))
  generalize sameP o of = r at he ⊢
  clear h h'
  rcases ho with rfl | ⟨x, c, t, rfl, hx⟩ <;> rcases hof with rfl | ⟨y, c', t', rfl, hy⟩
  all_goals
    go_enter Tryz.func118, Tryz.ntmps118
    go_wp2
    go_ret
    exact ⟨rfl, hc⟩

set_option maxRecDepth 20000 in
set_option maxHeartbeats 400000 in
theorem indexFunc_any (w : World) (c n : Nat) (lv of : Value) (vs : List (Value × Value)) (hn : vs.length = n) (hrow : w.ownsRow 0 88 2 lv n (vc vs)) (hp : ∀ p ∈ vs, PV w p.1) (hof : PV w of) (h : w.heap[c]? = some (.cells #[of] 77)) (hb : n < 1099511627776) :
    Calls Tryz.prog 123 #[lv, .func (.func 118) #[] #[.pointer (some ⟨c, 0, none⟩)]] w fun e w' => Chg (fun _ => False) w w' ∧ ∃ r : Int, e = .returned (.int .i64 r) ∧
      ((∃ (i : Nat) (p : Value × Value), r = (i : Int) ∧ vs[i]? = some p ∧ sameP p.1 of = true ∧ ∀ (j : Nat) q, j < i → vs[j]? = some q → sameP q.1 of = false) ∨
       (r = -1 ∧ ∀ p ∈ vs, sameP p.1 of = false)) := by
  obtain ⟨a, cap, rfl⟩ := own_shape hrow
  go_enter Tryz.func123, Tryz.ntmps123
  go_wp2_with fail
  go_loopw [8] (fun x wr => ∃ k : Nat, k ≤ n ∧ x = .int .i64 (k : Int) ∧ Chg (fun _ => False) w wr ∧ ∀ j q, j < k → vs[j]? = some q → sameP q.1 of = false) (fun x _ => n - (intOf x).toNat)
  case atStart => exact ⟨0, Nat.zero_le _, rfl, Chg.refl _ _, fun j q hj => absurd hj (Nat.not_lt_zero j)⟩
  case round =>
    obtain ⟨k, hk, rfl, hc, hall⟩ := hrel
    by_cases hlt : k < n
    · obtain ⟨p, hpk⟩ : ∃ p, vs[k]? = some p := ⟨_, List.getElem?_eq_getElem (by omega)⟩
      obtain ⟨o, v⟩ := p
      have hpm := List.mem_of_getElem? hpk
      have hrr := own_keep hrow hc (fun _ _ h => h)
      obtain ⟨g, hg⟩ : ∃ g, a = some ⟨g, 0, none⟩ := by
        rcases hrr.2 with ⟨e1, e2⟩ | ⟨g, cap, cur, e1, _⟩
        · omega
        · injection e1 with e1
          exact ⟨g, e1⟩
      subst hg
      have x0 := hrr.cellAt (k * 2) (by omega)
      have x1 := hrr.cellAt (k * 2 + 1) (by omega)
      rw [(vc_get hpk).1] at x0
      rw [(vc_get hpk).2] at x1
      have hcall := settle1_any wr c o v of ((hp _ hpm).keep hc (fun _ _ h => h)) (hof.keep hc (fun _ _ h => h)) (hc.keep h (fun h => h))
      have HA := hide hall
      have HC := hide hc
      have HP := hide hpk
      have HPM := hide hp
      clear hall hrr hp hc
      go_wp2_with (go_at_call 118; refine hcall.mono ?_; rintro e w1 ⟨rfl, hc1⟩)
      · go_ret
        exact ⟨HC.out.then hc1, _, rfl, Or.inl ⟨k, (o, v), rfl, HP.out, by assumption, HA.out⟩⟩
      · go_roundw
        case rel =>
          refine ⟨k + 1, by omega, by go_num, HC.out.then hc1, fun j q hj hq => ?_⟩
          by_cases e : j = k
          · subst e
            rw [HP.out] at hq
            injection hq with hq
            subst hq
            simp_all
          · exact HA.out j q (by omega) hq
        case measure => simp [intOf]; omega
    · have hkn : k = n := by omega
      have HA := hide hall
      clear hall hp
      go_wp2
      go_ret
      refine ⟨hc, _, rfl, Or.inr ⟨rfl, fun p hp => ?_⟩⟩
      obtain ⟨j, hj, rfl⟩ := List.getElem_of_mem hp
      exact HA.out j _ (by omega) (List.getElem?_eq_getElem hj)
theorem vc_set (cs : List (Value × Value)) (sp : List Value) (i : Nat) (p : Value × Value) (h : i < cs.length) :
    ((vc cs ++ sp).set (i * 2) p.1).set (i * 2 + 1) p.2 = vc (cs.set i p) ++ sp := by
  induction cs generalizing i with
  | nil => simp at h
  | cons q r ih =>
    have e : vc (q :: r) = q.1 :: q.2 :: vc r := rfl
    cases i with
    | zero => simp [vc]
    | succ i =>
      have := ih i (by simpa using h)
      rw [show (i + 1) * 2 = i * 2 + 1 + 1 by omega, show i * 2 + 1 + 1 + 1 = (i * 2 + 1) + 1 + 1 by omega, e, List.set_cons_succ]
      simp only [List.cons_append, List.set_cons_succ]
      rw [this]
      rfl
theorem vc_take (cs : List (Value × Value)) (i : Nat) : (vc cs).take (i * 2) = vc (cs.take i) := by
  induction cs generalizing i with
  | nil => simp [vc]
  | cons q r ih =>
    have e : vc (q :: r) = q.1 :: q.2 :: vc r := rfl
    cases i with
    | zero => simp [vc]
    | succ i =>
      rw [show (i + 1) * 2 = i * 2 + 1 + 1 by omega, e, List.take_succ_cons, List.take_succ_cons, ih]
      rfl
theorem size_zeros (n : Nat) : (Builtin.zeroCells (Value.agg #[.pointer none, .nilFunc]).cells n).size = n * 2 := by rw [size_zeroCells]; rfl
theorem zeros_one (n : Nat) : ∀ u ∈ (Builtin.zeroCells (Value.agg #[.pointer none, .nilFunc]).cells n).toList, u.oneCell' = true := by
  intro u hu
  simp only [Builtin.zeroCells, Array.toList_map, List.mem_map] at hu
  obtain ⟨k, _, rfl⟩ := hu
  show (#[Value.pointer none, .nilFunc][k % 2]!).oneCell' = true
  rcases (show k % 2 = 0 ∨ k % 2 = 1 by omega) with h | h <;> rw [h] <;> rfl
/-- clear, of acts. -/
theorem clear_acts (w : World) (g i n cap : Nat) (cs : List Value) (hg : w.heap[g]? = some (.cells cs.toArray 88 (0, 0))) (hn : 0 < n) (hfit : i * 2 + n * 2 ≤ cs.length) (ty : TypeId) :
    ∃ cs' : List Value, cs'.length = cs.length ∧ cs'.take (i * 2) = cs.take (i * 2) ∧
      (Builtin.clear_ #[60] ty #[.slice (some ⟨g, i * 2, none⟩) n cap]).run Tryz.prog w = .ok (.tuple #[]) (w.setRow g cs'.toArray) := by
  have hz : (zeroValue 88).run Tryz.prog w = .ok (.agg #[.pointer none, .nilFunc]) w := by kernel_rfl
  obtain ⟨Z, hZ⟩ : ∃ Z, Z = Builtin.zeroCells (Value.agg #[.pointer none, .nilFunc]).cells n := ⟨_, rfl⟩
  have hZs : Z.toList.length = n * 2 := by rw [hZ, Array.length_toList, size_zeros]
  have hst := run_storeCells_at Tryz.prog g (i * 2) 88 Z.toList 0 cs.toArray w hg (by rw [hZs]; simp; omega) (hZ ▸ zeros_one n)
  rw [Nat.add_zero] at hst
  have hcl : (Builtin.clear_ #[60] ty #[.slice (some ⟨g, i * 2, none⟩) n cap]).run Tryz.prog w = .ok (.tuple #[]) (w.setRow g (cs.take (i * 2) ++ Z.toList ++ cs.drop (i * 2 + Z.toList.length)).toArray) := by
    obtain ⟨m, rfl⟩ : ∃ m, n = m + 1 := ⟨n - 1, by omega⟩
    simp [Builtin.clear_, run_underlying Tryz.underlying60, hz, ← hZ, hst, Result.andThen]
  refine ⟨_, ?_, ?_, hcl⟩
  · simp only [List.length_append, List.length_take, List.length_drop]
    omega
  · rw [List.append_assoc, List.take_append_of_le_length (by rw [List.length_take]; omega), List.take_take, Nat.min_self]

theorem filter_take_succ {α : Type} {l : List α} {j : Nat} {x : α} (q : α → Bool) (h : l[j]? = some x) : (l.take (j + 1)).filter q = (l.take j).filter q ++ (if q x then [x] else []) := by
  rw [List.take_add_one, h, List.filter_append]
  simp [List.filter_cons]

set_option maxRecDepth 20000 in
set_option maxHeartbeats 800000 in
theorem deleteFunc_any (w : World) (c n : Nat) (lv of : Value) (vs : List (Value × Value)) (hn : vs.length = n) (hrow : w.ownsRow 0 88 2 lv n (vc vs)) (hp : ∀ p ∈ vs, PV w p.1) (hof : PV w of) (h : w.heap[c]? = some (.cells #[of] 77)) (hb : n < 1099511627776)
    (hpn : ∀ p ∈ vs, ∀ b, p.1 = .pointer (some ⟨b, 0, none⟩) → lv.ownBlock ≠ some b) (hofn : ∀ b, of = .pointer (some ⟨b, 0, none⟩) → lv.ownBlock ≠ some b)
    (hfn : ∀ p ∈ vs, ∃ fn fs cs, p.2 = .func fn fs cs) :
    Calls Tryz.prog 117 #[lv, .func (.func 118) #[] #[.pointer (some ⟨c, 0, none⟩)]] w fun e w' => ∃ lv', e = .returned lv' ∧ lv'.ownBlock = lv.ownBlock ∧
      w'.ownsRow 0 88 2 lv' (vs.filter fun p => !sameP p.1 of).length (vc (vs.filter fun p => !sameP p.1 of)) ∧ Chg (fun k => some k = lv.ownBlock) w w' := by
  obtain ⟨a, cap, rfl⟩ := own_shape hrow
  have hidx := indexFunc_any w c n _ of vs hn hrow hp hof h hb
  go_enter Tryz.func117, Tryz.ntmps117
  have hil : ∀ i p, vs[i]? = some p → i < n := fun i p h => hn ▸ (List.getElem?_eq_some_iff.1 h).1
  go_wp2_with (go_at_call 123; refine hidx.mono ?_; rintro e w1 ⟨hc1, r, rfl, ⟨i, p, rfl, hi, hpi, hall⟩ | ⟨rfl, hall⟩⟩; (try have hin := hil i p hi))
  · obtain ⟨g, cur, hg, hcur, hcn, hcm, hcs, htk⟩ : ∃ g cur, a = some ⟨g, 0, none⟩ ∧ w.heap[g]? = some (.cells cur 88 (0, 0)) ∧ n ≤ cap ∧ cap ≤ maxLen ∧ cur.size = cap * 2 ∧ cur.toList.take (n * 2) = vc vs := by
      rcases hrow.2 with ⟨e1, e2⟩ | ⟨g, cap', cur, e1, _, e2, e3, e4, e5, e6⟩
      · omega
      · injection e1 with e1 e7 e8
        subst e8
        exact ⟨g, cur, e1, e2, e3, e4, e5, e6⟩
    subst hg
    have hft : (vs.take (i + 1)).filter (fun p => !sameP p.1 of) = vs.take i := by
      rw [filter_take_succ _ hi, hpi]
      simp only [Bool.not_true, Bool.false_eq_true, if_false, List.append_nil]
      refine List.filter_eq_self.2 fun q hq => ?_
      obtain ⟨j, hj, e⟩ := List.getElem_of_mem hq
      rw [List.getElem_take] at e
      have hj' : j < i := by simp at hj; omega
      rw [hall j q hj' (by rw [← e, List.getElem?_eq_getElem])]
      rfl
    have hcur1 := hc1.keep hcur (fun h => h)
    have hcg : c ≠ g := ne_tag h hcur (by simp [tag])
    have HALL := hide hall
    have HFT := hide hft
    have HROW := hide hrow
    have HIDX := hide hidx
    clear hall hft hidx
    go_loopw [5, 6] (fun x y wr => ∃ (i j : Nat) (cs : List (Value × Value)) (sp : List Value), x = .int .i64 (i : Int) ∧ y = .int .i64 (j : Int) ∧ i < j ∧ j ≤ n ∧ wr.heap[g]? = some (.cells (vc cs ++ sp).toArray 88 (0, 0)) ∧ (vc cs ++ sp).length = cap * 2 ∧ cs.length = n ∧
        cs.take i = (vs.take j).filter (fun p => !sameP p.1 of) ∧ cs.drop j = vs.drop j ∧ Chg (· = g) w wr) (fun _ y _ => n - (intOf y).toNat)
    case atStart =>
      refine ⟨i, i + 1, vs, cur.toList.drop (n * 2), rfl, by go_num, by omega, by omega, ?_, ?_, hn, HFT.out.symm, rfl, hc1.mono fun _ _ f => f.elim⟩
      · rw [← htk, List.take_append_drop]
        exact hcur1
      · rw [← htk, List.take_append_drop, Array.length_toList, hcs]
    case round =>
      obtain ⟨i, j, cs, sp, rfl, rfl, hij, hjn, hrg, hln, hcl, hct, hcd, hcw⟩ := hrel
      by_cases hlt : j < n
      · obtain ⟨p, hvj⟩ : ∃ p, vs[j]? = some p := ⟨_, List.getElem?_eq_getElem (by omega)⟩
        have hcj : cs[j]? = some p := by
          have e := congrArg (fun l => l[0]?) hcd
          simpa [hvj] using e
        obtain ⟨q, hci⟩ : ∃ q, cs[i]? = some q := ⟨_, List.getElem?_eq_getElem (by omega)⟩
        obtain ⟨o, v⟩ := p
        have hvm := List.mem_of_getElem? hvj
        have hvl := vc_length cs
        obtain ⟨po, hpo⟩ := (hp _ hvm).shape
        obtain ⟨fn, fs, fc, hfv⟩ := hfn _ hvm
        simp only at hpo hfv
        subst hpo hfv
        have get : ∀ k x, (vc cs)[k]? = some x → wr.cell? ⟨g, k, none⟩ = some x := fun k x hx => by
          rw [cell_of hrg, List.getElem?_toArray, List.getElem?_append_left ((List.getElem?_eq_some_iff.1 hx).1), hx]
        have x0 := get _ _ (vc_get hcj).1
        have x1 := get _ _ (vc_get hcj).2
        have hA : Chg (fun _ => False) wr (wr.alloc (.cells #[.pointer po, .func fn fs fc] 88)) := (Chg.refl _ _).alloc _
        have hcall := settle1_any (wr.alloc (.cells #[.pointer po, .func fn fs fc] 88)) c (.pointer po) (.func fn fs fc) of (((hp _ hvm).keep hcw (fun b hb e => hpn _ hvm b hb (by rw [e]; rfl))).keep hA (fun _ _ h => h)) ((hof.keep hcw (fun b hb e => hofn b hb (by rw [e]; rfl))).keep hA (fun _ _ h => h)) (hA.keep (hcw.keep h hcg) (fun h => h))
        have hnv := heap_last wr (.cells #[.pointer po, .func fn fs fc] 88)
        have hgn : g ≠ wr.heap.size := Nat.ne_of_lt (lt_of_heap hrg)
        have HCT := hide hct
        have HCD := hide hcd
        have HCW := hide hcw
        have HRG := hide hrg
        have HVJ := hide hvj
        have HLN := hide hln
        have HHP := hide hp
        have HPN := hide hpn
        have HCI := hide hci
        clear hct hcd hcw hvj hcj hp hpn get hln hci
        go_wp2_with (go_at_call 118; refine hcall.mono ?_; rintro e w2 ⟨rfl, hc2⟩; have hn2 := hc2.keep hnv (fun h => h); have hg2 := hc2.keep (hA.keep HRG.out (fun h => h)) (fun h => h); have y0 := cell_of hn2 0; have y1 := cell_of hn2 1; have z0 := thawed hg2 (i * 2); have z1 := thawed hg2 (i * 2 + 1); have u0 : w2.cell? ⟨g, i * 2, none⟩ = some q.1 := (by rw [cell_of hg2, List.getElem?_toArray, List.getElem?_append_left (by omega)]; exact (vc_get HCI.out).1); have u1 : w2.cell? ⟨g, i * 2 + 1, none⟩ = some q.2 := (by rw [cell_of hg2, List.getElem?_toArray, List.getElem?_append_left (by omega)]; exact (vc_get HCI.out).2))
        · rename_i hkeep
          refine ⟨⟨_, _, _, _, _, _, _, _, _, _, _, _, _, _, _, _, _, _, _, _, _, _, _, ?rel, rfl⟩, ?measure⟩
          case rel =>
            have hci2 : Chg (· = g) w w2 := (HCW.out.then (hA.mono fun _ _ f => f.elim)).then (hc2.mono fun _ _ f => f.elim)
            refine ⟨i + 1, j + 1, cs.set i (.pointer po, .func fn fs fc), sp, by go_num, by go_num, by omega, by omega, ?_, ?_, by rw [List.length_set]; exact hcl, ?_, ?_, (hci2.setCell (p := ⟨g, i * 2, none⟩) (Or.inl rfl) _).setCell (p := ⟨g, i * 2 + 1, none⟩) (Or.inl rfl) _⟩
            · have e1 := heap_set (heap_set hg2 (i * 2) (.pointer po)) (i * 2 + 1) (.func fn fs fc)
              rw [List.setIfInBounds_toArray, List.setIfInBounds_toArray, vc_set cs sp i (.pointer po, .func fn fs fc) (by omega)] at e1
              exact e1
            · rw [← HLN.out]
              simp [vc_length]
            · rw [filter_take_succ _ HVJ.out, ← HCT.out]
              simp only [hkeep, if_true]
              rw [List.take_add_one, List.take_set_of_le (Nat.le_refl i), List.getElem?_set_self (by omega)]
              rfl
            · rw [List.drop_set_of_lt (by omega)]
              have := congrArg (List.drop 1) HCD.out
              rwa [List.drop_drop, List.drop_drop] at this
          case measure => simp [intOf]; omega
        · rename_i hkeep
          refine ⟨⟨_, _, _, _, _, _, _, _, _, _, _, _, _, _, _, _, _, _, _, _, _, _, _, ?rel, rfl⟩, ?measure⟩
          case rel =>
            have hci2 : Chg (· = g) w w2 := (HCW.out.then (hA.mono fun _ _ f => f.elim)).then (hc2.mono fun _ _ f => f.elim)
            refine ⟨i, j + 1, cs, sp, rfl, by go_num, by omega, by omega, hg2, HLN.out, hcl, ?_, ?_, hci2⟩
            · rw [filter_take_succ _ HVJ.out, ← HCT.out]
              simp only [hkeep, Bool.false_eq_true, if_false, List.append_nil]
            · have := congrArg (List.drop 1) HCD.out
              rwa [List.drop_drop, List.drop_drop] at this
          case measure => simp [intOf]; omega
      · have hjn' : j = n := by omega
        subst hjn'
        rw [show vs.take j = vs from List.take_of_length_le (Nat.le_of_eq hn)] at hct
        have hlen : (vs.filter fun p => !sameP p.1 of).length = i := by
          rw [← hct, List.length_take]
          omega
        obtain ⟨cs', hl', ht', hrun⟩ := clear_acts wr g i (j - i) (cap - i) (vc cs ++ sp) hrg (by omega) (by rw [hln]; omega) 0
        have hrow' := setRow_heap wr g _ cs'.toArray 88 (0, 0) hrg
        have HRW := hide hrow'
        have HCG : Hid (Chg (· = g) w (wr.setRow g cs'.toArray)) := hcw.then ⟨rfl, rfl, rfl, by simp [World.setRow], fun k _ hk => setRow_other wr g k _ hk⟩
        have HT := hide ht'
        have HL' := hide hl'
        have HCT := hide hct
        have HLE := hide hlen
        have HLN := hide hln
        have HPN := hide hpn
        clear hrow' ht' hl' hct hlen hcd hcw hp hpn hln
        go_wp2
        go_ret
        refine ⟨_, rfl, rfl, ?_, HCG.out.mono fun k _ e => by rw [e]; rfl⟩
        rw [HLE.out]
        refine ⟨by rw [vc_length, HLE.out], Or.inr ⟨g, cap, cs'.toArray, rfl, Nat.zero_le _, HRW.out, by omega, hcm, ?_, ?_⟩⟩
        · rw [List.size_toArray, HL'.out, HLN.out]
        · rw [List.toList_toArray, HT.out, List.take_append_of_le_length (by rw [vc_length]; omega), vc_take, HCT.out]
  · go_ret
    have hf : (vs.filter fun p => !sameP p.1 of) = vs := List.filter_eq_self.2 fun q hq => by rw [hall q hq]; rfl
    rw [hf, hn]
    exact ⟨_, rfl, rfl, own_keep hrow hc1 (fun _ _ h => h), hc1.mono fun _ _ f => f.elim⟩
end Go.Proofs.YthjcimgollfmgaaGreatDoor

/-
  A plain disk as it lies in memory: which blocks are its own, what they hold. No condition.
-/
namespace Go.Proofs.YthjcimgollfmgaaGreatDoor
open Go.RowKit

/-- Where things lie. -/
structure Gh where
  fb : Nat → Nat
  rv : Nat → Value
  sv : Nat → Value
  now : Option Nat
  sure : Option Nat
  fls : Option Nat
  lv : Value
  cv : Int
  vs : List (Value × Value)

def Dk.live (S : Dk) (i : Nat) : Prop := i ∈ ids S.sure ∨ i ∈ madeIds S.acts
def Dk.known (S : Dk) (i : Nat) : Prop := S.live i ∨ i ∈ moreIds S.acts
def fv (l : List Int) : List (Value × Value) := l.map fun k => (.int .i64 k, .agg #[])
def dcells (S : Dk) (G : Gh) : Array Value := #[.int .i64 (S.room : Int), .int .i64 (S.used : Int), .map G.now, .map G.sure, G.lv, .int .i64 (S.n : Int), .bool S.cut.isSome, .int .i64 G.cv, .map G.fls]
/-- A map is there, with these pairs, in a block of F; or it is nil and has none. -/
def MapO (w : World) (F : Nat → Prop) (o : Option Nat) (l : List (Value × Value)) : Prop := match o with
  | none => l = []
  | some b => F b ∧ MapW w b l

structure Rep (w : World) (F : Nat → Prop) (d : Nat) (S : Dk) (G : Gh) : Prop where
  ok : Ok S
  disk : w.heap[d]? = some (.cells (dcells S G) 63)
  inD : F d
  roomy : S.room < 9223372036854775808
  cutv : ∀ c, S.cut = some c → G.cv = (c : Int)
  now : MapO w F G.now (dv G.fb S.dir)
  sure : MapO w F G.sure (dv G.fb S.sure)
  both : G.now = none ↔ G.sure = none
  bare : G.now = .none → S.acts = []
  fails : ∃ l : List Int, MapO w F G.fls (fv l) ∧ ∀ k : Nat, S.n ≤ k → (S.fails k = true ↔ (k : Int) ∈ l)
  two : ∀ b, G.now = some b → G.sure ≠ some b ∧ G.fls ≠ some b
  three : ∀ b, G.sure = some b → G.fls ≠ some b
  row : w.ownsRow 0 88 2 G.lv G.vs.length (vc G.vs)
  rowF : ∀ k, G.lv.ownBlock = some k → F k
  many : G.vs.length = S.acts.length
  acts : ∀ (j : Nat) a p, S.acts[j]? = some a → G.vs[j]? = some p → ActW w F G.fb a p
  files : ∀ i, S.known i → F (G.fb i) ∧ w.heap[G.fb i]? = some (.cells #[G.rv i, G.sv i, .bool (decide (i ∈ ids S.dir))] 80)
  inj : ∀ i j, S.known i → S.known j → G.fb i = G.fb j → i = j
  bytes : ∀ i f, S.live i → S.files[i]? = some f → G.sv i = .int .i64 (f.sure : Int) ∧ w.ownsRow 0 5 1 (G.rv i) f.b.length (bc f.b) ∧ ∀ k, (G.rv i).ownBlock = some k → F k
  apart : ∀ i j k, S.live i → S.live j → (G.rv i).ownBlock = some k → (G.rv j).ownBlock = some k → i = j

theorem MapO.keep {w w' : World} {F F' X : Nat → Prop} {o : Option Nat} {l : List (Value × Value)} (h : MapO w F o l) (hc : Chg X w w') (hX : ∀ b, o = some b → ¬ X b) (hF : ∀ k, F k → F' k) : MapO w' F' o l := by
  cases o with
  | none => exact h
  | some b => exact ⟨hF b h.1, h.2.keep hc (hX b rfl)⟩

/-- A disk stays while none of its blocks is written. -/
theorem Rep.keep {w w' : World} {F F' X : Nat → Prop} {d : Nat} {S : Dk} {G : Gh} (h : Rep w F d S G) (hc : Chg X w w') (hX : ∀ k, F k → ¬ X k) (hF : ∀ k, F k → F' k) : Rep w' F' d S G where
  ok := h.ok
  disk := hc.keep h.disk (hX d h.inD)
  inD := hF d h.inD
  roomy := h.roomy
  cutv := h.cutv
  now := h.now.keep hc (fun b e => hX b (by have := h.now; rw [e] at this; exact this.1)) hF
  sure := h.sure.keep hc (fun b e => hX b (by have := h.sure; rw [e] at this; exact this.1)) hF
  both := h.both
  bare := h.bare
  fails := by
    obtain ⟨l, h1, h2⟩ := h.fails
    exact ⟨l, h1.keep hc (fun b e => hX b (by rw [e] at h1; exact h1.1)) hF, h2⟩
  two := h.two
  three := h.three
  row := own_keep h.row hc (fun k hk => hX k (h.rowF k hk))
  rowF := fun k hk => hF k (h.rowF k hk)
  many := h.many
  acts := fun j a p ha hp => (h.acts j a p ha hp).keep hc (fun c _ _ _ _ hc' => hX c hc') hF (fun _ _ => rfl)
  files := fun i hi => by
    obtain ⟨h1, h2⟩ := h.files i hi
    exact ⟨hF _ h1, hc.keep h2 (hX _ h1)⟩
  inj := h.inj
  bytes := fun i f hi hf => by
    obtain ⟨h1, h2, h3⟩ := h.bytes i f hi hf
    exact ⟨h1, own_keep h2 hc (fun k hk => hX k (h3 k hk)), fun k hk => hF k (h3 k hk)⟩
  apart := h.apart
theorem Rep.mono {w : World} {F F' : Nat → Prop} {d : Nat} {S : Dk} {G : Gh} (h : Rep w F d S G) (hF : ∀ k, F k → F' k) : Rep w F' d S G :=
  h.keep (Chg.refl (fun _ => False) w) (fun _ _ h => h) hF

/-! ### how much a disk has -/
def Dk.bulk (S : Dk) : Nat := (S.files.map fun f => f.b.length).sum + S.acts.length + S.files.length + S.n
theorem sum_le_of_mem {l : List Nat} {x : Nat} (h : x ∈ l) : x ≤ l.sum := by
  induction l with
  | nil => simp at h
  | cons a r ih =>
    rcases List.mem_cons.1 h with rfl | h
    · simp
    · have := ih h
      simp
      omega
theorem file_le {S : Dk} {i : Nat} {f : Fl} (h : S.files[i]? = some f) : f.b.length ≤ S.bulk := by
  have : f.b.length ≤ (S.files.map fun f => f.b.length).sum := sum_le_of_mem (List.mem_map.2 ⟨f, List.mem_of_getElem? h, rfl⟩)
  unfold Dk.bulk
  omega
/-- Lengths of some of the files, each once. -/
theorem lens_le (files : List Fl) : ∀ (is : List Nat), is.Nodup → (is.map (lenOf files)).sum ≤ (files.map fun f => f.b.length).sum := by
  induction files with
  | nil =>
    intro is _
    have : ∀ is : List Nat, (is.map (lenOf [])).sum = 0 := by
      intro is
      induction is with
      | nil => rfl
      | cons a r ih => simp [lenOf] at ih ⊢; exact ih
    rw [this]
    exact Nat.zero_le _
  | cons f r ih =>
    intro is hn
    have key : ∀ is : List Nat, is.Nodup → (is.map (lenOf (f :: r))).sum ≤ f.b.length + (((is.filter (· != 0)).map (· - 1)).map (lenOf r)).sum ∧ (0 ∉ is → (is.map (lenOf (f :: r))).sum ≤ (((is.filter (· != 0)).map (· - 1)).map (lenOf r)).sum) := by
      intro is
      induction is with
      | nil => intro _; simp
      | cons a t iht =>
        intro hn
        rw [List.nodup_cons] at hn
        obtain ⟨h1, h2⟩ := iht hn.2
        cases a with
        | zero =>
          have h3 := h2 hn.1
          refine ⟨?_, fun h => absurd (List.mem_cons_self) h⟩
          have e : lenOf (f :: r) 0 = f.b.length := rfl
          simp [e] at h3 ⊢
          omega
        | succ a =>
          have e : lenOf (f :: r) (a + 1) = lenOf r a := by simp [lenOf]
          simp [e] at h1 h2 ⊢
          refine ⟨by omega, fun h => ?_⟩
          have := h2 h
          omega
    have h1 := (key is hn).1
    have h2 : ((is.filter (· != 0)).map (· - 1)).Nodup := by
      rw [List.Nodup, List.pairwise_map]
      have := (hn.filter (· != 0))
      refine List.Pairwise.imp_of_mem ?_ this
      intro a b ha hb hne e
      have ha' := (List.mem_filter.1 ha).2
      have hb' := (List.mem_filter.1 hb).2
      simp at ha' hb'
      omega
    have h3 := ih _ h2
    simp only [List.map_cons, List.sum_cons]
    omega
theorem used_le {S : Dk} (h : Ok S) : S.used ≤ S.bulk := by
  have h1 := lens_le S.files (ids S.dir) h.oneD
  have e : S.used = ((ids S.dir).map (lenOf S.files)).sum := by
    unfold Dk.used usedOf ids
    rw [List.map_map]
    rfl
  rw [e]
  unfold Dk.bulk
  omega
theorem acts_le (S : Dk) : S.acts.length ≤ S.bulk := by unfold Dk.bulk; omega
theorem n_le (S : Dk) : S.n ≤ S.bulk := by unfold Dk.bulk; omega

theorem Ok.liveLt {S : Dk} (h : Ok S) {i : Nat} (hi : S.live i) : i < S.files.length := by
  rcases hi with hi | hi
  · exact h.idS i hi
  · exact h.idA i hi
theorem live_of_dir {S : Dk} (h : Ok S) {i : Nat} (hi : i ∈ ids S.dir) : S.live i := h.liveD hi

/-- All blocks of F, and those that are new. -/
def Fx (F : Nat → Prop) (w w' : World) : Nat → Prop := fun k => F k ∨ (w.heap.size ≤ k ∧ k < w'.heap.size)
theorem Fx.of {F : Nat → Prop} {w w' : World} {k : Nat} (h : F k) : Fx F w w' k := Or.inl h
theorem Rep.lt {w : World} {F : Nat → Prop} {d : Nat} {S : Dk} {G : Gh} (h : Rep w F d S G) : d < w.heap.size := lt_of_heap h.disk
end Go.Proofs.YthjcimgollfmgaaGreatDoor
