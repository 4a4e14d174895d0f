/-
  Texts joined: OnFile, Sync, SyncRep, ActRep.
-/
import Derived.Test.YthjcimgollfmgaaGreatDoorP5BeginRep
/-
  How an operation on a file that must be there begins; what Read answers. Condition: a disk within bounds.
-/
namespace Go.Proofs.YthjcimgollfmgaaGreatDoor
open Go.RowKit

section
variable {w w' : World} {F : Nat → Prop} {d : Nat} {S : Dk} {G : Gh}

set_option maxRecDepth 20000 in
theorem on_off (h : Rep w F d S G) (hon : S.on = false) (n : Nm) : Calls Tryz.prog 77 #[.pointer (some ⟨d, 0, none⟩), .string (strB n)] w fun e w' => e = .returned (.tuple #[.pointer none, .bool false, .int .i64 35]) ∧ Rep w' F d S G ∧ Chg (fun _ => False) w w' := by
  have hbeg := beginOff_rep h hon
  go_enter Tryz.func77, Tryz.ntmps77
  go_wp2_with (go_at_call 73; refine hbeg.mono ?_; rintro e w1 ⟨rfl, hr1, hc1⟩)
  go_ret3
  exact ⟨rfl, hr1, hc1⟩

set_option maxRecDepth 20000 in
theorem on_name (h : Rep w F d S G) (hon : S.on = true) (hb : S.n < 4611686018427387904) (n : Nm) (hn : isNm n = false) : Calls Tryz.prog 77 #[.pointer (some ⟨d, 0, none⟩), .string (strB n)] w fun e w' => e = .returned (.tuple #[.pointer none, .bool false, .int .i64 30]) ∧
    ∃ G', Rep w' (Fx F w w') d S.next G' ∧ Chg F w w' := by
  have hbeg := beginOn_rep0 h hon hb
  have hnm := fun W => isName_any W n
  rw [hn] at hnm
  go_enter Tryz.func77, Tryz.ntmps77
  go_wp2_with (first
    | (go_at_call 73; refine hbeg.mono ?_; rintro e w1 ⟨rfl, now, sure, hne, hr1, hc1⟩)
    | (go_at_call 74; refine (hnm _).mono ?_; rintro e w2 ⟨rfl, rfl⟩))
  go_ret3
  exact ⟨rfl, _, hr1, hc1⟩

set_option maxRecDepth 20000 in
theorem on_none (h : Rep w F d S G) (hon : S.on = true) (hb : S.n < 4611686018427387904) (n : Nm) (hn : isNm n = true) (hl : look S.dir n = none) : Calls Tryz.prog 77 #[.pointer (some ⟨d, 0, none⟩), .string (strB n)] w fun e w' => e = .returned (.tuple #[.pointer none, .bool false, .int .i64 32]) ∧
    ∃ G', Rep w' (Fx F w w') d S.next G' ∧ Chg F w w' := by
  have hbeg := beginOn_rep0 h hon hb
  have hnm := fun W => isName_any W n
  rw [hn] at hnm
  go_enter Tryz.func77, Tryz.ntmps77
  go_wp2_with (first
    | (go_at_call 73; refine hbeg.mono ?_; rintro e w1 ⟨rfl, now, sure, hne, hr1, hc1⟩; obtain ⟨bn, rfl⟩ := Option.ne_none_iff_exists'.1 hne; have hd1 := hr1.disk; rw [next_cells] at hd1; have x2 := cell_of hd1 2; have hlk := now_map hr1 rfl n; rw [show look S.next.dir n = none from hl] at hlk; have hlk' : (Instr.lookup 59 (.map (some bn)) (.string (strB n)) false).run Tryz.prog w1 = .ok (.pointer none) w1 := hlk; clear hlk)
    | (go_at_call 74; refine (hnm _).mono ?_; rintro e w2 ⟨rfl, hw2⟩; subst hw2))
  go_ret3
  exact ⟨rfl, _, hr1, hc1⟩

set_option maxRecDepth 20000 in
theorem on_ok (h : Rep w F d S G) (hon : S.on = true) (hb : S.n < 4611686018427387904) (n : Nm) (hn : isNm n = true) {f : Nat} (hl : look S.dir n = some f) : Calls Tryz.prog 77 #[.pointer (some ⟨d, 0, none⟩), .string (strB n)] w fun e w' =>
    ∃ G', e = .returned (.tuple #[.pointer (some ⟨G'.fb f, 0, none⟩), .bool (S.fails S.n), .int .i64 0]) ∧ Rep w' (Fx F w w') d S.next G' ∧ Chg F w w' := by
  have hbeg := beginOn_rep0 h hon hb
  have hnm := fun W => isName_any W n
  rw [hn] at hnm
  go_enter Tryz.func77, Tryz.ntmps77
  go_wp2_with (first
    | (go_at_call 73; refine hbeg.mono ?_; rintro e w1 ⟨rfl, now, sure, hne, hr1, hc1⟩; obtain ⟨bn, rfl⟩ := Option.ne_none_iff_exists'.1 hne; have hd1 := hr1.disk; rw [next_cells] at hd1; have x2 := cell_of hd1 2; have hlk := now_map hr1 rfl n; rw [show look S.next.dir n = some f from hl] at hlk; have hlk' : (Instr.lookup 59 (.map (some bn)) (.string (strB n)) false).run Tryz.prog w1 = .ok (.pointer (some ⟨G.fb f, 0, none⟩)) w1 := hlk; clear hlk)
    | (go_at_call 74; refine (hnm _).mono ?_; rintro e w2 ⟨rfl, hw2⟩; subst hw2))
  go_ret3
  exact ⟨{ G with now := some bn, sure := sure }, rfl, hr1, hc1⟩

/-- beginOn, in one. -/
theorem on_rep (h : Rep w F d S G) (hb : S.bulk < 1099511627776) (n : Nm) : Calls Tryz.prog 77 #[.pointer (some ⟨d, 0, none⟩), .string (strB n)] w fun e w' => ∃ G', Rep w' (Fx F w w') d S.begun G' ∧ Chg F w w' ∧
    ((∃ er, S.onFile n = .error er ∧ er ≠ 0 ∧ e = .returned (.tuple #[.pointer none, .bool false, .int .i64 er])) ∨
     (∃ f fl, S.onFile n = .ok (f, fl) ∧ look S.dir n = some f ∧ e = .returned (.tuple #[.pointer (some ⟨G'.fb f, 0, none⟩), .bool fl, .int .i64 0]))) := by
  have hnl := n_le S
  unfold Dk.onFile Dk.begun
  by_cases hon : S.on = false
  · simp only [if_pos hon]
    refine (on_off h hon n).mono ?_
    rintro e w' ⟨he, hr, hc⟩
    exact ⟨G, hr.mono fun k hk => Or.inl hk, hc.mono fun _ _ f => f.elim, Or.inl ⟨35, rfl, by omega, he⟩⟩
  simp only [if_neg hon]
  have hon' : S.on = true := by simpa using hon
  by_cases hn : isNm n = false
  · simp only [if_pos hn]
    refine (on_name h hon' (by omega) n hn).mono ?_
    rintro e w' ⟨he, G', hr, hc⟩
    exact ⟨G', hr, hc, Or.inl ⟨30, rfl, by omega, he⟩⟩
  simp only [if_neg hn]
  have hn' : isNm n = true := by simpa using hn
  cases hl : look S.dir n with
  | none =>
    refine (on_none h hon' (by omega) n hn' hl).mono ?_
    rintro e w' ⟨he, G', hr, hc⟩
    exact ⟨G', hr, hc, Or.inl ⟨32, rfl, by omega, he⟩⟩
  | some f =>
    refine (on_ok h hon' (by omega) n hn' hl).mono ?_
    rintro e w' ⟨G', he, hr, hc⟩
    exact ⟨G', hr, hc, Or.inr ⟨f, _, rfl, rfl, he⟩⟩

theorem begun_dir (S : Dk) : S.begun.dir = S.dir ∧ S.begun.files = S.files ∧ S.begun.acts = S.acts ∧ S.begun.sure = S.sure ∧ S.begun.room = S.room := by
  unfold Dk.begun
  split <;> exact ⟨rfl, rfl, rfl, rfl, rfl⟩
theorem bytes_of {S : Dk} {f : Nat} {x : Fl} (h : S.files[f]? = some x) : S.bytes f = x.b := by simp [Dk.bytes, h]

theorem ownsRow_base_le {w : World} {base base' n size : Nat} {e : TypeId} {v : Value} {xs : List Value} (h : w.ownsRow base' e size v n xs) (hb : base ≤ base') : w.ownsRow base e size v n xs := by
  refine ⟨h.1, ?_⟩
  rcases h.2 with h | ⟨g, cap, cur, r1, r2, r⟩
  · exact Or.inl h
  · exact Or.inr ⟨g, cap, cur, r1, Nat.le_trans hb r2, r⟩

/-- What a file has, in memory. -/
theorem Rep.file (h : Rep w F d S G) {n : Nm} {f : Nat} (hl : look S.dir n = some f) : ∃ x, S.files[f]? = some x ∧ S.bytes f = x.b ∧ S.live f ∧ w.heap[G.fb f]? = some (.cells #[G.rv f, .int .i64 (x.sure : Int), .bool true] 80) ∧ w.ownsRow 0 5 1 (G.rv f) x.b.length (bc x.b) := by
  have hi := look_id hl
  have hlv := live_of_dir h.ok hi
  obtain ⟨x, hx⟩ : ∃ x, S.files[f]? = some x := ⟨_, List.getElem?_eq_getElem (h.ok.idD hi)⟩
  obtain ⟨b1, b2, _⟩ := h.bytes f x hlv hx
  have f2 := (h.files f (Or.inl hlv)).2
  rw [b1, decide_eq_true hi] at f2
  exact ⟨x, hx, bytes_of hx, hlv, f2, b2⟩

set_option maxRecDepth 20000 in
set_option maxHeartbeats 400000 in
/-- Read. -/
theorem read_rep (h : Rep w F d S G) (hlow : ∀ k, F k → k < w.heap.size) (hb : S.bulk < 1099511627776) (n : Nm) : Calls Tryz.prog 59 #[.pointer (some ⟨d, 0, none⟩), .string (strB n)] w fun e w' => ∃ v G', e = .returned (.tuple #[v, .int .i64 (S.read n).2]) ∧ ∃ F', Rep w' F' d S.begun G' ∧ Chg F w w' ∧ (∀ k, F' k → F k ∨ (w.heap.size ≤ k ∧ k < w'.heap.size)) ∧
    w'.ownsRow w.heap.size 5 1 v (S.read n).1.length (bc (S.read n).1) ∧ ∀ k, v.ownBlock = some k → ¬ F' k := by
  have hon := on_rep h hb n
  obtain ⟨rb, hrb⟩ : ∃ rb, rb = (S.read n).1 := ⟨_, rfl⟩
  obtain ⟨re, hre⟩ : ∃ re, re = (S.read n).2 := ⟨_, rfl⟩
  rw [← hrb, ← hre]
  have HB := hide hrb
  have HE := hide hre
  clear hrb hre
  have hbb : ∀ {G' : Gh} {w1 : World} {f : Nat} {x : Fl}, Rep w1 (Fx F w w1) d S.begun G' → S.begun.files[f]? = some x → x.b.length ≤ 70368744177664 := fun {G' w1 f x} hr hx => by
    rw [(begun_dir S).2.1] at hx
    have := file_le hx
    omega
  go_enter Tryz.func59, Tryz.ntmps59
  go_wp2_with (first
    | (go_at_call 77; refine hon.mono ?_; rintro e w1 ⟨G', hr, hc, ⟨er, he, hne, rfl⟩ | ⟨f, fl, he, hl, rfl⟩⟩; rotate_left; (obtain ⟨x, hx, hbx, hlx, hfx, hrx⟩ := hr.file (n := n) (f := f) (by rw [(begun_dir S).1]; exact hl)); (have c0 := cell_of hfx 0); rotate_left)
    | (go_at_call 47; refine (clone_any _ _ x.b (sl_of_own hrx) (hbb hr hx)).mono ?_; rintro e w2 ⟨v', rfl, hown, hbel⟩))
  · go_ret2
    have e1 : S.read n = ([], er) := by unfold Dk.read; rw [he]
    rw [HB.out, HE.out, e1]
    exact ⟨_, G', rfl, _, hr, hc, fun k hk => hk, World.ownsRow_nil _ _ _ _, fun k hk => by cases hk⟩
  · rename_i hfl
    go_ret2
    have e1 : S.read n = ([], 34) := by unfold Dk.read; rw [he]; simp [hfl]
    rw [HB.out, HE.out, e1]
    exact ⟨_, G', rfl, _, hr, hc, fun k hk => hk, World.ownsRow_nil _ _ _ _, fun k hk => by cases hk⟩
  · rename_i hfl
    go_ret2
    have e1 : S.read n = (x.b, 0) := by
      unfold Dk.read
      rw [he]
      have e2 : S.bytes f = x.b := by
        rw [(begun_dir S).2.1] at hx
        exact bytes_of hx
      simp [hfl, e2]
    rw [HB.out, HE.out, e1]
    have hcb := Chg.of_below hbel
    refine ⟨_, G', rfl, Fx F w w1, hr.keep hcb (fun k hk hle => ?_) (fun _ h => h), hc.trans hcb (fun i hi hle => ?_), fun k hk => hk.imp_right fun h => ⟨h.1, Nat.lt_of_lt_of_le h.2 hbel.size⟩, ownsRow_base_le hown hc.size, fun k hk hF => ?_⟩
    · have h0 := hc.size
      rcases hk with h1 | h1
      · have := hlow k h1
        omega
      · omega
    · have := hc.size
      omega
    · have h1 := (hown.lt k hk).1
      rcases hF with h2 | h2
      · have := hlow k h2
        have := hc.size
        omega
      · omega
end
end Go.Proofs.YthjcimgollfmgaaGreatDoor

/-
  What syncing a file does: settle, keepFile, undoFile, Sync. Condition: a disk within bounds.
-/
namespace Go.Proofs.YthjcimgollfmgaaGreatDoor
open Go.RowKit

set_option maxRecDepth 20000 in
/-- The acts of a file, or of the directory, are taken from the loose ones. -/
theorem settle_any (w : World) (d n : Nat) (r u o1 o2 lv o4 c1 c2 fl of : Value) (vs : List (Value × Value)) (hd : w.heap[d]? = some (.cells #[r, u, o1, o2, lv, o4, c1, c2, fl] 63)) (hn : vs.length = n) (hrow : w.ownsRow 0 88 2 lv n (vc vs))
    (hp : ∀ p ∈ vs, PV w p.1) (hof : PV w of) (hb : n < 1099511627776) (hpn : ∀ p ∈ vs, ∀ b, p.1 = .pointer (some ⟨b, 0, none⟩) → lv.ownBlock ≠ some b) (hofn : ∀ b, of = .pointer (some ⟨b, 0, none⟩) → lv.ownBlock ≠ some b) (hfn : ∀ p ∈ vs, ∃ fn fs cs, p.2 = .func fn fs cs) :
    Calls Tryz.prog 103 #[.pointer (some ⟨d, 0, none⟩), of] w fun e w' => e = .returned (.tuple #[]) ∧ ∃ lv', w'.heap[d]? = some (.cells #[r, u, o1, o2, lv', o4, c1, c2, fl] 63) ∧ lv'.ownBlock = lv.ownBlock ∧
      w'.ownsRow 0 88 2 lv' (vs.filter fun p => !sameP p.1 of).length (vc (vs.filter fun p => !sameP p.1 of)) ∧ Chg (fun k => k = d ∨ some k = lv.ownBlock) w w' := by
  have hmf : ∀ (fn : Fn) (first cap : Array Value) (w : World), (Instr.makeFunc fn first cap).run Tryz.prog w = .ok (.func fn first cap) w := fun _ _ _ _ => rfl
  have hA : Chg (fun _ => False) w (w.alloc (.cells #[of] 77)) := (Chg.refl _ w).alloc _
  have hc := heap_last w (.cells #[of] 77)
  have hdA := hA.keep hd (fun h => h)
  have hdel := deleteFunc_any (w.alloc (.cells #[of] 77)) w.heap.size n lv of vs hn (own_keep hrow hA (fun _ _ h => h)) (fun p hm => (hp p hm).keep hA (fun _ _ h => h)) (hof.keep hA (fun _ _ h => h)) hc hb hpn hofn hfn
  have x4 := cell_of hdA 4
  have hld : ∀ k, lv.ownBlock = some k → k ≠ d := fun k hk => by
    obtain ⟨cur, hcur⟩ := own_block hrow hk
    exact ne_tag hcur hd (show 88 ≠ 63 by decide)
  have HLD := hide hld
  have HD := hide hdA
  have HA := hide hA
  clear hld hp hpn hfn hofn hrow
  generalize (vs.filter fun p => !sameP p.1 of) = rs at hdel ⊢
  have hpof : ∃ p, of = .pointer p := hof.shape
  obtain ⟨pof, rfl⟩ := hpof
  go_enter Tryz.func103, Tryz.ntmps103
  go_wp2_with (go_at_call 117; refine hdel.mono ?_; rintro e w1 ⟨lv', rfl, hob, hrow1, hc1⟩; obtain ⟨la, lc, rfl⟩ := own_shape hrow1; have hd1 := hc1.keep HD.out (fun e => HLD.out d e.symm rfl); have y4 := cell_of hd1 4; have z4 := thawed hd1 4)
  go_end0
  refine ⟨rfl, _, heap_set hd1 4 _, hob, own_keep hrow1 (chg_set w1 d 4 _) (fun k hk e => HLD.out k (by rw [← hob]; exact hk) e), ?_⟩
  exact Chg.setCell (F := fun k => k = d ∨ some k = lv.ownBlock) ((HA.out.mono fun _ _ h => h.elim).then (hc1.mono fun _ _ h => Or.inr h)) (p := ⟨d, 4, none⟩) (Or.inl (Or.inl rfl)) _

theorem zip_filter {α β : Type} {R : α → β → Prop} {p : α → Bool} {q : β → Bool} : ∀ (ls : List α) (bs : List β), bs.length = ls.length → (∀ (j : Nat) a b, ls[j]? = some a → bs[j]? = some b → R a b ∧ p a = q b) →
    (bs.filter q).length = (ls.filter p).length ∧ ∀ (j : Nat) a b, (ls.filter p)[j]? = some a → (bs.filter q)[j]? = some b → R a b
  | [], [], _, _ => ⟨rfl, fun j a b h => by simp at h⟩
  | [], b :: bs, h, _ => by simp at h
  | a :: ls, [], h, _ => by simp at h
  | a :: ls, b :: bs, h, hR => by
    obtain ⟨ih1, ih2⟩ := zip_filter ls bs (by simpa using h) (fun j x y hx hy => hR (j + 1) x y (by simpa using hx) (by simpa using hy))
    obtain ⟨r0, pq⟩ := hR 0 a b rfl rfl
    by_cases hpa : p a = true
    · rw [List.filter_cons_of_pos hpa, List.filter_cons_of_pos (pq ▸ hpa)]
      refine ⟨by simp [ih1], fun j x y hx hy => ?_⟩
      cases j with
      | zero =>
        simp at hx hy
        subst hx hy
        exact r0
      | succ j => exact ih2 j x y (by simpa using hx) (by simpa using hy)
    · rw [List.filter_cons_of_neg hpa, List.filter_cons_of_neg (pq ▸ hpa)]
      exact ⟨ih1, ih2⟩

section
variable {w w' : World} {F : Nat → Prop} {d : Nat} {S : Dk} {G : Gh}

/-- Of an act as it lies: its first cell, its second. -/
theorem ActW.first {fb : Nat → Nat} {a : Ac} {p : Value × Value} (h : ActW w F fb a p) : (isMore a = false ∧ p.1 = .pointer none) ∨ ∃ f k, a = .more f k ∧ p.1 = .pointer (some ⟨fb f, 0, none⟩) := by
  cases a with
  | more f k => exact Or.inr ⟨f, k, rfl, h.1⟩
  | made n f => exact Or.inl ⟨rfl, h.1⟩
  | ren a b => exact Or.inl ⟨rfl, h.1⟩
  | rem n => exact Or.inl ⟨rfl, h.1⟩
theorem ActW.second {fb : Nat → Nat} {a : Ac} {p : Value × Value} (h : ActW w F fb a p) : ∃ fn fs cs, p.2 = .func fn fs cs := by
  cases a with
  | more f k => obtain ⟨_, cf, cn, e, _⟩ := h; exact ⟨_, _, _, e⟩
  | made n f => obtain ⟨_, c, v, e, _⟩ := h; exact ⟨_, _, _, e⟩
  | ren a b => obtain ⟨_, c, v, e, _⟩ := h; exact ⟨_, _, _, e⟩
  | rem n => obtain ⟨_, c, v, e, _⟩ := h; exact ⟨_, _, _, e⟩
theorem mem_more {ls : List Ac} {f k : Nat} (h : Ac.more f k ∈ ls) : f ∈ moreIds ls := List.mem_filterMap.2 ⟨_, h, rfl⟩

theorem Rep.pair (h : Rep w F d S G) {p : Value × Value} (hp : p ∈ G.vs) : ∃ a ∈ S.acts, ActW w F G.fb a p := by
  obtain ⟨j, hj, rfl⟩ := List.getElem_of_mem hp
  have hj' : j < S.acts.length := by rw [← h.many]; exact hj
  exact ⟨_, List.getElem_mem hj', h.acts j _ _ (List.getElem?_eq_getElem hj') (List.getElem?_eq_getElem hj)⟩
theorem Rep.pv (h : Rep w F d S G) : ∀ p ∈ G.vs, PV w p.1 := fun p hp => by
  obtain ⟨a, ha, hw⟩ := h.pair hp
  rcases hw.first with ⟨_, e⟩ | ⟨f, k, rfl, e⟩
  · exact Or.inl e
  · exact Or.inr ⟨_, _, _, e, (h.files f (Or.inr (mem_more ha))).2⟩
theorem Rep.pvn (h : Rep w F d S G) : ∀ p ∈ G.vs, ∀ b, p.1 = .pointer (some ⟨b, 0, none⟩) → G.lv.ownBlock ≠ some b := fun p hp b hb hk => by
  obtain ⟨a, ha, hw⟩ := h.pair hp
  rcases hw.first with ⟨_, e⟩ | ⟨f, k, rfl, e⟩
  · rw [e] at hb
    cases hb
  · rw [e] at hb
    injection hb with hb
    injection hb with hb
    injection hb with hb
    obtain ⟨cur, hcur⟩ := own_block h.row hk
    exact ne_tag hcur (h.files f (Or.inr (mem_more ha))).2 (show 88 ≠ 80 by decide) hb.symm
theorem Rep.funcs (h : Rep w F d S G) : ∀ p ∈ G.vs, ∃ fn fs cs, p.2 = .func fn fs cs := fun p hp => by
  obtain ⟨a, _, hw⟩ := h.pair hp
  exact hw.second
/-- Which acts go, when those of a file do. -/
theorem Rep.same_of (h : Rep w F d S G) {f : Nat} (hf : S.known f) {j : Nat} {a : Ac} {p : Value × Value} (ha : S.acts[j]? = some a) (hp : G.vs[j]? = some p) : (!isOf f a) = !sameP p.1 (.pointer (some ⟨G.fb f, 0, none⟩)) := by
  rcases (h.acts j a p ha hp).first with ⟨hm, e⟩ | ⟨g, k, rfl, e⟩
  · rw [e]
    cases a <;> first | rfl | simp [isMore] at hm
  · rw [e]
    have hg : S.known g := Or.inr (mem_more (List.mem_of_getElem? ha))
    show (!(g == f)) = !(G.fb g == G.fb f)
    congr 1
    rw [Bool.eq_iff_iff, beq_iff_eq, beq_iff_eq]
    exact ⟨fun e => by rw [e], fun e => h.inj g f hg hf e⟩
theorem Rep.same_dir (h : Rep w F d S G) {j : Nat} {a : Ac} {p : Value × Value} (ha : S.acts[j]? = some a) (hp : G.vs[j]? = some p) : isMore a = !sameP p.1 (.pointer none) := by
  rcases (h.acts j a p ha hp).first with ⟨hm, e⟩ | ⟨g, k, rfl, e⟩
  · rw [e, hm]
    rfl
  · rw [e]
    rfl
end
end Go.Proofs.YthjcimgollfmgaaGreatDoor

/-
  What Sync answers, and does. Condition: a disk within bounds.
-/
namespace Go.Proofs.YthjcimgollfmgaaGreatDoor
open Go.RowKit

theorem PV.set {w : World} {v : Value} (h : PV w v) (f i : Nat) (u : Value) : PV (w.setCell ⟨f, i, none⟩ u) v := by
  rcases h with h | ⟨b, c, t, h1, h2⟩
  · exact Or.inl h
  · by_cases e : b = f
    · subst e
      exact Or.inr ⟨b, _, t, h1, heap_set h2 i u⟩
    · exact Or.inr ⟨b, c, t, h1, heap_set_other h2 e⟩
theorem PV.drew {w : World} {v : Value} (h : PV w v) : PV w.drew v := h

section
variable {w w' : World} {F : Nat → Prop} {d : Nat} {S : Dk} {G : Gh}

theorem live_filter {S : Dk} {q : Ac → Bool} {files : List Fl} (hq : ∀ a, isMore a = false → q a = true) {i : Nat} : Dk.live { S with files := files, acts := S.acts.filter q } i ↔ S.live i := by
  unfold Dk.live
  simp only
  rw [filter_more_made _ _ hq]
theorem known_filter {S : Dk} {q : Ac → Bool} {files : List Fl} (hq : ∀ a, isMore a = false → q a = true) {i : Nat} (h : Dk.known { S with files := files, acts := S.acts.filter q } i) : S.known i := by
  rcases h with h | h
  · exact Or.inl ((live_filter hq).1 h)
  · exact Or.inr (mem_moreIds_filter h)

/-- A file is as its acts, or what is sure of it, say; its acts are no longer loose. -/
theorem Rep.refile (h : Rep w F d S G) {f : Nat} (hf : f ∈ ids S.dir) {x : Fl} (hx : S.files[f]? = some x) (g : Fl → Fl) {rv lv : Value} (hc : Chg (fun k => k = d ∨ k = G.fb f ∨ some k = G.lv.ownBlock) w w')
    (hok : Ok { S with files := S.files.modify f g, acts := S.acts.filter fun a => !isOf f a })
    (hd : w'.heap[d]? = some (.cells (dcells { S with files := S.files.modify f g, acts := S.acts.filter fun a => !isOf f a } { G with lv := lv }) 63))
    (hfb : w'.heap[G.fb f]? = some (.cells #[rv, .int .i64 ((g x).sure : Int), .bool true] 80)) (hrv : w'.ownsRow 0 5 1 rv (g x).b.length (bc (g x).b)) (hrb : ∀ k, rv.ownBlock = some k → (G.rv f).ownBlock = some k)
    (hlv : lv.ownBlock = G.lv.ownBlock) (hrow : w'.ownsRow 0 88 2 lv (G.vs.filter fun p => !sameP p.1 (.pointer (some ⟨G.fb f, 0, none⟩))).length (vc (G.vs.filter fun p => !sameP p.1 (.pointer (some ⟨G.fb f, 0, none⟩))))) :
    Rep w' (Fx F w w') d { S with files := S.files.modify f g, acts := S.acts.filter fun a => !isOf f a }
      { G with rv := upd G.rv f rv, sv := upd G.sv f (.int .i64 ((g x).sure : Int)), lv := lv, vs := G.vs.filter fun p => !sameP p.1 (.pointer (some ⟨G.fb f, 0, none⟩)) } := by
  have hlf := live_of_dir h.ok hf
  have hkf : S.known f := Or.inl hlf
  obtain ⟨b1, b2, b3⟩ := h.bytes f x hlf hx
  obtain ⟨f1, f2⟩ := h.files f hkf
  have hXn : ∀ k o, w.heap[k]? = some o → tag o ≠ 63 → tag o ≠ 80 → tag o ≠ 88 → ¬ (k = d ∨ k = G.fb f ∨ some k = G.lv.ownBlock) := by
    intro k o ho t1 t2 t4 e
    rcases e with rfl | rfl | e
    · exact ne_tag ho h.disk t1 rfl
    · exact ne_tag ho f2 t2 rfl
    · obtain ⟨cur, hcur⟩ := own_block h.row e.symm
      exact ne_tag ho hcur t4 rfl
  have hsp : Spares w (fun k => k = d ∨ k = G.fb f ∨ some k = G.lv.ownBlock) := (spares_cells h.disk (by decide)).or ((spares_cells f2 (by decide)).or (spares_row h.row (by decide)))
  have hmapn : ∀ {o : Option Nat} {l : List (Value × Value)}, MapO w F o l → MapO w' (Fx F w w') o l := fun {o l} hm => hm.keep hc (fun c e => by
    rw [e] at hm
    obtain ⟨es, ck, hh, _⟩ := hm.2
    exact hXn c _ hh (show (100000 : Nat) ≠ 63 by decide) (show (100000 : Nat) ≠ 80 by decide) (show (100000 : Nat) ≠ 88 by decide)) (fun _ h => Or.inl h)
  have hz := zip_filter (R := ActW w' (Fx F w w') G.fb) (p := fun a => !isOf f a) (q := fun p : Value × Value => !sameP p.1 (.pointer (some ⟨G.fb f, 0, none⟩))) S.acts G.vs h.many (fun j a p ha hp => ⟨h.actsKeep hc hsp (fun _ h => Or.inl h) j a p ha hp, h.same_of hkf ha hp⟩)
  have hnm := notOf_more f
  refine
    { ok := hok
      disk := hd
      inD := Or.inl h.inD
      roomy := h.roomy
      cutv := h.cutv
      now := hmapn h.now
      sure := hmapn h.sure
      both := h.both
      bare := fun e => by show S.acts.filter _ = []; rw [h.bare e]; rfl
      fails := by
        obtain ⟨l, g1, g2⟩ := h.fails
        exact ⟨l, hmapn g1, g2⟩
      two := h.two
      three := h.three
      row := hrow
      rowF := fun k hk => Or.inl (h.rowF k (by rw [← hlv]; exact hk))
      many := hz.1
      acts := hz.2
      files := fun i hi => ?_
      inj := fun i j hi hj e => h.inj i j (known_filter hnm hi) (known_filter hnm hj) e
      bytes := fun i y hi hy => ?_
      apart := fun i j k hi hj e1 e2 => ?_ }
  · have hi' := known_filter hnm hi
    obtain ⟨g1, g2⟩ := h.files i hi'
    refine ⟨Or.inl g1, ?_⟩
    show w'.heap[G.fb i]? = some (.cells #[upd G.rv f rv i, upd G.sv f _ i, .bool (decide (i ∈ ids S.dir))] _)
    by_cases e : i = f
    · subst e
      rw [upd_same, upd_same, decide_eq_true hf]
      exact hfb
    · rw [upd_other _ _ e, upd_other _ _ e]
      refine hc.keep g2 (fun hXb => ?_)
      rcases hXb with e2 | e2 | e2
      · exact h.ne_file hi' e2.symm
      · exact e (h.inj i f hi' hkf e2)
      · obtain ⟨cur, hcur⟩ := own_block h.row e2.symm
        exact ne_tag g2 hcur (show 80 ≠ 88 by decide) rfl
  · have hi' := (live_filter hnm).1 hi
    show upd G.sv f _ i = _ ∧ w'.ownsRow 0 _ 1 (upd G.rv f rv i) _ _ ∧ ∀ k, (upd G.rv f rv i).ownBlock = some k → _
    rcases modify_get hy with ⟨hne2, hy'⟩ | ⟨rfl, y', hy', rfl⟩
    · rw [upd_other _ _ hne2, upd_other _ _ hne2]
      obtain ⟨c1, c2, c3⟩ := h.bytes i y hi' hy'
      refine ⟨c1, own_keep c2 hc (fun k hk => ?_), fun k hk => Or.inl (c3 k hk)⟩
      obtain ⟨cur, hcur⟩ := own_block c2 hk
      exact hXn k _ hcur (show 5 ≠ 63 by decide) (show 5 ≠ 80 by decide) (show 5 ≠ 88 by decide)
    · rw [hx] at hy'
      injection hy' with hy'
      subst hy'
      rw [upd_same, upd_same]
      exact ⟨rfl, hrv, fun k hk => Or.inl (b3 k (hrb k hk))⟩
  · have hi' := (live_filter hnm).1 hi
    have hj' := (live_filter hnm).1 hj
    have old : ∀ i, (upd G.rv f rv i).ownBlock = some k → (G.rv i).ownBlock = some k := fun i hi => by
      by_cases e : i = f
      · subst e
        rw [upd_same] at hi
        exact hrb k hi
      · rw [upd_other _ _ e] at hi
        exact hi
    exact h.apart i j k hi' hj' (old i e1) (old j e2)

set_option maxRecDepth 20000 in
theorem keepFile_rep (h : Rep w F d S G) {f : Nat} (hf : f ∈ ids S.dir) (hb : S.bulk < 1099511627776) :
    Calls Tryz.prog 79 #[.pointer (some ⟨d, 0, none⟩), .pointer (some ⟨G.fb f, 0, none⟩)] w fun e w' => e = .returned (.tuple #[]) ∧ ∃ G', Rep w' (Fx F w w') d (S.keepF f) G' ∧ Chg F w w' := by
  have hlf := live_of_dir h.ok hf
  obtain ⟨x, hx⟩ : ∃ x, S.files[f]? = some x := ⟨_, List.getElem?_eq_getElem (h.ok.idD hf)⟩
  obtain ⟨b1, b2, b3⟩ := h.bytes f x hlf hx
  obtain ⟨f1, f2⟩ := h.files f (Or.inl hlf)
  rw [decide_eq_true hf] at f2
  obtain ⟨ra, rc, hrv⟩ := own_shape b2
  have f2' := f2
  rw [hrv] at f2'
  have hd := h.disk
  unfold dcells at hd
  have hdf : d ≠ G.fb f := h.ne_file (Or.inl hlf)
  have hal := acts_le S
  obtain ⟨W1, hW1⟩ : ∃ W, W = w.setCell ⟨G.fb f, 1, none⟩ (.int .i64 (x.b.length : Int)) := ⟨_, rfl⟩
  have hc1 : Chg (· = G.fb f) w W1 := hW1 ▸ chg_set _ _ _ _
  have hd1 := hc1.keep hd hdf
  have hlr : ∀ k, G.lv.ownBlock = some k → k ≠ G.fb f := fun k hk => by
    obtain ⟨cur, hcur⟩ := own_block h.row hk
    exact ne_tag hcur f2 (show 88 ≠ 80 by decide)
  have hset := settle_any W1 d G.vs.length _ _ _ _ _ _ _ _ _ (.pointer (some ⟨G.fb f, 0, none⟩)) G.vs hd1 rfl (own_keep h.row hc1 (fun k hk => hlr k hk)) (fun p hp => hW1 ▸ (h.pv p hp).set _ _ _) (hW1 ▸ (PV.set (Or.inr ⟨_, _, _, rfl, f2⟩) _ _ _)) (by rw [h.many]; omega) h.pvn (fun b e hk => hlr b hk (by injection e with e; injection e with e; injection e with e; exact e.symm)) h.funcs
  have hf1 : W1.heap[G.fb f]? = some (.cells #[G.rv f, .int .i64 (x.b.length : Int), .bool true] 80) := hW1 ▸ heap_set f2 1 _
  have c0 := cell_of f2' 0
  have c1 := cell_of f2' 1
  have t1 := thawed f2' 1
  have HW := hide hW1
  have HF1 := hide hf1
  have HB2 := hide b2
  have HLR := hide hlr
  have HC1 := hide hc1
  have HF2 := hide f2
  clear hW1 hf1 b2 hlr hc1 f2 f2' hd1 hd
  go_enter Tryz.func79, Tryz.ntmps79
  go_wp2_with (first
    | (go_at_call 103; (first | rw [← HW.out] | skip); refine hset.mono ?_; rintro e w2 ⟨rfl, lv', q1, q2, q3, q4⟩))
  go_end0
  have hX : Chg (fun k => k = d ∨ k = G.fb f ∨ some k = G.lv.ownBlock) w w2 := (HC1.out.mono fun _ _ e => Or.inr (Or.inl e)).then (q4.mono fun _ _ e => e.elim Or.inl fun e => Or.inr (Or.inr e))
  refine ⟨rfl, _, h.refile hf hx (fun x => { x with sure := x.b.length }) hX (h.ok.keepF f) ?_ (q4.keep HF1.out (fun e => e.elim (fun e => hdf e.symm) (fun e => HLR.out _ e.symm rfl))) ?_ (fun k hk => hk) q2 q3, hX.mono fun k _ hk => ?_⟩
  · rw [q1]
    unfold dcells
    have e1 : Dk.used { S with files := S.files.modify f fun x => { x with sure := x.b.length }, acts := S.acts.filter fun a => !isOf f a } = S.used := by
      have := used_modify (g := fun x => { x with sure := x.b.length }) h.ok.oneD hf hx
      unfold Dk.used
      simp only at this ⊢
      omega
    rw [e1]
  · refine own_keep (own_keep HB2.out HC1.out (fun k hk e => ?_)) q4 (fun k hk e => ?_)
    · obtain ⟨cur, hcur⟩ := own_block HB2.out hk
      exact ne_tag hcur HF2.out (show 5 ≠ 80 by decide) e
    · obtain ⟨cur, hcur⟩ := own_block HB2.out hk
      rcases e with e | e
      · exact ne_tag hcur h.disk (show 5 ≠ 63 by decide) e
      · obtain ⟨cur2, hcur2⟩ := own_block h.row e.symm
        exact ne_tag hcur hcur2 (show 5 ≠ 88 by decide) rfl
  · rcases hk with rfl | rfl | hk
    · exact h.inD
    · exact f1
    · exact h.rowF k hk.symm

theorem own_cut {w : World} {n k : Nat} {ra : Option Addr} {rc : Nat} {l : List UInt8} (h : w.ownsRow 0 5 1 (.slice ra n rc) n (bc l)) (hl : l.length = n) (hk : k ≤ n) : w.ownsRow 0 5 1 (.slice ra k rc) k (bc (l.take k)) := by
  refine ⟨by rw [bc_length, List.length_take]; omega, ?_⟩
  rcases h.2 with ⟨e, h0⟩ | ⟨g, cap, cur, e, h1, h2, h3, h4, h5, h6⟩
  · injection e with e1 e2 e3
    subst e1 e3
    exact Or.inl ⟨by rw [show k = 0 by omega], by omega⟩
  · injection e with e1 e2 e3
    subst e1 e3
    refine Or.inr ⟨g, rc, cur, rfl, h1, h2, by omega, h4, h5, ?_⟩
    rw [bc_take, ← h6, List.take_take, Nat.mul_one, Nat.mul_one, Nat.min_eq_left hk]

set_option maxRecDepth 20000 in
set_option maxHeartbeats 400000 in
theorem undoFile_rep (h : Rep w F d S G) {f : Nat} (hf : f ∈ ids S.dir) (hb : S.bulk < 1099511627776) :
    Calls Tryz.prog 78 #[.pointer (some ⟨d, 0, none⟩), .pointer (some ⟨G.fb f, 0, none⟩)] w fun e w' => e = .returned (.tuple #[]) ∧ ∃ G', Rep w' (Fx F w w') d (S.undoF f) G' ∧ Chg F w w' := by
  have hlf := live_of_dir h.ok hf
  obtain ⟨x, hx⟩ : ∃ x, S.files[f]? = some x := ⟨_, List.getElem?_eq_getElem (h.ok.idD hf)⟩
  have hlen := h.ok.lens f x hx
  have hsl : x.sure ≤ x.b.length := by omega
  obtain ⟨b1, b2, b3⟩ := h.bytes f x hlf hx
  obtain ⟨f1, f2⟩ := h.files f (Or.inl hlf)
  rw [decide_eq_true hf, b1] at f2
  have hrc : ∃ ra rc, G.rv f = .slice ra x.b.length rc ∧ x.b.length ≤ rc ∧ (ra = none → rc = 0) := by
    rcases b2.2 with ⟨e, h0⟩ | ⟨g, cap, cur, e, q1, q2, q3, q4, q5, q6⟩
    · exact ⟨none, 0, by rw [h0]; exact e, by omega, fun _ => rfl⟩
    · exact ⟨_, cap, e, q3, fun h => by cases h⟩
  obtain ⟨ra, rc, hrv, hle, hnil⟩ := hrc
  have hfl := file_le hx
  have hus := used_modify (g := fun x => { x with b := x.b.take x.sure }) h.ok.oneD hf hx
  simp only [List.length_take] at hus
  have hul := used_le h.ok
  have hdu : usedOf S.files S.dir = S.used := rfl
  have f2' := f2
  rw [hrv] at f2'
  have hd := h.disk
  unfold dcells at hd
  have hdf : d ≠ G.fb f := h.ne_file (Or.inl hlf)
  have hal := acts_le S
  obtain ⟨u', hu'⟩ : ∃ u' : Int, u' = (S.used : Int) - ((x.b.length : Int) - (x.sure : Int)) := ⟨_, rfl⟩
  -- used
  obtain ⟨W1, hW1⟩ : ∃ W, W = (w.setCell ⟨d, 1, none⟩ (.int .i64 u')).drew := ⟨_, rfl⟩
  have hc1 : Chg (· = d) w W1 := hW1 ▸ (chg_set _ _ _ _).drew
  have hd1 : W1.heap[d]? = some (.cells #[.int .i64 (S.room : Int), .int .i64 u', .map G.now, .map G.sure, G.lv, .int .i64 (S.n : Int), .bool S.cut.isSome, .int .i64 G.cv, .map G.fls] 63) := hW1 ▸ heap_set hd 1 _
  have hf1 := hc1.keep f2 (fun e => hdf e.symm)
  have hf1' := hf1
  rw [hrv] at hf1'
  have hlrd : ∀ k, G.lv.ownBlock = some k → k ≠ d := fun k hk => h.ne_row hk
  have hlr : ∀ k, G.lv.ownBlock = some k → k ≠ G.fb f := fun k hk => by
    obtain ⟨cur, hcur⟩ := own_block h.row hk
    exact ne_tag hcur f2 (show 88 ≠ 80 by decide)
  -- bytes
  obtain ⟨W2, hW2⟩ : ∃ W, W = (W1.setCell ⟨G.fb f, 0, none⟩ (.slice ra x.sure rc)).drew := ⟨_, rfl⟩
  have hc2 : Chg (· = G.fb f) W1 W2 := hW2 ▸ (chg_set _ _ _ _).drew
  have hd2 := hc2.keep hd1 hdf
  have hf2 : W2.heap[G.fb f]? = some (.cells #[.slice ra x.sure rc, .int .i64 (x.sure : Int), .bool true] 80) := hW2 ▸ heap_set hf1 0 _
  have pvs : ∀ v, PV w v → PV W2 v := fun v hv => by
    have h1 : PV W1 v := hW1 ▸ (hv.set d 1 (.int .i64 u'))
    exact hW2 ▸ (h1.set (G.fb f) 0 (.slice ra x.sure rc))
  have hset := settle_any W2 d G.vs.length _ _ _ _ _ _ _ _ _ (.pointer (some ⟨G.fb f, 0, none⟩)) G.vs hd2 rfl (own_keep (own_keep h.row hc1 (fun k hk => hlrd k hk)) hc2 (fun k hk => hlr k hk)) (fun p hp => pvs _ (h.pv p hp)) (pvs _ (Or.inr ⟨_, _, _, rfl, f2⟩)) (by rw [h.many]; omega) h.pvn (fun b e hk => hlr b hk (by injection e with e; injection e with e; injection e with e; exact e.symm)) h.funcs
  have c0 := cell_of f2' 0
  have c1 := cell_of f2' 1
  have c2 := cell_of hd 1
  have t1 := thawed hd 1
  have g0 := cell_of hf1' 0
  have g1 := cell_of hf1' 1
  have g2 := thawed hf1' 0
  have HW1 := hide hW1
  have HW2 := hide hW2
  have HF2 := hide hf2
  have HB2 := hide b2
  have HLR := hide hlr
  have HC1 := hide hc1
  have HC2 := hide hc2
  have HFF := hide f2
  have HU := hide hu'
  have HUS := hide hus
  have HLEN := hide hlen
  clear hW1 hW2 hf2 b2 hlr hc1 hc2 f2 f2' hf1 hf1' hd1 hd2 pvs hus hlen hdu hu'
  go_enter Tryz.func78, Tryz.ntmps78
  go_wp2_with fail
  go_region
  rw [← HU.out, ← HW1.out]
  go_wp2_with fail
  go_region
  rw [← HW2.out]
  go_wp2_with (go_at_call 103; refine hset.mono ?_; rintro e w3 ⟨rfl, lv', q1, q2, q3, q4⟩)
  go_end0
  have hX : Chg (fun k => k = d ∨ k = G.fb f ∨ some k = G.lv.ownBlock) w w3 := ((HC1.out.mono fun _ _ e => Or.inl e).then (HC2.out.mono fun _ _ e => Or.inr (Or.inl e))).then (q4.mono fun _ _ e => e.elim Or.inl fun e => Or.inr (Or.inr e))
  have hus := HUS.out
  refine ⟨rfl, _, h.refile hf hx (fun x => { x with b := x.b.take x.sure }) (rv := .slice ra x.sure rc) hX (h.ok.undoF f) ?_ (q4.keep HF2.out (fun e => e.elim (fun e => hdf e.symm) (fun e => HLR.out _ e.symm rfl))) ?_ (fun k hk => by rw [hrv]; cases ra with | none => cases hk | some a => exact hk) q2 q3, hX.mono fun k _ hk => ?_⟩
  · rw [q1]
    unfold dcells
    have e1 : ((Dk.used { S with files := S.files.modify f fun x => { x with b := x.b.take x.sure }, acts := S.acts.filter fun a => !isOf f a } : Nat) : Int) = u' := by
      have e2 : usedOf S.files S.dir = S.used := rfl
      have e3 : Dk.used { S with files := S.files.modify f fun x => { x with b := x.b.take x.sure }, acts := S.acts.filter fun a => !isOf f a } = usedOf (S.files.modify f fun x => { x with b := x.b.take x.sure }) S.dir := rfl
      rw [e3, HU.out]
      omega
    rw [e1]
  · have hcut := own_cut (l := x.b) (k := x.sure) (hrv ▸ HB2.out) rfl hsl
    show w3.ownsRow 0 _ 1 (.slice ra x.sure rc) (x.b.take x.sure).length (bc (x.b.take x.sure))
    rw [show (x.b.take x.sure).length = x.sure by rw [List.length_take]; omega]
    refine own_keep (own_keep (own_keep hcut HC1.out (fun k hk e => ?_)) HC2.out (fun k hk e => ?_)) q4 (fun k hk e => ?_)
    · obtain ⟨cur, hcur⟩ := own_block hcut hk
      exact ne_tag hcur h.disk (show 5 ≠ 63 by decide) e
    · obtain ⟨cur, hcur⟩ := own_block hcut hk
      exact ne_tag hcur HFF.out (show 5 ≠ 80 by decide) e
    · obtain ⟨cur, hcur⟩ := own_block hcut hk
      rcases e with e | e
      · exact ne_tag hcur h.disk (show 5 ≠ 63 by decide) e
      · obtain ⟨cur2, hcur2⟩ := own_block h.row e.symm
        exact ne_tag hcur hcur2 (show 5 ≠ 88 by decide) rfl
  · rcases hk with rfl | rfl | hk
    · exact h.inD
    · exact f1
    · exact h.rowF k hk.symm

theorem bulk_begun (S : Dk) : S.begun.bulk ≤ S.bulk + 1 := by
  unfold Dk.begun
  split
  · omega
  · rw [bulk_next]
    omega

set_option maxRecDepth 20000 in
set_option maxHeartbeats 400000 in
/-- Sync. -/
theorem sync_rep (h : Rep w F d S G) (hb : S.bulk + 1 < 1099511627776) (n : Nm) : Calls Tryz.prog 56 #[.pointer (some ⟨d, 0, none⟩), .string (strB n)] w fun e w' => e = .returned (.int .i64 (S.sync n).2) ∧ ∃ G', Rep w' (Fx F w w') d (S.sync n).1 G' ∧ Chg F w w' := by
  have hon := on_rep h (by omega) n
  have hbb := bulk_begun S
  have hkeep : ∀ {G' : Gh} {w1 : World} {f : Nat}, Rep w1 (Fx F w w1) d S.begun G' → look S.dir n = some f → _ := fun {G' w1 f} hr hl => keepFile_rep hr (f := f) (by rw [(begun_dir S).1]; exact look_id hl) (by omega)
  have hundo : ∀ {G' : Gh} {w1 : World} {f : Nat}, Rep w1 (Fx F w w1) d S.begun G' → look S.dir n = some f → _ := fun {G' w1 f} hr hl => undoFile_rep hr (f := f) (by rw [(begun_dir S).1]; exact look_id hl) (by omega)
  obtain ⟨ra, hra⟩ : ∃ ra, ra = (S.sync n).1 := ⟨_, rfl⟩
  obtain ⟨re, hre⟩ : ∃ re, re = (S.sync n).2 := ⟨_, rfl⟩
  rw [← hra, ← hre]
  have HA := hide hra
  have HE := hide hre
  clear hra hre
  go_enter Tryz.func56, Tryz.ntmps56
  go_wp2_with (first
    | (go_at_call 77; refine hon.mono ?_; rintro e w1 ⟨G', hr, hc, ⟨er, he, hne, rfl⟩ | ⟨f, fl, he, hl, rfl⟩⟩)
    | (go_at_call 78; refine (hundo hr hl).mono ?_; rintro e w2 ⟨rfl, G2, hr2, hc2⟩)
    | (go_at_call 79; refine (hkeep hr hl).mono ?_; rintro e w2 ⟨rfl, G2, hr2, hc2⟩))
  · go_ret
    have e1 : S.sync n = (S.begun, er) := by unfold Dk.sync; rw [he]
    rw [HA.out, HE.out, e1]
    exact ⟨rfl, G', hr, hc⟩
  · rename_i hfl
    go_ret
    have e1 : S.sync n = (S.begun.undoF f, 34) := by unfold Dk.sync; rw [he]; simp [hfl]
    rw [HA.out, HE.out, e1]
    exact ⟨rfl, G2, hr2.mono (Fx.trans hc.size hc2.size), hc.fx hc2⟩
  · rename_i hfl
    go_ret
    have e1 : S.sync n = (S.begun.keepF f, 0) := by unfold Dk.sync; rw [he]; simp [hfl]
    rw [HA.out, HE.out, e1]
    exact ⟨rfl, G2, hr2.mono (Fx.trans hc.size hc2.size), hc.fx hc2⟩
end
end Go.Proofs.YthjcimgollfmgaaGreatDoor

/-
  What acts of the directory do to a disk: Remove, Rename. Condition: a disk within bounds.
-/
namespace Go.Proofs.YthjcimgollfmgaaGreatDoor
open Go.RowKit

/-- Which file loses its name. -/
def goneOf (l : Dir) : Ac → Option Nat
  | .ren _ b => look l b
  | .rem n => look l n
  | _ => none
theorem ids_del {l : Dir} (hs : Sorted l) (hn : (ids l).Nodup) {n : Nm} {f : Nat} (h : look l n = some f) (i : Nat) : i ∈ ids (del n l) ↔ i ∈ ids l ∧ i ≠ f := by
  have hp : (ids l).Perm (f :: ids (del n l)) := (del_perm hs h).map fun p : Nm × Nat => p.2
  have hn2 := (hp.nodup_iff).1 hn
  rw [List.nodup_cons] at hn2
  rw [hp.mem_iff, List.mem_cons]
  constructor
  · intro hi
    exact ⟨Or.inr hi, fun e => hn2.1 (e ▸ hi)⟩
  · rintro ⟨h1 | h1, h2⟩
    · exact absurd h1 h2
    · exact h1
theorem used_del {files : List Fl} {l : Dir} (hs : Sorted l) {n : Nm} {f : Nat} (h : look l n = some f) : usedOf files l = lenOf files f + usedOf files (del n l) := by
  unfold usedOf
  rw [sum_perm ((del_perm hs h).map fun p : Nm × Nat => lenOf files p.2)]
  rfl
theorem gone_facts {files : List Fl} {l : Dir} (hs : Sorted l) (hn : (ids l).Nodup) {a : Ac} (hc : canD l a) (hm : isMore a = false) (hmade : madeIds [a] = []) :
    (∀ i, i ∈ ids (doneD l a) ↔ i ∈ ids l ∧ goneOf l a ≠ some i) ∧ usedOf files l = ((goneOf l a).map (lenOf files)).getD 0 + usedOf files (doneD l a) := by
  cases a with
  | made n f => simp [madeIds] at hmade
  | more f k => simp [isMore] at hm
  | rem n =>
    obtain ⟨f, hf⟩ := Option.ne_none_iff_exists'.1 hc
    have e : goneOf l (.rem n) = some f := hf
    rw [e]
    refine ⟨fun i => ?_, used_del hs hf⟩
    show i ∈ ids (del n l) ↔ _
    rw [ids_del hs hn hf]
    simp [eq_comm]
  | ren x y =>
    obtain ⟨f, hf⟩ := Option.ne_none_iff_exists'.1 hc.1
    have ed : doneD l (.ren x y) = ins y f (del y (del x l)) := by simp only [doneD, hf]
    have hp : (ids (ins y f (del y (del x l)))).Perm (f :: ids (del y (del x l))) := (ins_perm y f _).map fun p : Nm × Nat => p.2
    have hu : usedOf files (ins y f (del y (del x l))) = lenOf files f + usedOf files (del y (del x l)) := by
      unfold usedOf
      rw [sum_perm ((ins_perm y f (del y (del x l))).map fun p : Nm × Nat => lenOf files p.2)]
      rfl
    have hnx : (ids (del x l)).Nodup := (List.filter_sublist (l := l)).map (fun p : Nm × Nat => p.2) |>.nodup hn
    have hlf : f ∈ ids l := look_id hf
    have e : goneOf l (.ren x y) = look l y := rfl
    rw [ed, e, hu]
    cases hy : look l y with
    | none =>
      have hy2 : look (del x l) y = none := by rw [look_del, if_neg (fun e => hc.2 e.symm), hy]
      rw [del_none hy2]
      refine ⟨fun i => ?_, ?_⟩
      · rw [del_none hy2] at hp
        rw [hp.mem_iff, List.mem_cons, ids_del hs hn hf]
        simp
        constructor
        · rintro (rfl | h)
          · exact hlf
          · exact h.1
        · intro h
          by_cases e : i = f
          · exact Or.inl e
          · exact Or.inr ⟨h, e⟩
      · rw [used_del hs hf]
        simp
    | some g =>
      have hy2 : look (del x l) y = some g := by rw [look_del, if_neg (fun e => hc.2 e.symm), hy]
      have hgf : g ≠ f := fun e => by
        have := (ids_del hs hn hf g).1 (look_id hy2)
        exact this.2 e
      refine ⟨fun i => ?_, ?_⟩
      · rw [hp.mem_iff, List.mem_cons, ids_del (sorted_del hs x) hnx hy2, ids_del hs hn hf]
        simp
        constructor
        · rintro (rfl | ⟨⟨h1, h2⟩, h3⟩)
          · exact ⟨hlf, hgf⟩
          · exact ⟨h1, fun e => h3 e.symm⟩
        · rintro ⟨h1, h2⟩
          by_cases e : i = f
          · exact Or.inl e
          · exact Or.inr ⟨⟨h1, e⟩, fun e => h2 e.symm⟩
      · rw [used_del hs hf, used_del (sorted_del hs x) hy2]
        simp
        omega

section
variable {w w' : World} {F : Nat → Prop} {d : Nat} {S : Dk} {G : Gh}

theorem live_act {S : Dk} {a : Ac} (hmade : madeIds [a] = []) {i : Nat} : (S.act a).live i ↔ S.live i := by
  unfold Dk.live Dk.act
  simp only [madeIds_append, hmade, List.append_nil]
theorem known_act {S : Dk} {a : Ac} (hmade : madeIds [a] = []) (hm : isMore a = false) {i : Nat} : (S.act a).known i ↔ S.known i := by
  unfold Dk.known
  rw [live_act hmade]
  unfold Dk.act
  have e : moreIds [a] = [] := by cases a <;> first | rfl | simp [isMore] at hm
  simp only [moreIds_append, e, List.append_nil]

/-- An act of the directory is done, and laid behind the loose ones; one file may have lost its name. -/
theorem Rep.acted (h : Rep w F d S G) {bn : Nat} (hnow : G.now = some bn) {a : Ac} (hok : Ok (S.act a)) (hcan : canD S.dir a) (hm : isMore a = false) (hmade : madeIds [a] = []) {lv dov : Value} {c : Nat}
    (hc : Chg (fun k => k = d ∨ k = bn ∨ some k = G.lv.ownBlock ∨ ∃ g, goneOf S.dir a = some g ∧ k = G.fb g) w w')
    (hd : w'.heap[d]? = some (.cells #[.int .i64 (S.room : Int), .int .i64 ((S.used : Int) - (((goneOf S.dir a).map (lenOf S.files)).getD 0 : Nat)), .map (some bn), .map G.sure, lv, .int .i64 (S.n : Int), .bool S.cut.isSome, .int .i64 G.cv, .map G.fls] 63))
    (hmap : MapW w' bn (dv G.fb (doneD S.dir a))) (hgone : ∀ g, goneOf S.dir a = some g → w'.heap[G.fb g]? = some (.cells #[G.rv g, G.sv g, .bool false] 80))
    (hrow : w'.ownsRow 0 88 2 lv (G.vs.length + 1) (vc G.vs ++ [.pointer none, .func (.func 104) #[] #[.pointer (some ⟨c, 0, none⟩)]]))
    (hcs : w.heap.size ≤ c) (hcc : w'.heap[c]? = some (.cells #[dov] 134)) (hlv : lv.ownBlock = G.lv.ownBlock ∨ ∃ q, lv.ownBlock = some q ∧ w.heap.size ≤ q) (hdo : DoW w' (Fx F w w') G.fb a dov) :
    Rep w' (Fx F w w') d (S.act a) { G with lv := lv, vs := G.vs ++ [(.pointer none, .func (.func 104) #[] #[.pointer (some ⟨c, 0, none⟩)])] } := by
  obtain ⟨hids, hused⟩ := gone_facts (files := S.files) h.ok.sortD h.ok.oneD hcan hm hmade
  have hmp := h.now
  rw [hnow] at hmp
  have hgl : ∀ g, goneOf S.dir a = some g → g ∈ ids S.dir := fun g hg => by
    cases a with
    | ren x y => exact look_id hg
    | rem n => exact look_id hg
    | made n f => cases hg
    | more f k => cases hg
  have hgk : ∀ g, goneOf S.dir a = some g → S.known g := fun g hg => Or.inl (live_of_dir h.ok (hgl g hg))
  have hXn : ∀ k o, w.heap[k]? = some o → tag o ≠ 63 → tag o ≠ 100000 → tag o ≠ 88 → tag o ≠ 80 → ¬ (k = d ∨ k = bn ∨ some k = G.lv.ownBlock ∨ ∃ g, goneOf S.dir a = some g ∧ k = G.fb g) := by
    intro k o ho t1 t2 t3 t4 e
    rcases e with rfl | rfl | e | ⟨g, hg, rfl⟩
    · exact ne_tag ho h.disk t1 rfl
    · obtain ⟨es, ck, hh, _⟩ := hmp.2
      exact ne_tag ho hh t2 rfl
    · obtain ⟨cur, hcur⟩ := own_block h.row e.symm
      exact ne_tag ho hcur t3 rfl
    · exact ne_tag ho (h.files g (hgk g hg)).2 t4 rfl
  have hsp : Spares w (fun k => k = d ∨ k = bn ∨ some k = G.lv.ownBlock ∨ ∃ g, goneOf S.dir a = some g ∧ k = G.fb g) :=
    (spares_cells h.disk (by decide)).or ((spares_map hmp.2).or ((spares_row h.row (by decide)).or (by
      rintro k x t h1 h2 ⟨g, hg, rfl⟩
      exact spares_cells (h.files g (hgk g hg)).2 (by decide) _ x t h1 h2 rfl)))
  have hmo : ∀ {o : Option Nat} {l : List (Value × Value)}, MapO w F o l → o ≠ some bn → MapO w' (Fx F w w') o l := fun {o l} hmm hne => hmm.keep hc (fun b e hX => by
    rw [e] at hmm
    rcases hX with e2 | e2 | e2 | ⟨g, hg, e2⟩
    · exact hmm.2.ne h.disk e2.symm
    · exact hne (e2 ▸ e)
    · obtain ⟨cur, hcur⟩ := own_block h.row e2.symm
      exact hmm.2.ne hcur rfl
    · exact hmm.2.ne (h.files g (hgk g hg)).2 e2.symm) (fun _ h => Or.inl h)
  have nd : ∀ k, w.heap.size ≤ k → w'.heap[k]? ≠ none → Fx F w w' k := fun k hk hne => Or.inr ⟨hk, by
    rcases Nat.lt_or_ge k w'.heap.size with h1 | h1
    · exact h1
    · exact absurd (Array.getElem?_eq_none h1) hne⟩
  have hsure : G.sure ≠ some bn := (h.two bn hnow).1
  have hfls : G.fls ≠ some bn := (h.two bn hnow).2
  refine
    { ok := hok
      disk := ?_
      inD := Or.inl h.inD
      roomy := h.roomy
      cutv := h.cutv
      now := by
        show MapO w' _ G.now _
        rw [hnow]
        exact ⟨Or.inl hmp.1, hmap⟩
      sure := hmo h.sure hsure
      both := h.both
      bare := fun e => by rw [show G.now = some bn from hnow] at e; cases e
      fails := by
        obtain ⟨l, g1, g2⟩ := h.fails
        exact ⟨l, hmo g1 hfls, g2⟩
      two := h.two
      three := h.three
      row := ?_
      rowF := fun k hk => ?_
      many := ?_
      acts := fun j b p ha hp => ?_
      files := fun i hi => ?_
      inj := fun i j hi hj e => h.inj i j ((known_act hmade hm).1 hi) ((known_act hmade hm).1 hj) e
      bytes := fun i y hi hy => ?_
      apart := fun i j k hi hj e1 e2 => h.apart i j k ((live_act hmade).1 hi) ((live_act hmade).1 hj) e1 e2 }
  · rw [hd]
    unfold dcells
    have e1 : (((S.act a).used : Nat) : Int) = (S.used : Int) - (((goneOf S.dir a).map (lenOf S.files)).getD 0 : Nat) := by
      have e2 : S.used = usedOf S.files S.dir := rfl
      have e3 : (S.act a).used = usedOf S.files (doneD S.dir a) := rfl
      rw [e2, e3, hused]
      omega
    rw [e1]
    show _ = some (Obj.cells #[_, _, .map G.now, _, _, _, _, _, _] _)
    rw [hnow]
    rfl
  · show w'.ownsRow 0 _ 2 lv (G.vs ++ [_]).length (vc (G.vs ++ [_]))
    rw [vc_append, List.length_append]
    exact hrow
  · have hk' : lv.ownBlock = some k := hk
    rcases hlv with e | ⟨x, e, hx⟩
    · rw [e] at hk'
      exact Or.inl (h.rowF k hk')
    · rw [e] at hk'
      injection hk' with hk'
      subst hk'
      exact nd x hx (by obtain ⟨cur, hcur⟩ := own_block hrow e; rw [hcur]; simp)
  · show (G.vs ++ [_]).length = (S.acts ++ [_]).length
    rw [List.length_append, List.length_append, h.many]
    rfl
  · have ha' : (S.acts ++ [a])[j]? = some b := ha
    have hp' : (G.vs ++ [_])[j]? = some p := hp
    rcases Nat.lt_or_ge j S.acts.length with hj | hj
    · rw [List.getElem?_append_left hj] at ha'
      rw [List.getElem?_append_left (by rw [h.many]; exact hj)] at hp'
      exact (h.acts j b p ha' hp').keep hc (fun c x t h1 h2 _ => hsp c x t h1 h2) (fun _ h => Or.inl h) (fun i hi => rfl)
    · have hj' : j = S.acts.length := by
        have := (List.getElem?_eq_some_iff.1 ha').1
        simp at this
        omega
      subst hj'
      rw [List.getElem?_append_right (Nat.le_refl _)] at ha'
      rw [← h.many, List.getElem?_append_right (Nat.le_refl _)] at hp'
      simp at ha' hp'
      subst ha' hp'
      have hfin : (Value.pointer none, Value.func (.func 104) #[] #[.pointer (some ⟨c, 0, none⟩)]).1 = .pointer none ∧ ∃ c' v, (Value.pointer none, Value.func (.func 104) #[] #[.pointer (some ⟨c, 0, none⟩)]).2 = .func (.func 104) #[] #[.pointer (some ⟨c', 0, none⟩)] ∧ Fx F w w' c' ∧ w'.heap[c']? = some (.cells #[v] 134) ∧ DoW w' (Fx F w w') G.fb a v :=
        ⟨rfl, c, dov, rfl, nd c hcs (by rw [hcc]; simp), hcc, hdo⟩
      cases a with
      | made n f => exact hfin
      | ren x y => exact hfin
      | rem n => exact hfin
      | more f k => simp [isMore] at hm
  · have hi' := (known_act hmade hm).1 hi
    obtain ⟨g1, g2⟩ := h.files i hi'
    refine ⟨Or.inl g1, ?_⟩
    show w'.heap[G.fb i]? = some (.cells #[G.rv i, G.sv i, .bool (decide (i ∈ ids (doneD S.dir a)))] _)
    by_cases e : goneOf S.dir a = some i
    · rw [show decide (i ∈ ids (doneD S.dir a)) = false by rw [decide_eq_false_iff_not, hids]; exact fun hh => hh.2 e]
      exact hgone i e
    · rw [show decide (i ∈ ids (doneD S.dir a)) = decide (i ∈ ids S.dir) by rw [decide_eq_decide, hids]; exact ⟨fun hh => hh.1, fun hh => ⟨hh, e⟩⟩]
      refine hc.keep g2 (fun hXb => ?_)
      rcases hXb with e2 | e2 | e2 | ⟨g, hg, e2⟩
      · exact h.ne_file hi' e2.symm
      · exact hmp.2.ne g2 e2
      · obtain ⟨cur, hcur⟩ := own_block h.row e2.symm
        exact ne_tag g2 hcur (show 80 ≠ 88 by decide) rfl
      · exact e (by rw [h.inj i g hi' (hgk g hg) e2]; exact hg)
  · have hi' := (live_act hmade).1 hi
    obtain ⟨c1, c2, c3⟩ := h.bytes i y hi' hy
    refine ⟨c1, own_keep c2 hc (fun k hk => ?_), fun k hk => Or.inl (c3 k hk)⟩
    obtain ⟨cur, hcur⟩ := own_block c2 hk
    exact hXn k _ hcur (show 5 ≠ 63 by decide) (show 5 ≠ 100000 by decide) (show 5 ≠ 88 by decide) (show 5 ≠ 80 by decide)
end
end Go.Proofs.YthjcimgollfmgaaGreatDoor
