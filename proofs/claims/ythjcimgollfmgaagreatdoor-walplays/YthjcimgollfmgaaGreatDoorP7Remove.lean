/-
  Texts joined: Remove, Rename, RenameOk, Forget, DirRep.
-/
import Derived.Test.YthjcimgollfmgaaGreatDoorP6OnFile
/-
  What Remove answers, and does. Condition: a disk within bounds.
-/
namespace Go.Proofs.YthjcimgollfmgaaGreatDoor
open Go.RowKit

theorem chg_same {w : World} {g : Nat} {v : Value} {t : TypeId} (h : w.heap[g]? = some (.cells #[v] t (0, 0))) : Chg (fun _ => False) w (w.setCell ⟨g, 0, none⟩ v) := by
  refine ⟨rfl, rfl, rfl, by simp [World.setCell], fun k hk _ => ?_⟩
  by_cases e : k = g
  · subst e
    rw [heap_set h 0 v, h]
    rfl
  · exact Below.heap_setCell _ _ _ _ e
theorem enters44 : ∀ args w, (callFunc 100 args).run Tryz.prog w = .ok (.enter 100 args) w := enters_of Tryz.func100 (by kernel_rfl) rfl
theorem enters54 : ∀ args w, (callFunc 82 args).run Tryz.prog w = .ok (.enter 82 args) w := enters_of Tryz.func82 (by kernel_rfl) rfl

section
variable {w w' : World} {F : Nat → Prop} {d : Nat} {S : Dk} {G : Gh}

/-- A file that is about to lose its name. -/
theorem unname_rep (h : Rep w F d S G) (hb : S.bulk < 1099511627776) {f : Nat} (hf : f ∈ ids S.dir) :
    Calls Tryz.prog 80 #[.pointer (some ⟨d, 0, none⟩), .pointer (some ⟨G.fb f, 0, none⟩)] w fun e w' => e = .returned (.tuple #[]) ∧
      w'.heap[d]? = some (.cells #[.int .i64 (S.room : Int), .int .i64 ((S.used : Int) - lenOf S.files f), .map G.now, .map G.sure, G.lv, .int .i64 (S.n : Int), .bool S.cut.isSome, .int .i64 G.cv, .map G.fls] 63) ∧
      w'.heap[G.fb f]? = some (.cells #[G.rv f, G.sv f, .bool false] 80) ∧ Chg (fun k => k = d ∨ k = G.fb f) w w' := by
  have hlf := live_of_dir h.ok hf
  obtain ⟨x, hx⟩ : ∃ x, S.files[f]? = some x := ⟨_, List.getElem?_eq_getElem (h.ok.idD hf)⟩
  obtain ⟨b1, b2, b3⟩ := h.bytes f x hlf hx
  obtain ⟨f1, f2⟩ := h.files f (Or.inl hlf)
  obtain ⟨ra, rc, hrv⟩ := own_shape b2
  have hd := h.disk
  unfold dcells at hd
  have hul := used_le h.ok
  have hlu : x.b.length ≤ S.used := by
    have : lenOf S.files f ∈ S.dir.map fun p => lenOf S.files p.2 := by
      obtain ⟨p, hp, e⟩ := List.mem_map.1 hf
      exact List.mem_map.2 ⟨p, hp, by rw [e]⟩
    have h2 := sum_le_of_mem this
    have e : lenOf S.files f = x.b.length := by simp [lenOf, hx]
    rw [e] at h2
    exact h2
  have e : lenOf S.files f = x.b.length := by simp [lenOf, hx]
  rw [hrv] at f2 ⊢
  rw [e]
  refine (unname_any w d (G.fb f) x.b.length rc ra _ _ _ _ _ _ _ _ _ _ (S.used : Int) hd f2 (by omega) (by omega)).mono ?_
  rintro e w' ⟨he, h1, h2, h3, _⟩
  exact ⟨he, h1, h2, h3⟩

/-- change, once the file that loses its name has lost it. -/
theorem changed_rep {w2 : World} (h : Rep w F d S G) {bn : Nat} (hnow : G.now = some bn) {a : Ac} (hok : Ok (S.act a)) (hcan : canD S.dir a) (hm : isMore a = false) (hmade : madeIds [a] = []) (hb : S.bulk < 1099511627776)
    (hc : Chg (fun k => k = d ∨ ∃ g, goneOf S.dir a = some g ∧ k = G.fb g) w w2)
    (hd : w2.heap[d]? = some (.cells #[.int .i64 (S.room : Int), .int .i64 ((S.used : Int) - (((goneOf S.dir a).map (lenOf S.files)).getD 0 : Nat)), .map (some bn), .map G.sure, G.lv, .int .i64 (S.n : Int), .bool S.cut.isSome, .int .i64 G.cv, .map G.fls] 63))
    (hgone : ∀ g, goneOf S.dir a = some g → w2.heap[G.fb g]? = some (.cells #[G.rv g, G.sv g, .bool false] 80))
    {g : Nat} {caps : Array Value} (eg : ∀ args w, (callFunc g args).run Tryz.prog w = .ok (.enter g args) w)
    (hcall : ∀ W, MapW W bn (dv G.fb S.dir) → Chg (fun _ => False) w2 W → Calls Tryz.prog g (#[.map (some bn)] ++ caps) W fun e w' => e = .returned (.tuple #[]) ∧ MapW w' bn (dv G.fb (doneD S.dir a)) ∧ Chg (· = bn) W w')
    (hdo : ∀ w', (∀ (k : Nat) (x : Value), w2.heap[k]? = some (Obj.cells #[x] 9) → w'.heap[k]? = some (Obj.cells #[x] 9)) → DoW w' (Fx F w w') G.fb a (.func (.func g) #[] caps)) :
    Calls Tryz.prog 81 #[.pointer (some ⟨d, 0, none⟩), .func (.func g) #[] caps] w2 fun e w' => e = .returned (.tuple #[]) ∧ ∃ G', Rep w' (Fx F w w') d (S.act a) G' ∧ Chg F w w' := by
  have hmp := h.now
  rw [hnow] at hmp
  have hgk : ∀ g, goneOf S.dir a = some g → S.known g := fun g hg => Or.inl (live_of_dir h.ok (by
    cases a with
    | ren x y => exact look_id hg
    | rem n => exact look_id hg
    | made n f => cases hg
    | more f k => cases hg))
  have hmw : MapW w2 bn (dv G.fb S.dir) := hmp.2.keep hc (fun e => by
    rcases e with e | ⟨g, hg, e⟩
    · exact hmp.2.ne h.disk e.symm
    · exact hmp.2.ne (h.files g (hgk g hg)).2 e.symm)
  have hrow : w2.ownsRow 0 88 2 G.lv G.vs.length (vc G.vs) := own_keep h.row hc (fun k hk e => by
    obtain ⟨cur, hcur⟩ := own_block h.row hk
    rcases e with e | ⟨g, hg, e⟩
    · subst e
      exact ne_tag hcur h.disk (show 88 ≠ 63 by decide) rfl
    · subst e
      exact ne_tag hcur (h.files g (hgk g hg)).2 (show 88 ≠ 80 by decide) rfl)
  have hal := acts_le S
  refine (change_gen w2 d bn G.vs.length g caps (dv G.fb S.dir) (dv G.fb (doneD S.dir a)) _ _ _ _ _ _ _ _ _ hd hmw hrow (by rw [h.many]; omega) eg (fun W hW => hcall W (hmw.keep hW (fun h => h)) hW)).mono ?_
  rintro e w' ⟨he, c, lv', r1, r2, r3, r4, r5, r6, r7⟩
  have hc' : Chg (fun k => k = d ∨ k = bn ∨ some k = G.lv.ownBlock ∨ ∃ g, goneOf S.dir a = some g ∧ k = G.fb g) w w' :=
    (hc.mono fun k _ e => e.elim Or.inl fun e => Or.inr (Or.inr (Or.inr e))).then (r7.mono fun k _ e => by
      rcases e with e | e | e
      · exact Or.inl e
      · exact Or.inr (Or.inl e)
      · exact Or.inr (Or.inr (Or.inl e)))
  have hcF : Chg F w w' := hc'.mono fun k _ e => by
    rcases e with rfl | rfl | e | ⟨g, hg, rfl⟩
    · exact h.inD
    · exact hmp.1
    · exact h.rowF k e.symm
    · exact (h.files g (hgk g hg)).1
  have hlast : ∀ k o, w2.heap[k]? = some o → tag o ≠ 63 → tag o ≠ 100000 → tag o ≠ 88 → ¬ (k = d ∨ k = bn ∨ some k = G.lv.ownBlock) := by
    intro k o ho t1 t2 t3 e
    rcases e with rfl | rfl | e
    · exact ne_tag ho hd t1 rfl
    · obtain ⟨es, ck, hh, _⟩ := hmw
      exact ne_tag ho hh t2 rfl
    · obtain ⟨cur, hcur⟩ := own_block hrow e.symm
      exact ne_tag ho hcur t3 rfl
  refine ⟨he, _, h.acted hnow hok hcan hm hmade hc' r1 r2 (fun g hg => ?_) r3 (Nat.le_trans hc.size r4) r5 ?_ (hdo w' fun k x hk => ?_), hcF⟩
  · exact r7.keep (hgone g hg) (hlast _ _ (hgone g hg) (show 80 ≠ 63 by decide) (show 80 ≠ 100000 by decide) (show 80 ≠ 88 by decide))
  · rcases r6 with e | ⟨q, e1, e2⟩
    · exact Or.inl e
    · exact Or.inr ⟨q, e1, Nat.le_trans hc.size e2⟩
  · exact r7.keep hk (hlast _ _ hk (show 9 ≠ 63 by decide) (show 9 ≠ 100000 by decide) (show 9 ≠ 88 by decide))

theorem Rep.hasNow (h : Rep w F d S G) {n : Nm} {f : Nat} (hl : look S.dir n = some f) : ∃ bn, G.now = some bn := by
  cases e : G.now with
  | some b => exact ⟨b, rfl⟩
  | none =>
    have := h.now
    rw [e] at this
    have h2 : dv G.fb S.dir = [] := this
    have h3 : S.dir = [] := List.map_eq_nil_iff.1 h2
    rw [h3] at hl
    cases hl

set_option maxRecDepth 20000 in
set_option maxHeartbeats 800000 in
/-- Remove. -/
theorem remove_rep (h : Rep w F d S G) (hlow : ∀ k, F k → k < w.heap.size) (hb : S.bulk + 1 < 1099511627776) (n : Nm) : Calls Tryz.prog 72 #[.pointer (some ⟨d, 0, none⟩), .string (strB n)] w fun e w' => e = .returned (.int .i64 (S.remove n).2) ∧ ∃ G', Rep w' (Fx F w w') d (S.remove n).1 G' ∧ Chg F w w' := by
  have hmf : ∀ (fn : Fn) (first cap : Array Value) (w : World), (Instr.makeFunc fn first cap).run Tryz.prog w = .ok (.func fn first cap) w := fun _ _ _ _ => rfl
  have hA : Chg (fun _ => False) w (w.alloc (.cells #[.string (strB n)] 9)) := (Chg.refl _ w).alloc _
  have hn0 := heap_last w (.cells #[.string (strB n)] 9)
  have hon := on_rep (h.keep hA (fun _ _ h => h) (fun _ h => h)) (by omega) n
  have hszA : (w.alloc (.cells #[.string (strB n)] 9)).heap.size = w.heap.size + 1 := by simp
  have hbb := bulk_begun S
  have x0 := cell_of hn0 0
  obtain ⟨ra, hra⟩ : ∃ ra, ra = (S.remove n).1 := ⟨_, rfl⟩
  obtain ⟨re, hre⟩ : ∃ re, re = (S.remove n).2 := ⟨_, rfl⟩
  rw [← hra, ← hre]
  have HA := hide hra
  have HE := hide hre
  clear hra hre
  have fx0 : ∀ w1 : World, (w.alloc (.cells #[.string (strB n)] 9)).heap.size ≤ w1.heap.size → ∀ k, Fx F (w.alloc (.cells #[.string (strB n)] 9)) w1 k → Fx F w w1 k := fun w1 hs k hk => by
    rcases hk with hk | ⟨a, b⟩
    · exact Or.inl hk
    · exact Or.inr ⟨by omega, b⟩
  have hnl : isNm n = true → n.length ≤ 80 := fun h => (isNm_len h).2
  go_enter Tryz.func72, Tryz.ntmps72
  go_wp2_with (first
    | (go_at_call 77; refine hon.mono ?_; rintro e w1 ⟨G', hr, hc, ⟨er, he, hne, rfl⟩ | ⟨f, fl, he, hl, rfl⟩⟩))
  · go_ret
    have e1 : S.remove n = (S.begun, er) := by unfold Dk.remove; rw [he]
    rw [HA.out, HE.out, e1]
    exact ⟨rfl, G', hr.mono (fx0 w1 hc.size), (hA.mono fun _ _ h => h.elim).then hc⟩
  · rename_i hfl
    go_ret
    have e1 : S.remove n = (S.begun, 34) := by unfold Dk.remove; rw [he]; simp [hfl]
    rw [HA.out, HE.out, e1]
    exact ⟨rfl, G', hr.mono (fx0 w1 hc.size), (hA.mono fun _ _ h => h.elim).then hc⟩
  · have hfl : fl = false := by assumption
    subst hfl
    have e1 : S.remove n = (S.begun.act (.rem n), 0) := by unfold Dk.remove; rw [he]; rfl
    have hl1 : look S.begun.dir n = some f := by rw [(begun_dir S).1]; exact hl
    have hne1 : look S.begun.dir n ≠ none := by rw [hl1]; simp
    obtain ⟨bn, hbn⟩ := hr.hasNow hl1
    have hnm : isNm n = true := by
      rcases Bool.eq_false_or_eq_true (isNm n) with e | e
      · exact e
      · exfalso
        unfold Dk.onFile at he
        split at he
        · cases he
        · cases he
    have hnlen := hnl hnm
    have hun := unname_rep hr (by omega) (look_id hl1)
    have hn1 : w1.heap[w.heap.size]? = some (.cells #[.string (strB n)] 9) := hc.keep hn0 (fun hF => Nat.lt_irrefl _ (hlow _ hF))
    have hlt1 : w.heap.size < w1.heap.size := lt_of_heap hn1
    have hg1 : goneOf S.begun.dir (.rem n) = some f := hl1
    have hX1 : ¬ (w.heap.size = d ∨ w.heap.size = G'.fb f) := fun e => by
      rcases e with e | e
      · exact ne_tag hn1 hr.disk (show 9 ≠ 63 by decide) e
      · exact ne_tag hn1 (hr.files f (Or.inl (live_of_dir hr.ok (look_id hl1)))).2 (show 9 ≠ 80 by decide) e
    have HR := hide hr
    have HC := hide hc
    clear hr hc
    refine hun.mono ?_
    rintro e w2 ⟨rfl, u1, u2, u3⟩
    have hn2 := u3.keep hn1 hX1
    have y2 := cell_of hn2 0
    have HU1 := hide u1
    have HU2 := hide u2
    have HU3 := hide u3
    clear u1 u2 u3
    go_wp2_with (first
      | (go_at_call 28; refine (copyStr_any _ n (by omega)).mono ?_; rintro e w3 ⟨rfl, hb3⟩; have h3 := (hb3.block w.heap.size (lt_of_heap hn2)).trans hn2; have y3 := thawed h3 0; have z3 := cell_of h3 0)
      | fail)
    have hr1 : Rep w1 (Fx F w w1) d S.begun G' := HR.out.mono (fx0 w1 HC.out.size)
    have hcn : Fx F w w1 w.heap.size := Or.inr ⟨Nat.le_refl _, hlt1⟩
    have hs2 := HU3.out.size
    have hc3 : Chg (fun k => k = d ∨ k = G'.fb f) w1 w3 := HU3.out.trans (Chg.of_below hb3) (fun i hi h => by omega)
    have hc4 : Chg (fun k => k = d ∨ k = G'.fb f) w1 (w3.setCell ⟨w.heap.size, 0, none⟩ (.string (strB n))) := hc3.then ((chg_same h3).mono fun _ _ h => h.elim)
    have hsame := (chg_same h3)
    have hn4 := hsame.keep h3 (fun h => h)
    have hd4 := hsame.keep ((hb3.block d (lt_of_heap HU1.out)).trans HU1.out) (fun h => h)
    have hf4 := hsame.keep ((hb3.block (G'.fb f) (lt_of_heap HU2.out)).trans HU2.out) (fun h => h)
    clear hsame y3 z3 h3 hc3
    generalize w3.setCell ⟨w.heap.size, 0, none⟩ (.string (strB n)) = w4 at *
    rw [hbn] at hd4
    have hch := changed_rep (w2 := w4) (a := .rem n) hr1 hbn (hr1.ok.rem hne1) hne1 rfl rfl (by omega) (hc4.mono fun k _ e => e.elim Or.inl fun e => Or.inr ⟨f, hg1, e⟩) (by rw [hg1]; exact hd4)
      (fun g hg => by rw [hg1] at hg; injection hg with hg; subst hg; exact hf4) (g := 100) (caps := #[.pointer (some ⟨w.heap.size, 0, none⟩)]) enters44
      (fun W hm hW => rem1_any W bn w.heap.size G'.fb S.begun.dir n hr1.ok.sortD hm hne1 (hW.keep hn4 (fun h => h)))
      (fun w' hk => ⟨w.heap.size, rfl, Or.inl hcn, hk _ _ hn4⟩)
    refine hch.mono ?_
    rintro e w5 ⟨rfl, G5, hr5, hc5⟩
    have HR5 := hide hr5
    have HC5 := hide hc5
    clear hr5 hc5 hch hun hon
    go_wp2
    go_ret
    rw [HA.out, HE.out, e1]
    refine ⟨rfl, G5, HR5.out.mono (fun k hk => ?_), ((hA.mono fun _ _ h => h.elim).then HC.out).trans HC5.out (fun i hi h => ?_)⟩
    · rcases hk with (hk | ⟨a, b⟩) | ⟨a, b⟩
      · exact Or.inl hk
      · exact Or.inr ⟨a, Nat.lt_of_lt_of_le b HC5.out.size⟩
      · exact Or.inr ⟨by omega, b⟩
    · rcases h with h | ⟨a, b⟩
      · exact h
      · omega
end
end Go.Proofs.YthjcimgollfmgaaGreatDoor

/-
  What Rename answers, and does. Condition: a disk within bounds.
-/
namespace Go.Proofs.YthjcimgollfmgaaGreatDoor
open Go.RowKit

section
variable {w w' : World} {F : Nat → Prop} {d : Nat} {S : Dk} {G : Gh}

/-- The two names in their boxes. -/
def boxed (w : World) (a b : Nm) : World := (w.alloc (.cells #[.string (strB a)] 9)).alloc (.cells #[.string (strB b)] 9)
theorem boxed_chg (w : World) (a b : Nm) : Chg (fun _ => False) w (boxed w a b) := ((Chg.refl _ w).alloc _).alloc _
theorem boxed_size (w : World) (a b : Nm) : (boxed w a b).heap.size = w.heap.size + 2 := by simp [boxed]
theorem boxed_a (w : World) (a b : Nm) : (boxed w a b).heap[w.heap.size]? = some (.cells #[.string (strB a)] 9) := heap_past _ (heap_last w _)
theorem boxed_b (w : World) (a b : Nm) : (boxed w a b).heap[w.heap.size + 1]? = some (.cells #[.string (strB b)] 9) := by
  have := heap_last (w.alloc (.cells #[.string (strB a)] 9)) (.cells #[.string (strB b)] 9)
  rw [show (w.alloc (.cells #[.string (strB a)] 9)).heap.size = w.heap.size + 1 by simp] at this
  exact this
theorem boxed_fx {w w1 : World} {a b : Nm} (_hs : (boxed w a b).heap.size ≤ w1.heap.size) : ∀ k, Fx F (boxed w a b) w1 k → Fx F w w1 k := fun k hk => by
  rcases hk with hk | ⟨x, y⟩
  · exact Or.inl hk
  · exact Or.inr ⟨by rw [boxed_size] at x; omega, y⟩

set_option maxRecDepth 20000 in
theorem rename_off (h : Rep w F d S G) (hon : S.on = false) (a b : Nm) : Calls Tryz.prog 57 #[.pointer (some ⟨d, 0, none⟩), .string (strB a), .string (strB b)] w fun e w' => e = .returned (.int .i64 35) ∧
    ∃ G', Rep w' (Fx F w w') d S G' ∧ Chg F w w' := by
  have hbeg := beginOff_rep (h.keep (boxed_chg w a b) (fun _ _ h => h) (fun _ h => h)) hon
  have hB := boxed_chg w a b
  have hsz := boxed_size w a b
  unfold boxed at hbeg hB hsz
  go_enter Tryz.func57, Tryz.ntmps57
  go_wp2_with (go_at_call 73; refine hbeg.mono ?_; rintro e w1 ⟨rfl, hr1, hc1⟩)
  go_ret
  exact ⟨rfl, G, hr1.mono fun k hk => Or.inl hk, (hB.then hc1).mono fun _ _ f => f.elim⟩

set_option maxRecDepth 20000 in
theorem rename_name (h : Rep w F d S G) (hlow : ∀ k, F k → k < w.heap.size) (hon : S.on = true) (hb : S.n < 4611686018427387904) (a b : Nm) (hn : isNm a = false ∨ isNm b = false) : Calls Tryz.prog 57 #[.pointer (some ⟨d, 0, none⟩), .string (strB a), .string (strB b)] w fun e w' => e = .returned (.int .i64 30) ∧
    ∃ G', Rep w' (Fx F w w') d S.next G' ∧ Chg F w w' := by
  have hbeg := beginOn_rep0 (h.keep (boxed_chg w a b) (fun _ _ h => h) (fun _ h => h)) hon hb
  have hB := boxed_chg w a b
  have ha := boxed_a w a b
  have hb' := boxed_b w a b
  have HFX : Hid (∀ w1 : World, (boxed w a b).heap.size ≤ w1.heap.size → ∀ k, Fx F (boxed w a b) w1 k → Fx F w w1 k) := hide fun w1 => boxed_fx
  unfold boxed at hbeg hB ha hb' HFX
  rcases Bool.eq_false_or_eq_true (isNm a) with h1 | h1 <;> rcases Bool.eq_false_or_eq_true (isNm b) with h2 | h2
  · rw [h1, h2] at hn
    rcases hn with hn | hn <;> cases hn
  all_goals
    go_enter Tryz.func57, Tryz.ntmps57
    go_wp2_with (first
      | (go_at_call 73; refine hbeg.mono ?_; rintro e w1 ⟨rfl, now, sure, hne, hr1, hc1⟩; have xa := cell_of (hc1.keep ha (fun hF => Nat.lt_irrefl _ (hlow _ hF))) 0; have xb := cell_of (hc1.keep hb' (fun hF => by have := hlow _ hF; omega)) 0)
      | (go_at_call 74; refine (isName_any _ _).mono ?_; rintro e w2 ⟨rfl, hw2⟩; subst hw2))
    go_ret
    exact ⟨rfl, _, hr1.mono (HFX.out w2 hc1.size), (hB.mono fun _ _ f => f.elim).then hc1⟩

set_option maxRecDepth 20000 in
theorem rename_none (h : Rep w F d S G) (hlow : ∀ k, F k → k < w.heap.size) (hon : S.on = true) (hb : S.n < 4611686018427387904) (a b : Nm) (h1 : isNm a = true) (h2 : isNm b = true) (hl : look S.dir a = none) : Calls Tryz.prog 57 #[.pointer (some ⟨d, 0, none⟩), .string (strB a), .string (strB b)] w fun e w' => e = .returned (.int .i64 32) ∧
    ∃ G', Rep w' (Fx F w w') d S.next G' ∧ Chg F w w' := by
  have hbeg := beginOn_rep0 (h.keep (boxed_chg w a b) (fun _ _ h => h) (fun _ h => h)) hon hb
  have hB := boxed_chg w a b
  have ha := boxed_a w a b
  have hb' := boxed_b w a b
  have HFX : Hid (∀ w1 : World, (boxed w a b).heap.size ≤ w1.heap.size → ∀ k, Fx F (boxed w a b) w1 k → Fx F w w1 k) := hide fun w1 => boxed_fx
  unfold boxed at hbeg hB ha hb' HFX
  go_enter Tryz.func57, Tryz.ntmps57
  go_wp2_with (first
    | (go_at_call 73; refine hbeg.mono ?_; rintro e w1 ⟨rfl, now, sure, hne, hr1, hc1⟩; have xa := cell_of (hc1.keep ha (fun hF => Nat.lt_irrefl _ (hlow _ hF))) 0; have xb := cell_of (hc1.keep hb' (fun hF => by have := hlow _ hF; omega)) 0)
    | (go_at_call 74; refine (isName_any _ _).mono ?_; rintro e w2 ⟨rfl, hw2⟩; subst hw2))
  obtain ⟨bn, rfl⟩ := Option.ne_none_iff_exists'.1 hne
  have hr2 := hr1.keep ((Chg.refl (fun _ => False) w2).drew) (fun _ _ h => h) (fun _ h => h)
  have hd1 := hr2.disk
  rw [next_cells] at hd1
  have x2 := cell_of hd1 2
  have hlk := now_map hr2 rfl a
  rw [show look S.next.dir a = none from hl] at hlk
  have HR2 := hide (hr2.mono (HFX.out w2 hc1.size))
  have HC2 := hide ((hB.mono fun _ _ f => f.elim).then hc1).drew
  clear hr1 hc1 hd1 hr2
  refine wp_region_held_drew (S := fun W => W.cell? ⟨d, 2, none⟩ = some (.map (some bn)) ∧ W.cell? ⟨w.heap.size, 0, none⟩ = some (.string (strB a)) ∧ (Instr.lookup 59 (.map (some bn)) (.string (strB a)) false).run Tryz.prog W = .ok (.pointer none) W) (by kernel_rfl) (⟨x2, xa, hlk⟩) (fun hHeld => ?_)
  refine takeH (i := 0) (v := ?_) rfl (by kernel_rfl) (by kernel_rfl) (by kernel_rfl) (fun _ _ _ h => h) rfl ?_ hHeld ?_
  rotate_left
  · intro w hS; (try dsimp only at hS); obtain ⟨hS0, hS1, hS2⟩ := hS; go_simp; first | done | (with_reducible rfl)
  try simp only [Act.put, ly1, ly2, ly3]
  refine takeH (i := 1) (v := ?_) rfl (by kernel_rfl) (by kernel_rfl) (by kernel_rfl) (fun _ _ _ h => h) rfl ?_ hHeld ?_
  rotate_left
  · intro w hS; (try dsimp only at hS); obtain ⟨hS0, hS1, hS2⟩ := hS; go_simp; first | done | (with_reducible rfl)
  try simp only [Act.put, ly1, ly2, ly3]
  refine takeH (i := 2) (v := ?_) rfl (by kernel_rfl) (by kernel_rfl) (by kernel_rfl) (fun _ _ _ h => h) rfl ?_ hHeld ?_
  rotate_left
  · intro w hS; (try dsimp only at hS); obtain ⟨hS0, hS1, hS2⟩ := hS; go_simp; first | done | (with_reducible rfl)
  try simp only [Act.put, ly1, ly2, ly3]
  refine takeH (i := 3) (v := ?_) rfl (by kernel_rfl) (by kernel_rfl) (by kernel_rfl) (fun _ _ _ h => h) rfl ?_ hHeld ?_
  rotate_left
  · intro w hS; (try dsimp only at hS); obtain ⟨hS0, hS1, hS2⟩ := hS; go_simp; first | done | (with_reducible rfl)
  try simp only [Act.put, ly1, ly2, ly3]
  refine takeH (i := 4) (v := ?_) rfl (by kernel_rfl) (by kernel_rfl) (by kernel_rfl) (fun _ _ _ h => h) rfl ?_ hHeld ?_
  rotate_left
  · intro w hS; (try dsimp only at hS); obtain ⟨hS0, hS1, hS2⟩ := hS; go_simp; first | done | (with_reducible rfl)
  try simp only [Act.put, ly1, ly2, ly3]
  refine takeH (i := 5) (v := ?_) rfl (by kernel_rfl) (by kernel_rfl) (by kernel_rfl) (fun _ _ _ h => h) rfl ?_ hHeld ?_
  rotate_left
  · intro w hS; (try dsimp only at hS); obtain ⟨hS0, hS1, hS2⟩ := hS; go_simp; first | done | (with_reducible rfl)
  try simp only [Act.put, ly1, ly2, ly3]
  refine takeH (i := 6) (v := ?_) rfl (by kernel_rfl) (by kernel_rfl) (by kernel_rfl) (fun _ _ _ h => h) rfl ?_ hHeld ?_
  rotate_left
  · intro w hS; (try dsimp only at hS); obtain ⟨hS0, hS1, hS2⟩ := hS; go_simp; first | done | (with_reducible rfl)
  try simp only [Act.put, ly1, ly2, ly3]
  refine takeH (i := 7) (v := ?_) rfl (by kernel_rfl) (by kernel_rfl) (by kernel_rfl) (fun _ _ _ h => h) rfl ?_ hHeld ?_
  rotate_left
  · intro w hS; (try dsimp only at hS); obtain ⟨hS0, hS1, hS2⟩ := hS; go_simp; first | done | (with_reducible rfl)
  try simp only [Act.put, ly1, ly2, ly3]
  refine wpAnyH_done (by kernel_rfl) ?_ _
  clear hHeld
  go_wp2
  go_ret
  exact ⟨rfl, ⟨_, HR2.out⟩, HC2.out⟩

set_option maxRecDepth 20000 in
theorem rename_io (h : Rep w F d S G) (hlow : ∀ k, F k → k < w.heap.size) (hon : S.on = true) (hb : S.n < 4611686018427387904) (a b : Nm) (h1 : isNm a = true) (h2 : isNm b = true) {f : Nat} (hl : look S.dir a = some f) (r : Int)
    (hr : S.fails S.n = true ∧ r = 34 ∨ S.fails S.n = false ∧ a = b ∧ r = 0) : Calls Tryz.prog 57 #[.pointer (some ⟨d, 0, none⟩), .string (strB a), .string (strB b)] w fun e w' => e = .returned (.int .i64 r) ∧
    ∃ G', Rep w' (Fx F w w') d S.next G' ∧ Chg F w w' := by
  have hbeg := beginOn_rep0 (h.keep (boxed_chg w a b) (fun _ _ h => h) (fun _ h => h)) hon hb
  have hB := boxed_chg w a b
  have ha := boxed_a w a b
  have hb' := boxed_b w a b
  have HFX : Hid (∀ w1 : World, (boxed w a b).heap.size ≤ w1.heap.size → ∀ k, Fx F (boxed w a b) w1 k → Fx F w w1 k) := hide fun w1 => boxed_fx
  unfold boxed at hbeg hB ha hb' HFX
  rcases hr with ⟨hf, rfl⟩ | ⟨hf, rfl, rfl⟩
  all_goals
    rw [hf] at hbeg
    go_enter Tryz.func57, Tryz.ntmps57
    go_wp2_with (first
      | (go_at_call 73; refine hbeg.mono ?_; rintro e w1 ⟨rfl, now, sure, hne, hr1, hc1⟩; have xa := cell_of (hc1.keep ha (fun hF => Nat.lt_irrefl _ (hlow _ hF))) 0; have xb := cell_of (hc1.keep hb' (fun hF => by have := hlow _ hF; omega)) 0)
      | (go_at_call 74; refine (isName_any _ _).mono ?_; rintro e w2 ⟨rfl, hw2⟩; subst hw2))
    obtain ⟨bn, rfl⟩ := Option.ne_none_iff_exists'.1 hne
    have hr2 := hr1.keep ((Chg.refl (fun _ => False) w2).drew) (fun _ _ h => h) (fun _ h => h)
    have hd1 := hr2.disk
    rw [next_cells] at hd1
    have x2 := cell_of hd1 2
    have hlk := now_map hr2 rfl a
    rw [show look S.next.dir a = some f from hl] at hlk
    have HR2 := hide (hr2.mono (HFX.out w2 hc1.size))
    have HC2 := hide ((hB.mono fun _ _ f => f.elim).then hc1).drew
    clear hr1 hc1 hd1 hr2
    refine wp_region_held_drew (S := fun W => W.cell? ⟨d, 2, none⟩ = some (.map (some bn)) ∧ W.cell? ⟨w.heap.size, 0, none⟩ = some (.string (strB a)) ∧ (Instr.lookup 59 (.map (some bn)) (.string (strB a)) false).run Tryz.prog W = .ok (.pointer (some ⟨G.fb f, 0, none⟩)) W) (by kernel_rfl) (⟨x2, xa, hlk⟩) (fun hHeld => ?_)
    refine takeH (i := 0) (v := ?_) rfl (by kernel_rfl) (by kernel_rfl) (by kernel_rfl) (fun _ _ _ h => h) rfl ?_ hHeld ?_
    rotate_left
    · intro w hS; (try dsimp only at hS); obtain ⟨hS0, hS1, hS2⟩ := hS; go_simp; first | done | (with_reducible rfl)
    try simp only [Act.put, ly1, ly2, ly3]
    refine takeH (i := 1) (v := ?_) rfl (by kernel_rfl) (by kernel_rfl) (by kernel_rfl) (fun _ _ _ h => h) rfl ?_ hHeld ?_
    rotate_left
    · intro w hS; (try dsimp only at hS); obtain ⟨hS0, hS1, hS2⟩ := hS; go_simp; first | done | (with_reducible rfl)
    try simp only [Act.put, ly1, ly2, ly3]
    refine takeH (i := 2) (v := ?_) rfl (by kernel_rfl) (by kernel_rfl) (by kernel_rfl) (fun _ _ _ h => h) rfl ?_ hHeld ?_
    rotate_left
    · intro w hS; (try dsimp only at hS); obtain ⟨hS0, hS1, hS2⟩ := hS; go_simp; first | done | (with_reducible rfl)
    try simp only [Act.put, ly1, ly2, ly3]
    refine takeH (i := 3) (v := ?_) rfl (by kernel_rfl) (by kernel_rfl) (by kernel_rfl) (fun _ _ _ h => h) rfl ?_ hHeld ?_
    rotate_left
    · intro w hS; (try dsimp only at hS); obtain ⟨hS0, hS1, hS2⟩ := hS; go_simp; first | done | (with_reducible rfl)
    try simp only [Act.put, ly1, ly2, ly3]
    refine takeH (i := 4) (v := ?_) rfl (by kernel_rfl) (by kernel_rfl) (by kernel_rfl) (fun _ _ _ h => h) rfl ?_ hHeld ?_
    rotate_left
    · intro w hS; (try dsimp only at hS); obtain ⟨hS0, hS1, hS2⟩ := hS; go_simp; first | done | (with_reducible rfl)
    try simp only [Act.put, ly1, ly2, ly3]
    refine takeH (i := 5) (v := ?_) rfl (by kernel_rfl) (by kernel_rfl) (by kernel_rfl) (fun _ _ _ h => h) rfl ?_ hHeld ?_
    rotate_left
    · intro w hS; (try dsimp only at hS); obtain ⟨hS0, hS1, hS2⟩ := hS; go_simp; first | done | (with_reducible rfl)
    try simp only [Act.put, ly1, ly2, ly3]
    refine takeH (i := 6) (v := ?_) rfl (by kernel_rfl) (by kernel_rfl) (by kernel_rfl) (fun _ _ _ h => h) rfl ?_ hHeld ?_
    rotate_left
    · intro w hS; (try dsimp only at hS); obtain ⟨hS0, hS1, hS2⟩ := hS; go_simp; first | done | (with_reducible rfl)
    try simp only [Act.put, ly1, ly2, ly3]
    refine takeH (i := 7) (v := ?_) rfl (by kernel_rfl) (by kernel_rfl) (by kernel_rfl) (fun _ _ _ h => h) rfl ?_ hHeld ?_
    rotate_left
    · intro w hS; (try dsimp only at hS); obtain ⟨hS0, hS1, hS2⟩ := hS; go_simp; first | done | (with_reducible rfl)
    try simp only [Act.put, ly1, ly2, ly3]
    refine wpAnyH_done (by kernel_rfl) ?_ _
    clear hHeld
    go_wp2
    go_ret
    exact ⟨rfl, ⟨_, HR2.out⟩, HC2.out⟩
end
end Go.Proofs.YthjcimgollfmgaaGreatDoor

/-
  What Rename does where it does something. Condition: a disk within bounds.
-/
namespace Go.Proofs.YthjcimgollfmgaaGreatDoor
open Go.RowKit

section
variable {w w' : World} {F : Nat → Prop} {d : Nat} {S : Dk} {G : Gh}

theorem strB_ne {a b : Nm} (h : a ≠ b) : ((strB a).toList == (strB b).toList) = false := by
  rw [ByteArray.toList_eq, ByteArray.toList_eq, strB_list, strB_list, beq_eq_false_iff_ne]
  exact h
theorem gone_ren (l : Dir) (a b : Nm) : goneOf l (.ren a b) = look l b := rfl

set_option maxRecDepth 20000 in
set_option maxHeartbeats 1600000 in
/-- Rename does its work. -/
theorem rename_ok (h : Rep w F d S G) (hlow : ∀ k, F k → k < w.heap.size) (hon : S.on = true) (hb : S.bulk + 1 < 1099511627776) (a b : Nm) (h1 : isNm a = true) (h2 : isNm b = true) {f : Nat} (hl : look S.dir a = some f)
    (hf : S.fails S.n = false) (hab : a ≠ b) : Calls Tryz.prog 57 #[.pointer (some ⟨d, 0, none⟩), .string (strB a), .string (strB b)] w fun e w' => e = .returned (.int .i64 0) ∧
    ∃ G', Rep w' (Fx F w w') d (S.next.act (.ren a b)) G' ∧ Chg F w w' := by
  have hmf : ∀ (fn : Fn) (first cap : Array Value) (w : World), (Instr.makeFunc fn first cap).run Tryz.prog w = .ok (.func fn first cap) w := fun _ _ _ _ => rfl
  have hnl := n_le S
  have hbeg := beginOn_rep0 (h.keep (boxed_chg w a b) (fun _ _ h => h) (fun _ h => h)) hon (by omega)
  have hB := boxed_chg w a b
  have ha := boxed_a w a b
  have hb' := boxed_b w a b
  have hbs := boxed_size w a b
  have HFX : Hid (∀ w1 : World, (boxed w a b).heap.size ≤ w1.heap.size → ∀ k, Fx F (boxed w a b) w1 k → Fx F w w1 k) := hide fun w1 => boxed_fx
  unfold boxed at hbeg hB ha hb' HFX hbs
  have hne1 := strB_ne hab
  have hla := (isNm_len h1).2
  have hlb := (isNm_len h2).2
  have hbb : S.next.bulk ≤ S.bulk + 1 := by
    have e : S.begun = S.next := by unfold Dk.begun; rw [hon]; rfl
    have := bulk_begun S
    rwa [e] at this
  rw [hf] at hbeg
  go_enter Tryz.func57, Tryz.ntmps57
  go_wp2_with (first
    | (go_at_call 73; refine hbeg.mono ?_; rintro e w1 ⟨rfl, now, sure, hne, hr1, hc1⟩; have xa := cell_of (hc1.keep ha (fun hF => Nat.lt_irrefl _ (hlow _ hF))) 0; have xb := cell_of (hc1.keep hb' (fun hF => by have := hlow _ hF; omega)) 0)
    | (go_at_call 74; refine (isName_any _ _).mono ?_; rintro e w2 ⟨rfl, hw2⟩; subst hw2))
  obtain ⟨bn, rfl⟩ := Option.ne_none_iff_exists'.1 hne
  have hr2 := hr1.keep ((Chg.refl (fun _ => False) w2).drew) (fun _ _ h => h) (fun _ h => h)
  have hc2 := hc1.drew
  have ya : w2.drew.heap[w.heap.size]? = _ := hc2.keep ha (fun hF => Nat.lt_irrefl _ (hlow _ hF))
  have yb : w2.drew.heap[w.heap.size + 1]? = _ := hc2.keep hb' (fun hF => by have := hlow _ hF; omega)
  have hd1 := hr2.disk
  rw [next_cells] at hd1
  have x2 := cell_of hd1 2
  have hlk := now_map hr2 rfl a
  rw [show look S.next.dir a = some f from hl] at hlk
  have HR2 : Hid (Rep w2.drew (Fx F w w2.drew) d S.next { G with now := some bn, sure := sure }) := hide (hr2.mono (HFX.out w2 hc1.size))
  have HC2 := hide ((hB.mono fun _ _ f => f.elim).then hc2)
  have hws : w.heap.size + 2 ≤ w2.drew.heap.size := by
    have := hc2.size
    rw [hbs] at this
    exact this
  clear hr1 hc1 hd1 hr2 hc2
  refine wp_region_held_drew (S := fun W => W.cell? ⟨d, 2, none⟩ = some (.map (some bn)) ∧ W.cell? ⟨w.heap.size, 0, none⟩ = some (.string (strB a)) ∧ (Instr.lookup 59 (.map (some bn)) (.string (strB a)) false).run Tryz.prog W = .ok (.pointer (some ⟨G.fb f, 0, none⟩)) W) (by kernel_rfl) (⟨x2, xa, hlk⟩) (fun hHeld => ?_)
  refine takeH (i := 0) (v := ?_) rfl (by kernel_rfl) (by kernel_rfl) (by kernel_rfl) (fun _ _ _ h => h) rfl ?_ hHeld ?_
  rotate_left
  · intro w hS; (try dsimp only at hS); obtain ⟨hS0, hS1, hS2⟩ := hS; go_simp; first | done | (with_reducible rfl)
  try simp only [Act.put, ly1, ly2, ly3]
  refine takeH (i := 1) (v := ?_) rfl (by kernel_rfl) (by kernel_rfl) (by kernel_rfl) (fun _ _ _ h => h) rfl ?_ hHeld ?_
  rotate_left
  · intro w hS; (try dsimp only at hS); obtain ⟨hS0, hS1, hS2⟩ := hS; go_simp; first | done | (with_reducible rfl)
  try simp only [Act.put, ly1, ly2, ly3]
  refine takeH (i := 2) (v := ?_) rfl (by kernel_rfl) (by kernel_rfl) (by kernel_rfl) (fun _ _ _ h => h) rfl ?_ hHeld ?_
  rotate_left
  · intro w hS; (try dsimp only at hS); obtain ⟨hS0, hS1, hS2⟩ := hS; go_simp; first | done | (with_reducible rfl)
  try simp only [Act.put, ly1, ly2, ly3]
  refine takeH (i := 3) (v := ?_) rfl (by kernel_rfl) (by kernel_rfl) (by kernel_rfl) (fun _ _ _ h => h) rfl ?_ hHeld ?_
  rotate_left
  · intro w hS; (try dsimp only at hS); obtain ⟨hS0, hS1, hS2⟩ := hS; go_simp; first | done | (with_reducible rfl)
  try simp only [Act.put, ly1, ly2, ly3]
  refine takeH (i := 4) (v := ?_) rfl (by kernel_rfl) (by kernel_rfl) (by kernel_rfl) (fun _ _ _ h => h) rfl ?_ hHeld ?_
  rotate_left
  · intro w hS; (try dsimp only at hS); obtain ⟨hS0, hS1, hS2⟩ := hS; go_simp; first | done | (with_reducible rfl)
  try simp only [Act.put, ly1, ly2, ly3]
  refine takeH (i := 5) (v := ?_) rfl (by kernel_rfl) (by kernel_rfl) (by kernel_rfl) (fun _ _ _ h => h) rfl ?_ hHeld ?_
  rotate_left
  · intro w hS; (try dsimp only at hS); obtain ⟨hS0, hS1, hS2⟩ := hS; go_simp; first | done | (with_reducible rfl)
  try simp only [Act.put, ly1, ly2, ly3]
  refine takeH (i := 6) (v := ?_) rfl (by kernel_rfl) (by kernel_rfl) (by kernel_rfl) (fun _ _ _ h => h) rfl ?_ hHeld ?_
  rotate_left
  · intro w hS; (try dsimp only at hS); obtain ⟨hS0, hS1, hS2⟩ := hS; go_simp; first | done | (with_reducible rfl)
  try simp only [Act.put, ly1, ly2, ly3]
  refine takeH (i := 7) (v := ?_) rfl (by kernel_rfl) (by kernel_rfl) (by kernel_rfl) (fun _ _ _ h => h) rfl ?_ hHeld ?_
  rotate_left
  · intro w hS; (try dsimp only at hS); obtain ⟨hS0, hS1, hS2⟩ := hS; go_simp; first | done | (with_reducible rfl)
  try simp only [Act.put, ly1, ly2, ly3]
  refine wpAnyH_done (by kernel_rfl) ?_ _
  clear hHeld hlk
  have xa2 : w2.drew.cell? ⟨w.heap.size, 0, none⟩ = some (.string (strB a)) := xa
  have xb2 : w2.drew.cell? ⟨w.heap.size + 1, 0, none⟩ = some (.string (strB b)) := xb
  clear xa xb
  have HW := hide hws
  clear hws
  generalize w2.drew = w3 at *
  go_wp2_with fail
  have hr4 := HR2.out.keep ((Chg.refl (fun _ => False) w3).drew) (fun _ _ h => h) (fun _ h => h)
  have HC4 := hide HC2.out.drew
  have ya4 : w3.drew.heap[w.heap.size]? = _ := ya
  have yb4 : w3.drew.heap[w.heap.size + 1]? = _ := yb
  have xb4 : w3.drew.cell? ⟨w.heap.size + 1, 0, none⟩ = some (.string (strB b)) := xb2
  have x24 : w3.drew.cell? ⟨d, 2, none⟩ = some (.map (some bn)) := x2
  have hlk := now_map hr4 rfl b
  have HR4 : Hid (Rep w3.drew (Fx F w w3.drew) d S.next { G with now := some bn, sure := sure }) := hide hr4
  have HW4 : Hid (w.heap.size + 2 ≤ w3.drew.heap.size) := hide HW.out
  clear hr4 HR2 HC2 ya yb xa2 xb2 x2 HW hbeg hne
  refine wp_region_held_drew (S := fun W => W.cell? ⟨d, 2, none⟩ = some (.map (some bn)) ∧ W.cell? ⟨w.heap.size + 1, 0, none⟩ = some (.string (strB b)) ∧ (Instr.lookup 59 (.map (some bn)) (.string (strB b)) false).run Tryz.prog W = .ok (pv G.fb (look S.next.dir b)) W) (by kernel_rfl) (⟨x24, xb4, hlk⟩) (fun hHeld => ?_)
  refine takeH (i := 0) (v := ?_) rfl (by kernel_rfl) (by kernel_rfl) (by kernel_rfl) (fun _ _ _ h => h) rfl ?_ hHeld ?_
  rotate_left
  · intro w hS; (try dsimp only at hS); obtain ⟨hS0, hS1, hS2⟩ := hS; go_simp; first | done | (with_reducible rfl)
  try simp only [Act.put, ly1, ly2, ly3]
  refine takeH (i := 1) (v := ?_) rfl (by kernel_rfl) (by kernel_rfl) (by kernel_rfl) (fun _ _ _ h => h) rfl ?_ hHeld ?_
  rotate_left
  · intro w hS; (try dsimp only at hS); obtain ⟨hS0, hS1, hS2⟩ := hS; go_simp; first | done | (with_reducible rfl)
  try simp only [Act.put, ly1, ly2, ly3]
  refine takeH (i := 2) (v := ?_) rfl (by kernel_rfl) (by kernel_rfl) (by kernel_rfl) (fun _ _ _ h => h) rfl ?_ hHeld ?_
  rotate_left
  · intro w hS; (try dsimp only at hS); obtain ⟨hS0, hS1, hS2⟩ := hS; go_simp; first | done | (with_reducible rfl)
  try simp only [Act.put, ly1, ly2, ly3]
  refine takeH (i := 3) (v := ?_) rfl (by kernel_rfl) (by kernel_rfl) (by kernel_rfl) (fun _ _ _ h => h) rfl ?_ hHeld ?_
  rotate_left
  · intro w hS; (try dsimp only at hS); obtain ⟨hS0, hS1, hS2⟩ := hS; go_simp; first | done | (with_reducible rfl)
  try simp only [Act.put, ly1, ly2, ly3]
  refine takeH (i := 4) (v := ?_) rfl (by kernel_rfl) (by kernel_rfl) (by kernel_rfl) (fun _ _ _ h => h) rfl ?_ hHeld ?_
  rotate_left
  · intro w hS; (try dsimp only at hS); obtain ⟨hS0, hS1, hS2⟩ := hS; go_simp; first | done | (with_reducible rfl)
  try simp only [Act.put, ly1, ly2, ly3]
  refine takeH (i := 5) (v := ?_) rfl (by kernel_rfl) (by kernel_rfl) (by kernel_rfl) (fun _ _ _ h => h) rfl ?_ hHeld ?_
  rotate_left
  · intro w hS; (try dsimp only at hS); obtain ⟨hS0, hS1, hS2⟩ := hS; go_simp; first | done | (with_reducible rfl)
  try simp only [Act.put, ly1, ly2, ly3]
  refine takeH (i := 6) (v := ?_) rfl (by kernel_rfl) (by kernel_rfl) (by kernel_rfl) (fun _ _ _ h => h) rfl ?_ hHeld ?_
  rotate_left
  · intro w hS; (try dsimp only at hS); obtain ⟨hS0, hS1, hS2⟩ := hS; go_simp; first | done | (with_reducible rfl)
  try simp only [Act.put, ly1, ly2, ly3]
  refine wpAnyH_done (by kernel_rfl) ?_ _
  clear hHeld hlk
  generalize w3.drew = w4 at *
  clear w2 w3
  obtain ⟨G', hG'⟩ : ∃ G', G' = { G with now := some bn, sure := sure } := ⟨_, rfl⟩
  have hfb : G'.fb = G.fb := by rw [hG']
  have hbn : G'.now = some bn := by rw [hG']
  rw [← hG'] at HR4
  rw [← hfb]
  clear hG' hfb
  have hl1 : look S.next.dir a ≠ none := by
    show look S.dir a ≠ none
    rw [hl]
    simp
  have hga := gone_ren S.next.dir a b
  rcases hgo : look S.next.dir b with _ | g
  have hpv : pv G'.fb none = .pointer none := rfl
  rw [hpv]
  rw [hgo] at hga
  have HGA := hide hga
  have HGO := hide hgo
  clear hga hgo
  focus
    go_wp2_with fail
  have hga := HGA.out
  obtain ⟨w5, hw5⟩ : ∃ w5, w5 = w4 := ⟨_, rfl⟩
  have ya5 := ya4
  have yb5 := yb4
  have HD5 : Hid (w4.heap[d]? = some (.cells #[.int .i64 (S.next.room : Int), .int .i64 ((S.next.used : Int) - (((goneOf S.next.dir (.ren a b)).map (lenOf S.next.files)).getD 0 : Nat)), .map (some bn), .map G'.sure, G'.lv, .int .i64 (S.next.n : Int), .bool S.next.cut.isSome, .int .i64 G'.cv, .map G'.fls] 63)) := hide (by
    rw [hga, ← hbn]
    have := HR4.out.disk
    unfold dcells at this
    rw [this]
    simp)
  have HG5 : Hid (∀ g, goneOf S.next.dir (.ren a b) = some g → w4.heap[G'.fb g]? = some (.cells #[G'.rv g, G'.sv g, .bool false] 80)) := hide (fun g' hg' => by
    rw [hga] at hg'
    cases hg')
  have HC5 : Hid (Chg (fun k => k = d ∨ ∃ g, goneOf S.next.dir (.ren a b) = some g ∧ k = G'.fb g) w4 w4) := hide (Chg.refl _ _)
  rw [← hw5] at ya5 yb5 HD5 HG5 ⊢
  rw [show Chg (fun k => k = d ∨ ∃ g, goneOf S.next.dir (.ren a b) = some g ∧ k = G'.fb g) w4 w4 = Chg (fun k => k = d ∨ ∃ g, goneOf S.next.dir (.ren a b) = some g ∧ k = G'.fb g) w4 w5 by rw [hw5]] at HC5
  clear hw5
  rotate_left
  have hpv : pv G'.fb (some g) = .pointer (some ⟨G'.fb g, 0, none⟩) := rfl
  rw [hpv]
  have hun := unname_rep HR4.out (by omega) (look_id hgo)
  rw [hgo] at hga
  go_wp2_with (go_at_call 80; refine hun.mono ?_; rintro e w5 ⟨rfl, u1, u2, u3⟩)
  have hX : ∀ k x, w4.heap[k]? = some (Obj.cells #[x] 9) → ¬ (k = d ∨ k = G'.fb g) := fun k x hk e => by
    rcases e with e | e
    · exact ne_tag hk HR4.out.disk (show 9 ≠ 63 by decide) e
    · exact ne_tag hk (HR4.out.files g (Or.inl (live_of_dir HR4.out.ok (look_id hgo)))).2 (show 9 ≠ 80 by decide) e
  have ya5 := u3.keep ya4 (hX _ _ ya4)
  have yb5 := u3.keep yb4 (hX _ _ yb4)
  have HD5 : Hid (w5.heap[d]? = some (.cells #[.int .i64 (S.next.room : Int), .int .i64 ((S.next.used : Int) - (((goneOf S.next.dir (.ren a b)).map (lenOf S.next.files)).getD 0 : Nat)), .map (some bn), .map G'.sure, G'.lv, .int .i64 (S.next.n : Int), .bool S.next.cut.isSome, .int .i64 G'.cv, .map G'.fls] 63)) := hide (by rw [hga, ← hbn]; exact u1)
  have HG5 : Hid (∀ g, goneOf S.next.dir (.ren a b) = some g → w5.heap[G'.fb g]? = some (.cells #[G'.rv g, G'.sv g, .bool false] 80)) := hide (fun g' hg' => by
    rw [hga] at hg'
    injection hg' with hg'
    subst hg'
    exact u2)
  have HC5 : Hid (Chg (fun k => k = d ∨ ∃ g, goneOf S.next.dir (.ren a b) = some g ∧ k = G'.fb g) w4 w5) := hide (u3.mono fun k _ e => e.elim Or.inl fun e => Or.inr ⟨g, hga, e⟩)
  clear u1 u2 u3 hX
  all_goals
    have HA4 := hide ya4
    have HB4 := hide yb4
    clear ya4 yb4 xb4 x24
    have za5 : w5.drew.heap[w.heap.size]? = _ := ya5
    have zb5 : w5.drew.heap[w.heap.size + 1]? = _ := yb5
    refine wp_region_held_drew (S := fun W => W.cell? ⟨w.heap.size, 0, none⟩ = some (.string (strB a)) ∧ W.cell? ⟨w.heap.size + 1, 0, none⟩ = some (.string (strB b))) (by kernel_rfl) (⟨cell_of za5 0, cell_of zb5 0⟩) (fun hHeld => ?_)
    refine takeH (i := 0) (v := ?_) rfl (by kernel_rfl) (by kernel_rfl) (by kernel_rfl) (fun _ _ _ h => h) rfl ?_ hHeld ?_
    rotate_left
    · intro w hS; (try dsimp only at hS); obtain ⟨hS0, hS1⟩ := hS; go_simp; first | done | (with_reducible rfl)
    try simp only [Act.put, ly1, ly2, ly3]
    refine takeH (i := 2) (v := ?_) rfl (by kernel_rfl) (by kernel_rfl) (by kernel_rfl) (fun _ _ _ h => h) rfl ?_ hHeld ?_
    rotate_left
    · intro w hS; (try dsimp only at hS); obtain ⟨hS0, hS1⟩ := hS; go_simp; first | done | (with_reducible rfl)
    try simp only [Act.put, ly1, ly2, ly3]
    refine onlyH (i := 1) rfl (by kernel_rfl) rfl (fun K hK => ?_)
    go_simp
    refine (copyStr_any _ a (by omega)).mono ?_
    rintro e w6 ⟨rfl, hb6⟩
    have ya6 := (hb6.block w.heap.size (lt_of_heap za5)).trans za5
    have yb6 := (hb6.block (w.heap.size + 1) (lt_of_heap zb5)).trans zb5
    refine hK.out _ _ (⟨cell_of ya6 0, cell_of yb6 0⟩) (fun hHeld => ?_)
    clear hK K
    try simp only [Act.put, ly1, ly2, ly3]
    refine onlyH (i := 3) rfl (by kernel_rfl) rfl (fun K hK => ?_)
    go_simp
    refine (copyStr_any _ b (by omega)).mono ?_
    rintro e w7 ⟨rfl, hb7⟩
    have ya7 := (hb7.block w.heap.size (lt_of_heap ya6)).trans ya6
    have yb7 := (hb7.block (w.heap.size + 1) (lt_of_heap yb6)).trans yb6
    have ta7 := thawed ya7 0
    refine hK.out _ _ (⟨cell_of ya7 0, cell_of yb7 0⟩) (fun hHeld => ?_)
    clear hK K
    try simp only [Act.put, ly1, ly2, ly3]
    refine onlyH (i := 4) rfl (by kernel_rfl) rfl (fun K hK => ?_)
    go_simp
    have hsa := chg_same ya7
    have ya8 := hsa.keep ya7 (fun h => h)
    have yb8 := hsa.keep yb7 (fun h => h)
    have HC8 : Hid (Chg (fun k => k = d ∨ ∃ g, goneOf S.next.dir (.ren a b) = some g ∧ k = G'.fb g) w4 (w7.setCell ⟨w.heap.size, 0, none⟩ (.string (strB a)))) := hide (((HC5.out.drew.trans (Chg.of_below hb6) (fun i hi h => absurd (Nat.lt_of_lt_of_le hi HC5.out.size) (Nat.not_lt_of_le h))).trans (Chg.of_below hb7) (fun i hi h => absurd (Nat.lt_of_lt_of_le hi (Nat.le_trans HC5.out.size hb6.size)) (Nat.not_lt_of_le h))).then (hsa.mono fun _ _ h => h.elim))
    have HD8 := hide (hsa.keep ((hb7.block d (Nat.lt_of_lt_of_le (lt_of_heap HD5.out) hb6.size)).trans ((hb6.block d (lt_of_heap HD5.out)).trans HD5.out)) (fun h => h))
    have HG8 : Hid (∀ g, goneOf S.next.dir (.ren a b) = some g → (w7.setCell ⟨w.heap.size, 0, none⟩ (.string (strB a))).heap[G'.fb g]? = some (.cells #[G'.rv g, G'.sv g, .bool false] 80)) := hide (fun g hg => hsa.keep ((hb7.block _ (Nat.lt_of_lt_of_le (lt_of_heap (HG5.out g hg)) hb6.size)).trans ((hb6.block _ (lt_of_heap (HG5.out g hg))).trans (HG5.out g hg))) (fun h => h))
    refine hK.out _ _ (⟨cell_of ya8 0, cell_of yb8 0⟩) (fun hHeld => ?_)
    clear hK K
    try simp only [Act.put, ly1, ly2, ly3]
    clear HC5 HD5 HG5 hsa hb6 hb7 ya5 yb5 za5 zb5 ya6 yb6 ya7 yb7 ta7
    generalize w7.setCell ⟨w.heap.size, 0, none⟩ (.string (strB a)) = w8 at *
    have tb8 := thawed yb8 0
    refine onlyH (i := 5) rfl (by kernel_rfl) rfl (fun K hK => ?_)
    go_simp
    have hsb := chg_same yb8
    have ya9 := hsb.keep ya8 (fun h => h)
    have yb9 := hsb.keep yb8 (fun h => h)
    have HC9 := hide (HC8.out.then (hsb.mono fun _ _ h => h.elim))
    have HD9 := hide (hsb.keep HD8.out (fun h => h))
    have HG9 : Hid (∀ g, goneOf S.next.dir (.ren a b) = some g → (w8.setCell ⟨w.heap.size + 1, 0, none⟩ (.string (strB b))).heap[G'.fb g]? = some (.cells #[G'.rv g, G'.sv g, .bool false] 80)) := hide (fun g hg => hsb.keep (HG8.out g hg) (fun h => h))
    refine hK.out _ _ (⟨cell_of ya9 0, cell_of yb9 0⟩) (fun hHeld => ?_)
    clear hK K
    try simp only [Act.put, ly1, ly2, ly3]
    refine wpAnyH_done (by kernel_rfl) ?_ _
    clear hHeld
    clear HC8 HD8 HG8 hsb ya8 yb8 tb8
    generalize w8.setCell ⟨w.heap.size + 1, 0, none⟩ (.string (strB b)) = w9 at *
    have hca : Fx F w w4 w.heap.size := Or.inr ⟨Nat.le_refl _, lt_of_heap HA4.out⟩
    have hcb : Fx F w w4 (w.heap.size + 1) := Or.inr ⟨Nat.le_succ _, lt_of_heap HB4.out⟩
    have hch := changed_rep (w2 := w9) (a := .ren a b) HR4.out hbn (HR4.out.ok.ren hl1 hab) ⟨hl1, hab⟩ rfl rfl (by omega) HC9.out HD9.out HG9.out
      (g := 82) (caps := #[.pointer (some ⟨w.heap.size, 0, none⟩), .pointer (some ⟨w.heap.size + 1, 0, none⟩)]) enters54
      (fun W hm hW => ren1_any W bn w.heap.size (w.heap.size + 1) G'.fb S.next.dir a b HR4.out.ok.sortD hm hl1 hab (hW.keep ya9 (fun h => h)) (hW.keep yb9 (fun h => h)))
      (fun w' hk => ⟨w.heap.size, w.heap.size + 1, rfl, Or.inl hca, Or.inl hcb, hk _ _ ya9, hk _ _ yb9⟩)
    go_wp2_with (go_at_call 81; refine hch.mono ?_; rintro e w10 ⟨rfl, G5, hr5, hc5⟩; have HR5 := hide hr5; have HC10 := hide hc5; clear hr5 hc5 hch)
    go_ret
    refine ⟨rfl, G5, HR5.out.mono (fun k hk => ?_), HC4.out.trans HC10.out (fun i hi h => ?_)⟩
    · rcases hk with (hk | ⟨a, b⟩) | ⟨a, b⟩
      · exact Or.inl hk
      · exact Or.inr ⟨a, Nat.lt_of_lt_of_le b HC10.out.size⟩
      · exact Or.inr ⟨Nat.le_trans HC4.out.size a, b⟩
    · rcases h with h | ⟨a, b⟩
      · exact h
      · exact absurd hi (Nat.not_lt_of_le a)

/-- Rename, in one. -/
theorem rename_rep (h : Rep w F d S G) (hlow : ∀ k, F k → k < w.heap.size) (hb : S.bulk + 1 < 1099511627776) (a b : Nm) : Calls Tryz.prog 57 #[.pointer (some ⟨d, 0, none⟩), .string (strB a), .string (strB b)] w fun e w' => e = .returned (.int .i64 (S.rename a b).2) ∧
    ∃ G', Rep w' (Fx F w w') d (S.rename a b).1 G' ∧ Chg F w w' := by
  have hnl := n_le S
  unfold Dk.rename
  by_cases hon : S.on = false
  · simp only [if_pos hon]
    exact rename_off h hon a b
  simp only [if_neg hon]
  have hon' : S.on = true := by simpa using hon
  by_cases hn : isNm a = false ∨ isNm b = false
  · simp only [if_pos hn]
    exact rename_name h hlow hon' (by omega) a b hn
  simp only [if_neg hn]
  have h1 : isNm a = true := by
    rcases Bool.eq_false_or_eq_true (isNm a) with e | e
    · exact e
    · exact absurd (Or.inl e) hn
  have h2 : isNm b = true := by
    rcases Bool.eq_false_or_eq_true (isNm b) with e | e
    · exact e
    · exact absurd (Or.inr e) hn
  cases hl : look S.dir a with
  | none =>
    simp only [if_true]
    exact rename_none h hlow hon' (by omega) a b h1 h2 hl
  | some f =>
    simp only [reduceCtorEq, if_false]
    by_cases hf : S.fails S.n = true
    · simp only [if_pos hf]
      exact rename_io h hlow hon' (by omega) a b h1 h2 hl 34 (Or.inl ⟨hf, rfl⟩)
    have hf' : S.fails S.n = false := by simpa using hf
    simp only [if_neg hf]
    by_cases hab : a = b
    · simp only [if_pos hab]
      exact rename_io h hlow hon' (by omega) a b h1 h2 hl 0 (Or.inr ⟨hf', hab, rfl⟩)
    simp only [if_neg hab]
    exact rename_ok h hlow hon' hb a b h1 h2 hl hf' hab
end
end Go.Proofs.YthjcimgollfmgaaGreatDoor

/-
  What letting go of bytes does: forget. Conditions: what lies there is told by hypotheses.
-/
namespace Go.Proofs.YthjcimgollfmgaaGreatDoor
open Go.RowKit

/-- A file that has no name, and loose acts. -/
def Bare (w : World) (vs : List (Value × Value)) (k : Nat) : Prop := (∃ p ∈ vs, p.1 = .pointer (some ⟨k, 0, none⟩)) ∧ ∃ r s, w.heap[k]? = some (.cells #[r, s, .bool false] 80)
/-- Files keep all but their bytes. -/
def Shaped (w w' : World) : Prop := ∀ (k : Nat) (r s : Value) (nm : Bool), w.heap[k]? = some (.cells #[r, s, .bool nm] 80) → ∃ r', w'.heap[k]? = some (.cells #[r', s, .bool nm] 80)
theorem not_bare {w : World} {vs : List (Value × Value)} {k : Nat} {o : Obj} (h : w.heap[k]? = some o) (ht : tag o ≠ 80) : ¬ Bare w vs k := fun ⟨_, _, _, hb⟩ => ne_tag h hb ht rfl

set_option maxRecDepth 20000 in
set_option maxHeartbeats 400000 in
theorem forget_any (w : World) (d n : Nat) (r u o1 o2 lv o4 c1 c2 fl : Value) (vs : List (Value × Value)) (hd : w.heap[d]? = some (.cells #[r, u, o1, o2, lv, o4, c1, c2, fl] 63)) (hn : vs.length = n) (hrow : w.ownsRow 0 88 2 lv n (vc vs)) (hb : n < 1099511627776)
    (hp : ∀ p ∈ vs, ∃ b r s, ∃ nm : Bool, p.1 = .pointer (some ⟨b, 0, none⟩) ∧ w.heap[b]? = some (.cells #[r, s, .bool nm] 80)) (hfn : ∀ p ∈ vs, ∃ fn fs cs, p.2 = .func fn fs cs) :
    Calls Tryz.prog 119 #[.pointer (some ⟨d, 0, none⟩)] w fun e w' => e = .returned (.tuple #[]) ∧ Chg (Bare w vs) w w' ∧ Shaped w w' := by
  obtain ⟨a, cap, rfl⟩ := own_shape hrow
  have hdl := cell_of hd 4
  have hrn : ∀ k, (Value.slice a n cap).ownBlock = some k → ¬ Bare w vs k := fun k hk => by
    obtain ⟨cur, hcur⟩ := own_block hrow hk
    exact not_bare hcur (show 88 ≠ 80 by decide)
  go_enter Tryz.func119, Tryz.ntmps119
  go_wp2_with fail
  go_loopw [9] (fun x wr => ∃ k : Nat, k ≤ n ∧ x = .int .i64 (k : Int) ∧ Chg (Bare w vs) w wr ∧ Shaped w wr) (fun x _ => n - (intOf x).toNat)
  case atStart => exact ⟨0, Nat.zero_le _, rfl, Chg.refl _ _, fun k r s nm h => ⟨r, h⟩⟩
  case round =>
    obtain ⟨k, hk, rfl, hc, hsh⟩ := hrel
    by_cases hlt : k < n
    · obtain ⟨p, hpk⟩ : ∃ p, vs[k]? = some p := ⟨_, List.getElem?_eq_getElem (by omega)⟩
      obtain ⟨o, v⟩ := p
      have hpm := List.mem_of_getElem? hpk
      have hrr := own_keep hrow hc hrn
      obtain ⟨g, hg⟩ : ∃ g, a = some ⟨g, 0, none⟩ := by
        rcases hrr.2 with ⟨e1, e2⟩ | ⟨g, cap, cur, e1, _⟩
        · omega
        · injection e1 with e1
          exact ⟨g, e1⟩
      subst hg
      have x0 := hrr.cellAt (k * 2) (by omega)
      have x1 := hrr.cellAt (k * 2 + 1) (by omega)
      rw [(vc_get hpk).1] at x0
      rw [(vc_get hpk).2] at x1
      obtain ⟨b, r0, s0, nm, hpo, hfb⟩ := hp _ hpm
      obtain ⟨fn, fs, fc, hfv⟩ := hfn _ hpm
      simp only at hpo hfv
      subst hpo hfv
      obtain ⟨r1, hf1⟩ := hsh b r0 s0 nm hfb
      have hf2 := heap_past (.cells #[.pointer (some ⟨b, 0, none⟩), .func fn fs fc] 88) hf1
      have y2 := cell_of hf2 2
      have y0 := cell_of hf2 0
      have t2 := thawed hf2 0
      have HSH := hide hsh
      have HC := hide hc
      have HPP := hide hp
      have HRN := hide hrn
      clear hsh hrr hp hc hrn hdl
      cases nm with
      | true =>
        go_wp2_with fail
        go_roundw
        case rel => exact ⟨k + 1, by omega, by go_num, HC.out.alloc _, fun j r s nm h => by
          obtain ⟨r', hr'⟩ := HSH.out j r s nm h
          exact ⟨r', heap_past _ hr'⟩⟩
        case measure => simp [intOf]; omega
      | false =>
        go_wp2_with fail
        go_roundw
        case rel =>
          refine ⟨k + 1, by omega, by go_num, (HC.out.alloc _).setCell (p := ⟨b, 0, none⟩) (Or.inl ⟨⟨_, hpm, rfl⟩, r0, s0, hfb⟩) _, fun j r s nm h => ?_⟩
          obtain ⟨r', hr'⟩ := HSH.out j r s nm h
          have hr2 := heap_past (.cells #[.pointer (some ⟨b, 0, none⟩), .func fn fs fc] 88) hr'
          by_cases e : j = b
          · subst e
            exact ⟨_, heap_set hr2 0 _⟩
          · exact ⟨r', heap_set_other hr2 e⟩
        case measure => simp [intOf]; omega
    · have hkn : k = n := by omega
      clear hp
      go_wp2
      go_end0
      exact ⟨rfl, hc, hsh⟩
end Go.Proofs.YthjcimgollfmgaaGreatDoor

/-
  What settling the directory does to a disk: keepDir, undoDir. Condition: a disk within bounds.
-/
namespace Go.Proofs.YthjcimgollfmgaaGreatDoor
open Go.RowKit

def Dk.settled (S : Dk) (D : Dir) : Dk := { S with dir := D, sure := D, acts := S.acts.filter isMore }
theorem keepD_settled (S : Dk) : S.keepD = S.settled S.dir := rfl
theorem undoD_settled (S : Dk) : S.undoD = S.settled S.sure := rfl
theorem live_settled {S : Dk} {D : Dir} {i : Nat} : (S.settled D).live i ↔ i ∈ ids D := by
  unfold Dk.live Dk.settled
  simp only [(more_only (filter_isMore S.acts)).2.2]
  simp
theorem known_settled {S : Dk} {D : Dir} {i : Nat} (hD : ∀ i ∈ ids D, S.live i) (h : (S.settled D).known i) : S.known i := by
  rcases h with h | h
  · exact Or.inl (hD i (live_settled.1 h))
  · exact Or.inr (mem_moreIds_filter h)

section
variable {w w' : World} {F : Nat → Prop} {d : Nat} {S : Dk} {G : Gh}

/-- The directory is settled at D; files that have no name may have lost their bytes. -/
theorem Rep.directed (h : Rep w F d S G) {D : Dir} (hD : ∀ i ∈ ids D, S.live i) (hok : Ok (S.settled D)) {now sure : Option Nat} {lv : Value}
    (hc : Chg (fun k => k = d ∨ some k = G.now ∨ some k = G.sure ∨ some k = G.lv.ownBlock ∨ ∃ i, S.known i ∧ k = G.fb i) w w')
    (hd : w'.heap[d]? = some (.cells #[.int .i64 (S.room : Int), .int .i64 ((usedOf S.files D : Nat) : Int), .map now, .map sure, lv, .int .i64 (S.n : Int), .bool S.cut.isSome, .int .i64 G.cv, .map G.fls] 63))
    (hnow : MapO w' (Fx F w w') now (dv G.fb D)) (hsure : MapO w' (Fx F w w') sure (dv G.fb D)) (hboth : now = none ↔ sure = none) (h1 : ∀ b, now = some b → sure ≠ some b ∧ G.fls ≠ some b) (h2 : ∀ b, sure = some b → G.fls ≠ some b)
    (hbare : now = none → S.acts = [])
    (hlv : lv.ownBlock = G.lv.ownBlock) (hrow : w'.ownsRow 0 88 2 lv (G.vs.filter fun p => !sameP p.1 (.pointer none)).length (vc (G.vs.filter fun p => !sameP p.1 (.pointer none))))
    (hfiles : ∀ i, S.known i → ∃ r, w'.heap[G.fb i]? = some (.cells #[r, G.sv i, .bool (decide (i ∈ ids D))] 80) ∧ (i ∈ ids D → r = G.rv i)) :
    ∃ G', Rep w' (Fx F w w') d (S.settled D) G' := by
  have hXn : ∀ k o, w.heap[k]? = some o → tag o ≠ 63 → tag o ≠ 100000 → tag o ≠ 80 → tag o ≠ 88 → ¬ (k = d ∨ some k = G.now ∨ some k = G.sure ∨ some k = G.lv.ownBlock ∨ ∃ i, S.known i ∧ k = G.fb i) := by
    intro k o ho t1 t2 t3 t4 e
    rcases e with rfl | e | e | e | ⟨i, hi, rfl⟩
    · exact ne_tag ho h.disk t1 rfl
    · have := h.now
      rw [← e] at this
      obtain ⟨es, ck, hh, _⟩ := this.2
      exact ne_tag ho hh t2 rfl
    · have := h.sure
      rw [← e] at this
      obtain ⟨es, ck, hh, _⟩ := this.2
      exact ne_tag ho hh t2 rfl
    · obtain ⟨cur, hcur⟩ := own_block h.row e.symm
      exact ne_tag ho hcur t4 rfl
    · exact ne_tag ho (h.files i hi).2 t3 rfl
  have hsp : Spares w (fun k => k = d ∨ some k = G.now ∨ some k = G.sure ∨ some k = G.lv.ownBlock ∨ ∃ i, S.known i ∧ k = G.fb i) := by
    have hmap : ∀ {o : Option Nat} {l : List (Value × Value)}, MapO w F o l → Spares w (fun k => some k = o) := by
      intro o l hm k x t h1 h2 e
      rw [← e] at hm
      exact spares_map hm.2 k x t h1 h2 rfl
    refine (spares_cells h.disk (by decide)).or ((hmap h.now).or ((hmap h.sure).or ((spares_row h.row (by decide)).or ?_)))
    rintro k x t h1 h2 ⟨g, hg, rfl⟩
    exact spares_cells (h.files g hg).2 (by decide) _ x t h1 h2 rfl
  have hz := zip_filter (R := ActW w' (Fx F w w') G.fb) (p := isMore) (q := fun p : Value × Value => !sameP p.1 (.pointer none)) S.acts G.vs h.many (fun j a p ha hp => ⟨h.actsKeep hc hsp (fun _ h => Or.inl h) j a p ha hp, h.same_dir ha hp⟩)
  obtain ⟨rv, hrv⟩ : ∃ rv : Nat → Value, ∀ i, S.known i → w'.heap[G.fb i]? = some (.cells #[rv i, G.sv i, .bool (decide (i ∈ ids D))] 80) ∧ (i ∈ ids D → rv i = G.rv i) := by
    classical
    exact ⟨fun i => if hi : S.known i then Classical.choose (hfiles i hi) else .nilFunc, fun i hi => by
      simp only [dif_pos hi]
      exact Classical.choose_spec (hfiles i hi)⟩
  have hrd : ∀ i, i ∈ ids D → rv i = G.rv i := fun i hi => (hrv i (Or.inl (hD i hi))).2 hi
  refine ⟨{ G with rv := rv, now := now, sure := sure, lv := lv, vs := G.vs.filter fun p => !sameP p.1 (.pointer none) },
    { ok := hok
      disk := hd
      inD := Or.inl h.inD
      roomy := h.roomy
      cutv := h.cutv
      now := hnow
      sure := hsure
      both := hboth
      bare := fun e => by show S.acts.filter isMore = []; rw [hbare e]; rfl
      fails := ?_
      two := h1
      three := h2
      row := hrow
      rowF := fun k hk => Or.inl (h.rowF k (by rw [← hlv]; exact hk))
      many := hz.1
      acts := hz.2
      files := fun i hi => ⟨Or.inl (h.files i (known_settled hD hi)).1, (hrv i (known_settled hD hi)).1⟩
      inj := fun i j hi hj e => h.inj i j (known_settled hD hi) (known_settled hD hj) e
      bytes := fun i y hi hy => ?_
      apart := fun i j k hi hj e1 e2 => ?_ }⟩
  · obtain ⟨l, g1, g2⟩ := h.fails
    refine ⟨l, g1.keep hc (fun b e hX => ?_) (fun _ h => Or.inl h), g2⟩
    have hfm := g1
    rw [e] at hfm
    rcases hX with e2 | e2 | e2 | e2 | ⟨i, hi, e2⟩
    · exact hfm.2.ne h.disk e2.symm
    · exact (h.two b e2.symm).2 e
    · exact h.three b e2.symm e
    · obtain ⟨cur, hcur⟩ := own_block h.row e2.symm
      exact hfm.2.ne hcur rfl
    · exact hfm.2.ne (h.files i hi).2 e2.symm
  · have hi' := live_settled.1 hi
    obtain ⟨c1, c2, c3⟩ := h.bytes i y (hD i hi') hy
    show G.sv i = _ ∧ w'.ownsRow 0 _ 1 (rv i) _ _ ∧ ∀ k, (rv i).ownBlock = some k → _
    rw [hrd i hi']
    refine ⟨c1, own_keep c2 hc (fun k hk => ?_), fun k hk => Or.inl (c3 k hk)⟩
    obtain ⟨cur, hcur⟩ := own_block c2 hk
    exact hXn k _ hcur (show 5 ≠ 63 by decide) (show 5 ≠ 100000 by decide) (show 5 ≠ 80 by decide) (show 5 ≠ 88 by decide)
  · have hi' := live_settled.1 hi
    have hj' := live_settled.1 hj
    have e1' : (rv i).ownBlock = some k := e1
    have e2' : (rv j).ownBlock = some k := e2
    rw [hrd i hi'] at e1'
    rw [hrd j hj'] at e2'
    exact h.apart i j k (hD i hi') (hD j hj') e1' e2'
end
end Go.Proofs.YthjcimgollfmgaaGreatDoor
