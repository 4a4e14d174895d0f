/-
  What Remove answers, and does. Condition: a disk within bounds.
-/
import Derived.Test.YtbedacdakmcfpaaActRep
namespace Go.Proofs.Ytbedacdakmcfpaa
open Go.RowKit

theorem chg_same {w : World} {g : Nat} {v : Value} {t : TypeId} (h : w.heap[g]? = some (.cells #[v] t (0, 0))) : Chg (fun _ => False) w (w.setCell ⟨g, 0, none⟩ v) := by
  refine ⟨rfl, rfl, rfl, by simp [World.setCell], fun k hk _ => ?_⟩
  by_cases e : k = g
  · subst e
    rw [heap_set h 0 v, h]
    rfl
  · exact Below.heap_setCell _ _ _ _ e
theorem enters44 : ∀ args w, (callFunc 44 args).run Try.prog w = .ok (.enter 44 args) w := enters_of Try.func44 (by kernel_rfl) rfl
theorem enters54 : ∀ args w, (callFunc 54 args).run Try.prog w = .ok (.enter 54 args) w := enters_of Try.func54 (by kernel_rfl) rfl

section
variable {w w' : World} {F : Nat → Prop} {d : Nat} {S : Dk} {G : Gh}

/-- A file that is about to lose its name. -/
theorem unname_rep (h : Rep w F d S G) (hb : S.bulk < 1099511627776) {f : Nat} (hf : f ∈ ids S.dir) :
    Calls Try.prog 41 #[.pointer (some ⟨d, 0, none⟩), .pointer (some ⟨G.fb f, 0, none⟩)] w fun e w' => e = .returned (.tuple #[]) ∧
      w'.heap[d]? = some (.cells #[.int .i64 (S.room : Int), .int .i64 ((S.used : Int) - lenOf S.files f), .map G.now, .map G.sure, G.lv, .int .i64 (S.n : Int), .bool S.cut.isSome, .int .i64 G.cv, .map G.fls] 66) ∧
      w'.heap[G.fb f]? = some (.cells #[G.rv f, G.sv f, .bool false] 95) ∧ Chg (fun k => k = d ∨ k = G.fb f) w w' := by
  have hlf := live_of_dir h.ok hf
  obtain ⟨x, hx⟩ : ∃ x, S.files[f]? = some x := ⟨_, List.getElem?_eq_getElem (h.ok.idD hf)⟩
  obtain ⟨b1, b2, b3⟩ := h.bytes f x hlf hx
  obtain ⟨f1, f2⟩ := h.files f (Or.inl hlf)
  obtain ⟨ra, rc, hrv⟩ := own_shape b2
  have hd := h.disk
  unfold dcells at hd
  have hul := used_le h.ok
  have hlu : x.b.length ≤ S.used := by
    have : lenOf S.files f ∈ S.dir.map fun p => lenOf S.files p.2 := by
      obtain ⟨p, hp, e⟩ := List.mem_map.1 hf
      exact List.mem_map.2 ⟨p, hp, by rw [e]⟩
    have h2 := sum_le_of_mem this
    have e : lenOf S.files f = x.b.length := by simp [lenOf, hx]
    rw [e] at h2
    exact h2
  have e : lenOf S.files f = x.b.length := by simp [lenOf, hx]
  rw [hrv] at f2 ⊢
  rw [e]
  refine (unname_any w d (G.fb f) x.b.length rc ra _ _ _ _ _ _ _ _ _ _ (S.used : Int) hd f2 (by omega) (by omega)).mono ?_
  rintro e w' ⟨he, h1, h2, h3, _⟩
  exact ⟨he, h1, h2, h3⟩

/-- change, once the file that loses its name has lost it. -/
theorem changed_rep {w2 : World} (h : Rep w F d S G) {bn : Nat} (hnow : G.now = some bn) {a : Ac} (hok : Ok (S.act a)) (hcan : canD S.dir a) (hm : isMore a = false) (hmade : madeIds [a] = []) (hb : S.bulk < 1099511627776)
    (hc : Chg (fun k => k = d ∨ ∃ g, goneOf S.dir a = some g ∧ k = G.fb g) w w2)
    (hd : w2.heap[d]? = some (.cells #[.int .i64 (S.room : Int), .int .i64 ((S.used : Int) - (((goneOf S.dir a).map (lenOf S.files)).getD 0 : Nat)), .map (some bn), .map G.sure, G.lv, .int .i64 (S.n : Int), .bool S.cut.isSome, .int .i64 G.cv, .map G.fls] 66))
    (hgone : ∀ g, goneOf S.dir a = some g → w2.heap[G.fb g]? = some (.cells #[G.rv g, G.sv g, .bool false] 95))
    {g : Nat} {caps : Array Value} (eg : ∀ args w, (callFunc g args).run Try.prog w = .ok (.enter g args) w)
    (hcall : ∀ W, MapW W bn (dv G.fb S.dir) → Chg (fun _ => False) w2 W → Calls Try.prog g (#[.map (some bn)] ++ caps) W fun e w' => e = .returned (.tuple #[]) ∧ MapW w' bn (dv G.fb (doneD S.dir a)) ∧ Chg (· = bn) W w')
    (hdo : ∀ w', (∀ (k : Nat) (x : Value), w2.heap[k]? = some (Obj.cells #[x] 9) → w'.heap[k]? = some (Obj.cells #[x] 9)) → DoW w' (Fx F w w') G.fb a (.func (.func g) #[] caps)) :
    Calls Try.prog 43 #[.pointer (some ⟨d, 0, none⟩), .func (.func g) #[] caps] w2 fun e w' => e = .returned (.tuple #[]) ∧ ∃ G', Rep w' (Fx F w w') d (S.act a) G' ∧ Chg F w w' := by
  have hmp := h.now
  rw [hnow] at hmp
  have hgk : ∀ g, goneOf S.dir a = some g → S.known g := fun g hg => Or.inl (live_of_dir h.ok (by
    cases a with
    | ren x y => exact look_id hg
    | rem n => exact look_id hg
    | made n f => cases hg
    | more f k => cases hg))
  have hmw : MapW w2 bn (dv G.fb S.dir) := hmp.2.keep hc (fun e => by
    rcases e with e | ⟨g, hg, e⟩
    · exact hmp.2.ne h.disk e.symm
    · exact hmp.2.ne (h.files g (hgk g hg)).2 e.symm)
  have hrow : w2.ownsRow 0 104 2 G.lv G.vs.length (vc G.vs) := own_keep h.row hc (fun k hk e => by
    obtain ⟨cur, hcur⟩ := own_block h.row hk
    rcases e with e | ⟨g, hg, e⟩
    · subst e
      exact ne_tag hcur h.disk (show 104 ≠ 66 by decide) rfl
    · subst e
      exact ne_tag hcur (h.files g (hgk g hg)).2 (show 104 ≠ 95 by decide) rfl)
  have hal := acts_le S
  refine (change_gen w2 d bn G.vs.length g caps (dv G.fb S.dir) (dv G.fb (doneD S.dir a)) _ _ _ _ _ _ _ _ _ hd hmw hrow (by rw [h.many]; omega) eg (fun W hW => hcall W (hmw.keep hW (fun h => h)) hW)).mono ?_
  rintro e w' ⟨he, c, lv', r1, r2, r3, r4, r5, r6, r7⟩
  have hc' : Chg (fun k => k = d ∨ k = bn ∨ some k = G.lv.ownBlock ∨ ∃ g, goneOf S.dir a = some g ∧ k = G.fb g) w w' :=
    (hc.mono fun k _ e => e.elim Or.inl fun e => Or.inr (Or.inr (Or.inr e))).then (r7.mono fun k _ e => by
      rcases e with e | e | e
      · exact Or.inl e
      · exact Or.inr (Or.inl e)
      · exact Or.inr (Or.inr (Or.inl e)))
  have hcF : Chg F w w' := hc'.mono fun k _ e => by
    rcases e with rfl | rfl | e | ⟨g, hg, rfl⟩
    · exact h.inD
    · exact hmp.1
    · exact h.rowF k e.symm
    · exact (h.files g (hgk g hg)).1
  have hlast : ∀ k o, w2.heap[k]? = some o → tag o ≠ 66 → tag o ≠ 100000 → tag o ≠ 104 → ¬ (k = d ∨ k = bn ∨ some k = G.lv.ownBlock) := by
    intro k o ho t1 t2 t3 e
    rcases e with rfl | rfl | e
    · exact ne_tag ho hd t1 rfl
    · obtain ⟨es, ck, hh, _⟩ := hmw
      exact ne_tag ho hh t2 rfl
    · obtain ⟨cur, hcur⟩ := own_block hrow e.symm
      exact ne_tag ho hcur t3 rfl
  refine ⟨he, _, h.acted hnow hok hcan hm hmade hc' r1 r2 (fun g hg => ?_) r3 (Nat.le_trans hc.size r4) r5 ?_ (hdo w' fun k x hk => ?_), hcF⟩
  · exact r7.keep (hgone g hg) (hlast _ _ (hgone g hg) (show 95 ≠ 66 by decide) (show 95 ≠ 100000 by decide) (show 95 ≠ 104 by decide))
  · rcases r6 with e | ⟨q, e1, e2⟩
    · exact Or.inl e
    · exact Or.inr ⟨q, e1, Nat.le_trans hc.size e2⟩
  · exact r7.keep hk (hlast _ _ hk (show 9 ≠ 66 by decide) (show 9 ≠ 100000 by decide) (show 9 ≠ 104 by decide))

theorem Rep.hasNow (h : Rep w F d S G) {n : Nm} {f : Nat} (hl : look S.dir n = some f) : ∃ bn, G.now = some bn := by
  cases e : G.now with
  | some b => exact ⟨b, rfl⟩
  | none =>
    have := h.now
    rw [e] at this
    have h2 : dv G.fb S.dir = [] := this
    have h3 : S.dir = [] := List.map_eq_nil_iff.1 h2
    rw [h3] at hl
    cases hl

set_option maxRecDepth 20000 in
set_option maxHeartbeats 800000 in
/-- Remove. -/
theorem remove_rep (h : Rep w F d S G) (hlow : ∀ k, F k → k < w.heap.size) (hb : S.bulk + 1 < 1099511627776) (n : Nm) : Calls Try.prog 17 #[.pointer (some ⟨d, 0, none⟩), .string (strB n)] w fun e w' => e = .returned (.int .i64 (S.remove n).2) ∧ ∃ G', Rep w' (Fx F w w') d (S.remove n).1 G' ∧ Chg F w w' := by
  have hmf : ∀ (fn : Fn) (first cap : Array Value) (w : World), (Instr.makeFunc fn first cap).run Try.prog w = .ok (.func fn first cap) w := fun _ _ _ _ => rfl
  have hA : Chg (fun _ => False) w (w.alloc (.cells #[.string (strB n)] 9)) := (Chg.refl _ w).alloc _
  have hn0 := heap_last w (.cells #[.string (strB n)] 9)
  have hon := on_rep (h.keep hA (fun _ _ h => h) (fun _ h => h)) (by omega) n
  have hszA : (w.alloc (.cells #[.string (strB n)] 9)).heap.size = w.heap.size + 1 := by simp
  have hbb := bulk_begun S
  have x0 := cell_of hn0 0
  obtain ⟨ra, hra⟩ : ∃ ra, ra = (S.remove n).1 := ⟨_, rfl⟩
  obtain ⟨re, hre⟩ : ∃ re, re = (S.remove n).2 := ⟨_, rfl⟩
  rw [← hra, ← hre]
  have HA := hide hra
  have HE := hide hre
  clear hra hre
  have fx0 : ∀ w1 : World, (w.alloc (.cells #[.string (strB n)] 9)).heap.size ≤ w1.heap.size → ∀ k, Fx F (w.alloc (.cells #[.string (strB n)] 9)) w1 k → Fx F w w1 k := fun w1 hs k hk => by
    rcases hk with hk | ⟨a, b⟩
    · exact Or.inl hk
    · exact Or.inr ⟨by omega, b⟩
  have hnl : isNm n = true → n.length ≤ 80 := fun h => (isNm_len h).2
  go_enter Try.func17, Try.ntmps17
  go_wp2_with (first
    | (go_at_call 40; refine hon.mono ?_; rintro e w1 ⟨G', hr, hc, ⟨er, he, hne, rfl⟩ | ⟨f, fl, he, hl, rfl⟩⟩))
  · go_ret
    have e1 : S.remove n = (S.begun, er) := by unfold Dk.remove; rw [he]
    rw [HA.out, HE.out, e1]
    exact ⟨rfl, G', hr.mono (fx0 w1 hc.size), (hA.mono fun _ _ h => h.elim).then hc⟩
  · rename_i hfl
    go_ret
    have e1 : S.remove n = (S.begun, 34) := by unfold Dk.remove; rw [he]; simp [hfl]
    rw [HA.out, HE.out, e1]
    exact ⟨rfl, G', hr.mono (fx0 w1 hc.size), (hA.mono fun _ _ h => h.elim).then hc⟩
  · have hfl : fl = false := by assumption
    subst hfl
    have e1 : S.remove n = (S.begun.act (.rem n), 0) := by unfold Dk.remove; rw [he]; rfl
    have hl1 : look S.begun.dir n = some f := by rw [(begun_dir S).1]; exact hl
    have hne1 : look S.begun.dir n ≠ none := by rw [hl1]; simp
    obtain ⟨bn, hbn⟩ := hr.hasNow hl1
    have hnm : isNm n = true := by
      rcases Bool.eq_false_or_eq_true (isNm n) with e | e
      · exact e
      · exfalso
        unfold Dk.onFile at he
        split at he
        · cases he
        · cases he
    have hnlen := hnl hnm
    have hun := unname_rep hr (by omega) (look_id hl1)
    have hn1 : w1.heap[w.heap.size]? = some (.cells #[.string (strB n)] 9) := hc.keep hn0 (fun hF => Nat.lt_irrefl _ (hlow _ hF))
    have hlt1 : w.heap.size < w1.heap.size := lt_of_heap hn1
    have hg1 : goneOf S.begun.dir (.rem n) = some f := hl1
    have hX1 : ¬ (w.heap.size = d ∨ w.heap.size = G'.fb f) := fun e => by
      rcases e with e | e
      · exact ne_tag hn1 hr.disk (show 9 ≠ 66 by decide) e
      · exact ne_tag hn1 (hr.files f (Or.inl (live_of_dir hr.ok (look_id hl1)))).2 (show 9 ≠ 95 by decide) e
    have HR := hide hr
    have HC := hide hc
    clear hr hc
    refine hun.mono ?_
    rintro e w2 ⟨rfl, u1, u2, u3⟩
    have hn2 := u3.keep hn1 hX1
    have y2 := cell_of hn2 0
    have HU1 := hide u1
    have HU2 := hide u2
    have HU3 := hide u3
    clear u1 u2 u3
    go_wp2_with (first
      | (go_at_call 42; refine (copyStr_any _ n (by omega)).mono ?_; rintro e w3 ⟨rfl, hb3⟩; have h3 := (hb3.block w.heap.size (lt_of_heap hn2)).trans hn2; have y3 := thawed h3 0; have z3 := cell_of h3 0)
      | fail)
    have hr1 : Rep w1 (Fx F w w1) d S.begun G' := HR.out.mono (fx0 w1 HC.out.size)
    have hcn : Fx F w w1 w.heap.size := Or.inr ⟨Nat.le_refl _, hlt1⟩
    have hs2 := HU3.out.size
    have hc3 : Chg (fun k => k = d ∨ k = G'.fb f) w1 w3 := HU3.out.trans (Chg.of_below hb3) (fun i hi h => by omega)
    have hc4 : Chg (fun k => k = d ∨ k = G'.fb f) w1 (w3.setCell ⟨w.heap.size, 0, none⟩ (.string (strB n))) := hc3.then ((chg_same h3).mono fun _ _ h => h.elim)
    have hsame := (chg_same h3)
    have hn4 := hsame.keep h3 (fun h => h)
    have hd4 := hsame.keep ((hb3.block d (lt_of_heap HU1.out)).trans HU1.out) (fun h => h)
    have hf4 := hsame.keep ((hb3.block (G'.fb f) (lt_of_heap HU2.out)).trans HU2.out) (fun h => h)
    clear hsame y3 z3 h3 hc3
    generalize w3.setCell ⟨w.heap.size, 0, none⟩ (.string (strB n)) = w4 at *
    rw [hbn] at hd4
    have hch := changed_rep (w2 := w4) (a := .rem n) hr1 hbn (hr1.ok.rem hne1) hne1 rfl rfl (by omega) (hc4.mono fun k _ e => e.elim Or.inl fun e => Or.inr ⟨f, hg1, e⟩) (by rw [hg1]; exact hd4)
      (fun g hg => by rw [hg1] at hg; injection hg with hg; subst hg; exact hf4) (g := 44) (caps := #[.pointer (some ⟨w.heap.size, 0, none⟩)]) enters44
      (fun W hm hW => rem1_any W bn w.heap.size G'.fb S.begun.dir n hr1.ok.sortD hm hne1 (hW.keep hn4 (fun h => h)))
      (fun w' hk => ⟨w.heap.size, rfl, Or.inl hcn, hk _ _ hn4⟩)
    refine hch.mono ?_
    rintro e w5 ⟨rfl, G5, hr5, hc5⟩
    have HR5 := hide hr5
    have HC5 := hide hc5
    clear hr5 hc5 hch hun hon
    go_wp2
    go_ret
    rw [HA.out, HE.out, e1]
    refine ⟨rfl, G5, HR5.out.mono (fun k hk => ?_), ((hA.mono fun _ _ h => h.elim).then HC.out).trans HC5.out (fun i hi h => ?_)⟩
    · rcases hk with (hk | ⟨a, b⟩) | ⟨a, b⟩
      · exact Or.inl hk
      · exact Or.inr ⟨a, Nat.lt_of_lt_of_le b HC5.out.size⟩
      · exact Or.inr ⟨by omega, b⟩
    · rcases h with h | ⟨a, b⟩
      · exact h
      · omega
end
end Go.Proofs.Ytbedacdakmcfpaa
