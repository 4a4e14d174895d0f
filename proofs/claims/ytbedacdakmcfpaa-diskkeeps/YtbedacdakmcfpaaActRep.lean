/-
  What acts of the directory do to a disk: Remove, Rename. Condition: a disk within bounds.
-/
import Derived.Test.YtbedacdakmcfpaaSyncRep
namespace Go.Proofs.Ytbedacdakmcfpaa
open Go.RowKit

/-- Which file loses its name. -/
def goneOf (l : Dir) : Ac → Option Nat
  | .ren _ b => look l b
  | .rem n => look l n
  | _ => none
theorem ids_del {l : Dir} (hs : Sorted l) (hn : (ids l).Nodup) {n : Nm} {f : Nat} (h : look l n = some f) (i : Nat) : i ∈ ids (del n l) ↔ i ∈ ids l ∧ i ≠ f := by
  have hp : (ids l).Perm (f :: ids (del n l)) := (del_perm hs h).map fun p : Nm × Nat => p.2
  have hn2 := (hp.nodup_iff).1 hn
  rw [List.nodup_cons] at hn2
  rw [hp.mem_iff, List.mem_cons]
  constructor
  · intro hi
    exact ⟨Or.inr hi, fun e => hn2.1 (e ▸ hi)⟩
  · rintro ⟨h1 | h1, h2⟩
    · exact absurd h1 h2
    · exact h1
theorem used_del {files : List Fl} {l : Dir} (hs : Sorted l) {n : Nm} {f : Nat} (h : look l n = some f) : usedOf files l = lenOf files f + usedOf files (del n l) := by
  unfold usedOf
  rw [sum_perm ((del_perm hs h).map fun p : Nm × Nat => lenOf files p.2)]
  rfl
theorem gone_facts {files : List Fl} {l : Dir} (hs : Sorted l) (hn : (ids l).Nodup) {a : Ac} (hc : canD l a) (hm : isMore a = false) (hmade : madeIds [a] = []) :
    (∀ i, i ∈ ids (doneD l a) ↔ i ∈ ids l ∧ goneOf l a ≠ some i) ∧ usedOf files l = ((goneOf l a).map (lenOf files)).getD 0 + usedOf files (doneD l a) := by
  cases a with
  | made n f => simp [madeIds] at hmade
  | more f k => simp [isMore] at hm
  | rem n =>
    obtain ⟨f, hf⟩ := Option.ne_none_iff_exists'.1 hc
    have e : goneOf l (.rem n) = some f := hf
    rw [e]
    refine ⟨fun i => ?_, used_del hs hf⟩
    show i ∈ ids (del n l) ↔ _
    rw [ids_del hs hn hf]
    simp [eq_comm]
  | ren x y =>
    obtain ⟨f, hf⟩ := Option.ne_none_iff_exists'.1 hc.1
    have ed : doneD l (.ren x y) = ins y f (del y (del x l)) := by simp only [doneD, hf]
    have hp : (ids (ins y f (del y (del x l)))).Perm (f :: ids (del y (del x l))) := (ins_perm y f _).map fun p : Nm × Nat => p.2
    have hu : usedOf files (ins y f (del y (del x l))) = lenOf files f + usedOf files (del y (del x l)) := by
      unfold usedOf
      rw [sum_perm ((ins_perm y f (del y (del x l))).map fun p : Nm × Nat => lenOf files p.2)]
      rfl
    have hnx : (ids (del x l)).Nodup := (List.filter_sublist (l := l)).map (fun p : Nm × Nat => p.2) |>.nodup hn
    have hlf : f ∈ ids l := look_id hf
    have e : goneOf l (.ren x y) = look l y := rfl
    rw [ed, e, hu]
    cases hy : look l y with
    | none =>
      have hy2 : look (del x l) y = none := by rw [look_del, if_neg (fun e => hc.2 e.symm), hy]
      rw [del_none hy2]
      refine ⟨fun i => ?_, ?_⟩
      · rw [del_none hy2] at hp
        rw [hp.mem_iff, List.mem_cons, ids_del hs hn hf]
        simp
        constructor
        · rintro (rfl | h)
          · exact hlf
          · exact h.1
        · intro h
          by_cases e : i = f
          · exact Or.inl e
          · exact Or.inr ⟨h, e⟩
      · rw [used_del hs hf]
        simp
    | some g =>
      have hy2 : look (del x l) y = some g := by rw [look_del, if_neg (fun e => hc.2 e.symm), hy]
      have hgf : g ≠ f := fun e => by
        have := (ids_del hs hn hf g).1 (look_id hy2)
        exact this.2 e
      refine ⟨fun i => ?_, ?_⟩
      · rw [hp.mem_iff, List.mem_cons, ids_del (sorted_del hs x) hnx hy2, ids_del hs hn hf]
        simp
        constructor
        · rintro (rfl | ⟨⟨h1, h2⟩, h3⟩)
          · exact ⟨hlf, hgf⟩
          · exact ⟨h1, fun e => h3 e.symm⟩
        · rintro ⟨h1, h2⟩
          by_cases e : i = f
          · exact Or.inl e
          · exact Or.inr ⟨⟨h1, e⟩, fun e => h2 e.symm⟩
      · rw [used_del hs hf, used_del (sorted_del hs x) hy2]
        simp
        omega

section
variable {w w' : World} {F : Nat → Prop} {d : Nat} {S : Dk} {G : Gh}

theorem live_act {S : Dk} {a : Ac} (hmade : madeIds [a] = []) {i : Nat} : (S.act a).live i ↔ S.live i := by
  unfold Dk.live Dk.act
  simp only [madeIds_append, hmade, List.append_nil]
theorem known_act {S : Dk} {a : Ac} (hmade : madeIds [a] = []) (hm : isMore a = false) {i : Nat} : (S.act a).known i ↔ S.known i := by
  unfold Dk.known
  rw [live_act hmade]
  unfold Dk.act
  have e : moreIds [a] = [] := by cases a <;> first | rfl | simp [isMore] at hm
  simp only [moreIds_append, e, List.append_nil]

/-- An act of the directory is done, and laid behind the loose ones; one file may have lost its name. -/
theorem Rep.acted (h : Rep w F d S G) {bn : Nat} (hnow : G.now = some bn) {a : Ac} (hok : Ok (S.act a)) (hcan : canD S.dir a) (hm : isMore a = false) (hmade : madeIds [a] = []) {lv dov : Value} {c : Nat}
    (hc : Chg (fun k => k = d ∨ k = bn ∨ some k = G.lv.ownBlock ∨ ∃ g, goneOf S.dir a = some g ∧ k = G.fb g) w w')
    (hd : w'.heap[d]? = some (.cells #[.int .i64 (S.room : Int), .int .i64 ((S.used : Int) - (((goneOf S.dir a).map (lenOf S.files)).getD 0 : Nat)), .map (some bn), .map G.sure, lv, .int .i64 (S.n : Int), .bool S.cut.isSome, .int .i64 G.cv, .map G.fls] 66))
    (hmap : MapW w' bn (dv G.fb (doneD S.dir a))) (hgone : ∀ g, goneOf S.dir a = some g → w'.heap[G.fb g]? = some (.cells #[G.rv g, G.sv g, .bool false] 95))
    (hrow : w'.ownsRow 0 104 2 lv (G.vs.length + 1) (vc G.vs ++ [.pointer none, .func (.func 68) #[] #[.pointer (some ⟨c, 0, none⟩)]]))
    (hcs : w.heap.size ≤ c) (hcc : w'.heap[c]? = some (.cells #[dov] 87)) (hlv : lv.ownBlock = G.lv.ownBlock ∨ ∃ q, lv.ownBlock = some q ∧ w.heap.size ≤ q) (hdo : DoW w' (Fx F w w') G.fb a dov) :
    Rep w' (Fx F w w') d (S.act a) { G with lv := lv, vs := G.vs ++ [(.pointer none, .func (.func 68) #[] #[.pointer (some ⟨c, 0, none⟩)])] } := by
  obtain ⟨hids, hused⟩ := gone_facts (files := S.files) h.ok.sortD h.ok.oneD hcan hm hmade
  have hmp := h.now
  rw [hnow] at hmp
  have hgl : ∀ g, goneOf S.dir a = some g → g ∈ ids S.dir := fun g hg => by
    cases a with
    | ren x y => exact look_id hg
    | rem n => exact look_id hg
    | made n f => cases hg
    | more f k => cases hg
  have hgk : ∀ g, goneOf S.dir a = some g → S.known g := fun g hg => Or.inl (live_of_dir h.ok (hgl g hg))
  have hXn : ∀ k o, w.heap[k]? = some o → tag o ≠ 66 → tag o ≠ 100000 → tag o ≠ 104 → tag o ≠ 95 → ¬ (k = d ∨ k = bn ∨ some k = G.lv.ownBlock ∨ ∃ g, goneOf S.dir a = some g ∧ k = G.fb g) := by
    intro k o ho t1 t2 t3 t4 e
    rcases e with rfl | rfl | e | ⟨g, hg, rfl⟩
    · exact ne_tag ho h.disk t1 rfl
    · obtain ⟨es, ck, hh, _⟩ := hmp.2
      exact ne_tag ho hh t2 rfl
    · obtain ⟨cur, hcur⟩ := own_block h.row e.symm
      exact ne_tag ho hcur t3 rfl
    · exact ne_tag ho (h.files g (hgk g hg)).2 t4 rfl
  have hsp : Spares w (fun k => k = d ∨ k = bn ∨ some k = G.lv.ownBlock ∨ ∃ g, goneOf S.dir a = some g ∧ k = G.fb g) :=
    (spares_cells h.disk (by decide)).or ((spares_map hmp.2).or ((spares_row h.row (by decide)).or (by
      rintro k x t h1 h2 ⟨g, hg, rfl⟩
      exact spares_cells (h.files g (hgk g hg)).2 (by decide) _ x t h1 h2 rfl)))
  have hmo : ∀ {o : Option Nat} {l : List (Value × Value)}, MapO w F o l → o ≠ some bn → MapO w' (Fx F w w') o l := fun {o l} hmm hne => hmm.keep hc (fun b e hX => by
    rw [e] at hmm
    rcases hX with e2 | e2 | e2 | ⟨g, hg, e2⟩
    · exact hmm.2.ne h.disk e2.symm
    · exact hne (e2 ▸ e)
    · obtain ⟨cur, hcur⟩ := own_block h.row e2.symm
      exact hmm.2.ne hcur rfl
    · exact hmm.2.ne (h.files g (hgk g hg)).2 e2.symm) (fun _ h => Or.inl h)
  have nd : ∀ k, w.heap.size ≤ k → w'.heap[k]? ≠ none → Fx F w w' k := fun k hk hne => Or.inr ⟨hk, by
    rcases Nat.lt_or_ge k w'.heap.size with h1 | h1
    · exact h1
    · exact absurd (Array.getElem?_eq_none h1) hne⟩
  have hsure : G.sure ≠ some bn := (h.two bn hnow).1
  have hfls : G.fls ≠ some bn := (h.two bn hnow).2
  refine
    { ok := hok
      disk := ?_
      inD := Or.inl h.inD
      roomy := h.roomy
      cutv := h.cutv
      now := by
        show MapO w' _ G.now _
        rw [hnow]
        exact ⟨Or.inl hmp.1, hmap⟩
      sure := hmo h.sure hsure
      both := h.both
      bare := fun e => by rw [show G.now = some bn from hnow] at e; cases e
      fails := by
        obtain ⟨l, g1, g2⟩ := h.fails
        exact ⟨l, hmo g1 hfls, g2⟩
      two := h.two
      three := h.three
      row := ?_
      rowF := fun k hk => ?_
      many := ?_
      acts := fun j b p ha hp => ?_
      files := fun i hi => ?_
      inj := fun i j hi hj e => h.inj i j ((known_act hmade hm).1 hi) ((known_act hmade hm).1 hj) e
      bytes := fun i y hi hy => ?_
      apart := fun i j k hi hj e1 e2 => h.apart i j k ((live_act hmade).1 hi) ((live_act hmade).1 hj) e1 e2 }
  · rw [hd]
    unfold dcells
    have e1 : (((S.act a).used : Nat) : Int) = (S.used : Int) - (((goneOf S.dir a).map (lenOf S.files)).getD 0 : Nat) := by
      have e2 : S.used = usedOf S.files S.dir := rfl
      have e3 : (S.act a).used = usedOf S.files (doneD S.dir a) := rfl
      rw [e2, e3, hused]
      omega
    rw [e1]
    show _ = some (Obj.cells #[_, _, .map G.now, _, _, _, _, _, _] _)
    rw [hnow]
    rfl
  · show w'.ownsRow 0 _ 2 lv (G.vs ++ [_]).length (vc (G.vs ++ [_]))
    rw [vc_append, List.length_append]
    exact hrow
  · have hk' : lv.ownBlock = some k := hk
    rcases hlv with e | ⟨x, e, hx⟩
    · rw [e] at hk'
      exact Or.inl (h.rowF k hk')
    · rw [e] at hk'
      injection hk' with hk'
      subst hk'
      exact nd x hx (by obtain ⟨cur, hcur⟩ := own_block hrow e; rw [hcur]; simp)
  · show (G.vs ++ [_]).length = (S.acts ++ [_]).length
    rw [List.length_append, List.length_append, h.many]
    rfl
  · have ha' : (S.acts ++ [a])[j]? = some b := ha
    have hp' : (G.vs ++ [_])[j]? = some p := hp
    rcases Nat.lt_or_ge j S.acts.length with hj | hj
    · rw [List.getElem?_append_left hj] at ha'
      rw [List.getElem?_append_left (by rw [h.many]; exact hj)] at hp'
      exact (h.acts j b p ha' hp').keep hc (fun c x t h1 h2 _ => hsp c x t h1 h2) (fun _ h => Or.inl h) (fun i hi => rfl)
    · have hj' : j = S.acts.length := by
        have := (List.getElem?_eq_some_iff.1 ha').1
        simp at this
        omega
      subst hj'
      rw [List.getElem?_append_right (Nat.le_refl _)] at ha'
      rw [← h.many, List.getElem?_append_right (Nat.le_refl _)] at hp'
      simp at ha' hp'
      subst ha' hp'
      have hfin : (Value.pointer none, Value.func (.func 68) #[] #[.pointer (some ⟨c, 0, none⟩)]).1 = .pointer none ∧ ∃ c' v, (Value.pointer none, Value.func (.func 68) #[] #[.pointer (some ⟨c, 0, none⟩)]).2 = .func (.func 68) #[] #[.pointer (some ⟨c', 0, none⟩)] ∧ Fx F w w' c' ∧ w'.heap[c']? = some (.cells #[v] 87) ∧ DoW w' (Fx F w w') G.fb a v :=
        ⟨rfl, c, dov, rfl, nd c hcs (by rw [hcc]; simp), hcc, hdo⟩
      cases a with
      | made n f => exact hfin
      | ren x y => exact hfin
      | rem n => exact hfin
      | more f k => simp [isMore] at hm
  · have hi' := (known_act hmade hm).1 hi
    obtain ⟨g1, g2⟩ := h.files i hi'
    refine ⟨Or.inl g1, ?_⟩
    show w'.heap[G.fb i]? = some (.cells #[G.rv i, G.sv i, .bool (decide (i ∈ ids (doneD S.dir a)))] _)
    by_cases e : goneOf S.dir a = some i
    · rw [show decide (i ∈ ids (doneD S.dir a)) = false by rw [decide_eq_false_iff_not, hids]; exact fun hh => hh.2 e]
      exact hgone i e
    · rw [show decide (i ∈ ids (doneD S.dir a)) = decide (i ∈ ids S.dir) by rw [decide_eq_decide, hids]; exact ⟨fun hh => hh.1, fun hh => ⟨hh, e⟩⟩]
      refine hc.keep g2 (fun hXb => ?_)
      rcases hXb with e2 | e2 | e2 | ⟨g, hg, e2⟩
      · exact h.ne_file hi' e2.symm
      · exact hmp.2.ne g2 e2
      · obtain ⟨cur, hcur⟩ := own_block h.row e2.symm
        exact ne_tag g2 hcur (show 95 ≠ 104 by decide) rfl
      · exact e (by rw [h.inj i g hi' (hgk g hg) e2]; exact hg)
  · have hi' := (live_act hmade).1 hi
    obtain ⟨c1, c2, c3⟩ := h.bytes i y hi' hy
    refine ⟨c1, own_keep c2 hc (fun k hk => ?_), fun k hk => Or.inl (c3 k hk)⟩
    obtain ⟨cur, hcur⟩ := own_block c2 hk
    exact hXn k _ hcur (show 5 ≠ 66 by decide) (show 5 ≠ 100000 by decide) (show 5 ≠ 104 by decide) (show 5 ≠ 95 by decide)
end
end Go.Proofs.Ytbedacdakmcfpaa
