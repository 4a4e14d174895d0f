/-
  What Sync answers, and does. Condition: a disk within bounds.
-/
import Derived.Test.YtbedacdakmcfpaaSync
namespace Go.Proofs.Ytbedacdakmcfpaa
open Go.RowKit

theorem PV.set {w : World} {v : Value} (h : PV w v) (f i : Nat) (u : Value) : PV (w.setCell ⟨f, i, none⟩ u) v := by
  rcases h with h | ⟨b, c, t, h1, h2⟩
  · exact Or.inl h
  · by_cases e : b = f
    · subst e
      exact Or.inr ⟨b, _, t, h1, heap_set h2 i u⟩
    · exact Or.inr ⟨b, c, t, h1, heap_set_other h2 e⟩
theorem PV.drew {w : World} {v : Value} (h : PV w v) : PV w.drew v := h

section
variable {w w' : World} {F : Nat → Prop} {d : Nat} {S : Dk} {G : Gh}

theorem live_filter {S : Dk} {q : Ac → Bool} {files : List Fl} (hq : ∀ a, isMore a = false → q a = true) {i : Nat} : Dk.live { S with files := files, acts := S.acts.filter q } i ↔ S.live i := by
  unfold Dk.live
  simp only
  rw [filter_more_made _ _ hq]
theorem known_filter {S : Dk} {q : Ac → Bool} {files : List Fl} (hq : ∀ a, isMore a = false → q a = true) {i : Nat} (h : Dk.known { S with files := files, acts := S.acts.filter q } i) : S.known i := by
  rcases h with h | h
  · exact Or.inl ((live_filter hq).1 h)
  · exact Or.inr (mem_moreIds_filter h)

/-- A file is as its acts, or what is sure of it, say; its acts are no longer loose. -/
theorem Rep.refile (h : Rep w F d S G) {f : Nat} (hf : f ∈ ids S.dir) {x : Fl} (hx : S.files[f]? = some x) (g : Fl → Fl) {rv lv : Value} (hc : Chg (fun k => k = d ∨ k = G.fb f ∨ some k = G.lv.ownBlock) w w')
    (hok : Ok { S with files := S.files.modify f g, acts := S.acts.filter fun a => !isOf f a })
    (hd : w'.heap[d]? = some (.cells (dcells { S with files := S.files.modify f g, acts := S.acts.filter fun a => !isOf f a } { G with lv := lv }) 66))
    (hfb : w'.heap[G.fb f]? = some (.cells #[rv, .int .i64 ((g x).sure : Int), .bool true] 95)) (hrv : w'.ownsRow 0 5 1 rv (g x).b.length (bc (g x).b)) (hrb : ∀ k, rv.ownBlock = some k → (G.rv f).ownBlock = some k)
    (hlv : lv.ownBlock = G.lv.ownBlock) (hrow : w'.ownsRow 0 104 2 lv (G.vs.filter fun p => !sameP p.1 (.pointer (some ⟨G.fb f, 0, none⟩))).length (vc (G.vs.filter fun p => !sameP p.1 (.pointer (some ⟨G.fb f, 0, none⟩))))) :
    Rep w' (Fx F w w') d { S with files := S.files.modify f g, acts := S.acts.filter fun a => !isOf f a }
      { G with rv := upd G.rv f rv, sv := upd G.sv f (.int .i64 ((g x).sure : Int)), lv := lv, vs := G.vs.filter fun p => !sameP p.1 (.pointer (some ⟨G.fb f, 0, none⟩)) } := by
  have hlf := live_of_dir h.ok hf
  have hkf : S.known f := Or.inl hlf
  obtain ⟨b1, b2, b3⟩ := h.bytes f x hlf hx
  obtain ⟨f1, f2⟩ := h.files f hkf
  have hXn : ∀ k o, w.heap[k]? = some o → tag o ≠ 66 → tag o ≠ 95 → tag o ≠ 104 → ¬ (k = d ∨ k = G.fb f ∨ some k = G.lv.ownBlock) := by
    intro k o ho t1 t2 t4 e
    rcases e with rfl | rfl | e
    · exact ne_tag ho h.disk t1 rfl
    · exact ne_tag ho f2 t2 rfl
    · obtain ⟨cur, hcur⟩ := own_block h.row e.symm
      exact ne_tag ho hcur t4 rfl
  have hsp : Spares w (fun k => k = d ∨ k = G.fb f ∨ some k = G.lv.ownBlock) := (spares_cells h.disk (by decide)).or ((spares_cells f2 (by decide)).or (spares_row h.row (by decide)))
  have hmapn : ∀ {o : Option Nat} {l : List (Value × Value)}, MapO w F o l → MapO w' (Fx F w w') o l := fun {o l} hm => hm.keep hc (fun c e => by
    rw [e] at hm
    obtain ⟨es, ck, hh, _⟩ := hm.2
    exact hXn c _ hh (show (100000 : Nat) ≠ 66 by decide) (show (100000 : Nat) ≠ 95 by decide) (show (100000 : Nat) ≠ 104 by decide)) (fun _ h => Or.inl h)
  have hz := zip_filter (R := ActW w' (Fx F w w') G.fb) (p := fun a => !isOf f a) (q := fun p : Value × Value => !sameP p.1 (.pointer (some ⟨G.fb f, 0, none⟩))) S.acts G.vs h.many (fun j a p ha hp => ⟨h.actsKeep hc hsp (fun _ h => Or.inl h) j a p ha hp, h.same_of hkf ha hp⟩)
  have hnm := notOf_more f
  refine
    { ok := hok
      disk := hd
      inD := Or.inl h.inD
      roomy := h.roomy
      cutv := h.cutv
      now := hmapn h.now
      sure := hmapn h.sure
      both := h.both
      bare := fun e => by show S.acts.filter _ = []; rw [h.bare e]; rfl
      fails := by
        obtain ⟨l, g1, g2⟩ := h.fails
        exact ⟨l, hmapn g1, g2⟩
      two := h.two
      three := h.three
      row := hrow
      rowF := fun k hk => Or.inl (h.rowF k (by rw [← hlv]; exact hk))
      many := hz.1
      acts := hz.2
      files := fun i hi => ?_
      inj := fun i j hi hj e => h.inj i j (known_filter hnm hi) (known_filter hnm hj) e
      bytes := fun i y hi hy => ?_
      apart := fun i j k hi hj e1 e2 => ?_ }
  · have hi' := known_filter hnm hi
    obtain ⟨g1, g2⟩ := h.files i hi'
    refine ⟨Or.inl g1, ?_⟩
    show w'.heap[G.fb i]? = some (.cells #[upd G.rv f rv i, upd G.sv f _ i, .bool (decide (i ∈ ids S.dir))] _)
    by_cases e : i = f
    · subst e
      rw [upd_same, upd_same, decide_eq_true hf]
      exact hfb
    · rw [upd_other _ _ e, upd_other _ _ e]
      refine hc.keep g2 (fun hXb => ?_)
      rcases hXb with e2 | e2 | e2
      · exact h.ne_file hi' e2.symm
      · exact e (h.inj i f hi' hkf e2)
      · obtain ⟨cur, hcur⟩ := own_block h.row e2.symm
        exact ne_tag g2 hcur (show 95 ≠ 104 by decide) rfl
  · have hi' := (live_filter hnm).1 hi
    show upd G.sv f _ i = _ ∧ w'.ownsRow 0 _ 1 (upd G.rv f rv i) _ _ ∧ ∀ k, (upd G.rv f rv i).ownBlock = some k → _
    rcases modify_get hy with ⟨hne2, hy'⟩ | ⟨rfl, y', hy', rfl⟩
    · rw [upd_other _ _ hne2, upd_other _ _ hne2]
      obtain ⟨c1, c2, c3⟩ := h.bytes i y hi' hy'
      refine ⟨c1, own_keep c2 hc (fun k hk => ?_), fun k hk => Or.inl (c3 k hk)⟩
      obtain ⟨cur, hcur⟩ := own_block c2 hk
      exact hXn k _ hcur (show 5 ≠ 66 by decide) (show 5 ≠ 95 by decide) (show 5 ≠ 104 by decide)
    · rw [hx] at hy'
      injection hy' with hy'
      subst hy'
      rw [upd_same, upd_same]
      exact ⟨rfl, hrv, fun k hk => Or.inl (b3 k (hrb k hk))⟩
  · have hi' := (live_filter hnm).1 hi
    have hj' := (live_filter hnm).1 hj
    have old : ∀ i, (upd G.rv f rv i).ownBlock = some k → (G.rv i).ownBlock = some k := fun i hi => by
      by_cases e : i = f
      · subst e
        rw [upd_same] at hi
        exact hrb k hi
      · rw [upd_other _ _ e] at hi
        exact hi
    exact h.apart i j k hi' hj' (old i e1) (old j e2)

set_option maxRecDepth 20000 in
theorem keepFile_rep (h : Rep w F d S G) {f : Nat} (hf : f ∈ ids S.dir) (hb : S.bulk < 1099511627776) :
    Calls Try.prog 51 #[.pointer (some ⟨d, 0, none⟩), .pointer (some ⟨G.fb f, 0, none⟩)] w fun e w' => e = .returned (.tuple #[]) ∧ ∃ G', Rep w' (Fx F w w') d (S.keepF f) G' ∧ Chg F w w' := by
  have hlf := live_of_dir h.ok hf
  obtain ⟨x, hx⟩ : ∃ x, S.files[f]? = some x := ⟨_, List.getElem?_eq_getElem (h.ok.idD hf)⟩
  obtain ⟨b1, b2, b3⟩ := h.bytes f x hlf hx
  obtain ⟨f1, f2⟩ := h.files f (Or.inl hlf)
  rw [decide_eq_true hf] at f2
  obtain ⟨ra, rc, hrv⟩ := own_shape b2
  have f2' := f2
  rw [hrv] at f2'
  have hd := h.disk
  unfold dcells at hd
  have hdf : d ≠ G.fb f := h.ne_file (Or.inl hlf)
  have hal := acts_le S
  obtain ⟨W1, hW1⟩ : ∃ W, W = w.setCell ⟨G.fb f, 1, none⟩ (.int .i64 (x.b.length : Int)) := ⟨_, rfl⟩
  have hc1 : Chg (· = G.fb f) w W1 := hW1 ▸ chg_set _ _ _ _
  have hd1 := hc1.keep hd hdf
  have hlr : ∀ k, G.lv.ownBlock = some k → k ≠ G.fb f := fun k hk => by
    obtain ⟨cur, hcur⟩ := own_block h.row hk
    exact ne_tag hcur f2 (show 104 ≠ 95 by decide)
  have hset := settle_any W1 d G.vs.length _ _ _ _ _ _ _ _ _ (.pointer (some ⟨G.fb f, 0, none⟩)) G.vs hd1 rfl (own_keep h.row hc1 (fun k hk => hlr k hk)) (fun p hp => hW1 ▸ (h.pv p hp).set _ _ _) (hW1 ▸ (PV.set (Or.inr ⟨_, _, _, rfl, f2⟩) _ _ _)) (by rw [h.many]; omega) h.pvn (fun b e hk => hlr b hk (by injection e with e; injection e with e; injection e with e; exact e.symm)) h.funcs
  have hf1 : W1.heap[G.fb f]? = some (.cells #[G.rv f, .int .i64 (x.b.length : Int), .bool true] 95) := hW1 ▸ heap_set f2 1 _
  have c0 := cell_of f2' 0
  have c1 := cell_of f2' 1
  have t1 := thawed f2' 1
  have HW := hide hW1
  have HF1 := hide hf1
  have HB2 := hide b2
  have HLR := hide hlr
  have HC1 := hide hc1
  have HF2 := hide f2
  clear hW1 hf1 b2 hlr hc1 f2 f2' hd1 hd
  go_enter Try.func51, Try.ntmps51
  go_wp2_with (first
    | (go_at_call 71; (first | rw [← HW.out] | skip); refine hset.mono ?_; rintro e w2 ⟨rfl, lv', q1, q2, q3, q4⟩))
  go_end0
  have hX : Chg (fun k => k = d ∨ k = G.fb f ∨ some k = G.lv.ownBlock) w w2 := (HC1.out.mono fun _ _ e => Or.inr (Or.inl e)).then (q4.mono fun _ _ e => e.elim Or.inl fun e => Or.inr (Or.inr e))
  refine ⟨rfl, _, h.refile hf hx (fun x => { x with sure := x.b.length }) hX (h.ok.keepF f) ?_ (q4.keep HF1.out (fun e => e.elim (fun e => hdf e.symm) (fun e => HLR.out _ e.symm rfl))) ?_ (fun k hk => hk) q2 q3, hX.mono fun k _ hk => ?_⟩
  · rw [q1]
    unfold dcells
    have e1 : Dk.used { S with files := S.files.modify f fun x => { x with sure := x.b.length }, acts := S.acts.filter fun a => !isOf f a } = S.used := by
      have := used_modify (g := fun x => { x with sure := x.b.length }) h.ok.oneD hf hx
      unfold Dk.used
      simp only at this ⊢
      omega
    rw [e1]
  · refine own_keep (own_keep HB2.out HC1.out (fun k hk e => ?_)) q4 (fun k hk e => ?_)
    · obtain ⟨cur, hcur⟩ := own_block HB2.out hk
      exact ne_tag hcur HF2.out (show 5 ≠ 95 by decide) e
    · obtain ⟨cur, hcur⟩ := own_block HB2.out hk
      rcases e with e | e
      · exact ne_tag hcur h.disk (show 5 ≠ 66 by decide) e
      · obtain ⟨cur2, hcur2⟩ := own_block h.row e.symm
        exact ne_tag hcur hcur2 (show 5 ≠ 104 by decide) rfl
  · rcases hk with rfl | rfl | hk
    · exact h.inD
    · exact f1
    · exact h.rowF k hk.symm

theorem own_cut {w : World} {n k : Nat} {ra : Option Addr} {rc : Nat} {l : List UInt8} (h : w.ownsRow 0 5 1 (.slice ra n rc) n (bc l)) (hl : l.length = n) (hk : k ≤ n) : w.ownsRow 0 5 1 (.slice ra k rc) k (bc (l.take k)) := by
  refine ⟨by rw [bc_length, List.length_take]; omega, ?_⟩
  rcases h.2 with ⟨e, h0⟩ | ⟨g, cap, cur, e, h1, h2, h3, h4, h5, h6⟩
  · injection e with e1 e2 e3
    subst e1 e3
    exact Or.inl ⟨by rw [show k = 0 by omega], by omega⟩
  · injection e with e1 e2 e3
    subst e1 e3
    refine Or.inr ⟨g, rc, cur, rfl, h1, h2, by omega, h4, h5, ?_⟩
    rw [bc_take, ← h6, List.take_take, Nat.mul_one, Nat.mul_one, Nat.min_eq_left hk]

set_option maxRecDepth 20000 in
set_option maxHeartbeats 400000 in
theorem undoFile_rep (h : Rep w F d S G) {f : Nat} (hf : f ∈ ids S.dir) (hb : S.bulk < 1099511627776) :
    Calls Try.prog 50 #[.pointer (some ⟨d, 0, none⟩), .pointer (some ⟨G.fb f, 0, none⟩)] w fun e w' => e = .returned (.tuple #[]) ∧ ∃ G', Rep w' (Fx F w w') d (S.undoF f) G' ∧ Chg F w w' := by
  have hlf := live_of_dir h.ok hf
  obtain ⟨x, hx⟩ : ∃ x, S.files[f]? = some x := ⟨_, List.getElem?_eq_getElem (h.ok.idD hf)⟩
  have hlen := h.ok.lens f x hx
  have hsl : x.sure ≤ x.b.length := by omega
  obtain ⟨b1, b2, b3⟩ := h.bytes f x hlf hx
  obtain ⟨f1, f2⟩ := h.files f (Or.inl hlf)
  rw [decide_eq_true hf, b1] at f2
  have hrc : ∃ ra rc, G.rv f = .slice ra x.b.length rc ∧ x.b.length ≤ rc ∧ (ra = none → rc = 0) := by
    rcases b2.2 with ⟨e, h0⟩ | ⟨g, cap, cur, e, q1, q2, q3, q4, q5, q6⟩
    · exact ⟨none, 0, by rw [h0]; exact e, by omega, fun _ => rfl⟩
    · exact ⟨_, cap, e, q3, fun h => by cases h⟩
  obtain ⟨ra, rc, hrv, hle, hnil⟩ := hrc
  have hfl := file_le hx
  have hus := used_modify (g := fun x => { x with b := x.b.take x.sure }) h.ok.oneD hf hx
  simp only [List.length_take] at hus
  have hul := used_le h.ok
  have hdu : usedOf S.files S.dir = S.used := rfl
  have f2' := f2
  rw [hrv] at f2'
  have hd := h.disk
  unfold dcells at hd
  have hdf : d ≠ G.fb f := h.ne_file (Or.inl hlf)
  have hal := acts_le S
  obtain ⟨u', hu'⟩ : ∃ u' : Int, u' = (S.used : Int) - ((x.b.length : Int) - (x.sure : Int)) := ⟨_, rfl⟩
  -- used
  obtain ⟨W1, hW1⟩ : ∃ W, W = (w.setCell ⟨d, 1, none⟩ (.int .i64 u')).drew := ⟨_, rfl⟩
  have hc1 : Chg (· = d) w W1 := hW1 ▸ (chg_set _ _ _ _).drew
  have hd1 : W1.heap[d]? = some (.cells #[.int .i64 (S.room : Int), .int .i64 u', .map G.now, .map G.sure, G.lv, .int .i64 (S.n : Int), .bool S.cut.isSome, .int .i64 G.cv, .map G.fls] 66) := hW1 ▸ heap_set hd 1 _
  have hf1 := hc1.keep f2 (fun e => hdf e.symm)
  have hf1' := hf1
  rw [hrv] at hf1'
  have hlrd : ∀ k, G.lv.ownBlock = some k → k ≠ d := fun k hk => h.ne_row hk
  have hlr : ∀ k, G.lv.ownBlock = some k → k ≠ G.fb f := fun k hk => by
    obtain ⟨cur, hcur⟩ := own_block h.row hk
    exact ne_tag hcur f2 (show 104 ≠ 95 by decide)
  -- bytes
  obtain ⟨W2, hW2⟩ : ∃ W, W = (W1.setCell ⟨G.fb f, 0, none⟩ (.slice ra x.sure rc)).drew := ⟨_, rfl⟩
  have hc2 : Chg (· = G.fb f) W1 W2 := hW2 ▸ (chg_set _ _ _ _).drew
  have hd2 := hc2.keep hd1 hdf
  have hf2 : W2.heap[G.fb f]? = some (.cells #[.slice ra x.sure rc, .int .i64 (x.sure : Int), .bool true] 95) := hW2 ▸ heap_set hf1 0 _
  have pvs : ∀ v, PV w v → PV W2 v := fun v hv => by
    have h1 : PV W1 v := hW1 ▸ (hv.set d 1 (.int .i64 u'))
    exact hW2 ▸ (h1.set (G.fb f) 0 (.slice ra x.sure rc))
  have hset := settle_any W2 d G.vs.length _ _ _ _ _ _ _ _ _ (.pointer (some ⟨G.fb f, 0, none⟩)) G.vs hd2 rfl (own_keep (own_keep h.row hc1 (fun k hk => hlrd k hk)) hc2 (fun k hk => hlr k hk)) (fun p hp => pvs _ (h.pv p hp)) (pvs _ (Or.inr ⟨_, _, _, rfl, f2⟩)) (by rw [h.many]; omega) h.pvn (fun b e hk => hlr b hk (by injection e with e; injection e with e; injection e with e; exact e.symm)) h.funcs
  have c0 := cell_of f2' 0
  have c1 := cell_of f2' 1
  have c2 := cell_of hd 1
  have t1 := thawed hd 1
  have g0 := cell_of hf1' 0
  have g1 := cell_of hf1' 1
  have g2 := thawed hf1' 0
  have HW1 := hide hW1
  have HW2 := hide hW2
  have HF2 := hide hf2
  have HB2 := hide b2
  have HLR := hide hlr
  have HC1 := hide hc1
  have HC2 := hide hc2
  have HFF := hide f2
  have HU := hide hu'
  have HUS := hide hus
  have HLEN := hide hlen
  clear hW1 hW2 hf2 b2 hlr hc1 hc2 f2 f2' hf1 hf1' hd1 hd2 pvs hus hlen hdu hu'
  go_enter Try.func50, Try.ntmps50
  go_wp2_with fail
  go_region
  rw [← HU.out, ← HW1.out]
  go_wp2_with fail
  go_region
  rw [← HW2.out]
  go_wp2_with (go_at_call 71; refine hset.mono ?_; rintro e w3 ⟨rfl, lv', q1, q2, q3, q4⟩)
  go_end0
  have hX : Chg (fun k => k = d ∨ k = G.fb f ∨ some k = G.lv.ownBlock) w w3 := ((HC1.out.mono fun _ _ e => Or.inl e).then (HC2.out.mono fun _ _ e => Or.inr (Or.inl e))).then (q4.mono fun _ _ e => e.elim Or.inl fun e => Or.inr (Or.inr e))
  have hus := HUS.out
  refine ⟨rfl, _, h.refile hf hx (fun x => { x with b := x.b.take x.sure }) (rv := .slice ra x.sure rc) hX (h.ok.undoF f) ?_ (q4.keep HF2.out (fun e => e.elim (fun e => hdf e.symm) (fun e => HLR.out _ e.symm rfl))) ?_ (fun k hk => by rw [hrv]; cases ra with | none => cases hk | some a => exact hk) q2 q3, hX.mono fun k _ hk => ?_⟩
  · rw [q1]
    unfold dcells
    have e1 : ((Dk.used { S with files := S.files.modify f fun x => { x with b := x.b.take x.sure }, acts := S.acts.filter fun a => !isOf f a } : Nat) : Int) = u' := by
      have e2 : usedOf S.files S.dir = S.used := rfl
      have e3 : Dk.used { S with files := S.files.modify f fun x => { x with b := x.b.take x.sure }, acts := S.acts.filter fun a => !isOf f a } = usedOf (S.files.modify f fun x => { x with b := x.b.take x.sure }) S.dir := rfl
      rw [e3, HU.out]
      omega
    rw [e1]
  · have hcut := own_cut (l := x.b) (k := x.sure) (hrv ▸ HB2.out) rfl hsl
    show w3.ownsRow 0 _ 1 (.slice ra x.sure rc) (x.b.take x.sure).length (bc (x.b.take x.sure))
    rw [show (x.b.take x.sure).length = x.sure by rw [List.length_take]; omega]
    refine own_keep (own_keep (own_keep hcut HC1.out (fun k hk e => ?_)) HC2.out (fun k hk e => ?_)) q4 (fun k hk e => ?_)
    · obtain ⟨cur, hcur⟩ := own_block hcut hk
      exact ne_tag hcur h.disk (show 5 ≠ 66 by decide) e
    · obtain ⟨cur, hcur⟩ := own_block hcut hk
      exact ne_tag hcur HFF.out (show 5 ≠ 95 by decide) e
    · obtain ⟨cur, hcur⟩ := own_block hcut hk
      rcases e with e | e
      · exact ne_tag hcur h.disk (show 5 ≠ 66 by decide) e
      · obtain ⟨cur2, hcur2⟩ := own_block h.row e.symm
        exact ne_tag hcur hcur2 (show 5 ≠ 104 by decide) rfl
  · rcases hk with rfl | rfl | hk
    · exact h.inD
    · exact f1
    · exact h.rowF k hk.symm

theorem bulk_begun (S : Dk) : S.begun.bulk ≤ S.bulk + 1 := by
  unfold Dk.begun
  split
  · omega
  · rw [bulk_next]
    omega

set_option maxRecDepth 20000 in
set_option maxHeartbeats 400000 in
/-- Sync. -/
theorem sync_rep (h : Rep w F d S G) (hb : S.bulk + 1 < 1099511627776) (n : Nm) : Calls Try.prog 20 #[.pointer (some ⟨d, 0, none⟩), .string (strB n)] w fun e w' => e = .returned (.int .i64 (S.sync n).2) ∧ ∃ G', Rep w' (Fx F w w') d (S.sync n).1 G' ∧ Chg F w w' := by
  have hon := on_rep h (by omega) n
  have hbb := bulk_begun S
  have hkeep : ∀ {G' : Gh} {w1 : World} {f : Nat}, Rep w1 (Fx F w w1) d S.begun G' → look S.dir n = some f → _ := fun {G' w1 f} hr hl => keepFile_rep hr (f := f) (by rw [(begun_dir S).1]; exact look_id hl) (by omega)
  have hundo : ∀ {G' : Gh} {w1 : World} {f : Nat}, Rep w1 (Fx F w w1) d S.begun G' → look S.dir n = some f → _ := fun {G' w1 f} hr hl => undoFile_rep hr (f := f) (by rw [(begun_dir S).1]; exact look_id hl) (by omega)
  obtain ⟨ra, hra⟩ : ∃ ra, ra = (S.sync n).1 := ⟨_, rfl⟩
  obtain ⟨re, hre⟩ : ∃ re, re = (S.sync n).2 := ⟨_, rfl⟩
  rw [← hra, ← hre]
  have HA := hide hra
  have HE := hide hre
  clear hra hre
  go_enter Try.func20, Try.ntmps20
  go_wp2_with (first
    | (go_at_call 40; refine hon.mono ?_; rintro e w1 ⟨G', hr, hc, ⟨er, he, hne, rfl⟩ | ⟨f, fl, he, hl, rfl⟩⟩)
    | (go_at_call 50; refine (hundo hr hl).mono ?_; rintro e w2 ⟨rfl, G2, hr2, hc2⟩)
    | (go_at_call 51; refine (hkeep hr hl).mono ?_; rintro e w2 ⟨rfl, G2, hr2, hc2⟩))
  · go_ret
    have e1 : S.sync n = (S.begun, er) := by unfold Dk.sync; rw [he]
    rw [HA.out, HE.out, e1]
    exact ⟨rfl, G', hr, hc⟩
  · rename_i hfl
    go_ret
    have e1 : S.sync n = (S.begun.undoF f, 34) := by unfold Dk.sync; rw [he]; simp [hfl]
    rw [HA.out, HE.out, e1]
    exact ⟨rfl, G2, hr2.mono (Fx.trans hc.size hc2.size), hc.fx hc2⟩
  · rename_i hfl
    go_ret
    have e1 : S.sync n = (S.begun.keepF f, 0) := by unfold Dk.sync; rw [he]; simp [hfl]
    rw [HA.out, HE.out, e1]
    exact ⟨rfl, G2, hr2.mono (Fx.trans hc.size hc2.size), hc.fx hc2⟩
end
end Go.Proofs.Ytbedacdakmcfpaa
