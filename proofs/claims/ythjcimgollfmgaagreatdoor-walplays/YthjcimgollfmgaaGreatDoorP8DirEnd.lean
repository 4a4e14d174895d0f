/-
  Texts joined: DirEnd, KeepDir, MClone, UndoDir, SyncDir, MCopy, NewDisk.
-/
import Derived.Test.YthjcimgollfmgaaGreatDoorP7Remove
import Derived.Shelf.SlMaps.Clone
/-
  How settling the directory ends: settle, forget. Condition: a disk within bounds.
-/
namespace Go.Proofs.YthjcimgollfmgaaGreatDoor
open Go.RowKit

section
variable {w w' wr : World} {F : Nat → Prop} {d : Nat} {S : Dk} {G : Gh}

theorem Rep.finish (h : Rep w F d S G) (hb : S.bulk < 1099511627776) {D : Dir} (hD : ∀ i ∈ ids D, S.live i) (hok : Ok (S.settled D)) {now sure : Option Nat}
    (hc : Chg (fun k => k = d ∨ some k = G.now ∨ some k = G.sure ∨ ∃ i, S.known i ∧ k = G.fb i) w wr)
    (hd : wr.heap[d]? = some (.cells #[.int .i64 (S.room : Int), .int .i64 ((usedOf S.files D : Nat) : Int), .map now, .map sure, G.lv, .int .i64 (S.n : Int), .bool S.cut.isSome, .int .i64 G.cv, .map G.fls] 63))
    (hnow : MapO wr (Fx F w wr) now (dv G.fb D)) (hsure : MapO wr (Fx F w wr) sure (dv G.fb D)) (hboth : now = none ↔ sure = none) (h1 : ∀ b, now = some b → sure ≠ some b ∧ G.fls ≠ some b) (h2 : ∀ b, sure = some b → G.fls ≠ some b)
    (hbare : now = none → S.acts = [])
    (hfiles : ∀ i, S.known i → wr.heap[G.fb i]? = some (.cells #[G.rv i, G.sv i, .bool (decide (i ∈ ids D))] 80)) :
    Calls Tryz.prog 103 #[.pointer (some ⟨d, 0, none⟩), .pointer none] wr fun e w1 => e = .returned (.tuple #[]) ∧
      Calls Tryz.prog 119 #[.pointer (some ⟨d, 0, none⟩)] w1 fun e w2 => e = .returned (.tuple #[]) ∧ (∃ G', Rep w2 (Fx F w w2) d (S.settled D) G') ∧ Chg F w w2 := by
  have hal := acts_le S
  have hmany := h.many
  have hrn : ∀ j, G.lv.ownBlock = some j → ¬ (j = d ∨ some j = G.now ∨ some j = G.sure ∨ ∃ i, S.known i ∧ j = G.fb i) := fun j hj e => by
    obtain ⟨cur, hcur⟩ := own_block h.row hj
    rcases e with rfl | e | e | ⟨i, hi, rfl⟩
    · exact ne_tag hcur h.disk (show 88 ≠ 63 by decide) rfl
    · have hm := h.now
      rw [← e] at hm
      exact hm.2.ne hcur rfl
    · have hm := h.sure
      rw [← e] at hm
      exact hm.2.ne hcur rfl
    · exact ne_tag hcur (h.files i hi).2 (show 88 ≠ 80 by decide) rfl
  have hrr := own_keep h.row hc hrn
  have hof : ∀ p ∈ G.vs, p.1 = .pointer none ∨ ∃ i, S.known i ∧ p.1 = .pointer (some ⟨G.fb i, 0, none⟩) := fun p hp => by
    obtain ⟨a, ha, hw⟩ := h.pair hp
    rcases hw.first with ⟨_, e2⟩ | ⟨f, j, rfl, e2⟩
    · exact Or.inl e2
    · exact Or.inr ⟨f, Or.inr (mem_more ha), e2⟩
  refine (settle_any wr d G.vs.length _ _ _ _ _ _ _ _ _ (.pointer none) G.vs hd rfl hrr (fun p hp => ?_) (Or.inl rfl) (by omega) h.pvn (fun b e => by cases e) h.funcs).mono ?_
  · rcases hof p hp with e | ⟨i, hi, e⟩
    · exact Or.inl e
    · exact Or.inr ⟨_, _, _, e, hfiles i hi⟩
  rintro e w1 ⟨rfl, lv', q1, q2, q3, q4⟩
  refine ⟨rfl, ?_⟩
  have hnf : ∀ i, S.known i → ¬ (G.fb i = d ∨ some (G.fb i) = G.lv.ownBlock) := fun i hi e => by
    rcases e with e | e
    · exact h.ne_file hi e.symm
    · obtain ⟨cur, hcur⟩ := own_block h.row e.symm
      exact ne_tag (h.files i hi).2 hcur (show 80 ≠ 88 by decide) rfl
  have hf1 : ∀ i, S.known i → w1.heap[G.fb i]? = some (.cells #[G.rv i, G.sv i, .bool (decide (i ∈ ids D))] 80) := fun i hi => q4.keep (hfiles i hi) (hnf i hi)
  have hfl : ∀ p ∈ G.vs.filter fun p => !sameP p.1 (.pointer none), ∃ i, S.known i ∧ p.1 = .pointer (some ⟨G.fb i, 0, none⟩) := fun p hp => by
    obtain ⟨hp1, hp2⟩ := List.mem_filter.1 hp
    rcases hof p hp1 with e | e
    · rw [e] at hp2
      cases hp2
    · exact e
  have hle := List.length_filter_le (fun p : Value × Value => !sameP p.1 (.pointer none)) G.vs
  refine (forget_any w1 d _ _ _ _ _ lv' _ _ _ _ (G.vs.filter fun p => !sameP p.1 (.pointer none)) q1 rfl q3 (by omega) (fun p hp => ?_) (fun p hp => h.funcs p (List.mem_filter.1 hp).1)).mono ?_
  · obtain ⟨i, hi, e⟩ := hfl p hp
    exact ⟨_, _, _, _, e, hf1 i hi⟩
  rintro e w2 ⟨rfl, q5, q6⟩
  have hb5 : ∀ k, Bare w1 (G.vs.filter fun p => !sameP p.1 (.pointer none)) k → ∃ i, S.known i ∧ k = G.fb i ∧ i ∉ ids D := fun k ⟨⟨p, hp, e⟩, r, s, hk⟩ => by
    obtain ⟨i, hi, e2⟩ := hfl p hp
    rw [e] at e2
    injection e2 with e2
    injection e2 with e2
    injection e2 with e2
    refine ⟨i, hi, e2, fun hiD => ?_⟩
    rw [e2, hf1 i hi, decide_eq_true hiD] at hk
    injection hk with hk
    injection hk with hk
    simp at hk
  have hX : Chg (fun k => k = d ∨ some k = G.now ∨ some k = G.sure ∨ some k = G.lv.ownBlock ∨ ∃ i, S.known i ∧ k = G.fb i) w w2 := by
    refine ((hc.mono fun k _ e => ?_).then (q4.mono fun k _ e => ?_)).then (q5.mono fun k _ e => ?_)
    · rcases e with e | e | e | e
      · exact Or.inl e
      · exact Or.inr (Or.inl e)
      · exact Or.inr (Or.inr (Or.inl e))
      · exact Or.inr (Or.inr (Or.inr (Or.inr e)))
    · rcases e with e | e
      · exact Or.inl e
      · exact Or.inr (Or.inr (Or.inr (Or.inl e)))
    · obtain ⟨i, hi, e, _⟩ := hb5 k e
      exact Or.inr (Or.inr (Or.inr (Or.inr ⟨i, hi, e⟩)))
  have hmo : ∀ {o : Option Nat} {l : List (Value × Value)}, MapO wr (Fx F w wr) o l → MapO w2 (Fx F w w2) o l := fun {o l} hm => by
    cases o with
    | none => exact hm
    | some b =>
      refine ⟨?_, (hm.2.keep q4 (fun e => ?_)).keep q5 (fun e => ?_)⟩
      · rcases hm.1 with hh | ⟨a1, a2⟩
        · exact Or.inl hh
        · exact Or.inr ⟨a1, Nat.lt_of_lt_of_le a2 (Nat.le_trans q4.size q5.size)⟩
      · rcases e with e | e
        · exact hm.2.ne hd e.symm
        · obtain ⟨cur, hcur⟩ := own_block hrr e.symm
          exact hm.2.ne hcur rfl
      · obtain ⟨i, hi, e, _⟩ := hb5 b e
        exact hm.2.ne (hfiles i hi) e.symm
  have hd2 := q5.keep q1 (fun e => by
    obtain ⟨i, hi, e, _⟩ := hb5 d e
    exact h.ne_file hi e)
  refine ⟨rfl, h.directed hD hok hX hd2 (hmo hnow) (hmo hsure) hboth h1 h2 hbare q2 (own_keep q3 q5 (fun k hk e => ?_)) (fun i hi => ?_), hX.mono fun k _ e => ?_⟩
  · obtain ⟨i, hi, e, _⟩ := hb5 k e
    rw [q2] at hk
    exact hnf i hi (Or.inr (by rw [← e, hk]))
  · by_cases hiD : i ∈ ids D
    · refine ⟨_, q5.keep (hf1 i hi) (fun e => ?_), fun _ => rfl⟩
      obtain ⟨j, hj, e, hn⟩ := hb5 _ e
      exact hn (h.inj i j hi hj e ▸ hiD)
    · obtain ⟨r', hr'⟩ := q6 _ _ _ _ (hf1 i hi)
      exact ⟨r', hr', fun e => absurd e hiD⟩
  · rcases e with rfl | e | e | e | ⟨i, hi, rfl⟩
    · exact h.inD
    · have hm := h.now
      rw [← e] at hm
      exact hm.1
    · have hm := h.sure
      rw [← e] at hm
      exact hm.1
    · exact h.rowF k e.symm
    · exact (h.files i hi).1
end
end Go.Proofs.YthjcimgollfmgaaGreatDoor

/-
  What making the directory's acts sure does: keepDir. Condition: a disk within bounds.
-/
namespace Go.Proofs.YthjcimgollfmgaaGreatDoor
open Go.RowKit

section
variable {w w' : World} {F : Nat → Prop} {d : Nat} {S : Dk} {G : Gh}

theorem ActW.dir {fb : Nat → Nat} {a : Ac} {o v : Value} (hm : isMore a = false) (h : ActW w F fb a (o, v)) :
    o = .pointer none ∧ ∃ c u, v = .func (.func 104) #[] #[.pointer (some ⟨c, 0, none⟩)] ∧ w.heap[c]? = some (.cells #[u] 134) ∧ DoW w F fb a u := by
  cases a with
  | more f k => simp [isMore] at hm
  | made n f => obtain ⟨h1, c, u, h2, _, h3, h4⟩ := h; exact ⟨h1, c, u, h2, h3, h4⟩
  | ren a b => obtain ⟨h1, c, u, h2, _, h3, h4⟩ := h; exact ⟨h1, c, u, h2, h3, h4⟩
  | rem n => obtain ⟨h1, c, u, h2, _, h3, h4⟩ := h; exact ⟨h1, c, u, h2, h3, h4⟩
theorem app_take {l : Dir} {ls : List Ac} {k : Nat} {a : Ac} (h : ls[k]? = some a) : appD l (ls.take (k + 1)) = doneD (appD l (ls.take k)) a := by
  rw [List.take_add_one, h, appD_append]
  rfl
theorem valid_take {l : Dir} {ls : List Ac} (hv : Valid l ls) {k : Nat} {a : Ac} (h : ls[k]? = some a) : Valid l (ls.take k) ∧ canD (appD l (ls.take k)) a := by
  have h1 : ls = ls.take (k + 1) ++ ls.drop (k + 1) := (List.take_append_drop _ _).symm
  rw [h1] at hv
  have h2 := (valid_append.1 hv).1
  rw [List.take_add_one, h] at h2
  have h3 := valid_append.1 h2
  exact ⟨h3.1, h3.2.1⟩
theorem done_more {l : Dir} {a : Ac} (h : isMore a = true) : doneD l a = l := by
  cases a <;> first | rfl | simp [isMore] at h

set_option maxRecDepth 20000 in
set_option maxHeartbeats 800000 in
theorem keepDir_rep (h : Rep w F d S G) (hb : S.bulk < 1099511627776) :
    Calls Tryz.prog 106 #[.pointer (some ⟨d, 0, none⟩)] w fun e w' => e = .returned (.tuple #[]) ∧ (∃ G', Rep w' (Fx F w w') d S.keepD G') ∧ Chg F w w' := by
  have hd := h.disk
  unfold dcells at hd
  obtain ⟨a, cap, hlv⟩ := own_shape h.row
  obtain ⟨n, hn⟩ : ∃ n, n = G.vs.length := ⟨_, rfl⟩
  have hna : S.acts.length = n := by rw [hn, h.many]
  have hal := acts_le S
  rw [← hn] at hlv
  have hd' := hd
  rw [hlv] at hd'
  have x4 := cell_of hd' 4
  have hsd : ∀ bs, G.sure = some bs → bs ≠ d := fun bs e ee => by
    have := h.sure
    rw [e] at this
    exact this.2.ne h.disk ee.symm
  have hsr : ∀ bs, G.sure = some bs → G.lv.ownBlock ≠ some bs := fun bs e ee => by
    have := h.sure
    rw [e] at this
    obtain ⟨cur, hcur⟩ := own_block h.row ee
    exact this.2.ne hcur rfl
  have hrow := h.row
  rw [hlv, ← hn] at hrow
  have hsp : Spares w (fun k => some k = G.sure) := by
    intro k x t h1 h2 e
    have hm := h.sure
    rw [← e] at hm
    exact spares_map hm.2 k x t h1 h2 rfl
  have H := hide h
  have HD := hide hd
  have HHD := hide hd'
  have HROW := hide hrow
  have HSD := hide hsd
  have HSR := hide hsr
  have HSP := hide hsp
  have HN := hide hn
  clear h hd hd' hrow hsd hsr hsp hn
  go_enter Tryz.func106, Tryz.ntmps106
  go_wp2_with fail
  go_loopw [9] (fun x wr => ∃ k : Nat, k ≤ n ∧ x = .int .i64 (k : Int) ∧ Chg (fun j => some j = G.sure) w wr ∧ ∀ bs, G.sure = some bs → MapW wr bs (dv G.fb (appD S.sure (S.acts.take k)))) (fun x _ => n - (intOf x).toNat)
  case atStart =>
    refine ⟨0, Nat.zero_le _, rfl, Chg.refl _ _, fun bs e => ?_⟩
    have := H.out.sure
    rw [e] at this
    exact this.2
  case round =>
    obtain ⟨k, hk, rfl, hc, hmap⟩ := hrel
    by_cases hlt : k < n
    · obtain ⟨p, hpk⟩ : ∃ p, G.vs[k]? = some p := ⟨_, List.getElem?_eq_getElem (by rw [← HN.out]; exact hlt)⟩
      obtain ⟨ac, hak⟩ : ∃ ac, S.acts[k]? = some ac := ⟨_, List.getElem?_eq_getElem (by omega)⟩
      obtain ⟨o, v⟩ := p
      obtain ⟨bs, hbs⟩ : ∃ bs, G.sure = some bs := by
        refine Option.ne_none_iff_exists'.1 fun e => ?_
        have e2 := H.out.bare (H.out.both.2 e)
        rw [e2] at hna
        simp at hna
        omega
      have hrr := own_keep HROW.out hc (fun j hj e => HSR.out j e.symm (by rw [hlv]; exact hj))
      obtain ⟨g, hg⟩ : ∃ g, a = some ⟨g, 0, none⟩ := by
        rcases hrr.2 with ⟨e1, e2⟩ | ⟨g, cap, cur, e1, _⟩
        · omega
        · injection e1 with e1
          exact ⟨g, e1⟩
      subst hg
      have hnl := HN.out
      have z0 := hrr.cellAt (k * 2) (by omega)
      have z1 := hrr.cellAt (k * 2 + 1) (by omega)
      rw [(vc_get hpk).1] at z0
      rw [(vc_get hpk).2] at z1
      clear hnl
      have hw := (H.out.actsKeep hc HSP.out (F' := F) (fun _ h => h)) k ac (o, v) hak hpk
      obtain ⟨hv1, hv2⟩ := valid_take H.out.ok.valid hak
      by_cases hm : isMore ac = true
      · have ho : ∃ b, o = .pointer (some ⟨b, 0, none⟩) := by
          rcases hw.first with ⟨h1, h2⟩ | ⟨f, j, h1, h2⟩
          · rw [hm] at h1
            cases h1
          · exact ⟨_, h2⟩
        obtain ⟨fb, rfl⟩ := ho
        obtain ⟨fn, fs, fc, hfv⟩ := hw.second
        simp only at hfv
        subst hfv
        have HC := hide hc
        have HM := hide hmap
        clear hc hmap hrr hw
        go_wp2_with fail
        go_roundw
        case rel =>
          refine ⟨k + 1, by omega, by go_num, HC.out.alloc _, fun bs e => ?_⟩
          rw [app_take hak, done_more hm]
          exact (HM.out bs e).keep ((Chg.refl (fun _ => False) _).alloc _) (fun h => h)
        case measure => simp [intOf]; omega
      · obtain ⟨ho, c, u, hv, hcc, hdo⟩ := hw.dir (by simpa using hm)
        subst ho hv
        have hA : Chg (fun _ => False) wr (wr.alloc (.cells #[.pointer none, .func (.func 104) #[] #[.pointer (some ⟨c, 0, none⟩)]] 88)).drew := ((Chg.refl _ _).alloc _).drew
        have hdr := hA.keep (hc.keep HHD.out (fun e => HSD.out d e.symm rfl)) (fun h => h)
        have y3 := cell_of hdr 3
        rw [hbs] at y3
        have hnb : (wr.alloc (.cells #[.pointer none, .func (.func 104) #[] #[.pointer (some ⟨c, 0, none⟩)]] 88)).drew.heap[wr.heap.size]? = _ := heap_last wr _
        have y1 := cell_of hnb 1
        have hcall := dirDo_any _ bs c (.map none) 0 u F G.fb _ ac (sorted_app H.out.ok.sortS hv1) ((hmap bs hbs).keep hA (fun h => h)) hv2 (hdo.keep hA (fun _ _ _ _ _ _ h => h) (fun _ h => h) (fun _ _ => rfl)) (hA.keep hcc (fun h => h))
        have hbd : d ≠ bs := fun e => HSD.out bs hbs e.symm
        have hbw : wr.heap.size ≠ bs := Nat.ne_of_gt (hmap bs hbs).lt
        have HC := hide hc
        have HA := hide hA
        have HNB := hide hnb
        have HDR := hide hdr
        clear hc hmap hrr hw hA hnb hdr hdo hcc
        go_wp2_with fail
        refine wp_region_held_drew (S := fun W => W.cell? ⟨wr.heap.size, 1, none⟩ = some (.func (.func 104) #[] #[.pointer (some ⟨c, 0, none⟩)]) ∧ W.cell? ⟨d, 3, none⟩ = some (.map (some bs))) (by kernel_rfl) (⟨y1, y3⟩) (fun hHeld => ?_)
        refine takeH (i := 0) (v := ?_) rfl (by kernel_rfl) (by kernel_rfl) (by kernel_rfl) (fun _ _ _ h => h) rfl ?_ hHeld ?_
        rotate_left
        · intro w hS; (try dsimp only at hS); obtain ⟨hS0, hS1⟩ := hS; go_simp; first | done | (with_reducible rfl)
        try simp only [Act.put, ly1, ly2, ly3]
        refine takeH (i := 1) (v := ?_) rfl (by kernel_rfl) (by kernel_rfl) (by kernel_rfl) (fun _ _ _ h => h) rfl ?_ hHeld ?_
        rotate_left
        · intro w hS; (try dsimp only at hS); obtain ⟨hS0, hS1⟩ := hS; go_simp; first | done | (with_reducible rfl)
        try simp only [Act.put, ly1, ly2, ly3]
        refine takeH (i := 2) (v := ?_) rfl (by kernel_rfl) (by kernel_rfl) (by kernel_rfl) (fun _ _ _ h => h) rfl ?_ hHeld ?_
        rotate_left
        · intro w hS; (try dsimp only at hS); obtain ⟨hS0, hS1⟩ := hS; go_simp; first | done | (with_reducible rfl)
        try simp only [Act.put, ly1, ly2, ly3]
        refine takeH (i := 3) (v := ?_) rfl (by kernel_rfl) (by kernel_rfl) (by kernel_rfl) (fun _ _ _ h => h) rfl ?_ hHeld ?_
        rotate_left
        · intro w hS; (try dsimp only at hS); obtain ⟨hS0, hS1⟩ := hS; go_simp; first | done | (with_reducible rfl)
        try simp only [Act.put, ly1, ly2, ly3]
        refine takeH (i := 4) (v := ?_) rfl (by kernel_rfl) (by kernel_rfl) (by kernel_rfl) (fun _ _ _ h => h) rfl ?_ hHeld ?_
        rotate_left
        · intro w hS; (try dsimp only at hS); obtain ⟨hS0, hS1⟩ := hS; go_simp; first | done | (with_reducible rfl)
        try simp only [Act.put, ly1, ly2, ly3]
        refine takeH (i := 5) (v := ?_) rfl (by kernel_rfl) (by kernel_rfl) (by kernel_rfl) (fun _ _ _ h => h) rfl ?_ hHeld ?_
        rotate_left
        · intro w hS; (try dsimp only at hS); obtain ⟨hS0, hS1⟩ := hS; go_simp; first | done | (with_reducible rfl)
        try simp only [Act.put, ly1, ly2, ly3]
        refine takeH (i := 6) (v := ?_) rfl (by kernel_rfl) (by kernel_rfl) (by kernel_rfl) (fun _ _ _ h => h) rfl ?_ hHeld ?_
        rotate_left
        · intro w hS; (try dsimp only at hS); obtain ⟨hS0, hS1⟩ := hS; go_simp; first | done | (with_reducible rfl)
        try simp only [Act.put, ly1, ly2, ly3]
        refine onlyH (i := 7) rfl (by kernel_rfl) rfl (fun K hK => ?_)
        go_simp
        refine hcall.mono ?_
        rintro e w1 ⟨rfl, hm1, hc1⟩
        have v3 := cell_of (hc1.keep HDR.out hbd) 3
        rw [hbs] at v3
        refine hK.out _ _ (⟨cell_of (hc1.keep HNB.out hbw) 1, v3⟩) (fun hHeld => ?_)
        clear hK K
        try simp only [Act.put, ly1, ly2, ly3]
        refine wpAnyH_done (by kernel_rfl) ?_ _
        clear hHeld
        have HM1 := hide hm1
        clear hm1 v3 y1 y3 hcall
        go_wp2_with fail
        go_roundw
        case rel =>
          refine ⟨k + 1, by omega, by go_num, (HC.out.then (HA.out.mono fun _ _ h => h.elim)).then (hc1.mono fun _ _ e => by rw [e, hbs]), fun b2 e => ?_⟩
          rw [hbs] at e
          injection e with e
          subst e
          rw [app_take hak]
          exact HM1.out
        case measure => simp [intOf]; omega
    · have hkn : k = n := by omega
      subst hkn
      have hdr := hc.keep HD.out (fun e => HSD.out d e.symm rfl)
      have hnf : ∀ i, S.known i → some (G.fb i) ≠ G.sure := fun i hi e => by
        have hm := H.out.sure
        rw [← e] at hm
        exact hm.2.ne (H.out.files i hi).2 rfl
      have hsz := hc.size
      have hfin := H.out.finish hb (D := S.dir) (now := G.now) (sure := G.sure) (fun i hi => live_of_dir H.out.ok hi) H.out.ok.keepD (hc.mono fun _ _ e => Or.inr (Or.inr (Or.inl e))) hdr
        (H.out.now.keep hc (fun b e e2 => (H.out.two b e).1 e2.symm) (fun _ h => Or.inl h))
        (by
          have hm := H.out.sure
          cases e : G.sure with
          | none =>
            rw [e] at hm
            have h0 := H.out.bare (H.out.both.2 e)
            have h1 : dv G.fb S.sure = [] := hm
            have h2 : S.sure = [] := List.map_eq_nil_iff.1 h1
            have h3 := H.out.ok.dir
            rw [h0, h2] at h3
            show dv G.fb S.dir = []
            rw [h3]
            rfl
          | some bs =>
            rw [e] at hm
            have h3 := hmap bs e
            rw [List.take_of_length_le (Nat.le_of_eq hna), ← H.out.ok.dir] at h3
            exact ⟨Or.inl hm.1, h3⟩)
        H.out.both H.out.two H.out.three H.out.bare (fun i hi => hc.keep (H.out.files i hi).2 (hnf i hi))
      clear hc hmap hdr hnf
      go_wp2_with (first
        | (go_at_call 103; refine hfin.mono ?_; rintro e w1 ⟨rfl, hforget⟩)
        | (go_at_call 119; refine hforget.mono ?_; rintro e w2 ⟨rfl, q5, q6⟩))
      go_end0
      exact ⟨rfl, q5, q6⟩
end
end Go.Proofs.YthjcimgollfmgaaGreatDoor

/-
  maps.Clone of a directory. Conditions: what lies there is told by hypotheses.
-/
namespace Go.Proofs.YthjcimgollfmgaaGreatDoor
open Go.RowKit

set_option maxRecDepth 20000 in
theorem mclone_some (w : World) (b : Nat) (l : List (Value × Value)) (h : MapW w b l) :
    Calls Tryz.prog 48 #[.map (some b)] w fun e w' => e = .returned (.map (some w.heap.size)) ∧ MapW w' w.heap.size l ∧ Chg (fun _ => False) w w' := by
  obtain ⟨es, clock, h1, h2, h3⟩ := h
  have hq := fun w => eqM62 w (some b)
  have HE := hide h3
  clear h3
  go_enter Tryz.func48, Tryz.ntmps48
  go_wp2
  rw [run_callFunc_extern Tryz.func64 (by kernel_rfl) (by kernel_rfl) (by kernel_rfl) (e := Extern.MapsClone.clone) (by kernel_rfl), run_maps_clone_sl w 59 h1]
  simp only [Result.andThen]
  rw [Oper.upon_value]
  go_wp2
  rw [run_typeAssert_map_sl _ 59 20 _ _ _ Tryz.underlying59]
  simp only [Result.andThen]
  rw [Oper.upon_value]
  go_wp2
  go_ret
  exact ⟨rfl, ⟨es, clock, heap_last w _, h2, HE.out⟩, (Chg.refl _ w).alloc _⟩
theorem mclone_none (w : World) : Calls Tryz.prog 48 #[.map none] w fun e w' => e = .returned (.map none) ∧ w' = w := by
  have hq := fun w => eqM62 w none
  go_enter Tryz.func48, Tryz.ntmps48
  go_wp2
  go_ret
  exact ⟨rfl, rfl⟩
end Go.Proofs.YthjcimgollfmgaaGreatDoor

/-
  What undoing the directory's acts does: undoDir. Condition: a disk within bounds.
-/
namespace Go.Proofs.YthjcimgollfmgaaGreatDoor
open Go.RowKit

/-- How many pairs are still to come. -/
def leftLen (w : World) (b r : Nat) : Nat := match w.heap[r]?, w.heap[b]? with
  | some (.mapIter _ _ seen _), some (.map es _) => (leftOf es seen).size
  | _, _ => 0
theorem Goes.len {w : World} {b r : Nat} {rest : List (Value × Value)} (h : Goes w b r rest) : leftLen w b r = rest.length := by
  obtain ⟨es, ck, seen, c0, a1, a2, a3, a4, a5⟩ := h
  unfold leftLen
  rw [a3, a1]
  simp only
  rw [← a5.length_eq, List.length_map, Array.length_toList]
theorem Goes.perm {w : World} {b r : Nat} {l l' : List (Value × Value)} (h : Goes w b r l) (hp : l.Perm l') : Goes w b r l' := by
  obtain ⟨es, ck, seen, c0, a1, a2, a3, a4, a5⟩ := h
  exact ⟨es, ck, seen, c0, a1, a2, a3, a4, a5.trans hp⟩
/-- One of a directory's pairs comes up. -/
theorem dv_pick {fb : Nat → Nat} {rl : Dir} {k v : Value} {rest : List (Value × Value)} (h : (dv fb rl).Perm ((k, v) :: rest)) :
    ∃ n f rl', rl.Perm ((n, f) :: rl') ∧ k = .string (strB n) ∧ v = .pointer (some ⟨fb f, 0, none⟩) ∧ rest.Perm (dv fb rl') := by
  have hm : (k, v) ∈ dv fb rl := h.mem_iff.2 List.mem_cons_self
  obtain ⟨⟨n, f⟩, hp, e⟩ := List.mem_map.1 hm
  injection e with e1 e2
  have h1 : rl.Perm ((n, f) :: rl.erase (n, f)) := List.perm_cons_erase hp
  refine ⟨n, f, rl.erase (n, f), h1, e1.symm, e2.symm, ?_⟩
  have h2 : (dv fb rl).Perm ((.string (strB n), .pointer (some ⟨fb f, 0, none⟩)) :: dv fb (rl.erase (n, f))) := h1.map _
  have h3 := h.symm.trans h2
  rw [← e1, ← e2] at h3
  exact List.perm_cons (a := (Value.string (strB n), Value.pointer (some ⟨fb f, 0, none⟩))) |>.1 h3
theorem used_pick {files : List Fl} {rl rl' : Dir} {n : Nm} {f : Nat} (h : rl.Perm ((n, f) :: rl')) : usedOf files rl = lenOf files f + usedOf files rl' := by
  unfold usedOf
  rw [sum_perm (h.map fun p : Nm × Nat => lenOf files p.2)]
  rfl
theorem ids_pick {rl rl' : Dir} {n : Nm} {f : Nat} (h : rl.Perm ((n, f) :: rl')) (hn : (ids rl).Nodup) : (ids rl').Nodup ∧ f ∉ ids rl' ∧ ∀ i, i ∈ ids rl ↔ i = f ∨ i ∈ ids rl' := by
  have hp : (ids rl).Perm (f :: ids rl') := h.map fun p : Nm × Nat => p.2
  have h2 := (hp.nodup_iff).1 hn
  rw [List.nodup_cons] at h2
  exact ⟨h2.2, h2.1, fun i => by rw [hp.mem_iff, List.mem_cons]⟩

section
variable {w w' : World} {F : Nat → Prop} {d : Nat} {S : Dk} {G : Gh}

/-- A disk while names are taken and given: those of N have one, and they are counted. -/
structure Mid (w : World) (d : Nat) (S : Dk) (G : Gh) (now : Option Nat) (u : Nat) (N : Nat → Bool) (wr : World) : Prop where
  disk : wr.heap[d]? = some (.cells #[.int .i64 (S.room : Int), .int .i64 (u : Int), .map now, .map G.sure, G.lv, .int .i64 (S.n : Int), .bool S.cut.isSome, .int .i64 G.cv, .map G.fls] 63)
  files : ∀ i, S.known i → wr.heap[G.fb i]? = some (.cells #[G.rv i, G.sv i, .bool (N i)] 80)
  chg : Chg (fun k => k = d ∨ ∃ i, S.known i ∧ k = G.fb i) w wr
theorem Mid.file {now : Option Nat} {u : Nat} {N : Nat → Bool} {wr : World} (h : Rep w F d S G) (m : Mid w d S G now u N wr) {i : Nat} (hi : S.live i) :
    ∃ ra rc, G.rv i = .slice ra (lenOf S.files i) rc ∧ wr.heap[G.fb i]? = some (.cells #[.slice ra (lenOf S.files i) rc, G.sv i, .bool (N i)] 80) := by
  obtain ⟨x, hx⟩ : ∃ x, S.files[i]? = some x := ⟨_, List.getElem?_eq_getElem (h.ok.liveLt hi)⟩
  obtain ⟨b1, b2, b3⟩ := h.bytes i x hi hx
  obtain ⟨ra, rc, hrv⟩ := own_shape b2
  have e : lenOf S.files i = x.b.length := by simp [lenOf, hx]
  refine ⟨ra, rc, by rw [e]; exact hrv, ?_⟩
  rw [e, ← hrv]
  exact m.files i (Or.inl hi)
/-- A file loses, or gets, its name. -/
theorem Mid.name {now : Option Nat} {u u' : Nat} {N : Nat → Bool} {b : Bool} {wr w2 : World} (h : Rep w F d S G) (m : Mid w d S G now u N wr) {f : Nat} (hf : S.live f)
    (hd2 : w2.heap[d]? = some (.cells #[.int .i64 (S.room : Int), .int .i64 (u' : Int), .map now, .map G.sure, G.lv, .int .i64 (S.n : Int), .bool S.cut.isSome, .int .i64 G.cv, .map G.fls] 63))
    (hf2 : w2.heap[G.fb f]? = some (.cells #[G.rv f, G.sv f, .bool b] 80)) (hc : Chg (fun k => k = d ∨ k = G.fb f) wr w2) : Mid w d S G now u' (fun i => if i = f then b else N i) w2 where
  disk := hd2
  files i hi := by
    by_cases e : i = f
    · subst e
      rw [if_pos rfl]
      exact hf2
    · rw [if_neg e]
      refine hc.keep (m.files i hi) (fun e2 => ?_)
      rcases e2 with e2 | e2
      · exact h.ne_file hi e2.symm
      · exact e (h.inj i f hi (Or.inl hf) e2)
  chg := m.chg.then (hc.mono fun k _ e => e.elim Or.inl fun e => Or.inr ⟨f, Or.inl hf, e⟩)
theorem Mid.keep {X : Nat → Prop} {now : Option Nat} {u : Nat} {N : Nat → Bool} {wr w2 : World} (h : Rep w F d S G) (m : Mid w d S G now u N wr) (hc : Chg X wr w2) (hX : ∀ k, X k → w.heap.size ≤ k) : Mid w d S G now u N w2 where
  disk := hc.keep m.disk (fun e => Nat.not_lt_of_le (hX _ e) h.lt)
  files i hi := hc.keep (m.files i hi) (fun e => Nat.not_lt_of_le (hX _ e) (lt_of_heap (h.files i hi).2))
  chg := m.chg.trans hc (fun i hi e => absurd hi (Nat.not_lt_of_le (hX i e)))
theorem Mid.congr {now : Option Nat} {u u' : Nat} {N N' : Nat → Bool} {wr : World} (m : Mid w d S G now u N wr) (hu : u = u') (hN : ∀ i, S.known i → N i = N' i) : Mid w d S G now u' N' wr where
  disk := hu ▸ m.disk
  files i hi := hN i hi ▸ m.files i hi
  chg := m.chg
theorem Mid.size {now : Option Nat} {u : Nat} {N : Nat → Bool} {wr : World} (m : Mid w d S G now u N wr) : w.heap.size ≤ wr.heap.size := m.chg.size

theorem lens_used {S : Dk} {rl : Dir} (hn : (ids rl).Nodup) : usedOf S.files rl ≤ S.bulk := by
  have h1 := lens_le S.files (ids rl) hn
  have e : usedOf S.files rl = ((ids rl).map (lenOf S.files)).sum := by
    unfold usedOf ids
    rw [List.map_map]
    rfl
  rw [e]
  unfold Dk.bulk
  omega

set_option maxRecDepth 20000 in
set_option maxHeartbeats 1600000 in
theorem undoDir_rep (h : Rep w F d S G) {bn : Nat} (hnow : G.now = some bn) (hb : S.bulk < 1099511627776) :
    Calls Tryz.prog 105 #[.pointer (some ⟨d, 0, none⟩)] w fun e w' => e = .returned (.tuple #[]) ∧ (∃ G', Rep w' (Fx F w w') d S.undoD G') ∧ Chg F w w' := by
  obtain ⟨bs, hbs⟩ : ∃ bs, G.sure = some bs := Option.ne_none_iff_exists'.1 fun e => by
    have := h.both.2 e
    rw [hnow] at this
    cases this
  have hmn := h.now
  rw [hnow] at hmn
  have hms := h.sure
  rw [hbs] at hms
  have hd := h.disk
  unfold dcells at hd
  have x2 := cell_of hd 2
  rw [hnow] at x2
  obtain ⟨w1, hrun1, hgo1, hch1, hsz1⟩ := Goes.start hmn.2 Tryz.underlying59
  have hm0 : Mid w d S G (some bn) (usedOf S.files S.dir) (fun i => decide (i ∈ ids S.dir)) w1 :=
    ⟨hnow ▸ hch1.keep hd (fun h => h), fun i hi => hch1.keep (h.files i hi).2 (fun h => h), hch1.mono fun _ _ h => h.elim⟩
  have hnd : ∀ i, S.known i → G.fb i ≠ bn := fun i hi e => hmn.2.ne (h.files i hi).2 e
  have hnd2 : d ≠ bn := hmn.2.ne h.disk
  have HGO1 := hide hgo1
  have HM0 := hide hm0
  have H := hide h
  have HMN := hide hmn
  have HMS := hide hms
  have HND := hide hnd
  clear hgo1 hm0 h hmn hms hnd hd hch1
  go_enter Tryz.func105, Tryz.ntmps105
  go_wp2_with fail
  go_loopw [11] (fun _ wr => ∃ rl : Dir, (ids rl).Nodup ∧ (∀ i ∈ ids rl, S.live i) ∧ Goes wr bn w.heap.size (dv G.fb rl) ∧ Mid w d S G (some bn) (usedOf S.files rl) (fun i => decide (i ∈ ids rl)) wr) (fun _ wr => leftLen wr bn w.heap.size)
  case atStart => exact ⟨S.dir, H.out.ok.oneD, fun i hi => live_of_dir H.out.ok hi, HGO1.out, HM0.out⟩
  case round =>
    obtain ⟨rl, hrn, hrl, hgo, hmid⟩ := hrel
    rcases hgo.step (P := Tryz.prog) 0 with ⟨hr0, hnext⟩ | ⟨k, v, rest, w2, hperm, hnext, hentry, hgo2, hc2, hs2⟩
    · have hrl0 : rl = [] := List.map_eq_nil_iff.1 hr0
      subst hrl0
      have hu0 : usedOf S.files [] = 0 := rfl
      rw [hu0] at hmid
      have hsb : MapW wr bs (dv G.fb S.sure) := HMS.out.2.keep hmid.chg (fun e => by
        rcases e with e | ⟨i, hi, e⟩
        · exact HMS.out.2.ne H.out.disk e.symm
        · exact HMS.out.2.ne (H.out.files i hi).2 e.symm)
      have hcl := mclone_some wr bs _ hsb
      have hdm := hmid.disk
      rw [hbs] at hdm
      have y3 := cell_of hdm 3
      have HMID := hide hmid
      have HDM := hide hdm
      have HSB := hide hsb
      have hws := hgo.lt
      clear hgo hmid hr0 hrn hrl hsb hdm HGO1 HM0 x2 hrun1 hsz1
      go_wp2_with fail
      refine hcl.mono ?_
      rintro e w4 ⟨rfl, hm4, hc4⟩
      obtain ⟨cl, hcle⟩ : ∃ cl, cl = wr.heap.size := ⟨_, rfl⟩
      rw [← hcle] at hm4 hws ⊢
      have hd4 := hc4.keep HDM.out (fun h => h)
      have z2 := thawed hd4 2
      have a2 := cell_of hd4 2
      have hcd : cl ≠ d := fun e => hm4.ne hd4 e.symm
      have hm5 : MapW (w4.setCell ⟨d, 2, none⟩ (.map (some cl))) cl (dv G.fb S.sure) := hm4.keep (chg_set w4 d 2 _) hcd
      have hd5 := heap_set hd4 2 (.map (some cl))
      obtain ⟨w6, hrun6, hgo6, hch6, hsz6⟩ := Goes.start hm5 Tryz.underlying59
      have hmid6 : Mid w d S G (some cl) 0 (fun _ => false) w6 :=
        ⟨hch6.keep (hbs ▸ hd5) (fun h => h), fun i hi => hch6.keep (heap_set_other (hc4.keep (HMID.out.files i hi) (fun h => h)) (fun e => H.out.ne_file hi e.symm)) (fun h => h),
          ((HMID.out.chg.then (hc4.mono fun _ _ h => h.elim)).setCell (p := ⟨d, 2, none⟩) (Or.inl (Or.inl rfl)) _).then (hch6.mono fun _ _ h => h.elim)⟩
      have hm6 := hm5.keep hch6 (fun h => h)
      have a5 := cell_of hd5 2
      obtain ⟨r2, hr2⟩ : ∃ r2, r2 = (w4.setCell ⟨d, 2, none⟩ (.map (some cl))).heap.size := ⟨_, rfl⟩
      rw [← hr2] at hrun6 hgo6
      have hr2w : w.heap.size ≤ r2 := by
        rw [hr2]
        have h1 := HMID.out.size
        have h2 := hc4.size
        simp [World.setCell]
        omega
      have hcr : cl ≠ r2 := hgo6.ne_map
      have hclw : w.heap.size ≤ cl := by omega
      have HG6 := hide hgo6
      have HM6 := hide hm6
      have HMID6 := hide hmid6
      have HCLE := hide hcle
      clear hgo6 hm6 hmid6 hm5 hd5 hd4 hm4 hc4 hch6 HMID HDM HSB hcl y3 hr2 hcle hsz6
      go_wp2_with fail
      go_loopw [31] (fun _ wr => ∃ (rl : Dir) (u : Nat), (ids rl).Nodup ∧ (∀ i ∈ ids rl, i ∈ ids S.sure) ∧ Goes wr cl r2 (dv G.fb rl) ∧ MapW wr cl (dv G.fb S.sure) ∧ u + usedOf S.files rl = usedOf S.files S.sure ∧ Mid w d S G (some cl) u (fun i => decide (i ∈ ids S.sure ∧ i ∉ ids rl)) wr) (fun _ wr => leftLen wr cl r2)
      case atStart => exact ⟨S.sure, 0, (List.nodup_append.1 H.out.ok.one).1, fun _ h => h, HG6.out, HM6.out, Nat.zero_add _, HMID6.out.congr rfl (fun i _ => by simp)⟩
      case round =>
        obtain ⟨rl, u, hrn, hrl, hgo, hmw, huu, hmid⟩ := hrel
        rcases hgo.step (P := Tryz.prog) 0 with ⟨hr0, hnext2⟩ | ⟨k, v, rest, w7, hperm, hnext2, hentry, hgo7, hc7, hs7⟩
        · have hrl0 : rl = [] := List.map_eq_nil_iff.1 hr0
          subst hrl0
          have hu1 : u = usedOf S.files S.sure := by
            have e : usedOf S.files [] = 0 := rfl
            omega
          have hmid2 : Mid w d S G (some cl) (usedOf S.files S.sure) (fun i => decide (i ∈ ids S.sure)) wr := hmid.congr hu1 (fun i _ => decide_eq_decide.2 ⟨fun h => h.1, fun h => ⟨h, fun e => by cases e⟩⟩)
          have hlow : ∀ {o : Option Nat} {l : List (Value × Value)}, MapO w F o l → o ≠ some cl := fun {o l} hm e => by
            rw [e] at hm
            exact Nat.not_lt_of_le hclw hm.2.lt
          have hfin := H.out.finish hb (D := S.sure) (now := some cl) (sure := G.sure) (fun i hi => Or.inl hi) H.out.ok.undoD (hmid2.chg.mono fun k _ e => e.elim Or.inl fun e => Or.inr (Or.inr (Or.inr e))) hmid2.disk
            ⟨Or.inr ⟨hclw, hmw.lt⟩, hmw⟩
            (H.out.sure.keep hmid2.chg (fun b e e2 => by
              have hm := H.out.sure
              rw [e] at hm
              rcases e2 with e2 | ⟨i, hi, e2⟩
              · exact hm.2.ne H.out.disk e2.symm
              · exact hm.2.ne (H.out.files i hi).2 e2.symm) (fun _ h => Or.inl h))
            (by rw [hbs]; simp)
            (fun b e => by
              injection e with e
              subst e
              obtain ⟨l, g1, _⟩ := H.out.fails
              exact ⟨hlow H.out.sure, hlow g1⟩)
            H.out.three (fun e => by cases e) hmid2.files
          clear hmid hmid2 hgo hmw hr0 hrn hrl huu hu1 hlow
          go_wp2_with (first
            | (go_at_call 103; refine hfin.mono ?_; rintro e w8 ⟨rfl, hforget⟩)
            | (go_at_call 119; refine hforget.mono ?_; rintro e w9 ⟨rfl, q5, q6⟩))
          go_end0
          exact ⟨rfl, q5, q6⟩
        · obtain ⟨n, f, rl', hp1, rfl, rfl, hp2⟩ := dv_pick hperm
          obtain ⟨i1, i2, i3⟩ := ids_pick hp1 hrn
          have hfs : f ∈ ids S.sure := hrl f ((i3 f).2 (Or.inl rfl))
          have hlf : S.live f := Or.inl hfs
          have hm7 : Mid w d S G (some cl) u (fun i => decide (i ∈ ids S.sure ∧ i ∉ ids rl)) w7 := hmid.keep H.out hc7 (fun k e => by rw [e]; exact hr2w)
          obtain ⟨ra, rc, hrv, hfile⟩ := hm7.file H.out hlf
          have hup := used_pick (files := S.files) hp1
          have hul := lens_used (S := S) (rl := S.sure) (List.nodup_append.1 H.out.ok.one).1
          have hlen := hgo.len
          have hdf : d ≠ G.fb f := H.out.ne_file (Or.inl hlf)
          have hflt := lt_of_heap (H.out.files f (Or.inl hlf)).2
          have hdlt := H.out.lt
          have hne1 : ¬ (cl = d ∨ cl = G.fb f) := fun e => by rcases e with e | e <;> omega
          have hne2 : ¬ (r2 = d ∨ r2 = G.fb f) := fun e => by rcases e with e | e <;> omega
          have hd7 := hm7.disk
          have b0 := cell_of hfile 0
          have b2 := cell_of hfile 2
          have t2 := thawed hfile 2
          have HF7 := hide hfile
          have HD7 := hide hd7
          have HLEN := hide hlen
          have HM7 := hide hm7
          have HMW := hide (hmw.keep hc7 hcr)
          have HGO := hide (hgo7.perm hp2)
          have HUP := hide hup
          have HPL := hide hp1.length_eq
          have HUU := hide huu
          have hle : u + lenOf S.files f < 1099511627776 := by omega
          clear hlen hm7 hgo7 hgo hmid hfile hperm hp2 hup hmw hd7 huu
          go_wp2_with fail
          have hcA : Chg (fun k => k = d ∨ k = G.fb f) w7 (w7.setCell ⟨G.fb f, 2, none⟩ (.bool true)) := (Chg.refl _ _).setCell (p := ⟨G.fb f, 2, none⟩) (Or.inl (Or.inr rfl)) _
          have hdA := heap_set_other (p := ⟨G.fb f, 2, none⟩) (u := .bool true) HD7.out hdf
          have hfA := heap_set HF7.out 2 (.bool true)
          generalize w7.setCell ⟨G.fb f, 2, none⟩ (.bool true) = wA at *
          have c0 := cell_of hfA 0
          have c1 := cell_of hdA 1
          have s1 := thawed hdA 1
          have HFA := hide hfA
          have HDA := hide hdA
          have HCA := hide hcA
          clear hfA hdA hcA
          go_region
          have hB : Chg (fun k => k = d ∨ k = G.fb f) w7 (wA.setCell ⟨d, 1, none⟩ (.int .i64 ((u : Int) + (lenOf S.files f : Int)))).drew := (HCA.out.setCell (p := ⟨d, 1, none⟩) (Or.inl (Or.inl rfl)) _).drew
          have hdB : (wA.setCell ⟨d, 1, none⟩ (.int .i64 ((u : Int) + (lenOf S.files f : Int)))).drew.heap[d]? = _ := heap_set HDA.out 1 (.int .i64 ((u : Int) + (lenOf S.files f : Int)))
          have hfB : (wA.setCell ⟨d, 1, none⟩ (.int .i64 ((u : Int) + (lenOf S.files f : Int)))).drew.heap[G.fb f]? = _ := heap_set_other (p := ⟨d, 1, none⟩) (u := .int .i64 ((u : Int) + (lenOf S.files f : Int))) HFA.out (fun e => hdf e.symm)
          generalize (wA.setCell ⟨d, 1, none⟩ (.int .i64 ((u : Int) + (lenOf S.files f : Int)))).drew = wB at *
          have HB := hide hB
          have HDB := hide hdB
          have HFB := hide hfB
          have hgo8 := HGO.out.keep HB.out hne1 hne2
          have HG8 := hide hgo8
          clear hB hdB hfB hgo8
          go_wp2_with fail
          go_roundw
          case rel =>
            refine ⟨rl', u + lenOf S.files f, i1, fun i hi => hrl i ((i3 i).2 (Or.inr hi)), HG8.out, HMW.out.keep HB.out hne1, ?_, (HM7.out.name H.out hlf (u' := u + lenOf S.files f) (b := true) ?_ ?_ HB.out).congr rfl (fun i _ => ?_)⟩
            · have := HUU.out
              have := HUP.out
              omega
            · exact HDB.out
            · rw [hrv]
              exact HFB.out
            · by_cases e : i = f
              · subst e
                simp [i2, hfs]
              · simp [e, i3]
          case measure =>
            rw [HG8.out.len, HLEN.out]
            have := HPL.out
            simp [dv, this]
    · obtain ⟨n, f, rl', hp1, rfl, rfl, hp2⟩ := dv_pick hperm
      obtain ⟨i1, i2, i3⟩ := ids_pick hp1 hrn
      have hlf : S.live f := hrl f ((i3 f).2 (Or.inl rfl))
      have hm2 : Mid w d S G (some bn) (usedOf S.files rl) (fun i => decide (i ∈ ids rl)) w2 := hmid.keep H.out hc2 (fun k e => Nat.le_of_eq e.symm)
      obtain ⟨ra, rc, hrv, hfile⟩ := hm2.file H.out hlf
      have hup := used_pick (files := S.files) hp1
      have hul := lens_used (S := S) hrn
      have hun := unname_any w2 d (G.fb f) (lenOf S.files f) rc ra _ _ _ _ _ _ _ _ _ _ ((usedOf S.files rl : Nat) : Int) hm2.disk hfile (by omega) (by omega)
      have hlen := hgo.len
      have hne1 : ¬ (bn = d ∨ bn = G.fb f) := fun e => e.elim (fun e => hnd2 e.symm) (fun e => HND.out f (Or.inl hlf) e.symm)
      have hne2 : ¬ (w.heap.size = d ∨ w.heap.size = G.fb f) := fun e => e.elim (fun e => Nat.ne_of_gt H.out.lt e) (fun e => Nat.ne_of_gt (lt_of_heap (H.out.files f (Or.inl hlf)).2) e)
      have hgo3 := hgo2.perm hp2
      have hpl := hp1.length_eq
      have HLEN := hide hlen
      have HM2 := hide hm2
      have HGO := hide hgo3
      have HUP := hide hup
      clear hlen hm2 hgo2 hgo3 hgo hmid hfile hperm hp2 hup
      go_wp2_with (go_at_call 80; refine hun.mono ?_; rintro e w3 ⟨rfl, u1, u2, u3, _⟩; have HU1 := hide u1; have HU2 := hide u2; have HU3 := hide u3; clear u1 u2 u3)
      have hgo4 := HGO.out.keep HU3.out hne1 hne2
      go_roundw
      case rel =>
        refine ⟨rl', i1, fun i hi => hrl i ((i3 i).2 (Or.inr hi)), hgo4, (HM2.out.name H.out hlf (u' := usedOf S.files rl') (b := false) ?_ ?_ HU3.out).congr rfl (fun i _ => ?_)⟩
        · have e : (usedOf S.files rl : Int) - (lenOf S.files f : Int) = ((usedOf S.files rl' : Nat) : Int) := by rw [HUP.out]; omega
          rw [← e]
          exact HU1.out
        · rw [hrv]
          exact HU2.out
        · by_cases e : i = f
          · subst e
            simp [i2]
          · simp [e, i3]
      case measure =>
        rw [hgo4.len, HLEN.out]
        simp [dv, hpl]
end
end Go.Proofs.YthjcimgollfmgaaGreatDoor

/-
  What SyncDir answers, and does. Condition: a disk within bounds.
-/
namespace Go.Proofs.YthjcimgollfmgaaGreatDoor
open Go.RowKit

section
variable {w w' : World} {F : Nat → Prop} {d : Nat} {S : Dk} {G : Gh}

set_option maxRecDepth 20000 in
set_option maxHeartbeats 400000 in
/-- SyncDir. -/
theorem syncDir_rep (h : Rep w F d S G) (hb : S.bulk + 1 < 1099511627776) : Calls Tryz.prog 83 #[.pointer (some ⟨d, 0, none⟩)] w fun e w' => e = .returned (.int .i64 S.syncDir.2) ∧ ∃ G', Rep w' (Fx F w w') d S.syncDir.1 G' ∧ Chg F w w' := by
  have hnl := n_le S
  have hbb := bulk_next S
  unfold Dk.syncDir
  by_cases hon : S.on = false
  · simp only [if_pos hon]
    have hbeg := beginOff_rep h hon
    go_enter Tryz.func83, Tryz.ntmps83
    go_wp2_with (go_at_call 73; refine hbeg.mono ?_; rintro e w1 ⟨rfl, hr1, hc1⟩)
    go_ret
    exact ⟨rfl, G, hr1.mono fun k hk => Or.inl hk, hc1.mono fun _ _ f => f.elim⟩
  simp only [if_neg hon]
  have hon' : S.on = true := by simpa using hon
  have hbeg := beginOn_rep0 h hon' (by omega)
  by_cases hf : S.fails S.n = true
  · simp only [if_pos hf]
    rw [hf] at hbeg
    have hun : ∀ {w1 : World} {G' : Gh}, Rep w1 (Fx F w w1) d S.next G' → G'.now ≠ none → _ := fun {w1 G'} hr hne => undoDir_rep hr (Option.ne_none_iff_exists'.1 hne).choose_spec (by omega)
    go_enter Tryz.func83, Tryz.ntmps83
    go_wp2_with (first
      | (go_at_call 73; refine hbeg.mono ?_; rintro e w1 ⟨rfl, now, sure, hne, hr1, hc1⟩)
      | (go_at_call 105; refine (hun hr1 hne).mono ?_; rintro e w2 ⟨rfl, ⟨G2, hr2⟩, hc2⟩))
    go_ret
    exact ⟨rfl, G2, hr2.mono (Fx.trans hc1.size hc2.size), hc1.fx hc2⟩
  · simp only [if_neg hf]
    rw [show S.fails S.n = false by simpa using hf] at hbeg
    have hun : ∀ {w1 : World} {G' : Gh}, Rep w1 (Fx F w w1) d S.next G' → _ := fun {w1 G'} hr => keepDir_rep hr (by omega)
    go_enter Tryz.func83, Tryz.ntmps83
    go_wp2_with (first
      | (go_at_call 73; refine hbeg.mono ?_; rintro e w1 ⟨rfl, now, sure, hne, hr1, hc1⟩)
      | (go_at_call 106; refine (hun hr1).mono ?_; rintro e w2 ⟨rfl, ⟨G2, hr2⟩, hc2⟩))
    go_ret
    exact ⟨rfl, G2, hr2.mono (Fx.trans hc1.size hc2.size), hc1.fx hc2⟩
end
end Go.Proofs.YthjcimgollfmgaaGreatDoor

/-
  maps.Copy of a directory into an empty one. Conditions: what lies there is told by hypotheses.
-/
namespace Go.Proofs.YthjcimgollfmgaaGreatDoor
open Go.RowKit

set_option maxRecDepth 20000 in
theorem mcopy_nil (w : World) (c : Nat) : Calls Tryz.prog 33 #[.map (some c), .map none] w fun e w' => e = .returned (.tuple #[]) ∧ Chg (fun _ => False) w w' := by
  have hrg := run_range_nilMap (P := Tryz.prog) w 59 _ _ Tryz.underlying59
  have hnx : ∀ ty, (Instr.next (.pointer (some ⟨w.heap.size, 0, none⟩)) false ty).run Tryz.prog (w.alloc (.mapIter none 0 #[] 0)) = _ := fun ty => run_next_nilMap w ty 0 0 #[]
  go_enter Tryz.func33, Tryz.ntmps33
  go_wp2_with fail
  go_loopw [8] (fun _ wr => wr = w.alloc (.mapIter none 0 #[] 0)) (fun _ _ => 0)
  case atStart => rfl
  case round =>
    subst hrel
    go_wp2
    go_end0
    exact ⟨rfl, (Chg.refl _ w).alloc _⟩

set_option maxRecDepth 20000 in
set_option maxHeartbeats 400000 in
theorem mcopy_some (w : World) (b c : Nat) (fb : Nat → Nat) (l : Dir) (hs : Sorted l) (h : MapW w b (dv fb l)) (hc : MapW w c []) (hbc : b ≠ c) :
    Calls Tryz.prog 33 #[.map (some c), .map (some b)] w fun e w' => e = .returned (.tuple #[]) ∧ MapW w' c (dv fb l) ∧ Chg (· = c) w w' := by
  obtain ⟨w1, hrun1, hgo1, hch1, hsz1⟩ := Goes.start h Tryz.underlying59
  have hcl := hc.lt
  have hc1 := hc.keep hch1 (fun h => h)
  have HGO1 := hide hgo1
  have HC1 := hide hc1
  have HCH1 := hide hch1
  clear hgo1 hc1 hch1 h hc
  go_enter Tryz.func33, Tryz.ntmps33
  go_wp2_with fail
  go_loopw [8] (fun _ wr => ∃ rl dl : Dir, (dl ++ rl).Perm l ∧ Goes wr b w.heap.size (dv fb rl) ∧ MapW wr c (dv fb dl) ∧ Chg (· = c) w wr) (fun _ wr => leftLen wr b w.heap.size)
  case atStart => exact ⟨l, [], List.Perm.refl _, HGO1.out, HC1.out, HCH1.out.mono fun _ _ h => h.elim⟩
  case round =>
    obtain ⟨rl, dl, hpl, hgo, hmw, hcg⟩ := hrel
    rcases hgo.step (P := Tryz.prog) 0 with ⟨hr0, hnext⟩ | ⟨k, v, rest, w2, hperm, hnext, hentry, hgo2, hc2, hs2⟩
    · have hrl0 : rl = [] := List.map_eq_nil_iff.1 hr0
      subst hrl0
      rw [List.append_nil] at hpl
      have HM := hide (hmw.perm (hpl.map fun p : Nm × Nat => (Value.string (strB p.1), Value.pointer (some ⟨fb p.2, 0, none⟩))))
      have HC := hide hcg
      clear hgo hmw hcg hr0 hpl
      go_wp2
      go_end0
      exact ⟨rfl, HM.out, HC.out⟩
    · obtain ⟨n, f, rl', hp1, rfl, rfl, hp2⟩ := dv_pick hperm
      have hne : look dl n = none := look_none_of fun p hp e => by
        have h1 : (dl ++ rl).Perm (dl ++ ((n, f) :: rl')) := hp1.append_left dl
        have h2 := ((hpl.symm.trans h1).map fun p : Nm × Nat => p.1).nodup_iff.1 (sorted_keys hs)
        rw [List.map_append, List.nodup_append] at h2
        exact h2.2.2 p.1 (List.mem_map.2 ⟨p, hp, rfl⟩) n (by simp) e
      have hm2 := hmw.keep hc2 (fun e => by omega)
      obtain ⟨w3, hput, hm3, hc3, _⟩ := hm2.put_new (kstr w2) (dv_keys fb dl) Tryz.underlying59 ⟨_, rfl⟩ (dv_ne hne) (.pointer (some ⟨fb f, 0, none⟩))
      have hlen := hgo.len
      have hgo3 := (hgo2.perm hp2).keep hc3 hbc (fun e => by omega)
      have hm3' := hm3.perm (show ((Value.string (strB n), Value.pointer (some ⟨fb f, 0, none⟩)) :: dv fb dl).Perm (dv fb ((n, f) :: dl)) from List.Perm.refl _)
      have HM := hide hm3'
      have HG := hide hgo3
      have HC := hide ((hcg.trans hc2 (fun i hi e => absurd hi (by omega))).then hc3)
      have HL := hide hlen
      have HPL : Hid (((n, f) :: dl ++ rl').Perm l) := hide ((List.perm_middle.symm.trans (hp1.symm.append_left dl)).trans hpl)
      have HP := hide hp1.length_eq
      clear hm3' hm3 hgo3 hcg hc2 hc3 hlen hpl hp1 hgo hgo2 hmw hm2 hperm hp2
      go_wp2_with fail
      go_roundw
      case rel => exact ⟨rl', (n, f) :: dl, HPL.out, HG.out, HM.out, HC.out⟩
      case measure =>
        rw [HG.out.len, HL.out]
        have := HP.out
        simp [dv, this]
end Go.Proofs.YthjcimgollfmgaaGreatDoor

/-
  A disk that is laid anew, file by file. No condition.
-/
namespace Go.Proofs.YthjcimgollfmgaaGreatDoor
open Go.RowKit

def sumQ (q : Nat → Nat) (l : Dir) : Nat := (l.map fun p => q p.2).sum
/-- In wr lies a disk that was not there in w: the files of dl, each with its bytes. -/
structure New (w : World) (d2 nm : Nat) (room : Int) (sure : Option Nat) (fb : Nat → Nat) (rv : Nat → Value) (q : Nat → Nat) (cut : Nat → List UInt8) (dl : Dir) (wr : World) : Prop where
  disk : wr.heap[d2]? = some (.cells #[.int .i64 room, .int .i64 ((sumQ q dl : Nat) : Int), .map (some nm), .map sure, .slice none 0 0, .int .i64 0, .bool false, .int .i64 0, .map none] 63)
  map : MapW wr nm (dv fb dl)
  files : ∀ i ∈ ids dl, w.heap.size ≤ fb i ∧ wr.heap[fb i]? = some (.cells #[rv i, .int .i64 (q i : Int), .bool true] 80)
  inj : ∀ i ∈ ids dl, ∀ j ∈ ids dl, fb i = fb j → i = j
  rows : ∀ i ∈ ids dl, wr.ownsRow 0 5 1 (rv i) (q i) (bc (cut i)) ∧ ∀ k, (rv i).ownBlock = some k → w.heap.size ≤ k
  apart : ∀ i ∈ ids dl, ∀ j ∈ ids dl, ∀ k, (rv i).ownBlock = some k → (rv j).ownBlock = some k → i = j
  chg : Chg (fun _ => False) w wr
  newD : w.heap.size ≤ d2
  newM : w.heap.size ≤ nm

section
variable {w wr wr' : World} {d2 nm : Nat} {room : Int} {sure : Option Nat} {fb : Nat → Nat} {rv : Nat → Value} {q : Nat → Nat} {cut : Nat → List UInt8} {dl : Dir}
/-- It stays while none of its blocks is written. -/
theorem New.keep {X : Nat → Prop} (h : New w d2 nm room sure fb rv q cut dl wr) (hc : Chg X wr wr') (hX : ∀ k, X k → w.heap.size ≤ k) (h1 : ¬ X d2) (h2 : ¬ X nm) (h3 : ∀ k c t, wr.heap[k]? = some (.cells c t (0, 0)) → t = 80 ∨ t = 5 → ¬ X k) : New w d2 nm room sure fb rv q cut dl wr' where
  disk := hc.keep h.disk h1
  map := h.map.keep hc h2
  files i hi := ⟨(h.files i hi).1, hc.keep (h.files i hi).2 (h3 _ _ _ (h.files i hi).2 (Or.inl rfl))⟩
  inj := h.inj
  rows i hi := ⟨own_keep (h.rows i hi).1 hc (fun k hk => by
    obtain ⟨cur, hcur⟩ := own_block (h.rows i hi).1 hk
    exact h3 _ _ _ hcur (Or.inr rfl)), (h.rows i hi).2⟩
  apart := h.apart
  chg := h.chg.trans hc (fun i hi e => absurd hi (Nat.not_lt_of_le (hX i e)))
  newD := h.newD
  newM := h.newM

/-- One more file. -/
theorem New.add (h : New w d2 nm room sure fb rv q cut dl wr) {n : Nm} {f : Nat} (hf : f ∉ ids dl) {v : Value} {wb wc : World} (hb : Below wr.heap.size wr wb) (hv : wb.ownsRow wr.heap.size 5 1 v (q f) (bc (cut f)))
    (hm : MapW wc nm ((.string (strB n), .pointer (some ⟨wb.heap.size, 0, none⟩)) :: dv fb dl)) (hc : Chg (· = nm) (wb.alloc (.cells #[v, .int .i64 (q f : Int), .bool true] 80)) wc) :
    New w d2 nm room sure (upd fb f wb.heap.size) (upd rv f v) q cut ((n, f) :: dl) (wc.setCell ⟨d2, 1, none⟩ (.int .i64 ((sumQ q dl : Int) + (q f : Int)))) := by
  have hbs := hb.size
  have hws := h.chg.size
  have h1 : Chg (fun _ => False) wr wb := (Chg.of_below hb).mono fun k hk e => absurd hk (Nat.not_lt_of_le e)
  have h2 : Chg (fun _ => False) wr (wb.alloc (.cells #[v, .int .i64 (q f : Int), .bool true] 80)) := h1.alloc _
  have h3 : Chg (· = nm) wr wc := (h2.mono fun _ _ e => e.elim).then hc
  have h4 : Chg (fun k => k = nm ∨ k = d2) wr (wc.setCell ⟨d2, 1, none⟩ (.int .i64 ((sumQ q dl : Int) + (q f : Int)))) := Chg.setCell (F := fun k => k = nm ∨ k = d2) (h3.mono fun _ _ e => Or.inl e) (p := ⟨d2, 1, none⟩) (Or.inl (Or.inr rfl)) _
  have hdn : d2 ≠ nm := h.map.ne h.disk
  have hdc := h3.keep h.disk hdn
  have hfn := heap_last wb (.cells #[v, .int .i64 (q f : Int), .bool true] 80)
  have hlm := h.map.lt
  have hld := lt_of_heap h.disk
  have hfc := hc.keep hfn (by omega)
  have e1 : ∀ i ∈ ids ((n, f) :: dl), i = f ∨ i ∈ ids dl := fun i hi => List.mem_cons.1 hi
  have enf : ∀ i ∈ ids dl, i ≠ f := fun i hi e => hf (e ▸ hi)
  have hnX : ∀ k c t, wr.heap[k]? = some (.cells c t (0, 0)) → t = 80 ∨ t = 5 → ¬ (k = nm ∨ k = d2) := fun k c t hk ht e => by
    rcases e with rfl | rfl
    · exact h.map.ne hk rfl
    · rcases ht with rfl | rfl
      · exact ne_tag hk h.disk (show 80 ≠ 63 by decide) rfl
      · exact ne_tag hk h.disk (show 5 ≠ 63 by decide) rfl
  have hvb : ∀ k, v.ownBlock = some k → wr.heap.size ≤ k ∧ k < wb.heap.size := fun k hk => by
    rcases hv.2 with ⟨rfl, _⟩ | ⟨g, cap, cur, rfl, a1, a2, _⟩
    · cases hk
    · injection hk with hk
      subst hk
      exact ⟨a1, lt_of_heap a2⟩
  refine ⟨?_, ?_, fun i hi => ?_, fun i hi j hj e => ?_, fun i hi => ?_, fun i hi j hj k e2 e3 => ?_, ?_, h.newD, h.newM⟩
  · have := heap_set hdc 1 (.int .i64 ((sumQ q dl : Int) + (q f : Int)))
    rw [this]
    have e : ((sumQ q ((n, f) :: dl) : Nat) : Int) = (sumQ q dl : Int) + (q f : Int) := by
      unfold sumQ
      simp
      omega
    rw [e]
    rfl
  · have e : dv (upd fb f wb.heap.size) ((n, f) :: dl) = (.string (strB n), .pointer (some ⟨wb.heap.size, 0, none⟩)) :: dv fb dl := by
      unfold dv
      rw [List.map_cons, upd_same]
      congr 1
      refine List.map_congr_left fun p hp => ?_
      rw [upd_other _ _ (enf p.2 (List.mem_map.2 ⟨p, hp, rfl⟩))]
    rw [e]
    exact hm.keep (chg_set wc d2 1 _) (fun e => hdn e.symm)
  · rcases e1 i hi with rfl | hi'
    · rw [upd_same, upd_same]
      exact ⟨by omega, heap_set_other hfc (show wb.heap.size ≠ d2 by omega)⟩
    · rw [upd_other _ _ (enf i hi'), upd_other _ _ (enf i hi')]
      obtain ⟨g1, g2⟩ := h.files i hi'
      exact ⟨g1, h4.keep g2 (hnX _ _ _ g2 (Or.inl rfl))⟩
  · rcases e1 i hi with rfl | hi' <;> rcases e1 j hj with rfl | hj'
    · rfl
    · rw [upd_same, upd_other _ _ (enf j hj')] at e
      have := lt_of_heap (h.files j hj').2
      omega
    · rw [upd_same, upd_other _ _ (enf i hi')] at e
      have := lt_of_heap (h.files i hi').2
      omega
    · rw [upd_other _ _ (enf i hi'), upd_other _ _ (enf j hj')] at e
      exact h.inj i hi' j hj' e
  · rcases e1 i hi with rfl | hi'
    · rw [upd_same]
      refine ⟨ownsRow_base_le (own_keep (own_keep (hv.alloc _) hc (fun k hk e => ?_)) (chg_set wc d2 1 _) (fun k hk e => ?_)) (Nat.zero_le _), fun k hk => Nat.le_trans hws (hvb k hk).1⟩
      · have := hvb k hk
        omega
      · have := hvb k hk
        omega
    · rw [upd_other _ _ (enf i hi')]
      obtain ⟨g1, g2⟩ := h.rows i hi'
      refine ⟨own_keep g1 h4 (fun k hk => ?_), g2⟩
      obtain ⟨cur, hcur⟩ := own_block g1 hk
      exact hnX _ _ _ hcur (Or.inr rfl)
  · have old : ∀ i ∈ ids dl, ∀ k, (rv i).ownBlock = some k → k < wr.heap.size := fun i hi k hk => by
      obtain ⟨cur, hcur⟩ := own_block (h.rows i hi).1 hk
      exact lt_of_heap hcur
    rcases e1 i hi with rfl | hi' <;> rcases e1 j hj with rfl | hj'
    · rfl
    · rw [upd_same] at e2
      rw [upd_other _ _ (enf j hj')] at e3
      have := (hvb k e2).1
      have := old j hj' k e3
      omega
    · rw [upd_same] at e3
      rw [upd_other _ _ (enf i hi')] at e2
      have := (hvb k e3).1
      have := old i hi' k e2
      omega
    · rw [upd_other _ _ (enf i hi')] at e2
      rw [upd_other _ _ (enf j hj')] at e3
      exact h.apart i hi' j hj' k e2 e3
  · exact h.chg.trans h4 (fun i hi e => by
      have := h.newD
      have := h.newM
      rcases e with e | e <;> omega)
end
end Go.Proofs.YthjcimgollfmgaaGreatDoor
