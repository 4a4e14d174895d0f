/-
  What making the directory's acts sure does: keepDir. Condition: a disk within bounds.
-/
import Derived.Test.YtbedacdakmcfpaaDirEnd
namespace Go.Proofs.Ytbedacdakmcfpaa
open Go.RowKit

section
variable {w w' : World} {F : Nat → Prop} {d : Nat} {S : Dk} {G : Gh}

theorem ActW.dir {fb : Nat → Nat} {a : Ac} {o v : Value} (hm : isMore a = false) (h : ActW w F fb a (o, v)) :
    o = .pointer none ∧ ∃ c u, v = .func (.func 68) #[] #[.pointer (some ⟨c, 0, none⟩)] ∧ w.heap[c]? = some (.cells #[u] 87) ∧ DoW w F fb a u := by
  cases a with
  | more f k => simp [isMore] at hm
  | made n f => obtain ⟨h1, c, u, h2, _, h3, h4⟩ := h; exact ⟨h1, c, u, h2, h3, h4⟩
  | ren a b => obtain ⟨h1, c, u, h2, _, h3, h4⟩ := h; exact ⟨h1, c, u, h2, h3, h4⟩
  | rem n => obtain ⟨h1, c, u, h2, _, h3, h4⟩ := h; exact ⟨h1, c, u, h2, h3, h4⟩
theorem app_take {l : Dir} {ls : List Ac} {k : Nat} {a : Ac} (h : ls[k]? = some a) : appD l (ls.take (k + 1)) = doneD (appD l (ls.take k)) a := by
  rw [List.take_add_one, h, appD_append]
  rfl
theorem valid_take {l : Dir} {ls : List Ac} (hv : Valid l ls) {k : Nat} {a : Ac} (h : ls[k]? = some a) : Valid l (ls.take k) ∧ canD (appD l (ls.take k)) a := by
  have h1 : ls = ls.take (k + 1) ++ ls.drop (k + 1) := (List.take_append_drop _ _).symm
  rw [h1] at hv
  have h2 := (valid_append.1 hv).1
  rw [List.take_add_one, h] at h2
  have h3 := valid_append.1 h2
  exact ⟨h3.1, h3.2.1⟩
theorem done_more {l : Dir} {a : Ac} (h : isMore a = true) : doneD l a = l := by
  cases a <;> first | rfl | simp [isMore] at h

set_option maxRecDepth 20000 in
set_option maxHeartbeats 800000 in
theorem keepDir_rep (h : Rep w F d S G) (hb : S.bulk < 1099511627776) :
    Calls Try.prog 53 #[.pointer (some ⟨d, 0, none⟩)] w fun e w' => e = .returned (.tuple #[]) ∧ (∃ G', Rep w' (Fx F w w') d S.keepD G') ∧ Chg F w w' := by
  have hd := h.disk
  unfold dcells at hd
  obtain ⟨a, cap, hlv⟩ := own_shape h.row
  obtain ⟨n, hn⟩ : ∃ n, n = G.vs.length := ⟨_, rfl⟩
  have hna : S.acts.length = n := by rw [hn, h.many]
  have hal := acts_le S
  rw [← hn] at hlv
  have hd' := hd
  rw [hlv] at hd'
  have x4 := cell_of hd' 4
  have hsd : ∀ bs, G.sure = some bs → bs ≠ d := fun bs e ee => by
    have := h.sure
    rw [e] at this
    exact this.2.ne h.disk ee.symm
  have hsr : ∀ bs, G.sure = some bs → G.lv.ownBlock ≠ some bs := fun bs e ee => by
    have := h.sure
    rw [e] at this
    obtain ⟨cur, hcur⟩ := own_block h.row ee
    exact this.2.ne hcur rfl
  have hrow := h.row
  rw [hlv, ← hn] at hrow
  have hsp : Spares w (fun k => some k = G.sure) := by
    intro k x t h1 h2 e
    have hm := h.sure
    rw [← e] at hm
    exact spares_map hm.2 k x t h1 h2 rfl
  have H := hide h
  have HD := hide hd
  have HHD := hide hd'
  have HROW := hide hrow
  have HSD := hide hsd
  have HSR := hide hsr
  have HSP := hide hsp
  have HN := hide hn
  clear h hd hd' hrow hsd hsr hsp hn
  go_enter Try.func53, Try.ntmps53
  go_wp2_with fail
  go_loopw [9] (fun x wr => ∃ k : Nat, k ≤ n ∧ x = .int .i64 (k : Int) ∧ Chg (fun j => some j = G.sure) w wr ∧ ∀ bs, G.sure = some bs → MapW wr bs (dv G.fb (appD S.sure (S.acts.take k)))) (fun x _ => n - (intOf x).toNat)
  case atStart =>
    refine ⟨0, Nat.zero_le _, rfl, Chg.refl _ _, fun bs e => ?_⟩
    have := H.out.sure
    rw [e] at this
    exact this.2
  case round =>
    obtain ⟨k, hk, rfl, hc, hmap⟩ := hrel
    by_cases hlt : k < n
    · obtain ⟨p, hpk⟩ : ∃ p, G.vs[k]? = some p := ⟨_, List.getElem?_eq_getElem (by rw [← HN.out]; exact hlt)⟩
      obtain ⟨ac, hak⟩ : ∃ ac, S.acts[k]? = some ac := ⟨_, List.getElem?_eq_getElem (by omega)⟩
      obtain ⟨o, v⟩ := p
      obtain ⟨bs, hbs⟩ : ∃ bs, G.sure = some bs := by
        refine Option.ne_none_iff_exists'.1 fun e => ?_
        have e2 := H.out.bare (H.out.both.2 e)
        rw [e2] at hna
        simp at hna
        omega
      have hrr := own_keep HROW.out hc (fun j hj e => HSR.out j e.symm (by rw [hlv]; exact hj))
      obtain ⟨g, hg⟩ : ∃ g, a = some ⟨g, 0, none⟩ := by
        rcases hrr.2 with ⟨e1, e2⟩ | ⟨g, cap, cur, e1, _⟩
        · omega
        · injection e1 with e1
          exact ⟨g, e1⟩
      subst hg
      have hnl := HN.out
      have z0 := hrr.cellAt (k * 2) (by omega)
      have z1 := hrr.cellAt (k * 2 + 1) (by omega)
      rw [(vc_get hpk).1] at z0
      rw [(vc_get hpk).2] at z1
      clear hnl
      have hw := (H.out.actsKeep hc HSP.out (F' := F) (fun _ h => h)) k ac (o, v) hak hpk
      obtain ⟨hv1, hv2⟩ := valid_take H.out.ok.valid hak
      by_cases hm : isMore ac = true
      · have ho : ∃ b, o = .pointer (some ⟨b, 0, none⟩) := by
          rcases hw.first with ⟨h1, h2⟩ | ⟨f, j, h1, h2⟩
          · rw [hm] at h1
            cases h1
          · exact ⟨_, h2⟩
        obtain ⟨fb, rfl⟩ := ho
        obtain ⟨fn, fs, fc, hfv⟩ := hw.second
        simp only at hfv
        subst hfv
        have HC := hide hc
        have HM := hide hmap
        clear hc hmap hrr hw
        go_wp2_with fail
        go_roundw
        case rel =>
          refine ⟨k + 1, by omega, by go_num, HC.out.alloc _, fun bs e => ?_⟩
          rw [app_take hak, done_more hm]
          exact (HM.out bs e).keep ((Chg.refl (fun _ => False) _).alloc _) (fun h => h)
        case measure => simp [intOf]; omega
      · obtain ⟨ho, c, u, hv, hcc, hdo⟩ := hw.dir (by simpa using hm)
        subst ho hv
        have hA : Chg (fun _ => False) wr (wr.alloc (.cells #[.pointer none, .func (.func 68) #[] #[.pointer (some ⟨c, 0, none⟩)]] 104)).drew := ((Chg.refl _ _).alloc _).drew
        have hdr := hA.keep (hc.keep HHD.out (fun e => HSD.out d e.symm rfl)) (fun h => h)
        have y3 := cell_of hdr 3
        rw [hbs] at y3
        have hnb : (wr.alloc (.cells #[.pointer none, .func (.func 68) #[] #[.pointer (some ⟨c, 0, none⟩)]] 104)).drew.heap[wr.heap.size]? = _ := heap_last wr _
        have y1 := cell_of hnb 1
        have hcall := dirDo_any _ bs c (.map none) 0 u F G.fb _ ac (sorted_app H.out.ok.sortS hv1) ((hmap bs hbs).keep hA (fun h => h)) hv2 (hdo.keep hA (fun _ _ _ _ _ _ h => h) (fun _ h => h) (fun _ _ => rfl)) (hA.keep hcc (fun h => h))
        have hbd : d ≠ bs := fun e => HSD.out bs hbs e.symm
        have hbw : wr.heap.size ≠ bs := Nat.ne_of_gt (hmap bs hbs).lt
        have HC := hide hc
        have HA := hide hA
        have HNB := hide hnb
        have HDR := hide hdr
        clear hc hmap hrr hw hA hnb hdr hdo hcc
        go_wp2_with fail
        refine wp_region_held_drew (S := fun W => W.cell? ⟨wr.heap.size, 1, none⟩ = some (.func (.func 68) #[] #[.pointer (some ⟨c, 0, none⟩)]) ∧ W.cell? ⟨d, 3, none⟩ = some (.map (some bs))) (by kernel_rfl) (⟨y1, y3⟩) (fun hHeld => ?_)
        refine takeH (i := 0) (v := ?_) rfl (by kernel_rfl) (by kernel_rfl) (by kernel_rfl) (fun _ _ _ h => h) rfl ?_ hHeld ?_
        rotate_left
        · intro w hS; (try dsimp only at hS); obtain ⟨hS0, hS1⟩ := hS; go_simp; first | done | (with_reducible rfl)
        try simp only [Act.put, List.setIfInBounds_toArray, List.set_cons_zero, List.set_cons_succ]
        refine takeH (i := 1) (v := ?_) rfl (by kernel_rfl) (by kernel_rfl) (by kernel_rfl) (fun _ _ _ h => h) rfl ?_ hHeld ?_
        rotate_left
        · intro w hS; (try dsimp only at hS); obtain ⟨hS0, hS1⟩ := hS; go_simp; first | done | (with_reducible rfl)
        try simp only [Act.put, List.setIfInBounds_toArray, List.set_cons_zero, List.set_cons_succ]
        refine takeH (i := 2) (v := ?_) rfl (by kernel_rfl) (by kernel_rfl) (by kernel_rfl) (fun _ _ _ h => h) rfl ?_ hHeld ?_
        rotate_left
        · intro w hS; (try dsimp only at hS); obtain ⟨hS0, hS1⟩ := hS; go_simp; first | done | (with_reducible rfl)
        try simp only [Act.put, List.setIfInBounds_toArray, List.set_cons_zero, List.set_cons_succ]
        refine takeH (i := 3) (v := ?_) rfl (by kernel_rfl) (by kernel_rfl) (by kernel_rfl) (fun _ _ _ h => h) rfl ?_ hHeld ?_
        rotate_left
        · intro w hS; (try dsimp only at hS); obtain ⟨hS0, hS1⟩ := hS; go_simp; first | done | (with_reducible rfl)
        try simp only [Act.put, List.setIfInBounds_toArray, List.set_cons_zero, List.set_cons_succ]
        refine takeH (i := 4) (v := ?_) rfl (by kernel_rfl) (by kernel_rfl) (by kernel_rfl) (fun _ _ _ h => h) rfl ?_ hHeld ?_
        rotate_left
        · intro w hS; (try dsimp only at hS); obtain ⟨hS0, hS1⟩ := hS; go_simp; first | done | (with_reducible rfl)
        try simp only [Act.put, List.setIfInBounds_toArray, List.set_cons_zero, List.set_cons_succ]
        refine takeH (i := 5) (v := ?_) rfl (by kernel_rfl) (by kernel_rfl) (by kernel_rfl) (fun _ _ _ h => h) rfl ?_ hHeld ?_
        rotate_left
        · intro w hS; (try dsimp only at hS); obtain ⟨hS0, hS1⟩ := hS; go_simp; first | done | (with_reducible rfl)
        try simp only [Act.put, List.setIfInBounds_toArray, List.set_cons_zero, List.set_cons_succ]
        refine takeH (i := 6) (v := ?_) rfl (by kernel_rfl) (by kernel_rfl) (by kernel_rfl) (fun _ _ _ h => h) rfl ?_ hHeld ?_
        rotate_left
        · intro w hS; (try dsimp only at hS); obtain ⟨hS0, hS1⟩ := hS; go_simp; first | done | (with_reducible rfl)
        try simp only [Act.put, List.setIfInBounds_toArray, List.set_cons_zero, List.set_cons_succ]
        refine onlyH (i := 7) rfl (by kernel_rfl) rfl (fun K hK => ?_)
        go_simp
        refine hcall.mono ?_
        rintro e w1 ⟨rfl, hm1, hc1⟩
        have v3 := cell_of (hc1.keep HDR.out hbd) 3
        rw [hbs] at v3
        refine hK.out _ _ (⟨cell_of (hc1.keep HNB.out hbw) 1, v3⟩) (fun hHeld => ?_)
        clear hK K
        try simp only [Act.put, List.setIfInBounds_toArray, List.set_cons_zero, List.set_cons_succ]
        refine wpAnyH_done (by kernel_rfl) ?_ _
        clear hHeld
        have HM1 := hide hm1
        clear hm1 v3 y1 y3 hcall
        go_wp2_with fail
        go_roundw
        case rel =>
          refine ⟨k + 1, by omega, by go_num, (HC.out.then (HA.out.mono fun _ _ h => h.elim)).then (hc1.mono fun _ _ e => by rw [e, hbs]), fun b2 e => ?_⟩
          rw [hbs] at e
          injection e with e
          subst e
          rw [app_take hak]
          exact HM1.out
        case measure => simp [intOf]; omega
    · have hkn : k = n := by omega
      subst hkn
      have hdr := hc.keep HD.out (fun e => HSD.out d e.symm rfl)
      have hnf : ∀ i, S.known i → some (G.fb i) ≠ G.sure := fun i hi e => by
        have hm := H.out.sure
        rw [← e] at hm
        exact hm.2.ne (H.out.files i hi).2 rfl
      have hsz := hc.size
      have hfin := H.out.finish hb (D := S.dir) (now := G.now) (sure := G.sure) (fun i hi => live_of_dir H.out.ok hi) H.out.ok.keepD (hc.mono fun _ _ e => Or.inr (Or.inr (Or.inl e))) hdr
        (H.out.now.keep hc (fun b e e2 => (H.out.two b e).1 e2.symm) (fun _ h => Or.inl h))
        (by
          have hm := H.out.sure
          cases e : G.sure with
          | none =>
            rw [e] at hm
            have h0 := H.out.bare (H.out.both.2 e)
            have h1 : dv G.fb S.sure = [] := hm
            have h2 : S.sure = [] := List.map_eq_nil_iff.1 h1
            have h3 := H.out.ok.dir
            rw [h0, h2] at h3
            show dv G.fb S.dir = []
            rw [h3]
            rfl
          | some bs =>
            rw [e] at hm
            have h3 := hmap bs e
            rw [List.take_of_length_le (Nat.le_of_eq hna), ← H.out.ok.dir] at h3
            exact ⟨Or.inl hm.1, h3⟩)
        H.out.both H.out.two H.out.three H.out.bare (fun i hi => hc.keep (H.out.files i hi).2 (hnf i hi))
      clear hc hmap hdr hnf
      go_wp2_with (first
        | (go_at_call 71; refine hfin.mono ?_; rintro e w1 ⟨rfl, hforget⟩)
        | (go_at_call 73; refine hforget.mono ?_; rintro e w2 ⟨rfl, q5, q6⟩))
      go_end0
      exact ⟨rfl, q5, q6⟩
end
end Go.Proofs.Ytbedacdakmcfpaa
