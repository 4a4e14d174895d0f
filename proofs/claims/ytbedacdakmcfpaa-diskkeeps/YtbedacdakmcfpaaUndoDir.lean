/-
  What undoing the directory's acts does: undoDir. Condition: a disk within bounds.
-/
import Derived.Test.YtbedacdakmcfpaaMClone
namespace Go.Proofs.Ytbedacdakmcfpaa
open Go.RowKit

/-- How many pairs are still to come. -/
def leftLen (w : World) (b r : Nat) : Nat := match w.heap[r]?, w.heap[b]? with
  | some (.mapIter _ _ seen _), some (.map es _) => (leftOf es seen).size
  | _, _ => 0
theorem Goes.len {w : World} {b r : Nat} {rest : List (Value × Value)} (h : Goes w b r rest) : leftLen w b r = rest.length := by
  obtain ⟨es, ck, seen, c0, a1, a2, a3, a4, a5⟩ := h
  unfold leftLen
  rw [a3, a1]
  simp only
  rw [← a5.length_eq, List.length_map, Array.length_toList]
theorem Goes.perm {w : World} {b r : Nat} {l l' : List (Value × Value)} (h : Goes w b r l) (hp : l.Perm l') : Goes w b r l' := by
  obtain ⟨es, ck, seen, c0, a1, a2, a3, a4, a5⟩ := h
  exact ⟨es, ck, seen, c0, a1, a2, a3, a4, a5.trans hp⟩
/-- One of a directory's pairs comes up. -/
theorem dv_pick {fb : Nat → Nat} {rl : Dir} {k v : Value} {rest : List (Value × Value)} (h : (dv fb rl).Perm ((k, v) :: rest)) :
    ∃ n f rl', rl.Perm ((n, f) :: rl') ∧ k = .string (strB n) ∧ v = .pointer (some ⟨fb f, 0, none⟩) ∧ rest.Perm (dv fb rl') := by
  have hm : (k, v) ∈ dv fb rl := h.mem_iff.2 List.mem_cons_self
  obtain ⟨⟨n, f⟩, hp, e⟩ := List.mem_map.1 hm
  injection e with e1 e2
  have h1 : rl.Perm ((n, f) :: rl.erase (n, f)) := List.perm_cons_erase hp
  refine ⟨n, f, rl.erase (n, f), h1, e1.symm, e2.symm, ?_⟩
  have h2 : (dv fb rl).Perm ((.string (strB n), .pointer (some ⟨fb f, 0, none⟩)) :: dv fb (rl.erase (n, f))) := h1.map _
  have h3 := h.symm.trans h2
  rw [← e1, ← e2] at h3
  exact List.perm_cons (a := (Value.string (strB n), Value.pointer (some ⟨fb f, 0, none⟩))) |>.1 h3
theorem used_pick {files : List Fl} {rl rl' : Dir} {n : Nm} {f : Nat} (h : rl.Perm ((n, f) :: rl')) : usedOf files rl = lenOf files f + usedOf files rl' := by
  unfold usedOf
  rw [sum_perm (h.map fun p : Nm × Nat => lenOf files p.2)]
  rfl
theorem ids_pick {rl rl' : Dir} {n : Nm} {f : Nat} (h : rl.Perm ((n, f) :: rl')) (hn : (ids rl).Nodup) : (ids rl').Nodup ∧ f ∉ ids rl' ∧ ∀ i, i ∈ ids rl ↔ i = f ∨ i ∈ ids rl' := by
  have hp : (ids rl).Perm (f :: ids rl') := h.map fun p : Nm × Nat => p.2
  have h2 := (hp.nodup_iff).1 hn
  rw [List.nodup_cons] at h2
  exact ⟨h2.2, h2.1, fun i => by rw [hp.mem_iff, List.mem_cons]⟩

section
variable {w w' : World} {F : Nat → Prop} {d : Nat} {S : Dk} {G : Gh}

/-- A disk while names are taken and given: those of N have one, and they are counted. -/
structure Mid (w : World) (d : Nat) (S : Dk) (G : Gh) (now : Option Nat) (u : Nat) (N : Nat → Bool) (wr : World) : Prop where
  disk : wr.heap[d]? = some (.cells #[.int .i64 (S.room : Int), .int .i64 (u : Int), .map now, .map G.sure, G.lv, .int .i64 (S.n : Int), .bool S.cut.isSome, .int .i64 G.cv, .map G.fls] 66)
  files : ∀ i, S.known i → wr.heap[G.fb i]? = some (.cells #[G.rv i, G.sv i, .bool (N i)] 95)
  chg : Chg (fun k => k = d ∨ ∃ i, S.known i ∧ k = G.fb i) w wr
theorem Mid.file {now : Option Nat} {u : Nat} {N : Nat → Bool} {wr : World} (h : Rep w F d S G) (m : Mid w d S G now u N wr) {i : Nat} (hi : S.live i) :
    ∃ ra rc, G.rv i = .slice ra (lenOf S.files i) rc ∧ wr.heap[G.fb i]? = some (.cells #[.slice ra (lenOf S.files i) rc, G.sv i, .bool (N i)] 95) := by
  obtain ⟨x, hx⟩ : ∃ x, S.files[i]? = some x := ⟨_, List.getElem?_eq_getElem (h.ok.liveLt hi)⟩
  obtain ⟨b1, b2, b3⟩ := h.bytes i x hi hx
  obtain ⟨ra, rc, hrv⟩ := own_shape b2
  have e : lenOf S.files i = x.b.length := by simp [lenOf, hx]
  refine ⟨ra, rc, by rw [e]; exact hrv, ?_⟩
  rw [e, ← hrv]
  exact m.files i (Or.inl hi)
/-- A file loses, or gets, its name. -/
theorem Mid.name {now : Option Nat} {u u' : Nat} {N : Nat → Bool} {b : Bool} {wr w2 : World} (h : Rep w F d S G) (m : Mid w d S G now u N wr) {f : Nat} (hf : S.live f)
    (hd2 : w2.heap[d]? = some (.cells #[.int .i64 (S.room : Int), .int .i64 (u' : Int), .map now, .map G.sure, G.lv, .int .i64 (S.n : Int), .bool S.cut.isSome, .int .i64 G.cv, .map G.fls] 66))
    (hf2 : w2.heap[G.fb f]? = some (.cells #[G.rv f, G.sv f, .bool b] 95)) (hc : Chg (fun k => k = d ∨ k = G.fb f) wr w2) : Mid w d S G now u' (fun i => if i = f then b else N i) w2 where
  disk := hd2
  files i hi := by
    by_cases e : i = f
    · subst e
      rw [if_pos rfl]
      exact hf2
    · rw [if_neg e]
      refine hc.keep (m.files i hi) (fun e2 => ?_)
      rcases e2 with e2 | e2
      · exact h.ne_file hi e2.symm
      · exact e (h.inj i f hi (Or.inl hf) e2)
  chg := m.chg.then (hc.mono fun k _ e => e.elim Or.inl fun e => Or.inr ⟨f, Or.inl hf, e⟩)
theorem Mid.keep {X : Nat → Prop} {now : Option Nat} {u : Nat} {N : Nat → Bool} {wr w2 : World} (h : Rep w F d S G) (m : Mid w d S G now u N wr) (hc : Chg X wr w2) (hX : ∀ k, X k → w.heap.size ≤ k) : Mid w d S G now u N w2 where
  disk := hc.keep m.disk (fun e => Nat.not_lt_of_le (hX _ e) h.lt)
  files i hi := hc.keep (m.files i hi) (fun e => Nat.not_lt_of_le (hX _ e) (lt_of_heap (h.files i hi).2))
  chg := m.chg.trans hc (fun i hi e => absurd hi (Nat.not_lt_of_le (hX i e)))
theorem Mid.congr {now : Option Nat} {u u' : Nat} {N N' : Nat → Bool} {wr : World} (m : Mid w d S G now u N wr) (hu : u = u') (hN : ∀ i, S.known i → N i = N' i) : Mid w d S G now u' N' wr where
  disk := hu ▸ m.disk
  files i hi := hN i hi ▸ m.files i hi
  chg := m.chg
theorem Mid.size {now : Option Nat} {u : Nat} {N : Nat → Bool} {wr : World} (m : Mid w d S G now u N wr) : w.heap.size ≤ wr.heap.size := m.chg.size

theorem lens_used {S : Dk} {rl : Dir} (hn : (ids rl).Nodup) : usedOf S.files rl ≤ S.bulk := by
  have h1 := lens_le S.files (ids rl) hn
  have e : usedOf S.files rl = ((ids rl).map (lenOf S.files)).sum := by
    unfold usedOf ids
    rw [List.map_map]
    rfl
  rw [e]
  unfold Dk.bulk
  omega

set_option maxRecDepth 20000 in
set_option maxHeartbeats 1600000 in
theorem undoDir_rep (h : Rep w F d S G) {bn : Nat} (hnow : G.now = some bn) (hb : S.bulk < 1099511627776) :
    Calls Try.prog 52 #[.pointer (some ⟨d, 0, none⟩)] w fun e w' => e = .returned (.tuple #[]) ∧ (∃ G', Rep w' (Fx F w w') d S.undoD G') ∧ Chg F w w' := by
  obtain ⟨bs, hbs⟩ : ∃ bs, G.sure = some bs := Option.ne_none_iff_exists'.1 fun e => by
    have := h.both.2 e
    rw [hnow] at this
    cases this
  have hmn := h.now
  rw [hnow] at hmn
  have hms := h.sure
  rw [hbs] at hms
  have hd := h.disk
  unfold dcells at hd
  have x2 := cell_of hd 2
  rw [hnow] at x2
  obtain ⟨w1, hrun1, hgo1, hch1, hsz1⟩ := Goes.start hmn.2 Try.underlying62
  have hm0 : Mid w d S G (some bn) (usedOf S.files S.dir) (fun i => decide (i ∈ ids S.dir)) w1 :=
    ⟨hnow ▸ hch1.keep hd (fun h => h), fun i hi => hch1.keep (h.files i hi).2 (fun h => h), hch1.mono fun _ _ h => h.elim⟩
  have hnd : ∀ i, S.known i → G.fb i ≠ bn := fun i hi e => hmn.2.ne (h.files i hi).2 e
  have hnd2 : d ≠ bn := hmn.2.ne h.disk
  have HGO1 := hide hgo1
  have HM0 := hide hm0
  have H := hide h
  have HMN := hide hmn
  have HMS := hide hms
  have HND := hide hnd
  clear hgo1 hm0 h hmn hms hnd hd hch1
  go_enter Try.func52, Try.ntmps52
  go_wp2_with fail
  go_loopw [11] (fun _ wr => ∃ rl : Dir, (ids rl).Nodup ∧ (∀ i ∈ ids rl, S.live i) ∧ Goes wr bn w.heap.size (dv G.fb rl) ∧ Mid w d S G (some bn) (usedOf S.files rl) (fun i => decide (i ∈ ids rl)) wr) (fun _ wr => leftLen wr bn w.heap.size)
  case atStart => exact ⟨S.dir, H.out.ok.oneD, fun i hi => live_of_dir H.out.ok hi, HGO1.out, HM0.out⟩
  case round =>
    obtain ⟨rl, hrn, hrl, hgo, hmid⟩ := hrel
    rcases hgo.step (P := Try.prog) 0 with ⟨hr0, hnext⟩ | ⟨k, v, rest, w2, hperm, hnext, hentry, hgo2, hc2, hs2⟩
    · have hrl0 : rl = [] := List.map_eq_nil_iff.1 hr0
      subst hrl0
      have hu0 : usedOf S.files [] = 0 := rfl
      rw [hu0] at hmid
      have hsb : MapW wr bs (dv G.fb S.sure) := HMS.out.2.keep hmid.chg (fun e => by
        rcases e with e | ⟨i, hi, e⟩
        · exact HMS.out.2.ne H.out.disk e.symm
        · exact HMS.out.2.ne (H.out.files i hi).2 e.symm)
      have hcl := mclone_some wr bs _ hsb
      have hdm := hmid.disk
      rw [hbs] at hdm
      have y3 := cell_of hdm 3
      have HMID := hide hmid
      have HDM := hide hdm
      have HSB := hide hsb
      have hws := hgo.lt
      clear hgo hmid hr0 hrn hrl hsb hdm HGO1 HM0 x2 hrun1 hsz1
      go_wp2_with fail
      refine hcl.mono ?_
      rintro e w4 ⟨rfl, hm4, hc4⟩
      obtain ⟨cl, hcle⟩ : ∃ cl, cl = wr.heap.size := ⟨_, rfl⟩
      rw [← hcle] at hm4 hws ⊢
      have hd4 := hc4.keep HDM.out (fun h => h)
      have z2 := thawed hd4 2
      have a2 := cell_of hd4 2
      have hcd : cl ≠ d := fun e => hm4.ne hd4 e.symm
      have hm5 : MapW (w4.setCell ⟨d, 2, none⟩ (.map (some cl))) cl (dv G.fb S.sure) := hm4.keep (chg_set w4 d 2 _) hcd
      have hd5 := heap_set hd4 2 (.map (some cl))
      obtain ⟨w6, hrun6, hgo6, hch6, hsz6⟩ := Goes.start hm5 Try.underlying62
      have hmid6 : Mid w d S G (some cl) 0 (fun _ => false) w6 :=
        ⟨hch6.keep (hbs ▸ hd5) (fun h => h), fun i hi => hch6.keep (heap_set_other (hc4.keep (HMID.out.files i hi) (fun h => h)) (fun e => H.out.ne_file hi e.symm)) (fun h => h),
          ((HMID.out.chg.then (hc4.mono fun _ _ h => h.elim)).setCell (p := ⟨d, 2, none⟩) (Or.inl (Or.inl rfl)) _).then (hch6.mono fun _ _ h => h.elim)⟩
      have hm6 := hm5.keep hch6 (fun h => h)
      have a5 := cell_of hd5 2
      obtain ⟨r2, hr2⟩ : ∃ r2, r2 = (w4.setCell ⟨d, 2, none⟩ (.map (some cl))).heap.size := ⟨_, rfl⟩
      rw [← hr2] at hrun6 hgo6
      have hr2w : w.heap.size ≤ r2 := by
        rw [hr2]
        have h1 := HMID.out.size
        have h2 := hc4.size
        simp [World.setCell]
        omega
      have hcr : cl ≠ r2 := hgo6.ne_map
      have hclw : w.heap.size ≤ cl := by omega
      have HG6 := hide hgo6
      have HM6 := hide hm6
      have HMID6 := hide hmid6
      have HCLE := hide hcle
      clear hgo6 hm6 hmid6 hm5 hd5 hd4 hm4 hc4 hch6 HMID HDM HSB hcl y3 hr2 hcle hsz6
      go_wp2_with fail
      go_loopw [31] (fun _ wr => ∃ (rl : Dir) (u : Nat), (ids rl).Nodup ∧ (∀ i ∈ ids rl, i ∈ ids S.sure) ∧ Goes wr cl r2 (dv G.fb rl) ∧ MapW wr cl (dv G.fb S.sure) ∧ u + usedOf S.files rl = usedOf S.files S.sure ∧ Mid w d S G (some cl) u (fun i => decide (i ∈ ids S.sure ∧ i ∉ ids rl)) wr) (fun _ wr => leftLen wr cl r2)
      case atStart => exact ⟨S.sure, 0, (List.nodup_append.1 H.out.ok.one).1, fun _ h => h, HG6.out, HM6.out, Nat.zero_add _, HMID6.out.congr rfl (fun i _ => by simp)⟩
      case round =>
        obtain ⟨rl, u, hrn, hrl, hgo, hmw, huu, hmid⟩ := hrel
        rcases hgo.step (P := Try.prog) 0 with ⟨hr0, hnext2⟩ | ⟨k, v, rest, w7, hperm, hnext2, hentry, hgo7, hc7, hs7⟩
        · have hrl0 : rl = [] := List.map_eq_nil_iff.1 hr0
          subst hrl0
          have hu1 : u = usedOf S.files S.sure := by
            have e : usedOf S.files [] = 0 := rfl
            omega
          have hmid2 : Mid w d S G (some cl) (usedOf S.files S.sure) (fun i => decide (i ∈ ids S.sure)) wr := hmid.congr hu1 (fun i _ => decide_eq_decide.2 ⟨fun h => h.1, fun h => ⟨h, fun e => by cases e⟩⟩)
          have hlow : ∀ {o : Option Nat} {l : List (Value × Value)}, MapO w F o l → o ≠ some cl := fun {o l} hm e => by
            rw [e] at hm
            exact Nat.not_lt_of_le hclw hm.2.lt
          have hfin := H.out.finish hb (D := S.sure) (now := some cl) (sure := G.sure) (fun i hi => Or.inl hi) H.out.ok.undoD (hmid2.chg.mono fun k _ e => e.elim Or.inl fun e => Or.inr (Or.inr (Or.inr e))) hmid2.disk
            ⟨Or.inr ⟨hclw, hmw.lt⟩, hmw⟩
            (H.out.sure.keep hmid2.chg (fun b e e2 => by
              have hm := H.out.sure
              rw [e] at hm
              rcases e2 with e2 | ⟨i, hi, e2⟩
              · exact hm.2.ne H.out.disk e2.symm
              · exact hm.2.ne (H.out.files i hi).2 e2.symm) (fun _ h => Or.inl h))
            (by rw [hbs]; simp)
            (fun b e => by
              injection e with e
              subst e
              obtain ⟨l, g1, _⟩ := H.out.fails
              exact ⟨hlow H.out.sure, hlow g1⟩)
            H.out.three (fun e => by cases e) hmid2.files
          clear hmid hmid2 hgo hmw hr0 hrn hrl huu hu1 hlow
          go_wp2_with (first
            | (go_at_call 71; refine hfin.mono ?_; rintro e w8 ⟨rfl, hforget⟩)
            | (go_at_call 73; refine hforget.mono ?_; rintro e w9 ⟨rfl, q5, q6⟩))
          go_end0
          exact ⟨rfl, q5, q6⟩
        · obtain ⟨n, f, rl', hp1, rfl, rfl, hp2⟩ := dv_pick hperm
          obtain ⟨i1, i2, i3⟩ := ids_pick hp1 hrn
          have hfs : f ∈ ids S.sure := hrl f ((i3 f).2 (Or.inl rfl))
          have hlf : S.live f := Or.inl hfs
          have hm7 : Mid w d S G (some cl) u (fun i => decide (i ∈ ids S.sure ∧ i ∉ ids rl)) w7 := hmid.keep H.out hc7 (fun k e => by rw [e]; exact hr2w)
          obtain ⟨ra, rc, hrv, hfile⟩ := hm7.file H.out hlf
          have hup := used_pick (files := S.files) hp1
          have hul := lens_used (S := S) (rl := S.sure) (List.nodup_append.1 H.out.ok.one).1
          have hlen := hgo.len
          have hdf : d ≠ G.fb f := H.out.ne_file (Or.inl hlf)
          have hflt := lt_of_heap (H.out.files f (Or.inl hlf)).2
          have hdlt := H.out.lt
          have hne1 : ¬ (cl = d ∨ cl = G.fb f) := fun e => by rcases e with e | e <;> omega
          have hne2 : ¬ (r2 = d ∨ r2 = G.fb f) := fun e => by rcases e with e | e <;> omega
          have hd7 := hm7.disk
          have b0 := cell_of hfile 0
          have b2 := cell_of hfile 2
          have t2 := thawed hfile 2
          have HF7 := hide hfile
          have HD7 := hide hd7
          have HLEN := hide hlen
          have HM7 := hide hm7
          have HMW := hide (hmw.keep hc7 hcr)
          have HGO := hide (hgo7.perm hp2)
          have HUP := hide hup
          have HPL := hide hp1.length_eq
          have HUU := hide huu
          have hle : u + lenOf S.files f < 1099511627776 := by omega
          clear hlen hm7 hgo7 hgo hmid hfile hperm hp2 hup hmw hd7 huu
          go_wp2_with fail
          have hcA : Chg (fun k => k = d ∨ k = G.fb f) w7 (w7.setCell ⟨G.fb f, 2, none⟩ (.bool true)) := (Chg.refl _ _).setCell (p := ⟨G.fb f, 2, none⟩) (Or.inl (Or.inr rfl)) _
          have hdA := heap_set_other (p := ⟨G.fb f, 2, none⟩) (u := .bool true) HD7.out hdf
          have hfA := heap_set HF7.out 2 (.bool true)
          generalize w7.setCell ⟨G.fb f, 2, none⟩ (.bool true) = wA at *
          have c0 := cell_of hfA 0
          have c1 := cell_of hdA 1
          have s1 := thawed hdA 1
          have HFA := hide hfA
          have HDA := hide hdA
          have HCA := hide hcA
          clear hfA hdA hcA
          go_region
          have hB : Chg (fun k => k = d ∨ k = G.fb f) w7 (wA.setCell ⟨d, 1, none⟩ (.int .i64 ((u : Int) + (lenOf S.files f : Int)))).drew := (HCA.out.setCell (p := ⟨d, 1, none⟩) (Or.inl (Or.inl rfl)) _).drew
          have hdB : (wA.setCell ⟨d, 1, none⟩ (.int .i64 ((u : Int) + (lenOf S.files f : Int)))).drew.heap[d]? = _ := heap_set HDA.out 1 (.int .i64 ((u : Int) + (lenOf S.files f : Int)))
          have hfB : (wA.setCell ⟨d, 1, none⟩ (.int .i64 ((u : Int) + (lenOf S.files f : Int)))).drew.heap[G.fb f]? = _ := heap_set_other (p := ⟨d, 1, none⟩) (u := .int .i64 ((u : Int) + (lenOf S.files f : Int))) HFA.out (fun e => hdf e.symm)
          generalize (wA.setCell ⟨d, 1, none⟩ (.int .i64 ((u : Int) + (lenOf S.files f : Int)))).drew = wB at *
          have HB := hide hB
          have HDB := hide hdB
          have HFB := hide hfB
          have hgo8 := HGO.out.keep HB.out hne1 hne2
          have HG8 := hide hgo8
          clear hB hdB hfB hgo8
          go_wp2_with fail
          go_roundw
          case rel =>
            refine ⟨rl', u + lenOf S.files f, i1, fun i hi => hrl i ((i3 i).2 (Or.inr hi)), HG8.out, HMW.out.keep HB.out hne1, ?_, (HM7.out.name H.out hlf (u' := u + lenOf S.files f) (b := true) ?_ ?_ HB.out).congr rfl (fun i _ => ?_)⟩
            · have := HUU.out
              have := HUP.out
              omega
            · exact HDB.out
            · rw [hrv]
              exact HFB.out
            · by_cases e : i = f
              · subst e
                simp [i2, hfs]
              · simp [e, i3]
          case measure =>
            rw [HG8.out.len, HLEN.out]
            have := HPL.out
            simp [dv, this]
    · obtain ⟨n, f, rl', hp1, rfl, rfl, hp2⟩ := dv_pick hperm
      obtain ⟨i1, i2, i3⟩ := ids_pick hp1 hrn
      have hlf : S.live f := hrl f ((i3 f).2 (Or.inl rfl))
      have hm2 : Mid w d S G (some bn) (usedOf S.files rl) (fun i => decide (i ∈ ids rl)) w2 := hmid.keep H.out hc2 (fun k e => Nat.le_of_eq e.symm)
      obtain ⟨ra, rc, hrv, hfile⟩ := hm2.file H.out hlf
      have hup := used_pick (files := S.files) hp1
      have hul := lens_used (S := S) hrn
      have hun := unname_any w2 d (G.fb f) (lenOf S.files f) rc ra _ _ _ _ _ _ _ _ _ _ ((usedOf S.files rl : Nat) : Int) hm2.disk hfile (by omega) (by omega)
      have hlen := hgo.len
      have hne1 : ¬ (bn = d ∨ bn = G.fb f) := fun e => e.elim (fun e => hnd2 e.symm) (fun e => HND.out f (Or.inl hlf) e.symm)
      have hne2 : ¬ (w.heap.size = d ∨ w.heap.size = G.fb f) := fun e => e.elim (fun e => Nat.ne_of_gt H.out.lt e) (fun e => Nat.ne_of_gt (lt_of_heap (H.out.files f (Or.inl hlf)).2) e)
      have hgo3 := hgo2.perm hp2
      have hpl := hp1.length_eq
      have HLEN := hide hlen
      have HM2 := hide hm2
      have HGO := hide hgo3
      have HUP := hide hup
      clear hlen hm2 hgo2 hgo3 hgo hmid hfile hperm hp2 hup
      go_wp2_with (go_at_call 41; refine hun.mono ?_; rintro e w3 ⟨rfl, u1, u2, u3, _⟩; have HU1 := hide u1; have HU2 := hide u2; have HU3 := hide u3; clear u1 u2 u3)
      have hgo4 := HGO.out.keep HU3.out hne1 hne2
      go_roundw
      case rel =>
        refine ⟨rl', i1, fun i hi => hrl i ((i3 i).2 (Or.inr hi)), hgo4, (HM2.out.name H.out hlf (u' := usedOf S.files rl') (b := false) ?_ ?_ HU3.out).congr rfl (fun i _ => ?_)⟩
        · have e : (usedOf S.files rl : Int) - (lenOf S.files f : Int) = ((usedOf S.files rl' : Nat) : Int) := by rw [HUP.out]; omega
          rw [← e]
          exact HU1.out
        · rw [hrv]
          exact HU2.out
        · by_cases e : i = f
          · subst e
            simp [i2]
          · simp [e, i3]
      case measure =>
        rw [hgo4.len, HLEN.out]
        simp [dv, hpl]
end
end Go.Proofs.Ytbedacdakmcfpaa
