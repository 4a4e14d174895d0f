/-
  DiskKeeps' walk: what was synced, with the directory behind it, is there behind any crash. Conditions: what came in lies there.
-/
import Derived.Test.YtbedacdakmcfpaaPlayed
import Derived.Test.YtbedacdakmcfpaaKeepPure
import Derived.Deep.CutBlock
import Derived.Deep.LoopGhost
namespace Go.Proofs.Ytbedacdakmcfpaa
open Go.RowKit

/-- A row that a disk's calls leave alone. -/
def Rw (w : World) (F : Nat → Prop) (v : Value) (l : List UInt8) : Prop := Sl w v l ∧ ∀ k, v.ownBlock = some k → ¬ F k ∧ k < w.heap.size
theorem Rw.after {w w' : World} {F F' : Nat → Prop} {v : Value} {l : List UInt8} (h : Rw w F v l) (hF : ∀ k, F' k → F k ∨ w.heap.size ≤ k) (hc : Chg F w w') : Rw w' F' v l := by
  refine ⟨h.1.keep hc fun g hg => (h.2 g hg).1, fun k hk => ⟨fun hf => ?_, ?_⟩⟩
  · rcases hF k hf with hf | hf
    · exact (h.2 k hk).1 hf
    · exact absurd (h.2 k hk).2 (by omega)
  · have := (h.2 k hk).2
    have := hc.size
    omega
theorem own_high {w : World} {base n size : Nat} {e : TypeId} {v : Value} {xs : List Value} (h : w.ownsRow base e size v n xs) : ∀ g, v.ownBlock = some g → g < w.heap.size := by
  intro g hg
  rcases h.2 with ⟨rfl, hn⟩ | ⟨g', cap', cur, rfl, hb, hh, -⟩
  · cases hg
  · injection hg with hg
    subst hg
    exact (Array.getElem?_eq_some_iff.1 hh).1
theorem mem_sum {l : List Nat} {n : Nat} (h : n ∈ l) : n ≤ l.sum := by
  induction l with
  | nil => cases h
  | cons a r ih =>
    rw [List.sum_cons]
    rcases List.mem_cons.1 h with rfl | h
    · omega
    · have := ih h
      omega
theorem Kept.len {z : Nm} {S : Dk} {f was : Nat} {all : List UInt8} (h : Kept z S f was all) : all.length ≤ S.bulk := by
  obtain ⟨x, h1, h2, -⟩ := h.file
  have := mem_sum (List.mem_map.2 ⟨x, List.mem_of_getElem? h1, rfl⟩ : x.b.length ∈ S.files.map fun x => x.b.length)
  rw [h2] at this
  unfold Dk.bulk
  omega
theorem arr_app (a b : List UInt8) : (⟨a.toArray⟩ ++ ⟨b.toArray⟩ : ByteArray) = ⟨(a ++ b).toArray⟩ := by
  apply ByteArray.ext
  simp
theorem strB_tl (n : Nm) : (strB n).toList = n := by rw [ByteArray.toList_eq]; exact strB_list n
theorem zz_eq {n : Nm} (h : n = zz) : ((strB n).toList == [122, 122, 45, 107, 101, 112, 116]) = true := by rw [strB_tl, h]; rfl
theorem zz_ne {n : Nm} (h : ¬ n = zz) : ((strB n).toList == [122, 122, 45, 107, 101, 112, 116]) = false := by
  rw [strB_tl, beq_eq_false_iff_ne]
  exact h

set_option maxRecDepth 20000 in
set_option maxHeartbeats 8000000 in
theorem keeps_any (w : World) (v0 v1 v2 v3 : Value) (os : List Oq) (b : List UInt8) (more : List (List UInt8)) (th : List Oq) (keep t : Int) (h0 : Ob w.heap.size w v0 os) (h1 : Sb w.heap.size w v1 b) (h2 : Bs w.heap.size w v2 more) (h3 : Ob w.heap.size w v3 th)
    (hl0 : os.length ≤ 4611686018427387904) (hl1 : b.length ≤ 4611686018427387904) (_hl2 : more.length ≤ 4611686018427387904) (hl3 : th.length ≤ 4611686018427387904) :
    Calls Try.prog 4 #[v0, v1, v2, v3, .int .i64 keep, .int .i64 t] w fun e w' => e = .returned (.bool true) ∧ Below w.heap.size w w' := by
  have h1' := h1
  obtain ⟨a1, c1, rfl, q1, q1', -, -⟩ := h1'
  obtain ⟨o, -, ho1, ho2, ho3⟩ := h1.thousand
  have HM := hide ho2
  have hq1 : (0 : Int) ≤ min (b.length : Int) 1000 := by omega
  have hq2 : min (b.length : Int) 1000 ≤ (c1 : Int) := by omega
  have hbl : b.length ≤ 9223372036854775807 := by omega
  clear ho2 h1
  generalize b.length = bl at *
  have h2' := h2
  obtain ⟨a2, c2, rfl, g2, g2', -⟩ := h2'
  have h3' := h3
  obtain ⟨a3, c3, rfl, g3, g3', -⟩ := h3'
  go_enter Try.func4, Try.ntmps4
  go_wp2_with fail
  refine (shown_any w).mono ?_
  rintro e w1 ⟨rfl, hb1⟩
  go_wp2_with fail
  refine (played_any w1 v0 os 60 hb1.size (h0.keep hb1) hl0 (by omega)).mono ?_
  rintro e w2 ⟨d, F2, S2, rfl, hs2, -, hbu2, hb2'⟩
  have hb2 := hb1.trans hb2'
  have hz2 := hb2.size
  clear hb1 hb2' h0
  go_wp2_with fail
  refine (remove_lies hs2 hz2 zz (by omega)).mono ?_
  rintro e w3 ⟨rfl, ha⟩
  have hb3 := hb2.trans (ha.below hs2 hz2)
  have hz3 := hb3.size
  have hbu3 := bulk_remove (S := S2) zz
  obtain ⟨F3, hs3, -⟩ := ha.stands
  clear ha hs2 hb2
  generalize (S2.remove zz).1 = S3 at *
  generalize (S2.remove zz).2 = r3 at *
  go_wp2_with fail
  rw [HM.out]
  refine (append_in hs3 hz3 zz (by omega) (ho3.keep hb3)).mono ?_
  rintro e w4 ⟨rfl, ha⟩
  have hb4 := hb3.trans (ha.below hs3 hz3)
  have hz4 := hb4.size
  have hbu4 := bulk_append (S := S3) zz o
  obtain ⟨F4, hs4, -⟩ := ha.stands
  clear ha hs3 hb3
  generalize (S3.append zz o).1 = S4 at *
  generalize (S3.append zz o).2 = r4 at *
  go_upto_block 0 with fail
  go_cut [16] from 53 to 67 (fun e wx => ∃ r F S, e = .int .i64 r ∧ Stands w.heap.size wx F d S ∧ S.bulk ≤ 330000 ∧ Below w.heap.size w wx)
  case first =>
    go_wp2_with fail
    go_loopw [16, 17] (fun e i wr => ∃ (r : Int) (j : Nat) (F : Nat → Prop) (S : Dk), e = .int .i64 r ∧ i = .int .i64 (j : Int) ∧ j ≤ 200 ∧ Stands w.heap.size wr F d S ∧ S.bulk ≤ 122000 + 1004 * j ∧ Below w.heap.size w wr)
      (fun _ i _ => 200 - (intOf i).toNat)
    case atStart => exact ⟨r4, 0, F4, S4, rfl, rfl, by omega, hs4, by omega, hb4⟩
    case round =>
      clear hs4 hb4
      obtain ⟨r, j, F, S, rfl, rfl, hj, hst, hbu, hbr⟩ := hrel
      have hzr := hbr.size
      by_cases hr : r = 0
      · subst hr
        go_wp2
        go_meet
        exact ⟨0, F, S, rfl, hst, by omega, hbr⟩
      · have hrb : (r != 0) = true := by simp [hr]
        by_cases hlt : j < 200
        · have hjb : (j : Int) < 200 := by omega
          go_wp2_with fail
          rw [HM.out]
          refine (append_in hst hzr zz (by omega) (ho3.keep hbr)).mono ?_
          rintro e w5 ⟨rfl, ha⟩
          have hb5 := hbr.trans (ha.below hst hzr)
          have hbu5 := bulk_append (S := S) zz o
          obtain ⟨F5, hs5, -⟩ := ha.stands
          clear ha hst
          go_wp2_with fail
          exact ⟨⟨_, j + 1, F5, _, rfl, by go_num, by omega, hs5, by omega, hb5⟩, by simp [intOf]; omega⟩
        · have hjb : ¬ (j : Int) < 200 := by omega
          go_wp2
          go_meet
          exact ⟨r, F, S, rfl, hst, by omega, hbr⟩
  case rest =>
    clear hs4 hb4 hz4 hbu4 hbu3 hbu2 hz3 hz2
    obtain ⟨r, F5, S5, rfl, hs5, hbu5, hb5⟩ := hcut
    have hz5 := hb5.size
    go_wp2_with fail
    refine (read_lies hs5 hz5 zz (by omega)).mono ?_
    rintro e w6 ⟨v, rfl, hrow, F6, hs6, hF6, hc6, hv6⟩
    have hb6 := hb5.trans (hs5.below hz5 hc6)
    have hz6 := hb6.size
    have hk5 := hs5.ok
    have hbu6 := bulk_begun S5
    have hrw6 : Rw w6 F6 v (S5.read zz).1 := ⟨sl_of_own hrow, fun k hk => ⟨hv6 k hk, own_high hrow k hk⟩⟩
    clear hrow hs5 hb5 hc6 hF6 hv6
    go_upto_block 2 with fail
    go_cut [18, 19] from 73 to 85 (fun v f wx => ∃ S F, f = .int .i64 (S.read zz).2 ∧ Stands w.heap.size wx F d S.begun ∧ Ok S ∧ Rw wx F v (S.read zz).1 ∧ S.begun.bulk ≤ 331000 ∧ Below w.heap.size w wx)
    case first =>
      go_wp2_with fail
      go_loopw [18, 19, 20] (fun v f i wr => ∃ (S : Dk) (j : Nat) (F : Nat → Prop), f = .int .i64 (S.read zz).2 ∧ i = .int .i64 (j : Int) ∧ j ≤ 200 ∧ Stands w.heap.size wr F d S.begun ∧ Ok S ∧ Rw wr F v (S.read zz).1 ∧ S.begun.bulk ≤ 330001 + j ∧ Below w.heap.size w wr)
        (fun _ _ i _ => 200 - (intOf i).toNat)
      case atStart => exact ⟨S5, 0, F6, rfl, rfl, by omega, hs6, hk5, hrw6, by omega, hb6⟩
      case round =>
        clear hs6 hb6 hrw6
        obtain ⟨S, j, F, rfl, rfl, hj, hst, hok, hrw, hbu, hbr⟩ := hrel
        have hzr := hbr.size
        obtain ⟨rf, hrf⟩ : ∃ x, x = (S.read zz).2 := ⟨_, rfl⟩
        rw [← hrf]
        by_cases hr : rf = 0
        · subst hr
          have HR := hide hrf
          clear hrf
          go_wp2
          go_meet
          exact ⟨S, F, by rw [← HR.out], hst, hok, hrw, by omega, hbr⟩
        · have hrb : (rf != 0) = true := by simp [hr]
          have HR := hide hrf
          clear hrf
          by_cases hlt : j < 200
          · have hjb : (j : Int) < 200 := by omega
            go_wp2_with fail
            refine (read_lies hst hzr zz (by omega)).mono ?_
            rintro e w7 ⟨v7, rfl, hrow, F7, hs7, hF7, hc7, hv7⟩
            have hb7 := hbr.trans (hst.below hzr hc7)
            have hk7 := hst.ok
            have hbu7 := bulk_begun S.begun
            have hrw7 : Rw w7 F7 v7 (S.begun.read zz).1 := ⟨sl_of_own hrow, fun k hk => ⟨hv7 k hk, own_high hrow k hk⟩⟩
            clear hrow hst hbr hc7 hF7 hv7
            go_wp2_with fail
            exact ⟨⟨S.begun, j + 1, F7, rfl, by go_num, by omega, hs7, hk7, hrw7, by omega, hb7⟩, by simp [intOf]; omega⟩
          · have hjb : ¬ (j : Int) < 200 := by omega
            go_wp2
            go_meet
            exact ⟨S, F, by rw [← HR.out], hst, hok, hrw, by omega, hbr⟩
    case rest =>
      clear hs6 hb6 hrw6 hk5 hbu6 hz6 hbu5 hz5
      obtain ⟨S6, F6, rfl, hs6, hk6, hrw6, hbu6, hb6⟩ := hcut
      have hz6 := hb6.size
      go_wp2_with fail
      refine (sync_lies hs6 hz6 zz (by omega)).mono ?_
      rintro e w7 ⟨rfl, ha⟩
      have hb7 := hb6.trans (ha.below hs6 hz6)
      have hz7 := hb7.size
      have hbu7 := bulk_sync (S := S6.begun) zz
      obtain ⟨F7, hs7, hF7, hc7⟩ := ha
      have hrw7 := hrw6.after hF7 hc7
      clear hs6 hb6 hrw6 hc7 hF7
      go_wp2_with fail
      refine (syncDir_lies hs7 hz7 (by omega)).mono ?_
      rintro e w8 ⟨rfl, ha⟩
      have hb8 := hb7.trans (ha.below hs7 hz7)
      have hz8 := hb8.size
      have hbu8 := bulk_syncDir (S := (S6.begun.sync zz).1)
      obtain ⟨F8, hs8, hF8, hc8⟩ := ha
      have hrw8 := hrw7.after hF8 hc8
      clear hs7 hb7 hrw7 hc8 hF8
      have hks := kept_start (z := zz) hk6
      have hsl := hrw8.1
      generalize (S6.read zz).2 = rf at *
      generalize (S6.begun.sync zz).2 = rg at *
      generalize ((S6.begun.sync zz).1.syncDir).2 = rh at *
      by_cases e1 : r = 0
      rotate_left
      · have eb1 : (r != 0) = true := by simp [e1]
        clear hks hsl hrw8
        go_wp2
        go_ret
        exact ⟨rfl, hb8⟩
      subst e1
      by_cases e2 : rf = 0
      rotate_left
      · have eb2 : (rf != 0) = true := by simp [e2]
        clear hks hsl hrw8
        go_wp2
        go_ret
        exact ⟨rfl, hb8⟩
      subst e2
      by_cases e3 : rg = 0
      rotate_left
      · have eb3 : (rg != 0) = true := by simp [e3]
        clear hks hsl hrw8
        go_wp2
        go_ret
        exact ⟨rfl, hb8⟩
      subst e3
      by_cases e4 : rh = 0
      rotate_left
      · have eb4 : (rh != 0) = true := by simp [e4]
        clear hks hsl hrw8
        go_wp2
        go_ret
        exact ⟨rfl, hb8⟩
      subst e4
      obtain ⟨fz, hkp⟩ := hks rfl rfl rfl
      clear hks
      generalize (S6.read zz).1 = was at *
      generalize ((S6.begun.sync zz).1.syncDir).1 = S8 at *
      obtain ⟨av, cv, rfl, hav, hcv, -, -⟩ := hsl
      have hstr := run_str w8 _ was hrw8.1
      clear hrw8
      go_upto_block 4 with fail
      go_cut [23] from 106 to 215 (fun s wx => ∃ (al : List UInt8) (F : Nat → Prop) (S : Dk), s = .string ⟨al.toArray⟩ ∧ Stands w.heap.size wx F d S ∧ Kept zz S fz was.length al ∧ was.length ≤ al.length ∧ S.bulk ≤ 472000 ∧ Below w.heap.size w wx)
      case first =>
        go_wp2_with fail
        go_loopg [23, 24] 60 (fun g s i wr => ∃ (al : List UInt8) (j : Nat) (F : Nat → Prop) (S : Dk), g = 60 - j ∧ s = .string ⟨al.toArray⟩ ∧ i = .int .i64 (j : Int) ∧ j ≤ th.length ∧ j ≤ 60 ∧ Stands w.heap.size wr F d S ∧ Kept zz S fz was.length al ∧ was.length ≤ al.length ∧ S.bulk ≤ 332000 + 2300 * j ∧ Below w.heap.size w wr)
        case atStart => exact ⟨was, 0, F8, S8, rfl, rfl, rfl, by omega, by omega, hs8, hkp, Nat.le_refl _, by omega, hb8⟩
        case round =>
          clear hs8 hb8 hstr hkp hbu8 hbu7 hbu6
          obtain ⟨al, j, F, S, rfl, rfl, rfl, hj1, hj2, hst, hkp, hwl, hbu, hbr⟩ := hrel
          have hzr := hbr.size
          by_cases hlt : j < th.length ∧ j < 60
          · obtain ⟨j1, j2⟩ := hlt
            obtain ⟨b3, off3, rfl, hbB, hop⟩ := Ob.at (h3.keep hbr) j1
            generalize th[j] = o3 at hop
            obtain ⟨kind, name, tto, bb, nn, torn⟩ := o3
            obtain ⟨d0, d1, d2, ⟨u, d3, hu⟩, d4, d5, r0, r4', r5⟩ := hop
            dsimp only at d0 d1 d2 d3 d4 d5 hu r0 r4' r5
            have hu' := hu
            obtain ⟨ua, uc, rfl, u1, u2, -, -⟩ := hu'
            obtain ⟨om, -, hom1, hom2, hom3⟩ := hu.thousand
            have HM1 := hide hom2
            have hux : bb.length ≤ 9223372036854775807 := by unfold maxLen at u2; omega
            have hq1 : (0 : Int) ≤ min (bb.length : Int) 1000 := by omega
            have hq2 : min (bb.length : Int) 1000 ≤ (uc : Int) := by omega
            clear hom2 hu
            generalize bb.length = ul at *
            have hpr := pk_range (c := kind) (n := 7) (by omega)
            have hpk := fun W => pick_any W kind 7 r0 (by omega)
            have hcA : Chg (fun _ => False) wr (wr.alloc (.cells #[.int .i64 kind, .string (strB name), .string (strB tto), .slice ua ul uc, .int .i64 nn, .int .i64 torn] 35)) := (Chg.refl _ wr).alloc _
            have hbA := chg_below hcA hzr
            have hstA := hst.keep hcA (fun _ _ h => h)
            have hbrA := hbr.trans (hbA)
            have hzA := hbrA.size
            have hnF : ¬ F wr.heap.size := fun hf => Nat.lt_irrefl _ (hst.2.1 _ hf).2
            have hbn : (wr.alloc (.cells #[.int .i64 kind, .string (strB name), .string (strB tto), .slice ua ul uc, .int .i64 nn, .int .i64 torn] 35)).heap[wr.heap.size]? = some (.cells #[.int .i64 kind, .string (strB name), .string (strB tto), .slice ua ul uc, .int .i64 nn, .int .i64 torn] 35) := blk_new wr _
            go_wp2_with fail
            refine (named_any _ name nn r4').mono ?_
            rintro e w2 ⟨rfl, rfl⟩
            generalize nmd name nn = one at *
            go_wp2_with fail
            refine (named_any _ tto torn r5).mono ?_
            rintro e w3 ⟨rfl, rfl⟩
            generalize nmd tto torn = two at *
            by_cases h1z : one = zz
            · have hb1z := zz_eq h1z
              clear h1z
              go_wp2_with fail
              go_roundg (60 - (j + 1))
              case measure => omega
              case rel => exact ⟨al, j + 1, F, S, rfl, rfl, by go_num, by omega, by omega, hstA, hkp, hwl, by omega, hbrA⟩
            by_cases h2z : two = zz
            · have hb1z := zz_ne h1z
              have hb2z := zz_eq h2z
              clear h1z h2z
              go_wp2_with fail
              go_roundg (60 - (j + 1))
              case measure => omega
              case rel => exact ⟨al, j + 1, F, S, rfl, rfl, by go_num, by omega, by omega, hstA, hkp, hwl, by omega, hbrA⟩
            have hb1z := zz_ne h1z
            have hb2z := zz_ne h2z
            have H1Z := hide (fun h => h1z h.symm : zz ≠ one)
            have H2Z := hide (fun h => h2z h.symm : zz ≠ two)
            clear h1z h2z
            go_upto_if 139 with fail
            go_cut [23] from 106 to 215 (fun s wx => ∃ (al : List UInt8) (F : Nat → Prop) (S : Dk), s = .string ⟨al.toArray⟩ ∧ Stands w.heap.size wx F d S ∧ Kept zz S fz was.length al ∧ was.length ≤ al.length ∧ S.bulk ≤ 332000 + 2300 * j + 1004 ∧ Below w.heap.size wr wx ∧ ¬ F wr.heap.size ∧ wx.heap[wr.heap.size]? = some (.cells #[.int .i64 kind, .string (strB name), .string (strB tto), .slice ua ul uc, .int .i64 nn, .int .i64 torn] 35))
            case first =>
              by_cases hm : j < more.length
              · obtain ⟨mb, moff, rfl, hmb, u2, hu2, hub⟩ := Bs.at (h2.keep hbrA) hm
                have hub' := hub
                obtain ⟨va, vc, rfl, v1, v2, -, -⟩ := hub'
                obtain ⟨mm, -, hmm1, hmm2, hmm3⟩ := hub.thousand
                have HM2 := hide hmm2
                have hmx : (more[j]).length ≤ 9223372036854775807 := by unfold maxLen at v2; omega
                have hq3 : (0 : Int) ≤ min ((more[j]).length : Int) 1000 := by omega
                have hq4 : min ((more[j]).length : Int) 1000 ≤ (vc : Int) := by omega
                clear hmm2 hub
                generalize (more[j]).length = ml at *
                go_wp2_with fail
                refine wp_region_held_drew (S := fun W => W.cell? ⟨mb, moff + j, none⟩ = some (.slice va ml vc)) (by kernel_rfl) (hu2) (fun hHeld => ?_)
                refine takeH (i := 0) (v := ?_) rfl (by kernel_rfl) (by kernel_rfl) (by kernel_rfl) (fun _ _ _ h => h) rfl ?_ hHeld ?_
                rotate_left
                · intro w hS; (try dsimp only at hS); obtain hS0 := hS; go_simp; first | done | (with_reducible rfl)
                try simp only [Act.put, List.setIfInBounds_toArray, List.set_cons_zero, List.set_cons_succ]
                refine takeH (i := 1) (v := ?_) rfl (by kernel_rfl) (by kernel_rfl) (by kernel_rfl) (fun _ _ _ h => h) rfl ?_ hHeld ?_
                rotate_left
                · intro w hS; (try dsimp only at hS); obtain hS0 := hS; go_simp; first | done | (with_reducible rfl)
                try simp only [Act.put, List.setIfInBounds_toArray, List.set_cons_zero, List.set_cons_succ]
                refine takeH (i := 2) (v := ?_) rfl (by kernel_rfl) (by kernel_rfl) (by kernel_rfl) (fun _ _ _ h => h) rfl ?_ hHeld ?_
                rotate_left
                · intro w hS; (try dsimp only at hS); obtain hS0 := hS; go_simp; first | done | (with_reducible rfl)
                try simp only [Act.put, List.setIfInBounds_toArray, List.set_cons_zero, List.set_cons_succ]
                refine takeH (i := 3) (v := ?_) rfl (by kernel_rfl) (by kernel_rfl) (by kernel_rfl) (fun _ _ _ h => h) rfl ?_ hHeld ?_
                rotate_left
                · intro w hS; (try dsimp only at hS); obtain hS0 := hS; go_simp; first | done | (with_reducible rfl)
                try simp only [Act.put, List.setIfInBounds_toArray, List.set_cons_zero, List.set_cons_succ]
                refine takeH (i := 4) (v := ?_) rfl (by kernel_rfl) (by kernel_rfl) (by kernel_rfl) (fun _ _ _ h => h) rfl ?_ hHeld ?_
                rotate_left
                · intro w hS; (try dsimp only at hS); obtain hS0 := hS; go_simp; first | done | (with_reducible rfl)
                try simp only [Act.put, List.setIfInBounds_toArray, List.set_cons_zero, List.set_cons_succ]
                refine takeH (i := 5) (v := ?_) rfl (by kernel_rfl) (by kernel_rfl) (by kernel_rfl) (fun _ _ _ h => h) rfl ?_ hHeld ?_
                rotate_left
                · intro w hS; (try dsimp only at hS); obtain hS0 := hS; go_simp; first | done | (with_reducible rfl)
                try simp only [Act.put, List.setIfInBounds_toArray, List.set_cons_zero, List.set_cons_succ]
                refine takeH (i := 6) (v := ?_) rfl (by kernel_rfl) (by kernel_rfl) (by kernel_rfl) (fun _ _ _ h => h) rfl ?_ hHeld ?_
                rotate_left
                · intro w hS; (try dsimp only at hS); obtain hS0 := hS; go_simp; first | done | (with_reducible rfl)
                try simp only [Act.put, List.setIfInBounds_toArray, List.set_cons_zero, List.set_cons_succ]
                refine takeH (i := 7) (v := ?_) rfl (by kernel_rfl) (by kernel_rfl) (by kernel_rfl) (fun _ _ _ h => h) rfl ?_ hHeld ?_
                rotate_left
                · intro w hS; (try dsimp only at hS); obtain hS0 := hS; go_simp; first | done | (with_reducible rfl)
                try simp only [Act.put, List.setIfInBounds_toArray, List.set_cons_zero, List.set_cons_succ]
                refine takeH (i := 8) (v := ?_) rfl (by kernel_rfl) (by kernel_rfl) (by kernel_rfl) (fun _ _ _ h => h) rfl ?_ hHeld ?_
                rotate_left
                · intro w hS; (try dsimp only at hS); obtain hS0 := hS; go_simp; first | done | (with_reducible rfl)
                try simp only [Act.put, List.setIfInBounds_toArray, List.set_cons_zero, List.set_cons_succ]
                refine takeH (i := 9) (v := ?_) rfl (by kernel_rfl) (by kernel_rfl) (by kernel_rfl) (fun _ _ _ h => h) rfl ?_ hHeld ?_
                rotate_left
                · intro w hS; (try dsimp only at hS); obtain hS0 := hS; go_simp; first | done | (with_reducible rfl)
                try simp only [Act.put, List.setIfInBounds_toArray, List.set_cons_zero, List.set_cons_succ]
                refine takeH (i := 10) (v := ?_) rfl (by kernel_rfl) (by kernel_rfl) (by kernel_rfl) (fun _ _ _ h => h) rfl ?_ hHeld ?_
                rotate_left
                · intro w hS; (try dsimp only at hS); obtain hS0 := hS; go_simp; first | done | (with_reducible rfl)
                try simp only [Act.put, List.setIfInBounds_toArray, List.set_cons_zero, List.set_cons_succ]
                refine takeH (i := 11) (v := ?_) rfl (by kernel_rfl) (by kernel_rfl) (by kernel_rfl) (fun _ _ _ h => h) rfl ?_ hHeld ?_
                rotate_left
                · intro w hS; (try dsimp only at hS); obtain hS0 := hS; go_simp; first | done | (with_reducible rfl)
                try simp only [Act.put, List.setIfInBounds_toArray, List.set_cons_zero, List.set_cons_succ]
                refine onlyH (i := 12) rfl (by kernel_rfl) rfl (fun K hK => ?_)
                go_simp
                rw [HM2.out]
                have hst' := hstA.keep ((Chg.refl (fun _ => False) _).drew) (fun _ _ h => h)
                have hbd : Below w.heap.size _ (World.drew _) := (Below.refl _ (wr.alloc (.cells #[.int .i64 kind, .string (strB name), .string (strB tto), .slice ua ul uc, .int .i64 nn, .int .i64 torn] 35))).drew
                have hbn' := blk_new wr (.cells #[.int .i64 kind, .string (strB name), .string (strB tto), .slice ua ul uc, .int .i64 nn, .int .i64 torn] 35)
                refine (append_in hst' hzA zz (by omega) (hmm3.keep hbd)).mono ?_
                rintro e w6 ⟨rfl, ha⟩
                have hb6 := hbd.trans (ha.below hst' hzA)
                have hu6 := (hb6.cell (p := ⟨mb, moff + j, none⟩) hmb).trans hu2
                have hbk6 := bulk_append (S := S) zz mm
                obtain ⟨hy, hn⟩ := hkp.append_own mm
                have hal := hkp.len
                have haln : ¬ 9223372036854775807 < al.length + mm.length := by omega
                obtain ⟨F6, hs6, hF6, hc6⟩ := ha
                have hbw6 := hbA.trans hb6
                have hz6 := (hbr.trans hbw6).size
                have hnF6 : ¬ F6 wr.heap.size := fun hf => (hF6 _ hf).elim hnF (fun h => by simp at h; omega)
                have hbx6 := (hc6.block wr.heap.size (by simp) hnF).trans hbn'
                have hmm6 := (hmm3.keep hb6).sl hz6
                refine hK.out _ _ (hu6) (fun hHeld => ?_)
                clear hK K
                try simp only [Act.put, List.setIfInBounds_toArray, List.set_cons_zero, List.set_cons_succ]
                refine takeH (i := 13) (v := ?_) rfl (by kernel_rfl) (by kernel_rfl) (by kernel_rfl) (fun _ _ _ h => h) rfl ?_ hHeld ?_
                rotate_left
                · intro w hS; (try dsimp only at hS); obtain hS0 := hS; go_simp; first | done | (with_reducible rfl)
                try simp only [Act.put, List.setIfInBounds_toArray, List.set_cons_zero, List.set_cons_succ]
                refine wpAnyH_done (by kernel_rfl) ?_ _
                clear hHeld hst' hst hstA hu2 hc6 hF6 hbn hbn' hmm3
                generalize (S.append zz mm).1 = S6 at *
                generalize (S.append zz mm).2 = r6 at *
                by_cases hr : r6 = 0
                · have hkp6 := hy hr
                  subst hr
                  clear hy hn hkp
                  have hstr6 := run_str w6.drew _ mm (hmm6.keep ((Chg.refl (fun _ => False) _).drew) (fun _ _ h => h))
                  rw [← HM2.out] at hstr6
                  go_wp2_with fail
                  refine wp_region_held_drew (S := fun W => W.cell? ⟨mb, moff + j, none⟩ = some (.slice va ml vc) ∧ (convert 33 9 (.slice va (min (ml : Int) 1000).toNat vc)).run Try.prog W = .ok (.string ⟨mm.toArray⟩) W) (by kernel_rfl) (⟨hu6, hstr6⟩) (fun hHeld => ?_)
                  refine takeH (i := 0) (v := ?_) rfl (by kernel_rfl) (by kernel_rfl) (by kernel_rfl) (fun _ _ _ h => h) rfl ?_ hHeld ?_
                  rotate_left
                  · intro w hS; (try dsimp only at hS); obtain ⟨hS0, hS1⟩ := hS; go_simp; first | done | (with_reducible rfl)
                  try simp only [Act.put, List.setIfInBounds_toArray, List.set_cons_zero, List.set_cons_succ]
                  refine takeH (i := 1) (v := ?_) rfl (by kernel_rfl) (by kernel_rfl) (by kernel_rfl) (fun _ _ _ h => h) rfl ?_ hHeld ?_
                  rotate_left
                  · intro w hS; (try dsimp only at hS); obtain ⟨hS0, hS1⟩ := hS; go_simp; first | done | (with_reducible rfl)
                  try simp only [Act.put, List.setIfInBounds_toArray, List.set_cons_zero, List.set_cons_succ]
                  refine takeH (i := 2) (v := ?_) rfl (by kernel_rfl) (by kernel_rfl) (by kernel_rfl) (fun _ _ _ h => h) rfl ?_ hHeld ?_
                  rotate_left
                  · intro w hS; (try dsimp only at hS); obtain ⟨hS0, hS1⟩ := hS; go_simp; first | done | (with_reducible rfl)
                  try simp only [Act.put, List.setIfInBounds_toArray, List.set_cons_zero, List.set_cons_succ]
                  refine takeH (i := 3) (v := ?_) rfl (by kernel_rfl) (by kernel_rfl) (by kernel_rfl) (fun _ _ _ h => h) rfl ?_ hHeld ?_
                  rotate_left
                  · intro w hS; (try dsimp only at hS); obtain ⟨hS0, hS1⟩ := hS; go_simp; first | done | (with_reducible rfl)
                  try simp only [Act.put, List.setIfInBounds_toArray, List.set_cons_zero, List.set_cons_succ]
                  refine takeH (i := 4) (v := ?_) rfl (by kernel_rfl) (by kernel_rfl) (by kernel_rfl) (fun _ _ _ h => h) rfl ?_ hHeld ?_
                  rotate_left
                  · intro w hS; (try dsimp only at hS); obtain ⟨hS0, hS1⟩ := hS; go_simp; first | done | (with_reducible rfl)
                  try simp only [Act.put, List.setIfInBounds_toArray, List.set_cons_zero, List.set_cons_succ]
                  refine takeH (i := 5) (v := ?_) rfl (by kernel_rfl) (by kernel_rfl) (by kernel_rfl) (fun _ _ _ h => h) rfl ?_ hHeld ?_
                  rotate_left
                  · intro w hS; (try dsimp only at hS); obtain ⟨hS0, hS1⟩ := hS; go_simp; first | done | (with_reducible rfl)
                  try simp only [Act.put, List.setIfInBounds_toArray, List.set_cons_zero, List.set_cons_succ]
                  refine takeH (i := 6) (v := ?_) rfl (by kernel_rfl) (by kernel_rfl) (by kernel_rfl) (fun _ _ _ h => h) rfl ?_ hHeld ?_
                  rotate_left
                  · intro w hS; (try dsimp only at hS); obtain ⟨hS0, hS1⟩ := hS; go_simp; first | done | (with_reducible rfl)
                  try simp only [Act.put, List.setIfInBounds_toArray, List.set_cons_zero, List.set_cons_succ]
                  refine takeH (i := 7) (v := ?_) rfl (by kernel_rfl) (by kernel_rfl) (by kernel_rfl) (fun _ _ _ h => h) rfl ?_ hHeld ?_
                  rotate_left
                  · intro w hS; (try dsimp only at hS); obtain ⟨hS0, hS1⟩ := hS; go_simp; first | done | (with_reducible rfl)
                  try simp only [Act.put, List.setIfInBounds_toArray, List.set_cons_zero, List.set_cons_succ]
                  refine takeH (i := 8) (v := ?_) rfl (by kernel_rfl) (by kernel_rfl) (by kernel_rfl) (fun _ _ _ h => h) rfl ?_ hHeld ?_
                  rotate_left
                  · intro w hS; (try dsimp only at hS); obtain ⟨hS0, hS1⟩ := hS; go_simp; first | done | (with_reducible rfl)
                  try simp only [Act.put, List.setIfInBounds_toArray, List.set_cons_zero, List.set_cons_succ]
                  refine takeH (i := 9) (v := ?_) rfl (by kernel_rfl) (by kernel_rfl) (by kernel_rfl) (fun _ _ _ h => h) rfl ?_ hHeld ?_
                  rotate_left
                  · intro w hS; (try dsimp only at hS); obtain ⟨hS0, hS1⟩ := hS; go_simp; first | done | (with_reducible rfl)
                  try simp only [Act.put, List.setIfInBounds_toArray, List.set_cons_zero, List.set_cons_succ]
                  refine takeH (i := 10) (v := ?_) rfl (by kernel_rfl) (by kernel_rfl) (by kernel_rfl) (fun _ _ _ h => h) rfl ?_ hHeld ?_
                  rotate_left
                  · intro w hS; (try dsimp only at hS); obtain ⟨hS0, hS1⟩ := hS; go_simp; first | done | (with_reducible rfl)
                  try simp only [Act.put, List.setIfInBounds_toArray, List.set_cons_zero, List.set_cons_succ]
                  refine takeH (i := 11) (v := ?_) rfl (by kernel_rfl) (by kernel_rfl) (by kernel_rfl) (fun _ _ _ h => h) rfl ?_ hHeld ?_
                  rotate_left
                  · intro w hS; (try dsimp only at hS); obtain ⟨hS0, hS1⟩ := hS; go_simp; first | done | (with_reducible rfl)
                  try simp only [Act.put, List.setIfInBounds_toArray, List.set_cons_zero, List.set_cons_succ]
                  refine takeH (i := 12) (v := ?_) rfl (by kernel_rfl) (by kernel_rfl) (by kernel_rfl) (fun _ _ _ h => h) rfl ?_ hHeld ?_
                  rotate_left
                  · intro w hS; (try dsimp only at hS); obtain ⟨hS0, hS1⟩ := hS; go_simp; first | done | (with_reducible rfl)
                  try simp only [Act.put, List.setIfInBounds_toArray, List.set_cons_zero, List.set_cons_succ]
                  refine takeH (i := 13) (v := ?_) rfl (by kernel_rfl) (by kernel_rfl) (by kernel_rfl) (fun _ _ _ h => h) rfl ?_ hHeld ?_
                  rotate_left
                  · intro w hS; (try dsimp only at hS); obtain ⟨hS0, hS1⟩ := hS; go_simp; first | done | (with_reducible rfl)
                  try simp only [Act.put, List.setIfInBounds_toArray, List.set_cons_zero, List.set_cons_succ]
                  refine takeH (i := 14) (v := ?_) rfl (by kernel_rfl) (by kernel_rfl) (by kernel_rfl) (fun _ _ _ h => h) rfl ?_ hHeld ?_
                  rotate_left
                  · intro w hS; (try dsimp only at hS); obtain ⟨hS0, hS1⟩ := hS; go_simp; first | done | (with_reducible rfl)
                  try simp only [Act.put, List.setIfInBounds_toArray, List.set_cons_zero, List.set_cons_succ]
                  refine wpAnyH_done (by kernel_rfl) ?_ _
                  go_wp2_with fail
                  go_meet
                  exact ⟨al ++ mm, F6, S6, by rw [arr_app], hs6.keep ((Chg.refl (fun _ => False) _).drew) (fun _ _ h => h), hkp6, by simp; omega, by omega, hbw6.drew, hnF6, hbx6⟩
                · have hrb : (r6 == 0) = false := by simp [hr]
                  have hkp6 := hn hr
                  clear hy hn hkp
                  go_wp2
                  go_meet
                  exact ⟨al, F6, S6, rfl, hs6, hkp6, hwl, by omega, hbw6, hnF6, hbx6⟩
              · go_wp2
                go_meet
                exact ⟨al, F, S, rfl, hstA, hkp, hwl, by omega, hbA, hnF, hbn⟩
            case rest =>
            generalize wr.heap.size = bx at *
            clear hstA hst hcA hbA hbrA hzA hnF hbn hkp hwl hbu
            obtain ⟨al2, F9, S9, rfl, hsC, hkC, hwl2, hbuC, hbC0, hbxF, kbx⟩ := hcut
            have hbC := hbr.trans hbC0
            have hzC := hbC.size
            have hbxl : bx < wc.heap.size := (Array.getElem?_eq_some_iff.1 kbx).1
            have k0 := cell_of kbx 0
            have k3 := cell_of kbx 3
            have k4 := cell_of kbx 4
            go_wp2_with fail
            refine (hpk _).mono ?_
            rintro e w3 ⟨rfl, rfl⟩
            have hcase : pk kind 7 = 0 ∨ pk kind 7 = 1 ∨ pk kind 7 = 2 ∨ pk kind 7 = 3 ∨ pk kind 7 = 4 ∨ pk kind 7 = 5 ∨ pk kind 7 = 6 := by omega
            generalize pk kind 7 = kk at *
            clear hpk hpr d0 d1 d2 d3 d4 d5
            rcases hcase with rfl | rfl | rfl | rfl | rfl | rfl | rfl
            · go_wp2_with fail
              rw [HM1.out]
              refine (append_in hsC hzC one (by omega) (hom3.keep hbC0)).mono ?_
              rintro e w4 ⟨rfl, ha⟩
              have hb4 := hbC.trans (ha.below hsC hzC)
              have hbk := bulk_append (S := S9) one om
              have hkp4 := hkC.append hsC.ok H1Z.out om
              obtain ⟨F4, hs4, -⟩ := ha.stands
              clear ha hsC
              go_wp2_with fail
              go_roundg (60 - (j + 1))
              case measure => omega
              case rel => exact ⟨al2, j + 1, F4, _, rfl, rfl, by go_num, by omega, by omega, hs4, hkp4, hwl2, by omega, hb4⟩
            · go_wp2_with fail
              rw [HM1.out]
              refine (append_in hsC hzC one (by omega) (hom3.keep hbC0)).mono ?_
              rintro e w4 ⟨rfl, ha⟩
              have hb4 := hbC.trans (ha.below hsC hzC)
              have hbk := bulk_append (S := S9) one om
              have hkp4 := hkC.append hsC.ok H1Z.out om
              obtain ⟨F4, hs4, -⟩ := ha.stands
              clear ha hsC
              go_wp2_with fail
              go_roundg (60 - (j + 1))
              case measure => omega
              case rel => exact ⟨al2, j + 1, F4, _, rfl, rfl, by go_num, by omega, by omega, hs4, hkp4, hwl2, by omega, hb4⟩
            · go_wp2_with fail
              refine (sync_lies hsC hzC one (by omega)).mono ?_
              rintro e w4 ⟨rfl, ha⟩
              have hb4 := hbC.trans (ha.below hsC hzC)
              have hbk := bulk_sync (S := S9) one
              have hkp4 := hkC.sync hsC.ok H1Z.out
              obtain ⟨F4, hs4, -⟩ := ha.stands
              clear ha hsC
              go_wp2_with fail
              go_roundg (60 - (j + 1))
              case measure => omega
              case rel => exact ⟨al2, j + 1, F4, _, rfl, rfl, by go_num, by omega, by omega, hs4, hkp4, hwl2, by omega, hb4⟩
            · go_wp2_with fail
              refine (syncDir_lies hsC hzC (by omega)).mono ?_
              rintro e w4 ⟨rfl, ha⟩
              have hb4 := hbC.trans (ha.below hsC hzC)
              have hbk := bulk_syncDir (S := S9)
              have hkp4 := hkC.syncDir
              obtain ⟨F4, hs4, -⟩ := ha.stands
              clear ha hsC
              go_wp2_with fail
              go_roundg (60 - (j + 1))
              case measure => omega
              case rel => exact ⟨al2, j + 1, F4, _, rfl, rfl, by go_num, by omega, by omega, hs4, hkp4, hwl2, by omega, hb4⟩
            · go_wp2_with fail
              refine (rename_lies hsC hzC one two (by omega)).mono ?_
              rintro e w4 ⟨rfl, ha⟩
              have hb4 := hbC.trans (ha.below hsC hzC)
              have hbk := bulk_rename (S := S9) one two
              have hkp4 := hkC.rename H1Z.out H2Z.out
              obtain ⟨F4, hs4, -⟩ := ha.stands
              clear ha hsC
              go_wp2_with fail
              go_roundg (60 - (j + 1))
              case measure => omega
              case rel => exact ⟨al2, j + 1, F4, _, rfl, rfl, by go_num, by omega, by omega, hs4, hkp4, hwl2, by omega, hb4⟩
            · go_wp2_with fail
              refine (remove_lies hsC hzC one (by omega)).mono ?_
              rintro e w4 ⟨rfl, ha⟩
              have hb4 := hbC.trans (ha.below hsC hzC)
              have hbk := bulk_remove (S := S9) one
              have hkp4 := hkC.remove H1Z.out
              obtain ⟨F4, hs4, -⟩ := ha.stands
              clear ha hsC
              go_wp2_with fail
              go_roundg (60 - (j + 1))
              case measure => omega
              case rel => exact ⟨al2, j + 1, F4, _, rfl, rfl, by go_num, by omega, by omega, hs4, hkp4, hwl2, by omega, hb4⟩
            · have hp9 := pk_range (c := nn) (n := 9) (by omega)
              have hn0 := n_le S9
              go_wp2_with fail
              refine wp_region_held_drew (S := fun W => W.cell? ⟨bx, 4, none⟩ = some (.int .i64 nn)) (by kernel_rfl) (k4) (fun hHeld => ?_)
              refine takeH (i := 0) (v := ?_) rfl (by kernel_rfl) (by kernel_rfl) (by kernel_rfl) (fun _ _ _ h => h) rfl ?_ hHeld ?_
              rotate_left
              · intro w hS; (try dsimp only at hS); obtain hS0 := hS; go_simp; first | done | (with_reducible rfl)
              try simp only [Act.put, List.setIfInBounds_toArray, List.set_cons_zero, List.set_cons_succ]
              refine takeH (i := 1) (v := ?_) rfl (by kernel_rfl) (by kernel_rfl) (by kernel_rfl) (fun _ _ _ h => h) rfl ?_ hHeld ?_
              rotate_left
              · intro w hS; (try dsimp only at hS); obtain hS0 := hS; go_simp; first | done | (with_reducible rfl)
              try simp only [Act.put, List.setIfInBounds_toArray, List.set_cons_zero, List.set_cons_succ]
              refine takeH (i := 3) (v := ?_) rfl (by kernel_rfl) (by kernel_rfl) (by kernel_rfl) (fun _ _ _ h => h) rfl ?_ hHeld ?_
              rotate_left
              · intro w hS; (try dsimp only at hS); obtain hS0 := hS; go_simp; first | done | (with_reducible rfl)
              try simp only [Act.put, List.setIfInBounds_toArray, List.set_cons_zero, List.set_cons_succ]
              refine takeH (i := 4) (v := ?_) rfl (by kernel_rfl) (by kernel_rfl) (by kernel_rfl) (fun _ _ _ h => h) rfl ?_ hHeld ?_
              rotate_left
              · intro w hS; (try dsimp only at hS); obtain hS0 := hS; go_simp; first | done | (with_reducible rfl)
              try simp only [Act.put, List.setIfInBounds_toArray, List.set_cons_zero, List.set_cons_succ]
              refine onlyH (i := 2) rfl (by kernel_rfl) rfl (fun K hK => ?_)
              go_simp
              have hsB := hsC.keep ((Chg.refl (fun _ => False) _).drew) (fun _ _ h => h)
              have hbB := hbC.drew
              refine (ops_lies hsB).mono ?_
              rintro e w4 ⟨rfl, rfl⟩
              refine hK.out _ _ (k4) (fun hHeld => ?_)
              clear hK K
              try simp only [Act.put, List.setIfInBounds_toArray, List.set_cons_zero, List.set_cons_succ]
              refine onlyH (i := 5) rfl (by kernel_rfl) rfl (fun K hK => ?_)
              go_simp
              refine (pick_any _ nn 9 r4' (by omega)).mono ?_
              rintro e w5 ⟨rfl, rfl⟩
              generalize pk nn 9 = k9 at *
              refine hK.out _ _ (k4) (fun hHeld => ?_)
              clear hK K
              try simp only [Act.put, List.setIfInBounds_toArray, List.set_cons_zero, List.set_cons_succ]
              refine takeH (i := 6) (v := ?_) rfl (by kernel_rfl) (by kernel_rfl) (by kernel_rfl) (fun _ _ _ h => h) rfl ?_ hHeld ?_
              rotate_left
              · intro w hS; (try dsimp only at hS); obtain hS0 := hS; go_simp; first | done | (with_reducible rfl)
              try simp only [Act.put, List.setIfInBounds_toArray, List.set_cons_zero, List.set_cons_succ]
              refine onlyH (i := 7) rfl (by kernel_rfl) rfl (fun K hK => ?_)
              go_simp
              have hbX : Below w3.heap.size w3 _ := chg_below (((Chg.refl (fun _ => False) w3).alloc (.cells #[.int .i64 (IntKind.i64.wrap ((S9.n : Int) + k9))] 3)).drew) (by simp)
              have hS10 := (hbX.cell (p := ⟨bx, 4, none⟩) hbxl).trans k4
              refine hK.out _ _ (hS10) (fun hHeld => ?_)
              clear hK K
              try simp only [Act.put, List.setIfInBounds_toArray, List.set_cons_zero, List.set_cons_succ]
              refine onlyH (i := 8) rfl (by kernel_rfl) rfl (fun K hK => ?_)
              go_simp
              rw [drew_alloc]
              have hfa := failAt_one hsB hzC (IntKind.i64.wrap ((S9.n : Int) + k9))
              refine hfa.mono ?_
              rintro e w6 ⟨rfl, ha⟩
              have hb6 := hbB.trans (ha.below hsB hzC)
              obtain ⟨F4, hs4, -, hcg⟩ := ha
              have hbk := hcg.block bx hbxl hbxF
              have hS11 : w6.cell? ⟨bx, 4, none⟩ = some (.int .i64 nn) := cell_of (hbk.trans kbx) 4
              have hkp4 := hkC.failAt [IntKind.i64.wrap ((S9.n : Int) + k9)]
              clear hcg hsC hsB
              refine hK.out _ _ (hS11) (fun hHeld => ?_)
              clear hK K
              try simp only [Act.put, List.setIfInBounds_toArray, List.set_cons_zero, List.set_cons_succ]
              refine wpAnyH_done (by kernel_rfl) ?_ _
              go_wp2_with fail
              go_roundg (60 - (j + 1))
              case measure => omega
              case rel => exact ⟨al2, j + 1, F4, _, rfl, rfl, by go_num, by omega, by omega, hs4, hkp4, hwl2, by simp only [Dk.bulk, Dk.failAt] at *; omega, hb6⟩
          · have hbm : S.bulk ≤ 472000 := by omega
            by_cases hA : j < th.length
            · have hA2 : ¬ (j : Int) < 60 := by omega
              go_wp2
              go_meet
              exact ⟨al, F, S, rfl, hst, hkp, hwl, hbm, hbr⟩
            · go_wp2
              go_meet
              exact ⟨al, F, S, rfl, hst, hkp, hwl, hbm, hbr⟩
      case rest =>
        clear hs8 hb8 hstr hkp hbu8 hbu7 hbu6
        obtain ⟨al, F9, S9, rfl, hs9, hkp9, hwl9, hbu9, hb9⟩ := hcut
        have hz9 := hb9.size
        have hlen := hkp9.len
        obtain ⟨hlk, k, hbt, hwk⟩ := hkp9.crash keep t hwl9
        have hrd := (calm_crash (S := S9) keep t).read (n := zz) (by decide) hlk
        rw [hbt] at hrd
        have hbc := bulk_crash (S := S9) keep t
        have hxl : (al.take k).length ≤ al.length := by simp; omega
        have hxe : al.take (al.take k).length = al.take k := by
          rw [List.length_take]
          rcases Nat.le_total k al.length with h | h
          · rw [Nat.min_eq_left h]
          · rw [Nat.min_eq_right h, List.take_length, List.take_of_length_le h]
        generalize al.take k = x at *
        clear hbt hlk hkp9
        go_wp2_with fail
        refine (crash_lies hs9 hz9 keep t (by omega)).mono ?_
        rintro e w10 ⟨dx, FX, rfl, hsx, -, hc10⟩
        have hb10 := hb9.trans (chg_below hc10 hz9)
        have hz10 := hb10.size
        clear hs9 hc10 hb9
        go_wp2_with fail
        refine (read_lies hsx hz10 zz (by omega)).mono ?_
        rintro e w11 ⟨v, rfl, hrow, FX', -, -, hc11, -⟩
        have hb11 := hb10.trans (hsx.below hz10 hc11)
        rw [hrd] at hrow ⊢
        have hsl := sl_of_own hrow
        have hstr := run_str w11.drew v _ (hsl.keep ((Chg.refl (fun _ => False) _).drew) (fun _ _ h => h))
        have hfin : (((⟨al.toArray⟩ : ByteArray).extract 0 x.length).toList == x) = true := by
          rw [beq_iff_eq, ByteArray.toList_eq, ← hxe]
          simp
        obtain ⟨xa, xc, rfl, -, -, -, -⟩ := hsl
        clear hsx hrow hrd hc11 hb10
        dsimp only at hstr
        go_wp2_with fail
        refine wp_region_held_drew (S := fun W => (convert 33 9 (.slice xa x.length xc)).run Try.prog W = .ok (.string ⟨x.toArray⟩) W) (by kernel_rfl) (hstr) (fun hHeld => ?_)
        refine takeH (i := 0) (v := ?_) rfl (by kernel_rfl) (by kernel_rfl) (by kernel_rfl) (fun _ _ _ h => h) rfl ?_ hHeld ?_
        rotate_left
        · intro w hS; (try dsimp only at hS); obtain hS0 := hS; go_simp; first | done | (with_reducible rfl)
        try simp only [Act.put, List.setIfInBounds_toArray, List.set_cons_zero, List.set_cons_succ]
        refine takeH (i := 1) (v := ?_) rfl (by kernel_rfl) (by kernel_rfl) (by kernel_rfl) (fun _ _ _ h => h) rfl ?_ hHeld ?_
        rotate_left
        · intro w hS; (try dsimp only at hS); obtain hS0 := hS; go_simp; first | done | (with_reducible rfl)
        try simp only [Act.put, List.setIfInBounds_toArray, List.set_cons_zero, List.set_cons_succ]
        refine takeH (i := 2) (v := ?_) rfl (by kernel_rfl) (by kernel_rfl) (by kernel_rfl) (fun _ _ _ h => h) rfl ?_ hHeld ?_
        rotate_left
        · intro w hS; (try dsimp only at hS); obtain hS0 := hS; go_simp; first | done | (with_reducible rfl)
        try simp only [Act.put, List.setIfInBounds_toArray, List.set_cons_zero, List.set_cons_succ]
        refine takeH (i := 3) (v := ?_) rfl (by kernel_rfl) (by kernel_rfl) (by kernel_rfl) (fun _ _ _ h => h) rfl ?_ hHeld ?_
        rotate_left
        · intro w hS; (try dsimp only at hS); obtain hS0 := hS; go_simp; first | done | (with_reducible rfl)
        try simp only [Act.put, List.setIfInBounds_toArray, List.set_cons_zero, List.set_cons_succ]
        refine takeH (i := 4) (v := ?_) rfl (by kernel_rfl) (by kernel_rfl) (by kernel_rfl) (fun _ _ _ h => h) rfl ?_ hHeld ?_
        rotate_left
        · intro w hS; (try dsimp only at hS); obtain hS0 := hS; go_simp; first | done | (with_reducible rfl)
        try simp only [Act.put, List.setIfInBounds_toArray, List.set_cons_zero, List.set_cons_succ]
        refine takeH (i := 5) (v := ?_) rfl (by kernel_rfl) (by kernel_rfl) (by kernel_rfl) (fun _ _ _ h => h) rfl ?_ hHeld ?_
        rotate_left
        · intro w hS; (try dsimp only at hS); obtain hS0 := hS; go_simp; first | done | (with_reducible rfl)
        try simp only [Act.put, List.setIfInBounds_toArray, List.set_cons_zero, List.set_cons_succ]
        refine takeH (i := 6) (v := ?_) rfl (by kernel_rfl) (by kernel_rfl) (by kernel_rfl) (fun _ _ _ h => h) rfl ?_ hHeld ?_
        rotate_left
        · intro w hS; (try dsimp only at hS); obtain hS0 := hS; go_simp; first | done | (with_reducible rfl)
        try simp only [Act.put, List.setIfInBounds_toArray, List.set_cons_zero, List.set_cons_succ]
        refine takeH (i := 7) (v := ?_) rfl (by kernel_rfl) (by kernel_rfl) (by kernel_rfl) (fun _ _ _ h => h) rfl ?_ hHeld ?_
        rotate_left
        · intro w hS; (try dsimp only at hS); obtain hS0 := hS; go_simp; first | done | (with_reducible rfl)
        try simp only [Act.put, List.setIfInBounds_toArray, List.set_cons_zero, List.set_cons_succ]
        refine takeH (i := 8) (v := ?_) rfl (by kernel_rfl) (by kernel_rfl) (by kernel_rfl) (fun _ _ _ h => h) rfl ?_ hHeld ?_
        rotate_left
        · intro w hS; (try dsimp only at hS); obtain hS0 := hS; go_simp; first | done | (with_reducible rfl)
        try simp only [Act.put, List.setIfInBounds_toArray, List.set_cons_zero, List.set_cons_succ]
        refine takeH (i := 9) (v := ?_) rfl (by kernel_rfl) (by kernel_rfl) (by kernel_rfl) (fun _ _ _ h => h) rfl ?_ hHeld ?_
        rotate_left
        · intro w hS; (try dsimp only at hS); obtain hS0 := hS; go_simp; first | done | (with_reducible rfl)
        try simp only [Act.put, List.setIfInBounds_toArray, List.set_cons_zero, List.set_cons_succ]
        refine takeH (i := 10) (v := ?_) rfl (by kernel_rfl) (by kernel_rfl) (by kernel_rfl) (fun _ _ _ h => h) rfl ?_ hHeld ?_
        rotate_left
        · intro w hS; (try dsimp only at hS); obtain hS0 := hS; go_simp; first | done | (with_reducible rfl)
        try simp only [Act.put, List.setIfInBounds_toArray, List.set_cons_zero, List.set_cons_succ]
        refine takeH (i := 11) (v := ?_) rfl (by kernel_rfl) (by kernel_rfl) (by kernel_rfl) (fun _ _ _ h => h) rfl ?_ hHeld ?_
        rotate_left
        · intro w hS; (try dsimp only at hS); obtain hS0 := hS; go_simp; first | done | (with_reducible rfl)
        try simp only [Act.put, List.setIfInBounds_toArray, List.set_cons_zero, List.set_cons_succ]
        refine takeH (i := 12) (v := ?_) rfl (by kernel_rfl) (by kernel_rfl) (by kernel_rfl) (fun _ _ _ h => h) rfl ?_ hHeld ?_
        rotate_left
        · intro w hS; (try dsimp only at hS); obtain hS0 := hS; go_simp; first | done | (with_reducible rfl)
        try simp only [Act.put, List.setIfInBounds_toArray, List.set_cons_zero, List.set_cons_succ]
        refine takeH (i := 13) (v := ?_) rfl (by kernel_rfl) (by kernel_rfl) (by kernel_rfl) (fun _ _ _ h => h) rfl ?_ hHeld ?_
        rotate_left
        · intro w hS; (try dsimp only at hS); obtain hS0 := hS; go_simp; first | done | (with_reducible rfl)
        try simp only [Act.put, List.setIfInBounds_toArray, List.set_cons_zero, List.set_cons_succ]
        refine takeH (i := 14) (v := ?_) rfl (by kernel_rfl) (by kernel_rfl) (by kernel_rfl) (fun _ _ _ h => h) rfl ?_ hHeld ?_
        rotate_left
        · intro w hS; (try dsimp only at hS); obtain hS0 := hS; go_simp; first | done | (with_reducible rfl)
        try simp only [Act.put, List.setIfInBounds_toArray, List.set_cons_zero, List.set_cons_succ]
        refine takeH (i := 15) (v := ?_) rfl (by kernel_rfl) (by kernel_rfl) (by kernel_rfl) (fun _ _ _ h => h) rfl ?_ hHeld ?_
        rotate_left
        · intro w hS; (try dsimp only at hS); obtain hS0 := hS; go_simp; first | done | (with_reducible rfl)
        try simp only [Act.put, List.setIfInBounds_toArray, List.set_cons_zero, List.set_cons_succ]
        refine takeH (i := 16) (v := ?_) rfl (by kernel_rfl) (by kernel_rfl) (by kernel_rfl) (fun _ _ _ h => h) rfl ?_ hHeld ?_
        rotate_left
        · intro w hS; (try dsimp only at hS); obtain hS0 := hS; go_simp; first | done | (with_reducible rfl)
        try simp only [Act.put, List.setIfInBounds_toArray, List.set_cons_zero, List.set_cons_succ]
        refine takeH (i := 17) (v := ?_) rfl (by kernel_rfl) (by kernel_rfl) (by kernel_rfl) (fun _ _ _ h => h) rfl ?_ hHeld ?_
        rotate_left
        · intro w hS; (try dsimp only at hS); obtain hS0 := hS; go_simp; first | done | (with_reducible rfl)
        try simp only [Act.put, List.setIfInBounds_toArray, List.set_cons_zero, List.set_cons_succ]
        refine takeH (i := 18) (v := ?_) rfl (by kernel_rfl) (by kernel_rfl) (by kernel_rfl) (fun _ _ _ h => h) rfl ?_ hHeld ?_
        rotate_left
        · intro w hS; (try dsimp only at hS); obtain hS0 := hS; go_simp; first | done | (with_reducible rfl)
        try simp only [Act.put, List.setIfInBounds_toArray, List.set_cons_zero, List.set_cons_succ]
        refine takeH (i := 19) (v := ?_) rfl (by kernel_rfl) (by kernel_rfl) (by kernel_rfl) (fun _ _ _ h => h) rfl ?_ hHeld ?_
        rotate_left
        · intro w hS; (try dsimp only at hS); obtain hS0 := hS; go_simp; first | done | (with_reducible rfl)
        try simp only [Act.put, List.setIfInBounds_toArray, List.set_cons_zero, List.set_cons_succ]
        refine takeH (i := 20) (v := ?_) rfl (by kernel_rfl) (by kernel_rfl) (by kernel_rfl) (fun _ _ _ h => h) rfl ?_ hHeld ?_
        rotate_left
        · intro w hS; (try dsimp only at hS); obtain hS0 := hS; go_simp; first | done | (with_reducible rfl)
        try simp only [Act.put, List.setIfInBounds_toArray, List.set_cons_zero, List.set_cons_succ]
        refine takeH (i := 21) (v := ?_) rfl (by kernel_rfl) (by kernel_rfl) (by kernel_rfl) (fun _ _ _ h => h) rfl ?_ hHeld ?_
        rotate_left
        · intro w hS; (try dsimp only at hS); obtain hS0 := hS; go_simp; first | done | (with_reducible rfl)
        try simp only [Act.put, List.setIfInBounds_toArray, List.set_cons_zero, List.set_cons_succ]
        refine takeH (i := 22) (v := ?_) rfl (by kernel_rfl) (by kernel_rfl) (by kernel_rfl) (fun _ _ _ h => h) rfl ?_ hHeld ?_
        rotate_left
        · intro w hS; (try dsimp only at hS); obtain hS0 := hS; go_simp; first | done | (with_reducible rfl)
        try simp only [Act.put, List.setIfInBounds_toArray, List.set_cons_zero, List.set_cons_succ]
        refine takeH (i := 23) (v := ?_) rfl (by kernel_rfl) (by kernel_rfl) (by kernel_rfl) (fun _ _ _ h => h) rfl ?_ hHeld ?_
        rotate_left
        · intro w hS; (try dsimp only at hS); obtain hS0 := hS; go_simp; first | done | (with_reducible rfl)
        try simp only [Act.put, List.setIfInBounds_toArray, List.set_cons_zero, List.set_cons_succ]
        refine takeH (i := 24) (v := ?_) rfl (by kernel_rfl) (by kernel_rfl) (by kernel_rfl) (fun _ _ _ h => h) rfl ?_ hHeld ?_
        rotate_left
        · intro w hS; (try dsimp only at hS); obtain hS0 := hS; go_simp; first | done | (with_reducible rfl)
        try simp only [Act.put, List.setIfInBounds_toArray, List.set_cons_zero, List.set_cons_succ]
        refine takeH (i := 25) (v := ?_) rfl (by kernel_rfl) (by kernel_rfl) (by kernel_rfl) (fun _ _ _ h => h) rfl ?_ hHeld ?_
        rotate_left
        · intro w hS; (try dsimp only at hS); obtain hS0 := hS; go_simp; first | done | (with_reducible rfl)
        try simp only [Act.put, List.setIfInBounds_toArray, List.set_cons_zero, List.set_cons_succ]
        refine wpAnyH_done (by kernel_rfl) ?_ _
        go_wp2
        go_ret
        exact ⟨rfl, hb11.drew⟩
end Go.Proofs.Ytbedacdakmcfpaa
