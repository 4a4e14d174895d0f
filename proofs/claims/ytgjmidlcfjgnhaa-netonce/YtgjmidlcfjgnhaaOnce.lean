/-
  NetOnce, walked. Conditions: what came in lies there, within reach.
-/
import Derived.Test.YtgjmidlcfjgnhaaOnce1
import Derived.Deep.CutBlock
import Derived.Deep.CutRange
import Derived.Deep.LoopGhost
namespace Go.Proofs.Ytgjmidlcfjgnhaa
open Go.RowKit

theorem take_kind {l : List Ft} {j : Nat} (h : j < l.length) : (l.take (j + 1)).filter kindO = (l.take j).filter kindO ++ (if kindO l[j] then [l[j]] else []) := by
  rw [List.take_succ_eq_append_getElem h, List.filter_append]
  congr 1
  simp [List.filter_cons]
theorem take_loses {l : List Ft} {j : Nat} (h : j < l.length) : loses (l.take (j + 1)) = loses (l.take j) + (if l[j].1 = 1 then 1 else 0) := by
  unfold loses
  rw [List.take_succ_eq_append_getElem h, List.countP_append, List.countP_singleton]
  simp
theorem loses_kind (l : List Ft) : loses (l.filter kindO) = loses l := by
  unfold loses
  induction l with
  | nil => rfl
  | cons f r ih =>
    rw [List.filter_cons, List.countP_cons]
    by_cases h : kindO f = true
    · rw [if_pos h, List.countP_cons, ih]
    · rw [if_neg h, ih]
      have : ¬ f.1 = 1 := fun e => h (by unfold kindO; simp [e])
      simp [this]

set_option maxRecDepth 40000 in
set_option maxHeartbeats 8000000 in
theorem once_any (w : World) (v : Value) (l : List Ft) (many : Int) (hv : Fs w v l) (hI : ∀ f ∈ l, I64 f.2.1) (hll : l.length ≤ 4611686018427387904) (hm : I64 many) :
    Calls Try.prog 5 #[v, .int .i64 many] w fun e w' => e = .returned (.bool true) ∧ Below w.heap.size w w' := by
  obtain ⟨ao, cap, rfl, v1, v2, v4⟩ := hv
  unfold I64 at hm
  go_enter Try.func5, Try.ntmps5
  go_wp2_with fail
  refine (shown_any w).mono ?_
  rintro e w1 ⟨rfl, hb1⟩
  go_upto_if 26 with fail
  go_cut [1] from 26 to 29 (fun z wx => wx = w1 ∧ ∃ q : Int, z = .int .i64 q ∧ 0 ≤ q ∧ q ≤ 9223372036854775807)
  case first =>
    by_cases h0 : many < 0
    · have hw1 : IntKind.i64.wrap (many + 1) = many + 1 := by rw [IntKind.wrap_i64]; omega
      have hw2 : IntKind.i64.wrap (-(many + 1)) = -(many + 1) := by rw [IntKind.wrap_i64]; omega
      go_wp2_with fail
      go_meet
      exact ⟨rfl, _, rfl, by omega, by omega⟩
    · go_wp2_with fail
      go_meet
      exact ⟨rfl, _, rfl, by omega, by omega⟩
  case rest =>
    obtain ⟨rfl, q, rfl, hq0, hq1⟩ := hcut
    obtain ⟨mn, hmn, hmn2⟩ : ∃ mn : Nat, q.tmod 50 = (mn : Int) ∧ mn < 50 := by
      have h1 := Int.emod_nonneg q (show (50 : Int) ≠ 0 by omega)
      have h2 := Int.emod_lt_of_pos q (show (0 : Int) < 50 by omega)
      refine ⟨(q % 50).toNat, ?_, by omega⟩
      rw [Int.tmod_eq_emod_of_nonneg hq0]
      omega
    go_upto_block 0 with fail
    go_cut [6, 8] from 32 to 77 (fun z lo wx => OwnF wx w.heap.size z ((l.take 60).filter kindO) ∧ lo = .int .i64 (loses (l.take 60) : Int) ∧ Below w.heap.size w wx)
    case first =>
      go_wp2_with fail
      go_loopw [6, 7, 8, 9] (fun z he lo i wr => ∃ (j hd : Nat), he = .int .i64 (hd : Int) ∧ lo = .int .i64 (loses (l.take j) : Int) ∧ i = .int .i64 (j : Int) ∧ j ≤ l.length ∧ j ≤ 60 ∧ hd ≤ j ∧ OwnF wr w.heap.size z ((l.take j).filter kindO) ∧ Below w.heap.size w wr)
        (fun _ _ _ i _ => 60 - (intOf i).toNat)
      case atStart => exact ⟨0, 0, rfl, rfl, rfl, by omega, by omega, by omega, World.ownsRow_nil _ _ _ _, hb1⟩
      case round =>
        obtain ⟨j, hd, rfl, rfl, rfl, hj1, hj2, hhd, ho, hb⟩ := hrel
        by_cases hlt : j < l.length ∧ j < 60
        · obtain ⟨j1, j2⟩ := hlt
          obtain ⟨b, off, rfl, hbl, hcell⟩ := v4 (by rintro rfl; simp at j1)
          have c0 := (hb.cell (p := ⟨b, off + j * 3 + 0, none⟩) hbl).trans (hcell j j1 0 _ rfl)
          have c1 := (hb.cell (p := ⟨b, off + j * 3 + 1, none⟩) hbl).trans (hcell j j1 1 _ rfl)
          have c2 := (hb.cell (p := ⟨b, off + j * 3 + 2, none⟩) hbl).trans (hcell j j1 2 _ rfl)
          simp only [Nat.add_zero] at c0
          have HT := hide (take_kind j1)
          have HL := hide (take_loses j1)
          have hlen : ((l.take j).filter kindO).length ≤ 60 := Nat.le_trans (List.length_filter_le ..) (by rw [List.length_take]; omega)
          have hlos : loses (l.take j) ≤ 60 := Nat.le_trans List.countP_le_length (by rw [List.length_take]; omega)
          clear hcell v4
          generalize l[j] = f at *
          generalize hL : (l.take j).filter kindO = L at *
          generalize hLs : loses (l.take j) = Ls at *
          have hz1 := heap_last wr (.cells #[.int .i64 f.1, .int .i64 f.2.1, .int .u8 (f.2.2.toNat : Int)] 35)
          have hb2 : Below w.heap.size w (wr.alloc (.cells #[.int .i64 f.1, .int .i64 f.2.1, .int .u8 (f.2.2.toNat : Int)] 35)) := hb.alloc hb.size _
          have k1 : Chg (fun _ => False) wr (wr.alloc (.cells #[.int .i64 f.1, .int .i64 f.2.1, .int .u8 (f.2.2.toNat : Int)] 35)) := (Chg.refl _ _).alloc _
          generalize hw2 : wr.alloc (.cells #[.int .i64 f.1, .int .i64 f.2.1, .int .u8 (f.2.2.toNat : Int)] 35) = w2 at *
          have ho2 : OwnF w2 w.heap.size u6 L := own_keep ho k1 (fun _ _ h => h)
          have d0 := cell_of hz1 0
          have d1 := cell_of hz1 1
          have d2 := cell_of hz1 2
          simp only [List.getElem?_toArray, List.getElem?_cons_zero, List.getElem?_cons_succ] at d0 d1 d2
          have hlit : OwnF (w2.alloc (.cells #[.int .i64 f.1, .int .i64 f.2.1, .int .u8 (f.2.2.toNat : Int)] 35)) w2.heap.size (.slice (some ⟨w2.heap.size, 0, none⟩) 1 1) [f] := ownF_lit w2 [f] (by simp)
          have k2 : Chg (fun _ => False) w2 (w2.alloc (.cells #[.int .i64 f.1, .int .i64 f.2.1, .int .u8 (f.2.2.toNat : Int)] 35)) := (Chg.refl _ _).alloc _
          have hb3 := hb2.alloc hb2.size (.cells #[.int .i64 f.1, .int .i64 f.2.1, .int .u8 (f.2.2.toNat : Int)] 35)
          have ho3 : OwnF (w2.alloc (.cells #[.int .i64 f.1, .int .i64 f.2.1, .int .u8 (f.2.2.toNat : Int)] 35)) w.heap.size u6 L := own_keep ho2 k2 (fun _ _ h => h)
          obtain ⟨v', w3, hrun, ho4, hgr, hnx⟩ := app_fates _ w.heap.size u6 L _ [f] ho3 hlit.fs hb3.size (by simp; omega)
          have k23 : Chg (fun k => some k = u6.ownBlock) w2 w3 := (k2.mono (fun _ _ h => h.elim)).then (Chg.of_grown hgr)
          have hz3 := k23.keep hz1 (fun h => by have := (own_lt ho h.symm).2; omega)
          have e0 := cell_of hz3 0
          simp only [List.getElem?_toArray, List.getElem?_cons_zero] at e0
          have HF := hide (And.intro ho4 (hb3.grown hgr hb3.size (fun k hk => (ho3.lt k hk).1)))
          have HG := hide (And.intro ho2 hb2)
          obtain ⟨a6, c6, rfl⟩ := own_shape ho
          obtain ⟨a7, c7, rfl⟩ := own_shape ho4
          rw [List.length_append] at hrun HF
          simp only [List.length_cons, List.length_nil, Nat.zero_add] at hrun HF
          clear ho4 hgr hnx ho3 hb3 k2 hlit ho2 ho k1 hz1 hL hLs hz3 k23
          by_cases hk : f.1 = 0
          · skip
            have z0 : (f.1 == 0) = true := by simp [hk]
            have z1 : (f.1 == 1) = false := by simp [hk]
            have z3 : (f.1 == 3) = false := by simp [hk]
            have z4 : (f.1 == 4) = false := by simp [hk]
            have hko : kindO f = true := by unfold kindO; simp [hk]
            have HTT := hide (show (l.take (j + 1)).filter kindO = L ++ [f] by rw [HT.out, hko]; simp)
            have HLL := hide (show loses (l.take (j + 1)) = Ls + 0 by rw [HL.out, if_neg (by omega)])
            clear hk hko
            go_wp2_with (at_builtin; refine wpList_append_run rfl (.tmp 64) (.tmp 66) 22 rfl rfl rfl hrun ?_)
            go_roundw
            case rel => exact ⟨j + 1, hd, by rfl, by rw [HLL.out]; rfl, by go_num, by omega, by omega, by omega, by rw [HTT.out]; exact HF.out.1, HF.out.2⟩
            case measure => simp [intOf]; omega
          have hk0 := hk
          clear hk
          by_cases hk : f.1 = 1
          · skip
            have z0 : (f.1 == 0) = false := by simp [hk]
            have z1 : (f.1 == 1) = true := by simp [hk]
            have z3 : (f.1 == 3) = false := by simp [hk]
            have z4 : (f.1 == 4) = false := by simp [hk]
            have hko : kindO f = true := by unfold kindO; simp [hk]
            have HTT := hide (show (l.take (j + 1)).filter kindO = L ++ [f] by rw [HT.out, hko]; simp)
            have HLL := hide (show loses (l.take (j + 1)) = Ls + 1 by rw [HL.out, if_pos hk])
            clear hk hko
            go_wp2_with (at_builtin; refine wpList_append_run rfl (.tmp 64) (.tmp 66) 22 rfl rfl rfl hrun ?_)
            go_roundw
            case rel => exact ⟨j + 1, hd, by rfl, by rw [HLL.out]; go_num, by go_num, by omega, by omega, by omega, by rw [HTT.out]; exact HF.out.1, HF.out.2⟩
            case measure => simp [intOf]; omega
          have hk1 := hk
          clear hk
          by_cases hk : f.1 = 3
          · skip
            have z0 : (f.1 == 0) = false := by simp [hk]
            have z1 : (f.1 == 1) = false := by simp [hk]
            have z3 : (f.1 == 3) = true := by simp [hk]
            have z4 : (f.1 == 4) = false := by simp [hk]
            have hko : kindO f = true := by unfold kindO; simp [hk]
            have HTT := hide (show (l.take (j + 1)).filter kindO = L ++ [f] by rw [HT.out, hko]; simp)
            have HLL := hide (show loses (l.take (j + 1)) = Ls + 0 by rw [HL.out, if_neg (by omega)])
            clear hk hko
            go_wp2_with (at_builtin; refine wpList_append_run rfl (.tmp 64) (.tmp 66) 22 rfl rfl rfl hrun ?_)
            go_roundw
            case rel => exact ⟨j + 1, hd + 1, by go_num, by rw [HLL.out]; rfl, by go_num, by omega, by omega, by omega, by rw [HTT.out]; exact HF.out.1, HF.out.2⟩
            case measure => simp [intOf]; omega
          have hk3 := hk
          clear hk
          by_cases hk : f.1 = 4
          · skip
            have z0 : (f.1 == 0) = false := by simp [hk]
            have z1 : (f.1 == 1) = false := by simp [hk]
            have z3 : (f.1 == 3) = false := by simp [hk]
            have z4 : (f.1 == 4) = true := by simp [hk]
            have hko : kindO f = true := by unfold kindO; simp [hk]
            have HTT := hide (show (l.take (j + 1)).filter kindO = L ++ [f] by rw [HT.out, hko]; simp)
            have HLL := hide (show loses (l.take (j + 1)) = Ls + 0 by rw [HL.out, if_neg (by omega)])
            clear hk hko
            go_wp2_with (at_builtin; refine wpList_append_run rfl (.tmp 64) (.tmp 66) 22 rfl rfl rfl hrun ?_)
            go_roundw
            case rel => exact ⟨j + 1, hd, by rfl, by rw [HLL.out]; rfl, by go_num, by omega, by omega, by omega, by rw [HTT.out]; exact HF.out.1, HF.out.2⟩
            case measure => simp [intOf]; omega
          have z0 : (f.1 == 0) = false := by simp [hk0]
          have z1 : (f.1 == 1) = false := by simp [hk1]
          have z3 : (f.1 == 3) = false := by simp [hk3]
          have z4 : (f.1 == 4) = false := by simp [hk]
          have hko : ¬ kindO f = true := by unfold kindO; simp [hk, hk0, hk1, hk3]
          have HTT := hide (show (l.take (j + 1)).filter kindO = L by rw [HT.out, if_neg hko]; simp)
          have HLL := hide (show loses (l.take (j + 1)) = Ls by rw [HL.out, if_neg hk1]; rfl)
          clear hk hk0 hk1 hk3 hko
          go_wp2_with fail
          go_roundw
          case rel => exact ⟨j + 1, hd, rfl, by rw [HLL.out], by go_num, by omega, by omega, by omega, by rw [HTT.out]; exact HG.out.1, HG.out.2⟩
          case measure => simp [intOf]; omega
        · have hLL : l.take j = l.take 60 := by
            by_cases h5 : j = 60
            · rw [h5]
            · rw [List.take_of_length_le (by omega), List.take_of_length_le (by omega)]
          rw [hLL] at ho ⊢
          clear hLL
          by_cases e1 : j < l.length
          · have e2 : ¬ j < 60 := fun h => hlt ⟨e1, h⟩
            have e3 : ¬ (j : Int) < 60 := by omega
            go_wp2_with fail
            go_meet
            exact ⟨ho, rfl, hb⟩
          · have e3 : ¬ (j : Int) < (l.length : Int) := by omega
            go_wp2_with fail
            go_meet
            exact ⟨ho, rfl, hb⟩
    case rest =>
      obtain ⟨ho, rfl, hb⟩ := hcut
      have hkinds : ∀ f ∈ (l.take 60).filter kindO, kindO f = true := fun f hf => (List.mem_filter.1 hf).2
      have hall : ((l.take 60).filter kindO).all okF = true := by
        rw [List.all_eq_true]
        intro f hf
        have hk := hkinds f hf
        unfold kindO at hk
        simp only [Bool.or_eq_true, beq_iff_eq] at hk
        exact decide_eq_true (by omega)
      have hIL : ∀ f ∈ (l.take 60).filter kindO, I64 f.2.1 := fun f hf => hI f (List.mem_of_mem_take (List.mem_filter.1 hf).1)
      have hlen : ((l.take 60).filter kindO).length ≤ 60 := Nat.le_trans (List.length_filter_le ..) (by rw [List.length_take]; omega)
      rw [← loses_kind (l.take 60)]
      have hlsl : loses ((l.take 60).filter kindO) ≤ 60 := Nat.le_trans List.countP_le_length hlen
      have hOS := Once.start _ hkinds
      generalize (l.take 60).filter kindO = L at *
      have hmk : ∀ W : World, (Instr.makeMap 41 none).run Try.prog W = .ok (.map (some W.heap.size)) (W.alloc (.map #[] 0)) := fun W => by kernel_rfl
      -- the maps
      have kA : Chg (fun _ => False) wc (wc.alloc (.map #[] 0)) := (Chg.refl _ _).alloc _
      have hA := MapN.new wc
      have hzA : (wc.alloc (.map #[] 0)).heap.size = wc.heap.size + 1 := by simp
      have kB : Chg (fun _ => False) (wc.alloc (.map #[] 0)) ((wc.alloc (.map #[] 0)).alloc (.cells #[.map (some wc.heap.size)] 41)) := (Chg.refl _ _).alloc _
      have hB := heap_last (wc.alloc (.map #[] 0)) (.cells #[.map (some wc.heap.size)] 41)
      have kC : Chg (fun _ => False) ((wc.alloc (.map #[] 0)).alloc (.cells #[.map (some wc.heap.size)] 41)) (((wc.alloc (.map #[] 0)).alloc (.cells #[.map (some wc.heap.size)] 41)).alloc (.map #[] 0)) := (Chg.refl _ _).alloc _
      have hC := MapN.new ((wc.alloc (.map #[] 0)).alloc (.cells #[.map (some wc.heap.size)] 41))
      have hzB : ((wc.alloc (.map #[] 0)).alloc (.cells #[.map (some wc.heap.size)] 41)).heap.size = wc.heap.size + 2 := by simp
      have hzC : (((wc.alloc (.map #[] 0)).alloc (.cells #[.map (some wc.heap.size)] 41)).alloc (.map #[] 0)).heap.size = wc.heap.size + 3 := by simp
      rw [hzA] at hB
      rw [hzB] at hC
      have hA3 := (hA.keep kB (fun h => h)).keep kC (fun h => h)
      have hB3 := kC.keep hB (fun h => h)
      have kT := kA.then (kB.then kC)
      have ho3 : OwnF (((wc.alloc (.map #[] 0)).alloc (.cells #[.map (some wc.heap.size)] 41)).alloc (.map #[] 0)) w.heap.size u6 L := own_keep ho kT (fun _ _ h => h)
      have B3 := hb.trans (kT.below (fun _ h => h.elim) hb.size)
      have hsw := hb.size
      generalize hwC : ((wc.alloc (.map #[] 0)).alloc (.cells #[.map (some wc.heap.size)] 41)).alloc (.map #[] 0) = wC at *
      have hnew := new_any wC 18 #[.pointer (some ⟨wc.heap.size + 1, 0, none⟩)] u6 L two ho3.fs (by omega) hIL
      obtain ⟨a6, c6, h6⟩ := own_shape ho
      subst h6
      have HA := hide (And.intro hA3 (And.intro hB3 (And.intro hC (And.intro B3 hzC))))
      clear kA hA hzA kB hB kC hC hzB hA3 hB3 kT ho3 B3 hzC ho hb hb1 v4 v1 v2
      go_wp2_with fail
      refine hnew.mono ?_
      rintro e w4 ⟨hb4, ⟨-, n, G, rfl, hN, hG⟩ | ⟨h, -⟩⟩
      rotate_left
      · rw [hall] at h; cases h
      obtain ⟨hA3, hB3, hC3, B3, hzC⟩ := HA.out
      have k34 := chg_below hb4
      have hsz4 := hb4.size
      have O4 : OnceAt w w4 n (wc.heap.size + 1) wc.heap.size (wc.heap.size + 2) ⟨L, [], [], 0⟩ G (fun k => k = wc.heap.size + 1 ∨ k = wc.heap.size) 20000 [] [] := by
        refine ⟨hN, ⟨k34.keep hB3 (fun h => h), by rw [cntK_nil]; exact hA3.keep k34 (fun h => h), (fun s hs => by cases hs), by simp, fun k => Iff.rfl, by omega, by omega⟩, by rw [cntK_nil]; exact hC3.keep k34 (fun h => h), fun k hk h => ?_, fun k hk => ?_, fun hk => ?_, fun h => ?_, by omega, B3.trans (hb4.mono B3.size), (fun s hs => by cases hs), (fun s hs => by cases hs)⟩
        · have := hG k hk
          rcases h with h | h <;> omega
        · have := hG k hk; omega
        · have := hG _ hk; omega
        · rcases h with h | h <;> omega
      have HO := hide (And.intro O4 hOS)
      clear hnew hN hG hA3 hB3 hC3 B3 hzC k34 hsz4 O4 hOS HA hb4 hall hkinds hIL
      generalize wc.heap.size + 2 = bm at *
      generalize wc.heap.size + 1 = mb at *
      generalize wc.heap.size = mm at *
      go_wp2_with fail
      go_loopw [15, 16] (fun al i wr => ∃ (j : Nat) (x : Nt) (G : Gn) (H : Nat → Prop) (m : Nat) (st outs lo : List Bs), al = .int .i64 (j : Int) ∧ i = .int .i64 (j : Int) ∧ j ≤ 60 ∧ OnceAt w wr n mb mm bm x G H m st outs ∧ Once x st outs lo (askedL j) (loses L) ∧ x.th.length ≤ j ∧ x.bk.length ≤ 102 * j ∧ x.sent ≤ j ∧ 102 * (70 - j) ≤ m ∧ x.fs.length ≤ 60 - j ∧ outs.length ≤ 20000000 * j)
        (fun _ i _ => 61 - (intOf i).toNat)
      case atStart => exact ⟨0, _, G, _, 20000, [], [], [], rfl, rfl, by omega, HO.out.1, HO.out.2, by simp, by simp, by simp, by omega, by simpa using hlen, by simp⟩
      case round =>
        clear HO
        obtain ⟨j, x, G, H, m, st, outs, lo, rfl, rfl, hj, O, hon, hth, hbk, hse, hm, hfl, houts⟩ := hrel
        have hleft := left_any O.net
        by_cases hc : j < mn ∨ 0 < x.fs.length
        · have hj60 : j < 60 := by omega
          go_upto_region 25 with fail
          go_cut [103] from 96 to 102 (fun cz wx => cz = .bool true ∧ wx = wr)
          case first =>
            have HX := hide (And.intro O hon)
            clear O hon
            by_cases hjm : j < mn
            · have hjm2 : (j : Int) < (mn : Int) := by omega
              go_wp2_with fail
              go_meet
              exact ⟨rfl, rfl⟩
            · have hjm2 : ¬ (j : Int) < (mn : Int) := by omega
              have hfp : 0 < x.fs.length := by omega
              have hfp2 : (0 : Int) < (x.fs.length : Int) := by omega
              go_wp2_with fail
              refine hleft.mono ?_
              rintro e wz ⟨rfl, rfl⟩
              go_wp2_with fail
              go_meet
              exact ⟨rfl, rfl⟩
          case rest =>
            obtain ⟨rfl, rfl⟩ := hcut
            clear hleft
            have hq0 : (j : Int).tdiv 256 = 0 := by
              rw [Int.tdiv_eq_ediv_of_nonneg (by omega)]
              omega
            have hu0 : IntKind.u8.wrap (0 : Int) = 0 := by decide
            have hu1 : IntKind.u8.wrap (j : Int) = (j : Int) := by rw [IntKind.wrap_u8]; omega
            have hbyte : (UInt8.ofNat j).toNat = j := by
              rw [UInt8.toNat_ofNat_of_lt' (by simp [UInt8.size]; omega)]
            have hcv : (convert 42 9 (.slice (some ⟨wc.heap.size, 0, none⟩) 2 2)).run Try.prog (wc.alloc (.cells #[.int .u8 0, .int .u8 (j : Int)] 5)) = .ok (.string (strB (fr2 0 j))) (wc.alloc (.cells #[.int .u8 0, .int .u8 (j : Int)] 5)) := by
              refine run_convert_bytes_back (P := Try.prog) _ 42 9 5 ⟨wc.heap.size, 0, none⟩ 2 (fr2 0 j) Try.underlying42 Try.underlying5 Try.underlying9 (fun q hq => ?_)
              rw [Addr.add_lit, Nat.zero_add, cell_of (heap_last wc _)]
              match q, hq with
              | 0, _ => rfl
              | 1, _ => simp [fr2, hbyte]
            have kal : Chg (fun _ => False) wc (wc.alloc (.cells #[.int .u8 0, .int .u8 (j : Int)] 5)) := (Chg.refl _ _).alloc _
            have hask := (O.keep kal (fun _ h => h.elim)).ask hon (fr2_two 0 j) (by omega) (by omega) (by omega) (by omega)
            clear O hon kal hbyte
            go_wp2_with fail
            refine hask.mono ?_
            rintro e w5 ⟨v5, G', H', x', st', out, m', rfl, hov, O5, ⟨lo', hon'⟩, hv5, hout2, houtl, b1, b2', b3, b4, b5, b6⟩
            obtain ⟨B5, hB5⟩ : ∃ B5, B5 = (wc.alloc (.cells #[.int .u8 0, .int .u8 (j : Int)] 5)).heap.size := ⟨_, rfl⟩
            rw [← hB5] at hov
            obtain ⟨a5, c5, hv5s⟩ := own_shape hov
            subst hv5s
            have HO5 := hide (show OnceAt w w5 n mb mm bm x' G' H' m' st' outs ∧ Own w5 B5 (.slice a5 out.length c5) out ∧ (∀ k, (Value.slice a5 out.length c5).ownBlock = some k → k ≠ bm) ∧ ∀ t ∈ out, two t from ⟨O5, hov, fun k hk => (hv5 k hk).2.2, hout2⟩)
            have HOL := hide (And.intro houtl houts)
            have HON := hide hon'
            have HB6 := hide b6
            clear hask hov O5 hon' hv5 hout2 houtl hB5 b6
            clear hcv
            go_wp2_with fail
            go_loopw [18] (fun k wq => ∃ p : Nat, k = .int .i64 (p : Int) ∧ p ≤ out.length ∧ OnceAt w wq n mb mm bm x' G' H' m' st' (outs ++ out.take p) ∧ Own wq B5 (.slice a5 out.length c5) out)
              (fun k _ => out.length - (intOf k).toNat)
            case atStart => exact ⟨0, rfl, by omega, by rw [List.take_zero, List.append_nil]; exact HO5.out.1, HO5.out.2.1⟩
            case round =>
              obtain ⟨p, rfl, hp, O, hrow⟩ := hrel
              have hob : out.length ≤ 20000000 := HOL.out.1
              by_cases hpl : p < out.length
              · obtain ⟨ax, cx, ex, -, -, hrc⟩ := hrow.ts
                injection ex with ex1 _ ex3
                obtain ⟨b2, o2, hax, -, hrcell⟩ := hrc (by rintro rfl; simp at hpl)
                have crow := hrcell p hpl
                rw [hax] at ex1
                subst ex1 ex3
                have htw := HO5.out.2.2.2 out[p] (List.getElem_mem hpl)
                have HT := hide (List.take_succ_eq_append_getElem hpl)
                obtain ⟨wN, hlook, hput, O2, kN⟩ := O.drew.noted htw
                have hrow2 := (hrow.keep ((Chg.refl (fun _ => False) wr).drew) (fun _ _ h => h)).keep kN (fun k hk e => HO5.out.2.2.1 k hk e)
                have hcl := cntK_le (outs ++ out.take p) (key out[p])
                have hbig : (outs ++ out.take p).length ≤ 2000000000 := by
                  rw [List.length_append, List.length_take]
                  have := HOL.out.1
                  have := HOL.out.2
                  omega
                have crow2 : wN.cell? ⟨b2, o2 + p, none⟩ = some (.string (strB out[p])) := by
                  obtain ⟨ay, cy, ey, -, -, hrc2⟩ := hrow2.ts
                  injection ey with ey1 _ _
                  obtain ⟨b3, o3, hay, -, hrcell2⟩ := hrc2 (by rintro rfl; simp at hpl)
                  rw [hay] at ey1
                  injection ey1 with ey1
                  injection ey1 with q1 q2 _
                  rw [q1, q2]
                  exact hrcell2 p hpl
                rw [List.append_assoc] at O2
                have HF := hide (And.intro O2 hrow2)
                generalize cntK (outs ++ out.take p) (key out[p]) = nn at *
                clear hrc hrcell hax O O2 hrow hrow2 kN
                generalize out[p] = s at *
                obtain ⟨a, b, hs⟩ := two_form htw
                subst hs
                have hkey : (a.toNat : Int) * 256 + (b.toNat : Int) = ((key [a, b] : Nat) : Int) := by simp [key]
                have ha := a.toNat_lt
                have hbt := b.toNat_lt
                have hk2 : key [a, b] ≤ 65535 := by simp [key]; omega
                have hwc : IntKind.i64.wrap ((nn : Int) + 1) = (nn : Int) + 1 := by rw [IntKind.wrap_i64]; omega
                have hg0 : (⟨#[a, b]⟩ : ByteArray)[0]'(by show 0 < 2; omega) = a := rfl
                have hg1 : (⟨#[a, b]⟩ : ByteArray)[1]'(by show 1 < 2; omega) = b := rfl
                have hw0 : IntKind.i64.wrap (a.toNat : Int) = (a.toNat : Int) := by rw [IntKind.wrap_i64]; omega
                have hw1 : IntKind.i64.wrap ((a.toNat : Int) * 256) = (a.toNat : Int) * 256 := by rw [IntKind.wrap_i64]; omega
                have hw2 : IntKind.i64.wrap (b.toNat : Int) = (b.toNat : Int) := by rw [IntKind.wrap_i64]; omega
                have hw3 : IntKind.i64.wrap ((key [a, b] : Nat) : Int) = ((key [a, b] : Nat) : Int) := by rw [IntKind.wrap_i64]; omega
                generalize key [a, b] = kk at *
                unfold strB at crow crow2
                have hsz2 : (⟨[a, b].toArray⟩ : ByteArray) = ⟨#[a, b]⟩ := rfl
                rw [hsz2] at crow crow2
                clear hsz2
                go_wp2_with fail
                refine wp_region_held_drew (S := fun Z => Z.cell? ⟨b2, o2 + p, none⟩ = some (.string ⟨#[a, b]⟩)) (by kernel_rfl) (crow) (fun hHeld => ?_)
                refine takeH (i := 0) (v := ?_) rfl (by kernel_rfl) (by kernel_rfl) (by kernel_rfl) (fun _ _ _ h => h) rfl ?_ hHeld ?_
                rotate_left
                · intro w hS; (try dsimp only at hS); obtain hS0 := hS; go_simp; first | done | (with_reducible rfl)
                try simp only [Act.put, List.setIfInBounds_toArray, List.set_cons_zero, List.set_cons_succ]
                refine takeH (i := 1) (v := ?_) rfl (by kernel_rfl) (by kernel_rfl) (by kernel_rfl) (fun _ _ _ h => h) rfl ?_ hHeld ?_
                rotate_left
                · intro w hS; (try dsimp only at hS); obtain hS0 := hS; go_simp; first | done | (with_reducible rfl)
                try simp only [Act.put, List.setIfInBounds_toArray, List.set_cons_zero, List.set_cons_succ]
                refine takeH (i := 2) (v := ?_) rfl (by kernel_rfl) (by kernel_rfl) (by kernel_rfl) (fun _ _ _ h => h) rfl ?_ hHeld ?_
                rotate_left
                · intro w hS; (try dsimp only at hS); obtain hS0 := hS; go_simp; first | done | (with_reducible rfl)
                try simp only [Act.put, List.setIfInBounds_toArray, List.set_cons_zero, List.set_cons_succ]
                refine takeH (i := 3) (v := ?_) rfl (by kernel_rfl) (by kernel_rfl) (by kernel_rfl) (fun _ _ _ h => h) rfl ?_ hHeld ?_
                rotate_left
                · intro w hS; (try dsimp only at hS); obtain hS0 := hS; go_simp; first | done | (with_reducible rfl)
                try simp only [Act.put, List.setIfInBounds_toArray, List.set_cons_zero, List.set_cons_succ]
                refine takeH (i := 4) (v := ?_) rfl (by kernel_rfl) (by kernel_rfl) (by kernel_rfl) (fun _ _ _ h => h) rfl ?_ hHeld ?_
                rotate_left
                · intro w hS; (try dsimp only at hS); obtain hS0 := hS; go_simp; first | done | (with_reducible rfl)
                try simp only [Act.put, List.setIfInBounds_toArray, List.set_cons_zero, List.set_cons_succ]
                refine takeH (i := 5) (v := ?_) rfl (by kernel_rfl) (by kernel_rfl) (by kernel_rfl) (fun _ _ _ h => h) rfl ?_ hHeld ?_
                rotate_left
                · intro w hS; (try dsimp only at hS); obtain hS0 := hS; go_simp; first | done | (with_reducible rfl)
                try simp only [Act.put, List.setIfInBounds_toArray, List.set_cons_zero, List.set_cons_succ]
                refine takeH (i := 6) (v := ?_) rfl (by kernel_rfl) (by kernel_rfl) (by kernel_rfl) (fun _ _ _ h => h) rfl ?_ hHeld ?_
                rotate_left
                · intro w hS; (try dsimp only at hS); obtain hS0 := hS; go_simp; first | done | (with_reducible rfl)
                try simp only [Act.put, List.setIfInBounds_toArray, List.set_cons_zero, List.set_cons_succ]
                refine takeH (i := 7) (v := ?_) rfl (by kernel_rfl) (by kernel_rfl) (by kernel_rfl) (fun _ _ _ h => h) rfl ?_ hHeld ?_
                rotate_left
                · intro w hS; (try dsimp only at hS); obtain hS0 := hS; go_simp; first | done | (with_reducible rfl)
                try simp only [Act.put, List.setIfInBounds_toArray, List.set_cons_zero, List.set_cons_succ]
                refine takeH (i := 8) (v := ?_) rfl (by kernel_rfl) (by kernel_rfl) (by kernel_rfl) (fun _ _ _ h => h) rfl ?_ hHeld ?_
                rotate_left
                · intro w hS; (try dsimp only at hS); obtain hS0 := hS; go_simp; first | done | (with_reducible rfl)
                try simp only [Act.put, List.setIfInBounds_toArray, List.set_cons_zero, List.set_cons_succ]
                refine takeH (i := 9) (v := ?_) rfl (by kernel_rfl) (by kernel_rfl) (by kernel_rfl) (fun _ _ _ h => h) rfl ?_ hHeld ?_
                rotate_left
                · intro w hS; (try dsimp only at hS); obtain hS0 := hS; go_simp; first | done | (with_reducible rfl)
                try simp only [Act.put, List.setIfInBounds_toArray, List.set_cons_zero, List.set_cons_succ]
                refine takeH (i := 10) (v := ?_) rfl (by kernel_rfl) (by kernel_rfl) (by kernel_rfl) (fun _ _ _ h => h) rfl ?_ hHeld ?_
                rotate_left
                · intro w hS; (try dsimp only at hS); obtain hS0 := hS; go_simp; first | done | (with_reducible rfl)
                try simp only [Act.put, List.setIfInBounds_toArray, List.set_cons_zero, List.set_cons_succ]
                refine takeH (i := 11) (v := ?_) rfl (by kernel_rfl) (by kernel_rfl) (by kernel_rfl) (fun _ _ _ h => h) rfl ?_ hHeld ?_
                rotate_left
                · intro w hS; (try dsimp only at hS); obtain hS0 := hS; go_simp; first | done | (with_reducible rfl)
                try simp only [Act.put, List.setIfInBounds_toArray, List.set_cons_zero, List.set_cons_succ]
                refine takeH (i := 12) (v := ?_) rfl (by kernel_rfl) (by kernel_rfl) (by kernel_rfl) (fun _ _ _ h => h) rfl ?_ hHeld ?_
                rotate_left
                · intro w hS; (try dsimp only at hS); obtain hS0 := hS; go_simp; first | done | (with_reducible rfl)
                try simp only [Act.put, List.setIfInBounds_toArray, List.set_cons_zero, List.set_cons_succ]
                refine takeH (i := 13) (v := ?_) rfl (by kernel_rfl) (by kernel_rfl) (by kernel_rfl) (fun _ _ _ h => h) rfl ?_ hHeld ?_
                rotate_left
                · intro w hS; (try dsimp only at hS); obtain hS0 := hS; go_simp; first | done | (with_reducible rfl)
                try simp only [Act.put, List.setIfInBounds_toArray, List.set_cons_zero, List.set_cons_succ]
                refine takeH (i := 14) (v := ?_) rfl (by kernel_rfl) (by kernel_rfl) (by kernel_rfl) (fun _ _ _ h => h) rfl ?_ hHeld ?_
                rotate_left
                · intro w hS; (try dsimp only at hS); obtain hS0 := hS; go_simp; first | done | (with_reducible rfl)
                try simp only [Act.put, List.setIfInBounds_toArray, List.set_cons_zero, List.set_cons_succ]
                refine onlyH (i := 15) rfl (by kernel_rfl) rfl (fun K hK => ?_)
                go_simp
                refine hK.out _ _ (crow) (fun hHeld => ?_)
                clear hK K
                try simp only [Act.put, List.setIfInBounds_toArray, List.set_cons_zero, List.set_cons_succ]
                refine takeH (i := 16) (v := ?_) rfl (by kernel_rfl) (by kernel_rfl) (by kernel_rfl) (fun _ _ _ h => h) rfl ?_ hHeld ?_
                rotate_left
                · intro w hS; (try dsimp only at hS); obtain hS0 := hS; go_simp; first | done | (with_reducible rfl)
                try simp only [Act.put, List.setIfInBounds_toArray, List.set_cons_zero, List.set_cons_succ]
                refine onlyH (i := 17) rfl (by kernel_rfl) rfl (fun K hK => ?_)
                go_simp
                refine hK.out _ _ (crow2) (fun hHeld => ?_)
                clear hK K
                try simp only [Act.put, List.setIfInBounds_toArray, List.set_cons_zero, List.set_cons_succ]
                refine wpAnyH_done (by kernel_rfl) ?_ _
                clear hHeld
                go_wp2_with fail
                go_roundw
                case rel => exact ⟨p + 1, by go_num, by omega, by rw [HT.out]; exact HF.out.1, HF.out.2⟩
                case measure => simp [intOf]; omega
              · obtain rfl : p = out.length := by omega
                rw [List.take_length] at O
                have HOE := hide O
                clear O hrow
                go_wp2_with fail
                go_roundw
                case rel => exact ⟨j + 1, x', G', H', m', st', outs ++ out, lo', by go_num, by go_num, by omega, HOE.out, by rw [askedL_succ]; exact HON.out, by omega, by omega, by omega, by omega, by omega, by rw [List.length_append]; have := HOL.out.1; have := HOL.out.2; omega⟩
                case measure => simp [intOf]; omega
        · have hjm : ¬ j < mn := by omega
          have hjm2 : ¬ (j : Int) < (mn : Int) := by omega
          have hf0 : x.fs = [] := List.eq_nil_of_length_eq_zero (by omega)
          rw [hf0] at hleft
          have HX := hide (And.intro O hon)
          clear O hon
          go_wp2_with fail
          refine hleft.mono ?_
          rintro e wz ⟨rfl, rfl⟩
          clear hleft
          go_wp2_with fail
          go_loopw [19] (fun i wr => ∃ (c : Nat) (x : Nt) (G : Gn) (H : Nat → Prop) (m : Nat) (st outs lo : List Bs), i = .int .i64 (c : Int) ∧ c ≤ 3 ∧ OnceAt w wr n mb mm bm x G H m st outs ∧ Once x st outs lo (askedL j ++ (List.range c).map (fr2 255)) (loses L) ∧ x.th.length ≤ 60 + c ∧ x.bk.length ≤ 102 * (60 + c) ∧ x.sent ≤ 60 + c ∧ 102 * (10 - c) ≤ m ∧ x.fs = [] ∧ (1 ≤ c → x.th = [] ∧ x.bk = []) ∧ outs.length ≤ 20000000 * (60 + c))
            (fun i _ => 3 - (intOf i).toNat)
          case atStart => exact ⟨0, x, G, H, m, st, outs, lo, rfl, by omega, HX.out.1, by simpa using HX.out.2, by omega, by omega, by omega, by omega, hf0, fun h => by omega, by omega⟩
          case round =>
            clear HX hth hbk hse hm hfl houts hf0
            obtain ⟨c, x, G, H, m, st, outs, lo, rfl, hc3, O, hon, hth, hbk, hse, hm, hf0, hfin, houts⟩ := hrel
            by_cases hcl : c < 3
            · have hu1 : IntKind.u8.wrap (c : Int) = (c : Int) := by rw [IntKind.wrap_u8]; omega
              have hcl2 : (c : Int) < 3 := by omega
              have hbyte : (UInt8.ofNat c).toNat = c := by
                rw [UInt8.toNat_ofNat_of_lt' (by simp [UInt8.size]; omega)]
              have hcv : (convert 42 9 (.slice (some ⟨wr.heap.size, 0, none⟩) 2 2)).run Try.prog (wr.alloc (.cells #[.int .u8 255, .int .u8 (c : Int)] 5)) = .ok (.string (strB (fr2 255 c))) (wr.alloc (.cells #[.int .u8 255, .int .u8 (c : Int)] 5)) := by
                refine run_convert_bytes_back (P := Try.prog) _ 42 9 5 ⟨wr.heap.size, 0, none⟩ 2 (fr2 255 c) Try.underlying42 Try.underlying5 Try.underlying9 (fun q hq => ?_)
                rw [Addr.add_lit, Nat.zero_add, cell_of (heap_last wr _)]
                match q, hq with
                | 0, _ => rfl
                | 1, _ => simp [fr2, hbyte]
              have kal : Chg (fun _ => False) wr (wr.alloc (.cells #[.int .u8 255, .int .u8 (c : Int)] 5)) := (Chg.refl _ _).alloc _
              have hask := (O.keep kal (fun _ h => h.elim)).ask hon (fr2_two 255 c) (by omega) (by omega) (by omega) (by omega)
              have HF0 := hide hf0
              clear O hon kal hbyte hf0 hfin
              go_wp2_with fail
              refine hask.mono ?_
              rintro e w5 ⟨v5, G', H', x', st', out, m', rfl, hov, O5, ⟨lo', hon'⟩, hv5, hout2, houtl, b1, b2', b3, b4, b5, b6⟩
              obtain ⟨B5, hB5⟩ : ∃ B5, B5 = (wr.alloc (.cells #[.int .u8 255, .int .u8 (c : Int)] 5)).heap.size := ⟨_, rfl⟩
              rw [← hB5] at hov
              obtain ⟨a5, c5, hv5s⟩ := own_shape hov
              subst hv5s
              have HO5 := hide (show OnceAt w w5 n mb mm bm x' G' H' m' st' outs ∧ Own w5 B5 (.slice a5 out.length c5) out ∧ (∀ k, (Value.slice a5 out.length c5).ownBlock = some k → k ≠ bm) ∧ ∀ t ∈ out, two t from ⟨O5, hov, fun k hk => (hv5 k hk).2.2, hout2⟩)
              have HOL := hide (And.intro houtl houts)
              have HON := hide hon'
              have HB6 := hide b6
              clear hask hov O5 hon' hv5 hout2 houtl hB5 b6
              clear hcv
              go_wp2_with fail
              go_loopw [21] (fun k wq => ∃ p : Nat, k = .int .i64 (p : Int) ∧ p ≤ out.length ∧ OnceAt w wq n mb mm bm x' G' H' m' st' (outs ++ out.take p) ∧ Own wq B5 (.slice a5 out.length c5) out)
                (fun k _ => out.length - (intOf k).toNat)
              case atStart => exact ⟨0, rfl, by omega, by rw [List.take_zero, List.append_nil]; exact HO5.out.1, HO5.out.2.1⟩
              case round =>
                obtain ⟨p, rfl, hp, O, hrow⟩ := hrel
                have hob : out.length ≤ 20000000 := HOL.out.1
                by_cases hpl : p < out.length
                · obtain ⟨ax, cx, ex, -, -, hrc⟩ := hrow.ts
                  injection ex with ex1 _ ex3
                  obtain ⟨b2, o2, hax, -, hrcell⟩ := hrc (by rintro rfl; simp at hpl)
                  have crow := hrcell p hpl
                  rw [hax] at ex1
                  subst ex1 ex3
                  have htw := HO5.out.2.2.2 out[p] (List.getElem_mem hpl)
                  have HT := hide (List.take_succ_eq_append_getElem hpl)
                  obtain ⟨wN, hlook, hput, O2, kN⟩ := O.drew.noted htw
                  have hrow2 := (hrow.keep ((Chg.refl (fun _ => False) wr).drew) (fun _ _ h => h)).keep kN (fun k hk e => HO5.out.2.2.1 k hk e)
                  have hcl := cntK_le (outs ++ out.take p) (key out[p])
                  have hbig : (outs ++ out.take p).length ≤ 2000000000 := by
                    rw [List.length_append, List.length_take]
                    have := HOL.out.1
                    have := HOL.out.2
                    omega
                  have crow2 : wN.cell? ⟨b2, o2 + p, none⟩ = some (.string (strB out[p])) := by
                    obtain ⟨ay, cy, ey, -, -, hrc2⟩ := hrow2.ts
                    injection ey with ey1 _ _
                    obtain ⟨b3, o3, hay, -, hrcell2⟩ := hrc2 (by rintro rfl; simp at hpl)
                    rw [hay] at ey1
                    injection ey1 with ey1
                    injection ey1 with q1 q2 _
                    rw [q1, q2]
                    exact hrcell2 p hpl
                  rw [List.append_assoc] at O2
                  have HF := hide (And.intro O2 hrow2)
                  generalize cntK (outs ++ out.take p) (key out[p]) = nn at *
                  clear hrc hrcell hax O O2 hrow hrow2 kN
                  generalize out[p] = s at *
                  obtain ⟨a, b, hs⟩ := two_form htw
                  subst hs
                  have hkey : (a.toNat : Int) * 256 + (b.toNat : Int) = ((key [a, b] : Nat) : Int) := by simp [key]
                  have ha := a.toNat_lt
                  have hbt := b.toNat_lt
                  have hk2 : key [a, b] ≤ 65535 := by simp [key]; omega
                  have hwc : IntKind.i64.wrap ((nn : Int) + 1) = (nn : Int) + 1 := by rw [IntKind.wrap_i64]; omega
                  have hg0 : (⟨#[a, b]⟩ : ByteArray)[0]'(by show 0 < 2; omega) = a := rfl
                  have hg1 : (⟨#[a, b]⟩ : ByteArray)[1]'(by show 1 < 2; omega) = b := rfl
                  have hw0 : IntKind.i64.wrap (a.toNat : Int) = (a.toNat : Int) := by rw [IntKind.wrap_i64]; omega
                  have hw1 : IntKind.i64.wrap ((a.toNat : Int) * 256) = (a.toNat : Int) * 256 := by rw [IntKind.wrap_i64]; omega
                  have hw2 : IntKind.i64.wrap (b.toNat : Int) = (b.toNat : Int) := by rw [IntKind.wrap_i64]; omega
                  have hw3 : IntKind.i64.wrap ((key [a, b] : Nat) : Int) = ((key [a, b] : Nat) : Int) := by rw [IntKind.wrap_i64]; omega
                  generalize key [a, b] = kk at *
                  unfold strB at crow crow2
                  have hsz2 : (⟨[a, b].toArray⟩ : ByteArray) = ⟨#[a, b]⟩ := rfl
                  rw [hsz2] at crow crow2
                  clear hsz2
                  go_wp2_with fail
                  refine wp_region_held_drew (S := fun Z => Z.cell? ⟨b2, o2 + p, none⟩ = some (.string ⟨#[a, b]⟩)) (by kernel_rfl) (crow) (fun hHeld => ?_)
                  refine takeH (i := 0) (v := ?_) rfl (by kernel_rfl) (by kernel_rfl) (by kernel_rfl) (fun _ _ _ h => h) rfl ?_ hHeld ?_
                  rotate_left
                  · intro w hS; (try dsimp only at hS); obtain hS0 := hS; go_simp; first | done | (with_reducible rfl)
                  try simp only [Act.put, List.setIfInBounds_toArray, List.set_cons_zero, List.set_cons_succ]
                  refine takeH (i := 1) (v := ?_) rfl (by kernel_rfl) (by kernel_rfl) (by kernel_rfl) (fun _ _ _ h => h) rfl ?_ hHeld ?_
                  rotate_left
                  · intro w hS; (try dsimp only at hS); obtain hS0 := hS; go_simp; first | done | (with_reducible rfl)
                  try simp only [Act.put, List.setIfInBounds_toArray, List.set_cons_zero, List.set_cons_succ]
                  refine takeH (i := 2) (v := ?_) rfl (by kernel_rfl) (by kernel_rfl) (by kernel_rfl) (fun _ _ _ h => h) rfl ?_ hHeld ?_
                  rotate_left
                  · intro w hS; (try dsimp only at hS); obtain hS0 := hS; go_simp; first | done | (with_reducible rfl)
                  try simp only [Act.put, List.setIfInBounds_toArray, List.set_cons_zero, List.set_cons_succ]
                  refine takeH (i := 3) (v := ?_) rfl (by kernel_rfl) (by kernel_rfl) (by kernel_rfl) (fun _ _ _ h => h) rfl ?_ hHeld ?_
                  rotate_left
                  · intro w hS; (try dsimp only at hS); obtain hS0 := hS; go_simp; first | done | (with_reducible rfl)
                  try simp only [Act.put, List.setIfInBounds_toArray, List.set_cons_zero, List.set_cons_succ]
                  refine takeH (i := 4) (v := ?_) rfl (by kernel_rfl) (by kernel_rfl) (by kernel_rfl) (fun _ _ _ h => h) rfl ?_ hHeld ?_
                  rotate_left
                  · intro w hS; (try dsimp only at hS); obtain hS0 := hS; go_simp; first | done | (with_reducible rfl)
                  try simp only [Act.put, List.setIfInBounds_toArray, List.set_cons_zero, List.set_cons_succ]
                  refine takeH (i := 5) (v := ?_) rfl (by kernel_rfl) (by kernel_rfl) (by kernel_rfl) (fun _ _ _ h => h) rfl ?_ hHeld ?_
                  rotate_left
                  · intro w hS; (try dsimp only at hS); obtain hS0 := hS; go_simp; first | done | (with_reducible rfl)
                  try simp only [Act.put, List.setIfInBounds_toArray, List.set_cons_zero, List.set_cons_succ]
                  refine takeH (i := 6) (v := ?_) rfl (by kernel_rfl) (by kernel_rfl) (by kernel_rfl) (fun _ _ _ h => h) rfl ?_ hHeld ?_
                  rotate_left
                  · intro w hS; (try dsimp only at hS); obtain hS0 := hS; go_simp; first | done | (with_reducible rfl)
                  try simp only [Act.put, List.setIfInBounds_toArray, List.set_cons_zero, List.set_cons_succ]
                  refine takeH (i := 7) (v := ?_) rfl (by kernel_rfl) (by kernel_rfl) (by kernel_rfl) (fun _ _ _ h => h) rfl ?_ hHeld ?_
                  rotate_left
                  · intro w hS; (try dsimp only at hS); obtain hS0 := hS; go_simp; first | done | (with_reducible rfl)
                  try simp only [Act.put, List.setIfInBounds_toArray, List.set_cons_zero, List.set_cons_succ]
                  refine takeH (i := 8) (v := ?_) rfl (by kernel_rfl) (by kernel_rfl) (by kernel_rfl) (fun _ _ _ h => h) rfl ?_ hHeld ?_
                  rotate_left
                  · intro w hS; (try dsimp only at hS); obtain hS0 := hS; go_simp; first | done | (with_reducible rfl)
                  try simp only [Act.put, List.setIfInBounds_toArray, List.set_cons_zero, List.set_cons_succ]
                  refine takeH (i := 9) (v := ?_) rfl (by kernel_rfl) (by kernel_rfl) (by kernel_rfl) (fun _ _ _ h => h) rfl ?_ hHeld ?_
                  rotate_left
                  · intro w hS; (try dsimp only at hS); obtain hS0 := hS; go_simp; first | done | (with_reducible rfl)
                  try simp only [Act.put, List.setIfInBounds_toArray, List.set_cons_zero, List.set_cons_succ]
                  refine takeH (i := 10) (v := ?_) rfl (by kernel_rfl) (by kernel_rfl) (by kernel_rfl) (fun _ _ _ h => h) rfl ?_ hHeld ?_
                  rotate_left
                  · intro w hS; (try dsimp only at hS); obtain hS0 := hS; go_simp; first | done | (with_reducible rfl)
                  try simp only [Act.put, List.setIfInBounds_toArray, List.set_cons_zero, List.set_cons_succ]
                  refine takeH (i := 11) (v := ?_) rfl (by kernel_rfl) (by kernel_rfl) (by kernel_rfl) (fun _ _ _ h => h) rfl ?_ hHeld ?_
                  rotate_left
                  · intro w hS; (try dsimp only at hS); obtain hS0 := hS; go_simp; first | done | (with_reducible rfl)
                  try simp only [Act.put, List.setIfInBounds_toArray, List.set_cons_zero, List.set_cons_succ]
                  refine takeH (i := 12) (v := ?_) rfl (by kernel_rfl) (by kernel_rfl) (by kernel_rfl) (fun _ _ _ h => h) rfl ?_ hHeld ?_
                  rotate_left
                  · intro w hS; (try dsimp only at hS); obtain hS0 := hS; go_simp; first | done | (with_reducible rfl)
                  try simp only [Act.put, List.setIfInBounds_toArray, List.set_cons_zero, List.set_cons_succ]
                  refine takeH (i := 13) (v := ?_) rfl (by kernel_rfl) (by kernel_rfl) (by kernel_rfl) (fun _ _ _ h => h) rfl ?_ hHeld ?_
                  rotate_left
                  · intro w hS; (try dsimp only at hS); obtain hS0 := hS; go_simp; first | done | (with_reducible rfl)
                  try simp only [Act.put, List.setIfInBounds_toArray, List.set_cons_zero, List.set_cons_succ]
                  refine takeH (i := 14) (v := ?_) rfl (by kernel_rfl) (by kernel_rfl) (by kernel_rfl) (fun _ _ _ h => h) rfl ?_ hHeld ?_
                  rotate_left
                  · intro w hS; (try dsimp only at hS); obtain hS0 := hS; go_simp; first | done | (with_reducible rfl)
                  try simp only [Act.put, List.setIfInBounds_toArray, List.set_cons_zero, List.set_cons_succ]
                  refine onlyH (i := 15) rfl (by kernel_rfl) rfl (fun K hK => ?_)
                  go_simp
                  refine hK.out _ _ (crow) (fun hHeld => ?_)
                  clear hK K
                  try simp only [Act.put, List.setIfInBounds_toArray, List.set_cons_zero, List.set_cons_succ]
                  refine takeH (i := 16) (v := ?_) rfl (by kernel_rfl) (by kernel_rfl) (by kernel_rfl) (fun _ _ _ h => h) rfl ?_ hHeld ?_
                  rotate_left
                  · intro w hS; (try dsimp only at hS); obtain hS0 := hS; go_simp; first | done | (with_reducible rfl)
                  try simp only [Act.put, List.setIfInBounds_toArray, List.set_cons_zero, List.set_cons_succ]
                  refine onlyH (i := 17) rfl (by kernel_rfl) rfl (fun K hK => ?_)
                  go_simp
                  refine hK.out _ _ (crow2) (fun hHeld => ?_)
                  clear hK K
                  try simp only [Act.put, List.setIfInBounds_toArray, List.set_cons_zero, List.set_cons_succ]
                  refine wpAnyH_done (by kernel_rfl) ?_ _
                  clear hHeld
                  go_wp2_with fail
                  go_roundw
                  case rel => exact ⟨p + 1, by go_num, by omega, by rw [HT.out]; exact HF.out.1, HF.out.2⟩
                  case measure => simp [intOf]; omega
                · obtain rfl : p = out.length := by omega
                  rw [List.take_length] at O
                  have HOE := hide O
                  clear O hrow
                  go_wp2_with fail
                  go_roundw
                  case rel => exact ⟨c + 1, x', G', H', m', st', outs ++ out, lo', by go_num, by omega, HOE.out, by rw [List.range_succ, List.map_append, ← List.append_assoc]; exact HON.out, by omega, by omega, by omega, by omega, (HB6.out HF0.out).1, fun _ => (HB6.out HF0.out).2, by rw [List.length_append]; have := HOL.out.1; have := HOL.out.2; omega⟩
                  case measure => simp [intOf]; omega
            · obtain rfl : c = 3 := by omega
              obtain ⟨hth0, hbk0⟩ := hfin (by omega)
              obtain ⟨s1, s2, s3, s4, s5, s6, s7⟩ := O.srv
              obtain ⟨hi1, hi2⟩ := hon.last (by omega) (by omega) hth0 hbk0 s3 O.two
              have cmb := cell_of s1 0
              simp only [List.getElem?_toArray, List.getElem?_cons_zero] at cmb
              have hlm := s2.look
              have hlb := O.map.look
              have HB := hide O.bel
              have HI1 := hide hi1
              have HI2 := hide hi2
              clear O hon s1 s2 s3 s4 s5 s6 s7 hi1 hi2 hth hbk hse hm hf0 hfin hth0 hbk0 houts
              go_wp2_with fail
              go_loopw [22, 23] (fun g i wq => ∃ (c : Nat), i = .int .i64 (c : Int) ∧ c ≤ j ∧ g = .int .i64 (((List.range c).filter (fun i => cntK outs i == 0)).length : Int) ∧ wq = wr)
                (fun _ i _ => j - (intOf i).toNat)
              case atStart => exact ⟨0, rfl, by omega, rfl, rfl⟩
              case round =>
                obtain ⟨c, rfl, hcj, rfl, hwq⟩ := hrel
                subst hwq
                by_cases hcl : c < j
                · have hl1 := hlm c
                  have hl2 := hlb c
                  have hle1 := (HI1.out c hcl).1
                  have hle2 := (HI1.out c hcl).2
                  have HR := hide (show ((List.range (c + 1)).filter (fun i => cntK outs i == 0)).length = ((List.range c).filter (fun i => cntK outs i == 0)).length + (if cntK outs c = 0 then 1 else 0) by
                    rw [List.range_succ, List.filter_append, List.length_append]
                    congr 1
                    by_cases h : cntK outs c = 0
                    · simp [h]
                    · simp [h])
                  have hgl : ((List.range c).filter (fun i => cntK outs i == 0)).length ≤ 60 := Nat.le_trans (List.length_filter_le ..) (by rw [List.length_range]; omega)
                  clear hlm hlb
                  generalize cntK st c = n1 at *
                  generalize cntK outs c = n2 at *
                  generalize ((List.range c).filter (fun i => cntK outs i == 0)).length = gl at *
                  have hx1 : ¬ (2 : Int) < (n1 : Int) := by omega
                  have hx2 : ¬ (4 : Int) < (n2 : Int) := by omega
                  by_cases h0 : n2 = 0
                  · have hz : ((n2 : Int) == 0) = true := by simp [h0]
                    have HR2 := hide (show ((List.range (c + 1)).filter (fun i => cntK outs i == 0)).length = gl + 1 by rw [HR.out, if_pos h0])
                    clear h0
                    go_wp2_with fail
                    go_roundw
                    case rel => exact ⟨c + 1, by go_num, by omega, by rw [HR2.out]; go_num, by trivial⟩
                    case measure => simp [intOf]; omega
                  · have hz : ((n2 : Int) == 0) = false := by simp [h0]
                    have HR2 := hide (show ((List.range (c + 1)).filter (fun i => cntK outs i == 0)).length = gl by rw [HR.out, if_neg h0]; rfl)
                    clear h0
                    go_wp2_with fail
                    go_roundw
                    case rel => exact ⟨c + 1, by go_num, by omega, by rw [HR2.out], by trivial⟩
                    case measure => simp [intOf]; omega
                · obtain rfl : c = j := by omega
                  have hle := HI2.out
                  generalize ((List.range c).filter (fun i => cntK outs i == 0)).length = gl at *
                  have hle2 : (gl : Int) ≤ (loses L : Int) := by omega
                  clear hlm hlb
                  go_wp2_with fail
                  go_ret
                  exact ⟨rfl, HB.out⟩
end Go.Proofs.Ytgjmidlcfjgnhaa
