/-
  NetPasses, walked. Conditions: what came in lies there, within reach.
-/
import Derived.Test.YtgjmidlcfjgnhaaPasses0
import Derived.Deep.CutBlock
import Derived.Deep.LoopGhost
namespace Go.Proofs.Ytgjmidlcfjgnhaa
open Go.RowKit

set_option maxRecDepth 20000 in
set_option maxHeartbeats 4000000 in
theorem passes_any (w : World) (v u : Value) (l : List Ft) (xs : List Bs) (hv : Fs w v l) (hI : ∀ f ∈ l, I64 f.2.1) (hu : Ts w u xs) (hx : ∀ s ∈ xs, s.length ≤ 140737488351232) (hl : l.length ≤ 4611686018427387904) (hxl : xs.length ≤ 4611686018427387904) :
    Calls Try.prog 4 #[v, u] w fun e w' => e = .returned (.bool true) ∧ Below w.heap.size w w' := by
  have hv' := hv
  have hu' := hu
  obtain ⟨ao, cap, rfl, v1, v2, v4⟩ := hv
  obtain ⟨bo, bcap, rfl, hu1, hu2, hu4⟩ := hu
  go_enter Try.func4, Try.ntmps4
  go_wp2_with fail
  refine (shown_any w).mono ?_
  rintro e w1 ⟨rfl, hb1⟩
  go_upto_block 0 with fail
  go_cut [6] from 17 to 47 (fun z wx => OwnF wx w.heap.size z ((l.take 50).filter passF) ∧ Below w.heap.size w wx)
  case first =>
    go_wp2_with fail
    go_loopw [6, 7] (fun z i wr => ∃ j : Nat, i = .int .i64 (j : Int) ∧ j ≤ l.length ∧ j ≤ 50 ∧ OwnF wr w.heap.size z ((l.take j).filter passF) ∧ Below w.heap.size w wr)
      (fun _ i _ => 50 - (intOf i).toNat)
    case atStart => exact ⟨0, rfl, by omega, by omega, World.ownsRow_nil _ _ _ _, hb1⟩
    case round =>
      obtain ⟨j, rfl, hj1, hj2, ho, hb⟩ := hrel
      by_cases hlt : j < l.length ∧ j < 50
      · obtain ⟨j1, j2⟩ := hlt
        obtain ⟨b, off, rfl, hbl, hcell⟩ := v4 (by rintro rfl; simp at j1)
        have c0 := (hb.cell (p := ⟨b, off + j * 3 + 0, none⟩) hbl).trans (hcell j j1 0 _ rfl)
        have c1 := (hb.cell (p := ⟨b, off + j * 3 + 1, none⟩) hbl).trans (hcell j j1 1 _ rfl)
        have c2 := (hb.cell (p := ⟨b, off + j * 3 + 2, none⟩) hbl).trans (hcell j j1 2 _ rfl)
        simp only [Nat.add_zero] at c0
        have HT := hide (take_filter j1)
        have hlen : ((l.take j).filter passF).length ≤ 50 := Nat.le_trans (List.length_filter_le ..) (by rw [List.length_take]; omega)
        clear hcell v4
        generalize l[j] = f at *
        generalize hL : (l.take j).filter passF = L at *
        have hz1 := heap_last wr (.cells #[.int .i64 f.1, .int .i64 f.2.1, .int .u8 (f.2.2.toNat : Int)] 35)
        have hb2 : Below w.heap.size w (wr.alloc (.cells #[.int .i64 f.1, .int .i64 f.2.1, .int .u8 (f.2.2.toNat : Int)] 35)) := hb.alloc hb.size _
        have k1 : Chg (fun _ => False) wr (wr.alloc (.cells #[.int .i64 f.1, .int .i64 f.2.1, .int .u8 (f.2.2.toNat : Int)] 35)) := (Chg.refl _ _).alloc _
        generalize hw2 : wr.alloc (.cells #[.int .i64 f.1, .int .i64 f.2.1, .int .u8 (f.2.2.toNat : Int)] 35) = w2 at *
        have ho2 : OwnF w2 w.heap.size u6 L := own_keep ho k1 (fun _ _ h => h)
        have d0 := cell_of hz1 0
        have d1 := cell_of hz1 1
        have d2 := cell_of hz1 2
        simp only [List.getElem?_toArray, List.getElem?_cons_zero, List.getElem?_cons_succ] at d0 d1 d2
        by_cases hp : passF f = true
        · have hp' := hp
          unfold passF okF at hp'
          simp only [Bool.and_eq_true, decide_eq_true_eq] at hp'
          have q1 : decide (0 ≤ f.1) = true := decide_eq_true hp'.1.1
          have q2 : decide (f.1 ≤ 4) = true := decide_eq_true hp'.1.2
          have q3 : (f.1 == 3) = false := by simpa using hp'.2
          have q4 : (f.1 != 3) = true := by simpa using hp'.2
          have hlit : OwnF (w2.alloc (.cells #[.int .i64 f.1, .int .i64 f.2.1, .int .u8 (f.2.2.toNat : Int)] 35)) w2.heap.size (.slice (some ⟨w2.heap.size, 0, none⟩) 1 1) [f] := ownF_lit w2 [f] (by simp)
          have k2 : Chg (fun _ => False) w2 (w2.alloc (.cells #[.int .i64 f.1, .int .i64 f.2.1, .int .u8 (f.2.2.toNat : Int)] 35)) := (Chg.refl _ _).alloc _
          have hb3 := hb2.alloc hb2.size (.cells #[.int .i64 f.1, .int .i64 f.2.1, .int .u8 (f.2.2.toNat : Int)] 35)
          have ho3 : OwnF (w2.alloc (.cells #[.int .i64 f.1, .int .i64 f.2.1, .int .u8 (f.2.2.toNat : Int)] 35)) w.heap.size u6 L := own_keep ho2 k2 (fun _ _ h => h)
          obtain ⟨v', w3, hrun, ho4, hgr, hnx⟩ := app_fates _ w.heap.size u6 L _ [f] ho3 hlit.fs hb3.size (by simp; omega)
          have HF := hide (And.intro ho4 (hb3.grown hgr hb3.size (fun k hk => (ho3.lt k hk).1)))
          have HTT := hide (show (l.take (j + 1)).filter passF = L ++ [f] by rw [HT.out, hp]; simp)
          obtain ⟨a6, c6, rfl⟩ := own_shape ho
          obtain ⟨a7, c7, rfl⟩ := own_shape ho4
          rw [List.length_append] at hrun HF
          simp only [List.length_cons, List.length_nil, Nat.zero_add] at hrun HF
          clear ho4 hgr hnx ho3 hb3 k2 hlit hp hp' ho2 ho k1 hz1 hL HT
          go_wp2_with (at_builtin; refine wpList_append_run rfl (.tmp 44) (.tmp 46) 22 rfl rfl rfl hrun ?_)
          go_roundw
          case rel => exact ⟨j + 1, by go_num, by omega, by omega, by rw [HTT.out]; exact HF.out.1, HF.out.2⟩
          case measure => simp [intOf]; omega
        · have HTT := hide (show (l.take (j + 1)).filter passF = L by rw [HT.out, if_neg hp]; simp)
          have HF := hide (And.intro ho2 hb2)
          have hp' : ¬ (0 ≤ f.1 ∧ f.1 ≤ 4 ∧ f.1 ≠ 3) := by
            intro h
            apply hp
            unfold passF okF
            simp [h.1, h.2.1, h.2.2]
          clear ho2 ho k1 hz1 hL HT hp
          by_cases e1 : 0 ≤ f.1
          · by_cases e2 : f.1 ≤ 4
            · have e3 : f.1 = 3 := by
                by_cases e3 : f.1 = 3
                · exact e3
                · exact absurd ⟨e1, e2, e3⟩ hp'
              have q1 : decide (0 ≤ f.1) = true := decide_eq_true e1
              have q2 : decide (f.1 ≤ 4) = true := decide_eq_true e2
              have q3 : (f.1 == 3) = true := by simpa using e3
              have q4 : (f.1 != 3) = false := by simpa using e3
              clear e3 hp'
              go_wp2_with fail
              go_roundw
              case rel => exact ⟨j + 1, by go_num, by omega, by omega, by rw [HTT.out]; exact HF.out.1, HF.out.2⟩
              case measure => simp [intOf]; omega
            · have q1 : decide (0 ≤ f.1) = true := decide_eq_true e1
              have q2 : decide (f.1 ≤ 4) = false := decide_eq_false e2
              clear hp'
              go_wp2_with fail
              go_roundw
              case rel => exact ⟨j + 1, by go_num, by omega, by omega, by rw [HTT.out]; exact HF.out.1, HF.out.2⟩
              case measure => simp [intOf]; omega
          · have q1 : decide (0 ≤ f.1) = false := decide_eq_false e1
            clear hp'
            go_wp2_with fail
            go_roundw
            case rel => exact ⟨j + 1, by go_num, by omega, by omega, by rw [HTT.out]; exact HF.out.1, HF.out.2⟩
            case measure => simp [intOf]; omega
      · have hLL : (l.take j).filter passF = (l.take 50).filter passF := by
          by_cases h5 : j = 50
          · rw [h5]
          · rw [List.take_of_length_le (by omega), List.take_of_length_le (by omega)]
        rw [hLL] at ho
        clear hLL
        by_cases e1 : j < l.length
        · have e2 : ¬ j < 50 := fun h => hlt ⟨e1, h⟩
          have e3 : ¬ (j : Int) < 50 := by omega
          go_wp2_with fail
          go_meet
          exact ⟨ho, hb⟩
        · have e3 : ¬ (j : Int) < (l.length : Int) := by omega
          go_wp2_with fail
          go_meet
          exact ⟨ho, hb⟩
  case rest =>
    obtain ⟨ho, hb⟩ := hcut
    have hall := filter_ok (l.take 50)
    have hlo := filter_loose (l.take 50)
    have hIL : ∀ f ∈ (l.take 50).filter passF, I64 f.2.1 := fun f hf => hI f (List.mem_of_mem_take (List.mem_filter.1 hf).1)
    have hlen : ((l.take 50).filter passF).length ≤ 50 := Nat.le_trans (List.length_filter_le ..) (by rw [List.length_take]; omega)
    generalize (l.take 50).filter passF = L at *
    have hnew := new_any wc 17 #[] u6 L okE ho.fs (by omega) hIL
    obtain ⟨a6, c6, rfl⟩ := own_shape ho
    clear hv' v4 v1 v2 hI ho
    go_wp2_with fail
    refine hnew.mono ?_
    rintro e w3 ⟨hb3, ⟨-, n, G, rfl, hN, hG⟩ | ⟨h, -⟩⟩
    rotate_left
    · rw [hall] at h; cases h
    have B3 := hb.trans (hb3.mono hb.size)
    have hG3 : ∀ k, G.has n k → w.heap.size ≤ k := fun k hk => by have := hG k hk; have := hb.size; omega
    clear hnew hb3 hG hb hall hb1
    go_wp2_with fail
    go_loopw [11] (fun i wr => ∃ (j : Nat) (x : Nt) (Gj : Gn), i = .int .i64 (j : Int) ∧ j ≤ L.length ∧ NetW wr n echoV x Gj okE ∧ Loose x ∧ x.fs.length ≤ L.length - j ∧ x.sent ≤ j ∧ (∀ k, Gj.has n k → w.heap.size ≤ k) ∧ Below w.heap.size w wr)
      (fun i _ => L.length - (intOf i).toNat)
    case atStart => exact ⟨0, _, G, rfl, by omega, hN, ⟨rfl, rfl, hlo⟩, Nat.le_refl _, Nat.le_refl _, hG3, B3⟩
    case round =>
      clear hN hG3 B3
      obtain ⟨j, x, Gj, rfl, hj, hN, hlx, hfl, hse, hG, hb⟩ := hrel
      by_cases hlt : j < L.length
      · have hask : Calls Try.prog 11 #[.pointer (some ⟨n, 0, none⟩), .string ⟨#[120]⟩] wr _ := ask_echo wr n x Gj [120] hN ⟨by simp, by simp⟩ (by rw [hlx.th]; simp) (by rw [hlx.bk]; simp) (by omega)
        obtain ⟨hl2, hf2⟩ := hlx.ask [120]
        have HX := hide (And.intro hl2 (And.intro hf2 (And.intro hfl hse)))
        have HG := hide (And.intro hG hb)
        clear hN hlx hl2 hf2 hfl hse hG hb
        go_wp2_with fail
        refine hask.mono ?_
        rintro e w4 ⟨v4, G4, rfl, -, hN4, hg4, -, k4⟩
        have B4 := HG.out.2.trans (k4.below HG.out.1 HG.out.2.size)
        have hG4 : ∀ k, G4.has n k → w.heap.size ≤ k := fun k hk => by
          rcases hg4 k hk with h | h
          · exact HG.out.1 k h
          · have := HG.out.2.size; omega
        have HF := hide (And.intro hN4 (And.intro hG4 B4))
        clear hask hN4 hg4 k4 B4 hG4
        go_wp2_with fail
        go_roundw
        case rel => exact ⟨j + 1, _, G4, by go_num, by omega, HF.out.1, HX.out.1, by have := HX.out.2.1; have := HX.out.2.2.1; omega, by show x.sent + 1 ≤ _; have := HX.out.2.2.2; omega, HF.out.2.1, HF.out.2.2⟩
        case measure => simp [intOf]; omega
      · have hfs : x.fs = [] := List.eq_nil_of_length_eq_zero (by omega)
        have hlit : OwnF (wr.alloc (.cells #[.int .i64 1, .int .i64 0, .int .u8 0, .int .i64 1, .int .i64 0, .int .u8 0] 35)) wr.heap.size (.slice (some ⟨wr.heap.size, 0, none⟩) 2 2) [(1, 0, 0), (1, 0, 0)] := ownF_lit wr [(1, 0, 0), (1, 0, 0)] (by decide)
        have hb4 : Below wr.heap.size wr (wr.alloc (.cells #[.int .i64 1, .int .i64 0, .int .u8 0, .int .i64 1, .int .i64 0, .int .u8 0] 35)) := (Below.refl _ _).alloc (Nat.le_refl _) _
        have hnm := new_any (wr.alloc (.cells #[.int .i64 1, .int .i64 0, .int .u8 0, .int .i64 1, .int .i64 0, .int .u8 0] 35)) 17 #[] _ [(1, 0, 0), (1, 0, 0)] okE hlit.fs (by decide) (by simp [I64])
        have HN := hide (And.intro hN (And.intro hlx (And.intro hfs (And.intro hse (And.intro hG (And.intro hb hb4))))))
        clear hN hlx hfs hfl hse hG hb hb4 hlit
        go_wp2_with fail
        refine hnm.mono ?_
        rintro e w4 ⟨hb5, ⟨-, m, Gm, rfl, hM, hGm⟩ | ⟨h, -⟩⟩
        rotate_left
        · exact absurd h (by decide)
        obtain ⟨hN, hlx, hfs, hse, hG, hb, hb4⟩ := HN.out
        have b45 := hb4.trans (hb5.mono hb4.size)
        have B4 := hb.trans (b45.mono hb.size)
        have hN4 := hN.keep (chg_below b45) (fun _ _ h => h)
        have hdis : ∀ k, Gj.has n k → ¬ Gm.has m k := fun k hk hm => by
          have := hN.lt hk
          have := hGm k hm
          have := hb4.size
          omega
        have hGm4 : ∀ k, Gm.has m k → w.heap.size ≤ k := fun k hk => by have := hGm k hk; have := hb4.size; have := hb.size; omega
        have hleft := left_any hN4
        rw [hfs] at hleft
        have HX := hide (And.intro hlx (And.intro hfs hse))
        have HN := hide (And.intro hN4 (And.intro hM (And.intro hdis (And.intro hG B4))))
        clear hnm hb5 hM hGm hN hlx hfs hse hG hb hb4 b45 B4 hN4 hdis hGm4
        go_wp2_with fail
        refine hleft.mono ?_
        rintro e w5 ⟨rfl, rfl⟩
        clear hleft
        go_wp2_with fail
        go_loopw [14, 15] (fun i _ wq => ∃ (q : Nat) (x : Nt) (Gq : Gn), i = .int .i64 (q : Int) ∧ q ≤ xs.length ∧ q ≤ 50 ∧ NetW wq n echoV x Gq okE ∧ x.fs = [] ∧ x.th = [] ∧ x.bk = [] ∧ x.sent ≤ 50 + q ∧ NetW wq m echoV ⟨[(1, 0, 0), (1, 0, 0)], [], [], 0⟩ Gm okE ∧ (∀ k, Gq.has n k → ¬ Gm.has m k) ∧ (∀ k, Gq.has n k → w.heap.size ≤ k) ∧ Below w.heap.size w wq)
          (fun i _ _ => 50 - (intOf i).toNat)
        case atStart => exact ⟨0, x, Gj, rfl, by omega, by omega, HN.out.1, HX.out.2.1, HX.out.1.th, HX.out.1.bk, by have := HX.out.2.2; omega, HN.out.2.1, HN.out.2.2.1, HN.out.2.2.2.1, HN.out.2.2.2.2⟩
        case round =>
          clear HN HX
          obtain ⟨q, x, Gq, rfl, hq1, hq2, hN, hfs, hth, hbk, hse, hM, hdis, hG, hb⟩ := hrel
          by_cases hlt2 : q < xs.length ∧ q < 50
          · obtain ⟨q1, q2⟩ := hlt2
            obtain ⟨b, off, rfl, hbl, hcell⟩ := hu4 (by rintro rfl; simp at q1)
            have c0 := (hb.cell (p := ⟨b, off + q, none⟩) hbl).trans (hcell q q1)
            have hsx := hx xs[q] (List.getElem_mem q1)
            have HC := hide (show ∀ W, Below w.heap.size w W → W.cell? ⟨b, off + q, none⟩ = some (.string (strB xs[q])) from fun W hW => (hW.cell (p := ⟨b, off + q, none⟩) hbl).trans (hcell q q1))
            clear hu4 hcell
            generalize xs[q] = s at *
            have tls := toL s
            have q3 : (q : Int) < 50 := by omega
            by_cases hs0 : s = []
            · subst hs0
              have hno := ask_none hN
              have hse0 : (([] : Bs) == []) = true := rfl
              have HN := hide (And.intro hN (And.intro hfs (And.intro hth (And.intro hbk (And.intro hse (And.intro hM (And.intro hdis (And.intro hG hb))))))))
              clear hN hfs hth hbk hse hM hdis hG hb
              go_wp2_with fail
              refine hno.mono ?_
              rintro e w6 ⟨rfl, rfl⟩
              clear hno
              go_wp2_with fail
              go_roundw
              case rel =>
                obtain ⟨hN, hfs, hth, hbk, hse, hM, hdis, hG, hb⟩ := HN.out
                exact ⟨q + 1, x, Gq, by go_num, by omega, by omega, hN, hfs, hth, hbk, by omega, hM, hdis, hG, hb⟩
              case measure => simp [intOf]; omega
            · have hse0 : (s == []) = false := str_ne hs0
              have hask := ask_echo wr n x Gq s hN ⟨hs0, by omega⟩ (by rw [hth]; simp) (by rw [hbk]; simp) (by omega)
              rw [served_pass hfs hth hbk] at hask
              have hlo2 := (Loose.ask ⟨hth, hbk, by rw [hfs]; simp⟩ s : _)
              rw [hfs] at hlo2
              have HX := hide (And.intro hlo2.1 (And.intro (List.eq_nil_of_length_eq_zero (Nat.le_zero.1 hlo2.2)) hse))
              have HN := hide (And.intro hN (And.intro hM (And.intro hdis (And.intro hG hb))))
              clear hN hfs hth hbk hse hM hdis hG hb hlo2
              go_wp2_with fail
              refine hask.mono ?_
              rintro e w6 ⟨v6, G6, rfl, ho6, hN6, hg6, hv6, k6⟩
              obtain ⟨hN, hM, hdis, hG, hb⟩ := HN.out
              have hM6 := hM.keep k6 (fun k hk h => hdis k h hk)
              have B6 := hb.trans (k6.below hG hb.size)
              have hG6 : ∀ k, G6.has n k → w.heap.size ≤ k := fun k hk => by
                rcases hg6 k hk with h | h
                · exact hG k h
                · have := hb.size; omega
              have hdis6 : ∀ k, G6.has n k → ¬ Gm.has m k := fun k hk h => by
                rcases hg6 k hk with h1 | h1
                · exact hdis k h1 h
                · have := hM.lt h; omega
              have c6 := HC.out _ B6
              have hcat := bang s
              have hno : ¬ 9223372036854775807 < (strB s).size + 1 := by rw [strB_size]; omega
              have hlB := own_lit w6 [s ++ [33]] (by simp)
              have kB : Chg (fun _ => False) w6 (w6.alloc (.cells #[.string (strB (s ++ [33]))] 9)) := (Chg.refl _ _).alloc _
              have hsB := same_any _ _ _ _ _ (ho6.keep kB (fun _ _ h => h)).ts hlB.ts (by simp) (by simp)
              obtain ⟨a6', c6', rfl⟩ := own_shape ho6
              have HF := hide (And.intro (hN6.keep kB (fun _ _ h => h)) (And.intro (hM6.keep kB (fun _ _ h => h)) (And.intro hdis6 (And.intro hG6 (B6.alloc B6.size (.cells #[.string (strB (s ++ [33]))] 9))))))
              clear hN hM hdis hG hb hask ho6 hN6 hg6 hv6 k6 hM6 B6 hG6 hdis6 hlB kB HN HC c0
              simp only [decide_true] at hsB
              go_wp2_with fail
              refine hsB.mono ?_
              rintro e w7 ⟨rfl, k7⟩
              obtain ⟨hN7, hM7, hdis7, hG7, B7⟩ := HF.out
              have hN8 := hN7.keep k7 (fun _ _ h => h)
              have hM8 := hM7.keep k7 (fun _ _ h => h)
              have B8 := B7.trans (k7.below (fun _ h => h.elim) B7.size)
              have hleft := left_any hM8
              rw [show (Nt.mk [(1, 0, 0), (1, 0, 0)] [] [] 0).fs.length = 2 from rfl] at hleft
              have HF := hide (And.intro hN8 (And.intro hM8 (And.intro hdis7 (And.intro hG7 B8))))
              clear hN7 hM7 hdis7 hG7 B7 hN8 hM8 B8 hsB k7 c6
              go_wp2_with fail
              refine hleft.mono ?_
              rintro e w8 ⟨rfl, rfl⟩
              clear hleft
              go_wp2_with fail
              go_roundw
              case rel =>
                obtain ⟨hN8, hM8, hdis8, hG8, B8⟩ := HF.out
                exact ⟨q + 1, _, G6, by go_num, by omega, by omega, hN8, HX.out.2.1, HX.out.1.th, HX.out.1.bk, by show x.sent + 1 ≤ _; have := HX.out.2.2; omega, hM8, hdis8, hG8, B8⟩
              case measure => simp [intOf]; omega
          · obtain ⟨hN, hfs, hth, hbk, hse, hM, hdis, hG, hb⟩ := And.intro hN (And.intro hfs (And.intro hth (And.intro hbk (And.intro hse (And.intro hM (And.intro hdis (And.intro hG hb)))))))
            have HB := hide hb
            clear hN hfs hth hbk hse hM hdis hG hb
            by_cases e1 : q < xs.length
            · have e2 : ¬ q < 50 := fun h => hlt2 ⟨e1, h⟩
              have e3 : ¬ (q : Int) < 50 := by omega
              go_wp2_with fail
              go_ret
              exact ⟨rfl, HB.out⟩
            · have e3 : ¬ (q : Int) < (xs.length : Int) := by omega
              go_wp2_with fail
              go_ret
              exact ⟨rfl, HB.out⟩
end Go.Proofs.Ytgjmidlcfjgnhaa
