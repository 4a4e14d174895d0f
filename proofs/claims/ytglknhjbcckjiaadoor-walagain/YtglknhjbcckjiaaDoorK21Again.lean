/-
  WalAgain, walked: a log that is opened between any two calls is as one that is not. Conditions: what came in lies there; the table holds its numbers.
-/
import Derived.Test.YtglknhjbcckjiaaDoorK20Shown2
import Derived.Deep.CutBlock
import Derived.Deep.CutRange
import Derived.Deep.LoopGhost
namespace Go.Proofs.YtglknhjbcckjiaaDoor
open Go.RowKit

/-- Two worlds of the law, each with a log that has these groups, beside one another. -/
structure Pair (B : Nat) (w : World) (X Y dx dy lx ly : Nat) (Fx Fy : Nat → Prop) (gs : List (List (List UInt8))) (m : Nat) : Prop where
  wx : WorldAt w X dx lx (.slice none 0 0) (.slice none 0 0) false
  wy : WorldAt w Y dy ly (.slice none 0 0) (.slice none 0 0) false
  cx : Calmly B w Fx dx lx nmLog gs m 16777216
  cy : Calmly B w Fy dy ly nmLog gs m 16777216
  ff : ∀ k, Fx k → ¬ Fy k
  xl : ¬ Fx ly
  yl : ¬ Fy lx
  ll : lx ≠ ly
  XF : ¬ Fx X ∧ ¬ Fy X
  YF : ¬ Fx Y ∧ ¬ Fy Y
  Xl : X ≠ lx ∧ X ≠ ly
  Yl : Y ≠ lx ∧ Y ≠ ly
  XY : X ≠ Y
  low : B ≤ X ∧ B ≤ Y
theorem Pair.quiet {B : Nat} {w w' : World} {X Y dx dy lx ly : Nat} {Fx Fy : Nat → Prop} {gs : List (List (List UInt8))} {m : Nat} (h : Pair B w X Y dx dy lx ly Fx Fy gs m) (hc : Chg (fun _ => False) w w') : Pair B w' X Y dx dy lx ly Fx Fy gs m :=
  ⟨h.wx.keep hc (fun h => h), h.wy.keep hc (fun h => h), h.cx.quiet hc, h.cy.quiet hc, h.ff, h.xl, h.yl, h.ll, h.XF, h.YF, h.Xl, h.Yl, h.XY, h.low⟩
theorem Pair.mono {B : Nat} {w : World} {X Y dx dy lx ly : Nat} {Fx Fy : Nat → Prop} {gs : List (List (List UInt8))} {m m2 : Nat} (h : Pair B w X Y dx dy lx ly Fx Fy gs m) (hm : m ≤ m2) : Pair B w X Y dx dy lx ly Fx Fy gs m2 :=
  ⟨h.wx, h.wy, h.cx.mono hm, h.cy.mono hm, h.ff, h.xl, h.yl, h.ll, h.XF, h.YF, h.Xl, h.Yl, h.XY, h.low⟩
theorem Calmly.base {B : Nat} {w : World} {F : Nat → Prop} {d l : Nat} {z : Nm} {gs : List (List (List UInt8))} {m M : Nat} (h : Calmly B w F d l z gs m M) (k : Nat) (hk : F k) : B ≤ k := by
  obtain ⟨S, L, hg, -⟩ := h
  exact (hg.1.2.1 k hk).1
theorem Calmly.base_l {B : Nat} {w : World} {F : Nat → Prop} {d l : Nat} {z : Nm} {gs : List (List (List UInt8))} {m M : Nat} (h : Calmly B w F d l z gs m M) : B ≤ l := by
  obtain ⟨S, L, hg, -⟩ := h
  exact hg.2.2.2.1
/-- New blocks stay apart. -/
theorem apart {w : World} {F F' : Nat → Prop} (hF : ∀ k, F' k → F k ∨ w.heap.size ≤ k) {k : Nat} (hk : k < w.heap.size) (hn : ¬ F k) : ¬ F' k := fun h => (hF k h).elim hn (fun h => by omega)

set_option maxRecDepth 400000 in
set_option maxHeartbeats 16000000 in
theorem again_any (w : World) (vc vo : Value) (os : List Oq) (bs : List Bool) (hc : Ob w.heap.size w vc os) (ho : Tr w.heap.size w vo bs) (hs : Small os) (hn : os.length ≤ 4611686018427387904) (_hnb : bs.length ≤ 4611686018427387904) (hB0 : 0 < w.heap.size) (hT : TabW w) :
    Calls Tryd.prog 6 #[vc, vo] w fun e w' => e = .returned (.bool true) ∧ Below w.heap.size w w' := by
  have hc' := hc
  have ho' := ho
  obtain ⟨ca, cc, rfl, c1, c2, -⟩ := hc'
  obtain ⟨oa, oc, rfl, o1, o2, -⟩ := ho'
  have HT := hide hT
  go_enter Tryd.func6, Tryd.ntmps6
  go_wp2_with fail
  refine (shown_any w hB0 hT).mono ?_
  rintro e w1 ⟨rfl, hb1⟩
  clear hT
  go_wp2_with fail
  refine (begun_any w.heap.size w1 hB0 hb1.size (HT.out.keep hb1)).mono ?_
  rintro e w2 ⟨X, dx, lx, Fx, rfl, wx2, cx2, fx2, lx1, lx2, hb2⟩
  have hb02 := hb1.trans (hb2.mono hb1.size)
  have hX2 := lt_of_heap wx2
  go_wp2_with fail
  refine (begun_any w.heap.size w2 hB0 hb02.size (HT.out.keep hb02)).mono ?_
  rintro e w3 ⟨Y, dy, ly, Fy, rfl, wy3, cy3, fy3, ly1, ly2, hb3⟩
  have hb03 := hb02.trans (hb3.mono hb02.size)
  have hP : Pair w.heap.size w3 X Y dx dy lx ly Fx Fy [] 1 := by
    have hlx := cx2.low
    have hz1 := hb1.size
    have hz2 := hb02.size
    refine ⟨wx2.keep (Chg.of_below hb3) (by omega), wy3, cx2.keep (Chg.of_below hb3) (fun k hk h => by have := hlx.1 k hk; omega) (by omega), cy3, ?_, ?_, ?_, by omega, ⟨?_, ?_⟩, ⟨?_, ?_⟩, by omega, by omega, by omega, by omega⟩
    · intro k h1 h2
      have := hlx.1 k h1
      have := (fy3 k h2).1
      omega
    · intro h
      have := hlx.1 ly h
      omega
    · intro h
      have := (fy3 lx h).1
      omega
    · intro h
      have := (fx2 X h).2
      omega
    · intro h
      have := (fy3 X h).1
      omega
    · intro h
      have := hlx.1 Y h
      omega
    · intro h
      have := (fy3 Y h).2
      omega
  clear wx2 cx2 fx2 wy3 cy3 fy3 hb1 hb2 hb02 hb3 lx1 lx2 ly1 ly2 hX2
  go_wp2_with fail
  go_loopg [10] 30 (fun g i wr => ∃ (j ly : Nat) (Fx Fy : Nat → Prop) (gs : List (List (List UInt8))) (m : Nat), g = 30 - j ∧ i = .int .i64 (j : Int) ∧ j ≤ os.length ∧ j ≤ 30 ∧ Pair w.heap.size wr X Y dx dy lx ly Fx Fy gs m ∧ m ≤ 2 + j * 225204 ∧ (laid sum4 gs).length ≤ 7264 * j ∧ Below w.heap.size w wr)
  case atStart => exact ⟨0, ly, Fx, Fy, [], 1, rfl, rfl, by omega, by omega, hP, by omega, by rw [l0]; omega, hb03⟩
  case round =>
    clear hP hb03
    obtain ⟨j, ly, Fx, Fy, gs, m, rfl, rfl, j1, j2, hP, hm, hlaid, bb⟩ := hrel
    by_cases hlt : j < os.length ∧ j < 30
    · obtain ⟨j3, j4⟩ := hlt
      obtain ⟨b, off, rfl, hbB, hop⟩ := Ob.at (hc.keep bb) j3
      obtain ⟨hsk, hsr⟩ := hs os[j] (List.getElem_mem j3)
      generalize os[j] = o at hop hsk hsr
      obtain ⟨kind, rs, nn, torn⟩ := o
      obtain ⟨d0, ⟨u, d1, hu⟩, d2, d3⟩ := hop
      dsimp only at d0 d1 d2 d3 hu hsk hsr
      have hu' := hu
      obtain ⟨ua, uc, rfl, u1, u2, u4⟩ := hu'
      have hgf := grp_few rs
      clear u4
      go_upto_region 9 with fail
      go_cut [62] from 43 to 118 (fun c wx => (∃ b, c = .bool b) ∧ wx = wr)
      case first =>
        by_cases hjb : j < bs.length
        · obtain ⟨ob, ooff, rfl, hobB, hcell⟩ := Tr.at (ho.keep bb) hjb
          generalize bs[j] = bj at *
          go_wp2
          go_meet
          exact ⟨⟨_, rfl⟩, rfl⟩
        · have hjb2 : ¬ (j : Int) < (bs.length : Int) := by omega
          go_wp2
          go_meet
          exact ⟨⟨_, rfl⟩, rfl⟩
      case rest =>
        obtain ⟨⟨bq, rfl⟩, hwc⟩ := hcut
        rw [hwc]
        clear hwc
        go_upto_if 62 with fail
        go_cut [11, 12, 13] from 43 to 118 (fun _ _ _ wx => ∃ ly' Fy', Pair w.heap.size wx X Y dx dy lx ly' Fx Fy' gs (m + 1) ∧ Below w.heap.size w wx ∧ Below w.heap.size wr wx)
        case first =>
          cases bq with
          | true =>
            have y0 : wr.cell? ⟨Y, 0, none⟩ = some (.pointer (some ⟨dy, 0, none⟩)) := cell_of hP.wy 0
            have hopn := open_again hP.cy nmLog_ok hB0 (HT.out.keep bb) (by omega)
            have hopn : Calls Tryd.prog 15 #[.pointer (some ⟨dy, 0, none⟩), .string ⟨#[108, 111, 103]⟩] wr _ := hopn
            go_wp2_with fail
            refine hopn.mono ?_
            rintro e w4 ⟨l2, v4, F4, b4, rfl, hl2, -, hC4, hF4, hc4, hG4, -, -, -⟩
            obtain ⟨a4, q4, rfl, -⟩ := hG4.form
            have hlx := hP.cx.low
            have hly := hP.cy.low
            have hXw := lt_of_heap hP.wx
            have hYw := lt_of_heap hP.wy
            have hY4 := hP.wy.keep hc4 hP.YF.2
            have z1 : w4.cell? ⟨Y, 1, none⟩ = some (.pointer (some ⟨ly, 0, none⟩)) := cell_of hY4 1
            have z2 : w4.frozen? ⟨Y, 1, none⟩ = false := thawed hY4 1
            have hg5 : Chg (· = Y) w4 (w4.setCell ⟨Y, 1, none⟩ (.pointer (some ⟨l2, 0, none⟩))) := (Chg.refl (· = Y) w4).setCell (p := ⟨Y, 1, none⟩) (Or.inl rfl) _
            have hnF4 : ∀ {k : Nat}, k < wr.heap.size → ¬ Fy k → ¬ F4 k := fun hk hn => apart hF4 hk hn
            have hP5 : Pair w.heap.size (w4.setCell ⟨Y, 1, none⟩ (.pointer (some ⟨l2, 0, none⟩))) X Y dx dy lx l2 Fx F4 gs (m + 1) := by
              refine ⟨(hP.wx.keep hc4 hP.XF.2).keep hg5 hP.XY, heap_set hY4 1 _, ((hP.cx.keep hc4 (fun k hk h => hP.ff k hk h) hP.yl).keep hg5 (fun k hk e => hP.YF.1 (e ▸ hk)) (fun e => hP.Yl.1 e.symm)).mono (by omega), hC4.keep hg5 (fun k hk e => hnF4 hYw hP.YF.2 (e ▸ hk)) (by omega), fun k hk => hnF4 (hlx.1 k hk) (hP.ff k hk), fun h => by have := hlx.1 l2 h; omega, hnF4 hlx.2 hP.yl, by omega, ⟨hP.XF.1, hnF4 hXw hP.XF.2⟩, ⟨hP.YF.1, hnF4 hYw hP.YF.2⟩, ⟨hP.Xl.1, by omega⟩, ⟨hP.Yl.1, by omega⟩, hP.XY, hP.low⟩
            have b44 : Below w.heap.size wr w4 := hP.cy.belowC (hc4.mono fun _ _ h => .inl h)
            have b4' : Below w.heap.size w w4 := bb.trans b44
            have b45 : Below w.heap.size wr (w4.setCell ⟨Y, 1, none⟩ (.pointer (some ⟨l2, 0, none⟩))) := b44.trans (hg5.below (fun k e => by rw [e]; exact hP.low.2) b4'.size)
            have b5 : Below w.heap.size w (w4.setCell ⟨Y, 1, none⟩ (.pointer (some ⟨l2, 0, none⟩))) := b4'.trans (hg5.below (fun k e => by rw [e]; exact hP.low.2) b4'.size)
            have HP5 := hide hP5
            clear hP5 hopn hC4 hG4 hY4
            go_wp2
            go_meet
            exact ⟨l2, F4, HP5.out, b5, b45⟩
          | false =>
            go_wp2
            go_meet
            exact ⟨ly, Fy, hP.mono (by omega), bb, Below.refl _ _⟩
        case rest =>
          clear hP
          obtain ⟨ly2, Fy2, hP2, b2, bq⟩ := hcut
          have hlx := hP2.cx.low
          have hly := hP2.cy.low
          have hXw := lt_of_heap hP2.wx
          have hYw := lt_of_heap hP2.wy
          have huc := hu.keep bq
          have e0 := (bq.cell (p := ⟨b, off + j * 4, none⟩) hbB).trans d0
          have e1 := (bq.cell (p := ⟨b, off + j * 4 + 1, none⟩) hbB).trans d1
          have e2 := (bq.cell (p := ⟨b, off + j * 4 + 2, none⟩) hbB).trans d2
          have e3 := (bq.cell (p := ⟨b, off + j * 4 + 3, none⟩) hbB).trans d3
          have hlay := lay_calm hP2.cx hP2.wx hP2.XF.1 hP2.Xl.1 kind nn torn hsk _ rs (huc.tx b2.size) hsr hB0 b2.size (HT.out.keep b2) (by omega) (by omega) (by omega)
          go_wp2_with fail
          refine hlay.mono ?_
          rintro e w6 ⟨q6, F6, rfl, hC6, hF6, hc6⟩
          have bc6 : Below w.heap.size wc w6 := hc6.below (fun k h => h.elim (fun h => hP2.cx.base k h) (fun h => by rw [h]; exact hP2.cx.base_l)) b2.size
          have b6 := b2.trans bc6
          have hX6 := hP2.wx.keep hc6 (fun h => h.elim hP2.XF.1 hP2.Xl.1)
          have hY6 := hP2.wy.keep hc6 (fun h => h.elim hP2.YF.1 hP2.Yl.1)
          have hCy6 := hP2.cy.keep hc6 (fun k hk h => h.elim (fun h => hP2.ff k h hk) (fun h => hP2.yl (h ▸ hk))) (fun h => h.elim hP2.xl (fun h => hP2.ll h.symm))
          have hlay2 := lay_calm hCy6 hY6 hP2.YF.2 hP2.Yl.2 kind nn torn hsk _ rs ((huc.keep bc6).tx b6.size) hsr hB0 b6.size (HT.out.keep b6) (by omega) (by omega) (by omega)
          have f0 := (bc6.cell (p := ⟨b, off + j * 4, none⟩) hbB).trans e0
          have f1 := (bc6.cell (p := ⟨b, off + j * 4 + 1, none⟩) hbB).trans e1
          have f2 := (bc6.cell (p := ⟨b, off + j * 4 + 2, none⟩) hbB).trans e2
          have f3 := (bc6.cell (p := ⟨b, off + j * 4 + 3, none⟩) hbB).trans e3
          clear hlay
          go_wp2_with fail
          refine hlay2.mono ?_
          rintro e w7 ⟨q7, F7, rfl, hC7, hF7, hc7⟩
          have bc7 : Below w.heap.size w6 w7 := hc7.below (fun k h => h.elim (fun h => hCy6.base k h) (fun h => by rw [h]; exact hCy6.base_l)) b6.size
          have b7 := b6.trans bc7
          have hl6 := hC6.low
          have hn6 : ∀ {k : Nat}, k < wc.heap.size → ¬ Fx k → ¬ F6 k := fun hk hn => apart hF6 hk hn
          have hs6 := hc6.size
          have hn7 : ∀ {k : Nat}, k < w6.heap.size → ¬ Fy2 k → ¬ F7 k := fun hk hn => apart hF7 hk hn
          have hF6y : ∀ k, F6 k → ¬ Fy2 k := fun k hk h => (hF6 k hk).elim (fun h1 => hP2.ff k h1 h) (fun h1 => by have := hly.1 k h; omega)
          have hP7 : Pair w.heap.size w7 X Y dx dy lx ly2 F6 F7 (gsThen (pk kind 8) gs (fewW rs)) (m + 1 + (laid sum4 gs).length + (grp sum4 (fewW rs)).length + 13) := by
            refine ⟨hX6.keep hc7 (fun h => h.elim hP2.XF.2 hP2.Xl.2), hY6.keep hc7 (fun h => h.elim hP2.YF.2 hP2.Yl.2), hC6.keep hc7 (fun k hk h => h.elim (hF6y k hk) (fun e => hn6 hly.2 hP2.xl (e ▸ hk))) (fun h => h.elim hP2.yl hP2.ll), hC7, fun k hk => hn7 (hl6.1 k hk) (hF6y k hk), hn6 hly.2 hP2.xl, hn7 (by omega) hP2.yl, hP2.ll, ⟨hn6 hXw hP2.XF.1, hn7 (by omega) hP2.XF.2⟩, ⟨hn6 hYw hP2.YF.1, hn7 (by omega) hP2.YF.2⟩, hP2.Xl, hP2.Yl, hP2.XY, hP2.low⟩
          have hlt7 := laid_then (pk kind 8) gs (fewW rs)
          generalize gsThen (pk kind 8) gs (fewW rs) = gs7 at *
          have g1 : w7.cell? ⟨X, 1, none⟩ = some (.pointer (some ⟨lx, 0, none⟩)) := cell_of hP7.wx 1
          have g2 : w7.cell? ⟨Y, 1, none⟩ = some (.pointer (some ⟨ly2, 0, none⟩)) := cell_of hP7.wy 1
          have hbx := bytes_calm (hP7.cx.quiet ((Chg.refl (fun _ => False) w7).drew))
          have hby := bytes_calm (hP7.cy.quiet ((Chg.refl (fun _ => False) w7).drew))
          have HP7 := hide hP7
          generalize hLL : (laid sum4 gs7).length = LL at *
          have hne : (((LL : Nat) : Int) != ((LL : Nat) : Int)) = false := by simp
          clear hP7 hlay2 hC6 hC7 hCy6 hX6 hY6 hP2 huc hu
          go_wp2_with fail
          refine wp_region_held_drew (S := fun W => W.cell? ⟨X, 1, none⟩ = some (.pointer (some ⟨lx, 0, none⟩)) ∧ W.cell? ⟨Y, 1, none⟩ = some (.pointer (some ⟨ly2, 0, none⟩))) (by kernel_rfl) (⟨g1, g2⟩) (fun hHeld => ?_)
          refine takeH (i := 0) (v := ?_) rfl (by kernel_rfl) (by kernel_rfl) (by kernel_rfl) (fun _ _ _ h => h) rfl ?_ hHeld ?_
          rotate_left
          · intro w hS; (try dsimp only at hS); obtain ⟨hS0, hS1⟩ := hS; go_simp; first | done | (with_reducible rfl)
          try simp only [Act.put, List.setIfInBounds_toArray, List.set_cons_zero, List.set_cons_succ]
          refine takeH (i := 1) (v := ?_) rfl (by kernel_rfl) (by kernel_rfl) (by kernel_rfl) (fun _ _ _ h => h) rfl ?_ hHeld ?_
          rotate_left
          · intro w hS; (try dsimp only at hS); obtain ⟨hS0, hS1⟩ := hS; go_simp; first | done | (with_reducible rfl)
          try simp only [Act.put, List.setIfInBounds_toArray, List.set_cons_zero, List.set_cons_succ]
          refine takeH (i := 2) (v := ?_) rfl (by kernel_rfl) (by kernel_rfl) (by kernel_rfl) (fun _ _ _ h => h) rfl ?_ hHeld ?_
          rotate_left
          · intro w hS; (try dsimp only at hS); obtain ⟨hS0, hS1⟩ := hS; go_simp; first | done | (with_reducible rfl)
          try simp only [Act.put, List.setIfInBounds_toArray, List.set_cons_zero, List.set_cons_succ]
          refine takeH (i := 3) (v := ?_) rfl (by kernel_rfl) (by kernel_rfl) (by kernel_rfl) (fun _ _ _ h => h) rfl ?_ hHeld ?_
          rotate_left
          · intro w hS; (try dsimp only at hS); obtain ⟨hS0, hS1⟩ := hS; go_simp; first | done | (with_reducible rfl)
          try simp only [Act.put, List.setIfInBounds_toArray, List.set_cons_zero, List.set_cons_succ]
          refine takeH (i := 4) (v := ?_) rfl (by kernel_rfl) (by kernel_rfl) (by kernel_rfl) (fun _ _ _ h => h) rfl ?_ hHeld ?_
          rotate_left
          · intro w hS; (try dsimp only at hS); obtain ⟨hS0, hS1⟩ := hS; go_simp; first | done | (with_reducible rfl)
          try simp only [Act.put, List.setIfInBounds_toArray, List.set_cons_zero, List.set_cons_succ]
          refine takeH (i := 5) (v := ?_) rfl (by kernel_rfl) (by kernel_rfl) (by kernel_rfl) (fun _ _ _ h => h) rfl ?_ hHeld ?_
          rotate_left
          · intro w hS; (try dsimp only at hS); obtain ⟨hS0, hS1⟩ := hS; go_simp; first | done | (with_reducible rfl)
          try simp only [Act.put, List.setIfInBounds_toArray, List.set_cons_zero, List.set_cons_succ]
          refine takeH (i := 6) (v := ?_) rfl (by kernel_rfl) (by kernel_rfl) (by kernel_rfl) (fun _ _ _ h => h) rfl ?_ hHeld ?_
          rotate_left
          · intro w hS; (try dsimp only at hS); obtain ⟨hS0, hS1⟩ := hS; go_simp; first | done | (with_reducible rfl)
          try simp only [Act.put, List.setIfInBounds_toArray, List.set_cons_zero, List.set_cons_succ]
          refine takeH (i := 7) (v := ?_) rfl (by kernel_rfl) (by kernel_rfl) (by kernel_rfl) (fun _ _ _ h => h) rfl ?_ hHeld ?_
          rotate_left
          · intro w hS; (try dsimp only at hS); obtain ⟨hS0, hS1⟩ := hS; go_simp; first | done | (with_reducible rfl)
          try simp only [Act.put, List.setIfInBounds_toArray, List.set_cons_zero, List.set_cons_succ]
          refine takeH (i := 8) (v := ?_) rfl (by kernel_rfl) (by kernel_rfl) (by kernel_rfl) (fun _ _ _ h => h) rfl ?_ hHeld ?_
          rotate_left
          · intro w hS; (try dsimp only at hS); obtain ⟨hS0, hS1⟩ := hS; go_simp; first | done | (with_reducible rfl)
          try simp only [Act.put, List.setIfInBounds_toArray, List.set_cons_zero, List.set_cons_succ]
          refine takeH (i := 9) (v := ?_) rfl (by kernel_rfl) (by kernel_rfl) (by kernel_rfl) (fun _ _ _ h => h) rfl ?_ hHeld ?_
          rotate_left
          · intro w hS; (try dsimp only at hS); obtain ⟨hS0, hS1⟩ := hS; go_simp; first | done | (with_reducible rfl)
          try simp only [Act.put, List.setIfInBounds_toArray, List.set_cons_zero, List.set_cons_succ]
          refine takeH (i := 10) (v := ?_) rfl (by kernel_rfl) (by kernel_rfl) (by kernel_rfl) (fun _ _ _ h => h) rfl ?_ hHeld ?_
          rotate_left
          · intro w hS; (try dsimp only at hS); obtain ⟨hS0, hS1⟩ := hS; go_simp; first | done | (with_reducible rfl)
          try simp only [Act.put, List.setIfInBounds_toArray, List.set_cons_zero, List.set_cons_succ]
          refine takeH (i := 12) (v := ?_) rfl (by kernel_rfl) (by kernel_rfl) (by kernel_rfl) (fun _ _ _ h => h) rfl ?_ hHeld ?_
          rotate_left
          · intro w hS; (try dsimp only at hS); obtain ⟨hS0, hS1⟩ := hS; go_simp; first | done | (with_reducible rfl)
          try simp only [Act.put, List.setIfInBounds_toArray, List.set_cons_zero, List.set_cons_succ]
          refine takeH (i := 13) (v := ?_) rfl (by kernel_rfl) (by kernel_rfl) (by kernel_rfl) (fun _ _ _ h => h) rfl ?_ hHeld ?_
          rotate_left
          · intro w hS; (try dsimp only at hS); obtain ⟨hS0, hS1⟩ := hS; go_simp; first | done | (with_reducible rfl)
          try simp only [Act.put, List.setIfInBounds_toArray, List.set_cons_zero, List.set_cons_succ]
          refine takeH (i := 14) (v := ?_) rfl (by kernel_rfl) (by kernel_rfl) (by kernel_rfl) (fun _ _ _ h => h) rfl ?_ hHeld ?_
          rotate_left
          · intro w hS; (try dsimp only at hS); obtain ⟨hS0, hS1⟩ := hS; go_simp; first | done | (with_reducible rfl)
          try simp only [Act.put, List.setIfInBounds_toArray, List.set_cons_zero, List.set_cons_succ]
          refine takeH (i := 15) (v := ?_) rfl (by kernel_rfl) (by kernel_rfl) (by kernel_rfl) (fun _ _ _ h => h) rfl ?_ hHeld ?_
          rotate_left
          · intro w hS; (try dsimp only at hS); obtain ⟨hS0, hS1⟩ := hS; go_simp; first | done | (with_reducible rfl)
          try simp only [Act.put, List.setIfInBounds_toArray, List.set_cons_zero, List.set_cons_succ]
          refine onlyH (i := 11) rfl (by kernel_rfl) rfl (fun K hK => ?_)
          go_simp
          refine hbx.mono ?_
          rintro e w8 ⟨rfl, hw8⟩
          rw [hw8]
          clear hw8
          refine hK.out _ _ (⟨g1, g2⟩) (fun hHeld => ?_)
          clear hK K
          try simp only [Act.put, List.setIfInBounds_toArray, List.set_cons_zero, List.set_cons_succ]
          refine onlyH (i := 16) rfl (by kernel_rfl) rfl (fun K hK => ?_)
          go_simp
          refine hby.mono ?_
          rintro e w8 ⟨rfl, hw8⟩
          rw [hw8]
          clear hw8
          refine hK.out _ _ (⟨g1, g2⟩) (fun hHeld => ?_)
          clear hK K
          try simp only [Act.put, List.setIfInBounds_toArray, List.set_cons_zero, List.set_cons_succ]
          refine takeH (i := 17) (v := ?_) rfl (by kernel_rfl) (by kernel_rfl) (by kernel_rfl) (fun _ _ _ h => h) rfl ?_ hHeld ?_
          rotate_left
          · intro w hS; (try dsimp only at hS); obtain ⟨hS0, hS1⟩ := hS; go_simp; first | done | (with_reducible rfl)
          try simp only [Act.put, List.setIfInBounds_toArray, List.set_cons_zero, List.set_cons_succ]
          refine takeH (i := 18) (v := ?_) rfl (by kernel_rfl) (by kernel_rfl) (by kernel_rfl) (fun _ _ _ h => h) rfl ?_ hHeld ?_
          rotate_left
          · intro w hS; (try dsimp only at hS); obtain ⟨hS0, hS1⟩ := hS; go_simp; first | done | (with_reducible rfl)
          try simp only [Act.put, List.setIfInBounds_toArray, List.set_cons_zero, List.set_cons_succ]
          refine wpAnyH_done (by kernel_rfl) ?_ _
          clear hHeld
          go_wp2_with fail
          go_roundg (30 - (j + 1))
          case measure => omega
          case rel => exact ⟨j + 1, ly2, F6, F7, gs7, _, rfl, by go_num, by omega, by omega, HP7.out.quiet ((Chg.refl (fun _ => False) w7).drew), by omega, by omega, b7.trans (Below.refl _ w7).drew⟩
    · have hEnd : True := trivial
      have HP := hide hP
      have x0 : wr.cell? ⟨X, 0, none⟩ = some (.pointer (some ⟨dx, 0, none⟩)) := cell_of hP.wx 0
      have hop1 := open_again hP.cx nmLog_ok hB0 (HT.out.keep bb) (by omega)
      have hop1 : Calls Tryd.prog 15 #[.pointer (some ⟨dx, 0, none⟩), .string ⟨#[108, 111, 103]⟩] wr _ := hop1
      clear hP
      by_cases hil : j < os.length
      · obtain rfl : j = 30 := by omega
        clear hEnd
        go_wp2_with fail
        refine hop1.mono ?_
        rintro e w4 ⟨l4, v4, F4, b4, rfl, hl4, hC4, -, hF4, hc4, hG4, hbb4, -, -⟩
        have hb4 := bb.trans (HP.out.cx.belowC (hc4.mono fun _ _ h => .inl h))
        have hCy4 := HP.out.cy.keep hc4 (fun k hk h => HP.out.ff k h hk) HP.out.xl
        have y0 : w4.cell? ⟨Y, 0, none⟩ = some (.pointer (some ⟨dy, 0, none⟩)) := cell_of (HP.out.wy.keep hc4 HP.out.YF.1) 0
        have hly := HP.out.cy.low
        have hop2 := open_again hCy4 nmLog_ok hB0 (HT.out.keep hb4) (by omega)
        have hop2 : Calls Tryd.prog 15 #[.pointer (some ⟨dy, 0, none⟩), .string ⟨#[108, 111, 103]⟩] w4 _ := hop2
        have HG4 := hide hG4
        obtain ⟨a4, q4, rfl, -⟩ := hG4.form
        clear hop1 hG4 hC4
        go_wp2_with fail
        refine hop2.mono ?_
        rintro e w5 ⟨l5, v5, F5, b5, rfl, hl5, -, -, hF5, hc5, hG5, -, -, -⟩
        have hb5 := hb4.trans (hCy4.belowC (hc5.mono fun _ _ h => .inl h))
        have hr4 : Rs w5 (.slice a4 gs.length q4) gs := (HG4.out.chg hc5 (fun k hk h => by have := hly.1 k h; omega)).rs
        have hsm := same_any w5 _ _ gs gs hr4 hG5.rs
        rw [decide_eq_true rfl] at hsm
        obtain ⟨a5, q5, rfl, -⟩ := hG5.form
        clear hop2 hG5
        go_wp2_with fail
        refine hsm.mono ?_
        rintro e w6 ⟨rfl, hc6⟩
        go_wp2
        go_ret
        exact ⟨rfl, hb5.trans (hc6.below (fun _ h => h.elim) hb5.size)⟩
      · obtain rfl : j = os.length := by omega
        clear hEnd
        go_wp2_with fail
        refine hop1.mono ?_
        rintro e w4 ⟨l4, v4, F4, b4, rfl, hl4, hC4, -, hF4, hc4, hG4, hbb4, -, -⟩
        have hb4 := bb.trans (HP.out.cx.belowC (hc4.mono fun _ _ h => .inl h))
        have hCy4 := HP.out.cy.keep hc4 (fun k hk h => HP.out.ff k h hk) HP.out.xl
        have y0 : w4.cell? ⟨Y, 0, none⟩ = some (.pointer (some ⟨dy, 0, none⟩)) := cell_of (HP.out.wy.keep hc4 HP.out.YF.1) 0
        have hly := HP.out.cy.low
        have hop2 := open_again hCy4 nmLog_ok hB0 (HT.out.keep hb4) (by omega)
        have hop2 : Calls Tryd.prog 15 #[.pointer (some ⟨dy, 0, none⟩), .string ⟨#[108, 111, 103]⟩] w4 _ := hop2
        have HG4 := hide hG4
        obtain ⟨a4, q4, rfl, -⟩ := hG4.form
        clear hop1 hG4 hC4
        go_wp2_with fail
        refine hop2.mono ?_
        rintro e w5 ⟨l5, v5, F5, b5, rfl, hl5, -, -, hF5, hc5, hG5, -, -, -⟩
        have hb5 := hb4.trans (hCy4.belowC (hc5.mono fun _ _ h => .inl h))
        have hr4 : Rs w5 (.slice a4 gs.length q4) gs := (HG4.out.chg hc5 (fun k hk h => by have := hly.1 k h; omega)).rs
        have hsm := same_any w5 _ _ gs gs hr4 hG5.rs
        rw [decide_eq_true rfl] at hsm
        obtain ⟨a5, q5, rfl, -⟩ := hG5.form
        clear hop2 hG5
        go_wp2_with fail
        refine hsm.mono ?_
        rintro e w6 ⟨rfl, hc6⟩
        go_wp2
        go_ret
        exact ⟨rfl, hb5.trans (hc6.below (fun _ h => h.elim) hb5.size)⟩
end Go.Proofs.YtglknhjbcckjiaaDoor
