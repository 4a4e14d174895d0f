/-
  The reference's Do. Conditions: the names and bytes are bounded.
-/
import Derived.Test.YtlejgdjkdbamkaaRefAppend
import Derived.Test.YtlejgdjkdbamkaaOffPure
namespace Go.Proofs.Ytlejgdjkdbamkaa
open Go.RowKit

theorem ok_next {S : Dk} (h : Ok S) : Ok S.next := ⟨h.sortS, h.valid, h.dir, h.one, h.idS, h.idA, h.idM, h.lens⟩
theorem RDone.begun {B r : Nat} {w w1 w' : World} {R : Nat → Prop} {S S1 S' : Dk} {G : Rg} (h : RR B w R r S G) (_h1 : RR B w1 R r S1 G) (hc : Chg (· = r) w w1) (h2 : RDone B w1 R r S' G.ks w') : RDone B w R r S' G.ks w' :=
  RDone.two h rfl (h.chgR hc) h2
theorem sure_le {S : Dk} (h : Ok S) {f : Nat} (hf : f < S.files.length) : S.files[f].sure ≤ S.files[f].b.length := by
  have := h.lens f _ (List.getElem?_eq_getElem hf)
  omega

set_option maxRecDepth 20000 in
set_option maxHeartbeats 3200000 in
theorem do_append {B r : Nat} {R : Nat → Prop} {S : Dk} {G : Rg} (w : World) (h : RR B w R r S G) (hk : Ok S) (hks : G.ks.length ≤ 1000) (n b : Nm) (hb : S.bulk + b.length + 12 < 1099511627776) (hnl : n.length < 4611686018427387904) (hbl : b.length < 4611686018427387904) :
    Calls Try.prog 34 #[.pointer (some ⟨r, 0, none⟩), .int .i64 0, .string (strB n), .string (⟨#[]⟩), .string (strB b)] w fun e w' => e = .returned (.tuple #[.string (strB []), .int .i64 (S.append n b).2]) ∧ RDone B w R r (S.append n b).1 G.ks w' := by
  have hn0 : S.n ≤ S.bulk := by unfold Dk.bulk; omega
  have hdl := dir_le hk
  have hal : S.acts.length ≤ S.bulk := by unfold Dk.bulk; omega
  have hfl : S.files.length ≤ S.bulk := by unfold Dk.bulk; omega
  cases hon : S.on with
  | false =>
    have hst := starts_off w h (by omega) hon
    have HE := hide (show S.append n b = (S, 35) by exact off_append hon n b)
    have HH := hide h
    clear h hon hk
    go_enter Try.func34, Try.ntmps34
    go_wp2_with fail
    refine hst.mono ?_
    rintro e w1 ⟨rfl, hr, hc⟩
    have HD := hide (RDone.own HH.out hr rfl hc)
    clear hr hc hst
    go_wp2
    go_ret2
    rw [HE.out]
    exact ⟨rfl, HD.out⟩
  | true =>
    have hst := starts_on w h (by omega) hon
    have HH := hide h
    have HK := hide (ok_next hk)
    have HK0 := hide hk
    have HON := hide hon
    clear h hk
    go_enter Try.func34, Try.ntmps34
    go_wp2_with fail
    refine hst.mono ?_
    rintro e w1 ⟨rfl, hr1, hc1⟩
    have HR1 := hide hr1
    have HC1 := hide hc1
    have hof := of_any w1 B G.dv S.dir n hr1.dir (by omega)
    clear hst hr1 hc1 hon
    go_wp2_with fail
    refine (rIsName_any w1 n hnl).mono ?_
    rintro e w2 ⟨rfl, rfl⟩
    go_wp2_with fail
    refine (rIsName_any _ [] (by simp)).mono ?_
    rintro e w3 ⟨rfl, rfl⟩
    cases hq : isNm n with
    | false =>
      have hon := HON.out
      have HE := hide (show S.append n b = (S.next, 30) by unfold Dk.append; rw [if_neg (by rw [hon]; simp), if_pos hq])
      have HD := hide (RDone.own HH.out HR1.out rfl HC1.out)
      clear hof hon
      go_wp2
      go_ret2
      rw [HE.out]
      exact ⟨rfl, HD.out⟩
    | true =>
    have c1 := cell_of HR1.out.blk 1
    dsimp only [rcells] at c1
    go_wp2_with fail
    refine hof.mono ?_
    rintro e w4 ⟨rfl, rfl⟩
    clear hof
    cases hl : look S.dir n with
    | none =>
      dsimp only [idx]
      have HL := hide hl
      clear hl
      by_cases hbe : b = []
      · have hfu : ¬ (b ≠ [] ∧ S.room < S.used + b.length) := fun hh => hh.1 hbe
        have hbz : b.length = 0 := by rw [hbe]; rfl
        have hsb : (strB b).size = 0 := by rw [strB_size]; exact hbz
        clear hbe
        go_wp2_with fail
        refine wp_region_held_drew (S := fun _ => True) (by kernel_rfl) (trivial) (fun hHeld => ?_)
        refine takeH (i := 0) (v := ?_) rfl (by kernel_rfl) (by kernel_rfl) (by kernel_rfl) (fun _ _ _ h => h) rfl ?_ hHeld ?_
        rotate_left
        · intro w _; go_simp; first | done | (with_reducible rfl)
        try simp only [Act.put, ly1, ly2, ly3]
        refine takeH (i := 1) (v := ?_) rfl (by kernel_rfl) (by kernel_rfl) (by kernel_rfl) (fun _ _ _ h => h) rfl ?_ hHeld ?_
        rotate_left
        · intro w _; go_simp; first | done | (with_reducible rfl)
        try simp only [Act.put, ly1, ly2, ly3]
        refine takeH (i := 2) (v := ?_) rfl (by kernel_rfl) (by kernel_rfl) (by kernel_rfl) (fun _ _ _ h => h) rfl ?_ hHeld ?_
        rotate_left
        · intro w _; go_simp; first | done | (with_reducible rfl)
        try simp only [Act.put, ly1, ly2, ly3]
        refine takeH (i := 3) (v := ?_) rfl (by kernel_rfl) (by kernel_rfl) (by kernel_rfl) (fun _ _ _ h => h) rfl ?_ hHeld ?_
        rotate_left
        · intro w _; go_simp; first | done | (with_reducible rfl)
        try simp only [Act.put, ly1, ly2, ly3]
        refine takeH (i := 4) (v := ?_) rfl (by kernel_rfl) (by kernel_rfl) (by kernel_rfl) (fun _ _ _ h => h) rfl ?_ hHeld ?_
        rotate_left
        · intro w _; go_simp; first | done | (with_reducible rfl)
        try simp only [Act.put, ly1, ly2, ly3]
        refine takeH (i := 5) (v := ?_) rfl (by kernel_rfl) (by kernel_rfl) (by kernel_rfl) (fun _ _ _ h => h) rfl ?_ hHeld ?_
        rotate_left
        · intro w _; go_simp; first | done | (with_reducible rfl)
        try simp only [Act.put, ly1, ly2, ly3]
        refine takeH (i := 6) (v := ?_) rfl (by kernel_rfl) (by kernel_rfl) (by kernel_rfl) (fun _ _ _ h => h) rfl ?_ hHeld ?_
        rotate_left
        · intro w _; go_simp; first | done | (with_reducible rfl)
        try simp only [Act.put, ly1, ly2, ly3]
        refine takeH (i := 7) (v := ?_) rfl (by kernel_rfl) (by kernel_rfl) (by kernel_rfl) (fun _ _ _ h => h) rfl ?_ hHeld ?_
        rotate_left
        · intro w _; go_simp; first | done | (with_reducible rfl)
        try simp only [Act.put, ly1, ly2, ly3]
        refine skipH (i := 8) rfl (by kernel_rfl) (by kernel_rfl) (by kernel_rfl) (fun _ _ _ h => h) rfl hHeld ?_
        try simp only [Act.put, ly1, ly2, ly3]
        refine skipH (i := 9) rfl (by kernel_rfl) (by kernel_rfl) (by kernel_rfl) (fun _ _ _ h => h) rfl hHeld ?_
        try simp only [Act.put, ly1, ly2, ly3]
        refine skipH (i := 10) rfl (by kernel_rfl) (by kernel_rfl) (by kernel_rfl) (fun _ _ _ h => h) rfl hHeld ?_
        try simp only [Act.put, ly1, ly2, ly3]
        refine skipH (i := 11) rfl (by kernel_rfl) (by kernel_rfl) (by kernel_rfl) (fun _ _ _ h => h) rfl hHeld ?_
        try simp only [Act.put, ly1, ly2, ly3]
        refine skipH (i := 12) rfl (by kernel_rfl) (by kernel_rfl) (by kernel_rfl) (fun _ _ _ h => h) rfl hHeld ?_
        try simp only [Act.put, ly1, ly2, ly3]
        refine skipH (i := 13) rfl (by kernel_rfl) (by kernel_rfl) (by kernel_rfl) (fun _ _ _ h => h) rfl hHeld ?_
        try simp only [Act.put, ly1, ly2, ly3]
        refine skipH (i := 14) rfl (by kernel_rfl) (by kernel_rfl) (by kernel_rfl) (fun _ _ _ h => h) rfl hHeld ?_
        try simp only [Act.put, ly1, ly2, ly3]
        refine skipH (i := 15) rfl (by kernel_rfl) (by kernel_rfl) (by kernel_rfl) (fun _ _ _ h => h) rfl hHeld ?_
        try simp only [Act.put, ly1, ly2, ly3]
        refine skipH (i := 16) rfl (by kernel_rfl) (by kernel_rfl) (by kernel_rfl) (fun _ _ _ h => h) rfl hHeld ?_
        try simp only [Act.put, ly1, ly2, ly3]
        refine skipH (i := 17) rfl (by kernel_rfl) (by kernel_rfl) (by kernel_rfl) (fun _ _ _ h => h) rfl hHeld ?_
        try simp only [Act.put, ly1, ly2, ly3]
        refine takeH (i := 18) (v := ?_) rfl (by kernel_rfl) (by kernel_rfl) (by kernel_rfl) (fun _ _ _ h => h) rfl ?_ hHeld ?_
        rotate_left
        · intro w _; go_simp; first | done | (with_reducible rfl)
        try simp only [Act.put, ly1, ly2, ly3]
        refine wpAnyH_done (by kernel_rfl) ?_ _
        clear hHeld
        have HR2 := hide (HR1.out.keep ((Chg.refl (fun _ => False) _).drew) (fun _ _ h => h))
        have HC2 := hide (HC1.out.drew)
        go_wp2_with fail
        refine (failing_any _ HR2.out (by omega) S.n).mono ?_
        rintro e w5 ⟨rfl, rfl⟩
        have hfe : S.next.fails S.n = S.fails S.n := rfl
        rw [hfe]
        clear hfe
        cases hfs : S.fails S.n with
        | true =>
          have hl := HL.out
          have hon := HON.out
          have HE := hide (show S.append n b = (S.next, 34) by unfold Dk.append; rw [if_neg (by rw [hon]; simp), if_neg (by rw [hq]; simp), if_neg hfu, if_pos hfs])
          clear hon hl hfs
          go_wp2_with fail
          refine (fail_none _ HR2.out 0 _ (by decide) (by decide)).mono ?_
          rintro e w6 ⟨rfl, q1⟩
          have HD := hide (RDone.begun HH.out HR2.out HC2.out q1)
          clear q1
          go_wp2
          go_ret2
          rw [HE.out]
          exact ⟨rfl, HD.out⟩
        | false =>
          have hl := HL.out
          have hon := HON.out
          have HE := hide (show S.append n b = (S.next.app n b, 0) by unfold Dk.append; rw [if_neg (by rw [hon]; simp), if_neg (by rw [hq]; simp), if_neg hfu, if_neg (by rw [hfs]; simp)])
          have hdo := does_append _ HR2.out HK.out n [] b (by have hbx : S.next.bulk = S.bulk + 1 := bulk_next S; omega)
          rw [show look S.next.dir n = none from hl] at hdo
          dsimp only [idx] at hdo
          clear hon hl hfs
          go_wp2_with fail
          refine (hdo).mono ?_
          rintro e w6 ⟨rfl, q1⟩
          have HD := hide (RDone.begun HH.out HR2.out HC2.out q1)
          clear q1
          go_wp2
          go_ret2
          rw [HE.out]
          exact ⟨rfl, HD.out⟩
      · have hbz : 0 < b.length := List.length_pos_iff.2 hbe
        have hsb := strB_size b
        have c4 := cell_of HR1.out.blk 4
        dsimp only [rcells] at c4
        have hul := used_le HK0.out
        have husd := rUsed_any _ (HR1.out.keep ((Chg.refl (fun _ => False) _).drew) (fun _ _ h => h)) HK.out (by have hbx : S.next.bulk = S.bulk + 1 := bulk_next S; omega)
        rw [show S.next.used = S.used from rfl] at husd
        have hdb : decide ((0 : Int) < (b.length : Int)) = true := decide_eq_true (by omega)
        have hwr : IntKind.i64.wrap ((S.used : Int) + (b.length : Int)) = (S.used : Int) + (b.length : Int) := by rw [IntKind.wrap_i64]; omega
        by_cases hro : S.room < S.used + b.length
        · have hdr : decide ((S.room : Int) < (S.used : Int) + (b.length : Int)) = true := decide_eq_true (by omega)
          have hon := HON.out
          have HE := hide (show S.append n b = (S.next, 33) by unfold Dk.append; rw [if_neg (by rw [hon]; simp), if_neg (by rw [hq]; simp), if_pos ⟨hbe, hro⟩])
          clear hon hbe
          go_wp2_with fail
          refine wp_region_held_drew (S := fun W => W.cell? ⟨r, 4, none⟩ = some (.int .i64 (S.room : Int))) (by kernel_rfl) (c4) (fun hHeld => ?_)
          refine takeH (i := 0) (v := ?_) rfl (by kernel_rfl) (by kernel_rfl) (by kernel_rfl) (fun _ _ _ h => h) rfl ?_ hHeld ?_
          rotate_left
          · intro w hS; (try dsimp only at hS); obtain hS0 := hS; go_simp; first | done | (with_reducible rfl)
          try simp only [Act.put, ly1, ly2, ly3]
          refine takeH (i := 1) (v := ?_) rfl (by kernel_rfl) (by kernel_rfl) (by kernel_rfl) (fun _ _ _ h => h) rfl ?_ hHeld ?_
          rotate_left
          · intro w hS; (try dsimp only at hS); obtain hS0 := hS; go_simp; first | done | (with_reducible rfl)
          try simp only [Act.put, ly1, ly2, ly3]
          refine takeH (i := 2) (v := ?_) rfl (by kernel_rfl) (by kernel_rfl) (by kernel_rfl) (fun _ _ _ h => h) rfl ?_ hHeld ?_
          rotate_left
          · intro w hS; (try dsimp only at hS); obtain hS0 := hS; go_simp; first | done | (with_reducible rfl)
          try simp only [Act.put, ly1, ly2, ly3]
          refine takeH (i := 3) (v := ?_) rfl (by kernel_rfl) (by kernel_rfl) (by kernel_rfl) (fun _ _ _ h => h) rfl ?_ hHeld ?_
          rotate_left
          · intro w hS; (try dsimp only at hS); obtain hS0 := hS; go_simp; first | done | (with_reducible rfl)
          try simp only [Act.put, ly1, ly2, ly3]
          refine takeH (i := 4) (v := ?_) rfl (by kernel_rfl) (by kernel_rfl) (by kernel_rfl) (fun _ _ _ h => h) rfl ?_ hHeld ?_
          rotate_left
          · intro w hS; (try dsimp only at hS); obtain hS0 := hS; go_simp; first | done | (with_reducible rfl)
          try simp only [Act.put, ly1, ly2, ly3]
          refine takeH (i := 5) (v := ?_) rfl (by kernel_rfl) (by kernel_rfl) (by kernel_rfl) (fun _ _ _ h => h) rfl ?_ hHeld ?_
          rotate_left
          · intro w hS; (try dsimp only at hS); obtain hS0 := hS; go_simp; first | done | (with_reducible rfl)
          try simp only [Act.put, ly1, ly2, ly3]
          refine takeH (i := 6) (v := ?_) rfl (by kernel_rfl) (by kernel_rfl) (by kernel_rfl) (fun _ _ _ h => h) rfl ?_ hHeld ?_
          rotate_left
          · intro w hS; (try dsimp only at hS); obtain hS0 := hS; go_simp; first | done | (with_reducible rfl)
          try simp only [Act.put, ly1, ly2, ly3]
          refine takeH (i := 7) (v := ?_) rfl (by kernel_rfl) (by kernel_rfl) (by kernel_rfl) (fun _ _ _ h => h) rfl ?_ hHeld ?_
          rotate_left
          · intro w hS; (try dsimp only at hS); obtain hS0 := hS; go_simp; first | done | (with_reducible rfl)
          try simp only [Act.put, ly1, ly2, ly3]
          refine takeH (i := 8) (v := ?_) rfl (by kernel_rfl) (by kernel_rfl) (by kernel_rfl) (fun _ _ _ h => h) rfl ?_ hHeld ?_
          rotate_left
          · intro w hS; (try dsimp only at hS); obtain hS0 := hS; go_simp; first | done | (with_reducible rfl)
          try simp only [Act.put, ly1, ly2, ly3]
          refine takeH (i := 10) (v := ?_) rfl (by kernel_rfl) (by kernel_rfl) (by kernel_rfl) (fun _ _ _ h => h) rfl ?_ hHeld ?_
          rotate_left
          · intro w hS; (try dsimp only at hS); obtain hS0 := hS; go_simp; first | done | (with_reducible rfl)
          try simp only [Act.put, ly1, ly2, ly3]
          refine takeH (i := 11) (v := ?_) rfl (by kernel_rfl) (by kernel_rfl) (by kernel_rfl) (fun _ _ _ h => h) rfl ?_ hHeld ?_
          rotate_left
          · intro w hS; (try dsimp only at hS); obtain hS0 := hS; go_simp; first | done | (with_reducible rfl)
          try simp only [Act.put, ly1, ly2, ly3]
          refine takeH (i := 13) (v := ?_) rfl (by kernel_rfl) (by kernel_rfl) (by kernel_rfl) (fun _ _ _ h => h) rfl ?_ hHeld ?_
          rotate_left
          · intro w hS; (try dsimp only at hS); obtain hS0 := hS; go_simp; first | done | (with_reducible rfl)
          try simp only [Act.put, ly1, ly2, ly3]
          refine takeH (i := 14) (v := ?_) rfl (by kernel_rfl) (by kernel_rfl) (by kernel_rfl) (fun _ _ _ h => h) rfl ?_ hHeld ?_
          rotate_left
          · intro w hS; (try dsimp only at hS); obtain hS0 := hS; go_simp; first | done | (with_reducible rfl)
          try simp only [Act.put, ly1, ly2, ly3]
          refine takeH (i := 15) (v := ?_) rfl (by kernel_rfl) (by kernel_rfl) (by kernel_rfl) (fun _ _ _ h => h) rfl ?_ hHeld ?_
          rotate_left
          · intro w hS; (try dsimp only at hS); obtain hS0 := hS; go_simp; first | done | (with_reducible rfl)
          try simp only [Act.put, ly1, ly2, ly3]
          refine takeH (i := 16) (v := ?_) rfl (by kernel_rfl) (by kernel_rfl) (by kernel_rfl) (fun _ _ _ h => h) rfl ?_ hHeld ?_
          rotate_left
          · intro w hS; (try dsimp only at hS); obtain hS0 := hS; go_simp; first | done | (with_reducible rfl)
          try simp only [Act.put, ly1, ly2, ly3]
          refine onlyH (i := 9) rfl (by kernel_rfl) rfl (fun K hK => ?_)
          go_simp
          refine husd.mono ?_
          rintro e w9 ⟨rfl, hc9⟩
          have hr9 := HR1.out.keep (((Chg.refl (fun _ => False) _).drew).then hc9) (fun _ _ h => h)
          have c4' := cell_of hr9.blk 4
          dsimp only [rcells] at c4'
          have HR2 := hide hr9
          have HC2 := hide (HC1.out.then ((((Chg.refl (fun _ => False) _).drew).then hc9).mono fun _ _ h => h.elim))
          clear hr9 hc9
          refine hK.out _ _ (c4') (fun hHeld => ?_)
          clear hK K
          try simp only [Act.put, ly1, ly2, ly3]
          refine takeH (i := 12) (v := ?_) rfl (by kernel_rfl) (by kernel_rfl) (by kernel_rfl) (fun _ _ _ h => h) rfl ?_ hHeld ?_
          rotate_left
          · intro w hS; (try dsimp only at hS); obtain hS0 := hS; go_simp; first | done | (with_reducible rfl)
          try simp only [Act.put, ly1, ly2, ly3]
          refine takeH (i := 17) (v := ?_) rfl (by kernel_rfl) (by kernel_rfl) (by kernel_rfl) (fun _ _ _ h => h) rfl ?_ hHeld ?_
          rotate_left
          · intro w hS; (try dsimp only at hS); obtain hS0 := hS; go_simp; first | done | (with_reducible rfl)
          try simp only [Act.put, ly1, ly2, ly3]
          refine takeH (i := 18) (v := ?_) rfl (by kernel_rfl) (by kernel_rfl) (by kernel_rfl) (fun _ _ _ h => h) rfl ?_ hHeld ?_
          rotate_left
          · intro w hS; (try dsimp only at hS); obtain hS0 := hS; go_simp; first | done | (with_reducible rfl)
          try simp only [Act.put, ly1, ly2, ly3]
          refine wpAnyH_done (by kernel_rfl) ?_ _
          clear hHeld husd
          have HD := hide (RDone.own HH.out HR2.out rfl HC2.out)
          go_wp2
          go_ret2
          rw [HE.out]
          exact ⟨rfl, HD.out⟩
        · have hdr : decide ((S.room : Int) < (S.used : Int) + (b.length : Int)) = false := decide_eq_false (by omega)
          have hfu : ¬ (b ≠ [] ∧ S.room < S.used + b.length) := fun hh => hro hh.2
          clear hbe
          go_wp2_with fail
          refine wp_region_held_drew (S := fun W => W.cell? ⟨r, 4, none⟩ = some (.int .i64 (S.room : Int))) (by kernel_rfl) (c4) (fun hHeld => ?_)
          refine takeH (i := 0) (v := ?_) rfl (by kernel_rfl) (by kernel_rfl) (by kernel_rfl) (fun _ _ _ h => h) rfl ?_ hHeld ?_
          rotate_left
          · intro w hS; (try dsimp only at hS); obtain hS0 := hS; go_simp; first | done | (with_reducible rfl)
          try simp only [Act.put, ly1, ly2, ly3]
          refine takeH (i := 1) (v := ?_) rfl (by kernel_rfl) (by kernel_rfl) (by kernel_rfl) (fun _ _ _ h => h) rfl ?_ hHeld ?_
          rotate_left
          · intro w hS; (try dsimp only at hS); obtain hS0 := hS; go_simp; first | done | (with_reducible rfl)
          try simp only [Act.put, ly1, ly2, ly3]
          refine takeH (i := 2) (v := ?_) rfl (by kernel_rfl) (by kernel_rfl) (by kernel_rfl) (fun _ _ _ h => h) rfl ?_ hHeld ?_
          rotate_left
          · intro w hS; (try dsimp only at hS); obtain hS0 := hS; go_simp; first | done | (with_reducible rfl)
          try simp only [Act.put, ly1, ly2, ly3]
          refine takeH (i := 3) (v := ?_) rfl (by kernel_rfl) (by kernel_rfl) (by kernel_rfl) (fun _ _ _ h => h) rfl ?_ hHeld ?_
          rotate_left
          · intro w hS; (try dsimp only at hS); obtain hS0 := hS; go_simp; first | done | (with_reducible rfl)
          try simp only [Act.put, ly1, ly2, ly3]
          refine takeH (i := 4) (v := ?_) rfl (by kernel_rfl) (by kernel_rfl) (by kernel_rfl) (fun _ _ _ h => h) rfl ?_ hHeld ?_
          rotate_left
          · intro w hS; (try dsimp only at hS); obtain hS0 := hS; go_simp; first | done | (with_reducible rfl)
          try simp only [Act.put, ly1, ly2, ly3]
          refine takeH (i := 5) (v := ?_) rfl (by kernel_rfl) (by kernel_rfl) (by kernel_rfl) (fun _ _ _ h => h) rfl ?_ hHeld ?_
          rotate_left
          · intro w hS; (try dsimp only at hS); obtain hS0 := hS; go_simp; first | done | (with_reducible rfl)
          try simp only [Act.put, ly1, ly2, ly3]
          refine takeH (i := 6) (v := ?_) rfl (by kernel_rfl) (by kernel_rfl) (by kernel_rfl) (fun _ _ _ h => h) rfl ?_ hHeld ?_
          rotate_left
          · intro w hS; (try dsimp only at hS); obtain hS0 := hS; go_simp; first | done | (with_reducible rfl)
          try simp only [Act.put, ly1, ly2, ly3]
          refine takeH (i := 7) (v := ?_) rfl (by kernel_rfl) (by kernel_rfl) (by kernel_rfl) (fun _ _ _ h => h) rfl ?_ hHeld ?_
          rotate_left
          · intro w hS; (try dsimp only at hS); obtain hS0 := hS; go_simp; first | done | (with_reducible rfl)
          try simp only [Act.put, ly1, ly2, ly3]
          refine takeH (i := 8) (v := ?_) rfl (by kernel_rfl) (by kernel_rfl) (by kernel_rfl) (fun _ _ _ h => h) rfl ?_ hHeld ?_
          rotate_left
          · intro w hS; (try dsimp only at hS); obtain hS0 := hS; go_simp; first | done | (with_reducible rfl)
          try simp only [Act.put, ly1, ly2, ly3]
          refine takeH (i := 10) (v := ?_) rfl (by kernel_rfl) (by kernel_rfl) (by kernel_rfl) (fun _ _ _ h => h) rfl ?_ hHeld ?_
          rotate_left
          · intro w hS; (try dsimp only at hS); obtain hS0 := hS; go_simp; first | done | (with_reducible rfl)
          try simp only [Act.put, ly1, ly2, ly3]
          refine takeH (i := 11) (v := ?_) rfl (by kernel_rfl) (by kernel_rfl) (by kernel_rfl) (fun _ _ _ h => h) rfl ?_ hHeld ?_
          rotate_left
          · intro w hS; (try dsimp only at hS); obtain hS0 := hS; go_simp; first | done | (with_reducible rfl)
          try simp only [Act.put, ly1, ly2, ly3]
          refine takeH (i := 13) (v := ?_) rfl (by kernel_rfl) (by kernel_rfl) (by kernel_rfl) (fun _ _ _ h => h) rfl ?_ hHeld ?_
          rotate_left
          · intro w hS; (try dsimp only at hS); obtain hS0 := hS; go_simp; first | done | (with_reducible rfl)
          try simp only [Act.put, ly1, ly2, ly3]
          refine takeH (i := 14) (v := ?_) rfl (by kernel_rfl) (by kernel_rfl) (by kernel_rfl) (fun _ _ _ h => h) rfl ?_ hHeld ?_
          rotate_left
          · intro w hS; (try dsimp only at hS); obtain hS0 := hS; go_simp; first | done | (with_reducible rfl)
          try simp only [Act.put, ly1, ly2, ly3]
          refine takeH (i := 15) (v := ?_) rfl (by kernel_rfl) (by kernel_rfl) (by kernel_rfl) (fun _ _ _ h => h) rfl ?_ hHeld ?_
          rotate_left
          · intro w hS; (try dsimp only at hS); obtain hS0 := hS; go_simp; first | done | (with_reducible rfl)
          try simp only [Act.put, ly1, ly2, ly3]
          refine takeH (i := 16) (v := ?_) rfl (by kernel_rfl) (by kernel_rfl) (by kernel_rfl) (fun _ _ _ h => h) rfl ?_ hHeld ?_
          rotate_left
          · intro w hS; (try dsimp only at hS); obtain hS0 := hS; go_simp; first | done | (with_reducible rfl)
          try simp only [Act.put, ly1, ly2, ly3]
          refine onlyH (i := 9) rfl (by kernel_rfl) rfl (fun K hK => ?_)
          go_simp
          refine husd.mono ?_
          rintro e w9 ⟨rfl, hc9⟩
          have hr9 := HR1.out.keep (((Chg.refl (fun _ => False) _).drew).then hc9) (fun _ _ h => h)
          have c4' := cell_of hr9.blk 4
          dsimp only [rcells] at c4'
          have HR2 := hide hr9
          have HC2 := hide (HC1.out.then ((((Chg.refl (fun _ => False) _).drew).then hc9).mono fun _ _ h => h.elim))
          clear hr9 hc9
          refine hK.out _ _ (c4') (fun hHeld => ?_)
          clear hK K
          try simp only [Act.put, ly1, ly2, ly3]
          refine takeH (i := 12) (v := ?_) rfl (by kernel_rfl) (by kernel_rfl) (by kernel_rfl) (fun _ _ _ h => h) rfl ?_ hHeld ?_
          rotate_left
          · intro w hS; (try dsimp only at hS); obtain hS0 := hS; go_simp; first | done | (with_reducible rfl)
          try simp only [Act.put, ly1, ly2, ly3]
          refine takeH (i := 17) (v := ?_) rfl (by kernel_rfl) (by kernel_rfl) (by kernel_rfl) (fun _ _ _ h => h) rfl ?_ hHeld ?_
          rotate_left
          · intro w hS; (try dsimp only at hS); obtain hS0 := hS; go_simp; first | done | (with_reducible rfl)
          try simp only [Act.put, ly1, ly2, ly3]
          refine takeH (i := 18) (v := ?_) rfl (by kernel_rfl) (by kernel_rfl) (by kernel_rfl) (fun _ _ _ h => h) rfl ?_ hHeld ?_
          rotate_left
          · intro w hS; (try dsimp only at hS); obtain hS0 := hS; go_simp; first | done | (with_reducible rfl)
          try simp only [Act.put, ly1, ly2, ly3]
          refine wpAnyH_done (by kernel_rfl) ?_ _
          clear hHeld husd
          go_wp2_with fail
          refine (failing_any _ HR2.out (by omega) S.n).mono ?_
          rintro e w5 ⟨rfl, rfl⟩
          have hfe : S.next.fails S.n = S.fails S.n := rfl
          rw [hfe]
          clear hfe
          cases hfs : S.fails S.n with
          | true =>
            have hl := HL.out
            have hon := HON.out
            have HE := hide (show S.append n b = (S.next, 34) by unfold Dk.append; rw [if_neg (by rw [hon]; simp), if_neg (by rw [hq]; simp), if_neg hfu, if_pos hfs])
            clear hon hl hfs
            go_wp2_with fail
            refine (fail_none _ HR2.out 0 _ (by decide) (by decide)).mono ?_
            rintro e w6 ⟨rfl, q1⟩
            have HD := hide (RDone.begun HH.out HR2.out HC2.out q1)
            clear q1
            go_wp2
            go_ret2
            rw [HE.out]
            exact ⟨rfl, HD.out⟩
          | false =>
            have hl := HL.out
            have hon := HON.out
            have HE := hide (show S.append n b = (S.next.app n b, 0) by unfold Dk.append; rw [if_neg (by rw [hon]; simp), if_neg (by rw [hq]; simp), if_neg hfu, if_neg (by rw [hfs]; simp)])
            have hdo := does_append _ HR2.out HK.out n [] b (by have hbx : S.next.bulk = S.bulk + 1 := bulk_next S; omega)
            rw [show look S.next.dir n = none from hl] at hdo
            dsimp only [idx] at hdo
            clear hon hl hfs
            go_wp2_with fail
            refine (hdo).mono ?_
            rintro e w6 ⟨rfl, q1⟩
            have HD := hide (RDone.begun HH.out HR2.out HC2.out q1)
            clear q1
            go_wp2
            go_ret2
            rw [HE.out]
            exact ⟨rfl, HD.out⟩
    | some f =>
      dsimp only [idx]
      have HFI := hide (show f < S.next.files.length from HK0.out.idD (look_id hl))
      have HL := hide hl
      clear hl
      have hfn : ¬ (f : Int) < 0 := by omega
      by_cases hbe : b = []
      · have hfu : ¬ (b ≠ [] ∧ S.room < S.used + b.length) := fun hh => hh.1 hbe
        have hbz : b.length = 0 := by rw [hbe]; rfl
        have hsb : (strB b).size = 0 := by rw [strB_size]; exact hbz
        clear hbe
        go_wp2_with fail
        refine wp_region_held_drew (S := fun _ => True) (by kernel_rfl) (trivial) (fun hHeld => ?_)
        refine takeH (i := 0) (v := ?_) rfl (by kernel_rfl) (by kernel_rfl) (by kernel_rfl) (fun _ _ _ h => h) rfl ?_ hHeld ?_
        rotate_left
        · intro w _; go_simp; first | done | (with_reducible rfl)
        try simp only [Act.put, ly1, ly2, ly3]
        refine takeH (i := 1) (v := ?_) rfl (by kernel_rfl) (by kernel_rfl) (by kernel_rfl) (fun _ _ _ h => h) rfl ?_ hHeld ?_
        rotate_left
        · intro w _; go_simp; first | done | (with_reducible rfl)
        try simp only [Act.put, ly1, ly2, ly3]
        refine takeH (i := 2) (v := ?_) rfl (by kernel_rfl) (by kernel_rfl) (by kernel_rfl) (fun _ _ _ h => h) rfl ?_ hHeld ?_
        rotate_left
        · intro w _; go_simp; first | done | (with_reducible rfl)
        try simp only [Act.put, ly1, ly2, ly3]
        refine takeH (i := 3) (v := ?_) rfl (by kernel_rfl) (by kernel_rfl) (by kernel_rfl) (fun _ _ _ h => h) rfl ?_ hHeld ?_
        rotate_left
        · intro w _; go_simp; first | done | (with_reducible rfl)
        try simp only [Act.put, ly1, ly2, ly3]
        refine takeH (i := 4) (v := ?_) rfl (by kernel_rfl) (by kernel_rfl) (by kernel_rfl) (fun _ _ _ h => h) rfl ?_ hHeld ?_
        rotate_left
        · intro w _; go_simp; first | done | (with_reducible rfl)
        try simp only [Act.put, ly1, ly2, ly3]
        refine takeH (i := 5) (v := ?_) rfl (by kernel_rfl) (by kernel_rfl) (by kernel_rfl) (fun _ _ _ h => h) rfl ?_ hHeld ?_
        rotate_left
        · intro w _; go_simp; first | done | (with_reducible rfl)
        try simp only [Act.put, ly1, ly2, ly3]
        refine takeH (i := 6) (v := ?_) rfl (by kernel_rfl) (by kernel_rfl) (by kernel_rfl) (fun _ _ _ h => h) rfl ?_ hHeld ?_
        rotate_left
        · intro w _; go_simp; first | done | (with_reducible rfl)
        try simp only [Act.put, ly1, ly2, ly3]
        refine takeH (i := 7) (v := ?_) rfl (by kernel_rfl) (by kernel_rfl) (by kernel_rfl) (fun _ _ _ h => h) rfl ?_ hHeld ?_
        rotate_left
        · intro w _; go_simp; first | done | (with_reducible rfl)
        try simp only [Act.put, ly1, ly2, ly3]
        refine skipH (i := 8) rfl (by kernel_rfl) (by kernel_rfl) (by kernel_rfl) (fun _ _ _ h => h) rfl hHeld ?_
        try simp only [Act.put, ly1, ly2, ly3]
        refine skipH (i := 9) rfl (by kernel_rfl) (by kernel_rfl) (by kernel_rfl) (fun _ _ _ h => h) rfl hHeld ?_
        try simp only [Act.put, ly1, ly2, ly3]
        refine skipH (i := 10) rfl (by kernel_rfl) (by kernel_rfl) (by kernel_rfl) (fun _ _ _ h => h) rfl hHeld ?_
        try simp only [Act.put, ly1, ly2, ly3]
        refine skipH (i := 11) rfl (by kernel_rfl) (by kernel_rfl) (by kernel_rfl) (fun _ _ _ h => h) rfl hHeld ?_
        try simp only [Act.put, ly1, ly2, ly3]
        refine skipH (i := 12) rfl (by kernel_rfl) (by kernel_rfl) (by kernel_rfl) (fun _ _ _ h => h) rfl hHeld ?_
        try simp only [Act.put, ly1, ly2, ly3]
        refine skipH (i := 13) rfl (by kernel_rfl) (by kernel_rfl) (by kernel_rfl) (fun _ _ _ h => h) rfl hHeld ?_
        try simp only [Act.put, ly1, ly2, ly3]
        refine skipH (i := 14) rfl (by kernel_rfl) (by kernel_rfl) (by kernel_rfl) (fun _ _ _ h => h) rfl hHeld ?_
        try simp only [Act.put, ly1, ly2, ly3]
        refine skipH (i := 15) rfl (by kernel_rfl) (by kernel_rfl) (by kernel_rfl) (fun _ _ _ h => h) rfl hHeld ?_
        try simp only [Act.put, ly1, ly2, ly3]
        refine skipH (i := 16) rfl (by kernel_rfl) (by kernel_rfl) (by kernel_rfl) (fun _ _ _ h => h) rfl hHeld ?_
        try simp only [Act.put, ly1, ly2, ly3]
        refine skipH (i := 17) rfl (by kernel_rfl) (by kernel_rfl) (by kernel_rfl) (fun _ _ _ h => h) rfl hHeld ?_
        try simp only [Act.put, ly1, ly2, ly3]
        refine takeH (i := 18) (v := ?_) rfl (by kernel_rfl) (by kernel_rfl) (by kernel_rfl) (fun _ _ _ h => h) rfl ?_ hHeld ?_
        rotate_left
        · intro w _; go_simp; first | done | (with_reducible rfl)
        try simp only [Act.put, ly1, ly2, ly3]
        refine wpAnyH_done (by kernel_rfl) ?_ _
        clear hHeld
        have HR2 := hide (HR1.out.keep ((Chg.refl (fun _ => False) _).drew) (fun _ _ h => h))
        have HC2 := hide (HC1.out.drew)
        go_wp2_with fail
        refine (failing_any _ HR2.out (by omega) S.n).mono ?_
        rintro e w5 ⟨rfl, rfl⟩
        have hfe : S.next.fails S.n = S.fails S.n := rfl
        rw [hfe]
        clear hfe
        cases hfs : S.fails S.n with
        | true =>
          have hl := HL.out
          have hon := HON.out
          have HE := hide (show S.append n b = (S.next, 34) by unfold Dk.append; rw [if_neg (by rw [hon]; simp), if_neg (by rw [hq]; simp), if_neg hfu, if_pos hfs])
          clear hon hl hfs
          go_wp2_with fail
          refine (fail_none _ HR2.out 0 _ (by decide) (by decide)).mono ?_
          rintro e w6 ⟨rfl, q1⟩
          have HD := hide (RDone.begun HH.out HR2.out HC2.out q1)
          clear q1
          go_wp2
          go_ret2
          rw [HE.out]
          exact ⟨rfl, HD.out⟩
        | false =>
          have hl := HL.out
          have hon := HON.out
          have HE := hide (show S.append n b = (S.next.app n b, 0) by unfold Dk.append; rw [if_neg (by rw [hon]; simp), if_neg (by rw [hq]; simp), if_neg hfu, if_neg (by rw [hfs]; simp)])
          have hdo := does_append _ HR2.out HK.out n [] b (by have hbx : S.next.bulk = S.bulk + 1 := bulk_next S; omega)
          rw [show look S.next.dir n = some f from hl] at hdo
          dsimp only [idx] at hdo
          clear hon hl hfs
          go_wp2_with fail
          refine (hdo).mono ?_
          rintro e w6 ⟨rfl, q1⟩
          have HD := hide (RDone.begun HH.out HR2.out HC2.out q1)
          clear q1
          go_wp2
          go_ret2
          rw [HE.out]
          exact ⟨rfl, HD.out⟩
      · have hbz : 0 < b.length := List.length_pos_iff.2 hbe
        have hsb := strB_size b
        have c4 := cell_of HR1.out.blk 4
        dsimp only [rcells] at c4
        have hul := used_le HK0.out
        have husd := rUsed_any _ (HR1.out.keep ((Chg.refl (fun _ => False) _).drew) (fun _ _ h => h)) HK.out (by have hbx : S.next.bulk = S.bulk + 1 := bulk_next S; omega)
        rw [show S.next.used = S.used from rfl] at husd
        have hdb : decide ((0 : Int) < (b.length : Int)) = true := decide_eq_true (by omega)
        have hwr : IntKind.i64.wrap ((S.used : Int) + (b.length : Int)) = (S.used : Int) + (b.length : Int) := by rw [IntKind.wrap_i64]; omega
        by_cases hro : S.room < S.used + b.length
        · have hdr : decide ((S.room : Int) < (S.used : Int) + (b.length : Int)) = true := decide_eq_true (by omega)
          have hon := HON.out
          have HE := hide (show S.append n b = (S.next, 33) by unfold Dk.append; rw [if_neg (by rw [hon]; simp), if_neg (by rw [hq]; simp), if_pos ⟨hbe, hro⟩])
          clear hon hbe
          go_wp2_with fail
          refine wp_region_held_drew (S := fun W => W.cell? ⟨r, 4, none⟩ = some (.int .i64 (S.room : Int))) (by kernel_rfl) (c4) (fun hHeld => ?_)
          refine takeH (i := 0) (v := ?_) rfl (by kernel_rfl) (by kernel_rfl) (by kernel_rfl) (fun _ _ _ h => h) rfl ?_ hHeld ?_
          rotate_left
          · intro w hS; (try dsimp only at hS); obtain hS0 := hS; go_simp; first | done | (with_reducible rfl)
          try simp only [Act.put, ly1, ly2, ly3]
          refine takeH (i := 1) (v := ?_) rfl (by kernel_rfl) (by kernel_rfl) (by kernel_rfl) (fun _ _ _ h => h) rfl ?_ hHeld ?_
          rotate_left
          · intro w hS; (try dsimp only at hS); obtain hS0 := hS; go_simp; first | done | (with_reducible rfl)
          try simp only [Act.put, ly1, ly2, ly3]
          refine takeH (i := 2) (v := ?_) rfl (by kernel_rfl) (by kernel_rfl) (by kernel_rfl) (fun _ _ _ h => h) rfl ?_ hHeld ?_
          rotate_left
          · intro w hS; (try dsimp only at hS); obtain hS0 := hS; go_simp; first | done | (with_reducible rfl)
          try simp only [Act.put, ly1, ly2, ly3]
          refine takeH (i := 3) (v := ?_) rfl (by kernel_rfl) (by kernel_rfl) (by kernel_rfl) (fun _ _ _ h => h) rfl ?_ hHeld ?_
          rotate_left
          · intro w hS; (try dsimp only at hS); obtain hS0 := hS; go_simp; first | done | (with_reducible rfl)
          try simp only [Act.put, ly1, ly2, ly3]
          refine takeH (i := 4) (v := ?_) rfl (by kernel_rfl) (by kernel_rfl) (by kernel_rfl) (fun _ _ _ h => h) rfl ?_ hHeld ?_
          rotate_left
          · intro w hS; (try dsimp only at hS); obtain hS0 := hS; go_simp; first | done | (with_reducible rfl)
          try simp only [Act.put, ly1, ly2, ly3]
          refine takeH (i := 5) (v := ?_) rfl (by kernel_rfl) (by kernel_rfl) (by kernel_rfl) (fun _ _ _ h => h) rfl ?_ hHeld ?_
          rotate_left
          · intro w hS; (try dsimp only at hS); obtain hS0 := hS; go_simp; first | done | (with_reducible rfl)
          try simp only [Act.put, ly1, ly2, ly3]
          refine takeH (i := 6) (v := ?_) rfl (by kernel_rfl) (by kernel_rfl) (by kernel_rfl) (fun _ _ _ h => h) rfl ?_ hHeld ?_
          rotate_left
          · intro w hS; (try dsimp only at hS); obtain hS0 := hS; go_simp; first | done | (with_reducible rfl)
          try simp only [Act.put, ly1, ly2, ly3]
          refine takeH (i := 7) (v := ?_) rfl (by kernel_rfl) (by kernel_rfl) (by kernel_rfl) (fun _ _ _ h => h) rfl ?_ hHeld ?_
          rotate_left
          · intro w hS; (try dsimp only at hS); obtain hS0 := hS; go_simp; first | done | (with_reducible rfl)
          try simp only [Act.put, ly1, ly2, ly3]
          refine takeH (i := 8) (v := ?_) rfl (by kernel_rfl) (by kernel_rfl) (by kernel_rfl) (fun _ _ _ h => h) rfl ?_ hHeld ?_
          rotate_left
          · intro w hS; (try dsimp only at hS); obtain hS0 := hS; go_simp; first | done | (with_reducible rfl)
          try simp only [Act.put, ly1, ly2, ly3]
          refine takeH (i := 10) (v := ?_) rfl (by kernel_rfl) (by kernel_rfl) (by kernel_rfl) (fun _ _ _ h => h) rfl ?_ hHeld ?_
          rotate_left
          · intro w hS; (try dsimp only at hS); obtain hS0 := hS; go_simp; first | done | (with_reducible rfl)
          try simp only [Act.put, ly1, ly2, ly3]
          refine takeH (i := 11) (v := ?_) rfl (by kernel_rfl) (by kernel_rfl) (by kernel_rfl) (fun _ _ _ h => h) rfl ?_ hHeld ?_
          rotate_left
          · intro w hS; (try dsimp only at hS); obtain hS0 := hS; go_simp; first | done | (with_reducible rfl)
          try simp only [Act.put, ly1, ly2, ly3]
          refine takeH (i := 13) (v := ?_) rfl (by kernel_rfl) (by kernel_rfl) (by kernel_rfl) (fun _ _ _ h => h) rfl ?_ hHeld ?_
          rotate_left
          · intro w hS; (try dsimp only at hS); obtain hS0 := hS; go_simp; first | done | (with_reducible rfl)
          try simp only [Act.put, ly1, ly2, ly3]
          refine takeH (i := 14) (v := ?_) rfl (by kernel_rfl) (by kernel_rfl) (by kernel_rfl) (fun _ _ _ h => h) rfl ?_ hHeld ?_
          rotate_left
          · intro w hS; (try dsimp only at hS); obtain hS0 := hS; go_simp; first | done | (with_reducible rfl)
          try simp only [Act.put, ly1, ly2, ly3]
          refine takeH (i := 15) (v := ?_) rfl (by kernel_rfl) (by kernel_rfl) (by kernel_rfl) (fun _ _ _ h => h) rfl ?_ hHeld ?_
          rotate_left
          · intro w hS; (try dsimp only at hS); obtain hS0 := hS; go_simp; first | done | (with_reducible rfl)
          try simp only [Act.put, ly1, ly2, ly3]
          refine takeH (i := 16) (v := ?_) rfl (by kernel_rfl) (by kernel_rfl) (by kernel_rfl) (fun _ _ _ h => h) rfl ?_ hHeld ?_
          rotate_left
          · intro w hS; (try dsimp only at hS); obtain hS0 := hS; go_simp; first | done | (with_reducible rfl)
          try simp only [Act.put, ly1, ly2, ly3]
          refine onlyH (i := 9) rfl (by kernel_rfl) rfl (fun K hK => ?_)
          go_simp
          refine husd.mono ?_
          rintro e w9 ⟨rfl, hc9⟩
          have hr9 := HR1.out.keep (((Chg.refl (fun _ => False) _).drew).then hc9) (fun _ _ h => h)
          have c4' := cell_of hr9.blk 4
          dsimp only [rcells] at c4'
          have HR2 := hide hr9
          have HC2 := hide (HC1.out.then ((((Chg.refl (fun _ => False) _).drew).then hc9).mono fun _ _ h => h.elim))
          clear hr9 hc9
          refine hK.out _ _ (c4') (fun hHeld => ?_)
          clear hK K
          try simp only [Act.put, ly1, ly2, ly3]
          refine takeH (i := 12) (v := ?_) rfl (by kernel_rfl) (by kernel_rfl) (by kernel_rfl) (fun _ _ _ h => h) rfl ?_ hHeld ?_
          rotate_left
          · intro w hS; (try dsimp only at hS); obtain hS0 := hS; go_simp; first | done | (with_reducible rfl)
          try simp only [Act.put, ly1, ly2, ly3]
          refine takeH (i := 17) (v := ?_) rfl (by kernel_rfl) (by kernel_rfl) (by kernel_rfl) (fun _ _ _ h => h) rfl ?_ hHeld ?_
          rotate_left
          · intro w hS; (try dsimp only at hS); obtain hS0 := hS; go_simp; first | done | (with_reducible rfl)
          try simp only [Act.put, ly1, ly2, ly3]
          refine takeH (i := 18) (v := ?_) rfl (by kernel_rfl) (by kernel_rfl) (by kernel_rfl) (fun _ _ _ h => h) rfl ?_ hHeld ?_
          rotate_left
          · intro w hS; (try dsimp only at hS); obtain hS0 := hS; go_simp; first | done | (with_reducible rfl)
          try simp only [Act.put, ly1, ly2, ly3]
          refine wpAnyH_done (by kernel_rfl) ?_ _
          clear hHeld husd
          have HD := hide (RDone.own HH.out HR2.out rfl HC2.out)
          go_wp2
          go_ret2
          rw [HE.out]
          exact ⟨rfl, HD.out⟩
        · have hdr : decide ((S.room : Int) < (S.used : Int) + (b.length : Int)) = false := decide_eq_false (by omega)
          have hfu : ¬ (b ≠ [] ∧ S.room < S.used + b.length) := fun hh => hro hh.2
          clear hbe
          go_wp2_with fail
          refine wp_region_held_drew (S := fun W => W.cell? ⟨r, 4, none⟩ = some (.int .i64 (S.room : Int))) (by kernel_rfl) (c4) (fun hHeld => ?_)
          refine takeH (i := 0) (v := ?_) rfl (by kernel_rfl) (by kernel_rfl) (by kernel_rfl) (fun _ _ _ h => h) rfl ?_ hHeld ?_
          rotate_left
          · intro w hS; (try dsimp only at hS); obtain hS0 := hS; go_simp; first | done | (with_reducible rfl)
          try simp only [Act.put, ly1, ly2, ly3]
          refine takeH (i := 1) (v := ?_) rfl (by kernel_rfl) (by kernel_rfl) (by kernel_rfl) (fun _ _ _ h => h) rfl ?_ hHeld ?_
          rotate_left
          · intro w hS; (try dsimp only at hS); obtain hS0 := hS; go_simp; first | done | (with_reducible rfl)
          try simp only [Act.put, ly1, ly2, ly3]
          refine takeH (i := 2) (v := ?_) rfl (by kernel_rfl) (by kernel_rfl) (by kernel_rfl) (fun _ _ _ h => h) rfl ?_ hHeld ?_
          rotate_left
          · intro w hS; (try dsimp only at hS); obtain hS0 := hS; go_simp; first | done | (with_reducible rfl)
          try simp only [Act.put, ly1, ly2, ly3]
          refine takeH (i := 3) (v := ?_) rfl (by kernel_rfl) (by kernel_rfl) (by kernel_rfl) (fun _ _ _ h => h) rfl ?_ hHeld ?_
          rotate_left
          · intro w hS; (try dsimp only at hS); obtain hS0 := hS; go_simp; first | done | (with_reducible rfl)
          try simp only [Act.put, ly1, ly2, ly3]
          refine takeH (i := 4) (v := ?_) rfl (by kernel_rfl) (by kernel_rfl) (by kernel_rfl) (fun _ _ _ h => h) rfl ?_ hHeld ?_
          rotate_left
          · intro w hS; (try dsimp only at hS); obtain hS0 := hS; go_simp; first | done | (with_reducible rfl)
          try simp only [Act.put, ly1, ly2, ly3]
          refine takeH (i := 5) (v := ?_) rfl (by kernel_rfl) (by kernel_rfl) (by kernel_rfl) (fun _ _ _ h => h) rfl ?_ hHeld ?_
          rotate_left
          · intro w hS; (try dsimp only at hS); obtain hS0 := hS; go_simp; first | done | (with_reducible rfl)
          try simp only [Act.put, ly1, ly2, ly3]
          refine takeH (i := 6) (v := ?_) rfl (by kernel_rfl) (by kernel_rfl) (by kernel_rfl) (fun _ _ _ h => h) rfl ?_ hHeld ?_
          rotate_left
          · intro w hS; (try dsimp only at hS); obtain hS0 := hS; go_simp; first | done | (with_reducible rfl)
          try simp only [Act.put, ly1, ly2, ly3]
          refine takeH (i := 7) (v := ?_) rfl (by kernel_rfl) (by kernel_rfl) (by kernel_rfl) (fun _ _ _ h => h) rfl ?_ hHeld ?_
          rotate_left
          · intro w hS; (try dsimp only at hS); obtain hS0 := hS; go_simp; first | done | (with_reducible rfl)
          try simp only [Act.put, ly1, ly2, ly3]
          refine takeH (i := 8) (v := ?_) rfl (by kernel_rfl) (by kernel_rfl) (by kernel_rfl) (fun _ _ _ h => h) rfl ?_ hHeld ?_
          rotate_left
          · intro w hS; (try dsimp only at hS); obtain hS0 := hS; go_simp; first | done | (with_reducible rfl)
          try simp only [Act.put, ly1, ly2, ly3]
          refine takeH (i := 10) (v := ?_) rfl (by kernel_rfl) (by kernel_rfl) (by kernel_rfl) (fun _ _ _ h => h) rfl ?_ hHeld ?_
          rotate_left
          · intro w hS; (try dsimp only at hS); obtain hS0 := hS; go_simp; first | done | (with_reducible rfl)
          try simp only [Act.put, ly1, ly2, ly3]
          refine takeH (i := 11) (v := ?_) rfl (by kernel_rfl) (by kernel_rfl) (by kernel_rfl) (fun _ _ _ h => h) rfl ?_ hHeld ?_
          rotate_left
          · intro w hS; (try dsimp only at hS); obtain hS0 := hS; go_simp; first | done | (with_reducible rfl)
          try simp only [Act.put, ly1, ly2, ly3]
          refine takeH (i := 13) (v := ?_) rfl (by kernel_rfl) (by kernel_rfl) (by kernel_rfl) (fun _ _ _ h => h) rfl ?_ hHeld ?_
          rotate_left
          · intro w hS; (try dsimp only at hS); obtain hS0 := hS; go_simp; first | done | (with_reducible rfl)
          try simp only [Act.put, ly1, ly2, ly3]
          refine takeH (i := 14) (v := ?_) rfl (by kernel_rfl) (by kernel_rfl) (by kernel_rfl) (fun _ _ _ h => h) rfl ?_ hHeld ?_
          rotate_left
          · intro w hS; (try dsimp only at hS); obtain hS0 := hS; go_simp; first | done | (with_reducible rfl)
          try simp only [Act.put, ly1, ly2, ly3]
          refine takeH (i := 15) (v := ?_) rfl (by kernel_rfl) (by kernel_rfl) (by kernel_rfl) (fun _ _ _ h => h) rfl ?_ hHeld ?_
          rotate_left
          · intro w hS; (try dsimp only at hS); obtain hS0 := hS; go_simp; first | done | (with_reducible rfl)
          try simp only [Act.put, ly1, ly2, ly3]
          refine takeH (i := 16) (v := ?_) rfl (by kernel_rfl) (by kernel_rfl) (by kernel_rfl) (fun _ _ _ h => h) rfl ?_ hHeld ?_
          rotate_left
          · intro w hS; (try dsimp only at hS); obtain hS0 := hS; go_simp; first | done | (with_reducible rfl)
          try simp only [Act.put, ly1, ly2, ly3]
          refine onlyH (i := 9) rfl (by kernel_rfl) rfl (fun K hK => ?_)
          go_simp
          refine husd.mono ?_
          rintro e w9 ⟨rfl, hc9⟩
          have hr9 := HR1.out.keep (((Chg.refl (fun _ => False) _).drew).then hc9) (fun _ _ h => h)
          have c4' := cell_of hr9.blk 4
          dsimp only [rcells] at c4'
          have HR2 := hide hr9
          have HC2 := hide (HC1.out.then ((((Chg.refl (fun _ => False) _).drew).then hc9).mono fun _ _ h => h.elim))
          clear hr9 hc9
          refine hK.out _ _ (c4') (fun hHeld => ?_)
          clear hK K
          try simp only [Act.put, ly1, ly2, ly3]
          refine takeH (i := 12) (v := ?_) rfl (by kernel_rfl) (by kernel_rfl) (by kernel_rfl) (fun _ _ _ h => h) rfl ?_ hHeld ?_
          rotate_left
          · intro w hS; (try dsimp only at hS); obtain hS0 := hS; go_simp; first | done | (with_reducible rfl)
          try simp only [Act.put, ly1, ly2, ly3]
          refine takeH (i := 17) (v := ?_) rfl (by kernel_rfl) (by kernel_rfl) (by kernel_rfl) (fun _ _ _ h => h) rfl ?_ hHeld ?_
          rotate_left
          · intro w hS; (try dsimp only at hS); obtain hS0 := hS; go_simp; first | done | (with_reducible rfl)
          try simp only [Act.put, ly1, ly2, ly3]
          refine takeH (i := 18) (v := ?_) rfl (by kernel_rfl) (by kernel_rfl) (by kernel_rfl) (fun _ _ _ h => h) rfl ?_ hHeld ?_
          rotate_left
          · intro w hS; (try dsimp only at hS); obtain hS0 := hS; go_simp; first | done | (with_reducible rfl)
          try simp only [Act.put, ly1, ly2, ly3]
          refine wpAnyH_done (by kernel_rfl) ?_ _
          clear hHeld husd
          go_wp2_with fail
          refine (failing_any _ HR2.out (by omega) S.n).mono ?_
          rintro e w5 ⟨rfl, rfl⟩
          have hfe : S.next.fails S.n = S.fails S.n := rfl
          rw [hfe]
          clear hfe
          cases hfs : S.fails S.n with
          | true =>
            have hl := HL.out
            have hon := HON.out
            have HE := hide (show S.append n b = (S.next, 34) by unfold Dk.append; rw [if_neg (by rw [hon]; simp), if_neg (by rw [hq]; simp), if_neg hfu, if_pos hfs])
            clear hon hl hfs
            go_wp2_with fail
            refine (fail_none _ HR2.out 0 _ (by decide) (by decide)).mono ?_
            rintro e w6 ⟨rfl, q1⟩
            have HD := hide (RDone.begun HH.out HR2.out HC2.out q1)
            clear q1
            go_wp2
            go_ret2
            rw [HE.out]
            exact ⟨rfl, HD.out⟩
          | false =>
            have hl := HL.out
            have hon := HON.out
            have HE := hide (show S.append n b = (S.next.app n b, 0) by unfold Dk.append; rw [if_neg (by rw [hon]; simp), if_neg (by rw [hq]; simp), if_neg hfu, if_neg (by rw [hfs]; simp)])
            have hdo := does_append _ HR2.out HK.out n [] b (by have hbx : S.next.bulk = S.bulk + 1 := bulk_next S; omega)
            rw [show look S.next.dir n = some f from hl] at hdo
            dsimp only [idx] at hdo
            clear hon hl hfs
            go_wp2_with fail
            refine (hdo).mono ?_
            rintro e w6 ⟨rfl, q1⟩
            have HD := hide (RDone.begun HH.out HR2.out HC2.out q1)
            clear q1
            go_wp2
            go_ret2
            rw [HE.out]
            exact ⟨rfl, HD.out⟩

set_option maxRecDepth 20000 in
set_option maxHeartbeats 3200000 in
theorem do_read {B r : Nat} {R : Nat → Prop} {S : Dk} {G : Rg} (w : World) (h : RR B w R r S G) (hk : Ok S) (hks : G.ks.length ≤ 1000) (n : Nm) (hb : S.bulk + 12 < 1099511627776) (hnl : n.length < 4611686018427387904) :
    Calls Try.prog 34 #[.pointer (some ⟨r, 0, none⟩), .int .i64 1, .string (strB n), .string (⟨#[]⟩), .string (⟨#[]⟩)] w fun e w' => e = .returned (.tuple #[.string (strB (S.read n).1), .int .i64 (S.read n).2]) ∧ RDone B w R r S.begun G.ks w' := by
  have hn0 : S.n ≤ S.bulk := by unfold Dk.bulk; omega
  have hdl := dir_le hk
  have hal : S.acts.length ≤ S.bulk := by unfold Dk.bulk; omega
  have hfl : S.files.length ≤ S.bulk := by unfold Dk.bulk; omega
  cases hon : S.on with
  | false =>
    have hst := starts_off w h (by omega) hon
    have HE := hide (show S.read n = ([], 35) by exact off_read hon n)
    have HB := hide (show S.begun = S by unfold Dk.begun; rw [hon]; rfl)
    have HH := hide h
    clear h hon hk
    go_enter Try.func34, Try.ntmps34
    go_wp2_with fail
    refine hst.mono ?_
    rintro e w1 ⟨rfl, hr, hc⟩
    have HD := hide (RDone.own HH.out hr rfl hc)
    clear hr hc hst
    go_wp2
    go_ret2
    rw [HE.out, HB.out]
    exact ⟨rfl, HD.out⟩
  | true =>
    have hst := starts_on w h (by omega) hon
    have HH := hide h
    have HK := hide (ok_next hk)
    have HK0 := hide hk
    have HON := hide hon
    clear h hk
    go_enter Try.func34, Try.ntmps34
    go_wp2_with fail
    refine hst.mono ?_
    rintro e w1 ⟨rfl, hr1, hc1⟩
    have HR1 := hide hr1
    have HC1 := hide hc1
    have hof := of_any w1 B G.dv S.dir n hr1.dir (by omega)
    clear hst hr1 hc1 hon
    go_wp2_with fail
    refine (rIsName_any w1 n hnl).mono ?_
    rintro e w2 ⟨rfl, rfl⟩
    go_wp2_with fail
    refine (rIsName_any _ [] (by simp)).mono ?_
    rintro e w3 ⟨rfl, rfl⟩
    cases hq : isNm n with
    | false =>
      have hon := HON.out
      have HE := hide (show S.read n = ([], 30) by unfold Dk.read Dk.onFile; rw [if_neg (by rw [hon]; simp), if_pos hq])
      have HB := hide (show S.begun = S.next by unfold Dk.begun; rw [hon]; rfl)
      have HD := hide (RDone.own HH.out HR1.out rfl HC1.out)
      clear hof hon
      go_wp2
      go_ret2
      rw [HE.out, HB.out]
      exact ⟨rfl, HD.out⟩
    | true =>
    have c1 := cell_of HR1.out.blk 1
    dsimp only [rcells] at c1
    go_wp2_with fail
    refine hof.mono ?_
    rintro e w4 ⟨rfl, rfl⟩
    clear hof
    cases hl : look S.dir n with
    | none =>
      dsimp only [idx]
      have hon := HON.out
      have HE := hide (show S.read n = ([], 32) by unfold Dk.read Dk.onFile; rw [if_neg (by rw [hon]; simp), if_neg (by rw [hq]; simp), hl])
      have HB := hide (show S.begun = S.next by unfold Dk.begun; rw [hon]; rfl)
      have HD := hide (RDone.own HH.out HR1.out rfl HC1.out)
      clear hon hl
      go_wp2
      go_ret2
      rw [HE.out, HB.out]
      exact ⟨rfl, HD.out⟩
    | some f =>
      dsimp only [idx]
      have HFI := hide (show f < S.next.files.length from HK0.out.idD (look_id hl))
      have HL := hide hl
      clear hl
      have hfn : ¬ (f : Int) < 0 := by omega
      go_wp2_with fail
      refine wp_region_held_drew (S := fun _ => True) (by kernel_rfl) (trivial) (fun hHeld => ?_)
      refine takeH (i := 0) (v := ?_) rfl (by kernel_rfl) (by kernel_rfl) (by kernel_rfl) (fun _ _ _ h => h) rfl ?_ hHeld ?_
      rotate_left
      · intro w _; go_simp; first | done | (with_reducible rfl)
      try simp only [Act.put, ly1, ly2, ly3]
      refine takeH (i := 1) (v := ?_) rfl (by kernel_rfl) (by kernel_rfl) (by kernel_rfl) (fun _ _ _ h => h) rfl ?_ hHeld ?_
      rotate_left
      · intro w _; go_simp; first | done | (with_reducible rfl)
      try simp only [Act.put, ly1, ly2, ly3]
      refine takeH (i := 2) (v := ?_) rfl (by kernel_rfl) (by kernel_rfl) (by kernel_rfl) (fun _ _ _ h => h) rfl ?_ hHeld ?_
      rotate_left
      · intro w _; go_simp; first | done | (with_reducible rfl)
      try simp only [Act.put, ly1, ly2, ly3]
      refine skipH (i := 3) rfl (by kernel_rfl) (by kernel_rfl) (by kernel_rfl) (fun _ _ _ h => h) rfl hHeld ?_
      try simp only [Act.put, ly1, ly2, ly3]
      refine skipH (i := 4) rfl (by kernel_rfl) (by kernel_rfl) (by kernel_rfl) (fun _ _ _ h => h) rfl hHeld ?_
      try simp only [Act.put, ly1, ly2, ly3]
      refine skipH (i := 5) rfl (by kernel_rfl) (by kernel_rfl) (by kernel_rfl) (fun _ _ _ h => h) rfl hHeld ?_
      try simp only [Act.put, ly1, ly2, ly3]
      refine takeH (i := 6) (v := ?_) rfl (by kernel_rfl) (by kernel_rfl) (by kernel_rfl) (fun _ _ _ h => h) rfl ?_ hHeld ?_
      rotate_left
      · intro w _; go_simp; first | done | (with_reducible rfl)
      try simp only [Act.put, ly1, ly2, ly3]
      refine takeH (i := 7) (v := ?_) rfl (by kernel_rfl) (by kernel_rfl) (by kernel_rfl) (fun _ _ _ h => h) rfl ?_ hHeld ?_
      rotate_left
      · intro w _; go_simp; first | done | (with_reducible rfl)
      try simp only [Act.put, ly1, ly2, ly3]
      refine skipH (i := 8) rfl (by kernel_rfl) (by kernel_rfl) (by kernel_rfl) (fun _ _ _ h => h) rfl hHeld ?_
      try simp only [Act.put, ly1, ly2, ly3]
      refine skipH (i := 9) rfl (by kernel_rfl) (by kernel_rfl) (by kernel_rfl) (fun _ _ _ h => h) rfl hHeld ?_
      try simp only [Act.put, ly1, ly2, ly3]
      refine skipH (i := 10) rfl (by kernel_rfl) (by kernel_rfl) (by kernel_rfl) (fun _ _ _ h => h) rfl hHeld ?_
      try simp only [Act.put, ly1, ly2, ly3]
      refine skipH (i := 11) rfl (by kernel_rfl) (by kernel_rfl) (by kernel_rfl) (fun _ _ _ h => h) rfl hHeld ?_
      try simp only [Act.put, ly1, ly2, ly3]
      refine skipH (i := 12) rfl (by kernel_rfl) (by kernel_rfl) (by kernel_rfl) (fun _ _ _ h => h) rfl hHeld ?_
      try simp only [Act.put, ly1, ly2, ly3]
      refine skipH (i := 13) rfl (by kernel_rfl) (by kernel_rfl) (by kernel_rfl) (fun _ _ _ h => h) rfl hHeld ?_
      try simp only [Act.put, ly1, ly2, ly3]
      refine skipH (i := 14) rfl (by kernel_rfl) (by kernel_rfl) (by kernel_rfl) (fun _ _ _ h => h) rfl hHeld ?_
      try simp only [Act.put, ly1, ly2, ly3]
      refine skipH (i := 15) rfl (by kernel_rfl) (by kernel_rfl) (by kernel_rfl) (fun _ _ _ h => h) rfl hHeld ?_
      try simp only [Act.put, ly1, ly2, ly3]
      refine skipH (i := 16) rfl (by kernel_rfl) (by kernel_rfl) (by kernel_rfl) (fun _ _ _ h => h) rfl hHeld ?_
      try simp only [Act.put, ly1, ly2, ly3]
      refine skipH (i := 17) rfl (by kernel_rfl) (by kernel_rfl) (by kernel_rfl) (fun _ _ _ h => h) rfl hHeld ?_
      try simp only [Act.put, ly1, ly2, ly3]
      refine takeH (i := 18) (v := ?_) rfl (by kernel_rfl) (by kernel_rfl) (by kernel_rfl) (fun _ _ _ h => h) rfl ?_ hHeld ?_
      rotate_left
      · intro w _; go_simp; first | done | (with_reducible rfl)
      try simp only [Act.put, ly1, ly2, ly3]
      refine wpAnyH_done (by kernel_rfl) ?_ _
      clear hHeld
      have HR2 := hide (HR1.out.keep ((Chg.refl (fun _ => False) _).drew) (fun _ _ h => h))
      have HC2 := hide (HC1.out.drew)
      go_wp2_with fail
      refine (failing_any _ HR2.out (by omega) S.n).mono ?_
      rintro e w5 ⟨rfl, rfl⟩
      have hfe : S.next.fails S.n = S.fails S.n := rfl
      rw [hfe]
      clear hfe
      cases hfs : S.fails S.n with
      | true =>
        have hl := HL.out
        have hon := HON.out
        have HE := hide (show S.read n = ([], 34) by unfold Dk.read Dk.onFile; rw [if_neg (by rw [hon]; simp), if_neg (by rw [hq]; simp), hl, hfs]; rfl)
        have HB := hide (show S.begun = S.next by unfold Dk.begun; rw [hon]; rfl)
        clear hon hl hfs
        go_wp2_with fail
        refine (fail_none _ HR2.out 1 _ (by decide) (by decide)).mono ?_
        rintro e w6 ⟨rfl, q1⟩
        have HD := hide (RDone.begun HH.out HR2.out HC2.out q1)
        clear q1
        go_wp2
        go_ret2
        rw [HE.out, HB.out]
        exact ⟨rfl, HD.out⟩
      | false =>
        have hl := HL.out
        have hon := HON.out
        have HE := hide (show S.read n = (S.next.bytes f, 0) by unfold Dk.read Dk.onFile; rw [if_neg (by rw [hon]; simp), if_neg (by rw [hq]; simp), hl, hfs]; rfl)
        have HB := hide (show S.begun = S.next by unfold Dk.begun; rw [hon]; rfl)
        clear hon hl hfs
        go_wp2_with fail
        refine (does_read _ HR2.out HFI.out (show S.files.length < 1099511627776 by omega) n [] []).mono ?_
        rintro e w6 ⟨rfl, q1⟩
        have HD := hide (RDone.begun HH.out HR2.out HC2.out q1)
        clear q1
        go_wp2
        go_ret2
        rw [HE.out, HB.out]
        exact ⟨rfl, HD.out⟩

set_option maxRecDepth 20000 in
set_option maxHeartbeats 3200000 in
theorem do_sync {B r : Nat} {R : Nat → Prop} {S : Dk} {G : Rg} (w : World) (h : RR B w R r S G) (hk : Ok S) (hks : G.ks.length ≤ 1000) (n : Nm) (hb : S.bulk + 12 < 1099511627776) (hnl : n.length < 4611686018427387904) :
    Calls Try.prog 34 #[.pointer (some ⟨r, 0, none⟩), .int .i64 2, .string (strB n), .string (⟨#[]⟩), .string (⟨#[]⟩)] w fun e w' => e = .returned (.tuple #[.string (strB []), .int .i64 (S.sync n).2]) ∧ RDone B w R r (S.sync n).1 G.ks w' := by
  have hn0 : S.n ≤ S.bulk := by unfold Dk.bulk; omega
  have hdl := dir_le hk
  have hal : S.acts.length ≤ S.bulk := by unfold Dk.bulk; omega
  have hfl : S.files.length ≤ S.bulk := by unfold Dk.bulk; omega
  cases hon : S.on with
  | false =>
    have hst := starts_off w h (by omega) hon
    have HE := hide (show S.sync n = (S, 35) by exact off_sync hon n)
    have HH := hide h
    clear h hon hk
    go_enter Try.func34, Try.ntmps34
    go_wp2_with fail
    refine hst.mono ?_
    rintro e w1 ⟨rfl, hr, hc⟩
    have HD := hide (RDone.own HH.out hr rfl hc)
    clear hr hc hst
    go_wp2
    go_ret2
    rw [HE.out]
    exact ⟨rfl, HD.out⟩
  | true =>
    have hst := starts_on w h (by omega) hon
    have HH := hide h
    have HK := hide (ok_next hk)
    have HK0 := hide hk
    have HON := hide hon
    clear h hk
    go_enter Try.func34, Try.ntmps34
    go_wp2_with fail
    refine hst.mono ?_
    rintro e w1 ⟨rfl, hr1, hc1⟩
    have HR1 := hide hr1
    have HC1 := hide hc1
    have hof := of_any w1 B G.dv S.dir n hr1.dir (by omega)
    clear hst hr1 hc1 hon
    go_wp2_with fail
    refine (rIsName_any w1 n hnl).mono ?_
    rintro e w2 ⟨rfl, rfl⟩
    go_wp2_with fail
    refine (rIsName_any _ [] (by simp)).mono ?_
    rintro e w3 ⟨rfl, rfl⟩
    cases hq : isNm n with
    | false =>
      have hon := HON.out
      have HE := hide (show S.sync n = (S.next, 30) by unfold Dk.sync Dk.onFile; rw [if_neg (by rw [hon]; simp), if_pos hq]; simp only [Dk.begun, hon]; rfl)
      have HD := hide (RDone.own HH.out HR1.out rfl HC1.out)
      clear hof hon
      go_wp2
      go_ret2
      rw [HE.out]
      exact ⟨rfl, HD.out⟩
    | true =>
    have c1 := cell_of HR1.out.blk 1
    dsimp only [rcells] at c1
    go_wp2_with fail
    refine hof.mono ?_
    rintro e w4 ⟨rfl, rfl⟩
    clear hof
    cases hl : look S.dir n with
    | none =>
      dsimp only [idx]
      have hon := HON.out
      have HE := hide (show S.sync n = (S.next, 32) by unfold Dk.sync Dk.onFile; rw [if_neg (by rw [hon]; simp), if_neg (by rw [hq]; simp), hl]; simp only [Dk.begun, hon]; rfl)
      have HD := hide (RDone.own HH.out HR1.out rfl HC1.out)
      clear hon hl
      go_wp2
      go_ret2
      rw [HE.out]
      exact ⟨rfl, HD.out⟩
    | some f =>
      dsimp only [idx]
      have HFI := hide (show f < S.next.files.length from HK0.out.idD (look_id hl))
      have HL := hide hl
      clear hl
      have hfn : ¬ (f : Int) < 0 := by omega
      go_wp2_with fail
      refine wp_region_held_drew (S := fun _ => True) (by kernel_rfl) (trivial) (fun hHeld => ?_)
      refine takeH (i := 0) (v := ?_) rfl (by kernel_rfl) (by kernel_rfl) (by kernel_rfl) (fun _ _ _ h => h) rfl ?_ hHeld ?_
      rotate_left
      · intro w _; go_simp; first | done | (with_reducible rfl)
      try simp only [Act.put, ly1, ly2, ly3]
      refine takeH (i := 1) (v := ?_) rfl (by kernel_rfl) (by kernel_rfl) (by kernel_rfl) (fun _ _ _ h => h) rfl ?_ hHeld ?_
      rotate_left
      · intro w _; go_simp; first | done | (with_reducible rfl)
      try simp only [Act.put, ly1, ly2, ly3]
      refine takeH (i := 2) (v := ?_) rfl (by kernel_rfl) (by kernel_rfl) (by kernel_rfl) (fun _ _ _ h => h) rfl ?_ hHeld ?_
      rotate_left
      · intro w _; go_simp; first | done | (with_reducible rfl)
      try simp only [Act.put, ly1, ly2, ly3]
      refine skipH (i := 3) rfl (by kernel_rfl) (by kernel_rfl) (by kernel_rfl) (fun _ _ _ h => h) rfl hHeld ?_
      try simp only [Act.put, ly1, ly2, ly3]
      refine skipH (i := 4) rfl (by kernel_rfl) (by kernel_rfl) (by kernel_rfl) (fun _ _ _ h => h) rfl hHeld ?_
      try simp only [Act.put, ly1, ly2, ly3]
      refine skipH (i := 5) rfl (by kernel_rfl) (by kernel_rfl) (by kernel_rfl) (fun _ _ _ h => h) rfl hHeld ?_
      try simp only [Act.put, ly1, ly2, ly3]
      refine takeH (i := 6) (v := ?_) rfl (by kernel_rfl) (by kernel_rfl) (by kernel_rfl) (fun _ _ _ h => h) rfl ?_ hHeld ?_
      rotate_left
      · intro w _; go_simp; first | done | (with_reducible rfl)
      try simp only [Act.put, ly1, ly2, ly3]
      refine takeH (i := 7) (v := ?_) rfl (by kernel_rfl) (by kernel_rfl) (by kernel_rfl) (fun _ _ _ h => h) rfl ?_ hHeld ?_
      rotate_left
      · intro w _; go_simp; first | done | (with_reducible rfl)
      try simp only [Act.put, ly1, ly2, ly3]
      refine skipH (i := 8) rfl (by kernel_rfl) (by kernel_rfl) (by kernel_rfl) (fun _ _ _ h => h) rfl hHeld ?_
      try simp only [Act.put, ly1, ly2, ly3]
      refine skipH (i := 9) rfl (by kernel_rfl) (by kernel_rfl) (by kernel_rfl) (fun _ _ _ h => h) rfl hHeld ?_
      try simp only [Act.put, ly1, ly2, ly3]
      refine skipH (i := 10) rfl (by kernel_rfl) (by kernel_rfl) (by kernel_rfl) (fun _ _ _ h => h) rfl hHeld ?_
      try simp only [Act.put, ly1, ly2, ly3]
      refine skipH (i := 11) rfl (by kernel_rfl) (by kernel_rfl) (by kernel_rfl) (fun _ _ _ h => h) rfl hHeld ?_
      try simp only [Act.put, ly1, ly2, ly3]
      refine skipH (i := 12) rfl (by kernel_rfl) (by kernel_rfl) (by kernel_rfl) (fun _ _ _ h => h) rfl hHeld ?_
      try simp only [Act.put, ly1, ly2, ly3]
      refine skipH (i := 13) rfl (by kernel_rfl) (by kernel_rfl) (by kernel_rfl) (fun _ _ _ h => h) rfl hHeld ?_
      try simp only [Act.put, ly1, ly2, ly3]
      refine skipH (i := 14) rfl (by kernel_rfl) (by kernel_rfl) (by kernel_rfl) (fun _ _ _ h => h) rfl hHeld ?_
      try simp only [Act.put, ly1, ly2, ly3]
      refine skipH (i := 15) rfl (by kernel_rfl) (by kernel_rfl) (by kernel_rfl) (fun _ _ _ h => h) rfl hHeld ?_
      try simp only [Act.put, ly1, ly2, ly3]
      refine skipH (i := 16) rfl (by kernel_rfl) (by kernel_rfl) (by kernel_rfl) (fun _ _ _ h => h) rfl hHeld ?_
      try simp only [Act.put, ly1, ly2, ly3]
      refine skipH (i := 17) rfl (by kernel_rfl) (by kernel_rfl) (by kernel_rfl) (fun _ _ _ h => h) rfl hHeld ?_
      try simp only [Act.put, ly1, ly2, ly3]
      refine takeH (i := 18) (v := ?_) rfl (by kernel_rfl) (by kernel_rfl) (by kernel_rfl) (fun _ _ _ h => h) rfl ?_ hHeld ?_
      rotate_left
      · intro w _; go_simp; first | done | (with_reducible rfl)
      try simp only [Act.put, ly1, ly2, ly3]
      refine wpAnyH_done (by kernel_rfl) ?_ _
      clear hHeld
      have HR2 := hide (HR1.out.keep ((Chg.refl (fun _ => False) _).drew) (fun _ _ h => h))
      have HC2 := hide (HC1.out.drew)
      go_wp2_with fail
      refine (failing_any _ HR2.out (by omega) S.n).mono ?_
      rintro e w5 ⟨rfl, rfl⟩
      have hfe : S.next.fails S.n = S.fails S.n := rfl
      rw [hfe]
      clear hfe
      cases hfs : S.fails S.n with
      | true =>
        have hl := HL.out
        have hon := HON.out
        have HE := hide (show S.sync n = (S.next.undoF f, 34) by unfold Dk.sync Dk.onFile; rw [if_neg (by rw [hon]; simp), if_neg (by rw [hq]; simp), hl, hfs]; simp only [Dk.begun, hon]; rfl)
        clear hon hl hfs
        go_wp2_with fail
        refine (fail_sync _ HR2.out (show S.acts.length < 1099511627776 by omega) HFI.out (show S.files.length < 1099511627776 by omega) (sure_le HK.out HFI.out) (by have := file_le (List.getElem?_eq_getElem HFI.out); have hbx : S.next.bulk = S.bulk + 1 := bulk_next S; omega)).mono ?_
        rintro e w6 ⟨rfl, G6, R6, q1, q2, q3, q4⟩
        have HD := hide (RDone.begun HH.out HR2.out HC2.out ⟨G6, R6, q1, q2, q3, q4⟩)
        clear q1 q2 q3 q4
        go_wp2
        go_ret2
        rw [HE.out]
        exact ⟨rfl, HD.out⟩
      | false =>
        have hl := HL.out
        have hon := HON.out
        have HE := hide (show S.sync n = (S.next.keepF f, 0) by unfold Dk.sync Dk.onFile; rw [if_neg (by rw [hon]; simp), if_neg (by rw [hq]; simp), hl, hfs]; simp only [Dk.begun, hon]; rfl)
        clear hon hl hfs
        go_wp2_with fail
        refine (does_sync _ HR2.out (show S.acts.length < 1099511627776 by omega) HFI.out (show S.files.length < 1099511627776 by omega) (by have := file_le (List.getElem?_eq_getElem HFI.out); have hbx : S.next.bulk = S.bulk + 1 := bulk_next S; omega) n [] []).mono ?_
        rintro e w6 ⟨rfl, q1⟩
        have HD := hide (RDone.begun HH.out HR2.out HC2.out q1)
        clear q1
        go_wp2
        go_ret2
        rw [HE.out]
        exact ⟨rfl, HD.out⟩

set_option maxRecDepth 20000 in
set_option maxHeartbeats 3200000 in
theorem do_syncDir {B r : Nat} {R : Nat → Prop} {S : Dk} {G : Rg} (w : World) (h : RR B w R r S G) (hk : Ok S) (hks : G.ks.length ≤ 1000)  (hb : S.bulk + 12 < 1099511627776) :
    Calls Try.prog 34 #[.pointer (some ⟨r, 0, none⟩), .int .i64 3, .string (⟨#[]⟩), .string (⟨#[]⟩), .string (⟨#[]⟩)] w fun e w' => e = .returned (.tuple #[.string (strB []), .int .i64 S.syncDir.2]) ∧ RDone B w R r S.syncDir.1 G.ks w' := by
  have hn0 : S.n ≤ S.bulk := by unfold Dk.bulk; omega
  have hdl := dir_le hk
  have hal : S.acts.length ≤ S.bulk := by unfold Dk.bulk; omega
  have hfl : S.files.length ≤ S.bulk := by unfold Dk.bulk; omega
  cases hon : S.on with
  | false =>
    have hst := starts_off w h (by omega) hon
    have HE := hide (show S.syncDir = (S, 35) by exact off_syncDir hon)
    have HH := hide h
    clear h hon hk
    go_enter Try.func34, Try.ntmps34
    go_wp2_with fail
    refine hst.mono ?_
    rintro e w1 ⟨rfl, hr, hc⟩
    have HD := hide (RDone.own HH.out hr rfl hc)
    clear hr hc hst
    go_wp2
    go_ret2
    rw [HE.out]
    exact ⟨rfl, HD.out⟩
  | true =>
    have hst := starts_on w h (by omega) hon
    have HH := hide h
    have HK := hide (ok_next hk)
    have HK0 := hide hk
    have HON := hide hon
    clear h hk
    go_enter Try.func34, Try.ntmps34
    go_wp2_with fail
    refine hst.mono ?_
    rintro e w1 ⟨rfl, hr1, hc1⟩
    have HR1 := hide hr1
    have HC1 := hide hc1
    have hof := of_any w1 B G.dv S.dir [] hr1.dir (by omega)
    clear hst hr1 hc1 hon
    go_wp2_with fail
    refine (rIsName_any w1 [] (by simp)).mono ?_
    rintro e w2 ⟨rfl, rfl⟩
    go_wp2_with fail
    refine (rIsName_any _ [] (by simp)).mono ?_
    rintro e w3 ⟨rfl, rfl⟩
    have c1 := cell_of HR1.out.blk 1
    dsimp only [rcells] at c1
    go_wp2_with fail
    refine hof.mono ?_
    rintro e w4 ⟨rfl, rfl⟩
    clear hof
    generalize hix : idx (look S.dir []) = ix
    by_cases hneg : ix < 0
    · clear hix
      go_wp2_with fail
      refine wp_region_held_drew (S := fun _ => True) (by kernel_rfl) (trivial) (fun hHeld => ?_)
      refine takeH (i := 0) (v := ?_) rfl (by kernel_rfl) (by kernel_rfl) (by kernel_rfl) (fun _ _ _ h => h) rfl ?_ hHeld ?_
      rotate_left
      · intro w _; go_simp; first | done | (with_reducible rfl)
      try simp only [Act.put, ly1, ly2, ly3]
      refine takeH (i := 1) (v := ?_) rfl (by kernel_rfl) (by kernel_rfl) (by kernel_rfl) (fun _ _ _ h => h) rfl ?_ hHeld ?_
      rotate_left
      · intro w _; go_simp; first | done | (with_reducible rfl)
      try simp only [Act.put, ly1, ly2, ly3]
      refine takeH (i := 2) (v := ?_) rfl (by kernel_rfl) (by kernel_rfl) (by kernel_rfl) (fun _ _ _ h => h) rfl ?_ hHeld ?_
      rotate_left
      · intro w _; go_simp; first | done | (with_reducible rfl)
      try simp only [Act.put, ly1, ly2, ly3]
      refine skipH (i := 3) rfl (by kernel_rfl) (by kernel_rfl) (by kernel_rfl) (fun _ _ _ h => h) rfl hHeld ?_
      try simp only [Act.put, ly1, ly2, ly3]
      refine skipH (i := 4) rfl (by kernel_rfl) (by kernel_rfl) (by kernel_rfl) (fun _ _ _ h => h) rfl hHeld ?_
      try simp only [Act.put, ly1, ly2, ly3]
      refine skipH (i := 5) rfl (by kernel_rfl) (by kernel_rfl) (by kernel_rfl) (fun _ _ _ h => h) rfl hHeld ?_
      try simp only [Act.put, ly1, ly2, ly3]
      refine takeH (i := 6) (v := ?_) rfl (by kernel_rfl) (by kernel_rfl) (by kernel_rfl) (fun _ _ _ h => h) rfl ?_ hHeld ?_
      rotate_left
      · intro w _; go_simp; first | done | (with_reducible rfl)
      try simp only [Act.put, ly1, ly2, ly3]
      refine takeH (i := 7) (v := ?_) rfl (by kernel_rfl) (by kernel_rfl) (by kernel_rfl) (fun _ _ _ h => h) rfl ?_ hHeld ?_
      rotate_left
      · intro w _; go_simp; first | done | (with_reducible rfl)
      try simp only [Act.put, ly1, ly2, ly3]
      refine skipH (i := 8) rfl (by kernel_rfl) (by kernel_rfl) (by kernel_rfl) (fun _ _ _ h => h) rfl hHeld ?_
      try simp only [Act.put, ly1, ly2, ly3]
      refine skipH (i := 9) rfl (by kernel_rfl) (by kernel_rfl) (by kernel_rfl) (fun _ _ _ h => h) rfl hHeld ?_
      try simp only [Act.put, ly1, ly2, ly3]
      refine skipH (i := 10) rfl (by kernel_rfl) (by kernel_rfl) (by kernel_rfl) (fun _ _ _ h => h) rfl hHeld ?_
      try simp only [Act.put, ly1, ly2, ly3]
      refine skipH (i := 11) rfl (by kernel_rfl) (by kernel_rfl) (by kernel_rfl) (fun _ _ _ h => h) rfl hHeld ?_
      try simp only [Act.put, ly1, ly2, ly3]
      refine skipH (i := 12) rfl (by kernel_rfl) (by kernel_rfl) (by kernel_rfl) (fun _ _ _ h => h) rfl hHeld ?_
      try simp only [Act.put, ly1, ly2, ly3]
      refine skipH (i := 13) rfl (by kernel_rfl) (by kernel_rfl) (by kernel_rfl) (fun _ _ _ h => h) rfl hHeld ?_
      try simp only [Act.put, ly1, ly2, ly3]
      refine skipH (i := 14) rfl (by kernel_rfl) (by kernel_rfl) (by kernel_rfl) (fun _ _ _ h => h) rfl hHeld ?_
      try simp only [Act.put, ly1, ly2, ly3]
      refine skipH (i := 15) rfl (by kernel_rfl) (by kernel_rfl) (by kernel_rfl) (fun _ _ _ h => h) rfl hHeld ?_
      try simp only [Act.put, ly1, ly2, ly3]
      refine skipH (i := 16) rfl (by kernel_rfl) (by kernel_rfl) (by kernel_rfl) (fun _ _ _ h => h) rfl hHeld ?_
      try simp only [Act.put, ly1, ly2, ly3]
      refine skipH (i := 17) rfl (by kernel_rfl) (by kernel_rfl) (by kernel_rfl) (fun _ _ _ h => h) rfl hHeld ?_
      try simp only [Act.put, ly1, ly2, ly3]
      refine takeH (i := 18) (v := ?_) rfl (by kernel_rfl) (by kernel_rfl) (by kernel_rfl) (fun _ _ _ h => h) rfl ?_ hHeld ?_
      rotate_left
      · intro w _; go_simp; first | done | (with_reducible rfl)
      try simp only [Act.put, ly1, ly2, ly3]
      refine wpAnyH_done (by kernel_rfl) ?_ _
      clear hHeld
      have HR2 := hide (HR1.out.keep ((Chg.refl (fun _ => False) _).drew) (fun _ _ h => h))
      have HC2 := hide (HC1.out.drew)
      go_wp2_with fail
      refine (failing_any _ HR2.out (by omega) S.n).mono ?_
      rintro e w5 ⟨rfl, rfl⟩
      have hfe : S.next.fails S.n = S.fails S.n := rfl
      rw [hfe]
      clear hfe
      cases hfs : S.fails S.n with
      | true =>
        have hon := HON.out
        have HE := hide (show S.syncDir = (S.next.undoD, 34) by unfold Dk.syncDir; rw [if_neg (by rw [hon]; simp), if_pos hfs])
        clear hon hfs
        go_wp2_with fail
        refine (fail_dir _ HR2.out (show S.acts.length < 1099511627776 by omega) _).mono ?_
        rintro e w6 ⟨rfl, q1⟩
        have HD := hide (RDone.begun HH.out HR2.out HC2.out q1)
        clear q1
        go_wp2
        go_ret2
        rw [HE.out]
        exact ⟨rfl, HD.out⟩
      | false =>
        have hon := HON.out
        have HE := hide (show S.syncDir = (S.next.keepD, 0) by unfold Dk.syncDir; rw [if_neg (by rw [hon]; simp), if_neg (by rw [hfs]; simp)])
        clear hon hfs
        go_wp2_with fail
        refine (does_syncDir _ HR2.out (show S.acts.length < 1099511627776 by omega) _ [] [] []).mono ?_
        rintro e w6 ⟨rfl, q1⟩
        have HD := hide (RDone.begun HH.out HR2.out HC2.out q1)
        clear q1
        go_wp2
        go_ret2
        rw [HE.out]
        exact ⟨rfl, HD.out⟩
    · clear hix
      go_wp2_with fail
      refine wp_region_held_drew (S := fun _ => True) (by kernel_rfl) (trivial) (fun hHeld => ?_)
      refine takeH (i := 0) (v := ?_) rfl (by kernel_rfl) (by kernel_rfl) (by kernel_rfl) (fun _ _ _ h => h) rfl ?_ hHeld ?_
      rotate_left
      · intro w _; go_simp; first | done | (with_reducible rfl)
      try simp only [Act.put, ly1, ly2, ly3]
      refine takeH (i := 1) (v := ?_) rfl (by kernel_rfl) (by kernel_rfl) (by kernel_rfl) (fun _ _ _ h => h) rfl ?_ hHeld ?_
      rotate_left
      · intro w _; go_simp; first | done | (with_reducible rfl)
      try simp only [Act.put, ly1, ly2, ly3]
      refine takeH (i := 2) (v := ?_) rfl (by kernel_rfl) (by kernel_rfl) (by kernel_rfl) (fun _ _ _ h => h) rfl ?_ hHeld ?_
      rotate_left
      · intro w _; go_simp; first | done | (with_reducible rfl)
      try simp only [Act.put, ly1, ly2, ly3]
      refine skipH (i := 3) rfl (by kernel_rfl) (by kernel_rfl) (by kernel_rfl) (fun _ _ _ h => h) rfl hHeld ?_
      try simp only [Act.put, ly1, ly2, ly3]
      refine skipH (i := 4) rfl (by kernel_rfl) (by kernel_rfl) (by kernel_rfl) (fun _ _ _ h => h) rfl hHeld ?_
      try simp only [Act.put, ly1, ly2, ly3]
      refine skipH (i := 5) rfl (by kernel_rfl) (by kernel_rfl) (by kernel_rfl) (fun _ _ _ h => h) rfl hHeld ?_
      try simp only [Act.put, ly1, ly2, ly3]
      refine takeH (i := 6) (v := ?_) rfl (by kernel_rfl) (by kernel_rfl) (by kernel_rfl) (fun _ _ _ h => h) rfl ?_ hHeld ?_
      rotate_left
      · intro w _; go_simp; first | done | (with_reducible rfl)
      try simp only [Act.put, ly1, ly2, ly3]
      refine takeH (i := 7) (v := ?_) rfl (by kernel_rfl) (by kernel_rfl) (by kernel_rfl) (fun _ _ _ h => h) rfl ?_ hHeld ?_
      rotate_left
      · intro w _; go_simp; first | done | (with_reducible rfl)
      try simp only [Act.put, ly1, ly2, ly3]
      refine skipH (i := 8) rfl (by kernel_rfl) (by kernel_rfl) (by kernel_rfl) (fun _ _ _ h => h) rfl hHeld ?_
      try simp only [Act.put, ly1, ly2, ly3]
      refine skipH (i := 9) rfl (by kernel_rfl) (by kernel_rfl) (by kernel_rfl) (fun _ _ _ h => h) rfl hHeld ?_
      try simp only [Act.put, ly1, ly2, ly3]
      refine skipH (i := 10) rfl (by kernel_rfl) (by kernel_rfl) (by kernel_rfl) (fun _ _ _ h => h) rfl hHeld ?_
      try simp only [Act.put, ly1, ly2, ly3]
      refine skipH (i := 11) rfl (by kernel_rfl) (by kernel_rfl) (by kernel_rfl) (fun _ _ _ h => h) rfl hHeld ?_
      try simp only [Act.put, ly1, ly2, ly3]
      refine skipH (i := 12) rfl (by kernel_rfl) (by kernel_rfl) (by kernel_rfl) (fun _ _ _ h => h) rfl hHeld ?_
      try simp only [Act.put, ly1, ly2, ly3]
      refine skipH (i := 13) rfl (by kernel_rfl) (by kernel_rfl) (by kernel_rfl) (fun _ _ _ h => h) rfl hHeld ?_
      try simp only [Act.put, ly1, ly2, ly3]
      refine skipH (i := 14) rfl (by kernel_rfl) (by kernel_rfl) (by kernel_rfl) (fun _ _ _ h => h) rfl hHeld ?_
      try simp only [Act.put, ly1, ly2, ly3]
      refine skipH (i := 15) rfl (by kernel_rfl) (by kernel_rfl) (by kernel_rfl) (fun _ _ _ h => h) rfl hHeld ?_
      try simp only [Act.put, ly1, ly2, ly3]
      refine skipH (i := 16) rfl (by kernel_rfl) (by kernel_rfl) (by kernel_rfl) (fun _ _ _ h => h) rfl hHeld ?_
      try simp only [Act.put, ly1, ly2, ly3]
      refine skipH (i := 17) rfl (by kernel_rfl) (by kernel_rfl) (by kernel_rfl) (fun _ _ _ h => h) rfl hHeld ?_
      try simp only [Act.put, ly1, ly2, ly3]
      refine takeH (i := 18) (v := ?_) rfl (by kernel_rfl) (by kernel_rfl) (by kernel_rfl) (fun _ _ _ h => h) rfl ?_ hHeld ?_
      rotate_left
      · intro w _; go_simp; first | done | (with_reducible rfl)
      try simp only [Act.put, ly1, ly2, ly3]
      refine wpAnyH_done (by kernel_rfl) ?_ _
      clear hHeld
      have HR2 := hide (HR1.out.keep ((Chg.refl (fun _ => False) _).drew) (fun _ _ h => h))
      have HC2 := hide (HC1.out.drew)
      go_wp2_with fail
      refine (failing_any _ HR2.out (by omega) S.n).mono ?_
      rintro e w5 ⟨rfl, rfl⟩
      have hfe : S.next.fails S.n = S.fails S.n := rfl
      rw [hfe]
      clear hfe
      cases hfs : S.fails S.n with
      | true =>
        have hon := HON.out
        have HE := hide (show S.syncDir = (S.next.undoD, 34) by unfold Dk.syncDir; rw [if_neg (by rw [hon]; simp), if_pos hfs])
        clear hon hfs
        go_wp2_with fail
        refine (fail_dir _ HR2.out (show S.acts.length < 1099511627776 by omega) _).mono ?_
        rintro e w6 ⟨rfl, q1⟩
        have HD := hide (RDone.begun HH.out HR2.out HC2.out q1)
        clear q1
        go_wp2
        go_ret2
        rw [HE.out]
        exact ⟨rfl, HD.out⟩
      | false =>
        have hon := HON.out
        have HE := hide (show S.syncDir = (S.next.keepD, 0) by unfold Dk.syncDir; rw [if_neg (by rw [hon]; simp), if_neg (by rw [hfs]; simp)])
        clear hon hfs
        go_wp2_with fail
        refine (does_syncDir _ HR2.out (show S.acts.length < 1099511627776 by omega) _ [] [] []).mono ?_
        rintro e w6 ⟨rfl, q1⟩
        have HD := hide (RDone.begun HH.out HR2.out HC2.out q1)
        clear q1
        go_wp2
        go_ret2
        rw [HE.out]
        exact ⟨rfl, HD.out⟩

set_option maxRecDepth 20000 in
set_option maxHeartbeats 3200000 in
theorem do_rename {B r : Nat} {R : Nat → Prop} {S : Dk} {G : Rg} (w : World) (h : RR B w R r S G) (hk : Ok S) (hks : G.ks.length ≤ 1000) (n t : Nm) (hb : S.bulk + 12 < 1099511627776) (hnl : n.length < 4611686018427387904) (htl : t.length < 4611686018427387904) :
    Calls Try.prog 34 #[.pointer (some ⟨r, 0, none⟩), .int .i64 4, .string (strB n), .string (strB t), .string (⟨#[]⟩)] w fun e w' => e = .returned (.tuple #[.string (strB []), .int .i64 (S.rename n t).2]) ∧ RDone B w R r (S.rename n t).1 G.ks w' := by
  have hn0 : S.n ≤ S.bulk := by unfold Dk.bulk; omega
  have hdl := dir_le hk
  have hal : S.acts.length ≤ S.bulk := by unfold Dk.bulk; omega
  have hfl : S.files.length ≤ S.bulk := by unfold Dk.bulk; omega
  cases hon : S.on with
  | false =>
    have hst := starts_off w h (by omega) hon
    have HE := hide (show S.rename n t = (S, 35) by exact off_rename hon n t)
    have HH := hide h
    clear h hon hk
    go_enter Try.func34, Try.ntmps34
    go_wp2_with fail
    refine hst.mono ?_
    rintro e w1 ⟨rfl, hr, hc⟩
    have HD := hide (RDone.own HH.out hr rfl hc)
    clear hr hc hst
    go_wp2
    go_ret2
    rw [HE.out]
    exact ⟨rfl, HD.out⟩
  | true =>
    have hst := starts_on w h (by omega) hon
    have HH := hide h
    have HK := hide (ok_next hk)
    have HK0 := hide hk
    have HON := hide hon
    clear h hk
    go_enter Try.func34, Try.ntmps34
    go_wp2_with fail
    refine hst.mono ?_
    rintro e w1 ⟨rfl, hr1, hc1⟩
    have HR1 := hide hr1
    have HC1 := hide hc1
    have hof := of_any w1 B G.dv S.dir n hr1.dir (by omega)
    clear hst hr1 hc1 hon
    go_wp2_with fail
    refine (rIsName_any w1 n hnl).mono ?_
    rintro e w2 ⟨rfl, rfl⟩
    go_wp2_with fail
    refine (rIsName_any _ t htl).mono ?_
    rintro e w3 ⟨rfl, rfl⟩
    cases hq : isNm n with
    | false =>
      have hon := HON.out
      have HE := hide (show S.rename n t = (S.next, 30) by unfold Dk.rename; rw [if_neg (by rw [hon]; simp), if_pos (Or.inl hq)])
      have HD := hide (RDone.own HH.out HR1.out rfl HC1.out)
      clear hof hon
      go_wp2
      go_ret2
      rw [HE.out]
      exact ⟨rfl, HD.out⟩
    | true =>
    cases hq2 : isNm t with
    | false =>
      have hon := HON.out
      have HE := hide (show S.rename n t = (S.next, 30) by unfold Dk.rename; rw [if_neg (by rw [hon]; simp), if_pos (Or.inr hq2)])
      have HD := hide (RDone.own HH.out HR1.out rfl HC1.out)
      clear hof hon
      go_wp2
      go_ret2
      rw [HE.out]
      exact ⟨rfl, HD.out⟩
    | true =>
    have c1 := cell_of HR1.out.blk 1
    dsimp only [rcells] at c1
    go_wp2_with fail
    refine hof.mono ?_
    rintro e w4 ⟨rfl, rfl⟩
    clear hof
    cases hl : look S.dir n with
    | none =>
      dsimp only [idx]
      have hon := HON.out
      have HE := hide (show S.rename n t = (S.next, 32) by unfold Dk.rename; rw [if_neg (by rw [hon]; simp), if_neg (by rw [hq, hq2]; simp), if_pos hl])
      have HD := hide (RDone.own HH.out HR1.out rfl HC1.out)
      clear hon hl
      go_wp2
      go_ret2
      rw [HE.out]
      exact ⟨rfl, HD.out⟩
    | some f =>
      dsimp only [idx]
      have HFI := hide (show f < S.next.files.length from HK0.out.idD (look_id hl))
      have HL := hide hl
      clear hl
      have hfn : ¬ (f : Int) < 0 := by omega
      go_wp2_with fail
      refine wp_region_held_drew (S := fun _ => True) (by kernel_rfl) (trivial) (fun hHeld => ?_)
      refine takeH (i := 0) (v := ?_) rfl (by kernel_rfl) (by kernel_rfl) (by kernel_rfl) (fun _ _ _ h => h) rfl ?_ hHeld ?_
      rotate_left
      · intro w _; go_simp; first | done | (with_reducible rfl)
      try simp only [Act.put, ly1, ly2, ly3]
      refine takeH (i := 1) (v := ?_) rfl (by kernel_rfl) (by kernel_rfl) (by kernel_rfl) (fun _ _ _ h => h) rfl ?_ hHeld ?_
      rotate_left
      · intro w _; go_simp; first | done | (with_reducible rfl)
      try simp only [Act.put, ly1, ly2, ly3]
      refine takeH (i := 2) (v := ?_) rfl (by kernel_rfl) (by kernel_rfl) (by kernel_rfl) (fun _ _ _ h => h) rfl ?_ hHeld ?_
      rotate_left
      · intro w _; go_simp; first | done | (with_reducible rfl)
      try simp only [Act.put, ly1, ly2, ly3]
      refine skipH (i := 3) rfl (by kernel_rfl) (by kernel_rfl) (by kernel_rfl) (fun _ _ _ h => h) rfl hHeld ?_
      try simp only [Act.put, ly1, ly2, ly3]
      refine skipH (i := 4) rfl (by kernel_rfl) (by kernel_rfl) (by kernel_rfl) (fun _ _ _ h => h) rfl hHeld ?_
      try simp only [Act.put, ly1, ly2, ly3]
      refine skipH (i := 5) rfl (by kernel_rfl) (by kernel_rfl) (by kernel_rfl) (fun _ _ _ h => h) rfl hHeld ?_
      try simp only [Act.put, ly1, ly2, ly3]
      refine takeH (i := 6) (v := ?_) rfl (by kernel_rfl) (by kernel_rfl) (by kernel_rfl) (fun _ _ _ h => h) rfl ?_ hHeld ?_
      rotate_left
      · intro w _; go_simp; first | done | (with_reducible rfl)
      try simp only [Act.put, ly1, ly2, ly3]
      refine takeH (i := 7) (v := ?_) rfl (by kernel_rfl) (by kernel_rfl) (by kernel_rfl) (fun _ _ _ h => h) rfl ?_ hHeld ?_
      rotate_left
      · intro w _; go_simp; first | done | (with_reducible rfl)
      try simp only [Act.put, ly1, ly2, ly3]
      refine skipH (i := 8) rfl (by kernel_rfl) (by kernel_rfl) (by kernel_rfl) (fun _ _ _ h => h) rfl hHeld ?_
      try simp only [Act.put, ly1, ly2, ly3]
      refine skipH (i := 9) rfl (by kernel_rfl) (by kernel_rfl) (by kernel_rfl) (fun _ _ _ h => h) rfl hHeld ?_
      try simp only [Act.put, ly1, ly2, ly3]
      refine skipH (i := 10) rfl (by kernel_rfl) (by kernel_rfl) (by kernel_rfl) (fun _ _ _ h => h) rfl hHeld ?_
      try simp only [Act.put, ly1, ly2, ly3]
      refine skipH (i := 11) rfl (by kernel_rfl) (by kernel_rfl) (by kernel_rfl) (fun _ _ _ h => h) rfl hHeld ?_
      try simp only [Act.put, ly1, ly2, ly3]
      refine skipH (i := 12) rfl (by kernel_rfl) (by kernel_rfl) (by kernel_rfl) (fun _ _ _ h => h) rfl hHeld ?_
      try simp only [Act.put, ly1, ly2, ly3]
      refine skipH (i := 13) rfl (by kernel_rfl) (by kernel_rfl) (by kernel_rfl) (fun _ _ _ h => h) rfl hHeld ?_
      try simp only [Act.put, ly1, ly2, ly3]
      refine skipH (i := 14) rfl (by kernel_rfl) (by kernel_rfl) (by kernel_rfl) (fun _ _ _ h => h) rfl hHeld ?_
      try simp only [Act.put, ly1, ly2, ly3]
      refine skipH (i := 15) rfl (by kernel_rfl) (by kernel_rfl) (by kernel_rfl) (fun _ _ _ h => h) rfl hHeld ?_
      try simp only [Act.put, ly1, ly2, ly3]
      refine skipH (i := 16) rfl (by kernel_rfl) (by kernel_rfl) (by kernel_rfl) (fun _ _ _ h => h) rfl hHeld ?_
      try simp only [Act.put, ly1, ly2, ly3]
      refine skipH (i := 17) rfl (by kernel_rfl) (by kernel_rfl) (by kernel_rfl) (fun _ _ _ h => h) rfl hHeld ?_
      try simp only [Act.put, ly1, ly2, ly3]
      refine takeH (i := 18) (v := ?_) rfl (by kernel_rfl) (by kernel_rfl) (by kernel_rfl) (fun _ _ _ h => h) rfl ?_ hHeld ?_
      rotate_left
      · intro w _; go_simp; first | done | (with_reducible rfl)
      try simp only [Act.put, ly1, ly2, ly3]
      refine wpAnyH_done (by kernel_rfl) ?_ _
      clear hHeld
      have HR2 := hide (HR1.out.keep ((Chg.refl (fun _ => False) _).drew) (fun _ _ h => h))
      have HC2 := hide (HC1.out.drew)
      go_wp2_with fail
      refine (failing_any _ HR2.out (by omega) S.n).mono ?_
      rintro e w5 ⟨rfl, rfl⟩
      have hfe : S.next.fails S.n = S.fails S.n := rfl
      rw [hfe]
      clear hfe
      cases hfs : S.fails S.n with
      | true =>
        have hl := HL.out
        have hon := HON.out
        have HE := hide (show S.rename n t = (S.next, 34) by unfold Dk.rename; rw [if_neg (by rw [hon]; simp), if_neg (by rw [hq, hq2]; simp), if_neg (by rw [hl]; simp), if_pos hfs])
        clear hon hl hfs
        go_wp2_with fail
        refine (fail_none _ HR2.out 4 _ (by decide) (by decide)).mono ?_
        rintro e w6 ⟨rfl, q1⟩
        have HD := hide (RDone.begun HH.out HR2.out HC2.out q1)
        clear q1
        go_wp2
        go_ret2
        rw [HE.out]
        exact ⟨rfl, HD.out⟩
      | false =>
        have hl := HL.out
        have hon := HON.out
        have HE := hide (show S.rename n t = (if n = t then S.next else S.next.act (.ren n t), 0) by unfold Dk.rename; rw [if_neg (by rw [hon]; simp), if_neg (by rw [hq, hq2]; simp), if_neg (by rw [hl]; simp), if_neg (by rw [hfs]; simp)]; split <;> rfl)
        clear hon hl hfs
        go_wp2_with fail
        refine (does_rename _ HR2.out (show S.acts.length < 1099511627776 by omega) (show S.dir.length < 1099511627776 by omega) _ n t [] (by rw [show look S.next.dir n = some f from HL.out]; simp)).mono ?_
        rintro e w6 ⟨rfl, q1⟩
        have HD := hide (RDone.begun HH.out HR2.out HC2.out q1)
        clear q1
        go_wp2
        go_ret2
        rw [HE.out]
        exact ⟨rfl, HD.out⟩

set_option maxRecDepth 20000 in
set_option maxHeartbeats 3200000 in
theorem do_remove {B r : Nat} {R : Nat → Prop} {S : Dk} {G : Rg} (w : World) (h : RR B w R r S G) (hk : Ok S) (hks : G.ks.length ≤ 1000) (n : Nm) (hb : S.bulk + 12 < 1099511627776) (hnl : n.length < 4611686018427387904) :
    Calls Try.prog 34 #[.pointer (some ⟨r, 0, none⟩), .int .i64 5, .string (strB n), .string (⟨#[]⟩), .string (⟨#[]⟩)] w fun e w' => e = .returned (.tuple #[.string (strB []), .int .i64 (S.remove n).2]) ∧ RDone B w R r (S.remove n).1 G.ks w' := by
  have hn0 : S.n ≤ S.bulk := by unfold Dk.bulk; omega
  have hdl := dir_le hk
  have hal : S.acts.length ≤ S.bulk := by unfold Dk.bulk; omega
  have hfl : S.files.length ≤ S.bulk := by unfold Dk.bulk; omega
  cases hon : S.on with
  | false =>
    have hst := starts_off w h (by omega) hon
    have HE := hide (show S.remove n = (S, 35) by exact off_remove hon n)
    have HH := hide h
    clear h hon hk
    go_enter Try.func34, Try.ntmps34
    go_wp2_with fail
    refine hst.mono ?_
    rintro e w1 ⟨rfl, hr, hc⟩
    have HD := hide (RDone.own HH.out hr rfl hc)
    clear hr hc hst
    go_wp2
    go_ret2
    rw [HE.out]
    exact ⟨rfl, HD.out⟩
  | true =>
    have hst := starts_on w h (by omega) hon
    have HH := hide h
    have HK := hide (ok_next hk)
    have HK0 := hide hk
    have HON := hide hon
    clear h hk
    go_enter Try.func34, Try.ntmps34
    go_wp2_with fail
    refine hst.mono ?_
    rintro e w1 ⟨rfl, hr1, hc1⟩
    have HR1 := hide hr1
    have HC1 := hide hc1
    have hof := of_any w1 B G.dv S.dir n hr1.dir (by omega)
    clear hst hr1 hc1 hon
    go_wp2_with fail
    refine (rIsName_any w1 n hnl).mono ?_
    rintro e w2 ⟨rfl, rfl⟩
    go_wp2_with fail
    refine (rIsName_any _ [] (by simp)).mono ?_
    rintro e w3 ⟨rfl, rfl⟩
    cases hq : isNm n with
    | false =>
      have hon := HON.out
      have HE := hide (show S.remove n = (S.next, 30) by unfold Dk.remove Dk.onFile; rw [if_neg (by rw [hon]; simp), if_pos hq]; simp only [Dk.begun, hon]; rfl)
      have HD := hide (RDone.own HH.out HR1.out rfl HC1.out)
      clear hof hon
      go_wp2
      go_ret2
      rw [HE.out]
      exact ⟨rfl, HD.out⟩
    | true =>
    have c1 := cell_of HR1.out.blk 1
    dsimp only [rcells] at c1
    go_wp2_with fail
    refine hof.mono ?_
    rintro e w4 ⟨rfl, rfl⟩
    clear hof
    cases hl : look S.dir n with
    | none =>
      dsimp only [idx]
      have hon := HON.out
      have HE := hide (show S.remove n = (S.next, 32) by unfold Dk.remove Dk.onFile; rw [if_neg (by rw [hon]; simp), if_neg (by rw [hq]; simp), hl]; simp only [Dk.begun, hon]; rfl)
      have HD := hide (RDone.own HH.out HR1.out rfl HC1.out)
      clear hon hl
      go_wp2
      go_ret2
      rw [HE.out]
      exact ⟨rfl, HD.out⟩
    | some f =>
      dsimp only [idx]
      have HFI := hide (show f < S.next.files.length from HK0.out.idD (look_id hl))
      have HL := hide hl
      clear hl
      have hfn : ¬ (f : Int) < 0 := by omega
      go_wp2_with fail
      refine wp_region_held_drew (S := fun _ => True) (by kernel_rfl) (trivial) (fun hHeld => ?_)
      refine takeH (i := 0) (v := ?_) rfl (by kernel_rfl) (by kernel_rfl) (by kernel_rfl) (fun _ _ _ h => h) rfl ?_ hHeld ?_
      rotate_left
      · intro w _; go_simp; first | done | (with_reducible rfl)
      try simp only [Act.put, ly1, ly2, ly3]
      refine takeH (i := 1) (v := ?_) rfl (by kernel_rfl) (by kernel_rfl) (by kernel_rfl) (fun _ _ _ h => h) rfl ?_ hHeld ?_
      rotate_left
      · intro w _; go_simp; first | done | (with_reducible rfl)
      try simp only [Act.put, ly1, ly2, ly3]
      refine takeH (i := 2) (v := ?_) rfl (by kernel_rfl) (by kernel_rfl) (by kernel_rfl) (fun _ _ _ h => h) rfl ?_ hHeld ?_
      rotate_left
      · intro w _; go_simp; first | done | (with_reducible rfl)
      try simp only [Act.put, ly1, ly2, ly3]
      refine skipH (i := 3) rfl (by kernel_rfl) (by kernel_rfl) (by kernel_rfl) (fun _ _ _ h => h) rfl hHeld ?_
      try simp only [Act.put, ly1, ly2, ly3]
      refine skipH (i := 4) rfl (by kernel_rfl) (by kernel_rfl) (by kernel_rfl) (fun _ _ _ h => h) rfl hHeld ?_
      try simp only [Act.put, ly1, ly2, ly3]
      refine skipH (i := 5) rfl (by kernel_rfl) (by kernel_rfl) (by kernel_rfl) (fun _ _ _ h => h) rfl hHeld ?_
      try simp only [Act.put, ly1, ly2, ly3]
      refine takeH (i := 6) (v := ?_) rfl (by kernel_rfl) (by kernel_rfl) (by kernel_rfl) (fun _ _ _ h => h) rfl ?_ hHeld ?_
      rotate_left
      · intro w _; go_simp; first | done | (with_reducible rfl)
      try simp only [Act.put, ly1, ly2, ly3]
      refine takeH (i := 7) (v := ?_) rfl (by kernel_rfl) (by kernel_rfl) (by kernel_rfl) (fun _ _ _ h => h) rfl ?_ hHeld ?_
      rotate_left
      · intro w _; go_simp; first | done | (with_reducible rfl)
      try simp only [Act.put, ly1, ly2, ly3]
      refine skipH (i := 8) rfl (by kernel_rfl) (by kernel_rfl) (by kernel_rfl) (fun _ _ _ h => h) rfl hHeld ?_
      try simp only [Act.put, ly1, ly2, ly3]
      refine skipH (i := 9) rfl (by kernel_rfl) (by kernel_rfl) (by kernel_rfl) (fun _ _ _ h => h) rfl hHeld ?_
      try simp only [Act.put, ly1, ly2, ly3]
      refine skipH (i := 10) rfl (by kernel_rfl) (by kernel_rfl) (by kernel_rfl) (fun _ _ _ h => h) rfl hHeld ?_
      try simp only [Act.put, ly1, ly2, ly3]
      refine skipH (i := 11) rfl (by kernel_rfl) (by kernel_rfl) (by kernel_rfl) (fun _ _ _ h => h) rfl hHeld ?_
      try simp only [Act.put, ly1, ly2, ly3]
      refine skipH (i := 12) rfl (by kernel_rfl) (by kernel_rfl) (by kernel_rfl) (fun _ _ _ h => h) rfl hHeld ?_
      try simp only [Act.put, ly1, ly2, ly3]
      refine skipH (i := 13) rfl (by kernel_rfl) (by kernel_rfl) (by kernel_rfl) (fun _ _ _ h => h) rfl hHeld ?_
      try simp only [Act.put, ly1, ly2, ly3]
      refine skipH (i := 14) rfl (by kernel_rfl) (by kernel_rfl) (by kernel_rfl) (fun _ _ _ h => h) rfl hHeld ?_
      try simp only [Act.put, ly1, ly2, ly3]
      refine skipH (i := 15) rfl (by kernel_rfl) (by kernel_rfl) (by kernel_rfl) (fun _ _ _ h => h) rfl hHeld ?_
      try simp only [Act.put, ly1, ly2, ly3]
      refine skipH (i := 16) rfl (by kernel_rfl) (by kernel_rfl) (by kernel_rfl) (fun _ _ _ h => h) rfl hHeld ?_
      try simp only [Act.put, ly1, ly2, ly3]
      refine skipH (i := 17) rfl (by kernel_rfl) (by kernel_rfl) (by kernel_rfl) (fun _ _ _ h => h) rfl hHeld ?_
      try simp only [Act.put, ly1, ly2, ly3]
      refine takeH (i := 18) (v := ?_) rfl (by kernel_rfl) (by kernel_rfl) (by kernel_rfl) (fun _ _ _ h => h) rfl ?_ hHeld ?_
      rotate_left
      · intro w _; go_simp; first | done | (with_reducible rfl)
      try simp only [Act.put, ly1, ly2, ly3]
      refine wpAnyH_done (by kernel_rfl) ?_ _
      clear hHeld
      have HR2 := hide (HR1.out.keep ((Chg.refl (fun _ => False) _).drew) (fun _ _ h => h))
      have HC2 := hide (HC1.out.drew)
      go_wp2_with fail
      refine (failing_any _ HR2.out (by omega) S.n).mono ?_
      rintro e w5 ⟨rfl, rfl⟩
      have hfe : S.next.fails S.n = S.fails S.n := rfl
      rw [hfe]
      clear hfe
      cases hfs : S.fails S.n with
      | true =>
        have hl := HL.out
        have hon := HON.out
        have HE := hide (show S.remove n = (S.next, 34) by unfold Dk.remove Dk.onFile; rw [if_neg (by rw [hon]; simp), if_neg (by rw [hq]; simp), hl, hfs]; simp only [Dk.begun, hon]; rfl)
        clear hon hl hfs
        go_wp2_with fail
        refine (fail_none _ HR2.out 5 _ (by decide) (by decide)).mono ?_
        rintro e w6 ⟨rfl, q1⟩
        have HD := hide (RDone.begun HH.out HR2.out HC2.out q1)
        clear q1
        go_wp2
        go_ret2
        rw [HE.out]
        exact ⟨rfl, HD.out⟩
      | false =>
        have hl := HL.out
        have hon := HON.out
        have HE := hide (show S.remove n = (S.next.act (.rem n), 0) by unfold Dk.remove Dk.onFile; rw [if_neg (by rw [hon]; simp), if_neg (by rw [hq]; simp), hl, hfs]; simp only [Dk.begun, hon]; rfl)
        clear hon hl hfs
        go_wp2_with fail
        refine (does_remove _ HR2.out (show S.acts.length < 1099511627776 by omega) (show S.dir.length < 1099511627776 by omega) _ n [] [] (by rw [show look S.next.dir n = some f from HL.out]; simp)).mono ?_
        rintro e w6 ⟨rfl, q1⟩
        have HD := hide (RDone.begun HH.out HR2.out HC2.out q1)
        clear q1
        go_wp2
        go_ret2
        rw [HE.out]
        exact ⟨rfl, HD.out⟩
end Go.Proofs.Ytlejgdjkdbamkaa
