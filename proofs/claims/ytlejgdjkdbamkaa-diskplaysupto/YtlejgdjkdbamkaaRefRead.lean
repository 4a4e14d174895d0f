/-
  The reference's ReadAt and Turn. Conditions: as each says.
-/
import Derived.Test.YtlejgdjkdbamkaaRefDo
namespace Go.Proofs.Ytlejgdjkdbamkaa
open Go.RowKit

set_option maxRecDepth 20000 in
set_option maxHeartbeats 3200000 in
theorem rReadAt_any {B r : Nat} {R : Nat → Prop} {S : Dk} {G : Rg} (w : World) (h : RR B w R r S G) (hk : Ok S) (hks : G.ks.length ≤ 1000) (n : Nm) (a m : Int) (ha : -9223372036854775808 ≤ a ∧ a ≤ 9223372036854775807) (hm : -9223372036854775808 ≤ m ∧ m ≤ 9223372036854775807) (hb : S.bulk + 12 < 1099511627776) (hnl : n.length < 4611686018427387904) :
    Calls Try.prog 38 #[.pointer (some ⟨r, 0, none⟩), .string (strB n), .int .i64 a, .int .i64 m] w fun e w' => e = .returned (.tuple #[.string (strB (S.readAt n a m).1), .int .i64 (S.readAt n a m).2]) ∧ RDone B w R r S.begun G.ks w' := by
  have hn0 : S.n ≤ S.bulk := by unfold Dk.bulk; omega
  have hdl := dir_le hk
  have hfl : S.files.length ≤ S.bulk := by unfold Dk.bulk; omega
  cases hon : S.on with
  | false =>
    have hst := starts_off w h (by omega) hon
    have HE := hide (show S.readAt n a m = ([], 35) by unfold Dk.readAt; rw [off_file hon])
    have HB := hide (show S.begun = S by unfold Dk.begun; rw [hon]; rfl)
    have HH := hide h
    clear h hon hk
    go_enter Try.func38, Try.ntmps38
    go_wp2_with fail
    refine hst.mono ?_
    rintro e w1 ⟨rfl, hr, hc⟩
    have HD := hide (RDone.own HH.out hr rfl hc)
    clear hr hc hst
    go_wp2
    go_ret2
    rw [HE.out, HB.out]
    exact ⟨rfl, HD.out⟩
  | true =>
    have hst := starts_on w h (by omega) hon
    have HB := hide (show S.begun = S.next by unfold Dk.begun; rw [hon]; rfl)
    have HH := hide h
    have HK0 := hide hk
    have HON := hide hon
    clear h hk
    go_enter Try.func38, Try.ntmps38
    go_wp2_with fail
    refine hst.mono ?_
    rintro e w1 ⟨rfl, hr1, hc1⟩
    have HR1 := hide hr1
    have HD := hide (RDone.own HH.out hr1 rfl hc1)
    have hof := of_any w1 B G.dv S.dir n hr1.dir (by omega)
    clear hst hr1 hc1 hon
    go_wp2_with fail
    refine (rIsName_any w1 n hnl).mono ?_
    rintro e w2 ⟨rfl, rfl⟩
    cases hq : isNm n with
    | false =>
      have hon := HON.out
      have HE := hide (show S.readAt n a m = ([], 30) by unfold Dk.readAt Dk.onFile; rw [if_neg (by rw [hon]; simp), if_pos hq])
      clear hof hon
      go_wp2
      go_ret2
      rw [HE.out, HB.out]
      exact ⟨rfl, HD.out⟩
    | true =>
    have c1 := cell_of HR1.out.blk 1
    dsimp only [rcells] at c1
    go_wp2_with fail
    refine hof.mono ?_
    rintro e w4 ⟨rfl, rfl⟩
    clear hof
    cases hl : look S.dir n with
    | none =>
      dsimp only [idx]
      have hon := HON.out
      have HE := hide (show S.readAt n a m = ([], 32) by unfold Dk.readAt Dk.onFile; rw [if_neg (by rw [hon]; simp), if_neg (by rw [hq]; simp), hl])
      clear hon hl
      go_wp2
      go_ret2
      rw [HE.out, HB.out]
      exact ⟨rfl, HD.out⟩
    | some f =>
      dsimp only [idx]
      have hf : f < S.files.length := HK0.out.idD (look_id hl)
      have hfle := file_le (List.getElem?_eq_getElem hf)
      have hby : S.bytes f = S.files[f].b := bytes_of (List.getElem?_eq_getElem hf)
      obtain ⟨fa, fcap, hfv⟩ := own_shape HR1.out.fls
      have hrow := HR1.out.fls
      rw [hfv] at hrow
      change World.ownsRow _ _ _ _ (Value.slice fa S.files.length fcap) S.files.length (fc S.files) at hrow
      obtain ⟨g, rfl, -, -, hc⟩ := own_pos hrow (by omega)
      have x1 := hc _ _ (fc_at S.files f hf).1
      have hbk := HR1.out.blk
      rw [rcells, hfv] at hbk
      have c0 := cell_of hbk 0
      change _ = (#[Value.slice (some ⟨g, 0, none⟩) S.files.length fcap, _, _, _, _, _, _, _, _] : Array Value)[0]? at c0
      have hsz := strB_size S.files[f].b
      have HRD := hide (show S.readAt n a m = (if a < 0 ∨ m < 0 ∨ (S.files[f].b.length : Int) < a ∨ (S.files[f].b.length : Int) - a < m then ([], 2) else if S.fails S.n = true then ([], 34) else ((S.files[f].b.drop a.toNat).take m.toNat, 0)) by
        unfold Dk.readAt Dk.onFile
        rw [if_neg (by rw [HON.out]; simp), if_neg (by rw [hq]; simp), hl]
        show (if _ then _ else _) = _
        rw [hby])
      generalize S.files[f].b = fb at *
      have hf0 : (0 : Int) ≤ (f : Int) := by omega
      have hf1 : (f : Int) < (S.files.length : Int) := by omega
      have hfn : ¬ (f : Int) < 0 := by omega
      clear hl hc hrow hby hbk
      by_cases b1 : a < 0
      · have HE := hide (HRD.out.trans (if_pos (Or.inl b1)))
        go_wp2
        go_ret2
        rw [HE.out, HB.out]
        exact ⟨rfl, HD.out⟩
      by_cases b2 : m < 0
      · have HE := hide (HRD.out.trans (if_pos (Or.inr (Or.inl b2))))
        go_wp2
        go_ret2
        rw [HE.out, HB.out]
        exact ⟨rfl, HD.out⟩
      by_cases b3 : (fb.length : Int) < a
      · have HE := hide (HRD.out.trans (if_pos (Or.inr (Or.inr (Or.inl b3)))))
        go_wp2
        go_ret2
        rw [HE.out, HB.out]
        exact ⟨rfl, HD.out⟩
      have hwr : IntKind.i64.wrap ((fb.length : Int) - a) = (fb.length : Int) - a := by rw [IntKind.wrap_i64]; omega
      by_cases b4 : (fb.length : Int) - a < m
      · have HE := hide (HRD.out.trans (if_pos (Or.inr (Or.inr (Or.inr b4)))))
        go_wp2
        go_ret2
        rw [HE.out, HB.out]
        exact ⟨rfl, HD.out⟩
      have HN := hide (show ¬ (a < 0 ∨ m < 0 ∨ (fb.length : Int) < a ∨ (fb.length : Int) - a < m) by omega)
      go_wp2_with fail
      refine (failing_any _ HR1.out (by omega) S.n).mono ?_
      rintro e w5 ⟨rfl, rfl⟩
      have hfe : S.next.fails S.n = S.fails S.n := rfl
      rw [hfe]
      clear hfe
      cases hfs : S.fails S.n with
      | true =>
        have HE := hide (HRD.out.trans ((if_neg HN.out).trans (if_pos hfs)))
        clear hfs
        go_wp2
        go_ret2
        rw [HE.out, HB.out]
        exact ⟨rfl, HD.out⟩
      | false =>
        have HE := hide (HRD.out.trans ((if_neg HN.out).trans (if_neg (by rw [hfs]; simp))))
        obtain ⟨i, rfl⟩ : ∃ i : Nat, a = (i : Int) := ⟨a.toNat, by omega⟩
        obtain ⟨j, rfl⟩ : ∃ j : Nat, m = (j : Int) := ⟨m.toNat, by omega⟩
        have hwr2 : IntKind.i64.wrap ((i : Int) + (j : Int)) = (i : Int) + (j : Int) := by rw [IntKind.wrap_i64]; omega
        have hij1 : (i : Int) ≤ (i : Int) + (j : Int) := by omega
        have hij2 : (i : Int) + (j : Int) ≤ (fb.length : Int) := by omega
        clear hfs
        go_wp2
        go_ret2
        rw [HE.out, HB.out, ext_cut]
        exact ⟨rfl, HD.out⟩
end Go.Proofs.Ytlejgdjkdbamkaa
