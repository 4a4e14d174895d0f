/-
  The statement WireTakes answers true, and leaves all that was there. Conditions: bytes within the reach; a place and a number that are ints; the table's sixteen numbers.
-/
import Derived.Test.YtphhonkiikdanaaDoorShown
import Derived.Test.YtphhonkiikdanaaDoorRefTake
namespace Go.Proofs.YtphhonkiikdanaaDoor
open Go.RowKit

theorem takeText_strB (w : World) (v : Value) (l : List UInt8) (p most : Int) (t : List UInt8) (q : Nat) (h : Sl w v l) (hp : p ≤ 9223372036854775807) (hn : takeT l p most = some (t, q)) :
    Calls Tryd.prog 18 #[v, .int .i64 p, .int .i64 most] w fun e w' => e = .returned (.tuple #[.string (strB t), .int .i64 (q : Int), .bool true]) ∧ w' = w :=
  takeText_some w v l p most t q h hp hn

set_option maxRecDepth 20000 in
set_option maxHeartbeats 800000 in
theorem takes_any (w : World) (v : Value) (l : List UInt8) (p most : Int) (hT : TabW w) (h : Sl w v l) (hl : l.length ≤ 140737488351232) (hp1 : p ≤ 9223372036854775807) :
    Calls Tryd.prog 4 #[v, .int .i64 p, .int .i64 most] w fun e w' => e = .returned (.bool true) ∧ Below w.heap.size w w' := by
  have HT := hide hT
  clear hT
  have hshown := shown_any w HT.out
  have R1 : ∀ w', Below w.heap.size w w' → Calls Tryd.prog 17 #[v, .int .i64 p] w' fun e w'' => e = .returned (tkI (takeI l p)) ∧ Below w'.heap.size w' w'' := fun w' hb => refTake_any w' v l p (h.keep hb) hl
  have R2 : ∀ w', Below w.heap.size w w' → Calls Tryd.prog 19 #[v, .int .i64 p, .int .i64 most] w' fun e w'' => e = .returned (tkT (takeT l p most)) ∧ Below w'.heap.size w' w'' := fun w' hb => refText_take w' v l p most (h.keep hb) hl
  cases hI : takeI l p with
  | none =>
    have hTT : takeT l p most = none := by unfold takeT; rw [hI]
    rw [hI] at R1
    rw [hTT] at R2
    unfold tkI at R1
    unfold tkT at R2
    have H1 := hide R1
    have H2 := hide R2
    have HI := hide hI
    have HTT := hide hTT
    have HS := hide hshown
    clear R1 R2 hI hTT hshown
    go_enter Tryd.func4, Tryd.ntmps4
    go_wp2_with fail
    refine HS.out.mono ?_
    rintro e w1 ⟨rfl, hb1⟩
    go_wp2_with fail
    refine (takeInt_none _ _ l p (h.keep hb1) hp1 HI.out).mono ?_
    rintro e w1 ⟨rfl, rfl⟩
    go_wp2_with fail
    refine (H1.out _ hb1).mono ?_
    rintro e w2 ⟨rfl, hb2⟩
    have hb12 := hb1.trans (hb2.mono hb1.size)
    go_wp2_with fail
    refine (takeText_none _ _ l p most (h.keep hb12) hp1 HTT.out).mono ?_
    rintro e w2 ⟨rfl, rfl⟩
    go_wp2_with fail
    refine (H2.out _ hb12).mono ?_
    rintro e w3 ⟨rfl, hb3⟩
    go_wp2
    go_ret
    exact ⟨rfl, hb12.trans (hb3.mono hb12.size)⟩
  | some x =>
    obtain ⟨n, r⟩ := x
    rw [hI] at R1
    unfold tkI at R1
    have H1 := hide R1
    have HI := hide hI
    have HS := hide hshown
    clear R1 hI hshown
    cases hTT : takeT l p most with
    | none =>
      rw [hTT] at R2
      unfold tkT at R2
      have H2 := hide R2
      have HTT := hide hTT
      clear R2 hTT
      go_enter Tryd.func4, Tryd.ntmps4
      go_wp2_with fail
      refine HS.out.mono ?_
      rintro e w1 ⟨rfl, hb1⟩
      go_wp2_with fail
      refine (takeInt_some _ _ l p n r (h.keep hb1) hp1 HI.out).mono ?_
      rintro e w1 ⟨rfl, rfl⟩
      go_wp2_with fail
      refine (H1.out _ hb1).mono ?_
      rintro e w2 ⟨rfl, hb2⟩
      have hb12 := hb1.trans (hb2.mono hb1.size)
      go_wp2_with fail
      refine (takeText_none _ _ l p most (h.keep hb12) hp1 HTT.out).mono ?_
      rintro e w2 ⟨rfl, rfl⟩
      go_wp2_with fail
      refine (H2.out _ hb12).mono ?_
      rintro e w3 ⟨rfl, hb3⟩
      go_wp2
      go_ret
      exact ⟨rfl, hb12.trans (hb3.mono hb12.size)⟩
    | some y =>
      obtain ⟨t, q⟩ := y
      rw [hTT] at R2
      unfold tkT at R2
      have H2 := hide R2
      have HTT := hide hTT
      clear R2 hTT
      go_enter Tryd.func4, Tryd.ntmps4
      go_wp2_with fail
      refine HS.out.mono ?_
      rintro e w1 ⟨rfl, hb1⟩
      go_wp2_with fail
      refine (takeInt_some _ _ l p n r (h.keep hb1) hp1 HI.out).mono ?_
      rintro e w1 ⟨rfl, rfl⟩
      go_wp2_with fail
      refine (H1.out _ hb1).mono ?_
      rintro e w2 ⟨rfl, hb2⟩
      have hb12 := hb1.trans (hb2.mono hb1.size)
      go_wp2_with fail
      refine (takeText_strB _ _ l p most t q (h.keep hb12) hp1 HTT.out).mono ?_
      rintro e w2 ⟨rfl, rfl⟩
      go_wp2_with fail
      refine (H2.out _ hb12).mono ?_
      rintro e w3 ⟨rfl, hb3⟩
      go_wp2
      go_ret
      exact ⟨rfl, hb12.trans (hb3.mono hb12.size)⟩
end Go.Proofs.YtphhonkiikdanaaDoor
