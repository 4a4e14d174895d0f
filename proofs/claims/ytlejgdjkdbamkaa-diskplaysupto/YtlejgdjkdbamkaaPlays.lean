/-
  DiskPlays is true. Conditions: each text and byte slice of the script is of at most 1048576 bytes.
-/
import Derived.Test.YtlejgdjkdbamkaaDoes
import Derived.Test.YtlejgdjkdbamkaaNilDisk
import Derived.Test.YtlejgdjkdbamkaaJShown
namespace Go.Proofs.Ytlejgdjkdbamkaa
open Go.RowKit

theorem Two.bulk0 (room : Nat) : (Dk.new room).bulk ≤ 10 := by unfold Dk.new Dk.bulk; simp
set_option maxRecDepth 20000 in
set_option maxHeartbeats 3200000 in
theorem plays_any (w : World) (room : Int) (v : Value) (os : List Oq) (hr : I64 room) (h : Ob w.heap.size w v os) (hl : os.length ≤ 4611686018427387904)
    (hs : ∀ o ∈ os, o.name.length ≤ 1048576 ∧ o.to.length ≤ 1048576 ∧ o.b.length ≤ 1048576) :
    Calls Try.prog 3 #[.int .i64 room, v] w fun e w' => e = .returned (.bool true) ∧ Below w.heap.size w w' := by
  have h' := h
  obtain ⟨ao, cap, rfl, q1, q2, -⟩ := h'
  have hpr := pk_range (c := room) (n := 300) (by omega)
  have hpk := fun W => pick_any W room 300 hr (by omega)
  obtain ⟨rm, hrm⟩ : ∃ rm : Nat, pk room 300 = (rm : Int) := ⟨(pk room 300).toNat, by omega⟩
  have hrm3 : rm < 300 := by omega
  rw [hrm] at hpk
  clear hpr hrm
  have hsn := shown_any w
  generalize hB : w.heap.size = B at *
  have HS := hide hs
  have HO := hide h
  clear hs h
  go_enter Try.func3, Try.ntmps3
  go_wp2_with fail
  refine hsn.mono ?_
  rintro e w1 ⟨rfl, hb1⟩
  have hz1 : B ≤ w1.heap.size := by have := hb1.size; omega
  go_wp2_with fail
  refine (none_any _).mono ?_
  rintro e w2 ⟨rfl, hc2⟩
  have hb2 := hb1.trans (chg_below hc2 hz1)
  have hz2 : B ≤ w2.heap.size := by have := hb2.size; omega
  go_wp2_with fail
  refine (hpk _).mono ?_
  rintro e w3 ⟨rfl, rfl⟩
  go_wp2_with fail
  refine (new_lies2 (B := B) _ hz2 rm (by omega)).mono ?_
  rintro e w4 ⟨rfl, hs4, hc4⟩
  have hb4 := hb2.trans (chg_below hc4 hz2)
  have hz4 : B ≤ w4.heap.size := by have := hb4.size; omega
  go_wp2_with fail
  refine (hpk _).mono ?_
  rintro e w5 ⟨rfl, rfl⟩
  go_wp2_with fail
  refine (rNew_any _ B hz4 rm).mono ?_
  rintro e w6 ⟨rfl, hr6, hc6⟩
  have hs6 := hs4.keep hc6 (fun _ _ h => h)
  have hb6 := hb4.trans (chg_below hc6 hz4)
  have hlt := (hs4.2.1 _ rfl).2
  have h0 : Two B w6 _ _ (Dk.new rm) 0 := ⟨_, _, _, hs6, hr6, by simp, fun k hk e => by omega⟩
  have H0 := hide h0
  have H6 := hide hb6
  clear hs4 hs6 hr6 hc6 hc4 hc2 hb1 hb2 hb4 hb6 hsn hpk h0 hlt
  generalize w3.heap.size = d0 at *
  generalize w5.heap.size = r0 at *
  go_wp2_with fail
  go_loopg [10, 7, 9, 13, 14] 200 (fun g i dv rv ok same wr => ∃ (j d r : Nat) (S : Dk), g = 200 - j ∧ i = .int .i64 (j : Int) ∧ j ≤ os.length ∧ j ≤ 200 ∧ dv = .pointer (some ⟨d, 0, none⟩) ∧ rv = .pointer (some ⟨r, 0, none⟩) ∧ Two B wr d r S (2 * j) ∧ S.bulk ≤ 10 + 1048586 * j ∧ Below B w wr)
  case atStart => exact ⟨0, d0, r0, Dk.new rm, rfl, rfl, by omega, by omega, rfl, rfl, H0.out, Two.bulk0 rm, H6.out⟩
  case round =>
    obtain ⟨j, d, r, S, rfl, rfl, hj, hj2, rfl, rfl, hT, hbu, hbr⟩ := hrel
    have hzr : B ≤ wr.heap.size := by have := hbr.size; omega
    by_cases hlt : j < os.length ∧ j < 200
    · obtain ⟨hlt, hlt2⟩ := hlt
      obtain ⟨b, off, rfl, hb, k0, k1, k2, ⟨u, k3, hu⟩, k4, k5, r0', r4, r5⟩ := Ob.at (HO.out.keep hbr) hlt
      obtain ⟨z1, z2, z3⟩ := HS.out _ (List.getElem_mem hlt)
      generalize os[j] = o at *
      have hd := does_any wr hzr hT o.kind o.n o.torn o.name o.to u o.b hu r0' r4 r5 (by omega) (by omega) (by omega) (by omega)
      obtain ⟨ok, on, ot, ob, onn, ort⟩ := o
      dsimp only at *
      clear hT
      go_wp2_with fail
      refine hd.mono ?_
      rintro e w7 ⟨d7, r7, S7, rfl, hT7, hbu7, hb7⟩
      have hz7 : B ≤ w7.heap.size := by have := hb7.size; omega
      obtain ⟨F7, R7, G7, hs7, hr7, hk7, ap7⟩ := hT7
      have ha := alike_any w7 hs7 hr7 (by omega)
      have HT7 := hide (show Two B w7 d7 r7 S7 (2 * j + 2) from ⟨F7, R7, G7, hs7, hr7, hk7, ap7⟩)
      clear hd hs7 hr7 hk7 ap7
      go_wp2_with fail
      refine ha.mono ?_
      rintro e w8 ⟨rfl, hc8⟩
      obtain ⟨F7, R7, G7, hs7, hr7, hk7, ap7⟩ := HT7.out
      have hT8 : Two B w8 d7 r7 S7 (2 * (j + 1)) := ⟨F7, R7, G7, hs7.keep hc8 (fun _ _ h => h), hr7.keep hc8 (fun _ _ h => h), by omega, ap7⟩
      have hb8 := hbr.trans (hb7.trans (chg_below hc8 hz7))
      clear hs7 hr7 hk7 ap7 HT7 ha hb7
      go_wp2_with fail
      go_roundg (200 - (j + 1))
      case measure => omega
      case rel => exact ⟨j + 1, d7, r7, S7, rfl, by go_num, by omega, by omega, rfl, rfl, hT8, by omega, hb8⟩
    · obtain ⟨F, R, G, hs, hr, hk, ap⟩ := hT
      have hf := full_any wr hs hr hzr (by omega)
      clear hs hr hk ap
      by_cases hlt4 : j < os.length
      · obtain rfl : j = 200 := by omega
        clear hlt
        go_wp2_with fail
        refine hf.mono ?_
        rintro e w7 ⟨rfl, hb7⟩
        go_wp2
        go_ret
        exact ⟨rfl, hbr.trans hb7⟩
      · obtain rfl : j = os.length := by omega
        clear hlt hlt4
        go_wp2_with fail
        refine hf.mono ?_
        rintro e w7 ⟨rfl, hb7⟩
        go_wp2
        go_ret
        exact ⟨rfl, hbr.trans hb7⟩
end Go.Proofs.Ytlejgdjkdbamkaa
