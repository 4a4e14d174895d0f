/-
  echo as who serves; what the statements show first. Conditions: frames within reach.
-/
import Derived.Test.YtgjmidlcfjgnhaaSmall
namespace Go.Proofs.Ytgjmidlcfjgnhaa
open Go.RowKit

def estep (_ : Unit) (s : Bs) : Bs × Unit := (s ++ [33], ())
def okE (s : Bs) : Prop := s ≠ [] ∧ s.length ≤ 140737488355327
abbrev echoV : Value := .func (.func 17) #[] #[]
theorem echo_serves : Serves (σ := Unit) 0 17 #[] estep okE (fun _ H _ _ => ∀ k, ¬ H k) where
  eg := enters_own Try.func17 (by kernel_rfl) rfl
  frame s h := ⟨h.1, by have := h.2; omega⟩
  turn f s h := by
    have := turnP_length f s
    exact ⟨fun e => h.1 (List.eq_nil_of_length_eq_zero (by rw [← this, e]; rfl)), by rw [this]; exact h.2⟩
  keep _ _ _ _ _ _ h _ _ _ := h
  lt _ _ _ _ h k hk := absurd hk (h k)
  call w H m st s h hs := (echo_any w s hs.2).mono (by
    rintro e w' ⟨rfl, rfl⟩
    exact ⟨rfl, fun _ => False, fun _ h => h, Chg.refl _ _, fun _ h => h.elim⟩)
  short st s h := by
    have := h.2
    simp [estep]
    omega
/-- Ask, of echo. -/
theorem ask_echo (w : World) (n : Nat) (x : Nt) (G : Gn) (s : Bs) (hN : NetW w n echoV x G okE) (hs : okE s) (hth : x.th.length ≤ 900) (hbk : x.bk.length ≤ 1000000) (hsent : x.sent ≤ 1000000) :
    Calls Try.prog 11 #[.pointer (some ⟨n, 0, none⟩), .string (strB s)] w fun e w' => ∃ v G', e = .returned v ∧ Own w' w.heap.size v (x.served estep () s).out ∧ NetW w' n echoV (x.ask estep () s) G' okE ∧
      (∀ k, G'.has n k → G.has n k ∨ w.heap.size ≤ k) ∧ (∀ k, v.ownBlock = some k → ¬ G'.has n k) ∧ Chg (G.has n) w w' := by
  have hc : (x.come s).length ≤ 1000 := by
    have := goP_out x.fs x.th s
    show (goP x.fs x.th s).1.length ≤ _
    omega
  refine (ask_any echo_serves w n x G (fun _ => False) 1000 () s hN (fun _ h => h) (fun _ _ h => h) (Nat.zero_le _) (fun _ _ => Nat.zero_le _) hs (by omega) (by omega) hbk hsent hc).mono ?_
  rintro e w' ⟨v, G', H', rfl, h1, h2, h3, h4, h5, h6, h7, h8⟩
  exact ⟨v, G', rfl, h1, h2, h5, fun k hk => (h7 k hk).1, h8.mono (fun k _ h => h.elim id False.elim)⟩
def f3 : Ft := (3, 0, 0)
def f2 : Ft := (2, 0, 3)
def f4 : Ft := (4, 0, 0)
def f5 : Ft := (5, 0, 0)
def sx0 : Nt := ⟨[f3, f2, f4], [], [], 0⟩
def sx1 : Nt := sx0.ask estep () [97]
def sx2 : Nt := sx1.ask estep () [97, 98]
def sx3 : Nt := sx2.ask estep () [99]
theorem sx1_is : sx1 = ⟨[f2, f4], [[97]], [], 1⟩ := by rfl
theorem sx2_is : sx2 = ⟨[], [], [], 2⟩ := by rfl
theorem sx3_is : sx3 = ⟨[], [], [], 3⟩ := by rfl
theorem so1 : (sx0.served estep () [97]).out = [] := by rfl
theorem so2 : (sx1.served estep () [97, 98]).out = [[98, 98, 33], [98, 98, 33], [97, 33]] := by rfl
theorem so3 : (sx2.served estep () [99]).out = [[99, 33]] := by rfl
theorem ownF_lit (w : World) (l : List Ft) (hl : l.length ≤ 1000) : OwnF (w.alloc (.cells (l.flatMap fc).toArray 35)) w.heap.size (.slice (some ⟨w.heap.size, 0, none⟩) l.length l.length) l := by
  refine ⟨flatF_len l, .inr ⟨w.heap.size, l.length, (l.flatMap fc).toArray, rfl, Nat.le_refl _, heap_last w _, Nat.le_refl _, by unfold maxLen; omega, by rw [List.size_toArray]; exact flatF_len l, ?_⟩⟩
  exact List.take_of_length_le (by rw [flatF_len]; exact Nat.le_refl _)

set_option maxRecDepth 20000 in
set_option maxHeartbeats 1000000 in
theorem shown_any (w : World) : Calls Try.prog 6 #[] w fun e w' => e = .returned (.bool true) ∧ Below w.heap.size w w' := by
  have hlit : OwnF (w.alloc (.cells #[.int .i64 3, .int .i64 0, .int .u8 0, .int .i64 2, .int .i64 0, .int .u8 3, .int .i64 4, .int .i64 0, .int .u8 0] 35)) w.heap.size (.slice (some ⟨w.heap.size, 0, none⟩) 3 3) [f3, f2, f4] := ownF_lit w [f3, f2, f4] (by decide)
  have hb0 : Below w.heap.size w (w.alloc (.cells #[.int .i64 3, .int .i64 0, .int .u8 0, .int .i64 2, .int .i64 0, .int .u8 3, .int .i64 4, .int .i64 0, .int .u8 0] 35)) := (Below.refl _ _).alloc (Nat.le_refl _) _
  generalize hw0 : w.alloc (.cells #[.int .i64 3, .int .i64 0, .int .u8 0, .int .i64 2, .int .i64 0, .int .u8 3, .int .i64 4, .int .i64 0, .int .u8 0] 35) = w0 at *
  have hnew := new_any w0 17 #[] _ [f3, f2, f4] okE hlit.fs (by decide) (by simp [f3, f2, f4, I64])
  go_enter Try.func6, Try.ntmps6
  go_wp2_with fail
  refine hnew.mono ?_
  rintro e w1 ⟨hb1, ⟨-, n, G, rfl, hN, hG⟩ | ⟨h, -⟩⟩
  rotate_left
  · exact absurd h (by decide)
  have B1 := hb0.trans (hb1.mono hb0.size)
  have hG1 : ∀ k, G.has n k → w.heap.size ≤ k := fun k hk => by have := hG k hk; have := hb0.size; omega
  have h1 : Calls Try.prog 11 #[.pointer (some ⟨n, 0, none⟩), .string ⟨#[97]⟩] w1 _ := ask_echo w1 n sx0 G [97] hN ⟨by simp, by simp⟩ (by simp [sx0]) (by simp [sx0]) (by simp [sx0])
  rw [so1] at h1
  clear hnew hb1 hN hG hlit hb0 hw0
  go_wp2_with fail
  refine h1.mono ?_
  rintro e w2 ⟨v1, G1, rfl, ho1, hN1, hg1, hv1, k1⟩
  have B2 : Below w.heap.size w w2 := B1.trans (k1.below hG1 B1.size)
  have hG2 : ∀ k, G1.has n k → w.heap.size ≤ k := fun k hk => by
    rcases hg1 k hk with h | h
    · exact hG1 k h
    · have := B1.size; omega
  obtain ⟨a1, c1, rfl⟩ := own_shape ho1
  have h2 : Calls Try.prog 11 #[.pointer (some ⟨n, 0, none⟩), .string ⟨#[97, 98]⟩] w2 _ := ask_echo w2 n sx1 G1 [97, 98] hN1 ⟨by simp, by simp⟩ (by rw [sx1_is]; simp) (by rw [sx1_is]; simp) (by rw [sx1_is]; simp)
  rw [so2] at h2
  clear h1 hN1 hg1 hv1 k1 hG1 ho1 B1
  go_wp2_with fail
  refine h2.mono ?_
  rintro e w3 ⟨v2, G3, rfl, ho2, hN3, hg3, hv2, k3⟩
  have B3 : Below w.heap.size w w3 := B2.trans (k3.below hG2 B2.size)
  have hG3 : ∀ k, G3.has n k → w.heap.size ≤ k := fun k hk => by
    rcases hg3 k hk with h | h
    · exact hG2 k h
    · have := B2.size; omega
  have h3 : Calls Try.prog 11 #[.pointer (some ⟨n, 0, none⟩), .string ⟨#[99]⟩] w3 _ := ask_echo w3 n sx2 G3 [99] hN3 ⟨by simp, by simp⟩ (by rw [sx2_is]; simp) (by rw [sx2_is]; simp) (by rw [sx2_is]; simp)
  rw [so3] at h3
  clear h2 hN3 hg3 k3 hG2 B2
  obtain ⟨a2, c2, hv2'⟩ := own_shape ho2
  subst hv2'
  go_wp2_with fail
  refine h3.mono ?_
  rintro e w4 ⟨v3, G4, rfl, ho3, hN4, hg4, hv3, k4⟩
  have B4 : Below w.heap.size w w4 := B3.trans (k4.below hG3 B3.size)
  have ho2' := ho2.keep k4 (fun k hk h => hv2 k hk h)
  obtain ⟨a3, c3, hv3'⟩ := own_shape ho3
  subst hv3'
  have hl5 : OwnF (w4.alloc (.cells #[.int .i64 5, .int .i64 0, .int .u8 0] 35)) w4.heap.size (.slice (some ⟨w4.heap.size, 0, none⟩) 1 1) [f5] := ownF_lit w4 [f5] (by decide)
  have b45 : Below w4.heap.size w4 (w4.alloc (.cells #[.int .i64 5, .int .i64 0, .int .u8 0] 35)) := (Below.refl _ _).alloc (Nat.le_refl _) _
  have h5 := new_any (w4.alloc (.cells #[.int .i64 5, .int .i64 0, .int .u8 0] 35)) 17 #[] _ [f5] okE hl5.fs (by decide) (by simp [f5, I64])
  have HB := hide (And.intro B4 b45)
  have HO := hide (And.intro ho2' (And.intro ho3 hN4))
  clear B4 b45 ho2' ho3 hN4 h3 hg4 hv3 k4 hG3 B3 ho2 hv2 hl5
  go_wp2_with fail
  refine h5.mono ?_
  rintro e w5 ⟨hb5, ⟨h, -⟩ | ⟨-, rfl⟩⟩
  · exact absurd h (by decide)
  have b5 := HB.out.2.trans (hb5.mono HB.out.2.size)
  have k5 := chg_below b5
  have ho2 := HO.out.1.keep k5 (fun _ _ h => h)
  have ho3 := HO.out.2.1.keep k5 (fun _ _ h => h)
  have hN5 := HO.out.2.2.keep k5 (fun _ _ h => h)
  have hlA := own_lit w5 [[98, 98, 33], [98, 98, 33], [97, 33]] (by decide)
  have kA : Chg (fun _ => False) w5 (w5.alloc (.cells #[.string ⟨#[98, 98, 33]⟩, .string ⟨#[98, 98, 33]⟩, .string ⟨#[97, 33]⟩] 9)) := (Chg.refl _ _).alloc _
  have hsA : Calls Try.prog 14 #[.slice a2 3 c2, .slice (some ⟨w5.heap.size, 0, none⟩) 3 3] (w5.alloc (.cells #[.string ⟨#[98, 98, 33]⟩, .string ⟨#[98, 98, 33]⟩, .string ⟨#[97, 33]⟩] 9)) _ := same_any _ _ _ _ _ (ho2.keep kA (fun _ _ h => h)).ts hlA.ts (by decide) (by decide)
  have HK := hide (HB.out.1.trans (b5.mono HB.out.1.size))
  have HO := hide (And.intro (ho3.keep kA (fun _ _ h => h)) (hN5.keep kA (fun _ _ h => h)))
  have HKA := hide kA
  clear b5 k5 ho2 ho3 hN5 hlA kA h5 hb5 HB
  go_wp2_with fail
  refine hsA.mono ?_
  rintro e w6 ⟨rfl, k6⟩
  have ho3 := HO.out.1.keep k6 (fun _ _ h => h)
  have hN6 := HO.out.2.keep k6 (fun _ _ h => h)
  have hlB := own_lit w6 [[99, 33]] (by decide)
  have kB : Chg (fun _ => False) w6 (w6.alloc (.cells #[.string ⟨#[99, 33]⟩] 9)) := (Chg.refl _ _).alloc _
  have hsB : Calls Try.prog 14 #[.slice a3 1 c3, .slice (some ⟨w6.heap.size, 0, none⟩) 1 1] (w6.alloc (.cells #[.string ⟨#[99, 33]⟩] 9)) _ := same_any _ _ _ _ _ (ho3.keep kB (fun _ _ h => h)).ts hlB.ts (by decide) (by decide)
  have HN := hide (hN6.keep kB (fun _ _ h => h))
  have HKB := hide (HKA.out.then (k6.then kB))
  clear ho3 hN6 hlB kB k6 hsA
  go_wp2_with fail
  refine hsB.mono ?_
  rintro e w7 ⟨rfl, k7⟩
  have hN7 := HN.out.keep k7 (fun _ _ h => h)
  have h8 := sent_any hN7 (by show sx3.sent ≤ _; rw [sx3_is]; decide)
  have h9 := left_any hN7
  rw [show (sx2.ask estep () [99]).sent = 3 from rfl] at h8
  rw [show (sx2.ask estep () [99]).fs.length = 0 from rfl] at h9
  have HK7 := hide (HKB.out.then k7)
  clear hsB k7 hN7
  go_wp2_with fail
  refine h8.mono ?_
  rintro e w8 ⟨rfl, rfl⟩
  go_wp2_with fail
  refine h9.mono ?_
  rintro e w9 ⟨rfl, rfl⟩
  go_wp2
  go_ret
  exact ⟨rfl, HK.out.trans (HK7.out.below (fun _ h => h.elim) HK.out.size)⟩
end Go.Proofs.Ytgjmidlcfjgnhaa
