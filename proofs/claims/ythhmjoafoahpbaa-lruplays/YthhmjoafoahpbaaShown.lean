/-
  shown, none: what the document's examples and a nil cache answer. No condition.
-/
import Derived.Test.YthhmjoafoahpbaaSame
namespace Go.Proofs.Ythhmjoafoahpbaa
open Go.RowKit
variable {B : Nat} {w w' : World} {F : Nat → Prop} {c : Nat} {S : Lr}

/-- A cache made since B. -/
structure St (B : Nat) (w : World) (F : Nat → Prop) (c : Nat) (S : Lr) : Prop where
  lies : Lies w F c S
  new : ∀ k, F k → B ≤ k
theorem St.keep {G : Nat → Prop} (h : St B w F c S) (hc : Chg G w w') (hd : ∀ k, F k → ¬ G k) : St B w' F c S := ⟨h.lies.keep hc hd, h.new⟩
theorem St.quiet (h : St B w F c S) (hc : Chg (fun _ => False) w w') : St B w' F c S := h.keep hc (fun _ _ h => h)
theorem St.drew (h : St B w F c S) : St B w.drew F c S := h.quiet ((Chg.refl _ _).drew)
theorem St.below (h : St B w F c S) (hB : B ≤ w.heap.size) (hc : Chg F w w') : Below B w w' := hc.below h.new hB
theorem quiet_below (hB : B ≤ w.heap.size) (hc : Chg (fun _ => False) w w') : Below B w w' := hc.below (fun _ h => h.elim) hB
theorem put_st (h : St B w F c S) (hB : B ≤ w.heap.size) (k v : Bs) (hs : Short (k, v)) (hf : S.l.length < 1000) :
    Calls Try.prog 12 #[pt c, .string (strB k), .string (strB v)] w fun r w' => ∃ gv b F', r = .returned (.tuple #[gv, .int .i64 (S.code k v)]) ∧ w.heap.size ≤ b ∧ Own w' b gv (S.went k v) ∧
      St B w' F' c (S.put k v) ∧ (∀ i, F' i → (F i ∨ w.heap.size ≤ i) ∧ i < b) ∧ Chg F w w' := by
  refine (put_any h.lies k v hs hf).mono ?_
  rintro r w' ⟨gv, b, F', rfl, h0, h1, h2, h3, h4⟩
  refine ⟨gv, b, F', rfl, h0, h1, ⟨h2, fun k hk => ?_⟩, h3, h4⟩
  rcases (h3 k hk).1 with hh | hh
  · exact h.new k hh
  · exact Nat.le_trans hB hh
theorem get_st (h : St B w F c S) (k : Bs) :
    Calls Try.prog 15 #[pt c, .string (strB k)] w fun r w' => r = .returned (.tuple #[.string (strB ((seek k S.l).getD [])), .bool (seek k S.l).isSome]) ∧ St B w' F c (S.get k) ∧ Chg F w w' := by
  refine (get_any h.lies k).mono ?_
  rintro r w' ⟨rfl, h1, h2⟩
  exact ⟨rfl, ⟨h1, h.new⟩, h2⟩
theorem drop_st (h : St B w F c S) (v : Value) (ks : List Bs) (hv : Tf F w v ks) (hn : ks.length ≤ 4611686018427387904) :
    Calls Try.prog 17 #[pt c, v] w fun r w' => r = .returned (.int .i64 (dropNum ks S.l : Int)) ∧ St B w' F c (S.drop ks) ∧ Chg F w w' := by
  refine (drop_any h.lies v ks hv hn).mono ?_
  rintro r w' ⟨rfl, h1, h2⟩
  exact ⟨rfl, ⟨h1, h.new⟩, h2⟩
theorem new_st (w : World) (n : Int) (h : I64 n) (hB : B ≤ w.heap.size) :
    Calls Try.prog 9 #[.int .i64 n] w fun r w' => ∃ c, r = .returned (pt c) ∧ c = w.heap.size ∧ St B w' (fun k => k = c) c ⟨n.toNat, []⟩ ∧ Chg (fun _ => False) w w' ∧ w'.heap.size = w.heap.size + 1 := by
  refine (new_any w n h.1 h.2).mono ?_
  rintro r w' ⟨c, rfl, h1, h2, h3, h4⟩
  exact ⟨c, rfl, h1, ⟨h2, fun k hk => by subst hk h1; exact hB⟩, h3, h4⟩

theorem ts_lit (W : World) (xs : List Bs) (C : Array Value) (t : TypeId) (n : Nat) (hC : C = (tc xs).toArray) (hn : n = xs.length) (hm : n ≤ maxLen) : Ts (W.alloc (.cells C t)) (.slice (some ⟨W.heap.size, 0, none⟩) n n) xs := by
  subst hn hC
  refine ⟨_, _, rfl, Nat.le_refl _, hm, fun _ => ⟨W.heap.size, 0, rfl, by simp, fun j hj => ?_⟩⟩
  rw [cell_of (heap_last W _), Nat.zero_add, List.getElem?_toArray]
  exact tc_get xs j hj

def x0 : Lr := ⟨6, []⟩
def x1 : Lr := ⟨6, [([97], [49])]⟩
def x2 : Lr := ⟨6, [([98], [50]), ([97], [49])]⟩
def x3 : Lr := ⟨6, [([99], [51]), ([98], [50]), ([97], [49])]⟩
def x4 : Lr := ⟨6, [([97], [49]), ([99], [51]), ([98], [50])]⟩
def x5 : Lr := ⟨6, [([100], [52, 53]), ([97], [49])]⟩
theorem y1 : x0.put [97] [49] = x1 := rfl
theorem y2 : x1.put [98] [50] = x2 := rfl
theorem y3 : x2.put [99] [51] = x3 := rfl
theorem y4 : x3.get [97] = x4 := rfl
theorem y5 : x4.put [100] [52, 53] = x5 := rfl
theorem y6 : x5.put [101] [54, 55, 56, 57, 48, 49] = x5 := rfl

set_option maxRecDepth 20000 in
set_option maxHeartbeats 1000000 in
theorem shown_any (w : World) : Calls Try.prog 7 #[] w fun e w' => e = .returned (.bool true) ∧ Below w.heap.size w w' := by
  go_enter Try.func7, Try.ntmps7
  go_wp2_with fail
  refine (new_st (B := w.heap.size) w 6 (by unfold I64; omega) (Nat.le_refl _)).mono ?_
  rintro e w1 ⟨c, rfl, -, s0, hc0, -⟩
  have b1 := quiet_below (Nat.le_refl _) hc0
  have z1 := b1.size
  change St _ _ _ _ x0 at s0
  unfold pt
  go_wp2_with fail
  refine (put_st s0 z1 [97] [49] ⟨by decide, by decide⟩ (by decide)).mono ?_
  rintro e w2 ⟨g1, -, F1, rfl, -, -, s1, -, hc1⟩
  have b2 := b1.trans (s0.below z1 hc1)
  have z2 := b2.size
  rw [y1] at s1
  clear s0 hc1
  go_wp2_with fail
  refine (put_st s1 z2 [98] [50] ⟨by decide, by decide⟩ (by decide)).mono ?_
  rintro e w3 ⟨g2, -, F2, rfl, -, -, s2, -, hc2⟩
  have b3 := b2.trans (s1.below z2 hc2)
  have z3 := b3.size
  rw [y2] at s2
  clear s1 hc2
  go_wp2_with fail
  refine (put_st s2 z3 [99] [51] ⟨by decide, by decide⟩ (by decide)).mono ?_
  rintro e w4 ⟨g3, -, F3, rfl, -, -, s3, -, hc3⟩
  have b4 := b3.trans (s2.below z3 hc3)
  have z4 := b4.size
  rw [y3] at s3
  clear s2 hc3
  go_wp2_with fail
  refine (get_st s3 [97]).mono ?_
  rintro e w5 ⟨rfl, s4, hc4⟩
  have b5 := b4.trans (s3.below z4 hc4)
  have z5 := b5.size
  rw [y4] at s4
  rw [show strB ((seek [97] x3.l).getD []) = ⟨#[49]⟩ from rfl, show (seek [97] x3.l).isSome = true from rfl]
  clear s3 hc4
  go_wp2_with fail
  refine (put_st s4 z5 [100] [52, 53] ⟨by decide, by decide⟩ (by decide)).mono ?_
  rintro e w6 ⟨g5, bb, F5, rfl, -, o5, s5, hF5, hc5⟩
  have b6 := b5.trans (s4.below z5 hc5)
  have z6 := b6.size
  rw [y5] at s5
  rw [show x4.went [100] [52, 53] = [[98], [99]] from rfl] at o5
  rw [show x4.code [100] [52, 53] = 0 from rfl]
  have hi4 := s4.lies.inn
  clear s4
  go_wp2_with fail
  refine (put_st s5 z6 [101] [54, 55, 56, 57, 48, 49] ⟨by decide, by decide⟩ (by decide)).mono ?_
  rintro e w7 ⟨g6, -, F6, rfl, -, -, s6, -, hc6⟩
  have b7 := b6.trans (s5.below z6 hc6)
  have z7 := b7.size
  rw [y6] at s6
  rw [show x5.code [101] [54, 55, 56, 57, 48, 49] = 70 from rfl]
  have o6 := (o5.keep hc6 (fun k hk => (hF5 k hk).2)).ts
  clear s5 o5 hc6 hF5 hi4
  go_wp2_with fail
  have q7 : Chg (fun _ => False) w7 (w7.alloc (.cells #[.string ⟨#[98]⟩, .string ⟨#[99]⟩] 9)) := (Chg.refl _ _).alloc _
  refine (same_any _ g5 _ [[98], [99]] [[98], [99]] (o6.below (quiet_below (Nat.le_refl _) q7)) (ts_lit w7 [[98], [99]] _ _ 2 rfl rfl (by decide)) (by decide) (by decide)).mono ?_
  rintro e w8 ⟨rfl, hc8⟩
  rw [decide_eq_true rfl]
  have hc78 : Chg (fun _ => False) w7 w8 := q7.then hc8
  have s8 := s6.quiet hc78
  have b8 := b7.trans (quiet_below z7 hc78)
  clear s6 o6 q7 hc8 hc78
  go_wp2_with fail
  refine (keys_any s8.lies).mono ?_
  rintro e w9 ⟨kv9, rfl, o9, hc9⟩
  have s9 := s8.quiet hc9
  have b9 := b8.trans (quiet_below b8.size hc9)
  have o9 := o9.ts
  rw [show x5.l.map (·.1) = [[100], [97]] from rfl] at o9
  clear s8 hc9
  go_wp2_with fail
  have q9 : Chg (fun _ => False) w9 (w9.alloc (.cells #[.string ⟨#[100]⟩, .string ⟨#[97]⟩] 9)) := (Chg.refl _ _).alloc _
  refine (same_any _ kv9 _ [[100], [97]] [[100], [97]] (o9.below (quiet_below (Nat.le_refl _) q9)) (ts_lit w9 [[100], [97]] _ _ 2 rfl rfl (by decide)) (by decide) (by decide)).mono ?_
  rintro e w10 ⟨rfl, hc10⟩
  rw [decide_eq_true rfl]
  have hc910 : Chg (fun _ => False) w9 w10 := q9.then hc10
  have s10 := s9.quiet hc910
  have b10 := b9.trans (quiet_below b9.size hc910)
  go_wp2_with fail
  refine (bytes_any s10.lies).mono ?_
  rintro e w11 ⟨rfl, rfl⟩
  rw [show ((tot x5.l : Nat) : Int) = 5 from rfl]
  go_wp2
  go_ret
  exact ⟨rfl, b10⟩

set_option maxRecDepth 20000 in
set_option maxHeartbeats 1000000 in
theorem none_any (w : World) : Calls Try.prog 8 #[] w fun e w' => e = .returned (.bool true) ∧ Below w.heap.size w w' := by
  go_enter Try.func8, Try.ntmps8
  go_wp2_with fail
  refine (get_nil w []).mono ?_
  rintro e w1 ⟨rfl, rfl⟩
  go_wp2_with fail
  refine (put_nil w1 [] []).mono ?_
  rintro e w2 ⟨rfl, rfl⟩
  go_wp2_with fail
  refine (drop_nil _ _).mono ?_
  rintro e w3 ⟨rfl, hw3⟩
  rw [hw3]
  clear hw3
  go_wp2_with fail
  refine (keys_nil _).mono ?_
  rintro e w4 ⟨rfl, hw4⟩
  rw [hw4]
  clear hw4
  go_wp2_with fail
  refine (bytes_nil _).mono ?_
  rintro e w5 ⟨rfl, hw5⟩
  rw [hw5]
  clear hw5
  go_wp2
  go_ret
  exact ⟨rfl, (Below.refl _ _).alloc (Nat.le_refl _) _⟩
end Go.Proofs.Ythhmjoafoahpbaa
