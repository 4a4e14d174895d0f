/-
  A cache in memory: its ring and its map; what Get, Put, Drop, Keys and Bytes do. Conditions: lengths within reach, few texts.
-/
import Derived.Test.YthhmjoafoahpbaaHold
namespace Go.Proofs.Ythhmjoafoahpbaa
open Go.RowKit

/-- The map's pairs. -/
def mp (ts : List Ht) : List (Value × Value) := ts.map fun e => (.string (strB e.2.1), pt e.1)
theorem mp_keys (ts : List Ht) : ∀ q ∈ mp ts, KStr q.1 := by
  intro q hq
  obtain ⟨e, _, rfl⟩ := List.mem_map.1 hq
  exact ⟨_, rfl⟩
theorem mp_mid (a b : List Ht) (e : Ht) : (mp (a ++ e :: b)).Perm ((.string (strB e.2.1), pt e.1) :: mp (a ++ b)) := by
  unfold mp
  rw [List.map_append, List.map_append, List.map_cons]
  exact List.perm_middle
theorem mp_ne {ts : List Ht} {k : Bs} (h : ∀ q ∈ kv ts, q.1 ≠ k) : ∀ q ∈ mp ts, q.1 ≠ .string (strB k) := by
  intro q hq e
  obtain ⟨x, hx, rfl⟩ := List.mem_map.1 hq
  injection e with e
  exact h x.2 (List.mem_map.2 ⟨x, hx, rfl⟩) (strB_inj e)
theorem kstr (w : World) : KeyKind Try.prog 9 w KStr := kind_str Try.underlying9

/-- The map, if there is one. -/
def MapA (w : World) (F : Nat → Prop) (mv : Option Nat) (ts : List Ht) : Prop := (mv = none ∧ ts = []) ∨ ∃ b, mv = some b ∧ MapW w b (mp ts) ∧ F b
/-- The cache S lies at c, in blocks of F. -/
structure Lies (w : World) (F : Nat → Prop) (c : Nat) (S : Lr) : Prop where
  ok : S.Ok
  lies : ∃ ts mv o p, kv ts = S.l ∧ RingL w c ts (.int .i64 (S.budget : Int)) (.map mv) o p ∧ MapA w F mv ts ∧ F c ∧ (∀ e ∈ ts, F e.1)
  budget : S.budget ≤ 9223372036854775807
  inn : ∀ k, F k → k < w.heap.size

/-- The same, with more than the budget perhaps. -/
def Lied (w : World) (F : Nat → Prop) (c B : Nat) (l : List Tx) : Prop :=
  Uniq l ∧ (B ≤ 9223372036854775807 ∧ ∀ k, F k → k < w.heap.size) ∧ ∃ ts mv o p, kv ts = l ∧ RingL w c ts (.int .i64 (B : Int)) (.map mv) o p ∧ MapA w F mv ts ∧ F c ∧ (∀ e ∈ ts, F e.1)
theorem Lies.lied {w : World} {F : Nat → Prop} {c : Nat} {S : Lr} (h : Lies w F c S) : Lied w F c S.budget S.l := ⟨h.ok.uniq, ⟨h.budget, h.inn⟩, h.lies⟩
theorem Lied.lies {w : World} {F : Nat → Prop} {c B : Nat} {l : List Tx} (h : Lied w F c B l) (ht : tot l ≤ B) : Lies w F c ⟨B, l⟩ := ⟨⟨h.1, ht⟩, h.2.2, h.2.1.1, h.2.1.2⟩

theorem RingL.keep {G : Nat → Prop} {w w' : World} {c : Nat} {ts : List Ht} {bud tx : Value} {o p : Nat → Nat} (h : RingL w c ts bud tx o p) (hc : Chg G w w') (h1 : ¬ G c) (h2 : ∀ e ∈ ts, ¬ G e.1) : RingL w' c ts bud tx o p :=
  ⟨hc.keep h.cache h1, fun e he => hc.keep (h.cell e he) (h2 e he), h.cyc, h.nodup, h.short, h.few⟩
theorem MapA.keep {F G : Nat → Prop} {w w' : World} {mv : Option Nat} {ts : List Ht} (h : MapA w F mv ts) (hc : Chg G w w') (hd : ∀ k, F k → ¬ G k) : MapA w' F mv ts := by
  rcases h with h | ⟨b, h1, h2, h3⟩
  · exact Or.inl h
  · exact Or.inr ⟨b, h1, h2.keep hc (hd b h3), h3⟩
theorem Lied.keep {F G : Nat → Prop} {w w' : World} {c B : Nat} {l : List Tx} (h : Lied w F c B l) (hc : Chg G w w') (hd : ∀ k, F k → ¬ G k) : Lied w' F c B l := by
  obtain ⟨hu, hb, ts, mv, o, p, h1, h2, h3, h4, h5⟩ := h
  exact ⟨hu, ⟨hb.1, fun k hk => Nat.lt_of_lt_of_le (hb.2 k hk) hc.size⟩, ts, mv, o, p, h1, h2.keep hc (hd c h4) (fun e he => hd _ (h5 e he)), h3.keep hc hd, h4, h5⟩
theorem Lies.keep {F G : Nat → Prop} {w w' : World} {c : Nat} {S : Lr} (h : Lies w F c S) (hc : Chg G w w') (hd : ∀ k, F k → ¬ G k) : Lies w' F c S := by
  have := (h.lied.keep hc hd).lies h.ok.tot
  exact this
theorem MapA.sub {F G : Nat → Prop} {w : World} {mv : Option Nat} {ts : List Ht} (h : MapA w F mv ts) (hG : ∀ k, F k → G k) : MapA w G mv ts := by
  rcases h with h | ⟨b, h1, h2, h3⟩
  · exact Or.inl h
  · exact Or.inr ⟨b, h1, h2, hG b h3⟩
theorem Lied.sub {F G : Nat → Prop} {w : World} {c B : Nat} {l : List Tx} (h : Lied w F c B l) (hG : ∀ k, F k → G k) (hi : ∀ k, G k → k < w.heap.size) : Lied w G c B l := by
  obtain ⟨hu, hb, ts, mv, o, p, h1, h2, h3, h4, h5⟩ := h
  exact ⟨hu, ⟨hb.1, hi⟩, ts, mv, o, p, h1, h2, h3.sub hG, hG _ h4, fun e he => hG _ (h5 e he)⟩
theorem Lies.sub {F G : Nat → Prop} {w : World} {c : Nat} {S : Lr} (h : Lies w F c S) (hG : ∀ k, F k → G k) (hi : ∀ k, G k → k < w.heap.size) : Lies w G c S := (h.lied.sub hG hi).lies h.ok.tot

/-- A map is no text. -/
theorem MapA.out {w : World} {ts : List Ht} {c b : Nat} {bud tx : Value} {o p : Nat → Nat} {us : List Ht} (h : MapW w b (mp ts)) (hr : RingL w c us bud tx o p) : ¬ inRing c us b := by
  rintro (rfl | hb)
  · exact h.ne hr.cache rfl
  · obtain ⟨e, he, rfl⟩ := List.mem_map.1 hb
    exact h.ne (hr.cell e he) rfl

set_option maxRecDepth 20000 in
set_option maxHeartbeats 1000000 in
/-- take. -/
theorem take_any (w : World) (F : Nat → Prop) (c B : Nat) (l : List Tx) (k : Bs) (h : Lied w F c B l) :
    Calls Try.prog 24 #[pt c, .string (strB k)] w fun r w' => r = .returned (.bool (seek k l).isSome) ∧ Lied w' F c B (del k l) ∧ Chg F w w' ∧ w'.heap.size = w.heap.size := by
  obtain ⟨hu, hbb, ts, mv, o, p, rfl, hr, hm, hFc, hFe⟩ := h
  have c2 := cell_of hr.cache 2
  have c3 := cell_of hr.cache 3
  simp at c2 c3
  have hz : (zeroValue 46).run Try.prog w = .ok (.pointer none) w := by kernel_rfl
  rcases seek_split k (kv ts) with hno | ⟨a, v, b, hab, ha⟩
  · have hlook : (Instr.lookup 49 (.map mv) (.string (strB k)) false).run Try.prog w = .ok (.pointer none) w := by
      rcases hm with ⟨rfl, _⟩ | ⟨b, rfl, hb, _⟩
      · have := nil_look (P := Try.prog) (w := w) (x := .string (strB k)) Try.underlying49 ((kstr w).check true _ ⟨_, rfl⟩) (by rcases (kstr w).find _ ⟨_, rfl⟩ [] (by simp) with h | ⟨j, e, _, h, _⟩; exact h.1; simp at h) hz false
        simpa using this
      · have := hb.look_none (kstr w) (mp_keys ts) Try.underlying49 ⟨strB k, rfl⟩ (mp_ne hno) hz false
        simpa using this
    rw [seek_none hno, del_none hno]
    have HR := hide hr
    have HM := hide hm
    clear hr hm
    unfold pt
    go_enter Try.func24, Try.ntmps24
    go_wp2
    go_ret
    exact ⟨rfl, ⟨hu, hbb, ts, mv, o, p, rfl, HR.out, HM.out, hFc, hFe⟩, Chg.refl _ _, rfl⟩
  · obtain ⟨ta, ebs, rfl, hta, heb⟩ := List.map_eq_append_iff.1 hab
    obtain ⟨e, tb, rfl, he, htb⟩ := List.map_eq_cons_iff.1 heb
    have hek : e.2.1 = k := by rw [he]
    obtain ⟨mb, rfl, hmb, hFm⟩ : ∃ b, mv = some b ∧ MapW w b (mp (ta ++ e :: tb)) ∧ F b := by
      rcases hm with ⟨_, h⟩ | h
      · simp at h
      · exact h
    have hmb1 := hmb.perm (mp_mid ta tb e)
    rw [hek] at hmb1
    have hlook : (Instr.lookup 49 (.map (some mb)) (.string (strB k)) false).run Try.prog w = .ok (pt e.1) w := by
      have := hmb1.look (kstr w) (mp_keys _) Try.underlying49 ⟨strB k, rfl⟩ false
      simpa using this
    have hun := unhang_ring w c ta tb e _ _ o p hr
    have hout := MapA.out hmb hr
    have hseek : (seek k (kv (ta ++ e :: tb))).isSome = true := by
      rw [hab, seek_mid (p := (k, v)) ha]
      rfl
    have hdel : del k (kv (ta ++ e :: tb)) = kv (ta ++ tb) := by
      have h2 := hu
      rw [kv_append, kv_cons] at h2 ⊢
      rw [← hek, kv_append]
      exact del_mid h2
    rw [hseek, hdel]
    have hu2 : Uniq (kv (ta ++ tb)) := by rw [← hdel]; exact hu.dele k
    have hF2 : ∀ i, inRing c (ta ++ e :: tb) i → F i := by
      rintro i (rfl | hi)
      · exact hFc
      · obtain ⟨x, hx, rfl⟩ := List.mem_map.1 hi
        exact hFe x hx
    have HM := hide hmb1
    clear hr hm hmb hmb1
    unfold pt at hun hlook ⊢
    go_enter Try.func24, Try.ntmps24
    go_wp2_with fail
    refine hun.mono ?_
    rintro r w1 ⟨rfl, ⟨o1, p1, hr1⟩, _, k2, k3⟩
    have hm1 := HM.out.keep k2 hout
    obtain ⟨w2, hd2, hm2, hc2, hs2⟩ := hm1.drop_old (kstr w1) (mp_keys _) Try.underlying49 ⟨strB k, rfl⟩ 0 9
    have d3 := cell_of hr1.cache 3
    simp at d3
    have hnm : ∀ x c t, w1.heap[x]? = some (.cells c t) → x ≠ mb := fun x c t hx => hm1.ne hx
    have hr2 := hr1.keep hc2 (hnm _ _ _ hr1.cache) (fun e he => hnm _ _ _ (hr1.cell e he))
    have HR := hide hr2
    have HM2 := hide hm2
    clear hr1 hm1 hm2 hr2 hnm
    go_wp2
    go_ret
    refine ⟨rfl, ⟨hu2, ⟨hbb.1, fun k hk => by rw [hs2, k3]; exact hbb.2 k hk⟩, ta ++ tb, some mb, o1, p1, rfl, HR.out, Or.inr ⟨mb, rfl, HM2.out, hFm⟩, hFc, fun x hx => hFe x ?_⟩, (k2.mono fun i _ hi => hF2 i hi).then (hc2.mono fun i _ hi => hi ▸ hFm), hs2.trans k3⟩
    rcases List.mem_append.1 hx with m | m
    · simp [m]
    · simp [m]
end Go.Proofs.Ythhmjoafoahpbaa
