/-
  Who serves in NetOnce: it counts what it is asked, by its number. Conditions: what it holds lies there.
-/
import Derived.Test.YtgjmidlcfjgnhaaOncePlain
import Derived.Test.YtgjmidlcfjgnhaaShown
namespace Go.Proofs.Ytgjmidlcfjgnhaa
open Go.RowKit

theorem kint (w : World) : KeyKind Try.prog 3 w KInt := kind_int Try.underlying3
def setf (f : Nat → Nat) (k : Nat) (n : Nat) : Nat → Nat := fun x => if x = k then n else f x
/-- The map m tells f: what it does not tell is 0. -/
def MapN (w : World) (m : Nat) (f : Nat → Nat) : Prop :=
  ∃ l, MapW w m l ∧ (∀ p ∈ l, ∃ k : Nat, p = (.int .i64 (k : Int), .int .i64 (f k : Int))) ∧ ∀ k, f k ≠ 0 → (Value.int .i64 (k : Int), Value.int .i64 (f k : Int)) ∈ l
theorem MapN.keep {F : Nat → Prop} {w w' : World} {m : Nat} {f : Nat → Nat} (h : MapN w m f) (hc : Chg F w w') (hn : ¬ F m) : MapN w' m f := by
  obtain ⟨l, h1, h2⟩ := h
  exact ⟨l, h1.keep hc hn, h2⟩
theorem MapN.lt {w : World} {m : Nat} {f : Nat → Nat} (h : MapN w m f) : m < w.heap.size := by
  obtain ⟨l, h1, h2⟩ := h
  exact h1.lt
theorem MapN.new (w : World) : MapN (w.alloc (.map #[] 0)) w.heap.size (fun _ => 0) := ⟨[], MapW.made w, (fun p hp => by cases hp), fun k hk => absurd rfl hk⟩
theorem MapN.keysK {l : List (Value × Value)} {f : Nat → Nat} (h : ∀ p ∈ l, ∃ k : Nat, p = (Value.int .i64 (k : Int), Value.int .i64 (f k : Int))) : ∀ p ∈ l, KInt p.1 := by
  intro p hp
  obtain ⟨k, rfl⟩ := h p hp
  exact ⟨_, rfl⟩
theorem perm_of_mem {α : Type} {a : α} {l : List α} (h : a ∈ l) : ∃ l', l.Perm (a :: l') := by
  obtain ⟨s, t, rfl⟩ := List.append_of_mem h
  exact ⟨s ++ t, List.perm_middle⟩
theorem MapN.look {w : World} {m : Nat} {f : Nat → Nat} (h : MapN w m f) (k : Nat) : (Instr.lookup 41 (.map (some m)) (.int .i64 (k : Int)) false).run Try.prog w = .ok (.int .i64 (f k : Int)) w := by
  obtain ⟨l, h1, h2, h3⟩ := h
  have hz : (zeroValue 3).run Try.prog w = .ok (.int .i64 0) w := by kernel_rfl
  by_cases hk : ∃ v, (Value.int .i64 (k : Int), v) ∈ l
  · obtain ⟨v, hv⟩ := hk
    obtain ⟨k', hk'⟩ := h2 _ hv
    injection hk' with e1 e2
    injection e1 with _ e1
    obtain rfl : k = k' := by omega
    subst e2
    obtain ⟨l', hp⟩ := perm_of_mem hv
    have := (h1.perm hp).look (kint w) (fun p hp' => MapN.keysK h2 p (hp.mem_iff.2 (List.mem_cons_of_mem _ hp'))) Try.underlying41 ⟨(k : Int), rfl⟩ false
    simpa using this
  · have h0 : f k = 0 := by
      by_cases h : f k = 0
      · exact h
      · exact absurd ⟨_, h3 k h⟩ hk
    have := h1.look_none (kint w) (MapN.keysK h2) Try.underlying41 ⟨(k : Int), rfl⟩ (fun p hp e => hk ⟨p.2, by rw [← e]; exact hp⟩) hz false
    rw [h0]
    simpa using this
theorem MapN.put {w : World} {m : Nat} {f : Nat → Nat} (h : MapN w m f) (k : Nat) (n : Nat) :
    ∃ w', (Instr.mapUpdate 41 (.map (some m)) (.int .i64 (k : Int)) (.int .i64 (n : Int))).run Try.prog w = .ok () w' ∧ MapN w' m (setf f k n) ∧ Chg (· = m) w w' := by
  obtain ⟨l, h1, h2, h3⟩ := h
  by_cases hk : ∃ v, (Value.int .i64 (k : Int), v) ∈ l
  · obtain ⟨v, hv⟩ := hk
    obtain ⟨l', hp⟩ := perm_of_mem hv
    have hm := h1.perm hp
    have hnd := hm.keys
    rw [List.map_cons, List.nodup_cons] at hnd
    obtain ⟨w', r1, r2, r3, _⟩ := hm.put_old (kint w) (fun p hp' => MapN.keysK h2 p (hp.mem_iff.2 (List.mem_cons_of_mem _ hp'))) Try.underlying41 ⟨(k : Int), rfl⟩ (.int .i64 (n : Int))
    refine ⟨w', r1, ⟨_, r2, fun p hp' => ?_, fun x hx => ?_⟩, r3⟩
    · rcases List.mem_cons.1 hp' with rfl | hp'
      · exact ⟨k, by simp [setf]⟩
      · obtain ⟨x, rfl⟩ := h2 p (hp.mem_iff.2 (List.mem_cons_of_mem _ hp'))
        refine ⟨x, ?_⟩
        have : x ≠ k := fun e => hnd.1 (List.mem_map.2 ⟨_, hp', by rw [e]⟩)
        simp [setf, this]
    · by_cases e : x = k
      · subst e
        simp [setf]
      · simp only [setf, if_neg e] at hx ⊢
        have := hp.mem_iff.1 (h3 x hx)
        rcases List.mem_cons.1 this with hh | hh
        · injection hh with e1 _
          injection e1 with _ e1
          exact absurd (show x = k by omega) e
        · exact List.mem_cons_of_mem _ hh
  · obtain ⟨w', r1, r2, r3, _⟩ := h1.put_new (kint w) (MapN.keysK h2) Try.underlying41 ⟨(k : Int), rfl⟩ (fun p hp e => hk ⟨p.2, by rw [← e]; exact hp⟩) (.int .i64 (n : Int))
    refine ⟨w', r1, ⟨_, r2, fun p hp' => ?_, fun x hx => ?_⟩, r3⟩
    · rcases List.mem_cons.1 hp' with rfl | hp'
      · exact ⟨k, by simp [setf]⟩
      · obtain ⟨x, rfl⟩ := h2 p hp'
        refine ⟨x, ?_⟩
        have : x ≠ k := fun e => hk ⟨_, by rw [← e]; exact hp'⟩
        simp [setf, this]
    · by_cases e : x = k
      · subst e
        simp [setf]
      · simp only [setf, if_neg e] at hx ⊢
        exact List.mem_cons_of_mem _ (h3 x hx)

/-- What it knows. -/
def OSv (B mb mm : Nat) (w : World) (H : Nat → Prop) (m : Nat) (st : List Bs) : Prop :=
  w.heap[mb]? = some (.cells #[.map (some mm)] 41) ∧ MapN w mm (cntK st) ∧ (∀ s ∈ st, two s) ∧ st.length + m ≤ 1000000 ∧ (∀ k, H k ↔ k = mb ∨ k = mm) ∧ B ≤ mb ∧ B ≤ mm
theorem cntK_setf (l : List Bs) (s : Bs) : setf (cntK l) (key s) (cntK l (key s) + 1) = cntK (l ++ [s]) := by
  rw [cntK_snoc]
  rfl
theorem cntK_le (l : List Bs) (k : Nat) : cntK l k ≤ l.length := List.countP_le_length

set_option maxRecDepth 20000 in
set_option maxHeartbeats 1000000 in
theorem serve2_any (B mb mm : Nat) (w : World) (H : Nat → Prop) (m : Nat) (st : List Bs) (s : Bs) (h : OSv B mb mm w H (m + 1) st) (hs : two s) :
    Calls Try.prog 18 #[.string (strB s), .pointer (some ⟨mb, 0, none⟩)] w fun e w' => e = .returned (.string (strB (ostep st s).1)) ∧ ∃ H', OSv B mb mm w' H' m (ostep st s).2 ∧ Chg H w w' ∧ ∀ k, H' k → H k ∨ w.heap.size ≤ k := by
  obtain ⟨h1, h2, h3, h4, h5, h6, h7⟩ := h
  have hD : MapN w.drew mm (cntK st) := h2.keep ((Chg.refl (fun _ => False) w).drew) (fun h => h)
  have hlook := hD.look (key s)
  obtain ⟨w2, hput, hm2, k2⟩ := hD.put (key s) (cntK st (key s) + 1)
  rw [cntK_setf] at hm2
  have hne : mb ≠ mm := by
    obtain ⟨l, hl, -⟩ := h2
    exact hl.ne h1
  have hb2 := k2.keep (show w.drew.heap[mb]? = _ from h1) hne
  have HF := hide (show OSv B mb mm w2 H m (st ++ [s]) ∧ Chg H w w2 from ⟨⟨hb2, hm2, fun t ht => by
      rcases List.mem_append.1 ht with q | q
      · exact h3 t q
      · simp at q; subst q; exact hs, by simp; omega, h5, h6, h7⟩, ((Chg.refl H w).drew).then (k2.mono fun k _ e => (h5 k).2 (.inr e))⟩)
  have c1 := cell_of h1 0
  have c2 := cell_of hb2 0
  simp only [List.getElem?_toArray, List.getElem?_cons_zero] at c1 c2
  have hcl := cntK_le st (key s)
  obtain ⟨a, b, rfl⟩ := two_form hs
  have hkey : (a.toNat : Int) * 256 + (b.toNat : Int) = ((key [a, b] : Nat) : Int) := by simp [key]
  have ha := a.toNat_lt
  have hb := b.toNat_lt
  have hk2 : key [a, b] ≤ 65535 := by simp [key]; omega
  have hwc : IntKind.i64.wrap ((cntK st (key [a, b]) : Int) + 1) = ((cntK st (key [a, b]) + 1 : Nat) : Int) := by rw [IntKind.wrap_i64]; omega
  have hg0 : (⟨#[a, b]⟩ : ByteArray)[0]'(by show 0 < 2; omega) = a := rfl
  have hg1 : (⟨#[a, b]⟩ : ByteArray)[1]'(by show 1 < 2; omega) = b := rfl
  have hw0 : IntKind.i64.wrap (a.toNat : Int) = (a.toNat : Int) := by rw [IntKind.wrap_i64]; omega
  have hw1 : IntKind.i64.wrap ((a.toNat : Int) * 256) = (a.toNat : Int) * 256 := by rw [IntKind.wrap_i64]; omega
  have hw2 : IntKind.i64.wrap (b.toNat : Int) = (b.toNat : Int) := by rw [IntKind.wrap_i64]; omega
  have hw3 : IntKind.i64.wrap ((key [a, b] : Nat) : Int) = ((key [a, b] : Nat) : Int) := by rw [IntKind.wrap_i64]; omega
  generalize key [a, b] = kk at *
  generalize cntK st kk = nn at *
  rw [show ((nn + 1 : Nat) : Int) = (nn : Int) + 1 from rfl] at hput hwc
  clear h1 h2 h3 h4 h5 h6 h7 hD hm2 k2 hb2 hne
  show Calls Try.prog 18 #[.string (strB [a, b]), .pointer (some ⟨mb, 0, none⟩)] w fun e w' => e = .returned (.string (strB [a, b])) ∧ ∃ H', OSv B mb mm w' H' m (st ++ [[a, b]]) ∧ Chg H w w' ∧ ∀ k, H' k → H k ∨ w.heap.size ≤ k
  unfold strB
  go_enter Try.func18, Try.ntmps18
  go_wp2_with fail
  refine wp_region_held_drew (S := fun Z => Z.cell? ⟨mb, 0, none⟩ = some (.map (some mm))) (by kernel_rfl) (c1) (fun hHeld => ?_)
  refine takeH (i := 0) (v := ?_) rfl (by kernel_rfl) (by kernel_rfl) (by kernel_rfl) (fun _ _ _ h => h) rfl ?_ hHeld ?_
  rotate_left
  · intro w hS; (try dsimp only at hS); obtain hS0 := hS; go_simp; first | done | (with_reducible rfl)
  try simp only [Act.put, List.setIfInBounds_toArray, List.set_cons_zero, List.set_cons_succ]
  refine takeH (i := 1) (v := ?_) rfl (by kernel_rfl) (by kernel_rfl) (by kernel_rfl) (fun _ _ _ h => h) rfl ?_ hHeld ?_
  rotate_left
  · intro w hS; (try dsimp only at hS); obtain hS0 := hS; go_simp; first | done | (with_reducible rfl)
  try simp only [Act.put, List.setIfInBounds_toArray, List.set_cons_zero, List.set_cons_succ]
  refine takeH (i := 2) (v := ?_) rfl (by kernel_rfl) (by kernel_rfl) (by kernel_rfl) (fun _ _ _ h => h) rfl ?_ hHeld ?_
  rotate_left
  · intro w hS; (try dsimp only at hS); obtain hS0 := hS; go_simp; first | done | (with_reducible rfl)
  try simp only [Act.put, List.setIfInBounds_toArray, List.set_cons_zero, List.set_cons_succ]
  refine takeH (i := 3) (v := ?_) rfl (by kernel_rfl) (by kernel_rfl) (by kernel_rfl) (fun _ _ _ h => h) rfl ?_ hHeld ?_
  rotate_left
  · intro w hS; (try dsimp only at hS); obtain hS0 := hS; go_simp; first | done | (with_reducible rfl)
  try simp only [Act.put, List.setIfInBounds_toArray, List.set_cons_zero, List.set_cons_succ]
  refine takeH (i := 4) (v := ?_) rfl (by kernel_rfl) (by kernel_rfl) (by kernel_rfl) (fun _ _ _ h => h) rfl ?_ hHeld ?_
  rotate_left
  · intro w hS; (try dsimp only at hS); obtain hS0 := hS; go_simp; first | done | (with_reducible rfl)
  try simp only [Act.put, List.setIfInBounds_toArray, List.set_cons_zero, List.set_cons_succ]
  refine takeH (i := 5) (v := ?_) rfl (by kernel_rfl) (by kernel_rfl) (by kernel_rfl) (fun _ _ _ h => h) rfl ?_ hHeld ?_
  rotate_left
  · intro w hS; (try dsimp only at hS); obtain hS0 := hS; go_simp; first | done | (with_reducible rfl)
  try simp only [Act.put, List.setIfInBounds_toArray, List.set_cons_zero, List.set_cons_succ]
  refine takeH (i := 6) (v := ?_) rfl (by kernel_rfl) (by kernel_rfl) (by kernel_rfl) (fun _ _ _ h => h) rfl ?_ hHeld ?_
  rotate_left
  · intro w hS; (try dsimp only at hS); obtain hS0 := hS; go_simp; first | done | (with_reducible rfl)
  try simp only [Act.put, List.setIfInBounds_toArray, List.set_cons_zero, List.set_cons_succ]
  refine takeH (i := 7) (v := ?_) rfl (by kernel_rfl) (by kernel_rfl) (by kernel_rfl) (fun _ _ _ h => h) rfl ?_ hHeld ?_
  rotate_left
  · intro w hS; (try dsimp only at hS); obtain hS0 := hS; go_simp; first | done | (with_reducible rfl)
  try simp only [Act.put, List.setIfInBounds_toArray, List.set_cons_zero, List.set_cons_succ]
  refine takeH (i := 8) (v := ?_) rfl (by kernel_rfl) (by kernel_rfl) (by kernel_rfl) (fun _ _ _ h => h) rfl ?_ hHeld ?_
  rotate_left
  · intro w hS; (try dsimp only at hS); obtain hS0 := hS; go_simp; first | done | (with_reducible rfl)
  try simp only [Act.put, List.setIfInBounds_toArray, List.set_cons_zero, List.set_cons_succ]
  refine onlyH (i := 9) rfl (by kernel_rfl) rfl (fun K hK => ?_)
  go_simp
  refine hK.out _ _ (c1) (fun hHeld => ?_)
  clear hK K
  try simp only [Act.put, List.setIfInBounds_toArray, List.set_cons_zero, List.set_cons_succ]
  refine takeH (i := 10) (v := ?_) rfl (by kernel_rfl) (by kernel_rfl) (by kernel_rfl) (fun _ _ _ h => h) rfl ?_ hHeld ?_
  rotate_left
  · intro w hS; (try dsimp only at hS); obtain hS0 := hS; go_simp; first | done | (with_reducible rfl)
  try simp only [Act.put, List.setIfInBounds_toArray, List.set_cons_zero, List.set_cons_succ]
  refine onlyH (i := 11) rfl (by kernel_rfl) rfl (fun K hK => ?_)
  go_simp
  refine hK.out _ _ (c2) (fun hHeld => ?_)
  clear hK K
  try simp only [Act.put, List.setIfInBounds_toArray, List.set_cons_zero, List.set_cons_succ]
  refine wpAnyH_done (by kernel_rfl) ?_ _
  clear hHeld
  go_wp2
  go_ret
  exact ⟨rfl, H, HF.out.1, HF.out.2, fun k h => .inl h⟩
theorem once_serves (B mb mm : Nat) : Serves B 18 #[.pointer (some ⟨mb, 0, none⟩)] ostep two (OSv B mb mm) where
  eg := enters_own Try.func18 (by kernel_rfl) rfl
  frame s h := ⟨(fun e => by rw [e] at h; cases h), (by rw [show s.length = 2 from h]; omega)⟩
  turn f s h := by show (turnP f s).length = 2; rw [turnP_length]; exact h
  keep w w' F H m st h hc hd hB := by
    obtain ⟨h1, h2, h3, h4, h5, h6, h7⟩ := h
    exact ⟨hc.keep h1 (hd _ ((h5 _).2 (.inl rfl))), h2.keep hc (hd _ ((h5 _).2 (.inr rfl))), h3, h4, h5, h6, h7⟩
  lt w H m st h k hk := by
    obtain ⟨h1, h2, h3, h4, h5, h6, h7⟩ := h
    rcases (h5 k).1 hk with rfl | rfl
    · exact lt_of_heap h1
    · exact h2.lt
  call w H m st s h hs := serve2_any B mb mm w H m st s h hs
  short st s h := by show s.length ≤ _; rw [show s.length = 2 from h]; omega
end Go.Proofs.Ytgjmidlcfjgnhaa
