/-
  A net in memory; a frame that goes there, and back. Conditions: what is told of memory; frames within reach, not empty.
-/
import Derived.Test.YtgjmidlcfjgnhaaGoes
namespace Go.Proofs.Ytgjmidlcfjgnhaa
open Go.RowKit

/-- Where a net's parts lie. -/
structure Gn where
  vf : Value
  t1 : Nat
  b1 : Nat
  v1 : Value
  t2 : Nat
  b2 : Nat
  v2 : Value
/-- The net's blocks. -/
def Gn.has (G : Gn) (n k : Nat) : Prop := k = n ∨ k = G.t1 ∨ k = G.b1 ∨ G.v1.ownBlock = some k ∨ k = G.t2 ∨ k = G.b2 ∨ G.v2.ownBlock = some k ∨ G.vf.ownBlock = some k
def wayV (t b : Nat) : Value := .func (.func 24) #[] #[.pointer (some ⟨t, 0, none⟩), .pointer (some ⟨b, 0, none⟩)]
abbrev tfo (n : Nat) : Obj := .cells #[.func (.func 22) #[.pointer (some ⟨n, 0, none⟩)] #[]] 50
abbrev bxo (v : Value) : Obj := .cells #[v] 23
/-- The net n has this state. -/
structure NetW (w : World) (n : Nat) (sv : Value) (x : Nt) (G : Gn) (ok : Bs → Prop) : Prop where
  net : w.heap[n]? = some (nob sv (wayV G.t1 G.b1) (wayV G.t2 G.b2) G.vf x.sent)
  fs : Fs w G.vf x.fs
  ft : ∀ g, G.vf.ownBlock = some g → ∃ c fr, w.heap[g]? = some (.cells c 35 fr)
  int : ∀ f ∈ x.fs, I64 f.2.1
  tf1 : w.heap[G.t1]? = some (tfo n)
  tf2 : w.heap[G.t2]? = some (tfo n)
  bx1 : w.heap[G.b1]? = some (bxo G.v1)
  bx2 : w.heap[G.b2]? = some (bxo G.v2)
  ow1 : Own w 0 G.v1 x.th
  ow2 : Own w 0 G.v2 x.bk
  ne : G.b1 ≠ G.b2
  nr : ∀ k, G.v1.ownBlock = some k → G.v2.ownBlock ≠ some k
  ok1 : ∀ s ∈ x.th, ok s
section
variable {w w' : World} {n : Nat} {sv : Value} {x : Nt} {G : Gn} {ok : Bs → Prop}
theorem NetW.lt (h : NetW w n sv x G ok) {k : Nat} (hk : G.has n k) : k < w.heap.size := by
  rcases hk with rfl | rfl | rfl | hk | rfl | rfl | hk | hk
  · exact lt_of_heap h.net
  · exact lt_of_heap h.tf1
  · exact lt_of_heap h.bx1
  · exact (own_lt h.ow1 hk).2
  · exact lt_of_heap h.tf2
  · exact lt_of_heap h.bx2
  · exact (own_lt h.ow2 hk).2
  · obtain ⟨c, fr, hh⟩ := h.ft k hk
    exact lt_of_heap hh
theorem NetW.keep {F : Nat → Prop} (h : NetW w n sv x G ok) (hc : Chg F w w') (hF : ∀ k, G.has n k → ¬ F k) : NetW w' n sv x G ok where
  net := hc.keep h.net (hF _ (.inl rfl))
  fs := h.fs.keep hc (fun g hg => hF g (by simp [Gn.has, hg]))
  ft g hg := by
    obtain ⟨c, fr, hh⟩ := h.ft g hg
    exact ⟨c, fr, hc.keep hh (hF g (by simp [Gn.has, hg]))⟩
  int := h.int
  tf1 := hc.keep h.tf1 (hF _ (by simp [Gn.has]))
  tf2 := hc.keep h.tf2 (hF _ (by simp [Gn.has]))
  bx1 := hc.keep h.bx1 (hF _ (by simp [Gn.has]))
  bx2 := hc.keep h.bx2 (hF _ (by simp [Gn.has]))
  ow1 := h.ow1.keep hc (fun k hk => hF k (by simp [Gn.has, hk]))
  ow2 := h.ow2.keep hc (fun k hk => hF k (by simp [Gn.has, hk]))
  ne := h.ne
  nr := h.nr
  ok1 := h.ok1
theorem NetW.drew (h : NetW w n sv x G ok) : NetW w.drew n sv x G ok := h.keep ((Chg.refl (fun _ => False) w).drew) (fun _ _ h => h)
/-- A frame goes there. -/
theorem NetW.goes (h : NetW w n sv x G ok) (hok : ∀ s, ok s → Fr s) (htn : ∀ f s, ok s → ok (turnP f s)) (s : Bs) (hs : ok s) (hl : x.th.length ≤ 4294967290) :
    Calls Try.prog 24 #[.string (strB s), .pointer (some ⟨G.t1, 0, none⟩), .pointer (some ⟨G.b1, 0, none⟩)] w fun e w' => ∃ v G', e = .returned v ∧ Own w' w.heap.size v (goP x.fs x.th s).1 ∧ NetW w' n sv ⟨(goP x.fs x.th s).2.1, (goP x.fs x.th s).2.2, x.bk, x.sent⟩ G' ok ∧
      (∀ k, G'.has n k → G.has n k ∨ w.heap.size ≤ k) ∧ (∀ k, v.ownBlock = some k → ¬ G'.has n k) ∧ Chg (G.has n) w w' := by
  refine (way_any w n G.t1 G.b1 sv _ _ G.vf G.v1 x.sent x.fs x.th s h.net h.fs h.ft h.int h.tf1 h.bx1 h.ow1 (hok s hs) hl).mono ?_
  rintro e w' ⟨v, vf', vw', rfl, d⟩
  have hnb2 : n ≠ G.b2 := ne_type h.net h.bx2 (by decide)
  have hnt1 : G.t1 ≠ n := ne_type h.tf1 h.net (by decide)
  have hnt2 : G.t2 ≠ n := ne_type h.tf2 h.net (by decide)
  have htb1 : G.t1 ≠ G.b1 := ne_type h.tf1 h.bx1 (by decide)
  have htb2 : G.t2 ≠ G.b1 := ne_type h.tf2 h.bx1 (by decide)
  have hrt : ∀ {k : Nat} {c : Array Value} {t : TypeId} {fr : Nat × Nat}, w.heap[k]? = some (.cells c t fr) → t ≠ 9 → some k ≠ G.v1.ownBlock := fun hk ht e => by
    obtain ⟨c', fr', h'⟩ := own_kind h.ow1 e.symm
    exact ne_type hk h' ht rfl
  have hch : Chg (G.has n) w w' := d.chg.mono (fun k _ hk => by
    rcases hk with rfl | rfl | hk
    · exact .inl rfl
    · simp [Gn.has]
    · simp [Gn.has, hk])
  have htail : (goP x.fs x.th s).2.1 = x.fs.tail := goP_tail _ _ _
  have hal := goP_all (fs := x.fs) htn hs h.ok1
  have hr2 : ∀ k, G.v2.ownBlock = some k → ¬ (k = n ∨ k = G.b1 ∨ some k = G.v1.ownBlock) := fun k hk => by
    obtain ⟨c', fr', h'⟩ := own_kind h.ow2 hk
    rintro (rfl | rfl | hv)
    · exact ne_type h.net h' (by decide) rfl
    · exact ne_type h.bx1 h' (by decide) rfl
    · exact h.nr k hv.symm hk
  have hvf : ∀ g, vf'.ownBlock = some g → ¬ (g = n ∨ g = G.b1 ∨ some g = G.v1.ownBlock) := fun g hg => by
    obtain ⟨c', fr', h'⟩ := h.ft g (d.same ▸ hg)
    rintro (rfl | rfl | hv)
    · exact ne_type h.net h' (by decide) rfl
    · exact ne_type h.bx1 h' (by decide) rfl
    · exact hrt h' (by decide) hv
  refine ⟨v, ⟨vf', G.t1, G.b1, vw', G.t2, G.b2, G.v2⟩, rfl, d.out, ⟨d.net, d.fs, fun g hg => ?_, fun f hf => h.int f ?_, ?_, ?_, d.box, ?_, d.own, h.ow2.keep d.chg hr2, h.ne, fun k hk hk2 => ?_, hal.2⟩, fun k hk => ?_, fun k hk hh => ?_, hch⟩
  · obtain ⟨c, fr, h'⟩ := h.ft g (d.same ▸ hg)
    exact ⟨c, fr, d.chg.keep h' (hvf g hg)⟩
  · rw [htail] at hf
    exact List.mem_of_mem_tail hf
  · exact d.chg.keep h.tf1 (fun e => e.elim (fun e => hnt1 e) (fun e => e.elim (fun e => htb1 e) (fun e => hrt h.tf1 (by decide) e)))
  · exact d.chg.keep h.tf2 (fun e => e.elim (fun e => hnt2 e) (fun e => e.elim (fun e => htb2 e) (fun e => hrt h.tf2 (by decide) e)))
  · exact d.chg.keep h.bx2 (fun e => e.elim (fun e => hnb2 e.symm) (fun e => e.elim (fun e => h.ne e.symm) (fun e => hrt h.bx2 (by decide) e)))
  · rcases d.nx k hk with h1 | h1
    · exact h.nr k h1 hk2
    · have := (own_lt h.ow2 hk2).2
      omega
  · rcases hk with hk | hk | hk | hk | hk | hk | hk | hk
    · exact .inl (.inl hk)
    · exact .inl (by have hk : k = G.t1 := hk; simp [Gn.has, hk])
    · exact .inl (by have hk : k = G.b1 := hk; simp [Gn.has, hk])
    · rcases d.nx k hk with h1 | h1
      · exact .inl (by simp [Gn.has, h1])
      · exact .inr h1
    · exact .inl (by have hk : k = G.t2 := hk; simp [Gn.has, hk])
    · exact .inl (by have hk : k = G.b2 := hk; simp [Gn.has, hk])
    · exact .inl (by have hk : G.v2.ownBlock = some k := hk; simp [Gn.has, hk])
    · exact .inl (by have hk : vf'.ownBlock = some k := hk; rw [d.same] at hk; simp [Gn.has, hk])
  · have hge := (own_lt d.out hk).1
    rcases hh with hk2 | hk2 | hk2 | hk2 | hk2 | hk2 | hk2 | hk2
    · have := lt_of_heap h.net; have hk2 : k = n := hk2; omega
    · have := lt_of_heap h.tf1; have hk2 : k = G.t1 := hk2; omega
    · have := lt_of_heap h.bx1; have hk2 : k = G.b1 := hk2; omega
    · exact d.apart k hk hk2
    · have := lt_of_heap h.tf2; have hk2 : k = G.t2 := hk2; omega
    · have := lt_of_heap h.bx2; have hk2 : k = G.b2 := hk2; omega
    · have hk2 : G.v2.ownBlock = some k := hk2; have := (own_lt h.ow2 hk2).2; omega
    · have hk2 : vf'.ownBlock = some k := hk2
      obtain ⟨c, fr, h'⟩ := h.ft k (d.same ▸ hk2)
      have := lt_of_heap h'
      omega
/-- A frame goes back. -/
theorem NetW.comes (h : NetW w n sv x G ok) (s : Bs) (hs : Fr s) (hl : x.bk.length ≤ 4294967290) :
    Calls Try.prog 24 #[.string (strB s), .pointer (some ⟨G.t2, 0, none⟩), .pointer (some ⟨G.b2, 0, none⟩)] w fun e w' => ∃ v G', e = .returned v ∧ Own w' w.heap.size v (goP x.fs x.bk s).1 ∧ NetW w' n sv ⟨(goP x.fs x.bk s).2.1, x.th, (goP x.fs x.bk s).2.2, x.sent⟩ G' ok ∧
      (∀ k, G'.has n k → G.has n k ∨ w.heap.size ≤ k) ∧ (∀ k, v.ownBlock = some k → ¬ G'.has n k) ∧ Chg (G.has n) w w' := by
  refine (way_any w n G.t2 G.b2 sv _ _ G.vf G.v2 x.sent x.fs x.bk s h.net h.fs h.ft h.int h.tf2 h.bx2 h.ow2 hs hl).mono ?_
  rintro e w' ⟨v, vf', vw', rfl, d⟩
  have hnb1 : n ≠ G.b1 := ne_type h.net h.bx1 (by decide)
  have hnt1 : G.t1 ≠ n := ne_type h.tf1 h.net (by decide)
  have hnt2 : G.t2 ≠ n := ne_type h.tf2 h.net (by decide)
  have htb1 : G.t1 ≠ G.b2 := ne_type h.tf1 h.bx2 (by decide)
  have htb2 : G.t2 ≠ G.b2 := ne_type h.tf2 h.bx2 (by decide)
  have hrt : ∀ {k : Nat} {c : Array Value} {t : TypeId} {fr : Nat × Nat}, w.heap[k]? = some (.cells c t fr) → t ≠ 9 → some k ≠ G.v2.ownBlock := fun hk ht e => by
    obtain ⟨c', fr', h'⟩ := own_kind h.ow2 e.symm
    exact ne_type hk h' ht rfl
  have hch : Chg (G.has n) w w' := d.chg.mono (fun k _ hk => by
    rcases hk with rfl | rfl | hk
    · exact .inl rfl
    · simp [Gn.has]
    · simp [Gn.has, hk])
  have htail : (goP x.fs x.bk s).2.1 = x.fs.tail := goP_tail _ _ _
  have hr2 : ∀ k, G.v1.ownBlock = some k → ¬ (k = n ∨ k = G.b2 ∨ some k = G.v2.ownBlock) := fun k hk => by
    obtain ⟨c', fr', h'⟩ := own_kind h.ow1 hk
    rintro (rfl | rfl | hv)
    · exact ne_type h.net h' (by decide) rfl
    · exact ne_type h.bx2 h' (by decide) rfl
    · exact h.nr k hk hv.symm
  have hvf : ∀ g, vf'.ownBlock = some g → ¬ (g = n ∨ g = G.b2 ∨ some g = G.v2.ownBlock) := fun g hg => by
    obtain ⟨c', fr', h'⟩ := h.ft g (d.same ▸ hg)
    rintro (rfl | rfl | hv)
    · exact ne_type h.net h' (by decide) rfl
    · exact ne_type h.bx2 h' (by decide) rfl
    · exact hrt h' (by decide) hv
  refine ⟨v, ⟨vf', G.t1, G.b1, G.v1, G.t2, G.b2, vw'⟩, rfl, d.out, ⟨d.net, d.fs, fun g hg => ?_, fun f hf => h.int f ?_, ?_, ?_, ?_, d.box, h.ow1.keep d.chg hr2, d.own, h.ne, fun k hk hk2 => ?_, h.ok1⟩, fun k hk => ?_, fun k hk hh => ?_, hch⟩
  · obtain ⟨c, fr, h'⟩ := h.ft g (d.same ▸ hg)
    exact ⟨c, fr, d.chg.keep h' (hvf g hg)⟩
  · rw [htail] at hf
    exact List.mem_of_mem_tail hf
  · exact d.chg.keep h.tf1 (fun e => e.elim (fun e => hnt1 e) (fun e => e.elim (fun e => htb1 e) (fun e => hrt h.tf1 (by decide) e)))
  · exact d.chg.keep h.tf2 (fun e => e.elim (fun e => hnt2 e) (fun e => e.elim (fun e => htb2 e) (fun e => hrt h.tf2 (by decide) e)))
  · exact d.chg.keep h.bx1 (fun e => e.elim (fun e => hnb1 e.symm) (fun e => e.elim (fun e => h.ne e) (fun e => hrt h.bx1 (by decide) e)))
  · have hk2 : vw'.ownBlock = some k := hk2
    rcases d.nx k hk2 with h1 | h1
    · exact h.nr k hk h1
    · have hk : G.v1.ownBlock = some k := hk
      have := (own_lt h.ow1 hk).2
      omega
  · rcases hk with hk | hk | hk | hk | hk | hk | hk | hk
    · exact .inl (.inl hk)
    · exact .inl (by have hk : k = G.t1 := hk; simp [Gn.has, hk])
    · exact .inl (by have hk : k = G.b1 := hk; simp [Gn.has, hk])
    · exact .inl (by have hk : G.v1.ownBlock = some k := hk; simp [Gn.has, hk])
    · exact .inl (by have hk : k = G.t2 := hk; simp [Gn.has, hk])
    · exact .inl (by have hk : k = G.b2 := hk; simp [Gn.has, hk])
    · rcases d.nx k hk with h1 | h1
      · exact .inl (by simp [Gn.has, h1])
      · exact .inr h1
    · exact .inl (by have hk : vf'.ownBlock = some k := hk; rw [d.same] at hk; simp [Gn.has, hk])
  · have hge := (own_lt d.out hk).1
    rcases hh with hk2 | hk2 | hk2 | hk2 | hk2 | hk2 | hk2 | hk2
    · have := lt_of_heap h.net; have hk2 : k = n := hk2; omega
    · have := lt_of_heap h.tf1; have hk2 : k = G.t1 := hk2; omega
    · have := lt_of_heap h.bx1; have hk2 : k = G.b1 := hk2; omega
    · have hk2 : G.v1.ownBlock = some k := hk2; have := (own_lt h.ow1 hk2).2; omega
    · have := lt_of_heap h.tf2; have hk2 : k = G.t2 := hk2; omega
    · have := lt_of_heap h.bx2; have hk2 : k = G.b2 := hk2; omega
    · exact d.apart k hk hk2
    · have hk2 : vf'.ownBlock = some k := hk2
      obtain ⟨c, fr, h'⟩ := h.ft k (d.same ▸ hk2)
      have := lt_of_heap h'
      omega
end
end Go.Proofs.Ytgjmidlcfjgnhaa
