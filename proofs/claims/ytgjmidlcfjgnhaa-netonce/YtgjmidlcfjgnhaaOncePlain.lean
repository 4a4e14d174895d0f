/-
  What NetOnce rests on, plainly: how often a frame comes, and what is lost. No program.
-/
import Derived.Test.YtgjmidlcfjgnhaaPlain
namespace Go.Proofs.Ytgjmidlcfjgnhaa

/-- A frame's number. -/
def key (s : Bs) : Nat := (s.getD 0 0).toNat * 256 + (s.getD 1 0).toNat
def two (s : Bs) : Prop := s.length = 2
theorem two_form {s : Bs} (h : two s) : ∃ a b, s = [a, b] := by
  match s, h with
  | [a, b], _ => exact ⟨a, b, rfl⟩
theorem key_inj {s t : Bs} (hs : two s) (ht : two t) (h : key s = key t) : s = t := by
  obtain ⟨a, b, rfl⟩ := two_form hs
  obtain ⟨c, d, rfl⟩ := two_form ht
  unfold key at h
  simp only [List.getD_cons_zero, List.getD_cons_succ] at h
  have h1 := a.toNat_lt
  have h2 := b.toNat_lt
  have h3 := c.toNat_lt
  have h4 := d.toNat_lt
  have e1 : a.toNat = c.toNat := by omega
  have e2 : b.toNat = d.toNat := by omega
  rw [UInt8.toNat_inj.1 e1, UInt8.toNat_inj.1 e2]
/-- How many have this number. -/
def cntK (l : List Bs) (k : Nat) : Nat := l.countP (fun s => key s == k)
theorem cntK_nil : cntK [] = fun _ => 0 := by funext k; rfl
theorem cntK_snoc (l : List Bs) (s : Bs) : cntK (l ++ [s]) = fun k => if k = key s then cntK l (key s) + 1 else cntK l k := by
  funext k
  unfold cntK
  rw [List.countP_append, List.countP_singleton]
  by_cases h : k = key s
  · subst h; simp
  · rw [if_neg h]
    simp [Ne.symm h]
theorem cntK_count {l : List Bs} (hl : ∀ s ∈ l, two s) {s : Bs} (hs : two s) : cntK l (key s) = l.count s := by
  unfold cntK List.count
  refine List.countP_congr fun t ht => ?_
  simp only [beq_iff_eq]
  exact ⟨fun h => key_inj (hl t ht) hs h, fun h => by rw [h]⟩
def ostep (st : List Bs) (s : Bs) : Bs × List Bs := (s, st ++ [s])
def kindO (f : Ft) : Bool := f.1 == 0 || f.1 == 1 || f.1 == 3 || f.1 == 4
def lostP (fs : List Ft) (s : Bs) : List Bs := if (fs.headD fz).1 = 1 then [s] else []
def loses (fs : List Ft) : Nat := fs.countP (fun f => f.1 == 1)
theorem loses_tail (fs : List Ft) (s : Bs) : (lostP fs s).length + loses fs.tail = loses fs := by
  unfold lostP loses
  cases fs with
  | nil => simp [fz]
  | cons f r =>
    rw [List.countP_cons]
    by_cases h : f.1 = 1
    · simp [h]; omega
    · simp [h]
theorem head_kind {fs : List Ft} (h : ∀ f ∈ fs, kindO f = true) : kindO (fs.headD fz) = true := by
  cases fs with
  | nil => rfl
  | cons f r => exact h f (by simp)
theorem goP_count {fs : List Ft} (h : ∀ f ∈ fs, kindO f = true) (ws : List Bs) (s c : Bs) :
    (goP fs ws s).1.count c + (goP fs ws s).2.2.count c ≤ ws.count c + 2 * [s].count c ∧ ws.count c + [s].count c ≤ (goP fs ws s).1.count c + (goP fs ws s).2.2.count c + (lostP fs s).count c := by
  have hk := head_kind h
  unfold goP lostP comeP
  generalize fs.headD fz = f at *
  unfold kindO at hk
  simp only [Bool.or_eq_true, beq_iff_eq] at hk
  rcases hk with ((hk | hk) | hk) | hk
  · simp only [hk]
    simp [List.count_cons]
    omega
  · simp only [hk]
    simp
  · simp only [hk]
    simp [List.count_append]
    omega
  · simp only [hk]
    simp [List.count_cons]
    omega
theorem serveL_count {cs : List Bs} (y : Sg (List Bs)) (h : ∀ f ∈ y.fs, kindO f = true) (hne : ∀ s ∈ cs, s ≠ []) :
    (serveL ostep cs y).st = y.st ++ cs ∧ (∀ f ∈ (serveL ostep cs y).fs, kindO f = true) ∧ (serveL ostep cs y).fs.length ≤ y.fs.length ∧ ∃ lo : List Bs, lo.length + loses (serveL ostep cs y).fs = loses y.fs ∧
      ∀ c, (serveL ostep cs y).out.count c + (serveL ostep cs y).bk.count c ≤ y.out.count c + y.bk.count c + 2 * cs.count c ∧ y.out.count c + y.bk.count c + cs.count c ≤ (serveL ostep cs y).out.count c + (serveL ostep cs y).bk.count c + lo.count c := by
  induction cs generalizing y with
  | nil => exact ⟨by simp [serveL], h, Nat.le_refl _, [], by simp [serveL], fun c => by simp [serveL]⟩
  | cons s r ih =>
    have e : serveL ostep (s :: r) y = serveL ostep r (stepS ostep y s) := rfl
    have hs : (ostep y.st s).1 ≠ [] := hne s (by simp)
    have e3 : stepS ostep y s = ⟨y.out ++ (goP y.fs y.bk s).1, (goP y.fs y.bk s).2.1, (goP y.fs y.bk s).2.2, y.st ++ [s]⟩ := by rw [stepS_some hs]; rfl
    rw [e, e3]
    have ht := goP_tail y.fs y.bk s
    have hg := goP_count h y.bk s
    have hlo := loses_tail y.fs s
    obtain ⟨h1, h2, h3, lo, h4, h5⟩ := ih ⟨y.out ++ (goP y.fs y.bk s).1, (goP y.fs y.bk s).2.1, (goP y.fs y.bk s).2.2, y.st ++ [s]⟩ (fun f hf => h f (by
      have hf : f ∈ (goP y.fs y.bk s).2.1 := hf
      rw [ht] at hf
      exact List.mem_of_mem_tail hf)) (fun t ht => hne t (by simp [ht]))
    refine ⟨by rw [h1]; simp, h2, Nat.le_trans h3 ?_, lostP y.fs s ++ lo, ?_, fun c => ?_⟩
    · show (goP y.fs y.bk s).2.1.length ≤ _
      rw [ht, List.length_tail]
      omega
    · have h4' : lo.length + loses (serveL ostep r ⟨y.out ++ (goP y.fs y.bk s).1, (goP y.fs y.bk s).2.1, (goP y.fs y.bk s).2.2, y.st ++ [s]⟩).fs = loses (goP y.fs y.bk s).2.1 := h4
      have ht2 : loses (goP y.fs y.bk s).2.1 = loses y.fs.tail := by rw [ht]
      rw [List.length_append]
      omega
    · obtain ⟨g1, g2⟩ := hg c
      obtain ⟨q1, q2⟩ := h5 c
      have q1' : (serveL ostep r ⟨y.out ++ (goP y.fs y.bk s).1, (goP y.fs y.bk s).2.1, (goP y.fs y.bk s).2.2, y.st ++ [s]⟩).out.count c + (serveL ostep r ⟨y.out ++ (goP y.fs y.bk s).1, (goP y.fs y.bk s).2.1, (goP y.fs y.bk s).2.2, y.st ++ [s]⟩).bk.count c ≤ (y.out ++ (goP y.fs y.bk s).1).count c + (goP y.fs y.bk s).2.2.count c + 2 * r.count c := q1
      have q2' : (y.out ++ (goP y.fs y.bk s).1).count c + (goP y.fs y.bk s).2.2.count c + r.count c ≤ (serveL ostep r ⟨y.out ++ (goP y.fs y.bk s).1, (goP y.fs y.bk s).2.1, (goP y.fs y.bk s).2.2, y.st ++ [s]⟩).out.count c + (serveL ostep r ⟨y.out ++ (goP y.fs y.bk s).1, (goP y.fs y.bk s).2.1, (goP y.fs y.bk s).2.2, y.st ++ [s]⟩).bk.count c + lo.count c := q2
      rw [List.count_append] at q1' q2'
      have e1 : (s :: r).count c = [s].count c + r.count c := by rw [← List.count_append]; rfl
      rw [e1, List.count_append]
      omega
/-- All that holds behind some frames: the net, who was asked, what came back, what was lost, what went. -/
structure Once (x : Nt) (st outs lo asked : List Bs) (L : Nat) : Prop where
  a : ∀ c, st.count c + x.th.count c ≤ 2 * asked.count c
  b : ∀ c, outs.count c + x.bk.count c ≤ 2 * st.count c
  c : ∀ c, asked.count c ≤ outs.count c + x.bk.count c + x.th.count c + lo.count c
  d : lo.length + loses x.fs ≤ L
  e : ∀ f ∈ x.fs, kindO f = true
theorem Once.start (l : List Ft) (h : ∀ f ∈ l, kindO f = true) : Once ⟨l, [], [], 0⟩ [] [] [] [] (loses l) := ⟨fun c => by simp, fun c => by simp, fun c => by simp, by simp, h⟩
theorem Once.ask {x : Nt} {st outs lo asked : List Bs} {L : Nat} (h : Once x st outs lo asked L) (s : Bs) (hs : s ≠ []) (hth : ∀ t ∈ x.th, t ≠ []) : (∃ lo', Once (x.ask ostep st s) (x.served ostep st s).st (outs ++ (x.served ostep st s).out) lo' (asked ++ [s]) L) ∧ (x.ask ostep st s).fs.length ≤ x.fs.length - 1 ∧ (x.served ostep st s).st = st ++ x.come s := by
  have ht := goP_tail x.fs x.th s
  have hg := goP_count h.e x.th s
  have hlo := loses_tail x.fs s
  have hnt : ∀ t ∈ x.come s, t ≠ [] := by
    intro t htm
    have hk := head_kind h.e
    have htm : t ∈ (goP x.fs x.th s).1 := htm
    have := (goP_all (ok := fun t => t ≠ []) (fs := x.fs) (fun f t h e => h (List.eq_nil_of_length_eq_zero (by rw [← turnP_length f t, e]; rfl))) hs hth).1 t htm
    exact this
  obtain ⟨h1, h2, h3, lo2, h4, h5⟩ := serveL_count (cs := x.come s) ⟨[], (goP x.fs x.th s).2.1, x.bk, st⟩ (fun f hf => h.e f (by
      have hf : f ∈ (goP x.fs x.th s).2.1 := hf
      rw [ht] at hf
      exact List.mem_of_mem_tail hf)) hnt
  have h4' : lo2.length + loses (x.served ostep st s).fs = loses (goP x.fs x.th s).2.1 := h4
  have hcome : x.come s = (goP x.fs x.th s).1 := rfl
  rw [ht] at h4'
  refine ⟨⟨lo ++ lostP x.fs s ++ lo2, fun c => ?_, fun c => ?_, fun c => ?_, ?_, h2⟩, ?_, h1⟩
  · obtain ⟨g1, g2⟩ := hg c
    have := h.a c
    show (x.served ostep st s).st.count c + (goP x.fs x.th s).2.2.count c ≤ _
    have e1 : (x.served ostep st s).st = st ++ x.come s := h1
    rw [e1, List.count_append, List.count_append, hcome]
    omega
  · have := h.b c
    obtain ⟨q1, q2⟩ := h5 c
    have q1' : (x.served ostep st s).out.count c + (x.served ostep st s).bk.count c ≤ ([] : List Bs).count c + x.bk.count c + 2 * (x.come s).count c := q1
    show (outs ++ (x.served ostep st s).out).count c + (x.served ostep st s).bk.count c ≤ _
    have e1 : (x.served ostep st s).st = st ++ x.come s := h1
    rw [e1, List.count_append, List.count_append]
    simp only [List.count_nil, Nat.zero_add] at q1'
    omega
  · have hc := h.c c
    obtain ⟨g1, g2⟩ := hg c
    obtain ⟨q1, q2⟩ := h5 c
    have q2' : ([] : List Bs).count c + x.bk.count c + (x.come s).count c ≤ (x.served ostep st s).out.count c + (x.served ostep st s).bk.count c + lo2.count c := q2
    show (asked ++ [s]).count c ≤ (outs ++ (x.served ostep st s).out).count c + (x.served ostep st s).bk.count c + (goP x.fs x.th s).2.2.count c + (lo ++ lostP x.fs s ++ lo2).count c
    rw [List.count_append, List.count_append, List.count_append, List.count_append]
    simp only [List.count_nil, Nat.zero_add] at q2'
    rw [hcome] at q2'
    omega
  · have := h.d
    show (lo ++ lostP x.fs s ++ lo2).length + loses (x.served ostep st s).fs ≤ L
    rw [List.length_append, List.length_append]
    omega
  · have h3' : (x.served ostep st s).fs.length ≤ (goP x.fs x.th s).2.1.length := h3
    show (x.served ostep st s).fs.length ≤ _
    rw [ht, List.length_tail] at h3'
    exact h3'
/-- With no fates left all that waits comes. -/
theorem flush {x : Nt} {st : List Bs} (hf : x.fs = []) {s : Bs} (hs : s ≠ []) (hth : ∀ t ∈ x.th, t ≠ []) : (x.ask ostep st s).fs = [] ∧ (x.ask ostep st s).th = [] ∧ (x.ask ostep st s).bk = [] := by
  have hg : goP x.fs x.th s = (s :: x.th, [], []) := by
    rw [hf]
    unfold goP comeP
    simp [fz]
  have key : ∀ (cs : List Bs) (y : Sg (List Bs)), (∀ t ∈ cs, t ≠ []) → y.fs = [] → (serveL ostep cs y).fs = [] ∧ (cs ≠ [] ∨ y.bk = [] → (serveL ostep cs y).bk = []) := by
    intro cs
    induction cs with
    | nil => exact fun y _ h => ⟨h, fun q => q.elim (fun q => absurd rfl q) id⟩
    | cons c r ih =>
      intro y hne hy
      have e : serveL ostep (c :: r) y = serveL ostep r (stepS ostep y c) := rfl
      have hc : (ostep y.st c).1 ≠ [] := hne c (by simp)
      rw [e, stepS_some hc]
      have hgc : goP y.fs y.bk c = (c :: y.bk, [], []) := by
        rw [hy]
        unfold goP comeP
        simp [fz]
      obtain ⟨i1, i2⟩ := ih ⟨y.out ++ (goP y.fs y.bk (ostep y.st c).1).1, (goP y.fs y.bk (ostep y.st c).1).2.1, (goP y.fs y.bk (ostep y.st c).1).2.2, (ostep y.st c).2⟩ (fun t ht => hne t (by simp [ht])) (by show (goP y.fs y.bk c).2.1 = []; rw [hgc])
      exact ⟨i1, fun _ => i2 (.inr (by show (goP y.fs y.bk c).2.2 = []; rw [hgc]))⟩
  have hcs : x.come s = s :: x.th := by unfold Nt.come; rw [hg]
  obtain ⟨k1, k2⟩ := key (x.come s) ⟨[], (goP x.fs x.th s).2.1, x.bk, st⟩ (by
    rw [hcs]
    intro t ht
    rcases List.mem_cons.1 ht with rfl | ht
    · exact hs
    · exact hth t ht) (by show (goP x.fs x.th s).2.1 = []; rw [hg])
  exact ⟨k1, by show (goP x.fs x.th s).2.2 = []; rw [hg], k2 (.inl (by rw [hcs]; simp))⟩
/-- The frame of a number. -/
def fr2 (a b : Nat) : Bs := [UInt8.ofNat a, UInt8.ofNat b]
theorem fr2_two (a b : Nat) : two (fr2 a b) := rfl
theorem fr2_key {a b : Nat} (ha : a < 256) (hb : b < 256) : key (fr2 a b) = a * 256 + b := by
  simp [key, fr2, Nat.mod_eq_of_lt ha, Nat.mod_eq_of_lt hb]
theorem nodup_le {α : Type} [DecidableEq α] : ∀ (z l : List α), z.Nodup → (∀ x ∈ z, x ∈ l) → z.length ≤ l.length
  | [], l, _, _ => by simp
  | x :: r, l, hn, h => by
    obtain ⟨s, t, rfl⟩ := List.append_of_mem (h x (by simp))
    rw [List.nodup_cons] at hn
    have := nodup_le r (s ++ t) hn.2 (fun y hy => by
      have := h y (by simp [hy])
      simp only [List.mem_append, List.mem_cons] at this ⊢
      rcases this with q | q | q
      · exact .inl q
      · exact absurd (q ▸ hy) hn.1
      · exact .inr q)
    simp at this ⊢
    omega
theorem nodup_count (a : Bs) : ∀ l : List Bs, l.Nodup → l.count a ≤ 1
  | [], _ => by simp
  | x :: r, h => by
    rw [List.nodup_cons] at h
    rw [List.count_cons]
    by_cases e : x = a
    · subst e
      rw [List.count_eq_zero_of_not_mem h.1]
      simp
    · have := nodup_count a r h.2
      simp [e]
      exact this
/-- What went: the frames of the first numbers, then three others. -/
def askedL (n : Nat) : List Bs := (List.range n).map (fr2 0)
theorem askedL_succ (n : Nat) : askedL (n + 1) = askedL n ++ [fr2 0 n] := by
  unfold askedL
  rw [List.range_succ, List.map_append]
  rfl
theorem fr2_inj {a b : Nat} (ha : a < 256) (hb : b < 256) (h : fr2 0 a = fr2 0 b) : a = b := by
  have h1 := congrArg key h
  rw [fr2_key (by omega) ha, fr2_key (by omega) hb] at h1
  omega
theorem asked_one {n : Nat} (hn : n ≤ 256) (m : Nat) (hm : m ≤ 3) {i : Nat} (hi : i < n) : (askedL n ++ (List.range m).map (fr2 255)).count (fr2 0 i) = 1 := by
  have h1 : (askedL n).count (fr2 0 i) = 1 := by
    have hpos : 0 < (askedL n).count (fr2 0 i) := List.count_pos_iff.2 (List.mem_map.2 ⟨i, List.mem_range.2 hi, rfl⟩)
    refine Nat.le_antisymm (nodup_count _ _ ?_) hpos
    unfold askedL
    rw [List.Nodup, List.pairwise_map]
    refine (List.nodup_range (n := n)).imp_of_mem (fun {a b} ha hb hne e => ?_)
    exact hne (fr2_inj (by have := List.mem_range.1 ha; omega) (by have := List.mem_range.1 hb; omega) e)
  have h2 : ((List.range m).map (fr2 255)).count (fr2 0 i) = 0 := by
    refine List.count_eq_zero_of_not_mem fun hmem => ?_
    obtain ⟨j, hj, e⟩ := List.mem_map.1 hmem
    have hj := List.mem_range.1 hj
    have h1 := congrArg key e
    rw [fr2_key (by omega) (by omega), fr2_key (by omega) (by omega)] at h1
    omega
  rw [List.count_append, h1, h2]
/-- In the end. -/
theorem Once.last {x : Nt} {st outs lo : List Bs} {n m L : Nat} (h : Once x st outs lo (askedL n ++ (List.range m).map (fr2 255)) L) (hn : n ≤ 256) (hm : m ≤ 3) (ht : x.th = []) (hb : x.bk = []) (hs : ∀ s ∈ st, two s) (ho : ∀ s ∈ outs, two s) :
    (∀ i, i < n → cntK st i ≤ 2 ∧ cntK outs i ≤ 4) ∧ ((List.range n).filter (fun i => cntK outs i == 0)).length ≤ L := by
  have hk : ∀ i, i < n → key (fr2 0 i) = i := fun i hi => by rw [fr2_key (by omega) (by omega)]; omega
  refine ⟨fun i hi => ?_, ?_⟩
  · have h1 := asked_one hn m hm hi
    have h2 := h.a (fr2 0 i)
    have h3 := h.b (fr2 0 i)
    have e1 := cntK_count hs (fr2_two 0 i)
    have e2 := cntK_count ho (fr2_two 0 i)
    rw [hk i hi] at e1 e2
    omega
  · refine Nat.le_trans ?_ (Nat.le_trans (Nat.le_add_right lo.length (loses x.fs)) h.d)
    rw [← List.length_map (f := fr2 0)]
    refine nodup_le _ _ ?_ (fun f hf => ?_)
    · rw [List.Nodup, List.pairwise_map]
      refine ((List.nodup_range (n := n)).filter _).imp_of_mem (fun {a b} ha hb hne e => ?_)
      have ha := List.mem_range.1 (List.mem_filter.1 ha).1
      have hb := List.mem_range.1 (List.mem_filter.1 hb).1
      exact hne (fr2_inj (by omega) (by omega) e)
    · obtain ⟨i, hi, rfl⟩ := List.mem_map.1 hf
      obtain ⟨hi, h0⟩ := List.mem_filter.1 hi
      have hi := List.mem_range.1 hi
      have h1 := asked_one hn m hm hi
      have h2 := h.c (fr2 0 i)
      have e2 := cntK_count ho (fr2_two 0 i)
      rw [hk i hi] at e2
      have h0 : cntK outs i = 0 := by simpa using h0
      rw [ht, hb] at h2
      simp only [List.count_nil] at h2
      refine List.count_pos_iff.1 (by omega)
end Go.Proofs.Ytgjmidlcfjgnhaa
