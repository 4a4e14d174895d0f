/-
  What Size, Ops and Loose answer; SetRoom, CutAt, New. Condition: a disk within bounds.
  FailAt: which operations fail, told. Conditions: the disk lies there; the numbers lie in a slice of its own.
  What the statements lean on, plainly: names are names; how much a disk has behind each call. No program; no condition.
  What New answers. No condition.
  The disk's methods as the statements use them: a disk lies in memory made since the call began; other disks beside it stay. Conditions: how much the disk has.
-/
import Derived.Test.YtlejgdjkdbamkaaCrashRun
import Derived.Test.YtlejgdjkdbamkaaJBegin
import Derived.Test.YtlejgdjkdbamkaaJCrash
import Derived.Test.YtlejgdjkdbamkaaJDir
import Derived.Test.YtlejgdjkdbamkaaJSync
namespace Go.Proofs.Ytlejgdjkdbamkaa
open Go.RowKit

section
variable {w w' : World} {F : Nat → Prop} {d : Nat} {S : Dk} {G : Gh}

set_option maxRecDepth 20000 in
theorem ops_rep (h : Rep w F d S G) : Calls Try.prog 25 #[.pointer (some ⟨d, 0, none⟩)] w fun e w' => e = .returned (.int .i64 (S.n : Int)) ∧ w' = w := by
  have hd := h.disk
  unfold dcells at hd
  have x5 := cell_of hd 5
  go_enter Try.func25, Try.ntmps25
  go_wp2
  go_ret
  exact ⟨rfl, rfl⟩

set_option maxRecDepth 20000 in
theorem loose_rep (h : Rep w F d S G) : Calls Try.prog 28 #[.pointer (some ⟨d, 0, none⟩)] w fun e w' => e = .returned (.int .i64 (S.acts.length : Int)) ∧ w' = w := by
  have hd := h.disk
  unfold dcells at hd
  obtain ⟨a, cap, hlv⟩ := own_shape h.row
  rw [h.many] at hlv
  rw [hlv] at hd
  have x4 := cell_of hd 4
  clear hlv hd
  go_enter Try.func28, Try.ntmps28
  go_wp2
  go_ret
  exact ⟨rfl, rfl⟩

set_option maxRecDepth 20000 in
theorem size_rep (h : Rep w F d S G) (n : Nm) : Calls Try.prog 29 #[.pointer (some ⟨d, 0, none⟩), .string (strB n)] w fun e w' => e = .returned (.int .i64 (S.size n)) ∧ w' = w := by
  have hd := h.disk
  unfold dcells at hd
  have x2 := cell_of hd 2
  have hlk : (Instr.lookup 62 (.map G.now) (.string (strB n)) false).run Try.prog w = .ok (pv G.fb (look S.dir n)) w := by
    cases e : G.now with
    | some b => exact now_map h e n
    | none =>
      have hm := h.now
      rw [e] at hm
      have h2 : dv G.fb S.dir = [] := hm
      have h3 : S.dir = [] := List.map_eq_nil_iff.1 h2
      rw [h3]
      exact dir_look_nil w n
  unfold Dk.size
  cases hl : look S.dir n with
  | none =>
    rw [hl] at hlk
    have hlk' : (Instr.lookup 62 (.map G.now) (.string (strB n)) false).run Try.prog w = .ok (.pointer none) w := hlk
    clear hlk
    go_enter Try.func29, Try.ntmps29
    go_wp2
    go_ret
    exact ⟨rfl, rfl⟩
  | some f =>
    rw [hl] at hlk
    have hlk' : (Instr.lookup 62 (.map G.now) (.string (strB n)) false).run Try.prog w = .ok (.pointer (some ⟨G.fb f, 0, none⟩)) w := hlk
    obtain ⟨x, hx, hbx, hlv, f2, b2⟩ := h.file hl
    obtain ⟨ra, rc, hrv⟩ := own_shape b2
    rw [hrv] at f2
    have y0 := cell_of f2 0
    dsimp only
    rw [hbx]
    clear hlk f2 b2 hrv hbx
    obtain ⟨len, hlen⟩ : ∃ len, len = x.b.length := ⟨_, rfl⟩
    rw [← hlen] at y0 ⊢
    clear hlen
    go_enter Try.func29, Try.ntmps29
    go_wp2
    go_ret
    exact ⟨rfl, rfl⟩

/-- Of a disk, only what it was told is another: the room, the cut, which operations fail. -/
theorem Rep.told {F' : Nat → Prop} (h : Rep w F d S G) (hc : Chg (fun k => k = d ∨ some k = G.fls) w w') {room : Nat} {cut : Option Nat} {fails : Nat → Bool} {cv : Int} {fls : Option Nat} (l' : List Int) (hroom : room < 9223372036854775808) (hcut : ∀ c, cut = some c → cv = (c : Int)) (hF : ∀ k, F k → F' k)
    (hd : w'.heap[d]? = some (.cells (dcells { S with room := room, cut := cut, fails := fails } { G with cv := cv, fls := fls }) 66))
    (hfl : MapO w' F' fls (fv l')) (hl : ∀ k : Nat, S.n ≤ k → (fails k = true ↔ (k : Int) ∈ l')) (h2 : ∀ b, G.now = some b → fls ≠ some b) (h3 : ∀ b, G.sure = some b → fls ≠ some b) :
    Rep w' F' d { S with room := room, cut := cut, fails := fails } { G with cv := cv, fls := fls } where
  ok := ⟨h.ok.sortS, h.ok.valid, h.ok.dir, h.ok.one, h.ok.idS, h.ok.idA, h.ok.idM, h.ok.lens⟩
  disk := hd
  inD := hF d h.inD
  roomy := hroom
  cutv := hcut
  now := h.now.keep hc (fun b e e2 => by
    have hm := h.now
    rw [e] at hm
    rcases e2 with e2 | e2
    · exact hm.2.ne h.disk e2.symm
    · exact (h.two b e).2 e2.symm) hF
  sure := h.sure.keep hc (fun b e e2 => by
    rcases e2 with e2 | e2
    · exact h.ne_sure e e2.symm
    · exact h.three b e e2.symm) hF
  both := h.both
  bare := h.bare
  fails := ⟨l', hfl, hl⟩
  two := fun b e => ⟨(h.two b e).1, h2 b e⟩
  three := h3
  row := own_keep h.row hc (fun k hk e => by
    rcases e with e | e
    · exact h.ne_row hk e
    · obtain ⟨cur, hcur⟩ := own_block h.row hk
      obtain ⟨l, h1, _⟩ := h.fails
      rw [← e] at h1
      exact h1.2.ne hcur rfl)
  rowF := fun k hk => hF k (h.rowF k hk)
  many := h.many
  acts := h.actsKeep hc (by
    obtain ⟨l, h1, _⟩ := h.fails
    exact (spares_cells h.disk (by decide)).or (spares_mapO h1)) hF
  files := fun i hi => by
    obtain ⟨f1, f2⟩ := h.files i hi
    refine ⟨hF _ f1, hc.keep f2 (fun e => ?_)⟩
    rcases e with e | e
    · exact h.ne_file hi e.symm
    · obtain ⟨l, h1, _⟩ := h.fails
      rw [← e] at h1
      exact h1.2.ne f2 rfl
  inj := h.inj
  bytes := fun i f hi hf => by
    obtain ⟨b1, b2, b3⟩ := h.bytes i f hi hf
    refine ⟨b1, own_keep b2 hc (fun k hk e => ?_), fun k hk => hF k (b3 k hk)⟩
    obtain ⟨cur, hcur⟩ := own_block b2 hk
    rcases e with e | e
    · exact ne_tag hcur h.disk (show 5 ≠ 66 by decide) e
    · obtain ⟨l, h1, _⟩ := h.fails
      rw [← e] at h1
      exact h1.2.ne hcur rfl
  apart := h.apart

/-- Told, without a word of failing. -/
theorem Rep.told1 (h : Rep w F d S G) (hc : Chg (· = d) w w') {room : Nat} {cut : Option Nat} {cv : Int} (hroom : room < 9223372036854775808) (hcut : ∀ c, cut = some c → cv = (c : Int))
    (hd : w'.heap[d]? = some (.cells (dcells { S with room := room, cut := cut } { G with cv := cv }) 66)) : Rep w' F d { S with room := room, cut := cut } { G with cv := cv } := by
  obtain ⟨l, h1, h2⟩ := h.fails
  exact h.told (hc.mono fun _ _ e => Or.inl e) l hroom hcut (fun _ h => h) hd (h1.keep hc (fun b e e2 => h.ne_fls e e2.symm) (fun _ h => h)) h2 (fun b e => (h.two b e).2) h.three

set_option maxRecDepth 20000 in
theorem setRoom_rep (h : Rep w F d S G) (r : Int) (hr : r ≤ 9223372036854775807) : Calls Try.prog 33 #[.pointer (some ⟨d, 0, none⟩), .int .i64 r] w fun e w' => e = .returned (.tuple #[]) ∧ Rep w' F d (S.setRoom r) G ∧ Chg F w w' := by
  have hd := h.disk
  unfold dcells at hd
  have t0 := thawed hd 0
  have x0 := cell_of hd 0
  have hfin : ∀ v : Int, v = (r.toNat : Int) → Rep (w.setCell ⟨d, 0, none⟩ (.int .i64 v)) F d (S.setRoom r) G ∧ Chg F w (w.setCell ⟨d, 0, none⟩ (.int .i64 v)) := fun v hv =>
    ⟨h.told1 (chg_set w d 0 _) (room := r.toNat) (cut := S.cut) (cv := G.cv) (by omega) h.cutv (by rw [heap_set hd 0 _, hv]; rfl), (chg_set w d 0 _).mono fun k _ e => by rw [e]; exact h.inD⟩
  have HF := hide hfin
  clear hfin hd h
  rcases Int.lt_or_le r 0 with hlt | hlt
  all_goals
    go_enter Try.func33, Try.ntmps33
    go_wp2
    go_end0
    exact ⟨rfl, HF.out _ (by omega)⟩

set_option maxRecDepth 20000 in
theorem cutAt_rep (h : Rep w F d S G) (op : Int) : Calls Try.prog 30 #[.pointer (some ⟨d, 0, none⟩), .int .i64 op] w fun e w' => e = .returned (.tuple #[]) ∧ (∃ G', Rep w' F d (S.cutAt op) G') ∧ Chg F w w' := by
  have hd := h.disk
  unfold dcells at hd
  have t6 := thawed hd 6
  have t7 := thawed hd 7
  have x6 := cell_of hd 6
  have x7 := cell_of hd 7
  have hfin : ∀ v : Bool, v = decide (0 ≤ op) → (∃ G', Rep ((w.setCell ⟨d, 6, none⟩ (.bool v)).setCell ⟨d, 7, none⟩ (.int .i64 op)) F d (S.cutAt op) G') ∧ Chg F w ((w.setCell ⟨d, 6, none⟩ (.bool v)).setCell ⟨d, 7, none⟩ (.int .i64 op)) := fun v hv => by
    have hc : Chg (· = d) w ((w.setCell ⟨d, 6, none⟩ (.bool v)).setCell ⟨d, 7, none⟩ (.int .i64 op)) := (chg_set w d 6 _).then (chg_set _ d 7 _)
    refine ⟨⟨_, h.told1 hc (room := S.room) (cut := if op < 0 then none else some op.toNat) (cv := op) h.roomy (fun c e => ?_) ?_⟩, hc.mono fun k _ e => by rw [e]; exact h.inD⟩
    · split at e
      · cases e
      · injection e with e
        omega
    · rw [heap_set (heap_set hd 6 _) 7 _, hv]
      unfold dcells
      rcases Int.lt_or_le op 0 with h1 | h1
      · rw [if_pos h1, decide_eq_false (by omega)]
        rfl
      · rw [if_neg (by omega), decide_eq_true h1]
        rfl
  have HF := hide hfin
  clear hfin hd h
  go_enter Try.func30, Try.ntmps30
  go_wp2
  go_end0
  exact ⟨rfl, HF.out _ rfl⟩
end
end Go.Proofs.Ytlejgdjkdbamkaa

namespace Go.Proofs.Ytlejgdjkdbamkaa
open Go.RowKit
variable {w : World} {F : Nat → Prop} {d : Nat} {S : Dk} {G : Gh}

/-- The slice v has the numbers ks, in the world w. -/
def Is (w : World) (v : Value) (ks : List Int) : Prop :=
  ∃ b off cap, v = .slice (some ⟨b, off, none⟩) ks.length cap ∧ b < w.heap.size ∧ ks.length ≤ cap ∧ ∀ j (h : j < ks.length), w.cell? ⟨b, off + j, none⟩ = some (.int .i64 ks[j])

theorem fails_put {w : World} {F : Nat → Prop} {b : Nat} {l : List Int} (h : MapO w F (some b) (fv l)) (n : Int) :
    ∃ w' l', (Instr.mapUpdate 64 (.map (some b)) (.int .i64 n) (.agg #[])).run Try.prog w = .ok () w' ∧ MapO w' F (some b) (fv l') ∧ (∀ k, k ∈ l' ↔ k = n ∨ k ∈ l) ∧ Chg (· = b) w w' := by
  by_cases hn : n ∈ l
  · have hp : (fv l).Perm ((.int .i64 n, .agg #[]) :: fv (l.erase n)) := (List.perm_cons_erase hn).map _
    obtain ⟨w', h1, h2, h3, _⟩ := (h.2.perm hp).put_old (kint w) (fv_keys _) Try.underlying64 ⟨n, rfl⟩ (.agg #[])
    refine ⟨w', l, h1, ⟨h.1, h2.perm hp.symm⟩, fun k => ⟨Or.inr, ?_⟩, h3⟩
    rintro (rfl | h)
    · exact hn
    · exact h
  · obtain ⟨w', h1, h2, h3, _⟩ := h.2.put_new (kint w) (fv_keys _) Try.underlying64 ⟨n, rfl⟩ (fv_ne hn) (.agg #[])
    exact ⟨w', n :: l, h1, ⟨h.1, h2⟩, fun k => by simp, h3⟩

set_option maxRecDepth 20000 in
set_option maxHeartbeats 800000 in
/-- The map is there already. -/
theorem failAt_some (w : World) (F : Nat → Prop) (d b : Nat) (r u o1 o2 lv cu ct v : Value) (n : Int) (l ks : List Int) (hd : w.heap[d]? = some (.cells #[r, u, o1, o2, lv, .int .i64 n, cu, ct, .map (some b)] 66))
    (hf : MapO w F (some b) (fv l)) (hv : Is w v ks) (hvb : ∀ g, v.ownBlock = some g → g ≠ b) (hks : ks.length ≤ 4611686018427387904) :
    Calls Try.prog 24 #[.pointer (some ⟨d, 0, none⟩), v] w fun e w' => e = .returned (.tuple #[]) ∧ ∃ l', MapO w' F (some b) (fv l') ∧ (∀ k, n ≤ k → (k ∈ l' ↔ k ∈ l ∨ k ∈ ks)) ∧ Chg (· = b) w w' := by
  obtain ⟨vb, off, cap, rfl, hvl, hcap, hc⟩ := hv
  have hvb' : vb ≠ b := hvb vb rfl
  have hdb : d ≠ b := hf.2.ne hd
  have q8 := cell_of hd 8
  have hqm := eqM64
  go_enter Try.func24, Try.ntmps24
  go_wp2
  go_loopw [19, 5] (fun i x wr => ∃ (j : Nat) (l' : List Int), i = .int .i64 (j : Int) ∧ j ≤ ks.length ∧ MapO wr F (some b) (fv l') ∧ (∀ k, n ≤ k → (k ∈ l' ↔ k ∈ l ∨ k ∈ ks.take j)) ∧ Chg (· = b) w wr)
    (fun i _ _ => ks.length - (intOf i).toNat)
  case atStart => exact ⟨0, l, rfl, by omega, hf, fun k _ => by simp, Chg.refl _ _⟩
  case round =>
    obtain ⟨j, l', rfl, hj, hf', hl', hch⟩ := hrel
    by_cases hlt : j < ks.length
    · have hcj := hc j hlt
      have hcj' : wr.cell? ⟨vb, off + j, none⟩ = some (.int .i64 ks[j]) := by
        rw [← hcj]
        exact World.cell?_of_block (hch.block vb hvl hvb')
      have hd' := hch.keep hd hdb
      have q5 := cell_of hd' 5
      have q8 := cell_of hd' 8
      have htk : ks.take (j + 1) = ks.take j ++ [ks[j]] := by rw [List.take_add_one]; simp [hlt]
      obtain ⟨wp, lp, hp1, hp2, hp3, hp4⟩ := fails_put hf' ks[j]
      have hl1 : n ≤ ks[j] → ∀ k, n ≤ k → (k ∈ lp ↔ k ∈ l ∨ k ∈ ks.take (j + 1)) := fun _ k hk => by
        rw [hp3, hl' k hk, htk, List.mem_append, List.mem_singleton]
        constructor
        · rintro (h | h | h)
          · exact Or.inr (Or.inr h)
          · exact Or.inl h
          · exact Or.inr (Or.inl h)
        · rintro (h | h | h)
          · exact Or.inr (Or.inl h)
          · exact Or.inr (Or.inr h)
          · exact Or.inl h
      have hl2 : ks[j] < n → ∀ k, n ≤ k → (k ∈ l' ↔ k ∈ l ∨ k ∈ ks.take (j + 1)) := fun hlow k hk => by
        rw [hl' k hk, htk, List.mem_append, List.mem_singleton]
        constructor
        · rintro (h | h)
          · exact Or.inl h
          · exact Or.inr (Or.inl h)
        · rintro (h | h | h)
          · exact Or.inl h
          · exact Or.inr h
          · omega
      have HL1 := hide hl1
      have HL2 := hide hl2
      have HP := hide hp3
      clear hc hcj htk hl1 hl2 hp3 hl'
      generalize ks[j] = x at *
      by_cases hx : n ≤ x
      · go_wp2_with fail
        refine ⟨⟨j + 1, lp, by go_num, by omega, hp2, HL1.out hx, hch.then hp4⟩, by simp [intOf]; omega⟩
      · have hx' : x < n := by omega
        go_wp2_with fail
        refine ⟨⟨j + 1, l', by go_num, by omega, hf', HL2.out hx', hch⟩, by simp [intOf]; omega⟩
    · obtain rfl : j = ks.length := by omega
      rw [List.take_length] at hl'
      go_wp2_with fail
      go_end0
      exact ⟨rfl, l', hf', hl', hch⟩
set_option maxRecDepth 20000 in
set_option maxHeartbeats 800000 in
/-- The map is made. -/
theorem failAt_none (w : World) (F : Nat → Prop) (d : Nat) (r u o1 o2 lv cu ct v : Value) (n : Int) (ks : List Int) (hd : w.heap[d]? = some (.cells #[r, u, o1, o2, lv, .int .i64 n, cu, ct, .map none] 66))
    (hF : F w.heap.size) (hv : Is w v ks) (hvb : ∀ g, v.ownBlock = some g → g ≠ d) (hks : ks.length ≤ 4611686018427387904) :
    Calls Try.prog 24 #[.pointer (some ⟨d, 0, none⟩), v] w fun e w' => e = .returned (.tuple #[]) ∧ ∃ b, w'.heap[d]? = some (.cells #[r, u, o1, o2, lv, .int .i64 n, cu, ct, .map (some b)] 66) ∧ ∃ l', MapO w' F (some b) (fv l') ∧ (∀ k, n ≤ k → (k ∈ l' ↔ k ∈ ks)) ∧ Chg (· = d) w w' ∧ w.heap.size ≤ b ∧ b < w'.heap.size := by
  have hmm := @run_makeMap Try.prog
  obtain ⟨vb, off, cap, rfl, hvl, hcap, hc⟩ := hv
  have hvd : ¬ vb = d := hvb vb rfl
  have q8 := cell_of hd 8
  have t8 := thawed hd 8
  have hqm := eqM64
  have hdl := lt_of_heap hd
  have hd1 := heap_past (.map #[] 0) hd
  have t8' := thawed hd1 8
  have q8' := cell_of hd1 8
  have hm1 := MapW.made w
  obtain ⟨W0, hW0⟩ : ∃ W0, (w.alloc (.map #[] 0)).setCell ⟨d, 8, none⟩ (.map (some w.heap.size)) = W0 := ⟨_, rfl⟩
  have hd0 : W0.heap[d]? = some (.cells #[r, u, o1, o2, lv, .int .i64 n, cu, ct, .map (some w.heap.size)] 66) := by rw [← hW0]; exact heap_set hd1 8 _
  have hc0 : Chg (· = d) w W0 := by rw [← hW0]; exact ((Chg.refl (· = d) w).alloc _).setCell (p := ⟨d, 8, none⟩) (Or.inl rfl) _
  have hf : MapO W0 F (some w.heap.size) (fv []) := by
    refine ⟨hF, ?_⟩
    rw [← hW0]
    exact hm1.keep (chg_set _ d 8 _) (fun e => by omega)
  have hdb : d ≠ w.heap.size := by omega
  have hvb' : vb ≠ w.heap.size := by omega
  have hvl0 : vb < W0.heap.size := Nat.lt_of_lt_of_le hvl hc0.size
  clear hm1 hd1
  go_enter Try.func24, Try.ntmps24
  go_wp2
  go_loopw [19, 5] (fun i x wr => ∃ (j : Nat) (l' : List Int), i = .int .i64 (j : Int) ∧ j ≤ ks.length ∧ MapO wr F (some w.heap.size) (fv l') ∧ (∀ k, n ≤ k → (k ∈ l' ↔ k ∈ ([] : List Int) ∨ k ∈ ks.take j)) ∧ Chg (· = w.heap.size) W0 wr)
    (fun i _ _ => ks.length - (intOf i).toNat)
  case atStart => exact ⟨0, [], rfl, by omega, hf, fun k _ => by simp, Chg.refl _ _⟩
  case round =>
    obtain ⟨j, l', rfl, hj, hf', hl', hch⟩ := hrel
    by_cases hlt : j < ks.length
    · have hcj := hc j hlt
      have hcj0 : W0.cell? ⟨vb, off + j, none⟩ = some (.int .i64 ks[j]) := (World.cell?_of_block (hc0.block vb hvl hvd)).trans hcj
      have hcj' : wr.cell? ⟨vb, off + j, none⟩ = some (.int .i64 ks[j]) := by
        rw [← hcj0]
        exact World.cell?_of_block (hch.block vb hvl0 hvb')
      have hd' := hch.keep hd0 hdb
      have q5 := cell_of hd' 5
      have q8 := cell_of hd' 8
      have htk : ks.take (j + 1) = ks.take j ++ [ks[j]] := by rw [List.take_add_one]; simp [hlt]
      obtain ⟨wp, lp, hp1, hp2, hp3, hp4⟩ := fails_put hf' ks[j]
      have hl1 : n ≤ ks[j] → ∀ k, n ≤ k → (k ∈ lp ↔ k ∈ ([] : List Int) ∨ k ∈ ks.take (j + 1)) := fun _ k hk => by
        rw [hp3, hl' k hk, htk, List.mem_append, List.mem_singleton]
        constructor
        · rintro (h | h | h)
          · exact Or.inr (Or.inr h)
          · exact Or.inl h
          · exact Or.inr (Or.inl h)
        · rintro (h | h | h)
          · exact Or.inr (Or.inl h)
          · exact Or.inr (Or.inr h)
          · exact Or.inl h
      have hl2 : ks[j] < n → ∀ k, n ≤ k → (k ∈ l' ↔ k ∈ ([] : List Int) ∨ k ∈ ks.take (j + 1)) := fun hlow k hk => by
        rw [hl' k hk, htk, List.mem_append, List.mem_singleton]
        constructor
        · rintro (h | h)
          · exact Or.inl h
          · exact Or.inr (Or.inl h)
        · rintro (h | h | h)
          · exact Or.inl h
          · exact Or.inr h
          · omega
      have HL1 := hide hl1
      have HL2 := hide hl2
      have HP := hide hp3
      clear hc hcj hcj0 htk hl1 hl2 hp3 hl'
      generalize ks[j] = x at *
      by_cases hx : n ≤ x
      · go_wp2_with fail
        refine ⟨⟨j + 1, lp, by go_num, by omega, hp2, HL1.out hx, hch.then hp4⟩, by simp [intOf]; omega⟩
      · have hx' : x < n := by omega
        go_wp2_with fail
        refine ⟨⟨j + 1, l', by go_num, by omega, hf', HL2.out hx', hch⟩, by simp [intOf]; omega⟩
    · obtain rfl : j = ks.length := by omega
      rw [List.take_length] at hl'
      go_wp2_with fail
      go_end0
      exact ⟨rfl, w.heap.size, hch.keep hd0 hdb, l', hf', fun k hk => by simpa using hl' k hk, hc0.trans hch (fun k hk e => by rw [e] at hk; exact absurd hk (Nat.lt_irrefl _)), Nat.le_refl _, hf'.2.lt⟩

theorem failAt_rep (h : Rep w F d S G) {v : Value} {ks : List Int} (hv : Is w v ks) (hvF : ∀ g, v.ownBlock = some g → ¬ F g) (hks : ks.length ≤ 4611686018427387904) :
    Calls Try.prog 24 #[.pointer (some ⟨d, 0, none⟩), v] w fun e w' => e = .returned (.tuple #[]) ∧ ∃ G', Rep w' (Fx F w w') d (S.failAt ks) G' ∧ Chg F w w' := by
  have hd := h.disk
  unfold dcells at hd
  obtain ⟨l, hl1, hl2⟩ := h.fails
  cases hfls : G.fls with
  | some b =>
    rw [hfls] at hd hl1
    have hFb : F b := hl1.1
    refine (failAt_some w F d b _ _ _ _ _ _ _ v S.n l ks hd hl1 hv (fun g hg e => hvF g hg (e ▸ hFb)) hks).mono ?_
    rintro e w' ⟨rfl, l', hm, hl', hc⟩
    refine ⟨rfl, { G with fls := some b }, ?_, hc.mono fun k _ e => by rw [e]; exact hFb⟩
    have hdb : d ≠ b := hl1.2.ne hd
    have hr := h.told (F' := Fx F w w') (w' := w') (hc.mono fun k _ e => Or.inr (by rw [hfls, e])) (room := S.room) (cut := S.cut) (fails := (S.failAt ks).fails) (cv := G.cv) (fls := some b) l' h.roomy h.cutv (fun k hk => Or.inl hk)
      (by have := hc.keep hd hdb; rw [this]; rfl) ⟨Or.inl hFb, hm.2⟩
      (fun k hk => by
        rw [hl' k (by omega)]
        show (S.fails k || ks.contains (k : Int)) = true ↔ _
        rw [Bool.or_eq_true, hl2 k hk, List.contains_iff_mem])
      (fun b' e => by rw [← hfls]; exact (h.two b' e).2) (fun b' e => by rw [← hfls]; exact h.three b' e)
    exact hr
  | none =>
    rw [hfls] at hd hl1
    have hl : l = [] := by simpa [MapO, fv] using hl1
    subst hl
    refine (failAt_none w (fun k => k = w.heap.size) d _ _ _ _ _ _ _ v S.n ks hd rfl hv (fun g hg e => hvF g hg (e ▸ h.inD)) hks).mono ?_
    rintro e w' ⟨rfl, b, hd', l', hm, hl', hc, hb1, hb2⟩
    have hcF : Chg F w w' := hc.mono fun k _ e => by rw [e]; exact h.inD
    refine ⟨rfl, { G with fls := some b }, ?_, hcF⟩
    have hr := h.told (F' := Fx F w w') (w' := w') (hc.mono fun k _ e => Or.inl e) (room := S.room) (cut := S.cut) (fails := (S.failAt ks).fails) (cv := G.cv) (fls := some b) l' h.roomy h.cutv (fun k hk => Or.inl hk)
      (by rw [hd']; rfl) ⟨Or.inr ⟨hb1, hb2⟩, hm.2⟩
      (fun k hk => by
        rw [hl' k (by omega)]
        show (S.fails k || ks.contains (k : Int)) = true ↔ _
        rw [Bool.or_eq_true, hl2 k hk, List.contains_iff_mem]
        simp)
      (fun b' e => by
        have hm := h.now
        rw [e] at hm
        intro e2
        injection e2 with e2
        have := hm.2.lt
        omega)
      (fun b' e => by
        have hm := h.sure
        rw [e] at hm
        intro e2
        injection e2 with e2
        have := hm.2.lt
        omega)
    exact hr
end Go.Proofs.Ytlejgdjkdbamkaa

namespace Go.Proofs.Ytlejgdjkdbamkaa
variable {S : Dk}

def actNm : Ac → Prop
  | .made n _ => isNm n = true
  | .ren _ b => isNm b = true
  | _ => True
/-- All names that a disk has, or may come to, are names. -/
def Named (S : Dk) : Prop := (∀ p ∈ S.sure, isNm p.1 = true) ∧ ∀ a ∈ S.acts, actNm a
theorem done_named {l : Dir} {a : Ac} (hl : ∀ p ∈ l, isNm p.1 = true) (ha : actNm a) : ∀ p ∈ doneD l a, isNm p.1 = true := by
  intro p hp
  cases a with
  | made n f =>
    rcases mem_ins.1 hp with rfl | hp
    · exact ha
    · exact hl p hp
  | ren x y =>
    simp only [doneD] at hp
    cases hk : look l x with
    | none => rw [hk] at hp; exact hl p hp
    | some f =>
      rw [hk] at hp
      rcases mem_ins.1 hp with rfl | hp
      · exact ha
      · exact hl p (List.mem_filter.1 (List.mem_filter.1 hp).1).1
  | rem n => exact hl p (List.mem_filter.1 hp).1
  | more f k => exact hl p hp
theorem app_named (cs : List Ac) : ∀ {l : Dir}, (∀ p ∈ l, isNm p.1 = true) → (∀ a ∈ cs, actNm a) → ∀ p ∈ appD l cs, isNm p.1 = true := by
  induction cs with
  | nil => exact fun hl _ => hl
  | cons a r ih => exact fun hl ha => ih (done_named hl (ha a (by simp))) (fun x hx => ha x (by simp [hx]))
theorem Named.dir (h : Named S) (hk : Ok S) : ∀ p ∈ S.dir, isNm p.1 = true := by
  rw [hk.dir]
  exact app_named _ h.1 h.2
theorem named_new (r : Nat) : Named (Dk.new r) := ⟨by simp [Dk.new], by simp [Dk.new]⟩
theorem Named.same {T : Dk} (h : Named S) (h1 : T.sure = S.sure) (h2 : T.acts = S.acts) : Named T := by unfold Named; rw [h1, h2]; exact h
theorem Named.next (h : Named S) : Named S.next := h
theorem Named.begun (h : Named S) : Named S.begun := by
  unfold Dk.begun
  split
  · exact h
  · exact h
theorem Named.keepF (h : Named S) (f : Nat) : Named (S.keepF f) := ⟨h.1, fun a ha => h.2 a (List.mem_filter.1 ha).1⟩
theorem Named.undoF (h : Named S) (f : Nat) : Named (S.undoF f) := ⟨h.1, fun a ha => h.2 a (List.mem_filter.1 ha).1⟩
theorem Named.keepD (h : Named S) (hk : Ok S) : Named S.keepD := ⟨h.dir hk, fun a ha => h.2 a (List.mem_filter.1 ha).1⟩
theorem Named.undoD (h : Named S) : Named S.undoD := ⟨h.1, fun a ha => h.2 a (List.mem_filter.1 ha).1⟩
theorem Named.act (h : Named S) {a : Ac} (ha : actNm a) : Named (S.act a) := ⟨h.1, fun x hx => by
  rcases List.mem_append.1 hx with hx | hx
  · exact h.2 x hx
  · simp at hx; subst hx; exact ha⟩
theorem Named.mk1 (h : Named S) {n : Nm} (hn : isNm n = true) : Named (S.mk1 n) := ⟨h.1, fun x hx => by
  rcases List.mem_append.1 hx with hx | hx
  · exact h.2 x hx
  · simp at hx; subst hx; exact hn⟩
theorem Named.ext (h : Named S) (f : Nat) (b : List UInt8) : Named (S.ext f b) := ⟨h.1, fun x hx => by
  rcases List.mem_append.1 hx with hx | hx
  · exact h.2 x hx
  · simp at hx; subst hx; trivial⟩
theorem Named.append (h : Named S) (n : Nm) (b : List UInt8) : Named (S.append n b).1 := by
  unfold Dk.append
  by_cases h1 : S.on = false
  · rw [if_pos h1]; exact h
  rw [if_neg h1]
  by_cases h2 : isNm n = false
  · rw [if_pos h2]; exact h
  rw [if_neg h2]
  by_cases h3 : b ≠ [] ∧ S.room < S.used + b.length
  · rw [if_pos h3]; exact h
  rw [if_neg h3]
  by_cases h4 : S.fails S.n = true
  · rw [if_pos h4]; exact h
  rw [if_neg h4]
  have hn : isNm n = true := by simpa using h2
  show Named (S.next.app n b)
  unfold Dk.app
  split
  · split
    · exact h
    · exact Named.ext (S := S.next) h _ _
  · split
    · exact Named.mk1 (S := S.next) h hn
    · exact (Named.mk1 (S := S.next) h hn).ext _ _
theorem Named.sync (h : Named S) (n : Nm) : Named (S.sync n).1 := by
  unfold Dk.sync
  split
  · exact h.begun
  · split
    · exact h.begun.undoF _
    · exact h.begun.keepF _
theorem Named.syncDir (h : Named S) (hk : Ok S) : Named S.syncDir.1 := by
  unfold Dk.syncDir
  split
  · exact h
  · split
    · exact Named.undoD (S := S.next) h
    · exact Named.keepD (S := S.next) h hk.next
theorem Named.rename (h : Named S) (a b : Nm) : Named (S.rename a b).1 := by
  unfold Dk.rename
  by_cases h1 : S.on = false
  · rw [if_pos h1]; exact h
  rw [if_neg h1]
  by_cases h2 : isNm a = false ∨ isNm b = false
  · rw [if_pos h2]; exact h
  rw [if_neg h2]
  split
  · exact h
  split
  · exact h
  split
  · exact h
  · exact Named.act (S := S.next) h (show isNm b = true by simpa using fun e => h2 (Or.inr e))
theorem Named.remove (h : Named S) (n : Nm) : Named (S.remove n).1 := by
  unfold Dk.remove
  split
  · exact h.begun
  · split
    · exact h.begun
    · exact h.begun.act trivial
theorem Named.crash (h : Named S) (keep t : Int) : Named (S.crash keep t) := by
  refine ⟨app_named _ h.1 fun a ha => ?_, by simp [Dk.crash]⟩
  unfold stay at ha
  rcases List.mem_append.1 ha with ha | ha
  · exact h.2 a (List.mem_of_mem_take ha)
  · unfold torn at ha
    split at ha
    · simp at ha; subst ha; trivial
    · simp at ha

/-! ### how much -/
theorem bulk_modify_b (files : List Fl) (f : Nat) (g : Fl → Fl) (k : Nat) (hg : ∀ x, (g x).b.length ≤ x.b.length + k) : ((files.modify f g).map fun x => x.b.length).sum ≤ (files.map fun x => x.b.length).sum + k := by
  induction files generalizing f with
  | nil => simp
  | cons x r ih =>
    cases f with
    | zero => have := hg x; simp [List.modify_zero_cons]; omega
    | succ f => have := ih f; simp [List.modify_succ_cons] at this ⊢; omega
theorem bulk_ext (f : Nat) (b : List UInt8) : (S.ext f b).bulk ≤ S.bulk + b.length + 1 := by
  have := bulk_modify_b S.files f (fun x => { x with b := x.b ++ b }) b.length (fun x => by simp)
  unfold Dk.bulk Dk.ext
  simp only [List.length_append, List.length_modify, List.length_singleton]
  omega
theorem bulk_nx : S.next.bulk = S.bulk + 1 := by unfold Dk.bulk Dk.next; simp; omega
theorem bulk_bg : S.begun.bulk ≤ S.bulk + 1 := by
  unfold Dk.begun
  split
  · omega
  · rw [bulk_nx]
    exact Nat.le_refl _
theorem bulk_append (n : Nm) (b : List UInt8) : (S.append n b).1.bulk ≤ S.bulk + b.length + 4 := by
  have h1 := bulk_nx (S := S)
  unfold Dk.append
  split
  · show S.bulk ≤ _; omega
  split
  · show S.next.bulk ≤ _; omega
  split
  · show S.next.bulk ≤ _; omega
  split
  · show S.next.bulk ≤ _; omega
  show (S.next.app n b).bulk ≤ _
  unfold Dk.app
  split
  · split
    · omega
    · have := bulk_ext (S := S.next) (by assumption) b; omega
  · have h2 := bulk_mk1 S.next n
    split
    · omega
    · have := bulk_ext (S := S.next.mk1 n) S.next.files.length b
      omega
theorem bulk_keepF (f : Nat) : (S.keepF f).bulk ≤ S.bulk := by
  have := bulk_modify_b S.files f (fun x => { x with sure := x.b.length }) 0 (fun x => by simp)
  have h2 : (S.acts.filter fun a => !isOf f a).length ≤ S.acts.length := List.length_filter_le _ _
  unfold Dk.bulk Dk.keepF
  simp only [List.length_modify]
  omega
theorem bulk_undoF (f : Nat) : (S.undoF f).bulk ≤ S.bulk := by
  have := bulk_modify_b S.files f (fun x => { x with b := x.b.take x.sure }) 0 (fun x => by simp; omega)
  have h2 : (S.acts.filter fun a => !isOf f a).length ≤ S.acts.length := List.length_filter_le _ _
  unfold Dk.bulk Dk.undoF
  simp only [List.length_modify]
  omega
theorem bulk_sync (n : Nm) : (S.sync n).1.bulk ≤ S.bulk + 1 := by
  have h := bulk_bg (S := S)
  unfold Dk.sync
  split
  · exact h
  · split
    · exact Nat.le_trans (bulk_undoF (S := S.begun) _) h
    · exact Nat.le_trans (bulk_keepF (S := S.begun) _) h
theorem bulk_syncDir : S.syncDir.1.bulk ≤ S.bulk + 1 := by
  have h := bulk_nx (S := S)
  have h2 : (S.next.acts.filter isMore).length ≤ S.next.acts.length := List.length_filter_le _ _
  unfold Dk.syncDir
  split
  · show S.bulk ≤ _; omega
  · split
    · show S.next.undoD.bulk ≤ _
      unfold Dk.undoD
      unfold Dk.bulk at h ⊢
      simp only at h h2 ⊢
      omega
    · show S.next.keepD.bulk ≤ _
      unfold Dk.keepD
      unfold Dk.bulk at h ⊢
      simp only at h h2 ⊢
      omega
theorem bulk_act (a : Ac) : (S.act a).bulk = S.bulk + 1 := by unfold Dk.bulk Dk.act; simp; omega
theorem bulk_rename (a b : Nm) : (S.rename a b).1.bulk ≤ S.bulk + 2 := by
  have h := bulk_nx (S := S)
  unfold Dk.rename
  split
  · show S.bulk ≤ _; omega
  split
  · show S.next.bulk ≤ _; omega
  split
  · show S.next.bulk ≤ _; omega
  split
  · show S.next.bulk ≤ _; omega
  split
  · show S.next.bulk ≤ _; omega
  · show (S.next.act _).bulk ≤ _; rw [bulk_act]; omega
theorem bulk_remove (n : Nm) : (S.remove n).1.bulk ≤ S.bulk + 2 := by
  have h := bulk_bg (S := S)
  unfold Dk.remove
  split
  · show S.begun.bulk ≤ _; omega
  · split
    · show S.begun.bulk ≤ _; omega
    · show (S.begun.act _).bulk ≤ _; rw [bulk_act]; omega
theorem bulk_crash (keep t : Int) : (S.crash keep t).bulk ≤ S.bulk := by
  have key : ∀ (l : List Fl) (g : Nat → Nat → Nat) (k : Nat), ((l.mapIdx fun i x => (⟨x.b.take (g (i + k) x.sure), g (i + k) x.sure⟩ : Fl)).map fun x => x.b.length).sum ≤ (l.map fun x => x.b.length).sum := by
    intro l
    induction l with
    | nil => intro g k; simp
    | cons x r ih =>
      intro g k
      have := ih g (k + 1)
      rw [List.mapIdx_cons]
      simp only [List.map_cons, List.sum_cons, List.length_take]
      have e : (fun (i : Nat) (x : Fl) => (⟨x.b.take (g (i + 1 + k) x.sure), g (i + 1 + k) x.sure⟩ : Fl)) = fun i x => ⟨x.b.take (g (i + (k + 1)) x.sure), g (i + (k + 1)) x.sure⟩ := by
        funext i x
        rw [show i + 1 + k = i + (k + 1) by omega]
      rw [e]
      omega
  have := key S.files (fun i s => s + moreSum (stay S.acts keep t) i) 0
  unfold Dk.bulk Dk.crash
  simp only [List.length_mapIdx, List.length_nil]
  simp only [Nat.add_zero] at this
  omega
end Go.Proofs.Ytlejgdjkdbamkaa

namespace Go.Proofs.Ytlejgdjkdbamkaa
open Go.RowKit

def newCells (room : Int) : Array Value := #[.int .i64 room, .int .i64 0, .map none, .map none, .slice none 0 0, .int .i64 0, .bool false, .int .i64 0, .map none]
theorem new_lies (w : World) (room : Nat) (hr : room < 9223372036854775808) : ∃ G, Rep (w.alloc (.cells (newCells room) 66)) (· = w.heap.size) w.heap.size (Dk.new room) G :=
  ⟨{ fb := fun _ => 0, rv := fun _ => .nilFunc, sv := fun _ => .nilFunc, now := none, sure := none, fls := none, lv := .slice none 0 0, cv := 0, vs := [] },
    { ok := ok_new room
      disk := heap_last w _
      inD := rfl
      roomy := hr
      cutv := fun c e => by cases e
      now := rfl
      sure := rfl
      both := Iff.rfl
      bare := fun _ => rfl
      fails := ⟨[], rfl, fun k _ => by show false = true ↔ _; simp⟩
      two := fun b e => by cases e
      three := fun b e => by cases e
      row := ⟨rfl, Or.inl ⟨rfl, rfl⟩⟩
      rowF := fun k hk => by cases hk
      many := rfl
      acts := fun j a p ha => by cases ha
      files := fun i hi => by rcases hi with (hi | hi) | hi <;> cases hi
      inj := fun i j hi => by rcases hi with (hi | hi) | hi <;> cases hi
      bytes := fun i f hi => by rcases hi with hi | hi <;> cases hi
      apart := fun i j k hi => by rcases hi with hi | hi <;> cases hi }⟩

set_option maxRecDepth 20000 in
theorem new_bad (w : World) (room : Int) (hr : room < 0) : Calls Try.prog 10 #[.int .i64 room] w fun e w' => e = .returned (.tuple #[.pointer none, .int .i64 2]) ∧ w' = w := by
  go_enter Try.func10, Try.ntmps10
  go_wp2
  go_ret2
  exact ⟨rfl, rfl⟩

set_option maxRecDepth 20000 in
theorem new_rep (w : World) (room : Nat) (hr : room < 9223372036854775808) : Calls Try.prog 10 #[.int .i64 (room : Int)] w fun e w' => ∃ G, e = .returned (.tuple #[.pointer (some ⟨w.heap.size, 0, none⟩), .int .i64 0]) ∧ Rep w' (· = w.heap.size) w.heap.size (Dk.new room) G ∧ Chg (fun _ => False) w w' := by
  obtain ⟨G, hG⟩ := new_lies w room hr
  unfold newCells at hG
  have HG := hide hG
  have h0 : ¬ ((room : Int) < 0) := by omega
  clear hG
  go_enter Try.func10, Try.ntmps10
  go_wp2
  go_ret2
  exact ⟨rfl, ⟨G, HG.out⟩, (Chg.refl _ w).alloc _⟩
end Go.Proofs.Ytlejgdjkdbamkaa

namespace Go.Proofs.Ytlejgdjkdbamkaa
open Go.RowKit
variable {B : Nat} {w w' : World} {F : Nat → Prop} {d : Nat} {S : Dk}

variable {G : Gh}
/-- Append, told once more: only bytes that are there must lie beside the disk. -/
theorem append_rep2 (h : Rep w F d S G) (n : Nm) {v : Value} {b : List UInt8} (hb : S.bulk + b.length + 3 < 1099511627776) (hv : Sl w v b) (hvF : b ≠ [] → ∀ g, v.ownBlock = some g → ¬ F g) :
    Calls Try.prog 18 #[.pointer (some ⟨d, 0, none⟩), .string (strB n), v] w fun e w' => e = .returned (.int .i64 (S.append n b).2) ∧ ∃ G', Rep w' (Fx F w w') d (S.append n b).1 G' ∧ Chg F w w' := by
  have hnl := n_le S
  unfold Dk.append
  by_cases hon : S.on = false
  · rw [if_pos hon]
    refine (append_off h hon n v).mono ?_
    rintro e w' ⟨he, hr, hc⟩
    exact ⟨he, G, hr.mono fun k hk => Or.inl hk, hc.mono fun _ _ f => f.elim⟩
  rw [if_neg hon]
  have hon' : S.on = true := by simpa using hon
  by_cases hn : isNm n = false
  · rw [if_pos hn]
    exact append_name h hon' (by omega) n hn v
  rw [if_neg hn]
  have hn' : isNm n = true := by simpa using hn
  by_cases hf : b ≠ [] ∧ S.room < S.used + b.length
  · rw [if_pos hf]
    exact append_full h hon' n hn' (by omega) hv hf.1 hf.2
  rw [if_neg hf]
  by_cases hne : b = []
  · subst hne
    obtain ⟨ao, cap, rfl, _⟩ := hv
    by_cases hfl : S.fails S.n = true
    · rw [if_pos hfl]
      exact append_io_nil h hon' n hn' (by omega) ao cap hfl
    rw [if_neg hfl]
    have hfl' : S.fails S.n = false := by simpa using hfl
    unfold Dk.app
    cases hl : look S.next.dir n with
    | none =>
      simp only [if_true]
      exact append_nil_new h hon' n hn' (by simp at hb; omega) ao cap hfl' hl
    | some f =>
      simp only [if_true]
      exact append_nil_old h hon' n hn' (by omega) ao cap hfl' hl
  · have hroom : S.used + b.length ≤ S.room := by
      refine Nat.le_of_not_lt fun hh => hf ⟨hne, hh⟩
    by_cases hfl : S.fails S.n = true
    · rw [if_pos hfl]
      exact append_io_some h hon' n hn' (by omega) hv hne hroom hfl
    rw [if_neg hfl]
    have hfl' : S.fails S.n = false := by simpa using hfl
    unfold Dk.app
    cases hl : look S.next.dir n with
    | none =>
      simp only [if_neg hne]
      exact append_some_new h hon' n hn' hb hv (hvF hne) hne hroom hfl' hl
    | some f =>
      simp only [if_neg hne]
      exact append_some_old h hon' n hn' hb hv (hvF hne) hne hroom hfl' hl
/-- At d lies a disk that is S, in blocks F, made since B. -/
def Stands (B : Nat) (w : World) (F : Nat → Prop) (d : Nat) (S : Dk) : Prop := (∃ G, Rep w F d S G) ∧ (∀ k, F k → B ≤ k ∧ k < w.heap.size) ∧ Named S
/-- Behind a call on it. -/
def After (B : Nat) (w : World) (F : Nat → Prop) (d : Nat) (S : Dk) (w' : World) : Prop := ∃ F', Stands B w' F' d S ∧ (∀ k, F' k → F k ∨ w.heap.size ≤ k) ∧ Chg F w w'

theorem Stands.ok (h : Stands B w F d S) : Ok S := by
  obtain ⟨⟨G, h⟩, _⟩ := h
  exact h.ok
theorem Stands.keep {X : Nat → Prop} (h : Stands B w F d S) (hc : Chg X w w') (hX : ∀ k, F k → ¬ X k) : Stands B w' F d S := by
  obtain ⟨⟨G, h1⟩, h2, h3⟩ := h
  exact ⟨⟨G, h1.keep hc hX (fun _ h => h)⟩, fun k hk => ⟨(h2 k hk).1, Nat.lt_of_lt_of_le (h2 k hk).2 hc.size⟩, h3⟩
theorem Chg.belowB (h : Chg F w w') (hF : ∀ k, F k → B ≤ k) (hB : B ≤ w.heap.size) : Below B w w' := h.below hF hB
theorem Stands.below (h : Stands B w F d S) (hB : B ≤ w.heap.size) (hc : Chg F w w') : Below B w w' := hc.below (fun k hk => (h.2.1 k hk).1) hB

theorem after_of {G' : Gh} {S' : Dk} (h : Stands B w F d S) (hB : B ≤ w.heap.size) (hr : Rep w' (Fx F w w') d S' G') (hc : Chg F w w') (hn : Named S') : After B w F d S' w' := by
  refine ⟨Fx F w w', ⟨⟨G', hr⟩, fun k hk => ?_, hn⟩, fun k hk => ?_, hc⟩
  · rcases hk with hk | hk
    · exact ⟨(h.2.1 k hk).1, Nat.lt_of_lt_of_le (h.2.1 k hk).2 hc.size⟩
    · exact ⟨Nat.le_trans hB hk.1, hk.2⟩
  · rcases hk with hk | hk
    · exact Or.inl hk
    · exact Or.inr hk.1

theorem append_lies (h : Stands B w F d S) (hB : B ≤ w.heap.size) (n : Nm) {v : Value} {b : List UInt8} (hb : S.bulk + b.length + 3 < 1099511627776) (hv : Sl w v b) (hvF : b ≠ [] → ∀ g, v.ownBlock = some g → ¬ F g) :
    Calls Try.prog 18 #[.pointer (some ⟨d, 0, none⟩), .string (strB n), v] w fun e w' => e = .returned (.int .i64 (S.append n b).2) ∧ After B w F d (S.append n b).1 w' := by
  have h0 := h
  obtain ⟨⟨G, hr⟩, h2, h3⟩ := h
  refine (append_rep2 hr n hb hv hvF).mono ?_
  rintro e w' ⟨rfl, G', hr', hc⟩
  exact ⟨rfl, after_of h0 hB hr' hc (h3.append n b)⟩
theorem sync_lies (h : Stands B w F d S) (hB : B ≤ w.heap.size) (n : Nm) (hb : S.bulk + 1 < 1099511627776) :
    Calls Try.prog 20 #[.pointer (some ⟨d, 0, none⟩), .string (strB n)] w fun e w' => e = .returned (.int .i64 (S.sync n).2) ∧ After B w F d (S.sync n).1 w' := by
  have h0 := h
  obtain ⟨⟨G, hr⟩, h2, h3⟩ := h
  refine (sync_rep hr hb n).mono ?_
  rintro e w' ⟨rfl, G', hr', hc⟩
  exact ⟨rfl, after_of h0 hB hr' hc (h3.sync n)⟩
theorem syncDir_lies (h : Stands B w F d S) (hB : B ≤ w.heap.size) (hb : S.bulk + 1 < 1099511627776) :
    Calls Try.prog 21 #[.pointer (some ⟨d, 0, none⟩)] w fun e w' => e = .returned (.int .i64 S.syncDir.2) ∧ After B w F d S.syncDir.1 w' := by
  have h0 := h
  obtain ⟨⟨G, hr⟩, h2, h3⟩ := h
  refine (syncDir_rep hr hb).mono ?_
  rintro e w' ⟨rfl, G', hr', hc⟩
  exact ⟨rfl, after_of h0 hB hr' hc (h3.syncDir hr.ok)⟩
theorem rename_lies (h : Stands B w F d S) (hB : B ≤ w.heap.size) (a b : Nm) (hb : S.bulk + 1 < 1099511627776) :
    Calls Try.prog 23 #[.pointer (some ⟨d, 0, none⟩), .string (strB a), .string (strB b)] w fun e w' => e = .returned (.int .i64 (S.rename a b).2) ∧ After B w F d (S.rename a b).1 w' := by
  have h0 := h
  obtain ⟨⟨G, hr⟩, h2, h3⟩ := h
  refine (rename_rep hr (fun k hk => (h2 k hk).2) hb a b).mono ?_
  rintro e w' ⟨rfl, G', hr', hc⟩
  exact ⟨rfl, after_of h0 hB hr' hc (h3.rename a b)⟩
theorem remove_lies (h : Stands B w F d S) (hB : B ≤ w.heap.size) (n : Nm) (hb : S.bulk + 1 < 1099511627776) :
    Calls Try.prog 17 #[.pointer (some ⟨d, 0, none⟩), .string (strB n)] w fun e w' => e = .returned (.int .i64 (S.remove n).2) ∧ After B w F d (S.remove n).1 w' := by
  have h0 := h
  obtain ⟨⟨G, hr⟩, h2, h3⟩ := h
  refine (remove_rep hr (fun k hk => (h2 k hk).2) hb n).mono ?_
  rintro e w' ⟨rfl, G', hr', hc⟩
  exact ⟨rfl, after_of h0 hB hr' hc (h3.remove n)⟩
theorem failAt_lies (h : Stands B w F d S) (hB : B ≤ w.heap.size) {v : Value} {ks : List Int} (hv : Is w v ks) (hvF : ∀ g, v.ownBlock = some g → ¬ F g) (hks : ks.length ≤ 4611686018427387904) :
    Calls Try.prog 24 #[.pointer (some ⟨d, 0, none⟩), v] w fun e w' => e = .returned (.tuple #[]) ∧ After B w F d (S.failAt ks) w' := by
  have h0 := h
  obtain ⟨⟨G, hr⟩, h2, h3⟩ := h
  refine (failAt_rep hr hv hvF hks).mono ?_
  rintro e w' ⟨rfl, G', hr', hc⟩
  exact ⟨rfl, after_of h0 hB hr' hc (h3.same rfl rfl)⟩
theorem cutAt_lies (h : Stands B w F d S) (hB : B ≤ w.heap.size) (op : Int) :
    Calls Try.prog 30 #[.pointer (some ⟨d, 0, none⟩), .int .i64 op] w fun e w' => e = .returned (.tuple #[]) ∧ After B w F d (S.cutAt op) w' := by
  have h0 := h
  obtain ⟨⟨G, hr⟩, h2, h3⟩ := h
  refine (cutAt_rep hr op).mono ?_
  rintro e w' ⟨rfl, ⟨G', hr'⟩, hc⟩
  exact ⟨rfl, after_of h0 hB (hr'.mono fun k hk => Or.inl hk) hc (h3.same rfl rfl)⟩
theorem ops_lies (h : Stands B w F d S) : Calls Try.prog 25 #[.pointer (some ⟨d, 0, none⟩)] w fun e w' => e = .returned (.int .i64 (S.n : Int)) ∧ w' = w := by
  obtain ⟨⟨G, hr⟩, _⟩ := h
  exact ops_rep hr
theorem loose_lies (h : Stands B w F d S) : Calls Try.prog 28 #[.pointer (some ⟨d, 0, none⟩)] w fun e w' => e = .returned (.int .i64 (S.acts.length : Int)) ∧ w' = w := by
  obtain ⟨⟨G, hr⟩, _⟩ := h
  exact loose_rep hr
theorem size_lies (h : Stands B w F d S) (n : Nm) : Calls Try.prog 29 #[.pointer (some ⟨d, 0, none⟩), .string (strB n)] w fun e w' => e = .returned (.int .i64 (S.size n)) ∧ w' = w := by
  obtain ⟨⟨G, hr⟩, _⟩ := h
  exact size_rep hr n
theorem crash_lies (h : Stands B w F d S) (hB : B ≤ w.heap.size) (keep t : Int) (hb : S.bulk < 1099511627776) :
    Calls Try.prog 26 #[.pointer (some ⟨d, 0, none⟩), .int .i64 keep, .int .i64 t] w fun e w' => ∃ d2 F2, e = .returned (.pointer (some ⟨d2, 0, none⟩)) ∧ Stands B w' F2 d2 (S.crash keep t) ∧ (∀ k, F2 k → w.heap.size ≤ k) ∧ Chg (fun _ => False) w w' := by
  obtain ⟨⟨G, hr⟩, h2, h3⟩ := h
  refine (crash_rep hr hb keep t).mono ?_
  rintro e w' ⟨d2, G2, rfl, hr2, hc⟩
  exact ⟨d2, _, rfl, ⟨⟨G2, hr2⟩, fun k hk => ⟨Nat.le_trans hB hk.1, hk.2⟩, h3.crash keep t⟩, fun k hk => hk.1, hc⟩
theorem new_lies2 (w : World) (hB : B ≤ w.heap.size) (room : Nat) (hr : room < 9223372036854775808) : Calls Try.prog 10 #[.int .i64 (room : Int)] w fun e w' => e = .returned (.tuple #[.pointer (some ⟨w.heap.size, 0, none⟩), .int .i64 0]) ∧ Stands B w' (· = w.heap.size) w.heap.size (Dk.new room) ∧ Chg (fun _ => False) w w' := by
  refine (new_rep w room hr).mono ?_
  rintro e w' ⟨G, rfl, hr, hc⟩
  exact ⟨rfl, ⟨⟨G, hr⟩, fun k hk => by rw [hk]; exact ⟨hB, hr.lt⟩, named_new room⟩, hc⟩
theorem read_lies (h : Stands B w F d S) (hB : B ≤ w.heap.size) (n : Nm) (hb : S.bulk < 1099511627776) :
    Calls Try.prog 19 #[.pointer (some ⟨d, 0, none⟩), .string (strB n)] w fun e w' => ∃ v, e = .returned (.tuple #[v, .int .i64 (S.read n).2]) ∧ w'.ownsRow w.heap.size 5 1 v (S.read n).1.length (bc (S.read n).1) ∧
      ∃ F', Stands B w' F' d S.begun ∧ (∀ k, F' k → F k ∨ w.heap.size ≤ k) ∧ Chg F w w' ∧ ∀ k, v.ownBlock = some k → ¬ F' k := by
  obtain ⟨⟨G, hr⟩, h2, h3⟩ := h
  refine (read_rep hr (fun k hk => (h2 k hk).2) hb n).mono ?_
  rintro e w' ⟨v, G', rfl, F', hr', hc, hF', hown, hnot⟩
  refine ⟨v, rfl, hown, F', ⟨⟨G', hr'⟩, fun k hk => ?_, h3.begun⟩, fun k hk => ?_, hc, hnot⟩
  · rcases hF' k hk with h | h
    · exact ⟨(h2 k h).1, Nat.lt_of_lt_of_le (h2 k h).2 hc.size⟩
    · exact ⟨Nat.le_trans hB h.1, h.2⟩
  · rcases hF' k hk with h | h
    · exact Or.inl h
    · exact Or.inr h.1
end Go.Proofs.Ytlejgdjkdbamkaa
