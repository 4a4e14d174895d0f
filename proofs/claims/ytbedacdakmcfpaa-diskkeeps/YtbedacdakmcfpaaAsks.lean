/-
  What Size, Ops and Loose answer; SetRoom, CutAt, New. Condition: a disk within bounds.
-/
import Derived.Test.YtbedacdakmcfpaaCrashRun
namespace Go.Proofs.Ytbedacdakmcfpaa
open Go.RowKit

section
variable {w w' : World} {F : Nat → Prop} {d : Nat} {S : Dk} {G : Gh}

set_option maxRecDepth 20000 in
theorem ops_rep (h : Rep w F d S G) : Calls Try.prog 25 #[.pointer (some ⟨d, 0, none⟩)] w fun e w' => e = .returned (.int .i64 (S.n : Int)) ∧ w' = w := by
  have hd := h.disk
  unfold dcells at hd
  have x5 := cell_of hd 5
  go_enter Try.func25, Try.ntmps25
  go_wp2
  go_ret
  exact ⟨rfl, rfl⟩

set_option maxRecDepth 20000 in
theorem loose_rep (h : Rep w F d S G) : Calls Try.prog 28 #[.pointer (some ⟨d, 0, none⟩)] w fun e w' => e = .returned (.int .i64 (S.acts.length : Int)) ∧ w' = w := by
  have hd := h.disk
  unfold dcells at hd
  obtain ⟨a, cap, hlv⟩ := own_shape h.row
  rw [h.many] at hlv
  rw [hlv] at hd
  have x4 := cell_of hd 4
  clear hlv hd
  go_enter Try.func28, Try.ntmps28
  go_wp2
  go_ret
  exact ⟨rfl, rfl⟩

set_option maxRecDepth 20000 in
theorem size_rep (h : Rep w F d S G) (n : Nm) : Calls Try.prog 29 #[.pointer (some ⟨d, 0, none⟩), .string (strB n)] w fun e w' => e = .returned (.int .i64 (S.size n)) ∧ w' = w := by
  have hd := h.disk
  unfold dcells at hd
  have x2 := cell_of hd 2
  have hlk : (Instr.lookup 62 (.map G.now) (.string (strB n)) false).run Try.prog w = .ok (pv G.fb (look S.dir n)) w := by
    cases e : G.now with
    | some b => exact now_map h e n
    | none =>
      have hm := h.now
      rw [e] at hm
      have h2 : dv G.fb S.dir = [] := hm
      have h3 : S.dir = [] := List.map_eq_nil_iff.1 h2
      rw [h3]
      exact dir_look_nil w n
  unfold Dk.size
  cases hl : look S.dir n with
  | none =>
    rw [hl] at hlk
    have hlk' : (Instr.lookup 62 (.map G.now) (.string (strB n)) false).run Try.prog w = .ok (.pointer none) w := hlk
    clear hlk
    go_enter Try.func29, Try.ntmps29
    go_wp2
    go_ret
    exact ⟨rfl, rfl⟩
  | some f =>
    rw [hl] at hlk
    have hlk' : (Instr.lookup 62 (.map G.now) (.string (strB n)) false).run Try.prog w = .ok (.pointer (some ⟨G.fb f, 0, none⟩)) w := hlk
    obtain ⟨x, hx, hbx, hlv, f2, b2⟩ := h.file hl
    obtain ⟨ra, rc, hrv⟩ := own_shape b2
    rw [hrv] at f2
    have y0 := cell_of f2 0
    dsimp only
    rw [hbx]
    clear hlk f2 b2 hrv hbx
    obtain ⟨len, hlen⟩ : ∃ len, len = x.b.length := ⟨_, rfl⟩
    rw [← hlen] at y0 ⊢
    clear hlen
    go_enter Try.func29, Try.ntmps29
    go_wp2
    go_ret
    exact ⟨rfl, rfl⟩

/-- Of a disk, only what it was told is another: the room, the cut, which operations fail. -/
theorem Rep.told {F' : Nat → Prop} (h : Rep w F d S G) (hc : Chg (fun k => k = d ∨ some k = G.fls) w w') {room : Nat} {cut : Option Nat} {fails : Nat → Bool} {cv : Int} {fls : Option Nat} (l' : List Int) (hroom : room < 9223372036854775808) (hcut : ∀ c, cut = some c → cv = (c : Int)) (hF : ∀ k, F k → F' k)
    (hd : w'.heap[d]? = some (.cells (dcells { S with room := room, cut := cut, fails := fails } { G with cv := cv, fls := fls }) 66))
    (hfl : MapO w' F' fls (fv l')) (hl : ∀ k : Nat, S.n ≤ k → (fails k = true ↔ (k : Int) ∈ l')) (h2 : ∀ b, G.now = some b → fls ≠ some b) (h3 : ∀ b, G.sure = some b → fls ≠ some b) :
    Rep w' F' d { S with room := room, cut := cut, fails := fails } { G with cv := cv, fls := fls } where
  ok := ⟨h.ok.sortS, h.ok.valid, h.ok.dir, h.ok.one, h.ok.idS, h.ok.idA, h.ok.idM, h.ok.lens⟩
  disk := hd
  inD := hF d h.inD
  roomy := hroom
  cutv := hcut
  now := h.now.keep hc (fun b e e2 => by
    have hm := h.now
    rw [e] at hm
    rcases e2 with e2 | e2
    · exact hm.2.ne h.disk e2.symm
    · exact (h.two b e).2 e2.symm) hF
  sure := h.sure.keep hc (fun b e e2 => by
    rcases e2 with e2 | e2
    · exact h.ne_sure e e2.symm
    · exact h.three b e e2.symm) hF
  both := h.both
  bare := h.bare
  fails := ⟨l', hfl, hl⟩
  two := fun b e => ⟨(h.two b e).1, h2 b e⟩
  three := h3
  row := own_keep h.row hc (fun k hk e => by
    rcases e with e | e
    · exact h.ne_row hk e
    · obtain ⟨cur, hcur⟩ := own_block h.row hk
      obtain ⟨l, h1, _⟩ := h.fails
      rw [← e] at h1
      exact h1.2.ne hcur rfl)
  rowF := fun k hk => hF k (h.rowF k hk)
  many := h.many
  acts := h.actsKeep hc (by
    obtain ⟨l, h1, _⟩ := h.fails
    exact (spares_cells h.disk (by decide)).or (spares_mapO h1)) hF
  files := fun i hi => by
    obtain ⟨f1, f2⟩ := h.files i hi
    refine ⟨hF _ f1, hc.keep f2 (fun e => ?_)⟩
    rcases e with e | e
    · exact h.ne_file hi e.symm
    · obtain ⟨l, h1, _⟩ := h.fails
      rw [← e] at h1
      exact h1.2.ne f2 rfl
  inj := h.inj
  bytes := fun i f hi hf => by
    obtain ⟨b1, b2, b3⟩ := h.bytes i f hi hf
    refine ⟨b1, own_keep b2 hc (fun k hk e => ?_), fun k hk => hF k (b3 k hk)⟩
    obtain ⟨cur, hcur⟩ := own_block b2 hk
    rcases e with e | e
    · exact ne_tag hcur h.disk (show 5 ≠ 66 by decide) e
    · obtain ⟨l, h1, _⟩ := h.fails
      rw [← e] at h1
      exact h1.2.ne hcur rfl
  apart := h.apart

/-- Told, without a word of failing. -/
theorem Rep.told1 (h : Rep w F d S G) (hc : Chg (· = d) w w') {room : Nat} {cut : Option Nat} {cv : Int} (hroom : room < 9223372036854775808) (hcut : ∀ c, cut = some c → cv = (c : Int))
    (hd : w'.heap[d]? = some (.cells (dcells { S with room := room, cut := cut } { G with cv := cv }) 66)) : Rep w' F d { S with room := room, cut := cut } { G with cv := cv } := by
  obtain ⟨l, h1, h2⟩ := h.fails
  exact h.told (hc.mono fun _ _ e => Or.inl e) l hroom hcut (fun _ h => h) hd (h1.keep hc (fun b e e2 => h.ne_fls e e2.symm) (fun _ h => h)) h2 (fun b e => (h.two b e).2) h.three

set_option maxRecDepth 20000 in
theorem setRoom_rep (h : Rep w F d S G) (r : Int) (hr : r ≤ 9223372036854775807) : Calls Try.prog 33 #[.pointer (some ⟨d, 0, none⟩), .int .i64 r] w fun e w' => e = .returned (.tuple #[]) ∧ Rep w' F d (S.setRoom r) G ∧ Chg F w w' := by
  have hd := h.disk
  unfold dcells at hd
  have t0 := thawed hd 0
  have x0 := cell_of hd 0
  have hfin : ∀ v : Int, v = (r.toNat : Int) → Rep (w.setCell ⟨d, 0, none⟩ (.int .i64 v)) F d (S.setRoom r) G ∧ Chg F w (w.setCell ⟨d, 0, none⟩ (.int .i64 v)) := fun v hv =>
    ⟨h.told1 (chg_set w d 0 _) (room := r.toNat) (cut := S.cut) (cv := G.cv) (by omega) h.cutv (by rw [heap_set hd 0 _, hv]; rfl), (chg_set w d 0 _).mono fun k _ e => by rw [e]; exact h.inD⟩
  have HF := hide hfin
  clear hfin hd h
  rcases Int.lt_or_le r 0 with hlt | hlt
  all_goals
    go_enter Try.func33, Try.ntmps33
    go_wp2
    go_end0
    exact ⟨rfl, HF.out _ (by omega)⟩

set_option maxRecDepth 20000 in
theorem cutAt_rep (h : Rep w F d S G) (op : Int) : Calls Try.prog 30 #[.pointer (some ⟨d, 0, none⟩), .int .i64 op] w fun e w' => e = .returned (.tuple #[]) ∧ (∃ G', Rep w' F d (S.cutAt op) G') ∧ Chg F w w' := by
  have hd := h.disk
  unfold dcells at hd
  have t6 := thawed hd 6
  have t7 := thawed hd 7
  have x6 := cell_of hd 6
  have x7 := cell_of hd 7
  have hfin : ∀ v : Bool, v = decide (0 ≤ op) → (∃ G', Rep ((w.setCell ⟨d, 6, none⟩ (.bool v)).setCell ⟨d, 7, none⟩ (.int .i64 op)) F d (S.cutAt op) G') ∧ Chg F w ((w.setCell ⟨d, 6, none⟩ (.bool v)).setCell ⟨d, 7, none⟩ (.int .i64 op)) := fun v hv => by
    have hc : Chg (· = d) w ((w.setCell ⟨d, 6, none⟩ (.bool v)).setCell ⟨d, 7, none⟩ (.int .i64 op)) := (chg_set w d 6 _).then (chg_set _ d 7 _)
    refine ⟨⟨_, h.told1 hc (room := S.room) (cut := if op < 0 then none else some op.toNat) (cv := op) h.roomy (fun c e => ?_) ?_⟩, hc.mono fun k _ e => by rw [e]; exact h.inD⟩
    · split at e
      · cases e
      · injection e with e
        omega
    · rw [heap_set (heap_set hd 6 _) 7 _, hv]
      unfold dcells
      rcases Int.lt_or_le op 0 with h1 | h1
      · rw [if_pos h1, decide_eq_false (by omega)]
        rfl
      · rw [if_neg (by omega), decide_eq_true h1]
        rfl
  have HF := hide hfin
  clear hfin hd h
  go_enter Try.func30, Try.ntmps30
  go_wp2
  go_end0
  exact ⟨rfl, HF.out _ rfl⟩
end
end Go.Proofs.Ytbedacdakmcfpaa
