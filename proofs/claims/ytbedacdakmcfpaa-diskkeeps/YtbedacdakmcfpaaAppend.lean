/-
  What Append answers, and does. Condition: a disk within bounds; bytes that do not lie in its own blocks.
-/
import Derived.Test.YtbedacdakmcfpaaAppendRep
namespace Go.Proofs.Ytbedacdakmcfpaa
open Go.RowKit

section
variable {w w' : World} {F : Nat → Prop} {d : Nat} {S : Dk} {G : Gh}

theorem bulk_next (S : Dk) : S.next.bulk = S.bulk + 1 := by unfold Dk.bulk Dk.next; simp only; omega
theorem bulk_mk1 (S : Dk) (n : Nm) : (S.mk1 n).bulk = S.bulk + 2 := by unfold Dk.bulk Dk.mk1; simp; omega
theorem Fx.trans {F : Nat → Prop} {w w1 w2 : World} (h1 : w.heap.size ≤ w1.heap.size) (h2 : w1.heap.size ≤ w2.heap.size) : ∀ k, Fx (Fx F w w1) w1 w2 k → Fx F w w2 k := by
  intro k h
  rcases h with (h | ⟨a, b⟩) | ⟨a, b⟩
  · exact Or.inl h
  · exact Or.inr ⟨a, by omega⟩
  · exact Or.inr ⟨by omega, b⟩
theorem Chg.fx {F : Nat → Prop} {w w1 w2 : World} (h1 : Chg F w w1) (h2 : Chg (Fx F w w1) w1 w2) : Chg F w w2 :=
  h1.trans h2 (fun i hi h => by
    rcases h with h | ⟨a, _⟩
    · exact h
    · omega)

set_option maxRecDepth 20000 in
theorem append_off (h : Rep w F d S G) (hon : S.on = false) (n : Nm) (v : Value) : Calls Try.prog 18 #[.pointer (some ⟨d, 0, none⟩), .string (strB n), v] w fun e w' => e = .returned (.int .i64 35) ∧ Rep w' F d S G ∧ Chg (fun _ => False) w w' := by
  have hbeg := beginOff_rep h hon
  go_enter Try.func18, Try.ntmps18
  go_wp2_with (go_at_call 45; refine hbeg.mono ?_; rintro e w1 ⟨rfl, hr1, hc1⟩)
  go_ret
  exact ⟨rfl, hr1, hc1⟩

set_option maxRecDepth 20000 in
theorem append_name (h : Rep w F d S G) (hon : S.on = true) (hb : S.n < 4611686018427387904) (n : Nm) (hn : isNm n = false) (v : Value) : Calls Try.prog 18 #[.pointer (some ⟨d, 0, none⟩), .string (strB n), v] w fun e w' => e = .returned (.int .i64 30) ∧
    ∃ G', Rep w' (Fx F w w') d S.next G' ∧ Chg F w w' := by
  have hbeg := beginOn_rep0 h hon hb
  have hnm := fun W => isName_any W n
  rw [hn] at hnm
  go_enter Try.func18, Try.ntmps18
  go_wp2_with (first
    | (go_at_call 45; refine hbeg.mono ?_; rintro e w1 ⟨rfl, now, sure, hne, hr1, hc1⟩)
    | (go_at_call 46; refine (hnm _).mono ?_; rintro e w2 ⟨rfl, rfl⟩))
  go_ret
  exact ⟨rfl, _, hr1, hc1⟩

set_option maxRecDepth 20000 in
theorem append_full (h : Rep w F d S G) (hon : S.on = true) (n : Nm) (hn : isNm n = true) {v : Value} {b : List UInt8} (hb : S.bulk + b.length < 1099511627776) (hv : Sl w v b) (hne : b ≠ []) (hfull : S.room < S.used + b.length) : Calls Try.prog 18 #[.pointer (some ⟨d, 0, none⟩), .string (strB n), v] w fun e w' => e = .returned (.int .i64 33) ∧
    ∃ G', Rep w' (Fx F w w') d S.next G' ∧ Chg F w w' := by
  have hnl := n_le S
  have hul := used_le h.ok
  have hbeg := beginOn_rep0 h hon (by omega)
  have hnm := fun W => isName_any W n
  rw [hn] at hnm
  obtain ⟨vb, vo, cap, rfl, hlt, hcell⟩ := hv.some hne
  have hpos : 0 < b.length := List.length_pos_iff.2 hne
  have hg : decide ((0 : Int) < (b.length : Int)) = true := by simpa using hpos
  clear hcell hv
  go_enter Try.func18, Try.ntmps18
  go_wp2_with (first
    | (go_at_call 45; refine hbeg.mono ?_; rintro e w1 ⟨rfl, now, sure, hne, hr1, hc1⟩)
    | (go_at_call 46; refine (hnm _).mono ?_; rintro e w2 ⟨rfl, rfl⟩))
  have hrm := h.roomy
  have hd1 := hr1.disk
  rw [next_cells] at hd1
  have x0 := cell_of hd1 0
  have x1 := cell_of hd1 1
  go_quiet (fail)
  go_wp2
  go_ret
  exact ⟨rfl, _, (hr1.keep ((Chg.refl (fun _ => False) _).drewN _) (fun _ _ h => h) (fun _ h => h)), hc1.drewN _⟩

set_option maxRecDepth 20000 in
set_option maxHeartbeats 400000 in
theorem append_io_some (h : Rep w F d S G) (hon : S.on = true) (n : Nm) (hn : isNm n = true) {v : Value} {b : List UInt8} (hb : S.bulk + b.length < 1099511627776) (hv : Sl w v b) (hne : b ≠ []) (hroom : S.used + b.length ≤ S.room) (hfl : S.fails S.n = true) : Calls Try.prog 18 #[.pointer (some ⟨d, 0, none⟩), .string (strB n), v] w fun e w' => e = .returned (.int .i64 34) ∧
    ∃ G', Rep w' (Fx F w w') d S.next G' ∧ Chg F w w' := by
  have hnl := n_le S
  have hul := used_le h.ok
  have hbeg := beginOn_rep0 h hon (by omega)
  rw [hfl] at hbeg
  have hnm := fun W => isName_any W n
  rw [hn] at hnm
  have hv0 := hv
  obtain ⟨vb, vo, cap, rfl, hlt, hcell⟩ := hv.some hne
  have hpos : 0 < b.length := List.length_pos_iff.2 hne
  have hg : decide ((0 : Int) < (b.length : Int)) = true := by simpa using hpos
  have hrm := h.roomy
  have HV := hide hv0
  clear hcell hv hv0
  go_enter Try.func18, Try.ntmps18
  go_wp2_with (first
    | (go_at_call 45; refine hbeg.mono ?_; rintro e w1 ⟨rfl, now, sure, hnn, hr1, hc1⟩)
    | (go_at_call 46; refine (hnm _).mono ?_; rintro e w2 ⟨rfl, rfl⟩))
  have hd1 := hr1.disk
  rw [next_cells] at hd1
  have x0 := cell_of hd1 0
  have x1 := cell_of hd1 1
  go_quiet (fail)
  go_wp2
  go_ret
  exact ⟨rfl, _, (hr1.keep ((Chg.refl (fun _ => False) _).drewN _) (fun _ _ h => h) (fun _ h => h)), hc1.drewN _⟩

set_option maxRecDepth 20000 in
set_option maxHeartbeats 400000 in
theorem append_io_nil (h : Rep w F d S G) (hon : S.on = true) (n : Nm) (hn : isNm n = true) (hb : S.bulk < 1099511627776) (ao : Option Addr) (cap : Nat) (hfl : S.fails S.n = true) : Calls Try.prog 18 #[.pointer (some ⟨d, 0, none⟩), .string (strB n), .slice ao 0 cap] w fun e w' => e = .returned (.int .i64 34) ∧
    ∃ G', Rep w' (Fx F w w') d S.next G' ∧ Chg F w w' := by
  have hnl := n_le S
  have hbeg := beginOn_rep0 h hon (by omega)
  rw [hfl] at hbeg
  have hnm := fun W => isName_any W n
  rw [hn] at hnm
  go_enter Try.func18, Try.ntmps18
  go_wp2_with (first
    | (go_at_call 45; refine hbeg.mono ?_; rintro e w1 ⟨rfl, now, sure, hnn, hr1, hc1⟩)
    | (go_at_call 46; refine (hnm _).mono ?_; rintro e w2 ⟨rfl, rfl⟩))
  have hd1 := hr1.disk
  rw [next_cells] at hd1
  have x0 := cell_of hd1 0
  have x1 := cell_of hd1 1
  go_quiet (fail)
  go_wp2
  go_ret
  exact ⟨rfl, _, (hr1.keep ((Chg.refl (fun _ => False) _).drewN _) (fun _ _ h => h) (fun _ h => h)), hc1.drewN _⟩

theorem now_map {w : World} {F : Nat → Prop} {d : Nat} {S : Dk} {G : Gh} (h : Rep w F d S G) {bn : Nat} (hn : G.now = some bn) (n : Nm) :
    (Instr.lookup 62 (.map (some bn)) (.string (strB n)) false).run Try.prog w = .ok (pv G.fb (look S.dir n)) w := by
  have := h.now
  rw [hn] at this
  exact dir_look this.2 h.ok.sortD n

set_option maxRecDepth 20000 in
set_option maxHeartbeats 400000 in
theorem append_nil_old (h : Rep w F d S G) (hon : S.on = true) (n : Nm) (hn : isNm n = true) (hb : S.bulk < 1099511627776) (ao : Option Addr) (cap : Nat) (hfl : S.fails S.n = false) {f : Nat} (hl : look S.dir n = some f) : Calls Try.prog 18 #[.pointer (some ⟨d, 0, none⟩), .string (strB n), .slice ao 0 cap] w fun e w' => e = .returned (.int .i64 0) ∧
    ∃ G', Rep w' (Fx F w w') d S.next G' ∧ Chg F w w' := by
  have hnl := n_le S
  have hbeg := beginOn_rep0 h hon (by omega)
  rw [hfl] at hbeg
  have hnm := fun W => isName_any W n
  rw [hn] at hnm
  go_enter Try.func18, Try.ntmps18
  go_wp2_with (first
    | (go_at_call 45; refine hbeg.mono ?_; rintro e w1 ⟨rfl, now, sure, hnn, hr1, hc1⟩)
    | (go_at_call 46; refine (hnm _).mono ?_; rintro e w2 ⟨rfl, rfl⟩))
  have hd1 := hr1.disk
  rw [next_cells] at hd1
  have x0 := cell_of hd1 0
  have x1 := cell_of hd1 1
  obtain ⟨bn, rfl⟩ := Option.ne_none_iff_exists'.1 hnn
  go_quiet (fail)
  have hr2 := hr1.keep (F' := Fx F w w2) ((Chg.refl (fun _ => False) w2).drewN nq) (fun _ _ h => h) (fun _ h => h)
  have hc2 : Chg F w (w2.drewN nq) := hc1.drewN _
  have hsz : (w2.drewN nq).heap.size = w2.heap.size := rfl
  generalize w2.drewN nq = W at hr2 hc2 hsz ⊢
  have hd2 := hr2.disk
  rw [next_cells] at hd2
  have y2 := cell_of hd2 2
  have hlk := now_map hr2 rfl n
  rw [show look S.next.dir n = some f from hl] at hlk
  have hlk' : (Instr.lookup 62 (.map (some bn)) (.string (strB n)) false).run Try.prog W = .ok (.pointer (some ⟨G.fb f, 0, none⟩)) W := hlk
  clear hlk
  go_wp2
  go_ret
  exact ⟨rfl, _, hr2.mono (fun k hk => by
    rcases hk with h | h
    · exact Or.inl h
    · exact Or.inr (by rw [hsz]; exact h)), hc2⟩

set_option maxRecDepth 20000 in
set_option maxHeartbeats 400000 in
theorem append_nil_new (h : Rep w F d S G) (hon : S.on = true) (n : Nm) (hn : isNm n = true) (hb : S.bulk + 3 < 1099511627776) (ao : Option Addr) (cap : Nat) (hfl : S.fails S.n = false) (hl : look S.dir n = none) : Calls Try.prog 18 #[.pointer (some ⟨d, 0, none⟩), .string (strB n), .slice ao 0 cap] w fun e w' => e = .returned (.int .i64 0) ∧
    ∃ G', Rep w' (Fx F w w') d (S.next.mk1 n) G' ∧ Chg F w w' := by
  have hnl := n_le S
  have hbeg := beginOn_rep0 h hon (by omega)
  rw [hfl] at hbeg
  have hnm := fun W => isName_any W n
  rw [hn] at hnm
  go_enter Try.func18, Try.ntmps18
  go_wp2_with (first
    | (go_at_call 45; refine hbeg.mono ?_; rintro e w1 ⟨rfl, now, sure, hnn, hr1, hc1⟩)
    | (go_at_call 46; refine (hnm _).mono ?_; rintro e w2 ⟨rfl, rfl⟩))
  have hd1 := hr1.disk
  rw [next_cells] at hd1
  have x0 := cell_of hd1 0
  have x1 := cell_of hd1 1
  obtain ⟨bn, rfl⟩ := Option.ne_none_iff_exists'.1 hnn
  go_quiet (fail)
  have hr2 := hr1.keep (F' := Fx F w w2) ((Chg.refl (fun _ => False) w2).drewN nq) (fun _ _ h => h) (fun _ h => h)
  have hc2 : Chg F w (w2.drewN nq) := hc1.drewN _
  have hsz : (w2.drewN nq).heap.size = w2.heap.size := rfl
  generalize w2.drewN nq = W at hr2 hc2 hsz ⊢
  have hr2 : Rep W (Fx F w W) d S.next { G with now := some bn, sure := sure } := hr2.mono (fun k hk => by
    rcases hk with h | h
    · exact Or.inl h
    · exact Or.inr (by rw [hsz]; exact h))
  clear hsz hd1 x0 x1 hr1 hc1
  have hd2 := hr2.disk
  rw [next_cells] at hd2
  have y2 := cell_of hd2 2
  have hlk := now_map hr2 rfl n
  have hbk := bulk_next S
  rw [show look S.next.dir n = none from hl] at hlk
  have hlk' : (Instr.lookup 62 (.map (some bn)) (.string (strB n)) false).run Try.prog W = .ok (.pointer none) W := hlk
  clear hlk
  have hmk := made_rep hr2 rfl (show look S.next.dir n = none from hl) hn (by omega)
  go_wp2_with (go_at_call 47; refine hmk.mono ?_; rintro e w3 ⟨G', rfl, hr3, hn3, hc3⟩)
  go_ret
  exact ⟨rfl, G', hr3.mono (Fx.trans hc2.size hc3.size), hc2.fx hc3⟩

set_option maxRecDepth 20000 in
set_option maxHeartbeats 400000 in
theorem append_some_old (h : Rep w F d S G) (hon : S.on = true) (n : Nm) (hn : isNm n = true) {v : Value} {b : List UInt8} (hb : S.bulk + b.length + 3 < 1099511627776) (hv : Sl w v b) (hvF : ∀ g, v.ownBlock = some g → ¬ F g) (hne : b ≠ []) (hroom : S.used + b.length ≤ S.room) (hfl : S.fails S.n = false) {f : Nat} (hl : look S.dir n = some f) : Calls Try.prog 18 #[.pointer (some ⟨d, 0, none⟩), .string (strB n), v] w fun e w' => e = .returned (.int .i64 0) ∧
    ∃ G', Rep w' (Fx F w w') d (S.next.ext f b) G' ∧ Chg F w w' := by
  have hnl := n_le S
  have hul := used_le h.ok
  have hbeg := beginOn_rep0 h hon (by omega)
  rw [hfl] at hbeg
  have hnm := fun W => isName_any W n
  rw [hn] at hnm
  have hv0 := hv
  obtain ⟨vb, vo, cap, rfl, hlt, hcell⟩ := hv.some hne
  have hpos : 0 < b.length := List.length_pos_iff.2 hne
  have hg : decide ((0 : Int) < (b.length : Int)) = true := by simpa using hpos
  have hrm := h.roomy
  have HV := hide hv0
  have HVF := hide hvF
  clear hcell hv hv0 hvF
  go_enter Try.func18, Try.ntmps18
  go_wp2_with (first
    | (go_at_call 45; refine hbeg.mono ?_; rintro e w1 ⟨rfl, now, sure, hnn, hr1, hc1⟩)
    | (go_at_call 46; refine (hnm _).mono ?_; rintro e w2 ⟨rfl, rfl⟩))
  have hd1 := hr1.disk
  rw [next_cells] at hd1
  have x0 := cell_of hd1 0
  have x1 := cell_of hd1 1
  obtain ⟨bn, rfl⟩ := Option.ne_none_iff_exists'.1 hnn
  go_quiet (fail)
  have hr2 := hr1.keep (F' := Fx F w w2) ((Chg.refl (fun _ => False) w2).drewN nq) (fun _ _ h => h) (fun _ h => h)
  have hc2 : Chg F w (w2.drewN nq) := hc1.drewN _
  have hsz : (w2.drewN nq).heap.size = w2.heap.size := rfl
  generalize w2.drewN nq = W at hr2 hc2 hsz ⊢
  have hr2 : Rep W (Fx F w W) d S.next { G with now := some bn, sure := sure } := hr2.mono (fun k hk => by
    rcases hk with h | h
    · exact Or.inl h
    · exact Or.inr (by rw [hsz]; exact h))
  clear hsz hd1 x0 x1 hr1 hc1
  have hd2 := hr2.disk
  rw [next_cells] at hd2
  have y2 := cell_of hd2 2
  have hlk := now_map hr2 rfl n
  have hbk := bulk_next S
  rw [show look S.next.dir n = some f from hl] at hlk
  have hlk' : (Instr.lookup 62 (.map (some bn)) (.string (strB n)) false).run Try.prog W = .ok (.pointer (some ⟨G.fb f, 0, none⟩)) W := hlk
  clear hlk
  have hex := extend_rep hr2 (f := f) (look_id (show look S.next.dir n = some f from hl)) (HV.out.keep hc2 HVF.out) hne (by omega)
  go_wp2_with (go_at_call 48; refine hex.mono ?_; rintro e w3 ⟨G', rfl, hr3, hn3, hc3⟩)
  go_ret
  exact ⟨rfl, G', hr3.mono (Fx.trans hc2.size hc3.size), hc2.fx hc3⟩

set_option maxRecDepth 20000 in
set_option maxHeartbeats 400000 in
theorem append_some_new (h : Rep w F d S G) (hon : S.on = true) (n : Nm) (hn : isNm n = true) {v : Value} {b : List UInt8} (hb : S.bulk + b.length + 3 < 1099511627776) (hv : Sl w v b) (hvF : ∀ g, v.ownBlock = some g → ¬ F g) (hne : b ≠ []) (hroom : S.used + b.length ≤ S.room) (hfl : S.fails S.n = false) (hl : look S.dir n = none) : Calls Try.prog 18 #[.pointer (some ⟨d, 0, none⟩), .string (strB n), v] w fun e w' => e = .returned (.int .i64 0) ∧
    ∃ G', Rep w' (Fx F w w') d ((S.next.mk1 n).ext S.files.length b) G' ∧ Chg F w w' := by
  have hnl := n_le S
  have hul := used_le h.ok
  have hbeg := beginOn_rep0 h hon (by omega)
  rw [hfl] at hbeg
  have hnm := fun W => isName_any W n
  rw [hn] at hnm
  have hv0 := hv
  obtain ⟨vb, vo, cap, rfl, hlt, hcell⟩ := hv.some hne
  have hpos : 0 < b.length := List.length_pos_iff.2 hne
  have hg : decide ((0 : Int) < (b.length : Int)) = true := by simpa using hpos
  have hrm := h.roomy
  have HV := hide hv0
  have HVF := hide hvF
  clear hcell hv hv0 hvF
  go_enter Try.func18, Try.ntmps18
  go_wp2_with (first
    | (go_at_call 45; refine hbeg.mono ?_; rintro e w1 ⟨rfl, now, sure, hnn, hr1, hc1⟩)
    | (go_at_call 46; refine (hnm _).mono ?_; rintro e w2 ⟨rfl, rfl⟩))
  have hd1 := hr1.disk
  rw [next_cells] at hd1
  have x0 := cell_of hd1 0
  have x1 := cell_of hd1 1
  obtain ⟨bn, rfl⟩ := Option.ne_none_iff_exists'.1 hnn
  go_quiet (fail)
  have hr2 := hr1.keep (F' := Fx F w w2) ((Chg.refl (fun _ => False) w2).drewN nq) (fun _ _ h => h) (fun _ h => h)
  have hc2 : Chg F w (w2.drewN nq) := hc1.drewN _
  have hsz : (w2.drewN nq).heap.size = w2.heap.size := rfl
  generalize w2.drewN nq = W at hr2 hc2 hsz ⊢
  have hr2 : Rep W (Fx F w W) d S.next { G with now := some bn, sure := sure } := hr2.mono (fun k hk => by
    rcases hk with h | h
    · exact Or.inl h
    · exact Or.inr (by rw [hsz]; exact h))
  clear hsz hd1 x0 x1 hr1 hc1
  have hd2 := hr2.disk
  rw [next_cells] at hd2
  have y2 := cell_of hd2 2
  have hlk := now_map hr2 rfl n
  have hbk := bulk_next S
  rw [show look S.next.dir n = none from hl] at hlk
  have hlk' : (Instr.lookup 62 (.map (some bn)) (.string (strB n)) false).run Try.prog W = .ok (.pointer none) W := hlk
  clear hlk
  have hmk := made_rep hr2 rfl (show look S.next.dir n = none from hl) hn (by omega)
  go_wp2_with (first
    | (go_at_call 47; refine hmk.mono ?_; rintro e w3 ⟨G', rfl, hr3, hn3, hc3⟩; have hex := extend_rep hr3 (f := S.files.length) (ids_mk1.2 (Or.inl rfl)) ((HV.out.keep hc2 HVF.out).keep hc3 (fun g hg hF => by
        rcases hF with h1 | h1
        · exact HVF.out g hg h1
        · have hb0 : g = vb := by injection hg with hg; exact hg.symm
          omega)) hne (by rw [bulk_mk1]; omega))
    | (go_at_call 48; refine hex.mono ?_; rintro e w4 ⟨G'', rfl, hr4, hn4, hc4⟩))
  go_ret
  have hc34 := hc2.fx hc3
  have hr4' := hr4.mono (fun k hk => by
    rcases hk with h | h
    · exact Or.inl (Fx.trans hc2.size hc3.size k h)
    · exact Or.inr h : ∀ k, _ → Fx (Fx F w w3) w3 w4 k)
  exact ⟨rfl, G'', hr4'.mono (Fx.trans hc34.size hc4.size), hc34.fx (hc4.mono fun k _ hk => Fx.trans hc2.size hc3.size k hk)⟩

/-- Append. -/
theorem append_rep (h : Rep w F d S G) (n : Nm) {v : Value} {b : List UInt8} (hb : S.bulk + b.length + 3 < 1099511627776) (hv : Sl w v b) (hvF : ∀ g, v.ownBlock = some g → ¬ F g) :
    Calls Try.prog 18 #[.pointer (some ⟨d, 0, none⟩), .string (strB n), v] w fun e w' => e = .returned (.int .i64 (S.append n b).2) ∧ ∃ G', Rep w' (Fx F w w') d (S.append n b).1 G' ∧ Chg F w w' := by
  have hnl := n_le S
  unfold Dk.append
  by_cases hon : S.on = false
  · rw [if_pos hon]
    refine (append_off h hon n v).mono ?_
    rintro e w' ⟨he, hr, hc⟩
    exact ⟨he, G, hr.mono fun k hk => Or.inl hk, hc.mono fun _ _ f => f.elim⟩
  rw [if_neg hon]
  have hon' : S.on = true := by simpa using hon
  by_cases hn : isNm n = false
  · rw [if_pos hn]
    exact append_name h hon' (by omega) n hn v
  rw [if_neg hn]
  have hn' : isNm n = true := by simpa using hn
  by_cases hf : b ≠ [] ∧ S.room < S.used + b.length
  · rw [if_pos hf]
    exact append_full h hon' n hn' (by omega) hv hf.1 hf.2
  rw [if_neg hf]
  by_cases hne : b = []
  · subst hne
    obtain ⟨ao, cap, rfl, _⟩ := hv
    by_cases hfl : S.fails S.n = true
    · rw [if_pos hfl]
      exact append_io_nil h hon' n hn' (by omega) ao cap hfl
    rw [if_neg hfl]
    have hfl' : S.fails S.n = false := by simpa using hfl
    unfold Dk.app
    cases hl : look S.next.dir n with
    | none =>
      simp only [if_true]
      exact append_nil_new h hon' n hn' (by simp at hb; omega) ao cap hfl' hl
    | some f =>
      simp only [if_true]
      exact append_nil_old h hon' n hn' (by omega) ao cap hfl' hl
  · have hroom : S.used + b.length ≤ S.room := by
      refine Nat.le_of_not_lt fun hh => hf ⟨hne, hh⟩
    by_cases hfl : S.fails S.n = true
    · rw [if_pos hfl]
      exact append_io_some h hon' n hn' (by omega) hv hne hroom hfl
    rw [if_neg hfl]
    have hfl' : S.fails S.n = false := by simpa using hfl
    unfold Dk.app
    cases hl : look S.next.dir n with
    | none =>
      simp only [if_neg hne]
      exact append_some_new h hon' n hn' hb hv hvF hne hroom hfl' hl
    | some f =>
      simp only [if_neg hne]
      exact append_some_old h hon' n hn' hb hv hvF hne hroom hfl' hl
end
end Go.Proofs.Ytbedacdakmcfpaa
