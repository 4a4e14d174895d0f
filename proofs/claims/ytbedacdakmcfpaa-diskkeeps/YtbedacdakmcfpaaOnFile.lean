/-
  How an operation on a file that must be there begins; what Read answers. Condition: a disk within bounds.
-/
import Derived.Test.YtbedacdakmcfpaaAppend
namespace Go.Proofs.Ytbedacdakmcfpaa
open Go.RowKit

section
variable {w w' : World} {F : Nat → Prop} {d : Nat} {S : Dk} {G : Gh}

set_option maxRecDepth 20000 in
theorem on_off (h : Rep w F d S G) (hon : S.on = false) (n : Nm) : Calls Try.prog 40 #[.pointer (some ⟨d, 0, none⟩), .string (strB n)] w fun e w' => e = .returned (.tuple #[.pointer none, .bool false, .int .i64 35]) ∧ Rep w' F d S G ∧ Chg (fun _ => False) w w' := by
  have hbeg := beginOff_rep h hon
  go_enter Try.func40, Try.ntmps40
  go_wp2_with (go_at_call 45; refine hbeg.mono ?_; rintro e w1 ⟨rfl, hr1, hc1⟩)
  go_ret3
  exact ⟨rfl, hr1, hc1⟩

set_option maxRecDepth 20000 in
theorem on_name (h : Rep w F d S G) (hon : S.on = true) (hb : S.n < 4611686018427387904) (n : Nm) (hn : isNm n = false) : Calls Try.prog 40 #[.pointer (some ⟨d, 0, none⟩), .string (strB n)] w fun e w' => e = .returned (.tuple #[.pointer none, .bool false, .int .i64 30]) ∧
    ∃ G', Rep w' (Fx F w w') d S.next G' ∧ Chg F w w' := by
  have hbeg := beginOn_rep0 h hon hb
  have hnm := fun W => isName_any W n
  rw [hn] at hnm
  go_enter Try.func40, Try.ntmps40
  go_wp2_with (first
    | (go_at_call 45; refine hbeg.mono ?_; rintro e w1 ⟨rfl, now, sure, hne, hr1, hc1⟩)
    | (go_at_call 46; refine (hnm _).mono ?_; rintro e w2 ⟨rfl, rfl⟩))
  go_ret3
  exact ⟨rfl, _, hr1, hc1⟩

set_option maxRecDepth 20000 in
theorem on_none (h : Rep w F d S G) (hon : S.on = true) (hb : S.n < 4611686018427387904) (n : Nm) (hn : isNm n = true) (hl : look S.dir n = none) : Calls Try.prog 40 #[.pointer (some ⟨d, 0, none⟩), .string (strB n)] w fun e w' => e = .returned (.tuple #[.pointer none, .bool false, .int .i64 32]) ∧
    ∃ G', Rep w' (Fx F w w') d S.next G' ∧ Chg F w w' := by
  have hbeg := beginOn_rep0 h hon hb
  have hnm := fun W => isName_any W n
  rw [hn] at hnm
  go_enter Try.func40, Try.ntmps40
  go_wp2_with (first
    | (go_at_call 45; refine hbeg.mono ?_; rintro e w1 ⟨rfl, now, sure, hne, hr1, hc1⟩; obtain ⟨bn, rfl⟩ := Option.ne_none_iff_exists'.1 hne; have hd1 := hr1.disk; rw [next_cells] at hd1; have x2 := cell_of hd1 2; have hlk := now_map hr1 rfl n; rw [show look S.next.dir n = none from hl] at hlk; have hlk' : (Instr.lookup 62 (.map (some bn)) (.string (strB n)) false).run Try.prog w1 = .ok (.pointer none) w1 := hlk; clear hlk)
    | (go_at_call 46; refine (hnm _).mono ?_; rintro e w2 ⟨rfl, hw2⟩; subst hw2))
  go_ret3
  exact ⟨rfl, _, hr1, hc1⟩

set_option maxRecDepth 20000 in
theorem on_ok (h : Rep w F d S G) (hon : S.on = true) (hb : S.n < 4611686018427387904) (n : Nm) (hn : isNm n = true) {f : Nat} (hl : look S.dir n = some f) : Calls Try.prog 40 #[.pointer (some ⟨d, 0, none⟩), .string (strB n)] w fun e w' =>
    ∃ G', e = .returned (.tuple #[.pointer (some ⟨G'.fb f, 0, none⟩), .bool (S.fails S.n), .int .i64 0]) ∧ Rep w' (Fx F w w') d S.next G' ∧ Chg F w w' := by
  have hbeg := beginOn_rep0 h hon hb
  have hnm := fun W => isName_any W n
  rw [hn] at hnm
  go_enter Try.func40, Try.ntmps40
  go_wp2_with (first
    | (go_at_call 45; refine hbeg.mono ?_; rintro e w1 ⟨rfl, now, sure, hne, hr1, hc1⟩; obtain ⟨bn, rfl⟩ := Option.ne_none_iff_exists'.1 hne; have hd1 := hr1.disk; rw [next_cells] at hd1; have x2 := cell_of hd1 2; have hlk := now_map hr1 rfl n; rw [show look S.next.dir n = some f from hl] at hlk; have hlk' : (Instr.lookup 62 (.map (some bn)) (.string (strB n)) false).run Try.prog w1 = .ok (.pointer (some ⟨G.fb f, 0, none⟩)) w1 := hlk; clear hlk)
    | (go_at_call 46; refine (hnm _).mono ?_; rintro e w2 ⟨rfl, hw2⟩; subst hw2))
  go_ret3
  exact ⟨{ G with now := some bn, sure := sure }, rfl, hr1, hc1⟩

/-- beginOn, in one. -/
theorem on_rep (h : Rep w F d S G) (hb : S.bulk < 1099511627776) (n : Nm) : Calls Try.prog 40 #[.pointer (some ⟨d, 0, none⟩), .string (strB n)] w fun e w' => ∃ G', Rep w' (Fx F w w') d S.begun G' ∧ Chg F w w' ∧
    ((∃ er, S.onFile n = .error er ∧ er ≠ 0 ∧ e = .returned (.tuple #[.pointer none, .bool false, .int .i64 er])) ∨
     (∃ f fl, S.onFile n = .ok (f, fl) ∧ look S.dir n = some f ∧ e = .returned (.tuple #[.pointer (some ⟨G'.fb f, 0, none⟩), .bool fl, .int .i64 0]))) := by
  have hnl := n_le S
  unfold Dk.onFile Dk.begun
  by_cases hon : S.on = false
  · simp only [if_pos hon]
    refine (on_off h hon n).mono ?_
    rintro e w' ⟨he, hr, hc⟩
    exact ⟨G, hr.mono fun k hk => Or.inl hk, hc.mono fun _ _ f => f.elim, Or.inl ⟨35, rfl, by omega, he⟩⟩
  simp only [if_neg hon]
  have hon' : S.on = true := by simpa using hon
  by_cases hn : isNm n = false
  · simp only [if_pos hn]
    refine (on_name h hon' (by omega) n hn).mono ?_
    rintro e w' ⟨he, G', hr, hc⟩
    exact ⟨G', hr, hc, Or.inl ⟨30, rfl, by omega, he⟩⟩
  simp only [if_neg hn]
  have hn' : isNm n = true := by simpa using hn
  cases hl : look S.dir n with
  | none =>
    refine (on_none h hon' (by omega) n hn' hl).mono ?_
    rintro e w' ⟨he, G', hr, hc⟩
    exact ⟨G', hr, hc, Or.inl ⟨32, rfl, by omega, he⟩⟩
  | some f =>
    refine (on_ok h hon' (by omega) n hn' hl).mono ?_
    rintro e w' ⟨G', he, hr, hc⟩
    exact ⟨G', hr, hc, Or.inr ⟨f, _, rfl, rfl, he⟩⟩

theorem begun_dir (S : Dk) : S.begun.dir = S.dir ∧ S.begun.files = S.files ∧ S.begun.acts = S.acts ∧ S.begun.sure = S.sure ∧ S.begun.room = S.room := by
  unfold Dk.begun
  split <;> exact ⟨rfl, rfl, rfl, rfl, rfl⟩
theorem bytes_of {S : Dk} {f : Nat} {x : Fl} (h : S.files[f]? = some x) : S.bytes f = x.b := by simp [Dk.bytes, h]

theorem ownsRow_base_le {w : World} {base base' n size : Nat} {e : TypeId} {v : Value} {xs : List Value} (h : w.ownsRow base' e size v n xs) (hb : base ≤ base') : w.ownsRow base e size v n xs := by
  refine ⟨h.1, ?_⟩
  rcases h.2 with h | ⟨g, cap, cur, r1, r2, r⟩
  · exact Or.inl h
  · exact Or.inr ⟨g, cap, cur, r1, Nat.le_trans hb r2, r⟩

/-- What a file has, in memory. -/
theorem Rep.file (h : Rep w F d S G) {n : Nm} {f : Nat} (hl : look S.dir n = some f) : ∃ x, S.files[f]? = some x ∧ S.bytes f = x.b ∧ S.live f ∧ w.heap[G.fb f]? = some (.cells #[G.rv f, .int .i64 (x.sure : Int), .bool true] 95) ∧ w.ownsRow 0 5 1 (G.rv f) x.b.length (bc x.b) := by
  have hi := look_id hl
  have hlv := live_of_dir h.ok hi
  obtain ⟨x, hx⟩ : ∃ x, S.files[f]? = some x := ⟨_, List.getElem?_eq_getElem (h.ok.idD hi)⟩
  obtain ⟨b1, b2, _⟩ := h.bytes f x hlv hx
  have f2 := (h.files f (Or.inl hlv)).2
  rw [b1, decide_eq_true hi] at f2
  exact ⟨x, hx, bytes_of hx, hlv, f2, b2⟩

set_option maxRecDepth 20000 in
set_option maxHeartbeats 400000 in
/-- Read. -/
theorem read_rep (h : Rep w F d S G) (hlow : ∀ k, F k → k < w.heap.size) (hb : S.bulk < 1099511627776) (n : Nm) : Calls Try.prog 19 #[.pointer (some ⟨d, 0, none⟩), .string (strB n)] w fun e w' => ∃ v G', e = .returned (.tuple #[v, .int .i64 (S.read n).2]) ∧ ∃ F', Rep w' F' d S.begun G' ∧ Chg F w w' ∧ (∀ k, F' k → F k ∨ (w.heap.size ≤ k ∧ k < w'.heap.size)) ∧
    w'.ownsRow w.heap.size 5 1 v (S.read n).1.length (bc (S.read n).1) ∧ ∀ k, v.ownBlock = some k → ¬ F' k := by
  have hon := on_rep h hb n
  obtain ⟨rb, hrb⟩ : ∃ rb, rb = (S.read n).1 := ⟨_, rfl⟩
  obtain ⟨re, hre⟩ : ∃ re, re = (S.read n).2 := ⟨_, rfl⟩
  rw [← hrb, ← hre]
  have HB := hide hrb
  have HE := hide hre
  clear hrb hre
  have hbb : ∀ {G' : Gh} {w1 : World} {f : Nat} {x : Fl}, Rep w1 (Fx F w w1) d S.begun G' → S.begun.files[f]? = some x → x.b.length ≤ 70368744177664 := fun {G' w1 f x} hr hx => by
    rw [(begun_dir S).2.1] at hx
    have := file_le hx
    omega
  go_enter Try.func19, Try.ntmps19
  go_wp2_with (first
    | (go_at_call 40; refine hon.mono ?_; rintro e w1 ⟨G', hr, hc, ⟨er, he, hne, rfl⟩ | ⟨f, fl, he, hl, rfl⟩⟩; rotate_left; (obtain ⟨x, hx, hbx, hlx, hfx, hrx⟩ := hr.file (n := n) (f := f) (by rw [(begun_dir S).1]; exact hl)); (have c0 := cell_of hfx 0); rotate_left)
    | (go_at_call 49; refine (clone_any _ _ x.b (sl_of_own hrx) (hbb hr hx)).mono ?_; rintro e w2 ⟨v', rfl, hown, hbel⟩))
  · go_ret2
    have e1 : S.read n = ([], er) := by unfold Dk.read; rw [he]
    rw [HB.out, HE.out, e1]
    exact ⟨_, G', rfl, _, hr, hc, fun k hk => hk, World.ownsRow_nil _ _ _ _, fun k hk => by cases hk⟩
  · rename_i hfl
    go_ret2
    have e1 : S.read n = ([], 34) := by unfold Dk.read; rw [he]; simp [hfl]
    rw [HB.out, HE.out, e1]
    exact ⟨_, G', rfl, _, hr, hc, fun k hk => hk, World.ownsRow_nil _ _ _ _, fun k hk => by cases hk⟩
  · rename_i hfl
    go_ret2
    have e1 : S.read n = (x.b, 0) := by
      unfold Dk.read
      rw [he]
      have e2 : S.bytes f = x.b := by
        rw [(begun_dir S).2.1] at hx
        exact bytes_of hx
      simp [hfl, e2]
    rw [HB.out, HE.out, e1]
    have hcb := Chg.of_below hbel
    refine ⟨_, G', rfl, Fx F w w1, hr.keep hcb (fun k hk hle => ?_) (fun _ h => h), hc.trans hcb (fun i hi hle => ?_), fun k hk => hk.imp_right fun h => ⟨h.1, Nat.lt_of_lt_of_le h.2 hbel.size⟩, ownsRow_base_le hown hc.size, fun k hk hF => ?_⟩
    · have h0 := hc.size
      rcases hk with h1 | h1
      · have := hlow k h1
        omega
      · omega
    · have := hc.size
      omega
    · have h1 := (hown.lt k hk).1
      rcases hF with h2 | h2
      · have := hlow k h2
        have := hc.size
        omega
      · omega
end
end Go.Proofs.Ytbedacdakmcfpaa
