/-
  The reference's does, of Append. Conditions: as it says.
-/
import Derived.Test.YtlejgdjkdbamkaaRefDoes
namespace Go.Proofs.Ytlejgdjkdbamkaa
open Go.RowKit

theorem ins_length (n : Nm) (f : Nat) : ∀ l : Dir, (ins n f l).length = l.length + 1
  | [] => rfl
  | p :: r => by
    unfold ins
    split
    · rfl
    · simp [ins_length n f r]
theorem infoFile : (Try.prog.info? 80).map (fun i => (i.zero, i.size, i.bytes)) = some (some (.agg #[.string ⟨#[]⟩, .int .i64 0]), 2, 24) := by kernel_rfl
section
variable {B r : Nat} {w w' : World} {R : Nat → Prop} {S : Dk} {G : Rg}
theorem RR.grownBlk {o : Obj} (h : RR B w R r S G) (hg : (w.alloc o).grownBy w' G.fv.ownBlock) : w'.heap[r]? = some (.cells (rcells S G) 72) := by
  have hA := h.keep (w' := w.alloc o) (X := fun _ => False) ((Chg.refl _ w).alloc o) (fun _ _ h => h)
  refine (Chg.of_grown hg).keep hA.blk (fun e => ?_)
  obtain ⟨c3, hc3⟩ := own_block hA.fls e.symm
  exact ne_tag hA.blk hc3 (show 72 ≠ 80 by decide) rfl
/-- A file more. -/
theorem RR.grown {v' : Value} {o : Obj} (h : RR B w R r S G) (hown : w'.ownsRow B 80 2 v' (S.files.length + 1) (fc S.files ++ [.string (strB []), .int .i64 0])) (hg : (w.alloc o).grownBy w' G.fv.ownBlock) (hloc : v'.ownBlock = G.fv.ownBlock ∨ v'.ownBlock = some (w.alloc o).heap.size) :
    RDone B w R r { S with files := S.files ++ [⟨[], 0⟩] } G.ks (w'.setCell ⟨r, 0, none⟩ v') := by
  have hA := h.keep (w' := w.alloc o) (X := fun _ => False) ((Chg.refl _ w).alloc o) (fun _ _ h => h)
  have hcg := Chg.of_grown hg
  have hB : B ≤ w.heap.size := by have := h.low _ h.self; omega
  have hcA : Chg R w w' := ((Chg.refl R w).alloc o).trans hcg (fun i hi e => h.flsR i e.symm)
  have ne : ∀ {v : Value} {n : Nat} {e : TypeId} {size : Nat} {xs : List Value}, (w.alloc o).ownsRow B e size v n xs → e ≠ 80 → ∀ k, v.ownBlock = some k → ¬ some k = G.fv.ownBlock := fun hr he k hk e => by
    obtain ⟨c2, hc2⟩ := own_block hr hk
    obtain ⟨c3, hc3⟩ := own_block hA.fls e.symm
    exact ne_tag hc2 hc3 (show _ ≠ 80 from he) rfl
  have hblk : w'.heap[r]? = some (.cells (rcells S G) 72) := hcg.keep hA.blk (fun e => by
    obtain ⟨c3, hc3⟩ := own_block hA.fls e.symm
    exact ne_tag hA.blk hc3 (show 72 ≠ 80 by decide) rfl)
  have hcs := chg_set w' r 0 v'
  have nr : ∀ {v : Value} {n : Nat} {e : TypeId} {size : Nat} {xs : List Value}, w'.ownsRow B e size v n xs → e ≠ 72 → ∀ k, v.ownBlock = some k → ¬ k = r := fun hr he k hk e => by
    obtain ⟨c2, hc2⟩ := own_block hr hk
    exact ne_tag hc2 hblk (show _ ≠ 72 from he) e
  have d1 := own_keep hA.dir hcg (ne hA.dir (by decide))
  have s1 := own_keep hA.sur hcg (ne hA.sur (by decide))
  have a1 := own_keep hA.act hcg (ne hA.act (by decide))
  have l1 := own_keep hA.fai hcg (ne hA.fai (by decide))
  have hcall : Chg R w (w'.setCell ⟨r, 0, none⟩ v') := hcA.then (hcs.mono fun _ _ e => e ▸ h.self)
  have hfx : ∀ k, v'.ownBlock = some k → Fx R w (w'.setCell ⟨r, 0, none⟩ v') k := fun k hk => by
    rcases hloc with e | e
    · exact Or.inl (h.flsR k (by rw [← e]; exact hk))
    · have hlt := (own_lt hown k hk).2
      rw [e] at hk
      injection hk with hk
      refine Or.inr ⟨?_, Nat.lt_of_lt_of_le hlt hcs.size⟩
      rw [← hk]
      simp
  refine ⟨{ G with fv := v' }, Fx R w (w'.setCell ⟨r, 0, none⟩ v'), ⟨heap_set hblk 0 _, Or.inl h.self, ?_, hfx, own_keep d1 hcs (nr d1 (by decide)), fun k hk => Or.inl (h.dirR k hk), own_keep s1 hcs (nr s1 (by decide)), fun k hk => Or.inl (h.surR k hk), own_keep a1 hcs (nr a1 (by decide)), fun k hk => Or.inl (h.actR k hk),
    own_keep l1 hcs (nr l1 (by decide)), fun k hk => Or.inl (h.faiR k hk), fun k hk => ?_, h.fails, h.off, h.cut⟩, rfl, fun k hk => hk.imp_right (·.1), hcall⟩
  · show World.ownsRow _ B _ 2 v' (S.files ++ [(⟨[], 0⟩ : Fl)]).length (fc (S.files ++ [(⟨[], 0⟩ : Fl)]))
    rw [fc_append, List.length_append]
    exact own_keep hown hcs (nr hown (by decide))
  · rcases hk with hk | hk
    · exact ⟨(h.low k hk).1, Nat.lt_of_lt_of_le (h.low k hk).2 hcall.size⟩
    · exact ⟨by omega, hk.2⟩
end
theorem RDone.trans {B r : Nat} {w w1 w' : World} {R R1 : Nat → Prop} {S' : Dk} {ks : List Int} (hR1 : ∀ k, R1 k → R k ∨ w.heap.size ≤ k) (hc1 : Chg R w w1) (h2 : RDone B w1 R1 r S' ks w') : RDone B w R r S' ks w' := by
  obtain ⟨G2, R2, h2', hk2, hR2, hc2⟩ := h2
  refine ⟨G2, R2, h2', hk2, fun k hk => ?_, hc1.trans hc2 fun i hi hRi => ?_⟩
  · rcases hR2 k hk with h | h
    · exact hR1 k h
    · exact Or.inr (Nat.le_trans hc1.size h)
  · rcases hR1 i hRi with h | h
    · exact h
    · omega

set_option maxRecDepth 20000 in
set_option maxHeartbeats 3200000 in
theorem does_append {B r : Nat} {R : Nat → Prop} {S : Dk} {G : Rg} (w : World) (h : RR B w R r S G) (hk : Ok S) (n t b : Nm) (hb : S.bulk + b.length + 10 < 1099511627776) :
    Calls Try.prog 65 #[.pointer (some ⟨r, 0, none⟩), .int .i64 0, .int .i64 (idx (look S.dir n)), .string (strB n), .string (strB t), .string (strB b)] w fun e w' => e = .returned (.string ⟨#[]⟩) ∧ RDone B w R r (S.app n b) G.ks w' := by
  have hdl := dir_le hk
  have hal : S.acts.length ≤ S.bulk := by unfold Dk.bulk; omega
  have hfl : S.files.length ≤ S.bulk := by unfold Dk.bulk; omega
  have hsb := strB_size b
  have HH := hide h
  have HK := hide hk
  obtain ⟨i0, hi, hz0, hz1, hz2⟩ := info_parts infoFile
  have hblk := h.blk
  have c0 := cell_of hblk 0
  obtain ⟨fa0, fcap0, hfv0⟩ := own_shape h.fls
  dsimp only [rcells] at c0
  rw [hfv0] at c0
  clear h hk hblk
  go_enter Try.func65, Try.ntmps65
  go_upto_if 17 with fail
  go_cut [2] from 13 to 127 (fun v wx => ∃ (f : Nat) (S1 : Dk) (G1 : Rg) (R1 : Nat → Prop), v = .int .i64 (f : Int) ∧ RR B wx R1 r S1 G1 ∧ G1.ks = G.ks ∧ (∀ k, R1 k → R k ∨ w.heap.size ≤ k) ∧ Chg R w wx ∧ f < S1.files.length ∧ S1.files.length ≤ S.bulk + 1 ∧ S1.acts.length ≤ S.bulk + 1 ∧ S1.dir.length ≤ S.bulk + 1 ∧ (S1.bytes f).length ≤ S.bulk ∧ (if b = [] then S1 else S1.ext f b) = S.app n b)
  case first =>
    cases hl : look S.dir n with
    | some f =>
      dsimp only [idx]
      have hf := HK.out.idD (look_id hl)
      have hin : ¬ (f : Int) < 0 := by omega
      have HL := hide hl
      clear hl
      go_wp2
      go_meet
      refine ⟨f, S, G, R, rfl, HH.out, rfl, fun _ h => Or.inl h, Chg.refl _ _, hf, by omega, by omega, by omega, ?_, ?_⟩
      · rw [bytes_of (List.getElem?_eq_getElem hf)]
        exact file_le (List.getElem?_eq_getElem hf)
      · unfold Dk.app
        rw [HL.out]
    | none =>
      dsimp only [idx]
      have hrow := HH.out.fls
      have hrow2 := hrow.alloc (.cells #[.string ⟨#[]⟩, .int .i64 0] 80)
      have hB : B ≤ w.heap.size := by have := HH.out.low _ HH.out.self; omega
      have hnews : ∀ i u, [Value.string ⟨#[]⟩, .int .i64 0][i]? = some u → (w.alloc (.cells #[.string ⟨#[]⟩, .int .i64 0] 80)).cell? ((⟨w.heap.size, 0, none⟩ : Addr).add i) = some u := by
        intro i u hu
        rw [Addr.add_lit, Nat.zero_add, cell_of (heap_last w _), List.getElem?_toArray]
        exact hu
      have HNE := hide hnews
      have hone : ∀ x ∈ [Value.string ⟨#[]⟩, .int .i64 0], x.oneCell' = true := by
        intro x hx
        simp only [List.mem_cons, List.not_mem_nil, or_false] at hx
        rcases hx with rfl | rfl <;> rfl
      have HON := hide hone
      have HL := hide hl
      clear hnews hone hl
      rw [hfv0] at hrow2
      have HR2 := hide hrow2
      clear hrow hrow2
      go_wp2_with (at_builtin; refine wpList_append_own_at _ rfl (.tmp 27) (.tmp 29) 67 rfl B 80 i0 (.agg #[.string ⟨#[]⟩, .int .i64 0]) 2 24 Try.underlying67 hi hz0 hz1 hz2 rfl (by decide) _ _ _ rfl HR2.out ⟨w.heap.size, 0, none⟩ 1 1 [Value.string ⟨#[]⟩, .int .i64 0] rfl rfl HNE.out HON.out (by unfold maxLen; omega) (by omega) (by simp; omega) ?_; intro v' w1 hown' hgrow hnil hloc; rw [← hfv0] at hgrow hloc; have hb1 := HH.out.grownBlk hgrow; have z0 := cell_of hb1 0; have t0 := thawed hb1 0; obtain ⟨va, vc, rfl⟩ := own_shape hown'; have HO := hide hown'; have HG := hide hgrow; have HLO := hide hloc; clear hown' hgrow hloc hnil hb1)
      obtain ⟨G1, R1, hr1, hks1, hR1, hc1⟩ := HH.out.grown HO.out HG.out HLO.out
      refine (act_any _ hr1 (show S.acts.length < 1099511627776 by omega) (show S.dir.length < 1099511627776 by omega) (.made n S.files.length) HL.out).mono ?_
      rintro e w3 ⟨rfl, G3, hr3, hks3, -, hc3⟩
      have HR3 := hide hr3
      have hc13 : Chg R w w3 := hc1.trans (hr1.chgR hc3) (fun i hi hRi => (hR1 i hRi).elim (fun h => h) (fun h => by omega))
      have hs1 := hc1.size
      have HR1 := hide hR1
      clear hr3 hc3 hr1 hR1 z0 t0 c0
      go_wp2
      go_meet
      refine ⟨S.files.length, S.mk1 n, G3, _, rfl, HR3.out, hks3.trans hks1, fun k hk => ?_, hc13, by simp [Dk.mk1], by simp [Dk.mk1]; omega, by simp [Dk.mk1]; omega, ?_, by simp [Dk.bytes, Dk.mk1], ?_⟩
      · rcases hk with hk | hk
        · exact HR1.out k hk
        · exact Or.inr (Nat.le_trans hs1 hk.1)
      · show (ins n S.files.length S.dir).length ≤ _
        rw [ins_length]
        omega
      · unfold Dk.app
        rw [HL.out]
  case rest =>
    clear c0
    obtain ⟨f, S1, G1, R1, rfl, h1, hk1, hR1, hc1, hf, hfl1, hal1, hdl1, hbl1, hap⟩ := hcut
    by_cases he : b = []
    · rw [if_pos he] at hap
      have hb0 : b.length = 0 := by rw [he]; rfl
      have HD := hide (show RDone B w R r (S.app n b) G.ks wc by rw [← hap]; exact ⟨G1, R1, h1, hk1, hR1, hc1⟩)
      clear hap he h1
      go_wp2
      go_ret
      exact ⟨rfl, HD.out⟩
    · rw [if_neg he] at hap
      have hb0 : 0 < b.length := List.length_pos_iff.2 he
      obtain ⟨fa, fcap, hfv⟩ := own_shape h1.fls
      have hrow := h1.fls
      rw [hfv] at hrow
      obtain ⟨g, rfl, hgB, hgl, hc⟩ := own_pos hrow (by omega)
      have x1 := hc _ _ (fc_at S1.files f hf).1
      rw [bytes_of (List.getElem?_eq_getElem hf)] at hbl1
      have hbk := h1.blk
      rw [rcells, hfv] at hbk
      have d0 := cell_of hbk 0
      have hne : g ≠ r := h1.neF g (by rw [hfv]; rfl)
      obtain ⟨gcur, hgcur⟩ := own_block h1.fls (k := g) (by rw [hfv]; rfl)
      have tg := thawed hgcur (f * 2)
      have hdr := (Chg.refl R1 wc).drew
      obtain ⟨hr2, hc2⟩ := (h1.keep ((Chg.refl (fun _ => False) wc).drew) (fun _ _ h => h)).files hfv (j := f * 2) (u := .string (strB (S1.files[f].b ++ b))) (by omega) (S1.files.modify f fun x => { x with b := x.b ++ b }) (by simp) (fc_b _ _ _ hf _ rfl)
      have hact := act_any _ hr2 (show S1.acts.length < 1099511627776 by omega) (show S1.dir.length < 1099511627776 by omega) (.more f b.length) trivial
      dsimp only [ac] at hact
      have hsz := strB_size S1.files[f].b
      have HR2 := hide hr2
      have HC2 := hide hc2
      have H1 := hide h1
      have HAP := hide hap
      generalize S1.files[f].b = fb at *
      have hf0 : (0 : Int) ≤ (f : Int) := by omega
      have hf1 : (f : Int) < (S1.files.length : Int) := by omega
      have hnz : ¬ 9223372036854775807 < fb.length + b.length := by omega
      have y0 : (wc.drew.setCell ⟨g, f * 2, none⟩ (.string (strB (fb ++ b)))).cell? ⟨r, 0, none⟩ = some (.slice (some ⟨g, 0, none⟩) S1.files.length fcap) := by rw [World.cell?_setCell_far _ _ _ _ hne]; exact d0
      clear hr2 hc2 h1 hbk hrow hc hap he
      go_wp2_with fail
      refine wp_region_held_drew (S := fun W => W.cell? ⟨r, 0, none⟩ = some (.slice (some ⟨g, 0, none⟩) S1.files.length fcap)) (by kernel_rfl) (d0) (fun hHeld => ?_)
      refine takeH (i := 0) (v := ?_) rfl (by kernel_rfl) (by kernel_rfl) (by kernel_rfl) (fun _ _ _ h => h) rfl ?_ hHeld ?_
      rotate_left
      · intro w hS; (try dsimp only at hS); obtain hS0 := hS; go_simp; first | done | (with_reducible rfl)
      try simp only [Act.put, ly1, ly2, ly3]
      refine takeH (i := 1) (v := ?_) rfl (by kernel_rfl) (by kernel_rfl) (by kernel_rfl) (fun _ _ _ h => h) rfl ?_ hHeld ?_
      rotate_left
      · intro w hS; (try dsimp only at hS); obtain hS0 := hS; go_simp; first | done | (with_reducible rfl)
      try simp only [Act.put, ly1, ly2, ly3]
      refine takeH (i := 2) (v := ?_) rfl (by kernel_rfl) (by kernel_rfl) (by kernel_rfl) (fun _ _ _ h => h) rfl ?_ hHeld ?_
      rotate_left
      · intro w hS; (try dsimp only at hS); obtain hS0 := hS; go_simp; first | done | (with_reducible rfl)
      try simp only [Act.put, ly1, ly2, ly3]
      refine takeH (i := 3) (v := ?_) rfl (by kernel_rfl) (by kernel_rfl) (by kernel_rfl) (fun _ _ _ h => h) rfl ?_ hHeld ?_
      rotate_left
      · intro w hS; (try dsimp only at hS); obtain hS0 := hS; go_simp; first | done | (with_reducible rfl)
      try simp only [Act.put, ly1, ly2, ly3]
      refine takeH (i := 4) (v := ?_) rfl (by kernel_rfl) (by kernel_rfl) (by kernel_rfl) (fun _ _ _ h => h) rfl ?_ hHeld ?_
      rotate_left
      · intro w hS; (try dsimp only at hS); obtain hS0 := hS; go_simp; first | done | (with_reducible rfl)
      try simp only [Act.put, ly1, ly2, ly3]
      refine takeH (i := 5) (v := ?_) rfl (by kernel_rfl) (by kernel_rfl) (by kernel_rfl) (fun _ _ _ h => h) rfl ?_ hHeld ?_
      rotate_left
      · intro w hS; (try dsimp only at hS); obtain hS0 := hS; go_simp; first | done | (with_reducible rfl)
      try simp only [Act.put, ly1, ly2, ly3]
      refine takeH (i := 6) (v := ?_) rfl (by kernel_rfl) (by kernel_rfl) (by kernel_rfl) (fun _ _ _ h => h) rfl ?_ hHeld ?_
      rotate_left
      · intro w hS; (try dsimp only at hS); obtain hS0 := hS; go_simp; first | done | (with_reducible rfl)
      try simp only [Act.put, ly1, ly2, ly3]
      refine takeH (i := 7) (v := ?_) rfl (by kernel_rfl) (by kernel_rfl) (by kernel_rfl) (fun _ _ _ h => h) rfl ?_ hHeld ?_
      rotate_left
      · intro w hS; (try dsimp only at hS); obtain hS0 := hS; go_simp; first | done | (with_reducible rfl)
      try simp only [Act.put, ly1, ly2, ly3]
      refine takeH (i := 8) (v := ?_) rfl (by kernel_rfl) (by kernel_rfl) (by kernel_rfl) (fun _ _ _ h => h) rfl ?_ hHeld ?_
      rotate_left
      · intro w hS; (try dsimp only at hS); obtain hS0 := hS; go_simp; first | done | (with_reducible rfl)
      try simp only [Act.put, ly1, ly2, ly3]
      refine takeH (i := 9) (v := ?_) rfl (by kernel_rfl) (by kernel_rfl) (by kernel_rfl) (fun _ _ _ h => h) rfl ?_ hHeld ?_
      rotate_left
      · intro w hS; (try dsimp only at hS); obtain hS0 := hS; go_simp; first | done | (with_reducible rfl)
      try simp only [Act.put, ly1, ly2, ly3]
      refine takeH (i := 10) (v := ?_) rfl (by kernel_rfl) (by kernel_rfl) (by kernel_rfl) (fun _ _ _ h => h) rfl ?_ hHeld ?_
      rotate_left
      · intro w hS; (try dsimp only at hS); obtain hS0 := hS; go_simp; first | done | (with_reducible rfl)
      try simp only [Act.put, ly1, ly2, ly3]
      refine takeH (i := 11) (v := ?_) rfl (by kernel_rfl) (by kernel_rfl) (by kernel_rfl) (fun _ _ _ h => h) rfl ?_ hHeld ?_
      rotate_left
      · intro w hS; (try dsimp only at hS); obtain hS0 := hS; go_simp; first | done | (with_reducible rfl)
      try simp only [Act.put, ly1, ly2, ly3]
      refine takeH (i := 13) (v := ?_) rfl (by kernel_rfl) (by kernel_rfl) (by kernel_rfl) (fun _ _ _ h => h) rfl ?_ hHeld ?_
      rotate_left
      · intro w hS; (try dsimp only at hS); obtain hS0 := hS; go_simp; first | done | (with_reducible rfl)
      try simp only [Act.put, ly1, ly2, ly3]
      refine onlyH (i := 12) rfl (by kernel_rfl) rfl (fun K hK => ?_)
      go_simp
      refine hK.out _ _ (d0) (fun hHeld => ?_)
      clear hK K
      try simp only [Act.put, ly1, ly2, ly3]
      refine takeH (i := 14) (v := ?_) rfl (by kernel_rfl) (by kernel_rfl) (by kernel_rfl) (fun _ _ _ h => h) rfl ?_ hHeld ?_
      rotate_left
      · intro w hS; (try dsimp only at hS); obtain hS0 := hS; go_simp; first | done | (with_reducible rfl)
      try simp only [Act.put, ly1, ly2, ly3]
      rw [str_app]
      refine takeH (i := 15) (v := ?_) rfl (by kernel_rfl) (by kernel_rfl) (by kernel_rfl) (fun _ _ _ h => h) rfl ?_ hHeld ?_
      rotate_left
      · intro w hS; (try dsimp only at hS); obtain hS0 := hS; go_simp; first | done | (with_reducible rfl)
      try simp only [Act.put, ly1, ly2, ly3]
      refine takeH (i := 16) (v := ?_) rfl (by kernel_rfl) (by kernel_rfl) (by kernel_rfl) (fun _ _ _ h => h) rfl ?_ hHeld ?_
      rotate_left
      · intro w hS; (try dsimp only at hS); obtain hS0 := hS; go_simp; first | done | (with_reducible rfl)
      try simp only [Act.put, ly1, ly2, ly3]
      refine onlyH (i := 17) rfl (by kernel_rfl) rfl (fun K hK => ?_)
      go_simp
      refine hK.out _ _ (y0) (fun hHeld => ?_)
      clear hK K
      try simp only [Act.put, ly1, ly2, ly3]
      refine wpAnyH_done (by kernel_rfl) ?_ _
      clear hHeld y0
      go_wp2_with fail
      refine hact.mono ?_
      rintro e w3 ⟨rfl, G3, hr3, hks3, -, hc3⟩
      have q3 := RDone.fresh HR2.out hr3 hks3 hc3
      have q2 := RDone.two H1.out rfl (hdr.then HC2.out) q3
      have HD := hide (show RDone B w R r (S.app n b) G.ks w3 by rw [← HAP.out, ← hk1]; exact RDone.trans hR1 hc1 q2)
      clear q2 q3 hr3 hc3 hact
      go_wp2
      go_ret
      exact ⟨rfl, HD.out⟩
end Go.Proofs.Ytlejgdjkdbamkaa
