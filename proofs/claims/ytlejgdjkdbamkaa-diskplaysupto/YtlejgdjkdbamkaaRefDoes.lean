/-
  The reference's fail (but for Sync), its does. Conditions: as each says.
-/
import Derived.Test.YtlejgdjkdbamkaaJFile
namespace Go.Proofs.Ytlejgdjkdbamkaa
open Go.RowKit
section
variable {B r : Nat} {w w' : World} {R : Nat → Prop} {S : Dk} {G : Rg}
theorem RR.noFx {S' : Dk} {G' : Rg} (h : RR B w' (Fx R w w') r S' G') (h0 : RR B w R r S G) (hz : w'.heap.size = w.heap.size) : RR B w' R r S' G' :=
  h.sup (fun k hk => hk.elim (fun h => h) (fun h => by omega)) (fun k hk => by have := h0.low k hk; omega)
theorem RR.dirSure (h : RR B w R r S G) : RR B (w.setCell ⟨r, 1, none⟩ G.sv) R r { S with dir := S.sure } { G with dv := G.sv } ∧ Chg (· = r) w (w.setCell ⟨r, 1, none⟩ G.sv) := by
  have hc := chg_set w r 1 G.sv
  exact ⟨(h.newRows (S' := { S with dir := S.sure }) (G' := { G with dv := G.sv }) hc (heap_set h.blk 1 _) ⟨rfl, rfl⟩ (own_keep h.sur hc h.neS) (fun k hk => Or.inl (h.surR k hk)) (own_keep h.sur hc h.neS) (fun k hk => Or.inl (h.surR k hk)) (own_keep h.act hc h.neA) (fun k hk => Or.inl (h.actR k hk)) ⟨rfl, rfl, rfl⟩ h.off h.cut).noFx h (by simp [World.setCell]), hc⟩
theorem RR.sureDir (h : RR B w R r S G) : RR B (w.setCell ⟨r, 2, none⟩ G.dv) R r { S with sure := S.dir } { G with sv := G.dv } ∧ Chg (· = r) w (w.setCell ⟨r, 2, none⟩ G.dv) := by
  have hc := chg_set w r 2 G.dv
  exact ⟨(h.newRows (S' := { S with sure := S.dir }) (G' := { G with sv := G.dv }) hc (heap_set h.blk 2 _) ⟨rfl, rfl⟩ (own_keep h.dir hc h.neD) (fun k hk => Or.inl (h.dirR k hk)) (own_keep h.dir hc h.neD) (fun k hk => Or.inl (h.dirR k hk)) (own_keep h.act hc h.neA) (fun k hk => Or.inl (h.actR k hk)) ⟨rfl, rfl, rfl⟩ h.off h.cut).noFx h (by simp [World.setCell]), hc⟩
end
/-- Behind a call of the reference. -/
def RDone (B : Nat) (w : World) (R : Nat → Prop) (r : Nat) (S' : Dk) (ks : List Int) (w' : World) : Prop := ∃ G' R', RR B w' R' r S' G' ∧ G'.ks = ks ∧ (∀ k, R' k → R k ∨ w.heap.size ≤ k) ∧ Chg R w w'
theorem RDone.same {B r : Nat} {w w' : World} {R : Nat → Prop} {S : Dk} {G : Rg} (h : RR B w R r S G) (hc : Chg (fun _ => False) w w') : RDone B w R r S G.ks w' :=
  ⟨G, R, h.keep hc (fun _ _ h => h), rfl, fun _ h => Or.inl h, hc.mono fun _ _ h => h.elim⟩
theorem RDone.own {B r : Nat} {w w' : World} {R : Nat → Prop} {S S' : Dk} {G G' : Rg} (h0 : RR B w R r S G) (h : RR B w' R r S' G') (hk : G'.ks = G.ks) (hc : Chg (· = r) w w') : RDone B w R r S' G.ks w' :=
  ⟨G', R, h, hk, fun _ h => Or.inl h, hc.mono fun _ _ e => e ▸ h0.self⟩
theorem RDone.fresh {B r : Nat} {w w' : World} {R : Nat → Prop} {S S' : Dk} {G G' : Rg} (h0 : RR B w R r S G) (h : RR B w' (Fx R w w') r S' G') (hk : G'.ks = G.ks) (hc : Chg (· = r) w w') : RDone B w R r S' G.ks w' :=
  ⟨G', _, h, hk, fun _ h => h.imp id (·.1), hc.mono fun _ _ e => e ▸ h0.self⟩
theorem RDone.then {B r : Nat} {w w1 w' : World} {R : Nat → Prop} {S1 S' : Dk} {ks : List Int} (h : RDone B w R r S1 ks w1) (h2 : ∀ G1 R1, RR B w1 R1 r S1 G1 → G1.ks = ks → RDone B w1 R1 r S' G1.ks w') : RDone B w R r S' ks w' := by
  obtain ⟨G1, R1, h1, hk1, hR1, hc1⟩ := h
  obtain ⟨G2, R2, h2', hk2, hR2, hc2⟩ := h2 G1 R1 h1 hk1
  refine ⟨G2, R2, h2', hk2.trans hk1, fun k hk => ?_, hc1.trans hc2 fun i hi hRi => ?_⟩
  · rcases hR2 k hk with h | h
    · exact hR1 k h
    · exact Or.inr (Nat.le_trans hc1.size h)
  · rcases hR1 i hRi with h | h
    · exact h
    · omega
theorem RDone.two {B r : Nat} {w w1 w' : World} {R : Nat → Prop} {S S' : Dk} {G : Rg} {ks : List Int} (_h0 : RR B w R r S G) (hk : ks = G.ks) (hc : Chg R w w1) (h2 : RDone B w1 R r S' ks w') : RDone B w R r S' G.ks w' := by
  obtain ⟨G2, R2, h2', hk2, hR2, hc2⟩ := h2
  exact ⟨G2, R2, h2', hk2.trans hk, fun k hk => (hR2 k hk).imp_right fun h => Nat.le_trans hc.size h, hc.then hc2⟩
theorem RR.chgR {B r : Nat} {w w1 : World} {R : Nat → Prop} {S : Dk} {G : Rg} (h : RR B w R r S G) (hc : Chg (· = r) w w1) : Chg R w w1 := hc.mono fun _ _ e => e ▸ h.self

set_option maxRecDepth 20000 in
theorem fail_none {B r : Nat} {R : Nat → Prop} {S : Dk} {G : Rg} (w : World) (h : RR B w R r S G) (kind file : Int) (h2 : kind ≠ 2) (h3 : kind ≠ 3) :
    Calls Try.prog 64 #[.pointer (some ⟨r, 0, none⟩), .int .i64 kind, .int .i64 file] w fun e w' => e = .returned (.tuple #[]) ∧ RDone B w R r S G.ks w' := by
  have b2 : (kind == 2) = false := by simp [h2]
  have b3 : (kind == 3) = false := by simp [h3]
  have HF := hide (RDone.same h (Chg.refl _ w))
  clear h h2 h3
  go_enter Try.func64, Try.ntmps64
  go_wp2
  go_end0
  exact ⟨rfl, HF.out⟩
set_option maxRecDepth 20000 in
set_option maxHeartbeats 800000 in
theorem fail_dir {B r : Nat} {R : Nat → Prop} {S : Dk} {G : Rg} (w : World) (h : RR B w R r S G) (hl : S.acts.length < 1099511627776) (file : Int) :
    Calls Try.prog 64 #[.pointer (some ⟨r, 0, none⟩), .int .i64 3, .int .i64 file] w fun e w' => e = .returned (.tuple #[]) ∧ RDone B w R r S.undoD G.ks w' := by
  obtain ⟨h1, hc1⟩ := h.dirSure
  have hloose := looseA_any _ h1 hl (-1)
  rw [keepA_dir] at hloose
  obtain ⟨sa, scap, hsv⟩ := own_shape h.sur
  have hb := h.blk
  rw [rcells] at hb
  have c1 := cell_of hb 1
  have c2 := cell_of hb 2
  have t1 := thawed hb 1
  have hwB : B ≤ w.heap.size := by have := h.low _ h.self; omega
  rw [hsv] at h1 hc1 hloose c2
  have HH := hide h
  have H1 := hide h1
  have HC1 := hide hc1
  obtain ⟨da, dcap, hdv⟩ := own_shape h.dir
  rw [hdv] at c1
  clear h h1 hc1 hb
  go_enter Try.func64, Try.ntmps64
  go_wp2_with fail
  refine hloose.mono ?_
  rintro e w2 ⟨v2, rfl, hv2, hc2⟩
  obtain ⟨va2, vc2, rfl⟩ := own_shape hv2
  obtain ⟨hr3, hc3⟩ := H1.out.acts hc2 (own_down hv2 (by simp [World.setCell]; omega)) (fun k hk => (own_lt hv2 k hk).1)
  have hb2 := hc2.keep H1.out.blk (fun h => h)
  have c3 := cell_of hb2 3
  have t3 := thawed hb2 3
  dsimp only [rcells] at c3
  have q3 := RDone.fresh H1.out hr3 rfl hc3
  have HR3 := hide (RDone.two HH.out rfl (HH.out.chgR HC1.out) q3)
  clear q3
  clear hr3 hc3 hb2 hv2 hloose
  go_wp2
  go_end0
  exact ⟨rfl, HR3.out⟩

set_option maxRecDepth 20000 in
set_option maxHeartbeats 800000 in
theorem does_syncDir {B r : Nat} {R : Nat → Prop} {S : Dk} {G : Rg} (w : World) (h : RR B w R r S G) (hl : S.acts.length < 1099511627776) (file : Int) (n t b : Nm) :
    Calls Try.prog 65 #[.pointer (some ⟨r, 0, none⟩), .int .i64 3, .int .i64 file, .string (strB n), .string (strB t), .string (strB b)] w fun e w' => e = .returned (.string ⟨#[]⟩) ∧ RDone B w R r S.keepD G.ks w' := by
  obtain ⟨h1, hc1⟩ := h.sureDir
  have hloose := looseA_any _ h1 hl (-1)
  rw [keepA_dir] at hloose
  obtain ⟨da, dcap, hdv⟩ := own_shape h.dir
  have hb := h.blk
  rw [rcells] at hb
  have c1 := cell_of hb 1
  have c2 := cell_of hb 2
  have t2 := thawed hb 2
  have hwB : B ≤ w.heap.size := by have := h.low _ h.self; omega
  rw [hdv] at h1 hc1 hloose c1
  have HH := hide h
  have H1 := hide h1
  have HC1 := hide hc1
  obtain ⟨sa, scap, hsv⟩ := own_shape h.sur
  rw [hsv] at c2
  clear h h1 hc1 hb
  go_enter Try.func65, Try.ntmps65
  go_wp2_with fail
  refine hloose.mono ?_
  rintro e w2 ⟨v2, rfl, hv2, hc2⟩
  obtain ⟨va2, vc2, rfl⟩ := own_shape hv2
  obtain ⟨hr3, hc3⟩ := H1.out.acts hc2 (own_down hv2 (by simp [World.setCell]; omega)) (fun k hk => (own_lt hv2 k hk).1)
  have hb2 := hc2.keep H1.out.blk (fun h => h)
  have c3 := cell_of hb2 3
  have t3 := thawed hb2 3
  dsimp only [rcells] at c3
  have q3 := RDone.fresh H1.out hr3 rfl hc3
  have HR3 := hide (RDone.two HH.out rfl (HH.out.chgR HC1.out) q3)
  clear q3
  clear hr3 hc3 hb2 hv2 hloose
  go_wp2
  go_ret
  exact ⟨rfl, HR3.out⟩

set_option maxRecDepth 20000 in
set_option maxHeartbeats 800000 in
theorem does_remove {B r : Nat} {R : Nat → Prop} {S : Dk} {G : Rg} (w : World) (h : RR B w R r S G) (hl : S.acts.length < 1099511627776) (hld : S.dir.length < 1099511627776) (file : Int) (n t b : Nm) (hn : look S.dir n ≠ none) :
    Calls Try.prog 65 #[.pointer (some ⟨r, 0, none⟩), .int .i64 5, .int .i64 file, .string (strB n), .string (strB t), .string (strB b)] w fun e w' => e = .returned (.string ⟨#[]⟩) ∧ RDone B w R r (S.act (.rem n)) G.ks w' := by
  have hact := act_any w h hl hld (.rem n) hn
  dsimp only [ac] at hact
  go_enter Try.func65, Try.ntmps65
  go_wp2_with fail
  refine hact.mono ?_
  rintro e w2 ⟨rfl, G', hr, hks, -, hc⟩
  have HD := hide (RDone.fresh h hr hks hc)
  clear hr hc hact
  go_wp2
  go_ret
  exact ⟨rfl, HD.out⟩
set_option maxRecDepth 20000 in
set_option maxHeartbeats 800000 in
theorem does_rename {B r : Nat} {R : Nat → Prop} {S : Dk} {G : Rg} (w : World) (h : RR B w R r S G) (hl : S.acts.length < 1099511627776) (hld : S.dir.length < 1099511627776) (file : Int) (n t b : Nm) (hn : look S.dir n ≠ none) :
    Calls Try.prog 65 #[.pointer (some ⟨r, 0, none⟩), .int .i64 4, .int .i64 file, .string (strB n), .string (strB t), .string (strB b)] w fun e w' => e = .returned (.string ⟨#[]⟩) ∧ RDone B w R r (if n = t then S else S.act (.ren n t)) G.ks w' := by
  by_cases he : n = t
  · have hb := nm_eq he
    rw [if_pos he]
    have HD := hide (RDone.same h (Chg.refl _ w))
    clear he
    go_enter Try.func65, Try.ntmps65
    go_wp2
    go_ret
    exact ⟨rfl, HD.out⟩
  · have hb := nm_ne he
    rw [if_neg he]
    have hact := act_any w h hl hld (.ren n t) ⟨hn, he⟩
    dsimp only [ac] at hact
    clear he
    go_enter Try.func65, Try.ntmps65
    go_wp2_with fail
    refine hact.mono ?_
    rintro e w2 ⟨rfl, G', hr, hks, -, hc⟩
    have HD := hide (RDone.fresh h hr hks hc)
    clear hr hc hact
    go_wp2
    go_ret
    exact ⟨rfl, HD.out⟩
set_option maxRecDepth 20000 in
set_option maxHeartbeats 800000 in
theorem does_read {B r f : Nat} {R : Nat → Prop} {S : Dk} {G : Rg} (w : World) (h : RR B w R r S G) (hf : f < S.files.length) (hfl : S.files.length < 1099511627776) (n t b : Nm) :
    Calls Try.prog 65 #[.pointer (some ⟨r, 0, none⟩), .int .i64 1, .int .i64 (f : Int), .string (strB n), .string (strB t), .string (strB b)] w fun e w' => e = .returned (.string (strB (S.bytes f))) ∧ RDone B w R r S G.ks w' := by
  obtain ⟨fa, fcap, hfv⟩ := own_shape h.fls
  have hrow := h.fls
  rw [hfv] at hrow
  obtain ⟨g, rfl, hgB, hgl, hc⟩ := own_pos hrow (by omega)
  have x1 := hc _ _ (fc_at S.files f hf).1
  have hb := h.blk
  rw [rcells, hfv] at hb
  have c0 := cell_of hb 0
  have HE := hide (show S.bytes f = S.files[f].b by simp [Dk.bytes, hf])
  have HD := hide (RDone.same h (Chg.refl _ w))
  generalize S.files[f].b = fb at *
  have hf0 : (0 : Int) ≤ (f : Int) := by omega
  have hf1 : (f : Int) < (S.files.length : Int) := by omega
  clear h hb hrow hc
  go_enter Try.func65, Try.ntmps65
  go_wp2
  go_ret
  exact ⟨by rw [HE.out]; rfl, HD.out⟩
set_option maxRecDepth 20000 in
set_option maxHeartbeats 1600000 in
theorem does_sync {B r f : Nat} {R : Nat → Prop} {S : Dk} {G : Rg} (w : World) (h : RR B w R r S G) (hl : S.acts.length < 1099511627776) (hf : f < S.files.length) (hfl : S.files.length < 1099511627776) (_hbl : S.files[f].b.length < 1099511627776) (n t b : Nm) :
    Calls Try.prog 65 #[.pointer (some ⟨r, 0, none⟩), .int .i64 2, .int .i64 (f : Int), .string (strB n), .string (strB t), .string (strB b)] w fun e w' => e = .returned (.string ⟨#[]⟩) ∧ RDone B w R r (S.keepF f) G.ks w' := by
  obtain ⟨fa, fcap, hfv⟩ := own_shape h.fls
  have hrow := h.fls
  rw [hfv] at hrow
  obtain ⟨g, rfl, hgB, hgl, hc⟩ := own_pos hrow (by omega)
  have x1 := hc _ _ (fc_at S.files f hf).1
  have x2 := hc _ _ (fc_at S.files f hf).2
  have hb := h.blk
  rw [rcells, hfv] at hb
  have c0 := cell_of hb 0
  have hne : g ≠ r := h.neF g (by rw [hfv]; rfl)
  obtain ⟨gcur, hgcur⟩ := own_block h.fls (k := g) (by rw [hfv]; rfl)
  have tg := thawed hgcur (f * 2 + 1)
  have hdr := (Chg.refl R w).drew
  obtain ⟨hr1, hc1⟩ := (h.keep ((Chg.refl (fun _ => False) w).drew) (fun _ _ h => h)).files hfv (j := f * 2 + 1) (u := .int .i64 (S.files[f].b.length : Int)) (by omega) (S.files.modify f fun x => { x with sure := x.b.length }) (by simp) (fc_s _ _ _ hf _ rfl)
  have hloose := looseA_any _ hr1 hl (f : Int)
  rw [keepA_file] at hloose
  have hsz := strB_size S.files[f].b
  have hwB : B ≤ w.heap.size := by have := h.low _ h.self; omega
  have HH := hide h
  have HR1 := hide hr1
  have HC1 := hide hc1
  generalize hbb : S.files[f].b = fb at *
  have hf0 : (0 : Int) ≤ (f : Int) := by omega
  have hf1 : (f : Int) < (S.files.length : Int) := by omega
  have y0 : (w.drew.setCell ⟨g, f * 2 + 1, none⟩ (.int .i64 (fb.length : Int))).cell? ⟨r, 0, none⟩ = some (.slice (some ⟨g, 0, none⟩) S.files.length fcap) := by rw [World.cell?_setCell_far _ _ _ _ hne]; exact c0
  have y2 : (w.drew.setCell ⟨g, f * 2 + 1, none⟩ (.int .i64 (fb.length : Int))).cell? ⟨g, f * 2, none⟩ = some (.string (strB fb)) := by
    have := cell_of (heap_set (show w.drew.heap[g]? = some _ from hgcur) (f * 2 + 1) (.int .i64 (fb.length : Int))) (f * 2)
    have hx1 := x1
    rw [cell_of hgcur] at hx1
    rw [this]
    simpa using hx1
  clear hr1 hc1 h hb hrow hc
  go_enter Try.func65, Try.ntmps65
  go_wp2_with fail
  refine wp_region_held_drew (S := fun W => W.cell? ⟨r, 0, none⟩ = some (.slice (some ⟨g, 0, none⟩) S.files.length fcap) ∧ W.cell? ⟨g, f * 2, none⟩ = some (.string (strB fb))) (by kernel_rfl) (⟨c0, x1⟩) (fun hHeld => ?_)
  refine takeH (i := 0) (v := ?_) rfl (by kernel_rfl) (by kernel_rfl) (by kernel_rfl) (fun _ _ _ h => h) rfl ?_ hHeld ?_
  rotate_left
  · intro w hS; (try dsimp only at hS); obtain ⟨hS0, hS1⟩ := hS; go_simp; first | done | (with_reducible rfl)
  try simp only [Act.put, ly1, ly2, ly3]
  refine takeH (i := 1) (v := ?_) rfl (by kernel_rfl) (by kernel_rfl) (by kernel_rfl) (fun _ _ _ h => h) rfl ?_ hHeld ?_
  rotate_left
  · intro w hS; (try dsimp only at hS); obtain ⟨hS0, hS1⟩ := hS; go_simp; first | done | (with_reducible rfl)
  try simp only [Act.put, ly1, ly2, ly3]
  refine takeH (i := 2) (v := ?_) rfl (by kernel_rfl) (by kernel_rfl) (by kernel_rfl) (fun _ _ _ h => h) rfl ?_ hHeld ?_
  rotate_left
  · intro w hS; (try dsimp only at hS); obtain ⟨hS0, hS1⟩ := hS; go_simp; first | done | (with_reducible rfl)
  try simp only [Act.put, ly1, ly2, ly3]
  refine takeH (i := 3) (v := ?_) rfl (by kernel_rfl) (by kernel_rfl) (by kernel_rfl) (fun _ _ _ h => h) rfl ?_ hHeld ?_
  rotate_left
  · intro w hS; (try dsimp only at hS); obtain ⟨hS0, hS1⟩ := hS; go_simp; first | done | (with_reducible rfl)
  try simp only [Act.put, ly1, ly2, ly3]
  refine takeH (i := 4) (v := ?_) rfl (by kernel_rfl) (by kernel_rfl) (by kernel_rfl) (fun _ _ _ h => h) rfl ?_ hHeld ?_
  rotate_left
  · intro w hS; (try dsimp only at hS); obtain ⟨hS0, hS1⟩ := hS; go_simp; first | done | (with_reducible rfl)
  try simp only [Act.put, ly1, ly2, ly3]
  refine takeH (i := 5) (v := ?_) rfl (by kernel_rfl) (by kernel_rfl) (by kernel_rfl) (fun _ _ _ h => h) rfl ?_ hHeld ?_
  rotate_left
  · intro w hS; (try dsimp only at hS); obtain ⟨hS0, hS1⟩ := hS; go_simp; first | done | (with_reducible rfl)
  try simp only [Act.put, ly1, ly2, ly3]
  refine takeH (i := 6) (v := ?_) rfl (by kernel_rfl) (by kernel_rfl) (by kernel_rfl) (fun _ _ _ h => h) rfl ?_ hHeld ?_
  rotate_left
  · intro w hS; (try dsimp only at hS); obtain ⟨hS0, hS1⟩ := hS; go_simp; first | done | (with_reducible rfl)
  try simp only [Act.put, ly1, ly2, ly3]
  refine takeH (i := 7) (v := ?_) rfl (by kernel_rfl) (by kernel_rfl) (by kernel_rfl) (fun _ _ _ h => h) rfl ?_ hHeld ?_
  rotate_left
  · intro w hS; (try dsimp only at hS); obtain ⟨hS0, hS1⟩ := hS; go_simp; first | done | (with_reducible rfl)
  try simp only [Act.put, ly1, ly2, ly3]
  refine takeH (i := 8) (v := ?_) rfl (by kernel_rfl) (by kernel_rfl) (by kernel_rfl) (fun _ _ _ h => h) rfl ?_ hHeld ?_
  rotate_left
  · intro w hS; (try dsimp only at hS); obtain ⟨hS0, hS1⟩ := hS; go_simp; first | done | (with_reducible rfl)
  try simp only [Act.put, ly1, ly2, ly3]
  refine takeH (i := 9) (v := ?_) rfl (by kernel_rfl) (by kernel_rfl) (by kernel_rfl) (fun _ _ _ h => h) rfl ?_ hHeld ?_
  rotate_left
  · intro w hS; (try dsimp only at hS); obtain ⟨hS0, hS1⟩ := hS; go_simp; first | done | (with_reducible rfl)
  try simp only [Act.put, ly1, ly2, ly3]
  refine takeH (i := 10) (v := ?_) rfl (by kernel_rfl) (by kernel_rfl) (by kernel_rfl) (fun _ _ _ h => h) rfl ?_ hHeld ?_
  rotate_left
  · intro w hS; (try dsimp only at hS); obtain ⟨hS0, hS1⟩ := hS; go_simp; first | done | (with_reducible rfl)
  try simp only [Act.put, ly1, ly2, ly3]
  refine takeH (i := 11) (v := ?_) rfl (by kernel_rfl) (by kernel_rfl) (by kernel_rfl) (fun _ _ _ h => h) rfl ?_ hHeld ?_
  rotate_left
  · intro w hS; (try dsimp only at hS); obtain ⟨hS0, hS1⟩ := hS; go_simp; first | done | (with_reducible rfl)
  try simp only [Act.put, ly1, ly2, ly3]
  refine takeH (i := 12) (v := ?_) rfl (by kernel_rfl) (by kernel_rfl) (by kernel_rfl) (fun _ _ _ h => h) rfl ?_ hHeld ?_
  rotate_left
  · intro w hS; (try dsimp only at hS); obtain ⟨hS0, hS1⟩ := hS; go_simp; first | done | (with_reducible rfl)
  try simp only [Act.put, ly1, ly2, ly3]
  refine takeH (i := 13) (v := ?_) rfl (by kernel_rfl) (by kernel_rfl) (by kernel_rfl) (fun _ _ _ h => h) rfl ?_ hHeld ?_
  rotate_left
  · intro w hS; (try dsimp only at hS); obtain ⟨hS0, hS1⟩ := hS; go_simp; first | done | (with_reducible rfl)
  try simp only [Act.put, ly1, ly2, ly3]
  refine takeH (i := 14) (v := ?_) rfl (by kernel_rfl) (by kernel_rfl) (by kernel_rfl) (fun _ _ _ h => h) rfl ?_ hHeld ?_
  rotate_left
  · intro w hS; (try dsimp only at hS); obtain ⟨hS0, hS1⟩ := hS; go_simp; first | done | (with_reducible rfl)
  try simp only [Act.put, ly1, ly2, ly3]
  refine takeH (i := 15) (v := ?_) rfl (by kernel_rfl) (by kernel_rfl) (by kernel_rfl) (fun _ _ _ h => h) rfl ?_ hHeld ?_
  rotate_left
  · intro w hS; (try dsimp only at hS); obtain ⟨hS0, hS1⟩ := hS; go_simp; first | done | (with_reducible rfl)
  try simp only [Act.put, ly1, ly2, ly3]
  refine onlyH (i := 16) rfl (by kernel_rfl) rfl (fun K hK => ?_)
  go_simp
  refine hK.out _ _ (⟨y0, y2⟩) (fun hHeld => ?_)
  clear hK K
  try simp only [Act.put, ly1, ly2, ly3]
  refine wpAnyH_done (by kernel_rfl) ?_ _
  clear hHeld y0 y2
  go_wp2_with fail
  refine hloose.mono ?_
  rintro e w2 ⟨v2, rfl, hv2, hc2⟩
  obtain ⟨va2, vc2, rfl⟩ := own_shape hv2
  obtain ⟨hr3, hc3⟩ := HR1.out.acts hc2 (own_down hv2 (by simp [World.setCell]; omega)) (fun k hk => (own_lt hv2 k hk).1)
  have hb2 := hc2.keep HR1.out.blk (fun h => h)
  have c3 := cell_of hb2 3
  have t3 := thawed hb2 3
  dsimp only [rcells] at c3
  have q3 := RDone.fresh HR1.out hr3 rfl hc3
  have HR3 := hide (RDone.two HH.out rfl (hdr.then HC1.out) q3)
  clear q3
  clear hr3 hc3 hb2 hv2 hloose
  go_wp2
  go_ret
  exact ⟨rfl, HR3.out⟩
end Go.Proofs.Ytlejgdjkdbamkaa
