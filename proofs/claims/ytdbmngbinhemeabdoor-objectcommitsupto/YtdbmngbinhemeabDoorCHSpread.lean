/-
  What spreading a block answers: one number for each round. No condition.
-/
import Derived.Test.YtdbmngbinhemeabDoorCHMem
namespace Go.Proofs.YtdbmngbinhemeabDoor
open Go.RowKit

theorem bc_getD (l : List UInt8) (j : Nat) (h : j < l.length) : (bc l)[j]? = some (.int .u8 ((l.getD j 0).toNat : Int)) := by
  simp [bc, List.getElem?_map, List.getElem?_eq_getElem h, List.getD]

/-- What spreading finds in memory: the block's bytes; the numbers so far, noughts behind them. -/
def SP (w : World) (l : List UInt8) (L : List UInt32) (wr : World) : Prop := Below w.heap.size w wr ∧ (∀ k, k < 64 → wr.cell? ⟨w.heap.size, k, none⟩ = some (.int .u8 ((l.getD k 0).toNat : Int))) ∧
  (∃ z, wr.heap[w.heap.size + 1]? = some (.cells z 173) ∧ z.size = 64) ∧ wr.heap[w.heap.size + 1 + 1]? = some (.cells (uc (L ++ List.replicate (64 - L.length) 0)) 173)

theorem z64 : uc (List.replicate 64 0) = #[.int .u32 0, .int .u32 0, .int .u32 0, .int .u32 0, .int .u32 0, .int .u32 0, .int .u32 0, .int .u32 0, .int .u32 0, .int .u32 0, .int .u32 0, .int .u32 0, .int .u32 0, .int .u32 0, .int .u32 0, .int .u32 0, .int .u32 0, .int .u32 0, .int .u32 0, .int .u32 0, .int .u32 0, .int .u32 0, .int .u32 0, .int .u32 0, .int .u32 0, .int .u32 0, .int .u32 0, .int .u32 0, .int .u32 0, .int .u32 0, .int .u32 0, .int .u32 0, .int .u32 0, .int .u32 0, .int .u32 0, .int .u32 0, .int .u32 0, .int .u32 0, .int .u32 0, .int .u32 0, .int .u32 0, .int .u32 0, .int .u32 0, .int .u32 0, .int .u32 0, .int .u32 0, .int .u32 0, .int .u32 0, .int .u32 0, .int .u32 0, .int .u32 0, .int .u32 0, .int .u32 0, .int .u32 0, .int .u32 0, .int .u32 0, .int .u32 0, .int .u32 0, .int .u32 0, .int .u32 0, .int .u32 0, .int .u32 0, .int .u32 0, .int .u32 0] := rfl
theorem sp_start (w : World) (l : List UInt8) (hl : l.length = 64) (D : Array Value) (hD : (bc l).toArray = D) :
    SP w l [] (((w.alloc (.cells D 160)).alloc (.cells (uc (List.replicate 64 0)) 173)).alloc (.cells (uc (List.replicate 64 0)) 173)) := by
  refine ⟨((((Below.refl _ _).alloc (Nat.le_refl _) _).alloc (by simp) _).alloc (by simp; omega) _), fun k hk => ?_, ⟨uc (List.replicate 64 0), ?_, by simp [uc]⟩, ?_⟩
  · rw [World.cell?_alloc_past _ _ _ (by simp; omega), World.cell?_alloc_past _ _ _ (by simp), World.cell?_alloc_at _ _ _ _ (by simp), ← hD, List.getElem?_toArray, bc_getD l k (by omega)]
  · rw [heap_past _ _ _ (by simp), heap_last _ _ _ (by simp)]
  · rw [heap_last _ _ _ (by simp)]
    rfl
theorem words_take (l : List UInt8) (k : Nat) (hk : k < 16) : (words l).take (k + 1) = (words l).take k ++ [wordAt l k] := by
  rw [List.take_succ_eq_append_getElem (by simpa [words] using hk)]
  simp [words]
theorem words_length (l : List UInt8) : (words l).length = 16 := by simp [words]

theorem heap_setCell (w : World) (g i : Nat) (c : Array Value) (t : TypeId) (fr : Nat × Nat) (v : Value) (h : w.heap[g]? = some (.cells c t fr)) : (w.setCell ⟨g, i, none⟩ v).heap[g]? = some (.cells (c.setIfInBounds i v) t fr) := by
  unfold World.setCell
  simp [h, Array.getElem?_modify]
theorem uc_set (L : List UInt32) (x : UInt32) (n : Nat) (h : L.length < n) : (uc (L ++ List.replicate (n - L.length) 0)).setIfInBounds L.length (.int .u32 (u x)) = uc ((L ++ [x]) ++ List.replicate (n - (L ++ [x]).length) 0) := by
  obtain ⟨m, hm⟩ : ∃ m, n - L.length = m + 1 := ⟨n - L.length - 1, by omega⟩
  have hm' : n - (L ++ [x]).length = m := by simp; omega
  rw [hm, hm', List.replicate_succ]
  unfold uc
  rw [List.setIfInBounds_toArray]
  congr 1
  simp
theorem SP.store {w : World} {l : List UInt8} {L : List UInt32} {wr : World} (h : SP w l L wr) (hL : L.length < 64) (k : Nat) (hk : L.length = k) (x : UInt32) : SP w l (L ++ [x]) (wr.setCell ⟨w.heap.size + 1 + 1, k, none⟩ (.int .u32 (u x))) := by
  subst hk
  obtain ⟨h1, h2, ⟨z, h3, h3'⟩, h4⟩ := h
  have hb : Below (w.heap.size + 1 + 1) wr (wr.setCell ⟨w.heap.size + 1 + 1, L.length, none⟩ (.int .u32 (u x))) := (Below.refl _ _).setCell (p := ⟨w.heap.size + 1 + 1, L.length, none⟩) (Nat.le_refl _) _
  refine ⟨h1.setCell (p := ⟨w.heap.size + 1 + 1, L.length, none⟩) (by simp; omega) _, fun k hk => (hb.cell (p := ⟨w.heap.size, k, none⟩) (by simp; omega)).trans (h2 k hk), ⟨z, (hb.block _ (by omega)).trans h3, h3'⟩, ?_⟩
  rw [heap_setCell _ _ _ _ _ _ _ h4, uc_set L x 64 hL]
theorem SP.drewN {w : World} {l : List UInt8} {L : List UInt32} {wr : World} (h : SP w l L wr) (n : Nat) : SP w l L (wr.drewN n) := by
  obtain ⟨h1, h2, h3, h4⟩ := h
  exact ⟨below_drewN h1 n, h2, h3, h4⟩
theorem SP.drew {w : World} {l : List UInt8} {L : List UInt32} {wr : World} (h : SP w l L wr) : SP w l L wr.drew := by
  obtain ⟨h1, h2, h3, h4⟩ := h
  exact ⟨h1.drew, h2, h3, h4⟩
theorem SP.get {w : World} {l : List UInt8} {L : List UInt32} {wr : World} (h : SP w l L wr) (_hL : L.length ≤ 64) (k : Nat) (hk : k < L.length) : wr.cell? ⟨w.heap.size + 1 + 1, k, none⟩ = some (.int .u32 (u (L.getD k 0))) := by
  rw [cell_of_row _ _ _ _ _ _ h.2.2.2, uc_get _ _ (by simp; omega)]
  simp [List.getD, List.getElem?_append_left hk]
theorem SP.room {w : World} {l : List UInt8} {L : List UInt32} {wr : World} (h : SP w l L wr) (k : Nat) (hk : L.length = k) (hL : k < 64) : wr.cell? ⟨w.heap.size + 1 + 1, k, none⟩ = some (.int .u32 (u 0)) ∧ wr.frozen? ⟨w.heap.size + 1 + 1, k, none⟩ = false := by
  subst hk
  constructor
  · rw [cell_of_row _ _ _ _ _ _ h.2.2.2, uc_get _ _ (by simp; omega)]
    obtain ⟨m, hm⟩ : ∃ m, 64 - L.length = m + 1 := ⟨64 - L.length - 1, by omega⟩
    simp [List.getD, hm, List.replicate_succ]
  · simp [World.frozen?, h.2.2.2]

theorem Tryd.uBlk : Tryd.prog.underlying 160 = some (.array 64 5) := by kernel_rfl
theorem Tryd.sizeB (w : World) : (sizeOf 5).run Tryd.prog w = .ok 1 w := by
  have h : (Tryd.prog.info? 5).map (·.size) = some 1 := by kernel_rfl
  cases hq : Tryd.prog.info? 5 with
  | none => simp [hq] at h
  | some i =>
    have : i.size = 1 := by simpa [hq] using h
    simp [sizeOf, typeInfo, hq, this]
theorem slice36 (w : World) (b off l h : Nat) (L H : Int) (hL : L = (l : Int)) (hH : H = (h : Int)) (h1 : l ≤ h) (h2 : h ≤ 64) (h3 : l < 64) :
    (Instr.sliceAt 160 (.pointer (some ⟨b, off, none⟩)) (some (.int .i64 L)) (some (.int .i64 H)) none).run Tryd.prog w = .ok (.slice (some ⟨b, off + l, none⟩) (h - l) (64 - l)) w := by
  subst hL hH
  have e : ¬ 64 = l := by omega
  have a1 : (l : Int) ≤ (h : Int) := by omega
  have a2 : (h : Int) ≤ 64 := by omega
  simp [Instr.sliceAt, Instr.sureAddr, run_underlying Tryd.uBlk, Instr.sliceBounds, run_sliceBound, e, a1, a2, Addr.add_mid, Result.andThen]

theorem u_of8 (b : UInt8) : (b.toNat : Int) = u b.toUInt32 := by simp [u]
theorem u_shl24 (x : UInt32) : u x * (16777216 : Int) % (4294967296 : Int) = u (x <<< (24 : UInt32)) := u_shl x 24 24 rfl (by omega)
theorem u_shl16 (x : UInt32) : u x * (65536 : Int) % (4294967296 : Int) = u (x <<< (16 : UInt32)) := u_shl x 16 16 rfl (by omega)
theorem u_shl8 (x : UInt32) : u x * (256 : Int) % (4294967296 : Int) = u (x <<< (8 : UInt32)) := u_shl x 8 8 rfl (by omega)

theorem u_shr3 (x : UInt32) : u x / (8 : Int) = u (x >>> (3 : UInt32)) := u_shr x 3 3 rfl (by omega)
theorem u_shr10 (x : UInt32) : u x / (1024 : Int) = u (x >>> (10 : UInt32)) := u_shr x 10 10 rfl (by omega)
theorem u_mod (x : UInt32) : u x % 4294967296 = u x := by
  have := u_lt x
  unfold u
  omega
theorem word_u (b0 b1 b2 b3 : UInt8) : bits .or .u32 (bits .or .u32 (bits .or .u32 (u b0.toUInt32 % 4294967296 * 16777216 % 4294967296) (u b1.toUInt32 % 4294967296 * 65536 % 4294967296)) (u b2.toUInt32 % 4294967296 * 256 % 4294967296)) (u b3.toUInt32 % 4294967296) = u (word b0 b1 b2 b3) := by
  rw [u_mod, u_mod, u_mod, u_mod, u_shl24, u_shl16, u_shl8, u_or, u_or, u_or]
  rfl
theorem ext_length (l : List UInt32) (n : Nat) : (ext l n).length = l.length + n := by
  induction n with
  | zero => rfl
  | succ n ih => simp [ext, ih]; omega

set_option maxRecDepth 20000 in
set_option maxHeartbeats 800000 in
theorem spread_any (w : World) (l : List UInt8) (hl : l.length = 64) :
    Calls Tryd.prog 148 #[.agg (bc l).toArray] w fun e w' => e = .returned (.agg (uc (ext (words l) 48))) ∧ Below w.heap.size w w' := by
  generalize hD : (bc l).toArray = D
  go_enter Tryd.func148, Tryd.ntmps148
  go_wp2_with fail
  go_loopw [11] (fun t wr => ∃ k : Nat, k ≤ 16 ∧ t = .int .i64 k ∧ SP w l ((words l).take k) wr)
    (fun t _ => 16 - (intOf t).toNat)
  case atStart =>
    refine ⟨0, by omega, rfl, ?_⟩
    exact sp_start w l hl D hD
  case round =>
    obtain ⟨k, hk, rfl, hR⟩ := hrel
    by_cases hlt : k < 16
    · have c0 := hR.2.1 (4 * k) (by omega)
      have c1 := hR.2.1 (4 * k + 1) (by omega)
      have c2 := hR.2.1 (4 * k + 2) (by omega)
      have c3 := hR.2.1 (4 * k + 3) (by omega)
      have hS : (words l).take (k + 1) = (words l).take k ++ [word (l.getD (4 * k) 0) (l.getD (4 * k + 1) 0) (l.getD (4 * k + 2) 0) (l.getD (4 * k + 3) 0)] := words_take l k hlt
      have hlen : ((words l).take k).length = k := by simp [words]; omega
      obtain ⟨hroom, hfr⟩ := hR.room k hlen (by omega)
      generalize l.getD (4 * k) 0 = b0 at *
      generalize l.getD (4 * k + 1) 0 = b1 at *
      generalize l.getD (4 * k + 2) 0 = b2 at *
      generalize l.getD (4 * k + 3) 0 = b3 at *
      rw [u_of8] at c0 c1 c2 c3
      have HS := hide hS
      have HR := hide hR
      have HL := hide hlen
      have hsl := slice36 wr w.heap.size 0 (4 * k) (4 * k + 4) (k * 4) ((k + 1) * 4) (by omega) (by omega) (by omega) (by omega) (by omega)
      rw [Nat.zero_add, Nat.add_sub_cancel_left] at hsl
      clear hS hR hlen
      go_wp2_with fail
      go_region
      go_wp2_with fail
      refine ⟨⟨k + 1, by omega, by go_num, ?_⟩, by simp [intOf]; omega⟩
      rw [word_u, HS.out]
      exact (HR.out.store (by rw [HL.out]; omega) k HL.out _).drew
    · obtain rfl : k = 16 := by omega
      rw [List.take_of_length_le (by rw [words_length]; omega)] at hR
      rw [show ((16 : Nat) : Int) = 16 from rfl]
      go_wp2_with fail
      go_loopw [6] (fun t wr => ∃ k : Nat, 16 ≤ k ∧ k ≤ 64 ∧ t = .int .i64 (k : Int) ∧ SP w l (ext (words l) (k - 16)) wr)
        (fun t _ => 64 - (intOf t).toNat)
      case atStart => exact ⟨16, by omega, by omega, rfl, hR⟩
      case round =>
        clear hR
        obtain ⟨k, hk0, hk, rfl, hR⟩ := hrel
        have hlen : (ext (words l) (k - 16)).length = k := by rw [ext_length, words_length]; omega
        by_cases hlt : k < 64
        · have hS : ext (words l) (k + 1 - 16) = ext (words l) (k - 16) ++ [s1 ((ext (words l) (k - 16)).getD (k - 2) 0) + (ext (words l) (k - 16)).getD (k - 7) 0 + s0 ((ext (words l) (k - 16)).getD (k - 15) 0) + (ext (words l) (k - 16)).getD (k - 16) 0] := by
            rw [show k + 1 - 16 = (k - 16) + 1 from by omega]
            show _ ++ [next _] = _
            unfold next
            rw [hlen]
          have c0 := hR.get (by omega) (k - 2) (by omega)
          have c1 := hR.get (by omega) (k - 7) (by omega)
          have c2 := hR.get (by omega) (k - 15) (by omega)
          have c3 := hR.get (by omega) (k - 16) (by omega)
          obtain ⟨hroom, hfr⟩ := hR.room k hlen (by omega)
          generalize (ext (words l) (k - 16)).getD (k - 2) 0 = b0 at *
          generalize (ext (words l) (k - 16)).getD (k - 7) 0 = b1 at *
          generalize (ext (words l) (k - 16)).getD (k - 15) 0 = b2 at *
          generalize (ext (words l) (k - 16)).getD (k - 16) 0 = b3 at *
          have HS := hide hS
          have HR := hide hR
          have HL := hide hlen
          clear hS hR hlen
          have hx := u_xor
          have hp := u_add
          have hp' := u_add'
          go_wp2_with fail
          have h3 := u_shr3
          have h10 := u_shr10
          go_region
          go_wp2_with fail
          refine (pr7 _ b2).mono ?_
          rintro e1 w1 ⟨rfl, rfl⟩
          go_wp2_with fail
          refine (pr18 _ b2).mono ?_
          rintro e1 w1 ⟨rfl, rfl⟩
          go_wp2_with fail
          refine (pr17 _ b0).mono ?_
          rintro e1 w1 ⟨rfl, rfl⟩
          go_wp2_with fail
          refine (pr19 _ b0).mono ?_
          rintro e1 w1 ⟨rfl, rfl⟩
          go_wp2_with fail
          go_region
          go_wp2_with fail
          refine ⟨⟨k + 1, by omega, by omega, by go_num, ?_⟩, by simp [intOf]; omega⟩
          rw [HS.out]
          exact ((HR.out.store (by rw [HL.out]; exact hlt) k HL.out _).drew).drew
        · obtain rfl : k = 64 := by omega
          have hb := hR.1
          have hrow := hR.2.2.2
          rw [hlen] at hrow
          simp only [Nat.sub_self, List.replicate_zero, List.append_nil] at hrow
          obtain ⟨z, hz, hz'⟩ := hR.2.2.1
          have hsz : (uc (ext (words l) 48)).size = 64 := by rw [uc_size]; exact hlen
          clear hR hlen
          have hi : (Tryd.prog.info? 173).map (·.size) = some (uc (ext (words l) 48)).size := by rw [hsz]; exact Tryd.infoA64
          have HI := hide hi
          have HZ := hide hz'
          have HS := hide hsz
          have hone := hide (uc_one (ext (words l) 48))
          clear hi hz' hsz
          have hrow' : wr.heap[w.heap.size + 1 + 1]? = some (.cells (uc (ext (words l) 48)) 173) := hrow
          clear hrow
          generalize hC : uc (ext (words l) 48) = C at *
          have HC := hide hC
          clear hC
          go_wp2_with (first | (refine wpList_load_row rfl 173 (.tmp 3) rfl _ rfl 173 C (0, 0) _ hrow' Tryd.underlying173 rfl HI.out ?_) | (refine wpList_store_arr _ rfl 173 (.tmp 2) (.tmp 88) rfl _ C rfl rfl 173 z hz HI.out (by rw [HZ.out, HS.out]) hone.out ?_; intro w2 hrow2 hg2))
          have hb2 := hb.grown hg2 hb.size (by intro k hk; injection hk with hk; omega)
          refine bodyPost_ret (v := .agg C) (results_cell_row rfl _ _ _ _ _ _ _ rfl hrow2 Tryd.underlying173 rfl HI.out) rfl ⟨ret_agg HC.out.symm, hb2⟩
end Go.Proofs.YtdbmngbinhemeabDoor
