/-
  What spreading a block answers: one number for each round. No condition.
  Two laws on regions that draw their order, with the operation read off the region's list: one that yields in every world that meets S is taken first; one that alone may come up is run. No condition.
  What one block makes of the numbers. Condition: the table holds its numbers.
  What laying numbers' bytes answers: putWord, bytesOf, ending. Conditions: none but room, which the callers have.
-/
import Derived.Test.YtdbmngbinhemeabGreatDoorRH1
import Derived.Deep.RegionHeld
import Derived.WalkKit
import Derived.Deep.Cut
import Derived.Deep.CutRange
import Derived.Lib.AppendStr
import Derived.Laws.IdiomStrings
namespace Go.Proofs.YtdbmngbinhemeabGreatDoor
open Go.RowKit

theorem bc_getD (l : List UInt8) (j : Nat) (h : j < l.length) : (bc l)[j]? = some (.int .u8 ((l.getD j 0).toNat : Int)) := by
  simp [bc, List.getElem?_map, List.getElem?_eq_getElem h, List.getD]

/-- What spreading finds in memory: the block's bytes; the numbers so far, noughts behind them. -/
def SP (w : World) (l : List UInt8) (L : List UInt32) (wr : World) : Prop := Below w.heap.size w wr ∧ (∀ k, k < 64 → wr.cell? ⟨w.heap.size, k, none⟩ = some (.int .u8 ((l.getD k 0).toNat : Int))) ∧
  (∃ z, wr.heap[w.heap.size + 1]? = some (.cells z 102) ∧ z.size = 64) ∧ wr.heap[w.heap.size + 1 + 1]? = some (.cells (uc (L ++ List.replicate (64 - L.length) 0)) 102)

theorem z64 : uc (List.replicate 64 0) = #[.int .u32 0, .int .u32 0, .int .u32 0, .int .u32 0, .int .u32 0, .int .u32 0, .int .u32 0, .int .u32 0, .int .u32 0, .int .u32 0, .int .u32 0, .int .u32 0, .int .u32 0, .int .u32 0, .int .u32 0, .int .u32 0, .int .u32 0, .int .u32 0, .int .u32 0, .int .u32 0, .int .u32 0, .int .u32 0, .int .u32 0, .int .u32 0, .int .u32 0, .int .u32 0, .int .u32 0, .int .u32 0, .int .u32 0, .int .u32 0, .int .u32 0, .int .u32 0, .int .u32 0, .int .u32 0, .int .u32 0, .int .u32 0, .int .u32 0, .int .u32 0, .int .u32 0, .int .u32 0, .int .u32 0, .int .u32 0, .int .u32 0, .int .u32 0, .int .u32 0, .int .u32 0, .int .u32 0, .int .u32 0, .int .u32 0, .int .u32 0, .int .u32 0, .int .u32 0, .int .u32 0, .int .u32 0, .int .u32 0, .int .u32 0, .int .u32 0, .int .u32 0, .int .u32 0, .int .u32 0, .int .u32 0, .int .u32 0, .int .u32 0, .int .u32 0] := rfl
theorem sp_start (w : World) (l : List UInt8) (hl : l.length = 64) (D : Array Value) (hD : (bc l).toArray = D) :
    SP w l [] (((w.alloc (.cells D 133)).alloc (.cells (uc (List.replicate 64 0)) 102)).alloc (.cells (uc (List.replicate 64 0)) 102)) := by
  refine ⟨((((Below.refl _ _).alloc (Nat.le_refl _) _).alloc (by simp) _).alloc (by simp; omega) _), fun k hk => ?_, ⟨uc (List.replicate 64 0), ?_, by simp [uc]⟩, ?_⟩
  · rw [World.cell?_alloc_past _ _ _ (by simp; omega), World.cell?_alloc_past _ _ _ (by simp), World.cell?_alloc_at _ _ _ _ (by simp), ← hD, List.getElem?_toArray, bc_getD l k (by omega)]
  · rw [heap_past _ _ _ (by simp), heap_last _ _ _ (by simp)]
  · rw [heap_last _ _ _ (by simp)]
    rfl
theorem words_take (l : List UInt8) (k : Nat) (hk : k < 16) : (words l).take (k + 1) = (words l).take k ++ [wordAt l k] := by
  rw [List.take_succ_eq_append_getElem (by simpa [words] using hk)]
  simp [words]
theorem words_length (l : List UInt8) : (words l).length = 16 := by simp [words]

theorem heap_setCell (w : World) (g i : Nat) (c : Array Value) (t : TypeId) (fr : Nat × Nat) (v : Value) (h : w.heap[g]? = some (.cells c t fr)) : (w.setCell ⟨g, i, none⟩ v).heap[g]? = some (.cells (c.setIfInBounds i v) t fr) := by
  unfold World.setCell
  simp [h, Array.getElem?_modify]
theorem uc_set (L : List UInt32) (x : UInt32) (n : Nat) (h : L.length < n) : (uc (L ++ List.replicate (n - L.length) 0)).setIfInBounds L.length (.int .u32 (u x)) = uc ((L ++ [x]) ++ List.replicate (n - (L ++ [x]).length) 0) := by
  obtain ⟨m, hm⟩ : ∃ m, n - L.length = m + 1 := ⟨n - L.length - 1, by omega⟩
  have hm' : n - (L ++ [x]).length = m := by simp; omega
  rw [hm, hm', List.replicate_succ]
  unfold uc
  rw [List.setIfInBounds_toArray]
  congr 1
  simp
theorem SP.store {w : World} {l : List UInt8} {L : List UInt32} {wr : World} (h : SP w l L wr) (hL : L.length < 64) (k : Nat) (hk : L.length = k) (x : UInt32) : SP w l (L ++ [x]) (wr.setCell ⟨w.heap.size + 1 + 1, k, none⟩ (.int .u32 (u x))) := by
  subst hk
  obtain ⟨h1, h2, ⟨z, h3, h3'⟩, h4⟩ := h
  have hb : Below (w.heap.size + 1 + 1) wr (wr.setCell ⟨w.heap.size + 1 + 1, L.length, none⟩ (.int .u32 (u x))) := (Below.refl _ _).setCell (p := ⟨w.heap.size + 1 + 1, L.length, none⟩) (Nat.le_refl _) _
  refine ⟨h1.setCell (p := ⟨w.heap.size + 1 + 1, L.length, none⟩) (by simp; omega) _, fun k hk => (hb.cell (p := ⟨w.heap.size, k, none⟩) (by simp; omega)).trans (h2 k hk), ⟨z, (hb.block _ (by omega)).trans h3, h3'⟩, ?_⟩
  rw [heap_setCell _ _ _ _ _ _ _ h4, uc_set L x 64 hL]
theorem SP.drewN {w : World} {l : List UInt8} {L : List UInt32} {wr : World} (h : SP w l L wr) (n : Nat) : SP w l L (wr.drewN n) := by
  obtain ⟨h1, h2, h3, h4⟩ := h
  exact ⟨below_drewN h1 n, h2, h3, h4⟩
theorem SP.drew {w : World} {l : List UInt8} {L : List UInt32} {wr : World} (h : SP w l L wr) : SP w l L wr.drew := by
  obtain ⟨h1, h2, h3, h4⟩ := h
  exact ⟨h1.drew, h2, h3, h4⟩
theorem SP.get {w : World} {l : List UInt8} {L : List UInt32} {wr : World} (h : SP w l L wr) (_hL : L.length ≤ 64) (k : Nat) (hk : k < L.length) : wr.cell? ⟨w.heap.size + 1 + 1, k, none⟩ = some (.int .u32 (u (L.getD k 0))) := by
  rw [cell_of_row _ _ _ _ _ _ h.2.2.2, uc_get _ _ (by simp; omega)]
  simp [List.getD, List.getElem?_append_left hk]
theorem SP.room {w : World} {l : List UInt8} {L : List UInt32} {wr : World} (h : SP w l L wr) (k : Nat) (hk : L.length = k) (hL : k < 64) : wr.cell? ⟨w.heap.size + 1 + 1, k, none⟩ = some (.int .u32 (u 0)) ∧ wr.frozen? ⟨w.heap.size + 1 + 1, k, none⟩ = false := by
  subst hk
  constructor
  · rw [cell_of_row _ _ _ _ _ _ h.2.2.2, uc_get _ _ (by simp; omega)]
    obtain ⟨m, hm⟩ : ∃ m, 64 - L.length = m + 1 := ⟨64 - L.length - 1, by omega⟩
    simp [List.getD, hm, List.replicate_succ]
  · simp [World.frozen?, h.2.2.2]

theorem Tryz.uBlk : Tryz.prog.underlying 133 = some (.array 64 5) := by kernel_rfl
theorem Tryz.sizeB (w : World) : (sizeOf 5).run Tryz.prog w = .ok 1 w := by
  have h : (Tryz.prog.info? 5).map (·.size) = some 1 := by kernel_rfl
  cases hq : Tryz.prog.info? 5 with
  | none => simp [hq] at h
  | some i =>
    have : i.size = 1 := by simpa [hq] using h
    simp [sizeOf, typeInfo, hq, this]
theorem slice36 (w : World) (b off l h : Nat) (L H : Int) (hL : L = (l : Int)) (hH : H = (h : Int)) (h1 : l ≤ h) (h2 : h ≤ 64) (h3 : l < 64) :
    (Instr.sliceAt 133 (.pointer (some ⟨b, off, none⟩)) (some (.int .i64 L)) (some (.int .i64 H)) none).run Tryz.prog w = .ok (.slice (some ⟨b, off + l, none⟩) (h - l) (64 - l)) w := by
  subst hL hH
  have e : ¬ 64 = l := by omega
  have a1 : (l : Int) ≤ (h : Int) := by omega
  have a2 : (h : Int) ≤ 64 := by omega
  simp [Instr.sliceAt, Instr.sureAddr, run_underlying Tryz.uBlk, Instr.sliceBounds, run_sliceBound, e, a1, a2, Addr.add_mid, Result.andThen]

theorem u_of8 (b : UInt8) : (b.toNat : Int) = u b.toUInt32 := by simp [u]
theorem u_shl24 (x : UInt32) : u x * (16777216 : Int) % (4294967296 : Int) = u (x <<< (24 : UInt32)) := u_shl x 24 24 rfl (by omega)
theorem u_shl16 (x : UInt32) : u x * (65536 : Int) % (4294967296 : Int) = u (x <<< (16 : UInt32)) := u_shl x 16 16 rfl (by omega)
theorem u_shl8 (x : UInt32) : u x * (256 : Int) % (4294967296 : Int) = u (x <<< (8 : UInt32)) := u_shl x 8 8 rfl (by omega)

theorem u_shr3 (x : UInt32) : u x / (8 : Int) = u (x >>> (3 : UInt32)) := u_shr x 3 3 rfl (by omega)
theorem u_shr10 (x : UInt32) : u x / (1024 : Int) = u (x >>> (10 : UInt32)) := u_shr x 10 10 rfl (by omega)
theorem u_mod (x : UInt32) : u x % 4294967296 = u x := by
  have := u_lt x
  unfold u
  omega
theorem word_u (b0 b1 b2 b3 : UInt8) : bits .or .u32 (bits .or .u32 (bits .or .u32 (u b0.toUInt32 % 4294967296 * 16777216 % 4294967296) (u b1.toUInt32 % 4294967296 * 65536 % 4294967296)) (u b2.toUInt32 % 4294967296 * 256 % 4294967296)) (u b3.toUInt32 % 4294967296) = u (word b0 b1 b2 b3) := by
  rw [u_mod, u_mod, u_mod, u_mod, u_shl24, u_shl16, u_shl8, u_or, u_or, u_or]
  rfl
theorem ext_length (l : List UInt32) (n : Nat) : (ext l n).length = l.length + n := by
  induction n with
  | zero => rfl
  | succ n ih => simp [ext, ih]; omega

set_option maxRecDepth 20000 in
set_option maxHeartbeats 800000 in
theorem spread_any (w : World) (l : List UInt8) (hl : l.length = 64) :
    Calls Tryz.prog 127 #[.agg (bc l).toArray] w fun e w' => e = .returned (.agg (uc (ext (words l) 48))) ∧ Below w.heap.size w w' := by
  generalize hD : (bc l).toArray = D
  go_enter Tryz.func127, Tryz.ntmps127
  go_wp2_with fail
  go_loopw [11] (fun t wr => ∃ k : Nat, k ≤ 16 ∧ t = .int .i64 k ∧ SP w l ((words l).take k) wr)
    (fun t _ => 16 - (intOf t).toNat)
  case atStart =>
    refine ⟨0, by omega, rfl, ?_⟩
    exact sp_start w l hl D hD
  case round =>
    obtain ⟨k, hk, rfl, hR⟩ := hrel
    by_cases hlt : k < 16
    · have c0 := hR.2.1 (4 * k) (by omega)
      have c1 := hR.2.1 (4 * k + 1) (by omega)
      have c2 := hR.2.1 (4 * k + 2) (by omega)
      have c3 := hR.2.1 (4 * k + 3) (by omega)
      have hS : (words l).take (k + 1) = (words l).take k ++ [word (l.getD (4 * k) 0) (l.getD (4 * k + 1) 0) (l.getD (4 * k + 2) 0) (l.getD (4 * k + 3) 0)] := words_take l k hlt
      have hlen : ((words l).take k).length = k := by simp [words]; omega
      obtain ⟨hroom, hfr⟩ := hR.room k hlen (by omega)
      generalize l.getD (4 * k) 0 = b0 at *
      generalize l.getD (4 * k + 1) 0 = b1 at *
      generalize l.getD (4 * k + 2) 0 = b2 at *
      generalize l.getD (4 * k + 3) 0 = b3 at *
      rw [u_of8] at c0 c1 c2 c3
      have HS := hide hS
      have HR := hide hR
      have HL := hide hlen
      have hsl := slice36 wr w.heap.size 0 (4 * k) (4 * k + 4) (k * 4) ((k + 1) * 4) (by omega) (by omega) (by omega) (by omega) (by omega)
      rw [Nat.zero_add, Nat.add_sub_cancel_left] at hsl
      clear hS hR hlen
      go_wp2_with fail
      go_region
      go_wp2_with fail
      refine ⟨⟨k + 1, by omega, by go_num, ?_⟩, by simp [intOf]; omega⟩
      rw [word_u, HS.out]
      exact (HR.out.store (by rw [HL.out]; omega) k HL.out _).drew
    · obtain rfl : k = 16 := by omega
      rw [List.take_of_length_le (by rw [words_length]; omega)] at hR
      rw [show ((16 : Nat) : Int) = 16 from rfl]
      go_wp2_with fail
      go_loopw [6] (fun t wr => ∃ k : Nat, 16 ≤ k ∧ k ≤ 64 ∧ t = .int .i64 (k : Int) ∧ SP w l (ext (words l) (k - 16)) wr)
        (fun t _ => 64 - (intOf t).toNat)
      case atStart => exact ⟨16, by omega, by omega, rfl, hR⟩
      case round =>
        clear hR
        obtain ⟨k, hk0, hk, rfl, hR⟩ := hrel
        have hlen : (ext (words l) (k - 16)).length = k := by rw [ext_length, words_length]; omega
        by_cases hlt : k < 64
        · have hS : ext (words l) (k + 1 - 16) = ext (words l) (k - 16) ++ [s1 ((ext (words l) (k - 16)).getD (k - 2) 0) + (ext (words l) (k - 16)).getD (k - 7) 0 + s0 ((ext (words l) (k - 16)).getD (k - 15) 0) + (ext (words l) (k - 16)).getD (k - 16) 0] := by
            rw [show k + 1 - 16 = (k - 16) + 1 from by omega]
            show _ ++ [next _] = _
            unfold next
            rw [hlen]
          have c0 := hR.get (by omega) (k - 2) (by omega)
          have c1 := hR.get (by omega) (k - 7) (by omega)
          have c2 := hR.get (by omega) (k - 15) (by omega)
          have c3 := hR.get (by omega) (k - 16) (by omega)
          obtain ⟨hroom, hfr⟩ := hR.room k hlen (by omega)
          generalize (ext (words l) (k - 16)).getD (k - 2) 0 = b0 at *
          generalize (ext (words l) (k - 16)).getD (k - 7) 0 = b1 at *
          generalize (ext (words l) (k - 16)).getD (k - 15) 0 = b2 at *
          generalize (ext (words l) (k - 16)).getD (k - 16) 0 = b3 at *
          have HS := hide hS
          have HR := hide hR
          have HL := hide hlen
          clear hS hR hlen
          have hx := u_xor
          have hp := u_add
          have hp' := u_add'
          go_wp2_with fail
          have h3 := u_shr3
          have h10 := u_shr10
          go_region
          go_wp2_with fail
          refine (pr7 _ b2).mono ?_
          rintro e1 w1 ⟨rfl, rfl⟩
          go_wp2_with fail
          refine (pr18 _ b2).mono ?_
          rintro e1 w1 ⟨rfl, rfl⟩
          go_wp2_with fail
          refine (pr17 _ b0).mono ?_
          rintro e1 w1 ⟨rfl, rfl⟩
          go_wp2_with fail
          refine (pr19 _ b0).mono ?_
          rintro e1 w1 ⟨rfl, rfl⟩
          go_wp2_with fail
          go_region
          go_wp2_with fail
          refine ⟨⟨k + 1, by omega, by omega, by go_num, ?_⟩, by simp [intOf]; omega⟩
          rw [HS.out]
          exact ((HR.out.store (by rw [HL.out]; exact hlt) k HL.out _).drew).drew
        · obtain rfl : k = 64 := by omega
          have hb := hR.1
          have hrow := hR.2.2.2
          rw [hlen] at hrow
          simp only [Nat.sub_self, List.replicate_zero, List.append_nil] at hrow
          obtain ⟨z, hz, hz'⟩ := hR.2.2.1
          have hsz : (uc (ext (words l) 48)).size = 64 := by rw [uc_size]; exact hlen
          clear hR hlen
          have hi : (Tryz.prog.info? 102).map (·.size) = some (uc (ext (words l) 48)).size := by rw [hsz]; exact Tryz.infoA64
          have HI := hide hi
          have HZ := hide hz'
          have HS := hide hsz
          have hone := hide (uc_one (ext (words l) 48))
          clear hi hz' hsz
          have hrow' : wr.heap[w.heap.size + 1 + 1]? = some (.cells (uc (ext (words l) 48)) 102) := hrow
          clear hrow
          generalize hC : uc (ext (words l) 48) = C at *
          have HC := hide hC
          clear hC
          go_wp2_with (first | (refine wpList_load_row rfl 102 (.tmp 3) rfl _ rfl 102 C (0, 0) _ hrow' Tryz.underlying102 rfl HI.out ?_) | (refine wpList_store_arr _ rfl 102 (.tmp 2) (.tmp 88) rfl _ C rfl rfl 102 z hz HI.out (by rw [HZ.out, HS.out]) hone.out ?_; intro w2 hrow2 hg2))
          have hb2 := hb.grown hg2 hb.size (by intro k hk; injection hk with hk; omega)
          refine bodyPost_ret (v := .agg C) (results_cell_row rfl _ _ _ _ _ _ _ rfl hrow2 Tryz.underlying102 rfl HI.out) rfl ⟨ret_agg HC.out.symm, hb2⟩
end Go.Proofs.YtdbmngbinhemeabGreatDoor
namespace Go.Proofs.YtdbmngbinhemeabGreatDoor
open Go.RowKit
variable {P : Program} {l : List Oper} {Q : Exit → Act → World → Prop} {md : Region.Mode} {S : World → Prop}

theorem takeH {i : Nat} {oi : Oper} {v : Value} {fuel : Nat} {listed : Array Bool} {a : Act} {w : World} (hi : l[i]? = some oi)
    (hs : Region.noSelect l.toArray = true) (hf : Region.free md l.toArray listed i = true) (hr : (Region.ready md l.toArray listed).contains i = true)
    (hQ : ∀ c a w, Q (.panic c) (a.put oi.dst v) w → Q (.panic c) a w) (hg : Region.wanted oi (yielded l.toArray a.tmps) = true) (hy : ∀ w, S w → (execOp a.eval oi).run P w = .ok (.value v) w) (hS : S w)
    (h : wpAnyH P md l.toArray Q S fuel (listed.setIfInBounds i true) (a.put oi.dst v) w) : wpAnyH P md l.toArray Q S (fuel + 1) listed a w :=
  wpAnyH_take (by simpa using hi) hs hf hr hQ (Or.inl ⟨hg, hy⟩) hS h
theorem skipH {i : Nat} {oi : Oper} {fuel : Nat} {listed : Array Bool} {a : Act} {w : World} (hi : l[i]? = some oi)
    (hs : Region.noSelect l.toArray = true) (hf : Region.free md l.toArray listed i = true) (hr : (Region.ready md l.toArray listed).contains i = true)
    (hQ : ∀ c a w, Q (.panic c) (a.put oi.dst undef) w → Q (.panic c) a w) (hg : Region.wanted oi (yielded l.toArray a.tmps) = false) (hS : S w)
    (h : wpAnyH P md l.toArray Q S fuel (listed.setIfInBounds i true) (a.put oi.dst undef) w) : wpAnyH P md l.toArray Q S (fuel + 1) listed a w :=
  wpAnyH_take (by simpa using hi) hs hf hr hQ (Or.inr ⟨hg, rfl⟩) hS h
theorem onlyH {i : Nat} {oi : Oper} {fuel : Nat} {listed : Array Bool} {a : Act} {w : World} (hi : l[i]? = some oi) (hr : Region.ready md l.toArray listed = [i]) (hg : Region.wanted oi (yielded l.toArray a.tmps) = true)
    (h : ∀ K' : Act → World → Prop, Shut (∀ a w, S w → (S w → wpAnyH P md l.toArray Q S fuel (listed.setIfInBounds i true) a w) → K' a w) → Oper.wp P oi a w K' Q) : wpAnyH P md l.toArray Q S (fuel + 1) listed a w :=
  wpAnyH_ready hr (by simp) (AllReadyH.cons (o := oi) (by simpa using hi) (fun K hK => by rw [if_pos hg]; exact h K hK) AllReadyH.nil)
theorem twoH {i j : Nat} {oi oj : Oper} {fuel : Nat} {listed : Array Bool} {a : Act} {w : World} (hi : l[i]? = some oi) (hj : l[j]? = some oj) (hr : Region.ready md l.toArray listed = [i, j])
    (hgi : Region.wanted oi (yielded l.toArray a.tmps) = true) (hgj : Region.wanted oj (yielded l.toArray a.tmps) = true)
    (h1 : ∀ K' : Act → World → Prop, Shut (∀ a w, S w → (S w → wpAnyH P md l.toArray Q S fuel (listed.setIfInBounds i true) a w) → K' a w) → Oper.wp P oi a w K' Q)
    (h2 : ∀ K' : Act → World → Prop, Shut (∀ a w, S w → (S w → wpAnyH P md l.toArray Q S fuel (listed.setIfInBounds j true) a w) → K' a w) → Oper.wp P oj a w K' Q) : wpAnyH P md l.toArray Q S (fuel + 1) listed a w :=
  wpAnyH_ready hr (by simp) (AllReadyH.cons (o := oi) (by simpa using hi) (fun K hK => by rw [if_pos hgi]; exact h1 K hK) (AllReadyH.cons (o := oj) (by simpa using hj) (fun K hK => by rw [if_pos hgj]; exact h2 K hK) AllReadyH.nil))
end Go.Proofs.YtdbmngbinhemeabGreatDoor
namespace Go.Proofs.YtdbmngbinhemeabGreatDoor
open Go.RowKit

theorem uc_set1 (L : List UInt32) (k : Nat) (x : UInt32) : (uc L).setIfInBounds k (.int .u32 (u x)) = uc (L.set k x) := by
  unfold uc
  rw [List.setIfInBounds_toArray, List.map_set]
/-- The first so many of two lists added. -/
def acc (A B : List UInt32) (k : Nat) : List UInt32 := (List.zipWith (· + ·) A B).take k ++ A.drop k
theorem acc_zero (A B : List UInt32) : acc A B 0 = A := by simp [acc]
theorem Tryz.uEight : Tryz.prog.underlying 132 = some (.array 8 101) := by kernel_rfl
theorem Tryz.uU : Tryz.prog.underlying 101 = some (.int .u32) := by kernel_rfl
theorem Tryz.sizeU (w : World) : (sizeOf 101).run Tryz.prog w = .ok 1 w := by
  have h : (Tryz.prog.info? 101).map (·.size) = some 1 := by kernel_rfl
  cases hq : Tryz.prog.info? 101 with
  | none => simp [hq] at h
  | some i =>
    have : i.size = 1 := by simpa [hq] using h
    simp [sizeOf, typeInfo, hq, this]
theorem index35 (w : World) (E : Array Value) (k : Nat) (v : Value) (hk : k < 8) (h : E[k]? = some v) : (Instr.index 132 (.agg E) (.int .i64 (k : Int))).run Tryz.prog w = .ok v w := by
  have a1 : (0 : Int) ≤ (k : Int) := by omega
  have a2 : (k : Int) < ((8 : Nat) : Int) := by omega
  have ha : (isAgg 101).run Tryz.prog w = .ok false w := by
    unfold isAgg
    rw [Sem.run_bind, run_underlying Tryz.uU w]
    rfl
  unfold Instr.index
  simp only [asIntOf, Sem.run_bind, Sem.run_pure, Result.andThen_ok, run_underlying Tryz.uEight w]
  rw [if_pos ⟨a1, a2⟩]
  simp [part, h]
theorem acc_get (A B : List UInt32) (k : Nat) (hA : k < A.length) (hB : B.length = A.length) : (acc A B k).getD k 0 = A.getD k 0 := by
  have h : ((List.zipWith (· + ·) A B).take k).length = k := by simp; omega
  simp [acc, List.getD, List.getElem?_append_right, h]
theorem acc_set (A B : List UInt32) (k : Nat) (hA : k < A.length) (hB : B.length = A.length) : (acc A B k).set k (A.getD k 0 + B.getD k 0) = acc A B (k + 1) := by
  have h : ((List.zipWith (· + ·) A B).take k).length = k := by simp; omega
  unfold acc
  rw [List.set_append_right _ _ (by omega), h, Nat.sub_self, List.drop_eq_getElem_cons hA, List.set_cons_zero, List.take_succ_eq_append_getElem (by simp; omega)]
  simp [List.getD, hA, show k < B.length by omega]
theorem acc_length (A B : List UInt32) (k : Nat) (hk : k ≤ A.length) (hB : B.length = A.length) : (acc A B k).length = A.length := by
  simp [acc]; omega
theorem acc_all (s t : St) : acc s.list t.list 8 = (s.add t).list := rfl
theorem uc_st (s : St) : (uc s.list).size = 8 := rfl

/-- What adding finds in memory. -/
def MX (w : World) (s T : St) (k : Nat) (wr : World) : Prop := Below w.heap.size w wr ∧ wr.heap[w.heap.size]? = some (.cells (uc (acc s.list T.list k)) 132) ∧ wr.heap[w.heap.size + 1 + 1]? = some (.cells (uc [0, 0, 0, 0, 0, 0, 0, 0]) 132)

theorem st_len (s : St) : s.list.length = 8 := rfl
theorem MX.cell {w : World} {s T : St} {k : Nat} {wr : World} (h : MX w s T k wr) (hk : k < 8) : wr.cell? ⟨w.heap.size, k, none⟩ = some (.int .u32 (u (s.list.getD k 0))) ∧ wr.frozen? ⟨w.heap.size, k, none⟩ = false := by
  constructor
  · rw [cell_of_row _ _ _ _ _ _ h.2.1, uc_get _ _ (by rw [acc_length _ _ _ (by rw [st_len]; omega) (by rw [st_len, st_len]), st_len]; exact hk), acc_get _ _ _ (by rw [st_len]; exact hk) (by rw [st_len, st_len])]
  · simp [World.frozen?, h.2.1]
theorem MX.store {w : World} {s T : St} {k : Nat} {wr : World} (h : MX w s T k wr) (hk : k < 8) : MX w s T (k + 1) (wr.setCell ⟨w.heap.size, k, none⟩ (.int .u32 (u (s.list.getD k 0 + T.list.getD k 0)))) := by
  refine ⟨h.1.setCell (p := ⟨w.heap.size, k, none⟩) (Nat.le_refl _) _, ?_, ?_⟩
  · rw [heap_setCell _ _ _ _ _ _ _ h.2.1, uc_set1, acc_set _ _ _ (by rw [st_len]; exact hk) (by rw [st_len, st_len])]
  · rw [Below.heap_setCell _ _ _ _ (by simp; omega)]
    exact h.2.2

set_option maxRecDepth 20000 in
set_option maxHeartbeats 800000 in
theorem mixed_gen (w : World) (s : St) (l : List UInt8) (hl : l.length = 64) (hT : TabW w) (W : List UInt32) (T : St)
    (hsp : ∀ w, Calls Tryz.prog 127 #[.agg (bc l).toArray] w fun e w' => e = .returned (.agg (uc W)) ∧ Below w.heap.size w w')
    (hrd : ∀ w, TabW w → Calls Tryz.prog 126 #[.agg (uc s.list), .agg (uc W)] w fun e w' => e = .returned (.agg (uc T.list)) ∧ Below w.heap.size w w') :
    Calls Tryz.prog 115 #[.agg (uc s.list), .agg (bc l).toArray] w fun e w' => e = .returned (.agg (uc (s.add T).list)) ∧ Below w.heap.size w w' := by
  generalize hC : uc s.list = C
  generalize hD : (bc l).toArray = D
  have hCs : C.size = 8 := by rw [← hC]; rfl
  have hDs : D.size = 64 := by rw [← hD]; simpa [bc] using hl
  obtain ⟨w3, hw3⟩ : ∃ x, x = ((w.alloc (Obj.cells C 132)).alloc (Obj.cells D 133)).alloc (Obj.cells #[.int .u32 0, .int .u32 0, .int .u32 0, .int .u32 0, .int .u32 0, .int .u32 0, .int .u32 0, .int .u32 0] 132) := ⟨_, rfl⟩
  have f0 : w3.heap[w.heap.size]? = some (.cells C 132) := by rw [hw3, heap_past _ _ _ (by simp; omega), heap_past _ _ _ (by simp), heap_last _ _ _ rfl]
  have f1 : w3.heap[w.heap.size + 1]? = some (.cells D 133) := by rw [hw3, heap_past _ _ _ (by simp), heap_last _ _ _ (by simp)]
  have f2 : w3.heap[w.heap.size + 1 + 1]? = some (.cells (uc [0, 0, 0, 0, 0, 0, 0, 0]) 132) := by rw [hw3, heap_last _ _ _ (by simp)]; rfl
  have hb3 : Below w.heap.size w w3 := by rw [hw3]; exact (((Below.refl _ _).alloc (Nat.le_refl _) _).alloc (by simp) _).alloc (by simp; omega) _
  have HZ : Hid (w3.heap.size = w.heap.size + 3) := by show _ = _; rw [hw3]; simp
  have h0 := hT.1
  have HW := hide hw3
  have HB := hide hb3
  go_enter Tryz.func115, Tryz.ntmps115
  clear hw3
  go_upto_region 1 with fail
  rw [← HW.out]
  go_cut [5] from 8 to 24 (fun p wc' => ∃ g, p = .pointer (some ⟨g, 0, none⟩) ∧ w3.heap.size ≤ g ∧ wc'.heap[g]? = some (.cells (uc T.list) 132) ∧ Below w3.heap.size w3 wc')
  case first =>
    subst hC hD
    have hT3 := hT.keep hb3 h0
    have hz0 : 0 < w3.heap.size := by have := HZ.out; omega
    have hCi : (Tryz.prog.info? 132).map (·.size) = some (uc s.list).size := Tryz.infoEight
    have hci : (Tryz.prog.info? 132).map (·.size) = some (uc T.list).size := by rw [uc_st]; exact Tryz.infoEight
    have hcs : (uc [0, 0, 0, 0, 0, 0, 0, 0]).size = (uc T.list).size := by rw [uc_st]; rfl
    have hDi : (Tryz.prog.info? 133).map (·.size) = some (bc l).toArray.size := by rw [hDs]; exact Tryz.infoBlk
    refine wp_region_held_drew (S := fun W => Below w3.heap.size w3 W) (by kernel_rfl) ((Below.refl _ _).drew) (fun hHeld => ?_)
    refine takeH (i := 0) (v := .agg (uc s.list)) rfl (by kernel_rfl) (by kernel_rfl) (by kernel_rfl) (fun _ _ _ h => h) rfl ?_ hHeld ?_
    · intro W hS; exact run_load_arr W _ _ 132 (.tmp 2) rfl _ rfl 132 (uc s.list) (0, 0) _ ((hS.block _ (lt_of_heap f0)).trans f0) Tryz.underlying132 rfl hCi
    try simp only [Act.put, List.setIfInBounds_toArray, List.set_cons_zero, List.set_cons_succ]
    refine takeH (i := 1) (v := .agg (bc l).toArray) rfl (by kernel_rfl) (by kernel_rfl) (by kernel_rfl) (fun _ _ _ h => h) rfl ?_ hHeld ?_
    · intro W hS; exact run_load_arr W _ _ 133 (.tmp 3) rfl _ rfl 133 (bc l).toArray (0, 0) _ ((hS.block _ (lt_of_heap f1)).trans f1) Tryz.underlying133 rfl hDi
    try simp only [Act.put, List.setIfInBounds_toArray, List.set_cons_zero, List.set_cons_succ]
    refine twoH (i := 2) (j := 4) rfl rfl (by kernel_rfl) rfl rfl (fun K hK => ?_) (fun K hK => ?_)
    · have hge := hHeld.size
      go_simp
      refine (hsp _).mono ?_
      rintro e1 w4 ⟨rfl, hb4⟩
      go_simp
      refine hK.out _ _ (hHeld.trans (hb4.mono hHeld.size)) (fun hHeld => ?_)
      clear hK K
      refine twoH (i := 3) (j := 4) rfl rfl (by kernel_rfl) rfl rfl (fun K hK => ?_) (fun K hK => ?_)
      · have hge := hHeld.size
        go_simp
        refine (hrd _ (hT3.keep hHeld hz0)).mono ?_
        rintro e1 w5 ⟨rfl, hb5⟩
        go_simp
        refine hK.out _ _ (hHeld.trans (hb5.mono hHeld.size)) (fun hHeld => ?_)
        clear hK K
        have hge := hHeld.size
        refine onlyH (i := 4) rfl (by kernel_rfl) rfl (fun K hK => ?_)
        go_simp
        refine hK.out _ _ (hHeld.alloc hHeld.size _) (fun hHeld => ?_)
        have hg := heap_last w5 (Obj.cells (uc [0, 0, 0, 0, 0, 0, 0, 0]) 132) _ rfl
        clear hK K
        refine onlyH (i := 5) rfl (by kernel_rfl) rfl (fun K hK => ?_)
        refine wp_store_arr _ 132 (.tmp 5) (.tmp 11) rfl _ (uc T.list) rfl rfl 132 _ hg hci hcs (uc_one _) ?_
        intro w6 hrow hg6
        refine hK.out _ _ (hHeld.grown hg6 hHeld.size (by intro k hk; injection hk with hk; subst hk; exact hge)) (fun hHeld => ?_)
        clear hK K
        refine wpAnyH_done (by kernel_rfl) ?_ _
        simp only [Act.put]
        go_wp2_with fail
        go_meet
        exact ⟨_, rfl, hge, hrow, hHeld⟩
      · have hge := hHeld.size
        go_simp
        refine hK.out _ _ (hHeld.alloc hHeld.size _) (fun hHeld => ?_)
        have hg := heap_last w4 (Obj.cells (uc [0, 0, 0, 0, 0, 0, 0, 0]) 132) _ rfl
        clear hK K
        refine onlyH (i := 3) rfl (by kernel_rfl) rfl (fun K hK => ?_)
        go_simp
        refine (hrd _ (hT3.keep hHeld hz0)).mono ?_
        rintro e1 w5 ⟨rfl, hb5⟩
        go_simp
        refine hK.out _ _ (hHeld.trans (hb5.mono hHeld.size)) (fun hHeld => ?_)
        have hg := (hb5.block _ (lt_of_heap hg)).trans hg
        clear hK K
        refine onlyH (i := 5) rfl (by kernel_rfl) rfl (fun K hK => ?_)
        refine wp_store_arr _ 132 (.tmp 5) (.tmp 11) rfl _ (uc T.list) rfl rfl 132 _ hg hci hcs (uc_one _) ?_
        intro w6 hrow hg6
        refine hK.out _ _ (hHeld.grown hg6 hHeld.size (by intro k hk; injection hk with hk; subst hk; exact hge)) (fun hHeld => ?_)
        clear hK K
        refine wpAnyH_done (by kernel_rfl) ?_ _
        simp only [Act.put]
        go_wp2_with fail
        go_meet
        exact ⟨_, rfl, hge, hrow, hHeld⟩
    · have hge := hHeld.size
      go_simp
      refine hK.out _ _ (hHeld.alloc hHeld.size _) (fun hHeld => ?_)
      have hg := heap_last w3.drew (Obj.cells (uc [0, 0, 0, 0, 0, 0, 0, 0]) 132) _ rfl
      clear hK K
      refine onlyH (i := 2) rfl (by kernel_rfl) rfl (fun K hK => ?_)
      go_simp
      refine (hsp _).mono ?_
      rintro e1 w4 ⟨rfl, hb4⟩
      go_simp
      refine hK.out _ _ (hHeld.trans (hb4.mono hHeld.size)) (fun hHeld => ?_)
      have hg := (hb4.block _ (lt_of_heap hg)).trans hg
      clear hK K
      refine onlyH (i := 3) rfl (by kernel_rfl) rfl (fun K hK => ?_)
      go_simp
      refine (hrd _ (hT3.keep hHeld hz0)).mono ?_
      rintro e1 w5 ⟨rfl, hb5⟩
      go_simp
      refine hK.out _ _ (hHeld.trans (hb5.mono hHeld.size)) (fun hHeld => ?_)
      have hg := (hb5.block _ (lt_of_heap hg)).trans hg
      clear hK K
      refine onlyH (i := 5) rfl (by kernel_rfl) rfl (fun K hK => ?_)
      refine wp_store_arr _ 132 (.tmp 5) (.tmp 11) rfl _ (uc T.list) rfl rfl 132 _ hg hci hcs (uc_one _) ?_
      intro w6 hrow hg6
      refine hK.out _ _ (hHeld.grown hg6 hHeld.size (by intro k hk; injection hk with hk; subst hk; exact hge)) (fun hHeld => ?_)
      clear hK K
      refine wpAnyH_done (by kernel_rfl) ?_ _
      simp only [Act.put]
      go_wp2_with fail
      go_meet
      exact ⟨_, rfl, hge, hrow, hHeld⟩
  case rest =>
    revert hcut
    generalize wc = wr
    intro hcut
    obtain ⟨g, rfl, hge, hrow, hb⟩ := hcut
    clear hb3
    have hbw : Below w.heap.size w wr := HB.out.trans (hb.mono HB.out.size)
    have f0' : wr.heap[w.heap.size]? = some (.cells (uc (acc s.list T.list 0)) 132) := by
      rw [hb.block _ (lt_of_heap f0), f0, ← hC, acc_zero]
    have f2' := (hb.block _ (lt_of_heap f2)).trans f2
    have hgn : g ≠ w.heap.size := by have := HZ.out; omega
    have hR : MX w s T 0 wr := ⟨hbw, f0', f2'⟩
    have hi : (Tryz.prog.info? 132).map (·.size) = some (uc T.list).size := Tryz.infoEight
    have hget : ∀ k, k < 8 → (uc T.list)[k]? = some (.int .u32 (u (T.list.getD k 0))) := fun k hk => uc_get _ _ hk
    clear f0 f1 f2 f0' f2' hbw hb
    generalize uc T.list = E at *
    go_wp2_with (refine wpList_load_row rfl 132 (.tmp 5) rfl _ rfl 132 E (0, 0) _ hrow Tryz.underlying132 rfl hi ?_)
    go_loopw [13] (fun t wr => ∃ k : Nat, k ≤ 8 ∧ t = .int .i64 k ∧ MX w s T k wr) (fun t _ => 8 - (intOf t).toNat)
    case atStart => exact ⟨0, by omega, rfl, hR⟩
    case round =>
      clear hR
      obtain ⟨k, hk, rfl, hR⟩ := hrel
      have hp := u_add
      have hp' := u_add'
      by_cases hlt : k < 8
      · obtain ⟨hc, hf⟩ := hR.cell hlt
        have hE := index35 wr E k _ hlt (hget k hlt)
        have HN := hide (hR.store hlt)
        clear hget hrow hi hR
        generalize s.list.getD k 0 = x at *
        generalize T.list.getD k 0 = y at *
        go_wp2
        go_roundw
        case rel => exact ⟨k + 1, by omega, by go_num, HN.out⟩
        case measure => simp [intOf]; omega
      · obtain rfl : k = 8 := by omega
        clear hget hrow hi
        obtain ⟨hbw, hA, hB⟩ := hR
        rw [acc_all] at hA
        generalize hRe : s.add T = R at *
        have HR := hide hRe
        clear hRe
        have hi : (Tryz.prog.info? 132).map (·.size) = some (uc R.list).size := Tryz.infoEight
        have hs8 : (uc [0, 0, 0, 0, 0, 0, 0, 0]).size = (uc R.list).size := rfl
        have HO := hide (uc_one R.list)
        have HE : Hid (uc (s.add T).list = uc R.list) := by show _ = _; rw [HR.out]
        generalize uc R.list = F at *
        go_wp2_with (first | (refine wpList_load_row rfl 132 (.tmp 2) rfl _ rfl 132 F (0, 0) _ hA Tryz.underlying132 rfl hi ?_) | (refine wpList_store_arr _ rfl 132 (.tmp 4) (.tmp 24) rfl _ F rfl rfl 132 _ hB hi hs8 HO.out ?_; intro w2 hrow2 hg2))
        have hb2 := hbw.grown hg2 hbw.size (by intro k hk; injection hk with hk; omega)
        refine bodyPost_ret (v := .agg F) (results_cell_row rfl _ _ _ _ _ _ _ rfl hrow2 Tryz.underlying132 rfl hi) rfl ⟨ret_agg HE.out.symm, hb2⟩

theorem mixed_any (w : World) (s : St) (l : List UInt8) (hl : l.length = 64) (hT : TabW w) :
    Calls Tryz.prog 115 #[.agg (uc s.list), .agg (bc l).toArray] w fun e w' => e = .returned (.agg (uc (comp s l).list)) ∧ Below w.heap.size w w' :=
  mixed_gen w s l hl hT (ext (words l) 48) (rds (ext (words l) 48) s 64) (fun w => spread_any w l hl) (fun w hw => rounds_any w s (ext (words l) 48) (by rw [ext_length, words_length]) hw)
end Go.Proofs.YtdbmngbinhemeabGreatDoor
namespace Go.Proofs.YtdbmngbinhemeabGreatDoor
open Go.RowKit

theorem byte_u (n : UInt32) (k : UInt32) (j : Nat) (hj : k.toNat = j) (h : j < 32) : u n / 2 ^ j % 256 = (((n >>> k).toUInt8).toNat : Int) := by
  rw [u_shr n k j hj h]
  unfold u
  rw [UInt32.toNat_toUInt8]
  omega
theorem byte24 (n : UInt32) : u n / (16777216 : Int) % (256 : Int) = (((n >>> 24).toUInt8).toNat : Int) := byte_u n 24 24 rfl (by omega)
theorem byte16 (n : UInt32) : u n / (65536 : Int) % (256 : Int) = (((n >>> 16).toUInt8).toNat : Int) := byte_u n 16 16 rfl (by omega)
theorem byte8 (n : UInt32) : u n / (256 : Int) % (256 : Int) = (((n >>> 8).toUInt8).toNat : Int) := byte_u n 8 8 rfl (by omega)
theorem byte0 (n : UInt32) : u n % (256 : Int) = ((n.toUInt8).toNat : Int) := by
  unfold u
  rw [UInt32.toNat_toUInt8]
  omega

set_option maxRecDepth 20000 in
set_option maxHeartbeats 400000 in
theorem putWord_any (w : World) (base g cap : Nat) (l : List UInt8) (n : UInt32) (hbase : base ≤ w.heap.size)
    (hown : w.ownsRow base 5 1 (.slice (some ⟨g, 0, none⟩) l.length cap) l.length (bc l)) (hfit : l.length + 4 ≤ cap) :
    Calls Tryz.prog 116 #[.slice (some ⟨g, 0, none⟩) l.length cap, .int .u32 (u n)] w fun e w' => e = .returned (.slice (some ⟨g, 0, none⟩) (l.length + 4) cap) ∧
      w'.ownsRow base 5 1 (.slice (some ⟨g, 0, none⟩) (l.length + 4) cap) (l.length + 4) (bc (l ++ be4 n)) ∧ Below base w w' := by
  obtain ⟨i0, hi, hz0, hz1, hz2⟩ := info_parts Tryz.infoB
  have hg : base ≤ g := (hown.lt g rfl).1
  have h24 := byte24
  have h16 := byte16
  have h8 := byte8
  have h0 := byte0
  go_enter Tryz.func116, Tryz.ntmps116
  go_wp2_with (at_builtin; refine wpList_append_fits _ rfl (.tmp 5) (.tmp 17) 28 rfl base 5 i0 1 Tryz.underlying28 hi hz1 g l.length cap (bc l) rfl (hown.alloc _) ⟨w.heap.size, 0, none⟩ 4 4 (bc (be4 n)) rfl rfl ?c1 (bc_one _) hfit ?_)
  case c1 =>
    intro j x hj
    match j, hj with
    | 0, hj => simp [bc, be4] at hj; subst hj; simp [Addr.add_lit]
    | 1, hj => simp [bc, be4] at hj; subst hj; simp [Addr.add_lit]
    | 2, hj => simp [bc, be4] at hj; subst hj; simp [Addr.add_lit]
    | 3, hj => simp [bc, be4] at hj; subst hj; simp [Addr.add_lit]
  intro w2 hown2 hgrow2
  have hb2 : Below base w w2 := ((Below.refl _ _).alloc hbase _).grown hgrow2 (by simp; omega) (by intro k hk; injection hk with hk; omega)
  rw [← bc_append] at hown2
  clear hgrow2 hown
  go_wp2
  go_ret
  exact ⟨rfl, hown2, hb2⟩
end Go.Proofs.YtdbmngbinhemeabGreatDoor
