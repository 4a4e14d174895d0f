/-
  Going through all fans, one list after another. Conditions: the get keeps its word; sizes of a file.
-/
import Derived.Test.YtjdbgfidnbgneaaGreatDoorC20BGo
import Derived.Test.YtjdbgfidnbgneaaGreatDoorC22BRef0
namespace Go.Proofs.YtjdbgfidnbgneaaGreatDoor
open Go.RowKit

/-- The listing g: its get, the chunks so far (the row vc). -/
def LiW (B : Nat) (w : World) (g : Nat) (fv vc : Value) (s : Wk) : Prop :=
  B ≤ g ∧ w.heap[g]? = some (.cells #[fv, vc] 71) ∧ Rw B w 25 2 partC vc s.parts
/-- What listing moves; what of it a get knows nothing of. -/
abbrev hts : List TypeId := [9, 37, 71]
abbrev qts : List TypeId := [96, 71]
theorem LiW.below {B : Nat} {w w' : World} {g : Nat} {fv vc : Value} {s : Wk} (h : LiW B w g fv vc s) (hb : Below w.heap.size w w') : LiW B w' g fv vc s :=
  ⟨h.1, (hb.block _ (lt_of_heap h.2.1)).trans h.2.1, own_same h.2.2 (fun q hq => hb.block q (h.2.2.lt q hq).2)⟩
theorem LiW.keep {B B' : Nat} {w w' : World} {g : Nat} {fv vc : Value} {s : Wk} {ts : List TypeId} (h : LiW B w g fv vc s) (hm : Mv B' ts none w w') (h1 : 71 ∉ ts) (h2 : 25 ∉ ts) : LiW B w' g fv vc s :=
  ⟨h.1, hm.k _ _ _ _ h.2.1 h1 (by simp), hm.own0 h.2.2 h2⟩
/-- What goThrough does, at most k levels down. -/
def ThruOk (g gf : Nat) (caps : Array Value) (fd : Bs → Option Bs) (B : Nat) (I : World → List Bs → Prop) (k : Nat) (level : Int) : Prop :=
  ∀ (w : World) (p : Part) (s : Wk) (vc : Value), (level = -1 → p.1.length ≤ 140737488355328) → 1 ≤ p.2 → p.2 ≤ 262144 → s.bad = 0 → LiW B w g (.func (.func gf) #[] caps) vc s → I w s.asked → s.asked.length + k * p.2.toNat ≤ 4294967296 → s.parts.length + p.2.toNat ≤ 4294967296 →
    Calls Tryz.prog 31 #[.pointer (some ⟨g, 0, none⟩), .agg #[.string (strB p.1), .int .i64 p.2], .int .i64 level] w fun e w' => e = .returned (.int .i64 (chS fd k p level s).bad) ∧ ∃ vc', LiW B w' g (.func (.func gf) #[] caps) vc' (chS fd k p level s) ∧ I w' (chS fd k p level s).asked ∧ Mv B hts vc.ownBlock w w' ∧ Nx w vc.ownBlock vc'.ownBlock
set_option maxRecDepth 40000 in
set_option maxHeartbeats 1600000 in
theorem thruEach_any (g gf : Nat) (caps : Array Value) (fd : Bs → Option Bs) (B : Nat) (I : World → List Bs → Prop) (hG : GetOk gf caps fd B qts I) (k : Nat) (level : Int) (hT : ThruOk g gf caps fd B I k level) (hlv : level ≠ -1) (w : World) (v : Value) (xs : List Part) (B' : Nat) (s : Wk) (vc : Value) (hov : w.ownsRow B' 25 2 v xs.length (xs.flatMap partC)) (hne : v.ownBlock = none ∨ v.ownBlock ≠ vc.ownBlock) (hxs : ∀ q ∈ xs, 1 ≤ q.2) (hsum : sizeP xs ≤ 262144) (hlen : xs.length ≤ 32)
    (hs : s.bad = 0) (hL : LiW B w g (.func (.func gf) #[] caps) vc s) (hI : I w s.asked) (hn1 : s.asked.length + k * (sizeP xs).toNat ≤ 4294967296) (hn2 : s.parts.length + (sizeP xs).toNat ≤ 4294967296) :
    Calls Tryz.prog 44 #[.pointer (some ⟨g, 0, none⟩), v, .int .i64 level] w fun e w' => e = .returned (.int .i64 (eachP (fun q _ t => chS fd k q level t) xs 0 s).bad) ∧ ∃ vc', LiW B w' g (.func (.func gf) #[] caps) vc' (eachP (fun q _ t => chS fd k q level t) xs 0 s) ∧ I w' (eachP (fun q _ t => chS fd k q level t) xs 0 s).asked ∧ Mv B hts vc.ownBlock w w' ∧ Nx w vc.ownBlock vc'.ownBlock := by
  obtain ⟨f, hf⟩ : ∃ f : Part → Int → Wk → Wk, f = fun q _ t => chS fd k q level t := ⟨_, rfl⟩
  rw [← hf]
  have hfd : ∀ q b t, t.bad ≠ 0 → f q b t = t := by subst hf; exact fun q b t h => chS_dead _ _ _ _ _ h
  have hfg : ∀ q b t, 1 ≤ q.2 → Grows t (f q b t) (k * q.2.toNat) q.2.toNat := by subst hf; exact fun q b t h => chS_grows _ _ _ _ _ h
  have HF := hide (And.intro hfd (And.intro hfg hf))
  obtain ⟨ao, cap, hvv, -⟩ := own_form hov
  obtain ⟨m, hm⟩ : ∃ m, m = xs.length := ⟨_, rfl⟩
  rw [← hm] at hvv
  subst hvv
  have HM := hide hm
  have hm32 : m ≤ 32 := by omega
  have H0 := hide (And.intro hov (And.intro hne (And.intro hL hI)))
  have HN := hide (And.intro hn1 hn2)
  have HS := hide hs
  clear hfd hfg hf hm hov hne hL hI hn1 hn2 hs hlen
  go_enter Tryz.func44, Tryz.ntmps44
  go_wp2_with fail
  go_loopw [12] (fun t wr => ∃ j : Nat, j ≤ m ∧ t = .int .i64 j ∧ (eachP f (xs.take j) 0 s).bad = 0 ∧ ∃ vcj, LiW B wr g (.func (.func gf) #[] caps) vcj (eachP f (xs.take j) 0 s) ∧ I wr (eachP f (xs.take j) 0 s).asked ∧ Mv B hts vc.ownBlock w wr ∧ Nx w vc.ownBlock vcj.ownBlock)
    (fun t _ => m - (intOf t).toNat)
  case atStart => exact ⟨0, by omega, rfl, HS.out, vc, H0.out.2.2.1, H0.out.2.2.2, Mv.refl _ _ _ _, Nx.refl _ _⟩
  case round =>
    obtain ⟨j, hj, rfl, hbd, vcj, hLr, hIr, hMr, hNr⟩ := hrel
    by_cases hlt : j < m
    · have hlt2 : j < xs.length := by have := HM.out; omega
      have hovr := hMr.own H0.out.1 (by decide) H0.out.2.1
      obtain ⟨bb, off, rfl, k0, k1⟩ := own_part hovr hlt2
      have hwi := sizeP_within xs hxs j hlt2
      have hst := eachP_step f xs j hlt2 0 s
      have hgr := eachP_grows HF.out.2.1 (xs.take j) 0 s (fun q hq => hxs q (List.mem_of_mem_take hq))
      generalize xs[j] = kd at *
      obtain ⟨sj, hsj⟩ : ∃ sj, sj = eachP f (xs.take j) 0 s := ⟨_, rfl⟩
      rw [← hsj] at hbd hLr hIr hst hgr
      have hb6 : Below wr.heap.size wr (wr.alloc (.cells #[.string (strB kd.1), .int .i64 kd.2] 25)) := (Below.refl _ _).alloc (Nat.le_refl _) _
      have hp6 := heap_last wr (.cells #[.string (strB kd.1), .int .i64 kd.2] 25) _ rfl
      have hL6 := hLr.below hb6
      have hI6 := hG.below hIr hb6
      have hM6 := hMr.more hb6 (hG.le _ _ hIr)
      generalize hw6 : wr.alloc (.cells #[.string (strB kd.1), .int .i64 kd.2] 25) = w6 at *
      have p0 := cell_of_row w6 wr.heap.size 0 _ _ _ hp6
      have p1 := cell_of_row w6 wr.heap.size 1 _ _ _ hp6
      simp only [List.getElem?_toArray, List.getElem?_cons_zero, List.getElem?_cons_succ] at p0 p1
      have hmul : k * (sizeP (xs.take j)).toNat + k * kd.2.toNat ≤ k * (sizeP xs).toNat := by rw [← Nat.mul_add]; exact Nat.mul_le_mul_left _ (by omega)
      have hrec := hT w6 kd sj vcj (fun h => absurd h hlv) (by omega) (by omega) hbd hL6 hI6 (by have := hgr.1; have := HN.out.1; omega) (by have := hgr.2.2; have := HN.out.2; omega)
      have hff : f kd (0 + sizeP (xs.take j)) sj = chS fd k kd level sj := by rw [HF.out.2.2]
      rw [← hff, ← hst] at hrec
      have H6 := hide (And.intro hM6 hNr)
      obtain ⟨sn, hsn⟩ : ∃ sn, sn = eachP f (xs.take (j + 1)) 0 s := ⟨_, rfl⟩
      rw [← hsn] at hrec
      have HSN := hide hsn
      clear hb6 hp6 hL6 hI6 hM6 hmul hff hst hgr hbd hLr hIr hMr hNr hovr hsj hsn hwi
      go_wp2_with fail
      refine hrec.mono ?_
      rintro e w9 ⟨rfl, vc9, hL9, hI9, hM9, hN9⟩
      have hM := H6.out.1.trans hM9 H6.out.2
      have hN := H6.out.2.trans hN9 H6.out.1.size
      have H9 := hide (And.intro hL9 (And.intro hI9 (And.intro hM hN)))
      clear hrec hL9 hI9 hM9 hN9 hM hN
      by_cases hb9 : sn.bad = 0
      · have hbb : (sn.bad != 0) = false := by rw [hb9]; rfl
        have HB9 := hide hb9
        clear hb9
        go_wp2
        go_roundw
        case rel => exact ⟨j + 1, by omega, by go_num, by rw [← HSN.out]; exact HB9.out, vc9, by rw [← HSN.out]; exact H9.out.1, by rw [← HSN.out]; exact H9.out.2.1, H9.out.2.2.1, H9.out.2.2.2⟩
        case measure => simp [intOf]; omega
      · have hbb : (sn.bad != 0) = true := by simpa using hb9
        have hstop := eachP_stop HF.out.1 xs (j + 1) 0 s (by rw [← HSN.out]; exact hb9)
        have HST := hide hstop
        clear hstop hb9
        go_wp2
        go_ret
        rw [HST.out, ← HSN.out]
        exact ⟨rfl, vc9, H9.out.1, H9.out.2.1, H9.out.2.2.1, H9.out.2.2.2⟩
    · obtain rfl : j = m := by omega
      have htk : xs.take j = xs := by rw [HM.out, List.take_length]
      rw [htk] at hbd hLr hIr
      have HL := hide (And.intro hbd (And.intro hLr (And.intro hIr (And.intro hMr hNr))))
      clear hbd hLr hIr hMr hNr htk
      go_wp2
      go_ret
      exact ⟨by rw [HL.out.1]; rfl, vcj, HL.out.2.1, HL.out.2.2.1, HL.out.2.2.2.1, HL.out.2.2.2.2⟩
/-- Parts laid behind a row of parts. -/
theorem app_parts (w : World) (B B' : Nat) (v u : Value) (xs ys : List Part) (h : Rw B w 25 2 partC v xs) (hu : w.ownsRow B' 25 2 u ys.length (ys.flatMap partC)) (hy : 1 ≤ ys.length) (hB : B ≤ w.heap.size) (hn : xs.length + ys.length ≤ 4294967296) :
    ∃ v' w', (Builtin.append_ #[38, 38] 38 #[v, u]).run Tryz.prog w = .ok v' w' ∧ Rw B w' 25 2 partC v' (xs ++ ys) ∧ w.grownBy w' v.ownBlock ∧ (v'.ownBlock = v.ownBlock ∨ v'.ownBlock = some w.heap.size) := by
  obtain ⟨i0, hi, hz0, hz1, hz2⟩ := info_parts Tryz.zPart
  have hu2 := hu.2
  rcases hu2 with ⟨rfl, h0⟩ | ⟨g4, cap4, cur4, rfl, -, -, -, -, -, -⟩
  · omega
  have hlen : (ys.flatMap partC).length = ys.length * 2 := hu.1
  have hone : ∀ x ∈ ys.flatMap partC, x.oneCell' = true := by
    intro x hx
    obtain ⟨q, -, hq⟩ := List.mem_flatMap.1 hx
    simp only [partC, List.mem_cons, List.not_mem_nil, or_false] at hq
    rcases hq with rfl | rfl <;> rfl
  obtain ⟨v', w', h1, h2, h3, -, h4⟩ := run_append_own_at (P := Tryz.prog) w B 38 38 25 i0 (.agg #[.string ⟨#[]⟩, .int .i64 0]) 2 24 Tryz.underlying38 hi hz0 hz1 hz2 rfl (by decide) v xs.length (xs.flatMap partC) h ⟨g4, 0, none⟩ ys.length cap4 (ys.flatMap partC) hlen (World.ownsRow.cells hu (g := g4) rfl) hone (by unfold maxLen; omega) (by omega) hB
  refine ⟨v', w', h1, ?_, h3, h4⟩
  unfold Rw
  rw [List.length_append, List.flatMap_append]
  exact h2
end Go.Proofs.YtjdbgfidnbgneaaGreatDoor
