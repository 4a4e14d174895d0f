/-
  The reference's acts: done, loose, act. Conditions: as each says.
  The reference's done and act. Conditions: as each says.
-/
import Derived.Test.YtlejgdjkdbamkaaRefDisk
namespace Go.Proofs.Ytlejgdjkdbamkaa
open Go.RowKit

theorem infoAct : (Try.prog.info? 117).map (fun i => (i.zero, i.size, i.bytes)) = some (some (.agg #[.int .i64 0, .string ⟨#[]⟩, .string ⟨#[]⟩, .int .i64 0, .int .i64 0]), 5, 56) := by kernel_rfl
def keepA (file : Int) : Ac → Bool
  | .more g _ => (g : Int) != file
  | _ => decide (0 ≤ file)
theorem keepA_file (f : Nat) : keepA (f : Int) = fun a => !isOf f a := by
  funext a
  cases a with
  | more g k =>
    simp only [keepA, isOf]
    rw [Bool.eq_iff_iff]
    simp
    omega
  | made n g => simp [keepA, isOf]
  | ren x y => simp [keepA, isOf]
  | rem n => simp [keepA, isOf]
theorem keepA_dir : keepA (-1) = isMore := by
  funext a
  cases a with
  | more g k => simp [keepA, isMore]
  | made n g => simp [keepA, isMore]
  | ren x y => simp [keepA, isMore]
  | rem n => simp [keepA, isMore]

set_option maxRecDepth 20000 in
set_option maxHeartbeats 3200000 in
theorem looseA_any {B r : Nat} {R : Nat → Prop} {S : Dk} {G : Rg} (w : World) (h : RR B w R r S G) (hl : S.acts.length < 1099511627776) (file : Int) :
    Calls Try.prog 77 #[.pointer (some ⟨r, 0, none⟩), .int .i64 file] w fun e w' => ∃ v', e = .returned v' ∧ w'.ownsRow w.heap.size 117 5 v' (S.acts.filter (keepA file)).length (acs (S.acts.filter (keepA file))) ∧ Chg (fun _ => False) w w' := by
  have hrow := h.act
  have hb := h.blk
  have hrl := (h.low _ h.self).2
  clear h
  obtain ⟨fv, dv, sv, av, lv, off, cut, ks⟩ := G
  dsimp only [rcells] at hrow hb
  obtain ⟨files, dir, sure, acts, room, n, cu, fails⟩ := S
  dsimp only at hrow hb hl ⊢
  obtain ⟨ao, cap, rfl⟩ := own_shape hrow
  obtain ⟨i0, hi, hz0, hz1, hz2⟩ := info_parts infoAct
  have HROW := hide hrow
  have HB := hide hb
  have c3 := cell_of hb 3
  clear hrow hb
  go_enter Try.func77, Try.ntmps77
  go_wp2_with fail
  go_loopg [5, 6] acts.length (fun gk o i wr => ∃ (j : Nat) (out : List Ac), gk = acts.length - j ∧ i = .int .i64 (j : Int) ∧ j ≤ acts.length ∧ out.length ≤ j ∧ wr.ownsRow w.heap.size 117 5 o out.length (acs out) ∧ acts.filter (keepA file) = out ++ (acts.drop j).filter (keepA file) ∧ Chg (fun _ => False) w wr)
  case atStart => exact ⟨0, [], rfl, rfl, by omega, by simp, World.ownsRow_nil _ _ _ _, by simp, Chg.refl _ _⟩
  case round =>
    clear c3
    obtain ⟨j, out, rfl, rfl, hj, hol, hrow, hfil, hcr⟩ := hrel
    have HF := hide hfil
    clear hfil
    have hzr := hcr.size
    have hb' := hcr.keep HB.out (fun h => h)
    have c3 := cell_of hb' 3
    by_cases hlt : j < acts.length
    · obtain ⟨g, rfl, -, hgl, hc⟩ := own_pos (own_keep HROW.out hcr (fun _ _ h => h)) (by omega)
      have hd : acts.drop j = acts[j] :: acts.drop (j + 1) := List.drop_eq_getElem_cons hlt
      have hat := fun i (hi : i < 5) => acs_at acts j hlt i hi
      generalize acts[j] = aj at hd hat
      have HD := hide hd
      clear hd
      cases aj with
      | made n f =>
        have x0 := hc (j * 5) (Value.int .i64 0) (hat 0 (by omega))
        have x1 := hc (j * 5 + 1) (Value.string (strB n)) (hat 1 (by omega))
        have x2 := hc (j * 5 + 2) (Value.string ⟨#[]⟩) (hat 2 (by omega))
        have x3 := hc (j * 5 + 3) (Value.int .i64 (f : Int)) (hat 3 (by omega))
        have x4 := hc (j * 5 + 4) (Value.int .i64 0) (hat 4 (by omega))
        clear hc hat
        have hrowA := hrow.alloc (.cells #[Value.int .i64 0, .string (strB n), .string ⟨#[]⟩, .int .i64 (f : Int), .int .i64 0] 117)
        have hcA : Chg (fun _ => False) w (wr.alloc (.cells #[Value.int .i64 0, .string (strB n), .string ⟨#[]⟩, .int .i64 (f : Int), .int .i64 0] 117)) := hcr.alloc _
        have hzA := hcA.size
        by_cases hk : 0 ≤ file
        · have hkb : decide (0 ≤ file) = true := decide_eq_true hk
          have hnews : ∀ i u, [Value.int .i64 0, .string (strB n), .string ⟨#[]⟩, .int .i64 (f : Int), .int .i64 0][i]? = some u → ((wr.alloc (.cells #[Value.int .i64 0, .string (strB n), .string ⟨#[]⟩, .int .i64 (f : Int), .int .i64 0] 117)).alloc (.cells #[Value.int .i64 0, .string (strB n), .string ⟨#[]⟩, .int .i64 (f : Int), .int .i64 0] 117)).cell? ((⟨(wr.heap.size + 1), 0, none⟩ : Addr).add i) = some u := by
            intro i u hu
            have hh := heap_last (wr.alloc (.cells #[Value.int .i64 0, .string (strB n), .string ⟨#[]⟩, .int .i64 (f : Int), .int .i64 0] 117)) (.cells #[Value.int .i64 0, .string (strB n), .string ⟨#[]⟩, .int .i64 (f : Int), .int .i64 0] 117)
            rw [show (wr.alloc (.cells #[Value.int .i64 0, .string (strB n), .string ⟨#[]⟩, .int .i64 (f : Int), .int .i64 0] 117)).heap.size = (wr.heap.size + 1) from by first | rfl | simp] at hh
            rw [Addr.add_lit, Nat.zero_add, cell_of hh, List.getElem?_toArray]
            exact hu
          have HNE := hide hnews
          have hone : ∀ x ∈ [Value.int .i64 0, .string (strB n), .string ⟨#[]⟩, .int .i64 (f : Int), .int .i64 0], x.oneCell' = true := by
            intro x hx
            simp only [List.mem_cons, List.not_mem_nil, or_false] at hx
            rcases hx with rfl | rfl | rfl | rfl | rfl <;> rfl
          have HON := hide hone
          clear hnews hone
          have hrow2 := hrowA.alloc (.cells #[Value.int .i64 0, .string (strB n), .string ⟨#[]⟩, .int .i64 (f : Int), .int .i64 0] 117)
          go_wp2_with (at_builtin; refine wpList_append_own_at _ rfl (.tmp 42) (.tmp 44) 69 rfl w.heap.size 117 i0 (.agg #[.int .i64 0, .string ⟨#[]⟩, .string ⟨#[]⟩, .int .i64 0, .int .i64 0]) 5 56 Try.underlying69 hi hz0 hz1 hz2 rfl (by decide) _ _ _ rfl hrow2 ⟨(wr.heap.size + 1), 0, none⟩ 1 1 [Value.int .i64 0, .string (strB n), .string ⟨#[]⟩, .int .i64 (f : Int), .int .i64 0] rfl rfl HNE.out HON.out (by unfold maxLen; omega) (by omega) (by simp; omega) ?_; intro v' w1 hown' hgrow hnil hloc)
          have hc1 := grown_new hcA _ hrow2 hgrow
          go_roundg (acts.length - (j + 1))
          case measure => omega
          case rel => exact ⟨j + 1, out ++ [.made n f], rfl, by go_num, by omega, by simp; omega, by rw [acs_append, acs_one, List.length_append]; exact hown', by rw [HF.out, HD.out, List.filter_cons_of_pos (by simp only [keepA, hkb])]; simp, hc1⟩
        · have hkb : decide (0 ≤ file) = false := decide_eq_false hk
          go_wp2_with fail
          go_roundg (acts.length - (j + 1))
          case measure => omega
          case rel => exact ⟨j + 1, out, rfl, by go_num, by omega, by omega, hrowA, by rw [HF.out, HD.out, List.filter_cons_of_neg (by simp only [keepA, hkb]; simp)], hcA⟩
      | ren a b =>
        have x0 := hc (j * 5) (Value.int .i64 1) (hat 0 (by omega))
        have x1 := hc (j * 5 + 1) (Value.string (strB a)) (hat 1 (by omega))
        have x2 := hc (j * 5 + 2) (Value.string (strB b)) (hat 2 (by omega))
        have x3 := hc (j * 5 + 3) (Value.int .i64 0) (hat 3 (by omega))
        have x4 := hc (j * 5 + 4) (Value.int .i64 0) (hat 4 (by omega))
        clear hc hat
        have hrowA := hrow.alloc (.cells #[Value.int .i64 1, .string (strB a), .string (strB b), .int .i64 0, .int .i64 0] 117)
        have hcA : Chg (fun _ => False) w (wr.alloc (.cells #[Value.int .i64 1, .string (strB a), .string (strB b), .int .i64 0, .int .i64 0] 117)) := hcr.alloc _
        have hzA := hcA.size
        by_cases hk : 0 ≤ file
        · have hkb : decide (0 ≤ file) = true := decide_eq_true hk
          have hnews : ∀ i u, [Value.int .i64 1, .string (strB a), .string (strB b), .int .i64 0, .int .i64 0][i]? = some u → ((wr.alloc (.cells #[Value.int .i64 1, .string (strB a), .string (strB b), .int .i64 0, .int .i64 0] 117)).alloc (.cells #[Value.int .i64 1, .string (strB a), .string (strB b), .int .i64 0, .int .i64 0] 117)).cell? ((⟨(wr.heap.size + 1), 0, none⟩ : Addr).add i) = some u := by
            intro i u hu
            have hh := heap_last (wr.alloc (.cells #[Value.int .i64 1, .string (strB a), .string (strB b), .int .i64 0, .int .i64 0] 117)) (.cells #[Value.int .i64 1, .string (strB a), .string (strB b), .int .i64 0, .int .i64 0] 117)
            rw [show (wr.alloc (.cells #[Value.int .i64 1, .string (strB a), .string (strB b), .int .i64 0, .int .i64 0] 117)).heap.size = (wr.heap.size + 1) from by first | rfl | simp] at hh
            rw [Addr.add_lit, Nat.zero_add, cell_of hh, List.getElem?_toArray]
            exact hu
          have HNE := hide hnews
          have hone : ∀ x ∈ [Value.int .i64 1, .string (strB a), .string (strB b), .int .i64 0, .int .i64 0], x.oneCell' = true := by
            intro x hx
            simp only [List.mem_cons, List.not_mem_nil, or_false] at hx
            rcases hx with rfl | rfl | rfl | rfl | rfl <;> rfl
          have HON := hide hone
          clear hnews hone
          have hrow2 := hrowA.alloc (.cells #[Value.int .i64 1, .string (strB a), .string (strB b), .int .i64 0, .int .i64 0] 117)
          go_wp2_with (at_builtin; refine wpList_append_own_at _ rfl (.tmp 42) (.tmp 44) 69 rfl w.heap.size 117 i0 (.agg #[.int .i64 0, .string ⟨#[]⟩, .string ⟨#[]⟩, .int .i64 0, .int .i64 0]) 5 56 Try.underlying69 hi hz0 hz1 hz2 rfl (by decide) _ _ _ rfl hrow2 ⟨(wr.heap.size + 1), 0, none⟩ 1 1 [Value.int .i64 1, .string (strB a), .string (strB b), .int .i64 0, .int .i64 0] rfl rfl HNE.out HON.out (by unfold maxLen; omega) (by omega) (by simp; omega) ?_; intro v' w1 hown' hgrow hnil hloc)
          have hc1 := grown_new hcA _ hrow2 hgrow
          go_roundg (acts.length - (j + 1))
          case measure => omega
          case rel => exact ⟨j + 1, out ++ [.ren a b], rfl, by go_num, by omega, by simp; omega, by rw [acs_append, acs_one, List.length_append]; exact hown', by rw [HF.out, HD.out, List.filter_cons_of_pos (by simp only [keepA, hkb])]; simp, hc1⟩
        · have hkb : decide (0 ≤ file) = false := decide_eq_false hk
          go_wp2_with fail
          go_roundg (acts.length - (j + 1))
          case measure => omega
          case rel => exact ⟨j + 1, out, rfl, by go_num, by omega, by omega, hrowA, by rw [HF.out, HD.out, List.filter_cons_of_neg (by simp only [keepA, hkb]; simp)], hcA⟩
      | rem n =>
        have x0 := hc (j * 5) (Value.int .i64 2) (hat 0 (by omega))
        have x1 := hc (j * 5 + 1) (Value.string (strB n)) (hat 1 (by omega))
        have x2 := hc (j * 5 + 2) (Value.string ⟨#[]⟩) (hat 2 (by omega))
        have x3 := hc (j * 5 + 3) (Value.int .i64 0) (hat 3 (by omega))
        have x4 := hc (j * 5 + 4) (Value.int .i64 0) (hat 4 (by omega))
        clear hc hat
        have hrowA := hrow.alloc (.cells #[Value.int .i64 2, .string (strB n), .string ⟨#[]⟩, .int .i64 0, .int .i64 0] 117)
        have hcA : Chg (fun _ => False) w (wr.alloc (.cells #[Value.int .i64 2, .string (strB n), .string ⟨#[]⟩, .int .i64 0, .int .i64 0] 117)) := hcr.alloc _
        have hzA := hcA.size
        by_cases hk : 0 ≤ file
        · have hkb : decide (0 ≤ file) = true := decide_eq_true hk
          have hnews : ∀ i u, [Value.int .i64 2, .string (strB n), .string ⟨#[]⟩, .int .i64 0, .int .i64 0][i]? = some u → ((wr.alloc (.cells #[Value.int .i64 2, .string (strB n), .string ⟨#[]⟩, .int .i64 0, .int .i64 0] 117)).alloc (.cells #[Value.int .i64 2, .string (strB n), .string ⟨#[]⟩, .int .i64 0, .int .i64 0] 117)).cell? ((⟨(wr.heap.size + 1), 0, none⟩ : Addr).add i) = some u := by
            intro i u hu
            have hh := heap_last (wr.alloc (.cells #[Value.int .i64 2, .string (strB n), .string ⟨#[]⟩, .int .i64 0, .int .i64 0] 117)) (.cells #[Value.int .i64 2, .string (strB n), .string ⟨#[]⟩, .int .i64 0, .int .i64 0] 117)
            rw [show (wr.alloc (.cells #[Value.int .i64 2, .string (strB n), .string ⟨#[]⟩, .int .i64 0, .int .i64 0] 117)).heap.size = (wr.heap.size + 1) from by first | rfl | simp] at hh
            rw [Addr.add_lit, Nat.zero_add, cell_of hh, List.getElem?_toArray]
            exact hu
          have HNE := hide hnews
          have hone : ∀ x ∈ [Value.int .i64 2, .string (strB n), .string ⟨#[]⟩, .int .i64 0, .int .i64 0], x.oneCell' = true := by
            intro x hx
            simp only [List.mem_cons, List.not_mem_nil, or_false] at hx
            rcases hx with rfl | rfl | rfl | rfl | rfl <;> rfl
          have HON := hide hone
          clear hnews hone
          have hrow2 := hrowA.alloc (.cells #[Value.int .i64 2, .string (strB n), .string ⟨#[]⟩, .int .i64 0, .int .i64 0] 117)
          go_wp2_with (at_builtin; refine wpList_append_own_at _ rfl (.tmp 42) (.tmp 44) 69 rfl w.heap.size 117 i0 (.agg #[.int .i64 0, .string ⟨#[]⟩, .string ⟨#[]⟩, .int .i64 0, .int .i64 0]) 5 56 Try.underlying69 hi hz0 hz1 hz2 rfl (by decide) _ _ _ rfl hrow2 ⟨(wr.heap.size + 1), 0, none⟩ 1 1 [Value.int .i64 2, .string (strB n), .string ⟨#[]⟩, .int .i64 0, .int .i64 0] rfl rfl HNE.out HON.out (by unfold maxLen; omega) (by omega) (by simp; omega) ?_; intro v' w1 hown' hgrow hnil hloc)
          have hc1 := grown_new hcA _ hrow2 hgrow
          go_roundg (acts.length - (j + 1))
          case measure => omega
          case rel => exact ⟨j + 1, out ++ [.rem n], rfl, by go_num, by omega, by simp; omega, by rw [acs_append, acs_one, List.length_append]; exact hown', by rw [HF.out, HD.out, List.filter_cons_of_pos (by simp only [keepA, hkb])]; simp, hc1⟩
        · have hkb : decide (0 ≤ file) = false := decide_eq_false hk
          go_wp2_with fail
          go_roundg (acts.length - (j + 1))
          case measure => omega
          case rel => exact ⟨j + 1, out, rfl, by go_num, by omega, by omega, hrowA, by rw [HF.out, HD.out, List.filter_cons_of_neg (by simp only [keepA, hkb]; simp)], hcA⟩
      | more f k =>
        have x0 := hc (j * 5) (Value.int .i64 3) (hat 0 (by omega))
        have x1 := hc (j * 5 + 1) (Value.string ⟨#[]⟩) (hat 1 (by omega))
        have x2 := hc (j * 5 + 2) (Value.string ⟨#[]⟩) (hat 2 (by omega))
        have x3 := hc (j * 5 + 3) (Value.int .i64 (f : Int)) (hat 3 (by omega))
        have x4 := hc (j * 5 + 4) (Value.int .i64 (k : Int)) (hat 4 (by omega))
        clear hc hat
        have hrowA := hrow.alloc (.cells #[Value.int .i64 3, .string ⟨#[]⟩, .string ⟨#[]⟩, .int .i64 (f : Int), .int .i64 (k : Int)] 117)
        have hcA : Chg (fun _ => False) w (wr.alloc (.cells #[Value.int .i64 3, .string ⟨#[]⟩, .string ⟨#[]⟩, .int .i64 (f : Int), .int .i64 (k : Int)] 117)) := hcr.alloc _
        have hzA := hcA.size
        by_cases hk : (f : Int) = file
        · have hkb : ((f : Int) != file) = false := by simp [hk]
          clear hk
          go_wp2_with fail
          go_roundg (acts.length - (j + 1))
          case measure => omega
          case rel => exact ⟨j + 1, out, rfl, by go_num, by omega, by omega, hrowA, by rw [HF.out, HD.out, List.filter_cons_of_neg (by simp only [keepA, hkb]; simp)], hcA⟩
        · have hkb : ((f : Int) != file) = true := by simp [hk]
          clear hk
          have hnews : ∀ i u, [Value.int .i64 3, .string ⟨#[]⟩, .string ⟨#[]⟩, .int .i64 (f : Int), .int .i64 (k : Int)][i]? = some u → ((wr.alloc (.cells #[Value.int .i64 3, .string ⟨#[]⟩, .string ⟨#[]⟩, .int .i64 (f : Int), .int .i64 (k : Int)] 117)).alloc (.cells #[Value.int .i64 3, .string ⟨#[]⟩, .string ⟨#[]⟩, .int .i64 (f : Int), .int .i64 (k : Int)] 117)).cell? ((⟨(wr.heap.size + 1), 0, none⟩ : Addr).add i) = some u := by
            intro i u hu
            have hh := heap_last (wr.alloc (.cells #[Value.int .i64 3, .string ⟨#[]⟩, .string ⟨#[]⟩, .int .i64 (f : Int), .int .i64 (k : Int)] 117)) (.cells #[Value.int .i64 3, .string ⟨#[]⟩, .string ⟨#[]⟩, .int .i64 (f : Int), .int .i64 (k : Int)] 117)
            rw [show (wr.alloc (.cells #[Value.int .i64 3, .string ⟨#[]⟩, .string ⟨#[]⟩, .int .i64 (f : Int), .int .i64 (k : Int)] 117)).heap.size = (wr.heap.size + 1) from by first | rfl | simp] at hh
            rw [Addr.add_lit, Nat.zero_add, cell_of hh, List.getElem?_toArray]
            exact hu
          have HNE := hide hnews
          have hone : ∀ x ∈ [Value.int .i64 3, .string ⟨#[]⟩, .string ⟨#[]⟩, .int .i64 (f : Int), .int .i64 (k : Int)], x.oneCell' = true := by
            intro x hx
            simp only [List.mem_cons, List.not_mem_nil, or_false] at hx
            rcases hx with rfl | rfl | rfl | rfl | rfl <;> rfl
          have HON := hide hone
          clear hnews hone
          have hrow2 := hrowA.alloc (.cells #[Value.int .i64 3, .string ⟨#[]⟩, .string ⟨#[]⟩, .int .i64 (f : Int), .int .i64 (k : Int)] 117)
          go_wp2_with (at_builtin; refine wpList_append_own_at _ rfl (.tmp 42) (.tmp 44) 69 rfl w.heap.size 117 i0 (.agg #[.int .i64 0, .string ⟨#[]⟩, .string ⟨#[]⟩, .int .i64 0, .int .i64 0]) 5 56 Try.underlying69 hi hz0 hz1 hz2 rfl (by decide) _ _ _ rfl hrow2 ⟨(wr.heap.size + 1), 0, none⟩ 1 1 [Value.int .i64 3, .string ⟨#[]⟩, .string ⟨#[]⟩, .int .i64 (f : Int), .int .i64 (k : Int)] rfl rfl HNE.out HON.out (by unfold maxLen; omega) (by omega) (by simp; omega) ?_; intro v' w1 hown' hgrow hnil hloc)
          have hc1 := grown_new hcA _ hrow2 hgrow
          go_roundg (acts.length - (j + 1))
          case measure => omega
          case rel => exact ⟨j + 1, out ++ [.more f k], rfl, by go_num, by omega, by simp; omega, by rw [acs_append, acs_one, List.length_append]; exact hown', by rw [HF.out, HD.out, List.filter_cons_of_pos (by simp only [keepA, hkb])]; simp, hc1⟩
    · have hdn : acts.drop j = [] := List.drop_eq_nil_of_le (by omega)
      have HE := hide (show acts.filter (keepA file) = out by rw [HF.out, hdn]; simp)
      clear hdn
      obtain ⟨oa, oc, rfl⟩ := own_shape hrow
      go_wp2
      go_ret
      exact ⟨_, rfl, by rw [HE.out]; exact hrow, hcr⟩
end Go.Proofs.Ytlejgdjkdbamkaa

namespace Go.Proofs.Ytlejgdjkdbamkaa
open Go.RowKit

theorem look_idx {l : Dir} {a : Nm} (h : look l a ≠ none) : ∃ f : Nat, look l a = some f := by
  cases e : look l a with
  | none => exact absurd e h
  | some f => exact ⟨f, rfl⟩
theorem del_len (n : Nm) (l : Dir) : (del n l).length ≤ l.length := List.length_filter_le _ _
set_option maxRecDepth 20000 in
set_option maxHeartbeats 1600000 in
theorem done_any (w : World) (B : Nat) (v : Value) (l : Dir) (a : Ac) (hB : B ≤ w.heap.size) (h : w.ownsRow B 78 2 v l.length (nc l)) (hl : l.length < 1099511627776) (hcan : canD l a) :
    Calls Try.prog 66 #[v, .agg (ac a).toArray] w fun e w' => ∃ v', e = .returned v' ∧ w'.ownsRow B 78 2 v' (doneD l a).length (nc (doneD l a)) ∧ (v' = v ∨ ∀ k, v'.ownBlock = some k → w.heap.size ≤ k) ∧ Chg (fun _ => False) w w' := by
  cases a with
  | made n f =>
    have hA := h.alloc (.cells #[.int .i64 0, .string (strB n), .string ⟨#[]⟩, .int .i64 (f : Int), .int .i64 0] 117)
    have hcA : Chg (fun _ => False) w (w.alloc (.cells #[.int .i64 0, .string (strB n), .string ⟨#[]⟩, .int .i64 (f : Int), .int .i64 0] 117)) := (Chg.refl _ w).alloc _
    have hz := hcA.size
    dsimp only [ac]
    go_enter Try.func66, Try.ntmps66
    go_wp2_with fail
    refine (with_any _ B v l n f hA hl).mono ?_
    rintro e w1 ⟨v1, rfl, h1, hc1⟩
    go_wp2
    go_ret
    exact ⟨v1, rfl, own_down h1 (by omega), Or.inr fun k hk => by have := (own_lt h1 k hk).1; omega, hcA.then hc1⟩
  | ren a b =>
    obtain ⟨f, hf⟩ := look_idx hcan.1
    have hA := h.alloc (.cells #[.int .i64 1, .string (strB a), .string (strB b), .int .i64 0, .int .i64 0] 117)
    have hcA : Chg (fun _ => False) w (w.alloc (.cells #[.int .i64 1, .string (strB a), .string (strB b), .int .i64 0, .int .i64 0] 117)) := (Chg.refl _ w).alloc _
    have hz := hcA.size
    have hbx := heap_last w (.cells #[.int .i64 1, .string (strB a), .string (strB b), .int .i64 0, .int .i64 0] 117)
    have hof := of_any _ B v l a hA hl
    rw [hf] at hof
    have hdn : doneD l (.ren a b) = ins b f (del b (del a l)) := by simp only [doneD, hf]
    have HDN := hide hdn
    clear hdn hf hcan
    dsimp only [ac]
    go_enter Try.func66, Try.ntmps66
    go_wp2_with fail
    refine hof.mono ?_
    rintro e w1 ⟨rfl, rfl⟩
    dsimp only [idx]
    go_wp2_with fail
    have x1 := cell_of hbx 1
    have x2 := cell_of hbx 2
    refine wp_region_held_drew (S := fun W => W.cell? ⟨w.heap.size, 1, none⟩ = some (.string (strB a)) ∧ W.cell? ⟨w.heap.size, 2, none⟩ = some (.string (strB b))) (by kernel_rfl) (⟨x1, x2⟩) (fun hHeld => ?_)
    refine takeH (i := 0) (v := ?_) rfl (by kernel_rfl) (by kernel_rfl) (by kernel_rfl) (fun _ _ _ h => h) rfl ?_ hHeld ?_
    rotate_left
    · intro w hS; (try dsimp only at hS); obtain ⟨hS0, hS1⟩ := hS; go_simp; first | done | (with_reducible rfl)
    try simp only [Act.put, ly1, ly2, ly3]
    refine takeH (i := 1) (v := ?_) rfl (by kernel_rfl) (by kernel_rfl) (by kernel_rfl) (fun _ _ _ h => h) rfl ?_ hHeld ?_
    rotate_left
    · intro w hS; (try dsimp only at hS); obtain ⟨hS0, hS1⟩ := hS; go_simp; first | done | (with_reducible rfl)
    try simp only [Act.put, ly1, ly2, ly3]
    refine takeH (i := 2) (v := ?_) rfl (by kernel_rfl) (by kernel_rfl) (by kernel_rfl) (fun _ _ _ h => h) rfl ?_ hHeld ?_
    rotate_left
    · intro w hS; (try dsimp only at hS); obtain ⟨hS0, hS1⟩ := hS; go_simp; first | done | (with_reducible rfl)
    try simp only [Act.put, ly1, ly2, ly3]
    refine takeH (i := 4) (v := ?_) rfl (by kernel_rfl) (by kernel_rfl) (by kernel_rfl) (fun _ _ _ h => h) rfl ?_ hHeld ?_
    rotate_left
    · intro w hS; (try dsimp only at hS); obtain ⟨hS0, hS1⟩ := hS; go_simp; first | done | (with_reducible rfl)
    try simp only [Act.put, ly1, ly2, ly3]
    refine takeH (i := 5) (v := ?_) rfl (by kernel_rfl) (by kernel_rfl) (by kernel_rfl) (fun _ _ _ h => h) rfl ?_ hHeld ?_
    rotate_left
    · intro w hS; (try dsimp only at hS); obtain ⟨hS0, hS1⟩ := hS; go_simp; first | done | (with_reducible rfl)
    try simp only [Act.put, ly1, ly2, ly3]
    refine takeH (i := 7) (v := ?_) rfl (by kernel_rfl) (by kernel_rfl) (by kernel_rfl) (fun _ _ _ h => h) rfl ?_ hHeld ?_
    rotate_left
    · intro w hS; (try dsimp only at hS); obtain ⟨hS0, hS1⟩ := hS; go_simp; first | done | (with_reducible rfl)
    try simp only [Act.put, ly1, ly2, ly3]
    refine takeH (i := 8) (v := ?_) rfl (by kernel_rfl) (by kernel_rfl) (by kernel_rfl) (fun _ _ _ h => h) rfl ?_ hHeld ?_
    rotate_left
    · intro w hS; (try dsimp only at hS); obtain ⟨hS0, hS1⟩ := hS; go_simp; first | done | (with_reducible rfl)
    try simp only [Act.put, ly1, ly2, ly3]
    refine takeH (i := 9) (v := ?_) rfl (by kernel_rfl) (by kernel_rfl) (by kernel_rfl) (fun _ _ _ h => h) rfl ?_ hHeld ?_
    rotate_left
    · intro w hS; (try dsimp only at hS); obtain ⟨hS0, hS1⟩ := hS; go_simp; first | done | (with_reducible rfl)
    try simp only [Act.put, ly1, ly2, ly3]
    refine onlyH (i := 3) rfl (by kernel_rfl) rfl (fun K hK => ?_)
    go_simp
    have hA' := own_keep hA ((Chg.refl (fun _ => False) _).drew) (fun _ _ h => h)
    refine (without_any _ B v l a hA' hl).mono ?_
    rintro e w2 ⟨v2, rfl, h2, hc2⟩
    have hb2 := hc2.keep (show (World.drew _).heap[w.heap.size]? = some _ from hbx) (fun h => h)
    have hl2 := del_len a l
    refine hK.out _ _ (⟨cell_of hb2 1, cell_of hb2 2⟩) (fun hHeld => ?_)
    clear hK K
    try simp only [Act.put, ly1, ly2, ly3]
    refine onlyH (i := 6) rfl (by kernel_rfl) rfl (fun K hK => ?_)
    go_simp
    refine (without_any _ _ v2 (del a l) b h2 (by omega)).mono ?_
    rintro e w3 ⟨v3, rfl, h3, hc3⟩
    have hb3 := hc3.keep hb2 (fun h => h)
    have hl3 := del_len b (del a l)
    refine hK.out _ _ (⟨cell_of hb3 1, cell_of hb3 2⟩) (fun hHeld => ?_)
    clear hK K
    try simp only [Act.put, ly1, ly2, ly3]
    refine onlyH (i := 10) rfl (by kernel_rfl) rfl (fun K hK => ?_)
    go_simp
    refine (with_any _ _ v3 (del b (del a l)) b f h3 (by omega)).mono ?_
    rintro e w4 ⟨v4, rfl, h4, hc4⟩
    have hb4 := hc4.keep hb3 (fun h => h)
    refine hK.out _ _ (⟨cell_of hb4 1, cell_of hb4 2⟩) (fun hHeld => ?_)
    clear hK K
    try simp only [Act.put, ly1, ly2, ly3]
    refine takeH (i := 11) (v := ?_) rfl (by kernel_rfl) (by kernel_rfl) (by kernel_rfl) (fun _ _ _ h => h) rfl ?_ hHeld ?_
    rotate_left
    · intro w hS; (try dsimp only at hS); obtain ⟨hS0, hS1⟩ := hS; go_simp; first | done | (with_reducible rfl)
    try simp only [Act.put, ly1, ly2, ly3]
    refine wpAnyH_done (by kernel_rfl) ?_ _
    clear hHeld
    go_wp2
    go_ret
    have hs2 := hc2.size
    have hs3 := hc3.size
    simp at hs2
    have hcc : Chg (fun _ => False) w w4 := (hcA.drew.then hc2).then (hc3.then hc4)
    refine ⟨v4, rfl, ?_, Or.inr fun k hk => by have := (own_lt h4 k hk).1; omega, hcc⟩
    rw [HDN.out]
    exact own_down h4 (by omega)
  | rem n =>
    have hA := h.alloc (.cells #[.int .i64 2, .string (strB n), .string ⟨#[]⟩, .int .i64 0, .int .i64 0] 117)
    have hcA : Chg (fun _ => False) w (w.alloc (.cells #[.int .i64 2, .string (strB n), .string ⟨#[]⟩, .int .i64 0, .int .i64 0] 117)) := (Chg.refl _ w).alloc _
    have hz := hcA.size
    dsimp only [ac]
    go_enter Try.func66, Try.ntmps66
    go_wp2_with fail
    refine (without_any _ B v l n hA hl).mono ?_
    rintro e w1 ⟨v1, rfl, h1, hc1⟩
    go_wp2
    go_ret
    exact ⟨v1, rfl, own_down h1 (by omega), Or.inr fun k hk => by have := (own_lt h1 k hk).1; omega, hcA.then hc1⟩
  | more f k =>
    have hA := h.alloc (.cells #[.int .i64 3, .string ⟨#[]⟩, .string ⟨#[]⟩, .int .i64 (f : Int), .int .i64 (k : Int)] 117)
    have hcA : Chg (fun _ => False) w (w.alloc (.cells #[.int .i64 3, .string ⟨#[]⟩, .string ⟨#[]⟩, .int .i64 (f : Int), .int .i64 (k : Int)] 117)) := (Chg.refl _ w).alloc _
    dsimp only [ac]
    go_enter Try.func66, Try.ntmps66
    go_wp2
    go_ret
    exact ⟨v, rfl, hA, Or.inl rfl, hcA⟩
end Go.Proofs.Ytlejgdjkdbamkaa
