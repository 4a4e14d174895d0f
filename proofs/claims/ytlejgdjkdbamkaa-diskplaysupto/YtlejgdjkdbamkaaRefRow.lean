/-
  The reference's rows of names; what of, without, with answer. Conditions: the row lies there; bounded.
-/
import Derived.Test.YtlejgdjkdbamkaaJStands
import Derived.Deep.LoopGhost
import Derived.Deep.CutRange
import Derived.Laws.Cover1
namespace Go.Proofs.Ytlejgdjkdbamkaa
open Go.RowKit

theorem own_pos {w : World} {base e size n cap : Nat} {ao : Option Addr} {xs : List Value} (h : w.ownsRow base e size (.slice ao n cap) n xs) (hn : 0 < n) :
    ∃ g, ao = some ⟨g, 0, none⟩ ∧ base ≤ g ∧ g < w.heap.size ∧ ∀ j u, xs[j]? = some u → w.cell? ⟨g, j, none⟩ = some u := by
  have h0 := h
  rcases h.2 with ⟨hv, hn0⟩ | ⟨g, cap', cur, hv, hg, hh, -⟩
  · omega
  · injection hv with e1 e2 e3
    subst e1
    refine ⟨g, rfl, hg, lt_of_heap hh, fun j u hu => ?_⟩
    have := World.ownsRow.cells h0 (g := g) rfl j u hu
    rw [Addr.add_lit, Nat.zero_add] at this
    exact this
theorem own_lt {w : World} {base n size : Nat} {e : TypeId} {v : Value} {xs : List Value} (h : w.ownsRow base e size v n xs) : ∀ g, v.ownBlock = some g → base ≤ g ∧ g < w.heap.size := by
  intro g hg
  rcases h.2 with ⟨rfl, hn⟩ | ⟨g', cap', cur, rfl, hb, hh, -⟩
  · cases hg
  · injection hg with hg
    subst hg
    exact ⟨hb, lt_of_heap hh⟩
theorem own_down {w : World} {base base' n size : Nat} {e : TypeId} {v : Value} {xs : List Value} (h : w.ownsRow base e size v n xs) (hb : base' ≤ base) : w.ownsRow base' e size v n xs := by
  refine ⟨h.1, ?_⟩
  rcases h.2 with h | ⟨g', cap', cur, rfl, hb', r⟩
  · exact Or.inl h
  · exact Or.inr ⟨g', cap', cur, rfl, by omega, r⟩
theorem grown_new {w wr w1 : World} {e : TypeId} {size n : Nat} {v : Value} {xs : List Value} (hcr : Chg (fun _ => False) w wr) (o : Obj) (hrow : (wr.alloc o).ownsRow w.heap.size e size v n xs) (hg : (wr.alloc o).grownBy w1 v.ownBlock) : Chg (fun _ => False) w w1 :=
  (hcr.alloc o).trans (Chg.of_grown hg) (fun i hi hk => absurd (own_lt hrow i hk.symm).1 (by omega))
theorem infoName : (Try.prog.info? 78).map (fun i => (i.zero, i.size, i.bytes)) = some (some (.agg #[.string ⟨#[]⟩, .int .i64 0]), 2, 24) := by kernel_rfl
/-- The cells of names. -/
def nc : Dir → List Value
  | [] => []
  | p :: r => .string (strB p.1) :: .int .i64 (p.2 : Int) :: nc r
theorem nc_append (l m : Dir) : nc (l ++ m) = nc l ++ nc m := by
  induction l with
  | nil => rfl
  | cons p r ih => simp [nc, ih]
theorem nc_length (l : Dir) : (nc l).length = l.length * 2 := by
  induction l with
  | nil => rfl
  | cons p r ih => simp [nc, ih]; omega
theorem nc_at : ∀ (l : Dir) (j : Nat) (h : j < l.length), (nc l)[j * 2]? = some (.string (strB l[j].1)) ∧ (nc l)[j * 2 + 1]? = some (.int .i64 (l[j].2 : Int))
  | p :: r, 0, _ => ⟨rfl, rfl⟩
  | p :: r, j + 1, h => by
    have := nc_at r j (by simpa using h)
    rw [show (j + 1) * 2 = j * 2 + 1 + 1 by omega]
    simpa [nc] using this
theorem strB_tol (n : Nm) : (strB n).toList = n := by rw [ByteArray.toList_eq]; exact strB_list n
theorem nm_eq {a b : Nm} (h : a = b) : ((strB a).toList == (strB b).toList) = true := by rw [h]; exact beq_self_eq_true _
theorem nm_ne {a b : Nm} (h : ¬ a = b) : ((strB a).toList == (strB b).toList) = false := by
  rw [strB_tol, strB_tol, beq_eq_false_iff_ne]
  exact h
theorem less_iff : ∀ (a b : Nm), Op.bytesLess a b = decide (a < b)
  | [], [] => by simp [Op.bytesLess]
  | _ :: _, [] => by simp [Op.bytesLess]
  | [], _ :: _ => by simp [Op.bytesLess]
  | a :: x, b :: y => by
    rw [Bool.eq_iff_iff]
    simp [Op.bytesLess, less_iff x y, List.cons_lt_cons_iff]
theorem less_yes {a b : Nm} (h : a < b) : Op.bytesLess (strB a).toList (strB b).toList = true := by rw [strB_tol, strB_tol, less_iff]; exact decide_eq_true h
theorem less_no {a b : Nm} (h : b < a) : Op.bytesLess (strB a).toList (strB b).toList = false := by
  rw [strB_tol, strB_tol, less_iff]
  exact decide_eq_false fun k => nm_irrefl _ (nm_trans h k)
/-- The number that 'of' answers. -/
def idx : Option Nat → Int
  | some f => (f : Int)
  | none => -1

set_option maxRecDepth 20000 in
set_option maxHeartbeats 800000 in
theorem of_any (w : World) (B : Nat) (v : Value) (l : Dir) (n : Nm) (h : w.ownsRow B 78 2 v l.length (nc l)) (hl : l.length < 1099511627776) :
    Calls Try.prog 61 #[v, .string (strB n)] w fun e w' => e = .returned (.int .i64 (idx (look l n))) ∧ w' = w := by
  obtain ⟨ao, cap, rfl⟩ := own_shape h
  go_enter Try.func61, Try.ntmps61
  go_wp2_with fail
  go_loopw [5] (fun i wr => ∃ j : Nat, i = .int .i64 (j : Int) ∧ j ≤ l.length ∧ look l n = look (l.drop j) n ∧ w = wr)
    (fun i _ => l.length - (intOf i).toNat)
  case atStart => exact ⟨0, rfl, by omega, rfl, rfl⟩
  case round =>
    obtain ⟨j, rfl, hj, hlk, rfl⟩ := hrel
    have HL := hide hlk
    clear hlk
    by_cases hlt : j < l.length
    · obtain ⟨g, rfl, -, -, hc⟩ := own_pos h (by omega)
      have h1 := hc _ _ (nc_at l j hlt).1
      have h2 := hc _ _ (nc_at l j hlt).2
      have hd : l.drop j = l[j] :: l.drop (j + 1) := List.drop_eq_getElem_cons hlt
      have HD := hide hd
      clear hd hc
      by_cases hn : l[j].1 = n
      · have hb := nm_eq hn
        have HN := hide hn
        clear hn
        go_wp2
        go_ret
        refine ⟨?_, rfl⟩
        rw [HL.out, HD.out, look_cons, if_pos HN.out]
        rfl
      · have hb := nm_ne hn
        have HN := hide hn
        clear hn
        go_wp2
        exact ⟨⟨j + 1, by go_num, by omega, by rw [HL.out, HD.out, look_cons, if_neg HN.out], trivial⟩, by simp [intOf]; omega⟩
    · go_wp2
      go_ret
      refine ⟨?_, rfl⟩
      rw [HL.out, List.drop_eq_nil_of_le (by omega)]
      rfl

set_option maxRecDepth 20000 in
set_option maxHeartbeats 800000 in
theorem without_any (w : World) (B : Nat) (v : Value) (l : Dir) (n : Nm) (h : w.ownsRow B 78 2 v l.length (nc l)) (hl : l.length < 1099511627776) :
    Calls Try.prog 80 #[v, .string (strB n)] w fun e w' => ∃ v', e = .returned v' ∧ w'.ownsRow w.heap.size 78 2 v' (del n l).length (nc (del n l)) ∧ Chg (fun _ => False) w w' := by
  obtain ⟨ao, cap, rfl⟩ := own_shape h
  obtain ⟨i0, hi, hz0, hz1, hz2⟩ := info_parts infoName
  go_enter Try.func80, Try.ntmps80
  go_wp2_with fail
  go_loopw [5, 6] (fun o i wr => ∃ j : Nat, i = .int .i64 (j : Int) ∧ j ≤ l.length ∧ wr.ownsRow w.heap.size 78 2 o (del n (l.take j)).length (nc (del n (l.take j))) ∧ Chg (fun _ => False) w wr)
    (fun _ i _ => l.length - (intOf i).toNat)
  case atStart => exact ⟨0, rfl, by omega, World.ownsRow_nil _ _ _ _, Chg.refl _ _⟩
  case round =>
    rename_i so si
    obtain ⟨j, rfl, hj, hrow, hcr⟩ := hrel
    have hzr := hcr.size
    by_cases hlt : j < l.length
    · have hr := own_keep h hcr (fun _ _ h => h)
      obtain ⟨g, rfl, -, hgl, hc⟩ := own_pos hr (by omega)
      have h1 := hc _ _ (nc_at l j hlt).1
      have h2 := hc _ _ (nc_at l j hlt).2
      have ht : l.take (j + 1) = l.take j ++ [l[j]] := by rw [List.take_add_one]; simp [hlt]
      have hdl : (del n (l.take j)).length ≤ l.length := by
        have := List.length_filter_le (fun p : Nm × Nat => p.1 != n) (l.take j)
        have := List.length_take_le j l
        unfold del
        omega
      by_cases hn : l[j].1 = n
      · have hb := nm_eq hn
        have hde : del n (l.take (j + 1)) = del n (l.take j) := by rw [ht]; unfold del; rw [List.filter_append]; simp [hn]
        have HN := hide hde
        clear hn hde ht hc hr
        go_wp2
        exact ⟨⟨j + 1, by go_num, by omega, by rw [HN.out]; exact hrow, hcr⟩, by simp [intOf]; omega⟩
      · have hb := nm_ne hn
        have hde : del n (l.take (j + 1)) = del n (l.take j) ++ [l[j]] := by rw [ht]; unfold del; rw [List.filter_append]; simp [hn]
        have HN := hide hde
        clear hn hde ht hc hr
        have hnews : ∀ i u, [Value.string (strB l[j].1), .int .i64 (l[j].2 : Int)][i]? = some u → (wr.alloc (.cells #[.string (strB l[j].1), .int .i64 (l[j].2 : Int)] 78)).cell? ((⟨wr.heap.size, 0, none⟩ : Addr).add i) = some u := by
          intro i u hu
          rw [Addr.add_lit, Nat.zero_add, cell_of (heap_last wr _), List.getElem?_toArray]
          exact hu
        have HNE := hide hnews
        have hone : ∀ x ∈ [Value.string (strB l[j].1), .int .i64 (l[j].2 : Int)], x.oneCell' = true := by
          intro x hx
          simp only [List.mem_cons, List.not_mem_nil, or_false] at hx
          rcases hx with rfl | rfl <;> rfl
        have HON := hide hone
        clear hnews hone
        have hrow2 := hrow.alloc (.cells #[.string (strB l[j].1), .int .i64 (l[j].2 : Int)] 78)
        go_wp2_with (at_builtin; refine wpList_append_own_at _ rfl (.tmp 20) (.tmp 25) 68 rfl w.heap.size 78 i0 (.agg #[.string ⟨#[]⟩, .int .i64 0]) 2 24 Try.underlying68 hi hz0 hz1 hz2 rfl (by decide) _ _ _ rfl hrow2 ⟨wr.heap.size, 0, none⟩ 1 1 [Value.string (strB l[j].1), .int .i64 (l[j].2 : Int)] rfl rfl HNE.out HON.out (by unfold maxLen; omega) (by omega) (by simp; omega) ?_; intro v' w1 hown' hgrow hnil hloc)
        have hc1 := grown_new hcr _ hrow2 hgrow
        exact ⟨⟨j + 1, by go_num, by omega, by rw [HN.out, nc_append, List.length_append]; exact hown', hc1⟩, by simp [intOf]; omega⟩
    · have hde : l.take j = l := List.take_of_length_le (by omega)
      rw [hde] at hrow
      obtain ⟨oa, oc, rfl⟩ := own_shape hrow
      clear hde
      go_wp2
      go_ret
      exact ⟨_, rfl, hrow, hcr⟩

set_option maxRecDepth 20000 in
set_option maxHeartbeats 800000 in
theorem with_any (w : World) (B : Nat) (v : Value) (l : Dir) (n : Nm) (f : Nat) (h : w.ownsRow B 78 2 v l.length (nc l)) (hl : l.length < 1099511627776) :
    Calls Try.prog 79 #[v, .string (strB n), .int .i64 (f : Int)] w fun e w' => ∃ v', e = .returned v' ∧ w'.ownsRow w.heap.size 78 2 v' (ins n f l).length (nc (ins n f l)) ∧ Chg (fun _ => False) w w' := by
  obtain ⟨ao, cap, rfl⟩ := own_shape h
  obtain ⟨i0, hi, hz0, hz1, hz2⟩ := info_parts infoName
  go_enter Try.func79, Try.ntmps79
  go_wp2_with fail
  go_loopg [7, 8, 9] l.length (fun gk o b i wr => ∃ (j : Nat) (q : Bool) (out : Dir), gk = l.length - j ∧ b = .bool q ∧ i = .int .i64 (j : Int) ∧ j ≤ l.length ∧ wr.ownsRow w.heap.size 78 2 o out.length (nc out) ∧ out.length ≤ j + q.toNat ∧ (if q then out ++ l.drop j = ins n f l else out ++ ins n f (l.drop j) = ins n f l) ∧ Chg (fun _ => False) w wr)
  case atStart => exact ⟨0, false, [], rfl, rfl, rfl, by omega, World.ownsRow_nil _ _ _ _, by simp, by simp, Chg.refl _ _⟩
  case round =>
    obtain ⟨j, q, out, rfl, rfl, rfl, hj, hrow, hol, hout, hcr⟩ := hrel
    have hzr := hcr.size
    by_cases hlt : j < l.length
    · have hr := own_keep h hcr (fun _ _ h => h)
      obtain ⟨g, rfl, -, hgl, hc⟩ := own_pos hr (by omega)
      have h1 := hc _ _ (nc_at l j hlt).1
      have h2 := hc _ _ (nc_at l j hlt).2
      have hd : l.drop j = l[j] :: l.drop (j + 1) := List.drop_eq_getElem_cons hlt
      have HD := hide hd
      have HO := hide hout
      clear hd hout hc hr
      cases q
      · simp only [Bool.toNat_false] at hol
        by_cases hn : n < l[j].1
        · have hb1 := less_no hn
          have hb2 := nm_ne (fun e : l[j].1 = n => nm_irrefl n (by rw [e] at hn; exact hn))
          have HI := hide (show ins n f (l[j] :: l.drop (j + 1)) = (n, f) :: l[j] :: l.drop (j + 1) by rw [ins, if_pos hn])
          clear hn
          have hnewsa : ∀ i u, [Value.string (strB n), .int .i64 (f : Int)][i]? = some u → (wr.alloc (.cells #[Value.string (strB n), .int .i64 (f : Int)] 78)).cell? ((⟨wr.heap.size, 0, none⟩ : Addr).add i) = some u := by
            intro i u hu
            rw [Addr.add_lit, Nat.zero_add, cell_of (heap_last wr _), List.getElem?_toArray]
            exact hu
          have HNEa := hide hnewsa
          have honea : ∀ x ∈ [Value.string (strB n), .int .i64 (f : Int)], x.oneCell' = true := by
            intro x hx
            simp only [List.mem_cons, List.not_mem_nil, or_false] at hx
            rcases hx with rfl | rfl <;> rfl
          have HONa := hide honea
          clear hnewsa honea
          have hrow2a := hrow.alloc (.cells #[Value.string (strB n), .int .i64 (f : Int)] 78)
          go_upto_region 8 with (at_builtin; refine wpList_append_own_at _ rfl (.tmp 27) (.tmp 31) 68 rfl w.heap.size 78 i0 (.agg #[.string ⟨#[]⟩, .int .i64 0]) 2 24 Try.underlying68 hi hz0 hz1 hz2 rfl (by decide) _ _ _ rfl hrow2a ⟨wr.heap.size, 0, none⟩ 1 1 [Value.string (strB n), .int .i64 (f : Int)] rfl rfl HNEa.out HONa.out (by unfold maxLen; omega) (by omega) (by simp; omega) ?_; intro v1 w1 hown1 hgrow1 hnil1 hloc1)
          have hc1 := grown_new hcr _ hrow2a hgrow1
          have hz1' := hc1.size
          have hc := (own_pos (own_keep h hc1 (fun _ _ h => h)) (by omega))
          obtain ⟨g', hg', -, -, hc⟩ := hc
          injection hg' with hg'
          injection hg' with hg'
          subst hg'
          have h1' := hc _ _ (nc_at l j hlt).1
          have h2' := hc _ _ (nc_at l j hlt).2
          clear hc h1 h2 hrow hgrow1 hnil1 hloc1 hrow2a
          have hnewsb : ∀ i u, [Value.string (strB l[j].1), .int .i64 (l[j].2 : Int)][i]? = some u → (w1.alloc (.cells #[Value.string (strB l[j].1), .int .i64 (l[j].2 : Int)] 78)).cell? ((⟨w1.heap.size, 0, none⟩ : Addr).add i) = some u := by
            intro i u hu
            rw [Addr.add_lit, Nat.zero_add, cell_of (heap_last w1 _), List.getElem?_toArray]
            exact hu
          have HNEb := hide hnewsb
          have honeb : ∀ x ∈ [Value.string (strB l[j].1), .int .i64 (l[j].2 : Int)], x.oneCell' = true := by
            intro x hx
            simp only [List.mem_cons, List.not_mem_nil, or_false] at hx
            rcases hx with rfl | rfl <;> rfl
          have HONb := hide honeb
          clear hnewsb honeb
          have hrow2b := hown1.alloc (.cells #[Value.string (strB l[j].1), .int .i64 (l[j].2 : Int)] 78)
          go_wp2_with (at_builtin; refine wpList_append_own_at _ rfl (.tmp 33) (.tmp 38) 68 rfl w.heap.size 78 i0 (.agg #[.string ⟨#[]⟩, .int .i64 0]) 2 24 Try.underlying68 hi hz0 hz1 hz2 rfl (by decide) _ _ _ rfl hrow2b ⟨w1.heap.size, 0, none⟩ 1 1 [Value.string (strB l[j].1), .int .i64 (l[j].2 : Int)] rfl rfl HNEb.out HONb.out (by unfold maxLen; omega) (by omega) (by simp; omega) ?_; intro v2 w2 hown2 hgrow2 hnil2 hloc2)
          have hc2 := grown_new hc1 _ hrow2b hgrow2
          go_roundg (l.length - (j + 1))
          case measure => omega
          case rel => exact ⟨j + 1, true, out ++ [(n, f)] ++ [l[j]], rfl, rfl, by go_num, by omega, by rw [nc_append, nc_append, List.length_append, List.length_append]; exact hown2, by simp; omega, by have := HO.out; rw [HD.out, HI.out] at this; simpa using this, hc2⟩
        · have HI := hide (show ins n f (l[j] :: l.drop (j + 1)) = l[j] :: ins n f (l.drop (j + 1)) by rw [ins, if_neg hn])
          by_cases he : l[j].1 = n
          · have hb2 := nm_eq he
            clear hn he
            have hnews : ∀ i u, [Value.string (strB l[j].1), .int .i64 (l[j].2 : Int)][i]? = some u → (wr.alloc (.cells #[Value.string (strB l[j].1), .int .i64 (l[j].2 : Int)] 78)).cell? ((⟨wr.heap.size, 0, none⟩ : Addr).add i) = some u := by
              intro i u hu
              rw [Addr.add_lit, Nat.zero_add, cell_of (heap_last wr _), List.getElem?_toArray]
              exact hu
            have HNE := hide hnews
            have hone : ∀ x ∈ [Value.string (strB l[j].1), .int .i64 (l[j].2 : Int)], x.oneCell' = true := by
              intro x hx
              simp only [List.mem_cons, List.not_mem_nil, or_false] at hx
              rcases hx with rfl | rfl <;> rfl
            have HON := hide hone
            clear hnews hone
            have hrow2 := hrow.alloc (.cells #[Value.string (strB l[j].1), .int .i64 (l[j].2 : Int)] 78)
            go_wp2_with (at_builtin; refine wpList_append_own_at _ rfl (.tmp 33) (.tmp 38) 68 rfl w.heap.size 78 i0 (.agg #[.string ⟨#[]⟩, .int .i64 0]) 2 24 Try.underlying68 hi hz0 hz1 hz2 rfl (by decide) _ _ _ rfl hrow2 ⟨wr.heap.size, 0, none⟩ 1 1 [Value.string (strB l[j].1), .int .i64 (l[j].2 : Int)] rfl rfl HNE.out HON.out (by unfold maxLen; omega) (by omega) (by simp; omega) ?_; intro v' w1 hown' hgrow hnil hloc)
            have hc1 := grown_new hcr _ hrow2 hgrow
            go_roundg (l.length - (j + 1))
            case measure => omega
            case rel => exact ⟨j + 1, false, out ++ [l[j]], rfl, rfl, by go_num, by omega, by rw [nc_append, List.length_append]; exact hown', by simp; omega, by have := HO.out; rw [HD.out, HI.out] at this; simpa using this, hc1⟩
          · have hb1 := less_yes (nm_total hn (fun e => he e.symm))
            have hb2 := nm_ne he
            clear hn he
            have hnews : ∀ i u, [Value.string (strB l[j].1), .int .i64 (l[j].2 : Int)][i]? = some u → (wr.alloc (.cells #[Value.string (strB l[j].1), .int .i64 (l[j].2 : Int)] 78)).cell? ((⟨wr.heap.size, 0, none⟩ : Addr).add i) = some u := by
              intro i u hu
              rw [Addr.add_lit, Nat.zero_add, cell_of (heap_last wr _), List.getElem?_toArray]
              exact hu
            have HNE := hide hnews
            have hone : ∀ x ∈ [Value.string (strB l[j].1), .int .i64 (l[j].2 : Int)], x.oneCell' = true := by
              intro x hx
              simp only [List.mem_cons, List.not_mem_nil, or_false] at hx
              rcases hx with rfl | rfl <;> rfl
            have HON := hide hone
            clear hnews hone
            have hrow2 := hrow.alloc (.cells #[Value.string (strB l[j].1), .int .i64 (l[j].2 : Int)] 78)
            go_wp2_with (at_builtin; refine wpList_append_own_at _ rfl (.tmp 33) (.tmp 38) 68 rfl w.heap.size 78 i0 (.agg #[.string ⟨#[]⟩, .int .i64 0]) 2 24 Try.underlying68 hi hz0 hz1 hz2 rfl (by decide) _ _ _ rfl hrow2 ⟨wr.heap.size, 0, none⟩ 1 1 [Value.string (strB l[j].1), .int .i64 (l[j].2 : Int)] rfl rfl HNE.out HON.out (by unfold maxLen; omega) (by omega) (by simp; omega) ?_; intro v' w1 hown' hgrow hnil hloc)
            have hc1 := grown_new hcr _ hrow2 hgrow
            go_roundg (l.length - (j + 1))
            case measure => omega
            case rel => exact ⟨j + 1, false, out ++ [l[j]], rfl, rfl, by go_num, by omega, by rw [nc_append, List.length_append]; exact hown', by simp; omega, by have := HO.out; rw [HD.out, HI.out] at this; simpa using this, hc1⟩
      · simp only [Bool.toNat_true] at hol
        have hnews : ∀ i u, [Value.string (strB l[j].1), .int .i64 (l[j].2 : Int)][i]? = some u → (wr.alloc (.cells #[Value.string (strB l[j].1), .int .i64 (l[j].2 : Int)] 78)).cell? ((⟨wr.heap.size, 0, none⟩ : Addr).add i) = some u := by
          intro i u hu
          rw [Addr.add_lit, Nat.zero_add, cell_of (heap_last wr _), List.getElem?_toArray]
          exact hu
        have HNE := hide hnews
        have hone : ∀ x ∈ [Value.string (strB l[j].1), .int .i64 (l[j].2 : Int)], x.oneCell' = true := by
          intro x hx
          simp only [List.mem_cons, List.not_mem_nil, or_false] at hx
          rcases hx with rfl | rfl <;> rfl
        have HON := hide hone
        clear hnews hone
        have hrow2 := hrow.alloc (.cells #[Value.string (strB l[j].1), .int .i64 (l[j].2 : Int)] 78)
        go_wp2_with (at_builtin; refine wpList_append_own_at _ rfl (.tmp 33) (.tmp 38) 68 rfl w.heap.size 78 i0 (.agg #[.string ⟨#[]⟩, .int .i64 0]) 2 24 Try.underlying68 hi hz0 hz1 hz2 rfl (by decide) _ _ _ rfl hrow2 ⟨wr.heap.size, 0, none⟩ 1 1 [Value.string (strB l[j].1), .int .i64 (l[j].2 : Int)] rfl rfl HNE.out HON.out (by unfold maxLen; omega) (by omega) (by simp; omega) ?_; intro v' w1 hown' hgrow hnil hloc)
        have hc1 := grown_new hcr _ hrow2 hgrow
        go_roundg (l.length - (j + 1))
        case measure => omega
        case rel => exact ⟨j + 1, true, out ++ [l[j]], rfl, rfl, by go_num, by omega, by rw [nc_append, List.length_append]; exact hown', by simp; omega, by have := HO.out; rw [HD.out] at this; simpa using this, hc1⟩
    · have hdn : l.drop j = [] := List.drop_eq_nil_of_le (by omega)
      rw [hdn] at hout
      clear hdn
      cases q
      · simp only [Bool.toNat_false] at hol
        have HO := hide (show out ++ [(n, f)] = ins n f l from hout)
        clear hout
        have hnews : ∀ i u, [Value.string (strB n), .int .i64 (f : Int)][i]? = some u → (wr.alloc (.cells #[Value.string (strB n), .int .i64 (f : Int)] 78)).cell? ((⟨wr.heap.size, 0, none⟩ : Addr).add i) = some u := by
          intro i u hu
          rw [Addr.add_lit, Nat.zero_add, cell_of (heap_last wr _), List.getElem?_toArray]
          exact hu
        have HNE := hide hnews
        have hone : ∀ x ∈ [Value.string (strB n), .int .i64 (f : Int)], x.oneCell' = true := by
          intro x hx
          simp only [List.mem_cons, List.not_mem_nil, or_false] at hx
          rcases hx with rfl | rfl <;> rfl
        have HON := hide hone
        clear hnews hone
        have hrow2 := hrow.alloc (.cells #[Value.string (strB n), .int .i64 (f : Int)] 78)
        go_wp2_with (at_builtin; refine wpList_append_own_at _ rfl (.tmp 42) (.tmp 46) 68 rfl w.heap.size 78 i0 (.agg #[.string ⟨#[]⟩, .int .i64 0]) 2 24 Try.underlying68 hi hz0 hz1 hz2 rfl (by decide) _ _ _ rfl hrow2 ⟨wr.heap.size, 0, none⟩ 1 1 [Value.string (strB n), .int .i64 (f : Int)] rfl rfl HNE.out HON.out (by unfold maxLen; omega) (by omega) (by simp; omega) ?_; intro v' w1 hown' hgrow hnil hloc)
        have hc1 := grown_new hcr _ hrow2 hgrow
        obtain ⟨oa, oc, rfl⟩ := own_shape hown'
        go_ret
        refine ⟨_, rfl, ?_, hc1⟩
        rw [← HO.out, nc_append, List.length_append]
        exact hown'
      · have HO := hide (show out ++ [] = ins n f l from hout)
        clear hout
        obtain ⟨oa, oc, rfl⟩ := own_shape hrow
        go_wp2
        go_ret
        refine ⟨_, rfl, ?_, hcr⟩
        rw [← HO.out, List.append_nil]
        exact hrow
end Go.Proofs.Ytlejgdjkdbamkaa
