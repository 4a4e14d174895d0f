/-
  Names: all names of a disk, rising. Conditions: the disk lies there; its names are of a text's length.
  Bytes of a constant, and a text of bytes. Conditions: none.
  The document's examples at each statement's head answer true, and leave all that was there. Conditions: none.
-/
import Derived.Test.YtlejgdjkdbamkaaJStands
import Derived.Test.YtlejgdjkdbamkaaIter
import Derived.Test.YtlejgdjkdbamkaaCopy
import Derived.Laws.IdiomStrings
namespace Go.Proofs.Ytlejgdjkdbamkaa
open Go.RowKit Go.Maps
open Go.WideElems (rd rg rg_of)
variable {B : Nat} {w : World} {F : Nat → Prop} {d : Nat} {S : Dk} {G : Gh}

/-- Texts as cells. -/
def tc (xs : List Nm) : List Value := xs.map fun x => .string (strB x)
def readAny (_ : Value) : Option (DataW Unit × List MemPlace) := some (.nil, [])

/-- The names, out of a map's keys. -/
theorem names_map {b : Nat} {l : Dir} {fb : Nat → Nat} (h : MapW w b (dv fb l)) (hn : ∀ p ∈ l, p.1.length ≤ 4611686018427387904) (hl : l.length ≤ 4611686018427387904) :
    ∃ (nn : Nat) (D0 : DataW Unit), w.ownsMap Try.prog 9 readAny b nn D0 ∧ Maps.size D0 = l.length ∧ (strKeys D0).Perm (l.map (·.1)) := by
  obtain ⟨es, ck, h1, h2, h3⟩ := h
  have hkey : ∀ x ∈ es.toList, ∃ p ∈ l, x.key = .string (strB p.1) := fun x hx => by
    have : (x.key, x.val) ∈ dv fb l := h3.mem_iff.1 (List.mem_map.2 ⟨x, hx, rfl⟩)
    obtain ⟨p, hp, e⟩ := List.mem_map.1 this
    exact ⟨p, hp, (congrArg Prod.fst e).symm⟩
  have hlen : es.toList.length = l.length := by
    have := h3.length_eq
    simpa [dv] using this
  have hrd : ∀ x ∈ es.toList, ∀ p : Nm × Nat, p ∈ l → x.key = .string (strB p.1) → rd Try.prog 9 readAny x = some (.string p.1, .nil) := fun x _ p hp e => by
    unfold rd
    rw [e, WideMaps.keyOf_string_mk Try.underlying9 (s := strB p.1) (by rw [strB_size]; have := hn p hp; unfold maxLen; omega)]
    rw [strB_list]
    rfl
  refine ⟨es.size, _, ⟨es, ck, h1, ⟨?_, h2, fun x hx => ?_⟩, Nat.le_refl _, rfl⟩, ?_, ?_⟩
  · have : es.size = l.length := by simpa using hlen
    unfold maxLen
    omega
  · obtain ⟨p, hp, e⟩ := hkey x hx
    exact ⟨_, hrd x hx p hp e⟩
  · show (List.foldr DataW.insert [] _).length = _
    rw [length_sorted, List.length_map, hlen]
  · show (List.map _ (List.foldr DataW.insert [] _)).Perm _
    refine ((WideShapes.sorted_perm _).map _).trans ?_
    rw [List.map_map]
    have e1 : es.toList.map ((fun p : Lit × DataW Unit => strOf p.1) ∘ rg Try.prog 9 readAny) = es.toList.map fun x => (match x.key with | .string s => s.data.toList | _ => []) := by
      refine List.map_congr_left fun x hx => ?_
      obtain ⟨p, hp, e⟩ := hkey x hx
      simp only [Function.comp, rg_of (hrd x hx p hp e), e, strOf, strB_list]
    rw [e1]
    have h4 := h3.map fun q : Value × Value => (match q.1 with | .string s => s.data.toList | _ => [])
    rw [List.map_map] at h4
    refine h4.trans ?_
    unfold dv
    rw [List.map_map]
    have e2 : l.map ((fun q : Value × Value => (match q.1 with | .string s => s.data.toList | _ => [])) ∘ fun p => (Value.string (strB p.1), Value.pointer (some ⟨fb p.2, 0, none⟩))) = l.map (·.1) := by
      refine List.map_congr_left fun p _ => ?_
      simp only [Function.comp, strB_list]
    exact e2 ▸ List.Perm.refl _
/-- Sorted already: one order alone. -/
theorem sorted_one {l : Dir} (hs : Sorted l) {ss : List Nm} (hp : ss.Perm (l.map (·.1))) : ss.mergeSort (fun x y => decide (x ≤ y)) = l.map (·.1) := by
  refine List.Perm.eq_of_pairwise (le := fun a b : Nm => a ≤ b) (fun a b _ _ h1 h2 => List.le_antisymm h1 h2) ?_ ?_ ((List.mergeSort_perm _ _).trans hp)
  · have := List.pairwise_mergeSort (le := fun x y : Nm => decide (x ≤ y)) (fun a b c h1 h2 => by simp at h1 h2 ⊢; exact List.le_trans h1 h2) (fun a b => by simp; exact List.le_total a b) ss
    exact this.imp fun h => by simpa using h
  · rw [List.pairwise_map]
    have h' : l.Pairwise fun p q => p.1 < q.1 := hs
    exact h'.imp fun h => List.le_of_lt h

set_option maxRecDepth 20000 in
theorem names_rep (h : Rep w F d S G) (hn : ∀ p ∈ S.dir, p.1.length ≤ 4611686018427387904) (hl : S.dir.length ≤ 1099511627776) :
    Calls Try.prog 27 #[.pointer (some ⟨d, 0, none⟩)] w fun e w' => ∃ v, e = .returned v ∧ w'.ownsRow w.heap.size 9 1 v S.dir.length (tc (S.dir.map (·.1))) ∧ Chg (fun _ => False) w w' := by
  have hd := h.disk
  unfold dcells at hd
  have x2 := cell_of hd 2
  have hk := fun (mb : Option Nat) (W : World) => callsIn_wide.1 (Try.maps_Keys_58 mb W)
  have hfin : ∀ (o : Option Nat) (v : Value) (ss : List Nm) (w' : World), ss.Perm (S.dir.map (·.1)) → w'.ownsRow (w.alloc (.cells #[.map o] 62)).heap.size 9 1 v ss.length ((ss.mergeSort (fun x y => decide (x ≤ y))).map encStr) →
      Below (w.alloc (.cells #[.map o] 62)).heap.size (w.alloc (.cells #[.map o] 62)) w' → w'.ownsRow w.heap.size 9 1 v S.dir.length (tc (S.dir.map (·.1))) ∧ Chg (fun _ => False) w w' := fun o v ss w' hp hr hb => by
    rw [sorted_one h.ok.sortD hp, hp.length_eq, List.length_map] at hr
    refine ⟨ownsRow_base_le hr (by simp), ((Chg.refl (fun _ => False) w).alloc _).trans (Chg.of_below hb) (fun i hi hle => ?_)⟩
    simp at hle
    omega
  have HF := hide hfin
  clear hfin
  have hnow := h.now
  cases hG : G.now with
  | none =>
    rw [hG] at x2 hnow
    have he : S.dir = [] := by
      have : dv G.fb S.dir = [] := hnow
      simpa [dv] using this
    have hs := callsIn_wide.1 (Try.slices_Sorted_keys_nil_57_58 w)
    clear hd h hnow
    go_enter Try.func27, Try.ntmps27
    go_wp2_with fail
    refine (hk none w).mono ?_
    rintro e w1 ⟨rfl, rfl⟩
    go_wp2_with fail
    refine hs.mono ?_
    rintro e w2 ⟨v, ss, rfl, rfl, hrow, -, hb⟩
    go_wp2
    go_ret
    exact ⟨v, rfl, HF.out none v [] w2 (by rw [he]; exact List.Perm.refl _) hrow hb⟩
  | some b =>
    rw [hG] at x2 hnow
    obtain ⟨nn, D0, hown, hsz, hperm⟩ := names_map hnow.2 hn (by omega)
    have hs := callsIn_wide.1 (Try.slices_Sorted_keys_57_58 b nn D0 readAny w hown (by rw [hsz]; unfold maxLen; omega) (by rw [hsz]; omega))
    clear hd h hnow hown
    go_enter Try.func27, Try.ntmps27
    go_wp2_with fail
    refine (hk (some b) w).mono ?_
    rintro e w1 ⟨rfl, rfl⟩
    go_wp2_with fail
    refine hs.mono ?_
    rintro e w2 ⟨v, ss, rfl, hp, hrow, -, hb⟩
    go_wp2
    go_ret
    exact ⟨v, rfl, HF.out (some b) v ss w2 (hp.trans hperm) hrow hb⟩
end Go.Proofs.Ytlejgdjkdbamkaa

namespace Go.Proofs.Ytlejgdjkdbamkaa
open Go.RowKit

theorem freeze_new (w : World) (C : Array Value) (n : Nat) : (w.alloc (.cells C 5)).freeze ⟨w.heap.size, n, none⟩ 1 = w.alloc (.cells C 5 (n, n + 1)) := by
  have hm : ∀ (a : Array Obj) (x : Obj) (f : Obj → Obj), (a.push x).modify a.size f = a.push (f x) := by
    intro a x f
    apply Array.ext
    · simp
    · intro i h1 h2
      simp only [Array.getElem_modify, Array.getElem_push]
      by_cases h : a.size = i
      · subst h
        simp
      · have hi : i < a.size := by simp at h1; omega
        simp [h, hi]
  unfold World.freeze
  rw [if_neg (by decide)]
  show ({ w.alloc (.cells C 5) with heap := (w.heap.push (.cells C 5)).modify w.heap.size _ } : World) = _
  rw [hm]
  rfl
/-- '[]byte("..")' of a constant: the row that was built gets the run-time's mark. -/
theorem conv33 (w : World) (C : Array Value) (l c n : Nat) (hn : w.heap.size = n) : (convert 33 33 (.slice (some ⟨n, 0, none⟩) l c)).run Try.prog (w.alloc (.cells C 5)) =
    .ok (.slice (some ⟨n, 0, none⟩) l c) (w.alloc (.cells C 5 (C.size, C.size + 1))) := by
  subst hn
  have hsh : (w.alloc (.cells C 5)).shape? w.heap.size = some (5, C.size) := by
    have : (w.alloc (.cells C 5)).heap[w.heap.size]? = some (.cells C 5) := by
      show (w.heap.push (.cells C 5))[w.heap.size]? = _
      simp
    unfold World.shape?
    rw [this]
  simp [convert, run_underlying Try.underlying33, run_underlying Try.underlying5, markStringish, hsh, freeze_new]

theorem cell_new (w : World) (C : Array Value) (e : TypeId) (fr : Nat × Nat) (j : Nat) : (w.alloc (.cells C e fr)).cell? ⟨w.heap.size, j, none⟩ = C[j]? := by
  have : (w.alloc (.cells C e fr)).heap[w.heap.size]? = some (.cells C e fr) := by
    show (w.heap.push (.cells C e fr))[w.heap.size]? = _
    simp
  unfold World.cell?
  simp only [this]
  rfl
/-- A new block that holds these bytes. -/
theorem slNew (w : World) (l : List UInt8) (fr : Nat × Nat) (n : Nat) (hn : n = w.heap.size) (hl : l.length ≤ maxLen) :
    Sl (w.alloc (.cells (bc l).toArray 5 fr)) (.slice (some ⟨n, 0, none⟩) l.length l.length) l := by
  subst hn
  refine ⟨_, _, rfl, Nat.le_refl _, hl, by simp, fun _ => ⟨w.heap.size, 0, rfl, by simp, fun j hj => ?_⟩⟩
  rw [Nat.zero_add, cell_new]
  have := bc_get l j hj
  simpa using this
theorem run_str (w : World) (v : Value) (l : List UInt8) (h : Sl w v l) : (convert 33 9 v).run Try.prog w = .ok (.string ⟨l.toArray⟩) w := by
  obtain ⟨ao, cap, rfl, h1, h2, h3, h4⟩ := h
  by_cases hl : l = []
  · subst hl
    cases ao with
    | none =>
      rw [run_convert_bytes_string w 33 9 5 none _ cap Try.underlying33 Try.underlying5 Try.underlying9]
      rfl
    | some a => exact run_convert_bytes_back w 33 9 5 a cap [] Try.underlying33 Try.underlying5 Try.underlying9 (fun j hj => by simp at hj)
  · obtain ⟨b, off, rfl, hb, hc⟩ := h4 hl
    refine run_convert_bytes_back w 33 9 5 ⟨b, off, none⟩ cap l Try.underlying33 Try.underlying5 Try.underlying9 (fun j hj => ?_)
    rw [Addr.add_lit]
    exact hc j hj

theorem wpList_str (w : World) {ops : Array Oper} {rest : List Oper} {o : Oper} {a : Act} {Q : Exit → Act → World → Prop} (hg : o.guard = none) (x : Operand) (hop : o.op = Op.convert 33 9 x)
    {v : Value} {l : List UInt8} (h : Sl w v l) (hx : a.eval x = v) (hK : wpList Try.prog ops Q rest (a.put o.dst (.string ⟨l.toArray⟩)) w) : wpList Try.prog ops Q (o :: rest) a w := by
  refine wpList_plain hg fun K hK' => ?_
  have hr := run_str w v l h
  unfold Oper.wp
  simp [execOp, hop, hx, hr, Result.andThen]
  exact hK' _ _ hK

end Go.Proofs.Ytlejgdjkdbamkaa

namespace Go.Proofs.Ytlejgdjkdbamkaa
open Go.RowKit
variable {B : Nat} {w w' : World} {F : Nat → Prop} {d : Nat} {S : Dk}

theorem few_ids (n : Nat) (l : List Nat) (h : l.Nodup) (hn : ∀ i ∈ l, i < n) : l.length ≤ n := by
  have h1 := lens_le (List.replicate n ⟨[0], 0⟩) l h
  have h2 : (l.map (lenOf (List.replicate n ⟨[0], 0⟩))).sum = l.length := by
    clear h h1
    induction l with
    | nil => rfl
    | cons a r ih =>
      have ha := hn a (by simp)
      have e : lenOf (List.replicate n ⟨[0], 0⟩) a = 1 := by simp [lenOf, ha]
      simp [e, ih (fun i hi => hn i (by simp [hi]))]
      omega
  have h3 : ((List.replicate n (⟨[0], 0⟩ : Fl)).map fun f => f.b.length).sum = n := by simp
  omega
theorem names_stands (h : Stands B w F d S) (hb : S.bulk < 1099511627776) :
    Calls Try.prog 27 #[.pointer (some ⟨d, 0, none⟩)] w fun e w' => ∃ v, e = .returned v ∧ w'.ownsRow w.heap.size 9 1 v S.dir.length (tc (S.dir.map (·.1))) ∧ Stands B w' F d S ∧ Chg (fun _ => False) w w' := by
  have h0 := h
  obtain ⟨⟨G, hr⟩, h2, h3⟩ := h
  have hl : S.dir.length ≤ S.files.length := by
    have := few_ids S.files.length (ids S.dir) hr.ok.oneD (fun i hi => hr.ok.idD hi)
    simpa [ids] using this
  have hf : S.files.length ≤ S.bulk := by unfold Dk.bulk; omega
  refine (names_rep hr (fun p hp => ?_) (by omega)).mono ?_
  · have := isNm_len (h3.dir hr.ok p hp)
    omega
  · rintro e w' ⟨v, rfl, hrow, hc⟩
    exact ⟨v, rfl, hrow, h0.keep hc (fun _ _ h => h), hc⟩

/-! ### the examples, plainly -/
def x1 : Dk := ((Dk.new 10).append [97] [120, 121, 122]).1
def x2 : Dk := (x1.sync [97]).1
def x3 : Dk := (x2.append [97] [117, 118]).1
def x4 : Dk := (x3.append [98] [49, 50, 51, 52, 53, 54]).1
theorem y1 : ((Dk.new 10).append [97] [120, 121, 122]).2 = 0 ∧ (x1.sync [97]).2 = 0 ∧ (x2.append [97] [117, 118]).2 = 0 ∧ (x3.append [98] [49, 50, 51, 52, 53, 54]).2 = 33 := by decide
theorem y2 : x4.acts.length = 2 ∧ x4.size [97] = 5 := by decide
theorem y3 : ((x4.crash 1 1).read [97]).1 = [120, 121, 122, 117] ∧ ((x4.crash 1 1).read [97]).2 = 0 ∧ (x4.crash 0 9).dir = [] := by decide
theorem y4 : (Dk.new 10).bulk ≤ 100 ∧ x1.bulk ≤ 100 ∧ x2.bulk ≤ 100 ∧ x3.bulk ≤ 100 ∧ x4.bulk ≤ 100 ∧ (x4.crash 1 1).bulk ≤ 100 ∧ (x4.crash 0 9).bulk ≤ 100 := by decide

theorem lit_sl (w : World) (l : List UInt8) (hl : l.length ≤ 1000) : Sl (w.alloc (.cells (bc l).toArray 5 ((bc l).toArray.size, (bc l).toArray.size + 1))) (.slice (some ⟨w.heap.size, 0, none⟩) l.length l.length) l :=
  slNew w l _ _ rfl (by unfold maxLen; omega)

/-- Append of a constant's bytes. -/
theorem append_lit (h : Stands B w F d S) (hB : B ≤ w.heap.size) (n : Nm) (l : List UInt8) (hl : l.length ≤ 1000) (hb : S.bulk + l.length + 3 < 1099511627776) (C : Array Value) (fr : Nat × Nat) (len : Nat) (hC : C = (bc l).toArray) (hlen : len = l.length) :
    Calls Try.prog 18 #[.pointer (some ⟨d, 0, none⟩), .string (strB n), .slice (some ⟨w.heap.size, 0, none⟩) len len] (w.alloc (.cells C 5 fr)) fun e w' => e = .returned (.int .i64 (S.append n l).2) ∧ After B w F d (S.append n l).1 w' := by
  subst hC hlen
  have hc : Chg (fun _ => False) w (w.alloc (.cells (bc l).toArray 5 fr)) := (Chg.refl _ w).alloc _
  have h1 := h.keep hc (fun _ _ h => h)
  refine (append_lies h1 (Nat.le_trans hB hc.size) n hb (slNew w l fr _ rfl (by unfold maxLen; omega)) (fun _ g hg hF => ?_)).mono ?_
  · have := (h.2.1 g hF).2
    cases hg
    exact Nat.lt_irrefl _ this
  · rintro e w' ⟨rfl, F', h2, h3, h4⟩
    refine ⟨rfl, F', h2, fun k hk => ?_, (hc.mono fun _ _ h => h.elim).then h4⟩
    rcases h3 k hk with h | h
    · exact Or.inl h
    · exact Or.inr (Nat.le_trans hc.size h)

theorem Stands.step {F2 : Nat → Prop} {d2 : Nat} {S2 S' : Dk} (h2 : Stands B w F2 d2 S2) (h : After B w F d S' w') (hd : ∀ k, F2 k → ¬ F k) : Stands B w' F2 d2 S2 := by
  obtain ⟨F', _, _, hc⟩ := h
  exact h2.keep hc hd
theorem After.stands (h : After B w F d S w') : ∃ F', Stands B w' F' d S ∧ (∀ k, F' k → F k ∨ w.heap.size ≤ k) := by
  obtain ⟨F', h1, h2, _⟩ := h
  exact ⟨F', h1, h2⟩
theorem After.size (h : After B w F d S w') : w.heap.size ≤ w'.heap.size := by
  obtain ⟨F', _, _, hc⟩ := h
  exact hc.size
theorem After.below {S0 : Dk} (h : After B w F d S w') (h0 : Stands B w F d S0) (hB : B ≤ w.heap.size) : Below B w w' := by
  obtain ⟨F', _, _, hc⟩ := h
  exact h0.below hB hc
theorem chg_below (h : Chg (fun _ => False) w w') (hB : B ≤ w.heap.size) : Below B w w' := h.below (fun _ h => h.elim) hB

set_option maxRecDepth 20000 in
set_option maxHeartbeats 800000 in
theorem shown_any (w : World) : Calls Try.prog 8 #[] w fun e w' => e = .returned (.bool true) ∧ Below w.heap.size w w' := by
  obtain ⟨e1, e2, e3, e4⟩ := y1
  obtain ⟨e5, e6⟩ := y2
  obtain ⟨e7, e8, e9⟩ := y3
  obtain ⟨k0, k1, k2, k3, k4, k5, k6⟩ := y4
  have hcv := fun (W : World) (C : Array Value) (l c : Nat) => conv33 W C l c W.heap.size rfl
  go_enter Try.func8, Try.ntmps8
  go_wp2_with fail
  refine (new_lies2 (B := w.heap.size) w (Nat.le_refl _) 10 (by decide)).mono ?_
  rintro e w1 ⟨rfl, hs0, hc0⟩
  have hz1 : w.heap.size ≤ w1.heap.size := hc0.size
  have hb1 := chg_below hc0 (Nat.le_refl _)
  go_wp2_with fail
  refine (append_lit hs0 hz1 [97] [120, 121, 122] (by decide) (by simp; omega) _ _ _ rfl rfl).mono ?_
  rintro e w2 ⟨rfl, ha⟩
  have hb2 := hb1.trans (ha.below hs0 hz1)
  have hz2 := hb2.size
  obtain ⟨F1, hs1, -⟩ := ha.stands
  change Stands _ _ _ _ x1 at hs1
  clear ha hs0
  rw [e1]
  go_wp2_with fail
  refine (sync_lies hs1 hz2 [97] (by omega)).mono ?_
  rintro e w3 ⟨rfl, ha⟩
  have hb3 := hb2.trans (ha.below hs1 hz2)
  have hz3 := hb3.size
  obtain ⟨F2, hs2, -⟩ := ha.stands
  change Stands _ _ _ _ x2 at hs2
  clear ha hs1
  rw [e2]
  go_wp2_with fail
  refine (append_lit hs2 hz3 [97] [117, 118] (by decide) (by simp; omega) _ _ _ rfl rfl).mono ?_
  rintro e w4 ⟨rfl, ha⟩
  have hb4 := hb3.trans (ha.below hs2 hz3)
  have hz4 := hb4.size
  obtain ⟨F3, hs3, -⟩ := ha.stands
  change Stands _ _ _ _ x3 at hs3
  clear ha hs2
  rw [e3]
  go_wp2_with fail
  refine (append_lit hs3 hz4 [98] [49, 50, 51, 52, 53, 54] (by decide) (by simp; omega) _ _ _ rfl rfl).mono ?_
  rintro e w5 ⟨rfl, ha⟩
  have hb5 := hb4.trans (ha.below hs3 hz4)
  have hz5 := hb5.size
  obtain ⟨F4, hs4, -⟩ := ha.stands
  change Stands _ _ _ _ x4 at hs4
  have hl4 := fun k hk => (hs4.2.1 k hk).2
  clear ha hs3
  rw [e4]
  go_wp2_with fail
  refine (crash_lies hs4 hz5 1 1 (by omega)).mono ?_
  rintro e w6 ⟨dx, FX, rfl, hsx, hxn, hc6⟩
  have hb6 := hb5.trans (chg_below hc6 hz5)
  have hz6 := hb6.size
  have hs4' := hs4.keep hc6 (fun _ _ h => h)
  clear hs4
  go_wp2_with fail
  refine (crash_lies hs4' hz6 0 9 (by omega)).mono ?_
  rintro e w7 ⟨dy, FY, rfl, hsy, hyn, hc7⟩
  have hb7 := hb6.trans (chg_below hc7 hz6)
  have hz7 := hb7.size
  have hs4'' := hs4'.keep hc7 (fun _ _ h => h)
  have hsx' := hsx.keep hc7 (fun _ _ h => h)
  have hlx := fun k hk => (hsx.2.1 k hk).2
  clear hs4' hsx
  go_wp2_with fail
  refine (read_lies hsx' hz7 [97] (by omega)).mono ?_
  rintro e w8 ⟨v, rfl, hrow, FX', hsx8, hxn8, hc8, -⟩
  have hb8 := hb7.trans (hsx'.below hz7 hc8)
  rw [e7] at hrow
  rw [e8]
  have hs48 := hs4''.keep hc8 (fun k hk hx => by have := hl4 k hk; have := hxn k hx; omega)
  have hsy8 := hsy.keep hc8 (fun k hk hx => by have := hyn k hk; have := hlx k hx; omega)
  have hstr := run_str w8 v _ (sl_of_own hrow)
  clear hs4'' hsx' hsx8 hrow hsy
  go_wp2_with fail
  refine (loose_lies hs48).mono ?_
  rintro e w9 ⟨rfl, rfl⟩
  rw [e5]
  go_wp2_with fail
  refine (size_lies hs48 [97]).mono ?_
  rintro e w10 ⟨rfl, rfl⟩
  rw [e6]
  go_wp2_with fail
  refine (names_stands hsy8 (by omega)).mono ?_
  rintro e w11 ⟨u, rfl, hu, -, hc11⟩
  rw [e9] at hu
  have hb11 := hb8.trans (chg_below hc11 hb8.size)
  obtain ⟨ua, uc, rfl⟩ := own_shape hu
  go_wp2
  go_ret
  exact ⟨rfl, hb11⟩
end Go.Proofs.Ytlejgdjkdbamkaa
