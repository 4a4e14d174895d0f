/-
  Texts joined: Names, Turn, TurnOk, Tells0, Plays4.
-/
import Derived.Test.YthjcimgollfmgaaGreatDoorP11Law
import Derived.Test.YthjcimgollfmgaaGreatDoorIter
import Derived.Test.YthjcimgollfmgaaGreatDoorP21Shown2
import Derived.Test.YthjcimgollfmgaaGreatDoorP23Args5
import Derived.Test.YthjcimgollfmgaaGreatDoorP25Plays3
/-
  Names: all names of a disk, rising. Conditions: the disk lies there; its names are of a text's length.
-/
namespace Go.Proofs.YthjcimgollfmgaaGreatDoor
open Go.RowKit Go.Maps
open Go.WideElems (rd rg rg_of)
variable {B : Nat} {w : World} {F : Nat → Prop} {d : Nat} {S : Dk} {G : Gh}

/-- Texts as cells. -/
def tc (xs : List Nm) : List Value := xs.map fun x => .string (strB x)
def readAny (_ : Value) : Option (DataW Unit × List MemPlace) := some (.nil, [])

/-- The names, out of a map's keys. -/
theorem names_map {b : Nat} {l : Dir} {fb : Nat → Nat} (h : MapW w b (dv fb l)) (hn : ∀ p ∈ l, p.1.length ≤ 4611686018427387904) (hl : l.length ≤ 4611686018427387904) :
    ∃ (nn : Nat) (D0 : DataW Unit), w.ownsMap Tryz.prog 9 readAny b nn D0 ∧ Maps.size D0 = l.length ∧ (strKeys D0).Perm (l.map (·.1)) := by
  obtain ⟨es, ck, h1, h2, h3⟩ := h
  have hkey : ∀ x ∈ es.toList, ∃ p ∈ l, x.key = .string (strB p.1) := fun x hx => by
    have : (x.key, x.val) ∈ dv fb l := h3.mem_iff.1 (List.mem_map.2 ⟨x, hx, rfl⟩)
    obtain ⟨p, hp, e⟩ := List.mem_map.1 this
    exact ⟨p, hp, (congrArg Prod.fst e).symm⟩
  have hlen : es.toList.length = l.length := by
    have := h3.length_eq
    simpa [dv] using this
  have hrd : ∀ x ∈ es.toList, ∀ p : Nm × Nat, p ∈ l → x.key = .string (strB p.1) → rd Tryz.prog 9 readAny x = some (.string p.1, .nil) := fun x _ p hp e => by
    unfold rd
    rw [e, WideMaps.keyOf_string_mk Tryz.underlying9 (s := strB p.1) (by rw [strB_size]; have := hn p hp; unfold maxLen; omega)]
    rw [strB_list]
    rfl
  refine ⟨es.size, _, ⟨es, ck, h1, ⟨?_, h2, fun x hx => ?_⟩, Nat.le_refl _, rfl⟩, ?_, ?_⟩
  · have : es.size = l.length := by simpa using hlen
    unfold maxLen
    omega
  · obtain ⟨p, hp, e⟩ := hkey x hx
    exact ⟨_, hrd x hx p hp e⟩
  · show (List.foldr DataW.insert [] _).length = _
    rw [length_sorted, List.length_map, hlen]
  · show (List.map _ (List.foldr DataW.insert [] _)).Perm _
    refine ((WideShapes.sorted_perm _).map _).trans ?_
    rw [List.map_map]
    have e1 : es.toList.map ((fun p : Go.Lit × DataW Unit => strOf p.1) ∘ rg Tryz.prog 9 readAny) = es.toList.map fun x => (match x.key with | .string s => s.data.toList | _ => []) := by
      refine List.map_congr_left fun x hx => ?_
      obtain ⟨p, hp, e⟩ := hkey x hx
      simp only [Function.comp, rg_of (hrd x hx p hp e), e, strOf, strB_list]
    rw [e1]
    have h4 := h3.map fun q : Value × Value => (match q.1 with | .string s => s.data.toList | _ => [])
    rw [List.map_map] at h4
    refine h4.trans ?_
    unfold dv
    rw [List.map_map]
    have e2 : l.map ((fun q : Value × Value => (match q.1 with | .string s => s.data.toList | _ => [])) ∘ fun p => (Value.string (strB p.1), Value.pointer (some ⟨fb p.2, 0, none⟩))) = l.map (·.1) := by
      refine List.map_congr_left fun p _ => ?_
      simp only [Function.comp, strB_list]
    exact e2 ▸ List.Perm.refl _
/-- Sorted already: one order alone. -/
theorem sorted_one {l : Dir} (hs : Sorted l) {ss : List Nm} (hp : ss.Perm (l.map (·.1))) : ss.mergeSort (fun x y => decide (x ≤ y)) = l.map (·.1) := by
  refine List.Perm.eq_of_pairwise (le := fun a b : Nm => a ≤ b) (fun a b _ _ h1 h2 => List.le_antisymm h1 h2) ?_ ?_ ((List.mergeSort_perm _ _).trans hp)
  · have := List.pairwise_mergeSort (le := fun x y : Nm => decide (x ≤ y)) (fun a b c h1 h2 => by simp at h1 h2 ⊢; exact List.le_trans h1 h2) (fun a b => by simp; exact List.le_total a b) ss
    exact this.imp fun h => by simpa using h
  · rw [List.pairwise_map]
    have h' : l.Pairwise fun p q => p.1 < q.1 := hs
    exact h'.imp fun h => List.le_of_lt h

set_option maxRecDepth 20000 in
theorem names_rep (h : Rep w F d S G) (hn : ∀ p ∈ S.dir, p.1.length ≤ 4611686018427387904) (hl : S.dir.length ≤ 1099511627776) :
    Calls Tryz.prog 14 #[.pointer (some ⟨d, 0, none⟩)] w fun e w' => ∃ v, e = .returned v ∧ w'.ownsRow w.heap.size 9 1 v S.dir.length (tc (S.dir.map (·.1))) ∧ Chg (fun _ => False) w w' := by
  have hd := h.disk
  unfold dcells at hd
  have x2 := cell_of hd 2
  have hk := fun (mb : Option Nat) (W : World) => callsIn_wide.1 (Tryz.maps_Keys_31 mb W)
  have hfin : ∀ (o : Option Nat) (v : Value) (ss : List Nm) (w' : World), ss.Perm (S.dir.map (·.1)) → w'.ownsRow (w.alloc (.cells #[.map o] 59)).heap.size 9 1 v ss.length ((ss.mergeSort (fun x y => decide (x ≤ y))).map encStr) →
      Below (w.alloc (.cells #[.map o] 59)).heap.size (w.alloc (.cells #[.map o] 59)) w' → w'.ownsRow w.heap.size 9 1 v S.dir.length (tc (S.dir.map (·.1))) ∧ Chg (fun _ => False) w w' := fun o v ss w' hp hr hb => by
    rw [sorted_one h.ok.sortD hp, hp.length_eq, List.length_map] at hr
    refine ⟨ownsRow_base_le hr (by simp), ((Chg.refl (fun _ => False) w).alloc _).trans (Chg.of_below hb) (fun i hi hle => ?_)⟩
    simp at hle
    omega
  have HF := hide hfin
  clear hfin
  have hnow := h.now
  cases hG : G.now with
  | none =>
    rw [hG] at x2 hnow
    have he : S.dir = [] := by
      have : dv G.fb S.dir = [] := hnow
      simpa [dv] using this
    have hs := callsIn_wide.1 (Tryz.slices_Sorted_keys_nil_30_31 w)
    clear hd h hnow
    go_enter Tryz.func14, Tryz.ntmps14
    go_wp2_with fail
    refine (hk none w).mono ?_
    rintro e w1 ⟨rfl, rfl⟩
    go_wp2_with fail
    refine hs.mono ?_
    rintro e w2 ⟨v, ss, rfl, rfl, hrow, -, hb⟩
    go_wp2
    go_ret
    exact ⟨v, rfl, HF.out none v [] w2 (by rw [he]; exact List.Perm.refl _) hrow hb⟩
  | some b =>
    rw [hG] at x2 hnow
    obtain ⟨nn, D0, hown, hsz, hperm⟩ := names_map hnow.2 hn (by omega)
    have hs := callsIn_wide.1 (Tryz.slices_Sorted_keys_30_31 b nn D0 readAny w hown (by rw [hsz]; unfold maxLen; omega) (by rw [hsz]; omega))
    clear hd h hnow hown
    go_enter Tryz.func14, Tryz.ntmps14
    go_wp2_with fail
    refine (hk (some b) w).mono ?_
    rintro e w1 ⟨rfl, rfl⟩
    go_wp2_with fail
    refine hs.mono ?_
    rintro e w2 ⟨v, ss, rfl, hp, hrow, -, hb⟩
    go_wp2
    go_ret
    exact ⟨v, rfl, HF.out (some b) v ss w2 (hp.trans hperm) hrow hb⟩
end Go.Proofs.YthjcimgollfmgaaGreatDoor

/-
  What Turn answers, and does. Condition: a disk within bounds.
-/
namespace Go.Proofs.YthjcimgollfmgaaGreatDoor
open Go.RowKit

section
variable {w w' : World} {F : Nat → Prop} {d : Nat} {S : Dk} {G : Gh}

theorem rep_look (h : Rep w F d S G) (n : Nm) : (Instr.lookup 59 (.map G.now) (.string (strB n)) false).run Tryz.prog w = .ok (pv G.fb (look S.dir n)) w := by
  cases e : G.now with
  | some b => exact now_map h e n
  | none =>
    have hm := h.now
    rw [e] at hm
    have h2 : dv G.fb S.dir = [] := hm
    have h3 : S.dir = [] := List.map_eq_nil_iff.1 h2
    rw [h3]
    exact dir_look_nil w n

set_option maxRecDepth 20000 in
theorem turn_none (h : Rep w F d S G) (n : Nm) (at_ : Int) (b : UInt8) (hl : look S.dir n = none) : Calls Tryz.prog 24 #[.pointer (some ⟨d, 0, none⟩), .string (strB n), .int .i64 at_, .int .u8 (b.toNat : Int)] w fun e w' => e = .returned (.int .i64 2) ∧ w' = w := by
  have hd := h.disk
  unfold dcells at hd
  have x2 := cell_of hd 2
  have hlk := rep_look h n
  rw [hl] at hlk
  have hlk' : (Instr.lookup 59 (.map G.now) (.string (strB n)) false).run Tryz.prog w = .ok (.pointer none) w := hlk
  clear hlk
  go_enter Tryz.func24, Tryz.ntmps24
  go_wp2
  go_ret
  exact ⟨rfl, rfl⟩

set_option maxRecDepth 20000 in
theorem turn_out (h : Rep w F d S G) (n : Nm) (at_ : Int) (b : UInt8) {f : Nat} (hl : look S.dir n = some f) (ho : at_ < 0 ∨ ((S.bytes f).length : Int) ≤ at_) : Calls Tryz.prog 24 #[.pointer (some ⟨d, 0, none⟩), .string (strB n), .int .i64 at_, .int .u8 (b.toNat : Int)] w fun e w' => e = .returned (.int .i64 2) ∧ w' = w := by
  have hd := h.disk
  unfold dcells at hd
  have x2 := cell_of hd 2
  have hlk := rep_look h n
  rw [hl] at hlk
  have hlk' : (Instr.lookup 59 (.map G.now) (.string (strB n)) false).run Tryz.prog w = .ok (.pointer (some ⟨G.fb f, 0, none⟩)) w := hlk
  obtain ⟨x, hx, hbx, hlv, f2, b2⟩ := h.file hl
  obtain ⟨ra, rc, hrv⟩ := own_shape b2
  rw [hrv] at f2
  have y0 := cell_of f2 0
  rw [hbx] at ho
  clear hlk f2 b2 hrv hbx
  obtain ⟨len, hlen⟩ : ∃ len, len = x.b.length := ⟨_, rfl⟩
  rw [← hlen] at y0 ho
  clear hlen
  rcases Int.lt_or_le at_ 0 with hlt | hlt
  all_goals
    go_enter Tryz.func24, Tryz.ntmps24
    go_wp2
    go_ret
    exact ⟨rfl, rfl⟩
end
end Go.Proofs.YthjcimgollfmgaaGreatDoor

/-
  What Turn does where it turns bits. Condition: a disk within bounds.
-/
namespace Go.Proofs.YthjcimgollfmgaaGreatDoor
open Go.RowKit

theorem Ok.modify {S : Dk} (h : Ok S) (f : Nat) (g : Fl → Fl) (hg : ∀ x, (g x).sure = x.sure ∧ (g x).b.length = x.b.length) : Ok { S with files := S.files.modify f g } where
  sortS := h.sortS
  valid := h.valid
  dir := h.dir
  one := h.one
  idS i hi := by
    show i < (S.files.modify f g).length
    rw [List.length_modify]
    exact h.idS i hi
  idA i hi := by
    show i < (S.files.modify f g).length
    rw [List.length_modify]
    exact h.idA i hi
  idM i hi := by
    show i < (S.files.modify f g).length
    rw [List.length_modify]
    exact h.idM i hi
  lens i y hy := by
    rcases modify_get hy with ⟨_, hy'⟩ | ⟨rfl, x, hx, rfl⟩
    · exact h.lens i y hy'
    · rw [(hg x).1, (hg x).2]
      exact h.lens i x hx

section
variable {w w' : World} {F : Nat → Prop} {d : Nat} {S : Dk} {G : Gh}

/-- Bytes of one file are others, where they lay. -/
theorem Rep.rebyte (h : Rep w F d S G) {f : Nat} (hf : f ∈ ids S.dir) {x : Fl} (hx : S.files[f]? = some x) (g : Fl → Fl) (hg : ∀ x, (g x).sure = x.sure ∧ (g x).b.length = x.b.length) {q : Nat} (hq : (G.rv f).ownBlock = some q) (hc : Chg (· = q) w w')
    (hrow : w'.ownsRow 0 5 1 (G.rv f) x.b.length (bc (g x).b)) : Rep w' F d { S with files := S.files.modify f g } G := by
  have hlf := live_of_dir h.ok hf
  obtain ⟨b1, b2, b3⟩ := h.bytes f x hlf hx
  obtain ⟨cur, hcur⟩ := own_block b2 hq
  have hne : ∀ k o, w.heap[k]? = some o → tag o ≠ 5 → k ≠ q := fun k o ho ht e => by
    subst e
    exact ne_tag hcur ho (fun e => ht e.symm) rfl
  have hmo : ∀ {o : Option Nat} {l : List (Value × Value)}, MapO w F o l → MapO w' F o l := fun {o l} hm => hm.keep hc (fun b e e2 => by
    rw [e] at hm
    subst e2
    exact hm.2.ne hcur rfl) (fun _ h => h)
  have hused : usedOf (S.files.modify f g) S.dir = usedOf S.files S.dir := by
    unfold usedOf
    congr 1
    refine List.map_congr_left fun p _ => ?_
    unfold lenOf
    by_cases e : p.2 = f
    · rw [e, List.getElem?_modify_eq, hx]
      simp [(hg x).2]
    · have e3 : ¬ f = p.2 := fun e2 => e e2.symm
      rw [List.getElem?_modify]
      simp [e3]
  exact
    { ok := h.ok.modify f g hg
      disk := by
        have := hc.keep h.disk (hne _ _ h.disk (show 63 ≠ 5 by decide))
        rw [this]
        unfold dcells
        show _ = some (Obj.cells #[_, .int .i64 ((usedOf (S.files.modify f g) S.dir : Nat) : Int), _, _, _, _, _, _, _] _)
        rw [hused]
        rfl
      inD := h.inD
      roomy := h.roomy
      cutv := h.cutv
      now := hmo h.now
      sure := hmo h.sure
      both := h.both
      bare := h.bare
      fails := by
        obtain ⟨l, g1, g2⟩ := h.fails
        exact ⟨l, hmo g1, g2⟩
      two := h.two
      three := h.three
      row := own_keep h.row hc (fun k hk => by
        obtain ⟨cur2, hcur2⟩ := own_block h.row hk
        exact hne k _ hcur2 (show 88 ≠ 5 by decide))
      rowF := h.rowF
      many := h.many
      acts := h.actsKeep hc (fun k c t h1 h2 e => by
        subst e
        exact spares_cells hcur (by decide) _ c t h1 h2 rfl) (fun _ h => h)
      files := fun i hi => ⟨(h.files i hi).1, hc.keep (h.files i hi).2 (hne _ _ (h.files i hi).2 (show 80 ≠ 5 by decide))⟩
      inj := h.inj
      bytes := fun i y hi hy => by
        rcases modify_get hy with ⟨hn, hy'⟩ | ⟨rfl, x', hx', rfl⟩
        · obtain ⟨c1, c2, c3⟩ := h.bytes i y hi hy'
          exact ⟨c1, own_keep c2 hc (fun k hk e => hn (h.apart i f k hi hlf hk (e ▸ hq))), c3⟩
        · rw [hx] at hx'
          injection hx' with hx'
          subst hx'
          rw [(hg x).1, (hg x).2]
          exact ⟨b1, hrow, b3⟩
      apart := h.apart }

theorem b_xor (x y : UInt8) : bits .xor .u8 (x.toNat : Int) (y.toNat : Int) = ((x ^^^ y).toNat : Int) := by
  rw [u8_xor_nat _ _ x.toNat_lt y.toNat_lt, UInt8.toNat_xor]
theorem bc_modify (l : List UInt8) (i : Nat) (b : UInt8) (h : i < l.length) : bc (l.modify i (· ^^^ b)) = (bc l).set i (.int .u8 (((l[i]'h) ^^^ b).toNat : Int)) := by
  apply List.ext_getElem?
  intro j
  unfold bc
  rw [List.getElem?_map, List.getElem?_modify, List.getElem?_set]
  by_cases e : i = j
  · subst e
    simp [h]
  · simp [e]

set_option maxRecDepth 20000 in
set_option maxHeartbeats 400000 in
theorem turn_ok (h : Rep w F d S G) (n : Nm) (at_ : Nat) (b : UInt8) {f : Nat} (hl : look S.dir n = some f) (ho : at_ < (S.bytes f).length) : Calls Tryz.prog 24 #[.pointer (some ⟨d, 0, none⟩), .string (strB n), .int .i64 (at_ : Int), .int .u8 (b.toNat : Int)] w fun e w' => e = .returned (.int .i64 0) ∧
    Rep w' F d { S with files := S.files.modify f fun x => { x with b := x.b.modify at_ (· ^^^ b) } } G ∧ Chg F w w' := by
  have hd := h.disk
  unfold dcells at hd
  have x2 := cell_of hd 2
  have hlk := rep_look h n
  rw [hl] at hlk
  have hlk' : (Instr.lookup 59 (.map G.now) (.string (strB n)) false).run Tryz.prog w = .ok (.pointer (some ⟨G.fb f, 0, none⟩)) w := hlk
  obtain ⟨x, hx, hbx, hlv, f2, b2⟩ := h.file hl
  have b3 := (h.bytes f x hlv hx).2.2
  rw [hbx] at ho
  obtain ⟨g, cap, cur, hrv, hcur, hle, hmx, hcs, htk⟩ : ∃ g cap cur, G.rv f = .slice (some ⟨g, 0, none⟩) x.b.length cap ∧ w.heap[g]? = some (.cells cur 5 (0, 0)) ∧ x.b.length ≤ cap ∧ cap ≤ maxLen ∧ cur.size = cap * 1 ∧ cur.toList.take (x.b.length * 1) = bc x.b := by
    rcases b2.2 with ⟨e1, e2⟩ | ⟨g, cap, cur, e1, _, e2, e3, e4, e5, e6⟩
    · omega
    · exact ⟨g, cap, cur, e1, e2, e3, e4, e5, e6⟩
  have hgF : F g := b3 g (by rw [hrv]; rfl)
  have hv : w.cell? ⟨g, at_, none⟩ = some (.int .u8 ((x.b[at_]'ho).toNat : Int)) := by
    rw [hrv] at b2
    have := b2.cellAt at_ (by omega)
    rw [bc_get x.b at_ ho] at this
    exact this
  have tg := thawed hcur at_
  have hset := heap_set hcur at_ (.int .u8 (((x.b[at_]'ho) ^^^ b).toNat : Int))
  have hnew : (w.setCell ⟨g, at_, none⟩ (.int .u8 (((x.b[at_]'ho) ^^^ b).toNat : Int))).ownsRow 0 5 1 (G.rv f) x.b.length (bc (x.b.modify at_ (· ^^^ b))) := by
    rw [hrv]
    refine ⟨by rw [bc_length, List.length_modify]; omega, Or.inr ⟨g, cap, _, rfl, Nat.zero_le _, hset, hle, hmx, by rw [Array.size_setIfInBounds]; exact hcs, ?_⟩⟩
    rw [bc_modify _ _ _ ho, ← htk, Array.toList_setIfInBounds, List.take_set]
  have hfin := h.rebyte (look_id hl) hx (fun x => { x with b := x.b.modify at_ (· ^^^ b) }) (fun y => ⟨rfl, List.length_modify ..⟩) (q := g) (by rw [hrv]; rfl) (chg_set w g at_ _) hnew
  have hcF : Chg F w (w.setCell ⟨g, at_, none⟩ (.int .u8 (((x.b[at_]'ho) ^^^ b).toNat : Int))) := (chg_set w g at_ _).mono fun k _ e => by rw [e]; exact hgF
  rw [hrv] at f2
  have y0 := cell_of f2 0
  have hxo := b_xor (x.b[at_]'ho) b
  have HF := hide hfin
  have HC := hide hcF
  obtain ⟨c, hcv⟩ : ∃ c, c = x.b[at_]'ho := ⟨_, rfl⟩
  rw [← hcv] at hv hxo HF HC
  obtain ⟨len, hlen⟩ : ∃ len, len = x.b.length := ⟨_, rfl⟩
  rw [← hlen] at y0 hle
  have hal : at_ < len := by omega
  clear hfin hcF hnew hset hlk f2 b2 b3 htk hlen hcv hcs hbx ho hx hrv
  go_enter Tryz.func24, Tryz.ntmps24
  go_wp2
  go_ret
  exact ⟨rfl, HF.out, HC.out⟩

/-- Turn, in one. -/
theorem turn_rep (h : Rep w F d S G) (n : Nm) (at_ : Int) (b : UInt8) : Calls Tryz.prog 24 #[.pointer (some ⟨d, 0, none⟩), .string (strB n), .int .i64 at_, .int .u8 (b.toNat : Int)] w fun e w' => e = .returned (.int .i64 (S.turn n at_ b).2) ∧
    Rep w' F d (S.turn n at_ b).1 G ∧ Chg F w w' := by
  unfold Dk.turn
  cases hl : look S.dir n with
  | none =>
    refine (turn_none h n at_ b hl).mono ?_
    rintro e w' ⟨he, rfl⟩
    exact ⟨he, h, Chg.refl _ _⟩
  | some f =>
    dsimp only
    by_cases ho : at_ < 0 ∨ ((S.bytes f).length : Int) ≤ at_
    · rw [if_pos ho]
      refine (turn_out h n at_ b hl ho).mono ?_
      rintro e w' ⟨he, rfl⟩
      exact ⟨he, h, Chg.refl _ _⟩
    · rw [if_neg ho]
      obtain ⟨k, rfl⟩ : ∃ k : Nat, at_ = (k : Int) := ⟨at_.toNat, by omega⟩
      exact turn_ok h n k b hl (by omega)
end
end Go.Proofs.YthjcimgollfmgaaGreatDoor

/-
  Names, Turn of a disk that stands; which of many. Conditions: as each says.
-/
namespace Go.Proofs.YthjcimgollfmgaaGreatDoor
open Go.RowKit
variable {B : Nat} {w : World} {F : Nat → Prop} {d : Nat} {S : Dk}

theorem few_ids1 (n : Nat) (l : List Nat) (h : l.Nodup) (hn : ∀ i ∈ l, i < n) : l.length ≤ n := by
  have h1 := lens_le (List.replicate n ⟨[0], 0⟩) l h
  have h2 : (l.map (lenOf (List.replicate n ⟨[0], 0⟩))).sum = l.length := by
    clear h h1
    induction l with
    | nil => rfl
    | cons a r ih =>
      have ha := hn a (by simp)
      have e : lenOf (List.replicate n ⟨[0], 0⟩) a = 1 := by simp [lenOf, ha]
      simp [e, ih (fun i hi => hn i (by simp [hi]))]
      omega
  have h3 : ((List.replicate n (⟨[0], 0⟩ : Fl)).map fun f => f.b.length).sum = n := by simp
  omega
theorem names_stands1 (h : Stands B w F d S) (hb : S.bulk < 1099511627776) :
    Calls Tryz.prog 14 #[.pointer (some ⟨d, 0, none⟩)] w fun e w' => ∃ v, e = .returned v ∧ w'.ownsRow w.heap.size 9 1 v S.dir.length (tc (S.dir.map (·.1))) ∧ Stands B w' F d S ∧ Chg (fun _ => False) w w' ∧ S.dir.length ≤ S.bulk := by
  have h0 := h
  obtain ⟨⟨G, hr⟩, h2, h3⟩ := h
  have hl : S.dir.length ≤ S.files.length := by
    have := few_ids1 S.files.length (ids S.dir) hr.ok.oneD (fun i hi => hr.ok.idD hi)
    simpa [ids] using this
  have hf : S.files.length ≤ S.bulk := by unfold Dk.bulk; omega
  refine (names_rep hr (fun p hp => ?_) (by omega)).mono ?_
  · have := isNm_len (h3.dir hr.ok p hp)
    omega
  · rintro e w' ⟨v, rfl, hrow, hc⟩
    exact ⟨v, rfl, hrow, h0.keep hc (fun _ _ h => h), hc, by omega⟩
theorem turn_lies (h : Stands B w F d S) (n : Nm) (at_ : Int) (b : UInt8) : Calls Tryz.prog 24 #[.pointer (some ⟨d, 0, none⟩), .string (strB n), .int .i64 at_, .int .u8 (b.toNat : Int)] w fun e w' => e = .returned (.int .i64 (S.turn n at_ b).2) ∧ Stands B w' F d (S.turn n at_ b).1 ∧ Chg F w w' := by
  obtain ⟨⟨G, hr⟩, h2, h3⟩ := h
  refine (turn_rep hr n at_ b).mono ?_
  rintro e w' ⟨rfl, hr', hc⟩
  have hs := turn_same S n at_ b
  refine ⟨rfl, ⟨⟨G, hr'⟩, fun k hk => ⟨(h2 k hk).1, Nat.lt_of_lt_of_le (h2 k hk).2 hc.size⟩, ?_⟩, hc⟩
  unfold Named at h3 ⊢
  rw [hs.2.1, hs.2.2]
  exact h3
set_option maxRecDepth 20000 in
theorem pick_big (w : World) (c n : Int) (hc : -9223372036854775808 ≤ c ∧ c ≤ 9223372036854775807) (hn : 0 < n ∧ n ≤ 4611686018427387904) :
    Calls Tryz.prog 8 #[.int .i64 c, .int .i64 n] w fun e w' => e = .returned (.int .i64 (pk c n)) ∧ w' = w := by
  have hn0 : ¬ n = 0 := by omega
  unfold pk
  by_cases h : c < 0
  · rw [if_pos h]
    have hm : (-(c + 1)).tmod n = (-(c + 1)) % n := Int.tmod_eq_emod_of_nonneg (by omega)
    have h1 := Int.emod_nonneg (-(c + 1)) (show n ≠ 0 by omega)
    have h2 := Int.emod_lt_of_pos (-(c + 1)) (show 0 < n by omega)
    go_enter Tryz.func8, Tryz.ntmps8
    go_wp2
    go_ret
    exact ⟨ret_i (by first | rfl | omega), rfl⟩
  · rw [if_neg h]
    have hm : c.tmod n = c % n := Int.tmod_eq_emod_of_nonneg (by omega)
    have h1 := Int.emod_nonneg c (show n ≠ 0 by omega)
    have h2 := Int.emod_lt_of_pos c (show 0 < n by omega)
    go_enter Tryz.func8, Tryz.ntmps8
    go_wp2
    go_ret
    exact ⟨ret_i (by first | rfl | omega), rfl⟩
/-- Where nothing fails a call is done. -/
theorem lay_done {z : Nm} {L : Lw} {gs : List (List (List UInt8))} {rs : List (List UInt8)} (h : Has z S L gs) (hc : Calm S) (hk : Ok S) (hz : isNm z = true) (hn : isNm (z ++ anewB) = true) (kd : Int) (hr : right rs = true) (hb : S.bulk + (laid sum4 gs).length + (grp sum4 rs).length + 4 ≤ S.room) :
    (layW kd S L rs).2.2 = 0 ∧ Alt S (layW kd S L rs).1 := by
  unfold layW
  split
  · exact calm_resetW h hc hk hz hn hr (by omega)
  · exact calm_appendW h hc hk hz hn hr hb
theorem calm_cut {op : Int} (h : ∀ k, S.fails k = false) : Mild (S.cutAt op) := h
end Go.Proofs.YthjcimgollfmgaaGreatDoor

/-
  One log in a world of the law's, whatever fails; Open then; what must be known of bytes. Conditions: none beyond the facts named.
-/
namespace Go.Proofs.YthjcimgollfmgaaGreatDoor
open Go.RowKit
variable {B : Nat} {w w' : World} {F F' : Nat → Prop} {X d a : Nat} {S S' : Dk} {La La' : Lw} {ga v f : Value} {gsa gs : List (List (List UInt8))} {ks : List Int} {t : Bool} {z : Nm}

def Off2 (F : Nat → Prop) (a X : Nat) (f : Value) (k : Nat) : Prop := Off1 F a X k ∧ f.ownBlock ≠ some k
structure Pw (B : Nat) (w : World) (X d a : Nat) (F : Nat → Prop) (S : Dk) (La : Lw) (ga : Value) (gsa : List (List (List UInt8))) (f : Value) (ks : List Int) (t : Bool) : Prop where
  wx : WorldAt w X d a ga f t
  la : Lg B w F d a S La
  ra : Rk (Off2 F a X f) w ga gsa
  XF : ¬ F X
  Xl : X ≠ a
  low : B ≤ X
  row : w.ownsRow B 3 1 f ks.length (icW ks)
  rx : ∀ k, f.ownBlock = some k → Off1 F a X k
theorem Pw.quiet (h : Pw B w X d a F S La ga gsa f ks t) (hc : Chg (fun _ => False) w w') : Pw B w' X d a F S La ga gsa f ks t :=
  ⟨h.wx.keep hc (fun h => h), h.la.keep hc (fun _ _ h => h) (fun h => h), h.ra.keep hc (fun _ _ h => h), h.XF, h.Xl, h.low, row_keep h.row hc (fun _ _ h => h), h.rx⟩
theorem Pw.small (h : Pw B w X d a F S La ga gsa f ks t) : (∀ k, F k → k < w.heap.size) ∧ a < w.heap.size ∧ X < w.heap.size ∧ ∀ k, f.ownBlock = some k → k < w.heap.size := ⟨fun k hk => (h.la.1.2.1 k hk).2, h.la.lt, lt_of_heap h.wx, fun k hk => (World.ownsRow.lt h.row k hk).2⟩
theorem Pw.since (h : Pw B w X d a F S La ga gsa f ks t) {k : Nat} (hk : w.heap.size ≤ k) : Off2 F a X f k := by
  have hs := h.small
  exact ⟨⟨fun hf => by have := hs.1 k hf; omega, by omega, by omega⟩, fun e => by have := hs.2.2.2 k e; omega⟩
theorem Rk.step2 (h : Rk (Off2 F a X f) w v gs) (hF : ∀ k, F' k → F k ∨ w.heap.size ≤ k) (hc : Chg (fun k => F k ∨ k = a) w w') : Rk (Off2 F' a X f) w' v gs := by
  refine (h.mono (Q := fun k => Off2 F a X f k ∧ ¬ F' k) fun k hk ho => ⟨ho, fun hf => (hF k hf).elim ho.1.1 (fun h => by omega)⟩).keep hc (fun k ho hx => hx.elim ho.1.1.1 ho.1.1.2.1) |>.mono ?_
  intro k _ ho
  exact ⟨⟨ho.2, ho.1.1.2⟩, ho.1.2⟩
theorem Pw.step (h : Pw B w X d a F S La ga gsa f ks t) (hl : Then B w F d a S' La' w') : ∃ F', Pw B w' X d a F' S' La' ga gsa f ks t ∧ Below B w w' ∧ (∀ k, F' k → F k ∨ w.heap.size ≤ k) ∧ Chg (fun k => F k ∨ k = a) w w' := by
  have hbl := hl.below h.la
  obtain ⟨F', hg, hF, hc⟩ := hl
  have hs := h.small
  have ap : ∀ {k : Nat}, k < w.heap.size → ¬ F k → ¬ F' k := fun hk hn hf => (hF _ hf).elim hn (fun h => by omega)
  exact ⟨F', ⟨h.wx.keep hc (fun e => e.elim h.XF h.Xl), hg, h.ra.step2 hF hc, ap hs.2.2.1 h.XF, h.Xl, h.low, row_keep h.row hc (fun k e hx => hx.elim (h.rx k e).1 (h.rx k e).2.1), fun k e => ⟨ap (hs.2.2.2 k e) (h.rx k e).1, (h.rx k e).2⟩⟩, hbl, hF, hc⟩
/-- A cell of the world's is noted anew. -/
theorem Pw.set (h : Pw B w X d a F S La ga gsa f ks t) (i : Nat) (u : Value) : Chg (· = X) w (w.setCell ⟨X, i, none⟩ u) ∧ Below B w (w.setCell ⟨X, i, none⟩ u) := by
  have hg : Chg (· = X) w (w.setCell ⟨X, i, none⟩ u) := (Chg.refl (· = X) w).setCell (p := ⟨X, i, none⟩) (Or.inl rfl) _
  exact ⟨hg, hg.below (fun k e => by rw [e]; exact h.low) h.la.size⟩
theorem Pw.put (h : Pw B w X d a F S La ga gsa f ks t) (hr : Rk (Off2 F a X f) w v gs) : Pw B (w.setCell ⟨X, 2, none⟩ v) X d a F S La v gs f ks t := by
  have hg := (h.set 2 v).1
  exact ⟨heap_set h.wx 2 v, h.la.keep hg (fun k hk e => h.XF (e ▸ hk)) (fun e => h.Xl e.symm), hr.keep hg (fun k ho e => ho.1.2.2 e), h.XF, h.Xl, h.low, row_keep h.row hg (fun k e e2 => (h.rx k e).2.2 e2), h.rx⟩
theorem Pw.putT (h : Pw B w X d a F S La ga gsa f ks t) (t2 : Bool) : Pw B (w.setCell ⟨X, 4, none⟩ (.bool t2)) X d a F S La ga gsa f ks t2 := by
  have hg := (h.set 4 (.bool t2)).1
  exact ⟨heap_set h.wx 4 _, h.la.keep hg (fun k hk e => h.XF (e ▸ hk)) (fun e => h.Xl e.symm), h.ra.keep hg (fun k ho e => ho.1.2.2 e), h.XF, h.Xl, h.low, row_keep h.row hg (fun k e e2 => (h.rx k e).2.2 e2), h.rx⟩
/-- Another log on the same disk, opened since. -/
theorem Pw.putL (h : Pw B w X d a F S La ga gsa f ks t) {l8 : Nat} {F8 : Nat → Prop} {S8 : Dk} {L8 : Lw} (hc : Chg F w w') (hl : Lg B w' F8 d l8 S8 L8) (hn : w.heap.size ≤ l8) (hF : ∀ k, F8 k → F k ∨ w.heap.size ≤ k) :
    Pw B (w'.setCell ⟨X, 1, none⟩ (.pointer (some ⟨l8, 0, none⟩))) X d l8 F8 S8 L8 ga gsa f ks t ∧ Below B w (w'.setCell ⟨X, 1, none⟩ (.pointer (some ⟨l8, 0, none⟩))) := by
  have hs := h.small
  have hg : Chg (· = X) w' (w'.setCell ⟨X, 1, none⟩ (.pointer (some ⟨l8, 0, none⟩))) := (Chg.refl (· = X) w').setCell (p := ⟨X, 1, none⟩) (Or.inl rfl) _
  have ap : ∀ {k : Nat}, k < w.heap.size → ¬ F k → ¬ F8 k := fun hk hn hf => (hF _ hf).elim hn (fun h => by omega)
  have hXF := ap hs.2.2.1 h.XF
  have hXl : X ≠ l8 := by omega
  have hb1 : Below B w w' := hc.below (fun k hk => (h.la.1.2.1 k hk).1) h.la.size
  refine ⟨⟨heap_set (h.wx.keep hc h.XF) 1 _, hl.keep hg (fun k hk e => hXF (e ▸ hk)) (fun e => hXl e.symm), ?_, hXF, hXl, h.low, row_keep (row_keep h.row hc (fun k e hx => (h.rx k e).1 hx)) hg (fun k e e2 => (h.rx k e).2.2 e2), fun k e => ⟨ap (hs.2.2.2 k e) (h.rx k e).1, by have := hs.2.2.2 k e; omega, (h.rx k e).2.2⟩⟩, hb1.trans (hg.below (fun k e => by rw [e]; exact h.low) (Nat.le_trans h.la.size hc.size))⟩
  have r1 := (h.ra.mono (Q := fun k => Off2 F a X f k ∧ k < w.heap.size) fun k hk ho => ⟨ho, hk⟩).keep hc (fun k ho hx => ho.1.1.1 hx)
  have r2 := r1.keep hg (fun k ho e => ho.1.1.2.2 e)
  exact r2.mono (fun k _ ho => ⟨⟨ap ho.2 ho.1.1.1, by have := ho.2; omega, ho.1.1.2.2⟩, ho.1.2⟩)
/-- Numbers that are noted anew, in a block of their own. -/
theorem Pw.putF (h : Pw B w X d a F S La ga gsa f ks t) {f2 : Value} {ks2 : List Int} (hr : w'.ownsRow B 3 1 f2 ks2.length (icW ks2)) (hc : Chg (fun k => f.ownBlock = some k) w w') (hf : ∀ k, f2.ownBlock = some k → f.ownBlock = some k ∨ w.heap.size ≤ k) :
    Pw B (w'.setCell ⟨X, 3, none⟩ f2) X d a F S La ga gsa f2 ks2 t ∧ Below B w (w'.setCell ⟨X, 3, none⟩ f2) := by
  have hs := h.small
  have hg : Chg (· = X) w' (w'.setCell ⟨X, 3, none⟩ f2) := (Chg.refl (· = X) w').setCell (p := ⟨X, 3, none⟩) (Or.inl rfl) _
  have hoff : ∀ k, f2.ownBlock = some k → Off1 F a X k := fun k e => (hf k e).elim (h.rx k) (fun h2 => (h.since h2).1)
  have hb1 : Below B w w' := hc.below (fun k hk => (World.ownsRow.lt h.row k hk).1) h.la.size
  refine ⟨⟨heap_set (h.wx.keep hc (fun e => (h.rx X e).2.2 rfl)) 3 _, (h.la.keep hc (fun k hk e => (h.rx k e).1 hk) (fun e => (h.rx a e).2.1 rfl)).keep hg (fun k hk e => h.XF (e ▸ hk)) (fun e => h.Xl e.symm), ?_, h.XF, h.Xl, h.low, row_keep hr hg (fun k e e2 => (hoff k e).2.2 e2), hoff⟩, hb1.trans (hg.below (fun k e => by rw [e]; exact h.low) (Nat.le_trans h.la.size hc.size))⟩
  have r1 := (h.ra.mono (Q := fun k => Off2 F a X f k ∧ k < w.heap.size) fun k hk ho => ⟨ho, hk⟩).keep hc (fun k ho hx => ho.1.2 hx)
  have r2 := r1.keep hg (fun k ho e => ho.1.1.2.2 e)
  exact r2.mono (fun k _ ho => ⟨ho.1.1, fun e => (hf k e).elim ho.1.2 (fun h2 => by have := ho.2; omega)⟩)

theorem on_look2 {tail : List UInt8} (h : On z S gs tail) (hz : isNm z = true) (hon : S.on = true) : lookW S z = (0, some (gs, (laid sum4 gs).length, (laid sum4 gs ++ tail).length)) ∨ (lookW S z = (34, none) ∧ S.fails S.n = true) := by
  cases hf : S.fails S.n with
  | false => exact .inl (h.look hz hon hf)
  | true =>
    have hof : S.onFile z = match look S.dir z with
        | none => .error 32
        | some f => .ok (f, S.fails S.n) := by
      unfold Dk.onFile
      rw [if_neg (by simp [hon]), if_neg (by simp [hz])]
      cases look S.dir z <;> rfl
    rcases h.2.2 with ⟨h1, e⟩ | ⟨g, h1⟩
    · left
      have hr : readW S z = (laid sum4 gs ++ tail, 0) := by
        unfold readW Dk.read
        rw [hof, h1.lookD, e]
        rfl
      unfold lookW
      rw [hr]
      dsimp only
      rw [if_neg (by decide), groups_on h.1 h.2.1]
      rfl
    · right
      have hr : readW S z = ([], 34) := by
        unfold readW Dk.read
        rw [hof, h1.lookD]
        simp only [hf]
        rfl
      unfold lookW
      rw [hr]
      exact ⟨rfl, rfl⟩
theorem Has.begun {L : Lw} (h : Has z S L gs) : Has z S.begun L gs := by
  obtain ⟨h1, tail, h2, h3⟩ := h
  exact ⟨h1, tail, h2.begun, h3⟩
theorem Has.failAt {L : Lw} (h : Has z S L gs) (ks : List Int) : Has z (S.failAt ks) L gs := by
  obtain ⟨h1, tail, ⟨h2, h3, h4⟩, h5⟩ := h
  refine ⟨h1, tail, ⟨h2, h3, ?_⟩, h5⟩
  rcases h4 with ⟨h4, e⟩ | ⟨f, h4⟩
  · exact .inl ⟨⟨h4.lookS, h4.lookD, h4.acts⟩, e⟩
  · exact .inr ⟨f, h4.lookS, h4.lookD, h4.acts, h4.file⟩
theorem Has.setRoom {L : Lw} (h : Has z S L gs) (r : Int) : Has z (S.setRoom r) L gs := by
  obtain ⟨h1, tail, ⟨h2, h3, h4⟩, h5⟩ := h
  refine ⟨h1, tail, ⟨h2, h3, ?_⟩, h5⟩
  rcases h4 with ⟨h4, e⟩ | ⟨f, h4⟩
  · exact .inl ⟨⟨h4.lookS, h4.lookD, h4.acts⟩, e⟩
  · exact .inr ⟨f, h4.lookS, h4.lookD, h4.acts, h4.file⟩
theorem Tryz.infoI : (Tryz.prog.info? 3).map (fun i => (i.zero, i.size, i.bytes)) = some (some (.int .i64 0), 1, 8) := by kernel_rfl
theorem wrap_hi (x : Int) : IntKind.i64.wrap x ≤ 9223372036854775807 := by
  rw [IntKind.wrap_i64]
  omega
theorem row_form {base n : Nat} {ty : TypeId} {u : Value} {xs : List Value} (h : w.ownsRow base ty 1 u n xs) : ∃ ao c m, u = .slice ao m c := by
  rcases h.2 with ⟨rfl, -⟩ | ⟨g, cap, cur, rfl, -⟩
  · exact ⟨_, _, _, rfl⟩
  · exact ⟨_, _, _, rfl⟩
/-- So many bytes at most a log's groups take. -/
def mostG (rs : List (List UInt8)) : Nat := (rs.map fun r => 10 + r.length).sum
def mostW (gs : List (List (List UInt8))) : Nat := (gs.map mostG).sum
theorem body_most : ∀ rs : List (List UInt8), (bodyW rs).length ≤ mostG rs
  | [] => by simp [bodyW]
  | r :: rs => by
    have h1 := body_most rs
    have h2 := (num_length r.length).2
    rw [body_cons, List.length_append]
    unfold mostG at h1 ⊢
    simp only [List.map_cons, List.sum_cons, txt, List.length_append]
    omega
theorem laid_most : ∀ gs : List (List (List UInt8)), (laid sum4 gs).length ≤ 30 * gs.length + mostW gs
  | [] => by simp [laid]
  | g :: gs => by
    have h1 := laid_most gs
    have h2 := body_most g
    have h3 := grp_len g
    have h4 : laid sum4 (g :: gs) = grp sum4 g ++ laid sum4 gs := by
      rw [show g :: gs = [g] ++ gs from rfl, laid_append, laid_one]
    rw [h4, List.length_append]
    unfold mostW at h1 ⊢
    simp only [List.map_cons, List.sum_cons, List.length_cons]
    omega
theorem body_least : ∀ rs : List (List UInt8), mostG rs ≤ 10 * (bodyW rs).length
  | [] => by simp [mostG]
  | r :: rs => by
    have h1 := body_least rs
    have h2 := (num_length r.length).1
    rw [body_cons, List.length_append]
    unfold mostG at h1 ⊢
    simp only [List.map_cons, List.sum_cons, txt, List.length_append]
    omega
theorem laid_least : ∀ gs : List (List (List UInt8)), mostW gs ≤ 10 * (laid sum4 gs).length
  | [] => by simp [mostW]
  | g :: gs => by
    have h1 := laid_least gs
    have h2 := body_least g
    have h3 := grp_len g
    have h4 : laid sum4 (g :: gs) = grp sum4 g ++ laid sum4 gs := by
      rw [show g :: gs = [g] ++ gs from rfl, laid_append, laid_one]
    rw [h4, List.length_append]
    unfold mostW at h1 ⊢
    simp only [List.map_cons, List.sum_cons]
    omega
theorem mostG_take {rs : List (List UInt8)} {n : Nat} (h : n < rs.length) : mostG (rs.take (n + 1)) = mostG (rs.take n) + 10 + rs[n].length := by
  rw [List.take_succ_eq_append_getElem h]
  unfold mostG
  rw [List.map_append, List.sum_append]
  simp only [List.map_cons, List.map_nil, List.sum_cons, List.sum_nil]
  omega
theorem mostW_take {gs : List (List (List UInt8))} {n : Nat} (h : n < gs.length) : mostW (gs.take (n + 1)) = mostW (gs.take n) + mostG gs[n] := by
  rw [List.take_succ_eq_append_getElem h]
  unfold mostW
  rw [List.map_append, List.sum_append]
  simp only [List.map_cons, List.map_nil, List.sum_cons, List.sum_nil]
  omega
theorem mostW_le (gs : List (List (List UInt8))) (n : Nat) : mostW (gs.take n) ≤ mostW gs := by
  have : mostW gs = mostW (gs.take n) + mostW (gs.drop n) := by
    unfold mostW
    rw [← List.sum_append, ← List.map_append, List.take_append_drop]
  omega
theorem mostG_le (rs : List (List UInt8)) (n : Nat) : mostG (rs.take n) ≤ mostG rs := by
  have : mostG rs = mostG (rs.take n) + mostG (rs.drop n) := by
    unfold mostG
    rw [← List.sum_append, ← List.map_append, List.take_append_drop]
  omega
/-- How many bytes a disk has behind so many calls, at most. -/
def bd : Nat → Nat
  | 0 => 100
  | k + 1 => bd k + 7264 * k + 7290
theorem bd_le {k : Nat} (h : k ≤ 60) : bd k ≤ 13300000 := by
  have : ∀ k : Fin 61, bd k.val ≤ 13300000 := by decide
  exact this ⟨k, by omega⟩
structure Pi (k : Nat) (S : Dk) (La : Lw) (gs : List (List (List UInt8))) (ks : List Int) (t : Bool) : Prop where
  has : Has nmLog S La gs
  lit : Lit S
  fl : ∀ i : Nat, S.fails i = true → (i : Int) ∈ ks
  room : t = false → S.room = 16777216
  bulk : S.bulk ≤ bd k
  len : (laid sum4 gs).length ≤ 7264 * k
  cnt : gs.length ≤ k
  few : ks.length ≤ 5 * k
theorem Pi.may {k : Nat} (h : Pi k S La gs ks t) {e : Int} (ha : Ans S S' e) : MayBe t ks S.n S'.n e := by
  rcases ha with ha | ⟨ha, i, h1, h2, h3⟩ | ⟨ha, h1⟩
  · exact .inl ha
  · obtain ⟨j, hj, e⟩ := List.getElem_of_mem (h.fl i h3)
    exact .inr (.inl ⟨ha, j, hj, by omega, by omega⟩)
  · refine .inr (.inr ⟨ha, ?_⟩)
    cases t with
    | false => exact absurd (h.room rfl) h1
    | true => rfl
/-- Open, the power there: the groups, or an operation that fails. -/
theorem open_may {tail : List UInt8} (h : Stands B w F d S) (ho : On nmLog S gs tail) (hon : S.on = true) (hB : B ≤ w.heap.size) (hB0 : 0 < B) (hT : TabW w) (hb : S.bulk < 1000000000) :
    (Calls Tryz.prog 10 #[.pointer (some ⟨d, 0, none⟩), .string ⟨#[108, 111, 103]⟩] w fun e w' => ∃ l v F' b1, e = .returned (.tuple #[.pointer (some ⟨l, 0, none⟩), v, .int .i64 0]) ∧ w.heap.size ≤ l ∧
      Lg B w' F' d l S.begun ⟨nmLog, false, ((laid sum4 gs).length : Int), ((laid sum4 gs ++ tail).length : Int)⟩ ∧ (∀ k, F' k → F k ∨ w.heap.size ≤ k) ∧ Chg F w w' ∧ Gs w' b1 v gs) ∨
    (S.fails S.n = true ∧ Calls Tryz.prog 10 #[.pointer (some ⟨d, 0, none⟩), .string ⟨#[108, 111, 103]⟩] w fun e w' => e = .returned (.tuple #[.pointer none, .slice none 0 0, .int .i64 34]) ∧ After B w F d S.begun w') := by
  have hnm := isLg_nm nmLog_ok
  have hop := open_lg h hB hB0 hT hb nmLog nmLog_ok
  have hop : Calls Tryz.prog 10 #[.pointer (some ⟨d, 0, none⟩), .string ⟨#[108, 111, 103]⟩] w _ := hop
  rcases on_look2 ho hnm.1 hon with hlk | ⟨hlk, hf⟩
  · left
    refine hop.mono ?_
    rintro e w' ⟨x, v, rfl, hO⟩
    rw [hlk] at hO ⊢
    obtain ⟨l, F', b1, rfl, h1, h2, h3, h4, h5, -⟩ := hO
    exact ⟨l, v, F', b1, rfl, h1, h2, h3, h4, h5⟩
  · right
    refine ⟨hf, hop.mono ?_⟩
    rintro e w' ⟨x, v, rfl, hO⟩
    rw [hlk] at hO ⊢
    obtain ⟨rfl, rfl, h1⟩ := hO
    exact ⟨rfl, h1⟩
end Go.Proofs.YthjcimgollfmgaaGreatDoor
