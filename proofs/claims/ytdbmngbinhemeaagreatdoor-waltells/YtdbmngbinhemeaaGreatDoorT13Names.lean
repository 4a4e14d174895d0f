/-
  Texts joined: Names, Turn, TurnOk, Pick, OffPure, KeepPure, Kx, ReadAt.
-/
import Derived.Test.YtdbmngbinhemeaaGreatDoorT11Stands
import Derived.Test.YtdbmngbinhemeaaGreatDoorIter
import Derived.Test.YtdbmngbinhemeaaGreatDoorT10CrashRun
import Derived.Test.YtdbmngbinhemeaaGreatDoorT1Chg
import Derived.Test.YtdbmngbinhemeaaGreatDoorT5BeginRep
import Derived.Test.YtdbmngbinhemeaaGreatDoorT9ODisk
import Derived.Test.YtdbmngbinhemeaaGreatDoorT6OnFile
/-
  Names: all names of a disk, rising. Conditions: the disk lies there; its names are of a text's length.
-/
namespace Go.Proofs.YtdbmngbinhemeaaGreatDoor
open Go.RowKit Go.Maps
open Go.WideElems (rd rg rg_of)
variable {B : Nat} {w : World} {F : Nat → Prop} {d : Nat} {S : Dk} {G : Gh}

/-- Texts as cells. -/
def tc (xs : List Nm) : List Value := xs.map fun x => .string (strB x)
def readAny (_ : Value) : Option (DataW Unit × List MemPlace) := some (.nil, [])

/-- The names, out of a map's keys. -/
theorem names_map {b : Nat} {l : Dir} {fb : Nat → Nat} (h : MapW w b (dv fb l)) (hn : ∀ p ∈ l, p.1.length ≤ 4611686018427387904) (hl : l.length ≤ 4611686018427387904) :
    ∃ (nn : Nat) (D0 : DataW Unit), w.ownsMap Tryz.prog 9 readAny b nn D0 ∧ Maps.size D0 = l.length ∧ (strKeys D0).Perm (l.map (·.1)) := by
  obtain ⟨es, ck, h1, h2, h3⟩ := h
  have hkey : ∀ x ∈ es.toList, ∃ p ∈ l, x.key = .string (strB p.1) := fun x hx => by
    have : (x.key, x.val) ∈ dv fb l := h3.mem_iff.1 (List.mem_map.2 ⟨x, hx, rfl⟩)
    obtain ⟨p, hp, e⟩ := List.mem_map.1 this
    exact ⟨p, hp, (congrArg Prod.fst e).symm⟩
  have hlen : es.toList.length = l.length := by
    have := h3.length_eq
    simpa [dv] using this
  have hrd : ∀ x ∈ es.toList, ∀ p : Nm × Nat, p ∈ l → x.key = .string (strB p.1) → rd Tryz.prog 9 readAny x = some (.string p.1, .nil) := fun x _ p hp e => by
    unfold rd
    rw [e, WideMaps.keyOf_string_mk Tryz.underlying9 (s := strB p.1) (by rw [strB_size]; have := hn p hp; unfold maxLen; omega)]
    rw [strB_list]
    rfl
  refine ⟨es.size, _, ⟨es, ck, h1, ⟨?_, h2, fun x hx => ?_⟩, Nat.le_refl _, rfl⟩, ?_, ?_⟩
  · have : es.size = l.length := by simpa using hlen
    unfold maxLen
    omega
  · obtain ⟨p, hp, e⟩ := hkey x hx
    exact ⟨_, hrd x hx p hp e⟩
  · show (List.foldr DataW.insert [] _).length = _
    rw [length_sorted, List.length_map, hlen]
  · show (List.map _ (List.foldr DataW.insert [] _)).Perm _
    refine ((WideShapes.sorted_perm _).map _).trans ?_
    rw [List.map_map]
    have e1 : es.toList.map ((fun p : Lit × DataW Unit => strOf p.1) ∘ rg Tryz.prog 9 readAny) = es.toList.map fun x => (match x.key with | .string s => s.data.toList | _ => []) := by
      refine List.map_congr_left fun x hx => ?_
      obtain ⟨p, hp, e⟩ := hkey x hx
      simp only [Function.comp, rg_of (hrd x hx p hp e), e, strOf, strB_list]
    rw [e1]
    have h4 := h3.map fun q : Value × Value => (match q.1 with | .string s => s.data.toList | _ => [])
    rw [List.map_map] at h4
    refine h4.trans ?_
    unfold dv
    rw [List.map_map]
    have e2 : l.map ((fun q : Value × Value => (match q.1 with | .string s => s.data.toList | _ => [])) ∘ fun p => (Value.string (strB p.1), Value.pointer (some ⟨fb p.2, 0, none⟩))) = l.map (·.1) := by
      refine List.map_congr_left fun p _ => ?_
      simp only [Function.comp, strB_list]
    exact e2 ▸ List.Perm.refl _
/-- Sorted already: one order alone. -/
theorem sorted_one {l : Dir} (hs : Sorted l) {ss : List Nm} (hp : ss.Perm (l.map (·.1))) : ss.mergeSort (fun x y => decide (x ≤ y)) = l.map (·.1) := by
  refine List.Perm.eq_of_pairwise (le := fun a b : Nm => a ≤ b) (fun a b _ _ h1 h2 => List.le_antisymm h1 h2) ?_ ?_ ((List.mergeSort_perm _ _).trans hp)
  · have := List.pairwise_mergeSort (le := fun x y : Nm => decide (x ≤ y)) (fun a b c h1 h2 => by simp at h1 h2 ⊢; exact List.le_trans h1 h2) (fun a b => by simp; exact List.le_total a b) ss
    exact this.imp fun h => by simpa using h
  · rw [List.pairwise_map]
    have h' : l.Pairwise fun p q => p.1 < q.1 := hs
    exact h'.imp fun h => List.le_of_lt h

set_option maxRecDepth 20000 in
theorem names_rep (h : Rep w F d S G) (hn : ∀ p ∈ S.dir, p.1.length ≤ 4611686018427387904) (hl : S.dir.length ≤ 1099511627776) :
    Calls Tryz.prog 14 #[.pointer (some ⟨d, 0, none⟩)] w fun e w' => ∃ v, e = .returned v ∧ w'.ownsRow w.heap.size 9 1 v S.dir.length (tc (S.dir.map (·.1))) ∧ Chg (fun _ => False) w w' := by
  have hd := h.disk
  unfold dcells at hd
  have x2 := cell_of hd 2
  have hk := fun (mb : Option Nat) (W : World) => callsIn_wide.1 (Tryz.maps_Keys_31 mb W)
  have hfin : ∀ (o : Option Nat) (v : Value) (ss : List Nm) (w' : World), ss.Perm (S.dir.map (·.1)) → w'.ownsRow (w.alloc (.cells #[.map o] 59)).heap.size 9 1 v ss.length ((ss.mergeSort (fun x y => decide (x ≤ y))).map encStr) →
      Below (w.alloc (.cells #[.map o] 59)).heap.size (w.alloc (.cells #[.map o] 59)) w' → w'.ownsRow w.heap.size 9 1 v S.dir.length (tc (S.dir.map (·.1))) ∧ Chg (fun _ => False) w w' := fun o v ss w' hp hr hb => by
    rw [sorted_one h.ok.sortD hp, hp.length_eq, List.length_map] at hr
    refine ⟨ownsRow_base_le hr (by simp), ((Chg.refl (fun _ => False) w).alloc _).trans (Chg.of_below hb) (fun i hi hle => ?_)⟩
    simp at hle
    omega
  have HF := hide hfin
  clear hfin
  have hnow := h.now
  cases hG : G.now with
  | none =>
    rw [hG] at x2 hnow
    have he : S.dir = [] := by
      have : dv G.fb S.dir = [] := hnow
      simpa [dv] using this
    have hs := callsIn_wide.1 (Tryz.slices_Sorted_keys_nil_30_31 w)
    clear hd h hnow
    go_enter Tryz.func14, Tryz.ntmps14
    go_wp2_with fail
    refine (hk none w).mono ?_
    rintro e w1 ⟨rfl, rfl⟩
    go_wp2_with fail
    refine hs.mono ?_
    rintro e w2 ⟨v, ss, rfl, rfl, hrow, -, hb⟩
    go_wp2
    go_ret
    exact ⟨v, rfl, HF.out none v [] w2 (by rw [he]; exact List.Perm.refl _) hrow hb⟩
  | some b =>
    rw [hG] at x2 hnow
    obtain ⟨nn, D0, hown, hsz, hperm⟩ := names_map hnow.2 hn (by omega)
    have hs := callsIn_wide.1 (Tryz.slices_Sorted_keys_30_31 b nn D0 readAny w hown (by rw [hsz]; unfold maxLen; omega) (by rw [hsz]; omega))
    clear hd h hnow hown
    go_enter Tryz.func14, Tryz.ntmps14
    go_wp2_with fail
    refine (hk (some b) w).mono ?_
    rintro e w1 ⟨rfl, rfl⟩
    go_wp2_with fail
    refine hs.mono ?_
    rintro e w2 ⟨v, ss, rfl, hp, hrow, -, hb⟩
    go_wp2
    go_ret
    exact ⟨v, rfl, HF.out (some b) v ss w2 (hp.trans hperm) hrow hb⟩
end Go.Proofs.YtdbmngbinhemeaaGreatDoor

/-
  What Turn answers, and does. Condition: a disk within bounds.
-/
namespace Go.Proofs.YtdbmngbinhemeaaGreatDoor
open Go.RowKit

section
variable {w w' : World} {F : Nat → Prop} {d : Nat} {S : Dk} {G : Gh}

theorem rep_look (h : Rep w F d S G) (n : Nm) : (Instr.lookup 59 (.map G.now) (.string (strB n)) false).run Tryz.prog w = .ok (pv G.fb (look S.dir n)) w := by
  cases e : G.now with
  | some b => exact now_map h e n
  | none =>
    have hm := h.now
    rw [e] at hm
    have h2 : dv G.fb S.dir = [] := hm
    have h3 : S.dir = [] := List.map_eq_nil_iff.1 h2
    rw [h3]
    exact dir_look_nil w n

set_option maxRecDepth 20000 in
theorem turn_none (h : Rep w F d S G) (n : Nm) (at_ : Int) (b : UInt8) (hl : look S.dir n = none) : Calls Tryz.prog 24 #[.pointer (some ⟨d, 0, none⟩), .string (strB n), .int .i64 at_, .int .u8 (b.toNat : Int)] w fun e w' => e = .returned (.int .i64 2) ∧ w' = w := by
  have hd := h.disk
  unfold dcells at hd
  have x2 := cell_of hd 2
  have hlk := rep_look h n
  rw [hl] at hlk
  have hlk' : (Instr.lookup 59 (.map G.now) (.string (strB n)) false).run Tryz.prog w = .ok (.pointer none) w := hlk
  clear hlk
  go_enter Tryz.func24, Tryz.ntmps24
  go_wp2
  go_ret
  exact ⟨rfl, rfl⟩

set_option maxRecDepth 20000 in
theorem turn_out (h : Rep w F d S G) (n : Nm) (at_ : Int) (b : UInt8) {f : Nat} (hl : look S.dir n = some f) (ho : at_ < 0 ∨ ((S.bytes f).length : Int) ≤ at_) : Calls Tryz.prog 24 #[.pointer (some ⟨d, 0, none⟩), .string (strB n), .int .i64 at_, .int .u8 (b.toNat : Int)] w fun e w' => e = .returned (.int .i64 2) ∧ w' = w := by
  have hd := h.disk
  unfold dcells at hd
  have x2 := cell_of hd 2
  have hlk := rep_look h n
  rw [hl] at hlk
  have hlk' : (Instr.lookup 59 (.map G.now) (.string (strB n)) false).run Tryz.prog w = .ok (.pointer (some ⟨G.fb f, 0, none⟩)) w := hlk
  obtain ⟨x, hx, hbx, hlv, f2, b2⟩ := h.file hl
  obtain ⟨ra, rc, hrv⟩ := own_shape b2
  rw [hrv] at f2
  have y0 := cell_of f2 0
  rw [hbx] at ho
  clear hlk f2 b2 hrv hbx
  obtain ⟨len, hlen⟩ : ∃ len, len = x.b.length := ⟨_, rfl⟩
  rw [← hlen] at y0 ho
  clear hlen
  rcases Int.lt_or_le at_ 0 with hlt | hlt
  all_goals
    go_enter Tryz.func24, Tryz.ntmps24
    go_wp2
    go_ret
    exact ⟨rfl, rfl⟩
end
end Go.Proofs.YtdbmngbinhemeaaGreatDoor

/-
  What Turn does where it turns bits. Condition: a disk within bounds.
-/
namespace Go.Proofs.YtdbmngbinhemeaaGreatDoor
open Go.RowKit

theorem Ok.modify {S : Dk} (h : Ok S) (f : Nat) (g : Fl → Fl) (hg : ∀ x, (g x).sure = x.sure ∧ (g x).b.length = x.b.length) : Ok { S with files := S.files.modify f g } where
  sortS := h.sortS
  valid := h.valid
  dir := h.dir
  one := h.one
  idS i hi := by
    show i < (S.files.modify f g).length
    rw [List.length_modify]
    exact h.idS i hi
  idA i hi := by
    show i < (S.files.modify f g).length
    rw [List.length_modify]
    exact h.idA i hi
  idM i hi := by
    show i < (S.files.modify f g).length
    rw [List.length_modify]
    exact h.idM i hi
  lens i y hy := by
    rcases modify_get hy with ⟨_, hy'⟩ | ⟨rfl, x, hx, rfl⟩
    · exact h.lens i y hy'
    · rw [(hg x).1, (hg x).2]
      exact h.lens i x hx

section
variable {w w' : World} {F : Nat → Prop} {d : Nat} {S : Dk} {G : Gh}

/-- Bytes of one file are others, where they lay. -/
theorem Rep.rebyte (h : Rep w F d S G) {f : Nat} (hf : f ∈ ids S.dir) {x : Fl} (hx : S.files[f]? = some x) (g : Fl → Fl) (hg : ∀ x, (g x).sure = x.sure ∧ (g x).b.length = x.b.length) {q : Nat} (hq : (G.rv f).ownBlock = some q) (hc : Chg (· = q) w w')
    (hrow : w'.ownsRow 0 5 1 (G.rv f) x.b.length (bc (g x).b)) : Rep w' F d { S with files := S.files.modify f g } G := by
  have hlf := live_of_dir h.ok hf
  obtain ⟨b1, b2, b3⟩ := h.bytes f x hlf hx
  obtain ⟨cur, hcur⟩ := own_block b2 hq
  have hne : ∀ k o, w.heap[k]? = some o → tag o ≠ 5 → k ≠ q := fun k o ho ht e => by
    subst e
    exact ne_tag hcur ho (fun e => ht e.symm) rfl
  have hmo : ∀ {o : Option Nat} {l : List (Value × Value)}, MapO w F o l → MapO w' F o l := fun {o l} hm => hm.keep hc (fun b e e2 => by
    rw [e] at hm
    subst e2
    exact hm.2.ne hcur rfl) (fun _ h => h)
  have hused : usedOf (S.files.modify f g) S.dir = usedOf S.files S.dir := by
    unfold usedOf
    congr 1
    refine List.map_congr_left fun p _ => ?_
    unfold lenOf
    by_cases e : p.2 = f
    · rw [e, List.getElem?_modify_eq, hx]
      simp [(hg x).2]
    · have e3 : ¬ f = p.2 := fun e2 => e e2.symm
      rw [List.getElem?_modify]
      simp [e3]
  exact
    { ok := h.ok.modify f g hg
      disk := by
        have := hc.keep h.disk (hne _ _ h.disk (show 63 ≠ 5 by decide))
        rw [this]
        unfold dcells
        show _ = some (Obj.cells #[_, .int .i64 ((usedOf (S.files.modify f g) S.dir : Nat) : Int), _, _, _, _, _, _, _] _)
        rw [hused]
        rfl
      inD := h.inD
      roomy := h.roomy
      cutv := h.cutv
      now := hmo h.now
      sure := hmo h.sure
      both := h.both
      bare := h.bare
      fails := by
        obtain ⟨l, g1, g2⟩ := h.fails
        exact ⟨l, hmo g1, g2⟩
      two := h.two
      three := h.three
      row := own_keep h.row hc (fun k hk => by
        obtain ⟨cur2, hcur2⟩ := own_block h.row hk
        exact hne k _ hcur2 (show 88 ≠ 5 by decide))
      rowF := h.rowF
      many := h.many
      acts := h.actsKeep hc (fun k c t h1 h2 e => by
        subst e
        exact spares_cells hcur (by decide) _ c t h1 h2 rfl) (fun _ h => h)
      files := fun i hi => ⟨(h.files i hi).1, hc.keep (h.files i hi).2 (hne _ _ (h.files i hi).2 (show 80 ≠ 5 by decide))⟩
      inj := h.inj
      bytes := fun i y hi hy => by
        rcases modify_get hy with ⟨hn, hy'⟩ | ⟨rfl, x', hx', rfl⟩
        · obtain ⟨c1, c2, c3⟩ := h.bytes i y hi hy'
          exact ⟨c1, own_keep c2 hc (fun k hk e => hn (h.apart i f k hi hlf hk (e ▸ hq))), c3⟩
        · rw [hx] at hx'
          injection hx' with hx'
          subst hx'
          rw [(hg x).1, (hg x).2]
          exact ⟨b1, hrow, b3⟩
      apart := h.apart }

theorem b_xor (x y : UInt8) : bits .xor .u8 (x.toNat : Int) (y.toNat : Int) = ((x ^^^ y).toNat : Int) := by
  rw [u8_xor_nat _ _ x.toNat_lt y.toNat_lt, UInt8.toNat_xor]
theorem bc_modify (l : List UInt8) (i : Nat) (b : UInt8) (h : i < l.length) : bc (l.modify i (· ^^^ b)) = (bc l).set i (.int .u8 (((l[i]'h) ^^^ b).toNat : Int)) := by
  apply List.ext_getElem?
  intro j
  unfold bc
  rw [List.getElem?_map, List.getElem?_modify, List.getElem?_set]
  by_cases e : i = j
  · subst e
    simp [h]
  · simp [e]

set_option maxRecDepth 20000 in
set_option maxHeartbeats 400000 in
theorem turn_ok (h : Rep w F d S G) (n : Nm) (at_ : Nat) (b : UInt8) {f : Nat} (hl : look S.dir n = some f) (ho : at_ < (S.bytes f).length) : Calls Tryz.prog 24 #[.pointer (some ⟨d, 0, none⟩), .string (strB n), .int .i64 (at_ : Int), .int .u8 (b.toNat : Int)] w fun e w' => e = .returned (.int .i64 0) ∧
    Rep w' F d { S with files := S.files.modify f fun x => { x with b := x.b.modify at_ (· ^^^ b) } } G ∧ Chg F w w' := by
  have hd := h.disk
  unfold dcells at hd
  have x2 := cell_of hd 2
  have hlk := rep_look h n
  rw [hl] at hlk
  have hlk' : (Instr.lookup 59 (.map G.now) (.string (strB n)) false).run Tryz.prog w = .ok (.pointer (some ⟨G.fb f, 0, none⟩)) w := hlk
  obtain ⟨x, hx, hbx, hlv, f2, b2⟩ := h.file hl
  have b3 := (h.bytes f x hlv hx).2.2
  rw [hbx] at ho
  obtain ⟨g, cap, cur, hrv, hcur, hle, hmx, hcs, htk⟩ : ∃ g cap cur, G.rv f = .slice (some ⟨g, 0, none⟩) x.b.length cap ∧ w.heap[g]? = some (.cells cur 5 (0, 0)) ∧ x.b.length ≤ cap ∧ cap ≤ maxLen ∧ cur.size = cap * 1 ∧ cur.toList.take (x.b.length * 1) = bc x.b := by
    rcases b2.2 with ⟨e1, e2⟩ | ⟨g, cap, cur, e1, _, e2, e3, e4, e5, e6⟩
    · omega
    · exact ⟨g, cap, cur, e1, e2, e3, e4, e5, e6⟩
  have hgF : F g := b3 g (by rw [hrv]; rfl)
  have hv : w.cell? ⟨g, at_, none⟩ = some (.int .u8 ((x.b[at_]'ho).toNat : Int)) := by
    rw [hrv] at b2
    have := b2.cellAt at_ (by omega)
    rw [bc_get x.b at_ ho] at this
    exact this
  have tg := thawed hcur at_
  have hset := heap_set hcur at_ (.int .u8 (((x.b[at_]'ho) ^^^ b).toNat : Int))
  have hnew : (w.setCell ⟨g, at_, none⟩ (.int .u8 (((x.b[at_]'ho) ^^^ b).toNat : Int))).ownsRow 0 5 1 (G.rv f) x.b.length (bc (x.b.modify at_ (· ^^^ b))) := by
    rw [hrv]
    refine ⟨by rw [bc_length, List.length_modify]; omega, Or.inr ⟨g, cap, _, rfl, Nat.zero_le _, hset, hle, hmx, by rw [Array.size_setIfInBounds]; exact hcs, ?_⟩⟩
    rw [bc_modify _ _ _ ho, ← htk, Array.toList_setIfInBounds, List.take_set]
  have hfin := h.rebyte (look_id hl) hx (fun x => { x with b := x.b.modify at_ (· ^^^ b) }) (fun y => ⟨rfl, List.length_modify ..⟩) (q := g) (by rw [hrv]; rfl) (chg_set w g at_ _) hnew
  have hcF : Chg F w (w.setCell ⟨g, at_, none⟩ (.int .u8 (((x.b[at_]'ho) ^^^ b).toNat : Int))) := (chg_set w g at_ _).mono fun k _ e => by rw [e]; exact hgF
  rw [hrv] at f2
  have y0 := cell_of f2 0
  have hxo := b_xor (x.b[at_]'ho) b
  have HF := hide hfin
  have HC := hide hcF
  obtain ⟨c, hcv⟩ : ∃ c, c = x.b[at_]'ho := ⟨_, rfl⟩
  rw [← hcv] at hv hxo HF HC
  obtain ⟨len, hlen⟩ : ∃ len, len = x.b.length := ⟨_, rfl⟩
  rw [← hlen] at y0 hle
  have hal : at_ < len := by omega
  clear hfin hcF hnew hset hlk f2 b2 b3 htk hlen hcv hcs hbx ho hx hrv
  go_enter Tryz.func24, Tryz.ntmps24
  go_wp2
  go_ret
  exact ⟨rfl, HF.out, HC.out⟩

/-- Turn, in one. -/
theorem turn_rep (h : Rep w F d S G) (n : Nm) (at_ : Int) (b : UInt8) : Calls Tryz.prog 24 #[.pointer (some ⟨d, 0, none⟩), .string (strB n), .int .i64 at_, .int .u8 (b.toNat : Int)] w fun e w' => e = .returned (.int .i64 (S.turn n at_ b).2) ∧
    Rep w' F d (S.turn n at_ b).1 G ∧ Chg F w w' := by
  unfold Dk.turn
  cases hl : look S.dir n with
  | none =>
    refine (turn_none h n at_ b hl).mono ?_
    rintro e w' ⟨he, rfl⟩
    exact ⟨he, h, Chg.refl _ _⟩
  | some f =>
    dsimp only
    by_cases ho : at_ < 0 ∨ ((S.bytes f).length : Int) ≤ at_
    · rw [if_pos ho]
      refine (turn_out h n at_ b hl ho).mono ?_
      rintro e w' ⟨he, rfl⟩
      exact ⟨he, h, Chg.refl _ _⟩
    · rw [if_neg ho]
      obtain ⟨k, rfl⟩ : ∃ k : Nat, at_ = (k : Int) := ⟨at_.toNat, by omega⟩
      exact turn_ok h n k b hl (by omega)
end
end Go.Proofs.YtdbmngbinhemeaaGreatDoor

/-
  pick, named: which of some things a raw number speaks of. Conditions: numbers that are ints.
-/
namespace Go.Proofs.YtdbmngbinhemeaaGreatDoor
open Go.RowKit

def pk (c n : Int) : Int := (if c < 0 then -(c + 1) else c) % n
theorem pk_range {c n : Int} (hn : 0 < n) : 0 ≤ pk c n ∧ pk c n < n := ⟨Int.emod_nonneg _ (by omega), Int.emod_lt_of_pos _ hn⟩
theorem ret_i {a b : Int} (h : a = b) : Ending.returned (.int .i64 a) = .returned (.int .i64 b) := by rw [h]
theorem ret_s {a b : ByteArray} (h : a = b) : Ending.returned (.string a) = .returned (.string b) := by rw [h]
set_option maxRecDepth 20000 in
theorem pick_any (w : World) (c n : Int) (hc : -9223372036854775808 ≤ c ∧ c ≤ 9223372036854775807) (hn : 0 < n ∧ n ≤ 1000) :
    Calls Tryz.prog 8 #[.int .i64 c, .int .i64 n] w fun e w' => e = .returned (.int .i64 (pk c n)) ∧ w' = w := by
  have hn0 : ¬ n = 0 := by omega
  unfold pk
  by_cases h : c < 0
  · rw [if_pos h]
    have hm : (-(c + 1)).tmod n = (-(c + 1)) % n := Int.tmod_eq_emod_of_nonneg (by omega)
    have h1 := Int.emod_nonneg (-(c + 1)) (show n ≠ 0 by omega)
    have h2 := Int.emod_lt_of_pos (-(c + 1)) (show 0 < n by omega)
    go_enter Tryz.func8, Tryz.ntmps8
    go_wp2
    go_ret
    exact ⟨ret_i (by first | rfl | omega), rfl⟩
  · rw [if_neg h]
    have hm : c.tmod n = c % n := Int.tmod_eq_emod_of_nonneg (by omega)
    have h1 := Int.emod_nonneg c (show n ≠ 0 by omega)
    have h2 := Int.emod_lt_of_pos c (show 0 < n by omega)
    go_enter Tryz.func8, Tryz.ntmps8
    go_wp2
    go_ret
    exact ⟨ret_i (by first | rfl | omega), rfl⟩

def fourN (i : Int) : Nm := if i = 0 then [97] else if i = 1 then [98] else if i = 2 then [99] else [108, 111, 110, 103, 45, 110, 97, 109, 101, 126]
def nmd (s : Nm) (c : Int) : Nm := if c.tmod 5 = 0 then s else fourN (pk c 4)
end Go.Proofs.YtdbmngbinhemeaaGreatDoor

/-
  What DiskCrashes' and DiskOff's calls do, plainly. No program; no condition.
-/
namespace Go.Proofs.YtdbmngbinhemeaaGreatDoor
variable {S : Dk}

/-! ### a crash that keeps all; a crash of what a crash left -/
theorem stay_all (cs : List Ac) : stay cs (cs.length : Int) 0 = cs := by
  unfold stay
  simp [torn]
theorem stay_none (keep t : Int) : stay [] keep t = [] := by
  unfold stay
  simp [torn]
theorem crash_all_dir (h : Ok S) : (S.crash (S.acts.length : Int) 0).dir = S.dir := by
  show appD S.sure (stay S.acts _ 0) = _
  rw [stay_all, ← h.dir]
theorem crash_bytes (keep t : Int) (f : Nat) : (S.crash keep t).bytes f = (S.bytes f).take (((S.files[f]?).map (·.sure)).getD 0 + moreSum (stay S.acts keep t) f) := by
  unfold Dk.bytes Dk.crash
  simp only [List.getElem?_mapIdx]
  cases S.files[f]? with
  | none => simp
  | some x => simp
theorem crash_all_bytes (h : Ok S) (f : Nat) : (S.crash (S.acts.length : Int) 0).bytes f = S.bytes f := by
  rw [crash_bytes, stay_all]
  cases hf : S.files[f]? with
  | none => simp [Dk.bytes, hf]
  | some x =>
    have := h.lens f x hf
    have e : S.bytes f = x.b := by simp [Dk.bytes, hf]
    rw [e]
    refine List.take_of_length_le ?_
    simp
    omega
theorem crash_all_size (h : Ok S) (n : Nm) : (S.crash (S.acts.length : Int) 0).size n = S.size n := by
  unfold Dk.size
  rw [crash_all_dir h]
  cases look S.dir n with
  | none => rfl
  | some f =>
    show (((S.crash (S.acts.length : Int) 0).bytes f).length : Int) = _
    rw [crash_all_bytes h]
theorem crash_again_dir (keep t k2 t2 : Int) : ((S.crash keep t).crash k2 t2).dir = (S.crash keep t).dir := by
  show appD (appD S.sure (stay S.acts keep t)) (stay [] k2 t2) = _
  rw [stay_none]
  rfl
theorem crash_again_bytes (keep t k2 t2 : Int) (f : Nat) : ((S.crash keep t).crash k2 t2).bytes f = (S.crash keep t).bytes f := by
  rw [crash_bytes]
  have e : (S.crash keep t).acts = [] := rfl
  rw [e, stay_none, crash_bytes]
  have e2 : (((S.crash keep t).files[f]?).map (·.sure)).getD 0 = (match S.files[f]? with | none => 0 | some x => x.sure + moreSum (stay S.acts keep t) f) := by
    unfold Dk.crash
    simp only [List.getElem?_mapIdx]
    cases S.files[f]? <;> simp
  rw [e2]
  cases hf : S.files[f]? with
  | none => simp [Dk.bytes, hf]
  | some x =>
    simp only [Option.map_some, Option.getD_some]
    rw [List.take_take]
    simp [moreSum]
/-- A disk on, of which nothing fails, read. -/
def Calm (S : Dk) : Prop := S.cut = none ∧ ∀ k, S.fails k = false
theorem calm_crash (keep t : Int) : Calm (S.crash keep t) := ⟨rfl, fun _ => rfl⟩
theorem Calm.begun (h : Calm S) : Calm S.begun ∧ S.begun.dir = S.dir ∧ (∀ f, S.begun.bytes f = S.bytes f) ∧ S.begun.n = S.n + 1 := by
  unfold Dk.begun
  rw [if_neg (by simp [Dk.on, h.1])]
  exact ⟨h, rfl, fun _ => rfl, rfl⟩
theorem Calm.read (h : Calm S) {n : Nm} {f : Nat} (hn : isNm n = true) (hl : look S.dir n = some f) : S.read n = (S.bytes f, 0) := by
  have e : S.onFile n = .ok (f, false) := by
    unfold Dk.onFile
    rw [if_neg (by simp [Dk.on, h.1]), if_neg (by rw [hn]; decide), hl]
    simp [h.2]
  unfold Dk.read
  rw [e]
  rfl

/-! ### the power gone -/
theorem off_on (h : S.cut = some S.n) : S.on = false := by simp [Dk.on, h]
theorem off_file (h : S.on = false) (n : Nm) : S.onFile n = .error 35 := by unfold Dk.onFile; rw [if_pos h]
theorem off_begun (h : S.on = false) : S.begun = S := by unfold Dk.begun; rw [if_pos h]
theorem off_append (h : S.on = false) (n : Nm) (b : List UInt8) : S.append n b = (S, 35) := by unfold Dk.append; rw [if_pos h]
theorem off_read (h : S.on = false) (n : Nm) : S.read n = ([], 35) := by unfold Dk.read; rw [off_file h]
theorem off_sync (h : S.on = false) (n : Nm) : S.sync n = (S, 35) := by unfold Dk.sync; rw [off_file h]; simp only [off_begun h]
theorem off_syncDir (h : S.on = false) : S.syncDir = (S, 35) := by unfold Dk.syncDir; rw [if_pos h]
theorem off_rename (h : S.on = false) (a b : Nm) : S.rename a b = (S, 35) := by unfold Dk.rename; rw [if_pos h]
theorem off_remove (h : S.on = false) (n : Nm) : S.remove n = (S, 35) := by unfold Dk.remove; rw [off_file h]; simp only [off_begun h]
end Go.Proofs.YtdbmngbinhemeaaGreatDoor

/-
  A file whose bytes and name are sure, under calls that name others; plainly. No program; no condition.
-/
namespace Go.Proofs.YtdbmngbinhemeaaGreatDoor

/-- 'zz-kept' -/
def zz : Nm := [122, 122, 45, 107, 101, 112, 116]
/-- An act that leaves a name alone. -/
def avoids (z : Nm) : Ac → Prop
  | .made n _ => z ≠ n
  | .ren a b => z ≠ a ∧ z ≠ b
  | .rem n => z ≠ n
  | .more _ _ => True
theorem look_ins_ne (l : Dir) {n m : Nm} (h : m ≠ n) (f : Nat) : look (ins n f l) m = look l m := by
  induction l with
  | nil =>
    show look [(n, f)] m = _
    rw [look_cons, if_neg (fun e => h e.symm)]
  | cons q r ih =>
    unfold ins
    split
    · rw [look_cons, if_neg (fun e => h e.symm)]
    · rw [look_cons, look_cons, ih]
theorem look_done {z : Nm} {a : Ac} (l : Dir) (h : avoids z a) : look (doneD l a) z = look l z := by
  cases a with
  | made n f => exact look_ins_ne l h f
  | ren x y =>
    simp only [doneD]
    cases hk : look l x with
    | none => rfl
    | some f =>
      show look (ins y f (del y (del x l))) z = _
      rw [look_ins_ne _ h.2, look_del, if_neg h.2, look_del, if_neg h.1]
  | rem n =>
    show look (del n l) z = _
    rw [look_del, if_neg h]
  | more f k => rfl
theorem look_app {z : Nm} (cs : List Ac) : ∀ (l : Dir), (∀ a ∈ cs, avoids z a) → look (appD l cs) z = look l z := by
  induction cs with
  | nil => exact fun _ _ => rfl
  | cons a r ih =>
    intro l h
    show look (appD (doneD l a) r) z = _
    rw [ih _ fun x hx => h x (by simp [hx]), look_done l (h a (by simp))]
theorem same_id : ∀ {l : Dir} {n m : Nm} {f : Nat}, (ids l).Nodup → (n, f) ∈ l → (m, f) ∈ l → n = m := by
  intro l
  induction l with
  | nil => intro n m f _ h; cases h
  | cons p r ih =>
    intro n m f hn h1 h2
    have hn' := List.nodup_cons.1 (show (p.2 :: ids r).Nodup from hn)
    have hi : ∀ {x : Nm}, (x, f) ∈ r → f ∈ ids r := fun hx => List.mem_map.2 ⟨_, hx, rfl⟩
    rcases List.mem_cons.1 h1 with e1 | e1 <;> rcases List.mem_cons.1 h2 with e2 | e2
    · rw [← e1] at e2
      exact (congrArg Prod.fst e2).symm
    · rw [← e1] at hn'
      exact absurd (hi e2) hn'.1
    · rw [← e2] at hn'
      exact absurd (hi e1) hn'.1
    · exact ih hn'.2 e1 e2

structure Kept (z : Nm) (S : Dk) (f : Nat) (was : Nat) (all : List UInt8) : Prop where
  lookS : look S.sure z = some f
  lookD : look S.dir z = some f
  acts : ∀ a ∈ S.acts, avoids z a
  file : ∃ x, S.files[f]? = some x ∧ x.b = all ∧ was ≤ x.sure
section
variable {z : Nm} {S : Dk} {f was : Nat} {all : List UInt8}
theorem Kept.next (h : Kept z S f was all) : Kept z S.next f was all := ⟨h.lookS, h.lookD, h.acts, h.file⟩
theorem Kept.failAt (h : Kept z S f was all) (ks : List Int) : Kept z (S.failAt ks) f was all := ⟨h.lookS, h.lookD, h.acts, h.file⟩
theorem Kept.begun (h : Kept z S f was all) : Kept z S.begun f was all := by
  unfold Dk.begun
  split
  · exact h
  · exact h.next
theorem Kept.ne (h : Kept z S f was all) (hk : Ok S) {n : Nm} (hn : z ≠ n) {g : Nat} (hg : look S.dir n = some g) : g ≠ f := by
  rintro rfl
  exact hn (same_id hk.oneD (look_mem h.lookD) (look_mem hg))
theorem Kept.modify (h : Kept z S f was all) {g : Nat} (hg : g ≠ f) (fn : Fl → Fl) : ∃ x, (S.files.modify g fn)[f]? = some x ∧ x.b = all ∧ was ≤ x.sure := by
  have e : (S.files.modify g fn)[f]? = S.files[f]? := by simp [hg]
  rw [e]
  exact h.file
theorem Kept.ext (h : Kept z S f was all) {g : Nat} (hg : g ≠ f) (b : List UInt8) : Kept z (S.ext g b) f was all :=
  ⟨h.lookS, h.lookD, fun a ha => by
    rcases List.mem_append.1 ha with ha | ha
    · exact h.acts a ha
    · simp at ha; subst ha; trivial, h.modify hg _⟩
theorem Kept.ext_own (h : Kept z S f was all) (b : List UInt8) : Kept z (S.ext f b) f was (all ++ b) :=
  ⟨h.lookS, h.lookD, fun a ha => by
    rcases List.mem_append.1 ha with ha | ha
    · exact h.acts a ha
    · simp at ha; subst ha; trivial, by
    obtain ⟨x, h1, h2, h3⟩ := h.file
    refine ⟨{ x with b := x.b ++ b }, ?_, by simp [h2], h3⟩
    show (S.files.modify f _)[f]? = _
    simp [h1]⟩
theorem Kept.mk1 (h : Kept z S f was all) {n : Nm} (hn : z ≠ n) : Kept z (S.mk1 n) f was all :=
  ⟨h.lookS, (look_ins_ne _ hn _).trans h.lookD, fun a ha => by
    rcases List.mem_append.1 ha with ha | ha
    · exact h.acts a ha
    · simp at ha; subst ha; exact hn, by
    obtain ⟨x, h1, h2⟩ := h.file
    refine ⟨x, ?_, h2⟩
    show (S.files ++ [_])[f]? = _
    rw [List.getElem?_append_left (List.getElem?_eq_some_iff.1 h1).1]
    exact h1⟩
theorem Kept.append (h : Kept z S f was all) (hk : Ok S) {n : Nm} (hn : z ≠ n) (b : List UInt8) : Kept z (S.append n b).1 f was all := by
  unfold Dk.append
  split
  · exact h
  split
  · exact h.next
  split
  · exact h.next
  split
  · exact h.next
  show Kept z (S.next.app n b) f was all
  unfold Dk.app
  split
  · rename_i g hg
    split
    · exact h.next
    · exact h.next.ext (h.ne hk hn hg) b
  · have hlt : S.next.files.length ≠ f := by
      obtain ⟨x, h1, _⟩ := h.file
      have := (List.getElem?_eq_some_iff.1 h1).1
      exact fun e => by rw [← e] at this; exact Nat.lt_irrefl _ this
    split
    · exact h.next.mk1 hn
    · exact (h.next.mk1 hn).ext hlt b
theorem Kept.append_own (h : Kept z S f was all) (b : List UInt8) : ((S.append z b).2 = 0 → Kept z (S.append z b).1 f was (all ++ b)) ∧ ((S.append z b).2 ≠ 0 → Kept z (S.append z b).1 f was all) := by
  unfold Dk.append
  split
  · exact ⟨fun e => absurd e (by simp), fun _ => h⟩
  split
  · exact ⟨fun e => absurd e (by simp), fun _ => h.next⟩
  split
  · exact ⟨fun e => absurd e (by simp), fun _ => h.next⟩
  split
  · exact ⟨fun e => absurd e (by simp), fun _ => h.next⟩
  refine ⟨fun _ => ?_, fun e => absurd rfl e⟩
  show Kept z (S.next.app z b) f was (all ++ b)
  unfold Dk.app
  rw [show look S.next.dir z = some f from h.lookD]
  show Kept z (if b = [] then S.next else S.next.ext f b) f was (all ++ b)
  split
  · rename_i hb
    subst hb
    rw [List.append_nil]
    exact h.next
  · exact h.next.ext_own b
theorem Kept.sync (h : Kept z S f was all) (hk : Ok S) {n : Nm} (hn : z ≠ n) : Kept z (S.sync n).1 f was all := by
  unfold Dk.sync
  split
  · exact h.begun
  · rename_i g fl hon
    have hg : look S.dir n = some g := by
      unfold Dk.onFile at hon
      split at hon
      · cases hon
      split at hon
      · cases hon
      split at hon
      · cases hon
      · rename_i g' hl
        cases hon
        exact hl
    have hne := h.ne hk hn hg
    have hb := h.begun
    split
    · exact ⟨hb.lookS, hb.lookD, fun a ha => hb.acts a (List.mem_filter.1 ha).1, hb.modify hne _⟩
    · exact ⟨hb.lookS, hb.lookD, fun a ha => hb.acts a (List.mem_filter.1 ha).1, hb.modify hne _⟩
theorem Kept.syncDir (h : Kept z S f was all) : Kept z S.syncDir.1 f was all := by
  unfold Dk.syncDir
  split
  · exact h
  split
  · exact ⟨h.lookS, h.lookS, fun a ha => h.acts a (List.mem_filter.1 ha).1, h.file⟩
  · exact ⟨h.lookD, h.lookD, fun a ha => h.acts a (List.mem_filter.1 ha).1, h.file⟩
theorem Kept.act (h : Kept z S f was all) {a : Ac} (ha : avoids z a) : Kept z (S.act a) f was all :=
  ⟨h.lookS, (look_done _ ha).trans h.lookD, fun x hx => by
    rcases List.mem_append.1 hx with hx | hx
    · exact h.acts x hx
    · simp at hx; subst hx; exact ha, h.file⟩
theorem Kept.rename (h : Kept z S f was all) {a b : Nm} (ha : z ≠ a) (hb : z ≠ b) : Kept z (S.rename a b).1 f was all := by
  unfold Dk.rename
  split
  · exact h
  split
  · exact h.next
  split
  · exact h.next
  split
  · exact h.next
  split
  · exact h.next
  · exact h.next.act ⟨ha, hb⟩
theorem Kept.remove (h : Kept z S f was all) {n : Nm} (hn : z ≠ n) : Kept z (S.remove n).1 f was all := by
  unfold Dk.remove
  split
  · exact h.begun
  split
  · exact h.begun
  · exact h.begun.act hn
/-- Behind a crash. -/
theorem Kept.crash (h : Kept z S f was all) (keep t : Int) (hw : was ≤ all.length) : look (S.crash keep t).dir z = some f ∧ ∃ k, (S.crash keep t).bytes f = all.take k ∧ was ≤ (all.take k).length := by
  constructor
  · show look (appD S.sure (stay S.acts keep t)) z = _
    rw [look_app _ _ fun a ha => ?_]
    · exact h.lookS
    · unfold stay at ha
      rcases List.mem_append.1 ha with ha | ha
      · exact h.acts a (List.mem_of_mem_take ha)
      · unfold torn at ha
        split at ha
        · simp at ha; subst ha; trivial
        · simp at ha
  · obtain ⟨x, h1, h2, h3⟩ := h.file
    rw [crash_bytes, h1, show S.bytes f = all by simp [Dk.bytes, h1, h2]]
    refine ⟨_, rfl, ?_⟩
    simp only [List.length_take, Option.map_some, Option.getD_some]
    omega
/-- A file that was read, then synced, its directory behind it. -/
theorem kept_start {z : Nm} {S : Dk} (hk : Ok S) (h0 : (S.read z).2 = 0) (h1 : (S.begun.sync z).2 = 0) (h2 : ((S.begun.sync z).1.syncDir).2 = 0) :
    ∃ f, Kept z ((S.begun.sync z).1.syncDir).1 f (S.read z).1.length (S.read z).1 := by
  obtain ⟨f, hf, hr⟩ : ∃ f, look S.dir z = some f ∧ (S.read z).1 = S.bytes f := by
    unfold Dk.read at h0 ⊢
    unfold Dk.onFile at h0 ⊢
    by_cases e1 : S.on = false
    · rw [if_pos e1] at h0; exact absurd h0 (by simp)
    rw [if_neg e1] at h0 ⊢
    by_cases e2 : isNm z = false
    · rw [if_pos e2] at h0; exact absurd h0 (by simp)
    rw [if_neg e2] at h0 ⊢
    cases e3 : look S.dir z with
    | none => rw [e3] at h0; exact absurd h0 (by simp)
    | some f =>
      rw [e3] at h0
      refine ⟨f, rfl, ?_⟩
      cases e4 : S.fails S.n with
      | true => rw [e4] at h0; exact absurd h0 (by simp)
      | false => rfl
  have hd : S.begun.dir = S.dir ∧ S.begun.files = S.files := ⟨(begun_dir S).1, (begun_dir S).2.1⟩
  have hlk : look S.begun.dir z = some f := by rw [hd.1]; exact hf
  obtain ⟨U, hU, hUd, hUf⟩ : ∃ U : Dk, U = (S.begun.sync z).1 ∧ U.dir = S.dir ∧ U.files = S.files.modify f fun x => { x with sure := x.b.length } := by
    refine ⟨_, rfl, ?_⟩
    unfold Dk.sync at h1 ⊢
    unfold Dk.onFile at h1 ⊢
    by_cases e1 : S.begun.on = false
    · rw [if_pos e1] at h1; exact absurd h1 (by simp)
    rw [if_neg e1] at h1 ⊢
    by_cases e2 : isNm z = false
    · rw [if_pos e2] at h1; exact absurd h1 (by simp)
    rw [if_neg e2, hlk] at h1 ⊢
    cases e4 : S.begun.fails S.begun.n with
    | true => rw [e4] at h1; exact absurd h1 (by simp)
    | false =>
      show (S.begun.begun.keepF f).dir = _ ∧ (S.begun.begun.keepF f).files = _
      refine ⟨?_, ?_⟩
      · show S.begun.begun.dir = _
        rw [(begun_dir S.begun).1, hd.1]
      · show S.begun.begun.files.modify f _ = _
        rw [(begun_dir S.begun).2.1, hd.2]
  rw [← hU] at h2 ⊢
  unfold Dk.syncDir at h2 ⊢
  by_cases e1 : U.on = false
  · rw [if_pos e1] at h2; exact absurd h2 (by simp)
  rw [if_neg e1] at h2 ⊢
  by_cases e2 : U.fails U.n = true
  · rw [if_pos e2] at h2; exact absurd h2 (by simp)
  rw [if_neg e2]
  refine ⟨f, ?_, ?_, fun a ha => ?_, ?_⟩
  · show look U.dir z = _
    rw [hUd]; exact hf
  · show look U.dir z = _
    rw [hUd]; exact hf
  · have : isMore a = true := (List.mem_filter.1 ha).2
    cases a <;> simp [isMore] at this ⊢ <;> trivial
  · show ∃ x, U.files[f]? = some x ∧ x.b = (S.read z).1 ∧ (S.read z).1.length ≤ x.sure
    obtain ⟨x, hx⟩ : ∃ x, S.files[f]? = some x := ⟨_, List.getElem?_eq_getElem (hk.idD (look_id hf))⟩
    rw [hUf, hr, bytes_of hx]
    exact ⟨{ x with sure := x.b.length }, by simp [hx], rfl, Nat.le_refl _⟩
end
end Go.Proofs.YtdbmngbinhemeaaGreatDoor

/-
  A file that no loose act of the directory has to do with, plainly: its bytes, how many of them are sure; what each operation makes of that. No program here. Conditions: none.
-/
namespace Go.Proofs.YtdbmngbinhemeaaGreatDoor

structure Kx (z : Nm) (S : Dk) (f : Nat) (was : Nat) (all : List UInt8) : Prop where
  lookS : look S.sure z = some f
  lookD : look S.dir z = some f
  acts : ∀ a ∈ S.acts, avoids z a
  file : ∃ x, S.files[f]? = some x ∧ x.b = all ∧ x.sure = was
section
variable {z : Nm} {S : Dk} {f was : Nat} {all : List UInt8}
theorem Kx.next (h : Kx z S f was all) : Kx z S.next f was all := ⟨h.lookS, h.lookD, h.acts, h.file⟩
theorem Kx.failAt (h : Kx z S f was all) (ks : List Int) : Kx z (S.failAt ks) f was all := ⟨h.lookS, h.lookD, h.acts, h.file⟩
theorem Kx.begun (h : Kx z S f was all) : Kx z S.begun f was all := by
  unfold Dk.begun
  split
  · exact h
  · exact h.next
theorem Kx.ne (h : Kx z S f was all) (hk : Ok S) {n : Nm} (hn : z ≠ n) {g : Nat} (hg : look S.dir n = some g) : g ≠ f := by
  rintro rfl
  exact hn (same_id hk.oneD (look_mem h.lookD) (look_mem hg))
theorem Kx.modify (h : Kx z S f was all) {g : Nat} (hg : g ≠ f) (fn : Fl → Fl) : ∃ x, (S.files.modify g fn)[f]? = some x ∧ x.b = all ∧ x.sure = was := by
  have e : (S.files.modify g fn)[f]? = S.files[f]? := by simp [hg]
  rw [e]
  exact h.file
theorem Kx.ext (h : Kx z S f was all) {g : Nat} (hg : g ≠ f) (b : List UInt8) : Kx z (S.ext g b) f was all :=
  ⟨h.lookS, h.lookD, fun a ha => by
    rcases List.mem_append.1 ha with ha | ha
    · exact h.acts a ha
    · simp at ha; subst ha; trivial, h.modify hg _⟩
theorem Kx.ext_own (h : Kx z S f was all) (b : List UInt8) : Kx z (S.ext f b) f was (all ++ b) :=
  ⟨h.lookS, h.lookD, fun a ha => by
    rcases List.mem_append.1 ha with ha | ha
    · exact h.acts a ha
    · simp at ha; subst ha; trivial, by
    obtain ⟨x, h1, h2, h3⟩ := h.file
    refine ⟨{ x with b := x.b ++ b }, ?_, by simp [h2], h3⟩
    show (S.files.modify f _)[f]? = _
    simp [h1]⟩
theorem Kx.mk1 (h : Kx z S f was all) {n : Nm} (hn : z ≠ n) : Kx z (S.mk1 n) f was all :=
  ⟨h.lookS, (look_ins_ne _ hn _).trans h.lookD, fun a ha => by
    rcases List.mem_append.1 ha with ha | ha
    · exact h.acts a ha
    · simp at ha; subst ha; exact hn, by
    obtain ⟨x, h1, h2⟩ := h.file
    refine ⟨x, ?_, h2⟩
    show (S.files ++ [_])[f]? = _
    rw [List.getElem?_append_left (List.getElem?_eq_some_iff.1 h1).1]
    exact h1⟩
theorem Kx.append (h : Kx z S f was all) (hk : Ok S) {n : Nm} (hn : z ≠ n) (b : List UInt8) : Kx z (S.append n b).1 f was all := by
  unfold Dk.append
  split
  · exact h
  split
  · exact h.next
  split
  · exact h.next
  split
  · exact h.next
  show Kx z (S.next.app n b) f was all
  unfold Dk.app
  split
  · rename_i g hg
    split
    · exact h.next
    · exact h.next.ext (h.ne hk hn hg) b
  · have hlt : S.next.files.length ≠ f := by
      obtain ⟨x, h1, _⟩ := h.file
      have := (List.getElem?_eq_some_iff.1 h1).1
      exact fun e => by rw [← e] at this; exact Nat.lt_irrefl _ this
    split
    · exact h.next.mk1 hn
    · exact (h.next.mk1 hn).ext hlt b
theorem Kx.append_own (h : Kx z S f was all) (b : List UInt8) : ((S.append z b).2 = 0 → Kx z (S.append z b).1 f was (all ++ b)) ∧ ((S.append z b).2 ≠ 0 → Kx z (S.append z b).1 f was all) := by
  unfold Dk.append
  split
  · exact ⟨fun e => absurd e (by simp), fun _ => h⟩
  split
  · exact ⟨fun e => absurd e (by simp), fun _ => h.next⟩
  split
  · exact ⟨fun e => absurd e (by simp), fun _ => h.next⟩
  split
  · exact ⟨fun e => absurd e (by simp), fun _ => h.next⟩
  refine ⟨fun _ => ?_, fun e => absurd rfl e⟩
  show Kx z (S.next.app z b) f was (all ++ b)
  unfold Dk.app
  rw [show look S.next.dir z = some f from h.lookD]
  show Kx z (if b = [] then S.next else S.next.ext f b) f was (all ++ b)
  split
  · rename_i hb
    subst hb
    rw [List.append_nil]
    exact h.next
  · exact h.next.ext_own b
theorem Kx.sync (h : Kx z S f was all) (hk : Ok S) {n : Nm} (hn : z ≠ n) : Kx z (S.sync n).1 f was all := by
  unfold Dk.sync
  split
  · exact h.begun
  · rename_i g fl hon
    have hg : look S.dir n = some g := by
      unfold Dk.onFile at hon
      split at hon
      · cases hon
      split at hon
      · cases hon
      split at hon
      · cases hon
      · rename_i g' hl
        cases hon
        exact hl
    have hne := h.ne hk hn hg
    have hb := h.begun
    split
    · exact ⟨hb.lookS, hb.lookD, fun a ha => hb.acts a (List.mem_filter.1 ha).1, hb.modify hne _⟩
    · exact ⟨hb.lookS, hb.lookD, fun a ha => hb.acts a (List.mem_filter.1 ha).1, hb.modify hne _⟩
theorem Kx.syncDir (h : Kx z S f was all) : Kx z S.syncDir.1 f was all := by
  unfold Dk.syncDir
  split
  · exact h
  split
  · exact ⟨h.lookS, h.lookS, fun a ha => h.acts a (List.mem_filter.1 ha).1, h.file⟩
  · exact ⟨h.lookD, h.lookD, fun a ha => h.acts a (List.mem_filter.1 ha).1, h.file⟩
theorem Kx.act (h : Kx z S f was all) {a : Ac} (ha : avoids z a) : Kx z (S.act a) f was all :=
  ⟨h.lookS, (look_done _ ha).trans h.lookD, fun x hx => by
    rcases List.mem_append.1 hx with hx | hx
    · exact h.acts x hx
    · simp at hx; subst hx; exact ha, h.file⟩
theorem Kx.rename (h : Kx z S f was all) {a b : Nm} (ha : z ≠ a) (hb : z ≠ b) : Kx z (S.rename a b).1 f was all := by
  unfold Dk.rename
  split
  · exact h
  split
  · exact h.next
  split
  · exact h.next
  split
  · exact h.next
  split
  · exact h.next
  · exact h.next.act ⟨ha, hb⟩
theorem Kx.remove (h : Kx z S f was all) {n : Nm} (hn : z ≠ n) : Kx z (S.remove n).1 f was all := by
  unfold Dk.remove
  split
  · exact h.begun
  split
  · exact h.begun
  · exact h.begun.act hn
theorem Kx.kept (h : Kx z S f was all) : Kept z S f was all := by
  obtain ⟨x, h1, h2, h3⟩ := h.file
  exact ⟨h.lookS, h.lookD, h.acts, x, h1, h2, Nat.le_of_eq h3.symm⟩
theorem onFile_look {n : Nm} {g : Nat} {fl : Bool} (hon : S.onFile n = .ok (g, fl)) : look S.dir n = some g ∧ fl = S.fails S.n ∧ S.on = true ∧ isNm n = true := by
  unfold Dk.onFile at hon
  split at hon
  · cases hon
  split at hon
  · cases hon
  split at hon
  · cases hon
  · rename_i h1 h2 _ g' hl
    cases hon
    exact ⟨hl, rfl, by simpa using h1, by simpa using h2⟩
/-- The file's own sync: done, failed, or not begun. -/
theorem Kx.sync_own (h : Kx z S f was all) : ((S.sync z).2 = 0 → Kx z (S.sync z).1 f all.length all) ∧ ((S.sync z).2 = 34 → Kx z (S.sync z).1 f was (all.take was)) ∧ ((S.sync z).2 ≠ 0 → (S.sync z).2 ≠ 34 → Kx z (S.sync z).1 f was all) := by
  have hb := h.begun
  obtain ⟨x, h1, h2, h3⟩ := hb.file
  unfold Dk.sync
  split
  · rename_i e he
    have hne : e = 35 ∨ e = 30 ∨ e = 32 := by
      unfold Dk.onFile at he
      split at he
      · cases he; exact .inl rfl
      split at he
      · cases he; exact .inr (.inl rfl)
      split at he
      · cases he; exact .inr (.inr rfl)
      · cases he
    refine ⟨fun e0 => ?_, fun e0 => ?_, fun _ _ => hb⟩
    · simp only at e0; omega
    · simp only at e0; omega
  · rename_i g fl hon
    have hg : g = f := by
      have h5 := (onFile_look hon).1
      rw [h.lookD] at h5
      injection h5 with h5
      exact h5.symm
    subst hg
    split
    · refine ⟨fun e0 => absurd e0 (by simp), fun _ => ⟨hb.lookS, hb.lookD, fun a ha => hb.acts a (List.mem_filter.1 ha).1, { x with b := x.b.take x.sure }, ?_, ?_, h3⟩, fun _ e0 => absurd rfl e0⟩
      · show (S.begun.files.modify g _)[g]? = _
        simp [h1]
      · simp [h2, h3]
    · refine ⟨fun _ => ⟨hb.lookS, hb.lookD, fun a ha => hb.acts a (List.mem_filter.1 ha).1, { x with sure := x.b.length }, ?_, h2, by simp [h2]⟩, fun e0 => absurd e0 (by simp), fun e0 => absurd rfl e0⟩
      show (S.begun.files.modify g _)[g]? = _
      simp [h1]
/-- A name that is not there, and of which no loose act speaks. -/
structure Gone (z : Nm) (S : Dk) : Prop where
  lookS : look S.sure z = none
  lookD : look S.dir z = none
  acts : ∀ a ∈ S.acts, avoids z a
theorem Gone.next (h : Gone z S) : Gone z S.next := ⟨h.lookS, h.lookD, h.acts⟩
theorem Gone.begun (h : Gone z S) : Gone z S.begun := by
  unfold Dk.begun
  split
  · exact h
  · exact h.next
theorem Gone.ext (h : Gone z S) (g : Nat) (b : List UInt8) : Gone z (S.ext g b) :=
  ⟨h.lookS, h.lookD, fun a ha => by
    rcases List.mem_append.1 ha with ha | ha
    · exact h.acts a ha
    · simp at ha; subst ha; trivial⟩
theorem Gone.mk1 (h : Gone z S) {n : Nm} (hn : z ≠ n) : Gone z (S.mk1 n) :=
  ⟨h.lookS, (look_ins_ne _ hn _).trans h.lookD, fun a ha => by
    rcases List.mem_append.1 ha with ha | ha
    · exact h.acts a ha
    · simp at ha; subst ha; exact hn⟩
theorem Gone.append (h : Gone z S) {n : Nm} (hn : z ≠ n) (b : List UInt8) : Gone z (S.append n b).1 := by
  unfold Dk.append
  split
  · exact h
  split
  · exact h.next
  split
  · exact h.next
  split
  · exact h.next
  show Gone z (S.next.app n b)
  unfold Dk.app
  split
  · split
    · exact h.next
    · exact h.next.ext _ b
  · split
    · exact h.next.mk1 hn
    · exact (h.next.mk1 hn).ext _ b
theorem Gone.sync (h : Gone z S) (n : Nm) : Gone z (S.sync n).1 := by
  have hb := h.begun
  unfold Dk.sync
  split
  · exact hb
  · split
    · exact ⟨hb.lookS, hb.lookD, fun a ha => hb.acts a (List.mem_filter.1 ha).1⟩
    · exact ⟨hb.lookS, hb.lookD, fun a ha => hb.acts a (List.mem_filter.1 ha).1⟩
theorem Gone.syncDir (h : Gone z S) : Gone z S.syncDir.1 := by
  unfold Dk.syncDir
  split
  · exact h
  split
  · exact ⟨h.lookS, h.lookS, fun a ha => h.acts a (List.mem_filter.1 ha).1⟩
  · exact ⟨h.lookD, h.lookD, fun a ha => h.acts a (List.mem_filter.1 ha).1⟩
theorem Gone.act (h : Gone z S) {a : Ac} (ha : avoids z a) : Gone z (S.act a) :=
  ⟨h.lookS, (look_done _ ha).trans h.lookD, fun x hx => by
    rcases List.mem_append.1 hx with hx | hx
    · exact h.acts x hx
    · simp at hx; subst hx; exact ha⟩
theorem Gone.remove (h : Gone z S) {n : Nm} (hn : z ≠ n) : Gone z (S.remove n).1 := by
  unfold Dk.remove
  split
  · exact h.begun
  split
  · exact h.begun
  · exact h.begun.act hn
theorem stay_avoids {cs : List Ac} (h : ∀ a ∈ cs, avoids z a) (keep t : Int) : ∀ a ∈ stay cs keep t, avoids z a := by
  intro a ha
  unfold stay at ha
  rcases List.mem_append.1 ha with ha | ha
  · exact h a (List.mem_of_mem_take ha)
  · unfold torn at ha
    split at ha
    · simp at ha; subst ha; trivial
    · simp at ha
theorem Gone.crash (h : Gone z S) (keep t : Int) : Gone z (S.crash keep t) := by
  have e : look (appD S.sure (stay S.acts keep t)) z = none := by
    rw [look_app _ _ (stay_avoids h.acts keep t)]
    exact h.lookS
  exact ⟨e, e, fun a ha => by cases ha⟩
/-- Behind a crash: a beginning of its bytes, all sure ones among them. -/
theorem Kx.crash (h : Kx z S f was all) (hk : Ok S) (keep t : Int) : ∃ k, was ≤ (all.take k).length ∧ Kx z (S.crash keep t) f (all.take k).length (all.take k) := by
  have e : look (appD S.sure (stay S.acts keep t)) z = some f := by
    rw [look_app _ _ (stay_avoids h.acts keep t)]
    exact h.lookS
  obtain ⟨x, h1, h2, h3⟩ := h.file
  have hl := hk.lens f x h1
  have hf : (S.crash keep t).files[f]? = some ⟨x.b.take (x.sure + moreSum (stay S.acts keep t) f), x.sure + moreSum (stay S.acts keep t) f⟩ := by
    show (S.files.mapIdx _)[f]? = _
    rw [List.getElem?_mapIdx, h1]
    rfl
  have hl2 := (hk.crash keep t).lens f _ hf
  have hm : moreSum (S.crash keep t).acts f = 0 := rfl
  rw [hm] at hl2
  dsimp only at hl2
  rw [h2] at hl hl2
  refine ⟨x.sure + moreSum (stay S.acts keep t) f, ?_, e, e, (fun a ha => by cases ha), _, hf, by rw [h2], by dsimp only; omega⟩
  rw [List.length_take] at hl2 ⊢
  omega
end
end Go.Proofs.YtdbmngbinhemeaaGreatDoor

/-
  What ReadAt, Turn, SetRoom do, of a disk that stands. Conditions: a disk within bounds.
-/
namespace Go.Proofs.YtdbmngbinhemeaaGreatDoor
open Go.RowKit
section
variable {w w' : World} {F : Nat → Prop} {d : Nat} {S : Dk} {G : Gh}
theorem own_cap {w : World} {base n size cap m : Nat} {e : TypeId} {ao : Option Addr} {xs : List Value} (h : w.ownsRow base e size (.slice ao m cap) n xs) : n ≤ cap := by
  rcases h.2 with ⟨hv, hn⟩ | ⟨g', cap', cur, hv, _, _, hc, _⟩
  · omega
  · injection hv with e1 e2 e3
    omega
theorem sl_cut {w : World} {ra : Option Addr} {rc : Nat} {l : List UInt8} (h : w.ownsRow 0 5 1 (.slice ra l.length rc) l.length (bc l)) {i j : Nat} (hij : i + j ≤ l.length) (hlt : i < rc) : Sl w (.slice (ra.map fun x => x.add i) j (rc - i)) ((l.drop i).take j) := by
  have hlen : ((l.drop i).take j).length = j := by simp; omega
  have h0 := h
  rcases h.2 with ⟨hv, hn⟩ | ⟨g, cap', cur, hv, -, hh, h1, h2, -⟩
  · injection hv with e1 e2 e3
    omega
  · injection hv with e1 e2 e3
    subst e1 e3
    refine ⟨some ⟨g, 0 + i, none⟩, rc - i, ?_, by omega, by omega, (fun e => by cases e), fun _ => ⟨g, 0 + i, rfl, lt_of_heap hh, fun q hq => ?_⟩⟩
    · rw [hlen, Option.map_some, Addr.add_lit]
    · rw [hlen] at hq
      have := World.ownsRow.cells h0 (g := g) rfl (i + q) _ (bc_get l (i + q) (by omega))
      rw [Addr.add_lit] at this
      rw [show 0 + i + q = 0 + (i + q) by omega, this]
      simp
theorem sl_cut0 {w : World} {ra : Option Addr} {rc : Nat} {l : List UInt8} (h : w.ownsRow 0 5 1 (.slice ra l.length rc) l.length (bc l)) {i j : Nat} (hij : i + j ≤ l.length) (hlt : rc ≤ i) : Sl w (.slice ra j 0) ((l.drop i).take j) := by
  have hc := own_cap h
  have hj : j = 0 := by omega
  subst hj
  have e : (l.drop i).take 0 = [] := by simp
  rw [e]
  exact ⟨ra, 0, rfl, Nat.le_refl _, by simp, fun _ => rfl, fun h => absurd rfl h⟩
set_option maxRecDepth 20000 in
set_option maxHeartbeats 1600000 in
theorem readAt_rep (h : Rep w F d S G) (hlow : ∀ k, F k → k < w.heap.size) (hb : S.bulk < 1099511627776) (n : Nm) (a m : Int) (ha : -9223372036854775808 ≤ a ∧ a ≤ 9223372036854775807) (hm : -9223372036854775808 ≤ m ∧ m ≤ 9223372036854775807) :
    Calls Tryz.prog 71 #[.pointer (some ⟨d, 0, none⟩), .string (strB n), .int .i64 a, .int .i64 m] w fun e w' => ∃ v G', e = .returned (.tuple #[v, .int .i64 (S.readAt n a m).2]) ∧ ∃ F', Rep w' F' d S.begun G' ∧ Chg F w w' ∧ (∀ k, F' k → F k ∨ (w.heap.size ≤ k ∧ k < w'.heap.size)) ∧
    w'.ownsRow w.heap.size 5 1 v (S.readAt n a m).1.length (bc (S.readAt n a m).1) ∧ ∀ k, v.ownBlock = some k → ¬ F' k := by
  have hon := on_rep h hb n
  go_enter Tryz.func71, Tryz.ntmps71
  go_wp2_with fail
  refine hon.mono ?_
  rintro e w1 ⟨G', hr, hc, ⟨er, he, hne, rfl⟩ | ⟨f, fl, he, hl, rfl⟩⟩
  · have hnb : (er != 0) = true := by simp [hne]
    have HE := hide (show S.readAt n a m = ([], er) by unfold Dk.readAt; rw [he])
    have HR := hide hr
    clear he hne hr hon
    go_wp2
    go_ret2
    rw [HE.out]
    exact ⟨_, G', rfl, _, HR.out, hc, fun k hk => hk, World.ownsRow_nil _ _ _ _, fun k hk => by cases hk⟩
  · obtain ⟨x, hx, hbx, hlx, hfx, hrx⟩ := hr.file (n := n) (f := f) (by rw [(begun_dir S).1]; exact hl)
    have c0 := cell_of hfx 0
    have hby : S.bytes f = x.b := by
      rw [(begun_dir S).2.1] at hx
      exact bytes_of hx
    have hxl : x.b.length ≤ S.bulk := by
      rw [(begun_dir S).2.1] at hx
      exact file_le hx
    have HRD := hide (show S.readAt n a m = (if a < 0 ∨ m < 0 ∨ (x.b.length : Int) < a ∨ (x.b.length : Int) - a < m then ([], 2) else if fl = true then ([], 34) else ((x.b.drop a.toNat).take m.toNat, 0)) by
      unfold Dk.readAt
      rw [he]
      show (if _ then _ else _) = _
      rw [hby])
    have HR := hide hr
    obtain ⟨ra, rc, hrv⟩ := own_shape hrx
    rw [hrv] at hrx c0
    have HRX := hide hrx
    have hcap := own_cap hrx
    clear he hon hr hx hbx hlx hfx hrx hby hl
    by_cases b1 : a < 0
    · have HE := hide (HRD.out.trans (if_pos (Or.inl b1)))
      go_wp2
      go_ret2
      rw [HE.out]
      exact ⟨_, G', rfl, _, HR.out, hc, fun k hk => hk, World.ownsRow_nil _ _ _ _, fun k hk => by cases hk⟩
    by_cases b2 : m < 0
    · have HE := hide (HRD.out.trans (if_pos (Or.inr (Or.inl b2))))
      go_wp2
      go_ret2
      rw [HE.out]
      exact ⟨_, G', rfl, _, HR.out, hc, fun k hk => hk, World.ownsRow_nil _ _ _ _, fun k hk => by cases hk⟩
    by_cases b3 : (x.b.length : Int) < a
    · have HE := hide (HRD.out.trans (if_pos (Or.inr (Or.inr (Or.inl b3)))))
      go_wp2
      go_ret2
      rw [HE.out]
      exact ⟨_, G', rfl, _, HR.out, hc, fun k hk => hk, World.ownsRow_nil _ _ _ _, fun k hk => by cases hk⟩
    have hwr : IntKind.i64.wrap ((x.b.length : Int) - a) = (x.b.length : Int) - a := by rw [IntKind.wrap_i64]; omega
    by_cases b4 : (x.b.length : Int) - a < m
    · have HE := hide (HRD.out.trans (if_pos (Or.inr (Or.inr (Or.inr b4)))))
      go_wp2
      go_ret2
      rw [HE.out]
      exact ⟨_, G', rfl, _, HR.out, hc, fun k hk => hk, World.ownsRow_nil _ _ _ _, fun k hk => by cases hk⟩
    have HN := hide (show ¬ (a < 0 ∨ m < 0 ∨ (x.b.length : Int) < a ∨ (x.b.length : Int) - a < m) by omega)
    cases fl with
    | true =>
      have HE := hide (HRD.out.trans ((if_neg HN.out).trans (if_pos rfl)))
      go_wp2
      go_ret2
      rw [HE.out]
      exact ⟨_, G', rfl, _, HR.out, hc, fun k hk => hk, World.ownsRow_nil _ _ _ _, fun k hk => by cases hk⟩
    | false =>
      have HE := hide (HRD.out.trans ((if_neg HN.out).trans (if_neg (by simp))))
      obtain ⟨i, rfl⟩ : ∃ i : Nat, a = (i : Int) := ⟨a.toNat, by omega⟩
      obtain ⟨j, rfl⟩ : ∃ j : Nat, m = (j : Int) := ⟨m.toNat, by omega⟩
      have hwr2 : IntKind.i64.wrap ((i : Int) + (j : Int)) = (i : Int) + (j : Int) := by rw [IntKind.wrap_i64]; omega
      have hij1 : (i : Int) ≤ (i : Int) + (j : Int) := by omega
      have hij2 : (i : Int) + (j : Int) ≤ (rc : Int) := by omega
      have hbl : ((x.b.drop i).take j).length ≤ 70368744177664 := by simp; omega
      have hcut1 := fun hlt => sl_cut HRX.out (i := i) (j := j) (by omega) hlt
      have hcut2 := fun hlt => sl_cut0 HRX.out (i := i) (j := j) (by omega) hlt
      have HC1 := hide hcut1
      have HC2 := hide hcut2
      clear hcut1 hcut2
      by_cases hic : i < rc
      · have HLT := hide (HC1.out hic)
        have hz : ¬ rc - i = 0 := by omega
        go_wp2_with fail
        refine (clone_any _ _ _ HLT.out hbl).mono ?_
        rintro e w2 ⟨v', rfl, hown, hbel⟩
        have hcb := Chg.of_below hbel
        have hfin : ∃ F', Rep w2 F' d S.begun G' ∧ Chg F w w2 ∧ (∀ k, F' k → F k ∨ (w.heap.size ≤ k ∧ k < w2.heap.size)) ∧ w2.ownsRow w.heap.size 5 1 v' ((x.b.drop i).take j).length (bc ((x.b.drop i).take j)) ∧ ∀ k, v'.ownBlock = some k → ¬ F' k := by
          refine ⟨Fx F w w1, HR.out.keep hcb (fun k hk hle => ?_) (fun _ h => h), hc.trans hcb (fun i hi hle => ?_), fun k hk => hk.imp_right fun h => ⟨h.1, Nat.lt_of_lt_of_le h.2 hbel.size⟩, ownsRow_base_le hown hc.size, fun k hk hF => ?_⟩
          · have h0 := hc.size
            rcases hk with h1 | h1
            · have := hlow k h1
              omega
            · omega
          · have := hc.size
            omega
          · have h1 := (hown.lt k hk).1
            rcases hF with h2 | h2
            · have := hlow k h2
              have := hc.size
              omega
            · omega
        have HFIN := hide hfin
        clear hfin hown hbel hcb
        go_wp2
        go_ret2
        rw [HE.out]
        exact ⟨_, G', rfl, HFIN.out⟩
      · have HLT := hide (HC2.out (by omega))
        have hz : rc - i = 0 := by omega
        go_wp2_with fail
        refine (clone_any _ _ _ HLT.out hbl).mono ?_
        rintro e w2 ⟨v', rfl, hown, hbel⟩
        have hcb := Chg.of_below hbel
        have hfin : ∃ F', Rep w2 F' d S.begun G' ∧ Chg F w w2 ∧ (∀ k, F' k → F k ∨ (w.heap.size ≤ k ∧ k < w2.heap.size)) ∧ w2.ownsRow w.heap.size 5 1 v' ((x.b.drop i).take j).length (bc ((x.b.drop i).take j)) ∧ ∀ k, v'.ownBlock = some k → ¬ F' k := by
          refine ⟨Fx F w w1, HR.out.keep hcb (fun k hk hle => ?_) (fun _ h => h), hc.trans hcb (fun i hi hle => ?_), fun k hk => hk.imp_right fun h => ⟨h.1, Nat.lt_of_lt_of_le h.2 hbel.size⟩, ownsRow_base_le hown hc.size, fun k hk hF => ?_⟩
          · have h0 := hc.size
            rcases hk with h1 | h1
            · have := hlow k h1
              omega
            · omega
          · have := hc.size
            omega
          · have h1 := (hown.lt k hk).1
            rcases hF with h2 | h2
            · have := hlow k h2
              have := hc.size
              omega
            · omega
        have HFIN := hide hfin
        clear hfin hown hbel hcb
        go_wp2
        go_ret2
        rw [HE.out]
        exact ⟨_, G', rfl, HFIN.out⟩
end
variable {B : Nat} {w w' : World} {F : Nat → Prop} {d : Nat} {S : Dk}
theorem readAt_lies (h : Stands B w F d S) (hB : B ≤ w.heap.size) (n : Nm) (a m : Int) (ha : -9223372036854775808 ≤ a ∧ a ≤ 9223372036854775807) (hm : -9223372036854775808 ≤ m ∧ m ≤ 9223372036854775807) (hb : S.bulk < 1099511627776) :
    Calls Tryz.prog 71 #[.pointer (some ⟨d, 0, none⟩), .string (strB n), .int .i64 a, .int .i64 m] w fun e w' => ∃ v, e = .returned (.tuple #[v, .int .i64 (S.readAt n a m).2]) ∧ w'.ownsRow w.heap.size 5 1 v (S.readAt n a m).1.length (bc (S.readAt n a m).1) ∧
      ∃ F', Stands B w' F' d S.begun ∧ (∀ k, F' k → F k ∨ w.heap.size ≤ k) ∧ Chg F w w' ∧ ∀ k, v.ownBlock = some k → ¬ F' k := by
  obtain ⟨⟨G, hr⟩, h2, h3⟩ := h
  refine (readAt_rep hr (fun k hk => (h2 k hk).2) hb n a m ha hm).mono ?_
  rintro e w' ⟨v, G', rfl, F', hr', hc, hF, hown, hv⟩
  refine ⟨v, rfl, hown, F', ⟨⟨G', hr'⟩, fun k hk => ?_, h3.begun⟩, fun k hk => (hF k hk).imp_right (·.1), hc, hv⟩
  rcases hF k hk with h | h
  · exact ⟨(h2 k h).1, Nat.lt_of_lt_of_le (h2 k h).2 hc.size⟩
  · exact ⟨Nat.le_trans hB h.1, h.2⟩
end Go.Proofs.YtdbmngbinhemeaaGreatDoor
