/-
  What Turn does where it turns bits. Condition: a disk within bounds.
-/
import Derived.Test.YtlejgdjkdbamkaaTurn
namespace Go.Proofs.Ytlejgdjkdbamkaa
open Go.RowKit

theorem Ok.modify {S : Dk} (h : Ok S) (f : Nat) (g : Fl → Fl) (hg : ∀ x, (g x).sure = x.sure ∧ (g x).b.length = x.b.length) : Ok { S with files := S.files.modify f g } where
  sortS := h.sortS
  valid := h.valid
  dir := h.dir
  one := h.one
  idS i hi := by
    show i < (S.files.modify f g).length
    rw [List.length_modify]
    exact h.idS i hi
  idA i hi := by
    show i < (S.files.modify f g).length
    rw [List.length_modify]
    exact h.idA i hi
  idM i hi := by
    show i < (S.files.modify f g).length
    rw [List.length_modify]
    exact h.idM i hi
  lens i y hy := by
    rcases modify_get hy with ⟨_, hy'⟩ | ⟨rfl, x, hx, rfl⟩
    · exact h.lens i y hy'
    · rw [(hg x).1, (hg x).2]
      exact h.lens i x hx

section
variable {w w' : World} {F : Nat → Prop} {d : Nat} {S : Dk} {G : Gh}

/-- Bytes of one file are others, where they lay. -/
theorem Rep.rebyte (h : Rep w F d S G) {f : Nat} (hf : f ∈ ids S.dir) {x : Fl} (hx : S.files[f]? = some x) (g : Fl → Fl) (hg : ∀ x, (g x).sure = x.sure ∧ (g x).b.length = x.b.length) {q : Nat} (hq : (G.rv f).ownBlock = some q) (hc : Chg (· = q) w w')
    (hrow : w'.ownsRow 0 5 1 (G.rv f) x.b.length (bc (g x).b)) : Rep w' F d { S with files := S.files.modify f g } G := by
  have hlf := live_of_dir h.ok hf
  obtain ⟨b1, b2, b3⟩ := h.bytes f x hlf hx
  obtain ⟨cur, hcur⟩ := own_block b2 hq
  have hne : ∀ k o, w.heap[k]? = some o → tag o ≠ 5 → k ≠ q := fun k o ho ht e => by
    subst e
    exact ne_tag hcur ho (fun e => ht e.symm) rfl
  have hmo : ∀ {o : Option Nat} {l : List (Value × Value)}, MapO w F o l → MapO w' F o l := fun {o l} hm => hm.keep hc (fun b e e2 => by
    rw [e] at hm
    subst e2
    exact hm.2.ne hcur rfl) (fun _ h => h)
  have hused : usedOf (S.files.modify f g) S.dir = usedOf S.files S.dir := by
    unfold usedOf
    congr 1
    refine List.map_congr_left fun p _ => ?_
    unfold lenOf
    by_cases e : p.2 = f
    · rw [e, List.getElem?_modify_eq, hx]
      simp [(hg x).2]
    · have e3 : ¬ f = p.2 := fun e2 => e e2.symm
      rw [List.getElem?_modify]
      simp [e3]
  exact
    { ok := h.ok.modify f g hg
      disk := by
        have := hc.keep h.disk (hne _ _ h.disk (show 66 ≠ 5 by decide))
        rw [this]
        unfold dcells
        show _ = some (Obj.cells #[_, .int .i64 ((usedOf (S.files.modify f g) S.dir : Nat) : Int), _, _, _, _, _, _, _] _)
        rw [hused]
        rfl
      inD := h.inD
      roomy := h.roomy
      cutv := h.cutv
      now := hmo h.now
      sure := hmo h.sure
      both := h.both
      bare := h.bare
      fails := by
        obtain ⟨l, g1, g2⟩ := h.fails
        exact ⟨l, hmo g1, g2⟩
      two := h.two
      three := h.three
      row := own_keep h.row hc (fun k hk => by
        obtain ⟨cur2, hcur2⟩ := own_block h.row hk
        exact hne k _ hcur2 (show 104 ≠ 5 by decide))
      rowF := h.rowF
      many := h.many
      acts := h.actsKeep hc (fun k c t h1 h2 e => by
        subst e
        exact spares_cells hcur (by decide) _ c t h1 h2 rfl) (fun _ h => h)
      files := fun i hi => ⟨(h.files i hi).1, hc.keep (h.files i hi).2 (hne _ _ (h.files i hi).2 (show 95 ≠ 5 by decide))⟩
      inj := h.inj
      bytes := fun i y hi hy => by
        rcases modify_get hy with ⟨hn, hy'⟩ | ⟨rfl, x', hx', rfl⟩
        · obtain ⟨c1, c2, c3⟩ := h.bytes i y hi hy'
          exact ⟨c1, own_keep c2 hc (fun k hk e => hn (h.apart i f k hi hlf hk (e ▸ hq))), c3⟩
        · rw [hx] at hx'
          injection hx' with hx'
          subst hx'
          rw [(hg x).1, (hg x).2]
          exact ⟨b1, hrow, b3⟩
      apart := h.apart }

theorem b_xor (x y : UInt8) : bits .xor .u8 (x.toNat : Int) (y.toNat : Int) = ((x ^^^ y).toNat : Int) := by
  rw [u8_xor_nat _ _ x.toNat_lt y.toNat_lt, UInt8.toNat_xor]
theorem bc_modify (l : List UInt8) (i : Nat) (b : UInt8) (h : i < l.length) : bc (l.modify i (· ^^^ b)) = (bc l).set i (.int .u8 (((l[i]'h) ^^^ b).toNat : Int)) := by
  apply List.ext_getElem?
  intro j
  unfold bc
  rw [List.getElem?_map, List.getElem?_modify, List.getElem?_set]
  by_cases e : i = j
  · subst e
    simp [h]
  · simp [e]

set_option maxRecDepth 20000 in
set_option maxHeartbeats 400000 in
theorem turn_ok (h : Rep w F d S G) (n : Nm) (at_ : Nat) (b : UInt8) {f : Nat} (hl : look S.dir n = some f) (ho : at_ < (S.bytes f).length) : Calls Try.prog 32 #[.pointer (some ⟨d, 0, none⟩), .string (strB n), .int .i64 (at_ : Int), .int .u8 (b.toNat : Int)] w fun e w' => e = .returned (.int .i64 0) ∧
    Rep w' F d { S with files := S.files.modify f fun x => { x with b := x.b.modify at_ (· ^^^ b) } } G ∧ Chg F w w' := by
  have hd := h.disk
  unfold dcells at hd
  have x2 := cell_of hd 2
  have hlk := rep_look h n
  rw [hl] at hlk
  have hlk' : (Instr.lookup 62 (.map G.now) (.string (strB n)) false).run Try.prog w = .ok (.pointer (some ⟨G.fb f, 0, none⟩)) w := hlk
  obtain ⟨x, hx, hbx, hlv, f2, b2⟩ := h.file hl
  have b3 := (h.bytes f x hlv hx).2.2
  rw [hbx] at ho
  obtain ⟨g, cap, cur, hrv, hcur, hle, hmx, hcs, htk⟩ : ∃ g cap cur, G.rv f = .slice (some ⟨g, 0, none⟩) x.b.length cap ∧ w.heap[g]? = some (.cells cur 5 (0, 0)) ∧ x.b.length ≤ cap ∧ cap ≤ maxLen ∧ cur.size = cap * 1 ∧ cur.toList.take (x.b.length * 1) = bc x.b := by
    rcases b2.2 with ⟨e1, e2⟩ | ⟨g, cap, cur, e1, _, e2, e3, e4, e5, e6⟩
    · omega
    · exact ⟨g, cap, cur, e1, e2, e3, e4, e5, e6⟩
  have hgF : F g := b3 g (by rw [hrv]; rfl)
  have hv : w.cell? ⟨g, at_, none⟩ = some (.int .u8 ((x.b[at_]'ho).toNat : Int)) := by
    rw [hrv] at b2
    have := b2.cellAt at_ (by omega)
    rw [bc_get x.b at_ ho] at this
    exact this
  have tg := thawed hcur at_
  have hset := heap_set hcur at_ (.int .u8 (((x.b[at_]'ho) ^^^ b).toNat : Int))
  have hnew : (w.setCell ⟨g, at_, none⟩ (.int .u8 (((x.b[at_]'ho) ^^^ b).toNat : Int))).ownsRow 0 5 1 (G.rv f) x.b.length (bc (x.b.modify at_ (· ^^^ b))) := by
    rw [hrv]
    refine ⟨by rw [bc_length, List.length_modify]; omega, Or.inr ⟨g, cap, _, rfl, Nat.zero_le _, hset, hle, hmx, by rw [Array.size_setIfInBounds]; exact hcs, ?_⟩⟩
    rw [bc_modify _ _ _ ho, ← htk, Array.toList_setIfInBounds, List.take_set]
  have hfin := h.rebyte (look_id hl) hx (fun x => { x with b := x.b.modify at_ (· ^^^ b) }) (fun y => ⟨rfl, List.length_modify ..⟩) (q := g) (by rw [hrv]; rfl) (chg_set w g at_ _) hnew
  have hcF : Chg F w (w.setCell ⟨g, at_, none⟩ (.int .u8 (((x.b[at_]'ho) ^^^ b).toNat : Int))) := (chg_set w g at_ _).mono fun k _ e => by rw [e]; exact hgF
  rw [hrv] at f2
  have y0 := cell_of f2 0
  have hxo := b_xor (x.b[at_]'ho) b
  have HF := hide hfin
  have HC := hide hcF
  obtain ⟨c, hcv⟩ : ∃ c, c = x.b[at_]'ho := ⟨_, rfl⟩
  rw [← hcv] at hv hxo HF HC
  obtain ⟨len, hlen⟩ : ∃ len, len = x.b.length := ⟨_, rfl⟩
  rw [← hlen] at y0 hle
  have hal : at_ < len := by omega
  clear hfin hcF hnew hset hlk f2 b2 b3 htk hlen hcv hcs hbx ho hx hrv
  go_enter Try.func32, Try.ntmps32
  go_wp2
  go_ret
  exact ⟨rfl, HF.out, HC.out⟩

/-- Turn, in one. -/
theorem turn_rep (h : Rep w F d S G) (n : Nm) (at_ : Int) (b : UInt8) : Calls Try.prog 32 #[.pointer (some ⟨d, 0, none⟩), .string (strB n), .int .i64 at_, .int .u8 (b.toNat : Int)] w fun e w' => e = .returned (.int .i64 (S.turn n at_ b).2) ∧
    Rep w' F d (S.turn n at_ b).1 G ∧ Chg F w w' := by
  unfold Dk.turn
  cases hl : look S.dir n with
  | none =>
    refine (turn_none h n at_ b hl).mono ?_
    rintro e w' ⟨he, rfl⟩
    exact ⟨he, h, Chg.refl _ _⟩
  | some f =>
    dsimp only
    by_cases ho : at_ < 0 ∨ ((S.bytes f).length : Int) ≤ at_
    · rw [if_pos ho]
      refine (turn_out h n at_ b hl ho).mono ?_
      rintro e w' ⟨he, rfl⟩
      exact ⟨he, h, Chg.refl _ _⟩
    · rw [if_neg ho]
      obtain ⟨k, rfl⟩ : ∃ k : Nat, at_ = (k : Int) := ⟨at_.toNat, by omega⟩
      exact turn_ok h n k b hl (by omega)
end
end Go.Proofs.Ytlejgdjkdbamkaa
