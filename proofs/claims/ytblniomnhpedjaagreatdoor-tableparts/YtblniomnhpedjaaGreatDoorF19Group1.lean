/-
  Texts joined: Group1, Group2, File.
-/
import Derived.Test.YtblniomnhpedjaaGreatDoorF18Puts
import Derived.Test.YtblniomnhpedjaaGreatDoorF2Acts
import Derived.Test.YtblniomnhpedjaaGreatDoorF15ReadAt
/-
  What takeGroup answers. Conditions: the bytes lie there, within reach; the table holds its numbers.
-/
namespace Go.Proofs.YtblniomnhpedjaaGreatDoor
open Go.RowKit

theorem headW_le (cs : List UInt8 → List UInt8) (b : List UInt8) : (headW cs b).1 ≤ 2129920 := by
  rw [headW_eq cs b _ rfl]
  split
  · omega
  · dsimp only
    omega
theorem recsW_each (size : Int) : ∀ (f : Nat) (b : List UInt8) (a : Nat), ∀ r ∈ (recsW f b a size).1, r.length ≤ 2097152
  | 0, b, a => by simp [recsW]
  | f + 1, b, a => by
    by_cases ha : a < b.length
    · cases ht : takeT b a 2097152 with
      | none => rw [recsW_none ha ht]; simp
      | some x =>
        obtain ⟨r, q⟩ := x
        rw [recsW_some ha ht]
        intro r' hr'
        rcases List.mem_cons.1 hr' with rfl | h
        · have := (takeT_sound ht).2.2.2.2
          omega
        · exact recsW_each size f b q r' h
    · rw [recsW_end ha]; simp
set_option maxRecDepth 20000 in
set_option maxHeartbeats 1600000 in
theorem takeGroup_any (w : World) (v : Value) (b : List UInt8) (h : Sl w v b) (hl : b.length ≤ 1000000000) (hT : TabW w) :
    Calls Tryz.prog 97 #[v] w fun e w' => ∃ v', e = .returned (.tuple #[v', .int .i64 ((groupW sum4 b).2.1 : Int), .bool (groupW sum4 b).2.2]) ∧ w'.ownsRow w.heap.size 9 1 v' (groupW sum4 b).1.length (tcW (groupW sum4 b).1) ∧ Below w.heap.size w w' := by
  have hhd := takeHead_any w v b h hT
  have hle := headW_le sum4 b
  obtain ⟨ao, cap, rfl, c1, c2⟩ := h.form
  unfold maxLen at c2
  generalize hG : groupW sum4 b = G
  have hG : groupB sum4 b (headW sum4 b) = G := hG
  generalize headW sum4 b = p at *
  obtain ⟨size, ok⟩ := p
  dsimp only at hle
  have HT := hide hT
  have H := hide h
  unfold groupB at hG
  dsimp only at hG
  clear hT h
  by_cases hok : ok = false
  · rw [if_pos (.inl hok)] at hG
    subst hG hok
    go_enter Tryz.func97, Tryz.ntmps97
    go_wp2_with fail
    refine hhd.mono ?_
    rintro e w1 ⟨rfl, hb1⟩
    go_wp2
    go_ret3
    exact ⟨_, rfl, World.ownsRow_nil _ _ _ _, hb1⟩
  obtain rfl : ok = true := by simpa using hok
  by_cases h12 : b.length < 12
  · rw [if_pos (.inr h12)] at hG
    subst hG
    go_enter Tryz.func97, Tryz.ntmps97
    go_wp2_with fail
    refine hhd.mono ?_
    rintro e w1 ⟨rfl, hb1⟩
    go_wp2
    go_ret3
    exact ⟨_, rfl, World.ownsRow_nil _ _ _ _, hb1⟩
  rw [if_neg (fun e => e.elim (fun e => by cases e) h12)] at hG
  have HG := hide hG
  clear hG hok
  go_enter Tryz.func97, Tryz.ntmps97
  go_wp2_with fail
  refine hhd.mono ?_
  rintro e w1 ⟨rfl, hb1⟩
  obtain ⟨v2, hr2, hs2⟩ := run_from w1 (H.out.keepB hb1) 12 (by omega)
  have hcut := cutW_any w1 v2 (b.drop 12) size hs2 (by omega)
  have hbl : (b.drop 12).length ≤ 1000000000 := by rw [List.length_drop]; omega
  generalize b.drop 12 = bd at *
  obtain ⟨a2, q2, rfl, -⟩ := hs2.form
  have hr2 : ∀ W : World, (Instr.slice 68 (.slice ao b.length cap) (some (.int .i64 12)) none none).run Tryz.prog W = .ok (.slice a2 bd.length q2) W := hr2
  clear hs2 hhd
  go_wp2_with fail
  refine hcut.mono ?_
  rintro e w2 ⟨v3, v4, rfl, hs3, hs4, hb2⟩
  have hB2 := hb1.trans (hb2.mono hb1.size)
  have hbl3 : (bd.take size).length ≤ size := by rw [List.length_take]; omega
  have htr := takeRecords_any w2 v3 (bd.take size) size hs3 hbl3 (by omega)
  have hea := recsW_each size ((bd.take size).length + 1) (bd.take size) 0
  generalize recsW ((bd.take size).length + 1) (bd.take size) 0 size = R at *
  obtain ⟨rs, rok⟩ := R
  generalize bd.take size = body at *
  generalize bd.drop size = rest at *
  dsimp only at htr hea
  have H3 := hide hs3
  have H4 := hide hs4
  obtain ⟨a3, q3, rfl, q31, q32⟩ := hs3.form
  obtain ⟨a4, q4, rfl, q41, q42⟩ := hs4.form
  clear hs3 hs4 hcut
  go_wp2_with fail
  refine htr.mono ?_
  rintro e w3 ⟨v5, rfl, ho5, hb3⟩
  have hB3 := hB2.trans (hb3.mono hB2.size)
  have hir := isRight_any w3 v5 rs (tx_of_own ho5) (fun r hr => by have := hea r hr; omega)
  have HO5 := hide ho5
  obtain ⟨a5, q5, rfl, -⟩ := own_form ho5
  have hG := HG.out
  unfold recB at hG
  dsimp only at hG
  clear HG htr ho5
  cases hrok : rok with
  | false =>
    rw [if_pos (.inl hrok)] at hG
    subst hG
    go_wp2
    go_ret3
    exact ⟨_, rfl, World.ownsRow_nil _ _ _ _, hB3⟩
  | true =>
    cases hri : right rs with
    | false =>
      rw [if_pos (.inr hri)] at hG
      subst hG
      rw [hri] at hir
      go_wp2_with fail
      refine hir.mono ?_
      rintro e w4 ⟨rfl, rfl⟩
      go_wp2
      go_ret3
      exact ⟨_, rfl, World.ownsRow_nil _ _ _ _, hB3⟩
    | true =>
      rw [if_neg (fun e => e.elim (fun e => by rw [hrok] at e; cases e) (fun e => by rw [hri] at e; cases e))] at hG
      rw [hri] at hir
      by_cases hsh : body.length < size
      · rw [if_pos hsh] at hG
        subst hG
        go_wp2_with fail
        refine hir.mono ?_
        rintro e w4 ⟨rfl, rfl⟩
        go_wp2
        go_ret3
        exact ⟨_, rfl, World.ownsRow_nil _ _ _ _, hB3⟩
      · rw [if_neg hsh] at hG
        unfold sumB at hG
        have hcut := cutW_any w3 _ rest 4 (H4.out.keepB hb3) (by decide)
        have HG := hide hG
        clear hG
        go_wp2_with fail
        refine hir.mono ?_
        rintro e w4 ⟨rfl, rfl⟩
        go_wp2_with fail
        refine hcut.mono ?_
        rintro e w5 ⟨v6, v7, rfl, hs6, -, hb5⟩
        have hB5 := hB3.trans (hb5.mono hB3.size)
        have hps := putSum_any w5 _ body ((H3.out.keepB hb3).keepB hb5) (HT.out.keep hB5)
        generalize rest.take 4 = s4 at *
        obtain ⟨a6, q6, rfl, q61, q62⟩ := hs6.form
        have H6 := hide hs6
        clear hs6 hcut
        go_wp2_with fail
        refine hps.mono ?_
        rintro e w6 ⟨v8, rfl, ho8, hb6⟩
        have hB6 := hB5.trans (hb6.mono hB5.size)
        have hhp := hasPrefix_any w6 _ _ _ _ (sl_of_own (l := sum4 body) (by rw [sum4_length]; exact ho8)) (H6.out.keepB hb6)
        obtain ⟨a8, q8, rfl, -⟩ := own_form ho8
        have ho6 := own_keepB HO5.out (hb5.trans (hb6.mono hb5.size))
        generalize s4.isPrefixOf (sum4 body) = sok at *
        clear ho8 hps
        cases sok with
        | false =>
          have hG := HG.out
          rw [if_pos (.inl rfl)] at hG
          subst hG
          go_wp2_with fail
          refine hhp.mono ?_
          rintro e w7 ⟨rfl, rfl⟩
          go_wp2
          go_ret3
          exact ⟨_, rfl, World.ownsRow_nil _ _ _ _, hB6⟩
        | true =>
          by_cases h4 : s4.length < 4
          · have hG := HG.out
            rw [if_pos (.inr h4)] at hG
            subst hG
            go_wp2_with fail
            refine hhp.mono ?_
            rintro e w7 ⟨rfl, rfl⟩
            go_wp2
            go_ret3
            exact ⟨_, rfl, World.ownsRow_nil _ _ _ _, hB6⟩
          · have hG := HG.out
            rw [if_neg (fun e => e.elim (fun e => by cases e) h4)] at hG
            subst hG
            go_wp2_with fail
            refine hhp.mono ?_
            rintro e w7 ⟨rfl, rfl⟩
            go_wp2
            go_ret3
            refine ⟨_, ?_, own_low ho6 hB2.size, hB6⟩
            go_num
end Go.Proofs.YtblniomnhpedjaaGreatDoor

/-
  What takeGroups answers. Conditions: the bytes lie there, within reach; the table holds its numbers.
-/
namespace Go.Proofs.YtblniomnhpedjaaGreatDoor
open Go.RowKit

theorem groupW_le (cs : List UInt8 → List UInt8) (b : List UInt8) : (groupW cs b).2.1 ≤ b.length := by
  show (groupB cs b (headW cs b)).2.1 ≤ _
  generalize headW cs b = p
  unfold groupB
  split
  · exact Nat.zero_le _
  · next h1 =>
    unfold recB
    split
    · exact Nat.zero_le _
    · split
      · exact Nat.zero_le _
      · next h2 h3 =>
        unfold sumB
        split
        · exact Nat.zero_le _
        · next h4 =>
          simp only [List.length_take, List.length_drop, not_or] at h1 h3 h4 ⊢
          omega
theorem Tryz.infoTs : (Tryz.prog.info? 58).map (fun i => (i.zero, i.size, i.bytes)) = some (some (.slice none 0 0), 1, 24) := by kernel_rfl
/-- A row of rows of texts, all made since there were base blocks. -/
def Gs (w : World) (base : Nat) (v : Value) (gs : List (List (List UInt8))) : Prop :=
  ∃ vs : List Value, w.ownsRow base 58 1 v gs.length vs ∧ ∀ (i : Nat) (x : Value) (g : List (List UInt8)), vs[i]? = some x → gs[i]? = some g → w.ownsRow base 9 1 x g.length (tcW g)
theorem Gs.nil (w : World) (base : Nat) : Gs w base (.slice none 0 0) [] := ⟨[], World.ownsRow_nil _ _ _ _, fun i x g h => by simp at h⟩
theorem Gs.keepB {w w' : World} {base : Nat} {v : Value} {gs : List (List (List UInt8))} (h : Gs w base v gs) (hb : Below w.heap.size w w') : Gs w' base v gs := by
  obtain ⟨vs, h1, h2⟩ := h
  exact ⟨vs, own_keepB h1 hb, fun i x g hx hg => own_keepB (h2 i x g hx hg) hb⟩
theorem Gs.low {w : World} {base base' : Nat} {v : Value} {gs : List (List (List UInt8))} (h : Gs w base v gs) (hb : base' ≤ base) : Gs w base' v gs := by
  obtain ⟨vs, h1, h2⟩ := h
  exact ⟨vs, own_low h1 hb, fun i x g hx hg => own_low (h2 i x g hx hg) hb⟩
theorem Gs.form {w : World} {base : Nat} {v : Value} {gs : List (List (List UInt8))} (h : Gs w base v gs) : ∃ ao cap, v = .slice ao gs.length cap ∧ gs.length ≤ cap ∧ cap ≤ maxLen := by
  obtain ⟨vs, h1, -⟩ := h
  exact own_form h1
theorem grow_other {w w' : World} {base base' n m : Nat} {v x : Value} {xs ys : List Value} (h : w.ownsRow base 58 1 v n xs) (hx : w.ownsRow base' 9 1 x m ys) (hg : w.grownBy w' v.ownBlock) : w'.ownsRow base' 9 1 x m ys := by
  refine hx.kept hg ?_
  cases hb : x.ownBlock with
  | none => exact .inl rfl
  | some k =>
    refine .inr fun e => ?_
    obtain ⟨c1, e1⟩ := own_block hx hb
    obtain ⟨c2, e2⟩ := own_block h e.symm
    rw [e1] at e2
    injection e2 with e2
    injection e2 with _ e2
    exact absurd e2 (by decide)

set_option maxRecDepth 20000 in
set_option maxHeartbeats 1600000 in
theorem takeGroups_any (w : World) (v : Value) (b : List UInt8) (h : Sl w v b) (hl : b.length ≤ 1000000000) (hT : TabW w) :
    Calls Tryz.prog 78 #[v] w fun e w' => Below w.heap.size w w' ∧ ((groupsW sum4 (b.length + 1) b 0 = none ∧ e = .returned (.tuple #[.slice none 0 0, .int .i64 0, .bool false])) ∨
      ∃ gs n v', groupsW sum4 (b.length + 1) b 0 = some (gs, n) ∧ n ≤ b.length ∧ gs.length ≤ n ∧ e = .returned (.tuple #[v', .int .i64 (n : Int), .bool true]) ∧ Gs w' w.heap.size v' gs) := by
  obtain ⟨i0, hi0, hz0, hz1, hz2⟩ := info_parts Tryz.infoTs
  obtain ⟨ao, cap, rfl, c1, c2⟩ := h.form
  unfold maxLen at c2
  have H := hide h
  have HT := hide hT
  clear h hT
  generalize hR : groupsW sum4 (b.length + 1) b 0 = R
  have HR := hide hR
  clear hR
  go_enter Tryz.func78, Tryz.ntmps78
  go_wp2
  go_loopw [5, 6] (fun rv at_ wr => ∃ (acc : List (List (List UInt8))) (a : Nat), at_ = .int .i64 (a : Int) ∧ a ≤ b.length ∧ acc.length ≤ a ∧ Gs wr w.heap.size rv acc ∧ Below w.heap.size w wr ∧
      R = (groupsW sum4 (b.length + 1 - acc.length) b a).map fun x => (acc ++ x.1, x.2))
    (fun _ at_ _ => b.length - (intOf at_).toNat)
  case atStart => exact ⟨[], 0, rfl, Nat.zero_le _, Nat.le_refl _, Gs.nil _ _, Below.refl _ _, by rw [← HR.out]; simp only [List.length_nil, Nat.sub_zero, List.nil_append]; cases groupsW sum4 (b.length + 1) b 0 <;> rfl⟩
  case round =>
    obtain ⟨acc, a, rfl, ha, hac, hrow, hB, hE⟩ := hrel
    have hslw := H.out.keepB hB
    obtain ⟨f, hf⟩ : ∃ f, b.length + 1 - acc.length = f + 1 := ⟨b.length - acc.length, by omega⟩
    rw [hf] at hE
    have HRW := hide hrow
    obtain ⟨ar, cr, rfl, hr1, hr2⟩ := hrow.form
    clear hrow
    by_cases hlt : a < b.length
    · rw [groupsW_in _ _ _ _ hlt] at hE
      obtain ⟨v2, hrun2, hs2⟩ := run_from wr hslw a (by omega)
      have hgl := groupW_le sum4 (b.drop a)
      have htg := takeGroup_any wr v2 (b.drop a) hs2 (by rw [List.length_drop]; omega) (HT.out.keep hB)
      have hdl : (b.drop a).length = b.length - a := List.length_drop
      generalize groupW sum4 (b.drop a) = G at *
      obtain ⟨rs, n, ok⟩ := G
      dsimp only at hgl htg hE
      have hna : a + n ≤ b.length := by omega
      obtain ⟨a2, q2, rfl, -⟩ := hs2.form
      generalize (b.drop a).length = L2 at *
      have HE := hide hE
      clear hE hslw hs2 hdl hgl hr1 hr2
      by_cases hbad : ok = false ∨ n = 0 ∧ a = 0
      · have hE := HE.out
        unfold stepG at hE
        rw [if_pos hbad] at hE
        clear HE
        have HE := hide hE
        clear hE
        cases ok
        · clear hbad
          go_wp2_with fail
          refine htg.mono ?_
          rintro e w1 ⟨v3, rfl, -, hb1⟩
          go_wp2
          go_ret3
          exact ⟨hB.trans (hb1.mono hB.size), .inl ⟨HE.out, rfl⟩⟩
        · have hn0 : n = 0 := hbad.elim (fun e => by cases e) (fun e => e.1)
          have ha0 : a = 0 := hbad.elim (fun e => by cases e) (fun e => e.2)
          have hab : ((a : Int) == 0) = true := by simp [ha0]
          subst hn0
          clear hbad ha0
          go_wp2_with fail
          refine htg.mono ?_
          rintro e w1 ⟨v3, rfl, -, hb1⟩
          go_wp2
          go_ret3
          exact ⟨hB.trans (hb1.mono hB.size), .inl ⟨HE.out, rfl⟩⟩
      · have hE := HE.out
        unfold stepG at hE
        rw [if_neg hbad] at hE
        obtain rfl : ok = true := by cases ok; exact absurd (.inl rfl) hbad; rfl
        by_cases hn0 : n = 0
        · subst hn0
          have ha0 : a ≠ 0 := fun e => hbad (.inr ⟨rfl, e⟩)
          rw [if_pos rfl] at hE
          have HE := hide hE
          have hab : ((a : Int) == 0) = false := by simp [ha0]
          clear hE hbad
          go_wp2_with fail
          refine htg.mono ?_
          rintro e w1 ⟨v3, rfl, -, hb1⟩
          go_wp2
          go_ret3
          refine ⟨hB.trans (hb1.mono hB.size), .inr ⟨acc, a, _, ?_, ha, hac, rfl, HRW.out.keepB hb1⟩⟩
          rw [HE.out]
          simp
        · rw [if_neg hn0] at hE
          have HE := hide hE
          have hnb : ((n : Int) == 0) = false := by simp [hn0]
          clear hE hbad
          obtain ⟨vs, hvs, hvg⟩ := HRW.out
          have hvl : vs.length = acc.length := by have := hvs.1; omega
          have HVL := hide hvl
          clear hvl
          go_wp2_with fail
          refine htg.mono ?_
          rintro e w1 ⟨v3, rfl, ho3, hb1⟩
          have hvs1 := own_keepB hvs hb1
          have HO3 := hide ho3
          obtain ⟨a3, c3, rfl, -⟩ := own_form ho3
          have hB1 := hB.trans (hb1.mono hB.size)
          clear ho3
          go_wp2_with (at_builtin; refine wpList_append_own _ rfl (.tmp 34) (.tmp 36) 91 rfl w.heap.size 58 i0 (.slice none 0 0) 1 24 Tryz.underlying91 hi0 hz0 hz1 hz2 rfl (by decide) _ _ _ rfl (hvs1.alloc _) ⟨w1.heap.size, 0, none⟩ 1 1 [.slice a3 rs.length c3] rfl rfl (cell_one_new _ _ _) (by simp [Value.oneCell']) (by unfold maxLen; omega) (by omega) (by have := hB1.size; simp; omega) ?_)
          intro v2 w2 hown2 hgrow2 _
          have hb2 : Below w.heap.size w w2 := (hB1.alloc hB1.size _).grown hgrow2 (by have := hB1.size; simp; omega) (fun k hk => (hvs1.lt k hk).1)
          obtain ⟨a4, c4, rfl, -⟩ := own_form hown2
          have HO2 := hide hown2
          clear hown2 htg
          go_wp2
          go_roundw
          case rel =>
            refine ⟨acc ++ [rs], a + n, rfl, hna, by rw [List.length_append, List.length_singleton]; omega, ⟨vs ++ [.slice a3 rs.length c3], by rw [List.length_append]; exact HO2.out, ?_⟩, hb2, ?_⟩
            · intro i x g hx hg
              have hvl := HVL.out
              by_cases hi : i < vs.length
              · rw [List.getElem?_append_left hi] at hx
                rw [List.getElem?_append_left (by omega)] at hg
                exact grow_other (hvs1.alloc _) ((own_keepB (hvg i x g hx hg) hb1).alloc _) hgrow2
              · rw [List.getElem?_append_right (by omega)] at hx hg
                obtain ⟨i', hi'⟩ : ∃ i', i - vs.length = i' := ⟨_, rfl⟩
                rw [hi'] at hx
                rw [← hvl, hi'] at hg
                cases i' with
                | zero =>
                  simp at hx hg
                  subst hx hg
                  exact grow_other (hvs1.alloc _) ((own_low HO3.out hB.size).alloc _) hgrow2
                | succ i' => simp at hx
            · rw [HE.out, List.length_append, List.length_singleton, show b.length + 1 - (acc.length + 1) = f by omega]
              cases groupsW sum4 f b (a + n) with
              | none => rfl
              | some x => simp
          case measure => simp [intOf] <;> omega
    · obtain rfl : a = b.length := by omega
      rw [groupsW_end _ _ _ _ hlt] at hE
      have HE := hide hE
      clear hE hslw
      go_wp2
      go_ret3
      refine ⟨hB, .inr ⟨acc, b.length, _, ?_, ha, hac, rfl, HRW.out⟩⟩
      rw [HE.out]
      simp
end Go.Proofs.YtblniomnhpedjaaGreatDoor

/-
  What is done to a log's file: read, beginning, length, tidy, settle. Conditions: the disk stands, within bounds; the log lies beside it.
-/
namespace Go.Proofs.YtblniomnhpedjaaGreatDoor
open Go.RowKit
variable {B : Nat} {w w' : World} {F : Nat → Prop} {d l : Nat} {S : Dk} {n : Nm}

def anewB : Nm := [126, 97, 110, 101, 119]
/-- At l lies a log. -/
def LogAt (w : World) (l d : Nat) (n : Nm) (sure : Bool) (wh sz : Int) : Prop :=
  w.heap[l]? = some (.cells #[.pointer (some ⟨d, 0, none⟩), .string (strB n), .bool sure, .int .i64 wh, .int .i64 sz] 129)
theorem LogAt.keep {sure : Bool} {wh sz : Int} {X : Nat → Prop} (h : LogAt w l d n sure wh sz) (hc : Chg X w w') (hX : ¬ X l) : LogAt w' l d n sure wh sz := hc.keep h hX
theorem str_app (a b : List UInt8) : strB a ++ strB b = strB (a ++ b) := by
  apply ByteArray.ext
  simp [strB]
theorem str_anew (n : Nm) : strB n ++ (ByteArray.mk #[126, 97, 110, 101, 119]) = strB (n ++ anewB) := str_app n anewB
theorem str_room {n : Nm} (h : n.length ≤ 70) : ¬ 9223372036854775807 < (strB n).size + 5 := by
  have : (strB n).size = n.length := by simp [strB, ByteArray.size]
  omega
def tidyW (S : Dk) (n : Nm) : Dk × Int := if S.size (n ++ anewB) < 0 then (S, 0) else S.remove (n ++ anewB)
def settleW (S : Dk) (sure : Bool) : Dk × Bool × Int := if sure = true then (S, true, 0) else (S.syncDir.1, S.syncDir.2 == 0, S.syncDir.2)

theorem Stands.drew (h : Stands B w F d S) : Stands B w.drew F d S := h.keep ((Chg.refl (fun _ => False) _).drew) (fun _ _ h => h)
/-- A log, as it lies in memory. -/
structure Lw where
  n : Nm
  sure : Bool
  wh : Int
  sz : Int
variable {L : Lw}
/-- At l lies the log L over the disk S, both made since B. -/
def Lg (B : Nat) (w : World) (F : Nat → Prop) (d l : Nat) (S : Dk) (L : Lw) : Prop := Stands B w F d S ∧ LogAt w l d L.n L.sure L.wh L.sz ∧ ¬ F l ∧ B ≤ l ∧ L.n.length ≤ 70
/-- Behind a call on it. -/
def Then (B : Nat) (w : World) (F : Nat → Prop) (d l : Nat) (S : Dk) (L : Lw) (w' : World) : Prop := ∃ F', Lg B w' F' d l S L ∧ (∀ k, F' k → F k ∨ w.heap.size ≤ k) ∧ Chg (fun k => F k ∨ k = l) w w'
theorem Lg.lt (h : Lg B w F d l S L) : l < w.heap.size := lt_of_heap h.2.1
theorem Lg.size (h : Lg B w F d l S L) : B ≤ w.heap.size := by have := h.lt; have := h.2.2.2.1; omega
theorem Lg.keep {X : Nat → Prop} (h : Lg B w F d l S L) (hc : Chg X w w') (hX : ∀ k, F k → ¬ X k) (hl : ¬ X l) : Lg B w' F d l S L := ⟨h.1.keep hc hX, h.2.1.keep hc hl, h.2.2⟩
theorem Lg.drew (h : Lg B w F d l S L) : Lg B w.drew F d l S L := h.keep ((Chg.refl (fun _ => False) _).drew) (fun _ _ h => h) (fun h => h)
theorem Lg.refl (h : Lg B w F d l S L) : Then B w F d l S L w := ⟨F, h, fun _ h => .inl h, Chg.refl _ _⟩
theorem Then.drewn (h : Then B w.drew F d l S L w') : Then B w F d l S L w' := by
  obtain ⟨F', h1, h2, h3⟩ := h
  exact ⟨F', h1, h2, h3.undrew⟩
theorem Then.drew (h : Then B w F d l S L w') : Then B w F d l S L w'.drew := by
  obtain ⟨F', h1, h2, h3⟩ := h
  exact ⟨F', h1.drew, h2, h3.drew⟩
theorem Then.next {S' : Dk} {L' : Lw} {w1 w2 : World} {F1 : Nat → Prop} (h1 : Chg (fun k => F k ∨ k = l) w w1) (h2 : ∀ k, F1 k → F k ∨ w.heap.size ≤ k) (h : Then B w1 F1 d l S' L' w2) : Then B w F d l S' L' w2 := by
  obtain ⟨F', h3, h4, h5⟩ := h
  refine ⟨F', h3, fun k hk => ?_, h1.trans h5 fun i hi hn => ?_⟩
  · rcases h4 k hk with h | h
    · exact h2 k h
    · exact .inr (Nat.le_trans h1.size h)
  · rcases hn with hn | hn
    · rcases h2 i hn with h | h
      · exact .inl h
      · omega
    · exact .inr hn
theorem Lg.next {S' : Dk} {F' : Nat → Prop} (h : Lg B w F d l S L) (h1 : Stands B w' F' d S') (h2 : ∀ k, F' k → F k ∨ w.heap.size ≤ k) (h3 : Chg F w w') : Lg B w' F' d l S' L := by
  have hl := h.lt
  refine ⟨h1, h.2.1.keep h3 h.2.2.1, fun hf => ?_, h.2.2.2⟩
  rcases h2 l hf with hf | hf
  · exact h.2.2.1 hf
  · omega
theorem Lg.after {S' : Dk} (h : Lg B w F d l S L) (ha : After B w F d S' w') : Then B w F d l S' L w' := by
  obtain ⟨F', h1, h2, h3⟩ := ha
  exact ⟨F', h.next h1 h2 h3, h2, h3.mono fun _ _ h => .inl h⟩
theorem Then.below (h : Then B w F d l S L w') {S0 : Dk} {L0 : Lw} (h0 : Lg B w F d l S0 L0) : Below B w w' := by
  obtain ⟨F', h1, h2, h3⟩ := h
  refine h3.below (fun k hk => ?_) h0.size
  rcases hk with hk | rfl
  · exact (h0.1.2.1 k hk).1
  · exact h0.2.2.2.1
theorem Lg.put (h : Lg B w F d l S L) (sure : Bool) : Then B w F d l S { L with sure := sure } (w.setCell ⟨l, 2, none⟩ (.bool sure)) := by
  have hc : Chg (fun k => k = l) w (w.setCell ⟨l, 2, none⟩ (.bool sure)) := (Chg.refl (fun k => k = l) w).setCell (p := ⟨l, 2, none⟩) (.inl rfl) _
  refine ⟨F, ⟨h.1.keep hc (fun k hk e => h.2.2.1 (e ▸ hk)), heap_set h.2.1 2 (.bool sure), h.2.2⟩, fun _ h => .inl h, hc.mono fun _ _ h => .inr h⟩

set_option maxRecDepth 20000 in
set_option maxHeartbeats 800000 in
theorem tidy_lg (h : Lg B w F d l S L) (hb : S.bulk + 1 < 1099511627776) :
    Calls Tryz.prog 119 #[.pointer (some ⟨l, 0, none⟩)] w fun e w' => e = .returned (.int .i64 (tidyW S L.n).2) ∧ Then B w F d l (tidyW S L.n).1 L w' := by
  have hsz := size_lies h.1.drew (L.n ++ anewB)
  have hrm := remove_lies h.1.drew.drew h.size (L.n ++ anewB) hb
  have x0 := cell_of h.2.1 0
  have x1 := cell_of h.2.1 1
  have hsa := str_anew L.n
  have hns := str_room h.2.2.2.2
  have H := hide h
  clear h
  unfold tidyW
  by_cases hs : S.size (L.n ++ anewB) < 0
  · rw [if_pos hs]
    go_enter Tryz.func119, Tryz.ntmps119
    go_wp2
    refine wp_region_held_drew (S := fun W => W.cell? ⟨l, 0, none⟩ = some (.pointer (some ⟨d, 0, none⟩)) ∧ W.cell? ⟨l, 1, none⟩ = some (.string (strB L.n))) (by kernel_rfl) (⟨x0, x1⟩) (fun hHeld => ?_)
    refine takeH (i := 0) (v := ?_) rfl (by kernel_rfl) (by kernel_rfl) (by kernel_rfl) (fun _ _ _ h => h) rfl ?_ hHeld ?_
    rotate_left
    · intro w hS; (try dsimp only at hS); obtain ⟨hS0, hS1⟩ := hS; go_simp; first | done | (with_reducible rfl)
    try simp only [Act.put, List.setIfInBounds_toArray, List.set_cons_zero, List.set_cons_succ]
    refine takeH (i := 1) (v := ?_) rfl (by kernel_rfl) (by kernel_rfl) (by kernel_rfl) (fun _ _ _ h => h) rfl ?_ hHeld ?_
    rotate_left
    · intro w hS; (try dsimp only at hS); obtain ⟨hS0, hS1⟩ := hS; go_simp; first | done | (with_reducible rfl)
    try simp only [Act.put, List.setIfInBounds_toArray, List.set_cons_zero, List.set_cons_succ]
    refine takeH (i := 2) (v := ?_) rfl (by kernel_rfl) (by kernel_rfl) (by kernel_rfl) (fun _ _ _ h => h) rfl ?_ hHeld ?_
    rotate_left
    · intro w hS; (try dsimp only at hS); obtain ⟨hS0, hS1⟩ := hS; go_simp; first | done | (with_reducible rfl)
    try simp only [Act.put, List.setIfInBounds_toArray, List.set_cons_zero, List.set_cons_succ]
    refine takeH (i := 3) (v := ?_) rfl (by kernel_rfl) (by kernel_rfl) (by kernel_rfl) (fun _ _ _ h => h) rfl ?_ hHeld ?_
    rotate_left
    · intro w hS; (try dsimp only at hS); obtain ⟨hS0, hS1⟩ := hS; go_simp; first | done | (with_reducible rfl)
    try simp only [Act.put, List.setIfInBounds_toArray, List.set_cons_zero, List.set_cons_succ]
    refine takeH (i := 4) (v := ?_) rfl (by kernel_rfl) (by kernel_rfl) (by kernel_rfl) (fun _ _ _ h => h) rfl ?_ hHeld ?_
    rotate_left
    · intro w hS; (try dsimp only at hS); obtain ⟨hS0, hS1⟩ := hS; go_simp; first | done | (with_reducible rfl)
    try simp only [Act.put, List.setIfInBounds_toArray, List.set_cons_zero, List.set_cons_succ]
    refine takeH (i := 5) (v := ?_) rfl (by kernel_rfl) (by kernel_rfl) (by kernel_rfl) (fun _ _ _ h => h) rfl ?_ hHeld ?_
    rotate_left
    · intro w hS; (try dsimp only at hS); obtain ⟨hS0, hS1⟩ := hS; go_simp; first | done | (with_reducible rfl)
    try simp only [Act.put, List.setIfInBounds_toArray, List.set_cons_zero, List.set_cons_succ]
    refine takeH (i := 6) (v := ?_) rfl (by kernel_rfl) (by kernel_rfl) (by kernel_rfl) (fun _ _ _ h => h) rfl ?_ hHeld ?_
    rotate_left
    · intro w hS; (try dsimp only at hS); obtain ⟨hS0, hS1⟩ := hS; go_simp; first | done | (with_reducible rfl)
    try simp only [Act.put, List.setIfInBounds_toArray, List.set_cons_zero, List.set_cons_succ]
    refine takeH (i := 7) (v := ?_) rfl (by kernel_rfl) (by kernel_rfl) (by kernel_rfl) (fun _ _ _ h => h) rfl ?_ hHeld ?_
    rotate_left
    · intro w hS; (try dsimp only at hS); obtain ⟨hS0, hS1⟩ := hS; go_simp; first | done | (with_reducible rfl)
    try simp only [Act.put, List.setIfInBounds_toArray, List.set_cons_zero, List.set_cons_succ]
    refine takeH (i := 8) (v := ?_) rfl (by kernel_rfl) (by kernel_rfl) (by kernel_rfl) (fun _ _ _ h => h) rfl ?_ hHeld ?_
    rotate_left
    · intro w hS; (try dsimp only at hS); obtain ⟨hS0, hS1⟩ := hS; go_simp; first | done | (with_reducible rfl)
    try simp only [Act.put, List.setIfInBounds_toArray, List.set_cons_zero, List.set_cons_succ]
    refine onlyH (i := 9) rfl (by kernel_rfl) rfl (fun K hK => ?_)
    go_simp
    refine hsz.mono ?_
    rintro e w1 ⟨rfl, h1⟩
    rw [h1]
    clear h1
    refine hK.out _ _ (⟨x0, x1⟩) (fun hHeld => ?_)
    clear hK K
    try simp only [Act.put, List.setIfInBounds_toArray, List.set_cons_zero, List.set_cons_succ]
    refine takeH (i := 10) (v := ?_) rfl (by kernel_rfl) (by kernel_rfl) (by kernel_rfl) (fun _ _ _ h => h) rfl ?_ hHeld ?_
    rotate_left
    · intro w hS; (try dsimp only at hS); obtain ⟨hS0, hS1⟩ := hS; go_simp; first | done | (with_reducible rfl)
    try simp only [Act.put, List.setIfInBounds_toArray, List.set_cons_zero, List.set_cons_succ]
    refine wpAnyH_done (by kernel_rfl) ?_ _
    clear hHeld
    go_wp2
    go_ret
    exact ⟨rfl, H.out.drew.refl.drewn⟩
  · rw [if_neg hs]
    generalize S.remove (L.n ++ anewB) = R at *
    go_enter Tryz.func119, Tryz.ntmps119
    go_wp2
    refine wp_region_held_drew (S := fun W => W.cell? ⟨l, 0, none⟩ = some (.pointer (some ⟨d, 0, none⟩)) ∧ W.cell? ⟨l, 1, none⟩ = some (.string (strB L.n))) (by kernel_rfl) (⟨x0, x1⟩) (fun hHeld => ?_)
    refine takeH (i := 0) (v := ?_) rfl (by kernel_rfl) (by kernel_rfl) (by kernel_rfl) (fun _ _ _ h => h) rfl ?_ hHeld ?_
    rotate_left
    · intro w hS; (try dsimp only at hS); obtain ⟨hS0, hS1⟩ := hS; go_simp; first | done | (with_reducible rfl)
    try simp only [Act.put, List.setIfInBounds_toArray, List.set_cons_zero, List.set_cons_succ]
    refine takeH (i := 1) (v := ?_) rfl (by kernel_rfl) (by kernel_rfl) (by kernel_rfl) (fun _ _ _ h => h) rfl ?_ hHeld ?_
    rotate_left
    · intro w hS; (try dsimp only at hS); obtain ⟨hS0, hS1⟩ := hS; go_simp; first | done | (with_reducible rfl)
    try simp only [Act.put, List.setIfInBounds_toArray, List.set_cons_zero, List.set_cons_succ]
    refine takeH (i := 2) (v := ?_) rfl (by kernel_rfl) (by kernel_rfl) (by kernel_rfl) (fun _ _ _ h => h) rfl ?_ hHeld ?_
    rotate_left
    · intro w hS; (try dsimp only at hS); obtain ⟨hS0, hS1⟩ := hS; go_simp; first | done | (with_reducible rfl)
    try simp only [Act.put, List.setIfInBounds_toArray, List.set_cons_zero, List.set_cons_succ]
    refine takeH (i := 3) (v := ?_) rfl (by kernel_rfl) (by kernel_rfl) (by kernel_rfl) (fun _ _ _ h => h) rfl ?_ hHeld ?_
    rotate_left
    · intro w hS; (try dsimp only at hS); obtain ⟨hS0, hS1⟩ := hS; go_simp; first | done | (with_reducible rfl)
    try simp only [Act.put, List.setIfInBounds_toArray, List.set_cons_zero, List.set_cons_succ]
    refine takeH (i := 4) (v := ?_) rfl (by kernel_rfl) (by kernel_rfl) (by kernel_rfl) (fun _ _ _ h => h) rfl ?_ hHeld ?_
    rotate_left
    · intro w hS; (try dsimp only at hS); obtain ⟨hS0, hS1⟩ := hS; go_simp; first | done | (with_reducible rfl)
    try simp only [Act.put, List.setIfInBounds_toArray, List.set_cons_zero, List.set_cons_succ]
    refine takeH (i := 5) (v := ?_) rfl (by kernel_rfl) (by kernel_rfl) (by kernel_rfl) (fun _ _ _ h => h) rfl ?_ hHeld ?_
    rotate_left
    · intro w hS; (try dsimp only at hS); obtain ⟨hS0, hS1⟩ := hS; go_simp; first | done | (with_reducible rfl)
    try simp only [Act.put, List.setIfInBounds_toArray, List.set_cons_zero, List.set_cons_succ]
    refine takeH (i := 6) (v := ?_) rfl (by kernel_rfl) (by kernel_rfl) (by kernel_rfl) (fun _ _ _ h => h) rfl ?_ hHeld ?_
    rotate_left
    · intro w hS; (try dsimp only at hS); obtain ⟨hS0, hS1⟩ := hS; go_simp; first | done | (with_reducible rfl)
    try simp only [Act.put, List.setIfInBounds_toArray, List.set_cons_zero, List.set_cons_succ]
    refine takeH (i := 7) (v := ?_) rfl (by kernel_rfl) (by kernel_rfl) (by kernel_rfl) (fun _ _ _ h => h) rfl ?_ hHeld ?_
    rotate_left
    · intro w hS; (try dsimp only at hS); obtain ⟨hS0, hS1⟩ := hS; go_simp; first | done | (with_reducible rfl)
    try simp only [Act.put, List.setIfInBounds_toArray, List.set_cons_zero, List.set_cons_succ]
    refine takeH (i := 8) (v := ?_) rfl (by kernel_rfl) (by kernel_rfl) (by kernel_rfl) (fun _ _ _ h => h) rfl ?_ hHeld ?_
    rotate_left
    · intro w hS; (try dsimp only at hS); obtain ⟨hS0, hS1⟩ := hS; go_simp; first | done | (with_reducible rfl)
    try simp only [Act.put, List.setIfInBounds_toArray, List.set_cons_zero, List.set_cons_succ]
    refine onlyH (i := 9) rfl (by kernel_rfl) rfl (fun K hK => ?_)
    go_simp
    refine hsz.mono ?_
    rintro e w1 ⟨rfl, h1⟩
    rw [h1]
    clear h1
    refine hK.out _ _ (⟨x0, x1⟩) (fun hHeld => ?_)
    clear hK K
    try simp only [Act.put, List.setIfInBounds_toArray, List.set_cons_zero, List.set_cons_succ]
    refine takeH (i := 10) (v := ?_) rfl (by kernel_rfl) (by kernel_rfl) (by kernel_rfl) (fun _ _ _ h => h) rfl ?_ hHeld ?_
    rotate_left
    · intro w hS; (try dsimp only at hS); obtain ⟨hS0, hS1⟩ := hS; go_simp; first | done | (with_reducible rfl)
    try simp only [Act.put, List.setIfInBounds_toArray, List.set_cons_zero, List.set_cons_succ]
    refine wpAnyH_done (by kernel_rfl) ?_ _
    clear hHeld
    go_wp2
    refine wp_region_held_drew (S := fun W => W.cell? ⟨l, 0, none⟩ = some (.pointer (some ⟨d, 0, none⟩)) ∧ W.cell? ⟨l, 1, none⟩ = some (.string (strB L.n))) (by kernel_rfl) (⟨x0, x1⟩) (fun hHeld => ?_)
    refine takeH (i := 0) (v := ?_) rfl (by kernel_rfl) (by kernel_rfl) (by kernel_rfl) (fun _ _ _ h => h) rfl ?_ hHeld ?_
    rotate_left
    · intro w hS; (try dsimp only at hS); obtain ⟨hS0, hS1⟩ := hS; go_simp; first | done | (with_reducible rfl)
    try simp only [Act.put, List.setIfInBounds_toArray, List.set_cons_zero, List.set_cons_succ]
    refine takeH (i := 1) (v := ?_) rfl (by kernel_rfl) (by kernel_rfl) (by kernel_rfl) (fun _ _ _ h => h) rfl ?_ hHeld ?_
    rotate_left
    · intro w hS; (try dsimp only at hS); obtain ⟨hS0, hS1⟩ := hS; go_simp; first | done | (with_reducible rfl)
    try simp only [Act.put, List.setIfInBounds_toArray, List.set_cons_zero, List.set_cons_succ]
    refine takeH (i := 2) (v := ?_) rfl (by kernel_rfl) (by kernel_rfl) (by kernel_rfl) (fun _ _ _ h => h) rfl ?_ hHeld ?_
    rotate_left
    · intro w hS; (try dsimp only at hS); obtain ⟨hS0, hS1⟩ := hS; go_simp; first | done | (with_reducible rfl)
    try simp only [Act.put, List.setIfInBounds_toArray, List.set_cons_zero, List.set_cons_succ]
    refine takeH (i := 3) (v := ?_) rfl (by kernel_rfl) (by kernel_rfl) (by kernel_rfl) (fun _ _ _ h => h) rfl ?_ hHeld ?_
    rotate_left
    · intro w hS; (try dsimp only at hS); obtain ⟨hS0, hS1⟩ := hS; go_simp; first | done | (with_reducible rfl)
    try simp only [Act.put, List.setIfInBounds_toArray, List.set_cons_zero, List.set_cons_succ]
    refine takeH (i := 4) (v := ?_) rfl (by kernel_rfl) (by kernel_rfl) (by kernel_rfl) (fun _ _ _ h => h) rfl ?_ hHeld ?_
    rotate_left
    · intro w hS; (try dsimp only at hS); obtain ⟨hS0, hS1⟩ := hS; go_simp; first | done | (with_reducible rfl)
    try simp only [Act.put, List.setIfInBounds_toArray, List.set_cons_zero, List.set_cons_succ]
    refine takeH (i := 5) (v := ?_) rfl (by kernel_rfl) (by kernel_rfl) (by kernel_rfl) (fun _ _ _ h => h) rfl ?_ hHeld ?_
    rotate_left
    · intro w hS; (try dsimp only at hS); obtain ⟨hS0, hS1⟩ := hS; go_simp; first | done | (with_reducible rfl)
    try simp only [Act.put, List.setIfInBounds_toArray, List.set_cons_zero, List.set_cons_succ]
    refine takeH (i := 6) (v := ?_) rfl (by kernel_rfl) (by kernel_rfl) (by kernel_rfl) (fun _ _ _ h => h) rfl ?_ hHeld ?_
    rotate_left
    · intro w hS; (try dsimp only at hS); obtain ⟨hS0, hS1⟩ := hS; go_simp; first | done | (with_reducible rfl)
    try simp only [Act.put, List.setIfInBounds_toArray, List.set_cons_zero, List.set_cons_succ]
    refine takeH (i := 7) (v := ?_) rfl (by kernel_rfl) (by kernel_rfl) (by kernel_rfl) (fun _ _ _ h => h) rfl ?_ hHeld ?_
    rotate_left
    · intro w hS; (try dsimp only at hS); obtain ⟨hS0, hS1⟩ := hS; go_simp; first | done | (with_reducible rfl)
    try simp only [Act.put, List.setIfInBounds_toArray, List.set_cons_zero, List.set_cons_succ]
    refine takeH (i := 8) (v := ?_) rfl (by kernel_rfl) (by kernel_rfl) (by kernel_rfl) (fun _ _ _ h => h) rfl ?_ hHeld ?_
    rotate_left
    · intro w hS; (try dsimp only at hS); obtain ⟨hS0, hS1⟩ := hS; go_simp; first | done | (with_reducible rfl)
    try simp only [Act.put, List.setIfInBounds_toArray, List.set_cons_zero, List.set_cons_succ]
    refine onlyH (i := 9) rfl (by kernel_rfl) rfl (fun K hK => ?_)
    go_simp
    refine hrm.mono ?_
    rintro e w2 ⟨rfl, ha⟩
    have ht := H.out.drew.drew.after ha
    obtain ⟨F2, hg2, -⟩ := id ht
    have y0 := cell_of hg2.2.1 0
    have y1 := cell_of hg2.2.1 1
    refine hK.out _ _ (⟨y0, y1⟩) (fun hHeld => ?_)
    clear hK K
    try simp only [Act.put, List.setIfInBounds_toArray, List.set_cons_zero, List.set_cons_succ]
    refine takeH (i := 10) (v := ?_) rfl (by kernel_rfl) (by kernel_rfl) (by kernel_rfl) (fun _ _ _ h => h) rfl ?_ hHeld ?_
    rotate_left
    · intro w hS; (try dsimp only at hS); obtain ⟨hS0, hS1⟩ := hS; go_simp; first | done | (with_reducible rfl)
    try simp only [Act.put, List.setIfInBounds_toArray, List.set_cons_zero, List.set_cons_succ]
    refine wpAnyH_done (by kernel_rfl) ?_ _
    clear hHeld
    go_wp2
    go_ret
    exact ⟨rfl, ht.drewn.drewn⟩

set_option maxRecDepth 20000 in
set_option maxHeartbeats 800000 in
theorem settle_lg (h : Lg B w F d l S L) (hb : S.bulk + 1 < 1099511627776) :
    Calls Tryz.prog 123 #[.pointer (some ⟨l, 0, none⟩)] w fun e w' => e = .returned (.int .i64 (settleW S L.sure).2.2) ∧ Then B w F d l (settleW S L.sure).1 { L with sure := (settleW S L.sure).2.1 } w' := by
  have hsd := syncDir_lies h.1 h.size hb
  have x0 := cell_of h.2.1 0
  have x2 := cell_of h.2.1 2
  have H := hide h
  clear h
  unfold settleW
  cases hs : L.sure with
  | true =>
    rw [if_pos rfl]
    rw [hs] at x2
    go_enter Tryz.func123, Tryz.ntmps123
    go_wp2
    go_ret
    have := H.out.refl
    refine ⟨rfl, ?_⟩
    rw [← hs]
    exact this
  | false =>
    rw [if_neg (by decide)]
    rw [hs] at x2
    generalize S.syncDir = R at *
    obtain ⟨S1, e1⟩ := R
    dsimp only at hsd ⊢
    go_enter Tryz.func123, Tryz.ntmps123
    go_wp2_with fail
    refine hsd.mono ?_
    rintro e w1 ⟨rfl, ha⟩
    obtain ⟨F1, hg1, hf1, hc1⟩ := H.out.after ha
    have y2 := thawed hg1.2.1 2
    have y3 := cell_of hg1.2.1 2
    have hp := hg1.put (e1 == 0)
    go_wp2
    go_ret
    exact ⟨rfl, hp.next hc1 hf1⟩

set_option maxRecDepth 20000 in
set_option maxHeartbeats 800000 in
theorem length_lg (h : Lg B w F d l S L) :
    Calls Tryz.prog 88 #[.pointer (some ⟨l, 0, none⟩)] w fun e w' => e = .returned (.int .i64 (max (S.size L.n) 0)) ∧ w' = w.drew := by
  have hsz := size_lies h.1.drew L.n
  have x0 := cell_of h.2.1 0
  have x1 := cell_of h.2.1 1
  clear h
  generalize S.size L.n = z at *
  have hm : (if z < 0 then (0 : Int) else z) = max z 0 := by split <;> omega
  generalize max z 0 = m at *
  go_enter Tryz.func88, Tryz.ntmps88
  go_wp2
  refine wp_region_held_drew (S := fun W => W.cell? ⟨l, 0, none⟩ = some (.pointer (some ⟨d, 0, none⟩)) ∧ W.cell? ⟨l, 1, none⟩ = some (.string (strB L.n))) (by kernel_rfl) (⟨x0, x1⟩) (fun hHeld => ?_)
  refine takeH (i := 0) (v := ?_) rfl (by kernel_rfl) (by kernel_rfl) (by kernel_rfl) (fun _ _ _ h => h) rfl ?_ hHeld ?_
  rotate_left
  · intro w hS; (try dsimp only at hS); obtain ⟨hS0, hS1⟩ := hS; go_simp; first | done | (with_reducible rfl)
  try simp only [Act.put, List.setIfInBounds_toArray, List.set_cons_zero, List.set_cons_succ]
  refine takeH (i := 1) (v := ?_) rfl (by kernel_rfl) (by kernel_rfl) (by kernel_rfl) (fun _ _ _ h => h) rfl ?_ hHeld ?_
  rotate_left
  · intro w hS; (try dsimp only at hS); obtain ⟨hS0, hS1⟩ := hS; go_simp; first | done | (with_reducible rfl)
  try simp only [Act.put, List.setIfInBounds_toArray, List.set_cons_zero, List.set_cons_succ]
  refine takeH (i := 2) (v := ?_) rfl (by kernel_rfl) (by kernel_rfl) (by kernel_rfl) (fun _ _ _ h => h) rfl ?_ hHeld ?_
  rotate_left
  · intro w hS; (try dsimp only at hS); obtain ⟨hS0, hS1⟩ := hS; go_simp; first | done | (with_reducible rfl)
  try simp only [Act.put, List.setIfInBounds_toArray, List.set_cons_zero, List.set_cons_succ]
  refine takeH (i := 3) (v := ?_) rfl (by kernel_rfl) (by kernel_rfl) (by kernel_rfl) (fun _ _ _ h => h) rfl ?_ hHeld ?_
  rotate_left
  · intro w hS; (try dsimp only at hS); obtain ⟨hS0, hS1⟩ := hS; go_simp; first | done | (with_reducible rfl)
  try simp only [Act.put, List.setIfInBounds_toArray, List.set_cons_zero, List.set_cons_succ]
  refine takeH (i := 4) (v := ?_) rfl (by kernel_rfl) (by kernel_rfl) (by kernel_rfl) (fun _ _ _ h => h) rfl ?_ hHeld ?_
  rotate_left
  · intro w hS; (try dsimp only at hS); obtain ⟨hS0, hS1⟩ := hS; go_simp; first | done | (with_reducible rfl)
  try simp only [Act.put, List.setIfInBounds_toArray, List.set_cons_zero, List.set_cons_succ]
  refine takeH (i := 5) (v := ?_) rfl (by kernel_rfl) (by kernel_rfl) (by kernel_rfl) (fun _ _ _ h => h) rfl ?_ hHeld ?_
  rotate_left
  · intro w hS; (try dsimp only at hS); obtain ⟨hS0, hS1⟩ := hS; go_simp; first | done | (with_reducible rfl)
  try simp only [Act.put, List.setIfInBounds_toArray, List.set_cons_zero, List.set_cons_succ]
  refine takeH (i := 6) (v := ?_) rfl (by kernel_rfl) (by kernel_rfl) (by kernel_rfl) (fun _ _ _ h => h) rfl ?_ hHeld ?_
  rotate_left
  · intro w hS; (try dsimp only at hS); obtain ⟨hS0, hS1⟩ := hS; go_simp; first | done | (with_reducible rfl)
  try simp only [Act.put, List.setIfInBounds_toArray, List.set_cons_zero, List.set_cons_succ]
  refine takeH (i := 7) (v := ?_) rfl (by kernel_rfl) (by kernel_rfl) (by kernel_rfl) (fun _ _ _ h => h) rfl ?_ hHeld ?_
  rotate_left
  · intro w hS; (try dsimp only at hS); obtain ⟨hS0, hS1⟩ := hS; go_simp; first | done | (with_reducible rfl)
  try simp only [Act.put, List.setIfInBounds_toArray, List.set_cons_zero, List.set_cons_succ]
  refine onlyH (i := 8) rfl (by kernel_rfl) rfl (fun K hK => ?_)
  go_simp
  refine hsz.mono ?_
  rintro e w1 ⟨rfl, h1⟩
  rw [h1]
  clear h1
  refine hK.out _ _ (⟨x0, x1⟩) (fun hHeld => ?_)
  clear hK K
  try simp only [Act.put, List.setIfInBounds_toArray, List.set_cons_zero, List.set_cons_succ]
  refine takeH (i := 9) (v := ?_) rfl (by kernel_rfl) (by kernel_rfl) (by kernel_rfl) (fun _ _ _ h => h) rfl ?_ hHeld ?_
  rotate_left
  · intro w hS; (try dsimp only at hS); obtain ⟨hS0, hS1⟩ := hS; go_simp; first | done | (with_reducible rfl)
  try simp only [Act.put, List.setIfInBounds_toArray, List.set_cons_zero, List.set_cons_succ]
  refine takeH (i := 10) (v := ?_) rfl (by kernel_rfl) (by kernel_rfl) (by kernel_rfl) (fun _ _ _ h => h) rfl ?_ hHeld ?_
  rotate_left
  · intro w hS; (try dsimp only at hS); obtain ⟨hS0, hS1⟩ := hS; go_simp; first | done | (with_reducible rfl)
  try simp only [Act.put, List.setIfInBounds_toArray, List.set_cons_zero, List.set_cons_succ]
  refine wpAnyH_done (by kernel_rfl) ?_ _
  clear hHeld
  go_wp2
  go_ret
  exact ⟨rfl, rfl⟩
/-- What read tells. -/
def readW (S : Dk) (n : Nm) : List UInt8 × Int := if (S.read n).2 = 32 then ([], 0) else S.read n
set_option maxRecDepth 20000 in
set_option maxHeartbeats 800000 in
theorem read_lg (h : Lg B w F d l S L) (hb : S.bulk < 1099511627776) :
    Calls Tryz.prog 77 #[.pointer (some ⟨l, 0, none⟩)] w fun e w' => ∃ v F', e = .returned (.tuple #[v, .int .i64 (readW S L.n).2]) ∧ w'.ownsRow w.heap.size 5 1 v (readW S L.n).1.length (bc (readW S L.n).1) ∧
      Lg B w' F' d l S.begun L ∧ (∀ k, F' k → F k ∨ w.heap.size ≤ k) ∧ Chg F w w' ∧ ∀ k, v.ownBlock = some k → ¬ F' k := by
  have hrd := read_lies h.1.drew h.size L.n hb
  have x0 := cell_of h.2.1 0
  have x1 := cell_of h.2.1 1
  have H := hide h
  clear h
  unfold readW
  generalize S.read L.n = R at *
  obtain ⟨b, e0⟩ := R
  dsimp only at hrd ⊢
  by_cases he : e0 = 32
  · subst he
    rw [if_pos rfl]
    go_enter Tryz.func77, Tryz.ntmps77
    go_wp2
    refine wp_region_held_drew (S := fun W => W.cell? ⟨l, 0, none⟩ = some (.pointer (some ⟨d, 0, none⟩)) ∧ W.cell? ⟨l, 1, none⟩ = some (.string (strB L.n))) (by kernel_rfl) (⟨x0, x1⟩) (fun hHeld => ?_)
    refine takeH (i := 0) (v := ?_) rfl (by kernel_rfl) (by kernel_rfl) (by kernel_rfl) (fun _ _ _ h => h) rfl ?_ hHeld ?_
    rotate_left
    · intro w hS; (try dsimp only at hS); obtain ⟨hS0, hS1⟩ := hS; go_simp; first | done | (with_reducible rfl)
    try simp only [Act.put, List.setIfInBounds_toArray, List.set_cons_zero, List.set_cons_succ]
    refine takeH (i := 1) (v := ?_) rfl (by kernel_rfl) (by kernel_rfl) (by kernel_rfl) (fun _ _ _ h => h) rfl ?_ hHeld ?_
    rotate_left
    · intro w hS; (try dsimp only at hS); obtain ⟨hS0, hS1⟩ := hS; go_simp; first | done | (with_reducible rfl)
    try simp only [Act.put, List.setIfInBounds_toArray, List.set_cons_zero, List.set_cons_succ]
    refine takeH (i := 2) (v := ?_) rfl (by kernel_rfl) (by kernel_rfl) (by kernel_rfl) (fun _ _ _ h => h) rfl ?_ hHeld ?_
    rotate_left
    · intro w hS; (try dsimp only at hS); obtain ⟨hS0, hS1⟩ := hS; go_simp; first | done | (with_reducible rfl)
    try simp only [Act.put, List.setIfInBounds_toArray, List.set_cons_zero, List.set_cons_succ]
    refine takeH (i := 3) (v := ?_) rfl (by kernel_rfl) (by kernel_rfl) (by kernel_rfl) (fun _ _ _ h => h) rfl ?_ hHeld ?_
    rotate_left
    · intro w hS; (try dsimp only at hS); obtain ⟨hS0, hS1⟩ := hS; go_simp; first | done | (with_reducible rfl)
    try simp only [Act.put, List.setIfInBounds_toArray, List.set_cons_zero, List.set_cons_succ]
    refine takeH (i := 4) (v := ?_) rfl (by kernel_rfl) (by kernel_rfl) (by kernel_rfl) (fun _ _ _ h => h) rfl ?_ hHeld ?_
    rotate_left
    · intro w hS; (try dsimp only at hS); obtain ⟨hS0, hS1⟩ := hS; go_simp; first | done | (with_reducible rfl)
    try simp only [Act.put, List.setIfInBounds_toArray, List.set_cons_zero, List.set_cons_succ]
    refine takeH (i := 5) (v := ?_) rfl (by kernel_rfl) (by kernel_rfl) (by kernel_rfl) (fun _ _ _ h => h) rfl ?_ hHeld ?_
    rotate_left
    · intro w hS; (try dsimp only at hS); obtain ⟨hS0, hS1⟩ := hS; go_simp; first | done | (with_reducible rfl)
    try simp only [Act.put, List.setIfInBounds_toArray, List.set_cons_zero, List.set_cons_succ]
    refine takeH (i := 6) (v := ?_) rfl (by kernel_rfl) (by kernel_rfl) (by kernel_rfl) (fun _ _ _ h => h) rfl ?_ hHeld ?_
    rotate_left
    · intro w hS; (try dsimp only at hS); obtain ⟨hS0, hS1⟩ := hS; go_simp; first | done | (with_reducible rfl)
    try simp only [Act.put, List.setIfInBounds_toArray, List.set_cons_zero, List.set_cons_succ]
    refine takeH (i := 7) (v := ?_) rfl (by kernel_rfl) (by kernel_rfl) (by kernel_rfl) (fun _ _ _ h => h) rfl ?_ hHeld ?_
    rotate_left
    · intro w hS; (try dsimp only at hS); obtain ⟨hS0, hS1⟩ := hS; go_simp; first | done | (with_reducible rfl)
    try simp only [Act.put, List.setIfInBounds_toArray, List.set_cons_zero, List.set_cons_succ]
    refine onlyH (i := 8) rfl (by kernel_rfl) rfl (fun K hK => ?_)
    go_simp
    refine hrd.mono ?_
    rintro e w1 ⟨v, rfl, ho, F1, hs1, hf1, hc1, hv1⟩
    have hg1 := H.out.drew.next hs1 hf1 hc1
    have y0 := cell_of hg1.2.1 0
    have y1 := cell_of hg1.2.1 1
    refine hK.out _ _ (⟨y0, y1⟩) (fun hHeld => ?_)
    clear hK K
    try simp only [Act.put, List.setIfInBounds_toArray, List.set_cons_zero, List.set_cons_succ]
    refine takeH (i := 9) (v := ?_) rfl (by kernel_rfl) (by kernel_rfl) (by kernel_rfl) (fun _ _ _ h => h) rfl ?_ hHeld ?_
    rotate_left
    · intro w hS; (try dsimp only at hS); obtain ⟨hS0, hS1⟩ := hS; go_simp; first | done | (with_reducible rfl)
    try simp only [Act.put, List.setIfInBounds_toArray, List.set_cons_zero, List.set_cons_succ]
    refine takeH (i := 10) (v := ?_) rfl (by kernel_rfl) (by kernel_rfl) (by kernel_rfl) (fun _ _ _ h => h) rfl ?_ hHeld ?_
    rotate_left
    · intro w hS; (try dsimp only at hS); obtain ⟨hS0, hS1⟩ := hS; go_simp; first | done | (with_reducible rfl)
    try simp only [Act.put, List.setIfInBounds_toArray, List.set_cons_zero, List.set_cons_succ]
    refine takeH (i := 11) (v := ?_) rfl (by kernel_rfl) (by kernel_rfl) (by kernel_rfl) (fun _ _ _ h => h) rfl ?_ hHeld ?_
    rotate_left
    · intro w hS; (try dsimp only at hS); obtain ⟨hS0, hS1⟩ := hS; go_simp; first | done | (with_reducible rfl)
    try simp only [Act.put, List.setIfInBounds_toArray, List.set_cons_zero, List.set_cons_succ]
    refine takeH (i := 12) (v := ?_) rfl (by kernel_rfl) (by kernel_rfl) (by kernel_rfl) (fun _ _ _ h => h) rfl ?_ hHeld ?_
    rotate_left
    · intro w hS; (try dsimp only at hS); obtain ⟨hS0, hS1⟩ := hS; go_simp; first | done | (with_reducible rfl)
    try simp only [Act.put, List.setIfInBounds_toArray, List.set_cons_zero, List.set_cons_succ]
    refine takeH (i := 13) (v := ?_) rfl (by kernel_rfl) (by kernel_rfl) (by kernel_rfl) (fun _ _ _ h => h) rfl ?_ hHeld ?_
    rotate_left
    · intro w hS; (try dsimp only at hS); obtain ⟨hS0, hS1⟩ := hS; go_simp; first | done | (with_reducible rfl)
    try simp only [Act.put, List.setIfInBounds_toArray, List.set_cons_zero, List.set_cons_succ]
    refine wpAnyH_done (by kernel_rfl) ?_ _
    clear hHeld
    go_wp2
    go_ret2
    exact ⟨_, F1, rfl, World.ownsRow_nil _ _ _ _, hg1, hf1, hc1.undrew, fun k hk => by cases hk⟩
  · rw [if_neg he]
    go_enter Tryz.func77, Tryz.ntmps77
    go_wp2
    refine wp_region_held_drew (S := fun W => W.cell? ⟨l, 0, none⟩ = some (.pointer (some ⟨d, 0, none⟩)) ∧ W.cell? ⟨l, 1, none⟩ = some (.string (strB L.n))) (by kernel_rfl) (⟨x0, x1⟩) (fun hHeld => ?_)
    refine takeH (i := 0) (v := ?_) rfl (by kernel_rfl) (by kernel_rfl) (by kernel_rfl) (fun _ _ _ h => h) rfl ?_ hHeld ?_
    rotate_left
    · intro w hS; (try dsimp only at hS); obtain ⟨hS0, hS1⟩ := hS; go_simp; first | done | (with_reducible rfl)
    try simp only [Act.put, List.setIfInBounds_toArray, List.set_cons_zero, List.set_cons_succ]
    refine takeH (i := 1) (v := ?_) rfl (by kernel_rfl) (by kernel_rfl) (by kernel_rfl) (fun _ _ _ h => h) rfl ?_ hHeld ?_
    rotate_left
    · intro w hS; (try dsimp only at hS); obtain ⟨hS0, hS1⟩ := hS; go_simp; first | done | (with_reducible rfl)
    try simp only [Act.put, List.setIfInBounds_toArray, List.set_cons_zero, List.set_cons_succ]
    refine takeH (i := 2) (v := ?_) rfl (by kernel_rfl) (by kernel_rfl) (by kernel_rfl) (fun _ _ _ h => h) rfl ?_ hHeld ?_
    rotate_left
    · intro w hS; (try dsimp only at hS); obtain ⟨hS0, hS1⟩ := hS; go_simp; first | done | (with_reducible rfl)
    try simp only [Act.put, List.setIfInBounds_toArray, List.set_cons_zero, List.set_cons_succ]
    refine takeH (i := 3) (v := ?_) rfl (by kernel_rfl) (by kernel_rfl) (by kernel_rfl) (fun _ _ _ h => h) rfl ?_ hHeld ?_
    rotate_left
    · intro w hS; (try dsimp only at hS); obtain ⟨hS0, hS1⟩ := hS; go_simp; first | done | (with_reducible rfl)
    try simp only [Act.put, List.setIfInBounds_toArray, List.set_cons_zero, List.set_cons_succ]
    refine takeH (i := 4) (v := ?_) rfl (by kernel_rfl) (by kernel_rfl) (by kernel_rfl) (fun _ _ _ h => h) rfl ?_ hHeld ?_
    rotate_left
    · intro w hS; (try dsimp only at hS); obtain ⟨hS0, hS1⟩ := hS; go_simp; first | done | (with_reducible rfl)
    try simp only [Act.put, List.setIfInBounds_toArray, List.set_cons_zero, List.set_cons_succ]
    refine takeH (i := 5) (v := ?_) rfl (by kernel_rfl) (by kernel_rfl) (by kernel_rfl) (fun _ _ _ h => h) rfl ?_ hHeld ?_
    rotate_left
    · intro w hS; (try dsimp only at hS); obtain ⟨hS0, hS1⟩ := hS; go_simp; first | done | (with_reducible rfl)
    try simp only [Act.put, List.setIfInBounds_toArray, List.set_cons_zero, List.set_cons_succ]
    refine takeH (i := 6) (v := ?_) rfl (by kernel_rfl) (by kernel_rfl) (by kernel_rfl) (fun _ _ _ h => h) rfl ?_ hHeld ?_
    rotate_left
    · intro w hS; (try dsimp only at hS); obtain ⟨hS0, hS1⟩ := hS; go_simp; first | done | (with_reducible rfl)
    try simp only [Act.put, List.setIfInBounds_toArray, List.set_cons_zero, List.set_cons_succ]
    refine takeH (i := 7) (v := ?_) rfl (by kernel_rfl) (by kernel_rfl) (by kernel_rfl) (fun _ _ _ h => h) rfl ?_ hHeld ?_
    rotate_left
    · intro w hS; (try dsimp only at hS); obtain ⟨hS0, hS1⟩ := hS; go_simp; first | done | (with_reducible rfl)
    try simp only [Act.put, List.setIfInBounds_toArray, List.set_cons_zero, List.set_cons_succ]
    refine onlyH (i := 8) rfl (by kernel_rfl) rfl (fun K hK => ?_)
    go_simp
    refine hrd.mono ?_
    rintro e w1 ⟨v, rfl, ho, F1, hs1, hf1, hc1, hv1⟩
    have hg1 := H.out.drew.next hs1 hf1 hc1
    have y0 := cell_of hg1.2.1 0
    have y1 := cell_of hg1.2.1 1
    refine hK.out _ _ (⟨y0, y1⟩) (fun hHeld => ?_)
    clear hK K
    try simp only [Act.put, List.setIfInBounds_toArray, List.set_cons_zero, List.set_cons_succ]
    refine takeH (i := 9) (v := ?_) rfl (by kernel_rfl) (by kernel_rfl) (by kernel_rfl) (fun _ _ _ h => h) rfl ?_ hHeld ?_
    rotate_left
    · intro w hS; (try dsimp only at hS); obtain ⟨hS0, hS1⟩ := hS; go_simp; first | done | (with_reducible rfl)
    try simp only [Act.put, List.setIfInBounds_toArray, List.set_cons_zero, List.set_cons_succ]
    refine takeH (i := 10) (v := ?_) rfl (by kernel_rfl) (by kernel_rfl) (by kernel_rfl) (fun _ _ _ h => h) rfl ?_ hHeld ?_
    rotate_left
    · intro w hS; (try dsimp only at hS); obtain ⟨hS0, hS1⟩ := hS; go_simp; first | done | (with_reducible rfl)
    try simp only [Act.put, List.setIfInBounds_toArray, List.set_cons_zero, List.set_cons_succ]
    refine takeH (i := 11) (v := ?_) rfl (by kernel_rfl) (by kernel_rfl) (by kernel_rfl) (fun _ _ _ h => h) rfl ?_ hHeld ?_
    rotate_left
    · intro w hS; (try dsimp only at hS); obtain ⟨hS0, hS1⟩ := hS; go_simp; first | done | (with_reducible rfl)
    try simp only [Act.put, List.setIfInBounds_toArray, List.set_cons_zero, List.set_cons_succ]
    refine takeH (i := 12) (v := ?_) rfl (by kernel_rfl) (by kernel_rfl) (by kernel_rfl) (fun _ _ _ h => h) rfl ?_ hHeld ?_
    rotate_left
    · intro w hS; (try dsimp only at hS); obtain ⟨hS0, hS1⟩ := hS; go_simp; first | done | (with_reducible rfl)
    try simp only [Act.put, List.setIfInBounds_toArray, List.set_cons_zero, List.set_cons_succ]
    refine takeH (i := 13) (v := ?_) rfl (by kernel_rfl) (by kernel_rfl) (by kernel_rfl) (fun _ _ _ h => h) rfl ?_ hHeld ?_
    rotate_left
    · intro w hS; (try dsimp only at hS); obtain ⟨hS0, hS1⟩ := hS; go_simp; first | done | (with_reducible rfl)
    try simp only [Act.put, List.setIfInBounds_toArray, List.set_cons_zero, List.set_cons_succ]
    refine wpAnyH_done (by kernel_rfl) ?_ _
    clear hHeld
    have heb : (e0 == 32) = false := by simp [he]
    go_wp2
    go_ret2
    exact ⟨_, F1, rfl, ho, hg1, hf1, hc1.undrew, hv1⟩

set_option maxRecDepth 20000 in
set_option maxHeartbeats 800000 in
theorem beginning_lg (h : Lg B w F d l S L) (k : Int) (hk : -9223372036854775808 ≤ k ∧ k ≤ 9223372036854775807) (hb : S.bulk < 1099511627776) :
    Calls Tryz.prog 118 #[.pointer (some ⟨l, 0, none⟩), .int .i64 k] w fun e w' => ∃ v F', e = .returned (.tuple #[v, .int .i64 (S.readAt L.n 0 k).2]) ∧ w'.ownsRow w.heap.size 5 1 v (S.readAt L.n 0 k).1.length (bc (S.readAt L.n 0 k).1) ∧
      Lg B w' F' d l S.begun L ∧ (∀ k, F' k → F k ∨ w.heap.size ≤ k) ∧ Chg F w w' ∧ ∀ k, v.ownBlock = some k → ¬ F' k := by
  have hrd := readAt_lies h.1.drew h.size L.n 0 k (by omega) hk hb
  have x0 := cell_of h.2.1 0
  have x1 := cell_of h.2.1 1
  have H := hide h
  clear h
  generalize S.readAt L.n 0 k = R at *
  obtain ⟨b, e0⟩ := R
  dsimp only at hrd ⊢
  go_enter Tryz.func118, Tryz.ntmps118
  go_wp2
  refine wp_region_held_drew (S := fun W => W.cell? ⟨l, 0, none⟩ = some (.pointer (some ⟨d, 0, none⟩)) ∧ W.cell? ⟨l, 1, none⟩ = some (.string (strB L.n))) (by kernel_rfl) (⟨x0, x1⟩) (fun hHeld => ?_)
  refine takeH (i := 0) (v := ?_) rfl (by kernel_rfl) (by kernel_rfl) (by kernel_rfl) (fun _ _ _ h => h) rfl ?_ hHeld ?_
  rotate_left
  · intro w hS; (try dsimp only at hS); obtain ⟨hS0, hS1⟩ := hS; go_simp; first | done | (with_reducible rfl)
  try simp only [Act.put, List.setIfInBounds_toArray, List.set_cons_zero, List.set_cons_succ]
  refine takeH (i := 1) (v := ?_) rfl (by kernel_rfl) (by kernel_rfl) (by kernel_rfl) (fun _ _ _ h => h) rfl ?_ hHeld ?_
  rotate_left
  · intro w hS; (try dsimp only at hS); obtain ⟨hS0, hS1⟩ := hS; go_simp; first | done | (with_reducible rfl)
  try simp only [Act.put, List.setIfInBounds_toArray, List.set_cons_zero, List.set_cons_succ]
  refine takeH (i := 2) (v := ?_) rfl (by kernel_rfl) (by kernel_rfl) (by kernel_rfl) (fun _ _ _ h => h) rfl ?_ hHeld ?_
  rotate_left
  · intro w hS; (try dsimp only at hS); obtain ⟨hS0, hS1⟩ := hS; go_simp; first | done | (with_reducible rfl)
  try simp only [Act.put, List.setIfInBounds_toArray, List.set_cons_zero, List.set_cons_succ]
  refine takeH (i := 3) (v := ?_) rfl (by kernel_rfl) (by kernel_rfl) (by kernel_rfl) (fun _ _ _ h => h) rfl ?_ hHeld ?_
  rotate_left
  · intro w hS; (try dsimp only at hS); obtain ⟨hS0, hS1⟩ := hS; go_simp; first | done | (with_reducible rfl)
  try simp only [Act.put, List.setIfInBounds_toArray, List.set_cons_zero, List.set_cons_succ]
  refine takeH (i := 4) (v := ?_) rfl (by kernel_rfl) (by kernel_rfl) (by kernel_rfl) (fun _ _ _ h => h) rfl ?_ hHeld ?_
  rotate_left
  · intro w hS; (try dsimp only at hS); obtain ⟨hS0, hS1⟩ := hS; go_simp; first | done | (with_reducible rfl)
  try simp only [Act.put, List.setIfInBounds_toArray, List.set_cons_zero, List.set_cons_succ]
  refine takeH (i := 5) (v := ?_) rfl (by kernel_rfl) (by kernel_rfl) (by kernel_rfl) (fun _ _ _ h => h) rfl ?_ hHeld ?_
  rotate_left
  · intro w hS; (try dsimp only at hS); obtain ⟨hS0, hS1⟩ := hS; go_simp; first | done | (with_reducible rfl)
  try simp only [Act.put, List.setIfInBounds_toArray, List.set_cons_zero, List.set_cons_succ]
  refine takeH (i := 6) (v := ?_) rfl (by kernel_rfl) (by kernel_rfl) (by kernel_rfl) (fun _ _ _ h => h) rfl ?_ hHeld ?_
  rotate_left
  · intro w hS; (try dsimp only at hS); obtain ⟨hS0, hS1⟩ := hS; go_simp; first | done | (with_reducible rfl)
  try simp only [Act.put, List.setIfInBounds_toArray, List.set_cons_zero, List.set_cons_succ]
  refine takeH (i := 7) (v := ?_) rfl (by kernel_rfl) (by kernel_rfl) (by kernel_rfl) (fun _ _ _ h => h) rfl ?_ hHeld ?_
  rotate_left
  · intro w hS; (try dsimp only at hS); obtain ⟨hS0, hS1⟩ := hS; go_simp; first | done | (with_reducible rfl)
  try simp only [Act.put, List.setIfInBounds_toArray, List.set_cons_zero, List.set_cons_succ]
  refine takeH (i := 8) (v := ?_) rfl (by kernel_rfl) (by kernel_rfl) (by kernel_rfl) (fun _ _ _ h => h) rfl ?_ hHeld ?_
  rotate_left
  · intro w hS; (try dsimp only at hS); obtain ⟨hS0, hS1⟩ := hS; go_simp; first | done | (with_reducible rfl)
  try simp only [Act.put, List.setIfInBounds_toArray, List.set_cons_zero, List.set_cons_succ]
  refine onlyH (i := 9) rfl (by kernel_rfl) rfl (fun K hK => ?_)
  go_simp
  refine hrd.mono ?_
  rintro e w1 ⟨v, rfl, ho, F1, hs1, hf1, hc1, hv1⟩
  have hg1 := H.out.drew.next hs1 hf1 hc1
  have y0 := cell_of hg1.2.1 0
  have y1 := cell_of hg1.2.1 1
  refine hK.out _ _ (⟨y0, y1⟩) (fun hHeld => ?_)
  clear hK K
  try simp only [Act.put, List.setIfInBounds_toArray, List.set_cons_zero, List.set_cons_succ]
  refine takeH (i := 10) (v := ?_) rfl (by kernel_rfl) (by kernel_rfl) (by kernel_rfl) (fun _ _ _ h => h) rfl ?_ hHeld ?_
  rotate_left
  · intro w hS; (try dsimp only at hS); obtain ⟨hS0, hS1⟩ := hS; go_simp; first | done | (with_reducible rfl)
  try simp only [Act.put, List.setIfInBounds_toArray, List.set_cons_zero, List.set_cons_succ]
  refine takeH (i := 11) (v := ?_) rfl (by kernel_rfl) (by kernel_rfl) (by kernel_rfl) (fun _ _ _ h => h) rfl ?_ hHeld ?_
  rotate_left
  · intro w hS; (try dsimp only at hS); obtain ⟨hS0, hS1⟩ := hS; go_simp; first | done | (with_reducible rfl)
  try simp only [Act.put, List.setIfInBounds_toArray, List.set_cons_zero, List.set_cons_succ]
  refine takeH (i := 12) (v := ?_) rfl (by kernel_rfl) (by kernel_rfl) (by kernel_rfl) (fun _ _ _ h => h) rfl ?_ hHeld ?_
  rotate_left
  · intro w hS; (try dsimp only at hS); obtain ⟨hS0, hS1⟩ := hS; go_simp; first | done | (with_reducible rfl)
  try simp only [Act.put, List.setIfInBounds_toArray, List.set_cons_zero, List.set_cons_succ]
  refine takeH (i := 13) (v := ?_) rfl (by kernel_rfl) (by kernel_rfl) (by kernel_rfl) (fun _ _ _ h => h) rfl ?_ hHeld ?_
  rotate_left
  · intro w hS; (try dsimp only at hS); obtain ⟨hS0, hS1⟩ := hS; go_simp; first | done | (with_reducible rfl)
  try simp only [Act.put, List.setIfInBounds_toArray, List.set_cons_zero, List.set_cons_succ]
  refine wpAnyH_done (by kernel_rfl) ?_ _
  clear hHeld
  go_wp2
  go_ret2
  exact ⟨_, F1, rfl, ho, hg1, hf1, hc1.undrew, hv1⟩
end Go.Proofs.YtblniomnhpedjaaGreatDoor
