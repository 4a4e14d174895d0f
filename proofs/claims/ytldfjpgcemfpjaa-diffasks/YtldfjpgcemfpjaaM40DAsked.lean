/-
  Texts joined: DAsked, DWhole6, DWhole5x, DWhole7, DHas, DAsksLaw.
-/
import Derived.Test.YtldfjpgcemfpjaaM37DLists
import Derived.Test.YtldfjpgcemfpjaaM17PPlain
import Derived.Test.YtldfjpgcemfpjaaM36DShownP
import Derived.Test.YtldfjpgcemfpjaaM30DChange2
/-
  The get that notes what is asked. Conditions: what it holds lies there; not too much was asked.
-/
namespace Go.Proofs.Ytldfjpgcemfpjaa
open Go.RowKit

theorem heap_set0 {w : World} {g : Nat} {v u : Value} {t : TypeId} (h : w.heap[g]? = some (.cells #[v] t)) : (w.setCell ⟨g, 0, none⟩ u).heap[g]? = some (.cells #[u] t) := by
  rw [heap_setCell _ _ _ _ _ _ _ h]
  simp

theorem Kp.grown {a b c : World} (h : Kp a b) {v : Value} {n k B : Nat} {xs : List Value} {e : TypeId} (hown : b.ownsRow B e k v n xs) (hgr : b.grownBy c v.ownBlock) (he : ats.contains e = true) : Kp a c := fun i ob hi ho => by
  have h1 := h i ob hi ho
  refine (hgr.block i (lt_of_heap h1) fun hq => ?_).trans h1
  obtain ⟨cs, fz, h2⟩ := Lib.ownsRow_kind hown i hq.symm
  rw [h1] at h2
  injection h2 with h2
  subst h2
  have : (!(ats.contains e)) = true := ho
  rw [he] at this
  cases this
theorem Kp.set {a b : World} (h : Kp a b) {g j : Nat} {cs : Array Value} {t : TypeId} {fr : Nat × Nat} (hh : b.heap[g]? = some (.cells cs t fr)) (ht : ats.contains t = true) (u : Value) : Kp a (b.setCell ⟨g, j, none⟩ u) := fun k ob hk ho => by
  have h1 := h k ob hk ho
  refine (heap_setOther ?_).trans h1
  rintro rfl
  rw [hh] at h1
  injection h1 with h1
  subst h1
  have : (!(ats.contains t)) = true := ho
  rw [ht] at this
  cases this
set_option maxRecDepth 20000 in
theorem asked1_kp (B : Nat) (w : World) (ci cl ga : Nat) (objs : List Pair) (asked : List Bs) (id : Bs) (h : AskW B w ci cl ga objs asked) (hn : asked.length ≤ 4294967296) :
    Calls Try.prog 27 #[.string (strB id), .pointer (some ⟨ci, 0, none⟩), .pointer (some ⟨cl, 0, none⟩)] w fun e w' => e = .returned (foundV (findO objs id)) ∧ AskW B w' ci cl ga objs (asked ++ [id]) ∧ Mv B ats none w w' ∧ Kp w w' := by
  have hB := h.le
  have hgaB := h.base
  obtain ⟨vl, hl, hv⟩ := h.list
  obtain ⟨va, ha, hw⟩ := h.row
  have hi := h.ids
  obtain ⟨v', w1, hrun, hrow1, hgr, -⟩ := app_id w.drew B va asked id hw hB hn
  rw [drew_alloc] at hrun hgr
  rw [show w.drew.heap.size = w.heap.size from rfl] at hrun
  have hb0 : Below w.heap.size w (w.alloc (.cells #[.string (strB id)] 9)) := (Below.refl _ _).alloc (Nat.le_refl _) _
  have hw0 : Rw B (w.alloc (.cells #[.string (strB id)] 9)).drew 9 1 idC va asked := World.ownsRow.alloc hw _
  have hi0 := heap_past w (.cells #[.string (strB id)] 9) _ (lt_of_heap hi) |>.trans hi
  have hl0 := heap_past w (.cells #[.string (strB id)] 9) _ (lt_of_heap hl) |>.trans hl
  have ha0 := heap_past w (.cells #[.string (strB id)] 9) _ (lt_of_heap ha) |>.trans ha
  have hi1 := grow_keep hw0 hgr (show (w.alloc _).drew.heap[ci]? = _ from hi0) (by decide)
  have hl1 := grow_keep hw0 hgr (show (w.alloc _).drew.heap[cl]? = _ from hl0) (by decide)
  have ha1 := grow_keep hw0 hgr (show (w.alloc _).drew.heap[ga]? = _ from ha0) (by decide)
  have hne : ci ≠ ga := ne_type hi1 ha1 (by decide)
  have hne2 : cl ≠ ga := ne_type hl1 ha1 (by decide)
  have hm1 : Mv B ats none w w1 := ((Mv.refl B ats none w).alloc hB _).drew.grown hw0 hgr (by decide) (by simp; omega)
  have hm2 : Mv B ats none w (w1.setCell ⟨ga, 0, none⟩ v') := hm1.set ha1 (by decide) hgaB _
  have hi2 : (w1.setCell ⟨ga, 0, none⟩ v').heap[ci]? = some (.cells #[.pointer (some ⟨ga, 0, none⟩)] 36) := (heap_setOther hne).trans hi1
  have hl2 : (w1.setCell ⟨ga, 0, none⟩ v').heap[cl]? = some (.cells #[vl] 22) := (heap_setOther hne2).trans hl1
  have hv2 : Ls B (w1.setCell ⟨ga, 0, none⟩ v') 2 pairC vl objs := hv.keep hm2.b
  have hA : AskW B (w1.setCell ⟨ga, 0, none⟩ v') ci cl ga objs (asked ++ [id]) := ⟨hi2, ⟨vl, hl2, hv2⟩, ⟨v', heap_set0 ha1, own_setCell hrow1 ha1 (by decide) _⟩, hgaB⟩
  have hf := find_any (w1.setCell ⟨ga, 0, none⟩ v') vl objs id (hv2.up (Nat.le_trans hB hm2.size))
  have c0 := cell_of_row w ci 0 _ _ _ hi
  have c1 := cell_of_row w ga 0 _ _ _ ha
  have d0 := cell_of_row _ ci 0 _ _ _ hi0
  have d1 := cell_of_row _ ga 0 _ _ _ ha0
  have e0 := cell_of_row _ ci 0 _ _ _ hi1
  have g0 := cell_of_row _ ci 0 _ _ _ hi2
  have g1 := cell_of_row _ cl 0 _ _ _ hl2
  have c2 := cell_of_row w1 ga 0 _ _ _ ha1
  simp only [List.getElem?_toArray, List.getElem?_cons_zero] at c0 c1 c2 d0 d1 e0 g0 g1
  have f2 := frozen0 (j := 0) ha1
  have hko : Kp w (w1.setCell ⟨ga, 0, none⟩ v') := ((Kp.of (hb0.drew)).grown hw0 hgr (by decide)).set ha1 (by decide) _
  have HA := hide (And.intro hA (And.intro hm2 hko))
  obtain ⟨ao', m', ca', rfl⟩ := row_form hrow1
  obtain ⟨al, cap, rfl, -⟩ := hv
  obtain ⟨s, k, hfv⟩ := foundV_form (findO objs id)
  rw [hfv] at hf ⊢
  clear hko hm1 hi hl ha hw hgr hrow1 hb0 hw0 hi0 hl0 ha0 hi1 hl1 ha1 hi2 hl2 hv2 h hfv hA hm2
  go_enter Try.func27, Try.ntmps27
  go_wp2_with fail
  refine wp_region_held_drew (S := fun W => W.cell? ⟨ci, 0, none⟩ = some (.pointer (some ⟨ga, 0, none⟩))) (by kernel_rfl) (c0) (fun hHeld => ?_)
  refine takeK 0 hHeld ?_
  refine takeK 1 hHeld ?_
  refine takeK 2 hHeld ?_
  refine takeK 4 hHeld ?_
  refine twoH (i := 3) (j := 5) rfl rfl (by kernel_rfl) rfl rfl (fun K hK => ?_) (fun K hK => ?_)
  · go_simp
    refine hK.out _ _ (c0) (fun hHeld => ?_)
    clear hK K
    try simp only [Act.put, List.setIfInBounds_toArray, List.set_cons_zero, List.set_cons_succ]
    refine onlyH (i := 5) rfl (by kernel_rfl) rfl (fun K hK => ?_)
    go_simp
    refine hK.out _ _ (d0) (fun hHeld => ?_)
    clear hK K
    try simp only [Act.put, List.setIfInBounds_toArray, List.set_cons_zero, List.set_cons_succ]
    refine onlyH (i := 6) rfl (by kernel_rfl) rfl (fun K hK => ?_)
    refine wp_append_run (.tmp 9) (.tmp 11) 34 rfl rfl rfl hrun ?_
    refine hK.out _ _ (e0) (fun hHeld => ?_)
    clear hK K
    try simp only [Act.put, List.setIfInBounds_toArray, List.set_cons_zero, List.set_cons_succ]
    refine takeK 7 hHeld ?_
    refine onlyH (i := 8) rfl (by kernel_rfl) rfl (fun K hK => ?_)
    go_simp
    refine hK.out _ _ (g0) (fun hHeld => ?_)
    clear hK K
    try simp only [Act.put, List.setIfInBounds_toArray, List.set_cons_zero, List.set_cons_succ]
    refine wpAnyH_done (by kernel_rfl) ?_ _
    clear hHeld
    go_wp2_with fail
    refine hf.mono ?_
    rintro e w1 ⟨rfl, rfl⟩
    go_wp2
    go_ret2
    exact ⟨rfl, HA.out.1, HA.out.2.1, HA.out.2.2⟩
  · go_simp
    refine hK.out _ _ (d0) (fun hHeld => ?_)
    clear hK K
    try simp only [Act.put, List.setIfInBounds_toArray, List.set_cons_zero, List.set_cons_succ]
    refine onlyH (i := 3) rfl (by kernel_rfl) rfl (fun K hK => ?_)
    go_simp
    refine hK.out _ _ (d0) (fun hHeld => ?_)
    clear hK K
    try simp only [Act.put, List.setIfInBounds_toArray, List.set_cons_zero, List.set_cons_succ]
    refine onlyH (i := 6) rfl (by kernel_rfl) rfl (fun K hK => ?_)
    refine wp_append_run (.tmp 9) (.tmp 11) 34 rfl rfl rfl hrun ?_
    refine hK.out _ _ (e0) (fun hHeld => ?_)
    clear hK K
    try simp only [Act.put, List.setIfInBounds_toArray, List.set_cons_zero, List.set_cons_succ]
    refine takeK 7 hHeld ?_
    refine onlyH (i := 8) rfl (by kernel_rfl) rfl (fun K hK => ?_)
    go_simp
    refine hK.out _ _ (g0) (fun hHeld => ?_)
    clear hK K
    try simp only [Act.put, List.setIfInBounds_toArray, List.set_cons_zero, List.set_cons_succ]
    refine wpAnyH_done (by kernel_rfl) ?_ _
    clear hHeld
    go_wp2_with fail
    refine hf.mono ?_
    rintro e w1 ⟨rfl, rfl⟩
    go_wp2
    go_ret2
    exact ⟨rfl, HA.out.1, HA.out.2.1, HA.out.2.2⟩
theorem get_askedD (B ci cl ga : Nat) (objs : List Pair) (hs : ∀ o ∈ objs, o.2.length ≤ 140737488351232) :
    GetD 27 #[.pointer (some ⟨ci, 0, none⟩), .pointer (some ⟨cl, 0, none⟩)] (findO objs) B (fun W a => AskW B W ci cl ga objs a) where
  eg := enters_ownD Try.func27 (by kernel_rfl) rfl
  le W a h := h.le
  mv h hm := h.keep hm (Nat.le_refl _) (by decide) (by decide) (by decide) (by decide) (by simp)
  call W a id h hn' := (asked1_kp B W ci cl ga objs a id h hn').mono fun e w' hq => ⟨hq.1, hq.2.1, hq.2.2.1.b, hq.2.2.2⟩
  short id b h := findO_short hs id b h
set_option maxRecDepth 20000 in
theorem askedD_any (w : World) (ao : Option Addr) (m c ga : Nat) : Calls Try.prog 12 #[.slice ao m c, .pointer (some ⟨ga, 0, none⟩)] w fun e w' => e = .returned (.func (.func 27) #[] #[.pointer (some ⟨w.heap.size + 1, 0, none⟩), .pointer (some ⟨w.heap.size, 0, none⟩)]) ∧ w' = (w.alloc (.cells #[.slice ao m c] 22)).alloc (.cells #[.pointer (some ⟨ga, 0, none⟩)] 36) := by
  have hmf : ∀ (fn : Fn) (first cap : Array Value) (w : World), (Instr.makeFunc fn first cap).run Try.prog w = .ok (.func fn first cap) w := fun _ _ _ _ => rfl
  go_enter Try.func12, Try.ntmps12
  go_wp2
  go_ret
  exact ⟨rfl, rfl⟩
end Go.Proofs.Ytldfjpgcemfpjaa

/-
  Of two maps that are there whole: what is asked. Conditions: their pairs rise.
-/
namespace Go.Proofs.Ytldfjpgcemfpjaa
open Go.RowKit

section
variable {fd : Bs → Option Bs}
theorem kidsM_mem (i : Nat) (lv : Int) : ∀ (ks : List Link) (σ : Cm) (j m : Nat) (z : Bs), z ∈ (kidsM i lv ks σ).2.lev j m → z ∈ σ.lev j m ∨ (j = i ∧ ∃ q ∈ ks, z = q.2.1)
  | [], _, _, _, _, h => .inl h
  | k :: r, σ, j, m, z, h => by
    have hm : ∀ z, z ∈ (meetM σ i k lv none).2.lev j m → z ∈ σ.lev j m ∨ (j = i ∧ z = k.2.1) := fun z hz => by
      unfold meetM at hz
      split at hz
      · have hz' : z ∈ (knowM σ k lv none).lev j m := hz
        rw [knowM_lev] at hz'
        exact .inl hz'
      · have hz' : z ∈ updL (knowM σ k lv none).lev i ((knowM σ k lv none).nd k.2.1).level.toNat ((knowM σ k lv none).lev i ((knowM σ k lv none).nd k.2.1).level.toNat ++ [k.2.1]) j m := hz
        unfold updL at hz'
        rw [knowM_lev] at hz'
        split at hz'
        · rename_i hj
          rcases List.mem_append.1 hz' with h1 | h1
          · rw [hj.1, hj.2]; exact .inl h1
          · exact .inr ⟨hj.1, List.mem_singleton.1 h1⟩
        · exact .inl hz'
    rw [kidsM] at h
    split at h
    · rcases hm z h with h1 | ⟨h1, h2⟩
      · exact .inl h1
      · exact .inr ⟨h1, k, by simp, h2⟩
    · rcases kidsM_mem i lv r _ j m z h with h1 | ⟨h1, q, hq, h2⟩
      · rcases hm z h1 with h1 | ⟨h1, h2⟩
        · exact .inl h1
        · exact .inr ⟨h1, k, by simp, h2⟩
      · exact .inr ⟨h1, q, by simp [hq], h2⟩
theorem into_lev {σ : Cm} (h : Wh fd σ) {i : Nat} {x : Bs} (hx : x ∈ σ.met) {j m : Nat} {z : Bs} (hz : z ∈ (intoM fd σ i x).2.lev j m) : z ∈ σ.lev j m ∨ (j = i ∧ ∃ n, nodeAt fd x = some n ∧ ∃ q ∈ n.2.2, z = q.2.1) := by
  obtain ⟨n, hn, hnl, hlv, hbd⟩ := h.node x hx
  have hask := node_ask hn
  have hrl : (readM fd σ x).2.lev = σ.lev := by
    unfold readM
    split
    · rfl
    · split
      · rfl
      · split
        · rfl
        · rfl
  have hb : bodyOf ((readM fd σ x).2.nd x) = n := by
    rcases hbd with hb | hb
    · have hrd : readM fd σ x = (0, ⟨σ.met, updN σ.nd x (bodied (σ.nd x) n), σ.lev, σ.prs, σ.asked ++ [x]⟩) := by
        unfold readM
        rw [hb, hask]
        simp only [Option.isSome_none, Bool.false_eq_true, if_false, ne_eq, not_true]
        rw [if_neg (by rintro (h1 | h1); exact h1 hlv.symm; exact h1 hnl.symm)]
      rw [hrd]
      show bodyOf (updN σ.nd x (bodied (σ.nd x) n) x) = n
      rw [updN_same]
      rfl
    · rw [readM_have (by rw [hb]; rfl)]
      unfold bodyOf
      rw [hb]
      rfl
  unfold intoM at hz
  split at hz
  · rw [hrl] at hz
    exact .inl hz
  · unfold tellM at hz
    split at hz
    · have hz' : z ∈ (readM fd σ x).2.lev j m := hz
      rw [hrl] at hz'
      exact .inl hz'
    · rcases kidsM_mem _ _ _ _ _ _ _ hz with h1 | ⟨h1, q, hq, h2⟩
      · have h1' : z ∈ (readM fd σ x).2.lev j m := h1
        rw [hrl] at h1'
        exact .inl h1'
      · rw [hb] at hq
        exact .inr ⟨h1, n, hn, q, hq, h2⟩
theorem ids_self (l : Nat) (x : Bs) : x ∈ idsAt fd l x := by cases l <;> simp [idsAt]
theorem GoodN.lev {l m : Nat} {x : Bs} (h : GoodN fd l x) (k : GoodN fd m x) : l = m := by
  obtain ⟨n, h1, h2⟩ := h.node
  obtain ⟨n', k1, k2⟩ := k.node
  rw [h1] at k1
  injection k1 with k1
  subst k1
  omega
theorem ids_kid (hs : ∀ id b, fd id = some b → b.length ≤ 140737488355328) {x : Bs} {n : NodeM} (hn : nodeAt fd x = some n) {q : Link} (hq : q ∈ n.2.2) : ∀ (L : Nat) (root : Bs), GoodN fd L root → x ∈ idsAt fd L root → q.2.1 ∈ idsAt fd L root
  | 0, root, hg, hx => by
    obtain ⟨n', h1, h2⟩ := hg
    rw [idsAt] at hx
    obtain rfl := List.mem_singleton.1 hx
    rw [hn] at h1
    injection h1 with h1
    subst h1
    have hask := node_ask hn
    have hR : RightM n := by have := (askM_ok (fd := fd) (k := rootK x) (level := -1) hs (by rw [hask])).1; rw [hask] at this; exact this
    rw [(hR.leaf h2).1] at hq
    simp at hq
  | L + 1, root, hg, hx => by
    obtain ⟨n', h1, h2, h3⟩ := hg
    rw [idsAt_branch h1] at hx ⊢
    rcases List.mem_cons.1 hx with hx | hx
    · subst hx
      rw [hn] at h1
      injection h1 with h1
      subst h1
      exact List.mem_cons_of_mem _ (List.mem_flatMap.2 ⟨q, hq, ids_self _ _⟩)
    · obtain ⟨k, hk, hxk⟩ := List.mem_flatMap.1 hx
      exact List.mem_cons_of_mem _ (List.mem_flatMap.2 ⟨k, hk, ids_kid hs hn hq L _ (h3 k hk).2.2 hxk⟩)
theorem ids_prs {x : Bs} {l : Nat} (hx : GoodN fd l x) : ∀ (L : Nat) (root : Bs), GoodN fd L root → x ∈ idsAt fd L root → l ≤ L ∧ ∀ p ∈ prsAt fd l x, p ∈ prsAt fd L root
  | 0, root, hg, hi => by
    rw [idsAt] at hi
    obtain rfl := List.mem_singleton.1 hi
    obtain rfl := hx.lev hg
    exact ⟨Nat.le_refl _, fun _ h => h⟩
  | L + 1, root, hg, hi => by
    have hg' := hg
    obtain ⟨n, h1, h2, h3⟩ := hg'
    rw [idsAt_branch h1] at hi
    rcases List.mem_cons.1 hi with hi | hi
    · subst hi
      obtain rfl := hx.lev hg
      exact ⟨Nat.le_refl _, fun _ h => h⟩
    · obtain ⟨k, hk, hxk⟩ := List.mem_flatMap.1 hi
      obtain ⟨g1, g2⟩ := ids_prs hx L _ (h3 k hk).2.2 hxk
      exact ⟨by omega, fun p hp => by rw [prsAt_branch h1]; exact List.mem_flatMap.2 ⟨k, hk, g2 p hp⟩⟩
theorem ids_some {x : Bs} {l : Nat} (hx : GoodN fd l x) : ∀ (L : Nat) (root : Bs), GoodN fd L root → x ∈ idsAt fd L root → x ≠ root → prsAt fd l x ≠ []
  | 0, root, _, hi, hne => by
    rw [idsAt] at hi
    exact absurd (List.mem_singleton.1 hi) hne
  | L + 1, root, hg, hi, hne => by
    obtain ⟨n, h1, h2, h3⟩ := hg
    rw [idsAt_branch h1] at hi
    rcases List.mem_cons.1 hi with hi | hi
    · exact absurd hi hne
    · obtain ⟨k, hk, hxk⟩ := List.mem_flatMap.1 hi
      obtain ⟨-, g2, g3⟩ := h3 k hk
      by_cases hxe : x = k.2.1
      · subst hxe
        obtain rfl := hx.lev g3
        exact g2
      · exact ids_some hx L _ g3 hxk hxe
theorem flat_link {f : Link → List Pair} : ∀ {ks : List Link}, RisesD (ks.flatMap f) → ∀ {x y : Link} {p : Pair}, x ∈ ks → y ∈ ks → p ∈ f x → p ∈ f y → x = y ∧ RisesD (f x)
  | [], _, _, _, _, hx, _, _, _ => by simp at hx
  | k :: r, h, x, y, p, hx, hy, px, py => by
    rw [List.flatMap_cons] at h
    rcases List.mem_cons.1 hx with h1 | h1
    · rcases List.mem_cons.1 hy with h2 | h2
      · rw [h1, h2]
        exact ⟨rfl, (List.pairwise_append.1 h).1⟩
      · rw [h1] at px
        exact (h.apart px (List.mem_flatMap.2 ⟨y, h2, py⟩)).elim
    · rcases List.mem_cons.1 hy with h2 | h2
      · rw [h2] at py
        exact (h.apart py (List.mem_flatMap.2 ⟨x, h1, px⟩)).elim
      · exact flat_link ((List.pairwise_append.1 h).2.1) h1 h2 px py
theorem ids_one {x y : Bs} {l : Nat} (hx : GoodN fd l x) (hy : GoodN fd l y) {p : Pair} (px : p ∈ prsAt fd l x) (py : p ∈ prsAt fd l y) : ∀ (L : Nat) (root : Bs), GoodN fd L root → RisesD (prsAt fd L root) → x ∈ idsAt fd L root → y ∈ idsAt fd L root → x = y
  | 0, root, _, _, hi, hj => by
    rw [idsAt] at hi hj
    rw [List.mem_singleton.1 hi, List.mem_singleton.1 hj]
  | L + 1, root, hg, hr, hi, hj => by
    have hg' := hg
    obtain ⟨n, h1, h2, h3⟩ := hg'
    rw [idsAt_branch h1] at hi hj
    rw [prsAt_branch h1] at hr
    rcases List.mem_cons.1 hi with hi | hi
    · subst hi
      obtain rfl := hx.lev hg
      rcases List.mem_cons.1 hj with hj | hj
      · exact hj.symm
      · obtain ⟨k, hk, hyk⟩ := List.mem_flatMap.1 hj
        have := (ids_prs hy L _ (h3 k hk).2.2 hyk).1
        omega
    · obtain ⟨k, hk, hxk⟩ := List.mem_flatMap.1 hi
      obtain ⟨g1, g2⟩ := ids_prs hx L _ (h3 k hk).2.2 hxk
      rcases List.mem_cons.1 hj with hj | hj
      · subst hj
        have := hy.lev hg
        omega
      · obtain ⟨k', hk', hyk⟩ := List.mem_flatMap.1 hj
        obtain ⟨-, g3⟩ := ids_prs hy L _ (h3 k' hk').2.2 hyk
        obtain ⟨he, hr'⟩ := flat_link hr hk hk' (g2 p px) (g3 p py)
        subst he
        exact ids_one hx hy px py L _ (h3 k hk).2.2 hr' hxk hyk
/-- Nothing was asked for twice: what was asked is known whole. -/
def Ak (σ : Cm) : Prop := σ.asked.Nodup ∧ ∀ z ∈ σ.asked, z ∈ σ.met ∧ (σ.nd z).body.isSome = true
theorem through_asks (hs : ∀ id b, fd id = some b → b.length ≤ 140737488355328) {i l : Nat} (hi : i < 2) : ∀ (ks : List Bs) (σ : Cm), Wh fd σ → (∀ x ∈ ks, x ∈ σ.lev i l) → RisesD ((σ.prs i ++ remP fd σ i l) ++ (ownOf σ ks).flatMap (prsAt fd l)) → Ak σ →
    ∃ τ, throughM fd i ks σ = (0, τ) ∧ Gone fd i l ((ownOf σ ks).flatMap (prsAt fd l)) σ τ ∧ Ak τ ∧ (∀ z ∈ τ.asked, z ∈ σ.asked ∨ z ∈ ownOf σ ks) ∧ (∀ j m z, z ∈ τ.lev j m → z ∈ σ.lev j m ∨ (j = i ∧ ∃ y ∈ ks, ∃ n, nodeAt fd y = some n ∧ ∃ q ∈ n.2.2, z = q.2.1))
  | [], σ, h, _, _, ha => ⟨σ, rfl, Gone.refl h, ha, fun _ h => .inl h, fun _ _ _ h => .inl h⟩
  | x :: r, σ, h, hx, hr, ha => by
    rw [throughM_cons]
    unfold stepM
    cases hsh : isSh (σ.nd x) with
    | true =>
      have e : ownOf σ (x :: r) = ownOf σ r := by unfold ownOf; rw [List.filter_cons, hsh]; rfl
      rw [e] at hr ⊢
      obtain ⟨τ, h1, h2, h3, h4, h5⟩ := through_asks hs hi r σ h (fun y hy => hx y (by simp [hy])) hr ha
      refine ⟨τ, by simpa using h1, h2, h3, h4, fun j m z hz => ?_⟩
      rcases h5 j m z hz with h6 | ⟨h6, y, hy, h7⟩
      · exact .inl h6
      · exact .inr ⟨h6, y, by simp [hy], h7⟩
    | false =>
      have e : ownOf σ (x :: r) = x :: ownOf σ r := by unfold ownOf; rw [List.filter_cons, hsh]; rfl
      rw [e, List.flatMap_cons] at hr ⊢
      obtain ⟨τ1, h1, h2, hask, hbod⟩ := into_whole hs h hi (hx x (by simp)) hr
      have hxm := h.ok.lev i l x (hx x (by simp))
      have hlx : ∀ y ∈ r, y ∈ τ1.lev i l := fun y hy => by rw [h2.lev i l (.inr (by omega))]; exact hx y (by simp [hy])
      have e2 : ownOf τ1 r = ownOf σ r := by
        unfold ownOf
        refine List.filter_congr (fun y hy => ?_)
        have hm := h.ok.lev i l y (hx y (by simp [hy]))
        unfold isSh
        rw [h2.on y hm.1 hm.2]
      have hkeep : ∀ z ∈ σ.asked, z ∈ τ1.met ∧ (τ1.nd z).body.isSome = true := fun z hz => by
        obtain ⟨q1, q2⟩ := ha.2 z hz
        obtain ⟨nb, hnb⟩ := Option.isSome_iff_exists.1 q2
        exact ⟨h2.kept.met z q1, by rw [(h2.kept.nd z q1).2.2 nb hnb]; rfl⟩
      have ha1 : Ak τ1 ∧ ∀ z ∈ τ1.asked, z ∈ σ.asked ∨ z = x := by
        rcases hask with hask | ⟨hask, hnb⟩
        · unfold Ak
          rw [hask]
          exact ⟨⟨ha.1, hkeep⟩, fun _ h => .inl h⟩
        · unfold Ak
          rw [hask]
          have hno : x ∉ σ.asked := fun hin => by
            have := (ha.2 x hin).2
            rw [hnb] at this
            cases this
          refine ⟨⟨List.nodup_append.2 ⟨ha.1, by simp, fun u hu v hv => ?_⟩, fun z hz => ?_⟩, fun z hz => ?_⟩
          · rw [List.mem_singleton.1 hv]
            rintro rfl
            exact hno hu
          · rcases List.mem_append.1 hz with hz | hz
            · exact hkeep z hz
            · rw [List.mem_singleton.1 hz]
              exact ⟨h2.kept.met x hxm.1, hbod⟩
          · rcases List.mem_append.1 hz with hz | hz
            · exact .inl hz
            · exact .inr (List.mem_singleton.1 hz)
      obtain ⟨τ, h3, h4, h5, h6, h7⟩ := through_asks hs hi r τ1 h2.wh hlx (by rw [h2.pairs, e2, List.append_assoc]; exact hr) ha1.1
      rw [e2] at h4 h6
      refine ⟨τ, ?_, h2.trans h4, h5, fun z hz => ?_, fun j m z hz => ?_⟩
      · simp only [Bool.false_eq_true, if_false]
        rw [h1, if_neg (by simp)]
        exact h3
      · rcases h6 z hz with hz | hz
        · rcases ha1.2 z hz with hz | hz
          · exact .inl hz
          · exact .inr (by simp [hz])
        · exact .inr (by simp [hz])
      · rcases h7 j m z hz with h8 | ⟨h8, y, hy, h9⟩
        · have h8' : z ∈ (intoM fd σ i x).2.lev j m := by rw [h1]; exact h8
          rcases into_lev h hxm.1 h8' with h9 | ⟨h9, h10⟩
          · exact .inl h9
          · exact .inr ⟨h9, x, by simp, h10⟩
        · exact .inr ⟨h8, y, by simp [hy], h9⟩
end
end Go.Proofs.Ytldfjpgcemfpjaa

/-
  Two whole maps at their roots, with all that is known there. No condition.
-/
namespace Go.Proofs.Ytldfjpgcemfpjaa
open Go.RowKit

section
variable {fd : Bs → Option Bs}
/-- Both roots are met. -/
theorem roots_whole2 (hs : ∀ id b, fd id = some b → b.length ≤ 140737488355328) {x y : Bs} {L M : Nat} (hL : L ≤ 20) (hM : M ≤ 20) (hxy : x ≠ y) (hx : GoodN fd L x) (hy : GoodN fd M y) (hrx : RisesD (prsAt fd L x)) (hry : RisesD (prsAt fd M y)) :
    ∃ σ, rootsM fd x y = (0, σ) ∧ Dn fd (fun i => if i = 0 then prsAt fd L x else prsAt fd M y) 21 σ ∧ σ.asked = [x, y] ∧ (∀ i, σ.prs i = []) ∧ (σ.nd x).body.isSome = true ∧ (σ.nd y).body.isSome = true ∧ σ.met = [x, y] ∧ (∀ i k, σ.lev i k = if i = 1 ∧ k = M then [y] else if i = 0 ∧ k = L then [x] else []) := by
  have hyx : y ≠ x := fun h => hxy h.symm
  obtain ⟨n, hn, hnl⟩ := hx.node
  obtain ⟨m, hm, hml⟩ := hy.node
  have hax := node_ask hn
  have hay := node_ask hm
  obtain ⟨σa, a0, a1, a2, a3, a4, a5, a6⟩ := meetM_fresh (σ := askedM cm0 x) (i := 0) (k := linkM x n) (l := L) (body := some n) (by simp [askedM, cm0])
  have hba : beginM fd cm0 0 x = (0, σa) := by
    unfold beginM
    rw [hax, if_neg (by simp), hnl]
    exact a0
  have ha1 : σa.met = [x] := a1
  obtain ⟨σb, b0, b1, b2, b3, b4, b5, b6⟩ := meetM_fresh (σ := askedM σa y) (i := 1) (k := linkM y m) (l := M) (body := some m) (by
    show y ∉ σa.met
    rw [ha1]
    simpa using hyx)
  have hbb : beginM fd σa 1 y = (0, σb) := by
    unfold beginM
    rw [hay, if_neg (by simp), hml]
    exact b0
  have hroots : rootsM fd x y = (0, σb) := by
    unfold rootsM
    rw [hba, if_neg (by simp)]
    exact hbb
  have hmet : σb.met = [x, y] := by
    rw [b1]
    show σa.met ++ [y] = _
    rw [ha1]
    rfl
  have hlev : ∀ i k, σb.lev i k = if i = 1 ∧ k = M then [y] else if i = 0 ∧ k = L then [x] else [] := fun i k => by
    rw [b4]
    show updL σa.lev 1 M (σa.lev 1 M ++ [y]) i k = _
    rw [a4]
    unfold updL
    by_cases h1 : i = 1 ∧ k = M
    · simp [h1, askedM, cm0]
    · rw [if_neg h1, if_neg h1]
      by_cases h2 : i = 0 ∧ k = L
      · simp [h2, askedM, cm0, linkM]
      · rw [if_neg h2, if_neg h2]; rfl
  have hndx : σb.nd x = setOn ⟨linkM x n, L, (false, false), some n⟩ 0 := by
    rw [b3 x hxy]
    exact a2
  have hndy : σb.nd y = setOn ⟨linkM y m, M, (false, false), some m⟩ 1 := b2
  have hprs : ∀ i, σb.prs i = [] := fun i => by
    rw [b5]
    show σa.prs i = []
    rw [a5]
    rfl
  have hask : σb.asked = [x, y] := by
    rw [b6]
    show σa.asked ++ [y] = _
    rw [a6]
    rfl
  have hok : Okm σb := (rootsM_bnd hs hroots).ok
  have hWh : Wh fd σb := by
    refine ⟨hok, fun id hid => ?_, fun i l id hid => ?_, fun i hi id hid => ?_⟩
    · rw [hmet] at hid
      rcases List.mem_cons.1 hid with rfl | hid
      · rw [hndx]
        exact ⟨n, hn, rfl, hnl.symm, .inr rfl⟩
      · obtain rfl := List.mem_singleton.1 hid
        rw [hndy]
        exact ⟨m, hm, rfl, hml.symm, .inr rfl⟩
    · rw [hlev] at hid
      split at hid
      · rename_i h1
        obtain rfl := List.mem_singleton.1 hid
        rw [h1.2]; exact hy
      · split at hid
        · rename_i h1
          obtain rfl := List.mem_singleton.1 hid
          rw [h1.2]; exact hx
        · simp at hid
    · rw [hmet] at hid
      rcases List.mem_cons.1 hid with rfl | hid
      · rw [hndx, hlev]
        rcases (show i = 0 ∨ i = 1 by omega) with rfl | rfl
        · simp [onAt, setOn]
        · by_cases h1 : L = M
          · simp [onAt, setOn, h1, hxy]
          · simp [onAt, setOn, h1]
      · obtain rfl := List.mem_singleton.1 hid
        rw [hndy, hlev]
        rcases (show i = 0 ∨ i = 1 by omega) with rfl | rfl
        · by_cases h1 : M = L
          · simp [onAt, setOn, h1, hyx]
          · simp [onAt, setOn, h1]
        · simp [onAt, setOn]
  have f0 : frP fd σb 0 21 = prsAt fd L x := by
    unfold frP
    rw [hprs, remP_one (L := L) (x := x) (fun m => by rw [hlev]; simp), if_pos (by omega)]
    rfl
  have f1 : frP fd σb 1 21 = prsAt fd M y := by
    unfold frP
    rw [hprs, remP_one (L := M) (x := y) (fun m => by rw [hlev]; simp), if_pos (by omega)]
    rfl
  have f : ∀ i, i < 2 → frP fd σb i 21 = if i = 0 then prsAt fd L x else prsAt fd M y := fun i hi => by
    rcases (show i = 0 ∨ i = 1 by omega) with rfl | rfl
    · rw [f0]; rfl
    · rw [f1]; rfl
  refine ⟨σb, hroots, ⟨hWh, fun i hi => ?_, fun i hi => ?_, fun i j hi hj hij p hp hn => ?_⟩, hask, hprs, by rw [hndx]; rfl, by rw [hndy]; rfl, hmet, hlev⟩
  · show RisesD (if i = 0 then prsAt fd L x else prsAt fd M y)
    split
    · exact hrx
    · exact hry
  · rw [f i hi]
    exact List.Sublist.refl _
  · rw [f i hi] at hn
    exact absurd hp hn
end
end Go.Proofs.Ytldfjpgcemfpjaa

/-
  Of two maps that are there whole: nothing is asked for twice, and but for the roots nothing that both have. Conditions: their pairs rise.
-/
namespace Go.Proofs.Ytldfjpgcemfpjaa
open Go.RowKit

section
variable {fd : Bs → Option Bs} {Rt : Nat → Bs} {Lv : Nat → Nat}
/-- A root, or what one map alone has. -/
def OneOf (fd : Bs → Option Bs) (Rt : Nat → Bs) (Lv : Nat → Nat) (x : Bs) : Prop :=
  (∃ i, i < 2 ∧ x = Rt i) ∨ ∃ i j, i < 2 ∧ j < 2 ∧ i ≠ j ∧ x ∈ idsAt fd (Lv i) (Rt i) ∧ x ∉ idsAt fd (Lv j) (Rt j)
structure Dk (fd : Bs → Option Bs) (Rt : Nat → Bs) (Lv : Nat → Nat) (l : Nat) (σ : Cm) : Prop where
  dn : Dn fd (fun i => prsAt fd (Lv i) (Rt i)) l σ
  good : ∀ i, i < 2 → GoodN fd (Lv i) (Rt i)
  low : ∀ j m, j < 2 → m + 1 < l → m ≠ Lv j → σ.lev j m = []
  none : l ≠ 0 → ∀ j, j < 2 → σ.prs j = []
  ids : ∀ j m, j < 2 → ∀ x ∈ σ.lev j m, x ∈ idsAt fd (Lv j) (Rt j)
  ak : Ak σ
  one : ∀ x ∈ σ.asked, OneOf fd Rt Lv x
theorem askOneD {l : Nat} {σ : Cm} (h : Dk fd Rt Lv (l + 1) σ) {i : Nat} (hi : i < 2) {z : Bs} (hz : z ∈ ownOf σ (σ.lev i l)) : OneOf fd Rt Lv z := by
  obtain ⟨hz1, hz2⟩ := List.mem_filter.1 hz
  have hsh : isSh (σ.nd z) = false := by simpa using hz2
  have hin := h.ids i l hi z hz1
  have hg := h.dn.wh.good i l z hz1
  by_cases hr : z = Rt i
  · exact .inl ⟨i, hi, hr⟩
  obtain ⟨p, hp⟩ := List.exists_mem_of_ne_nil _ (ids_some hg _ _ (h.good i hi) hin hr)
  obtain ⟨j, hj, hij⟩ : ∃ j, j < 2 ∧ i ≠ j := ⟨1 - i, by omega, by omega⟩
  refine .inr ⟨i, j, hi, hj, hij, hin, fun hjn => ?_⟩
  obtain ⟨hle, hsub⟩ := ids_prs hg _ _ (h.good j hj) hjn
  have hpi : p ∈ frP fd σ i (l + 1) := by
    rw [frP_next]
    exact List.mem_append_right _ (List.mem_flatMap.2 ⟨z, hz1, hp⟩)
  have hpj : p ∈ frP fd σ j (l + 1) := by
    by_cases hpj : p ∈ frP fd σ j (l + 1)
    · exact hpj
    · exact absurd hpi (h.dn.com j i hj hi (fun e => hij e.symm) p (hsub p hp) hpj).2
  have hrem : ∀ n, n ≤ l → remP fd σ j n = [] := fun n hn => by
    induction n with
    | zero => rfl
    | succ n ih => rw [remP, ih (by omega), h.low j n hj (by omega) (by omega)]; rfl
  have hpf : p ∈ (σ.lev j l).flatMap (prsAt fd l) := by
    have := hpj
    rw [frP_next] at this
    unfold frP at this
    rw [h.none (by omega) j hj, hrem l (Nat.le_refl _)] at this
    simpa using this
  obtain ⟨y, hy, hpy⟩ := List.mem_flatMap.1 hpf
  have hzy : z = y := ids_one hg (h.dn.wh.good j l y hy) hp hpy _ _ (h.good j hj) (h.dn.rise j hj) hjn (h.ids j l hj y hy)
  subst hzy
  -- both have it
  obtain ⟨hm, hl⟩ := h.dn.wh.ok.lev i l z hz1
  have hon : ∀ q, q < 2 → z ∈ σ.lev q l → onAt (σ.nd z) q = true := fun q hq hzq => (h.dn.wh.on q hq z hm).2 (by rw [hl]; simpa using hzq)
  have hall : ∀ q, q < 2 → onAt (σ.nd z) q = true := fun q hq => by
    rcases (show q = i ∨ q = j by omega) with rfl | rfl
    · exact hon _ hq hz1
    · exact hon _ hq hy
  have h0 : (σ.nd z).on.1 = true := hall 0 (by omega)
  have h1 : (σ.nd z).on.2 = true := hall 1 (by omega)
  unfold isSh at hsh
  rw [h0, h1] at hsh
  cases hsh
theorem both_asks (hs : ∀ id b, fd id = some b → b.length ≤ 140737488355328) {l : Nat} {σ : Cm} (h : Dk fd Rt Lv (l + 1) σ) : ∃ τ, bothM fd l σ = (0, τ) ∧ Dk fd Rt Lv l τ := by
  have hrise : ∀ i, i < 2 → RisesD (frP fd σ i (l + 1)) := fun i hi => List.Pairwise.sublist (h.dn.sub i hi) (h.dn.rise i hi)
  obtain ⟨τ0, c1, c2⟩ := both_whole hs h.dn
  obtain ⟨τ1, a1, a2, a3, a4, a5⟩ := through_asks hs (i := 0) (l := l) (by omega) (σ.lev 0 l) σ h.dn.wh (fun _ hx => hx) (List.Pairwise.sublist own_sub (hrise 0 (by omega))) h.ak
  have l1 : ∀ m, τ1.lev 1 m = σ.lev 1 m := fun m => a2.lev 1 m (.inl (by omega))
  have p1 : τ1.prs 1 = σ.prs 1 := a2.other 1 (by omega)
  have f1 : ∀ m, frP fd τ1 1 m = frP fd σ 1 m := fun m => by
    unfold frP
    rw [p1, remP_same (fun q _ => l1 q)]
  have o1 : ownOf τ1 (σ.lev 1 l) = ownOf σ (σ.lev 1 l) := by
    unfold ownOf
    refine List.filter_congr (fun y hy => ?_)
    have hm := h.dn.wh.ok.lev 1 l y hy
    unfold isSh
    rw [a2.on y hm.1 hm.2]
  obtain ⟨τ, b1, b2, b3, b4, b5⟩ := through_asks hs (i := 1) (l := l) (by omega) (τ1.lev 1 l) τ1 a2.wh (fun _ hx => hx) (by
    rw [l1, o1]
    have := List.Pairwise.sublist own_sub (hrise 1 (by omega))
    rw [← f1 l] at this
    exact this) a3
  rw [l1] at b4 b5
  rw [o1] at b4
  have hbo : bothM fd l σ = (0, τ) := by
    unfold bothM
    rw [a1, if_neg (by simp)]
    exact b1
  rw [hbo] at c1
  injection c1 with _ c1
  subst c1
  have kid : ∀ j, j < 2 → ∀ y ∈ σ.lev j l, ∀ n, nodeAt fd y = some n → ∀ q ∈ n.2.2, q.2.1 ∈ idsAt fd (Lv j) (Rt j) := fun j hj y hy n hn q hq => ids_kid hs hn hq _ _ (h.good j hj) (h.ids j l hj y hy)
  refine ⟨τ, hbo, c2, h.good, fun j m hj hm hne => ?_, fun h0 j hj => ?_, fun j m hj x hx => ?_, b3, fun x hx => ?_⟩
  · rw [b2.lev j m (.inr (by omega)), a2.lev j m (.inr (by omega))]
    exact h.low j m hj (by omega) hne
  · rcases (show j = 0 ∨ j = 1 by omega) with rfl | rfl
    · rw [b2.other 0 (by omega)]
      exact a2.none h0 (h.none (by omega) 0 hj)
    · exact b2.none h0 (by rw [p1]; exact h.none (by omega) 1 hj)
  · rcases b5 j m x hx with hx | ⟨rfl, y, hy, n, hn, q, hq, rfl⟩
    · rcases a5 j m x hx with hx | ⟨rfl, y, hy, n, hn, q, hq, rfl⟩
      · exact h.ids j m hj x hx
      · exact kid 0 hj y hy n hn q hq
    · exact kid 1 hj y hy n hn q hq
  · rcases b4 x hx with hx | hx
    · rcases a4 x hx with hx | hx
      · exact h.one x hx
      · exact askOneD h (by omega) hx
    · exact askOneD h (by omega) hx
theorem down_asks (hs : ∀ id b, fd id = some b → b.length ≤ 140737488355328) : ∀ (l : Nat) (σ : Cm), Dk fd Rt Lv l σ → ∃ τ, downM fd l σ = (0, τ) ∧ Dk fd Rt Lv 0 τ
  | 0, σ, h => ⟨σ, rfl, h⟩
  | l + 1, σ, h => by
    obtain ⟨τ1, a1, a2⟩ := both_asks hs h
    obtain ⟨τ, b1, b2⟩ := down_asks hs l τ1 a2
    refine ⟨τ, ?_, b2⟩
    rw [downM, a1, if_neg (by simp)]
    exact b1
theorem maps_asks (hs : ∀ id b, fd id = some b → b.length ≤ 140737488355328) {x y : Bs} {L M : Nat} (hL : L ≤ 20) (hM : M ≤ 20) (hxy : x ≠ y) (hx : GoodN fd L x) (hy : GoodN fd M y) (hrx : RisesD (prsAt fd L x)) (hry : RisesD (prsAt fd M y)) :
    (mapsM fd x y).2.2.Nodup ∧ ∀ z ∈ (mapsM fd x y).2.2, z = x ∨ z = y ∨ ((z ∈ idsAt fd L x ∧ z ∉ idsAt fd M y) ∨ (z ∉ idsAt fd L x ∧ z ∈ idsAt fd M y)) := by
  obtain ⟨σ, h1, h2, h3, h4, h5, h6, h7, h8⟩ := roots_whole2 hs hL hM hxy hx hy hrx hry
  have hA : (fun i => if i = 0 then prsAt fd L x else prsAt fd M y) = fun i => prsAt fd (if i = 0 then L else M) (if i = 0 then x else y) := by
    funext i
    split <;> rfl
  rw [hA] at h2
  have hk : Dk fd (fun i => if i = 0 then x else y) (fun i => if i = 0 then L else M) 21 σ := by
    refine ⟨h2, fun i hi => ?_, fun j m hj hm hne => ?_, fun _ j _ => h4 j, fun j m hj z hz => ?_, ⟨?_, fun z hz => ?_⟩, fun z hz => ?_⟩
    · rcases (show i = 0 ∨ i = 1 by omega) with rfl | rfl
      · exact hx
      · exact hy
    · rw [h8 j m]
      rcases (show j = 0 ∨ j = 1 by omega) with rfl | rfl
      · simp at hne
        simp [hne]
      · simp at hne
        simp [hne]
    · rw [h8 j m] at hz
      rcases (show j = 0 ∨ j = 1 by omega) with rfl | rfl
      · by_cases hm : m = L
        · simp [hm] at hz
          rw [hz]
          exact ids_self _ _
        · simp [hm] at hz
      · by_cases hm : m = M
        · simp [hm] at hz
          rw [hz]
          exact ids_self _ _
        · simp [hm] at hz
    · rw [h3]
      simp [hxy]
    · rw [h3] at hz
      rw [h7]
      rcases List.mem_cons.1 hz with rfl | hz
      · exact ⟨by simp, h5⟩
      · obtain rfl := List.mem_singleton.1 hz
        exact ⟨by simp, h6⟩
    · rw [h3] at hz
      rcases List.mem_cons.1 hz with rfl | hz
      · exact .inl ⟨0, by omega, rfl⟩
      · obtain rfl := List.mem_singleton.1 hz
        exact .inl ⟨1, by omega, rfl⟩
  obtain ⟨τ, g1, g2⟩ := down_asks hs 21 σ hk
  have hg : goDownM fd x y = (0, τ) := by
    unfold goDownM
    rw [h1, if_neg (by simp)]
    exact g1
  have he : (mapsM fd x y).2.2 = τ.asked := by
    unfold mapsM
    rw [if_neg hxy, hg, if_neg (by simp)]
  rw [he]
  refine ⟨g2.ak.1, fun z hz => ?_⟩
  rcases g2.one z hz with ⟨i, hi, hzi⟩ | ⟨i, j, hi, hj, hij, k1, k2⟩
  · rcases (show i = 0 ∨ i = 1 by omega) with rfl | rfl
    · exact .inl hzi
    · exact .inr (.inl hzi)
  · rcases (show i = 0 ∨ i = 1 by omega) with rfl | rfl
    · obtain rfl : j = 1 := by omega
      exact .inr (.inr (.inl ⟨k1, k2⟩))
    · obtain rfl : j = 0 := by omega
      exact .inr (.inr (.inr ⟨k2, k1⟩))
theorem mapsM_asks (hs : ∀ id b, fd id = some b → b.length ≤ 140737488355328) {a b : Bs} (ha : (listM fd a [] []).bad = 0) (hb : (listM fd b [] []).bad = 0) (hra : rise ltB ((listM fd a [] []).out.map (·.1)) = true) (hrb : rise ltB ((listM fd b [] []).out.map (·.1)) = true) :
    (mapsM fd a b).2.2.Nodup ∧ ∀ z ∈ (mapsM fd a b).2.2, z = a ∨ z = b ∨ ((z ∈ (listM fd a [] []).asked ∧ z ∉ (listM fd b [] []).asked) ∨ (z ∉ (listM fd a [] []).asked ∧ z ∈ (listM fd b [] []).asked)) := by
  by_cases hab : a = b
  · subst hab
    have : (mapsM fd a a).2.2 = [] := by unfold mapsM; rw [if_pos rfl]
    rw [this]
    exact ⟨List.nodup_nil, fun z hz => by simp at hz⟩
  · obtain ⟨L, hL, gL, oL, iL⟩ := listM_whole hs ha
    obtain ⟨M, hM, gM, oM, iM⟩ := listM_whole hs hb
    rw [iL, iM]
    rw [oL] at hra
    rw [oM] at hrb
    exact maps_asks hs hL hM hab gL gM (rise_rises _ hra) (rise_rises _ hrb)
end
end Go.Proofs.Ytldfjpgcemfpjaa

/-
  Does a list have a text? Conditions: the list lies there.
-/
namespace Go.Proofs.Ytldfjpgcemfpjaa
open Go.RowKit

set_option maxRecDepth 20000 in
theorem hasD_any (w : World) (xs : List Bs) (s : Bs) (v : Value) (hv : Ls w.heap.size w 1 idC v xs) :
    Calls Try.prog 14 #[v, .string (strB s)] w fun e w' => e = .returned (.bool (decide (s ∈ xs))) ∧ w' = w := by
  obtain ⟨ax, capx, rfl, h1, h2, h4⟩ := hv
  unfold maxLen at h2
  have hx := toL s
  go_enter Try.func14, Try.ntmps14
  go_wp2_with fail
  go_loopw [5] (fun t wr => ∃ k : Nat, k ≤ xs.length ∧ t = .int .i64 k ∧ (∀ o ∈ xs.take k, o ≠ s) ∧ wr = w)
    (fun t _ => xs.length - (intOf t).toNat)
  case atStart => exact ⟨0, by omega, rfl, by simp, rfl⟩
  case round =>
    obtain ⟨k, hk, rfl, hno, rfl⟩ := hrel
    by_cases hlt : k < xs.length
    · obtain ⟨b, off, rfl, hbB, hc⟩ := h4 (by rintro rfl; simp at hlt)
      have c0 := hc k hlt 0 _ rfl
      simp only [Nat.add_zero, Nat.mul_one] at c0
      have hy := toL xs[k]
      by_cases he : xs[k] = s
      · have hbe : (xs[k] == s) = true := by simpa using he
        have HF := hide (show decide (s ∈ xs) = true from decide_eq_true (he ▸ List.getElem_mem hlt))
        clear hno he
        generalize xs[k] = y at *
        go_wp2
        go_ret
        exact ⟨by rw [HF.out]; rfl, rfl⟩
      · have hbe : (xs[k] == s) = false := by simpa using he
        have hno2 : ∀ o ∈ xs.take (k + 1), o ≠ s := by
          rw [List.take_succ_eq_append_getElem hlt]
          intro o ho
          rcases List.mem_append.1 ho with ho | ho
          · exact hno o ho
          · simp only [List.mem_singleton] at ho; subst ho; exact he
        generalize xs[k] = y at *
        go_wp2
        go_roundw
        case rel => exact ⟨k + 1, by omega, by go_num, hno2, trivial⟩
        case measure => simp [intOf]; omega
    · obtain rfl : k = xs.length := by omega
      rw [List.take_length] at hno
      have HF := hide (show decide (s ∈ xs) = false from decide_eq_false (fun h => hno s h rfl))
      clear hno
      go_wp2
      go_ret
      exact ⟨by rw [HF.out]; rfl, rfl⟩
set_option maxRecDepth 20000 in
theorem nodesD_any (w : World) (vo : Value) (objs : List Pair) (hv : Ls w.heap.size w 2 pairC vo objs) (hob : ∀ o ∈ objs, o.2.length ≤ 140737488351232) (a : Bs) :
    Calls Try.prog 13 #[vo, .string (strB a)] w fun e w' => ∃ v, e = .returned v ∧ Rw w.heap.size w' 9 1 idC v (listM (findO objs) a [] []).asked ∧ Below w.heap.size w w' := by
  have hl := list12_any w vo objs hv hob a [] []
  rw [show strB ([] : Bs) = ⟨#[]⟩ from rfl] at hl
  obtain ⟨ao, cap, hvv, -⟩ := hv
  obtain ⟨mo, hmo⟩ : ∃ mo, mo = objs.length := ⟨_, rfl⟩
  rw [← hmo] at hvv
  subst hvv
  clear hmo hob
  generalize listM (findO objs) a [] [] = A at *
  go_enter Try.func13, Try.ntmps13
  go_wp2_with fail
  refine hl.mono ?_
  rintro e w1 ⟨vp, va, rfl, hp1, ha1, hb1⟩
  have H1 := hide (And.intro ha1 hb1)
  obtain ⟨q1, q2, q3, rfl⟩ := row_form hp1
  obtain ⟨r1, r2, r3, rfl⟩ := row_form ha1
  clear hl hp1 ha1 hb1
  generalize A.bad = ab at *
  go_wp2
  go_ret
  exact ⟨_, rfl, H1.out⟩
end Go.Proofs.Ytldfjpgcemfpjaa

/-
  DiffAsks, walked. Conditions: the objects lie there.
-/
namespace Go.Proofs.Ytldfjpgcemfpjaa
open Go.RowKit

theorem mapsM_asks_whole {fd : Bs → Option Bs} (hs : ∀ id b, fd id = some b → b.length ≤ 140737488355328) {a b : Bs} (h : wholeB fd a b = true) : (mapsM fd a b).1 = 0 ∧ (mapsM fd a b).2.2.Nodup ∧ ∀ z ∈ (mapsM fd a b).2.2, z = a ∨ z = b ∨ ((z ∈ (listM fd a [] []).asked ∧ z ∉ (listM fd b [] []).asked) ∨ (z ∉ (listM fd a [] []).asked ∧ z ∈ (listM fd b [] []).asked)) := by
  unfold wholeB at h
  simp only [Bool.and_eq_true, beq_iff_eq] at h
  obtain ⟨⟨⟨h1, h2⟩, h3⟩, h4⟩ := h
  have e1 : outOf (listM fd a [] []) = (listM fd a [] []).out := if_pos h1
  have e2 : outOf (listM fd b [] []) = (listM fd b [] []).out := if_pos h2
  rw [e1] at h3
  rw [e2] at h4
  exact ⟨(mapsM_whole hs h1 h2 h3 h4).1, mapsM_asks hs h1 h2 h3 h4⟩
theorem Ls.first {B : Nat} {w : World} {ao : Option Addr} {m c : Nat} {xs : List Bs} (h : Ls B w 1 idC (.slice ao m c) xs) (k : Nat) (hk : k ≤ xs.length) : Ls B w 1 idC (.slice ao k c) (xs.take k) := by
  obtain ⟨a', c', hv, h1, h2, h3⟩ := h
  injection hv with e1 e2 e3
  subst e1
  subst e3
  have hl : (xs.take k).length = k := by rw [List.length_take]; omega
  refine ⟨ao, c, by rw [hl], by omega, h2, fun hne => ?_⟩
  obtain ⟨bx, off, g1, g2, g3⟩ := h3 (by rintro rfl; simp at hne)
  refine ⟨bx, off, g1, g2, fun j hj i u hu => g3 j (by omega) i u ?_⟩
  rw [List.getElem_take] at hu
  exact hu
set_option maxRecDepth 40000 in
set_option maxHeartbeats 1200000 in
theorem diffAsks_any (w : World) (vo : Value) (objs : List Pair) (hv : Ls w.heap.size w 2 pairC vo objs) (hob : ∀ o ∈ objs, o.2.length ≤ 140737488351232) (a b : Bs) :
    Calls Try.prog 4 #[vo, .string (strB a), .string (strB b)] w fun e w' => e = .returned (.bool true) ∧ Below w.heap.size w w' := by
  have hvf := hv
  obtain ⟨ao, cap, hvv, -⟩ := hvf
  obtain ⟨m, hm⟩ : ∃ m, m = objs.length := ⟨_, rfl⟩
  rw [← hm] at hvv
  subst hvv
  clear hm
  have HV := hide (And.intro hv hob)
  have hsh := dshown_any w
  have hsO : ∀ id b, findO objs id = some b → b.length ≤ 140737488355328 := fun id b h => findO_short hob id b h
  have hM := hide (fun h : wholeB (findO objs) a b = true => mapsM_asks_whole hsO h)
  clear hv hob hsO
  go_enter Try.func4, Try.ntmps4
  go_wp2_with fail
  refine hsh.mono ?_
  rintro e w0 ⟨rfl, hb0⟩
  have hrm := rmaps_any w0 _ objs ((HV.out.1.keep hb0).up hb0.size) HV.out.2 a b
  have H0 := hide hb0
  clear hsh hb0
  generalize chgs (outOf (listM (findO objs) a [] [])) (outOf (listM (findO objs) b [] [])) = C at *
  generalize wholeB (findO objs) a b = wh at *
  go_wp2_with fail
  refine hrm.mono ?_
  rintro e w1 ⟨v1, rfl, -, hb1'⟩
  have hb1 := H0.out.trans (hb1'.mono H0.out.size)
  clear hrm hb1'
  cases wh with
  | false =>
    have H1 := hide hb1
    clear hb1
    go_wp2
    go_ret
    exact ⟨rfl, H1.out⟩
  | true =>
    obtain ⟨M1, M2, M3⟩ := hM.out rfl
    clear hM
    have hb2 : Below w1.heap.size w1 (w1.alloc (.cells #[.slice none 0 0] 34)) := (Below.refl _ _).alloc (Nat.le_refl _) _
    have hg2 := heap_last w1 (.cells #[.slice none 0 0] 34) _ rfl
    have hB2 := hb1.trans (hb2.mono hb1.size)
    have hs1 : w.heap.size ≤ w1.heap.size := hb1.size
    generalize hw2 : w1.alloc (.cells #[.slice none 0 0] 34) = w2 at *
    have hak := askedD_any w2 ao m cap w1.heap.size
    have hb3 : Below w2.heap.size w2 ((w2.alloc (.cells #[.slice ao m cap] 22)).alloc (.cells #[.pointer (some ⟨w1.heap.size, 0, none⟩)] 36)) := ((Below.refl _ _).alloc (Nat.le_refl _) _).alloc (by simp) _
    have hg3 := (hb3.block _ (lt_of_heap hg2)).trans hg2
    have hB3 := hB2.trans (hb3.mono hB2.size)
    have hA3 : AskW w.heap.size ((w2.alloc (.cells #[.slice ao m cap] 22)).alloc (.cells #[.pointer (some ⟨w1.heap.size, 0, none⟩)] 36)) (w2.heap.size + 1) w2.heap.size w1.heap.size objs [] :=
      ⟨heap_last (w2.alloc (.cells #[.slice ao m cap] 22)) _ _ (by simp), ⟨_, (heap_past (w2.alloc (.cells #[.slice ao m cap] 22)) _ _ (by simp)).trans (heap_last w2 _ _ rfl), HV.out.1.keep hB3⟩, ⟨_, hg3, World.ownsRow_nil _ _ _ _⟩, hs1⟩
    have hG := get_askedD w.heap.size (w2.heap.size + 1) w2.heap.size w1.heap.size objs HV.out.2
    have hmp := maps_any hG hB3.size a b hA3 (fun σ hσ => room_all hG.short hσ) (fun σ hσ => by
      have hbn := goDownM_bnd hG.short hσ
      have h1 := hbn.wt 0
      have h2 := hbn.wt 1
      omega)
    have H3 := hide hB3
    clear hb1 hb2 hg2 hB2 hb3 hg3 hB3 hA3 hG
    generalize mapsM (findO objs) a b = MM at *
    obtain ⟨me, ml, mk⟩ := MM
    simp only at hmp M1 M2 M3
    subst M1
    have HM := hide (And.intro M2 M3)
    clear M2 M3
    go_wp2_with fail
    refine hak.mono ?_
    rintro e w3 ⟨rfl, rfl⟩
    go_wp2_with fail
    refine hmp.mono ?_
    rintro e w4 ⟨⟨v4, rfl, hr4⟩, hA4, hb4⟩
    obtain ⟨-, -, ⟨vk, hk4, hkr⟩, -⟩ := hA4 trivial
    have hB4 := H3.out.trans hb4
    have hn1 := nodesD_any w4 _ objs ((HV.out.1.keep hB4).up hB4.size) HV.out.2 a
    have H4 := hide (And.intro hk4 (And.intro hkr hB4))
    obtain ⟨ra, rm, rc, rfl⟩ := row_form hr4
    clear hmp hak hr4 hb4 hA4 hk4 hkr hB4
    go_wp2_with fail
    refine hn1.mono ?_
    rintro e w5 ⟨v5, rfl, hr5, hb5⟩
    have hB5 := H4.out.2.2.trans (hb5.mono H4.out.2.2.size)
    have hn2 := nodesD_any w5 _ objs ((HV.out.1.keep hB5).up hB5.size) HV.out.2 b
    have H5 := hide (And.intro hr5 (And.intro hb5 hB5))
    obtain ⟨sa, sm, sc, rfl⟩ := row_form hr5
    clear hn1 hr5 hb5 hB5
    go_wp2_with fail
    refine hn2.mono ?_
    rintro e w6 ⟨v6, rfl, hr6, hb6⟩
    have hb46 : Below w4.heap.size w4 w6 := H5.out.2.1.trans (hb6.mono H5.out.2.1.size)
    have hB6 := H4.out.2.2.trans (hb46.mono H4.out.2.2.size)
    have hk6 := (hb46.block _ (lt_of_heap H4.out.1)).trans H4.out.1
    have hkr6 : Rw _ w6 9 1 idC vk mk := own_below H4.out.2.1 hb46
    have hl6 := ls_of_own (cs := idC) (xs := mk) (k := 1) (fun _ => rfl) hkr6
    have hla := ls_of_own (cs := idC) (k := 1) (fun _ => rfl) (own_below H5.out.1 hb6)
    have hlb := ls_of_own (cs := idC) (k := 1) (fun _ => rfl) hr6
    obtain ⟨ta, tm, tc, rfl⟩ := row_form hr6
    obtain ⟨ka, kc, rfl, g1, g2, g3⟩ := hl6
    have hlk : Ls w6.heap.size w6 1 idC (.slice ka mk.length kc) mk := ⟨ka, kc, rfl, g1, g2, g3⟩
    unfold maxLen at g2
    have k0 := cell_of_row w6 w1.heap.size 0 _ _ _ hk6
    simp only [List.getElem?_toArray, List.getElem?_cons_zero] at k0
    have hlt1 := lt_of_heap hk6
    have H6 := hide (And.intro hla (And.intro hlb (And.intro hlk hB6)))
    clear hn2 hr6 hb6 hb46 hB6 hk6 hkr6 hla hlb hlk
    go_wp2_with fail
    have hfin : ∀ k (h : k < mk.length), decide (mk[k] ∈ mk.take k) = false ∧ (((mk[k] == a) || (mk[k] == b)) = true ∨ decide (mk[k] ∈ (listM (findO objs) a [] []).asked) = !decide (mk[k] ∈ (listM (findO objs) b [] []).asked)) := fun k h => by
      refine ⟨decide_eq_false (fun hin => ?_), ?_⟩
      · obtain ⟨j, hj, he⟩ := List.mem_iff_getElem.1 hin
        rw [List.length_take] at hj
        rw [List.getElem_take] at he
        have := (List.getElem_inj HM.out.1).1 he
        omega
      · rcases HM.out.2 _ (List.getElem_mem h) with h1 | h1 | ⟨h1, h2⟩ | ⟨h1, h2⟩
        · exact .inl (by simp [h1])
        · exact .inl (by simp [h1])
        · exact .inr (by rw [decide_eq_true h1, decide_eq_false h2]; rfl)
        · exact .inr (by rw [decide_eq_false h1, decide_eq_true h2]; rfl)
    have HF := hide hfin
    clear hfin
    generalize (listM (findO objs) a [] []).asked = la at *
    generalize (listM (findO objs) b [] []).asked = lb at *
    have hxa := toL a
    have hxb := toL b
    go_loopw [13] (fun t wr => ∃ k : Nat, k ≤ mk.length ∧ t = .int .i64 k ∧ Below w6.heap.size w6 wr)
      (fun t _ => mk.length - (intOf t).toNat)
    case atStart => exact ⟨0, by omega, rfl, Below.refl _ _⟩
    case round =>
      obtain ⟨k, hk, rfl, hbr⟩ := hrel
      have k0r := (hbr.cell (p := ⟨w1.heap.size, 0, none⟩) hlt1).trans k0
      by_cases hlt : k < mk.length
      · obtain ⟨bx, off, rfl, hbB, hc⟩ := g3 (by rintro rfl; simp at hlt)
        have c0 := (hbr.cell (p := ⟨bx, off + k * 1 + 0, none⟩) hbB).trans (hc k hlt 0 _ rfl)
        simp only [Nat.add_zero, Nat.mul_one] at c0
        obtain ⟨F1, F2⟩ := HF.out k hlt
        have hh1 := hasD_any wr la mk[k] _ ((H6.out.1.keep hbr).up hbr.size)
        have hh2 := hasD_any wr lb mk[k] _ ((H6.out.2.1.keep hbr).up hbr.size)
        have hh3 := hasD_any wr.drew (mk.take k) mk[k] _ (show Ls wr.drew.heap.size wr.drew 1 idC _ _ from (((H6.out.2.2.1.first k hk).keep hbr.drew).up hbr.drew.size))
        rw [F1] at hh3
        generalize decide (mk[k] ∈ la) = d1 at *
        generalize decide (mk[k] ∈ lb) = d2 at *
        have hy := toL mk[k]
        generalize mk[k] = y at *
        obtain ⟨ea, hea⟩ : ∃ ea, (y == a) = ea := ⟨_, rfl⟩
        obtain ⟨eb, heb⟩ : ∃ eb, (y == b) = eb := ⟨_, rfl⟩
        rw [hea, heb] at F2
        have HB := hide hbr
        have HF2 := hide F2
        have hkc : k ≤ kc := by omega
        clear hc hbr F1 F2
        go_wp2_with fail
        refine hh1.mono ?_
        rintro e W1 ⟨rfl, rfl⟩
        go_wp2_with fail
        refine hh2.mono ?_
        rintro e W2 ⟨rfl, rfl⟩
        go_wp2_with fail
        refine wp_region_held_drew (S := fun W => W.cell? ⟨w1.heap.size, 0, none⟩ = some (.slice (some ⟨bx, off, none⟩) mk.length kc) ∧ W.cell? ⟨bx, off + k, none⟩ = some (.string (strB y))) (by kernel_rfl) (⟨k0r, c0⟩) (fun hHeld => ?_)
        refine takeK 0 hHeld ?_
        refine takeK 1 hHeld ?_
        refine takeK 2 hHeld ?_
        refine takeK 3 hHeld ?_
        refine takeK 4 hHeld ?_
        refine takeK 5 hHeld ?_
        refine takeK 6 hHeld ?_
        refine onlyH (i := 7) rfl (by kernel_rfl) rfl (fun K hK => ?_)
        go_simp
        refine hh3.mono ?_
        rintro e W3 ⟨rfl, rfl⟩
        refine hK.out _ _ (⟨k0r, c0⟩) (fun hHeld => ?_)
        clear hK K
        try simp only [Act.put, List.setIfInBounds_toArray, List.set_cons_zero, List.set_cons_succ]
        refine takeK 8 hHeld ?_
        refine wpAnyH_done (by kernel_rfl) ?_ _
        clear hHeld
        have k0d : W2.drew.cell? ⟨w1.heap.size, 0, none⟩ = some (.slice (some ⟨bx, off, none⟩) mk.length kc) := k0r
        have c0d : W2.drew.cell? ⟨bx, off + k, none⟩ = some (.string (strB y)) := c0
        have HB2 := hide HB.out.drew
        clear hh1 hh2 hh3 k0r c0 HB
        generalize W2.drew = wd at *
        have hgo : ∀ r1 r2 q1 q2 : Bool, ((r1 || r2) = true ∨ q1 = !q2) → r1 = ea → r2 = eb → q1 = d1 → q2 = d2 → (ea = true ∨ (ea = false ∧ eb = true) ∨ (ea = false ∧ eb = false ∧ d1 = !d2)) := by
          intro r1 r2 q1 q2 h e1 e2 e3 e4
          subst e1 e2 e3 e4
          revert h
          cases r1 <;> cases r2 <;> simp
        rcases hgo ea eb d1 d2 HF2.out rfl rfl rfl rfl with rfl | ⟨rfl, rfl⟩ | ⟨rfl, rfl, rfl⟩
        · clear hgo HF2
          cases d1 <;> cases d2
          all_goals
            go_wp2
            go_roundw
            case rel => exact ⟨k + 1, by omega, by go_num, HB2.out⟩
            case measure => simp [intOf]; omega
        · clear hgo HF2
          cases d1 <;> cases d2
          all_goals
            go_wp2
            go_roundw
            case rel => exact ⟨k + 1, by omega, by go_num, HB2.out⟩
            case measure => simp [intOf]; omega
        · clear hgo HF2
          cases d2
          all_goals
            go_wp2
            go_roundw
            case rel => exact ⟨k + 1, by omega, by go_num, HB2.out⟩
            case measure => simp [intOf]; omega
      · obtain rfl : k = mk.length := by omega
        have HB := hide hbr
        clear hbr g3
        go_wp2
        go_ret
        exact ⟨rfl, H6.out.2.2.2.trans (HB.out.mono H6.out.2.2.2.size)⟩
end Go.Proofs.Ytldfjpgcemfpjaa
