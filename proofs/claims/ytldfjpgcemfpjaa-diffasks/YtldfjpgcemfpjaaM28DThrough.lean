/-
  Texts joined: DThrough, DBegin, DDown, DRoom.
-/
import Derived.Test.YtldfjpgcemfpjaaM27DAdd
/-
  Going through a level. Conditions: the get keeps its word; the comparing lies there; not too much.
-/
namespace Go.Proofs.Ytldfjpgcemfpjaa
open Go.RowKit

/-- There is room. -/
def Roomy (i : Nat) (σ : Cm) : Prop := σ.asked.length ≤ 4294967296 ∧ (∀ l, l < 21 → (σ.lev i l).length + 64 ≤ 4294967296) ∧ (σ.prs i).length + 64 ≤ 4294967296
section
variable {B : Nat} {w : World} {c mb g : Nat} {caps : Array Value} {fd : Bs → Option Bs} {I : World → List Bs → Prop} {S : Gh} {σ : Cm}
set_option maxRecDepth 40000 in
set_option maxHeartbeats 3200000 in
theorem through_any (hG : GetD g caps fd B I) (h : CmW B w c mb (.func (.func g) #[] caps) S σ) (ho : Okm σ) {i : Nat} (hi : i < 2) {l : Nat} (hl : l < 21) (hI : I w σ.asked) (hbd : ∀ k σk, throughM fd i ((σ.lev i l).take k) σ = (0, σk) → Roomy i σk) :
    Calls Try.prog 34 #[.pointer (some ⟨c, 0, none⟩), .int .i64 i, .int .i64 l] w fun e w' => e = .returned (.int .i64 (throughM fd i (σ.lev i l) σ).1) ∧ ((throughM fd i (σ.lev i l) σ).1 = 0 → I w' (throughM fd i (σ.lev i l) σ).2.asked ∧ ∃ S', CmW B w' c mb (.func (.func g) #[] caps) S' (throughM fd i (σ.lev i l) σ).2) ∧ Below B w w' := by
  have hK44 : 22 * i + l < 44 := by omega
  obtain ⟨r0, -⟩ := h.rowAt hK44
  rw [show 2 + (22 * i + l) = 2 + i * 22 + l by omega] at r0
  have hrow := h.levs i hi l hl
  obtain ⟨ks, hks⟩ : ∃ ks, ks = σ.lev i l := ⟨_, rfl⟩
  rw [← hks] at hbd hrow ⊢
  obtain ⟨R, hR⟩ : ∃ R, R = throughM fd i ks σ := ⟨_, rfl⟩
  rw [← hR]
  have hmem : ∀ x ∈ ks, x ∈ σ.met ∧ (σ.nd x).level = l := fun x hx => ho.lev i l x (by rw [← hks]; exact hx)
  have hlen : ks.length + 64 ≤ 4294967296 := by
    have := (hbd 0 σ (by simp [throughM])).2.1 l hl
    rw [← hks] at this
    exact this
  have hii : (i : Int) < 2 := by omega
  have hll : (l : Int) < 21 := by omega
  obtain ⟨ra, rc, hrv, hr1⟩ := own_form hrow
  rw [List.length_map] at hrv hr1
  rw [hrv] at r0
  have HH := hide (And.intro hG (And.intro h (And.intro ho (And.intro hI (And.intro hbd (And.intro hmem (And.intro hks (And.intro hR hrv))))))))
  clear hG h ho hI hbd hmem hks hR hrv hrow
  go_enter Try.func34, Try.ntmps34
  go_wp2_with fail
  go_loopw [20] (fun t wr => ∃ k : Nat, k ≤ ks.length ∧ t = .int .i64 k ∧ ∃ σk Sk, throughM fd i (ks.take k) σ = (0, σk) ∧ CmW B wr c mb (.func (.func g) #[] caps) Sk σk ∧ I wr σk.asked ∧ Below B w wr ∧ Sk.rv (22 * i + l) = S.rv (22 * i + l) ∧ ∀ x ∈ σ.met, Sk.ad x = S.ad x)
    (fun t _ => ks.length - (intOf t).toNat)
  case atStart => exact ⟨0, by omega, rfl, σ, S, by simp [throughM], HH.out.2.1, HH.out.2.2.2.1, Below.refl _ _, rfl, fun _ _ => rfl⟩
  case round =>
    obtain ⟨k, hkk, rfl, σk, Sk, hkm, hCk, hIk, hbk, hrvk, hadk⟩ := hrel
    obtain ⟨hG, h, ho, hI, hbd, hmem, hks, hR, hrv⟩ := HH.out
    obtain ⟨hok, hkept, hlevk⟩ := throughM_ok hG.short (ks.take k) σ σk ho (fun x hx => hmem x (List.mem_of_mem_take hx)) hkm
    by_cases hlt : k < ks.length
    · have hsn := throughM_take i ks σ σk k hlt hkm
      have hrow := hCk.levs i hi l hl
      rw [hlevk i, ← hks, hrvk, hrv] at hrow
      obtain ⟨ra2, rc2, he2, -, -, k4⟩ := ls_of_own (cs := ptC) (k := 1) (fun _ => rfl) hrow
      injection he2 with he2 he4 he3
      clear he4
      subst he2 he3
      obtain ⟨b, off, rfl, hbB, hc⟩ := k4 (by intro hx; have := congrArg List.length hx; simp at this; rw [this] at hlt; simp at hlt)
      have d0 := hc k (by simpa using hlt) 0 _ rfl
      simp only [Nat.add_zero, Nat.mul_one, List.getElem_map] at d0
      obtain ⟨hx1, hx2⟩ := hmem ks[k] (List.getElem_mem _)
      rw [hadk _ hx1] at d0
      generalize ks[k] = x at *
      have hxk := hkept.met x hx1
      obtain ⟨bpk, hblk, -, -⟩ := hCk.nodes x hxk
      rw [hadk x hx1] at hblk
      have hsh := isShared_any wr (S.ad x) _ _ hblk
      obtain ⟨rm1, rm2, rm3⟩ := hbd k σk hkm
      have hgo := into_any hG hCk hok hi hxk hIk rm1 rm2 rm3
      rw [hadk x hx1, (hkept.nd x hx1).2.1, hx2] at hgo
      rw [show ((l : Int)).toNat = l by simp] at hgo
      have hst : stepM fd i σk x = if isSh (σk.nd x) then (0, σk) else intoM fd σk i x := rfl
      rw [hst] at hsn
      have HK := hide (And.intro hkm (And.intro hsn (And.intro hCk (And.intro hIk (And.intro hbk (And.intro hrvk (And.intro hadk hkept)))))))
      clear hkm hsn hCk hIk hbk hrvk hadk hkept hst hc k4 hblk hG h ho hI hbd hmem hks hR hrv hok hlevk hrow rm1 rm2 rm3 hx1 hx2 hxk
      cases hs : isSh (σk.nd x) with
      | true =>
        rw [hs] at hsh
        have HS := hide hs
        clear hs hgo
        go_wp2_with fail
        refine hsh.mono ?_
        rintro e w5 ⟨rfl, rfl⟩
        go_wp2
        go_roundw
        case rel => exact ⟨k + 1, by omega, by go_num, σk, Sk, by rw [HK.out.2.1, HS.out]; rfl, HK.out.2.2.1, HK.out.2.2.2.1, HK.out.2.2.2.2.1, HK.out.2.2.2.2.2.1, HK.out.2.2.2.2.2.2.1⟩
        case measure => simp [intOf]; omega
      | false =>
        rw [hs] at hsh
        have HS := hide hs
        clear hs
        by_cases hr : (intoM fd σk i x).1 = 0
        · have hrb : ((intoM fd σk i x).1 != 0) = false := by simpa using hr
          have HR := hide hr
          clear hr
          go_wp2_with fail
          refine hsh.mono ?_
          rintro e w5 ⟨rfl, rfl⟩
          go_wp2_with fail
          refine hgo.mono ?_
          rintro e w6 ⟨rfl, hq, hb6⟩
          obtain ⟨hI6, S6, hC6, hrv6, had6⟩ := hq HR.out
          have H6 := hide (And.intro hI6 (And.intro hC6 (And.intro hrv6 (And.intro had6 hb6))))
          clear hq hI6 hC6 hrv6 had6 hb6 hgo hsh
          go_wp2
          go_roundw
          case rel =>
            refine ⟨k + 1, by omega, by go_num, (intoM fd σk i x).2, S6, ?_, H6.out.2.1, H6.out.1, HK.out.2.2.2.2.1.trans H6.out.2.2.2.2, H6.out.2.2.1.trans HK.out.2.2.2.2.2.1, fun y hy => (H6.out.2.2.2.1 y (HK.out.2.2.2.2.2.2.2.met y hy)).trans (HK.out.2.2.2.2.2.2.1 y hy)⟩
            rw [HK.out.2.1, HS.out, ← HR.out]
            rfl
          case measure => simp [intOf]; omega
        · have hrb : ((intoM fd σk i x).1 != 0) = true := by simpa using hr
          have HR := hide hr
          clear hr
          have hfin : R = intoM fd σk i x := by
            have h1 : throughM fd i (ks.take (k + 1)) σ = intoM fd σk i x := by rw [HK.out.2.1, HS.out]; rfl
            rw [HH.out.2.2.2.2.2.2.2.1, throughM_stop i ks σ (k + 1) (by rw [h1]; exact HR.out), h1]
          have HF := hide hfin
          clear hfin
          go_wp2_with fail
          refine hsh.mono ?_
          rintro e w5 ⟨rfl, rfl⟩
          go_wp2_with fail
          refine hgo.mono ?_
          rintro e w6 ⟨rfl, -, hb6⟩
          have H6 := hide hb6
          clear hb6 hgo hsh
          go_wp2
          all_goals
            go_ret
            rw [HF.out]
            exact ⟨rfl, fun hx => absurd hx HR.out, HK.out.2.2.2.2.1.trans H6.out⟩
    · obtain rfl : k = ks.length := by omega
      rw [List.take_length] at hkm
      have HK := hide (And.intro (hR.trans hkm) (And.intro hCk (And.intro hIk hbk)))
      clear hkm hCk hIk hbk hrvk hadk hkept hok hlevk hG h ho hI hbd hmem hks hR hrv
      go_wp2
      all_goals
        go_ret
        rw [HK.out.1]
        exact ⟨rfl, fun _ => ⟨HK.out.2.2.1, Sk, HK.out.2.1⟩, HK.out.2.2.2⟩
end
end Go.Proofs.Ytldfjpgcemfpjaa

/-
  A root is asked for, and met. Conditions: the get keeps its word; the comparing lies there; not too much.
-/
namespace Go.Proofs.Ytldfjpgcemfpjaa
open Go.RowKit

section
variable {B : Nat} {w : World} {c mb g : Nat} {caps : Array Value} {fd : Bs → Option Bs} {I : World → List Bs → Prop} {S : Gh} {σ : Cm}
theorem beginM_ok (ho : Okm σ) (hs : ∀ id b, fd id = some b → b.length ≤ 140737488355328) {i : Nat} {root : Bs} : Okm (beginM fd σ i root).2 := by
  unfold beginM
  split
  · exact ho.asks root
  · rename_i h
    have hR := (askM_ok (fd := fd) (k := rootK root) (level := -1) hs (by simpa using h)).1
    generalize (askM fd (rootK root) (-1)).2 = n at *
    obtain ⟨l, hl⟩ : ∃ l : Nat, n.1 = (l : Int) := ⟨n.1.toNat, by have := hR.lo; omega⟩
    rw [hl]
    exact (ho.asks root).meet (by have := hR.hi; omega) (fun m hm => by injection hm with hm; subst hm; exact ⟨hR, hl, rfl⟩)
set_option maxRecDepth 40000 in
set_option maxHeartbeats 3200000 in
theorem begin_any (hG : GetD g caps fd B I) (h : CmW B w c mb (.func (.func g) #[] caps) S σ) (ho : Okm σ) {i : Nat} (hi : i < 2) (root : Bs) (hI : I w σ.asked) (hn : σ.asked.length ≤ 4294967296) (hb : ∀ l, l < 21 → (σ.lev i l).length ≤ 4294967296) :
    Calls Try.prog 33 #[.pointer (some ⟨c, 0, none⟩), .int .i64 i, .string (strB root)] w fun e w' => e = .returned (.int .i64 (beginM fd σ i root).1) ∧ ((beginM fd σ i root).1 = 0 → I w' (beginM fd σ i root).2.asked ∧ ∃ S', CmW B w' c mb (.func (.func g) #[] caps) S' (beginM fd σ i root).2) ∧ Below B w w' := by
  have hask := dask_any hG h root hI hn
  have hok := fun h0 => (askM_ok (fd := fd) (k := rootK root) (level := -1) hG.short h0).1
  unfold beginM
  generalize askM fd (rootK root) (-1) = A at *
  obtain ⟨r, n⟩ := A
  unfold askSaid at hask
  simp only at hask hok ⊢
  have HH := hide (And.intro hG (And.intro h (And.intro ho hI)))
  have hB := h.le
  clear hG h ho hI
  by_cases h0 : r = 0
  rotate_left
  · rw [if_pos h0]
    simp only [if_neg h0] at hask
    have hrb : (r != 0) = true := by simpa using h0
    have H0 := hide h0
    clear h0 hok
    go_enter Try.func33, Try.ntmps33
    go_wp2_with fail
    refine hask.mono ?_
    rintro e w1 ⟨rfl, -, hb1, -⟩
    have H1 := hide hb1
    clear hb1 hask
    go_wp2
    go_ret
    exact ⟨rfl, fun hx => absurd hx H0.out, H1.out⟩
  · subst h0
    rw [if_neg (by simp)]
    simp only [if_true] at hask
    have hR := hok rfl
    obtain ⟨l, hl⟩ : ∃ l : Nat, n.1 = (l : Int) := ⟨n.1.toNat, by have := hR.lo; omega⟩
    have hl20 : l ≤ 20 := by have := hR.hi; omega
    obtain ⟨M, hM⟩ : ∃ M, M = meetM (askedM σ root) i (linkM root n) n.1 (some n) := ⟨_, rfl⟩
    rw [← hM]
    have HMM := hide hM
    clear hok hM
    go_enter Try.func33, Try.ntmps33
    go_wp2_with fail
    refine hask.mono ?_
    rintro e w1 ⟨⟨q, vk, vp, rfl, hq, hbody, hlk, hpr⟩, hI1, hb1, hk1⟩
    have hC := ((HH.out.2.1.retag (fun x => if vp.ownBlock = some x then 4 else S.tg x) (fun x hx => if_neg (fun hv => by have := (hpr.lt x hv).1; omega))).keep hk1).asked root
    have hBody : BodyAt B w1 (fun x => if vp.ownBlock = some x then 4 else S.tg x) q n := ⟨vk, vp, hbody, own_down hlk hB, own_down hpr hB, fun x hx => if_pos hx⟩
    have hlink := blink_any w1.drew q root n vk vp hbody (ls_of_own linkC_length (own_down hlk hB)) (ls_of_own pairC_length (own_down hpr hB)) hR
    rw [hl] at hbody
    have d0 := cell_of_row w1 q 0 _ _ _ hbody
    simp only [List.getElem?_toArray, List.getElem?_cons_zero] at d0
    have hs0 : w.heap.size ≤ w1.heap.size := hb1.size
    have H1 := hide (And.intro hC (And.intro hBody (And.intro hI1 (And.intro hb1 (And.intro hbody hl)))))
    clear hask hC hBody hI1 hb1 hk1 hlk hpr hbody hq hl
    go_wp2_with fail
    refine wp_region_held_drew (S := fun W => W.cell? ⟨q, 0, none⟩ = some (.int .i64 l)) (by kernel_rfl) (d0) (fun hHeld => ?_)
    refine takeK 0 hHeld ?_
    refine takeK 1 hHeld ?_
    refine takeK 2 hHeld ?_
    refine takeK 3 hHeld ?_
    refine takeK 5 hHeld ?_
    refine takeK 6 hHeld ?_
    refine takeK 7 hHeld ?_
    refine takeK 8 hHeld ?_
    refine takeK 9 hHeld ?_
    refine takeK 10 hHeld ?_
    refine onlyH (i := 4) rfl (by kernel_rfl) rfl (fun K hK => ?_)
    go_simp
    refine hlink.mono ?_
    rintro e w2 ⟨rfl, hb2⟩
    have hb2' : Below w1.heap.size w1 w2 := (Below.refl _ _).drew.trans hb2
    have hC2 := H1.out.1.below hb2'
    have hBody2 := H1.out.2.1.kp (Kp.of hb2')
    have hbq2 := (hb2'.block _ (lt_of_heap H1.out.2.2.2.2.1)).trans H1.out.2.2.2.2.1
    have d2 := cell_of_row w2 q 0 _ _ _ hbq2
    simp only [List.getElem?_toArray, List.getElem?_cons_zero] at d2
    have hmt := meet_any hC2 (HH.out.2.2.1.asks root) hi (linkM root n) l hl20 (some n) (.pointer (some ⟨q, 0, none⟩)) ⟨q, rfl, hBody2⟩ (fun m hm => by injection hm with hm; subst hm; exact ⟨hR, H1.out.2.2.2.2.2, rfl⟩) hb
    have hask := meetM_asked (σ := askedM σ root) i (linkM root n) l (some n)
    rw [← H1.out.2.2.2.2.2, ← HMM.out] at hask
    rw [← H1.out.2.2.2.2.2, ← HMM.out, H1.out.2.2.2.2.2] at hmt
    have H2 := hide (And.intro hb2' (And.intro hbq2 hask))
    clear hb2 hb2' hC2 hBody2 hbq2 hlink hask
    refine hK.out _ _ (d2) (fun hHeld => ?_)
    clear hK K
    try simp only [Act.put, List.setIfInBounds_toArray, List.set_cons_zero, List.set_cons_succ]
    refine takeK 11 hHeld ?_
    refine onlyH (i := 12) rfl (by kernel_rfl) rfl (fun K hK => ?_)
    go_simp
    refine hmt.mono ?_
    rintro e w3 ⟨rfl, hC3, hM3⟩
    have hbq3 := hM3.k _ _ _ _ H2.out.2.1 (by decide) (by simp)
    have d3 := cell_of_row w3 q 0 _ _ _ hbq3
    simp only [List.getElem?_toArray, List.getElem?_cons_zero] at d3
    have H3 := hide (And.intro hC3 hM3)
    clear hC3 hM3 hbq3 hmt
    refine hK.out _ _ (d3) (fun hHeld => ?_)
    clear hK K
    try simp only [Act.put, List.setIfInBounds_toArray, List.set_cons_zero, List.set_cons_succ]
    refine takeK 13 hHeld ?_
    refine wpAnyH_done (by kernel_rfl) ?_ _
    clear hHeld
    go_wp2
    go_ret
    refine ⟨rfl, fun hx => ?_, H1.out.2.2.2.1.trans ((H2.out.1.mono (Nat.le_trans hB hs0)).trans H3.out.2.b)⟩
    obtain ⟨S3, hC3, -⟩ := H3.out.1 hx
    refine ⟨?_, S3, hC3⟩
    rw [H2.out.2.2.1]
    exact HH.out.1.mv (HH.out.1.below H1.out.2.2.1 H2.out.1) H3.out.2
end
end Go.Proofs.Ytldfjpgcemfpjaa

/-
  Both maps gone down. Conditions: the get keeps its word; the comparing lies there; there is room.
-/
namespace Go.Proofs.Ytldfjpgcemfpjaa
open Go.RowKit

/-- The levels from l on are done, from σ0 on. -/
inductive Reach (fd : Bs → Option Bs) (σ0 : Cm) : Nat → Cm → Prop
  | start : Reach fd σ0 21 σ0
  | next {l : Nat} {σ τ : Cm} : Reach fd σ0 (l + 1) σ → bothM fd l σ = (0, τ) → Reach fd σ0 l τ
/-- There is room all the way. -/
def RoomAll (fd : Bs → Option Bs) (σ0 : Cm) : Prop :=
  ∀ l σ, l < 21 → Reach fd σ0 (l + 1) σ → (∀ k τ, throughM fd 0 ((σ.lev 0 l).take k) σ = (0, τ) → Roomy 0 τ) ∧ ∀ τ, throughM fd 0 (σ.lev 0 l) σ = (0, τ) → ∀ k τ', throughM fd 1 ((τ.lev 1 l).take k) τ = (0, τ') → Roomy 1 τ'
section
variable {B : Nat} {w : World} {c mb g : Nat} {caps : Array Value} {fd : Bs → Option Bs} {I : World → List Bs → Prop} {S : Gh} {σ : Cm}
theorem Reach.ok (hs : ∀ id b, fd id = some b → b.length ≤ 140737488355328) {σ0 : Cm} (h0 : Okm σ0) {l : Nat} {σ : Cm} (h : Reach fd σ0 l σ) : Okm σ := by
  induction h with
  | start => exact h0
  | @next l σ τ _ hb ih =>
    unfold bothM at hb
    cases h1 : throughM fd 0 (σ.lev 0 l) σ with
    | mk e τ1 =>
      rw [h1] at hb
      simp only at hb
      by_cases he : e = 0
      · subst he
        rw [if_neg (by simp)] at hb
        obtain ⟨g1, -, -⟩ := throughM_ok hs _ σ τ1 ih (fun x hx => ih.lev 0 l x hx) h1
        exact (throughM_ok hs _ τ1 τ g1 (fun x hx => g1.lev 1 l x hx) hb).1
      · rw [if_pos he] at hb
        injection hb with hb
        exact absurd hb he
/-- How far the roots are. -/
def rootsK (fd : Bs → Option Bs) (a b : Bs) (k : Nat) : Int × Cm := if k = 0 then (0, cm0) else if k = 1 then beginM fd cm0 0 a else rootsM fd a b
theorem cm0_ok : Okm cm0 := ⟨(fun _ h => nomatch h), (fun _ _ _ h => nomatch h), (fun _ h => nomatch h), (fun _ h => nomatch h), List.nodup_nil⟩
theorem beginM_room (i : Nat) (root : Bs) : (beginM fd σ i root).2.asked.length ≤ σ.asked.length + 1 ∧ ∀ j l, ((beginM fd σ i root).2.lev j l).length ≤ (σ.lev j l).length + 1 := by
  unfold beginM
  split
  · exact ⟨by simp [askedM], fun _ _ => by simp [askedM]⟩
  · exact ⟨by rw [(meetM_asked _ _ _ _).1]; simp [askedM], fun j l => meetM_len _ _ _ _ j l⟩
/-- How far a level is. -/
def innerK (fd : Bs → Option Bs) (l : Nat) (σ : Cm) (k : Nat) : Int × Cm := if k = 0 then (0, σ) else if k = 1 then throughM fd 0 (σ.lev 0 l) σ else bothM fd l σ
theorem two_at0 (a b : ByteArray) (W : World) : (Instr.index 62 (.agg #[.string a, .string b]) (.int .i64 0)).run Try.prog W = .ok (.string a) W := by kernel_rfl
theorem two_at1 (a b : ByteArray) (W : World) : (Instr.index 62 (.agg #[.string a, .string b]) (.int .i64 1)).run Try.prog W = .ok (.string b) W := by kernel_rfl
set_option maxRecDepth 40000 in
set_option maxHeartbeats 3200000 in
theorem down_any (hG : GetD g caps fd B I) (h : CmW B w c mb (.func (.func g) #[] caps) S cm0) (a b : Bs) (hI : I w []) (hbd : ∀ σ, rootsM fd a b = (0, σ) → RoomAll fd σ) :
    Calls Try.prog 20 #[.pointer (some ⟨c, 0, none⟩), .agg #[.string (strB a), .string (strB b)]] w fun e w' => e = .returned (.int .i64 (goDownM fd a b).1) ∧ ((goDownM fd a b).1 = 0 → I w' (goDownM fd a b).2.asked ∧ ∃ S', CmW B w' c mb (.func (.func g) #[] caps) S' (goDownM fd a b).2) ∧ Below B w w' := by
  have hB := h.le
  have hb0 : Below w.heap.size w (w.alloc (.cells #[.string (strB a), .string (strB b)] 62)) := (Below.refl _ _).alloc (Nat.le_refl _) _
  have hx0 := heap_last w (.cells #[.string (strB a), .string (strB b)] 62) _ rfl
  have h1 := h.below hb0
  have hI1 := hG.below hI hb0
  generalize hw0 : w.alloc (.cells #[.string (strB a), .string (strB b)] 62) = w0 at *
  have x0 := cell_of_row w0 w.heap.size 0 _ _ _ hx0
  have x1 := cell_of_row w0 w.heap.size 1 _ _ _ hx0
  simp only [List.getElem?_toArray, List.getElem?_cons_zero, List.getElem?_cons_succ] at x0 x1
  obtain ⟨R, hR⟩ : ∃ R, R = goDownM fd a b := ⟨_, rfl⟩
  rw [← hR]
  have HH := hide (And.intro hG (And.intro h1 (And.intro hI1 (And.intro hbd (And.intro hR (hb0.mono hB))))))
  clear hG h h1 hI hI1 hbd hR hb0 hx0
  have ht0 := two_at0 (strB a) (strB b)
  have ht1 := two_at1 (strB a) (strB b)
  go_enter Try.func20, Try.ntmps20
  go_wp2_with fail
  try rw [hw0]
  go_wp2_with fail
  go_loopw [12] (fun t wr => ∃ k : Nat, k ≤ 2 ∧ t = .int .i64 k ∧ ∃ σk Sk, rootsK fd a b k = (0, σk) ∧ CmW B wr c mb (.func (.func g) #[] caps) Sk σk ∧ I wr σk.asked ∧ Okm σk ∧ Below B w wr)
    (fun t _ => 2 - (intOf t).toNat)
  case atStart => exact ⟨0, by omega, rfl, cm0, S, rfl, HH.out.2.1, HH.out.2.2.1, cm0_ok, HH.out.2.2.2.2.2⟩
  case round =>
    obtain ⟨k, hkk, rfl, σk, Sk, hkm, hCk, hIk, hok, hbk⟩ := hrel
    obtain rfl | rfl | rfl : k = 0 ∨ k = 1 ∨ k = 2 := by omega
    · obtain ⟨hG, -⟩ := HH.out
      have hsk : cm0 = σk := by injection hkm
      have hbg := begin_any hG hCk hok (i := 0) (by omega) a hIk (by rw [← hsk]; simp [cm0]) (fun l _ => by rw [← hsk]; simp [cm0])
      rw [show ((0 : Nat) : Int) = 0 from rfl] at hbg
      have hok2 := beginM_ok (fd := fd) hok hG.short (i := 0) (root := a)
      have hRK : rootsK fd a b 1 = beginM fd σk 0 a := by
        rw [← hsk]; rfl
      have HK := hide (And.intro hkm (And.intro hRK (And.intro hbk hok2)))
      clear hkm hCk hIk hok hbk hG hok2 hRK hsk
      generalize beginM fd σk 0 a = M at *
      by_cases hr : M.1 = 0
      · have hrb : (M.1 != 0) = false := by simpa using hr
        have HR := hide hr
        clear hr
        go_wp2_with fail
        refine hbg.mono ?_
        rintro e w5 ⟨rfl, hq, hb5⟩
        obtain ⟨hI5, S5, hC5⟩ := hq HR.out
        have H5 := hide (And.intro hI5 (And.intro hC5 hb5))
        clear hq hI5 hC5 hb5 hbg
        go_wp2
        go_roundw
        case rel => exact ⟨1, by omega, rfl, M.2, S5, by rw [HK.out.2.1, ← HR.out], H5.out.2.1, H5.out.1, HK.out.2.2.2, HK.out.2.2.1.trans H5.out.2.2⟩
        case measure => simp [intOf]
      · have hrb : (M.1 != 0) = true := by simpa using hr
        have hfin : R = M := by
          rw [HH.out.2.2.2.2.1]
          unfold goDownM
          have h1 : rootsM fd a b = M := by unfold rootsM; rw [show beginM fd cm0 0 a = M from HK.out.2.1, if_pos hr]
          rw [h1, if_pos hr]
        have HR := hide (And.intro hr hfin)
        clear hr hfin
        go_wp2_with fail
        refine hbg.mono ?_
        rintro e w5 ⟨rfl, -, hb5⟩
        have H5 := hide hb5
        clear hb5 hbg
        go_wp2
        all_goals
          go_ret
          rw [HR.out.2]
          exact ⟨rfl, fun hx => absurd hx HR.out.1, HK.out.2.2.1.trans H5.out⟩
    · obtain ⟨hG, -⟩ := HH.out
      have hsk : (beginM fd cm0 0 a).2 = σk := by rw [show beginM fd cm0 0 a = (0, σk) from hkm]
      have hbg := begin_any hG hCk hok (i := 1) (by omega) b hIk (by rw [← hsk]; have := (beginM_room (fd := fd) (σ := cm0) 0 a).1; simp [cm0] at this ⊢; omega) (fun l _ => by rw [← hsk]; have := (beginM_room (fd := fd) (σ := cm0) 0 a).2 1 l; simp [cm0] at this ⊢; omega)
      rw [show ((1 : Nat) : Int) = 1 from rfl] at hbg
      have hok2 := beginM_ok (fd := fd) hok hG.short (i := 1) (root := b)
      have hRK : rootsK fd a b 2 = beginM fd σk 1 b := by
        rw [← hsk]
        show rootsM fd a b = _
        unfold rootsM
        rw [if_neg (by rw [show beginM fd cm0 0 a = (0, σk) from hkm]; simp)]
      have HK := hide (And.intro hkm (And.intro hRK (And.intro hbk hok2)))
      clear hkm hCk hIk hok hbk hG hok2 hRK hsk
      generalize beginM fd σk 1 b = M at *
      by_cases hr : M.1 = 0
      · have hrb : (M.1 != 0) = false := by simpa using hr
        have HR := hide hr
        clear hr
        go_wp2_with fail
        refine hbg.mono ?_
        rintro e w5 ⟨rfl, hq, hb5⟩
        obtain ⟨hI5, S5, hC5⟩ := hq HR.out
        have H5 := hide (And.intro hI5 (And.intro hC5 hb5))
        clear hq hI5 hC5 hb5 hbg
        go_wp2
        go_roundw
        case rel => exact ⟨2, by omega, rfl, M.2, S5, by rw [HK.out.2.1, ← HR.out], H5.out.2.1, H5.out.1, HK.out.2.2.2, HK.out.2.2.1.trans H5.out.2.2⟩
        case measure => simp [intOf]
      · have hrb : (M.1 != 0) = true := by simpa using hr
        have hfin : R = M := by
          rw [HH.out.2.2.2.2.1]
          unfold goDownM
          have h1 : rootsM fd a b = M := HK.out.2.1
          rw [h1, if_pos hr]
        have HR := hide (And.intro hr hfin)
        clear hr hfin
        go_wp2_with fail
        refine hbg.mono ?_
        rintro e w5 ⟨rfl, -, hb5⟩
        have H5 := hide hb5
        clear hb5 hbg
        go_wp2
        all_goals
          go_ret
          rw [HR.out.2]
          exact ⟨rfl, fun hx => absurd hx HR.out.1, HK.out.2.2.1.trans H5.out⟩
    · rw [show ((2 : Nat) : Int) = 2 from rfl]
      have HK := hide (And.intro hkm (And.intro hCk (And.intro hIk (And.intro hok hbk))))
      clear hkm hCk hIk hok hbk
      obtain ⟨σ0, hσ0⟩ : ∃ σ0, σ0 = σk := ⟨_, rfl⟩
      rw [← hσ0] at HK
      clear hσ0
      go_wp2_with fail
      go_loopw [8] (fun t wr => ∃ l : Nat, l ≤ 21 ∧ t = .int .i64 ((l : Int) - 1) ∧ ∃ σl Sl, Reach fd σ0 l σl ∧ downM fd 21 σ0 = downM fd l σl ∧ CmW B wr c mb (.func (.func g) #[] caps) Sl σl ∧ I wr σl.asked ∧ Okm σl ∧ Below B w wr)
        (fun t _ => (intOf t + 1).toNat)
      case atStart => exact ⟨21, by omega, rfl, σ0, Sk, Reach.start, rfl, HK.out.2.1, HK.out.2.2.1, HK.out.2.2.2.1, HK.out.2.2.2.2⟩
      case round =>
        obtain ⟨l, hl, rfl, σl, Sl, hre, hdn, hCl, hIl, hol, hbl⟩ := hrel
        obtain rfl | ⟨m, rfl⟩ : l = 0 ∨ ∃ m, l = m + 1 := by
          cases l with
          | zero => exact .inl rfl
          | succ m => exact .inr ⟨m, rfl⟩
        · have hfin : R = (0, σl) := by
            rw [HH.out.2.2.2.2.1]
            unfold goDownM
            rw [show rootsM fd a b = (0, σ0) from HK.out.1, if_neg (by simp), hdn]
            rfl
          have HF := hide (And.intro hfin (And.intro hCl (And.intro hIl hbl)))
          clear hfin hCl hIl hbl hol hre hdn
          go_wp2
          all_goals
            go_ret
            rw [HF.out.1]
            exact ⟨rfl, fun _ => ⟨HF.out.2.2.1, Sl, HF.out.2.1⟩, HF.out.2.2.2⟩
        · have hsub : ((m + 1 : Nat) : Int) - 1 = (m : Int) := by omega
          rw [hsub]
          have HL := hide (And.intro hre (And.intro hdn (And.intro hCl (And.intro hIl (And.intro hol hbl)))))
          clear hre hdn hCl hIl hol hbl hsub
          go_wp2_with fail
          go_loopw [28] (fun t wi => ∃ k : Nat, k ≤ 2 ∧ t = .int .i64 k ∧ ∃ τ S', innerK fd m σl k = (0, τ) ∧ CmW B wi c mb (.func (.func g) #[] caps) S' τ ∧ I wi τ.asked ∧ Okm τ ∧ Below B w wi)
            (fun t _ => 2 - (intOf t).toNat)
          case atStart => exact ⟨0, by omega, rfl, σl, Sl, rfl, HL.out.2.2.1, HL.out.2.2.2.1, HL.out.2.2.2.2.1, HL.out.2.2.2.2.2⟩
          case round =>
            obtain ⟨k, hkk, rfl, τ, Sτ, hkm, hCτ, hIτ, hoτ, hbτ⟩ := hrel
            obtain rfl | rfl | rfl : k = 0 ∨ k = 1 ∨ k = 2 := by omega
            · obtain ⟨hG, -, -, hbd, -⟩ := HH.out
              have hra := hbd σ0 HK.out.1 m σl (by omega) HL.out.1
              have hst : σl = τ := by injection hkm
              have hgo := through_any hG hCτ hoτ (i := 0) (by omega) (l := m) (by omega) hIτ (by rw [← hst]; exact hra.1)
              rw [show ((0 : Nat) : Int) = 0 from rfl] at hgo
              obtain ⟨M, hM⟩ : ∃ M, M = throughM fd 0 (τ.lev 0 m) τ := ⟨_, rfl⟩
              rw [← hM] at hgo
              have hIK : innerK fd m σl 1 = M := by
                rw [hM, ← hst]; rfl
              have hokM : M.1 = 0 → Okm M.2 := fun h0 => by
                have := throughM_ok hG.short (i := 0) (l := m) (τ.lev 0 m) τ M.2 hoτ (fun x hx => hoτ.lev 0 m x hx) (by rw [← hM, ← h0])
                exact this.1
              have HT := hide (And.intro hIK (And.intro hbτ (And.intro hokM hkm)))
              clear hkm hCτ hIτ hoτ hbτ hG hbd hra hIK hokM hM hst
              by_cases hr : M.1 = 0
              · have hrb : (M.1 != 0) = false := by simpa using hr
                have HR := hide hr
                clear hr
                go_wp2_with fail
                refine hgo.mono ?_
                rintro e w5 ⟨rfl, hq, hb5⟩
                obtain ⟨hI5, S5, hC5⟩ := hq HR.out
                have H5 := hide (And.intro hI5 (And.intro hC5 hb5))
                clear hq hI5 hC5 hb5 hgo
                go_wp2
                go_roundw
                case rel => exact ⟨1, by omega, rfl, M.2, S5, by rw [HT.out.1, ← HR.out], H5.out.2.1, H5.out.1, HT.out.2.2.1 HR.out, HT.out.2.1.trans H5.out.2.2⟩
                case measure => simp [intOf]
              · have hrb : (M.1 != 0) = true := by simpa using hr
                have hfin : R = M := by
                  rw [HH.out.2.2.2.2.1]
                  unfold goDownM
                  rw [show rootsM fd a b = (0, σ0) from HK.out.1, if_neg (by simp), HL.out.2.1, downM]
                  have hbo : bothM fd m σl = M := by
                    unfold bothM; rw [show throughM fd 0 (σl.lev 0 m) σl = M from HT.out.1, if_pos hr]
                  rw [hbo, if_pos hr]
                have HR := hide (And.intro hr hfin)
                clear hr hfin
                go_wp2_with fail
                refine hgo.mono ?_
                rintro e w5 ⟨rfl, -, hb5⟩
                have H5 := hide hb5
                clear hb5 hgo
                go_wp2
                all_goals
                  go_ret
                  rw [HR.out.2]
                  exact ⟨rfl, fun hx => absurd hx HR.out.1, HT.out.2.1.trans H5.out⟩
            · obtain ⟨hG, -, -, hbd, -⟩ := HH.out
              have hra := hbd σ0 HK.out.1 m σl (by omega) HL.out.1
              have hkm2 : throughM fd 0 (σl.lev 0 m) σl = (0, τ) := hkm
              have hgo := through_any hG hCτ hoτ (i := 1) (by omega) (l := m) (by omega) hIτ (hra.2 τ hkm2)
              rw [show ((1 : Nat) : Int) = 1 from rfl] at hgo
              obtain ⟨M, hM⟩ : ∃ M, M = throughM fd 1 (τ.lev 1 m) τ := ⟨_, rfl⟩
              rw [← hM] at hgo
              have hIK : innerK fd m σl 2 = M := by
                rw [hM]; show bothM fd m σl = _; unfold bothM; rw [hkm2, if_neg (by simp)]
              have hokM : M.1 = 0 → Okm M.2 := fun h0 => by
                have := throughM_ok hG.short (i := 1) (l := m) (τ.lev 1 m) τ M.2 hoτ (fun x hx => hoτ.lev 1 m x hx) (by rw [← hM, ← h0])
                exact this.1
              have HT := hide (And.intro hIK (And.intro hbτ (And.intro hokM hkm)))
              clear hkm hCτ hIτ hoτ hbτ hG hbd hra hIK hokM hM hkm2
              by_cases hr : M.1 = 0
              · have hrb : (M.1 != 0) = false := by simpa using hr
                have HR := hide hr
                clear hr
                go_wp2_with fail
                refine hgo.mono ?_
                rintro e w5 ⟨rfl, hq, hb5⟩
                obtain ⟨hI5, S5, hC5⟩ := hq HR.out
                have H5 := hide (And.intro hI5 (And.intro hC5 hb5))
                clear hq hI5 hC5 hb5 hgo
                go_wp2
                go_roundw
                case rel => exact ⟨2, by omega, rfl, M.2, S5, by rw [HT.out.1, ← HR.out], H5.out.2.1, H5.out.1, HT.out.2.2.1 HR.out, HT.out.2.1.trans H5.out.2.2⟩
                case measure => simp [intOf]
              · have hrb : (M.1 != 0) = true := by simpa using hr
                have hfin : R = M := by
                  rw [HH.out.2.2.2.2.1]
                  unfold goDownM
                  rw [show rootsM fd a b = (0, σ0) from HK.out.1, if_neg (by simp), HL.out.2.1, downM]
                  have hbo : bothM fd m σl = M := by
                    exact HT.out.1
                  rw [hbo, if_pos hr]
                have HR := hide (And.intro hr hfin)
                clear hr hfin
                go_wp2_with fail
                refine hgo.mono ?_
                rintro e w5 ⟨rfl, -, hb5⟩
                have H5 := hide hb5
                clear hb5 hgo
                go_wp2
                all_goals
                  go_ret
                  rw [HR.out.2]
                  exact ⟨rfl, fun hx => absurd hx HR.out.1, HT.out.2.1.trans H5.out⟩
            · have HT := hide (And.intro hkm (And.intro hCτ (And.intro hIτ (And.intro hoτ hbτ))))
              clear hkm hCτ hIτ hoτ hbτ
              go_wp2
              go_roundw
              case rel =>
                refine ⟨m, by omega, by go_num, τ, Sτ, HL.out.1.next HT.out.1, ?_, HT.out.2.1, HT.out.2.2.1, HT.out.2.2.2.1, HT.out.2.2.2.2⟩
                rw [HL.out.2.1, downM, show bothM fd m σl = (0, τ) from HT.out.1, if_neg (by simp)]
              case measure => simp [intOf]
end
end Go.Proofs.Ytldfjpgcemfpjaa

/-
  How much there can be: a level's nodes have no more pairs below them than the root says. No condition.
-/
namespace Go.Proofs.Ytldfjpgcemfpjaa
open Go.RowKit

/-- A node's weight: the pairs below it, one at least. -/
def wtN (σ : Cm) (id : Bs) : Nat := max 1 (σ.nd id).link.2.2.toNat
def wtI (σ : Cm) (l : List Bs) : Nat := (l.map (wtN σ)).sum
/-- Below level l. -/
def wtB (σ : Cm) (i : Nat) : Nat → Nat
  | 0 => 0
  | l + 1 => wtB σ i l + wtI σ (σ.lev i l)
section
variable {σ τ : Cm} {fd : Bs → Option Bs}
theorem wtI_append (l m : List Bs) : wtI σ (l ++ m) = wtI σ l + wtI σ m := by unfold wtI; rw [List.map_append, List.sum_append]
theorem wtI_len (l : List Bs) : l.length ≤ wtI σ l := by
  induction l with
  | nil => simp
  | cons x r ih =>
    have : wtI σ (x :: r) = wtN σ x + wtI σ r := by simp [wtI]
    have h1 : 1 ≤ wtN σ x := Nat.le_max_left _ _
    simp only [List.length_cons]
    omega
theorem wtI_kept (hk : Kept σ τ) {l : List Bs} (hl : ∀ x ∈ l, x ∈ σ.met) : wtI τ l = wtI σ l := by
  unfold wtI
  refine congrArg List.sum (List.map_congr_left (fun x hx => ?_))
  unfold wtN
  rw [(hk.nd x (hl x hx)).1]
theorem wtB_kept (hk : Kept σ τ) (ho : Okm σ) {i : Nat} : ∀ {l : Nat}, (∀ m, m < l → τ.lev i m = σ.lev i m) → wtB τ i l = wtB σ i l
  | 0, _ => rfl
  | l + 1, h => by
    rw [wtB, wtB, wtB_kept hk ho (fun m hm => h m (by omega)), h l (by omega), wtI_kept hk (fun x hx => (ho.lev i l x hx).1)]
theorem wtB_le {i : Nat} {l m : Nat} (h : l < m) : wtI σ (σ.lev i l) ≤ wtB σ i m := by
  induction m with
  | zero => omega
  | succ m ih =>
    rw [wtB]
    by_cases he : l = m
    · subst he; omega
    · have := ih (by omega); omega
/-- Meeting a node adds its weight. -/
theorem meetM_wt (ho : Okm σ) {i : Nat} {k : Link} {l : Nat} {body : Option NodeM} (h : (meetM σ i k l body).1 = 0) (L : Nat) (hL : l < L) : wtB (meetM σ i k l body).2 i L = wtB σ i L + max 1 k.2.2.toNat := by
  have hkept := meetM_kept (σ := σ) i k l body
  have hlev : (meetM σ i k l body).2.lev i l = σ.lev i l ++ [k.2.1] ∧ (((meetM σ i k l body).2).nd k.2.1).link = k := by
    unfold meetM at h ⊢
    split at h
    · cases h
    · rename_i hodd
      rw [if_neg hodd]
      unfold oddM at hodd
      simp only [Bool.or_eq_true, not_or, bne_iff_ne, ne_eq, Decidable.not_not] at hodd
      constructor
      · show updL _ i _ _ i l = _
        unfold updL
        rw [hodd.2, knowM_lev, if_pos ⟨rfl, by simp⟩]
        simp
      · show (updN _ k.2.1 _ k.2.1).link = k
        rw [updN_same]
        exact hodd.1.2
  have hwk : wtN (meetM σ i k l body).2 k.2.1 = max 1 k.2.2.toNat := by
    unfold wtN
    rw [hlev.2]
  have hone : wtI (meetM σ i k l body).2 ((meetM σ i k l body).2.lev i l) = wtI σ (σ.lev i l) + max 1 k.2.2.toNat := by
    rw [hlev.1, wtI_append, wtI_kept hkept (fun x hx => (ho.lev i l x hx).1)]
    simp [wtI, hwk]
  induction L with
  | zero => omega
  | succ L ih =>
    rw [wtB, wtB]
    by_cases he : l = L
    · subst he
      rw [hone, wtB_kept hkept ho (fun m hm => meetM_lev (by simp; omega) i)]
      omega
    · rw [ih (by omega), meetM_lev (by simp; omega) i, wtI_kept hkept (fun x hx => (ho.lev i L x hx).1)]
      omega
theorem meetM_other {i j : Nat} (h : j ≠ i) (k : Link) (lv : Int) (body : Option NodeM) (m : Nat) : (meetM σ i k lv body).2.lev j m = σ.lev j m := by
  unfold meetM
  split
  · rw [knowM_lev]
  · show updL _ i _ _ j m = _
    unfold updL
    rw [knowM_lev, if_neg (by rintro ⟨h1, -⟩; exact h h1)]
theorem kidsM_other {i j : Nat} (h : j ≠ i) (lv : Int) (m : Nat) : ∀ (ks : List Link) (σ : Cm), (kidsM i lv ks σ).2.lev j m = σ.lev j m
  | [], σ => rfl
  | k :: r, σ => by
    rw [kidsM]
    split
    · exact meetM_other h k lv none m
    · rw [kidsM_other h lv m r, meetM_other h k lv none m]
theorem rlink_many {k : Link} (h : rlinkOk k = true) : 1 ≤ k.2.2 := ((rlinkOk_iff k).1 h).2.2.1
theorem kidsM_wt {i l L : Nat} (hl : l ≤ 20) (hL : l < L) : ∀ (ks : List Link) (σ : Cm), Okm σ → (∀ k ∈ ks, rlinkOk k = true) → (kidsM i l ks σ).1 = 0 → wtB (kidsM i l ks σ).2 i L = wtB σ i L + (manyL ks).toNat
  | [], σ, _, _, _ => by simp [kidsM, manyL]
  | k :: r, σ, ho, hk, h => by
    have h1 := rlink_many (hk k (by simp))
    have h2 := manyL_many r (fun q hq => hk q (by simp [hq]))
    have h3 : manyL (k :: r) = k.2.2 + manyL r := by simp [manyL]
    rw [kidsM] at h ⊢
    by_cases hq : (meetM σ i k l none).1 ≠ 0
    · rw [if_pos hq] at h
      exact absurd h hq
    · rw [if_neg hq] at h ⊢
      rw [kidsM_wt hl hL r _ (ho.meet hl (fun n hn => by cases hn)) (fun q hq => hk q (by simp [hq])) h, meetM_wt ho (by simpa using hq) L hL]
      omega
/-- What a step on a side does: the weight goes below, or to the pairs. -/
structure Eased (i l : Nat) (W : Nat) (σ τ : Cm) : Prop where
  wt : wtB τ i l + (τ.prs i).length ≤ wtB σ i l + (σ.prs i).length + W
  other : ∀ j, j ≠ i → τ.prs j = σ.prs j ∧ ∀ m, τ.lev j m = σ.lev j m
  asked : τ.asked.length ≤ σ.asked.length + W
  above : ∀ m, l ≤ m → τ.lev i m = σ.lev i m
theorem Eased.refl (i l : Nat) (σ : Cm) : Eased i l 0 σ σ := ⟨by omega, fun _ _ => ⟨rfl, fun _ => rfl⟩, by omega, fun _ _ => rfl⟩
theorem Eased.trans {i l W V : Nat} {a b c : Cm} (h : Eased i l W a b) (k : Eased i l V b c) : Eased i l (W + V) a c :=
  ⟨by have := h.wt; have := k.wt; omega, fun j hj => ⟨(k.other j hj).1.trans (h.other j hj).1, fun m => ((k.other j hj).2 m).trans ((h.other j hj).2 m)⟩, by have := h.asked; have := k.asked; omega, fun m hm => (k.above m hm).trans (h.above m hm)⟩
theorem Eased.more {i l W V : Nat} {a b : Cm} (h : Eased i l W a b) (hW : W ≤ V) : Eased i l V a b := ⟨by have := h.wt; omega, h.other, by have := h.asked; omega, h.above⟩
theorem intoM_wt (ho : Okm σ) (hs : ∀ id b, fd id = some b → b.length ≤ 140737488355328) {i l : Nat} {id : Bs} (hid : id ∈ σ.met) (hlv : (σ.nd id).level = (l : Nat)) (h : (intoM fd σ i id).1 = 0) : Eased i l (wtN σ id) σ (intoM fd σ i id).2 := by
  unfold intoM at h ⊢
  by_cases hr : (readM fd σ id).1 = 0
  rotate_left
  · rw [if_pos hr] at h
    exact absurd h hr
  rw [if_neg (by simpa using hr)] at h ⊢
  obtain ⟨ho1, hk1, hlev1, hprs1, hmet1, ⟨n, hbn⟩, hask1⟩ := readM_ok ho hs hid hr
  generalize (readM fd σ id).2 = σ1 at *
  have hid1 : id ∈ σ1.met := by rw [hmet1]; exact hid
  obtain ⟨hRn, hnl, hlk⟩ := ho1.bod id hid1 n hbn
  obtain ⟨l1, l2, l3, l4⟩ := hRn.links
  have hcount : countM n = (σ.nd id).link.2.2 := by rw [← (hk1.nd id hid).1, ← hlk]; rfl
  have hwn : 1 ≤ wtN σ id := Nat.le_max_left _ _
  have hwn2 : (σ.nd id).link.2.2.toNat ≤ wtN σ id := Nat.le_max_right _ _
  have hb1 : wtB σ1 i l = wtB σ i l := wtB_kept hk1 ho (fun m _ => by rw [hlev1])
  have hnl' : n.1 = (l : Int) := by rw [hnl, (hk1.nd id hid).2.1, hlv]
  unfold tellM at h ⊢
  rw [show bodyOf (σ1.nd id) = n by unfold bodyOf; rw [hbn]; rfl, ← hnl] at h ⊢
  by_cases hf : fitP (σ1.prs i) n.2.1 = false
  · rw [if_pos hf] at h
    cases h
  rw [if_neg hf] at h ⊢
  have hop := ho1.pairs i n.2.1
  obtain ⟨g1, g2, g3, g4⟩ := Kept.kids i (n.1 - 1) n.2.2 (pairsM σ1 i n.2.1)
  have hpp : (pairsM σ1 i n.2.1).prs i = σ.prs i ++ n.2.1 := by
    show updP σ1.prs i _ i = _
    unfold updP
    rw [if_pos rfl, hprs1]
  have hpo : ∀ j, j ≠ i → (pairsM σ1 i n.2.1).prs j = σ.prs j := fun j hj => by
    show updP σ1.prs i _ j = _
    unfold updP
    rw [if_neg hj, hprs1]
  have hlp : (pairsM σ1 i n.2.1).lev = σ.lev := hlev1
  have hwp : wtB (pairsM σ1 i n.2.1) i l = wtB σ i l := by
    rw [← hb1]
    exact wtB_kept (σ := σ1) (τ := pairsM σ1 i n.2.1) ⟨fun _ h => h, fun _ _ => ⟨rfl, rfl, fun _ h => h⟩⟩ ho1 (fun _ _ => rfl)
  unfold countM at hcount
  by_cases h0 : n.1 = 0
  · have hz : n.2.2 = [] := (hRn.leaf h0).1
    rw [hz] at h g2 g3 ⊢
    simp only [kidsM] at h g2 g3 ⊢
    rw [hz] at hcount
    simp only [manyL, List.map_nil, List.sum_nil, Int.add_zero] at hcount
    refine ⟨?_, fun j hj => ⟨hpo j hj, fun m => by rw [hlp]⟩, ?_, fun m hm => by rw [hlp]⟩
    · rw [hwp, hpp, List.length_append]
      omega
    · show σ1.asked.length ≤ _
      omega
  · have hn0 := hRn.lo
    have hn1 := hRn.hi
    obtain ⟨m, hm⟩ : ∃ m : Nat, n.1 - 1 = (m : Int) := ⟨(n.1 - 1).toNat, by omega⟩
    have hpe : n.2.1 = [] := (hRn.branch (by omega)).1
    rw [hpe] at hcount
    simp only [List.length_nil, Int.natCast_zero, Int.zero_add] at hcount
    have hkw := kidsM_wt (i := i) (l := m) (L := l) (by omega) (by omega) n.2.2 (pairsM σ1 i n.2.1) hop l2 (by rw [← hm]; exact h)
    rw [← hm] at hkw
    refine ⟨?_, fun j hj => ⟨by rw [g3]; exact hpo j hj, fun q => by rw [kidsM_other hj, hlp]⟩, ?_, fun q hq => ?_⟩
    · rw [hkw, hwp, g3, hpp, hpe, List.append_nil]
      omega
    · rw [g2]
      show σ1.asked.length ≤ _
      omega
    · rw [kidsM_lev (by omega) i, hlp]
theorem throughM_wt (hs : ∀ id b, fd id = some b → b.length ≤ 140737488355328) {i l : Nat} : ∀ (ks : List Bs) (σ τ : Cm), Okm σ → (∀ x ∈ ks, x ∈ σ.met ∧ (σ.nd x).level = l) → throughM fd i ks σ = (0, τ) → Eased i l (wtI σ ks) σ τ
  | [], σ, τ, _, _, h => by
    simp only [throughM, Prod.mk.injEq, true_and] at h
    subst h
    exact Eased.refl i l σ
  | x :: r, σ, τ, ho, hx, h => by
    rw [throughM_cons] at h
    by_cases hm : (stepM fd i σ x).1 ≠ 0
    · rw [if_pos hm] at h
      rw [h] at hm
      exact absurd rfl hm
    · rw [if_neg hm] at h
      obtain ⟨h1, h2⟩ := hx x (by simp)
      have hm0 : (stepM fd i σ x).1 = 0 := by simpa using hm
      obtain ⟨g1, g2, g3⟩ := stepM_ok ho hs h1 hm0
      have hE : Eased i l (wtN σ x) σ (stepM fd i σ x).2 := by
        unfold stepM at hm0 ⊢
        split
        · exact (Eased.refl i l σ).more (Nat.zero_le _)
        · rename_i hsh
          rw [if_neg hsh] at hm0
          exact intoM_wt ho hs h1 h2 hm0
      have hr := throughM_wt hs r _ τ g1 (fun y hy => by
        obtain ⟨y1, y2⟩ := hx y (by simp [hy])
        exact ⟨g2.met y y1, by rw [(g2.nd y y1).2.1]; exact y2⟩) h
      rw [wtI_kept g2 (fun y hy => (hx y (by simp [hy])).1)] at hr
      have e : wtI σ (x :: r) = wtN σ x + wtI σ r := by simp [wtI]
      rw [e]
      exact hE.trans hr
/-- What is known of both sides ahead of level l. -/
structure Bnd (l : Nat) (σ : Cm) : Prop where
  ok : Okm σ
  wt : ∀ i, wtB σ i l + (σ.prs i).length ≤ 4160
  len : ∀ i m, (σ.lev i m).length ≤ 4160
  asked : σ.asked.length ≤ 2 + 8320 * (21 - l)
/-- Part of the way through a level. -/
theorem Bnd.part (hs : ∀ id b, fd id = some b → b.length ≤ 140737488355328) {l i : Nat} {A : Nat} (ho : Okm σ) (hw : wtB σ i (l + 1) + (σ.prs i).length ≤ 4160) (hlen : ∀ m, (σ.lev i m).length ≤ 4160) (hA : σ.asked.length ≤ A) {k : Nat} (h : throughM fd i ((σ.lev i l).take k) σ = (0, τ)) :
    (∀ m, (τ.lev i m).length ≤ 4160) ∧ wtB τ i l + (τ.prs i).length ≤ 4160 ∧ τ.asked.length ≤ A + 4160 ∧ Okm τ ∧ Kept σ τ ∧ ∀ j, j ≠ i → τ.prs j = σ.prs j ∧ ∀ m, τ.lev j m = σ.lev j m := by
  have hmem : ∀ x ∈ (σ.lev i l).take k, x ∈ σ.met ∧ (σ.nd x).level = l := fun x hx => ho.lev i l x (List.mem_of_mem_take hx)
  have hE := throughM_wt hs _ σ τ ho hmem h
  obtain ⟨q1, q2, -⟩ := throughM_ok hs _ σ τ ho hmem h
  have hle : wtI σ ((σ.lev i l).take k) ≤ wtI σ (σ.lev i l) := by
    have := wtI_append (σ := σ) ((σ.lev i l).take k) ((σ.lev i l).drop k)
    rw [List.take_append_drop] at this
    omega
  rw [wtB] at hw
  have h1 := hE.wt
  have h2 := hE.asked
  refine ⟨fun m => ?_, by omega, by omega, q1, q2, hE.other⟩
  by_cases hm : l ≤ m
  · rw [hE.above m hm]; exact hlen m
  · have h3 := wtB_le (σ := τ) (i := i) (l := m) (m := l) (by omega)
    have h4 := wtI_len (σ := τ) (τ.lev i m)
    omega
theorem Bnd.other (hk : Kept σ τ) (ho : Okm σ) {j l : Nat} (h : τ.prs j = σ.prs j ∧ ∀ m, τ.lev j m = σ.lev j m) (hw : wtB σ j l + (σ.prs j).length ≤ 4160) : wtB τ j l + (τ.prs j).length ≤ 4160 := by
  rw [wtB_kept hk ho (fun m _ => h.2 m), h.1]
  exact hw
theorem wtB_less {i : Nat} {l m : Nat} (h : l ≤ m) : wtB σ i l ≤ wtB σ i m := by
  induction m with
  | zero => obtain rfl : l = 0 := by omega
            exact Nat.le_refl _
  | succ m ih =>
    by_cases he : l = m + 1
    · subst he; exact Nat.le_refl _
    · rw [wtB]
      have := ih (by omega)
      omega
theorem Bnd.next (hs : ∀ id b, fd id = some b → b.length ≤ 140737488355328) {l : Nat} (hl : l < 21) (h : Bnd (l + 1) σ) (hb : bothM fd l σ = (0, τ)) : Bnd l τ := by
  unfold bothM at hb
  cases h1 : throughM fd 0 (σ.lev 0 l) σ with
  | mk e τ1 =>
    rw [h1] at hb
    simp only at hb
    by_cases he : e = 0
    · subst he
      rw [if_neg (by simp)] at hb
      obtain ⟨a1, a2, a3, a4, a5, a6⟩ := Bnd.part hs h.ok (h.wt 0) (h.len 0) h.asked (k := (σ.lev 0 l).length) (by rw [List.take_length]; exact h1)
      have hw1 := Bnd.other a5 h.ok (a6 1 (by omega)) (h.wt 1)
      obtain ⟨b1, b2, b3, b4, b5, b6⟩ := Bnd.part hs (l := l) a4 hw1 (fun m => by rw [(a6 1 (by omega)).2 m]; exact h.len 1 m) a3 (k := (τ1.lev 1 l).length) (by rw [List.take_length]; exact hb)
      refine ⟨b4, fun i => ?_, fun i m => ?_, by omega⟩
      · by_cases hi0 : i = 0
        · subst hi0; exact Bnd.other b5 a4 (b6 0 (by omega)) a2
        · by_cases hi1 : i = 1
          · subst hi1; exact b2
          · have hw := Bnd.other b5 a4 (b6 i hi1) (Bnd.other a5 h.ok (a6 i hi0) (h.wt i))
            have := wtB_less (σ := τ) (i := i) (l := l) (m := l + 1) (by omega)
            omega
      · by_cases hi1 : i = 1
        · subst hi1; exact b1 m
        · rw [(b6 i hi1).2 m]
          by_cases hi0 : i = 0
          · subst hi0; exact a1 m
          · rw [(a6 i hi0).2 m]; exact h.len i m
    · rw [if_pos he] at hb
      injection hb with hb
      exact absurd hb he
theorem Reach.bnd (hs : ∀ id b, fd id = some b → b.length ≤ 140737488355328) {σ0 : Cm} (h0 : Bnd 21 σ0) {l : Nat} {σ : Cm} (h : Reach fd σ0 l σ) : l ≤ 21 ∧ Bnd l σ := by
  induction h with
  | start => exact ⟨Nat.le_refl _, h0⟩
  | next _ hb ih => exact ⟨by omega, ih.2.next hs (by omega) hb⟩
theorem beginM_bnd (hs : ∀ id b, fd id = some b → b.length ≤ 140737488355328) {i : Nat} {root : Bs} {A : Nat} (ho : Okm σ) (hw : wtB σ i 21 = 0) (hp : ∀ j, σ.prs j = []) (hl : ∀ m, (σ.lev i m).length = 0) (hA : σ.asked.length ≤ A) (h : beginM fd σ i root = (0, τ)) :
    Okm τ ∧ Kept σ τ ∧ wtB τ i 21 ≤ 4160 ∧ (∀ j, τ.prs j = []) ∧ (∀ m, (τ.lev i m).length ≤ 1) ∧ (∀ j, j ≠ i → ∀ m, τ.lev j m = σ.lev j m) ∧ τ.asked.length ≤ A + 1 := by
  have ho2 := beginM_ok (fd := fd) ho hs (i := i) (root := root)
  have hr := beginM_room (fd := fd) (σ := σ) i root
  rw [h] at ho2 hr
  unfold beginM at h
  by_cases he : (askM fd (rootK root) (-1)).1 ≠ 0
  · rw [if_pos he] at h
    injection h with h
    exact absurd h he
  · rw [if_neg he] at h
    have hR := (askM_ok (fd := fd) (k := rootK root) (level := -1) hs (by simpa using he)).1
    generalize (askM fd (rootK root) (-1)).2 = n at *
    obtain ⟨l, hln⟩ : ∃ l : Nat, n.1 = (l : Int) := ⟨n.1.toNat, by have := hR.lo; omega⟩
    rw [hln] at h
    have hkk := meetM_kept (σ := askedM σ root) i (linkM root n) l (some n)
    have hmw := meetM_wt (ho.asks root) (i := i) (k := linkM root n) (l := l) (body := some n) (by rw [h]) 21 (by have := hR.hi; omega)
    have hma := meetM_asked (σ := askedM σ root) i (linkM root n) l (some n)
    have hmo := fun j (hj : j ≠ i) m => meetM_other (σ := askedM σ root) hj (linkM root n) l (some n) m
    rw [h] at hkk hmw hma hmo
    have hw2 : wtB (askedM σ root) i 21 = wtB σ i 21 := wtB_kept (σ := σ) (τ := askedM σ root) ⟨fun _ h => h, fun _ _ => ⟨rfl, rfl, fun _ h => h⟩⟩ ho (fun _ _ => rfl)
    obtain ⟨l1, l2, l3, l4⟩ := hR.links
    have hcn : (linkM root n).2.2 = countM n := rfl
    have hcl : countM n ≤ 4160 := by unfold countM; omega
    refine ⟨ho2, ⟨fun x hx => hkk.met x hx, fun x hx => hkk.nd x hx⟩, ?_, fun j => ?_, fun m => ?_, fun j hj m => hmo j hj m, by have := hr.1; simp only at this; omega⟩
    · rw [hmw, hw2, hw, hcn]
      omega
    · simp only at hma
      rw [hma.2]
      exact hp j
    · have h1 := hr.2 i m
      simp only at h1
      have h2 := hl m
      omega
theorem rootsM_bnd (hs : ∀ id b, fd id = some b → b.length ≤ 140737488355328) {a b : Bs} (h : rootsM fd a b = (0, τ)) : Bnd 21 τ := by
  unfold rootsM at h
  cases h1 : beginM fd cm0 0 a with
  | mk e τ1 =>
    rw [h1] at h
    simp only at h
    by_cases he : e = 0
    · subst he
      rw [if_neg (by simp)] at h
      have hz : ∀ l, wtB cm0 0 l = 0 := fun l => by
        induction l with
        | zero => rfl
        | succ l ih => rw [wtB, ih]; rfl
      have hz1 : ∀ i l, wtB cm0 i l = 0 := fun i l => by
        induction l with
        | zero => rfl
        | succ l ih => rw [wtB, ih]; rfl
      obtain ⟨a1, a2, a3, a4, a5, a6, a7⟩ := beginM_bnd hs (A := 0) cm0_ok (hz 21) (fun _ => rfl) (fun _ => rfl) (Nat.le_refl _) h1
      have hw1 : ∀ j, j ≠ 0 → wtB τ1 j 21 = 0 := fun j hj => by rw [wtB_kept a2 cm0_ok (fun m _ => a6 j hj m)]; exact hz1 j 21
      obtain ⟨b1, b2, b3, b4, b5, b6, b7⟩ := beginM_bnd hs a1 (hw1 1 (by omega)) a4 (fun m => by rw [a6 1 (by omega)]; rfl) a7 h
      refine ⟨b1, fun i => ?_, fun i m => ?_, by omega⟩
      · rw [b4]
        by_cases hi1 : i = 1
        · subst hi1; simpa using b3
        · rw [wtB_kept b2 a1 (fun m _ => b6 i hi1 m)]
          by_cases hi0 : i = 0
          · subst hi0; simpa using a3
          · rw [hw1 i hi0]; simp
      · by_cases hi1 : i = 1
        · subst hi1; have := b5 m; omega
        · rw [b6 i hi1 m]
          by_cases hi0 : i = 0
          · subst hi0; have := a5 m; omega
          · rw [a6 i hi0 m]; simp [cm0]
    · rw [if_pos he] at h
      injection h with h
      exact absurd h he
/-- There is room all the way. -/
theorem room_all (hs : ∀ id b, fd id = some b → b.length ≤ 140737488355328) {a b : Bs} {σ : Cm} (h : rootsM fd a b = (0, σ)) : RoomAll fd σ := by
  intro l τ hl hre
  obtain ⟨-, hb⟩ := hre.bnd hs (rootsM_bnd hs h)
  have hA := hb.asked
  refine ⟨fun k υ hu => ?_, fun υ hu k υ' hu' => ?_⟩
  · obtain ⟨a1, a2, a3, -⟩ := Bnd.part hs hb.ok (hb.wt 0) (hb.len 0) hb.asked hu
    exact ⟨by omega, fun m _ => by have := a1 m; omega, by omega⟩
  · obtain ⟨a1, a2, a3, a4, a5, a6⟩ := Bnd.part hs hb.ok (hb.wt 0) (hb.len 0) hb.asked (k := (τ.lev 0 l).length) (by rw [List.take_length]; exact hu)
    obtain ⟨b1, b2, b3, -⟩ := Bnd.part hs (l := l) a4 (Bnd.other a5 hb.ok (a6 1 (by omega)) (hb.wt 1)) (fun m => by rw [(a6 1 (by omega)).2 m]; exact hb.len 1 m) a3 hu'
    exact ⟨by omega, fun m _ => by have := b1 m; omega, by omega⟩
theorem downM_bnd (hs : ∀ id b, fd id = some b → b.length ≤ 140737488355328) : ∀ (l : Nat) (σ τ : Cm), l ≤ 21 → Bnd l σ → downM fd l σ = (0, τ) → Bnd 0 τ
  | 0, σ, τ, _, h, hd => by
    rw [downM] at hd
    injection hd with _ hd
    subst hd
    exact h
  | l + 1, σ, τ, hl, h, hd => by
    rw [downM] at hd
    by_cases hb : (bothM fd l σ).1 ≠ 0
    · rw [if_pos hb] at hd
      rw [hd] at hb
      exact absurd rfl hb
    · rw [if_neg hb] at hd
      have hb0 : (bothM fd l σ).1 = 0 := by simpa using hb
      exact downM_bnd hs l _ τ (by omega) (h.next hs (by omega) (by rw [← hb0])) hd
theorem goDownM_bnd (hs : ∀ id b, fd id = some b → b.length ≤ 140737488355328) {a b : Bs} (h : goDownM fd a b = (0, τ)) : Bnd 0 τ := by
  unfold goDownM at h
  by_cases hr : (rootsM fd a b).1 ≠ 0
  · rw [if_pos hr] at h
    rw [h] at hr
    exact absurd rfl hr
  · rw [if_neg hr] at h
    have hr0 : (rootsM fd a b).1 = 0 := by simpa using hr
    exact downM_bnd hs 21 _ τ (Nat.le_refl _) (rootsM_bnd hs (show rootsM fd a b = (0, (rootsM fd a b).2) by rw [← hr0])) h
end
end Go.Proofs.Ytldfjpgcemfpjaa
