/-
  ConeBack's walk: what was shown is read as its one form. Conditions: the texts lie there; lengths within reach.
-/
import Derived.Test.YtkihldkaiddbkaaCParse2
import Derived.Test.YtkihldkaiddbkaaCShow
import Derived.Test.YtkihldkaiddbkaaCRef1
import Derived.Test.YtkihldkaiddbkaaCShown
namespace Go.Proofs.Ytkihldkaiddbkaa
open Go.RowKit

theorem ofM_zero1 {xs : List Bs} (h : (Pt.ofM xs).2 = 0) : (∀ x ∈ xs, Pt.path x = true) ∧ (Pt.ofM xs).1 = Pt.formM xs ∧ (Pt.formM xs).length ≤ 64 := by
  cases hp : xs.all Pt.path with
  | false => rw [ofM_none hp] at h; simp at h
  | true =>
    refine ⟨List.all_eq_true.1 hp, ?_⟩
    by_cases h64 : (Pt.formM xs).length ≤ 64
    · rw [ofM_ok hp h64]; exact ⟨rfl, h64⟩
    · rw [ofM_many hp h64] at h; simp at h
theorem ofM_again {xs : List Bs} (h : (Pt.ofM xs).2 = 0) : Pt.ofM (Pt.ofM xs).1 = ((Pt.ofM xs).1, 0) := by
  obtain ⟨h1, h2, h3⟩ := ofM_zero1 h
  rw [h2]
  have hp : (Pt.formM xs).all Pt.path = true := List.all_eq_true.2 fun x hx => h1 x (Pt.mem_formM.1 hx).1
  rw [ofM_ok hp (by rw [Pt.formM_again]; exact h3), Pt.formM_again]
theorem said_line {d : Bs} (hs : Pt.saidM d = true) (hp : Pt.path d = true) : 10 ∉ lineM d ∧ silM (lineM d) = false ∧ okL (lineM d) = true ∧ dirL (lineM d) = d := by
  unfold lineM
  by_cases h0 : d = []
  · subst h0
    rw [if_pos rfl]
    exact ⟨by decide, by decide, by decide, by decide⟩
  · rw [if_neg h0]
    rw [said_ok hp h0] at hs
    simp only [Bool.and_eq_true, decide_eq_true_eq, Bool.not_eq_true'] at hs
    obtain ⟨⟨h1, h2⟩, h3⟩ := hs
    refine ⟨h3, h2, ?_, ?_⟩
    · unfold okL
      rw [h2, hp]
      simp
    · unfold dirL
      rw [if_neg h1]
theorem cutN_show : ∀ (f : List Bs), (∀ d ∈ f, Pt.saidM d = true) → (∀ d ∈ f, Pt.path d = true) → cutN (showM f) = f.map lineM ++ [[]]
  | [], _, _ => rfl
  | d :: r, hs, hp => by
    have h1 := said_line (hs d (by simp)) (hp d (by simp))
    have e : showM (d :: r) = lineM d ++ 10 :: showM r := by simp [showM]
    rw [e, cutN_app _ h1.1, cutN_show r (fun x hx => hs x (by simp [hx])) (fun x hx => hp x (by simp [hx]))]
    rfl
theorem bad_show : ∀ (f : List Bs) (n : Nat), (∀ d ∈ f, Pt.saidM d = true) → (∀ d ∈ f, Pt.path d = true) → badAt n (f.map lineM ++ [[]]) = none
  | [], n, _, _ => rfl
  | d :: r, n, hs, hp => by
    have h1 := said_line (hs d (by simp)) (hp d (by simp))
    show (if (silM (lineM d) || okL (lineM d)) = true then badAt (n + 1) (r.map lineM ++ [[]]) else some n) = none
    rw [if_pos (by rw [h1.2.2.1]; simp)]
    exact bad_show r (n + 1) (fun x hx => hs x (by simp [hx])) (fun x hx => hp x (by simp [hx]))
theorem dirs_show : ∀ (f : List Bs), (∀ d ∈ f, Pt.saidM d = true) → (∀ d ∈ f, Pt.path d = true) → dirsL (f.map lineM ++ [[]]) = f
  | [], _, _ => rfl
  | d :: r, hs, hp => by
    have h1 := said_line (hs d (by simp)) (hp d (by simp))
    show (if silM (lineM d) = true then dirsL (r.map lineM ++ [[]]) else dirL (lineM d) :: dirsL (r.map lineM ++ [[]])) = _
    rw [h1.2.1, if_neg (by simp), h1.2.2.2, dirs_show r (fun x hx => hs x (by simp [hx])) (fun x hx => hp x (by simp [hx]))]
/-- What was shown is read as it was. -/
theorem parse_show {f : List Bs} (hs : f.all Pt.saidM = true) (hp : ∀ d ∈ f, Pt.path d = true) (ho : Pt.ofM f = (f, 0)) : parseA (showM f) = (f, 0, 0) := by
  have hs' := List.all_eq_true.1 hs
  rw [parseA_ok (by rw [cutN_show f hs' hp]; exact bad_show f 1 hs' hp), cutN_show f hs' hp, dirs_show f hs' hp, ho]

set_option maxRecDepth 20000 in
set_option maxHeartbeats 800000 in
theorem lback_any (w : World) (v : Value) (xs : List Bs) (s : Bs) (h : Ts w v xs) (hx : xs.length ≤ 4611686018427387904) (hl : ∀ x ∈ xs, x.length ≤ 4611686018427387000) (hs : s.length ≤ 4611686018427387000) :
    Calls Try.prog 6 #[v, .string (strB s)] w fun e w' => e = .returned (.bool true) ∧ Below w.heap.size w w' := by
  have hT := fun W (hW : Below w.heap.size w W) => h.keep hW
  have hy := few_le xs
  have hl' := mem_few hl
  have hF := fun W (hW : Below w.heap.size w W) => lfew_any W _ xs (hT W hW) hx
  obtain ⟨ao, cap, rfl, -, -, -⟩ := h
  clear hT hl
  generalize xs.take 200 = ys at *
  go_enter Try.func6, Try.ntmps6
  go_wp2_with fail
  refine (shown_any w).mono ?_
  rintro e w1 ⟨rfl, hb1⟩
  go_wp2_with fail
  refine (hF w1 hb1).mono ?_
  rintro e w1 ⟨u, rfl, hu, rfl⟩
  have c1 := of_any w1 u ys hu (by omega) hl'
  have c2 := fun W (hW : Below w1.heap.size w1 W) => show_any W u ys (hu.keep hW) (by omega) hl'
  have c3 := fun W (hW : Below w1.heap.size w1 W) => has_any W u ys s (hu.keep hW) hs hl'
  have c4 := fun W (hW : Below w1.heap.size w1 W) => dir_any W u ys s (hu.keep hW) hs hl'
  have hfl := ofM_len1 ys
  have hpf := ofM_paths ys
  obtain ⟨uo, uc, rfl, -, -, -⟩ := hu
  have HA := hide (And.intro (@showA_none ys) (And.intro (@showA_not ys) (@showA_ok ys)))
  have HAG := hide (@ofM_again ys)
  have HZ := hide (@ofM_zero1 ys)
  generalize showA ys = S at *
  generalize Pt.ofM ys = R at *
  obtain ⟨f, ef⟩ := R
  obtain ⟨t, et⟩ := S
  simp only at c1 c2 hfl hpf HA HAG HZ
  clear hF
  go_wp2_with fail
  refine c1.mono ?_
  rintro e w2 ⟨A, rfl, hA, hb2⟩
  obtain ⟨Ao, Ac, rfl⟩ := own_shape hA
  go_wp2_with fail
  refine (c2 w2 hb2).mono ?_
  rintro e w3 ⟨rfl, hb3⟩
  have hb3' := hb2.trans (hb3.mono hb2.size)
  have hA3 := ts_of_own (own_keep hA hb3)
  by_cases hef : ef = 0
  · subst hef
    have hag := HAG.out rfl
    have HN1 := hide (HA.out.2.1 rfl)
    have HN2 := hide (HA.out.2.2 rfl)
    obtain ⟨z1, z2, z3⟩ := HZ.out rfl
    have hfs : ∀ x ∈ f, x.length ≤ 4611686018427387000 := fun x hx => by have := path_length (hpf x hx); omega
    have c5 := of_any w3 _ f hA3 (by omega) hfs
    rw [hag] at c5
    simp only at c5
    have HZ2 := hide z2
    have HZ1 := hide z1
    have HAGG := hide hag
    have HC5 := hide c5
    clear hag z1 z2 z3 c5 HA HAG HZ
    go_wp2_with fail
    refine (HC5.out).mono ?_
    rintro e w4 ⟨B, rfl, hB, hb4⟩
    obtain ⟨Bo, Bc, rfl⟩ := own_shape hB
    have hb4' := hb3'.trans (hb4.mono hb3'.size)
    have hA4 := hA3.keep hb4
    have hB4 := ts_of_own hB
    have HT := hide (And.intro hA4 hB4)
    have HB := hide (hb1.trans (hb4'.mono hb1.size))
    have HB4 := hide hb4'
    clear hA hA3 hB hb1 hb2 hb3 hb4 hb3' hb4' c1 c2 hA4 hB4
    go_wp2_with fail
    go_loopw [12] (fun i wr => Below w4.heap.size w4 wr ∧ ∃ k : Nat, i = .int .i64 (k : Int) ∧ k ≤ f.length ∧ ∀ j (hj : j < f.length), j < k → Pt.saidM f[j] = true) (fun i _ => f.length - (intOf i).toNat)
    case atStart => exact ⟨Below.refl _ _, 0, rfl, by omega, fun j _ hj => absurd hj (by omega)⟩
    case round =>
      obtain ⟨hb, k, rfl, hk, hq⟩ := hrel
      have HBW := hide hb
      by_cases hlt : k < f.length
      · obtain ⟨b, off, rfl, hbl, hc⟩ := Ts.at2 (HT.out.1.keep hb) k hlt
        have hpx := hpf f[k] (List.getElem_mem hlt)
        have hxl := path_length hpx
        have hsa := fun W => rsaid_any W f[k] (by omega)
        have HNS := hide (fun h => HN1.out (not_said hlt h))
        have HN := hide (fun h j hj hjk => (by
          by_cases e : j = k
          · subst e; exact h
          · exact hq j hj (by omega)) : Pt.saidM f[k] = true → ∀ j (hj : j < f.length), j < k + 1 → Pt.saidM f[j] = true)
        generalize f[k] = x at *
        generalize Pt.saidM x = sd at *
        cases sd with
        | false =>
          have hns := HNS.out rfl
          injection hns with hn1 hn2
          subst hn1 hn2
          have tnil := toL []
          have hsm := same_any wr _ _ f f (HT.out.2.keep hb) (HT.out.1.keep hb) (by omega) (by omega)
          rw [decide_eq_true rfl] at hsm
          have HS := hide hsm
          clear hsm hq hb HN HNS c3 c4
          go_wp2_with fail
          refine (hsa wr).mono ?_
          rintro e w5 ⟨rfl, rfl⟩
          go_wp2_with fail
          refine (HS.out).mono ?_
          rintro e w6 ⟨rfl, hb6⟩
          have HB6 := hide (HB.out.trans ((HBW.out.trans (hb6.mono HBW.out.size)).mono HB.out.size))
          clear hb6
          go_wp2
          go_ret
          exact ⟨rfl, HB6.out⟩
        | true =>
          have HN3 := hide (HN.out rfl)
          clear HN HNS hq hb
          go_wp2_with fail
          refine (hsa wr).mono ?_
          rintro e w5 ⟨rfl, rfl⟩
          go_wp2
          go_roundw
          case rel => exact ⟨HBW.out, k + 1, by go_num, by omega, HN3.out⟩
          case measure => simp [intOf]; omega
      · have hall := all_said (fun j hj => hq j hj (by omega))
        have hok := HN2.out hall
        injection hok with ho1 ho2
        subst ho1 ho2
        have hps := parse_show hall hpf HAGG.out
        have hsl := showM_len f (fun x hx => path_length (hpf x hx))
        have c6 := fun W => cparse_any W (showM f) (by omega)
        rw [hps] at c6
        simp only at c6
        have HC6 := hide c6
        have hbw4 := HB4.out.trans (hb.mono HB4.out.size)
        have HW4 := hide hbw4
        have HTW := hide (And.intro (HT.out.1.keep hb) (HT.out.2.keep hb))
        have HBB := hide (HB.out.trans (hb.mono HB.out.size))
        have hh := Pt.hasM_form HZ1.out s
        have hd := Pt.dirM_form HZ1.out s
        rw [← HZ2.out] at hh hd
        have c7 := fun W (hW : Below wr.heap.size wr W) => has_any W _ f s (HTW.out.1.keep hW) hs hfs
        have c8 := fun W (hW : Below wr.heap.size wr W) => dir_any W _ f s (HTW.out.1.keep hW) hs hfs
        rw [hh] at c7
        rw [hd] at c8
        have c3' := fun W (hW : Below wr.heap.size wr W) => c3 W (HW4.out.trans (hW.mono HW4.out.size))
        have c4' := fun W (hW : Below wr.heap.size wr W) => c4 W (HW4.out.trans (hW.mono HW4.out.size))
        generalize Pt.hasM ys s = p at *
        generalize Pt.dirM ys s = q at *
        generalize showM f = tx at *
        clear hq hb c3 c4 c6 hps hh hd hbw4 hall
        go_wp2_with fail
        refine (HC6.out _).mono ?_
        rintro e w5 ⟨M, rfl, hM, hb5⟩
        obtain ⟨Mo, Mc, rfl⟩ := own_shape hM
        have hs1 := same_any w5 _ _ f f (ts_of_own hM) (HTW.out.1.keep hb5) (by omega) (by omega)
        rw [decide_eq_true rfl] at hs1
        have HS1 := hide hs1
        have HB5 := hide hb5
        clear hs1 hM hb5
        go_wp2_with fail
        refine (HS1.out).mono ?_
        rintro e w6 ⟨rfl, hb6⟩
        have hb6' := HB5.out.trans (hb6.mono HB5.out.size)
        have hs2 := same_any w6 _ _ f f (HTW.out.2.keep hb6') (HTW.out.1.keep hb6') (by omega) (by omega)
        rw [decide_eq_true rfl] at hs2
        have HS2 := hide hs2
        have HB6 := hide hb6'
        clear hs2 hb6 hb6'
        go_wp2_with fail
        refine (HS2.out).mono ?_
        rintro e w7 ⟨rfl, hb7⟩
        have hb7' := HB6.out.trans (hb7.mono HB6.out.size)
        have HB7 := hide hb7'
        clear hb7 hb7'
        go_wp2_with fail
        refine (c7 _ HB7.out).mono ?_
        rintro e w8 ⟨rfl, hb8⟩
        have HB8 := hide (HB7.out.trans (hb8.mono HB7.out.size))
        clear hb8
        go_wp2_with fail
        refine (c3' _ HB8.out).mono ?_
        rintro e w9 ⟨rfl, hb9⟩
        have HB9 := hide (HB8.out.trans (hb9.mono HB8.out.size))
        clear hb9
        go_wp2_with fail
        refine (c8 _ HB9.out).mono ?_
        rintro e w10 ⟨rfl, hb10⟩
        have HB10 := hide (HB9.out.trans (hb10.mono HB9.out.size))
        clear hb10
        go_wp2_with fail
        refine (c4' _ HB10.out).mono ?_
        rintro e w11 ⟨rfl, hb11⟩
        have HB11 := hide (HBB.out.trans ((HB10.out.trans (hb11.mono HB10.out.size)).mono HBB.out.size))
        clear hb11 c7 c8 c3' c4'
        go_wp2
        go_ret
        exact ⟨rfl, HB11.out⟩
  · have hno := HA.out.1 hef
    injection hno with hn1 hn2
    subst hn1 hn2
    have tnil := toL []
    have hfe : (et == 0) = false := by simpa using hef
    have HB := hide (hb1.trans (hb3'.mono hb1.size))
    clear hA hA3 hb1 hb2 hb3 hb3' c1 c2 c3 c4
    go_wp2
    go_ret
    exact ⟨rfl, HB.out⟩
end Go.Proofs.Ytkihldkaiddbkaa
