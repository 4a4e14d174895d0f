/-
  The reference's disk, as it lies; its small functions. Conditions: as each says.
-/
import Derived.Test.YtlejgdjkdbamkaaRefRow
import Derived.Test.YtlejgdjkdbamkaaJStands
import Derived.ArgAppend
namespace Go.Proofs.Ytlejgdjkdbamkaa
open Go.RowKit

/-- The cells of acts, files, numbers. -/
def ac : Ac → List Value
  | .made n f => [.int .i64 0, .string (strB n), .string ⟨#[]⟩, .int .i64 (f : Int), .int .i64 0]
  | .ren a b => [.int .i64 1, .string (strB a), .string (strB b), .int .i64 0, .int .i64 0]
  | .rem n => [.int .i64 2, .string (strB n), .string ⟨#[]⟩, .int .i64 0, .int .i64 0]
  | .more f k => [.int .i64 3, .string ⟨#[]⟩, .string ⟨#[]⟩, .int .i64 (f : Int), .int .i64 (k : Int)]
def acs : List Ac → List Value
  | [] => []
  | a :: r => ac a ++ acs r
def fc : List Fl → List Value
  | [] => []
  | x :: r => .string (strB x.b) :: .int .i64 (x.sure : Int) :: fc r
def ic (ks : List Int) : List Value := ks.map fun k => .int .i64 k
theorem ac_len (a : Ac) : (ac a).length = 5 := by cases a <;> rfl
theorem ac_one (a : Ac) : ∀ x ∈ ac a, x.oneCell' = true := by
  intro x hx
  cases a <;> simp only [ac, List.mem_cons, List.not_mem_nil, or_false] at hx <;> rcases hx with rfl | rfl | rfl | rfl | rfl <;> rfl
theorem acs_append (l m : List Ac) : acs (l ++ m) = acs l ++ acs m := by
  induction l with
  | nil => rfl
  | cons p r ih => simp [acs, ih]
theorem acs_one (a : Ac) : acs [a] = ac a := by simp [acs]
theorem acs_at : ∀ (l : List Ac) (j : Nat) (h : j < l.length) (i : Nat) (_ : i < 5), (acs l)[j * 5 + i]? = (ac l[j])[i]?
  | a :: r, 0, _, i, hi => by
    show (ac a ++ acs r)[0 * 5 + i]? = _
    rw [List.getElem?_append_left (by rw [ac_len]; omega)]
    simp
  | a :: r, j + 1, h, i, hi => by
    show (ac a ++ acs r)[(j + 1) * 5 + i]? = _
    rw [List.getElem?_append_right (by rw [ac_len]; omega), ac_len, show (j + 1) * 5 + i - 5 = j * 5 + i by omega, acs_at r j (by simpa using h) i hi]
    rfl
theorem fc_append (l m : List Fl) : fc (l ++ m) = fc l ++ fc m := by
  induction l with
  | nil => rfl
  | cons p r ih => simp [fc, ih]
theorem fc_at : ∀ (l : List Fl) (j : Nat) (h : j < l.length), (fc l)[j * 2]? = some (.string (strB l[j].b)) ∧ (fc l)[j * 2 + 1]? = some (.int .i64 (l[j].sure : Int))
  | p :: r, 0, _ => ⟨rfl, rfl⟩
  | p :: r, j + 1, h => by
    have := fc_at r j (by simpa using h)
    rw [show (j + 1) * 2 = j * 2 + 1 + 1 by omega]
    simpa [fc] using this
structure Rg where
  fv : Value
  dv : Value
  sv : Value
  av : Value
  lv : Value
  off : Bool
  cut : Int
  ks : List Int
def rcells (S : Dk) (G : Rg) : Array Value := #[G.fv, G.dv, G.sv, G.av, .int .i64 (S.room : Int), .int .i64 (S.n : Int), .bool G.off, .int .i64 G.cut, G.lv]
/-- At r lies the reference's disk S, as G says, in blocks R, made since B. -/
structure RR (B : Nat) (w : World) (R : Nat → Prop) (r : Nat) (S : Dk) (G : Rg) : Prop where
  blk : w.heap[r]? = some (.cells (rcells S G) 72)
  self : R r
  fls : w.ownsRow B 80 2 G.fv S.files.length (fc S.files)
  flsR : ∀ k, G.fv.ownBlock = some k → R k
  dir : w.ownsRow B 78 2 G.dv S.dir.length (nc S.dir)
  dirR : ∀ k, G.dv.ownBlock = some k → R k
  sur : w.ownsRow B 78 2 G.sv S.sure.length (nc S.sure)
  surR : ∀ k, G.sv.ownBlock = some k → R k
  act : w.ownsRow B 117 5 G.av S.acts.length (acs S.acts)
  actR : ∀ k, G.av.ownBlock = some k → R k
  fai : w.ownsRow B 3 1 G.lv G.ks.length (ic G.ks)
  faiR : ∀ k, G.lv.ownBlock = some k → R k
  low : ∀ k, R k → B ≤ k ∧ k < w.heap.size
  fails : ∀ k : Nat, S.fails k = G.ks.contains (k : Int)
  off : G.off = true → S.on = false
  cut : S.cut = if G.cut < 0 then none else some G.cut.toNat
section
variable {B r : Nat} {w w' : World} {R : Nat → Prop} {S : Dk} {G : Rg}
theorem RR.keep {X : Nat → Prop} (h : RR B w R r S G) (hc : Chg X w w') (hX : ∀ k, R k → ¬ X k) : RR B w' R r S G :=
  ⟨hc.keep h.blk (hX _ h.self), h.self, own_keep h.fls hc fun k hk => hX k (h.flsR k hk), h.flsR, own_keep h.dir hc fun k hk => hX k (h.dirR k hk), h.dirR,
    own_keep h.sur hc fun k hk => hX k (h.surR k hk), h.surR, own_keep h.act hc fun k hk => hX k (h.actR k hk), h.actR, own_keep h.fai hc fun k hk => hX k (h.faiR k hk), h.faiR,
    fun k hk => ⟨(h.low k hk).1, Nat.lt_of_lt_of_le (h.low k hk).2 hc.size⟩, h.fails, h.off, h.cut⟩
end
def RS (B : Nat) (w : World) (R : Nat → Prop) (r : Nat) (S : Dk) (m : Nat) : Prop := ∃ G, RR B w R r S G ∧ G.ks.length ≤ m
def RAfter (B : Nat) (w : World) (R : Nat → Prop) (r : Nat) (S : Dk) (m : Nat) (w' : World) : Prop := ∃ R', RS B w' R' r S m ∧ (∀ k, R' k → R k ∨ w.heap.size ≤ k) ∧ Chg R w w'

set_option maxRecDepth 20000 in
theorem rIsName_any (w : World) (l : List UInt8) (hl : l.length < 4611686018427387904) :
    Calls Try.prog 60 #[.string (strB l)] w fun e w' => e = .returned (.bool (isNm l)) ∧ w' = w := by
  have hsz := strB_size l
  go_enter Try.func60, Try.ntmps60
  go_wp2
  go_loopw [3] (fun x wr => ∃ k : Nat, k ≤ l.length ∧ x = .int .i64 (k : Int) ∧ (∀ j, j < k → 33 ≤ (l.getD j 0).toNat ∧ (l.getD j 0).toNat ≤ 126) ∧ w = wr) (fun x _ => l.length - (intOf x).toNat)
  case atStart => exact ⟨0, Nat.zero_le _, rfl, fun j hj => absurd hj (Nat.not_lt_zero j), rfl⟩
  case round =>
    obtain ⟨k, hk, rfl, hall, rfl⟩ := hrel
    by_cases hlt : k < l.length
    · have hi := index_str w l .i64 k hlt
      have hc := (l.getD k 0).toNat_lt
      by_cases hlo : (l.getD k 0).toNat < 33
      · have hf := isNm_false hlt (Or.inl hlo)
        have HF := hide hf
        clear hf hall
        generalize l.getD k 0 = c at *
        go_wp2
        go_ret
        exact ⟨ret_bool HF.out.symm, rfl⟩
      by_cases hhi : 126 < (l.getD k 0).toNat
      · have hf := isNm_false hlt (Or.inr hhi)
        have HF := hide hf
        clear hf hall
        generalize l.getD k 0 = c at *
        go_wp2
        go_ret
        exact ⟨ret_bool HF.out.symm, rfl⟩
      have HK : Hid (33 ≤ (l.getD k 0).toNat ∧ (l.getD k 0).toNat ≤ 126) := ⟨by omega, by omega⟩
      have HA := hide hall
      clear hall
      generalize hcc : l.getD k 0 = c at *
      have HCC := hide hcc
      clear hcc
      go_wp2
      refine ⟨⟨k + 1, by omega, by go_num, fun j hj => ?_, trivial⟩, by simp [intOf]; omega⟩
      by_cases e : j = k
      · subst e; rw [HCC.out]; exact HK.out
      · exact HA.out j (by omega)
    · have hkl : k = l.length := by omega
      subst hkl
      by_cases h1 : 1 ≤ l.length
      · by_cases h2 : l.length ≤ 80
        · have HF := hide (isNm_true h1 h2 hall)
          clear hall
          go_wp2
          go_ret
          exact ⟨ret_bool (by rw [HF.out]; exact decide_eq_true (by omega)), rfl⟩
        · have HF := hide (show isNm l = false by simp [isNm]; omega)
          clear hall
          go_wp2
          go_ret
          exact ⟨ret_bool (by rw [HF.out]; exact decide_eq_false (by omega)), rfl⟩
      · have HF := hide (show isNm l = false by simp [isNm]; omega)
        clear hall
        go_wp2
        go_ret
        exact ⟨ret_bool HF.out.symm, rfl⟩

set_option maxRecDepth 20000 in
set_option maxHeartbeats 800000 in
theorem failing_any {B r : Nat} {R : Nat → Prop} {S : Dk} {G : Rg} (w : World) (h : RR B w R r S G) (hl : G.ks.length < 1099511627776) (n : Nat) :
    Calls Try.prog 63 #[.pointer (some ⟨r, 0, none⟩), .int .i64 (n : Int)] w fun e w' => e = .returned (.bool (S.fails n)) ∧ w' = w := by
  have c8 := cell_of h.blk 8
  have hrow := h.fai
  have HF := hide (h.fails n)
  dsimp only [rcells] at c8
  clear h
  obtain ⟨fv, dv, sv, av, lv, off, cut, ks⟩ := G
  dsimp only at hrow c8 HF hl
  obtain ⟨ao, cap, rfl⟩ := own_shape hrow
  go_enter Try.func63, Try.ntmps63
  go_wp2_with fail
  go_loopw [5] (fun i wr => ∃ j : Nat, i = .int .i64 (j : Int) ∧ j ≤ ks.length ∧ ks.contains (n : Int) = (ks.drop j).contains (n : Int) ∧ w = wr)
    (fun i _ => ks.length - (intOf i).toNat)
  case atStart => exact ⟨0, rfl, by omega, rfl, rfl⟩
  case round =>
    obtain ⟨j, rfl, hj, hlk, rfl⟩ := hrel
    have HL := hide hlk
    clear hlk
    by_cases hlt : j < ks.length
    · obtain ⟨g, rfl, -, -, hc⟩ := own_pos hrow (by omega)
      have h1 := hc j (.int .i64 ks[j]) (by simp [ic, hlt])
      have hd : ks.drop j = ks[j] :: ks.drop (j + 1) := List.drop_eq_getElem_cons hlt
      have HD := hide hd
      clear hd hc
      by_cases hn : ks[j] = (n : Int)
      · have HN := hide hn
        have hb : (ks[j] == (n : Int)) = true := by simp [hn]
        clear hn
        go_wp2
        go_ret
        refine ⟨ret_bool ?_, rfl⟩
        rw [HF.out, HL.out, HD.out, List.contains_cons, HN.out]
        simp
      · have HN := hide hn
        have hb : (ks[j] == (n : Int)) = false := by simp [hn]
        clear hn
        go_wp2
        refine ⟨⟨j + 1, by go_num, by omega, ?_, trivial⟩, by simp [intOf]; omega⟩
        rw [HL.out, HD.out, List.contains_cons]
        have : ((n : Int) == ks[j]) = false := by simp; exact fun e => HN.out e.symm
        rw [this]
        simp
    · go_wp2
      go_ret
      refine ⟨ret_bool ?_, rfl⟩
      rw [HF.out, HL.out, List.drop_eq_nil_of_le (by omega)]
      rfl

theorem RR.cutOn {B r : Nat} {w : World} {R : Nat → Prop} {S : Dk} {G : Rg} (h : RR B w R r S G) : S.on = decide (G.cut < 0 ∨ (S.n : Int) < G.cut) := by
  have := h.cut
  unfold Dk.on
  by_cases hc : G.cut < 0
  · rw [if_pos hc] at this
    rw [this]
    simp [hc]
  · rw [if_neg hc] at this
    rw [this]
    show decide _ = decide _
    congr 1
    simp only [eq_iff_iff]
    omega
theorem RR.set {B r : Nat} {w w' : World} {R : Nat → Prop} {S S' : Dk} {G G' : Rg} (h : RR B w R r S G) (hc : Chg (· = r) w w') (hb : w'.heap[r]? = some (.cells (rcells S' G') 72))
    (h1 : S'.files = S.files ∧ G'.fv = G.fv) (h2 : S'.dir = S.dir ∧ G'.dv = G.dv) (h3 : S'.sure = S.sure ∧ G'.sv = G.sv) (h4 : S'.acts = S.acts ∧ G'.av = G.av) (h5 : S'.fails = S.fails ∧ G'.lv = G.lv ∧ G'.ks = G.ks)
    (h6 : G'.off = true → S'.on = false) (h7 : S'.cut = if G'.cut < 0 then none else some G'.cut.toNat) : RR B w' R r S' G' := by
  have ne : ∀ {v : Value} {n : Nat} {e : TypeId} {size : Nat} {xs : List Value}, w.ownsRow B e size v n xs → e ≠ 72 → ∀ k, v.ownBlock = some k → ¬ k = r := fun hr he k hk e => by
    obtain ⟨cur, hcur⟩ := own_block hr hk
    exact ne_tag hcur h.blk (show _ ≠ 72 from he) e
  refine ⟨hb, h.self, ?_, ?_, ?_, ?_, ?_, ?_, ?_, ?_, ?_, ?_, fun k hk => ⟨(h.low k hk).1, Nat.lt_of_lt_of_le (h.low k hk).2 hc.size⟩, ?_, h6, h7⟩
  · rw [h1.1, h1.2]; exact own_keep h.fls hc (ne h.fls (by decide))
  · rw [h1.2]; exact h.flsR
  · rw [h2.1, h2.2]; exact own_keep h.dir hc (ne h.dir (by decide))
  · rw [h2.2]; exact h.dirR
  · rw [h3.1, h3.2]; exact own_keep h.sur hc (ne h.sur (by decide))
  · rw [h3.2]; exact h.surR
  · rw [h4.1, h4.2]; exact own_keep h.act hc (ne h.act (by decide))
  · rw [h4.2]; exact h.actR
  · rw [h5.2.1, h5.2.2]; exact own_keep h.fai hc (ne h.fai (by decide))
  · rw [h5.2.1]; exact h.faiR
  · intro k; rw [h5.1, h5.2.2]; exact h.fails k

set_option maxRecDepth 20000 in
set_option maxHeartbeats 1600000 in
/-- How an operation begins. -/
theorem starts_on {B r : Nat} {R : Nat → Prop} {S : Dk} {G : Rg} (w : World) (h : RR B w R r S G) (hn : S.n < 1099511627776) (hon : S.on = true) :
    Calls Try.prog 59 #[.pointer (some ⟨r, 0, none⟩)] w fun e w' => e = .returned (.tuple #[.int .i64 (S.n : Int), .bool true]) ∧ RR B w' R r S.next G ∧ Chg (· = r) w w' := by
  have hoff : G.off = false := by
    cases e : G.off with
    | false => rfl
    | true => rw [h.off e] at hon; cases hon
  have hcu := h.cutOn
  rw [hon] at hcu
  have hcu' := of_decide_eq_true hcu.symm
  have hb := h.blk
  have c5 := cell_of hb 5
  have c6 := cell_of hb 6
  have c7 := cell_of hb 7
  dsimp only [rcells] at c5 c6 c7
  rw [hoff] at c6
  have H := hide h
  have HB := hide hb
  have HC := hide hcu'
  have HOF := hide hoff
  have t5 := thawed hb 5
  clear h hb hcu hcu' hoff
  go_enter Try.func59, Try.ntmps59
  by_cases hc0 : G.cut < 0
  · have hd0 : decide (0 ≤ G.cut) = false := decide_eq_false (by omega)
    go_wp2_with fail
    refine wp_region_held_drew (S := fun W => W.cell? ⟨r, 5, none⟩ = some (.int .i64 (S.n : Int)) ∧ W.cell? ⟨r, 6, none⟩ = some (.bool false) ∧ W.cell? ⟨r, 7, none⟩ = some (.int .i64 G.cut)) (by kernel_rfl) (⟨c5, c6, c7⟩) (fun hHeld => ?_)
    refine takeH (i := 0) (v := ?_) rfl (by kernel_rfl) (by kernel_rfl) (by kernel_rfl) (fun _ _ _ h => h) rfl ?_ hHeld ?_
    rotate_left
    · intro w hS; (try dsimp only at hS); obtain ⟨hS0, hS1, hS2⟩ := hS; go_simp; first | done | (with_reducible rfl)
    try simp only [Act.put, ly1, ly2, ly3]
    refine takeH (i := 1) (v := ?_) rfl (by kernel_rfl) (by kernel_rfl) (by kernel_rfl) (fun _ _ _ h => h) rfl ?_ hHeld ?_
    rotate_left
    · intro w hS; (try dsimp only at hS); obtain ⟨hS0, hS1, hS2⟩ := hS; go_simp; first | done | (with_reducible rfl)
    try simp only [Act.put, ly1, ly2, ly3]
    refine takeH (i := 2) (v := ?_) rfl (by kernel_rfl) (by kernel_rfl) (by kernel_rfl) (fun _ _ _ h => h) rfl ?_ hHeld ?_
    rotate_left
    · intro w hS; (try dsimp only at hS); obtain ⟨hS0, hS1, hS2⟩ := hS; go_simp; first | done | (with_reducible rfl)
    try simp only [Act.put, ly1, ly2, ly3]
    refine takeH (i := 3) (v := ?_) rfl (by kernel_rfl) (by kernel_rfl) (by kernel_rfl) (fun _ _ _ h => h) rfl ?_ hHeld ?_
    rotate_left
    · intro w hS; (try dsimp only at hS); obtain ⟨hS0, hS1, hS2⟩ := hS; go_simp; first | done | (with_reducible rfl)
    try simp only [Act.put, ly1, ly2, ly3]
    refine takeH (i := 4) (v := ?_) rfl (by kernel_rfl) (by kernel_rfl) (by kernel_rfl) (fun _ _ _ h => h) rfl ?_ hHeld ?_
    rotate_left
    · intro w hS; (try dsimp only at hS); obtain ⟨hS0, hS1, hS2⟩ := hS; go_simp; first | done | (with_reducible rfl)
    try simp only [Act.put, ly1, ly2, ly3]
    refine takeH (i := 5) (v := ?_) rfl (by kernel_rfl) (by kernel_rfl) (by kernel_rfl) (fun _ _ _ h => h) rfl ?_ hHeld ?_
    rotate_left
    · intro w hS; (try dsimp only at hS); obtain ⟨hS0, hS1, hS2⟩ := hS; go_simp; first | done | (with_reducible rfl)
    try simp only [Act.put, ly1, ly2, ly3]
    refine takeH (i := 6) (v := ?_) rfl (by kernel_rfl) (by kernel_rfl) (by kernel_rfl) (fun _ _ _ h => h) rfl ?_ hHeld ?_
    rotate_left
    · intro w hS; (try dsimp only at hS); obtain ⟨hS0, hS1, hS2⟩ := hS; go_simp; first | done | (with_reducible rfl)
    try simp only [Act.put, ly1, ly2, ly3]
    refine takeH (i := 7) (v := ?_) rfl (by kernel_rfl) (by kernel_rfl) (by kernel_rfl) (fun _ _ _ h => h) rfl ?_ hHeld ?_
    rotate_left
    · intro w hS; (try dsimp only at hS); obtain ⟨hS0, hS1, hS2⟩ := hS; go_simp; first | done | (with_reducible rfl)
    try simp only [Act.put, ly1, ly2, ly3]
    refine takeH (i := 8) (v := ?_) rfl (by kernel_rfl) (by kernel_rfl) (by kernel_rfl) (fun _ _ _ h => h) rfl ?_ hHeld ?_
    rotate_left
    · intro w hS; (try dsimp only at hS); obtain ⟨hS0, hS1, hS2⟩ := hS; go_simp; first | done | (with_reducible rfl)
    try simp only [Act.put, ly1, ly2, ly3]
    refine takeH (i := 9) (v := ?_) rfl (by kernel_rfl) (by kernel_rfl) (by kernel_rfl) (fun _ _ _ h => h) rfl ?_ hHeld ?_
    rotate_left
    · intro w hS; (try dsimp only at hS); obtain ⟨hS0, hS1, hS2⟩ := hS; go_simp; first | done | (with_reducible rfl)
    try simp only [Act.put, ly1, ly2, ly3]
    refine takeH (i := 10) (v := ?_) rfl (by kernel_rfl) (by kernel_rfl) (by kernel_rfl) (fun _ _ _ h => h) rfl ?_ hHeld ?_
    rotate_left
    · intro w hS; (try dsimp only at hS); obtain ⟨hS0, hS1, hS2⟩ := hS; go_simp; first | done | (with_reducible rfl)
    try simp only [Act.put, ly1, ly2, ly3]
    refine skipH (i := 11) rfl (by kernel_rfl) (by kernel_rfl) (by kernel_rfl) (fun _ _ _ h => h) rfl hHeld ?_
    try simp only [Act.put, ly1, ly2, ly3]
    refine skipH (i := 12) rfl (by kernel_rfl) (by kernel_rfl) (by kernel_rfl) (fun _ _ _ h => h) rfl hHeld ?_
    try simp only [Act.put, ly1, ly2, ly3]
    refine skipH (i := 13) rfl (by kernel_rfl) (by kernel_rfl) (by kernel_rfl) (fun _ _ _ h => h) rfl hHeld ?_
    try simp only [Act.put, ly1, ly2, ly3]
    refine skipH (i := 14) rfl (by kernel_rfl) (by kernel_rfl) (by kernel_rfl) (fun _ _ _ h => h) rfl hHeld ?_
    try simp only [Act.put, ly1, ly2, ly3]
    refine skipH (i := 15) rfl (by kernel_rfl) (by kernel_rfl) (by kernel_rfl) (fun _ _ _ h => h) rfl hHeld ?_
    try simp only [Act.put, ly1, ly2, ly3]
    refine skipH (i := 16) rfl (by kernel_rfl) (by kernel_rfl) (by kernel_rfl) (fun _ _ _ h => h) rfl hHeld ?_
    try simp only [Act.put, ly1, ly2, ly3]
    refine skipH (i := 17) rfl (by kernel_rfl) (by kernel_rfl) (by kernel_rfl) (fun _ _ _ h => h) rfl hHeld ?_
    try simp only [Act.put, ly1, ly2, ly3]
    refine skipH (i := 18) rfl (by kernel_rfl) (by kernel_rfl) (by kernel_rfl) (fun _ _ _ h => h) rfl hHeld ?_
    try simp only [Act.put, ly1, ly2, ly3]
    refine skipH (i := 19) rfl (by kernel_rfl) (by kernel_rfl) (by kernel_rfl) (fun _ _ _ h => h) rfl hHeld ?_
    try simp only [Act.put, ly1, ly2, ly3]
    refine takeH (i := 20) (v := ?_) rfl (by kernel_rfl) (by kernel_rfl) (by kernel_rfl) (fun _ _ _ h => h) rfl ?_ hHeld ?_
    rotate_left
    · intro w hS; (try dsimp only at hS); obtain ⟨hS0, hS1, hS2⟩ := hS; go_simp; first | done | (with_reducible rfl)
    try simp only [Act.put, ly1, ly2, ly3]
    refine takeH (i := 21) (v := ?_) rfl (by kernel_rfl) (by kernel_rfl) (by kernel_rfl) (fun _ _ _ h => h) rfl ?_ hHeld ?_
    rotate_left
    · intro w hS; (try dsimp only at hS); obtain ⟨hS0, hS1, hS2⟩ := hS; go_simp; first | done | (with_reducible rfl)
    try simp only [Act.put, ly1, ly2, ly3]
    refine wpAnyH_done (by kernel_rfl) ?_ _
    clear hHeld
    go_wp2
    go_ret2
    have hc1 : Chg (· = r) w (w.setCell ⟨r, 5, none⟩ (.int .i64 ((S.n : Int) + 1))).drew := (chg_set _ _ _ _).drew
    exact ⟨rfl, H.out.set (S' := S.next) (G' := G) hc1 (heap_set HB.out 5 _) ⟨rfl, rfl⟩ ⟨rfl, rfl⟩ ⟨rfl, rfl⟩ ⟨rfl, rfl⟩ ⟨rfl, rfl, rfl⟩ (fun e => by rw [HOF.out] at e; cases e) H.out.cut, hc1⟩
  · have hd0 : decide (0 ≤ G.cut) = true := decide_eq_true (by omega)
    have hd1 : decide (G.cut ≤ (S.n : Int)) = false := decide_eq_false (by have := HC.out; omega)
    go_wp2_with fail
    refine wp_region_held_drew (S := fun W => W.cell? ⟨r, 5, none⟩ = some (.int .i64 (S.n : Int)) ∧ W.cell? ⟨r, 6, none⟩ = some (.bool false) ∧ W.cell? ⟨r, 7, none⟩ = some (.int .i64 G.cut)) (by kernel_rfl) (⟨c5, c6, c7⟩) (fun hHeld => ?_)
    refine takeH (i := 0) (v := ?_) rfl (by kernel_rfl) (by kernel_rfl) (by kernel_rfl) (fun _ _ _ h => h) rfl ?_ hHeld ?_
    rotate_left
    · intro w hS; (try dsimp only at hS); obtain ⟨hS0, hS1, hS2⟩ := hS; go_simp; first | done | (with_reducible rfl)
    try simp only [Act.put, ly1, ly2, ly3]
    refine takeH (i := 1) (v := ?_) rfl (by kernel_rfl) (by kernel_rfl) (by kernel_rfl) (fun _ _ _ h => h) rfl ?_ hHeld ?_
    rotate_left
    · intro w hS; (try dsimp only at hS); obtain ⟨hS0, hS1, hS2⟩ := hS; go_simp; first | done | (with_reducible rfl)
    try simp only [Act.put, ly1, ly2, ly3]
    refine takeH (i := 2) (v := ?_) rfl (by kernel_rfl) (by kernel_rfl) (by kernel_rfl) (fun _ _ _ h => h) rfl ?_ hHeld ?_
    rotate_left
    · intro w hS; (try dsimp only at hS); obtain ⟨hS0, hS1, hS2⟩ := hS; go_simp; first | done | (with_reducible rfl)
    try simp only [Act.put, ly1, ly2, ly3]
    refine takeH (i := 3) (v := ?_) rfl (by kernel_rfl) (by kernel_rfl) (by kernel_rfl) (fun _ _ _ h => h) rfl ?_ hHeld ?_
    rotate_left
    · intro w hS; (try dsimp only at hS); obtain ⟨hS0, hS1, hS2⟩ := hS; go_simp; first | done | (with_reducible rfl)
    try simp only [Act.put, ly1, ly2, ly3]
    refine takeH (i := 4) (v := ?_) rfl (by kernel_rfl) (by kernel_rfl) (by kernel_rfl) (fun _ _ _ h => h) rfl ?_ hHeld ?_
    rotate_left
    · intro w hS; (try dsimp only at hS); obtain ⟨hS0, hS1, hS2⟩ := hS; go_simp; first | done | (with_reducible rfl)
    try simp only [Act.put, ly1, ly2, ly3]
    refine takeH (i := 5) (v := ?_) rfl (by kernel_rfl) (by kernel_rfl) (by kernel_rfl) (fun _ _ _ h => h) rfl ?_ hHeld ?_
    rotate_left
    · intro w hS; (try dsimp only at hS); obtain ⟨hS0, hS1, hS2⟩ := hS; go_simp; first | done | (with_reducible rfl)
    try simp only [Act.put, ly1, ly2, ly3]
    refine takeH (i := 6) (v := ?_) rfl (by kernel_rfl) (by kernel_rfl) (by kernel_rfl) (fun _ _ _ h => h) rfl ?_ hHeld ?_
    rotate_left
    · intro w hS; (try dsimp only at hS); obtain ⟨hS0, hS1, hS2⟩ := hS; go_simp; first | done | (with_reducible rfl)
    try simp only [Act.put, ly1, ly2, ly3]
    refine takeH (i := 7) (v := ?_) rfl (by kernel_rfl) (by kernel_rfl) (by kernel_rfl) (fun _ _ _ h => h) rfl ?_ hHeld ?_
    rotate_left
    · intro w hS; (try dsimp only at hS); obtain ⟨hS0, hS1, hS2⟩ := hS; go_simp; first | done | (with_reducible rfl)
    try simp only [Act.put, ly1, ly2, ly3]
    refine takeH (i := 8) (v := ?_) rfl (by kernel_rfl) (by kernel_rfl) (by kernel_rfl) (fun _ _ _ h => h) rfl ?_ hHeld ?_
    rotate_left
    · intro w hS; (try dsimp only at hS); obtain ⟨hS0, hS1, hS2⟩ := hS; go_simp; first | done | (with_reducible rfl)
    try simp only [Act.put, ly1, ly2, ly3]
    refine takeH (i := 9) (v := ?_) rfl (by kernel_rfl) (by kernel_rfl) (by kernel_rfl) (fun _ _ _ h => h) rfl ?_ hHeld ?_
    rotate_left
    · intro w hS; (try dsimp only at hS); obtain ⟨hS0, hS1, hS2⟩ := hS; go_simp; first | done | (with_reducible rfl)
    try simp only [Act.put, ly1, ly2, ly3]
    refine takeH (i := 10) (v := ?_) rfl (by kernel_rfl) (by kernel_rfl) (by kernel_rfl) (fun _ _ _ h => h) rfl ?_ hHeld ?_
    rotate_left
    · intro w hS; (try dsimp only at hS); obtain ⟨hS0, hS1, hS2⟩ := hS; go_simp; first | done | (with_reducible rfl)
    try simp only [Act.put, ly1, ly2, ly3]
    refine takeH (i := 11) (v := ?_) rfl (by kernel_rfl) (by kernel_rfl) (by kernel_rfl) (fun _ _ _ h => h) rfl ?_ hHeld ?_
    rotate_left
    · intro w hS; (try dsimp only at hS); obtain ⟨hS0, hS1, hS2⟩ := hS; go_simp; first | done | (with_reducible rfl)
    try simp only [Act.put, ly1, ly2, ly3]
    refine takeH (i := 12) (v := ?_) rfl (by kernel_rfl) (by kernel_rfl) (by kernel_rfl) (fun _ _ _ h => h) rfl ?_ hHeld ?_
    rotate_left
    · intro w hS; (try dsimp only at hS); obtain ⟨hS0, hS1, hS2⟩ := hS; go_simp; first | done | (with_reducible rfl)
    try simp only [Act.put, ly1, ly2, ly3]
    refine takeH (i := 13) (v := ?_) rfl (by kernel_rfl) (by kernel_rfl) (by kernel_rfl) (fun _ _ _ h => h) rfl ?_ hHeld ?_
    rotate_left
    · intro w hS; (try dsimp only at hS); obtain ⟨hS0, hS1, hS2⟩ := hS; go_simp; first | done | (with_reducible rfl)
    try simp only [Act.put, ly1, ly2, ly3]
    refine takeH (i := 14) (v := ?_) rfl (by kernel_rfl) (by kernel_rfl) (by kernel_rfl) (fun _ _ _ h => h) rfl ?_ hHeld ?_
    rotate_left
    · intro w hS; (try dsimp only at hS); obtain ⟨hS0, hS1, hS2⟩ := hS; go_simp; first | done | (with_reducible rfl)
    try simp only [Act.put, ly1, ly2, ly3]
    refine takeH (i := 15) (v := ?_) rfl (by kernel_rfl) (by kernel_rfl) (by kernel_rfl) (fun _ _ _ h => h) rfl ?_ hHeld ?_
    rotate_left
    · intro w hS; (try dsimp only at hS); obtain ⟨hS0, hS1, hS2⟩ := hS; go_simp; first | done | (with_reducible rfl)
    try simp only [Act.put, ly1, ly2, ly3]
    refine takeH (i := 16) (v := ?_) rfl (by kernel_rfl) (by kernel_rfl) (by kernel_rfl) (fun _ _ _ h => h) rfl ?_ hHeld ?_
    rotate_left
    · intro w hS; (try dsimp only at hS); obtain ⟨hS0, hS1, hS2⟩ := hS; go_simp; first | done | (with_reducible rfl)
    try simp only [Act.put, ly1, ly2, ly3]
    refine takeH (i := 17) (v := ?_) rfl (by kernel_rfl) (by kernel_rfl) (by kernel_rfl) (fun _ _ _ h => h) rfl ?_ hHeld ?_
    rotate_left
    · intro w hS; (try dsimp only at hS); obtain ⟨hS0, hS1, hS2⟩ := hS; go_simp; first | done | (with_reducible rfl)
    try simp only [Act.put, ly1, ly2, ly3]
    refine takeH (i := 18) (v := ?_) rfl (by kernel_rfl) (by kernel_rfl) (by kernel_rfl) (fun _ _ _ h => h) rfl ?_ hHeld ?_
    rotate_left
    · intro w hS; (try dsimp only at hS); obtain ⟨hS0, hS1, hS2⟩ := hS; go_simp; first | done | (with_reducible rfl)
    try simp only [Act.put, ly1, ly2, ly3]
    refine takeH (i := 19) (v := ?_) rfl (by kernel_rfl) (by kernel_rfl) (by kernel_rfl) (fun _ _ _ h => h) rfl ?_ hHeld ?_
    rotate_left
    · intro w hS; (try dsimp only at hS); obtain ⟨hS0, hS1, hS2⟩ := hS; go_simp; first | done | (with_reducible rfl)
    try simp only [Act.put, ly1, ly2, ly3]
    refine takeH (i := 20) (v := ?_) rfl (by kernel_rfl) (by kernel_rfl) (by kernel_rfl) (fun _ _ _ h => h) rfl ?_ hHeld ?_
    rotate_left
    · intro w hS; (try dsimp only at hS); obtain ⟨hS0, hS1, hS2⟩ := hS; go_simp; first | done | (with_reducible rfl)
    try simp only [Act.put, ly1, ly2, ly3]
    refine takeH (i := 21) (v := ?_) rfl (by kernel_rfl) (by kernel_rfl) (by kernel_rfl) (fun _ _ _ h => h) rfl ?_ hHeld ?_
    rotate_left
    · intro w hS; (try dsimp only at hS); obtain ⟨hS0, hS1, hS2⟩ := hS; go_simp; first | done | (with_reducible rfl)
    try simp only [Act.put, ly1, ly2, ly3]
    refine wpAnyH_done (by kernel_rfl) ?_ _
    clear hHeld
    go_wp2
    go_ret2
    have hc1 : Chg (· = r) w (w.setCell ⟨r, 5, none⟩ (.int .i64 ((S.n : Int) + 1))).drew := (chg_set _ _ _ _).drew
    exact ⟨rfl, H.out.set (S' := S.next) (G' := G) hc1 (heap_set HB.out 5 _) ⟨rfl, rfl⟩ ⟨rfl, rfl⟩ ⟨rfl, rfl⟩ ⟨rfl, rfl⟩ ⟨rfl, rfl, rfl⟩ (fun e => by rw [HOF.out] at e; cases e) H.out.cut, hc1⟩

set_option maxRecDepth 20000 in
set_option maxHeartbeats 1600000 in
theorem starts_off {B r : Nat} {R : Nat → Prop} {S : Dk} {G : Rg} (w : World) (h : RR B w R r S G) (_hn : S.n < 1099511627776) (hon : S.on = false) :
    Calls Try.prog 59 #[.pointer (some ⟨r, 0, none⟩)] w fun e w' => e = .returned (.tuple #[.int .i64 0, .bool false]) ∧ RR B w' R r S { G with off := true } ∧ Chg (· = r) w w' := by
  have hcu := h.cutOn
  rw [hon] at hcu
  have hcu' := of_decide_eq_false hcu.symm
  have hb := h.blk
  have c5 := cell_of hb 5
  have c6 := cell_of hb 6
  have c7 := cell_of hb 7
  have t6 := thawed hb 6
  dsimp only [rcells] at c5 c6 c7
  have H := hide h
  have HB := hide hb
  have HON := hide hon
  have hd0 : decide (0 ≤ G.cut) = true := decide_eq_true (by omega)
  have hd1 : decide (G.cut ≤ (S.n : Int)) = true := decide_eq_true (by omega)
  clear h hb hcu hcu' hon
  go_enter Try.func59, Try.ntmps59
  cases hof : G.off with
  | false =>
    rw [hof] at c6
    go_wp2_with fail
    refine wp_region_held_drew (S := fun W => W.cell? ⟨r, 5, none⟩ = some (.int .i64 (S.n : Int)) ∧ W.cell? ⟨r, 6, none⟩ = some (.bool false) ∧ W.cell? ⟨r, 7, none⟩ = some (.int .i64 G.cut)) (by kernel_rfl) (⟨c5, c6, c7⟩) (fun hHeld => ?_)
    refine takeH (i := 0) (v := ?_) rfl (by kernel_rfl) (by kernel_rfl) (by kernel_rfl) (fun _ _ _ h => h) rfl ?_ hHeld ?_
    rotate_left
    · intro w hS; (try dsimp only at hS); obtain ⟨hS0, hS1, hS2⟩ := hS; go_simp; first | done | (with_reducible rfl)
    try simp only [Act.put, ly1, ly2, ly3]
    refine takeH (i := 1) (v := ?_) rfl (by kernel_rfl) (by kernel_rfl) (by kernel_rfl) (fun _ _ _ h => h) rfl ?_ hHeld ?_
    rotate_left
    · intro w hS; (try dsimp only at hS); obtain ⟨hS0, hS1, hS2⟩ := hS; go_simp; first | done | (with_reducible rfl)
    try simp only [Act.put, ly1, ly2, ly3]
    refine takeH (i := 2) (v := ?_) rfl (by kernel_rfl) (by kernel_rfl) (by kernel_rfl) (fun _ _ _ h => h) rfl ?_ hHeld ?_
    rotate_left
    · intro w hS; (try dsimp only at hS); obtain ⟨hS0, hS1, hS2⟩ := hS; go_simp; first | done | (with_reducible rfl)
    try simp only [Act.put, ly1, ly2, ly3]
    refine takeH (i := 3) (v := ?_) rfl (by kernel_rfl) (by kernel_rfl) (by kernel_rfl) (fun _ _ _ h => h) rfl ?_ hHeld ?_
    rotate_left
    · intro w hS; (try dsimp only at hS); obtain ⟨hS0, hS1, hS2⟩ := hS; go_simp; first | done | (with_reducible rfl)
    try simp only [Act.put, ly1, ly2, ly3]
    refine takeH (i := 4) (v := ?_) rfl (by kernel_rfl) (by kernel_rfl) (by kernel_rfl) (fun _ _ _ h => h) rfl ?_ hHeld ?_
    rotate_left
    · intro w hS; (try dsimp only at hS); obtain ⟨hS0, hS1, hS2⟩ := hS; go_simp; first | done | (with_reducible rfl)
    try simp only [Act.put, ly1, ly2, ly3]
    refine takeH (i := 5) (v := ?_) rfl (by kernel_rfl) (by kernel_rfl) (by kernel_rfl) (fun _ _ _ h => h) rfl ?_ hHeld ?_
    rotate_left
    · intro w hS; (try dsimp only at hS); obtain ⟨hS0, hS1, hS2⟩ := hS; go_simp; first | done | (with_reducible rfl)
    try simp only [Act.put, ly1, ly2, ly3]
    refine takeH (i := 6) (v := ?_) rfl (by kernel_rfl) (by kernel_rfl) (by kernel_rfl) (fun _ _ _ h => h) rfl ?_ hHeld ?_
    rotate_left
    · intro w hS; (try dsimp only at hS); obtain ⟨hS0, hS1, hS2⟩ := hS; go_simp; first | done | (with_reducible rfl)
    try simp only [Act.put, ly1, ly2, ly3]
    refine takeH (i := 7) (v := ?_) rfl (by kernel_rfl) (by kernel_rfl) (by kernel_rfl) (fun _ _ _ h => h) rfl ?_ hHeld ?_
    rotate_left
    · intro w hS; (try dsimp only at hS); obtain ⟨hS0, hS1, hS2⟩ := hS; go_simp; first | done | (with_reducible rfl)
    try simp only [Act.put, ly1, ly2, ly3]
    refine takeH (i := 8) (v := ?_) rfl (by kernel_rfl) (by kernel_rfl) (by kernel_rfl) (fun _ _ _ h => h) rfl ?_ hHeld ?_
    rotate_left
    · intro w hS; (try dsimp only at hS); obtain ⟨hS0, hS1, hS2⟩ := hS; go_simp; first | done | (with_reducible rfl)
    try simp only [Act.put, ly1, ly2, ly3]
    refine takeH (i := 9) (v := ?_) rfl (by kernel_rfl) (by kernel_rfl) (by kernel_rfl) (fun _ _ _ h => h) rfl ?_ hHeld ?_
    rotate_left
    · intro w hS; (try dsimp only at hS); obtain ⟨hS0, hS1, hS2⟩ := hS; go_simp; first | done | (with_reducible rfl)
    try simp only [Act.put, ly1, ly2, ly3]
    refine takeH (i := 10) (v := ?_) rfl (by kernel_rfl) (by kernel_rfl) (by kernel_rfl) (fun _ _ _ h => h) rfl ?_ hHeld ?_
    rotate_left
    · intro w hS; (try dsimp only at hS); obtain ⟨hS0, hS1, hS2⟩ := hS; go_simp; first | done | (with_reducible rfl)
    try simp only [Act.put, ly1, ly2, ly3]
    refine takeH (i := 11) (v := ?_) rfl (by kernel_rfl) (by kernel_rfl) (by kernel_rfl) (fun _ _ _ h => h) rfl ?_ hHeld ?_
    rotate_left
    · intro w hS; (try dsimp only at hS); obtain ⟨hS0, hS1, hS2⟩ := hS; go_simp; first | done | (with_reducible rfl)
    try simp only [Act.put, ly1, ly2, ly3]
    refine takeH (i := 12) (v := ?_) rfl (by kernel_rfl) (by kernel_rfl) (by kernel_rfl) (fun _ _ _ h => h) rfl ?_ hHeld ?_
    rotate_left
    · intro w hS; (try dsimp only at hS); obtain ⟨hS0, hS1, hS2⟩ := hS; go_simp; first | done | (with_reducible rfl)
    try simp only [Act.put, ly1, ly2, ly3]
    refine takeH (i := 13) (v := ?_) rfl (by kernel_rfl) (by kernel_rfl) (by kernel_rfl) (fun _ _ _ h => h) rfl ?_ hHeld ?_
    rotate_left
    · intro w hS; (try dsimp only at hS); obtain ⟨hS0, hS1, hS2⟩ := hS; go_simp; first | done | (with_reducible rfl)
    try simp only [Act.put, ly1, ly2, ly3]
    refine takeH (i := 14) (v := ?_) rfl (by kernel_rfl) (by kernel_rfl) (by kernel_rfl) (fun _ _ _ h => h) rfl ?_ hHeld ?_
    rotate_left
    · intro w hS; (try dsimp only at hS); obtain ⟨hS0, hS1, hS2⟩ := hS; go_simp; first | done | (with_reducible rfl)
    try simp only [Act.put, ly1, ly2, ly3]
    refine takeH (i := 15) (v := ?_) rfl (by kernel_rfl) (by kernel_rfl) (by kernel_rfl) (fun _ _ _ h => h) rfl ?_ hHeld ?_
    rotate_left
    · intro w hS; (try dsimp only at hS); obtain ⟨hS0, hS1, hS2⟩ := hS; go_simp; first | done | (with_reducible rfl)
    try simp only [Act.put, ly1, ly2, ly3]
    refine takeH (i := 16) (v := ?_) rfl (by kernel_rfl) (by kernel_rfl) (by kernel_rfl) (fun _ _ _ h => h) rfl ?_ hHeld ?_
    rotate_left
    · intro w hS; (try dsimp only at hS); obtain ⟨hS0, hS1, hS2⟩ := hS; go_simp; first | done | (with_reducible rfl)
    try simp only [Act.put, ly1, ly2, ly3]
    refine takeH (i := 17) (v := ?_) rfl (by kernel_rfl) (by kernel_rfl) (by kernel_rfl) (fun _ _ _ h => h) rfl ?_ hHeld ?_
    rotate_left
    · intro w hS; (try dsimp only at hS); obtain ⟨hS0, hS1, hS2⟩ := hS; go_simp; first | done | (with_reducible rfl)
    try simp only [Act.put, ly1, ly2, ly3]
    refine takeH (i := 18) (v := ?_) rfl (by kernel_rfl) (by kernel_rfl) (by kernel_rfl) (fun _ _ _ h => h) rfl ?_ hHeld ?_
    rotate_left
    · intro w hS; (try dsimp only at hS); obtain ⟨hS0, hS1, hS2⟩ := hS; go_simp; first | done | (with_reducible rfl)
    try simp only [Act.put, ly1, ly2, ly3]
    refine takeH (i := 19) (v := ?_) rfl (by kernel_rfl) (by kernel_rfl) (by kernel_rfl) (fun _ _ _ h => h) rfl ?_ hHeld ?_
    rotate_left
    · intro w hS; (try dsimp only at hS); obtain ⟨hS0, hS1, hS2⟩ := hS; go_simp; first | done | (with_reducible rfl)
    try simp only [Act.put, ly1, ly2, ly3]
    refine takeH (i := 20) (v := ?_) rfl (by kernel_rfl) (by kernel_rfl) (by kernel_rfl) (fun _ _ _ h => h) rfl ?_ hHeld ?_
    rotate_left
    · intro w hS; (try dsimp only at hS); obtain ⟨hS0, hS1, hS2⟩ := hS; go_simp; first | done | (with_reducible rfl)
    try simp only [Act.put, ly1, ly2, ly3]
    refine takeH (i := 21) (v := ?_) rfl (by kernel_rfl) (by kernel_rfl) (by kernel_rfl) (fun _ _ _ h => h) rfl ?_ hHeld ?_
    rotate_left
    · intro w hS; (try dsimp only at hS); obtain ⟨hS0, hS1, hS2⟩ := hS; go_simp; first | done | (with_reducible rfl)
    try simp only [Act.put, ly1, ly2, ly3]
    refine wpAnyH_done (by kernel_rfl) ?_ _
    clear hHeld
    go_wp2
    go_ret2
    have hc1 : Chg (· = r) w (w.setCell ⟨r, 6, none⟩ (.bool true)).drew := (chg_set _ _ _ _).drew
    exact ⟨rfl, H.out.set (S' := S) (G' := { G with off := true }) hc1 (heap_set HB.out 6 _) ⟨rfl, rfl⟩ ⟨rfl, rfl⟩ ⟨rfl, rfl⟩ ⟨rfl, rfl⟩ ⟨rfl, rfl, rfl⟩ (fun _ => HON.out) H.out.cut, hc1⟩
  | true =>
    rw [hof] at c6
    go_wp2_with fail
    refine wp_region_held_drew (S := fun W => W.cell? ⟨r, 5, none⟩ = some (.int .i64 (S.n : Int)) ∧ W.cell? ⟨r, 6, none⟩ = some (.bool true) ∧ W.cell? ⟨r, 7, none⟩ = some (.int .i64 G.cut)) (by kernel_rfl) (⟨c5, c6, c7⟩) (fun hHeld => ?_)
    refine takeH (i := 0) (v := ?_) rfl (by kernel_rfl) (by kernel_rfl) (by kernel_rfl) (fun _ _ _ h => h) rfl ?_ hHeld ?_
    rotate_left
    · intro w hS; (try dsimp only at hS); obtain ⟨hS0, hS1, hS2⟩ := hS; go_simp; first | done | (with_reducible rfl)
    try simp only [Act.put, ly1, ly2, ly3]
    refine takeH (i := 1) (v := ?_) rfl (by kernel_rfl) (by kernel_rfl) (by kernel_rfl) (fun _ _ _ h => h) rfl ?_ hHeld ?_
    rotate_left
    · intro w hS; (try dsimp only at hS); obtain ⟨hS0, hS1, hS2⟩ := hS; go_simp; first | done | (with_reducible rfl)
    try simp only [Act.put, ly1, ly2, ly3]
    refine takeH (i := 2) (v := ?_) rfl (by kernel_rfl) (by kernel_rfl) (by kernel_rfl) (fun _ _ _ h => h) rfl ?_ hHeld ?_
    rotate_left
    · intro w hS; (try dsimp only at hS); obtain ⟨hS0, hS1, hS2⟩ := hS; go_simp; first | done | (with_reducible rfl)
    try simp only [Act.put, ly1, ly2, ly3]
    refine takeH (i := 3) (v := ?_) rfl (by kernel_rfl) (by kernel_rfl) (by kernel_rfl) (fun _ _ _ h => h) rfl ?_ hHeld ?_
    rotate_left
    · intro w hS; (try dsimp only at hS); obtain ⟨hS0, hS1, hS2⟩ := hS; go_simp; first | done | (with_reducible rfl)
    try simp only [Act.put, ly1, ly2, ly3]
    refine takeH (i := 4) (v := ?_) rfl (by kernel_rfl) (by kernel_rfl) (by kernel_rfl) (fun _ _ _ h => h) rfl ?_ hHeld ?_
    rotate_left
    · intro w hS; (try dsimp only at hS); obtain ⟨hS0, hS1, hS2⟩ := hS; go_simp; first | done | (with_reducible rfl)
    try simp only [Act.put, ly1, ly2, ly3]
    refine skipH (i := 5) rfl (by kernel_rfl) (by kernel_rfl) (by kernel_rfl) (fun _ _ _ h => h) rfl hHeld ?_
    try simp only [Act.put, ly1, ly2, ly3]
    refine skipH (i := 6) rfl (by kernel_rfl) (by kernel_rfl) (by kernel_rfl) (fun _ _ _ h => h) rfl hHeld ?_
    try simp only [Act.put, ly1, ly2, ly3]
    refine skipH (i := 7) rfl (by kernel_rfl) (by kernel_rfl) (by kernel_rfl) (fun _ _ _ h => h) rfl hHeld ?_
    try simp only [Act.put, ly1, ly2, ly3]
    refine skipH (i := 8) rfl (by kernel_rfl) (by kernel_rfl) (by kernel_rfl) (fun _ _ _ h => h) rfl hHeld ?_
    try simp only [Act.put, ly1, ly2, ly3]
    refine skipH (i := 9) rfl (by kernel_rfl) (by kernel_rfl) (by kernel_rfl) (fun _ _ _ h => h) rfl hHeld ?_
    try simp only [Act.put, ly1, ly2, ly3]
    refine skipH (i := 10) rfl (by kernel_rfl) (by kernel_rfl) (by kernel_rfl) (fun _ _ _ h => h) rfl hHeld ?_
    try simp only [Act.put, ly1, ly2, ly3]
    refine skipH (i := 11) rfl (by kernel_rfl) (by kernel_rfl) (by kernel_rfl) (fun _ _ _ h => h) rfl hHeld ?_
    try simp only [Act.put, ly1, ly2, ly3]
    refine skipH (i := 12) rfl (by kernel_rfl) (by kernel_rfl) (by kernel_rfl) (fun _ _ _ h => h) rfl hHeld ?_
    try simp only [Act.put, ly1, ly2, ly3]
    refine skipH (i := 13) rfl (by kernel_rfl) (by kernel_rfl) (by kernel_rfl) (fun _ _ _ h => h) rfl hHeld ?_
    try simp only [Act.put, ly1, ly2, ly3]
    refine skipH (i := 14) rfl (by kernel_rfl) (by kernel_rfl) (by kernel_rfl) (fun _ _ _ h => h) rfl hHeld ?_
    try simp only [Act.put, ly1, ly2, ly3]
    refine skipH (i := 15) rfl (by kernel_rfl) (by kernel_rfl) (by kernel_rfl) (fun _ _ _ h => h) rfl hHeld ?_
    try simp only [Act.put, ly1, ly2, ly3]
    refine skipH (i := 16) rfl (by kernel_rfl) (by kernel_rfl) (by kernel_rfl) (fun _ _ _ h => h) rfl hHeld ?_
    try simp only [Act.put, ly1, ly2, ly3]
    refine skipH (i := 17) rfl (by kernel_rfl) (by kernel_rfl) (by kernel_rfl) (fun _ _ _ h => h) rfl hHeld ?_
    try simp only [Act.put, ly1, ly2, ly3]
    refine skipH (i := 18) rfl (by kernel_rfl) (by kernel_rfl) (by kernel_rfl) (fun _ _ _ h => h) rfl hHeld ?_
    try simp only [Act.put, ly1, ly2, ly3]
    refine skipH (i := 19) rfl (by kernel_rfl) (by kernel_rfl) (by kernel_rfl) (fun _ _ _ h => h) rfl hHeld ?_
    try simp only [Act.put, ly1, ly2, ly3]
    refine skipH (i := 20) rfl (by kernel_rfl) (by kernel_rfl) (by kernel_rfl) (fun _ _ _ h => h) rfl hHeld ?_
    try simp only [Act.put, ly1, ly2, ly3]
    refine takeH (i := 21) (v := ?_) rfl (by kernel_rfl) (by kernel_rfl) (by kernel_rfl) (fun _ _ _ h => h) rfl ?_ hHeld ?_
    rotate_left
    · intro w hS; (try dsimp only at hS); obtain ⟨hS0, hS1, hS2⟩ := hS; go_simp; first | done | (with_reducible rfl)
    try simp only [Act.put, ly1, ly2, ly3]
    refine wpAnyH_done (by kernel_rfl) ?_ _
    clear hHeld
    go_wp2
    go_ret2
    have hc1 : Chg (· = r) w (w.setCell ⟨r, 6, none⟩ (.bool true)).drew := (chg_set _ _ _ _).drew
    exact ⟨rfl, H.out.set (S' := S) (G' := { G with off := true }) hc1 (heap_set HB.out 6 _) ⟨rfl, rfl⟩ ⟨rfl, rfl⟩ ⟨rfl, rfl⟩ ⟨rfl, rfl⟩ ⟨rfl, rfl, rfl⟩ (fun _ => HON.out) H.out.cut, hc1⟩

end Go.Proofs.Ytlejgdjkdbamkaa
