/-
  Texts joined: PRList, DPlain.
-/
import Derived.Test.YtldfjpgcemfpjaaM22PRGoes
/-
  The pairs of a map between two keys, by the reference. Conditions: the objects lie there; texts within reach.
-/
namespace Go.Proofs.Ytldfjpgcemfpjaa
open Go.RowKit

/-- What List goes through. -/
def listM (fd : Bs → Option Bs) (root lo hi : Bs) : LsS := goM fd lo hi 21 ([], (root, 0)) (-1) ⟨[], [], 0⟩
def outOf (s : LsS) : List Pair := if s.bad = 0 then s.out else []
theorem listM_few (fd : Bs → Option Bs) (hs : ∀ id b, fd id = some b → b.length ≤ 140737488355328) (root lo hi : Bs) : (listM fd root lo hi).asked.length ≤ 81921 ∧ (listM fd root lo hi).out.length ≤ 4160 := by
  obtain ⟨h1, h2⟩ := goM_root fd hs lo hi 20 ([], (root, 0)) ⟨[], [], 0⟩
  unfold listM
  simp only [List.length_nil] at h1 h2
  exact ⟨by omega, by omega⟩
set_option maxRecDepth 40000 in
set_option maxHeartbeats 1600000 in
theorem list12_any (w : World) (vo : Value) (objs : List Pair) (hv : Ls w.heap.size w 2 pairC vo objs) (hob : ∀ o ∈ objs, o.2.length ≤ 140737488351232) (root lo hi : Bs) :
    Calls Try.prog 24 #[vo, .string (strB root), .string (strB lo), .string (strB hi)] w fun e w' => ∃ vp va, e = .returned (.tuple #[vp, va, .int .i64 (listM (findO objs) root lo hi).bad]) ∧ Rw w.heap.size w' 48 2 pairC vp (outOf (listM (findO objs) root lo hi)) ∧ Rw w.heap.size w' 9 1 idC va (listM (findO objs) root lo hi).asked ∧ Below w.heap.size w w' := by
  have hb0 : Below w.heap.size w (w.alloc (.cells #[vo, .slice none 0 0, .slice none 0 0, .int .i64 0] 90)) := (Below.refl _ _).alloc (Nat.le_refl _) _
  have hx0 := heap_last w (.cells #[vo, .slice none 0 0, .slice none 0 0, .int .i64 0] 90) _ rfl
  have hR0 : RlW w.heap.size (w.alloc (.cells #[vo, .slice none 0 0, .slice none 0 0, .int .i64 0] 90)) w.heap.size vo objs (.slice none 0 0) ⟨[], [], 0⟩ := ⟨Nat.le_refl _, hv.keep hb0, _, hx0, World.ownsRow_nil _ _ _ _, World.ownsRow_nil _ _ _ _⟩
  have hgo := goes12_any w.heap.size vo objs w.heap.size hob lo hi 21 _ ([], (root, 0)) (-1) ⟨[], [], 0⟩ (.slice none 0 0) (.inl ⟨rfl, by omega⟩) (by omega) (show In64 0 from ⟨by decide, by decide⟩) rfl hR0 (by unfold cntM; simp) (by unfold cntM; simp)
  rw [show goM (findO objs) lo hi 21 ([], (root, 0)) (-1) ⟨[], [], 0⟩ = listM (findO objs) root lo hi from rfl] at hgo
  rw [show strB ([] : Bs) = ⟨#[]⟩ from rfl] at hgo
  generalize listM (findO objs) root lo hi = s at *
  have H0 := hide hb0
  obtain ⟨vao, vcap, hvv, -⟩ := hv
  obtain ⟨vm, hvm⟩ : ∃ vm, vm = objs.length := ⟨_, rfl⟩
  rw [← hvm] at hvv
  subst hvv
  clear hb0 hx0 hR0 hvm
  go_enter Try.func24, Try.ntmps24
  go_wp2_with fail
  refine hgo.mono ?_
  rintro e w1 ⟨rfl, vp1, hR1, hM1, -⟩
  have hB1 : Below w.heap.size w w1 := H0.out.trans hM1.b
  obtain ⟨-, -, va1, hh1, hra, hrp⟩ := hR1
  have c1 := cell_of_row w1 w.heap.size 1 _ _ _ hh1
  have c2 := cell_of_row w1 w.heap.size 2 _ _ _ hh1
  have c3 := cell_of_row w1 w.heap.size 3 _ _ _ hh1
  simp only [List.getElem?_toArray, List.getElem?_cons_zero, List.getElem?_cons_succ] at c1 c2 c3
  have HR := hide (And.intro hra (And.intro hrp hB1))
  obtain ⟨aa, am, ac, rfl⟩ := row_form hra
  obtain ⟨pa, pm, pc, rfl⟩ := row_form hrp
  clear hgo hM1 hh1 hra hrp hB1
  by_cases hb : s.bad = 0
  · have hbb : (s.bad != 0) = false := by rw [hb]; rfl
    have ho : outOf s = s.out := if_pos hb
    have HB := hide (And.intro hb ho)
    clear hb ho
    go_wp2_with fail
    refine wp_region_held_drew (S := fun W => W.cell? ⟨w.heap.size, 1, none⟩ = some (.slice aa am ac) ∧ W.cell? ⟨w.heap.size, 2, none⟩ = some (.slice pa pm pc)) (by kernel_rfl) (⟨c1, c2⟩) (fun hHeld => ?_)
    refine takeK 0 hHeld ?_
    refine takeK 1 hHeld ?_
    refine takeK 2 hHeld ?_
    refine takeK 3 hHeld ?_
    refine takeK 4 hHeld ?_
    refine takeK 5 hHeld ?_
    refine takeK 6 hHeld ?_
    refine takeK 7 hHeld ?_
    refine takeK 8 hHeld ?_
    refine takeK 9 hHeld ?_
    refine takeK 10 hHeld ?_
    refine wpAnyH_done (by kernel_rfl) ?_ _
    clear hHeld
    go_wp2
    go_ret3
    refine ⟨.slice pa pm pc, .slice aa am ac, ?_, ?_, HR.out.1, HR.out.2.2.drew⟩
    · rw [HB.out.1]; rfl
    · rw [HB.out.2]; exact HR.out.2.1
  · have hbb : (s.bad != 0) = true := by simpa using hb
    have ho : outOf s = [] := if_neg hb
    have HB := hide ho
    clear hb ho
    go_wp2_with fail
    refine wp_region_held_drew (S := fun W => W.cell? ⟨w.heap.size, 1, none⟩ = some (.slice aa am ac) ∧ W.cell? ⟨w.heap.size, 3, none⟩ = some (.int .i64 s.bad)) (by kernel_rfl) (⟨c1, c3⟩) (fun hHeld => ?_)
    refine takeK 0 hHeld ?_
    refine takeK 1 hHeld ?_
    refine takeK 2 hHeld ?_
    refine takeK 3 hHeld ?_
    refine takeK 4 hHeld ?_
    refine takeK 5 hHeld ?_
    refine takeK 6 hHeld ?_
    refine takeK 7 hHeld ?_
    refine takeK 8 hHeld ?_
    refine takeK 9 hHeld ?_
    refine takeK 10 hHeld ?_
    refine wpAnyH_done (by kernel_rfl) ?_ _
    clear hHeld
    go_wp2
    go_ret3
    refine ⟨.slice none 0 0, .slice aa am ac, rfl, ?_, HR.out.1, HR.out.2.2.drew⟩
    rw [HB.out]; exact World.ownsRow_nil _ _ _ _
end Go.Proofs.Ytldfjpgcemfpjaa

/-
  Two maps gone down at once, plainly: what is met, asked, told. No program here. No condition.
-/
namespace Go.Proofs.Ytldfjpgcemfpjaa
open Go.RowKit

/-- The link of a root. -/
abbrev rootK (id : Bs) : Link := ([], (id, 0))
theorem askM_root_ok {fd : Bs → Option Bs} {id : Bs} {b : Bs} {n : NodeM} (h : fd id = some b) (hn : nodeM b = some n) : askM fd (rootK id) (-1) = (0, n) := askM_yes (k := rootK id) h hn (.inl (by omega))
/-- The last key of a node. -/
def lastM (n : NodeM) : Bs := if n.2.2.length = 0 then lastP n.2.1 else lastL n.2.2
/-- What a link to it must say. -/
def linkM (id : Bs) (n : NodeM) : Link := (lastM n, (id, countM n))
/-- A node that was met: what is said of it, its level, who has it, what it is. -/
structure Nd where
  link : Link
  level : Int
  on : Bool × Bool
  body : Option NodeM
def onAt (n : Nd) (i : Nat) : Bool := if i = 0 then n.on.1 else n.on.2
def setOn (n : Nd) (i : Nat) : Nd := ⟨n.link, n.level, if i = 0 then (true, n.on.2) else (n.on.1, true), n.body⟩
def isSh (n : Nd) : Bool := n.on.1 && n.on.2
/-- How far it is gone: ids that were met, what is known of them, each side's by levels, each side's pairs, what was asked. -/
structure Cm where
  met : List Bs
  nd : Bs → Nd
  lev : Nat → Nat → List Bs
  prs : Nat → List Pair
  asked : List Bs
def nd0 : Nd := ⟨([], ([], 0)), 0, (false, false), none⟩
def cm0 : Cm := ⟨[], fun _ => nd0, fun _ _ => [], fun _ => [], []⟩
def updN (f : Bs → Nd) (x : Bs) (v : Nd) : Bs → Nd := fun y => if y = x then v else f y
def updL (f : Nat → Nat → List Bs) (i l : Nat) (v : List Bs) : Nat → Nat → List Bs := fun j m => if j = i ∧ m = l then v else f j m
def updP (f : Nat → List Pair) (i : Nat) (v : List Pair) : Nat → List Pair := fun j => if j = i then v else f j
/-- It is known, at least. -/
def knowM (σ : Cm) (k : Link) (level : Int) (body : Option NodeM) : Cm :=
  if k.2.1 ∈ σ.met then σ else ⟨σ.met ++ [k.2.1], updN σ.nd k.2.1 ⟨k, level, (false, false), body⟩, σ.lev, σ.prs, σ.asked⟩
/-- It can't be met so. -/
def oddM (n : Nd) (i : Nat) (k : Link) (level : Int) : Bool := onAt n i || n.link != k || n.level != level
def hangM (σ : Cm) (i : Nat) (id : Bs) : Cm := ⟨σ.met, updN σ.nd id (setOn (σ.nd id) i), updL σ.lev i (σ.nd id).level.toNat (σ.lev i (σ.nd id).level.toNat ++ [id]), σ.prs, σ.asked⟩
def meetM (σ : Cm) (i : Nat) (k : Link) (level : Int) (body : Option NodeM) : Int × Cm :=
  if oddM ((knowM σ k level body).nd k.2.1) i k level then (122, knowM σ k level body) else (0, hangM (knowM σ k level body) i k.2.1)
def askedM (σ : Cm) (id : Bs) : Cm := ⟨σ.met, σ.nd, σ.lev, σ.prs, σ.asked ++ [id]⟩
def bodied (n : Nd) (b : NodeM) : Nd := ⟨n.link, n.level, n.on, some b⟩
def readM (fd : Bs → Option Bs) (σ : Cm) (id : Bs) : Int × Cm :=
  if (σ.nd id).body.isSome then (0, σ)
  else if (askM fd (rootK id) (-1)).1 ≠ 0 then ((askM fd (rootK id) (-1)).1, askedM σ id)
  else if (askM fd (rootK id) (-1)).2.1 ≠ (σ.nd id).level ∨ linkM id (askM fd (rootK id) (-1)).2 ≠ (σ.nd id).link then (122, askedM σ id)
  else (0, ⟨σ.met, updN σ.nd id (bodied (σ.nd id) (askM fd (rootK id) (-1)).2), σ.lev, σ.prs, σ.asked ++ [id]⟩)
def headP (l : List Pair) : Bs := (l.head?.map (·.1)).getD []
/-- Do pairs stand behind those ahead? -/
def fitP (old new : List Pair) : Bool := new.isEmpty || old.isEmpty || ltB (lastP old) (headP new)
def kidsM (i : Nat) (level : Int) : List Link → Cm → Int × Cm
  | [], σ => (0, σ)
  | k :: r, σ => if (meetM σ i k level none).1 ≠ 0 then meetM σ i k level none else kidsM i level r (meetM σ i k level none).2
def bodyOf (n : Nd) : NodeM := n.body.getD (0, [], [])
def pairsM (σ : Cm) (i : Nat) (ps : List Pair) : Cm := ⟨σ.met, σ.nd, σ.lev, updP σ.prs i (σ.prs i ++ ps), σ.asked⟩
def tellM (σ : Cm) (i : Nat) (id : Bs) : Int × Cm :=
  if fitP (σ.prs i) (bodyOf (σ.nd id)).2.1 = false then (122, σ)
  else kidsM i ((σ.nd id).level - 1) (bodyOf (σ.nd id)).2.2 (pairsM σ i (bodyOf (σ.nd id)).2.1)
def intoM (fd : Bs → Option Bs) (σ : Cm) (i : Nat) (id : Bs) : Int × Cm :=
  if (readM fd σ id).1 ≠ 0 then readM fd σ id else tellM (readM fd σ id).2 i id
def throughM (fd : Bs → Option Bs) (i : Nat) : List Bs → Cm → Int × Cm
  | [], σ => (0, σ)
  | id :: r, σ => if isSh (σ.nd id) then throughM fd i r σ else if (intoM fd σ i id).1 ≠ 0 then intoM fd σ i id else throughM fd i r (intoM fd σ i id).2
def bothM (fd : Bs → Option Bs) (l : Nat) (σ : Cm) : Int × Cm :=
  if (throughM fd 0 (σ.lev 0 l) σ).1 ≠ 0 then throughM fd 0 (σ.lev 0 l) σ else throughM fd 1 ((throughM fd 0 (σ.lev 0 l) σ).2.lev 1 l) (throughM fd 0 (σ.lev 0 l) σ).2
/-- The levels below n, from above. -/
def downM (fd : Bs → Option Bs) : Nat → Cm → Int × Cm
  | 0, σ => (0, σ)
  | l + 1, σ => if (bothM fd l σ).1 ≠ 0 then bothM fd l σ else downM fd l (bothM fd l σ).2
def beginM (fd : Bs → Option Bs) (σ : Cm) (i : Nat) (root : Bs) : Int × Cm :=
  if (askM fd (rootK root) (-1)).1 ≠ 0 then ((askM fd (rootK root) (-1)).1, askedM σ root)
  else meetM (askedM σ root) i (linkM root (askM fd (rootK root) (-1)).2) (askM fd (rootK root) (-1)).2.1 (some (askM fd (rootK root) (-1)).2)
def rootsM (fd : Bs → Option Bs) (a b : Bs) : Int × Cm :=
  if (beginM fd cm0 0 a).1 ≠ 0 then beginM fd cm0 0 a else beginM fd (beginM fd cm0 0 a).2 1 b
def goDownM (fd : Bs → Option Bs) (a b : Bs) : Int × Cm :=
  if (rootsM fd a b).1 ≠ 0 then rootsM fd a b else downM fd 21 (rootsM fd a b).2
/-- A change: its key, what was and is (nothing: none). -/
abbrev ChangeM := Bs × (Option Bs × Option Bs)
/-- The changes from pairs to others, both by rising keys. -/
def changesM : Nat → List Pair → List Pair → List ChangeM
  | 0, _, _ => []
  | _ + 1, [], [] => []
  | n + 1, a :: l, [] => (a.1, (some a.2, none)) :: changesM n l []
  | n + 1, [], b :: m => (b.1, (none, some b.2)) :: changesM n [] m
  | n + 1, a :: l, b :: m =>
    if ltB a.1 b.1 then (a.1, (some a.2, none)) :: changesM n l (b :: m)
    else if ltB b.1 a.1 then (b.1, (none, some b.2)) :: changesM n (a :: l) m
    else if a.2 = b.2 then changesM n l m else (a.1, (some a.2, some b.2)) :: changesM n l m
def chgs (l m : List Pair) : List ChangeM := changesM (l.length + m.length) l m
end Go.Proofs.Ytldfjpgcemfpjaa
