/-
  Texts joined: PRList, DPlain.
-/
import Derived.Test.YtldfjpgcemfpjaaS22PRGoes
/-
  The pairs of a map between two keys, by the reference. Conditions: the objects lie there; texts within reach.
-/
namespace Go.Proofs.Ytldfjpgcemfpjaa
open Go.RowKit

end Go.Proofs.Ytldfjpgcemfpjaa

/-
  Two maps gone down at once, plainly: what is met, asked, told. No program here. No condition.
-/
namespace Go.Proofs.Ytldfjpgcemfpjaa
open Go.RowKit

/-- The link of a root. -/
abbrev rootK (id : Bs) : Link := ([], (id, 0))
theorem askM_root_ok {fd : Bs → Option Bs} {id : Bs} {b : Bs} {n : NodeM} (h : fd id = some b) (hn : nodeM b = some n) : askM fd (rootK id) (-1) = (0, n) := askM_yes (k := rootK id) h hn (.inl (by omega))
/-- The last key of a node. -/
def lastM (n : NodeM) : Bs := if n.2.2.length = 0 then lastP n.2.1 else lastL n.2.2
/-- What a link to it must say. -/
def linkM (id : Bs) (n : NodeM) : Link := (lastM n, (id, countM n))
/-- A node that was met: what is said of it, its level, who has it, what it is. -/
structure Nd where
  link : Link
  level : Int
  on : Bool × Bool
  body : Option NodeM
def onAt (n : Nd) (i : Nat) : Bool := if i = 0 then n.on.1 else n.on.2
def setOn (n : Nd) (i : Nat) : Nd := ⟨n.link, n.level, if i = 0 then (true, n.on.2) else (n.on.1, true), n.body⟩
def isSh (n : Nd) : Bool := n.on.1 && n.on.2
/-- How far it is gone: ids that were met, what is known of them, each side's by levels, each side's pairs, what was asked. -/
structure Cm where
  met : List Bs
  nd : Bs → Nd
  lev : Nat → Nat → List Bs
  prs : Nat → List Pair
  asked : List Bs
def nd0 : Nd := ⟨([], ([], 0)), 0, (false, false), none⟩
def cm0 : Cm := ⟨[], fun _ => nd0, fun _ _ => [], fun _ => [], []⟩
def updN (f : Bs → Nd) (x : Bs) (v : Nd) : Bs → Nd := fun y => if y = x then v else f y
def updL (f : Nat → Nat → List Bs) (i l : Nat) (v : List Bs) : Nat → Nat → List Bs := fun j m => if j = i ∧ m = l then v else f j m
def updP (f : Nat → List Pair) (i : Nat) (v : List Pair) : Nat → List Pair := fun j => if j = i then v else f j
/-- It is known, at least. -/
def knowM (σ : Cm) (k : Link) (level : Int) (body : Option NodeM) : Cm :=
  if k.2.1 ∈ σ.met then σ else ⟨σ.met ++ [k.2.1], updN σ.nd k.2.1 ⟨k, level, (false, false), body⟩, σ.lev, σ.prs, σ.asked⟩
/-- It can't be met so. -/
def oddM (n : Nd) (i : Nat) (k : Link) (level : Int) : Bool := onAt n i || n.link != k || n.level != level
def hangM (σ : Cm) (i : Nat) (id : Bs) : Cm := ⟨σ.met, updN σ.nd id (setOn (σ.nd id) i), updL σ.lev i (σ.nd id).level.toNat (σ.lev i (σ.nd id).level.toNat ++ [id]), σ.prs, σ.asked⟩
def meetM (σ : Cm) (i : Nat) (k : Link) (level : Int) (body : Option NodeM) : Int × Cm :=
  if oddM ((knowM σ k level body).nd k.2.1) i k level then (122, knowM σ k level body) else (0, hangM (knowM σ k level body) i k.2.1)
def askedM (σ : Cm) (id : Bs) : Cm := ⟨σ.met, σ.nd, σ.lev, σ.prs, σ.asked ++ [id]⟩
def bodied (n : Nd) (b : NodeM) : Nd := ⟨n.link, n.level, n.on, some b⟩
def readM (fd : Bs → Option Bs) (σ : Cm) (id : Bs) : Int × Cm :=
  if (σ.nd id).body.isSome then (0, σ)
  else if (askM fd (rootK id) (-1)).1 ≠ 0 then ((askM fd (rootK id) (-1)).1, askedM σ id)
  else if (askM fd (rootK id) (-1)).2.1 ≠ (σ.nd id).level ∨ linkM id (askM fd (rootK id) (-1)).2 ≠ (σ.nd id).link then (122, askedM σ id)
  else (0, ⟨σ.met, updN σ.nd id (bodied (σ.nd id) (askM fd (rootK id) (-1)).2), σ.lev, σ.prs, σ.asked ++ [id]⟩)
def headP (l : List Pair) : Bs := (l.head?.map (·.1)).getD []
/-- Do pairs stand behind those ahead? -/
def fitP (old new : List Pair) : Bool := new.isEmpty || old.isEmpty || ltB (lastP old) (headP new)
def kidsM (i : Nat) (level : Int) : List Link → Cm → Int × Cm
  | [], σ => (0, σ)
  | k :: r, σ => if (meetM σ i k level none).1 ≠ 0 then meetM σ i k level none else kidsM i level r (meetM σ i k level none).2
def bodyOf (n : Nd) : NodeM := n.body.getD (0, [], [])
def pairsM (σ : Cm) (i : Nat) (ps : List Pair) : Cm := ⟨σ.met, σ.nd, σ.lev, updP σ.prs i (σ.prs i ++ ps), σ.asked⟩
def tellM (σ : Cm) (i : Nat) (id : Bs) : Int × Cm :=
  if fitP (σ.prs i) (bodyOf (σ.nd id)).2.1 = false then (122, σ)
  else kidsM i ((σ.nd id).level - 1) (bodyOf (σ.nd id)).2.2 (pairsM σ i (bodyOf (σ.nd id)).2.1)
def intoM (fd : Bs → Option Bs) (σ : Cm) (i : Nat) (id : Bs) : Int × Cm :=
  if (readM fd σ id).1 ≠ 0 then readM fd σ id else tellM (readM fd σ id).2 i id
def throughM (fd : Bs → Option Bs) (i : Nat) : List Bs → Cm → Int × Cm
  | [], σ => (0, σ)
  | id :: r, σ => if isSh (σ.nd id) then throughM fd i r σ else if (intoM fd σ i id).1 ≠ 0 then intoM fd σ i id else throughM fd i r (intoM fd σ i id).2
def bothM (fd : Bs → Option Bs) (l : Nat) (σ : Cm) : Int × Cm :=
  if (throughM fd 0 (σ.lev 0 l) σ).1 ≠ 0 then throughM fd 0 (σ.lev 0 l) σ else throughM fd 1 ((throughM fd 0 (σ.lev 0 l) σ).2.lev 1 l) (throughM fd 0 (σ.lev 0 l) σ).2
/-- The levels below n, from above. -/
def downM (fd : Bs → Option Bs) : Nat → Cm → Int × Cm
  | 0, σ => (0, σ)
  | l + 1, σ => if (bothM fd l σ).1 ≠ 0 then bothM fd l σ else downM fd l (bothM fd l σ).2
def beginM (fd : Bs → Option Bs) (σ : Cm) (i : Nat) (root : Bs) : Int × Cm :=
  if (askM fd (rootK root) (-1)).1 ≠ 0 then ((askM fd (rootK root) (-1)).1, askedM σ root)
  else meetM (askedM σ root) i (linkM root (askM fd (rootK root) (-1)).2) (askM fd (rootK root) (-1)).2.1 (some (askM fd (rootK root) (-1)).2)
def rootsM (fd : Bs → Option Bs) (a b : Bs) : Int × Cm :=
  if (beginM fd cm0 0 a).1 ≠ 0 then beginM fd cm0 0 a else beginM fd (beginM fd cm0 0 a).2 1 b
def goDownM (fd : Bs → Option Bs) (a b : Bs) : Int × Cm :=
  if (rootsM fd a b).1 ≠ 0 then rootsM fd a b else downM fd 21 (rootsM fd a b).2
/-- A change: its key, what was and is (nothing: none). -/
abbrev ChangeM := Bs × (Option Bs × Option Bs)
/-- The changes from pairs to others, both by rising keys. -/
def changesM : Nat → List Pair → List Pair → List ChangeM
  | 0, _, _ => []
  | _ + 1, [], [] => []
  | n + 1, a :: l, [] => (a.1, (some a.2, none)) :: changesM n l []
  | n + 1, [], b :: m => (b.1, (none, some b.2)) :: changesM n [] m
  | n + 1, a :: l, b :: m =>
    if ltB a.1 b.1 then (a.1, (some a.2, none)) :: changesM n l (b :: m)
    else if ltB b.1 a.1 then (b.1, (none, some b.2)) :: changesM n (a :: l) m
    else if a.2 = b.2 then changesM n l m else (a.1, (some a.2, some b.2)) :: changesM n l m
def chgs (l m : List Pair) : List ChangeM := changesM (l.length + m.length) l m
end Go.Proofs.Ytldfjpgcemfpjaa
