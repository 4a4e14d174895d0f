/-
  Going into nodes and to their kids. Conditions: the get and whoever is told keep their words; not too much was asked.
-/
import Derived.Test.YtfeffaeinggiiaaGreatDoorJ38PTell2
import Derived.Test.YtfeffaeinggiiaaGreatDoorJ41PFind
namespace Go.Proofs.YtfeffaeinggiiaaGreatDoor
open Go.RowKit

theorem YieldOk.neq {σ : Type} {l : Nat} {k : Sink σ} {B : Nat} {sts : List TypeId} {J Jx : Value → σ → World → Prop} (hY : YieldOk l k B sts J Jx) {v : Value} {s : σ} {W : World} (hJ : J v s W) {b : Nat} {cs : Array Value} {t : TypeId} {fr : Nat × Nat} (h : W.heap[b]? = some (.cells cs t fr)) (ht : t ≠ 60) : some b ≠ v.ownBlock := by
  intro e
  obtain ⟨cs', fr', hq⟩ := hY.row hJ e.symm
  rw [h] at hq
  injection hq with hq
  injection hq with _ hq
  exact ht hq
theorem own_far {w : World} {B n k : Nat} {e : TypeId} {v u : Value} {xs : List Value} (h : w.ownsRow B e k v n xs) (hu : ∀ q, u.ownBlock = some q → q < B) : v.ownBlock = none ∨ v.ownBlock ≠ u.ownBlock := by
  cases hv : v.ownBlock with
  | none => exact .inl rfl
  | some q =>
    refine .inr fun hq => ?_
    have h1 := (h.lt q hv).1
    have h2 := hu q hq.symm
    omega
/-- What goInto keeps. -/
def IntoOk {σ : Type} (l : Nat) (k : Sink σ) (fd : Bs → Option Bs) (B : Nat) (sts : List TypeId) (J Jx : Value → σ → World → Prop) (I : World → List Bs → Prop) (gb : Nat) (gv : Value) (lo hi : Bs) (d : Nat) : Prop :=
  ∀ (W : World) (v : Value) (t : Tst σ) (er : Int) (n : NodeM) (vk vp : Value), J v t.s W → GoW B W gb gv (.func (.yield l) #[] #[]) lo hi t.told → I W t.asked → (er = 0 → RightM n ∧ n.1 ≤ d) →
    (∀ W', Mv B (gts sts) v.ownBlock W W' → Ls W'.heap.size W' 3 linkC vk n.2.2) → (∀ W', Mv B (gts sts) v.ownBlock W W' → Ls W'.heap.size W' 2 pairC vp n.2.1) →
    t.asked.length + d * (manyL n.2.2).toNat ≤ 1000000000 → k.cap t.s + (n.2.1.length + (manyL n.2.2).toNat) ≤ 1000000 →
    Calls Tryz.prog 62 #[.pointer (some ⟨gb, 0, none⟩), .agg #[.int .i64 n.1, vk, vp], .int .i64 er] W fun e W' => ToldSaid B sts J Jx I gb gv (.func (.yield l) #[] #[]) lo hi v W (intoT k (goT k fd lo hi d) lo hi (er, n) t) e W'
theorem eachT_nil {σ : Type} (f : Link → Tst σ → Tst σ × Bool) (lo hi : Bs) (t : Tst σ) : eachT f lo hi [] t = (t, true) := rfl
theorem eachT_skip {σ : Type} {f : Link → Tst σ → Tst σ × Bool} {lo hi : Bs} {q : Link} {r : List Link} {t : Tst σ} (h : ltB q.1 lo = true) (h2 : endM hi q.1 = false) : eachT f lo hi (q :: r) t = eachT f lo hi r t := by rw [eachT, h, h2]; rfl
theorem eachT_last {σ : Type} {f : Link → Tst σ → Tst σ × Bool} {lo hi : Bs} {q : Link} {r : List Link} {t : Tst σ} (h : ltB q.1 lo = true) (h2 : endM hi q.1 = true) : eachT f lo hi (q :: r) t = (t, true) := by rw [eachT, h, h2]; rfl
theorem eachT_stop {σ : Type} {f : Link → Tst σ → Tst σ × Bool} {lo hi : Bs} {q : Link} {r : List Link} {t : Tst σ} (h : ltB q.1 lo = false) (h3 : (f q t).2 = false) : eachT f lo hi (q :: r) t = ((f q t).1, false) := by rw [eachT, h, h3]; rfl
theorem eachT_on {σ : Type} {f : Link → Tst σ → Tst σ × Bool} {lo hi : Bs} {q : Link} {r : List Link} {t : Tst σ} (h : ltB q.1 lo = false) (h3 : (f q t).2 = true) (h2 : endM hi q.1 = false) : eachT f lo hi (q :: r) t = eachT f lo hi r (f q t).1 := by rw [eachT, h, h3, h2]; rfl
theorem eachT_end {σ : Type} {f : Link → Tst σ → Tst σ × Bool} {lo hi : Bs} {q : Link} {r : List Link} {t : Tst σ} (h : ltB q.1 lo = false) (h3 : (f q t).2 = true) (h2 : endM hi q.1 = true) : eachT f lo hi (q :: r) t = ((f q t).1, true) := by rw [eachT, h, h3, h2]; rfl
set_option maxRecDepth 20000 in
theorem goToKids_leaf (W : World) (gb : Nat) (lv : Int) (pa : Option Addr) (pm pc : Nat) (ka : Option Addr) (kc : Nat) :
    Calls Tryz.prog 89 #[.pointer (some ⟨gb, 0, none⟩), .agg #[.int .i64 lv, .slice ka 0 kc, .slice pa pm pc]] W fun e W' => e = .returned (.bool true) ∧ Below W.heap.size W W' := by
  have hb0 : Below W.heap.size W (W.alloc (.cells #[.int .i64 lv, .slice ka 0 kc, .slice pa pm pc] 83)) := (Below.refl _ _).alloc (Nat.le_refl _) _
  have HB := hide hb0
  clear hb0
  go_enter Tryz.func89, Tryz.ntmps89
  go_wp2_with fail
  go_loopw [11] (fun q wr => q = .int .i64 0 ∧ wr = W.alloc (.cells #[.int .i64 lv, .slice ka 0 kc, .slice pa pm pc] 83)) (fun _ _ => 0)
  case atStart => exact ⟨rfl, rfl⟩
  case round =>
    obtain ⟨rfl, rfl⟩ := hrel
    go_wp2
    go_ret
    exact ⟨rfl, HB.out⟩
end Go.Proofs.YtfeffaeinggiiaaGreatDoor
