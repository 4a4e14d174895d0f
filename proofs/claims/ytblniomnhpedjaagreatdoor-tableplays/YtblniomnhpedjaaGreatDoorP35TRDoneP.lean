/-
  What the reference's done makes of pairs, plainly: the put done. No program.
-/
import Derived.Test.YtblniomnhpedjaaGreatDoorP1Chg
namespace Go.Proofs.YtblniomnhpedjaaGreatDoor
def goD (p : An) : Bool→List Af→List Af
 | met,[]=>if met then [] else [(p.1,p.2.1)]
 | met,x :: r=>(if !met && !ltB x.1 p.1 then [(p.1,p.2.1)] else [])++((if x.1=p.1 then [] else [x])++goD p (met || !ltB x.1 p.1) r)
theorem ltB_asymm {a b : Bs} (h : ltB a b=true) : ltB b a=false:=by
 cases hq : ltB b a with
 | false=>rfl
 | true=>
  have:=Jf _ _ _ h hq
  rw [Ff] at this
  cases this
theorem ltB_ne {a b : Bs} (h : ltB a b=true) : a≠b:=fun e=>by
 rw [e,Ff] at h
 cases h
theorem Lc (p : An) (met : Bool) (r : List Af) : ∀ (a : List Af),(∀ x∈a,ltB x.1 p.1=true)→goD p met (a++r)=a++goD p met r
 | [],_=>rfl
 | x :: a,h=>by
  have hx:=h x (by simp)
  rw [List.cons_append,goD,hx,if_neg (by simp),if_neg (ltB_ne hx)]
  simp only [Bool.not_true,Bool.or_false,List.nil_append,List.cons_append,List.cons.injEq,true_and]
  exact Lc p met r a (fun y hy=>h y (by simp [hy]))
theorem Io (p : An) : ∀ (b : List Af),(∀ x∈b,ltB p.1 x.1=true)→goD p true b=b
 | [],_=>rfl
 | x :: b,h=>by
  have hx:=h x (by simp)
  rw [goD,if_neg (by simp),if_neg (fun e=>ltB_ne hx e.symm),Bool.true_or,Io p b (fun y hy=>h y (by simp [hy]))]
  rfl
theorem goD_behind (p : An) (b : List Af) (h : ∀ x∈b,ltB p.1 x.1=true) : goD p false b=(p.1,p.2.1) :: b:=by
 cases b with
 | nil=>rfl
 | cons x b=>
  have hx:=h x (by simp)
  rw [goD,ltB_asymm hx,if_pos (by rfl),if_neg (fun e=>ltB_ne hx e.symm),show (false || !false)=true from rfl,Io p b (fun y hy=>h y (by simp [hy]))]
  rfl
theorem goD_done {l : List Af} (hr : Bn l) (p : An) : goD p p.2.2 l=Bu l p:=by
 obtain ⟨a,b,ha,hb,hl,hd⟩:=Mz hr p
 rw [hd]
 rcases hl with rfl | ⟨v,rfl⟩
 ·rw [Lc p _ b a ha]
  cases hg : p.2.2 with
  | true=>rw [Io p b hb]; rfl
  | false=>rw [goD_behind p b hb]; rfl
 ·rw [Lc p _ _ a ha,goD,Ff,if_pos (show ((p.1,v) : Af).1=p.1 from rfl)]
  cases hg : p.2.2 with
  | true=>rw [if_neg (by simp),Bool.true_or,Io p b hb]; rfl
  | false=>rw [if_pos (by rfl),show (false || !false)=true from rfl,Io p b hb]; rfl
theorem goD_step (p : An) (met : Bool) (x : Af) (r : List Af) : goD p met (x :: r)=(if !met && !ltB x.1 p.1 then [(p.1,p.2.1)] else [])++((if x.1=p.1 then [] else [x])++goD p (met || !ltB x.1 p.1) r):=rfl
end Go.Proofs.YtblniomnhpedjaaGreatDoor
