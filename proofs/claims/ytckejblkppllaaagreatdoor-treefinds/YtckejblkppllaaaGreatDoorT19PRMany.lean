/-
  Texts joined: PRMany, PList, PRGo0.
-/
import Derived.Test.YtckejblkppllaaaGreatDoorT18PRNode
namespace Go.Proofs.YtckejblkppllaaaGreatDoor
open Go.RowKit
theorem Ji {objs : List Ag} (hob : ∀ o∈objs,o.2.length≤140737488351232) (id b : Bs) (h : Aj objs id=some b) : b.length≤140737488355328:=by
 obtain ⟨o,ho,rfl⟩:=findO_mem h
 have:=hob o ho
 omega
theorem RightM.links {n : A2} (h : RightM n) : n.2.1.length≤64∧(∀ k∈n.2.2,A6 k=true)∧Am n.2.2≤4096∧n.2.2.length≤64:=by
 by_cases hz : n.1=0
 ·obtain ⟨h1,h2⟩:=h.leaf hz
  rw [h1]
  exact ⟨(G2 h2).1,by simp,by simp [Am],by simp⟩
 ·have h3:=h.lo
  obtain ⟨h1,h2⟩:=h.branch (by omega)
  rw [h1]
  have h4:=Ki h2
  exact ⟨by simp,h4.2,Mn h2,h4.1⟩
end Go.Proofs.YtckejblkppllaaaGreatDoor
namespace Go.Proofs.YtckejblkppllaaaGreatDoor
open Go.RowKit
structure LsS where
 asked : List Bs
 out : List Ag
 bad : Int
def inM (lo hi k : Bs) : Bool:=!ltB k lo && (hi.isEmpty || ltB k hi)
def Ey (s : LsS) (k : Bs) : Bool:=!s.out.isEmpty && !ltB (By s.out) k
def Ct (lo hi : Bs) : List Ag→LsS→LsS
 | [],s=>s
 | x :: r,s=>if inM lo hi x.1 then (if Ey s x.1 then ⟨s.asked,s.out,122⟩ else Ct lo hi r ⟨s.asked,s.out ++ [x],s.bad⟩) else Ct lo hi r s
def Bl (hi k : Bs) : Bool:=!hi.isEmpty && !ltB k hi
def Cd (f : Ah→LsS→LsS) (lo hi : Bs) : List Ah→LsS→LsS
 | [],s=>s
 | k :: r,s=>if Bl hi k.1 then (if s.bad=0∧ltB k.1 lo=false then f k s else s) else Cd f lo hi r (if s.bad=0∧ltB k.1 lo=false then f k s else s)
def goM (fd : Bs→Option Bs) (lo hi : Bs) : Nat→Ah→Int→LsS→LsS
 | 0,_,_,s=>s
 | d+1,k,level,s=>
  if (Ao fd k level).1≠0 then ⟨s.asked ++ [k.2.1],s.out,(Ao fd k level).1⟩
  else Cd (fun q t=>goM fd lo hi d q ((Ao fd k level).2.1 - 1) t) lo hi (Ao fd k level).2.2.2 (Ct lo hi (Ao fd k level).2.2.1 ⟨s.asked ++ [k.2.1],s.out,s.bad⟩)
def Do (s t : LsS) (n m : Nat) : Prop:=t.asked.length≤s.asked.length+n∧t.out.length≤s.out.length+m
theorem Do.refl (s : LsS) : Do s s 0 0:=⟨by omega,by omega⟩
theorem Do.trans {s t u : LsS} {n m n' m' : Nat} (h : Do s t n m) (k : Do t u n' m') : Do s u (n+n') (m+m'):=⟨by have:=h.1; have:=k.1; omega,by have:=h.2; have:=k.2; omega⟩
theorem Do.le {s t : LsS} {n m n' m' : Nat} (h : Do s t n m) (h1 : n≤n') (h2 : m≤m') : Do s t n' m':=⟨by have:=h.1; omega,by have:=h.2; omega⟩
theorem Il (lo hi : Bs) : ∀ (ps : List Ag) (s : LsS),Do s (Ct lo hi ps s) 0 ps.length
 | [],s=>Do.refl s
 | x :: r,s=>by
  rw [Ct]
  by_cases h1 : inM lo hi x.1=true
  ·rw [if_pos h1]
   by_cases h2 : Ey s x.1=true
   ·rw [if_pos h2]
    exact ⟨by simp only; omega,by simp only; omega⟩
   ·rw [if_neg h2]
    obtain ⟨h3,h4⟩:=Il lo hi r ⟨s.asked,s.out ++ [x],s.bad⟩
    simp only [List.length_append,List.length_singleton] at h3 h4
    exact ⟨h3,by rw [List.length_cons]; omega⟩
  ·rw [if_neg h1]
   exact (Il lo hi r s).le (Nat.le_refl _) (by simp)
theorem If (k : Ah) (r : List Ah) : Am (k :: r)=k.2.2+Am r:=by simp [Am]
theorem Kd {f : Ah→LsS→LsS} {c : Nat} {lo hi : Bs} (hf : ∀ k s,A6 k=true→Do s (f k s) (c * k.2.2.toNat) k.2.2.toNat) : ∀ (ks : List Ah) (s : LsS),(∀ k∈ks,A6 k=true)→Do s (Cd f lo hi ks s) (c * (Am ks).toNat) (Am ks).toNat
 | [],s,_=>(Do.refl s).le (by simp) (by simp)
 | k :: r,s,h=>by
  have h0:=h k (by simp)
  have h2:=Ef r (fun q hq=>h q (by simp [hq]))
  have h3:=((Ee k).1 h0).2.2.1
  have e : (Am (k :: r)).toNat=k.2.2.toNat+(Am r).toNat:=by rw [If]; omega
  have h1 : Do s (if s.bad=0∧ltB k.1 lo=false then f k s else s) (c * k.2.2.toNat) k.2.2.toNat:=by
   by_cases hc : s.bad=0∧ltB k.1 lo=false
   ·rw [if_pos hc]; exact hf k s h0
   ·rw [if_neg hc]; exact (Do.refl s).le (by simp) (by simp)
  rw [Cd,e,Nat.mul_add]
  by_cases hc : Bl hi k.1=true
  ·rw [if_pos hc]
   exact h1.le (by omega) (by omega)
  ·rw [if_neg hc]
   exact h1.trans (Kd hf r _ (fun q hq=>h q (by simp [hq])))
theorem Fw {n : A2} {k : Ah} {level : Int} (h : D8 n k level=true) : n.1=level∧Bt n=k.2.2:=by
 unfold D8 at h
 simp only [Bool.and_eq_true,decide_eq_true_eq] at h
 exact h.1
theorem Kp (fd : Bs→Option Bs) (hs : ∀ id b,fd id=some b→b.length≤140737488355328) (lo hi : Bs) : ∀ (d : Nat) (k : Ah) (level : Int) (s : LsS),A6 k=true→0≤level→level≤20→Do s (goM fd lo hi d k level s) (d * k.2.2.toNat) k.2.2.toNat
 | 0,k,level,s,_,_,_=>(Do.refl s).le (by simp) (by simp)
 | d+1,k,level,s,hk,hl,hl2=>by
  have hm:=((Ee k).1 hk).2.2.1
  rw [goM]
  have hd : (d+1) * k.2.2.toNat=d * k.2.2.toNat+k.2.2.toNat:=by rw [Nat.add_mul]; simp
  by_cases h1 : (Ao fd k level).1≠0
  ·rw [if_pos h1]
   exact ⟨by simp only [List.length_append,List.length_singleton]; omega,by simp only; omega⟩
  ·rw [if_neg h1]
   obtain ⟨hR,hF⟩:=Eg hs (by simpa using h1)
   rcases hF with hF | hF
   ·omega
   obtain ⟨g1,g2⟩:=Fw hF
   generalize (Ao fd k level).2=n at *
   obtain ⟨l1,l2,l3,l4⟩:=hR.links
   have h3:=Il lo hi n.2.1 ⟨s.asked ++ [k.2.1],s.out,s.bad⟩
   have h5:=Ef n.2.2 l2
   unfold Bt at g2
   by_cases hz : n.1=0
   ·obtain ⟨q1,q2⟩:=hR.leaf hz
    rw [q1,Cd]
    obtain ⟨x1,x2⟩:=h3
    simp only [List.length_append,List.length_singleton] at x1 x2
    rw [q1] at g2
    simp only [Am,List.map_nil,List.sum_nil] at g2
    exact ⟨by omega,by omega⟩
   ·have hlo:=hR.lo
    have h4:=Kd (f:=fun q t=>goM fd lo hi d q (n.1 - 1) t) (c:=d) (lo:=lo) (hi:=hi) (fun q t hq=>Kp fd hs lo hi d q (n.1 - 1) t hq (by omega) (by omega)) n.2.2 (Ct lo hi n.2.1 ⟨s.asked ++ [k.2.1],s.out,s.bad⟩) l2
    obtain ⟨x1,x2⟩:=h3.trans h4
    simp only [List.length_append,List.length_singleton] at x1 x2
    have h6 : (Am n.2.2).toNat≤k.2.2.toNat:=by omega
    have h7:=Nat.mul_le_mul_left d h6
    exact ⟨by omega,by omega⟩
theorem goM_root (fd : Bs→Option Bs) (hs : ∀ id b,fd id=some b→b.length≤140737488355328) (lo hi : Bs) (d : Nat) (k : Ah) (s : LsS) : Do s (goM fd lo hi (d+1) k (-1) s) (1+d * 4096) 4160:=by
 rw [goM]
 by_cases h1 : (Ao fd k (-1)).1≠0
 ·rw [if_pos h1]
  exact ⟨by simp only [List.length_append,List.length_singleton]; omega,by simp only; omega⟩
 ·rw [if_neg h1]
  obtain ⟨hR,-⟩:=Eg hs (by simpa using h1)
  generalize (Ao fd k (-1)).2=n at *
  obtain ⟨l1,l2,l3,l4⟩:=hR.links
  have h3:=Il lo hi n.2.1 ⟨s.asked ++ [k.2.1],s.out,s.bad⟩
  have hlo:=hR.lo
  have hhi:=hR.hi
  by_cases hz : n.1=0
  ·obtain ⟨q1,q2⟩:=hR.leaf hz
   rw [q1,Cd]
   obtain ⟨x1,x2⟩:=h3
   simp only [List.length_append,List.length_singleton] at x1 x2
   exact ⟨by omega,by omega⟩
  ·have h4:=Kd (f:=fun q t=>goM fd lo hi d q (n.1 - 1) t) (c:=d) (lo:=lo) (hi:=hi) (fun q t hq=>Kp fd hs lo hi d q (n.1 - 1) t hq (by omega) (by omega)) n.2.2 (Ct lo hi n.2.1 ⟨s.asked ++ [k.2.1],s.out,s.bad⟩) l2
   obtain ⟨x1,x2⟩:=h3.trans h4
   simp only [List.length_append,List.length_singleton] at x1 x2
   have h6 : (Am n.2.2).toNat≤4096:=by omega
   have h7:=Nat.mul_le_mul_left d h6
   exact ⟨by omega,by omega⟩
end Go.Proofs.YtckejblkppllaaaGreatDoor
namespace Go.Proofs.YtckejblkppllaaaGreatDoor
open Go.RowKit
def RlW (B : Nat) (w : World) (g : Nat) (vo : Value) (objs : List Ag) (vp : Value) (s : LsS) : Prop:=
 B≤g∧Ls B w 2 Ak vo objs∧∃ va,w.heap[g]? = some (.cells #[vo,va,vp, .int .i64 s.bad] 202)∧Rw B w 9 1 idC va s.asked∧Rw B w 135 2 Ak vp s.out
abbrev lts : List TypeId:=[9,202]
theorem RlW.le {B : Nat} {w : World} {g : Nat} {vo : Value} {objs : List Ag} {vp : Value} {s : LsS} (h : RlW B w g vo objs vp s) : B≤w.heap.size:=by
 obtain ⟨hg,-,va,hh,-⟩:=h
 have:=Ad hh
 omega
theorem RlW.below {B : Nat} {w w' : World} {g : Nat} {vo : Value} {objs : List Ag} {vp : Value} {s : LsS} (h : RlW B w g vo objs vp s) (hb : Below w.heap.size w w') : RlW B w' g vo objs vp s:=by
 have hB:=h.le
 obtain ⟨hg,hl,va,hh,h1,h3⟩:=h
 exact ⟨hg,hl.keep (hb.mono hB),va,(hb.block _ (Ad hh)).trans hh,Er h1 (fun q hq=>hb.block q (h1.lt q hq).2),Er h3 (fun q hq=>hb.block q (h3.lt q hq).2)⟩
theorem RlW.lt {B : Nat} {w : World} {g : Nat} {vo : Value} {objs : List Ag} {vp : Value} {s : LsS} (h : RlW B w g vo objs vp s) {q : Nat} (hq : vp.ownBlock=some q) : q<w.heap.size:=by
 obtain ⟨-,-,va,-,-,h3⟩:=h
 exact (h3.lt q hq).2
theorem set4 {w : World} {g : Nat} {v0 v1 v2 v3 : Value} {t : TypeId} (h : w.heap[g]? = some (.cells #[v0,v1,v2,v3] t)) (u : Value) :
  (w.setCell ⟨g,1,none⟩ u).heap[g]? = some (.cells #[v0,u,v2,v3] t)∧(w.setCell ⟨g,2,none⟩ u).heap[g]? = some (.cells #[v0,v1,u,v3] t)∧(w.setCell ⟨g,3,none⟩ u).heap[g]? = some (.cells #[v0,v1,v2,u] t):=by
 refine ⟨?_,?_,?_⟩ <;> (rw [heap_setCell _ _ _ _ _ _ _ h]; simp)
theorem RlW.ask {B : Nat} {w : World} {g : Nat} {vo : Value} {objs : List Ag} {vp : Value} {s : LsS} (h : RlW B w g vo objs vp s) (id : Bs) (hn : s.asked.length≤4294967296) :
  ∃ va va' w1,w.heap[g]? = some (.cells #[vo,va,vp, .int .i64 s.bad] 202)∧(∃ a m c,va' = .slice a m c) ∧
   (Builtin.append_ #[76,76] 76 #[va, .slice (some ⟨w.heap.size,0,none⟩) 1 1]).run Tryz.prog (w.alloc (.cells #[.string (Ab id)] 9)).drew = .ok va' w1 ∧
   w1.heap[g]? = some (.cells #[vo,va,vp, .int .i64 s.bad] 202)∧RlW B (w1.setCell ⟨g,1,none⟩ va') g vo objs vp ⟨s.asked ++ [id],s.out,s.bad⟩∧Mv B lts none w w1∧Mv B lts none w (w1.setCell ⟨g,1,none⟩ va'):=by
 have hB:=h.le
 obtain ⟨hg,hl,va,hh,h1,h3⟩:=h
 obtain ⟨va',w1,hrun,hrow,hgr,-⟩:=app_id w.drew B va s.asked id h1 hB hn
 rw [Hb] at hrun hgr
 rw [show w.drew.heap.size=w.heap.size from rfl] at hrun
 have h1' : Rw B (w.alloc (.cells #[.string (Ab id)] 9)).drew 9 1 idC va s.asked:=World.ownsRow.alloc h1 _
 have h3' : Rw B (w.alloc (.cells #[.string (Ab id)] 9)).drew 135 2 Ak vp s.out:=World.ownsRow.alloc h3 _
 have hh':=(heap_past w (.cells #[.string (Ab id)] 9) _ (Ad hh)).trans hh
 have hh1:=Ej h1' hgr (show (w.alloc _).drew.heap[g]? = _ from hh') (by decide)
 have hm1 : Mv B lts none w w1:=((Mv.refl B lts none w).alloc hB _).drew.grown h1' hgr (by decide) (by simp; omega)
 have hm2:=hm1.set (j:=1) hh1 (by decide) hg va'
 refine ⟨va,va',w1,hh,Av hrow,hrun,hh1,⟨hg,hl.keep hm2.b,va',(set4 hh1 _).1,Ap hrow hh1 (by decide) _,Ap (G4 h3' h1' hgr (F0 h3' h1' (by decide))) hh1 (by decide) _⟩,hm1,hm2⟩
theorem RlW.tell {B : Nat} {w : World} {g : Nat} {vo : Value} {objs : List Ag} {vp : Value} {s : LsS} (h : RlW B w g vo objs vp s) (p : Ag) (hn : s.out.length≤4294967296) :
  ∃ va vp' w1,w.heap[g]? = some (.cells #[vo,va,vp, .int .i64 s.bad] 202)∧(∃ a m c,vp' = .slice a m c) ∧
   (Builtin.append_ #[126,126] 126 #[vp, .slice (some ⟨w.heap.size,0,none⟩) 1 1]).run Tryz.prog (w.alloc (.cells #[.string (Ab p.1), .string (Ab p.2)] 135)).drew = .ok vp' w1 ∧
   w1.heap[g]? = some (.cells #[vo,va,vp, .int .i64 s.bad] 202)∧RlW B (w1.setCell ⟨g,2,none⟩ vp') g vo objs vp' ⟨s.asked,s.out ++ [p],s.bad⟩∧Mv B lts vp.ownBlock w w1∧Mv B lts vp.ownBlock w (w1.setCell ⟨g,2,none⟩ vp')∧Nx w vp.ownBlock vp'.ownBlock:=by
 have hB:=h.le
 obtain ⟨hg,hl,va,hh,h1,h3⟩:=h
 obtain ⟨vp',w1,hrun,hrow,hgr,hloc⟩:=Kb w.drew B vp s.out p h3 hB hn
 rw [Hb] at hrun hgr
 rw [show w.drew.heap.size=w.heap.size from rfl] at hrun hloc
 have h1' : Rw B (w.alloc (.cells #[.string (Ab p.1), .string (Ab p.2)] 135)).drew 9 1 idC va s.asked:=World.ownsRow.alloc h1 _
 have h3' : Rw B (w.alloc (.cells #[.string (Ab p.1), .string (Ab p.2)] 135)).drew 135 2 Ak vp s.out:=World.ownsRow.alloc h3 _
 have hh':=(heap_past w (.cells #[.string (Ab p.1), .string (Ab p.2)] 135) _ (Ad hh)).trans hh
 have hh1:=Ej h3' hgr (show (w.alloc _).drew.heap[g]? = _ from hh') (by decide)
 have hm1 : Mv B lts vp.ownBlock w w1:=((Mv.refl B lts vp.ownBlock w).alloc hB _).drew.grownRow h3' hgr (Nx.refl _ _) (by simp; omega)
 have hm2:=hm1.set (j:=2) hh1 (by decide) hg vp'
 refine ⟨va,vp',w1,hh,Av hrow,hrun,hh1,⟨hg,hl.keep hm2.b,va,(set4 hh1 _).2.1,Ap (G4 h1' h3' hgr (F0 h1' h3' (by decide))) hh1 (by decide) _,Ap hrow hh1 (by decide) _⟩,hm1,hm2,?_⟩
 rcases hloc with h | h
 ·exact .inl h
 ·exact .inr ⟨_,h,by omega⟩
theorem RlW.err {B : Nat} {w : World} {g : Nat} {vo : Value} {objs : List Ag} {vp : Value} {s : LsS} (h : RlW B w g vo objs vp s) (e : Int) : RlW B (w.setCell ⟨g,3,none⟩ (.int .i64 e)) g vo objs vp ⟨s.asked,s.out,e⟩∧Mv B lts none w (w.setCell ⟨g,3,none⟩ (.int .i64 e)):=by
 obtain ⟨hg,hl,va,hh,h1,h3⟩:=h
 have hm : Mv B lts none w (w.setCell ⟨g,3,none⟩ (.int .i64 e)):=(Mv.refl B lts none w).set (j:=3) hh (by decide) hg _
 exact ⟨⟨hg,hl.keep hm.b,va,(set4 hh _).2.2,Ap h1 hh (by decide) _,Ap h3 hh (by decide) _⟩,hm⟩
theorem L3 {lo hi : Bs} {x : Ag} {r : List Ag} {s : LsS} (h : inM lo hi x.1=false) : Ct lo hi (x :: r) s=Ct lo hi r s:=by rw [Ct,if_neg (by rw [h]; simp)]
theorem takeM_stop {lo hi : Bs} {x : Ag} {r : List Ag} {s : LsS} (h : inM lo hi x.1=true) (h2 : Ey s x.1=true) : Ct lo hi (x :: r) s=⟨s.asked,s.out,122⟩:=by rw [Ct,if_pos h,if_pos h2]
theorem L5 {lo hi : Bs} {x : Ag} {r : List Ag} {s : LsS} (h : inM lo hi x.1=true) (h2 : Ey s x.1=false) : Ct lo hi (x :: r) s=Ct lo hi r ⟨s.asked,s.out ++ [x],s.bad⟩:=by rw [Ct,if_pos h,if_neg (by rw [h2]; simp)]
end Go.Proofs.YtckejblkppllaaaGreatDoor
