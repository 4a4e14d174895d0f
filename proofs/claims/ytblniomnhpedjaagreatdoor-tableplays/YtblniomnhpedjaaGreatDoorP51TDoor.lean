/-
  Puts that came in, out of their reading. No condition.
-/
import Derived.Test.YtblniomnhpedjaaGreatDoorP50Door
import Derived.Test.YtblniomnhpedjaaGreatDoorP31TLog
namespace Go.Proofs.YtblniomnhpedjaaGreatDoor
open Go.ChangeShapes Go.WideShapes Go.ChangeAt Go.RowKit
theorem cellsPut : Tryz.prog.cellsOf 73=3:=by kernel_rfl
theorem cellsS1 : Tryz.prog.cellsOf 9=1:=by kernel_rfl
theorem cellsBool : Tryz.prog.cellsOf 4=1:=by kernel_rfl
theorem strB_of1 (s : ByteArray) : Ae s.data.toList=s:=by simp [Ae]
theorem Lu {α : Type} {p : Nat→α→Prop} : ∀ n : Nat,(∀ i,i<n→∃ a,p i a)→∃ l : List α,l.length=n∧∀ i (h : i<l.length),p i l[i]
 | 0,_=>⟨[],rfl,fun i h=>by simp at h⟩
 | n+1,h=>by
  obtain ⟨l,hl,hp⟩:=Lu n (fun i hi=>h i (by omega))
  obtain ⟨a,ha⟩:=h n (by omega)
  refine ⟨l ++ [a],by simp [hl],fun i hi=>?_⟩
  simp at hi
  by_cases hin : i<l.length
  ·rw [List.getElem_append_left hin]; exact hp i hin
  ·obtain rfl : i=n:=by omega
   subst hl
   rw [List.getElem_append_right (by omega)]
   simpa using ha
theorem Mq {H : Type} {P : Program} {e : TypeId} {l : List (DataW H)} {d : DataW H} (h : d∈l) {n : Nat} (hn : n∈d.weights P e) : n∈DataW.weightsAll P e l:=by
 induction l with
 | nil=>cases h
 | cons x r ih=>
  simp only [DataW.weightsAll,List.mem_append]
  rcases List.mem_cons.1 h with rfl | h
  ·exact Or.inl hn
  ·exact Or.inr (ih h)
set_option maxRecDepth 100000 in
theorem open_Put1 {H : Type} {enc : TypeId × Value→H} {W : World} {x : Addr} {i n : Nat} {cs : List Value} {y : DataW H × List MemPlace} (h1 : W.cells? 0 (x.add (i * 3)) 3=some cs)
  (h2 : DataW.trod enc Tryz.prog W 0 (fun _=>true) true n 73 cs=some y) : ∃ p : An,(∀ j u,(C1 p)[j]? = some u→W.cell? (x.add (i * 3+j))=some u)∧p.1.length∈y.1.weights Tryz.prog 73∧p.2.1.length∈y.1.weights Tryz.prog 73:=by
 obtain ⟨_,hlen,hc⟩:=World.cells?_some h1
 obtain ⟨xs,k,hk,hxy,_,hxl,hf⟩:=DataW.trod_struct Tryz.underlying73 h2
 match xs,hxl,cs,hlen with
 | [y0,y1,y2],_,[v0,v1,v2],_=>
  have g0:=hf 0 _ rfl
  have g1:=hf 1 _ rfl
  have g2:=hf 2 _ rfl
  simp [cellsS1,cellsBool] at g0 g1 g2
  have c0:=hc 0 (by omega)
  have c1:=hc 1 (by omega)
  have c2:=hc 2 (by omega)
  rw [Deep.add_add] at c0 c1 c2
  simp at c0 c1 c2
  obtain ⟨s0,e0,d0,-⟩:=DataW.trod_string Tryz.underlying9 g0
  obtain ⟨s1,e1,d1,-⟩:=DataW.trod_string Tryz.underlying9 g1
  obtain ⟨s2,e2,-⟩:=DataW.trod_bool Tryz.underlying4 g2
  simp at e0 e1 e2
  subst e0 e1 e2
  subst d0 d1
  refine ⟨(s0.data.toList,(s1.data.toList,s2)),fun j u hu=>?_,?_,?_⟩
  ·match j,hu with
   | 0,hu=>simp [C1,strB_of1] at hu; subst hu; simpa using c0
   | 1,hu=>simp [C1,strB_of1] at hu; subst hu; simpa using c1
   | 2,hu=>simp [C1] at hu; subst hu; simpa using c2
  ·rw [hxy]
   simp [DataW.weights,DataW.weightsEach,Tryz.underlying73]
  ·rw [hxy]
   simp [DataW.weights,DataW.weightsEach,Tryz.underlying73]
def shapeP {H : Type} (d : DataW H) (os : List An) : Prop:=((d = .nil∧os = []) ∨ ∃ elems spare,d = .slice elems spare∧elems.length=os.length)∧∀ o∈os,o.1.length∈d.weights Tryz.prog 27∧o.2.1.length∈d.weights Tryz.prog 27
set_option maxRecDepth 100000 in
theorem open_puts_at {H : Type} {enc : TypeId × Value→H} {W : World} {v : Value} {d : DataW H} {ps : List MemPlace} {fuel : Nat} (h : DataW.trod enc Tryz.prog W 0 (fun _=>true) true fuel 27 [v]=some (d,ps)) :
  ∃ os : List An,PsT W v os∧shapeP d os:=by
 rcases Deep.open_slice Tryz.underlying27 h with ⟨hcs,hx⟩ | ⟨x,len',cap',m,n,D,Pl,hcs,_,hl,hm,hmm,hx,hcell⟩
 ·simp at hcs
  obtain rfl:=hcs
  injection hx with hd _
  exact ⟨[],PsT.nil _, .inl ⟨hd,rfl⟩,by simp⟩
 ·simp at hcs
  obtain rfl:=hcs
  injection hx with hd _
  have hmc : m=cap':=by simpa using hmm
  rw [cellsPut] at hcell
  obtain ⟨os,hll,hp⟩:=Lu (p:=fun i (o : An)=>(∀ j u,(C1 o)[j]? = some u→W.cell? (x.add (i * 3+j))=some u)∧o.1.length∈(D i).weights Tryz.prog 73∧o.2.1.length∈(D i).weights Tryz.prog 73) len' (fun i hi=>by
   obtain ⟨cs,h1,h2⟩:=hcell i (by omega)
   exact open_Put1 h1 h2)
  refine ⟨os,⟨some x,cap',by rw [hll],by omega,hm,fun hne=>?_⟩, .inr ⟨_,_,hd,by simp; omega⟩,fun o ho=>?_⟩
  ·have hpos : 0<os.length:=List.length_pos_iff.2 hne
   obtain ⟨b,off,spot⟩:=x
   have hc:=(hp 0 hpos).1 0 _ rfl
   have hspot : spot=none:=by simpa [Addr.add] using World.cell?_spot hc
   subst hspot
   refine ⟨b,off,rfl,?_,fun j hj i u hu=>?_⟩
   ·have:=Mn hc
    rw [Addr.add_lit] at this
    exact this
   ·have:=(hp j hj).1 i u hu
    rw [Addr.add_lit] at this
    rw [Nat.add_assoc]
    exact this
  ·obtain ⟨j,hj,rfl⟩:=List.getElem_of_mem ho
   rw [hd]
   simp only [DataW.weights,Tryz.underlying27,List.mem_cons,List.mem_append]
   exact ⟨.inr (.inl (Mq (d:=D j) (List.mem_map.2 ⟨j,by simp; omega,rfl⟩) (hp j hj).2.1)), .inr (.inl (Mq (d:=D j) (List.mem_map.2 ⟨j,by simp; omega,rfl⟩) (hp j hj).2.2))⟩
end Go.Proofs.YtblniomnhpedjaaGreatDoor
