/-
  Texts joined: TDoor3, TDoor5.
-/
import Derived.Test.YtblniomnhpedjaaGreatDoorP51TDoor
import Derived.Test.YtblniomnhpedjaaGreatDoorP45WCrcMath
import Derived.Test.YtblniomnhpedjaaGreatDoorP48TBytes
namespace Go.Proofs.YtblniomnhpedjaaGreatDoor
open Go.ChangeShapes Go.WideShapes Go.ChangeAt Go.RowKit
theorem cellsOpT : Tryz.prog.cellsOf 29=5:=by kernel_rfl
theorem bytesOpT : Tryz.prog.bytesOf 29=56:=by kernel_rfl
theorem cellsI1 : Tryz.prog.cellsOf 3=1:=by kernel_rfl
theorem cellsPs : Tryz.prog.cellsOf 27=1:=by kernel_rfl
def OpCellT (W : World) (x : Addr) (i : Nat) (o : OpT) : Prop:=
 ∃ pv,PsT W pv o.2.1∧W.cell? (x.add (i * 5))=some (.int .i64 o.1)∧W.cell? (x.add (i * 5+1))=some pv∧W.cell? (x.add (i * 5+2))=some (.int .i64 o.2.2.1)∧W.cell? (x.add (i * 5+3))=some (.int .i64 o.2.2.2.1)∧W.cell? (x.add (i * 5+4))=some (.int .i64 o.2.2.2.2)
def In64 (c : Int) : Prop:=-9223372036854775808≤c∧c≤9223372036854775807
def Kq {H : Type} (d : DataW H) (o : OpT) : Prop:=(In64 o.1∧In64 o.2.2.1∧In64 o.2.2.2.1∧In64 o.2.2.2.2)∧∃ d0 d1 d2 d3 d4,d = .agg [d0,d1,d2,d3,d4]∧shapeP d1 o.2.1
set_option maxRecDepth 100000 in
theorem open_op {H : Type} {enc : TypeId × Value→H} {W : World} {x : Addr} {i n : Nat} {cs : List Value} {y : DataW H × List MemPlace} (h1 : W.cells? 0 (x.add (i * 5)) 5=some cs)
  (h2 : DataW.trod enc Tryz.prog W 0 (fun _=>true) true n 29 cs=some y) : ∃ o,OpCellT W x i o∧Kq y.1 o:=by
 obtain ⟨_,hlen,hc⟩:=World.cells?_some h1
 obtain ⟨xs,k,hk,hxy,_,hxl,hf⟩:=DataW.trod_struct Tryz.underlying29 h2
 match xs,hxl,cs,hlen with
 | [y0,y1,y2,y3,y4],_,[v0,v1,v2,v3,v4],_=>
  have g0:=hf 0 _ rfl
  have g1:=hf 1 _ rfl
  have g2:=hf 2 _ rfl
  have g3:=hf 3 _ rfl
  have g4:=hf 4 _ rfl
  simp [cellsI1,cellsPs] at g0 g1 g2 g3 g4
  have c0:=hc 0 (by omega)
  have c1:=hc 1 (by omega)
  have c2:=hc 2 (by omega)
  have c3:=hc 3 (by omega)
  have c4:=hc 4 (by omega)
  rw [Deep.add_add] at c0 c1 c2 c3 c4
  simp at c0 c1 c2 c3 c4
  obtain ⟨n0,e0,-,w0⟩:=DataW.trod_int Tryz.underlying3 g0
  obtain ⟨l1,b1,q1⟩:=open_puts_at g1
  obtain ⟨n2,e2,-,w2⟩:=DataW.trod_int Tryz.underlying3 g2
  obtain ⟨n3,e3,-,w3⟩:=DataW.trod_int Tryz.underlying3 g3
  obtain ⟨n4,e4,-,w4⟩:=DataW.trod_int Tryz.underlying3 g4
  simp at e0 e2 e3 e4
  subst e0 e2 e3 e4
  have r0:=bounds_i64 w0
  have r2:=bounds_i64 w2
  have r3:=bounds_i64 w3
  have r4:=bounds_i64 w4
  refine ⟨(n0,l1,n2,n3,n4),⟨v1,b1,c0,c1,c2,c3,c4⟩,⟨r0,r2,r3,r4⟩,y0.1,y1.1,y2.1,y3.1,y4.1,?_,q1⟩
  rw [hxy]
  rfl
def shapeT {H : Type} (d : DataW H) (os : List OpT) : Prop:=(d = .nil∧os = []) ∨ ∃ elems spare,d = .slice elems spare∧elems.length=os.length∧∀ i (h1 : i<elems.length) (h2 : i<os.length),Kq elems[i] os[i]
set_option maxRecDepth 100000 in
theorem open_ops_at {H : Type} {enc : TypeId × Value→H} {W : World} {v : Value} {d : DataW H} {ps : List MemPlace} {fuel : Nat} (h : DataW.trod enc Tryz.prog W 0 (fun _=>true) true fuel 22 [v]=some (d,ps)) :
  ∃ os,OpsT W v os∧shapeT d os:=by
 rcases Deep.open_slice Tryz.underlying22 h with ⟨hcs,hx⟩ | ⟨x,len',cap',m,n,D,Pl,hcs,_,hl,hm,hmm,hx,hcell⟩
 ·simp at hcs
  obtain rfl:=hcs
  injection hx with hd _
  exact ⟨[],⟨none,0,rfl,by simp,by simp,fun h=>absurd rfl h⟩, .inl ⟨hd,rfl⟩⟩
 ·simp at hcs
  obtain rfl:=hcs
  injection hx with hd _
  have hmc : m=cap':=by simpa using hmm
  rw [cellsOpT] at hcell
  obtain ⟨os,hll,hp⟩:=Lu (p:=fun i o=>OpCellT W x i o∧Kq (D i) o) len' (fun i hi=>by
   obtain ⟨cs,h1,h2⟩:=hcell i (by omega)
   exact open_op h1 h2)
  refine ⟨os,⟨some x,cap',by rw [hll],by omega,hm,fun hne=>?_⟩, .inr ⟨_,_,hd,by simp; omega,fun i h1 h2=>?_⟩⟩
  ·have hpos : 0<os.length:=List.length_pos_iff.2 hne
   obtain ⟨b,off,spot⟩:=x
   obtain ⟨pv0,-,hc,-⟩:=(hp 0 hpos).1
   have hspot : spot=none:=by simpa [Addr.add] using World.cell?_spot hc
   subst hspot
   refine ⟨b,off,rfl,?_,fun j hj=>?_⟩
   ·have:=Mn hc
    rw [Addr.add_lit] at this
    exact this
   ·obtain ⟨pv,k1,k2,k3,k4,k5,k6⟩:=(hp j hj).1
    simp only [Addr.add_lit] at k2 k3 k4 k5 k6
    exact ⟨pv,k1,k2,by rw [Nat.add_assoc]; exact k3,by rw [Nat.add_assoc]; exact k4,by rw [Nat.add_assoc]; exact k5,by rw [Nat.add_assoc]; exact k6⟩
  ·simp only [List.getElem_map,List.getElem_range]
   exact (hp i h2).2
set_option maxRecDepth 100000 in
theorem open_ops {H : Type} {enc : TypeId × Value→H} {W : World} {b0 : Nat} {v : Value} {d : DataW H} {ps : List MemPlace} (hval : Value.okWide Tryz.prog W .any b0 22 v) (h : DataW.Trod enc Tryz.prog W 0 (fun _=>true) true 22 v d ps) :
  ∃ os,OpsT W v os∧shapeT d os:=by
 obtain ⟨a,len,cap,rfl⟩:=okWide_slice Tryz.underlying22 hval
 obtain ⟨fuel,hf⟩:=h
 exact open_ops_at hf
set_option maxRecDepth 100000 in
theorem ops_le {H : Type} {ts : List TypeId} {ds : List (DataW H)} (hsz : (DataW.weightsEach Tryz.prog ts ds).all (· ≤ reachBytes)=true) {j : Nat} {d : DataW H} {os : List OpT}
  (ht : ts[j]? = some 22) (hd : ds[j]? = some d) (h : shapeT d os) : os.length≤140737488351232∧FineT os:=by
 rcases h with ⟨_,rfl⟩ | ⟨elems,spare,rfl,he,hs⟩
 ·exact ⟨by simp,fun o ho=>by cases ho⟩
 ·refine ⟨?_,fun o ho=>?_⟩
  ·have:=sized_slice hsz ht hd Tryz.underlying22
   rw [bytesOpT] at this
   simp only [reachBytes] at this
   omega
  ·obtain ⟨i,hi,rfl⟩:=List.getElem_of_mem ho
   obtain ⟨hk,d0,d1,d2,d3,d4,hd0,h3⟩:=hs i (by omega) hi
   have hin : elems[i]'(by omega)∈elems:=List.getElem_mem _
   have key : ∀ n,n∈DataW.weights Tryz.prog 29 (elems[i]'(by omega))→n≤reachBytes:=fun n hn=>by
    have hm:=DataW.weights_mem_each (P:=Tryz.prog) ht hd n (by
     simp only [DataW.weights,Tryz.underlying22]
     exact List.mem_cons_of_mem _ (List.mem_append.2 (Or.inl (Mq hin hn))))
    have:=List.all_eq_true.1 hsz _ hm
    simpa using this
   rw [hd0] at key
   simp only [DataW.weights,Tryz.underlying29] at key
   refine ⟨hk.1,hk.2.1,fun p hp=>?_⟩
   have k1:=key p.1.length (by
    simp only [DataW.weightsEach,List.map_cons,List.mem_append]
    exact Or.inr (Or.inl (h3.2 p hp).1))
   have k2:=key p.2.1.length (by
    simp only [DataW.weightsEach,List.map_cons,List.mem_append]
    exact Or.inr (Or.inl (h3.2 p hp).2))
   simp only [reachBytes] at k1 k2
   omega
end Go.Proofs.YtblniomnhpedjaaGreatDoor
namespace Go.Proofs.YtblniomnhpedjaaGreatDoor
open Go.ChangeShapes Go.WideShapes Go.ChangeAt Go.RowKit
theorem ops_in {H : Type} {d : DataW H} {os : List OpT} (h : shapeT d os) : FineN os:=by
 rcases h with ⟨_,rfl⟩ | ⟨elems,spare,rfl,he,hs⟩
 ·exact fun o ho=>by cases ho
 ·intro o ho
  obtain ⟨i,hi,rfl⟩:=List.getElem_of_mem ho
  obtain ⟨hk,-⟩:=hs i (by omega) hi
  exact ⟨hk.2.2.1,hk.2.2.2⟩
end Go.Proofs.YtblniomnhpedjaaGreatDoor
