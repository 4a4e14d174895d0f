/-
  What of a world has changed: of the blocks that were there only some; and maps: which pairs a block holds. No condition.
-/
import Derived.Test.YtckejblkppllaaaGreatDoorRows
import Derived.WalkKit
import Derived.ProofKit
import Derived.BigQuiet
import Derived.BigRegion
import Derived.Deep.RegionWith
import Derived.Deep.RegionHeld
import Derived.Deep.RegionLaw
import Derived.WalkSmall
import Derived.Maps.RangeRun
import Derived.LaidEql
namespace Go.Proofs.YtckejblkppllaaaGreatDoor.Mp
open Go.RowKit
theorem Ac {p : Prop} (h : p) : Hid p:=h
structure Chg (F : Nat→Prop) (w w' : World) : Prop where
 os : w'.os=w.os
 tape : w'.tape=w.tape
 output : w'.output=w.output
 size : w.heap.size≤w'.heap.size
 block : ∀ k,k<w.heap.size→¬ F k→w'.heap[k]? = w.heap[k]?
theorem Chg.refl (F : Nat→Prop) (w : World) : Chg F w w:=⟨rfl,rfl,rfl,Nat.le_refl _,fun _ _ _=>rfl⟩
theorem Chg.trans {F G : Nat→Prop} {a b c : World} (h : Chg F a b) (k : Chg G b c) (hG : ∀ i,i<a.heap.size→G i→F i) : Chg F a c:=
 ⟨k.os.trans h.os,k.tape.trans h.tape,k.output.trans h.output,Nat.le_trans h.size k.size,
  fun i hi hn=>(k.block i (Nat.lt_of_lt_of_le hi h.size) (fun g=>hn (hG i hi g))).trans (h.block i hi hn)⟩
theorem Chg.then {F : Nat→Prop} {a b c : World} (h : Chg F a b) (k : Chg F b c) : Chg F a c:=h.trans k (fun _ _ g=>g)
theorem Chg.mono {F G : Nat→Prop} {a b : World} (h : Chg F a b) (hG : ∀ i,i<a.heap.size→F i→G i) : Chg G a b:=
 ⟨h.os,h.tape,h.output,h.size,fun i hi hn=>h.block i hi (fun f=>hn (hG i hi f))⟩
theorem Chg.drew {F : Nat→Prop} {a b : World} (h : Chg F a b) : Chg F a b.drew:=⟨h.os,h.tape,h.output,h.size,h.block⟩
theorem Chg.drewN {F : Nat→Prop} {a b : World} (h : Chg F a b) (n : Nat) : Chg F a (b.drewN n):=⟨h.os,h.tape,h.output,h.size,h.block⟩
theorem Chg.alloc {F : Nat→Prop} {a b : World} (h : Chg F a b) (o : Obj) : Chg F a (b.alloc o):=
 ⟨h.os,h.tape,h.output,Nat.le_trans h.size (by simp),fun i hi hn=>(Below.heap_alloc _ _ _ (Nat.lt_of_lt_of_le hi h.size)).trans (h.block i hi hn)⟩
theorem Chg.setCell {F : Nat→Prop} {a b : World} (h : Chg F a b) {p : Addr} (hp : F p.block∨a.heap.size≤p.block) (u : Value) : Chg F a (b.setCell p u):=
 ⟨h.os,h.tape,h.output,Nat.le_trans h.size (by simp [World.setCell]),fun i hi hn=>(Below.heap_setCell _ _ _ _ (by
  intro e
  rcases hp with hp | hp
  ·exact hn (e ▸ hp)
  ·omega)).trans (h.block i hi hn)⟩
theorem Chg.below {F : Nat→Prop} {w w' : World} {B : Nat} (h : Chg F w w') (hF : ∀ k,F k→B≤k) (hB : B≤w.heap.size) : Below B w w':=
 ⟨h.os,h.tape,h.output,h.size,fun k hk=>h.block k (by omega) (fun f=>by have:=hF k f; omega)⟩
theorem Chg.keep {F : Nat→Prop} {w w' : World} (h : Chg F w w') {k : Nat} {o : Obj} (hk : w.heap[k]? = some o) (hn : ¬ F k) : w'.heap[k]? = some o:=
 (h.block k (Array.getElem?_eq_some_iff.1 hk).1 hn).trans hk
theorem Ad {w : World} {n : Nat} {o : Obj} (h : w.heap[n]? = some o) : n<w.heap.size:=(Array.getElem?_eq_some_iff.1 h).1
theorem heap_last (w : World) (o : Obj) : (w.alloc o).heap[w.heap.size]? = some o:=by
 show (w.heap.push o)[w.heap.size]? = some o
 simp
theorem heap_past {w : World} {n : Nat} {x : Obj} (o : Obj) (h : w.heap[n]? = some x) : (w.alloc o).heap[n]? = some x:=
 (Below.heap_alloc _ _ _ (Ad h)).trans h
theorem heap_set {w : World} {g : Nat} {c : Array Value} {t : TypeId} {fr : Nat × Nat} (h : w.heap[g]? = some (.cells c t fr)) (i : Nat) (u : Value) :
  (w.setCell ⟨g,i,none⟩ u).heap[g]? = some (.cells (c.setIfInBounds i u) t fr):=by
 simp [World.setCell,Array.getElem?_modify,h]
theorem heap_set_other {w : World} {k : Nat} {o : Obj} {p : Addr} {u : Value} (h : w.heap[k]? = some o) (hn : k≠p.block) : (w.setCell p u).heap[k]? = some o:=
 (Below.heap_setCell _ _ _ _ hn).trans h
theorem ne_of_obj {w : World} {a b : Nat} {x y : Obj} (ha : w.heap[a]? = some x) (hb : w.heap[b]? = some y) (h : x≠y) : a≠b:=by
 intro e
 subst e
 rw [ha] at hb
 injection hb with hb
 exact h hb
open Go.MapKept (Stamped)
open Go.ChangeMaps (setBlock)
def MapW (w : World) (b : Nat) (l : List (Value × Value)) : Prop:=
 ∃ es clock,w.heap[b]? = some (.map es clock)∧Stamped es clock∧(es.toList.map fun e=>(e.key,e.val)).Perm l
structure KeyKind (P : Program) (kt : TypeId) (w : World) (K : Value→Prop) : Prop where
 check : ∀ em v,K v→(Instr.checkKey em 10000 kt v).run P w = .ok () w
 find : ∀ x,K x→∀ es : List MapEntry,(∀ e∈es,K e.key)→((Instr.findKey kt x es).run P w = .ok none w∧∀ e∈es,e.key≠x) ∨ ∃ j e,(Instr.findKey kt x es).run P w = .ok (some (j,e.val)) w∧es[j]? = some e∧e.key=x
 stays : ∀ v,K v→(Instr.keyThatStays v v).run P w = .ok v w
theorem MapW.perm {w : World} {b : Nat} {l l' : List (Value × Value)} (h : MapW w b l) (hp : l.Perm l') : MapW w b l':=by
 obtain ⟨es,c,h1,h2,h3⟩:=h
 exact ⟨es,c,h1,h2,h3.trans hp⟩
theorem MapW.lt {w : World} {b : Nat} {l : List (Value × Value)} (h : MapW w b l) : b<w.heap.size:=by
 obtain ⟨es,c,h1,_⟩:=h
 exact Ad h1
theorem MapW.keep {F : Nat→Prop} {w w' : World} {b : Nat} {l : List (Value × Value)} (h : MapW w b l) (hc : Chg F w w') (hn : ¬ F b) : MapW w' b l:=by
 obtain ⟨es,c,h1,h2,h3⟩:=h
 exact ⟨es,c,hc.keep h1 hn,h2,h3⟩
theorem MapW.same {w w' : World} {b : Nat} {l : List (Value × Value)} (h : MapW w b l) (he : w'.heap[b]? = w.heap[b]?) : MapW w' b l:=by
 obtain ⟨es,c,h1,h2,h3⟩:=h
 exact ⟨es,c,he.trans h1,h2,h3⟩
theorem MapW.made (w : World) : MapW (w.alloc (.map #[] 0)) w.heap.size []:=
 ⟨#[],0,heap_last _ _,MapKept.stamped_empty 0,by simp⟩
theorem MapW.ne {w : World} {a b : Nat} {l : List (Value × Value)} {c : Array Value} {t : TypeId} {fr : Nat × Nat} (h : MapW w b l) (ha : w.heap[a]? = some (.cells c t fr)) : a≠b:=by
 obtain ⟨es,k,h1,_⟩:=h
 exact ne_of_obj ha h1 (by intro e; cases e)
theorem MapW.keys {w : World} {b : Nat} {l : List (Value × Value)} (h : MapW w b l) : (l.map (·.1)).Nodup:=by
 obtain ⟨es,c,h1,h2,h3⟩:=h
 have hk:=((MapKept.stamped_iff es c).1 h2).2.2
 have hp:=h3.map (·.1)
 rw [List.map_map] at hp
 refine (hp.nodup_iff).1 ?_
 rw [List.Nodup,List.pairwise_map]
 exact hk
section
variable {P : Program} {kt : TypeId} {w : World} {K : Value→Prop} {b : Nat} {l : List (Value × Value)} {t e : TypeId} {x v : Value}
theorem MapW.look_none (h : MapW w b l) (k : KeyKind P kt w K) (hK : ∀ p∈l,K p.1) (ht : P.underlying t=some (.map kt e)) (hx : K x) (hn : ∀ p∈l,p.1≠x) {z : Value} (hz : (zeroValue e).run P w = .ok z w) (c : Bool) :
  (Instr.lookup t (.map (some b)) x c).run P w = .ok (if c then .tuple #[z, .bool false] else z) w:=by
 obtain ⟨es,ck,h1,h2,h3⟩:=h
 have hes : ∀ y∈es.toList,(y.key,y.val)∈l:=fun y hy=>h3.mem_iff.1 (List.mem_map.2 ⟨y,hy,rfl⟩)
 rcases k.find x hx es.toList (fun y hy=>hK _ (hes y hy)) with ⟨r1,_⟩ | ⟨j,y,_,r2,r3⟩
 ·cases c <;> simp [Instr.lookup,run_underlying ht,MapKept.run_getObj_map h1,k.check _ x hx,r1,hz,Result.andThen]
 ·exact absurd r3 (hn _ (hes y (List.mem_of_getElem? r2)))
theorem MapW.look (h : MapW w b ((x,v) :: l)) (k : KeyKind P kt w K) (hK : ∀ p∈l,K p.1) (ht : P.underlying t=some (.map kt e)) (hx : K x) (c : Bool) :
  (Instr.lookup t (.map (some b)) x c).run P w = .ok (if c then .tuple #[v, .bool true] else v) w:=by
 have hnd:=h.keys
 obtain ⟨es,ck,h1,h2,h3⟩:=h
 have hes : ∀ y∈es.toList,(y.key,y.val)∈(x,v) :: l:=fun y hy=>h3.mem_iff.1 (List.mem_map.2 ⟨y,hy,rfl⟩)
 have hKs : ∀ y∈es.toList,K y.key:=fun y hy=>by
  rcases List.mem_cons.1 (hes y hy) with e | m
  ·have:=congrArg Prod.fst e
   simp at this
   rw [this]
   exact hx
  ·exact hK _ m
 rcases k.find x hx es.toList hKs with ⟨_,r2⟩ | ⟨j,y,r1,r2,r3⟩
 ·have hm : (x,v)∈es.toList.map fun e=>(e.key,e.val):=h3.mem_iff.2 (by simp)
  obtain ⟨y,hy,e⟩:=List.mem_map.1 hm
  exact absurd (congrArg Prod.fst e) (r2 y hy)
 ·have hv : y.val=v:=by
   rcases List.mem_cons.1 (hes y (List.mem_of_getElem? r2)) with e | m
   ·exact congrArg Prod.snd e
   ·exfalso
    rw [List.map_cons,List.nodup_cons] at hnd
    exact hnd.1 (List.mem_map.2 ⟨_,m,r3⟩)
  cases c <;> simp [Instr.lookup,run_underlying ht,MapKept.run_getObj_map h1,k.check _ x hx,r1,hv,Result.andThen]
theorem MapW.put_new (h : MapW w b l) (k : KeyKind P kt w K) (hK : ∀ p∈l,K p.1) (ht : P.underlying t=some (.map kt e)) (hx : K x) (hn : ∀ p∈l,p.1≠x) (v : Value) :
  ∃ w',(Instr.mapUpdate t (.map (some b)) x v).run P w = .ok () w'∧MapW w' b ((x,v) :: l)∧Chg (· = b) w w'∧w'.heap.size=w.heap.size:=by
 obtain ⟨es,ck,h1,h2,h3⟩:=h
 have hes : ∀ y∈es.toList,(y.key,y.val)∈l:=fun y hy=>h3.mem_iff.1 (List.mem_map.2 ⟨y,hy,rfl⟩)
 rcases k.find x hx es.toList (fun y hy=>hK _ (hes y hy)) with ⟨r1,r2⟩ | ⟨j,y,_,r2,r3⟩
 ·refine ⟨setBlock w b (.map (es.push ⟨x,v,ck⟩) (ck+1)),?_,⟨es.push ⟨x,v,ck⟩,ck+1,by simp [setBlock,Ad h1],MapKept.stamped_push h2 r2,?_⟩,⟨rfl,rfl,rfl,by simp [setBlock],fun i _ hi=>?_⟩,by simp [setBlock]⟩
  ·simp [Instr.mapUpdate,run_underlying ht,MapKept.run_getObj_map h1,k.check _ x hx,r1,MapKept.run_setObj_map _ h1,Result.andThen,setBlock]
  ·rw [Array.toList_push,List.map_append]
   exact (List.perm_append_singleton _ _).trans (h3.cons _)
  ·simp only [setBlock,Array.getElem?_setIfInBounds]
   rw [if_neg (fun e=>hi e.symm)]
 ·exact absurd r3 (hn _ (hes y (List.mem_of_getElem? r2)))
theorem L8 {α : Type} {y : α} : ∀ (l : List α) (j : Nat),l[j]? = some y→(y :: l.eraseIdx j).Perm l
 | [],j,h=>by simp at h
 | a :: r,0,h=>by simp at h; subst h; simp
 | a :: r,j+1,h=>by
  rw [List.eraseIdx_cons_succ]
  exact (List.Perm.swap _ _ _).trans ((L8 r j (by simpa using h)).cons a)
theorem map_split {es : Array MapEntry} {ck : Nat} (h2 : Stamped es ck) (h3 : (es.toList.map fun e=>(e.key,e.val)).Perm ((x,v) :: l)) {j : Nat} {y : MapEntry} (r2 : es.toList[j]? = some y) (r3 : y.key=x) :
  y.val=v∧(((es.toList.eraseIdx j).map fun e=>(e.key,e.val))).Perm l:=by
 have hp : (y :: es.toList.eraseIdx j).Perm es.toList:=L8 _ _ r2
 have hq : ((x,y.val) :: (es.toList.eraseIdx j).map fun e=>(e.key,e.val)).Perm ((x,v) :: l):=by
  have:=(hp.map fun e : MapEntry=>(e.key,e.val)).trans h3
  rw [List.map_cons,r3] at this
  exact this
 have hk:=((MapKept.stamped_iff es ck).1 h2).2.2
 have hnd : (((x,v) :: l).map (·.1)).Nodup:=by
  have h4:=h3.map (·.1)
  rw [List.map_map] at h4
  refine (h4.nodup_iff).1 ?_
  rw [List.Nodup,List.pairwise_map]
  exact hk
 have hv : y.val=v:=by
  rcases List.mem_cons.1 (hq.mem_iff.1 (List.mem_cons_self)) with e | m
  ·exact congrArg Prod.snd e
  ·rw [List.map_cons,List.nodup_cons] at hnd
   exact absurd (List.mem_map.2 ⟨_,m,rfl⟩) hnd.1
 refine ⟨hv,?_⟩
 rw [hv] at hq
 exact hq.cons_inv
theorem Mz {w : World} {b : Nat} {o : Obj} (h : w.heap[b]? = some o) (o' : Obj) : (setBlock w b o').heap[b]? = some o':=by
 simp [setBlock,Ad h]
theorem Mh (w : World) (b : Nat) (o' : Obj) : Chg (· = b) w (setBlock w b o'):=by
 refine ⟨rfl,rfl,rfl,by simp [setBlock],fun i _ hi=>?_⟩
 simp only [setBlock,Array.getElem?_setIfInBounds]
 rw [if_neg (fun e=>hi e.symm)]
theorem M0 (w : World) (b : Nat) (o' : Obj) : (setBlock w b o').heap.size=w.heap.size:=by simp [setBlock]
theorem map_keysK {es : Array MapEntry} (h3 : (es.toList.map fun e=>(e.key,e.val)).Perm l) (hK : ∀ p∈l,K p.1) : ∀ y∈es.toList,K y.key:=
 fun y hy=>hK _ (h3.mem_iff.1 (List.mem_map.2 ⟨y,hy,rfl⟩))
theorem consK {K : Value→Prop} {x v : Value} {l : List (Value × Value)} (hx : K x) (hK : ∀ p∈l,K p.1) : ∀ p∈(x,v) :: l,K p.1:=by
 intro p hp
 rcases List.mem_cons.1 hp with rfl | hp
 ·exact hx
 ·exact hK p hp
theorem MapW.put_old (h : MapW w b ((x,v) :: l)) (k : KeyKind P kt w K) (hK : ∀ p∈l,K p.1) (ht : P.underlying t=some (.map kt e)) (hx : K x) (v' : Value) :
  ∃ w',(Instr.mapUpdate t (.map (some b)) x v').run P w = .ok () w'∧MapW w' b ((x,v') :: l)∧Chg (· = b) w w'∧w'.heap.size=w.heap.size:=by
 obtain ⟨es,ck,h1,h2,h3⟩:=h
 rcases k.find x hx es.toList (map_keysK h3 (consK hx hK)) with ⟨_,r2⟩ | ⟨j,y,r1,r2,r3⟩
 ·obtain ⟨y,hy,e⟩:=List.mem_map.1 (h3.mem_iff.2 (List.mem_cons_self))
  exact absurd (congrArg Prod.fst e) (r2 y hy)
 ·obtain ⟨hv,hp⟩:=map_split h2 h3 r2 r3
  have hj : es[j]? = some y:=by simpa using r2
  have hjl : j<es.toList.length:=(List.getElem?_eq_some_iff.1 r2).1
  refine ⟨setBlock w b (.map (es.modify j fun e=>{ e with key:=x,val:=v' }) ck),?_,⟨_,_,Mz h1 _,MapKept.stamped_modify h2 _ _ (fun _ _=>rfl) (fun e' _ he'=>by rw [hj] at he'; cases he'; exact r3.symm),?_⟩,Mh _ _ _,M0 _ _ _⟩
  ·simp [Instr.mapUpdate,run_underlying ht,MapKept.run_getObj_map h1,k.check _ x hx,r1,hj,r3,k.stays x hx,MapKept.run_setObj_map _ h1,Result.andThen,setBlock]
  ·rw [Array.toList_modify,ChangeMaps.modify_eq_set _ _ _ _ r2,List.map_set]
   refine (ChangeMaps.set_perm _ _ (by simpa using hjl) _).trans ?_
   rw [← ChangeMaps.map_eraseIdx]
   exact hp.cons _
theorem MapW.drop_old (h : MapW w b ((x,v) :: l)) (k : KeyKind P kt w K) (hK : ∀ p∈l,K p.1) (ht : P.underlying t=some (.map kt e)) (hx : K x) (ty k' : TypeId) :
  ∃ w',(Builtin.delete_ #[t,k'] ty #[.map (some b),x]).run P w = .ok (.tuple #[]) w'∧MapW w' b l∧Chg (· = b) w w'∧w'.heap.size=w.heap.size:=by
 obtain ⟨es,ck,h1,h2,h3⟩:=h
 rcases k.find x hx es.toList (map_keysK h3 (consK hx hK)) with ⟨_,r2⟩ | ⟨j,y,r1,r2,r3⟩
 ·obtain ⟨y,hy,e⟩:=List.mem_map.1 (h3.mem_iff.2 (List.mem_cons_self))
  exact absurd (congrArg Prod.fst e) (r2 y hy)
 ·obtain ⟨hv,hp⟩:=map_split h2 h3 r2 r3
  have hjl : j<es.toList.length:=(List.getElem?_eq_some_iff.1 r2).1
  refine ⟨setBlock w b (.map (es.eraseIdxIfInBounds j) ck),?_,⟨_,_,Mz h1 _,MapKept.stamped_erase h2 j,?_⟩,Mh _ _ _,M0 _ _ _⟩
  ·simp [Builtin.delete_,run_underlying ht,MapKept.run_getObj_map h1,k.check _ x hx,r1,MapKept.run_setObj_map _ h1,Result.andThen,setBlock]
  ·have : (es.eraseIdxIfInBounds j).toList=es.toList.eraseIdx j:=by
    rw [Array.toList_eraseIdxIfInBounds]
   rw [this]
   exact hp
def KStr (v : Value) : Prop:=∃ s,v = .string s
theorem kind_plain {d : TypeDesc} (hk : P.underlying kt=some d) (hi : ∀ v,K v→MapKept.IsKey d v) : KeyKind P kt w K where
 check em v hv:=MapKept.run_checkKey hk (hi v hv) em 9999
 find x hx es hes:=by
  rcases MapKept.findNow_spec (hi x hx) es 0 (fun y hy=>hi _ (hes y hy)) with ⟨h1,h2⟩ | ⟨j,e0,h1,h2,h3⟩
  ·exact Or.inl ⟨MapKept.run_findKey hk h1,h2⟩
  ·exact Or.inr ⟨j,e0,by simpa using MapKept.run_findKey hk h1,h2,h3⟩
 stays v hv:=MapKept.run_keyThatStays (hi v hv)
theorem kind_str (hk : P.underlying kt=some .string) : KeyKind P kt w KStr:=kind_plain hk (by rintro v ⟨s,rfl⟩; trivial)
end
def Goes (w : World) (b r : Nat) (rest : List (Value × Value)) : Prop:=
 ∃ es clock seen c0,w.heap[b]? = some (.map es clock)∧Stamped es clock∧w.heap[r]? = some (.mapIter (some b) clock seen c0)∧clock≤c0∧((leftOf es seen).toList.map fun e=>(e.key,e.val)).Perm rest
theorem Goes.keep {F : Nat→Prop} {w w' : World} {b r : Nat} {rest : List (Value × Value)} (h : Goes w b r rest) (hc : Chg F w w') (h1 : ¬ F b) (h2 : ¬ F r) : Goes w' b r rest:=by
 obtain ⟨es,ck,seen,c0,a1,a2,a3,a4,a5⟩:=h
 exact ⟨es,ck,seen,c0,hc.keep a1 h1,a2,hc.keep a3 h2,a4,a5⟩
theorem Goes.lt {w : World} {b r : Nat} {rest : List (Value × Value)} (h : Goes w b r rest) : r<w.heap.size:=by
 obtain ⟨es,ck,seen,c0,a1,a2,a3,a4,a5⟩:=h
 exact Ad a3
theorem Goes.start {P : Program} {w : World} {b : Nat} {l : List (Value × Value)} {t k e : TypeId} (h : MapW w b l) (ht : P.underlying t=some (.map k e)) :
  ∃ w',(Instr.range t (.map (some b))).run P w = .ok (.pointer (some ⟨w.heap.size,0,none⟩)) w'∧Goes w' b w.heap.size l∧Chg (fun _=>False) w w'∧w'.heap.size=w.heap.size+1:=by
 obtain ⟨es,ck,h1,h2,h3⟩:=h
 refine ⟨_,run_range_map w t k e b es ck ht h1,⟨es,ck,#[],ck,heap_past _ h1,h2,heap_last _ _,Nat.le_refl _,?_⟩,(Chg.refl _ _).alloc _,by simp⟩
 have : leftOf es #[]=es:=by unfold leftOf; simp
 rw [this]
 exact h3
end Go.Proofs.YtckejblkppllaaaGreatDoor.Mp
