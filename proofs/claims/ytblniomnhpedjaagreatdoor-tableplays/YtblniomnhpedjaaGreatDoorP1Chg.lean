/-
  Texts joined: Chg, Small, TPlain, Copy.
-/
import Derived.Test.YtblniomnhpedjaaGreatDoorRows
import Derived.WalkKit
import Derived.ProofKit
import Derived.BigQuiet
import Derived.BigRegion
import Derived.Deep.RegionWith
import Derived.Deep.RegionHeld
import Derived.Deep.RegionLaw
import Derived.WalkSmall
import Derived.Maps.RangeRun
import Derived.LaidEql
import Derived.Test.YtblniomnhpedjaaGreatDoorP0Pure
import Derived.Lib.AppendStr
import Derived.Laws.IdiomStrings
import Derived.Maps.AppendAt
import Derived.OwnWalk
import Derived.Lib.SliceRun
import Derived.Shelf.SlMaps.Clone
import Derived.Lib.UnsafeStr
import Derived.Lib.BufferWrite
import Derived.Laws.MakeOwn
namespace Go.Proofs.YtblniomnhpedjaaGreatDoor
open Go.RowKit
theorem Ab {p : Prop} (h : p) : Hid p:=h
structure Chg (F : Nat→Prop) (w w' : World) : Prop where
 os : w'.os=w.os
 tape : w'.tape=w.tape
 output : w'.output=w.output
 size : w.heap.size≤w'.heap.size
 block : ∀ k,k<w.heap.size→¬ F k→w'.heap[k]? = w.heap[k]?
theorem Chg.refl (F : Nat→Prop) (w : World) : Chg F w w:=⟨rfl,rfl,rfl,Nat.le_refl _,fun _ _ _=>rfl⟩
theorem Chg.trans {F G : Nat→Prop} {a b c : World} (h : Chg F a b) (k : Chg G b c) (hG : ∀ i,i<a.heap.size→G i→F i) : Chg F a c:=
 ⟨k.os.trans h.os,k.tape.trans h.tape,k.output.trans h.output,Nat.le_trans h.size k.size,
  fun i hi hn=>(k.block i (Nat.lt_of_lt_of_le hi h.size) (fun g=>hn (hG i hi g))).trans (h.block i hi hn)⟩
theorem Chg.then {F : Nat→Prop} {a b c : World} (h : Chg F a b) (k : Chg F b c) : Chg F a c:=h.trans k (fun _ _ g=>g)
theorem Chg.mono {F G : Nat→Prop} {a b : World} (h : Chg F a b) (hG : ∀ i,i<a.heap.size→F i→G i) : Chg G a b:=
 ⟨h.os,h.tape,h.output,h.size,fun i hi hn=>h.block i hi (fun f=>hn (hG i hi f))⟩
theorem Chg.drew {F : Nat→Prop} {a b : World} (h : Chg F a b) : Chg F a b.drew:=⟨h.os,h.tape,h.output,h.size,h.block⟩
theorem Chg.drewN {F : Nat→Prop} {a b : World} (h : Chg F a b) (n : Nat) : Chg F a (b.drewN n):=⟨h.os,h.tape,h.output,h.size,h.block⟩
theorem Chg.undrew {F : Nat→Prop} {a b : World} (h : Chg F a.drew b) : Chg F a b:=⟨h.os,h.tape,h.output,h.size,h.block⟩
theorem Chg.alloc {F : Nat→Prop} {a b : World} (h : Chg F a b) (o : Obj) : Chg F a (b.alloc o):=
 ⟨h.os,h.tape,h.output,Nat.le_trans h.size (by simp),fun i hi hn=>(Below.heap_alloc _ _ _ (Nat.lt_of_lt_of_le hi h.size)).trans (h.block i hi hn)⟩
theorem Chg.setCell {F : Nat→Prop} {a b : World} (h : Chg F a b) {p : Addr} (hp : F p.block∨a.heap.size≤p.block) (u : Value) : Chg F a (b.setCell p u):=
 ⟨h.os,h.tape,h.output,Nat.le_trans h.size (by simp [World.setCell]),fun i hi hn=>(Below.heap_setCell _ _ _ _ (by
  intro e
  rcases hp with hp | hp
  ·exact hn (e ▸ hp)
  ·omega)).trans (h.block i hi hn)⟩
theorem Chg.of_grown {w w' : World} {row : Option Nat} (h : w.grownBy w' row) : Chg (fun k=>some k=row) w w':=
 ⟨h.os,h.tape,h.output,h.size,fun k hk hn=>h.block k hk hn⟩
theorem Chg.of_below {w w' : World} {B : Nat} (h : Below B w w') : Chg (fun k=>B≤k) w w':=
 ⟨h.os,h.tape,h.output,h.size,fun k _ hn=>h.block k (Nat.lt_of_not_le hn)⟩
theorem Chg.below {F : Nat→Prop} {w w' : World} {B : Nat} (h : Chg F w w') (hF : ∀ k,F k→B≤k) (hB : B≤w.heap.size) : Below B w w':=
 ⟨h.os,h.tape,h.output,h.size,fun k hk=>h.block k (by omega) (fun f=>by have:=hF k f; omega)⟩
theorem Chg.keep {F : Nat→Prop} {w w' : World} (h : Chg F w w') {k : Nat} {o : Obj} (hk : w.heap[k]? = some o) (hn : ¬ F k) : w'.heap[k]? = some o:=
 (h.block k (Array.getElem?_eq_some_iff.1 hk).1 hn).trans hk
theorem At {w : World} {n : Nat} {o : Obj} (h : w.heap[n]? = some o) : n<w.heap.size:=(Array.getElem?_eq_some_iff.1 h).1
theorem Au (w : World) (o : Obj) : (w.alloc o).heap[w.heap.size]? = some o:=by
 show (w.heap.push o)[w.heap.size]? = some o
 simp
theorem Bh {w : World} {n : Nat} {x : Obj} (o : Obj) (h : w.heap[n]? = some x) : (w.alloc o).heap[n]? = some x:=
 (Below.heap_alloc _ _ _ (At h)).trans h
theorem A0 {w : World} {g : Nat} {c : Array Value} {t : TypeId} {fr : Nat × Nat} (h : w.heap[g]? = some (.cells c t fr)) (i : Nat) (u : Value) :
  (w.setCell ⟨g,i,none⟩ u).heap[g]? = some (.cells (c.setIfInBounds i u) t fr):=by
 simp [World.setCell,Array.getElem?_modify,h]
theorem Cy {w : World} {k : Nat} {o : Obj} {p : Addr} {u : Value} (h : w.heap[k]? = some o) (hn : k≠p.block) : (w.setCell p u).heap[k]? = some o:=
 (Below.heap_setCell _ _ _ _ hn).trans h
theorem Ad {w : World} {g : Nat} {c : Array Value} {t : TypeId} {fr : Nat × Nat} (h : w.heap[g]? = some (.cells c t fr)) (i : Nat) : w.cell? ⟨g,i,none⟩=c[i]?:=by
 simp [World.cell?,h]
theorem Av {w : World} {g : Nat} {c : Array Value} {t : TypeId} (h : w.heap[g]? = some (.cells c t (0,0))) (i : Nat) : w.frozen? ⟨g,i,none⟩=false:=by
 simp [World.frozen?,h]
theorem Gg {w : World} {a b : Nat} {x y : Obj} (ha : w.heap[a]? = some x) (hb : w.heap[b]? = some y) (h : x≠y) : a≠b:=by
 intro e
 subst e
 rw [ha] at hb
 injection hb with hb
 exact h hb
open Go.MapKept (Stamped)
open Go.ChangeMaps (setBlock)
def Ak (w : World) (b : Nat) (l : List (Value × Value)) : Prop:=
 ∃ es clock,w.heap[b]? = some (.map es clock)∧Stamped es clock∧(es.toList.map fun e=>(e.key,e.val)).Perm l
structure KeyKind (P : Program) (kt : TypeId) (w : World) (K : Value→Prop) : Prop where
 check : ∀ em v,K v→(Instr.checkKey em 10000 kt v).run P w = .ok () w
 find : ∀ x,K x→∀ es : List MapEntry,(∀ e∈es,K e.key)→((Instr.findKey kt x es).run P w = .ok none w∧∀ e∈es,e.key≠x) ∨ ∃ j e,(Instr.findKey kt x es).run P w = .ok (some (j,e.val)) w∧es[j]? = some e∧e.key=x
 stays : ∀ v,K v→(Instr.keyThatStays v v).run P w = .ok v w
theorem Ak.perm {w : World} {b : Nat} {l l' : List (Value × Value)} (h : Ak w b l) (hp : l.Perm l') : Ak w b l':=by
 obtain ⟨es,c,h1,h2,h3⟩:=h
 exact ⟨es,c,h1,h2,h3.trans hp⟩
theorem Ak.lt {w : World} {b : Nat} {l : List (Value × Value)} (h : Ak w b l) : b<w.heap.size:=by
 obtain ⟨es,c,h1,_⟩:=h
 exact At h1
theorem Ak.keep {F : Nat→Prop} {w w' : World} {b : Nat} {l : List (Value × Value)} (h : Ak w b l) (hc : Chg F w w') (hn : ¬ F b) : Ak w' b l:=by
 obtain ⟨es,c,h1,h2,h3⟩:=h
 exact ⟨es,c,hc.keep h1 hn,h2,h3⟩
theorem Ak.same {w w' : World} {b : Nat} {l : List (Value × Value)} (h : Ak w b l) (he : w'.heap[b]? = w.heap[b]?) : Ak w' b l:=by
 obtain ⟨es,c,h1,h2,h3⟩:=h
 exact ⟨es,c,he.trans h1,h2,h3⟩
theorem Ak.made (w : World) : Ak (w.alloc (.map #[] 0)) w.heap.size []:=
 ⟨#[],0,Au _ _,MapKept.stamped_empty 0,by simp⟩
theorem Ak.ne {w : World} {a b : Nat} {l : List (Value × Value)} {c : Array Value} {t : TypeId} {fr : Nat × Nat} (h : Ak w b l) (ha : w.heap[a]? = some (.cells c t fr)) : a≠b:=by
 obtain ⟨es,k,h1,_⟩:=h
 exact Gg ha h1 (by intro e; cases e)
theorem Ak.keys {w : World} {b : Nat} {l : List (Value × Value)} (h : Ak w b l) : (l.map (·.1)).Nodup:=by
 obtain ⟨es,c,h1,h2,h3⟩:=h
 have hk:=((MapKept.stamped_iff es c).1 h2).2.2
 have hp:=h3.map (·.1)
 rw [List.map_map] at hp
 refine (hp.nodup_iff).1 ?_
 rw [List.Nodup,List.pairwise_map]
 exact hk
section
variable {P : Program} {kt : TypeId} {w : World} {K : Value→Prop} {b : Nat} {l : List (Value × Value)} {t e : TypeId} {x v : Value}
theorem Ak.look_none (h : Ak w b l) (k : KeyKind P kt w K) (hK : ∀ p∈l,K p.1) (ht : P.underlying t=some (.map kt e)) (hx : K x) (hn : ∀ p∈l,p.1≠x) {z : Value} (hz : (zeroValue e).run P w = .ok z w) (c : Bool) :
  (Instr.lookup t (.map (some b)) x c).run P w = .ok (if c then .tuple #[z, .bool false] else z) w:=by
 obtain ⟨es,ck,h1,h2,h3⟩:=h
 have hes : ∀ y∈es.toList,(y.key,y.val)∈l:=fun y hy=>h3.mem_iff.1 (List.mem_map.2 ⟨y,hy,rfl⟩)
 rcases k.find x hx es.toList (fun y hy=>hK _ (hes y hy)) with ⟨r1,_⟩ | ⟨j,y,_,r2,r3⟩
 ·cases c <;> simp [Instr.lookup,run_underlying ht,MapKept.run_getObj_map h1,k.check _ x hx,r1,hz,Result.andThen]
 ·exact absurd r3 (hn _ (hes y (List.mem_of_getElem? r2)))
theorem Ak.look (h : Ak w b ((x,v) :: l)) (k : KeyKind P kt w K) (hK : ∀ p∈l,K p.1) (ht : P.underlying t=some (.map kt e)) (hx : K x) (c : Bool) :
  (Instr.lookup t (.map (some b)) x c).run P w = .ok (if c then .tuple #[v, .bool true] else v) w:=by
 have hnd:=h.keys
 obtain ⟨es,ck,h1,h2,h3⟩:=h
 have hes : ∀ y∈es.toList,(y.key,y.val)∈(x,v) :: l:=fun y hy=>h3.mem_iff.1 (List.mem_map.2 ⟨y,hy,rfl⟩)
 have hKs : ∀ y∈es.toList,K y.key:=fun y hy=>by
  rcases List.mem_cons.1 (hes y hy) with e | m
  ·have:=congrArg Prod.fst e
   simp at this
   rw [this]
   exact hx
  ·exact hK _ m
 rcases k.find x hx es.toList hKs with ⟨_,r2⟩ | ⟨j,y,r1,r2,r3⟩
 ·have hm : (x,v)∈es.toList.map fun e=>(e.key,e.val):=h3.mem_iff.2 (by simp)
  obtain ⟨y,hy,e⟩:=List.mem_map.1 hm
  exact absurd (congrArg Prod.fst e) (r2 y hy)
 ·have hv : y.val=v:=by
   rcases List.mem_cons.1 (hes y (List.mem_of_getElem? r2)) with e | m
   ·exact congrArg Prod.snd e
   ·exfalso
    rw [List.map_cons,List.nodup_cons] at hnd
    exact hnd.1 (List.mem_map.2 ⟨_,m,r3⟩)
  cases c <;> simp [Instr.lookup,run_underlying ht,MapKept.run_getObj_map h1,k.check _ x hx,r1,hv,Result.andThen]
theorem Ak.put_new (h : Ak w b l) (k : KeyKind P kt w K) (hK : ∀ p∈l,K p.1) (ht : P.underlying t=some (.map kt e)) (hx : K x) (hn : ∀ p∈l,p.1≠x) (v : Value) :
  ∃ w',(Instr.mapUpdate t (.map (some b)) x v).run P w = .ok () w'∧Ak w' b ((x,v) :: l)∧Chg (· = b) w w'∧w'.heap.size=w.heap.size:=by
 obtain ⟨es,ck,h1,h2,h3⟩:=h
 have hes : ∀ y∈es.toList,(y.key,y.val)∈l:=fun y hy=>h3.mem_iff.1 (List.mem_map.2 ⟨y,hy,rfl⟩)
 rcases k.find x hx es.toList (fun y hy=>hK _ (hes y hy)) with ⟨r1,r2⟩ | ⟨j,y,_,r2,r3⟩
 ·refine ⟨setBlock w b (.map (es.push ⟨x,v,ck⟩) (ck+1)),?_,⟨es.push ⟨x,v,ck⟩,ck+1,by simp [setBlock,At h1],MapKept.stamped_push h2 r2,?_⟩,⟨rfl,rfl,rfl,by simp [setBlock],fun i _ hi=>?_⟩,by simp [setBlock]⟩
  ·simp [Instr.mapUpdate,run_underlying ht,MapKept.run_getObj_map h1,k.check _ x hx,r1,MapKept.run_setObj_map _ h1,Result.andThen,setBlock]
  ·rw [Array.toList_push,List.map_append]
   exact (List.perm_append_singleton _ _).trans (h3.cons _)
  ·simp only [setBlock,Array.getElem?_setIfInBounds]
   rw [if_neg (fun e=>hi e.symm)]
 ·exact absurd r3 (hn _ (hes y (List.mem_of_getElem? r2)))
theorem Pi {α : Type} {y : α} : ∀ (l : List α) (j : Nat),l[j]? = some y→(y :: l.eraseIdx j).Perm l
 | [],j,h=>by simp at h
 | a :: r,0,h=>by simp at h; subst h; simp
 | a :: r,j+1,h=>by
  rw [List.eraseIdx_cons_succ]
  exact (List.Perm.swap _ _ _).trans ((Pi r j (by simpa using h)).cons a)
theorem map_split {es : Array MapEntry} {ck : Nat} (h2 : Stamped es ck) (h3 : (es.toList.map fun e=>(e.key,e.val)).Perm ((x,v) :: l)) {j : Nat} {y : MapEntry} (r2 : es.toList[j]? = some y) (r3 : y.key=x) :
  y.val=v∧(((es.toList.eraseIdx j).map fun e=>(e.key,e.val))).Perm l:=by
 have hp : (y :: es.toList.eraseIdx j).Perm es.toList:=Pi _ _ r2
 have hq : ((x,y.val) :: (es.toList.eraseIdx j).map fun e=>(e.key,e.val)).Perm ((x,v) :: l):=by
  have:=(hp.map fun e : MapEntry=>(e.key,e.val)).trans h3
  rw [List.map_cons,r3] at this
  exact this
 have hk:=((MapKept.stamped_iff es ck).1 h2).2.2
 have hnd : (((x,v) :: l).map (·.1)).Nodup:=by
  have h4:=h3.map (·.1)
  rw [List.map_map] at h4
  refine (h4.nodup_iff).1 ?_
  rw [List.Nodup,List.pairwise_map]
  exact hk
 have hv : y.val=v:=by
  rcases List.mem_cons.1 (hq.mem_iff.1 (List.mem_cons_self)) with e | m
  ·exact congrArg Prod.snd e
  ·rw [List.map_cons,List.nodup_cons] at hnd
   exact absurd (List.mem_map.2 ⟨_,m,rfl⟩) hnd.1
 refine ⟨hv,?_⟩
 rw [hv] at hq
 exact hq.cons_inv
theorem J7 {w : World} {b : Nat} {o : Obj} (h : w.heap[b]? = some o) (o' : Obj) : (setBlock w b o').heap[b]? = some o':=by
 simp [setBlock,At h]
theorem Hz (w : World) (b : Nat) (o' : Obj) : Chg (· = b) w (setBlock w b o'):=by
 refine ⟨rfl,rfl,rfl,by simp [setBlock],fun i _ hi=>?_⟩
 simp only [setBlock,Array.getElem?_setIfInBounds]
 rw [if_neg (fun e=>hi e.symm)]
theorem Js (w : World) (b : Nat) (o' : Obj) : (setBlock w b o').heap.size=w.heap.size:=by simp [setBlock]
theorem Le {es : Array MapEntry} (h3 : (es.toList.map fun e=>(e.key,e.val)).Perm l) (hK : ∀ p∈l,K p.1) : ∀ y∈es.toList,K y.key:=
 fun y hy=>hK _ (h3.mem_iff.1 (List.mem_map.2 ⟨y,hy,rfl⟩))
theorem consK {K : Value→Prop} {x v : Value} {l : List (Value × Value)} (hx : K x) (hK : ∀ p∈l,K p.1) : ∀ p∈(x,v) :: l,K p.1:=by
 intro p hp
 rcases List.mem_cons.1 hp with rfl | hp
 ·exact hx
 ·exact hK p hp
theorem Ak.put_old (h : Ak w b ((x,v) :: l)) (k : KeyKind P kt w K) (hK : ∀ p∈l,K p.1) (ht : P.underlying t=some (.map kt e)) (hx : K x) (v' : Value) :
  ∃ w',(Instr.mapUpdate t (.map (some b)) x v').run P w = .ok () w'∧Ak w' b ((x,v') :: l)∧Chg (· = b) w w'∧w'.heap.size=w.heap.size:=by
 obtain ⟨es,ck,h1,h2,h3⟩:=h
 rcases k.find x hx es.toList (Le h3 (consK hx hK)) with ⟨_,r2⟩ | ⟨j,y,r1,r2,r3⟩
 ·obtain ⟨y,hy,e⟩:=List.mem_map.1 (h3.mem_iff.2 (List.mem_cons_self))
  exact absurd (congrArg Prod.fst e) (r2 y hy)
 ·obtain ⟨hv,hp⟩:=map_split h2 h3 r2 r3
  have hj : es[j]? = some y:=by simpa using r2
  have hjl : j<es.toList.length:=(List.getElem?_eq_some_iff.1 r2).1
  refine ⟨setBlock w b (.map (es.modify j fun e=>{ e with key:=x,val:=v' }) ck),?_,⟨_,_,J7 h1 _,MapKept.stamped_modify h2 _ _ (fun _ _=>rfl) (fun e' _ he'=>by rw [hj] at he'; cases he'; exact r3.symm),?_⟩,Hz _ _ _,Js _ _ _⟩
  ·simp [Instr.mapUpdate,run_underlying ht,MapKept.run_getObj_map h1,k.check _ x hx,r1,hj,r3,k.stays x hx,MapKept.run_setObj_map _ h1,Result.andThen,setBlock]
  ·rw [Array.toList_modify,ChangeMaps.modify_eq_set _ _ _ _ r2,List.map_set]
   refine (ChangeMaps.set_perm _ _ (by simpa using hjl) _).trans ?_
   rw [← ChangeMaps.map_eraseIdx]
   exact hp.cons _
theorem Ak.drop_old (h : Ak w b ((x,v) :: l)) (k : KeyKind P kt w K) (hK : ∀ p∈l,K p.1) (ht : P.underlying t=some (.map kt e)) (hx : K x) (ty k' : TypeId) :
  ∃ w',(Builtin.delete_ #[t,k'] ty #[.map (some b),x]).run P w = .ok (.tuple #[]) w'∧Ak w' b l∧Chg (· = b) w w'∧w'.heap.size=w.heap.size:=by
 obtain ⟨es,ck,h1,h2,h3⟩:=h
 rcases k.find x hx es.toList (Le h3 (consK hx hK)) with ⟨_,r2⟩ | ⟨j,y,r1,r2,r3⟩
 ·obtain ⟨y,hy,e⟩:=List.mem_map.1 (h3.mem_iff.2 (List.mem_cons_self))
  exact absurd (congrArg Prod.fst e) (r2 y hy)
 ·obtain ⟨hv,hp⟩:=map_split h2 h3 r2 r3
  have hjl : j<es.toList.length:=(List.getElem?_eq_some_iff.1 r2).1
  refine ⟨setBlock w b (.map (es.eraseIdxIfInBounds j) ck),?_,⟨_,_,J7 h1 _,MapKept.stamped_erase h2 j,?_⟩,Hz _ _ _,Js _ _ _⟩
  ·simp [Builtin.delete_,run_underlying ht,MapKept.run_getObj_map h1,k.check _ x hx,r1,MapKept.run_setObj_map _ h1,Result.andThen,setBlock]
  ·have : (es.eraseIdxIfInBounds j).toList=es.toList.eraseIdx j:=by
    rw [Array.toList_eraseIdxIfInBounds]
   rw [this]
   exact hp
theorem Ak.drop_none (h : Ak w b l) (k : KeyKind P kt w K) (hK : ∀ p∈l,K p.1) (ht : P.underlying t=some (.map kt e)) (hx : K x) (hn : ∀ p∈l,p.1≠x) (ty k' : TypeId) :
  ∃ w',(Builtin.delete_ #[t,k'] ty #[.map (some b),x]).run P w = .ok (.tuple #[]) w'∧Ak w' b l∧Chg (· = b) w w'∧w'.heap.size=w.heap.size:=by
 obtain ⟨es,ck,h1,h2,h3⟩:=h
 rcases k.find x hx es.toList (Le h3 hK) with ⟨r1,r2⟩ | ⟨j,y,_,r2,r3⟩
 ·refine ⟨setBlock w b (.map es ck),?_,⟨_,_,J7 h1 _,h2,h3⟩,Hz _ _ _,Js _ _ _⟩
  simp [Builtin.delete_,run_underlying ht,MapKept.run_getObj_map h1,k.check _ x hx,r1,MapKept.run_setObj_map _ h1,Result.andThen,setBlock]
 ·exact absurd r3 (hn _ (h3.mem_iff.1 (List.mem_map.2 ⟨y,List.mem_of_getElem? r2,rfl⟩)))
theorem nil_look (ht : P.underlying t=some (.map kt e)) (hc : (Instr.checkKey true 10000 kt x).run P w = .ok () w) (hf : (Instr.findKey kt x []).run P w = .ok none w) {z : Value} (hz : (zeroValue e).run P w = .ok z w) (c : Bool) :
  (Instr.lookup t (.map none) x c).run P w = .ok (if c then .tuple #[z, .bool false] else z) w:=by
 cases c <;> simp [Instr.lookup,run_underlying ht,hc,hf,hz,Result.andThen]
theorem nil_drop (ht : P.underlying t=some (.map kt e)) (hc : (Instr.checkKey true 10000 kt x).run P w = .ok () w) (ty k' : TypeId) :
  (Builtin.delete_ #[t,k'] ty #[.map none,x]).run P w = .ok (.tuple #[]) w:=by
 simp [Builtin.delete_,run_underlying ht,hc,Result.andThen]
def KStr (v : Value) : Prop:=∃ s,v = .string s
def KInt (v : Value) : Prop:=∃ a,v = .int .i64 a
def KPtr (w : World) (v : Value) : Prop:=∃ b c t,v = .pointer (some ⟨b,0,none⟩)∧w.heap[b]? = some (.cells c t (0,0))
theorem Oq {d : TypeDesc} (hk : P.underlying kt=some d) (hi : ∀ v,K v→MapKept.IsKey d v) : KeyKind P kt w K where
 check em v hv:=MapKept.run_checkKey hk (hi v hv) em 9999
 find x hx es hes:=by
  rcases MapKept.findNow_spec (hi x hx) es 0 (fun y hy=>hi _ (hes y hy)) with ⟨h1,h2⟩ | ⟨j,e0,h1,h2,h3⟩
  ·exact Or.inl ⟨MapKept.run_findKey hk h1,h2⟩
  ·exact Or.inr ⟨j,e0,by simpa using MapKept.run_findKey hk h1,h2,h3⟩
 stays v hv:=MapKept.run_keyThatStays (hi v hv)
theorem kind_str (hk : P.underlying kt=some .string) : KeyKind P kt w KStr:=Oq hk (by rintro v ⟨s,rfl⟩; trivial)
theorem kind_int (hk : P.underlying kt=some (.int .i64)) : KeyKind P kt w KInt:=Oq hk (by rintro v ⟨a,rfl⟩; rfl)
theorem Oc {el : TypeId} {n : Nat} (hk : P.underlying kt=some (.pointer el)) (hs : (sizeOf el).run P w = .ok (n+1) w) {a b : Nat} {ca cb : Array Value} {ta tb : TypeId} (ha : w.heap[a]? = some (.cells ca ta (0,0))) (hb : w.heap[b]? = some (.cells cb tb (0,0))) :
  (Op.equal kt (.pointer (some ⟨a,0,none⟩)) (.pointer (some ⟨b,0,none⟩))).run P w = .ok (decide (a=b)) w:=by
 have hd : Op.equal kt (.pointer (some ⟨a,0,none⟩)) (.pointer (some ⟨b,0,none⟩))=Op.equalIn (9999+1) kt (.pointer (some ⟨a,0,none⟩)) (.pointer (some ⟨b,0,none⟩)):=rfl
 rw [hd]
 unfold Op.equalIn
 by_cases h : a=b
 ·subst h
  simp [run_underlying hk,hs,run_sameAddr_same,Result.andThen]
 ·have hne : (⟨a,0,none⟩ : Addr)≠⟨b,0,none⟩:=fun e=>h (congrArg Addr.block e)
  simp [run_underlying hk,hs,run_sameAddr_other w hne ha hb,Result.andThen,h]
theorem Qa {el : TypeId} {n : Nat} (hk : P.underlying kt=some (.pointer el)) (hs : (sizeOf el).run P w = .ok (n+1) w) (hx : KPtr w x) (es : List MapEntry) : ∀ (i : Nat),(∀ y∈es,KPtr w y.key) →
  ((Instr.findAsking kt x es i).run P w = .ok none w∧∀ y∈es,y.key≠x) ∨ ∃ j y,(Instr.findAsking kt x es i).run P w = .ok (some (i+j,y.val)) w∧es[j]? = some y∧y.key=x:=by
 obtain ⟨a,ca,ta,rfl,ha⟩:=hx
 induction es with
 | nil=>exact fun i _=>Or.inl ⟨rfl,by simp⟩
 | cons y r ih=>
  intro i hes
  obtain ⟨b,cb,tb,hy,hb⟩:=hes y (by simp)
  have heq:=Oc hk hs ha hb
  unfold Instr.findAsking
  by_cases h : a=b
  ·subst h
   refine Or.inr ⟨0,y,?_,rfl,hy⟩
   simp [hy,heq,Result.andThen]
  ·rcases ih (i+1) (fun z hz=>hes z (by simp [hz])) with ⟨r1,r2⟩ | ⟨j,z,r1,r2,r3⟩
   ·refine Or.inl ⟨by simp [hy,heq,h,r1,Result.andThen],fun z hz=>?_⟩
    rcases List.mem_cons.1 hz with rfl | hz
    ·rw [hy]
     intro e
     injection e with e
     injection e with e
     injection e with e
     exact h e.symm
    ·exact r2 z hz
   ·exact Or.inr ⟨j+1,z,by simp [hy,heq,h,r1,Result.andThen]; omega,by simpa using r2,r3⟩
theorem kind_ptr {el : TypeId} {n : Nat} (hk : P.underlying kt=some (.pointer el)) (hs : (sizeOf el).run P w = .ok (n+1) w) : KeyKind P kt w (KPtr w) where
 check em v hv:=by
  obtain ⟨a,ca,ta,rfl,_⟩:=hv
  show (Instr.checkKey em (9999+1) kt _).run P w=_
  unfold Instr.checkKey
  simp [run_underlying hk,Result.andThen]
 find x hx es hes:=by
  have hq : (Instr.findKey kt x es).run P w=(Instr.findAsking kt x es).run P w:=by
   obtain ⟨a,ca,ta,rfl,_⟩:=hx
   unfold Instr.findKey
   cases es with
   | nil=>simp [run_underlying hk,Instr.findNow,Instr.findAsking,Result.andThen]
   | cons y r=>
    have : Instr.findNow (.pointer el) (.pointer (some ⟨a,0,none⟩)) (y :: r) 0=none:=by
     simp [Instr.findNow,Instr.sameNow]
    simp [run_underlying hk,this,Result.andThen]
  rw [hq]
  rcases Qa hk hs hx es 0 hes with h | ⟨j,y,h1,h2,h3⟩
  ·exact Or.inl h
  ·exact Or.inr ⟨j,y,by simpa using h1,h2,h3⟩
 stays v hv:=by
  obtain ⟨a,ca,ta,rfl,_⟩:=hv
  have hb : Instr.sameBits 10000 (.pointer (some ⟨a,0,none⟩)) (.pointer (some ⟨a,0,none⟩))=true:=by
   unfold Instr.sameBits
   simp
  simp [Instr.keyThatStays,hb]
end
def Ca (w : World) (b r : Nat) (rest : List (Value × Value)) : Prop:=
 ∃ es clock seen c0,w.heap[b]? = some (.map es clock)∧Stamped es clock∧w.heap[r]? = some (.mapIter (some b) clock seen c0)∧clock≤c0∧((leftOf es seen).toList.map fun e=>(e.key,e.val)).Perm rest
theorem Ca.keep {F : Nat→Prop} {w w' : World} {b r : Nat} {rest : List (Value × Value)} (h : Ca w b r rest) (hc : Chg F w w') (h1 : ¬ F b) (h2 : ¬ F r) : Ca w' b r rest:=by
 obtain ⟨es,ck,seen,c0,a1,a2,a3,a4,a5⟩:=h
 exact ⟨es,ck,seen,c0,hc.keep a1 h1,a2,hc.keep a3 h2,a4,a5⟩
theorem Ca.lt {w : World} {b r : Nat} {rest : List (Value × Value)} (h : Ca w b r rest) : r<w.heap.size:=by
 obtain ⟨es,ck,seen,c0,a1,a2,a3,a4,a5⟩:=h
 exact At a3
theorem Ca.ne_map {w : World} {b r : Nat} {rest : List (Value × Value)} (h : Ca w b r rest) : b≠r:=by
 obtain ⟨es,ck,seen,c0,a1,a2,a3,a4,a5⟩:=h
 exact Gg a1 a3 (by intro e; cases e)
theorem Ca.start {P : Program} {w : World} {b : Nat} {l : List (Value × Value)} {t k e : TypeId} (h : Ak w b l) (ht : P.underlying t=some (.map k e)) :
  ∃ w',(Instr.range t (.map (some b))).run P w = .ok (.pointer (some ⟨w.heap.size,0,none⟩)) w'∧Ca w' b w.heap.size l∧Chg (fun _=>False) w w'∧w'.heap.size=w.heap.size+1:=by
 obtain ⟨es,ck,h1,h2,h3⟩:=h
 refine ⟨_,run_range_map w t k e b es ck ht h1,⟨es,ck,#[],ck,Bh _ h1,h2,Au _ _,Nat.le_refl _,?_⟩,(Chg.refl _ _).alloc _,by simp⟩
 have : leftOf es #[]=es:=by unfold leftOf; simp
 rw [this]
 exact h3
theorem Ca.step {P : Program} {w : World} {b r : Nat} {rest : List (Value × Value)} (h : Ca w b r rest) (ty : TypeId) :
  (rest = []∧(Instr.next (.pointer (some ⟨r,0,none⟩)) false ty).run P w = .ok (.tuple #[.bool false]) w) ∨
  ∃ k v rest' w',rest.Perm ((k,v) :: rest')∧(Instr.next (.pointer (some ⟨r,0,none⟩)) false ty).run P w = .ok (.tuple #[.bool true,k,v]) w'∧(Instr.entry (.pointer (some ⟨r,0,none⟩))).run P w' = .ok (.tuple #[k,v]) w' ∧
   Ca w' b r rest'∧Chg (· = r) w w'∧w'.heap.size=w.heap.size:=by
 have hne:=h.ne_map
 obtain ⟨es,ck,seen,c0,a1,a2,a3,a4,a5⟩:=h
 have hst:=(MapKept.stamped_iff es ck).1 a2
 rcases run_next_at (P:=P) w ty r b ck c0 seen es ck a3 a1 hst.1 a4 with ⟨h0,hrun⟩ | ⟨e,he,w1,hw1,hrun⟩
 ·left
  refine ⟨?_,hrun⟩
  have : (leftOf es seen).toList = []:=by simpa using h0
  rw [this] at a5
  exact List.nil_perm.1 a5
 ·right
  have hin : e∈es.toList:=by
   unfold leftOf at he
   simp at he ⊢
   exact he.1
  have hns : e.born ∉ seen:=by
   unfold leftOf at he
   simp at he
   exact he.2
  have hw : Chg (fun _=>False) w w1∧w1.heap=w.heap:=by
   rcases hw1 with rfl | rfl
   ·exact ⟨Chg.refl _ _,rfl⟩
   ·exact ⟨(Chg.refl _ _).drew,rfl⟩
  have b1 : w1.heap[b]? = some (.map es ck):=by rw [hw.2]; exact a1
  have b3 : w1.heap[r]? = some (.mapIter (some b) ck seen c0):=by rw [hw.2]; exact a3
  have c1 : (setBlock w1 r (.mapIter (some b) ck (seen.push e.born) ck)).heap[b]? = some (.map es ck):=(Hz w1 r _).keep b1 (fun e=>hne e)
  have c3 : (setBlock w1 r (.mapIter (some b) ck (seen.push e.born) ck)).heap[r]? = some (.mapIter (some b) ck (seen.push e.born) ck):=J7 b3 _
  have hleft : (leftOf es (seen.push e.born)).toList=(leftOf es seen).toList.filter (fun y=>y.born != e.born):=by
   unfold leftOf
   simp only [Array.toList_filter,List.filter_filter]
   refine List.filter_congr (fun y _=>?_)
   simp only [Array.contains_push]
   cases seen.contains y.born <;> cases hb : (y.born == e.born) <;> simp_all
  have hperm : (leftOf es seen).toList.Perm (e :: (leftOf es (seen.push e.born)).toList):=by
   rw [hleft]
   have hnd : ((leftOf es seen).toList.map (·.born)).Nodup:=by
    have : (leftOf es seen).toList.Sublist es.toList:=by
     unfold leftOf
     rw [Array.toList_filter]
     exact List.filter_sublist
    exact (this.map _).nodup hst.2.1
   clear hleft a5 hrun
   generalize (leftOf es seen).toList=L at he hnd
   induction L with
   | nil=>simp at he
   | cons y r ih=>
    rw [List.map_cons,List.nodup_cons] at hnd
    rcases List.mem_cons.1 he with rfl | hm
    ·have : (r.filter fun y=>y.born != e.born)=r:=List.filter_eq_self.2 (fun z hz=>by
      simp
      intro hbe
      exact hnd.1 (List.mem_map.2 ⟨z,hz,hbe⟩))
     simp [this]
    ·have hyb : (y.born != e.born)=true:=by
      simp
      intro hbe
      exact hnd.1 (List.mem_map.2 ⟨e,hm,hbe.symm⟩)
     rw [List.filter_cons_of_pos (by simpa using hyb)]
     exact ((ih hm hnd.2).cons y).trans (List.Perm.swap _ _ _)
  refine ⟨e.key,e.val,(leftOf es (seen.push e.born)).toList.map fun e=>(e.key,e.val),setBlock w1 r (.mapIter (some b) ck (seen.push e.born) ck),?_,hrun,?_,⟨es,ck,_,_,c1,a2,c3,Nat.le_refl _,List.Perm.refl _⟩,?_,?_⟩
  ·exact a5.symm.trans (by simpa using hperm.map fun e : MapEntry=>(e.key,e.val))
  ·exact run_entry_at _ r b ck seen es ck e c3 c1 hin hst.2.1
  ·exact (hw.1.mono (fun _ _ f=>f.elim)).then (Hz w1 r _)
  ·rw [Js,hw.2]
end Go.Proofs.YtblniomnhpedjaaGreatDoor
namespace Go.Proofs.YtblniomnhpedjaaGreatDoor
open Go.RowKit
def Ae (l : List UInt8) : ByteArray:=⟨l.toArray⟩
theorem Dg (l : List UInt8) : (Ae l).data.toList=l:=by simp [Ae]
theorem B1 (l : List UInt8) : (Ae l).size=l.length:=by simp [Ae,ByteArray.size]
theorem strB_inj {a b : List UInt8} (h : Ae a=Ae b) : a=b:=by rw [← Dg a,h,Dg]
def bc (l : List UInt8) : List Value:=l.map fun c=>Value.int .u8 (c.toNat : Int)
theorem C3 (l : List UInt8) : (bc l).length=l.length:=by simp [bc]
theorem Fa (a b : List UInt8) : bc (a++b)=bc a++bc b:=by simp [bc]
theorem bc_take (a : List UInt8) (n : Nat) : bc (a.take n)=(bc a).take n:=by simp [bc]
theorem Eu (l : List UInt8) (j : Nat) (h : j<l.length) : (bc l)[j]? = some (.int .u8 ((l[j]'h).toNat : Int)):=by simp [bc,h]
theorem E7 (l : List UInt8) : ∀ u∈bc l,u.oneCell'=true:=by
 intro u hu
 obtain ⟨c,_,rfl⟩:=List.mem_map.1 hu
 rfl
theorem index_str (w : World) (l : List UInt8) (kd : IntKind) (k : Nat) (h : k<l.length) : (Instr.index 9 (.string (Ae l)) (.int kd (k : Int))).run Tryz.prog w = .ok (.int .u8 ((l.getD k 0).toNat : Int)) w:=by
 have a1 : (0 : Int)≤(k : Int):=by omega
 have h1 : (Ae l)[k]? = some (l.getD k 0):=by
  have hs : k<(Ae l).size:=by rw [B1]; exact h
  rw [getElem?_pos (Ae l) k hs]
  simp only [Ae,List.getD,List.getElem?_eq_getElem h]
  rfl
 unfold Instr.index
 simp only [asIntOf,Sem.run_bind,Sem.run_pure,Result.andThen_ok,run_underlying Tryz.underlying9 w]
 rw [if_pos a1,Int.toNat_natCast,h1]
 rfl
theorem D2 {a b : Bool} (h : a=b) : Ending.returned (.bool a) = .returned (.bool b):=by rw [h]
theorem P6 {l : List UInt8} {k : Nat} (h : k<l.length) (hc : (l.getD k 0).toNat<33∨126<(l.getD k 0).toNat) : Ap l=false:=by
 have hin : l.getD k 0∈l:=by simp [List.getD,List.getElem?_eq_getElem h]
 cases hb : Ap l with
 | false=>rfl
 | true=>
  exfalso
  simp only [Ap,Bool.and_eq_true,decide_eq_true_eq,List.all_eq_true] at hb
  have:=hb.2 _ hin
  omega
theorem isNm_true {l : List UInt8} (h1 : 1≤l.length) (h2 : l.length≤80) (h : ∀ j,j<l.length→33≤(l.getD j 0).toNat∧(l.getD j 0).toNat≤126) : Ap l=true:=by
 simp only [Ap,Bool.and_eq_true,decide_eq_true_eq,List.all_eq_true]
 refine ⟨⟨h1,h2⟩,fun x hx=>?_⟩
 obtain ⟨j,hj,rfl⟩:=List.getElem_of_mem hx
 have:=h j hj
 simpa [List.getD,List.getElem?_eq_getElem hj] using this
theorem Hr {l : List UInt8} (h : Ap l=true) : 1≤l.length∧l.length≤80:=by
 simp only [Ap,Bool.and_eq_true,decide_eq_true_eq] at h
 exact h.1
set_option maxRecDepth 20000 in
theorem Dr (w : World) (l : List UInt8) :
  Calls Tryz.prog 141 #[.string (Ae l)] w fun e w'=>e = .returned (.bool (Ap l))∧w'=w:=by
 have hsz:=B1 l
 by_cases h1 : l.length<1
 ·have : Ap l=false:=by simp [Ap]; omega
  rw [this]
  go_enter Tryz.func141,Tryz.ntmps141
  go_wp2
  go_ret
  exact ⟨rfl,rfl⟩
 by_cases h2 : 80<l.length
 ·have : Ap l=false:=by simp [Ap]; omega
  rw [this]
  go_enter Tryz.func141,Tryz.ntmps141
  go_wp2
  go_ret
  exact ⟨rfl,rfl⟩
 go_enter Tryz.func141,Tryz.ntmps141
 go_wp2
 go_loop [14] (fun x=>∃ k : Nat,k≤l.length∧x = .int .i64 (k : Int)∧∀ j,j<k→33≤(l.getD j 0).toNat∧(l.getD j 0).toNat≤126) (fun x=>l.length - (intOf x).toNat)
 case atStart=>exact ⟨0,Nat.zero_le _,rfl,fun j hj=>absurd hj (Nat.not_lt_zero j)⟩
 case round=>
  obtain ⟨k,hk,rfl,hall⟩:=hrel
  by_cases hlt : k<l.length
  ·have hi:=index_str w l .i64 k hlt
   have hc:=(l.getD k 0).toNat_lt
   by_cases hlo : (l.getD k 0).toNat<33
   ·have hf:=P6 hlt (Or.inl hlo)
    have HF:=Ab hf
    clear hf
    generalize l.getD k 0=c at *
    go_wp2
    go_ret
    exact ⟨D2 HF.out.symm,rfl⟩
   by_cases hhi : 126<(l.getD k 0).toNat
   ·have hf:=P6 hlt (Or.inr hhi)
    have HF:=Ab hf
    clear hf
    generalize l.getD k 0=c at *
    go_wp2
    go_ret
    exact ⟨D2 HF.out.symm,rfl⟩
   have HK : Hid (33≤(l.getD k 0).toNat∧(l.getD k 0).toNat≤126):=⟨by omega,by omega⟩
   have HA:=Ab hall
   clear hall
   generalize hcc : l.getD k 0=c at *
   have HCC:=Ab hcc
   clear hcc
   go_wp2
   go_round
   case rel=>
    refine ⟨k+1,by omega,by go_num,fun j hj=>?_⟩
    by_cases e : j=k
    ·subst e; rw [HCC.out]; exact HK.out
    ·exact HA.out j (by omega)
   case measure=>simp [intOf]; omega
  ·have hkl : k=l.length:=by omega
   subst hkl
   have HF:=Ab (isNm_true (by omega) (by omega) hall)
   clear hall
   go_wp2
   go_ret
   exact ⟨D2 HF.out.symm,rfl⟩
end Go.Proofs.YtblniomnhpedjaaGreatDoor
namespace Go.Proofs.YtblniomnhpedjaaGreatDoor
open Go.RowKit
abbrev Bs:=List UInt8
abbrev Af:=Bs × Bs
def ltB (a b : Bs) : Bool:=Op.bytesLess a b
theorem I7 (a b : UInt8) (l m : Bs) : ltB (a :: l) (b :: m)=(decide (a<b) || (a == b && ltB l m)):=by
 unfold ltB
 rw [Op.bytesLess]
theorem L9 (b : UInt8) (m : Bs) : ltB [] (b :: m)=true:=by unfold ltB; rw [Op.bytesLess]
theorem Jy (l : Bs) : ltB l []=false:=by
 unfold ltB
 cases l <;> rw [Op.bytesLess]
theorem Jf : ∀ (a b c : Bs),ltB a b=true→ltB b c=true→ltB a c=true
 | _,_,[],_,h2=>by rw [Jy] at h2; cases h2
 | [],_,c :: r,_,_=>L9 c r
 | a :: l,[],_ :: _,h1,_=>by rw [Jy] at h1; cases h1
 | a :: l,b :: m,c :: r,h1,h2=>by
  rw [I7] at h1 h2 ⊢
  simp only [Bool.or_eq_true,decide_eq_true_eq,Bool.and_eq_true,beq_iff_eq] at h1 h2 ⊢
  rcases h1 with h1 | ⟨rfl,h1⟩
  ·rcases h2 with h2 | ⟨rfl,h2⟩
   ·exact .inl (UInt8.lt_trans h1 h2)
   ·exact .inl h1
  ·rcases h2 with h2 | ⟨rfl,h2⟩
   ·exact .inl h2
   ·exact .inr ⟨rfl,Jf l m r h1 h2⟩
theorem Ff : ∀ (a : Bs),ltB a a=false
 | []=>Jy []
 | a :: l=>by rw [I7,Ff l]; simp
abbrev An:=Bs × (Bs × Bool)
def C1 (p : An) : List Value:=[.string (Ae p.1), .string (Ae p.2.1), .bool p.2.2]
def posM (l : List Af) (key : Bs) : Nat:=(l.takeWhile (fun x=>ltB x.1 key)).length
def Fg (l : List Af) (key : Bs) : Bool:=(l[posM l key]?.map (fun x=>x.1 == key)).getD false
def Bu (l : List Af) (p : An) : List Af:=l.take (posM l p.1)++(if p.2.2 then [] else [(p.1,p.2.1)])++l.drop (posM l p.1+if Fg l p.1 then 1 else 0)
theorem L4 : ∀ (a b : Bs),ltB a b=false→ltB b a=false→a=b
 | [],[],_,_=>rfl
 | [],b :: m,h,_=>by rw [L9] at h; cases h
 | a :: l,[],_,h=>by rw [L9] at h; cases h
 | a :: l,b :: m,h1,h2=>by
  rw [I7,Bool.or_eq_false_iff] at h1 h2
  have hab : a=b:=by
   have h3:=of_decide_eq_false h1.1
   have h4:=of_decide_eq_false h2.1
   exact UInt8.le_antisymm (UInt8.not_lt.1 h4) (UInt8.not_lt.1 h3)
  subst hab
  have h3:=h1.2
  have h4:=h2.2
  simp only [beq_self_eq_true,Bool.true_and] at h3 h4
  rw [L4 l m h3 h4]
def Bn (l : List Af) : Prop:=l.Pairwise (fun x y=>ltB x.1 y.1=true)
theorem rises_split {l : List Af} (h : Bn l) (key : Bs) : ∃ a b : List Af,(∀ x∈a,ltB x.1 key=true)∧(∀ x∈b,ltB key x.1=true) ∧
  ((Fg l key=false∧l=a++b∧posM l key=a.length) ∨ ∃ v,Fg l key=true∧l=a++(key,v) :: b∧posM l key=a.length):=by
 have e : l=l.takeWhile (fun x=>ltB x.1 key)++l.dropWhile (fun x=>ltB x.1 key):=(List.takeWhile_append_dropWhile).symm
 have ha : ∀ x∈l.takeWhile (fun x=>ltB x.1 key),ltB x.1 key=true:=fun x hx=>by
  have:=List.all_takeWhile (p:=fun x : Af=>ltB x.1 key) (l:=l)
  rw [List.all_eq_true] at this
  exact this x hx
 have hp : posM l key=(l.takeWhile (fun x=>ltB x.1 key)).length:=rfl
 have hat : l[posM l key]? = (l.dropWhile (fun x=>ltB x.1 key))[0]?:=by
  rw [hp]
  conv=>lhs; rw [e]
  rw [List.getElem?_append_right (by simp)]
  simp
 have hh : Bn (l.takeWhile (fun x=>ltB x.1 key)++l.dropWhile (fun x=>ltB x.1 key)):=by rw [← e]; exact h
 cases hd : l.dropWhile (fun x=>ltB x.1 key) with
 | nil=>
  refine ⟨_,[],ha,by simp, .inl ⟨?_,by rw [hd] at e; exact e,hp⟩⟩
  unfold Fg
  rw [hat,hd]
  rfl
 | cons x r=>
  have hx : ltB x.1 key=false:=by
   have:=List.head_dropWhile_not (fun x : Af=>ltB x.1 key) (l:=l) (by rw [hd]; simp)
   simp only [hd,List.head_cons] at this
   exact this
  have ht : Fg l key=(x.1 == key):=by
   unfold Fg
   rw [hat,hd]
   rfl
  rw [hd] at hh e
  have hr:=List.pairwise_append.1 hh
  have hxr:=(List.pairwise_cons.1 hr.2.1).1
  by_cases hk : x.1=key
  ·refine ⟨_,r,ha,fun y hy=>by rw [← hk]; exact hxr y hy, .inr ⟨x.2,by rw [ht,hk]; simp,?_,hp⟩⟩
   rw [show ((key,x.2) : Af)=x by rw [← hk]]
   exact e
  ·have hkx : ltB key x.1=true:=by
    cases hq : ltB key x.1 with
    | true=>rfl
    | false=>exact absurd (L4 _ _ hx hq) hk
   refine ⟨_,x :: r,ha,fun y hy=>?_, .inl ⟨by rw [ht]; simpa using hk,e,hp⟩⟩
   rcases List.mem_cons.1 hy with rfl | hy
   ·exact hkx
   ·exact Jf _ _ _ hkx (hxr y hy)
theorem Mz {l : List Af} (h : Bn l) (p : An) : ∃ a b : List Af,(∀ x∈a,ltB x.1 p.1=true)∧(∀ x∈b,ltB p.1 x.1=true) ∧
  (l=a++b ∨ ∃ v,l=a++(p.1,v) :: b)∧Bu l p=a++((if p.2.2 then [] else [(p.1,p.2.1)])++b):=by
 obtain ⟨a,b,ha,hb,⟨ht,e,hp⟩ | ⟨v,ht,e,hp⟩⟩:=rises_split h p.1
 ·refine ⟨a,b,ha,hb, .inl e,?_⟩
  unfold Bu
  rw [ht,hp,e]
  simp
 ·refine ⟨a,b,ha,hb, .inr ⟨v,e⟩,?_⟩
  unfold Bu
  rw [ht,hp,e]
  simp
theorem I8 {l : List Af} (h : Bn l) (p : An) : Bn (Bu l p):=by
 obtain ⟨a,b,ha,hb,hl,e⟩:=Mz h p
 have hab : Bn (a++b):=by
  rcases hl with rfl | ⟨v,rfl⟩
  ·exact h
  ·exact h.sublist (List.Sublist.append (List.Sublist.refl _) (List.sublist_cons_self _ _))
 rw [e]
 have hr:=List.pairwise_append.1 hab
 refine List.pairwise_append.2 ⟨hr.1,?_,fun x hx y hy=>?_⟩
 ·refine List.pairwise_append.2 ⟨?_,hr.2.1,fun x hx y hy=>?_⟩
  ·split <;> simp
  ·split at hx
   ·cases hx
   ·rw [List.mem_singleton.1 hx]
    exact hb y hy
 ·rcases List.mem_append.1 hy with hy | hy
  ·split at hy
   ·cases hy
   ·rw [List.mem_singleton.1 hy]
    exact ha x hx
  ·exact hr.2.2 x hx y hy
theorem rises_keys {l : List Af} (h : Bn l) : (l.map (·.1)).Nodup:=by
 rw [List.Nodup,List.pairwise_map]
 exact h.imp fun {a b} hab e=>by rw [e,Ff] at hab; cases hab
def Ai (l : List Af) (ps : List An) : List Af:=ps.foldl Bu l
theorem Mg {l : List Af} (h : Bn l) : ∀ (ps : List An),Bn (Ai l ps):=by
 intro ps
 induction ps generalizing l with
 | nil=>exact h
 | cons p r ih=>exact ih (I8 h p)
def Ag (l : List Af) : Nat:=(l.map fun x=>16+x.1.length+x.2.length).sum
theorem Md {l m : List Af} (h : l.Perm m) : Ag l=Ag m:=(h.map _).sum_nat
theorem Ik (x : Af) (l : List Af) : Ag (x :: l)=16+x.1.length+x.2.length+Ag l:=by simp [Ag]
theorem If (l m : List Af) : Ag (l++m)=Ag l+Ag m:=by simp [Ag]
theorem lt_ne {a b : Bs} (h : ltB a b=true) : a≠b:=fun e=>by rw [e,Ff] at h; cases h
def Dv (l : List Af) (key : Bs) : List Af:=Bu l (key,([],true))
theorem Nj {l : List Af} (h : Bn l) (key : Bs) : ∃ a b : List Af,(∀ x∈a++b,x.1≠key)∧Dv l key=a++b∧(l=a++b ∨ ∃ v,l=a++(key,v) :: b):=by
 obtain ⟨a,b,ha,hb,hl,e⟩:=Mz h (key,([],true))
 refine ⟨a,b,fun x hx=>?_,by unfold Dv; rw [e]; simp,hl⟩
 rcases List.mem_append.1 hx with hx | hx
 ·exact lt_ne (ha x hx)
 ·exact (lt_ne (hb x hx)).symm
theorem less_rises {l : List Af} (h : Bn l) (key : Bs) : Bn (Dv l key):=I8 h _
theorem done_less (l : List Af) (p : An) : (Bu l p).Perm ((if p.2.2 then [] else [(p.1,p.2.1)])++Dv l p.1):=by
 unfold Dv Bu
 simp only [if_true,List.append_nil]
 rw [List.append_assoc,← List.append_assoc (if p.2.2 then [] else [(p.1,p.2.1)])]
 generalize (if p.2.2 then ([] : List Af) else [(p.1,p.2.1)])=x
 rw [← List.append_assoc]
 exact List.perm_append_comm.append_right _
theorem done_gone (l : List Af) (p : An) (h : p.2.2=true) : Bu l p=Dv l p.1:=by
 unfold Dv Bu
 rw [h]
 simp
theorem Nb (l : List Af) (h : Bn l) (p : An) : Ag (Bu l p)≤Ag l+(16+p.1.length+p.2.1.length):=by
 rw [Md (done_less l p),If]
 obtain ⟨a,b,-,e,hl⟩:=Nj h p.1
 have h1 : Ag (Dv l p.1)≤Ag l:=by
  rw [e]
  rcases hl with rfl | ⟨v,rfl⟩
  ·exact Nat.le_refl _
  ·rw [If,If,Ik]; omega
 have h2 : Ag (if p.2.2 then [] else [(p.1,p.2.1)])≤16+p.1.length+p.2.1.length:=by
  split
  ·simp [Ag]
  ·simp [Ag]
 omega
end Go.Proofs.YtblniomnhpedjaaGreatDoor
namespace Go.Proofs.YtblniomnhpedjaaGreatDoor
open Go.RowKit
def Sl (w : World) (v : Value) (l : List UInt8) : Prop:=
 ∃ ao cap,v = .slice ao l.length cap∧l.length≤cap∧cap≤maxLen∧(ao=none→cap=0) ∧
  (l ≠ []→∃ b off,ao=some ⟨b,off,none⟩∧b<w.heap.size∧∀ j (h : j<l.length),w.cell? ⟨b,off+j,none⟩=some (.int .u8 ((l[j]'h).toNat : Int)))
theorem Sl.nil (w : World) : Sl w (.slice none 0 0) []:=⟨none,0,rfl,Nat.le_refl _,by simp,fun _=>rfl,fun h=>absurd rfl h⟩
theorem Sl.keep {F : Nat→Prop} {w w' : World} {v : Value} {l : List UInt8} (h : Sl w v l) (hc : Chg F w w') (hF : ∀ g,v.ownBlock=some g→¬ F g) : Sl w' v l:=by
 obtain ⟨ao,cap,hv,h1,h2,h3,h4⟩:=h
 refine ⟨ao,cap,hv,h1,h2,h3,fun hl=>?_⟩
 obtain ⟨b,off,ha,hlt,hcell⟩:=h4 hl
 subst ha hv
 refine ⟨b,off,rfl,Nat.lt_of_lt_of_le hlt hc.size,fun j hj=>?_⟩
 rw [← hcell j hj]
 exact World.cell?_of_block (hc.block b hlt (hF b rfl))
theorem Dh {w : World} {base : Nat} {v : Value} {l : List UInt8} (h : w.ownsRow base 5 1 v l.length (bc l)) : Sl w v l:=by
 obtain ⟨h1,h2⟩:=h
 rcases h2 with ⟨rfl,hn⟩ | ⟨g,cap,cur,rfl,hg,hh,hc,hm,hs,ht⟩
 ·obtain rfl : l = []:=List.eq_nil_of_length_eq_zero hn
  exact Sl.nil w
 ·refine ⟨_,_,rfl,hc,hm,(fun h=>by cases h),fun _=>⟨g,0,rfl,?_,fun j hj=>?_⟩⟩
  ·exact (Array.getElem?_eq_some_iff.1 hh).1
  ·have:=World.ownsRow.cells (w:=w) (base:=base) (e:=5) (size:=1) (v:=.slice (some ⟨g,0,none⟩) l.length cap) (n:=l.length) (xs:=bc l) ⟨h1,Or.inr ⟨g,cap,cur,rfl,hg,hh,hc,hm,hs,ht⟩⟩ (g:=g) rfl j _ (Eu l j hj)
   rw [Addr.add_lit] at this
   exact this
theorem eqS33 (w : World) (a : Option Addr) (n c n' c' : Nat) : (binOp .eql 68 (.slice a n c) (.slice none n' c')).run Tryz.prog w = .ok (.bool a.isNone) w:=Lib.run_eql_slice_nil w _ _ a n c n' c' Tryz.underlying68
theorem eqM62 (w : World) (p : Option Nat) : (binOp .eql 85 (.map p) (.map none)).run Tryz.prog w = .ok (.bool p.isNone) w:=run_eql_map_nil_sl w _ _ _ p Tryz.underlying85
theorem eqM64 (w : World) (p : Option Nat) : (binOp .eql 87 (.map p) (.map none)).run Tryz.prog w = .ok (.bool p.isNone) w:=run_eql_map_nil_sl w _ _ _ p Tryz.underlying87
theorem Tryz.info5 : (Tryz.prog.info? 5).map (fun i=>(i.zero,i.size,i.bytes))=some (some (.int .u8 0),1,1):=by kernel_rfl
set_option maxRecDepth 20000 in
theorem Iz (w : World) (v : Value) (l : List UInt8) (h : Sl w v l) (hl : l.length≤70368744177664) :
  Calls Tryz.prog 62 #[v] w fun e w'=>∃ v',e = .returned v'∧w'.ownsRow w.heap.size 5 1 v' l.length (bc l)∧Below w.heap.size w w':=by
 obtain ⟨i0,hi,hz0,hz1,hz2⟩:=info_parts Tryz.info5
 obtain ⟨ao,cap,rfl,h1,h2,h3,h4⟩:=h
 cases ao with
 | none=>
  have : l = []:=by
   by_cases hl0 : l = []
   ·exact hl0
   ·obtain ⟨b,off,hh,_⟩:=h4 hl0
    cases hh
  subst this
  clear h4 h2 h1
  obtain rfl:=h3 rfl
  have hq:=eqS33
  go_enter Tryz.func62,Tryz.ntmps62
  go_wp2
  go_ret
  exact ⟨_,rfl,World.ownsRow_nil _ _ _ _,Below.refl _ _⟩
 | some ad=>
  have hnew : ∀ j u,(bc l)[j]? = some u→(w.alloc (.cells #[] 5)).cell? (ad.add j)=some u:=by
   intro j u hu
   have hj : j<l.length:=by
    have:=(List.getElem?_eq_some_iff.1 hu).1
    rwa [C3] at this
   obtain ⟨b,off,ha,hb,hc⟩:=h4 (by rintro rfl; simp at hj)
   injection ha with ha
   subst ha
   rw [Eu l j hj] at hu
   injection hu with hu
   subst hu
   rw [Addr.add_lit,← hc j hj]
   exact World.cell?_of_block (Below.heap_alloc _ _ _ hb)
  have hlen:=C3 l
  have hone:=E7 l
  have HN:=Ab hnew
  have HO:=Ab hone
  have HL:=Ab hlen
  clear h4 hnew hone h3 hlen
  generalize hbc : bc l=xs at *
  have hq:=eqS33
  go_enter Tryz.func62,Tryz.ntmps62
  have hown0 : (w.alloc (.cells #[] 5)).ownsRow w.heap.size 5 1 (.slice (some ⟨w.heap.size,0,none⟩) 0 0) 0 []:=World.ownsRow_lit w #[] 0 (Nat.le_refl _) (by simp) rfl
  go_wp2_with (at_builtin; refine wpList_append_own_at _ rfl (.tmp 5) (.tmp 6) 68 rfl w.heap.size 5 i0 (.int .u8 0) 1 1 Tryz.underlying68 hi hz0 hz1 hz2 rfl (by decide) _ 0 [] rfl hown0 ad l.length cap xs rfl (by rw [HL.out,Nat.mul_one]) HN.out HO.out (by unfold maxLen; omega) (by omega) (by simp) ?_; intro v' w1 hown' hgrow hnil hloc)
  go_ret
  refine ⟨_,rfl,by simpa using hown',?_⟩
  exact ((Below.refl _ w).alloc (Nat.le_refl _) _).grown hgrow (by simp) (by intro k hk; have hk' : some w.heap.size=some k:=hk; injection hk' with hk'; omega)
theorem Tryz.cells5 : Tryz.prog.cellsOf 5=1:=by kernel_rfl
theorem Tryz.size5 : (Tryz.prog.info? 5).map (·.size)=some 1:=by kernel_rfl
theorem byteCells_bc (l : List UInt8) : Lib.byteCells l=bc l:=rfl
set_option maxRecDepth 20000 in
theorem copyStr_in (w : World) (l : List UInt8) (hl : l.length≤70368744177664) :
  Calls Tryz.prog 76 #[.string (Ae l)] w fun e w'=>e = .returned (.string (Ae l))∧Below w.heap.size w w':=by
 have hsz:=B1 l
 by_cases h0 : l = []
 ·subst h0
  have hz : (Ae []).size=0:=rfl
  clear hsz
  go_enter Tryz.func76,Tryz.ntmps76
  go_wp2
  go_ret
  exact ⟨rfl,Below.refl _ _⟩
 ·have hpos : 0<l.length:=List.length_pos_iff.2 h0
  obtain ⟨i0,hi,hz0,hz1,hz2⟩:=info_parts Tryz.info5
  have hmk : ∀ W : World,∃ M : Array Value,M.size=l.length∧(Instr.makeSlice 68 (.int .i64 (l.length : Int)) (.int .i64 (l.length : Int))).run Tryz.prog W = .ok (.slice (some ⟨W.heap.size,0,none⟩) l.length l.length) (W.alloc (.cells M 5)):=fun W=>by
   refine ⟨madeCells (Value.int .u8 0).cells (((l.length : Nat) : Int).toNat * i0.size),by rw [size_madeCells,hz1]; simp,?_⟩
   have h:=run_make (P:=Tryz.prog) W 68 5 i0 (.int .u8 0) Tryz.underlying68 hi hz0 .i64 .i64 (l.length : Int) (l.length : Int) (by omega) (by omega) (by rw [hz2]; omega) (by omega)
   simpa using h
  obtain ⟨M,hM,hmk⟩:=hmk w
  have hcp:=Lib.run_copy_row_string (P:=Tryz.prog) (w.alloc (.cells M 5)) 68 9 3 5 w.heap.size 0 l.length l.length (Ae l) M 5 Tryz.underlying68 Tryz.size5 (Au w _) (by omega) (by omega)
  have hY : (M.toList.take 0++Lib.byteCells (Ae l).data.toList++M.toList.drop (0+(Ae l).size))=bc l:=by
   rw [List.take_zero,List.nil_append,List.drop_of_length_le (by rw [Array.length_toList]; omega),List.append_nil,Dg,byteCells_bc]
  rw [hY,hsz] at hcp
  have hgY : ((w.alloc (.cells M 5)).setRow w.heap.size (bc l).toArray).heap[w.heap.size]? = some (.cells (bc l).toArray 5 (0,0)):=setRow_heap _ _ M _ _ (0,0) (Au w _)
  have hUS:=Lib.run_unsafeString_row (P:=Tryz.prog) ((w.alloc (.cells M 5)).setRow w.heap.size (bc l).toArray) 165 3 9 5 Tryz.underlying165 Tryz.cells5 w.heap.size (bc l).toArray.size (by unfold World.shape?; rw [hgY]) l h0 (by simp [C3]) (by omega)
   (fun j x hx=>by
    have hj : j<l.length:=(List.getElem?_eq_some_iff.1 hx).1
    rw [Addr.add_lit,Nat.zero_add,Ad hgY,List.getElem?_toArray,Eu l j hj]
    rw [List.getElem?_eq_getElem hj] at hx
    injection hx with hx
    rw [hx])
  have hb1 : Below w.heap.size w ((w.alloc (.cells M 5)).setRow w.heap.size (bc l).toArray):=
   ((Below.refl _ w).alloc (Nat.le_refl _) _).trans ⟨rfl,rfl,rfl,by simp,fun k hk=>setRow_other _ _ _ _ (by omega)⟩
  have HB:=Ab (Lib.below_freeze hb1 (p:=⟨w.heap.size,0,none⟩) (Nat.le_refl _) l.length)
  clear hb1 hgY hY hM
  generalize (w.alloc (.cells M 5)).setRow w.heap.size (bc l).toArray=W2 at *
  go_enter Tryz.func76,Tryz.ntmps76
  go_wp2
  go_ret
  exact ⟨rfl,HB.out⟩
theorem E9 (w : World) (l : List UInt8) (hl : l.length≤70368744177664) :
  Calls Tryz.prog 56 #[.string (Ae l)] w fun e w'=>e = .returned (.string (Ae l))∧Below w.heap.size w w':=by
 go_enter Tryz.func56,Tryz.ntmps56
 go_wp2_with (go_at_call 76; refine (copyStr_in _ l hl).mono ?_; rintro e w' ⟨rfl,hb⟩)
 go_ret
 exact ⟨rfl,hb⟩
end Go.Proofs.YtblniomnhpedjaaGreatDoor
