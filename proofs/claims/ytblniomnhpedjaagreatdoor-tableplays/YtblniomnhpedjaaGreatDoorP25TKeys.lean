/-
  Texts joined: TKeys, TTell, THas, TEach, TPuts, TTab, TAll, TMost, OffPure, KeepPure.
-/
import Derived.Test.YtblniomnhpedjaaGreatDoorP23TGroups2
import Derived.Test.YtblniomnhpedjaaGreatDoorP24Iter
import Derived.Test.YtblniomnhpedjaaGreatDoorP22TRight
import Derived.Lib.OwnKind
import Derived.OneCell
import Derived.Lib.Strings
import Derived.Test.YtblniomnhpedjaaGreatDoorP7BeginRep
import Derived.Test.YtblniomnhpedjaaGreatDoorP12SyncDir
namespace Go.Proofs.YtblniomnhpedjaaGreatDoor
open Go.RowKit Go.Maps
open Go.WideElems (rd rg rg_of)
def Jp (_ : Value) : Option (DataW Unit × List MemPlace):=some (.nil,[])
theorem keys_map {w : World} {b : Nat} {l : List Af} (h : Ak w b (rv l)) (hn : ∀ p∈l,p.1.length≤4611686018427387904) (hl : l.length≤4611686018427387904) :
  ∃ (nn : Nat) (D0 : DataW Unit),w.ownsMap Tryz.prog 9 Jp b nn D0∧Maps.size D0=l.length∧(strKeys D0).Perm (l.map (·.1)):=by
 obtain ⟨es,ck,h1,h2,h3⟩:=h
 have hkey : ∀ x∈es.toList,∃ p∈l,x.key = .string (Ae p.1):=fun x hx=>by
  have : (x.key,x.val)∈rv l:=h3.mem_iff.1 (List.mem_map.2 ⟨x,hx,rfl⟩)
  obtain ⟨p,hp,e⟩:=List.mem_map.1 this
  exact ⟨p,hp,(congrArg Prod.fst e).symm⟩
 have hlen : es.toList.length=l.length:=by
  have:=h3.length_eq
  simpa [rv] using this
 have hrd : ∀ x∈es.toList,∀ p : Af,p∈l→x.key = .string (Ae p.1)→rd Tryz.prog 9 Jp x=some (.string p.1, .nil):=fun x _ p hp e=>by
  unfold rd
  rw [e,WideMaps.keyOf_string_mk Tryz.underlying9 (s:=Ae p.1) (by rw [B1]; have:=hn p hp; unfold maxLen; omega)]
  rw [Dg]
  rfl
 refine ⟨es.size,_,⟨es,ck,h1,⟨?_,h2,fun x hx=>?_⟩,Nat.le_refl _,rfl⟩,?_,?_⟩
 ·have : es.size=l.length:=by simpa using hlen
  unfold maxLen
  omega
 ·obtain ⟨p,hp,e⟩:=hkey x hx
  exact ⟨_,hrd x hx p hp e⟩
 ·show (List.foldr DataW.insert [] _).length=_
  rw [length_sorted,List.length_map,hlen]
 ·show (List.map _ (List.foldr DataW.insert [] _)).Perm _
  refine ((WideShapes.sorted_perm _).map _).trans ?_
  rw [List.map_map]
  have e1 : es.toList.map ((fun p : Go.Lit × DataW Unit=>strOf p.1) ∘ rg Tryz.prog 9 Jp)=es.toList.map fun x=>(match x.key with | .string s=>s.data.toList | _=>[]):=by
   refine List.map_congr_left fun x hx=>?_
   obtain ⟨p,hp,e⟩:=hkey x hx
   simp only [Function.comp,rg_of (hrd x hx p hp e),e,strOf,Dg]
  rw [e1]
  have h4:=h3.map fun q : Value × Value=>(match q.1 with | .string s=>s.data.toList | _=>[])
  rw [List.map_map] at h4
  refine h4.trans ?_
  unfold rv
  rw [List.map_map]
  have e2 : l.map ((fun q : Value × Value=>(match q.1 with | .string s=>s.data.toList | _=>[])) ∘ fun p=>(Value.string (Ae p.1),Value.agg #[.string (Ae p.1), .string (Ae p.2)]))=l.map (·.1):=by
   refine List.map_congr_left fun p _=>?_
   simp only [Function.comp,Dg]
  exact e2 ▸ List.Perm.refl _
theorem ltB_lt : ∀ (a b : Bs),ltB a b=true→a<b
 | _,[],h=>by rw [Jy] at h; cases h
 | [],b :: m,_=>List.nil_lt_cons b m
 | a :: l,b :: m,h=>by
  rw [I7] at h
  simp only [Bool.or_eq_true,decide_eq_true_eq,Bool.and_eq_true,beq_iff_eq] at h
  rw [List.cons_lt_cons_iff]
  rcases h with h | ⟨h1,h2⟩
  ·exact .inl h
  ·exact .inr ⟨h1,ltB_lt l m h2⟩
theorem sorted_keys1 {l : List Af} (hs : Bn l) {ss : List Bs} (hp : ss.Perm (l.map (·.1))) : ss.mergeSort (fun x y=>decide (x≤y))=l.map (·.1):=by
 refine List.Perm.eq_of_pairwise (le:=fun a b : Bs=>a≤b) (fun a b _ _ h1 h2=>List.le_antisymm h1 h2) ?_ ?_ ((List.mergeSort_perm _ _).trans hp)
 ·have:=List.pairwise_mergeSort (le:=fun x y : Bs=>decide (x≤y)) (fun a b c h1 h2=>by simp at h1 h2 ⊢; exact List.le_trans h1 h2) (fun a b=>by simp; exact List.le_total a b) ss
  exact this.imp fun h=>by simpa using h
 ·rw [List.pairwise_map]
  exact hs.imp fun h=>List.le_of_lt (ltB_lt _ _ h)
theorem keysF_any (w : World) (b : Nat) : Calls Tryz.prog 74 #[.map (some b)] w fun e w'=>e = .returned (.func (.func 94) #[] #[.pointer (some ⟨w.heap.size,0,none⟩)])∧w'=w.alloc (.cells #[.map (some b)] 95):=
 callsIn_wide.1 (Tryz.maps_Keys_74 (some b) w)
theorem Qz (w : World) (b : Nat) (l : List Af) (hm : Ak w b (rv l)) (hr : Bn l) (hn : ∀ p∈l,p.1.length≤4611686018427387904) (hl : l.length≤1099511627776) :
  Calls Tryz.prog 46 #[.func (.func 94) #[] #[.pointer (some ⟨w.heap.size,0,none⟩)]] (w.alloc (.cells #[.map (some b)] 95)) fun e w'=>∃ v,e = .returned v∧w'.ownsRow w.heap.size 9 1 v (l.map (·.1)).length (tcW (l.map (·.1)))∧Below w.heap.size w w':=by
 obtain ⟨nn,D0,hown,hsz,hperm⟩:=keys_map hm hn (by omega)
 refine (callsIn_wide.1 (Tryz.slices_Sorted_keys_46_74 b nn D0 Jp w hown (by rw [hsz]; unfold maxLen; omega) (by rw [hsz]; omega))).mono ?_
 rintro e w' ⟨v,ss,rfl,hp,hrow,-,hb⟩
 rw [sorted_keys1 hr (hp.trans hperm),(hp.trans hperm).length_eq] at hrow
 refine ⟨v,rfl,G3 hrow (by simp),?_⟩
 exact ((Below.refl _ w).alloc (Nat.le_refl _) _).trans (hb.mono (by simp))
end Go.Proofs.YtblniomnhpedjaaGreatDoor
namespace Go.Proofs.YtblniomnhpedjaaGreatDoor
open Go.RowKit
theorem grow_keep {w w1 : World} {B k n : Nat} {e : TypeId} {u : Value} {ys : List Value} (hu : w.ownsRow B e k u n ys) (hgr : w.grownBy w1 u.ownBlock) {g : Nat} {cs : Array Value} {t : TypeId} {fr : Nat × Nat} (hh : w.heap[g]? = some (.cells cs t fr)) (ht : t≠e) : w1.heap[g]? = some (.cells cs t fr):=by
 refine (hgr.block g (At hh) fun hq=>?_).trans hh
 obtain ⟨c,fz,h1⟩:=Lib.ownsRow_kind hu g hq.symm
 rw [hh] at h1
 injection h1 with h1
 injection h1 with _ h1
 exact ht h1
def Dc (w w' : World) : Prop:=w.heap.size≤w'.heap.size∧∀ (k : Nat) (o : Obj),w.heap[k]? = some o→(∀ c t fr,o = .cells c t fr→t≠73∧t≠75∧t≠27∧t≠65)→w'.heap[k]? = some o
theorem keepT_of {w w3 : World} {o1 o2 : Obj} {B n k g : Nat} {e t : TypeId} {v : Value} {ys : List Value} {cs : Array Value} (hown : ((w.alloc o1).alloc o2).ownsRow B e k v n ys) (hgr : ((w.alloc o1).alloc o2).grownBy w3 v.ownBlock)
  (hg : w.heap[g]? = some (.cells cs t)) (he : e=73∨e=75) (ht : t=27∨t=65) (u : Value) : Dc w (w3.setCell ⟨g,0,none⟩ u):=by
 refine ⟨?_,fun k o hk ho=>?_⟩
 ·have:=hgr.size
  simp only [World.size_alloc] at this
  simp only [World.setCell,Array.size_modify]
  omega
 have h2:=Bh o2 (Bh o1 hk)
 have h3 : w3.heap[k]? = some o:=(hgr.block k (At h2) fun hq=>by
  obtain ⟨c,fz,h1⟩:=Lib.ownsRow_kind hown k hq.symm
  rw [h2] at h1
  injection h1 with h1
  have:=ho c e fz h1
  rcases he with rfl | rfl
  ·exact this.1 rfl
  ·exact this.2.1 rfl).trans h2
 refine Cy h3 (fun hkg=>?_)
 have hkg : k=g:=hkg
 subst hkg
 rw [hg] at hk
 injection hk with hk
 have:=ho _ _ _ hk.symm
 rcases ht with rfl | rfl
 ·exact this.2.2.1 rfl
 ·exact this.2.2.2 rfl
set_option maxRecDepth 20000 in
theorem putsC_any (w : World) (B g : Nat) (v : Value) (xs : List An) (p : Af) (ha : w.heap[g]? = some (.cells #[v] 27)) (hg : B≤g) (h : Cf B w v xs) (hn : xs.length≤4294967296) :
  Calls Tryz.prog 93 #[.agg #[.string (Ae p.1), .string (Ae p.2)], .pointer (some ⟨g,0,none⟩)] w fun e w'=>e = .returned (.tuple #[])∧∃ v',w'.heap[g]? = some (.cells #[v'] 27)∧Cf B w' v' (xs ++ [(p.1,p.2,false)])∧Below B w w'∧Dc w w':=by
 have hB : B≤w.heap.size:=by have:=At ha; omega
 have hx:=Au w (.cells #[.string (Ae p.1), .string (Ae p.2)] 75)
 have ha1:=Bh (.cells #[.string (Ae p.1), .string (Ae p.2)] 75) ha
 have h1 : Cf B (w.alloc (.cells #[.string (Ae p.1), .string (Ae p.2)] 75)) v xs:=World.ownsRow.alloc h _
 obtain ⟨v',w3,hrun,hrow3,hgr⟩:=app_put (w.alloc (.cells #[.string (Ae p.1), .string (Ae p.2)] 75)) B v xs (p.1,p.2,false) h1 (by simp; omega) hn
 have h2:=World.ownsRow.alloc h1 (Bd (p.1,p.2,false))
 have ha3:=grow_keep h2 hgr (Bh (Bd (p.1,p.2,false)) ha1) (by decide)
 have hb3 : Below B w w3:=(((Below.refl B w).alloc hB _).alloc (by simp; omega) _).grown hgr (by simp; omega) (fun k hk=>(h1.lt k hk).1)
 have ha4 : (w3.setCell ⟨g,0,none⟩ v').heap[g]? = some (.cells #[v'] 27):=A0 ha3 0 v'
 have hrow4 : Cf B (w3.setCell ⟨g,0,none⟩ v') v' (xs ++ [(p.1,p.2,false)]):=ownsRow_setCell_other hrow3 (fun e=>by
  obtain ⟨c,fz,hk⟩:=Lib.ownsRow_kind hrow3 g e
  rw [ha3] at hk
  injection hk with hk
  injection hk with _ hk
  exact absurd hk (by decide)) v'
 have hb4 : Below B w (w3.setCell ⟨g,0,none⟩ v'):=hb3.setCell hg v'
 have hk4:=keepT_of h2 hgr ha (by decide) (by decide) v'
 have f3:=Av ha3 0
 have c1:=Ad ha1 0
 have x0:=Ad hx 0
 have x1:=Ad hx 1
 have c3:=Ad ha3 0
 simp only [List.getElem?_toArray,List.getElem?_cons_zero,List.getElem?_cons_succ] at c1 x0 x1 c3
 rw [World.size_alloc] at hrun
 have HF:=Ab (And.intro ha4 (And.intro hrow4 (And.intro hb4 hk4)))
 have HRUN:=Ab hrun
 obtain ⟨ua,uc,rfl,-⟩:=Ay h
 obtain ⟨va,vc,rfl,-⟩:=Ay hrow3
 clear hrun hrow3 hgr h2 ha3 hb3 ha4 hrow4 hb4 hk4 h1 ha1 hx ha h
 go_enter Tryz.func93,Tryz.ntmps93
 go_wp2_with (at_builtin; refine wpList_plain rfl (fun K hK=>Cg (.tmp 3) (.tmp 9) 27 rfl rfl rfl HRUN.out (hK _ _ ?_)))
 go_wp2
 go_end0
 have e9 : (xs ++ [(p.1,p.2,false)]).length=xs.length+1:=by simp
 rw [← e9]
 exact ⟨rfl,_,HF.out.1,HF.out.2.1,HF.out.2.2⟩
def prC (p : Af) : List Value:=[.string (Ae p.1), .string (Ae p.2)]
abbrev Cq (B : Nat) (w : World) (v : Value) (l : List Af) : Prop:=w.ownsRow B 75 2 v l.length (l.flatMap prC)
theorem Tryz.zPair : (Tryz.prog.info? 75).map (fun i=>(i.zero,i.size,i.bytes))=some (some (.agg #[.string ⟨#[]⟩, .string ⟨#[]⟩]),2,32):=by kernel_rfl
theorem app_pairT (w : World) (B : Nat) (v : Value) (xs : List Af) (p : Af) (h : Cq B w v xs) (hB : B≤w.heap.size) (hn : xs.length≤4294967296) :
  ∃ v' w',(Builtin.append_ #[65,65] 65 #[v, .slice (some ⟨w.heap.size,0,none⟩) 1 1]).run Tryz.prog (w.alloc (.cells #[.string (Ae p.1), .string (Ae p.2)] 75)) = .ok v' w' ∧
   Cq B w' v' (xs ++ [p])∧(w.alloc (.cells #[.string (Ae p.1), .string (Ae p.2)] 75)).grownBy w' v.ownBlock:=by
 obtain ⟨i0,hi,hz0,hz1,hz2⟩:=info_parts Tryz.zPair
 have hx:=Au w (.cells #[.string (Ae p.1), .string (Ae p.2)] 75)
 obtain ⟨v',w',h1,h2,h3,-,h4⟩:=run_append_own_at (P:=Tryz.prog) (w.alloc (.cells #[.string (Ae p.1), .string (Ae p.2)] 75)) B 65 65 75 i0 (.agg #[.string ⟨#[]⟩, .string ⟨#[]⟩]) 2 32 Tryz.underlying65 hi hz0 hz1 hz2 rfl (by decide) v xs.length (xs.flatMap prC) (World.ownsRow.alloc h _) ⟨w.heap.size,0,none⟩ 1 1 (prC p) rfl (fun j u hu=>by
   rw [Addr.add_lit,Nat.zero_add,Ad hx,List.getElem?_toArray]; exact hu) (by simp [prC,Value.oneCell']) (by unfold maxLen; omega) (by omega) (by simp; omega)
 refine ⟨v',w',h1,?_,h3⟩
 rw [Cq,List.length_append,List.flatMap_append]
 simpa using h2
set_option maxRecDepth 20000 in
theorem allC_any (w : World) (B g : Nat) (v : Value) (xs : List Af) (p : Af) (ha : w.heap[g]? = some (.cells #[v] 65)) (hg : B≤g) (h : Cq B w v xs) (hn : xs.length≤4294967296) :
  Calls Tryz.prog 54 #[.agg #[.string (Ae p.1), .string (Ae p.2)], .pointer (some ⟨g,0,none⟩)] w fun e w'=>e = .returned (.tuple #[])∧∃ v',w'.heap[g]? = some (.cells #[v'] 65)∧Cq B w' v' (xs ++ [p])∧Below B w w'∧Dc w w':=by
 have hB : B≤w.heap.size:=by have:=At ha; omega
 have hx:=Au w (.cells #[.string (Ae p.1), .string (Ae p.2)] 75)
 have ha1:=Bh (.cells #[.string (Ae p.1), .string (Ae p.2)] 75) ha
 have h1 : Cq B (w.alloc (.cells #[.string (Ae p.1), .string (Ae p.2)] 75)) v xs:=World.ownsRow.alloc h _
 obtain ⟨v',w3,hrun,hrow3,hgr⟩:=app_pairT (w.alloc (.cells #[.string (Ae p.1), .string (Ae p.2)] 75)) B v xs p h1 (by simp; omega) hn
 have h2:=World.ownsRow.alloc h1 (.cells #[.string (Ae p.1), .string (Ae p.2)] 75)
 have ha3:=grow_keep h2 hgr (Bh (.cells #[.string (Ae p.1), .string (Ae p.2)] 75) ha1) (by decide)
 have hb3 : Below B w w3:=(((Below.refl B w).alloc hB _).alloc (by simp; omega) _).grown hgr (by simp; omega) (fun k hk=>(h1.lt k hk).1)
 have ha4 : (w3.setCell ⟨g,0,none⟩ v').heap[g]? = some (.cells #[v'] 65):=A0 ha3 0 v'
 have hrow4 : Cq B (w3.setCell ⟨g,0,none⟩ v') v' (xs ++ [p]):=ownsRow_setCell_other hrow3 (fun e=>by
  obtain ⟨c,fz,hk⟩:=Lib.ownsRow_kind hrow3 g e
  rw [ha3] at hk
  injection hk with hk
  injection hk with _ hk
  exact absurd hk (by decide)) v'
 have hb4 : Below B w (w3.setCell ⟨g,0,none⟩ v'):=hb3.setCell hg v'
 have hk4:=keepT_of h2 hgr ha (by decide) (by decide) v'
 have f3:=Av ha3 0
 have c1:=Ad ha1 0
 have x0:=Ad hx 0
 have x1:=Ad hx 1
 have c3:=Ad ha3 0
 simp only [List.getElem?_toArray,List.getElem?_cons_zero,List.getElem?_cons_succ] at c1 x0 x1 c3
 rw [World.size_alloc] at hrun
 have HF:=Ab (And.intro ha4 (And.intro hrow4 (And.intro hb4 hk4)))
 have HRUN:=Ab hrun
 obtain ⟨ua,uc,rfl,-⟩:=Ay h
 obtain ⟨va,vc,rfl,-⟩:=Ay hrow3
 clear hrun hrow3 hgr h2 ha3 hb3 ha4 hrow4 hb4 hk4 h1 ha1 hx ha h
 go_enter Tryz.func54,Tryz.ntmps54
 go_wp2_with (at_builtin; refine wpList_plain rfl (fun K hK=>Cg (.tmp 3) (.tmp 5) 65 rfl rfl rfl HRUN.out (hK _ _ ?_)))
 go_wp2
 go_end0
 have e9 : (xs ++ [p]).length=xs.length+1:=by simp
 rw [← e9]
 exact ⟨rfl,_,HF.out.1,HF.out.2.1,HF.out.2.2⟩
end Go.Proofs.YtblniomnhpedjaaGreatDoor
namespace Go.Proofs.YtblniomnhpedjaaGreatDoor
open Go.RowKit
theorem strB_ext (s p : Bs) : (((Ae s).extract 0 p.length).toList == (Ae p).toList)=p.isPrefixOf s:=by
 have h1 : (Ae p).toList=p:=by rw [ByteArray.toList_eq]; simp [Ae]
 have h2 : ((Ae s).extract 0 p.length).toList=s.take p.length:=by rw [Lib.extract_toList]; simp [Ae]
 rw [h1,h2]
 by_cases e : s.take p.length=p
 ·rw [Dy.2 ⟨s.drop p.length,by conv=>lhs; rw [← List.take_append_drop p.length s,e]⟩]
  simp [e]
 ·cases hq : p.isPrefixOf s with
  | false=>simp [e]
  | true=>
   obtain ⟨c,hc⟩:=Dy.1 hq
   exact absurd (by rw [hc,List.take_left]) e
theorem Qh (w : World) (s p : Bs) (_hs : s.length≤4611686018427387904) (_hp : p.length≤4611686018427387904) :
  Calls Tryz.prog 95 #[.string (Ae s), .string (Ae p)] w fun e w'=>e = .returned (.bool (p.isPrefixOf s))∧w'=w:=by
 have q1:=B1 s
 have q2:=B1 p
 by_cases hle : p.length≤s.length
 ·go_enter Tryz.func95,Tryz.ntmps95
  go_wp2
  go_ret
  rw [strB_ext]
  exact ⟨rfl,rfl⟩
 ·have hf : p.isPrefixOf s=false:=by
   cases hq : p.isPrefixOf s with
   | false=>rfl
   | true=>
    obtain ⟨c,hc⟩:=Dy.1 hq
    rw [hc,List.length_append] at hle
    omega
  rw [hf]
  go_enter Tryz.func95,Tryz.ntmps95
  go_wp2
  go_ret
  exact ⟨rfl,rfl⟩
theorem Qs (w : World) (s p : Bs) (hs : s.length≤4611686018427387904) (hp : p.length≤4611686018427387904) :
  Calls Tryz.prog 75 #[.string (Ae s), .string (Ae p)] w fun e w'=>e = .returned (.bool (p.isPrefixOf s))∧w'=w:=by
 have h:=Qh w s p hs hp
 go_enter Tryz.func75,Tryz.ntmps75
 go_wp2_with fail
 refine h.mono ?_
 rintro e w1 ⟨rfl,rfl⟩
 go_wp2
 go_ret
 exact ⟨rfl,rfl⟩
end Go.Proofs.YtblniomnhpedjaaGreatDoor
namespace Go.Proofs.YtblniomnhpedjaaGreatDoor
open Go.RowKit
theorem keepT_refl (w : World) : Dc w w:=⟨Nat.le_refl _,fun _ _ h _=>h⟩
theorem Dc.trans {a b c : World} (h : Dc a b) (k : Dc b c) : Dc a c:=⟨Nat.le_trans h.1 k.1,fun q o hq ho=>k.2 q o (h.2 q o hq ho) ho⟩
theorem Hl {a b : World} (h : Below a.heap.size a b) : Dc a b:=⟨h.size,fun q _ hq _=>(h.block q (At hq)).trans hq⟩
theorem Dc.map {a b : World} {m : Nat} {l : List (Value × Value)} (h : Dc a b) (hm : Ak a m l) : Ak b m l:=by
 obtain ⟨es,c,h1,h2,h3⟩:=hm
 exact ⟨es,c,h.2 m _ h1 (fun _ _ _ e=>by cases e),h2,h3⟩
theorem keysAt {w2 wr : World} {B : Nat} {l : List Af} {ua : Option Addr} {uc : Nat} (h : w2.ownsRow B 9 1 (.slice ua l.length uc) l.length (tcW (l.map (·.1)))) (hK : Dc w2 wr) {k : Nat} (hlt : k<l.length) :
  ∃ q,ua=some ⟨q,0,none⟩∧wr.cell? ⟨q,k,none⟩=some (.string (Ae l[k].1)):=by
 have h':=h
 obtain ⟨-,⟨-,h0⟩ | ⟨q,cap,cur,hv,-,hh,-⟩⟩:=h'
 ·omega
 ·injection hv with hv
  subst hv
  refine ⟨q,rfl,?_⟩
  have hb:=hK.2 q _ hh (fun c t fr e=>by injection e with _ e; subst e; decide)
  have:=World.ownsRow.cells h (g:=q) rfl k (.string (Ae l[k].1)) (by simp [tcW,hlt])
  rw [Addr.add_lit,Nat.zero_add] at this
  exact (World.cell?_of_block (hb.trans hh.symm)).trans this
theorem look_pairF {w : World} {b : Nat} {l a c : List Af} (h : Ak w b (rv l)) (x : Af) (e : l=a++x :: c) : (Instr.lookup 95 (.map (some b)) (.string (Ae x.1)) false).run Tryz.prog w = .ok (.agg #[.string (Ae x.1), .string (Ae x.2)]) w:=by
 subst e
 exact (h.perm (rv_mid a c x)).look (kstr w) (Ie _) Tryz.underlying95 ⟨_,rfl⟩ false
theorem filter_snoc (P : Af→Bool) (l : List Af) {k : Nat} (h : k<l.length) : (l.take (k+1)).filter P=(l.take k).filter P++(if P l[k] then [l[k]] else []):=by
 rw [Fk l h,List.filter_append]
 by_cases e : P l[k]=true <;> simp [e]
set_option maxRecDepth 20000 in
theorem each_any (w : World) (b : Nat) (l : List Af) (wt : Int) (pre : Bs) (f : FuncId) (caps : Array Value) (J : List Af→World→Prop)
  (hm : Ak w b (rv l)) (hr : Bn l) (hn : ∀ p∈l,p.1.length≤4611686018427387904) (hp : pre.length≤4611686018427387904) (hl : l.length≤1099511627776)
  (eg : ∀ args w,(callFunc f args).run Tryz.prog w = .ok (.enter f args) w)
  (hJb : ∀ xs W W',J xs W→Below W.heap.size W W'→J xs W')
  (hcall : ∀ xs p W,xs.length<l.length→J xs W→Calls Tryz.prog f (#[.agg #[.string (Ae p.1), .string (Ae p.2)]]++caps) W fun e W'=>e = .returned (.tuple #[])∧J (xs ++ [p]) W'∧Dc W W')
  (h0 : J [] w) :
  Calls Tryz.prog 53 #[.agg #[.map (some b), .int .i64 wt], .string (Ae pre), .func (.func f) #[] caps] w fun e w'=>e = .returned (.tuple #[])∧J (l.filter (fun p=>pre.isPrefixOf p.1)) w'∧Dc w w':=by
 have hks:=Qz (w.alloc (.cells #[.map (some b), .int .i64 wt] 97)) b l (hm.keep (F:=fun _=>False) ((Chg.refl _ w).alloc _) (fun h=>h)) hr hn hl
 rw [World.size_alloc] at hks
 have HA:=Ab (And.intro hm (And.intro hJb (And.intro hcall h0)))
 clear hm hJb hcall h0
 go_enter Tryz.func53,Tryz.ntmps53
 go_wp2_with fail
 refine (keysF_any _ b).mono ?_
 rintro e w1 ⟨rfl,rfl⟩
 go_wp2_with fail
 refine hks.mono ?_
 rintro e w2 ⟨v,rfl,hrow,hb⟩
 rw [List.length_map] at hrow
 have hbs:=hb
 rw [← World.size_alloc w (.cells #[.map (some b), .int .i64 wt] 97)] at hbs
 have hal : Below w.heap.size w (w.alloc (.cells #[.map (some b), .int .i64 wt] 97)):=(Below.refl _ w).alloc (Nat.le_refl _) _
 obtain ⟨ua,uc,rfl,-⟩:=Ay hrow
 have hKw : Dc w w2:=(Hl hal).trans (Hl hbs)
 have hR2 : w2.heap[w.heap.size]? = some (.cells #[.map (some b), .int .i64 wt] 97):=(Hl hbs).2 _ _ (Au w _) (fun c t fr e=>by injection e with _ e; subst e; decide)
 have hJ2 : J [] w2:=HA.out.2.1 _ _ _ HA.out.2.2.2 (hal.trans (hb.mono (by omega)))
 have HB:=Ab (And.intro hrow (And.intro hKw hR2))
 clear hrow hb hbs hal hKw hR2
 go_wp2_with fail
 go_loopw [13] (fun t wr=>∃ k : Nat,k≤l.length∧t = .int .i64 k∧J ((l.take k).filter (fun p=>pre.isPrefixOf p.1)) wr∧Dc w2 wr)
  (fun t _=>l.length - (intOf t).toNat)
 case atStart=>exact ⟨0,by omega,rfl,hJ2,keepT_refl _⟩
 case round=>
  obtain ⟨k,hk,rfl,hJ,hK⟩:=hrel
  by_cases hlt : k<l.length
  ·obtain ⟨q,rfl,c0⟩:=keysAt HB.out.1 hK hlt
   have hmW:=(HB.out.2.1.trans hK).map HA.out.1
   have hsp : l=l.take k++l[k] :: l.drop (k+1):=by rw [List.getElem_cons_drop,List.take_append_drop]
   have hlk:=look_pairF hmW _ hsp
   have hRr:=hK.2 _ _ HB.out.2.2 (fun c t fr e=>by injection e with _ e; subst e; decide)
   have cR:=Ad hRr 0
   simp only [List.getElem?_toArray,List.getElem?_cons_zero] at cR
   have htk:=filter_snoc (fun p=>pre.isPrefixOf p.1) l hlt
   have hxn:=hn _ (List.getElem_mem hlt)
   have hfl : ((l.take k).filter (fun p=>pre.isPrefixOf p.1)).length<l.length:=Nat.lt_of_le_of_lt (List.length_filter_le _ _) (by rw [List.length_take]; omega)
   generalize l[k]=x at *
   have hpf:=Qs wr x.1 pre hxn hp
   have hc:=HA.out.2.2.1 _ x wr hfl hJ
   have HT:=Ab (And.intro htk (And.intro hJ hK))
   clear htk hJ hK hmW hRr hsp hfl
   cases hpp : pre.isPrefixOf x.1 with
   | false=>
    rw [hpp] at hpf
    have HT2 : (l.take (k+1)).filter (fun p=>pre.isPrefixOf p.1)=(l.take k).filter (fun p=>pre.isPrefixOf p.1):=by rw [HT.out.1]; simp [hpp]
    have HT3:=Ab HT2
    clear HT2
    go_wp2_with fail
    refine hpf.mono ?_
    rintro e w3 ⟨rfl,rfl⟩
    go_wp2
    go_roundw
    case rel=>exact ⟨k+1,by omega,by go_num,by rw [HT3.out]; exact HT.out.2.1,HT.out.2.2⟩
    case measure=>simp [intOf]; omega
   | true=>
    rw [hpp] at hpf
    have HT2 : (l.take (k+1)).filter (fun p=>pre.isPrefixOf p.1)=(l.take k).filter (fun p=>pre.isPrefixOf p.1) ++ [x]:=by rw [HT.out.1]; simp [hpp]
    have HT3:=Ab HT2
    clear HT2
    go_wp2_with fail
    refine hpf.mono ?_
    rintro e w3 ⟨rfl,rfl⟩
    go_wp2_with fail
    refine hc.mono ?_
    rintro e w4 ⟨rfl,hJ4,hK4⟩
    have H4:=Ab (And.intro hJ4 hK4)
    clear hJ4 hK4
    go_wp2
    go_roundw
    case rel=>exact ⟨k+1,by omega,by go_num,by rw [HT3.out]; exact H4.out.1,HT.out.2.2.trans H4.out.2⟩
    case measure=>simp [intOf]; omega
  ·have hkl : k=l.length:=by omega
   subst hkl
   rw [List.take_length] at hJ
   have HJ:=Ab (And.intro hJ hK)
   clear hJ hK
   go_wp2
   go_end0
   exact ⟨rfl,HJ.out.1,HB.out.2.1.trans HJ.out.2⟩
end Go.Proofs.YtblniomnhpedjaaGreatDoor
namespace Go.Proofs.YtblniomnhpedjaaGreatDoor
open Go.RowKit
def Bo (l : List Af) : List An:=l.map fun p=>(p.1,p.2,false)
def HearP (w : World) (g : Nat) (xs : List Af) (W : World) : Prop:=∃ v,W.heap[g]? = some (.cells #[v] 27)∧Cf w.heap.size W v (Bo xs)∧Below w.heap.size w W
theorem hearP_more {w : World} {g : Nat} (xs : List Af) (W W' : World) (h : HearP w g xs W) (hb : Below W.heap.size W W') : HearP w g xs W':=by
 obtain ⟨v,h1,h2,h3⟩:=h
 exact ⟨v,(hb.block g (At h1)).trans h1,Ck h2 hb,h3.trans (hb.mono h3.size)⟩
theorem hearP_call {w : World} {g : Nat} (hg : w.heap.size≤g) (xs : List Af) (p : Af) (W : World) (hn : xs.length≤4294967296) (h : HearP w g xs W) :
  Calls Tryz.prog 93 (#[.agg #[.string (Ae p.1), .string (Ae p.2)]] ++ #[.pointer (some ⟨g,0,none⟩)]) W fun e W'=>e = .returned (.tuple #[])∧HearP w g (xs ++ [p]) W'∧Dc W W':=by
 obtain ⟨v,h1,h2,h3⟩:=h
 refine (putsC_any W w.heap.size g v (Bo xs) p h1 hg h2 (by simpa [Bo] using hn)).mono ?_
 rintro e W' ⟨rfl,v',k1,k2,k3,k4⟩
 refine ⟨rfl,⟨v',k1,?_,h3.trans k3⟩,k4⟩
 rw [Bo,List.map_append]
 exact k2
theorem entersP : ∀ args w,(callFunc 93 args).run Tryz.prog w = .ok (.enter 93 args) w:=enters_of Tryz.func93 (by kernel_rfl) rfl
theorem Pr (l : List Af) : l.filter (fun p=>([] : Bs).isPrefixOf p.1)=l:=by simp
set_option maxRecDepth 20000 in
theorem puts_any (w : World) (b : Nat) (l : List Af) (wt : Int) (hm : Ak w b (rv l)) (hr : Bn l) (hn : ∀ p∈l,p.1.length≤4611686018427387904) (hl : l.length≤4294967296) :
  Calls Tryz.prog 73 #[.agg #[.map (some b), .int .i64 wt]] w fun e w'=>∃ v,e = .returned v∧Cf w.heap.size w' v (Bo l)∧Below w.heap.size w w':=by
 have hal : Below w.heap.size w ((w.alloc (.cells #[.map (some b), .int .i64 wt] 97)).alloc (.cells #[.slice none 0 0] 27)):=((Below.refl _ w).alloc (Nat.le_refl _) _).alloc (by simp) _
 have hg:=Au (w.alloc (.cells #[.map (some b), .int .i64 wt] 97)) (.cells #[.slice none 0 0] 27)
 rw [World.size_alloc] at hg
 have hea:=each_any ((w.alloc (.cells #[.map (some b), .int .i64 wt] 97)).alloc (.cells #[.slice none 0 0] 27)) b l wt [] 93 #[.pointer (some ⟨w.heap.size+1,0,none⟩)] (HearP w (w.heap.size+1))
  ((Hl hal).map hm) hr hn (by simp) (by omega) entersP hearP_more (fun xs p W hx hJ=>hearP_call (by omega) xs p W (by omega) hJ) ⟨_,hg,World.ownsRow_nil _ _ _ _,hal⟩
 rw [Pr] at hea
 have hst : Ae []=⟨#[]⟩:=rfl
 rw [hst] at hea
 clear hg hal hst hm
 go_enter Tryz.func73,Tryz.ntmps73
 go_wp2_with fail
 refine hea.mono ?_
 rintro e w1 ⟨rfl,⟨v,h1,h2,h3⟩,-⟩
 have c0:=Ad h1 0
 simp only [List.getElem?_toArray,List.getElem?_cons_zero] at c0
 obtain ⟨ua,uc,rfl,-⟩:=Ay h2
 have HH:=Ab (And.intro h2 h3)
 clear h1 h2 h3
 go_wp2
 go_ret
 exact ⟨_,rfl,HH.out.1,HH.out.2⟩
end Go.Proofs.YtblniomnhpedjaaGreatDoor
namespace Go.Proofs.YtblniomnhpedjaaGreatDoor
open Go.RowKit
structure TabAt (w : World) (t b g : Nat) (sure : Bool) (l : List Af) : Prop where
 cells : w.heap[t]? = some (.cells #[.map (some b), .int .i64 (Ag l), .pointer (some ⟨g,0,none⟩), .bool sure] 101)
 map : Ak w b (rv l)
 rise : Bn l
theorem I9 {w : World} {t b g : Nat} {sure : Bool} {l : List Af} (h : TabAt w t b g sure l) : Calls Tryz.prog 48 #[.pointer (some ⟨t,0,none⟩)] w fun e w'=>e = .returned (.bool false)∧w'=w:=by
 have x2:=Ad h.cells 2
 simp only [List.getElem?_toArray,List.getElem?_cons_zero,List.getElem?_cons_succ] at x2
 clear h
 go_enter Tryz.func48,Tryz.ntmps48
 go_wp2
 go_ret
 exact ⟨rfl,rfl⟩
theorem Jg (w : World) : Calls Tryz.prog 48 #[.pointer none] w fun e w'=>e = .returned (.bool true)∧w'=w:=by
 go_enter Tryz.func48,Tryz.ntmps48
 go_wp2
 go_ret
 exact ⟨rfl,rfl⟩
theorem I2 {w : World} {t b g : Nat} {sure : Bool} {l : List Af} (h : TabAt w t b g sure l) : Calls Tryz.prog 30 #[.pointer (some ⟨t,0,none⟩)] w fun e w'=>e = .returned (.int .i64 l.length)∧w'=w:=by
 have hi:=I9 h
 have hlm:=len_map h.map
 rw [show (rv l).length=l.length from List.length_map _] at hlm
 have x0:=Ad h.cells 0
 simp only [List.getElem?_toArray,List.getElem?_cons_zero] at x0
 clear h
 go_enter Tryz.func30,Tryz.ntmps30
 go_wp2_with fail
 refine hi.mono ?_
 rintro e w1 ⟨rfl,rfl⟩
 go_wp2
 go_ret
 exact ⟨rfl,rfl⟩
def getT (l : List Af) (key : Bs) : Option Bs:=(l.find? fun x=>x.1 == key).map (·.2)
theorem find_cut {l : List Af} {key : Bs} {x : Af} (h : l.find? (fun x=>x.1 == key)=some x) : x.1=key∧∃ a c,l=a++x :: c:=by
 have h1:=List.find?_some h
 exact ⟨by simpa using h1,List.append_of_mem (List.mem_of_find?_eq_some h)⟩
set_option maxRecDepth 20000 in
theorem tget_any {w : World} {t b g : Nat} {sure : Bool} {l : List Af} (h : TabAt w t b g sure l) (key : Bs) : Calls Tryz.prog 37 #[.pointer (some ⟨t,0,none⟩), .string (Ae key)] w fun e w'=>
  e = .returned (match getT l key with | some v=>.tuple #[.string (Ae v), .bool true] | none=>.tuple #[.string ⟨#[]⟩, .bool false])∧Below w.heap.size w w':=by
 have hi:=I9 h
 have x0:=Ad h.cells 0
 simp only [List.getElem?_toArray,List.getElem?_cons_zero] at x0
 cases hf : l.find? (fun x=>x.1 == key) with
 | none=>
  rw [show getT l key=none by simp [getT,hf]]
  have hlk:=look_key h.map (key:=key) (fun x hx e=>by have:=List.find?_eq_none.1 hf x hx; simp [e] at this)
  have hb : Below w.heap.size w (w.alloc (.cells #[.string ⟨#[]⟩, .string ⟨#[]⟩] 75)):=(Below.refl _ w).alloc (Nat.le_refl _) _
  clear h hf
  go_enter Tryz.func37,Tryz.ntmps37
  go_wp2_with fail
  refine hi.mono ?_
  rintro e w1 ⟨rfl,rfl⟩
  go_wp2
  go_ret2
  exact ⟨rfl,hb⟩
 | some x=>
  rw [show getT l key=some x.2 by simp [getT,hf]]
  obtain ⟨rfl,a,c,hx⟩:=find_cut hf
  have hlk:=look_pair h.map x hx
  have hb : Below w.heap.size w (w.alloc (.cells #[.string (Ae x.1), .string (Ae x.2)] 75)):=(Below.refl _ w).alloc (Nat.le_refl _) _
  clear h hf hx
  go_enter Tryz.func37,Tryz.ntmps37
  go_wp2_with fail
  refine hi.mono ?_
  rintro e w1 ⟨rfl,rfl⟩
  go_wp2
  go_ret2
  exact ⟨rfl,hb⟩
end Go.Proofs.YtblniomnhpedjaaGreatDoor
namespace Go.Proofs.YtblniomnhpedjaaGreatDoor
open Go.RowKit
def HearR (w : World) (g : Nat) (xs : List Af) (W : World) : Prop:=∃ v,W.heap[g]? = some (.cells #[v] 65)∧Cq w.heap.size W v xs∧Below w.heap.size w W
theorem hearR_more {w : World} {g : Nat} (xs : List Af) (W W' : World) (h : HearR w g xs W) (hb : Below W.heap.size W W') : HearR w g xs W':=by
 obtain ⟨v,h1,h2,h3⟩:=h
 exact ⟨v,(hb.block g (At h1)).trans h1,Ck h2 hb,h3.trans (hb.mono h3.size)⟩
theorem hearR_call {w : World} {g : Nat} (hg : w.heap.size≤g) (xs : List Af) (p : Af) (W : World) (hn : xs.length≤4294967296) (h : HearR w g xs W) :
  Calls Tryz.prog 54 (#[.agg #[.string (Ae p.1), .string (Ae p.2)]] ++ #[.pointer (some ⟨g,0,none⟩)]) W fun e W'=>e = .returned (.tuple #[])∧HearR w g (xs ++ [p]) W'∧Dc W W':=by
 obtain ⟨v,h1,h2,h3⟩:=h
 refine (allC_any W w.heap.size g v xs p h1 hg h2 hn).mono ?_
 rintro e W' ⟨rfl,v',k1,k2,k3,k4⟩
 exact ⟨rfl,⟨v',k1,k2,h3.trans k3⟩,k4⟩
theorem entersR : ∀ args w,(callFunc 54 args).run Tryz.prog w = .ok (.enter 54 args) w:=enters_of Tryz.func54 (by kernel_rfl) rfl
set_option maxRecDepth 20000 in
theorem Iw {w : World} {t b g : Nat} {sure : Bool} {l : List Af} (h : TabAt w t b g sure l) (pre : Bs) (hp : pre.length≤4611686018427387904) (hn : ∀ p∈l,p.1.length≤4611686018427387904) (hl : l.length≤4294967296) :
  Calls Tryz.prog 32 #[.pointer (some ⟨t,0,none⟩), .string (Ae pre)] w fun e w'=>∃ v,e = .returned v∧Cq w.heap.size w' v (l.filter fun p=>pre.isPrefixOf p.1)∧Below w.heap.size w w':=by
 have hi:=I9 h
 have hal : Below w.heap.size w (w.alloc (.cells #[.slice none 0 0] 65)):=(Below.refl _ w).alloc (Nat.le_refl _) _
 have hg:=Au w (.cells #[.slice none 0 0] 65)
 have hea:=each_any (w.alloc (.cells #[.slice none 0 0] 65)) b l (Ag l) pre 54 #[.pointer (some ⟨w.heap.size,0,none⟩)] (HearR w w.heap.size)
  ((Hl hal).map h.map) h.rise hn hp (by omega) entersR hearR_more (fun xs p W hx hJ=>hearR_call (by omega) xs p W (by omega) hJ) ⟨_,hg,World.ownsRow_nil _ _ _ _,hal⟩
 have ht:=Bh (.cells #[.slice none 0 0] 65) h.cells
 have x0:=Ad ht 0
 have x1:=Ad ht 1
 simp only [List.getElem?_toArray,List.getElem?_cons_zero,List.getElem?_cons_succ] at x0 x1
 clear hg hal h ht
 go_enter Tryz.func32,Tryz.ntmps32
 go_wp2_with fail
 refine hi.mono ?_
 rintro e w0 ⟨rfl,rfl⟩
 go_wp2_with fail
 refine hea.mono ?_
 rintro e w1 ⟨rfl,⟨v,h1,h2,h3⟩,-⟩
 have c0:=Ad h1 0
 simp only [List.getElem?_toArray,List.getElem?_cons_zero] at c0
 obtain ⟨ua,uc,rfl,-⟩:=Ay h2
 have HH:=Ab (And.intro h2 h3)
 clear h1 h2 h3
 go_wp2
 go_ret
 exact ⟨_,rfl,HH.out.1,HH.out.2⟩
def oursT (e : Int) : Int:=if e=50 then 130 else if e=52 then 132 else e
theorem Im (w : World) (e : Int) : Calls Tryz.prog 39 #[.int .i64 e] w fun x w'=>x = .returned (.int .i64 (oursT e))∧w'=w:=by
 unfold oursT
 by_cases h1 : e=50
 ·subst h1
  go_enter Tryz.func39,Tryz.ntmps39
  go_wp2
  go_ret
  exact ⟨rfl,rfl⟩
 by_cases h2 : e=52
 ·subst h2
  go_enter Tryz.func39,Tryz.ntmps39
  go_wp2
  go_ret
  exact ⟨rfl,rfl⟩
 ·rw [if_neg h1,if_neg h2]
  go_enter Tryz.func39,Tryz.ntmps39
  go_wp2
  go_ret
  exact ⟨rfl,rfl⟩
end Go.Proofs.YtblniomnhpedjaaGreatDoor
namespace Go.Proofs.YtblniomnhpedjaaGreatDoor
open Go.RowKit
def By (rs : List Bs) : Nat:=30+(rs.map fun r=>10+r.length).sum
theorem mostT_take (rs : List Bs) {k : Nat} (h : k<rs.length) : By (rs.take (k+1))=By (rs.take k)+(10+rs[k].length):=by
 rw [Fk rs h]
 unfold By
 rw [List.map_append,List.sum_append_nat]
 generalize rs[k]=x
 simp
 omega
theorem mostT_le (rs : List Bs) (k : Nat) : By (rs.take k)≤By rs:=by
 unfold By
 have h : (rs.map fun r=>10+r.length).sum=((rs.take k).map fun r=>10+r.length).sum+((rs.drop k).map fun r=>10+r.length).sum:=by
  rw [← List.sum_append_nat,← List.map_append,List.take_append_drop]
 omega
set_option maxRecDepth 20000 in
theorem Qy (w : World) (v : Value) (rs : List Bs) (hv : Tx w v rs) (hm : By rs≤4611686018427387904) :
  Calls Tryz.prog 70 #[v] w fun e w'=>e = .returned (.int .i64 (By rs))∧w'=w:=by
 obtain ⟨ao,cap,rfl,h1,h2,h4⟩:=hv
 unfold maxLen at h2
 go_enter Tryz.func70,Tryz.ntmps70
 go_wp2_with fail
 go_loopw [8,3] (fun t u wr=>∃ k : Nat,k≤rs.length∧t = .int .i64 k∧u = .int .i64 (By (rs.take k))∧wr=w)
  (fun t _ _=>rs.length - (intOf t).toNat)
 case atStart=>exact ⟨0,by omega,rfl,by simp [By],rfl⟩
 case round=>
  obtain ⟨k,hk,rfl,rfl,rfl⟩:=hrel
  by_cases hlt : k<rs.length
  ·obtain ⟨b,off,rfl,hbl,hc⟩:=h4 (by intro e; rw [e] at hlt; simp at hlt)
   have c0:=hc k hlt
   have htk:=mostT_take rs hlt
   have hle:=mostT_le rs (k+1)
   generalize rs[k]=r at *
   have hrs:=B1 r
   obtain ⟨tk,htk1⟩ : ∃ tk,tk=By (rs.take k):=⟨_,rfl⟩
   obtain ⟨tn,htn1⟩ : ∃ tn,tn=By (rs.take (k+1)):=⟨_,rfl⟩
   rw [← htk1,← htn1] at htk
   rw [← htn1] at hle
   rw [← htk1]
   have q1 : IntKind.i64.wrap (10+(r.length : Int))=10+(r.length : Int):=by simp [IntKind.wrap,IntKind.bits,IntKind.signed]; omega
   have q2 : IntKind.i64.wrap ((tk : Int)+(10+(r.length : Int)))=(tn : Int):=by
    rw [show (tk : Int)+(10+(r.length : Int))=(tn : Int) by omega]
    simp [IntKind.wrap,IntKind.bits,IntKind.signed]
    omega
   have HN:=Ab htn1
   clear hc htk hle htk1 htn1
   go_wp2_with fail
   go_roundw
   case rel=>exact ⟨k+1,by omega,by go_num,by rw [HN.out],trivial⟩
   case measure=>simp [intOf]; omega
  ·have hkl : k=rs.length:=by omega
   subst hkl
   rw [List.take_length]
   go_wp2
   go_ret
   exact ⟨rfl,rfl⟩
end Go.Proofs.YtblniomnhpedjaaGreatDoor
namespace Go.Proofs.YtblniomnhpedjaaGreatDoor
variable {S : Dk}
theorem crash_bytes (keep t : Int) (f : Nat) : (S.crash keep t).bytes f=(S.bytes f).take (((S.files[f]?).map (·.sure)).getD 0+Ar (A6 S.acts keep t) f):=by
 unfold Dk.bytes Dk.crash
 simp only [List.getElem?_mapIdx]
 cases S.files[f]? with
 | none=>simp
 | some x=>simp
def B3 (S : Dk) : Prop:=S.cut=none∧∀ k,S.fails k=false
theorem P1 (keep t : Int) : B3 (S.crash keep t):=⟨rfl,fun _=>rfl⟩
theorem B3.begun (h : B3 S) : B3 S.begun∧S.begun.dir=S.dir∧(∀ f,S.begun.bytes f=S.bytes f)∧S.begun.n=S.n+1:=by
 unfold Dk.begun
 rw [if_neg (by simp [Dk.on,h.1])]
 exact ⟨h,rfl,fun _=>rfl,rfl⟩
theorem B3.read (h : B3 S) {n : Nm} {f : Nat} (hn : Ap n=true) (hl : look S.dir n=some f) : S.read n=(S.bytes f,0):=by
 have e : S.onFile n = .ok (f,false):=by
  unfold Dk.onFile
  rw [if_neg (by simp [Dk.on,h.1]),if_neg (by rw [hn]; decide),hl]
  simp [h.2]
 unfold Dk.read
 rw [e]
 rfl
theorem off_file (h : S.on=false) (n : Nm) : S.onFile n = .error 35:=by unfold Dk.onFile; rw [if_pos h]
theorem off_begun (h : S.on=false) : S.begun=S:=by unfold Dk.begun; rw [if_pos h]
theorem off_syncDir (h : S.on=false) : S.syncDir=(S,35):=by unfold Dk.syncDir; rw [if_pos h]
theorem off_remove (h : S.on=false) (n : Nm) : S.remove n=(S,35):=by unfold Dk.remove; rw [off_file h]; simp only [off_begun h]
end Go.Proofs.YtblniomnhpedjaaGreatDoor
namespace Go.Proofs.YtblniomnhpedjaaGreatDoor
def zz : Nm:=[122,122,45,107,101,112,116]
def Eh (z : Nm) : Ac→Prop
 | .made n _=>z≠n
 | .ren a b=>z≠a∧z≠b
 | .rem n=>z≠n
 | .more _ _=>True
theorem Fe (l : Dir) {n m : Nm} (h : m≠n) (f : Nat) : look (ins n f l) m=look l m:=by
 induction l with
 | nil=>
  show look [(n,f)] m=_
  rw [Ds,if_neg (fun e=>h e.symm)]
 | cons q r ih=>
  unfold ins
  split
  ·rw [Ds,if_neg (fun e=>h e.symm)]
  ·rw [Ds,Ds,ih]
theorem Jt {z : Nm} {a : Ac} (l : Dir) (h : Eh z a) : look (Bl l a) z=look l z:=by
 cases a with
 | made n f=>exact Fe l h f
 | ren x y=>
  simp only [Bl]
  cases hk : look l x with
  | none=>rfl
  | some f=>
   show look (ins y f (del y (del x l))) z=_
   rw [Fe _ h.2,D5,if_neg h.2,D5,if_neg h.1]
 | rem n=>
  show look (del n l) z=_
  rw [D5,if_neg h]
 | more f k=>rfl
theorem Mt {z : Nm} (cs : List Ac) : ∀ (l : Dir),(∀ a∈cs,Eh z a)→look (A5 l cs) z=look l z:=by
 induction cs with
 | nil=>exact fun _ _=>rfl
 | cons a r ih=>
  intro l h
  show look (A5 (Bl l a) r) z=_
  rw [ih _ fun x hx=>h x (by simp [hx]),Jt l (h a (by simp))]
theorem same_id : ∀ {l : Dir} {n m : Nm} {f : Nat},(ids l).Nodup→(n,f)∈l→(m,f)∈l→n=m:=by
 intro l
 induction l with
 | nil=>intro n m f _ h; cases h
 | cons p r ih=>
  intro n m f hn h1 h2
  have hn':=List.nodup_cons.1 (show (p.2 :: ids r).Nodup from hn)
  have hi : ∀ {x : Nm},(x,f)∈r→f∈ids r:=fun hx=>List.mem_map.2 ⟨_,hx,rfl⟩
  rcases List.mem_cons.1 h1 with e1 | e1 <;> rcases List.mem_cons.1 h2 with e2 | e2
  ·rw [← e1] at e2
   exact (congrArg Prod.fst e2).symm
  ·rw [← e1] at hn'
   exact absurd (hi e2) hn'.1
  ·rw [← e2] at hn'
   exact absurd (hi e1) hn'.1
  ·exact ih hn'.2 e1 e2
structure Kept (z : Nm) (S : Dk) (f : Nat) (was : Nat) (all : List UInt8) : Prop where
 lookS : look S.sure z=some f
 lookD : look S.dir z=some f
 acts : ∀ a∈S.acts,Eh z a
 file : ∃ x,S.files[f]? = some x∧x.b=all∧was≤x.sure
section
variable {z : Nm} {S : Dk} {f was : Nat} {all : List UInt8}
theorem Kept.next (h : Kept z S f was all) : Kept z S.next f was all:=⟨h.lookS,h.lookD,h.acts,h.file⟩
theorem Kept.failAt (h : Kept z S f was all) (ks : List Int) : Kept z (S.failAt ks) f was all:=⟨h.lookS,h.lookD,h.acts,h.file⟩
theorem Kept.begun (h : Kept z S f was all) : Kept z S.begun f was all:=by
 unfold Dk.begun
 split
 ·exact h
 ·exact h.next
theorem Kept.ne (h : Kept z S f was all) (hk : Ok S) {n : Nm} (hn : z≠n) {g : Nat} (hg : look S.dir n=some g) : g≠f:=by
 rintro rfl
 exact hn (same_id hk.oneD (Hb h.lookD) (Hb hg))
theorem Kept.modify (h : Kept z S f was all) {g : Nat} (hg : g≠f) (fn : Fl→Fl) : ∃ x,(S.files.modify g fn)[f]? = some x∧x.b=all∧was≤x.sure:=by
 have e : (S.files.modify g fn)[f]? = S.files[f]?:=by simp [hg]
 rw [e]
 exact h.file
theorem Kept.ext (h : Kept z S f was all) {g : Nat} (hg : g≠f) (b : List UInt8) : Kept z (S.ext g b) f was all:=
 ⟨h.lookS,h.lookD,fun a ha=>by
  rcases List.mem_append.1 ha with ha | ha
  ·exact h.acts a ha
  ·simp at ha; subst ha; trivial,h.modify hg _⟩
theorem Kept.ext_own (h : Kept z S f was all) (b : List UInt8) : Kept z (S.ext f b) f was (all++b):=
 ⟨h.lookS,h.lookD,fun a ha=>by
  rcases List.mem_append.1 ha with ha | ha
  ·exact h.acts a ha
  ·simp at ha; subst ha; trivial,by
  obtain ⟨x,h1,h2,h3⟩:=h.file
  refine ⟨{ x with b:=x.b++b },?_,by simp [h2],h3⟩
  show (S.files.modify f _)[f]? = _
  simp [h1]⟩
theorem Kept.mk1 (h : Kept z S f was all) {n : Nm} (hn : z≠n) : Kept z (S.mk1 n) f was all:=
 ⟨h.lookS,(Fe _ hn _).trans h.lookD,fun a ha=>by
  rcases List.mem_append.1 ha with ha | ha
  ·exact h.acts a ha
  ·simp at ha; subst ha; exact hn,by
  obtain ⟨x,h1,h2⟩:=h.file
  refine ⟨x,?_,h2⟩
  show (S.files ++ [_])[f]? = _
  rw [List.getElem?_append_left (List.getElem?_eq_some_iff.1 h1).1]
  exact h1⟩
theorem Kept.append (h : Kept z S f was all) (hk : Ok S) {n : Nm} (hn : z≠n) (b : List UInt8) : Kept z (S.append n b).1 f was all:=by
 unfold Dk.append
 split
 ·exact h
 split
 ·exact h.next
 split
 ·exact h.next
 split
 ·exact h.next
 show Kept z (S.next.app n b) f was all
 unfold Dk.app
 split
 ·rename_i g hg
  split
  ·exact h.next
  ·exact h.next.ext (h.ne hk hn hg) b
 ·have hlt : S.next.files.length≠f:=by
   obtain ⟨x,h1,_⟩:=h.file
   have:=(List.getElem?_eq_some_iff.1 h1).1
   exact fun e=>by rw [← e] at this; exact Nat.lt_irrefl _ this
  split
  ·exact h.next.mk1 hn
  ·exact (h.next.mk1 hn).ext hlt b
theorem Kept.append_own (h : Kept z S f was all) (b : List UInt8) : ((S.append z b).2=0→Kept z (S.append z b).1 f was (all++b))∧((S.append z b).2≠0→Kept z (S.append z b).1 f was all):=by
 unfold Dk.append
 split
 ·exact ⟨fun e=>absurd e (by simp),fun _=>h⟩
 split
 ·exact ⟨fun e=>absurd e (by simp),fun _=>h.next⟩
 split
 ·exact ⟨fun e=>absurd e (by simp),fun _=>h.next⟩
 split
 ·exact ⟨fun e=>absurd e (by simp),fun _=>h.next⟩
 refine ⟨fun _=>?_,fun e=>absurd rfl e⟩
 show Kept z (S.next.app z b) f was (all++b)
 unfold Dk.app
 rw [show look S.next.dir z=some f from h.lookD]
 show Kept z (if b = [] then S.next else S.next.ext f b) f was (all++b)
 split
 ·rename_i hb
  subst hb
  rw [List.append_nil]
  exact h.next
 ·exact h.next.ext_own b
theorem Kept.sync (h : Kept z S f was all) (hk : Ok S) {n : Nm} (hn : z≠n) : Kept z (S.sync n).1 f was all:=by
 unfold Dk.sync
 split
 ·exact h.begun
 ·rename_i g fl hon
  have hg : look S.dir n=some g:=by
   unfold Dk.onFile at hon
   split at hon
   ·cases hon
   split at hon
   ·cases hon
   split at hon
   ·cases hon
   ·rename_i g' hl
    cases hon
    exact hl
  have hne:=h.ne hk hn hg
  have hb:=h.begun
  split
  ·exact ⟨hb.lookS,hb.lookD,fun a ha=>hb.acts a (List.mem_filter.1 ha).1,hb.modify hne _⟩
  ·exact ⟨hb.lookS,hb.lookD,fun a ha=>hb.acts a (List.mem_filter.1 ha).1,hb.modify hne _⟩
theorem Kept.syncDir (h : Kept z S f was all) : Kept z S.syncDir.1 f was all:=by
 unfold Dk.syncDir
 split
 ·exact h
 split
 ·exact ⟨h.lookS,h.lookS,fun a ha=>h.acts a (List.mem_filter.1 ha).1,h.file⟩
 ·exact ⟨h.lookD,h.lookD,fun a ha=>h.acts a (List.mem_filter.1 ha).1,h.file⟩
theorem Kept.act (h : Kept z S f was all) {a : Ac} (ha : Eh z a) : Kept z (S.act a) f was all:=
 ⟨h.lookS,(Jt _ ha).trans h.lookD,fun x hx=>by
  rcases List.mem_append.1 hx with hx | hx
  ·exact h.acts x hx
  ·simp at hx; subst hx; exact ha,h.file⟩
theorem Kept.rename (h : Kept z S f was all) {a b : Nm} (ha : z≠a) (hb : z≠b) : Kept z (S.rename a b).1 f was all:=by
 unfold Dk.rename
 split
 ·exact h
 split
 ·exact h.next
 split
 ·exact h.next
 split
 ·exact h.next
 split
 ·exact h.next
 ·exact h.next.act ⟨ha,hb⟩
theorem Kept.remove (h : Kept z S f was all) {n : Nm} (hn : z≠n) : Kept z (S.remove n).1 f was all:=by
 unfold Dk.remove
 split
 ·exact h.begun
 split
 ·exact h.begun
 ·exact h.begun.act hn
theorem Kept.crash (h : Kept z S f was all) (keep t : Int) (hw : was≤all.length) : look (S.crash keep t).dir z=some f∧∃ k,(S.crash keep t).bytes f=all.take k∧was≤(all.take k).length:=by
 constructor
 ·show look (A5 S.sure (A6 S.acts keep t)) z=_
  rw [Mt _ _ fun a ha=>?_]
  ·exact h.lookS
  ·unfold A6 at ha
   rcases List.mem_append.1 ha with ha | ha
   ·exact h.acts a (List.mem_of_mem_take ha)
   ·unfold torn at ha
    split at ha
    ·simp at ha; subst ha; trivial
    ·simp at ha
 ·obtain ⟨x,h1,h2,h3⟩:=h.file
  rw [crash_bytes,h1,show S.bytes f=all by simp [Dk.bytes,h1,h2]]
  refine ⟨_,rfl,?_⟩
  simp only [List.length_take,Option.map_some,Option.getD_some]
  omega
end
end Go.Proofs.YtblniomnhpedjaaGreatDoor
