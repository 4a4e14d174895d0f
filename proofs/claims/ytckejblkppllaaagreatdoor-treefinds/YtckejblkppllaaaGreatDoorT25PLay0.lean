/-
  Texts joined: PLay0, PTake, PKo.
-/
import Derived.Test.YtckejblkppllaaaGreatDoorT23PNodeP
import Derived.Test.YtckejblkppllaaaGreatDoorT24MChg
namespace Go.Proofs.YtckejblkppllaaaGreatDoor
open Go.RowKit
theorem Mv.setNew {B : Nat} {ts : List TypeId} {r : Option Nat} {w w' : World} (h : Mv B ts r w w') {g j : Nat} (hg : w.heap.size≤g) (hB : B≤w.heap.size) (u : Value) : Mv B ts r w (w'.setCell ⟨g,j,Option.none⟩ u):=
 ⟨h.b.setCell (p:=⟨g,j,Option.none⟩) (Nat.le_trans hB hg) _,fun k cs t fr hk ht hr=>by
  rw [Bc (by have:=Ad hk; omega)]
  exact h.k k cs t fr hk ht hr⟩
theorem Mv.own0 {B B' : Nat} {ts : List TypeId} {w w' : World} (h : Mv B ts Option.none w w') {v : Value} {n k : Nat} {xs : List Value} {e : TypeId} (hown : w.ownsRow B' e k v n xs) (he : e ∉ ts) : w'.ownsRow B' e k v n xs:=
 h.own hown he (by cases hq : v.ownBlock with | none=>exact .inl rfl | some q=>exact .inr (by simp))
def Dz (os : List Ag) : List (Value × Value):=os.map fun o=>(.string (Ab o.1), .agg #[])
structure BdW (B : Nat) (w : World) (g : Nat) (os : List Ag) : Prop where
 base : B≤g
 cell : ∃ vo mb,w.heap[g]? = some (.cells #[vo, .map (some mb)] 148)∧Rw B w 38 2 Ak vo os∧Mp.MapW w mb (Dz os)∧B≤mb
abbrev bts : List TypeId:=[148,38]
theorem laidK_any (os : List Ag) (id : Bs) : os.any (fun x=>x.1 == id)=true ↔ ∃ l',(Dz os).Perm ((.string (Ab id), .agg #[]) :: l'):=by
 constructor
 ·intro h
  obtain ⟨o,ho,he⟩:=List.any_eq_true.1 h
  have he : o.1=id:=by simpa using he
  have hm : ((.string (Ab id), .agg #[]) : Value × Value)∈Dz os:=by
   unfold Dz
   rw [← he]
   exact List.mem_map_of_mem (f:=fun o : Ag=>((.string (Ab o.1), .agg #[]) : Value × Value)) ho
  obtain ⟨x,y,e⟩:=List.append_of_mem hm
  exact ⟨x++y,by rw [e]; exact List.perm_middle⟩
 ·rintro ⟨l',hp⟩
  have hm:=hp.mem_iff.2 (List.mem_cons_self)
  unfold Dz at hm
  obtain ⟨o,ho,he⟩:=List.mem_map.1 hm
  injection he with he _
  injection he with he
  exact List.any_eq_true.2 ⟨o,ho,by simpa using Jp he⟩
theorem Jw (os : List Ag) : ∀ p∈Dz os,Mp.KStr p.1:=by
 intro p hp
 obtain ⟨o,_,rfl⟩:=List.mem_map.1 hp
 exact ⟨_,rfl⟩
theorem laidK_no {os : List Ag} {id : Bs} (h : os.any (fun x=>x.1 == id)=false) : ∀ p∈Dz os,p.1 ≠ .string (Ab id):=by
 intro p hp he
 obtain ⟨o,ho,rfl⟩:=List.mem_map.1 hp
 injection he with he
 rw [List.any_eq_false] at h
 exact h o ho (by simpa using Jp he)
theorem Jb (w : World) (mb : Nat) (os : List Ag) (id : Bs) (h : Mp.MapW w mb (Dz os)) :
  (Instr.lookup 91 (.map (some mb)) (.string (Ab id)) true).run Tryz.prog w = .ok (.tuple #[.agg #[], .bool (os.any (fun x=>x.1 == id))]) w:=by
 have hz : (zeroValue 215).run Tryz.prog w = .ok (.agg #[]) w:=by kernel_rfl
 cases hq : os.any (fun x=>x.1 == id) with
 | true=>
  obtain ⟨l',hp⟩:=(laidK_any os id).1 hq
  have:=(h.perm hp).look (Mp.kind_str Tryz.underlying9) (fun p hp'=>Jw os p (hp.mem_iff.2 (List.mem_cons_of_mem _ hp'))) Tryz.underlying91 ⟨_,rfl⟩ true
  simpa using this
 | false=>
  have:=h.look_none (Mp.kind_str Tryz.underlying9) (Jw os) Tryz.underlying91 ⟨_,rfl⟩ (laidK_no hq) hz true
  simpa using this
theorem map_put (w : World) (mb : Nat) (os : List Ag) (o : Ag) (h : Mp.MapW w mb (Dz os)) (hq : os.any (fun x=>x.1 == o.1)=false) :
  ∃ w',(Instr.mapUpdate 91 (.map (some mb)) (.string (Ab o.1)) (.agg #[])).run Tryz.prog w = .ok () w'∧Mp.MapW w' mb (Dz (os ++ [o]))∧Mp.Chg (· = mb) w w'∧w'.heap.size=w.heap.size:=by
 obtain ⟨w',h1,h2,h3,h4⟩:=h.put_new (Mp.kind_str Tryz.underlying9) (Jw os) Tryz.underlying91 ⟨_,rfl⟩ (laidK_no hq) (.agg #[])
 refine ⟨w',h1,h2.perm ?_,h3,h4⟩
 unfold Dz
 rw [List.map_append]
 exact (List.perm_append_singleton _ _).symm
theorem Mv.map {B : Nat} {ts : List TypeId} {r : Option Nat} {w w1 w2 : World} {mb : Nat} {es : Array MapEntry} {ck : Nat} (h : Mv B ts r w w1) (hc : Mp.Chg (· = mb) w1 w2) (hmb : B≤mb) (hm : w1.heap[mb]? = some (.map es ck)) : Mv B ts r w w2:=by
 refine ⟨h.b.trans ⟨hc.os,hc.tape,hc.output,hc.size,fun k hk=>?_⟩,fun k cs t fr hk ht hr=>?_⟩
 ·by_cases hs : k<w1.heap.size
  ·exact hc.block k hs (by omega)
  ·have:=Ad hm
   omega
 ·have:=h.k k cs t fr hk ht hr
  exact (hc.block k (Ad this) (by rintro rfl; rw [hm] at this; cases this)).trans this
theorem Nw {w : World} {g : Nat} {v0 v1 u0 : Value} {t : TypeId} (h : w.heap[g]? = some (.cells #[v0,v1] t)) : (w.setCell ⟨g,0,none⟩ u0).heap[g]? = some (.cells #[u0,v1] t):=by
 rw [heap_setCell _ _ _ _ _ _ _ h]
 simp
theorem map_set {w : World} {g j mb : Nat} {l : List (Value × Value)} {cs : Array Value} {t : TypeId} {fr : Nat × Nat} (h : Mp.MapW w mb l) (hh : w.heap[g]? = some (.cells cs t fr)) (u : Value) : Mp.MapW (w.setCell ⟨g,j,none⟩ u) mb l:=h.same (Bc (h.ne hh).symm)
theorem BdW.keep {B : Nat} {w w' : World} {g : Nat} {os : List Ag} (h : BdW B w g os) (hb : Below w.heap.size w w') : BdW B w' g os:=by
 obtain ⟨hg,vo,mb,h1,h2,h3,h4⟩:=h
 exact ⟨hg,vo,mb,(hb.block _ (Ad h1)).trans h1,Er h2 (fun q hq=>hb.block q (h2.lt q hq).2),h3.same (hb.block _ h3.lt),h4⟩
end Go.Proofs.YtckejblkppllaaaGreatDoor
namespace Go.Proofs.YtckejblkppllaaaGreatDoor
open Go.RowKit
def En (B : Nat) (n : A2) (last : Value) (e : Ending) (w' : World) : Prop:=
 ∃ vk vp,e = .returned (.tuple #[.agg #[.int .i64 n.1,vk,vp],last])∧Rw B w' 125 3 Au vk n.2.2∧Rw B w' 135 2 Ak vp n.2.1
def I7 (B : Nat) (b : Bs) (e : Ending) (w' : World) : Prop:=
 match Dd b with
 | some n=>En B n (.bool true) e w'
 | none=>En B (0,[],[]) (.bool false) e w'
set_option maxRecDepth 20000 in
set_option maxHeartbeats 1600000 in
theorem Ok (w : World) (b : Bs) (hb : b.length≤140737488355328) :
  Calls Tryz.prog 180 #[.string (Ab b)] w fun e w'=>I7 w.heap.size b e w'∧Below w.heap.size w w':=by
 have hb0 : Below w.heap.size w (w.alloc (.cells #[.int .i64 0, .slice none 0 0, .slice none 0 0] 240)):=(Below.refl _ _).alloc (Nat.le_refl _) _
 have hx0:=heap_last w (.cells #[.int .i64 0, .slice none 0 0, .slice none 0 0] 240) _ rfl
 have hn0 : (w.alloc (.cells #[.int .i64 0, .slice none 0 0, .slice none 0 0] 240)).heap.size=w.heap.size+1:=by simp
 generalize hw0 : w.alloc (.cells #[.int .i64 0, .slice none 0 0, .slice none 0 0] 240)=w0 at *
 have htl:=takeLeaf_any w0 b hb
 unfold F7 at htl
 unfold I7 En
 cases hc : Eu b with
 | some f=>
  rw [Ks hc]
  rw [hc] at htl
  simp only at htl ⊢
  clear hc
  go_enter Tryz.func180,Tryz.ntmps180
  go_wp2_with fail
  try rw [hw0]
  refine htl.mono ?_
  rintro e w1 ⟨⟨v,rfl,hov⟩,hb1⟩
  have hx1:=(hb1.block _ (Ad hx0)).trans hx0
  have B1:=hb0.trans (hb1.mono hb0.size)
  have HO:=Ac (Dh hov (show w.heap.size≤w0.heap.size by omega))
  obtain ⟨va,vm,vc,rfl⟩:=Av hov
  have c0:=cell_of_row w1 w.heap.size 0 _ _ _ hx1
  have c1:=cell_of_row w1 w.heap.size 1 _ _ _ hx1
  have c2:=cell_of_row w1 w.heap.size 2 _ _ _ hx1
  simp only [List.getElem?_toArray,List.getElem?_cons_zero,List.getElem?_cons_succ] at c0 c1 c2
  have f0:=Af (j:=0) hx1
  have f1:=Af (j:=1) hx1
  have f2:=Af (j:=2) hx1
  clear htl hb1 hov
  go_wp2
  refine bodyPost_ret (Aq rfl _ _ _ _ _ _ _ rfl (Bm hx1) Tryz.underlying240 rfl Tryz.infoNodeP) rfl ⟨⟨_,_,rfl,World.ownsRow_nil _ _ _ _,?_⟩,?_⟩
  ·exact Ap (Ap (Ap HO.out hx1 (by decide) _) (An hx1) (by decide) _) (Az (An hx1)) (by decide) _
  ·exact ((B1.setCell (p:=⟨w.heap.size,0,none⟩) (by simp) _).setCell (p:=⟨w.heap.size,1,none⟩) (by simp) _).setCell (p:=⟨w.heap.size,2,none⟩) (by simp) _
 | none=>
  rw [hc] at htl
  simp only at htl
  cases ht : E4 b with
  | none=>
   rw [Nc hc ht]
   simp only
   clear hc
   go_enter Tryz.func180,Tryz.ntmps180
   go_wp2_with fail
   try rw [hw0]
   refine htl.mono ?_
   rintro e w1 ⟨rfl,hb1⟩
   have hx1:=(hb1.block _ (Ad hx0)).trans hx0
   have B1:=hb0.trans (hb1.mono hb0.size)
   have htf:=Ob w1 b hb
   unfold E9 at htf
   rw [ht] at htf
   simp only at htf
   clear htl hb1
   go_wp2_with fail
   refine htf.mono ?_
   rintro e w2 ⟨rfl,hb2⟩
   have hx2:=(hb2.block _ (Ad hx1)).trans hx1
   have B2:=B1.trans (hb2.mono B1.size)
   have hx3:=(heap_past w2 (.cells #[.int .i64 0, .slice none 0 0] 129) _ (Ad hx2)).trans hx2
   have hy3:=heap_last w2 (.cells #[.int .i64 0, .slice none 0 0] 129) _ rfl
   have B3:=B2.alloc B2.size (.cells #[.int .i64 0, .slice none 0 0] 129)
   generalize hw3 : w2.alloc (.cells #[.int .i64 0, .slice none 0 0] 129)=w3 at *
   have g0:=Af (j:=0) hy3
   have g1:=Af (j:=1) hy3
   have hne : w.heap.size≠w2.heap.size:=Nat.ne_of_lt (Ad hx2)
   have hx4 : ((w3.setCell ⟨w2.heap.size,0,none⟩ (.int .i64 0)).setCell ⟨w2.heap.size,1,none⟩ (.slice none 0 0)).heap[w.heap.size]? = _:=(Bc hne).trans ((Bc hne).trans hx3)
   have hy4:=Cm (u0:=.int .i64 0) (u1:=.slice none 0 0) hy3
   have B4:=(B3.setCell (p:=⟨w2.heap.size,0,none⟩) B2.size (.int .i64 0)).setCell (p:=⟨w2.heap.size,1,none⟩) B2.size (.slice none 0 0)
   generalize hw4 : (w3.setCell ⟨w2.heap.size,0,none⟩ (.int .i64 0)).setCell ⟨w2.heap.size,1,none⟩ (.slice none 0 0)=w4 at *
   have c0:=cell_of_row w4 w.heap.size 0 _ _ _ hx4
   have c1:=cell_of_row w4 w.heap.size 1 _ _ _ hx4
   have c2:=cell_of_row w4 w.heap.size 2 _ _ _ hx4
   have d0:=cell_of_row w4 w2.heap.size 0 _ _ _ hy4
   have d1:=cell_of_row w4 w2.heap.size 1 _ _ _ hy4
   have e0:=cell_of_row w3 w2.heap.size 0 _ _ _ hy3
   have e1:=cell_of_row w3 w2.heap.size 1 _ _ _ hy3
   simp only [List.getElem?_toArray,List.getElem?_cons_zero,List.getElem?_cons_succ] at c0 c1 c2 d0 d1 e0 e1
   have f0:=Af (j:=0) hx4
   have f1:=Af (j:=1) hx4
   have f2:=Af (j:=2) hx4
   clear hne
   clear htf hb2
   go_wp2
   refine bodyPost_ret (Aq rfl _ _ _ _ _ _ _ rfl (Bm hx4) Tryz.underlying240 rfl Tryz.infoNodeP) rfl ⟨⟨_,_,rfl,?_,?_⟩,?_⟩
   ·exact World.ownsRow_nil _ _ _ _
   ·exact World.ownsRow_nil _ _ _ _
   ·exact ((B4.setCell (p:=⟨w.heap.size,0,none⟩) (by simp) _).setCell (p:=⟨w.heap.size,1,none⟩) (by simp) _).setCell (p:=⟨w.heap.size,2,none⟩) (by simp) _
  | some f=>
   rw [Nj hc ht]
   simp only
   clear hc
   go_enter Tryz.func180,Tryz.ntmps180
   go_wp2_with fail
   try rw [hw0]
   refine htl.mono ?_
   rintro e w1 ⟨rfl,hb1⟩
   have hx1:=(hb1.block _ (Ad hx0)).trans hx0
   have B1:=hb0.trans (hb1.mono hb0.size)
   have htf:=Ob w1 b hb
   unfold E9 at htf
   rw [ht] at htf
   simp only at htf
   clear htl hb1
   go_wp2_with fail
   refine htf.mono ?_
   rintro e w2 ⟨⟨v,rfl,ho⟩,hb2⟩
   have hx2:=(hb2.block _ (Ad hx1)).trans hx1
   have B2:=B1.trans (hb2.mono B1.size)
   have HO:=Ac (Dh ho (show w.heap.size≤w1.heap.size from B1.size))
   obtain ⟨va,vm,vc,rfl⟩:=Av ho
   have HO3:=Ac (HO.out.alloc (.cells #[.int .i64 f.1, .slice va vm vc] 129))
   clear ho
   have hx3:=(heap_past w2 (.cells #[.int .i64 f.1, .slice va vm vc] 129) _ (Ad hx2)).trans hx2
   have hy3:=heap_last w2 (.cells #[.int .i64 f.1, .slice va vm vc] 129) _ rfl
   have B3:=B2.alloc B2.size (.cells #[.int .i64 f.1, .slice va vm vc] 129)
   generalize hw3 : w2.alloc (.cells #[.int .i64 f.1, .slice va vm vc] 129)=w3 at *
   have c0:=cell_of_row w3 w.heap.size 0 _ _ _ hx3
   have c1:=cell_of_row w3 w.heap.size 1 _ _ _ hx3
   have c2:=cell_of_row w3 w.heap.size 2 _ _ _ hx3
   have d0:=cell_of_row w3 w2.heap.size 0 _ _ _ hy3
   have d1:=cell_of_row w3 w2.heap.size 1 _ _ _ hy3
   simp only [List.getElem?_toArray,List.getElem?_cons_zero,List.getElem?_cons_succ] at c0 c1 c2 d0 d1
   have f0:=Af (j:=0) hx3
   have f1:=Af (j:=1) hx3
   have f2:=Af (j:=2) hx3
   clear htf hb2
   go_wp2
   refine bodyPost_ret (Aq rfl _ _ _ _ _ _ _ rfl (Bm hx3) Tryz.underlying240 rfl Tryz.infoNodeP) rfl ⟨⟨_,_,rfl,?_,World.ownsRow_nil _ _ _ _⟩,?_⟩
   ·exact Ap (Ap (Ap HO3.out hx3 (by decide) _) (An hx3) (by decide) _) (Az (An hx3)) (by decide) _
   ·exact ((B3.setCell (p:=⟨w.heap.size,0,none⟩) (by simp) _).setCell (p:=⟨w.heap.size,1,none⟩) (by simp) _).setCell (p:=⟨w.heap.size,2,none⟩) (by simp) _
end Go.Proofs.YtckejblkppllaaaGreatDoor
namespace Go.Proofs.YtckejblkppllaaaGreatDoor
open Go.RowKit
def isRec : Obj→Bool
 | .loop _=>true
 | .deferred _=>true
 | _=>false
def KO (W W' : World) : Prop:=∀ (k : Nat) (ob : Obj),W.heap[k]? = some ob→isRec ob=true→W'.heap[k]? = some ob
theorem KO.refl (W : World) : KO W W:=fun _ _ h _=>h
theorem KO.trans {a b c : World} (h : KO a b) (g : KO b c) : KO a c:=fun k ob hk hr=>g k ob (h k ob hk hr) hr
theorem KO.of {W W' : World} (h : Below W.heap.size W W') : KO W W':=fun k _ hk _=>(h.block k (Ad hk)).trans hk
theorem KO.more {a b c : World} (h : KO a b) (g : Below b.heap.size b c) : KO a c:=h.trans (KO.of g)
theorem KO.drew {a b : World} (h : KO a b) : KO a b.drew:=h
theorem KO.set {a b : World} (h : KO a b) {g j : Nat} {cs : Array Value} {t : TypeId} {fr : Nat × Nat} (hh : b.heap[g]? = some (.cells cs t fr)) (u : Value) : KO a (b.setCell ⟨g,j,none⟩ u):=fun k ob hk hr=>by
 have h1:=h k ob hk hr
 refine (Bc ?_).trans h1
 rintro rfl
 rw [hh] at h1
 injection h1 with h1
 subst h1
 cases hr
theorem KO.grown {a b c : World} (h : KO a b) {v : Value} {n k B : Nat} {xs : List Value} {e : TypeId} (hown : b.ownsRow B e k v n xs) (hgr : b.grownBy c v.ownBlock) : KO a c:=fun i ob hi hr=>by
 have h1:=h i ob hi hr
 refine (hgr.block i (Ad h1) fun hq=>?_).trans h1
 obtain ⟨cs,fz,h2⟩:=Lib.ownsRow_kind hown i hq.symm
 rw [h1] at h2
 injection h2 with h2
 subst h2
 cases hr
end Go.Proofs.YtckejblkppllaaaGreatDoor
