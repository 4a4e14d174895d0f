/-
  Asking for a node, by any get. Conditions: the get keeps its word; texts within reach.
-/
import Derived.Test.YtckejblkppllaaaGreatDoorT25PLay0
import Derived.Laws.EntriesVeiled
namespace Go.Proofs.YtckejblkppllaaaGreatDoor
open Go.RowKit
structure GetOk (g : Nat) (caps : Array Value) (fd : Bs→Option Bs) (B : Nat) (ts : List TypeId) (I : World→List Bs→Prop) : Prop where
 eg : ∀ args w,(callFunc g args).run Tryz.prog w = .ok (.enter g args) w
 le : ∀ W a,I W a→B≤W.heap.size
 mv : ∀ {W W' : World} {a : List Bs},I W a→Mv B ts none W W'→I W' a
 call : ∀ W a id,I W a→a.length≤4294967296→Calls Tryz.prog g (#[.string (Ab id)]++caps) W fun e w'=>e = .returned (F1 (fd id))∧I w' (a ++ [id])∧Mv B ats none W w'∧KO W w'
 node : 240∈ts
 short : ∀ id b,fd id=some b→b.length≤140737488355328
theorem GetOk.below {g : Nat} {caps : Array Value} {fd : Bs→Option Bs} {B : Nat} {ts : List TypeId} {I : World→List Bs→Prop} (h : GetOk g caps fd B ts I) {W W' : World} {a : List Bs} (hI : I W a) (hb : Below W.heap.size W W') : I W' a:=
 h.mv hI (Mv.of hb (h.le W a hI))
theorem eql_nilF (W : World) (gf : Nat) (caps : Array Value) : (binOp .eql 24 (.func (.func gf) #[] caps) .nilFunc).run Tryz.prog W = .ok (.bool false) W:=by
 have h : (Op.equal 24 (.func (.func gf) #[] caps) .nilFunc).run Tryz.prog W = .ok false W:=by
  show (Op.equalIn (9999+1) 24 _ _).run Tryz.prog W=_
  unfold Op.equalIn
  simp [run_underlying Tryz.underlying24,Result.andThen]
 simp only [binOp,Sem.run_bind,h,Result.andThen,Sem.run_pure]
abbrev A8 (id : Bs) : Ah:=([],(id,0))
theorem Lc {fd : Bs→Option Bs} {id : Bs} {b : Bs} {n : A2} (h : fd id=some b) (hn : Dd b=some n) : Ao fd (A8 id) (-1)=(0,n):=Hq (k:=A8 id) h hn (.inl (by omega))
set_option maxRecDepth 40000 in
set_option maxHeartbeats 3200000 in
theorem ask_any (w : World) (g : Nat) (caps : Array Value) (fd : Bs→Option Bs) (B : Nat) (ts : List TypeId) (I : World→List Bs→Prop) (hG : GetOk g caps fd B ts I) (id : Bs) (asked : List Bs) (hI : I w asked) (hn : asked.length≤4294967296) :
  Calls Tryz.prog 142 #[.agg #[.func (.func g) #[] caps], .string (Ab id)] w fun e w'=>En w.heap.size (Ao fd (A8 id) (-1)).2 (.int .i64 (Ao fd (A8 id) (-1)).1) e w'∧I w' (asked ++ [id])∧Mv B ats none w w'∧KO w w':=by
 have hB:=hG.le _ _ hI
 have eg:=hG.eg
 have hnf:=fun W=>eql_nilF W g caps
 have hb0 : Below w.heap.size w ((w.alloc (.cells #[.func (.func g) #[] caps] 238)).alloc (.cells #[.int .i64 0, .slice none 0 0, .slice none 0 0] 240)):=((Below.refl _ _).alloc (Nat.le_refl _) _).alloc (by simp) _
 have hx0 : ((w.alloc (.cells #[.func (.func g) #[] caps] 238)).alloc (.cells #[.int .i64 0, .slice none 0 0, .slice none 0 0] 240)).heap[w.heap.size+1]? = some (.cells #[.int .i64 0, .slice none 0 0, .slice none 0 0] 240):=heap_last _ _ _ (by simp)
 have ha0 : ((w.alloc (.cells #[.func (.func g) #[] caps] 238)).alloc (.cells #[.int .i64 0, .slice none 0 0, .slice none 0 0] 240)).heap[w.heap.size]? = some (.cells #[.func (.func g) #[] caps] 238):=(heap_past _ _ _ (by simp)).trans (heap_last w _ _ rfl)
 generalize hw0 : (w.alloc (.cells #[.func (.func g) #[] caps] 238)).alloc (.cells #[.int .i64 0, .slice none 0 0, .slice none 0 0] 240)=w0 at *
 have k0:=cell_of_row w0 w.heap.size 0 _ _ _ ha0
 simp only [List.getElem?_toArray,List.getElem?_cons_zero] at k0
 have hI0:=hG.below hI hb0
 have hcl:=hG.call w0 asked id hI0 hn
 have H0:=Ac hb0
 have HX:=Ac hx0
 have HG:=Ac hG
 clear hb0 hx0 ha0 hI0 hG hI
 unfold En
 cases hf : fd id with
 | none=>
  rw [askM_miss (k:=A8 id) hf]
  rw [hf] at hcl
  unfold F1 at hcl
  simp only at hcl ⊢
  go_enter Tryz.func142,Tryz.ntmps142
  go_wp2_with fail
  try rw [hw0]
  go_wp2_with fail
  refine hcl.mono ?_
  rintro e w1 ⟨rfl,hI1,hm1,hko1⟩
  have HKO:=Ac ((KO.of H0.out).trans hko1)
  clear hko1
  have hM1 : Mv B ats none w w1:=(Mv.of H0.out hB).trans hm1 (Nx.refl _ _)
  have hx1:=hm1.k _ _ _ _ HX.out (by decide) (by simp)
  have hs1 : w.heap.size≤w1.heap.size:=Nat.le_trans H0.out.size hm1.size
  clear hcl hm1 k0
  have c0:=cell_of_row w1 (w.heap.size+1) 0 _ _ _ hx1
  have c1:=cell_of_row w1 (w.heap.size+1) 1 _ _ _ hx1
  have c2:=cell_of_row w1 (w.heap.size+1) 2 _ _ _ hx1
  simp only [List.getElem?_toArray,List.getElem?_cons_zero,List.getElem?_cons_succ] at c0 c1 c2
  have f0:=Af (j:=0) hx1
  have f1:=Af (j:=1) hx1
  have f2:=Af (j:=2) hx1
  have HI:=Ac hI1
  have HMM:=Ac hM1
  clear hI1 hM1
  go_wp2
  refine bodyPost_ret (Aq rfl _ _ _ _ _ _ _ rfl (Bm hx1) Tryz.underlying240 rfl Tryz.infoNodeP) rfl ⟨⟨_,_,rfl,World.ownsRow_nil _ _ _ _,World.ownsRow_nil _ _ _ _⟩,?_,?_,?_⟩
  ·exact HG.out.mv HI.out ((((Mv.refl B ts none w1).set (j:=0) hx1 HG.out.node (by omega) _).set (j:=1) (An hx1) HG.out.node (by omega) _).set (j:=2) (Az (An hx1)) HG.out.node (by omega) _)
  ·exact ((HMM.out.setNew (j:=0) (by omega) hB _).setNew (j:=1) (by omega) hB _).setNew (j:=2) (by omega) hB _
  ·exact ((HKO.out.set (j:=0) hx1 _).set (j:=1) (An hx1) _).set (j:=2) (Az (An hx1)) _
 | some b=>
  have hbl:=HG.out.short _ _ hf
  rw [hf] at hcl
  unfold F1 at hcl
  simp only at hcl
  cases hno : Dd b with
  | none=>
   rw [askM_odd (k:=A8 id) hf hno]
   simp only
   go_enter Tryz.func142,Tryz.ntmps142
   go_wp2_with fail
   try rw [hw0]
   go_wp2_with fail
   refine hcl.mono ?_
   rintro e w1 ⟨rfl,hI1,hm1,hko1⟩
   have HKO:=Ac ((KO.of H0.out).trans hko1)
   clear hko1
   have hM1 : Mv B ats none w w1:=(Mv.of H0.out hB).trans hm1 (Nx.refl _ _)
   have hx1:=hm1.k _ _ _ _ HX.out (by decide) (by simp)
   have hs1 : w.heap.size≤w1.heap.size:=Nat.le_trans H0.out.size hm1.size
   clear hcl hm1 k0
   have htn:=Ok w1 b (by omega)
   unfold I7 En at htn
   rw [hno] at htn
   simp only at htn
   go_wp2_with fail
   refine htn.mono ?_
   rintro e w2 ⟨⟨vk,vp,rfl,hok,hop⟩,hb2⟩
   have hx2:=(hb2.block _ (Ad hx1)).trans hx1
   have hI2:=HG.out.below hI1 hb2
   have hM2:=hM1.more hb2 (Nat.le_trans hB hs1)
   have hok2:=Dh hok hs1
   have hop2:=Dh hop hs1
   have hs2 : w.heap.size≤w2.heap.size:=Nat.le_trans hs1 hb2.size
   obtain ⟨ka,km,kc,rfl⟩:=Av hok
   obtain ⟨pa,pm,pc,rfl⟩:=Av hop
   have hx3:=(heap_past w2 (.cells #[.int .i64 0, .slice ka km kc, .slice pa pm pc] 240) _ (Ad hx2)).trans hx2
   have hy3:=heap_last w2 (.cells #[.int .i64 0, .slice ka km kc, .slice pa pm pc] 240) _ rfl
   have hok3:=hok2.alloc (.cells #[.int .i64 0, .slice ka km kc, .slice pa pm pc] 240)
   have hop3:=hop2.alloc (.cells #[.int .i64 0, .slice ka km kc, .slice pa pm pc] 240)
   have hI3:=HG.out.below hI2 ((Below.refl _ _).alloc (Nat.le_refl _) (.cells #[.int .i64 0, .slice ka km kc, .slice pa pm pc] 240))
   have hM3:=hM2.alloc (Nat.le_trans hB hs2) (.cells #[.int .i64 0, .slice ka km kc, .slice pa pm pc] 240)
   generalize hw3 : w2.alloc (.cells #[.int .i64 0, .slice ka km kc, .slice pa pm pc] 240)=w3 at *
   have n0:=cell_of_row w3 w2.heap.size 0 _ _ _ hy3
   have n1:=cell_of_row w3 w2.heap.size 1 _ _ _ hy3
   have n2:=cell_of_row w3 w2.heap.size 2 _ _ _ hy3
   simp only [List.getElem?_toArray,List.getElem?_cons_zero,List.getElem?_cons_succ] at n0 n1 n2
   have c0:=cell_of_row w3 (w.heap.size+1) 0 _ _ _ hx3
   have c1:=cell_of_row w3 (w.heap.size+1) 1 _ _ _ hx3
   have c2:=cell_of_row w3 (w.heap.size+1) 2 _ _ _ hx3
   simp only [List.getElem?_toArray,List.getElem?_cons_zero,List.getElem?_cons_succ] at c0 c1 c2
   have f0:=Af (j:=0) hx3
   have f1:=Af (j:=1) hx3
   have f2:=Af (j:=2) hx3
   have HI:=Ac hI3
   have HMM:=Ac hM3
   have HKO:=Ac (HKO.out.more (show Below w1.heap.size w1 w3 from by rw [← hw3]; exact hb2.alloc hb2.size _))
   have HOO:=Ac (And.intro hok3 hop3)
   clear hI1 hI2 hI3 hM1 hM2 hM3 hok hop hok2 hop2 hok3 hop3 hb2 htn hx2 hx1
   go_wp2
   refine bodyPost_ret (Aq rfl _ _ _ _ _ _ _ rfl (Bm hx3) Tryz.underlying240 rfl Tryz.infoNodeP) rfl ⟨⟨_,_,rfl,World.ownsRow_nil _ _ _ _,World.ownsRow_nil _ _ _ _⟩,?_,?_,?_⟩
   ·exact HG.out.mv HI.out ((((Mv.refl B ts none w3).set (j:=0) hx3 HG.out.node (by omega) _).set (j:=1) (An hx3) HG.out.node (by omega) _).set (j:=2) (Az (An hx3)) HG.out.node (by omega) _)
   ·exact ((HMM.out.setNew (j:=0) (by omega) hB _).setNew (j:=1) (by omega) hB _).setNew (j:=2) (by omega) hB _
   ·exact ((HKO.out.set (j:=0) hx3 _).set (j:=1) (An hx3) _).set (j:=2) (Az (An hx3)) _
  | some n=>
   rw [Lc hf hno]
   simp only
   go_enter Tryz.func142,Tryz.ntmps142
   go_wp2_with fail
   try rw [hw0]
   go_wp2_with fail
   refine hcl.mono ?_
   rintro e w1 ⟨rfl,hI1,hm1,hko1⟩
   have HKO:=Ac ((KO.of H0.out).trans hko1)
   clear hko1
   have hM1 : Mv B ats none w w1:=(Mv.of H0.out hB).trans hm1 (Nx.refl _ _)
   have hx1:=hm1.k _ _ _ _ HX.out (by decide) (by simp)
   have hs1 : w.heap.size≤w1.heap.size:=Nat.le_trans H0.out.size hm1.size
   clear hcl hm1 k0
   have htn:=Ok w1 b (by omega)
   unfold I7 En at htn
   rw [hno] at htn
   simp only at htn
   go_wp2_with fail
   refine htn.mono ?_
   rintro e w2 ⟨⟨vk,vp,rfl,hok,hop⟩,hb2⟩
   have hx2:=(hb2.block _ (Ad hx1)).trans hx1
   have hI2:=HG.out.below hI1 hb2
   have hM2:=hM1.more hb2 (Nat.le_trans hB hs1)
   have hok2:=Dh hok hs1
   have hop2:=Dh hop hs1
   have hs2 : w.heap.size≤w2.heap.size:=Nat.le_trans hs1 hb2.size
   obtain ⟨ka,km,kc,rfl⟩:=Av hok
   obtain ⟨pa,pm,pc,rfl⟩:=Av hop
   have hx3:=(heap_past w2 (.cells #[.int .i64 n.1, .slice ka km kc, .slice pa pm pc] 240) _ (Ad hx2)).trans hx2
   have hy3:=heap_last w2 (.cells #[.int .i64 n.1, .slice ka km kc, .slice pa pm pc] 240) _ rfl
   have hok3:=hok2.alloc (.cells #[.int .i64 n.1, .slice ka km kc, .slice pa pm pc] 240)
   have hop3:=hop2.alloc (.cells #[.int .i64 n.1, .slice ka km kc, .slice pa pm pc] 240)
   have hI3:=HG.out.below hI2 ((Below.refl _ _).alloc (Nat.le_refl _) (.cells #[.int .i64 n.1, .slice ka km kc, .slice pa pm pc] 240))
   have hM3:=hM2.alloc (Nat.le_trans hB hs2) (.cells #[.int .i64 n.1, .slice ka km kc, .slice pa pm pc] 240)
   generalize hw3 : w2.alloc (.cells #[.int .i64 n.1, .slice ka km kc, .slice pa pm pc] 240)=w3 at *
   have n0:=cell_of_row w3 w2.heap.size 0 _ _ _ hy3
   have n1:=cell_of_row w3 w2.heap.size 1 _ _ _ hy3
   have n2:=cell_of_row w3 w2.heap.size 2 _ _ _ hy3
   simp only [List.getElem?_toArray,List.getElem?_cons_zero,List.getElem?_cons_succ] at n0 n1 n2
   have c0:=cell_of_row w3 (w.heap.size+1) 0 _ _ _ hx3
   have c1:=cell_of_row w3 (w.heap.size+1) 1 _ _ _ hx3
   have c2:=cell_of_row w3 (w.heap.size+1) 2 _ _ _ hx3
   simp only [List.getElem?_toArray,List.getElem?_cons_zero,List.getElem?_cons_succ] at c0 c1 c2
   have f0:=Af (j:=0) hx3
   have f1:=Af (j:=1) hx3
   have f2:=Af (j:=2) hx3
   have HI:=Ac hI3
   have HMM:=Ac hM3
   have HKO:=Ac (HKO.out.more (show Below w1.heap.size w1 w3 from by rw [← hw3]; exact hb2.alloc hb2.size _))
   have HOO:=Ac (And.intro hok3 hop3)
   clear hI1 hI2 hI3 hM1 hM2 hM3 hok hop hok2 hop2 hok3 hop3 hb2 htn hx2 hx1
   go_wp2
   refine bodyPost_ret (Aq rfl _ _ _ _ _ _ _ rfl (Bm hx3) Tryz.underlying240 rfl Tryz.infoNodeP) rfl ⟨⟨_,_,rfl,Ap (Ap (Ap HOO.out.1 hx3 (by decide) _) (An hx3) (by decide) _) (Az (An hx3)) (by decide) _,Ap (Ap (Ap HOO.out.2 hx3 (by decide) _) (An hx3) (by decide) _) (Az (An hx3)) (by decide) _⟩,?_,?_,?_⟩
   ·exact HG.out.mv HI.out ((((Mv.refl B ts none w3).set (j:=0) hx3 HG.out.node (by omega) _).set (j:=1) (An hx3) HG.out.node (by omega) _).set (j:=2) (Az (An hx3)) HG.out.node (by omega) _)
   ·exact ((HMM.out.setNew (j:=0) (by omega) hB _).setNew (j:=1) (by omega) hB _).setNew (j:=2) (by omega) hB _
   ·exact ((HKO.out.set (j:=0) hx3 _).set (j:=1) (An hx3) _).set (j:=2) (Az (An hx3)) _
end Go.Proofs.YtckejblkppllaaaGreatDoor
