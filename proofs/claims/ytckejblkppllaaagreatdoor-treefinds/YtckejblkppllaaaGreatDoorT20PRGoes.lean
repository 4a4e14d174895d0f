/-
  The reference goes to the pairs of a node. Conditions: its list lies there; not too many.
-/
import Derived.Test.YtckejblkppllaaaGreatDoorT19PRMany
import Derived.Deep.CutBlock
import Derived.Deep.CutRange
namespace Go.Proofs.YtckejblkppllaaaGreatDoor
open Go.RowKit
theorem lss_str (t : TypeId) (a b : Bs) : binOp .lss t (.string (Ab a)) (.string (Ab b))=pure (.bool (ltB a b)):=by simp [binOp,Op.stringOp,toLr,ltB]
def cntM (k : Ah) (level : Int) : Nat:=if level<0 then 4160 else k.2.2.toNat
theorem goM_bad {fd : Bs→Option Bs} {lo hi : Bs} {d : Nat} {k : Ah} {level : Int} {s : LsS} (h : (Ao fd k level).1≠0) : goM fd lo hi (d+1) k level s=⟨s.asked ++ [k.2.1],s.out,(Ao fd k level).1⟩:=by rw [goM,if_pos h]
theorem goM_ok {fd : Bs→Option Bs} {lo hi : Bs} {d : Nat} {k : Ah} {level : Int} {s : LsS} (h : (Ao fd k level).1=0) : goM fd lo hi (d+1) k level s=Cd (fun q t=>goM fd lo hi d q ((Ao fd k level).2.1 - 1) t) lo hi (Ao fd k level).2.2.2 (Ct lo hi (Ao fd k level).2.2.1 ⟨s.asked ++ [k.2.1],s.out,s.bad⟩):=by rw [goM,if_neg (by rw [h]; simp)]
theorem count_le {fd : Bs→Option Bs} (hs : ∀ id b,fd id=some b→b.length≤140737488355328) {k : Ah} {level : Int} (h : (Ao fd k level).1=0) : (Ao fd k level).2.2.1.length+(Am (Ao fd k level).2.2.2).toNat≤cntM k level:=by
 obtain ⟨hR,hF⟩:=Eg hs h
 obtain ⟨l1,l2,l3,l4⟩:=hR.links
 have h5:=Ef _ l2
 unfold cntM
 by_cases hl : level<0
 ·rw [if_pos hl]; omega
 ·rw [if_neg hl]
  rcases hF with hF | hF
  ·exact absurd hF hl
  ·have:=(Fw hF).2
   unfold Bt at this
   omega
theorem eachM_nil (f : Ah→LsS→LsS) (lo hi : Bs) (s : LsS) : Cd f lo hi [] s=s:=rfl
theorem own_apart {w : World} {B n k : Nat} {e : TypeId} {v u : Value} {xs : List Value} (h : w.ownsRow B e k v n xs) (hu : ∀ q,u.ownBlock=some q→q<B) : v.ownBlock=none∨v.ownBlock≠u.ownBlock:=by
 cases hv : v.ownBlock with
 | none=>exact .inl rfl
 | some q=>
  refine .inr fun hq=>?_
  have h1:=(h.lt q hv).1
  have h2:=hu q hq.symm
  omega
set_option maxRecDepth 40000 in
set_option maxHeartbeats 6400000 in
theorem goes12_any (g : Nat) (vo : Value) (objs : List Ag) (B : Nat) (hob : ∀ o∈objs,o.2.length≤140737488351232) (lo hi : Bs) : ∀ (d : Nat) (w : World) (k : Ah) (level : Int) (s : LsS) (vp : Value),(level = -1∧21≤d∨0≤level∧level<d∧A6 k=true)→level≤20→Cg k.2.2→s.bad=0→RlW B w g vo objs vp s→s.asked.length+d * cntM k level≤4294967296→s.out.length+cntM k level≤4294967296 →
  Calls Tryz.prog 107 #[.pointer (some ⟨g,0,none⟩), .agg #[.string (Ab k.1), .string (Ab k.2.1), .int .i64 k.2.2], .int .i64 level, .string (Ab lo), .string (Ab hi)] w fun e w'=>e = .returned (.tuple #[])∧∃ vp',RlW B w' g vo objs vp' (goM (Aj objs) lo hi d k level s)∧Mv B lts vp.ownBlock w w'∧Nx w vp.ownBlock vp'.ownBlock:=by
 intro d
 induction d with
 | zero=>
  intro w k level s vp hlv
  omega
 | succ d ih=>
  intro w k level s vp hlv hl20 hk hsb hR hn1 hn2
  have hB:=hR.le
  have hb0 : Below w.heap.size w (w.alloc (.cells #[.string (Ab k.1), .string (Ab k.2.1), .int .i64 k.2.2] 125)):=(Below.refl _ _).alloc (Nat.le_refl _) _
  have hq0:=heap_last w (.cells #[.string (Ab k.1), .string (Ab k.2.1), .int .i64 k.2.2] 125) _ rfl
  have hR0:=hR.below hb0
  have hvlt : ∀ q,vp.ownBlock=some q→q<w.heap.size:=fun q hq=>hR.lt hq
  generalize hw0 : w.alloc (.cells #[.string (Ab k.1), .string (Ab k.2.1), .int .i64 k.2.2] 125)=w0 at *
  have hcnt : 1≤cntM k level:=by
   unfold cntM
   by_cases hl : level<0
   ·rw [if_pos hl]; omega
   ·rw [if_neg hl]
    rcases hlv with h | h
    ·omega
    ·have:=((Ee k).1 h.2.2).2.2.1
     omega
  have hmul : (d+1) * cntM k level=d * cntM k level+cntM k level:=by rw [Nat.add_mul]; simp
  obtain ⟨va,va',w1,hh0,⟨aA,aM,aC,rfl⟩,hrun,hh1,hR1,hM1,hM2⟩:=hR0.ask k.2.1 (by omega)
  have hqA:=(heap_past w0 (.cells #[.string (Ab k.2.1)] 9) _ (Ad hq0)).trans hq0
  have hq1:=hM1.k _ _ _ _ hq0 (by decide) (by simp)
  have hq2:=hM2.k _ _ _ _ hq0 (by decide) (by simp)
  have hhA:=(heap_past w0 (.cells #[.string (Ab k.2.1)] 9) _ (Ad hh0)).trans hh0
  have g0:=cell_of_row w0 g 1 _ _ _ hh0
  have gA:=cell_of_row _ g 1 _ _ _ hhA
  have g1:=cell_of_row w1 g 1 _ _ _ hh1
  have f1:=Af (j:=1) hh1
  have s0:=cell_of_row w0 w.heap.size 1 _ _ _ hq0
  have sA:=cell_of_row _ w.heap.size 1 _ _ _ hqA
  have s1:=cell_of_row w1 w.heap.size 1 _ _ _ hq1
  have s2:=cell_of_row _ w.heap.size 1 _ _ _ hq2
  simp only [List.getElem?_toArray,List.getElem?_cons_zero,List.getElem?_cons_succ] at g0 gA g1 s0 sA s1 s2
  have hMa : Mv B lts vp.ownBlock w (w1.setCell ⟨g,1,none⟩ (.slice aA aM aC)):=(Mv.of hb0 hB).trans hM2.none (Nx.refl _ _)
  have HRUN:=Ac hrun
  have H2:=Ac (And.intro hR1 (And.intro hMa hq2))
  have HS:=Ac (And.intro hsb (And.intro hvlt (And.intro hcnt hmul)))
  obtain ⟨A,hA⟩ : ∃ A,A=goM (Aj objs) lo hi (d+1) k level s:=⟨_,rfl⟩
  rw [← hA]
  have HA:=Ac hA
  have HV:=Ac hR0
  clear hR hb0 hq0 hR0 hvlt hcnt hmul hrun hh0 hh1 hR1 hM1 hM2 hqA hq1 hq2 hhA hMa hA hsb
  go_enter Tryz.func107,Tryz.ntmps107
  go_upto_region 1 with fail
  try rw [hw0]
  go_cut [0] from 14 to 24 (fun t0 wx=>t0 = .pointer (some ⟨g,0,none⟩)∧RlW B wx g vo objs vp ⟨s.asked ++ [k.2.1],s.out,s.bad⟩∧Mv B lts vp.ownBlock w wx∧wx.heap[w.heap.size]? = some (.cells #[.string (Ab k.1), .string (Ab k.2.1), .int .i64 k.2.2] 125))
  case first=>
   refine wp_region_held_drew (S:=fun W=>W.cell? ⟨w.heap.size,1,none⟩=some (.string (Ab k.2.1))) (by kernel_rfl) (s0) (fun hHeld=>?_)
   refine Aa 0 hHeld ?_
   refine Aa 1 hHeld ?_
   refine Aa 2 hHeld ?_
   refine Aa 3 hHeld ?_
   refine Aa 5 hHeld ?_
   refine Aa 6 hHeld ?_
   refine twoH (i:=4) (j:=7) rfl rfl (by kernel_rfl) rfl rfl (fun K hK=>?_) (fun K hK=>?_)
   ·go_simp
    refine hK.out _ _ (s0) (fun hHeld=>?_)
    clear hK K
    try simp only [Act.put,List.setIfInBounds_toArray,List.set_cons_zero,List.set_cons_succ]
    refine Ai (i:=7) rfl (by kernel_rfl) rfl (fun K hK=>?_)
    go_simp
    refine hK.out _ _ (sA) (fun hHeld=>?_)
    clear hK K
    try simp only [Act.put,List.setIfInBounds_toArray,List.set_cons_zero,List.set_cons_succ]
    refine Ai (i:=8) rfl (by kernel_rfl) rfl (fun K hK=>?_)
    refine Cz (.tmp 18) (.tmp 21) 76 rfl rfl rfl HRUN.out ?_
    refine hK.out _ _ (s1) (fun hHeld=>?_)
    clear hK K
    try simp only [Act.put,List.setIfInBounds_toArray,List.set_cons_zero,List.set_cons_succ]
    refine Aa 9 hHeld ?_
    refine Aa 10 hHeld ?_
    refine Ai (i:=11) rfl (by kernel_rfl) rfl (fun K hK=>?_)
    go_simp
    refine hK.out _ _ (s2) (fun hHeld=>?_)
    clear hK K
    try simp only [Act.put,List.setIfInBounds_toArray,List.set_cons_zero,List.set_cons_succ]
    refine wpAnyH_done (by kernel_rfl) ?_ _
    clear hHeld
    go_wp2_with fail
    go_meet
    exact ⟨rfl,H2.out⟩
   ·go_simp
    refine hK.out _ _ (sA) (fun hHeld=>?_)
    clear hK K
    try simp only [Act.put,List.setIfInBounds_toArray,List.set_cons_zero,List.set_cons_succ]
    refine Ai (i:=4) rfl (by kernel_rfl) rfl (fun K hK=>?_)
    go_simp
    refine hK.out _ _ (sA) (fun hHeld=>?_)
    clear hK K
    try simp only [Act.put,List.setIfInBounds_toArray,List.set_cons_zero,List.set_cons_succ]
    refine Ai (i:=8) rfl (by kernel_rfl) rfl (fun K hK=>?_)
    refine Cz (.tmp 18) (.tmp 21) 76 rfl rfl rfl HRUN.out ?_
    refine hK.out _ _ (s1) (fun hHeld=>?_)
    clear hK K
    try simp only [Act.put,List.setIfInBounds_toArray,List.set_cons_zero,List.set_cons_succ]
    refine Aa 9 hHeld ?_
    refine Aa 10 hHeld ?_
    refine Ai (i:=11) rfl (by kernel_rfl) rfl (fun K hK=>?_)
    go_simp
    refine hK.out _ _ (s2) (fun hHeld=>?_)
    clear hK K
    try simp only [Act.put,List.setIfInBounds_toArray,List.set_cons_zero,List.set_cons_succ]
    refine wpAnyH_done (by kernel_rfl) ?_ _
    clear hHeld
    go_wp2_with fail
    go_meet
    exact ⟨rfl,H2.out⟩
  case rest=>
   obtain ⟨rfl,hR2,hM2,hq2⟩:=hcut
   obtain ⟨w2,rfl⟩ : ∃ w2,w2=wc:=⟨wc,rfl⟩
   clear g0 gA g1 f1 s0 sA s1 s2 HRUN H2
   have H2:=Ac (And.intro hR2 (And.intro hM2 hq2))
   have hl2 : Ls w2.heap.size w2 2 Ak vo objs:=by obtain ⟨-,hl,-⟩:=id hR2; exact hl.up hR2.le
   have hso:=Ji hob
   obtain ⟨-,-,vb,hh2,-,-⟩:=id hR2
   have d0:=cell_of_row w2 g 0 _ _ _ hh2
   have p0:=cell_of_row w2 w.heap.size 0 _ _ _ hq2
   have p1:=cell_of_row w2 w.heap.size 1 _ _ _ hq2
   have p2:=cell_of_row w2 w.heap.size 2 _ _ _ hq2
   simp only [List.getElem?_toArray,List.getElem?_cons_zero,List.getElem?_cons_succ] at d0 p0 p1 p2
   have hgk : ∀ W : World,Below w2.heap.size w2 W→W.cell? ⟨g,0,none⟩=some vo∧W.cell? ⟨w.heap.size,0,none⟩=some (.string (Ab k.1))∧W.cell? ⟨w.heap.size,1,none⟩=some (.string (Ab k.2.1))∧W.cell? ⟨w.heap.size,2,none⟩=some (.int .i64 k.2.2):=fun W hW=>
    ⟨(hW.cell (p:=⟨g,0,none⟩) (Ad hh2)).trans d0,(hW.cell (p:=⟨w.heap.size,0,none⟩) (Ad hq2)).trans p0,(hW.cell (p:=⟨w.heap.size,1,none⟩) (Ad hq2)).trans p1,(hW.cell (p:=⟨w.heap.size,2,none⟩) (Ad hq2)).trans p2⟩
   have hnd:=fun W (hW : Below w2.heap.size w2 W)=>node_any W vo objs ((hl2.keep hW).up hW.size) hob k hk level (by omega) hl20
   have hsz2 : w.heap.size≤w2.heap.size:=hM2.size
   have HG:=Ac hgk
   have HND:=Ac hnd
   have HSO:=Ac hso
   clear hgk hnd hl2 hso hR2 hM2 hq2 hh2
   obtain ⟨a,ha⟩ : ∃ a,a=Ao (Aj objs) k level:=⟨_,rfl⟩
   have HAK:=Ac ha
   rw [← ha] at HND
   clear ha
   go_upto_region 2 with fail
   go_cut [10,11] from 25 to 34 (fun t10 t11 wx=>∃ (qb : Nat) (vnp vnk : Value),t10 = .pointer (some ⟨qb,0,none⟩)∧t11 = .int .i64 a.1∧w2.heap.size≤qb∧Below w2.heap.size w2 wx∧wx.heap[qb]? = some (.cells #[vnp, .int .i64 a.2.1,vnk] 131)∧Rw w2.heap.size wx 135 2 Ak vnp a.2.2.1∧Rw w2.heap.size wx 125 3 Au vnk a.2.2.2)
   case first=>
    refine wp_region_held_drew (S:=fun W=>W.cell? ⟨g,0,none⟩=some vo∧W.cell? ⟨w.heap.size,0,none⟩=some (.string (Ab k.1))∧W.cell? ⟨w.heap.size,1,none⟩=some (.string (Ab k.2.1))∧W.cell? ⟨w.heap.size,2,none⟩=some (.int .i64 k.2.2)) (by kernel_rfl) (⟨d0,p0,p1,p2⟩) (fun hHeld=>?_)
    refine Aa 0 hHeld ?_
    refine Aa 1 hHeld ?_
    refine Aa 2 hHeld ?_
    refine Aa 3 hHeld ?_
    refine Aa 4 hHeld ?_
    refine Aa 5 hHeld ?_
    clear d0 p0 p1 p2
    refine twoH (i:=6) (j:=10) rfl rfl (by kernel_rfl) rfl rfl (fun K hK=>?_) (fun K hK=>?_)
    ·go_simp
     refine (HND.out w2.drew (Below.refl _ _).drew).mono ?_
     rintro e w3 ⟨⟨vnp,vnk,rfl,hnp,hnk⟩,hb3⟩
     have hb23 : Below w2.heap.size w2 w3:=(Below.refl w2.heap.size w2).drew.trans hb3
     refine hK.out _ _ (HG.out w3 hb23) (fun hHeld=>?_)
     clear hK K
     try simp only [Act.put,List.setIfInBounds_toArray,List.set_cons_zero,List.set_cons_succ]
     refine Aa 7 hHeld ?_
     refine Aa 8 hHeld ?_
     refine Aa 9 hHeld ?_
     refine Ai (i:=10) rfl (by kernel_rfl) rfl (fun K hK=>?_)
     go_simp
     have hbz : Below w3.heap.size w3 (w3.alloc (.cells #[.slice none 0 0, .int .i64 0, .slice none 0 0] 131)):=(Below.refl _ _).alloc (Nat.le_refl _) _
     have hzz:=heap_last w3 (.cells #[.slice none 0 0, .int .i64 0, .slice none 0 0] 131) _ rfl
     generalize hwz : w3.alloc (.cells #[.slice none 0 0, .int .i64 0, .slice none 0 0] 131)=wz at *
     have hb2z : Below w2.heap.size w2 wz:=hb23.trans (hbz.mono hb23.size)
     refine hK.out _ _ (HG.out wz hb2z) (fun hHeld=>?_)
     clear hK K
     try simp only [Act.put,List.setIfInBounds_toArray,List.set_cons_zero,List.set_cons_succ]
     have hnp':=A0 (Fv hnp (show w2.heap.size≤w2.drew.heap.size from Nat.le_refl _)) hbz
     have hnk':=A0 (Fv hnk (show w2.heap.size≤w2.drew.heap.size from Nat.le_refl _)) hbz
     have hql : w2.heap.size≤w3.heap.size:=hb23.size
     generalize w3.heap.size=qb at *
     clear hb3 hb23 hbz hnp hnk hwz
     obtain ⟨npa,npm,npc,rfl⟩:=Av hnp'
     obtain ⟨nka,nkm,nkc,rfl⟩:=Av hnk'
     have z0:=cell_of_row wz qb 0 _ _ _ hzz
     have z1:=cell_of_row wz qb 1 _ _ _ hzz
     have z2:=cell_of_row wz qb 2 _ _ _ hzz
     simp only [List.getElem?_toArray,List.getElem?_cons_zero,List.getElem?_cons_succ] at z0 z1 z2
     have e0:=Af (j:=0) hzz
     have e1:=Af (j:=1) hzz
     have e2:=Af (j:=2) hzz
     have hb2w : Below w2.heap.size w2 (((wz.setCell ⟨qb,0,none⟩ (.slice npa npm npc)).setCell ⟨qb,1,none⟩ (.int .i64 a.2.1)).setCell ⟨qb,2,none⟩ (.slice nka nkm nkc)):=((hb2z.setCell (p:=⟨qb,0,none⟩) hql _).setCell (p:=⟨qb,1,none⟩) hql _).setCell (p:=⟨qb,2,none⟩) hql _
     refine Ai (i:=11) rfl (by kernel_rfl) rfl (fun K hK=>?_)
     go_simp
     refine hK.out _ _ (HG.out _ hb2w) (fun hHeld=>?_)
     clear hK K
     try simp only [Act.put,List.setIfInBounds_toArray,List.set_cons_zero,List.set_cons_succ]
     refine Aa 12 hHeld ?_
     refine wpAnyH_done (by kernel_rfl) ?_ _
     clear hHeld z0 z1 z2 e0 e1 e2
     go_wp2_with fail
     go_meet
     exact ⟨qb,_,_,rfl,rfl,hql,hb2w,Bm hzz,Ap (Ap (Ap hnp' hzz (by decide) _) (An hzz) (by decide) _) (Az (An hzz)) (by decide) _,Ap (Ap (Ap hnk' hzz (by decide) _) (An hzz) (by decide) _) (Az (An hzz)) (by decide) _⟩
    ·go_simp
     have hbz : Below w2.heap.size w2 (w2.alloc (.cells #[.slice none 0 0, .int .i64 0, .slice none 0 0] 131)).drew:=((Below.refl _ _).alloc (Nat.le_refl _) _).drew
     have hzz0 : (w2.alloc (.cells #[.slice none 0 0, .int .i64 0, .slice none 0 0] 131)).drew.heap[w2.heap.size]? = some (.cells #[.slice none 0 0, .int .i64 0, .slice none 0 0] 131):=heap_last w2 _ _ rfl
     generalize hwy : (w2.alloc (.cells #[.slice none 0 0, .int .i64 0, .slice none 0 0] 131)).drew=wy at *
     refine hK.out _ _ (HG.out wy hbz) (fun hHeld=>?_)
     clear hK K
     try simp only [Act.put,List.setIfInBounds_toArray,List.set_cons_zero,List.set_cons_succ]
     refine Ai (i:=6) rfl (by kernel_rfl) rfl (fun K hK=>?_)
     go_simp
     refine (HND.out wy hbz).mono ?_
     rintro e wz ⟨⟨vnp,vnk,rfl,hnp,hnk⟩,hb3⟩
     have hb2z : Below w2.heap.size w2 wz:=hbz.trans (hb3.mono hbz.size)
     have hzz:=(hb3.block _ (Ad hzz0)).trans hzz0
     refine hK.out _ _ (HG.out wz hb2z) (fun hHeld=>?_)
     clear hK K
     try simp only [Act.put,List.setIfInBounds_toArray,List.set_cons_zero,List.set_cons_succ]
     refine Aa 7 hHeld ?_
     refine Aa 8 hHeld ?_
     refine Aa 9 hHeld ?_
     have hnp':=Fv hnp hbz.size
     have hnk':=Fv hnk hbz.size
     obtain ⟨qb,hqb⟩ : ∃ qb,qb=w2.heap.size:=⟨_,rfl⟩
     rw [← hqb] at hzz
     (try rw [← hqb])
     have hql : w2.heap.size≤qb:=by omega
     clear hb3 hbz hnp hnk hwy hzz0 hqb
     obtain ⟨npa,npm,npc,rfl⟩:=Av hnp'
     obtain ⟨nka,nkm,nkc,rfl⟩:=Av hnk'
     have z0:=cell_of_row wz qb 0 _ _ _ hzz
     have z1:=cell_of_row wz qb 1 _ _ _ hzz
     have z2:=cell_of_row wz qb 2 _ _ _ hzz
     simp only [List.getElem?_toArray,List.getElem?_cons_zero,List.getElem?_cons_succ] at z0 z1 z2
     have e0:=Af (j:=0) hzz
     have e1:=Af (j:=1) hzz
     have e2:=Af (j:=2) hzz
     have hb2w : Below w2.heap.size w2 (((wz.setCell ⟨qb,0,none⟩ (.slice npa npm npc)).setCell ⟨qb,1,none⟩ (.int .i64 a.2.1)).setCell ⟨qb,2,none⟩ (.slice nka nkm nkc)):=((hb2z.setCell (p:=⟨qb,0,none⟩) hql _).setCell (p:=⟨qb,1,none⟩) hql _).setCell (p:=⟨qb,2,none⟩) hql _
     refine Ai (i:=11) rfl (by kernel_rfl) rfl (fun K hK=>?_)
     go_simp
     refine hK.out _ _ (HG.out _ hb2w) (fun hHeld=>?_)
     clear hK K
     try simp only [Act.put,List.setIfInBounds_toArray,List.set_cons_zero,List.set_cons_succ]
     refine Aa 12 hHeld ?_
     refine wpAnyH_done (by kernel_rfl) ?_ _
     clear hHeld z0 z1 z2 e0 e1 e2
     go_wp2_with fail
     go_meet
     exact ⟨qb,_,_,rfl,rfl,hql,hb2w,Bm hzz,Ap (Ap (Ap hnp' hzz (by decide) _) (An hzz) (by decide) _) (Az (An hzz)) (by decide) _,Ap (Ap (Ap hnk' hzz (by decide) _) (An hzz) (by decide) _) (Az (An hzz)) (by decide) _⟩
   case rest=>
    obtain ⟨qb,vnp,vnk,rfl,rfl,hql,hb2w,hq5,hnp5,hnk5⟩:=hcut
    obtain ⟨w5,rfl⟩ : ∃ w5,w5=wc:=⟨wc,rfl⟩
    obtain ⟨npa,npm,npc,rfl⟩:=Av hnp5
    obtain ⟨nka,nkm,nkc,rfl⟩:=Av hnk5
    clear d0 p0 p1 p2
    have hR5:=H2.out.1.below hb2w
    have hM5 : Mv B lts vp.ownBlock w w5:=H2.out.2.1.more hb2w H2.out.1.le
    have H5:=Ac (And.intro hR5 (And.intro hM5 (And.intro hq5 (And.intro hnp5 hnk5))))
    have HQL:=Ac (And.intro hql hsz2)
    obtain ⟨-,-,vb5,hh5,-,-⟩:=id hR5
    have c3:=cell_of_row w5 g 3 _ _ _ hh5
    simp only [List.getElem?_toArray,List.getElem?_cons_zero,List.getElem?_cons_succ] at c3
    have f3:=Af (j:=3) hh5
    clear hb2w hq5 hnp5 hnk5 hR5 hM5 hh5 hql hsz2 HND HG
    by_cases hz : a.1=0
    rotate_left
    ·have hne : (a.1 != 0)=true:=by simpa using hz
     have hgo:=goM_bad (fd:=Aj objs) (lo:=lo) (hi:=hi) (d:=d) (k:=k) (level:=level) (s:=s) (by rw [← HAK.out]; exact hz)
     rw [← HAK.out] at hgo
     have HGO:=Ac (HA.out.trans hgo)
     have HE:=Ac (H5.out.1.err a.1)
     clear hgo hz
     go_wp2
     first | go_end0 | refine bodyPost_ret (results_none rfl _ _ _) rfl ?_
     refine ⟨rfl,vp,?_,H5.out.2.1.trans HE.out.2.none (Nx.refl _ _),Nx.refl _ _⟩
     rw [HGO.out]
     exact HE.out.1
    ·have hne : (a.1 != 0)=false:=by rw [hz]; rfl
     have hgo:=goM_ok (fd:=Aj objs) (lo:=lo) (hi:=hi) (d:=d) (k:=k) (level:=level) (s:=s) (by rw [← HAK.out]; exact hz)
     have hcl:=count_le (fd:=Aj objs) HSO.out (k:=k) (level:=level) (by rw [← HAK.out]; exact hz)
     obtain ⟨hRt,hFt⟩:=Eg (fd:=Aj objs) (k:=k) (level:=level) HSO.out (by rw [← HAK.out]; exact hz)
     rw [← HAK.out] at hgo hcl hRt hFt
     have HGO:=Ac (HA.out.trans hgo)
     have HRT:=Ac (And.intro hRt (And.intro hFt hcl))
     clear hgo hcl hRt hFt hz c3 f3
     obtain ⟨ps,hps⟩ : ∃ ps,a.2.2.1=ps:=⟨_,rfl⟩
     obtain ⟨ks,hks⟩ : ∃ ks,a.2.2.2=ks:=⟨_,rfl⟩
     obtain ⟨nl,hnl⟩ : ∃ nl,a.2.1=nl:=⟨_,rfl⟩
     rw [hps,hks,hnl] at HGO
     rw [hps,hks] at HRT
     rw [hps,hks,hnl] at H5
     try rw [hnl]
     have HPK:=Ac (And.intro hps (And.intro hks hnl))
     have hpl : npm=ps.length:=by
      obtain ⟨a',c',e,-⟩:=Bj H5.out.2.2.2.1
      injection e
     have hkl : nkm=ks.length:=by
      obtain ⟨a',c',e,-⟩:=Bj H5.out.2.2.2.2
      injection e
     have hap0 : (Value.slice npa npm npc).ownBlock=none∨(Value.slice npa npm npc).ownBlock≠vp.ownBlock:=own_apart H5.out.2.2.2.1 (fun q hq=>by have:=HS.out.2.1 q hq; have:=HQL.out.2; omega)
     have hl64:=HRT.out.1.links
     rw [hps,hks] at hl64
     have hp64 : npm≤64:=by rw [hpl]; exact hl64.1
     have hk64 : nkm≤64:=by rw [hkl]; exact hl64.2.2.2
     have HLN:=Ac (And.intro hpl (And.intro hkl (And.intro hl64 hap0)))
     have hthi:=toL hi
     have hth0 : (⟨#[]⟩ : ByteArray).toList=([] : Bs):=toL []
     clear hps hks hnl hpl hkl hap0 hl64
     go_wp2_with fail
     go_loopw [12] (fun t wr=>∃ (i : Nat) (ts : LsS) (vpt : Value),i≤npm∧t = .int .i64 i∧Ct lo hi ps ⟨s.asked ++ [k.2.1],s.out,s.bad⟩=Ct lo hi (ps.drop i) ts∧ts.bad=0∧RlW B wr g vo objs vpt ts∧Mv B lts vp.ownBlock w wr∧Nx w vp.ownBlock vpt.ownBlock∧ts.asked.length=s.asked.length+1∧ts.out.length≤s.out.length+i∧wr.heap[qb]? = some (.cells #[.slice npa npm npc, .int .i64 nl, .slice nka nkm nkc] 131)∧Rw w2.heap.size wr 135 2 Ak (.slice npa npm npc) ps∧Rw w2.heap.size wr 125 3 Au (.slice nka nkm nkc) ks∧((Value.slice npa npm npc).ownBlock=none∨(Value.slice npa npm npc).ownBlock≠vpt.ownBlock))
      (fun t _=>npm - (intOf t).toNat)
     case atStart=>exact ⟨0,_,vp,by omega,rfl,rfl,HS.out.1,H5.out.1,H5.out.2.1,Nx.refl _ _,by simp,by simp,H5.out.2.2.1,H5.out.2.2.2.1,H5.out.2.2.2.2,HLN.out.2.2.2⟩
     case round=>
      obtain ⟨i,ts,vpt,hin,rfl,htk,htb,hRr,hMr,hNr,hta,hto,hqr,hpr,hkr,hapr⟩:=hrel
      have y0q:=cell_of_row wr qb 0 _ _ _ hqr
      simp only [List.getElem?_toArray,List.getElem?_cons_zero] at y0q
      have htot:=HRT.out.2.2
      by_cases hlt : i<npm
      ·have hlt2 : i<ps.length:=by have:=HLN.out.1; omega
       have hcons : ps.drop i=ps[i] :: ps.drop (i+1):=List.drop_eq_getElem_cons hlt2
       rw [hcons] at htk
       have hkz : ks = []:=by
        by_cases hz : nl=0
        ·have:=(HRT.out.1.leaf (by rw [HPK.out.2.2]; exact hz)).1
         rwa [HPK.out.2.1] at this
        ·have h1:=HRT.out.1.lo
         have h2:=(HRT.out.1.branch (by have:=HPK.out.2.2; omega)).1
         rw [HPK.out.1] at h2
         rw [h2] at hlt2
         simp at hlt2
       have hlsp:=Bi Dr hpr
       obtain ⟨pa',pc',he1,hpc1,-,hcc⟩:=hlsp
       obtain ⟨pb,poff,rfl,hpbl,hcel⟩:=hcc (by rintro rfl; simp at hlt2)
       injection he1 with he1 he2 he3
       subst he1 he3
       have x0:=hcel i hlt2 0 _ rfl
       have x1:=hcel i hlt2 1 _ rfl
       simp only [Nat.add_zero] at x0
       have hxi : ps[i]? = some ps[i]:=List.getElem?_eq_getElem hlt2
       have HX:=Ac hxi
       clear hxi
       generalize ps[i]=x at *
       have hge:=Ex 9 x.1 lo
       have hls:=lss_str 9 x.1 hi
       have hxt:=toL x.1
       have HR:=Ac (And.intro htk (And.intro htb (And.intro hRr (And.intro hMr (And.intro hNr (And.intro hta (And.intro hto (And.intro hqr (And.intro hpr (And.intro hkr hapr))))))))))
       have HKZ:=Ac hkz
       clear hcons hcc hcel he2 htk htb hRr hMr hNr hta hto hqr hpr hkr hapr hkz
       by_cases c1 : ltB x.1 lo=true
       ·have hno : inM lo hi x.1=false:=by unfold inM; rw [c1]; rfl
        have htk2:=HR.out.1.trans (L3 hno)
        have HT:=Ac htk2
        rw [c1] at hge
        clear htk2 hno c1
        go_wp2
        go_roundw
        case rel=>exact ⟨i+1,ts,vpt,by omega,by go_num,HT.out,HR.out.2.1,HR.out.2.2.1,HR.out.2.2.2.1,HR.out.2.2.2.2.1,HR.out.2.2.2.2.2.1,by have:=HR.out.2.2.2.2.2.2.1; omega,HR.out.2.2.2.2.2.2.2.1,HR.out.2.2.2.2.2.2.2.2.1,HR.out.2.2.2.2.2.2.2.2.2.1,HR.out.2.2.2.2.2.2.2.2.2.2⟩
        case measure=>simp [intOf]; omega
       ·have c1 : ltB x.1 lo=false:=by simpa using c1
        rw [c1] at hge
        by_cases c2 : hi.isEmpty=false∧ltB x.1 hi=false
        ·have hno : inM lo hi x.1=false:=by unfold inM; rw [c1,c2.1,c2.2]; rfl
         have htk2:=HR.out.1.trans (L3 hno)
         have HT:=Ac htk2
         have hhe : (hi == [])=false:=by
          have:=c2.1
          cases hi with
          | nil=>simp at this
          | cons a l=>rfl
         rw [c2.2] at hls
         clear htk2 hno c1 c2
         go_wp2
         go_roundw
         case rel=>exact ⟨i+1,ts,vpt,by omega,by go_num,HT.out,HR.out.2.1,HR.out.2.2.1,HR.out.2.2.2.1,HR.out.2.2.2.2.1,HR.out.2.2.2.2.2.1,by have:=HR.out.2.2.2.2.2.2.1; omega,HR.out.2.2.2.2.2.2.2.1,HR.out.2.2.2.2.2.2.2.2.1,HR.out.2.2.2.2.2.2.2.2.2.1,HR.out.2.2.2.2.2.2.2.2.2.2⟩
         case measure=>simp [intOf]; omega
        ·have hyes : inM lo hi x.1=true:=by
          unfold inM
          rw [c1]
          cases he : hi.isEmpty with
          | true=>rfl
          | false=>
           have : ltB x.1 hi=true:=by
            cases hq : ltB x.1 hi with
            | true=>rfl
            | false=>exact absurd ⟨he,hq⟩ c2
           rw [this]; rfl
         have hway : (hi == [])=true∨((hi == [])=false∧ltB x.1 hi=true):=by
          cases hi with
          | nil=>exact .inl rfl
          | cons q l=>
           refine .inr ⟨rfl,?_⟩
           cases hq : ltB x.1 (q :: l) with
           | true=>rfl
           | false=>exact absurd ⟨rfl,hq⟩ c2
         have HY:=Ac hyes
         clear hyes c1 c2
         -- what was told last
         obtain ⟨-,-,vbr,hhr,-,hor⟩:=id HR.out.2.2.1
         obtain ⟨oa,oc,hov,ho1,-⟩:=Bj hor
         obtain ⟨om,hom⟩ : ∃ om,om=ts.out.length:=⟨_,rfl⟩
         rw [← hom] at hov ho1
         subst hov
         have g2:=cell_of_row wr g 2 _ _ _ hhr
         have g3:=cell_of_row wr g 3 _ _ _ hhr
         simp only [List.getElem?_toArray,List.getElem?_cons_zero,List.getElem?_cons_succ] at g2 g3
         have HOM:=Ac hom
         have hom9 : om≤4294967296:=by have:=HR.out.2.2.2.2.2.2.1; have:=HLN.out.1; omega
         clear hhr hom
         rcases hway with hhe | ⟨hhe,hlh⟩
         all_goals
          (try rw [hlh] at hls)
          (try clear hlh)
          by_cases hz0 : om=0
          ·have hbk : Ey ts x.1=false:=by
            unfold Ey
            have : ts.out = []:=List.length_eq_zero_iff.1 (by rw [← HOM.out]; exact hz0)
            rw [this]; rfl
           have HT:=Ac (HR.out.1.trans (L5 HY.out hbk))
           have p4 : decide ((0 : Int)<(om : Int))=false:=decide_eq_false (by omega)
           have p5 : decide (0<om)=false:=decide_eq_false (by omega)
           clear hbk hor
           go_wp2_with fail
           refine wp_region_held_drew (S:=fun W=>W.cell? ⟨g,2,none⟩=some (.slice oa om oc)) (by kernel_rfl) (g2) (fun hHeld=>?_)
           refine Aa 0 hHeld ?_
           refine Aa 1 hHeld ?_
           refine Aa 2 hHeld ?_
           refine Aa 3 hHeld ?_
           refine Aa 4 hHeld ?_
           refine Aa 5 hHeld ?_
           refine Aa 6 hHeld ?_
           refine Ae 7 hHeld ?_
           refine Ae 8 hHeld ?_
           refine Ae 9 hHeld ?_
           refine Ae 10 hHeld ?_
           refine Ae 11 hHeld ?_
           refine Ae 12 hHeld ?_
           refine Ae 13 hHeld ?_
           refine Ae 14 hHeld ?_
           refine Ae 15 hHeld ?_
           refine Ae 16 hHeld ?_
           refine Ae 17 hHeld ?_
           refine Ae 18 hHeld ?_
           refine Ae 19 hHeld ?_
           refine Ae 20 hHeld ?_
           refine Ae 21 hHeld ?_
           refine Ae 22 hHeld ?_
           refine Ae 23 hHeld ?_
           refine Ae 24 hHeld ?_
           refine Ae 25 hHeld ?_
           refine Ae 26 hHeld ?_
           refine Aa 27 hHeld ?_
           refine wpAnyH_done (by kernel_rfl) ?_ _
           clear hHeld hz0
           have hRd : RlW B wr.drew g vo objs (.slice oa om oc) ts:=HR.out.2.2.1
           have hqd : wr.drew.heap[qb]? = some (.cells #[.slice (some ⟨pb,poff,none⟩) npm npc, .int .i64 nl, .slice nka nkm nkc] 131):=HR.out.2.2.2.2.2.2.2.1
           have hpd : wr.drew.ownsRow w2.heap.size 135 2 (.slice (some ⟨pb,poff,none⟩) npm npc) ps.length (ps.flatMap Ak):=HR.out.2.2.2.2.2.2.2.2.1
           have hkd : wr.drew.ownsRow w2.heap.size 125 3 (.slice nka nkm nkc) ks.length (ks.flatMap Au):=HR.out.2.2.2.2.2.2.2.2.2.1
           have hMd : Mv B lts vp.ownBlock w wr.drew:=HR.out.2.2.2.1.drew
           clear y0q x0 x1 g2 g3
           generalize wr.drew=wd at *
           obtain ⟨va2,vp2,w6,hh6,⟨b6a,b6m,b6c,rfl⟩,hrun6,hh6',hR6,hM6,hM7,hN7⟩:=hRd.tell x (by rw [← HOM.out]; exact hom9)
           obtain ⟨-,-,vbd,-,-,hrd3⟩:=id hRd
           have hqne : some qb≠(Value.slice oa om oc).ownBlock:=by
            intro e
            obtain ⟨c',fz,h1⟩:=Lib.ownsRow_kind hrd3 qb e.symm
            rw [hqd] at h1
            injection h1 with h1
            injection h1 with _ h1
            exact absurd h1 (by decide)
           have hqA:=(heap_past wd (.cells #[.string (Ab x.1), .string (Ab x.2)] 135) _ (Ad hqd)).trans hqd
           have hpA:=World.ownsRow.alloc hpd (.cells #[.string (Ab x.1), .string (Ab x.2)] 135)
           have hhA:=(heap_past wd (.cells #[.string (Ab x.1), .string (Ab x.2)] 135) _ (Ad hh6)).trans hh6
           have hq6:=hM6.k _ _ _ _ hqd (by decide) hqne
           have hq7:=hM7.k _ _ _ _ hqd (by decide) hqne
           have hp6:=hM6.own hpd (by decide) HR.out.2.2.2.2.2.2.2.2.2.2
           have hp7:=hM7.own hpd (by decide) HR.out.2.2.2.2.2.2.2.2.2.2
           have hk7:=hM7.own hkd (by decide) (F0 hkd hrd3 (by decide))
           have hap7 : (Value.slice (some ⟨pb,poff,none⟩) npm npc).ownBlock=none∨(Value.slice (some ⟨pb,poff,none⟩) npm npc).ownBlock≠(Value.slice b6a b6m b6c).ownBlock:=by
            rcases hN7 with e | ⟨q,e,hq⟩
            ·rw [e]; exact HR.out.2.2.2.2.2.2.2.2.2.2
            ·cases hv : (Value.slice (some ⟨pb,poff,none⟩) npm npc).ownBlock with
             | none=>exact .inl rfl
             | some z=>
              refine .inr fun h=>?_
              rw [e] at h
              injection h with h
              have:=(World.ownsRow.lt hpd z hv).2
              omega
           have rowc : ∀ W : World,W.heap[qb]? = some (.cells #[.slice (some ⟨pb,poff,none⟩) npm npc, .int .i64 nl, .slice nka nkm nkc] 131)→W.ownsRow w2.heap.size 135 2 (.slice (some ⟨pb,poff,none⟩) npm npc) ps.length (ps.flatMap Ak)→W.cell? ⟨qb,0,none⟩=some (.slice (some ⟨pb,poff,none⟩) npm npc)∧W.cell? ⟨pb,poff+i * 2,none⟩=some (.string (Ab x.1))∧W.cell? ⟨pb,poff+i * 2+1,none⟩=some (.string (Ab x.2)):=fun W h1 h2=>by
            have q0:=cell_of_row W qb 0 _ _ _ h1
            simp only [List.getElem?_toArray,List.getElem?_cons_zero] at q0
            have hxx : ps[i]=x:=by
             have:=HX.out
             rw [List.getElem?_eq_getElem hlt2] at this
             exact Option.some.inj this
            obtain ⟨a',c',e,-,-,hc⟩:=Bi Dr h2
            obtain ⟨b',o',rfl,-,hcel⟩:=hc (by rintro rfl; simp at hlt2)
            injection e with e
            injection e with e
            injection e with e1 e2 e3
            subst e1 e2
            have r0:=hcel i hlt2 0 _ rfl
            have r1:=hcel i hlt2 1 _ rfl
            rw [hxx] at r0 r1
            simp only [Nat.add_zero] at r0
            exact ⟨q0,r0,r1⟩
           have X0:=Ac (rowc wd hqd hpd)
           have XA:=Ac (rowc _ hqA hpA)
           have X6:=Ac (rowc w6 hq6 hp6)
           have X7:=Ac (rowc _ hq7 hp7)
           have g2:=cell_of_row wd g 2 _ _ _ hh6
           have gA:=cell_of_row _ g 2 _ _ _ hhA
           have g6:=cell_of_row w6 g 2 _ _ _ hh6'
           simp only [List.getElem?_toArray,List.getElem?_cons_zero,List.getElem?_cons_succ] at g2 gA g6
           have f6:=Af (j:=2) hh6'
           have RUN:=Ac hrun6
           have H7:=Ac (And.intro hR6 (And.intro (hMd.trans hM7 HR.out.2.2.2.2.1) (And.intro (HR.out.2.2.2.2.1.trans hN7 hMd.size) (And.intro hq7 (And.intro hp7 (And.intro hk7 hap7))))))
           have hlt3:=hlt2
           clear rowc hqne hqA hpA hhA hq6 hq7 hp6 hp7 hk7 hap7 hh6 hh6' hrun6 hR6 hM6 hM7 hN7 hRd hqd hpd hkd hMd hrd3 hlt3
           go_wp2_with fail
           refine wp_region_held_drew (S:=fun W=>W.cell? ⟨qb,0,none⟩=some (.slice (some ⟨pb,poff,none⟩) npm npc)∧W.cell? ⟨pb,poff+i * 2,none⟩=some (.string (Ab x.1))∧W.cell? ⟨pb,poff+i * 2+1,none⟩=some (.string (Ab x.2))) (by kernel_rfl) (X0.out) (fun hHeld=>?_)
           refine Aa 0 hHeld ?_
           refine Aa 1 hHeld ?_
           refine Aa 2 hHeld ?_
           refine Aa 3 hHeld ?_
           refine Aa 5 hHeld ?_
           refine Aa 6 hHeld ?_
           refine Aa 7 hHeld ?_
           refine Aa 8 hHeld ?_
           refine Aa 9 hHeld ?_
           refine twoH (i:=4) (j:=10) rfl rfl (by kernel_rfl) rfl rfl (fun K hK=>?_) (fun K hK=>?_)
           ·go_simp
            refine hK.out _ _ (X0.out) (fun hHeld=>?_)
            clear hK K
            try simp only [Act.put,List.setIfInBounds_toArray,List.set_cons_zero,List.set_cons_succ]
            refine Ai (i:=10) rfl (by kernel_rfl) rfl (fun K hK=>?_)
            go_simp
            refine hK.out _ _ (XA.out) (fun hHeld=>?_)
            clear hK K
            try simp only [Act.put,List.setIfInBounds_toArray,List.set_cons_zero,List.set_cons_succ]
            refine Ai (i:=11) rfl (by kernel_rfl) rfl (fun K hK=>?_)
            refine Cz (.tmp 105) (.tmp 111) 126 rfl rfl rfl RUN.out ?_
            refine hK.out _ _ (X6.out) (fun hHeld=>?_)
            clear hK K
            try simp only [Act.put,List.setIfInBounds_toArray,List.set_cons_zero,List.set_cons_succ]
            refine Aa 12 hHeld ?_
            refine Aa 13 hHeld ?_
            refine Ai (i:=14) rfl (by kernel_rfl) rfl (fun K hK=>?_)
            go_simp
            refine hK.out _ _ (X7.out) (fun hHeld=>?_)
            clear hK K
            try simp only [Act.put,List.setIfInBounds_toArray,List.set_cons_zero,List.set_cons_succ]
            refine wpAnyH_done (by kernel_rfl) ?_ _
            clear hHeld
            go_wp2
            go_roundw
            case rel=>exact ⟨i+1,⟨ts.asked,ts.out ++ [x],ts.bad⟩,_,by omega,by go_num,HT.out,HR.out.2.1,H7.out.1,H7.out.2.1,H7.out.2.2.1,HR.out.2.2.2.2.2.1,by have:=HR.out.2.2.2.2.2.2.1; simp only [List.length_append,List.length_singleton]; omega,H7.out.2.2.2.1,H7.out.2.2.2.2.1,H7.out.2.2.2.2.2.1,H7.out.2.2.2.2.2.2⟩
            case measure=>simp [intOf]; omega
           ·go_simp
            refine hK.out _ _ (XA.out) (fun hHeld=>?_)
            clear hK K
            try simp only [Act.put,List.setIfInBounds_toArray,List.set_cons_zero,List.set_cons_succ]
            refine Ai (i:=4) rfl (by kernel_rfl) rfl (fun K hK=>?_)
            go_simp
            refine hK.out _ _ (XA.out) (fun hHeld=>?_)
            clear hK K
            try simp only [Act.put,List.setIfInBounds_toArray,List.set_cons_zero,List.set_cons_succ]
            refine Ai (i:=11) rfl (by kernel_rfl) rfl (fun K hK=>?_)
            refine Cz (.tmp 105) (.tmp 111) 126 rfl rfl rfl RUN.out ?_
            refine hK.out _ _ (X6.out) (fun hHeld=>?_)
            clear hK K
            try simp only [Act.put,List.setIfInBounds_toArray,List.set_cons_zero,List.set_cons_succ]
            refine Aa 12 hHeld ?_
            refine Aa 13 hHeld ?_
            refine Ai (i:=14) rfl (by kernel_rfl) rfl (fun K hK=>?_)
            go_simp
            refine hK.out _ _ (X7.out) (fun hHeld=>?_)
            clear hK K
            try simp only [Act.put,List.setIfInBounds_toArray,List.set_cons_zero,List.set_cons_succ]
            refine wpAnyH_done (by kernel_rfl) ?_ _
            clear hHeld
            go_wp2
            go_roundw
            case rel=>exact ⟨i+1,⟨ts.asked,ts.out ++ [x],ts.bad⟩,_,by omega,by go_num,HT.out,HR.out.2.1,H7.out.1,H7.out.2.1,H7.out.2.2.1,HR.out.2.2.2.2.2.1,by have:=HR.out.2.2.2.2.2.2.1; simp only [List.length_append,List.length_singleton]; omega,H7.out.2.2.2.1,H7.out.2.2.2.2.1,H7.out.2.2.2.2.2.1,H7.out.2.2.2.2.2.2⟩
            case measure=>simp [intOf]; omega
          ·have hlso:=Bi Dr hor
           obtain ⟨oa',oc',he1,-,-,hcc⟩:=hlso
           have hol : om - 1<ts.out.length:=by have:=HOM.out; omega
           obtain ⟨ob,ooff,rfl,hobl,hoc⟩:=hcc (by intro e; rw [e] at hol; simp at hol)
           injection he1 with he1 he2 he3
           subst he1 he3
           clear he2
           have o0:=hoc (om - 1) hol 0 _ rfl
           simp only [Nat.add_zero] at o0
           have hlp : By ts.out=ts.out[om - 1].1:=by rw [J6 (by have:=HOM.out; omega)]; congr 2; rw [HOM.out]
           generalize ts.out[om - 1]=y at *
           have hgy:=Ex 9 y.1 x.1
           have p4 : decide ((0 : Int)<(om : Int))=true:=decide_eq_true (by omega)
           have p5 : decide (0<om)=true:=decide_eq_true (by omega)
           have hsub : (om : Int) - 1=((om - 1 : Nat) : Int):=by omega
           have hwi : IntKind.i64.wrap ((om - 1 : Nat) : Int)=((om - 1 : Nat) : Int):=by rw [IntKind.wrap_i64]; omega
           have hli : om - 1<om:=by omega
           by_cases c3 : ltB y.1 x.1=true
           ·have hbk : Ey ts x.1=false:=by unfold Ey; rw [hlp,c3]; simp
            have HT:=Ac (HR.out.1.trans (L5 HY.out hbk))
            rw [c3] at hgy
            clear hbk hcc hoc hlp c3 hor hz0
            go_wp2_with fail
            refine wp_region_held_drew (S:=fun W=>W.cell? ⟨g,2,none⟩=some (.slice (some ⟨ob,ooff,none⟩) om oc)∧W.cell? ⟨qb,0,none⟩=some (.slice (some ⟨pb,poff,none⟩) npm npc)∧W.cell? ⟨ob,ooff+(om - 1) * 2,none⟩=some (.string (Ab y.1))∧W.cell? ⟨pb,poff+i * 2,none⟩=some (.string (Ab x.1))) (by kernel_rfl) (⟨g2,y0q,o0,x0⟩) (fun hHeld=>?_)
            refine Aa 0 hHeld ?_
            refine Aa 1 hHeld ?_
            refine Aa 2 hHeld ?_
            refine Aa 3 hHeld ?_
            refine Aa 4 hHeld ?_
            refine Aa 5 hHeld ?_
            refine Aa 6 hHeld ?_
            refine Aa 7 hHeld ?_
            refine Aa 8 hHeld ?_
            refine Aa 9 hHeld ?_
            refine Aa 10 hHeld ?_
            refine Aa 11 hHeld ?_
            refine Aa 12 hHeld ?_
            refine Aa 13 hHeld ?_
            refine Aa 14 hHeld ?_
            refine Aa 15 hHeld ?_
            refine Aa 16 hHeld ?_
            refine Aa 17 hHeld ?_
            refine Aa 18 hHeld ?_
            refine Aa 19 hHeld ?_
            refine Aa 20 hHeld ?_
            refine Aa 21 hHeld ?_
            refine Aa 22 hHeld ?_
            refine Aa 23 hHeld ?_
            refine Aa 24 hHeld ?_
            refine Aa 25 hHeld ?_
            refine Aa 26 hHeld ?_
            refine Aa 27 hHeld ?_
            refine wpAnyH_done (by kernel_rfl) ?_ _
            clear hHeld
            have hRd : RlW B wr.drew g vo objs (.slice (some ⟨ob,ooff,none⟩) om oc) ts:=HR.out.2.2.1
            have hqd : wr.drew.heap[qb]? = some (.cells #[.slice (some ⟨pb,poff,none⟩) npm npc, .int .i64 nl, .slice nka nkm nkc] 131):=HR.out.2.2.2.2.2.2.2.1
            have hpd : wr.drew.ownsRow w2.heap.size 135 2 (.slice (some ⟨pb,poff,none⟩) npm npc) ps.length (ps.flatMap Ak):=HR.out.2.2.2.2.2.2.2.2.1
            have hkd : wr.drew.ownsRow w2.heap.size 125 3 (.slice nka nkm nkc) ks.length (ks.flatMap Au):=HR.out.2.2.2.2.2.2.2.2.2.1
            have hMd : Mv B lts vp.ownBlock w wr.drew:=HR.out.2.2.2.1.drew
            clear y0q x0 x1 g2 g3
            generalize wr.drew=wd at *
            obtain ⟨va2,vp2,w6,hh6,⟨b6a,b6m,b6c,rfl⟩,hrun6,hh6',hR6,hM6,hM7,hN7⟩:=hRd.tell x (by rw [← HOM.out]; exact hom9)
            obtain ⟨-,-,vbd,-,-,hrd3⟩:=id hRd
            have hqne : some qb≠(Value.slice (some ⟨ob,ooff,none⟩) om oc).ownBlock:=by
             intro e
             obtain ⟨c',fz,h1⟩:=Lib.ownsRow_kind hrd3 qb e.symm
             rw [hqd] at h1
             injection h1 with h1
             injection h1 with _ h1
             exact absurd h1 (by decide)
            have hqA:=(heap_past wd (.cells #[.string (Ab x.1), .string (Ab x.2)] 135) _ (Ad hqd)).trans hqd
            have hpA:=World.ownsRow.alloc hpd (.cells #[.string (Ab x.1), .string (Ab x.2)] 135)
            have hhA:=(heap_past wd (.cells #[.string (Ab x.1), .string (Ab x.2)] 135) _ (Ad hh6)).trans hh6
            have hq6:=hM6.k _ _ _ _ hqd (by decide) hqne
            have hq7:=hM7.k _ _ _ _ hqd (by decide) hqne
            have hp6:=hM6.own hpd (by decide) HR.out.2.2.2.2.2.2.2.2.2.2
            have hp7:=hM7.own hpd (by decide) HR.out.2.2.2.2.2.2.2.2.2.2
            have hk7:=hM7.own hkd (by decide) (F0 hkd hrd3 (by decide))
            have hap7 : (Value.slice (some ⟨pb,poff,none⟩) npm npc).ownBlock=none∨(Value.slice (some ⟨pb,poff,none⟩) npm npc).ownBlock≠(Value.slice b6a b6m b6c).ownBlock:=by
             rcases hN7 with e | ⟨q,e,hq⟩
             ·rw [e]; exact HR.out.2.2.2.2.2.2.2.2.2.2
             ·cases hv : (Value.slice (some ⟨pb,poff,none⟩) npm npc).ownBlock with
              | none=>exact .inl rfl
              | some z=>
               refine .inr fun h=>?_
               rw [e] at h
               injection h with h
               have:=(World.ownsRow.lt hpd z hv).2
               omega
            have rowc : ∀ W : World,W.heap[qb]? = some (.cells #[.slice (some ⟨pb,poff,none⟩) npm npc, .int .i64 nl, .slice nka nkm nkc] 131)→W.ownsRow w2.heap.size 135 2 (.slice (some ⟨pb,poff,none⟩) npm npc) ps.length (ps.flatMap Ak)→W.cell? ⟨qb,0,none⟩=some (.slice (some ⟨pb,poff,none⟩) npm npc)∧W.cell? ⟨pb,poff+i * 2,none⟩=some (.string (Ab x.1))∧W.cell? ⟨pb,poff+i * 2+1,none⟩=some (.string (Ab x.2)):=fun W h1 h2=>by
             have q0:=cell_of_row W qb 0 _ _ _ h1
             simp only [List.getElem?_toArray,List.getElem?_cons_zero] at q0
             have hxx : ps[i]=x:=by
              have:=HX.out
              rw [List.getElem?_eq_getElem hlt2] at this
              exact Option.some.inj this
             obtain ⟨a',c',e,-,-,hc⟩:=Bi Dr h2
             obtain ⟨b',o',rfl,-,hcel⟩:=hc (by rintro rfl; simp at hlt2)
             injection e with e
             injection e with e
             injection e with e1 e2 e3
             subst e1 e2
             have r0:=hcel i hlt2 0 _ rfl
             have r1:=hcel i hlt2 1 _ rfl
             rw [hxx] at r0 r1
             simp only [Nat.add_zero] at r0
             exact ⟨q0,r0,r1⟩
            have X0:=Ac (rowc wd hqd hpd)
            have XA:=Ac (rowc _ hqA hpA)
            have X6:=Ac (rowc w6 hq6 hp6)
            have X7:=Ac (rowc _ hq7 hp7)
            have g2:=cell_of_row wd g 2 _ _ _ hh6
            have gA:=cell_of_row _ g 2 _ _ _ hhA
            have g6:=cell_of_row w6 g 2 _ _ _ hh6'
            simp only [List.getElem?_toArray,List.getElem?_cons_zero,List.getElem?_cons_succ] at g2 gA g6
            have f6:=Af (j:=2) hh6'
            have RUN:=Ac hrun6
            have H7:=Ac (And.intro hR6 (And.intro (hMd.trans hM7 HR.out.2.2.2.2.1) (And.intro (HR.out.2.2.2.2.1.trans hN7 hMd.size) (And.intro hq7 (And.intro hp7 (And.intro hk7 hap7))))))
            have hlt3:=hlt2
            clear rowc hqne hqA hpA hhA hq6 hq7 hp6 hp7 hk7 hap7 hh6 hh6' hrun6 hR6 hM6 hM7 hN7 hRd hqd hpd hkd hMd hrd3 hlt3
            go_wp2_with fail
            refine wp_region_held_drew (S:=fun W=>W.cell? ⟨qb,0,none⟩=some (.slice (some ⟨pb,poff,none⟩) npm npc)∧W.cell? ⟨pb,poff+i * 2,none⟩=some (.string (Ab x.1))∧W.cell? ⟨pb,poff+i * 2+1,none⟩=some (.string (Ab x.2))) (by kernel_rfl) (X0.out) (fun hHeld=>?_)
            refine Aa 0 hHeld ?_
            refine Aa 1 hHeld ?_
            refine Aa 2 hHeld ?_
            refine Aa 3 hHeld ?_
            refine Aa 5 hHeld ?_
            refine Aa 6 hHeld ?_
            refine Aa 7 hHeld ?_
            refine Aa 8 hHeld ?_
            refine Aa 9 hHeld ?_
            refine twoH (i:=4) (j:=10) rfl rfl (by kernel_rfl) rfl rfl (fun K hK=>?_) (fun K hK=>?_)
            ·go_simp
             refine hK.out _ _ (X0.out) (fun hHeld=>?_)
             clear hK K
             try simp only [Act.put,List.setIfInBounds_toArray,List.set_cons_zero,List.set_cons_succ]
             refine Ai (i:=10) rfl (by kernel_rfl) rfl (fun K hK=>?_)
             go_simp
             refine hK.out _ _ (XA.out) (fun hHeld=>?_)
             clear hK K
             try simp only [Act.put,List.setIfInBounds_toArray,List.set_cons_zero,List.set_cons_succ]
             refine Ai (i:=11) rfl (by kernel_rfl) rfl (fun K hK=>?_)
             refine Cz (.tmp 105) (.tmp 111) 126 rfl rfl rfl RUN.out ?_
             refine hK.out _ _ (X6.out) (fun hHeld=>?_)
             clear hK K
             try simp only [Act.put,List.setIfInBounds_toArray,List.set_cons_zero,List.set_cons_succ]
             refine Aa 12 hHeld ?_
             refine Aa 13 hHeld ?_
             refine Ai (i:=14) rfl (by kernel_rfl) rfl (fun K hK=>?_)
             go_simp
             refine hK.out _ _ (X7.out) (fun hHeld=>?_)
             clear hK K
             try simp only [Act.put,List.setIfInBounds_toArray,List.set_cons_zero,List.set_cons_succ]
             refine wpAnyH_done (by kernel_rfl) ?_ _
             clear hHeld
             go_wp2
             go_roundw
             case rel=>exact ⟨i+1,⟨ts.asked,ts.out ++ [x],ts.bad⟩,_,by omega,by go_num,HT.out,HR.out.2.1,H7.out.1,H7.out.2.1,H7.out.2.2.1,HR.out.2.2.2.2.2.1,by have:=HR.out.2.2.2.2.2.2.1; simp only [List.length_append,List.length_singleton]; omega,H7.out.2.2.2.1,H7.out.2.2.2.2.1,H7.out.2.2.2.2.2.1,H7.out.2.2.2.2.2.2⟩
             case measure=>simp [intOf]; omega
            ·go_simp
             refine hK.out _ _ (XA.out) (fun hHeld=>?_)
             clear hK K
             try simp only [Act.put,List.setIfInBounds_toArray,List.set_cons_zero,List.set_cons_succ]
             refine Ai (i:=4) rfl (by kernel_rfl) rfl (fun K hK=>?_)
             go_simp
             refine hK.out _ _ (XA.out) (fun hHeld=>?_)
             clear hK K
             try simp only [Act.put,List.setIfInBounds_toArray,List.set_cons_zero,List.set_cons_succ]
             refine Ai (i:=11) rfl (by kernel_rfl) rfl (fun K hK=>?_)
             refine Cz (.tmp 105) (.tmp 111) 126 rfl rfl rfl RUN.out ?_
             refine hK.out _ _ (X6.out) (fun hHeld=>?_)
             clear hK K
             try simp only [Act.put,List.setIfInBounds_toArray,List.set_cons_zero,List.set_cons_succ]
             refine Aa 12 hHeld ?_
             refine Aa 13 hHeld ?_
             refine Ai (i:=14) rfl (by kernel_rfl) rfl (fun K hK=>?_)
             go_simp
             refine hK.out _ _ (X7.out) (fun hHeld=>?_)
             clear hK K
             try simp only [Act.put,List.setIfInBounds_toArray,List.set_cons_zero,List.set_cons_succ]
             refine wpAnyH_done (by kernel_rfl) ?_ _
             clear hHeld
             go_wp2
             go_roundw
             case rel=>exact ⟨i+1,⟨ts.asked,ts.out ++ [x],ts.bad⟩,_,by omega,by go_num,HT.out,HR.out.2.1,H7.out.1,H7.out.2.1,H7.out.2.2.1,HR.out.2.2.2.2.2.1,by have:=HR.out.2.2.2.2.2.2.1; simp only [List.length_append,List.length_singleton]; omega,H7.out.2.2.2.1,H7.out.2.2.2.2.1,H7.out.2.2.2.2.2.1,H7.out.2.2.2.2.2.2⟩
             case measure=>simp [intOf]; omega
           ·have c3 : ltB y.1 x.1=false:=by simpa using c3
            have hbk : Ey ts x.1=true:=by
             unfold Ey
             rw [hlp,c3]
             have : ts.out ≠ []:=by rintro h; rw [h] at hol; simp at hol
             cases hq : ts.out with
             | nil=>exact absurd hq this
             | cons _ _=>rfl
            have hst:=HR.out.1.trans (takeM_stop HY.out hbk)
            have hfin:=HGO.out
            rw [HKZ.out,eachM_nil,hst] at hfin
            have HF:=Ac hfin
            have hRd : RlW B wr.drew g vo objs _ ts:=HR.out.2.2.1
            have HE:=Ac (hRd.err 122)
            obtain ⟨-,-,vbd,hhd,-,-⟩:=id hRd
            have h3:=cell_of_row wr.drew g 3 _ _ _ hhd
            simp only [List.getElem?_toArray,List.getElem?_cons_zero,List.getElem?_cons_succ] at h3
            have f3:=Af (j:=3) hhd
            rw [c3] at hgy
            clear hbk hcc hoc hlp c3 hor hst hfin hRd hhd hz0
            go_wp2_with fail
            refine wp_region_held_drew (S:=fun W=>W.cell? ⟨g,2,none⟩=some (.slice (some ⟨ob,ooff,none⟩) om oc)∧W.cell? ⟨qb,0,none⟩=some (.slice (some ⟨pb,poff,none⟩) npm npc)∧W.cell? ⟨ob,ooff+(om - 1) * 2,none⟩=some (.string (Ab y.1))∧W.cell? ⟨pb,poff+i * 2,none⟩=some (.string (Ab x.1))) (by kernel_rfl) (⟨g2,y0q,o0,x0⟩) (fun hHeld=>?_)
            refine Aa 0 hHeld ?_
            refine Aa 1 hHeld ?_
            refine Aa 2 hHeld ?_
            refine Aa 3 hHeld ?_
            refine Aa 4 hHeld ?_
            refine Aa 5 hHeld ?_
            refine Aa 6 hHeld ?_
            refine Aa 7 hHeld ?_
            refine Aa 8 hHeld ?_
            refine Aa 9 hHeld ?_
            refine Aa 10 hHeld ?_
            refine Aa 11 hHeld ?_
            refine Aa 12 hHeld ?_
            refine Aa 13 hHeld ?_
            refine Aa 14 hHeld ?_
            refine Aa 15 hHeld ?_
            refine Aa 16 hHeld ?_
            refine Aa 17 hHeld ?_
            refine Aa 18 hHeld ?_
            refine Aa 19 hHeld ?_
            refine Aa 20 hHeld ?_
            refine Aa 21 hHeld ?_
            refine Aa 22 hHeld ?_
            refine Aa 23 hHeld ?_
            refine Aa 24 hHeld ?_
            refine Aa 25 hHeld ?_
            refine Aa 26 hHeld ?_
            refine Aa 27 hHeld ?_
            refine wpAnyH_done (by kernel_rfl) ?_ _
            clear hHeld
            go_wp2
            first | go_end0 | refine bodyPost_ret (results_none rfl _ _ _) rfl ?_
            refine ⟨rfl,_,?_,HR.out.2.2.2.1.drew.trans HE.out.2.none (Nx.refl _ _),HR.out.2.2.2.2.1⟩
            rw [HF.out]
            exact HE.out.1
      ·obtain rfl : i=npm:=by omega
       have htk0 : Ct lo hi ps ⟨s.asked ++ [k.2.1],s.out,s.bad⟩=ts:=by rw [htk,HLN.out.1,List.drop_length]; rfl
       rw [htk0] at HGO
       have HR:=Ac (And.intro htb (And.intro hRr (And.intro hMr (And.intro hNr (And.intro hta (And.intro hto (And.intro hqr hkr)))))))
       clear htk htk0 htb hRr hMr hNr hta hto hqr hpr hkr hapr
       obtain ⟨F,hF⟩ : ∃ F : Ah→LsS→LsS,(fun q t=>goM (Aj objs) lo hi d q (nl - 1) t)=F:=⟨_,rfl⟩
       rw [hF] at HGO
       have HF:=Ac hF
       obtain ⟨wp,rfl⟩ : ∃ wp,wp=wr:=⟨wr,rfl⟩
       have hb1 : ts.asked.length+d * (Am (ks.drop 0)).toNat≤4294967296:=by
        have h1:=HR.out.2.2.2.2.1
        have h2:=HS.out.2.2
        have h3 : (Am ks).toNat≤cntM k level:=by omega
        have h4:=Nat.mul_le_mul_left d h3
        rw [List.drop_zero]
        omega
       have hb2 : ts.out.length+(Am (ks.drop 0)).toNat≤4294967296:=by
        have h1:=HR.out.2.2.2.2.2.1
        have h2:=HLN.out.1
        rw [List.drop_zero]
        omega
       have HBD:=Ac (And.intro hb1 hb2)
       clear hF hb1 hb2 htot
       go_wp2_with fail
       clear y0q
       go_loopw [13] (fun t wx=>∃ (j : Nat) (tt : LsS) (vpj : Value),j≤nkm∧t = .int .i64 j∧Cd F lo hi ks ts=Cd F lo hi (ks.drop j) tt∧RlW B wx g vo objs vpj tt∧Mv B lts vp.ownBlock w wx∧Nx w vp.ownBlock vpj.ownBlock∧tt.asked.length+d * (Am (ks.drop j)).toNat≤4294967296∧tt.out.length+(Am (ks.drop j)).toNat≤4294967296∧wx.heap[qb]? = some (.cells #[.slice npa i npc, .int .i64 nl, .slice nka nkm nkc] 131)∧Rw w2.heap.size wx 125 3 Au (.slice nka nkm nkc) ks)
        (fun t _=>nkm - (intOf t).toNat)
       case atStart=>exact ⟨0,ts,vpt,by omega,rfl,rfl,HR.out.2.1,HR.out.2.2.1,HR.out.2.2.2.1,HBD.out.1,HBD.out.2,HR.out.2.2.2.2.2.2.1,HR.out.2.2.2.2.2.2.2⟩
       case round=>
        obtain ⟨j,tt,vpj,hjn,rfl,hev,hRj,hMj,hNj,hj1,hj2,hqj,hkj⟩:=hrel
        have q2c:=cell_of_row wr qb 2 _ _ _ hqj
        have q1c:=cell_of_row wr qb 1 _ _ _ hqj
        simp only [List.getElem?_toArray,List.getElem?_cons_zero,List.getElem?_cons_succ] at q2c q1c
        by_cases hlt : j<nkm
        ·have hlt2 : j<ks.length:=by have:=HLN.out.2.1; omega
         have hcons : ks.drop j=ks[j] :: ks.drop (j+1):=List.drop_eq_getElem_cons hlt2
         have hnl1 : 1≤nl:=by
          by_cases hz : nl=0
          ·have:=(HRT.out.1.leaf (by rw [HPK.out.2.2]; exact hz)).1
           rw [HPK.out.2.1] at this
           rw [this] at hlt2
           simp at hlt2
          ·have h1:=HRT.out.1.lo
           have h2:=HPK.out.2.2
           omega
         have hnl20 : nl≤20:=by have h1:=HRT.out.1.hi; have h2:=HPK.out.2.2; omega
         have hnld : nl - 1<(d : Int):=by
          rcases hlv with h | h
          ·omega
          ·rcases HRT.out.2.1 with h2 | h2
           ·omega
           ·have h3:=(Fw h2).1
            have h4:=HPK.out.2.2
            omega
         have hxo:=HLN.out.2.2.1.2.1 ks[j] (List.getElem_mem hlt2)
         have hmd : Am (ks.drop j)=ks[j].2.2+Am (ks.drop (j+1)):=by rw [hcons,If]
         have hmr:=Ef (ks.drop (j+1)) (fun q hq=>HLN.out.2.2.1.2.1 q (List.mem_of_mem_drop hq))
         have hxm:=(Ee _).1 hxo
         have hx1:=hxm.2.2.1
         have hx2:=hxm.2.2.2
         have hmd2 : (Am (ks.drop (j+1))).toNat≤(Am (ks.drop j)).toNat:=by omega
         have hmd3 : (Am (ks.drop j)).toNat=ks[j].2.2.toNat+(Am (ks.drop (j+1))).toNat:=by omega
         rw [hcons] at hev
         obtain ⟨ka',kc',he1,hkc1,-,hcc⟩:=Bi Ev hkj
         obtain ⟨kb,koff,rfl,hkbl,hcel⟩:=hcc (by rintro rfl; simp at hlt2)
         injection he1 with he1 he2 he3
         subst he1 he3
         have x0:=hcel j hlt2 0 _ rfl
         have x1:=hcel j hlt2 1 _ rfl
         have x2:=hcel j hlt2 2 _ rfl
         simp only [Nat.add_zero] at x0
         have hxi : ks[j]? = some ks[j]:=List.getElem?_eq_getElem hlt2
         have HX:=Ac hxi
         clear hxi
         generalize ks[j]=x at *
         have hxt:=toL x.1
         have hge:=Ex 9 x.1 lo
         obtain ⟨-,-,vbj,hhj,-,horj⟩:=id hRj
         have g3:=cell_of_row wr g 3 _ _ _ hhj
         simp only [List.getElem?_toArray,List.getElem?_cons_zero,List.getElem?_cons_succ] at g3
         have HO:=Ac horj
         have HJ:=Ac (And.intro hev (And.intro hRj (And.intro hMj (And.intro hNj (And.intro hj1 (And.intro hj2 (And.intro hqj hkj)))))))
         have HXO:=Ac (And.intro hxo (And.intro hmd2 hmd3))
         clear hcons hcc hcel he2 hev hRj hMj hNj hj1 hj2 hqj hkj hhj horj hxo hmd hmr hxm hkc1 hmd3
         by_cases c0 : tt.bad=0
         rotate_left
         ·have hbz : (tt.bad == 0)=false:=by simpa using c0
          have hcond : ¬ (tt.bad=0∧ltB x.1 lo=false):=fun h=>c0 h.1
          have EQ:=Ac (HJ.out.1.trans (show Cd F lo hi (x :: ks.drop (j+1)) tt=(if Bl hi x.1=true then tt else Cd F lo hi (ks.drop (j+1)) tt) from by rw [Cd,if_neg hcond]))
          have HQ:=Ac (And.intro HJ.out.2.1 (And.intro HJ.out.2.2.1 (And.intro HJ.out.2.2.2.1 (And.intro (show tt.asked.length+d * (Am (ks.drop (j+1))).toNat≤4294967296 from by have:=HJ.out.2.2.2.2.1; have:=Nat.mul_le_mul_left d hmd2; omega) (And.intro (show tt.out.length+(Am (ks.drop (j+1))).toNat≤4294967296 from by have:=HJ.out.2.2.2.2.2.1; omega) (And.intro HJ.out.2.2.2.2.2.2.1 HJ.out.2.2.2.2.2.2.2))))))
          clear c0 hcond hmd2
          have hge2:=Ex 9 x.1 hi
          have hcase : (hi == [])=true∨((hi == [])=false∧ltB x.1 hi=true)∨((hi == [])=false∧ltB x.1 hi=false):=by
           cases hi with
           | nil=>exact .inl rfl
           | cons q l=>
            cases ltB x.1 (q :: l)
            ·exact .inr (.inr ⟨rfl,rfl⟩)
            ·exact .inr (.inl ⟨rfl,rfl⟩)
          rcases hcase with hhe | ⟨hhe,hlh⟩ | ⟨hhe,hlh⟩
          ·have hnd : Bl hi x.1=false:=by
            have : hi = []:=by simpa using hhe
            rw [this]; rfl
           have hst:=EQ.out
           rw [hnd,if_neg (by simp)] at hst
           have HST:=Ac hst
           clear hst hnd
           go_wp2
           go_roundw
           case rel=>exact ⟨j+1,tt,_,by omega,by go_num,HST.out,HQ.out.1,HQ.out.2.1,HQ.out.2.2.1,HQ.out.2.2.2.1,HQ.out.2.2.2.2.1,HQ.out.2.2.2.2.2.1,HQ.out.2.2.2.2.2.2⟩
           case measure=>simp [intOf]; omega
          ·have hnd : Bl hi x.1=false:=by unfold Bl; rw [hlh]; simp
           have hst:=EQ.out
           rw [hnd,if_neg (by simp)] at hst
           have HST:=Ac hst
           rw [hlh] at hge2
           clear hst hnd hlh
           go_wp2
           go_roundw
           case rel=>exact ⟨j+1,tt,_,by omega,by go_num,HST.out,HQ.out.1,HQ.out.2.1,HQ.out.2.2.1,HQ.out.2.2.2.1,HQ.out.2.2.2.2.1,HQ.out.2.2.2.2.2.1,HQ.out.2.2.2.2.2.2⟩
           case measure=>simp [intOf]; omega
          ·have hnd : Bl hi x.1=true:=by
            unfold Bl
            rw [hlh]
            cases hi with
            | nil=>simp at hhe
            | cons q l=>rfl
           have hst:=EQ.out
           rw [hnd,if_pos rfl] at hst
           have HST:=Ac (HGO.out.trans hst)
           rw [hlh] at hge2
           clear hst hnd hlh
           go_wp2
           first | go_end0 | refine bodyPost_ret (results_none rfl _ _ _) rfl ?_
           refine ⟨rfl,_,?_,HQ.out.2.1,HQ.out.2.2.1⟩
           rw [HST.out]
           exact HQ.out.1
         ·have hbz : (tt.bad == 0)=true:=by simpa using c0
          by_cases c1 : ltB x.1 lo=true
          ·have hcond : ¬ (tt.bad=0∧ltB x.1 lo=false):=fun h=>by rw [c1] at h; exact absurd h.2 (by simp)
           have EQ:=Ac (HJ.out.1.trans (show Cd F lo hi (x :: ks.drop (j+1)) tt=(if Bl hi x.1=true then tt else Cd F lo hi (ks.drop (j+1)) tt) from by rw [Cd,if_neg hcond]))
           have HQ:=Ac (And.intro HJ.out.2.1 (And.intro HJ.out.2.2.1 (And.intro HJ.out.2.2.2.1 (And.intro (show tt.asked.length+d * (Am (ks.drop (j+1))).toNat≤4294967296 from by have:=HJ.out.2.2.2.2.1; have:=Nat.mul_le_mul_left d hmd2; omega) (And.intro (show tt.out.length+(Am (ks.drop (j+1))).toNat≤4294967296 from by have:=HJ.out.2.2.2.2.2.1; omega) (And.intro HJ.out.2.2.2.2.2.2.1 HJ.out.2.2.2.2.2.2.2))))))
           rw [c1] at hge
           clear c0 c1 hcond hmd2
           have hge2:=Ex 9 x.1 hi
           have hcase : (hi == [])=true∨((hi == [])=false∧ltB x.1 hi=true)∨((hi == [])=false∧ltB x.1 hi=false):=by
            cases hi with
            | nil=>exact .inl rfl
            | cons q l=>
             cases ltB x.1 (q :: l)
             ·exact .inr (.inr ⟨rfl,rfl⟩)
             ·exact .inr (.inl ⟨rfl,rfl⟩)
           rcases hcase with hhe | ⟨hhe,hlh⟩ | ⟨hhe,hlh⟩
           ·have hnd : Bl hi x.1=false:=by
             have : hi = []:=by simpa using hhe
             rw [this]; rfl
            have hst:=EQ.out
            rw [hnd,if_neg (by simp)] at hst
            have HST:=Ac hst
            clear hst hnd
            go_wp2
            go_roundw
            case rel=>exact ⟨j+1,tt,_,by omega,by go_num,HST.out,HQ.out.1,HQ.out.2.1,HQ.out.2.2.1,HQ.out.2.2.2.1,HQ.out.2.2.2.2.1,HQ.out.2.2.2.2.2.1,HQ.out.2.2.2.2.2.2⟩
            case measure=>simp [intOf]; omega
           ·have hnd : Bl hi x.1=false:=by unfold Bl; rw [hlh]; simp
            have hst:=EQ.out
            rw [hnd,if_neg (by simp)] at hst
            have HST:=Ac hst
            rw [hlh] at hge2
            clear hst hnd hlh
            go_wp2
            go_roundw
            case rel=>exact ⟨j+1,tt,_,by omega,by go_num,HST.out,HQ.out.1,HQ.out.2.1,HQ.out.2.2.1,HQ.out.2.2.2.1,HQ.out.2.2.2.2.1,HQ.out.2.2.2.2.2.1,HQ.out.2.2.2.2.2.2⟩
            case measure=>simp [intOf]; omega
           ·have hnd : Bl hi x.1=true:=by
             unfold Bl
             rw [hlh]
             cases hi with
             | nil=>simp at hhe
             | cons q l=>rfl
            have hst:=EQ.out
            rw [hnd,if_pos rfl] at hst
            have HST:=Ac (HGO.out.trans hst)
            rw [hlh] at hge2
            clear hst hnd hlh
            go_wp2
            first | go_end0 | refine bodyPost_ret (results_none rfl _ _ _) rfl ?_
            refine ⟨rfl,_,?_,HQ.out.2.1,HQ.out.2.2.1⟩
            rw [HST.out]
            exact HQ.out.1
          ·have c1 : ltB x.1 lo=false:=by simpa using c1
           have hcond : tt.bad=0∧ltB x.1 lo=false:=⟨c0,c1⟩
           have hcx : cntM x (nl - 1)=x.2.2.toNat:=by unfold cntM; rw [if_neg (by omega)]
           have hgr:=Kp (Aj objs) HSO.out lo hi d x (nl - 1) tt HXO.out.1 (by omega) (by omega)
           have hcall:=ih wr.drew x (nl - 1) tt vpj (.inr ⟨by omega,by omega,HXO.out.1⟩) (by omega) ⟨by omega,by omega⟩ c0 HJ.out.2.1 (by rw [hcx]; have:=HJ.out.2.2.2.2.1; have h3:=HXO.out.2.2; have h4:=Nat.mul_le_mul_left d (show x.2.2.toNat≤(Am (ks.drop j)).toNat by omega); omega) (by rw [hcx]; have:=HJ.out.2.2.2.2.2.1; have h3:=HXO.out.2.2; omega)
           have hFx : F x tt=goM (Aj objs) lo hi d x (nl - 1) tt:=by rw [← HF.out]
           rw [← hFx] at hcall hgr
           have EQ:=Ac (HJ.out.1.trans (show Cd F lo hi (x :: ks.drop (j+1)) tt=(if Bl hi x.1=true then F x tt else Cd F lo hi (ks.drop (j+1)) (F x tt)) from by rw [Cd,if_pos hcond]))
           have hbnd1 : (F x tt).asked.length+d * (Am (ks.drop (j+1))).toNat≤4294967296:=by
            have h1:=hgr.1
            have h2:=HJ.out.2.2.2.2.1
            rw [HXO.out.2.2,Nat.mul_add] at h2
            omega
           have hbnd2 : (F x tt).out.length+(Am (ks.drop (j+1))).toNat≤4294967296:=by
            have h1:=hgr.2
            have h2:=HJ.out.2.2.2.2.2.1
            rw [HXO.out.2.2] at h2
            omega
           have HBN:=Ac (And.intro hbnd1 hbnd2)
           have hqne : some qb≠vpj.ownBlock:=by
            intro e
            obtain ⟨c',fz,h1⟩:=Lib.ownsRow_kind HO.out qb e.symm
            rw [HJ.out.2.2.2.2.2.2.1] at h1
            injection h1 with h1
            injection h1 with _ h1
            exact absurd h1 (by decide)
           have hrow : ∀ W : World,W.heap[qb]? = some (.cells #[.slice npa i npc, .int .i64 nl, .slice (some ⟨kb,koff,none⟩) nkm nkc] 131)→W.ownsRow w2.heap.size 125 3 (.slice (some ⟨kb,koff,none⟩) nkm nkc) ks.length (ks.flatMap Au)→W.cell? ⟨qb,2,none⟩=some (.slice (some ⟨kb,koff,none⟩) nkm nkc)∧W.cell? ⟨qb,1,none⟩=some (.int .i64 nl)∧W.cell? ⟨kb,koff+j * 3,none⟩=some (.string (Ab x.1))∧W.cell? ⟨kb,koff+j * 3+1,none⟩=some (.string (Ab x.2.1))∧W.cell? ⟨kb,koff+j * 3+2,none⟩=some (.int .i64 x.2.2):=fun W h1 h2=>by
            have u2:=cell_of_row W qb 2 _ _ _ h1
            have u1:=cell_of_row W qb 1 _ _ _ h1
            simp only [List.getElem?_toArray,List.getElem?_cons_zero,List.getElem?_cons_succ] at u1 u2
            have hxx : ks[j]=x:=by
             have:=HX.out
             rw [List.getElem?_eq_getElem hlt2] at this
             exact Option.some.inj this
            obtain ⟨a',c',e,-,-,hc⟩:=Bi Ev h2
            obtain ⟨b',o',rfl,-,hcel⟩:=hc (by rintro rfl; simp at hlt2)
            injection e with e
            injection e with e
            injection e with e1 e2 e3
            subst e1 e2
            have r0:=hcel j hlt2 0 _ rfl
            have r1:=hcel j hlt2 1 _ rfl
            have r2:=hcel j hlt2 2 _ rfl
            rw [hxx] at r0 r1 r2
            simp only [Nat.add_zero] at r0
            exact ⟨u2,u1,r0,r1,r2⟩
           have HRW:=Ac hrow
           have hws : IntKind.i64.wrap (nl - 1)=nl - 1:=by rw [IntKind.wrap_i64]; omega
           have hQN:=Ac hqne
           rw [c1] at hge
           clear c0 c1 hcond hmd2 hrow hqne hbnd1 hbnd2 hgr hFx hcx
           go_wp2_with fail
           refine wp_region_held_drew (S:=fun W=>W.cell? ⟨qb,2,none⟩=some (.slice (some ⟨kb,koff,none⟩) nkm nkc)∧W.cell? ⟨qb,1,none⟩=some (.int .i64 nl)∧W.cell? ⟨kb,koff+j * 3,none⟩=some (.string (Ab x.1))∧W.cell? ⟨kb,koff+j * 3+1,none⟩=some (.string (Ab x.2.1))∧W.cell? ⟨kb,koff+j * 3+2,none⟩=some (.int .i64 x.2.2)) (by kernel_rfl) (⟨q2c,q1c,x0,x1,x2⟩) (fun hHeld=>?_)
           refine Aa 0 hHeld ?_
           refine Aa 1 hHeld ?_
           refine Aa 2 hHeld ?_
           refine Aa 3 hHeld ?_
           refine Aa 4 hHeld ?_
           refine Aa 5 hHeld ?_
           refine Aa 6 hHeld ?_
           refine Aa 7 hHeld ?_
           refine Aa 8 hHeld ?_
           refine Aa 9 hHeld ?_
           refine Aa 10 hHeld ?_
           refine Aa 11 hHeld ?_
           refine Aa 12 hHeld ?_
           refine Ai (i:=13) rfl (by kernel_rfl) rfl (fun K hK=>?_)
           go_simp
           refine hcall.mono ?_
           rintro e w8 ⟨rfl,vp8,hR8,hM8,hN8⟩
           have hq8:=hM8.k _ _ _ _ (show wr.drew.heap[qb]? = _ from HJ.out.2.2.2.2.2.2.1) (by decide) hQN.out
           have hk8:=hM8.own (show wr.drew.ownsRow _ _ _ _ _ _ from HJ.out.2.2.2.2.2.2.2) (by decide) (F0 (show wr.drew.ownsRow _ _ _ _ _ _ from HJ.out.2.2.2.2.2.2.2) (show wr.drew.ownsRow _ _ _ _ _ _ from HO.out) (by decide))
           have HR8:=Ac (HRW.out w8 hq8 hk8)
           have HQ:=Ac (And.intro hR8 (And.intro (HJ.out.2.2.1.drew.trans hM8 HJ.out.2.2.2.1) (And.intro (HJ.out.2.2.2.1.trans hN8 HJ.out.2.2.1.size) (And.intro HBN.out.1 (And.intro HBN.out.2 (And.intro hq8 hk8))))))
           obtain ⟨v2c,-,v0c,-,-⟩:=HR8.out
           clear hcall hR8 hM8 hN8 hq8 hk8 q2c q1c x0 x1 x2 g3
           refine hK.out _ _ (HR8.out) (fun hHeld=>?_)
           clear hK K
           try simp only [Act.put,List.setIfInBounds_toArray,List.set_cons_zero,List.set_cons_succ]
           refine wpAnyH_done (by kernel_rfl) ?_ _
           clear hHeld
           have hge2:=Ex 9 x.1 hi
           have hcase : (hi == [])=true∨((hi == [])=false∧ltB x.1 hi=true)∨((hi == [])=false∧ltB x.1 hi=false):=by
            cases hi with
            | nil=>exact .inl rfl
            | cons q l=>
             cases ltB x.1 (q :: l)
             ·exact .inr (.inr ⟨rfl,rfl⟩)
             ·exact .inr (.inl ⟨rfl,rfl⟩)
           rcases hcase with hhe | ⟨hhe,hlh⟩ | ⟨hhe,hlh⟩
           ·have hnd : Bl hi x.1=false:=by
             have : hi = []:=by simpa using hhe
             rw [this]; rfl
            have hst:=EQ.out
            rw [hnd,if_neg (by simp)] at hst
            have HST:=Ac hst
            clear hst hnd
            go_wp2
            go_roundw
            case rel=>exact ⟨j+1,F x tt,_,by omega,by go_num,HST.out,HQ.out.1,HQ.out.2.1,HQ.out.2.2.1,HQ.out.2.2.2.1,HQ.out.2.2.2.2.1,HQ.out.2.2.2.2.2.1,HQ.out.2.2.2.2.2.2⟩
            case measure=>simp [intOf]; omega
           ·have hnd : Bl hi x.1=false:=by unfold Bl; rw [hlh]; simp
            have hst:=EQ.out
            rw [hnd,if_neg (by simp)] at hst
            have HST:=Ac hst
            rw [hlh] at hge2
            clear hst hnd hlh
            go_wp2
            go_roundw
            case rel=>exact ⟨j+1,F x tt,_,by omega,by go_num,HST.out,HQ.out.1,HQ.out.2.1,HQ.out.2.2.1,HQ.out.2.2.2.1,HQ.out.2.2.2.2.1,HQ.out.2.2.2.2.2.1,HQ.out.2.2.2.2.2.2⟩
            case measure=>simp [intOf]; omega
           ·have hnd : Bl hi x.1=true:=by
             unfold Bl
             rw [hlh]
             cases hi with
             | nil=>simp at hhe
             | cons q l=>rfl
            have hst:=EQ.out
            rw [hnd,if_pos rfl] at hst
            have HST:=Ac (HGO.out.trans hst)
            rw [hlh] at hge2
            clear hst hnd hlh
            go_wp2
            first | go_end0 | refine bodyPost_ret (results_none rfl _ _ _) rfl ?_
            refine ⟨rfl,_,?_,HQ.out.2.1,HQ.out.2.2.1⟩
            rw [HST.out]
            exact HQ.out.1
        ·obtain rfl : j=nkm:=by omega
         have hend : Cd F lo hi ks ts=tt:=by rw [hev,HLN.out.2.1,List.drop_length]; rfl
         have HE:=Ac (HGO.out.trans hend)
         have HJ:=Ac (And.intro hRj (And.intro hMj hNj))
         clear hend hev hRj hMj hNj hj1 hj2 hqj hkj
         go_wp2
         first | go_end0 | refine bodyPost_ret (results_none rfl _ _ _) rfl ?_
         refine ⟨rfl,_,?_,HJ.out.2.1,HJ.out.2.2⟩
         rw [HE.out]
         exact HJ.out.1
end Go.Proofs.YtckejblkppllaaaGreatDoor
