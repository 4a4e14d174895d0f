/-
  Laying a node's object, each id once: the walk. Conditions: the building lies there; not too many objects; the node is right.
-/
import Derived.Test.YtckejblkppllaaaGreatDoorT25PLay0
namespace Go.Proofs.YtckejblkppllaaaGreatDoor
open Go.RowKit
theorem Tryz.infoLinkP : (Tryz.prog.info? 125).map (·.size)=some 3:=by kernel_rfl
set_option maxRecDepth 40000 in
set_option maxHeartbeats 3200000 in
theorem Lv (B : Nat) (w : World) (g : Nat) (os : List Ag) (n : A2) (vk vp : Value) (h : BdW B w g os) (hn : os.length≤4294967296) (hks : ∀ w',Mv B bts none w w'→Ls w'.heap.size w' 3 Au vk n.2.2) (hps : ∀ w',Mv B bts none w w'→Ls w'.heap.size w' 2 Ak vp n.2.1) (hT : Bh w) (_h00 : 1<B) (h0 : n.1=0→A5 ltB n.2.1=true) (h1 : n.1≠0→A4 ltB (n.1,n.2.2)=true) (hr : ∀ k∈n.2.2,A6 k=true) (hs : Am n.2.2≤4096) (hl : n.2.1.length≤4294967296) :
  Calls Tryz.prog 156 #[.pointer (some ⟨g,0,none⟩), .agg #[.int .i64 n.1,vk,vp]] w fun e w'=>e = .returned (.agg #[.string (Ab (Cy n)), .string (Ab (De n).1), .int .i64 (Bt n)])∧BdW B w' g (C7 os (De n))∧Mv B bts none w w':=by
 obtain ⟨hg,vo,mb,hh,hrow,hmap,hmb⟩:=h
 have hB : B≤w.heap.size:=by have:=Ad hh; omega
 have hb0 : Below w.heap.size w ((w.alloc (.cells #[.int .i64 n.1,vk,vp] 240)).alloc (.cells #[.string ⟨#[]⟩, .string ⟨#[]⟩, .int .i64 0] 125)):=((Below.refl _ _).alloc (Nat.le_refl _) _).alloc (by simp) _
 have hX0 : ((w.alloc (.cells #[.int .i64 n.1,vk,vp] 240)).alloc (.cells #[.string ⟨#[]⟩, .string ⟨#[]⟩, .int .i64 0] 125)).heap[w.heap.size]? = some (.cells #[.int .i64 n.1,vk,vp] 240):=(heap_past _ _ _ (by simp)).trans (heap_last w _ _ rfl)
 have hY0 : ((w.alloc (.cells #[.int .i64 n.1,vk,vp] 240)).alloc (.cells #[.string ⟨#[]⟩, .string ⟨#[]⟩, .int .i64 0] 125)).heap[w.heap.size+1]? = some (.cells #[.string ⟨#[]⟩, .string ⟨#[]⟩, .int .i64 0] 125):=heap_last _ _ _ (by simp)
 have hs0 : ((w.alloc (.cells #[.int .i64 n.1,vk,vp] 240)).alloc (.cells #[.string ⟨#[]⟩, .string ⟨#[]⟩, .int .i64 0] 125)).heap.size=w.heap.size+2:=by simp
 obtain ⟨ak,ck,rfl,-⟩:=Dp (hks w (Mv.refl _ _ _ _))
 obtain ⟨ap,cp,rfl,-⟩:=Dp (hps w (Mv.refl _ _ _ _))
 generalize hw0 : (w.alloc (.cells #[.int .i64 n.1, .slice ak n.2.2.length ck, .slice ap n.2.1.length cp] 240)).alloc (.cells #[.string ⟨#[]⟩, .string ⟨#[]⟩, .int .i64 0] 125)=w0 at *
 have k0:=cell_of_row w0 w.heap.size 0 _ _ _ hX0
 have k1:=cell_of_row w0 w.heap.size 1 _ _ _ hX0
 have k2:=cell_of_row w0 w.heap.size 2 _ _ _ hX0
 simp only [List.getElem?_toArray,List.getElem?_cons_zero,List.getElem?_cons_succ] at k0 k1 k2
 have hobj:=nobject_any w0 n _ _ (hks _ (Mv.of hb0 hB)) (hps _ (Mv.of hb0 hB)) (hT.keep hb0 hT.1) h0 h1
 obtain ⟨o,ho⟩ : ∃ o,o=De n:=⟨_,rfl⟩
 rw [← ho] at hobj ⊢
 obtain ⟨os',hos'⟩ : ∃ os',os'=C7 os o:=⟨_,rfl⟩
 rw [← hos']
 have HOS0:=Ac hos'
 have H0:=Ac (And.intro hb0 (And.intro hX0 (And.intro hY0 (And.intro hh (And.intro hrow hmap)))))
 clear ho hb0 hX0 hY0 hh hrow hmap h0 h1 hos'
 go_enter Tryz.func156,Tryz.ntmps156
 go_wp2_with fail
 try rw [hw0]
 go_wp2_with fail
 refine hobj.mono ?_
 rintro e wA ⟨rfl,hbA⟩
 obtain ⟨hb0,hX0,hY0,hh,hrow,hmap⟩:=H0.out
 have hbq : Below wA.heap.size wA (wA.alloc (.cells #[.string (Ab o.1), .string (Ab o.2)] 38)):=(Below.refl _ _).alloc (Nat.le_refl _) _
 have hx0:=heap_last wA (.cells #[.string (Ab o.1), .string (Ab o.2)] 38) _ rfl
 have hb0A:=hb0.trans (hbA.mono hb0.size)
 have hbw:=hb0A.trans (hbq.mono hb0A.size)
 have hqs : w.heap.size+2≤wA.heap.size:=by have:=hbA.size; omega
 have hX1:=(hbq.block _ (Ad ((hbA.block _ (Ad hX0)).trans hX0))).trans ((hbA.block _ (Ad hX0)).trans hX0)
 have hY1:=(hbq.block _ (Ad ((hbA.block _ (Ad hY0)).trans hY0))).trans ((hbA.block _ (Ad hY0)).trans hY0)
 obtain ⟨q,hq0⟩ : ∃ q,q=wA.heap.size:=⟨_,rfl⟩
 rw [← hq0] at hx0 hqs
 have hqsz : (wA.alloc (.cells #[.string (Ab o.1), .string (Ab o.2)] 38)).heap.size=q+1:=by simp [hq0]
 generalize hwq : wA.alloc (.cells #[.string (Ab o.1), .string (Ab o.2)] 38)=w00 at *
 have hqr : wA.heap.size=q:=hq0.symm
 clear hq0 hobj k0 k1 k2 hX0 hY0 hb0 hbA hbq hb0A H0
 have hh0:=(hbw.block _ (Ad hh)).trans hh
 have hrow0 : Rw B w00 38 2 Ak vo os:=Er hrow (fun q hq=>hbw.block q (hrow.lt q hq).2)
 have hmap0:=hmap.same (hbw.block _ hmap.lt)
 -- behind the look
 have hb1 : Below w00.heap.size w00 (w00.alloc (.cells #[] 215)).drew:=((Below.refl _ _).alloc (Nat.le_refl _) _).drew
 have hh1:=(hb1.block _ (Ad hh0)).trans hh0
 have hx1:=(hb1.block _ (Ad hx0)).trans hx0
 have hX2:=(hb1.block _ (Ad hX1)).trans hX1
 have hY2:=(hb1.block _ (Ad hY1)).trans hY1
 have hrow1 : Rw B (w00.alloc (.cells #[] 215)).drew 38 2 Ak vo os:=Er hrow0 (fun q hq=>hb1.block q (hrow0.lt q hq).2)
 have hmap1:=hmap0.same (hb1.block _ hmap0.lt)
 have l0:=Jb w00.drew mb os o.1 hmap0
 have l1:=Jb (w00.alloc (.cells #[] 215)).drew mb os o.1 hmap1
 have g1:=cell_of_row w00 g 1 _ _ _ hh0
 have x0:=cell_of_row w00 q 0 _ _ _ hx0
 have g1':=cell_of_row _ g 1 _ _ _ (show (w00.alloc (.cells #[] 215)).heap[g]? = _ from hh1)
 have x0':=cell_of_row _ q 0 _ _ _ (show (w00.alloc (.cells #[] 215)).heap[q]? = _ from hx1)
 simp only [List.getElem?_toArray,List.getElem?_cons_zero,List.getElem?_cons_succ] at g1 x0 g1' x0'
 have HVO:=Ac (fun q (hq' : vo.ownBlock=some q)=>(hrow.lt q hq').2)
 have H1:=Ac (And.intro hbw (And.intro hh1 (And.intro hx1 (And.intro hX2 (And.intro hY2 (And.intro hrow1 hmap1))))))
 have HB1:=Ac hb1
 clear hh hrow hmap hh0 hrow0 hmap0 hx0 hX1 hY1 hb1 hh1 hx1 hX2 hY2 hrow1 hmap1 hbw
 cases hq : os.any (fun x=>x.1 == o.1) with
 | true=>
  rw [hq] at l0 l1
  have HOS:=Ac (show os'=os by rw [HOS0.out]; unfold C7; rw [hq,if_pos rfl])
  go_wp2_with fail
  refine wp_region_held_drew (S:=fun W=>W.cell? ⟨g,1,none⟩=some (.map (some mb))∧W.cell? ⟨q,0,none⟩=some (.string (Ab o.1))∧(Instr.lookup 91 (.map (some mb)) (.string (Ab o.1)) true).run Tryz.prog W = .ok (.tuple #[.agg #[], .bool true]) W) (by kernel_rfl) (⟨g1,x0,l0⟩) (fun hHeld=>?_)
  refine Aa 0 hHeld ?_
  refine Aa 1 hHeld ?_
  refine Aa 2 hHeld ?_
  refine Aa 3 hHeld ?_
  refine Aa 4 hHeld ?_
  refine Aa 5 hHeld ?_
  refine Aa 6 hHeld ?_
  refine Aa 7 hHeld ?_
  refine Aa 8 hHeld ?_
  refine Aa 9 hHeld ?_
  refine Ai (i:=10) rfl (by kernel_rfl) rfl (fun K hK=>?_)
  go_simp
  refine hK.out _ _ (⟨g1',x0',l1⟩) (fun hHeld=>?_)
  clear hK K
  try simp only [Act.put,List.setIfInBounds_toArray,List.set_cons_zero,List.set_cons_succ]
  refine Ai (i:=11) rfl (by kernel_rfl) rfl (fun K hK=>?_)
  go_simp
  refine hK.out _ _ (⟨g1',x0',l1⟩) (fun hHeld=>?_)
  clear hK K
  try simp only [Act.put,List.setIfInBounds_toArray,List.set_cons_zero,List.set_cons_succ]
  refine Aa 12 hHeld ?_
  refine wpAnyH_done (by kernel_rfl) ?_ _
  clear hHeld
  generalize (w00.alloc (.cells #[] 215)).drew=w1 at *
  obtain ⟨hbw,hh1,hx1,hX2,hY2,hrow1,hmap1⟩:=H1.out
  have hB01:=hbw.trans (HB1.out.mono (by omega))
  have hBd : BdW B w1 g os:=⟨hg,vo,mb,hh1,hrow1,hmap1,hmb⟩
  have hM : Mv B bts none w w1:=Mv.of hB01 hB
  have TL:=Ac (And.intro hX2 (And.intro hY2 (And.intro hx1 (And.intro hBd hM))))
  clear hbw hh1 hx1 hX2 hY2 hrow1 hmap1 hBd hM hB01 H1 HB1 HVO l0 l1 g1 x0 g1' x0'
  obtain ⟨hX,hY,hZ,hBd,hM⟩:=TL.out
  have hLk:=hks _ hM.drew
  have hLp:=hps _ hM.drew
  have hBW : B≤w1.heap.size:=Nat.le_trans hB hM.size
  have u0:=cell_of_row w1 w.heap.size 0 _ _ _ hX
  have u1:=cell_of_row w1 w.heap.size 1 _ _ _ hX
  have u2:=cell_of_row w1 w.heap.size 2 _ _ _ hX
  have u3:=cell_of_row w1 q 0 _ _ _ hZ
  simp only [List.getElem?_toArray,List.getElem?_cons_zero,List.getElem?_cons_succ] at u0 u1 u2 u3
  have hcl:=Gy w1.drew n _ _ hLk hLp
  have HTL:=Ac (And.intro hX (And.intro hY (And.intro hZ (And.intro hBd hM))))
  clear hX hY hZ hBd hM hLk hLp TL
  go_wp2_with fail
  refine wp_region_held_drew (S:=fun W=>W.cell? ⟨w.heap.size,0,none⟩=some (.int .i64 n.1)∧W.cell? ⟨w.heap.size,1,none⟩=some (.slice ak n.2.2.length ck)∧W.cell? ⟨w.heap.size,2,none⟩=some (.slice ap n.2.1.length cp)∧W.cell? ⟨q,0,none⟩=some (.string (Ab o.1))) (by kernel_rfl) (⟨u0,u1,u2,u3⟩) (fun hHeld=>?_)
  refine Aa 0 hHeld ?_
  refine Aa 2 hHeld ?_
  refine Aa 3 hHeld ?_
  refine Aa 4 hHeld ?_
  refine Ai (i:=1) rfl (by kernel_rfl) rfl (fun K hK=>?_)
  go_simp
  refine hcl.mono ?_
  rintro e w5 ⟨rfl,hb5⟩
  clear hcl u0 u1 u2 u3
  have hb5' : Below w1.heap.size w1 w5:=(Below.refl _ _).drew.trans hb5
  have hX5:=(hb5'.block _ (Ad HTL.out.1)).trans HTL.out.1
  have hZ5:=(hb5'.block _ (Ad HTL.out.2.2.1)).trans HTL.out.2.2.1
  have hM5:=HTL.out.2.2.2.2.more hb5' hBW
  have u0:=cell_of_row w5 w.heap.size 0 _ _ _ hX5
  have u1:=cell_of_row w5 w.heap.size 1 _ _ _ hX5
  have u2:=cell_of_row w5 w.heap.size 2 _ _ _ hX5
  have u3:=cell_of_row w5 q 0 _ _ _ hZ5
  simp only [List.getElem?_toArray,List.getElem?_cons_zero,List.getElem?_cons_succ] at u0 u1 u2 u3
  have hcm:=G8 w5 n _ _ (hks _ hM5) (hps _ hM5) hr hs hl
  have H5:=Ac (And.intro hb5' hM5)
  clear hb5 hb5' hX5 hZ5 hM5
  refine hK.out _ _ (⟨u0,u1,u2,u3⟩) (fun hHeld=>?_)
  clear hK K
  try simp only [Act.put,List.setIfInBounds_toArray,List.set_cons_zero,List.set_cons_succ]
  refine Ai (i:=5) rfl (by kernel_rfl) rfl (fun K hK=>?_)
  go_simp
  refine hcm.mono ?_
  rintro e w6 ⟨rfl,hb6⟩
  clear hcm u0 u1 u2 u3
  have hb6' : Below w1.heap.size w1 w6:=H5.out.1.trans (hb6.mono H5.out.1.size)
  have hX6:=(hb6'.block _ (Ad HTL.out.1)).trans HTL.out.1
  have hY6:=(hb6'.block _ (Ad HTL.out.2.1)).trans HTL.out.2.1
  have hZ6:=(hb6'.block _ (Ad HTL.out.2.2.1)).trans HTL.out.2.2.1
  have hM6:=HTL.out.2.2.2.2.more hb6' hBW
  have hBd6:=HTL.out.2.2.2.1.keep hb6'
  have u0:=cell_of_row w6 w.heap.size 0 _ _ _ hX6
  have u1:=cell_of_row w6 w.heap.size 1 _ _ _ hX6
  have u2:=cell_of_row w6 w.heap.size 2 _ _ _ hX6
  have u3:=cell_of_row w6 q 0 _ _ _ hZ6
  have y0:=cell_of_row w6 (w.heap.size+1) 0 _ _ _ hY6
  have y1:=cell_of_row w6 (w.heap.size+1) 1 _ _ _ hY6
  have y2:=cell_of_row w6 (w.heap.size+1) 2 _ _ _ hY6
  simp only [List.getElem?_toArray,List.getElem?_cons_zero,List.getElem?_cons_succ] at u0 u1 u2 u3 y0 y1 y2
  have f0:=Af (j:=0) hY6
  have f1:=Af (j:=1) hY6
  have f2:=Af (j:=2) hY6
  have hqy : q≠w.heap.size+1:=Fk hZ6 hY6 (by decide)
  have hX7 : (((w6.setCell ⟨w.heap.size+1,0,none⟩ (.string (Ab (Cy n)))).setCell ⟨w.heap.size+1,1,none⟩ (.string (Ab o.1))).setCell ⟨w.heap.size+1,2,none⟩ (.int .i64 (Bt n))).heap[w.heap.size]? = _:=(Bc (by omega)).trans ((Bc (by omega)).trans ((Bc (by omega)).trans hX6))
  have hZ7 : (((w6.setCell ⟨w.heap.size+1,0,none⟩ (.string (Ab (Cy n)))).setCell ⟨w.heap.size+1,1,none⟩ (.string (Ab o.1))).setCell ⟨w.heap.size+1,2,none⟩ (.int .i64 (Bt n))).heap[q]? = _:=(Bc hqy).trans ((Bc hqy).trans ((Bc hqy).trans hZ6))
  have t0:=cell_of_row _ w.heap.size 0 _ _ _ hX7
  have t1:=cell_of_row _ w.heap.size 1 _ _ _ hX7
  have t2:=cell_of_row _ w.heap.size 2 _ _ _ hX7
  have t3:=cell_of_row _ q 0 _ _ _ hZ7
  simp only [List.getElem?_toArray,List.getElem?_cons_zero,List.getElem?_cons_succ] at t0 t1 t2 t3
  have H6:=Ac (And.intro hY6 (And.intro hM6 hBd6))
  clear hb6 hb6' hX6 hY6 hZ6 hM6 hBd6 hX7 hZ7 H5 hqy
  refine hK.out _ _ (⟨u0,u1,u2,u3⟩) (fun hHeld=>?_)
  clear hK K
  try simp only [Act.put,List.setIfInBounds_toArray,List.set_cons_zero,List.set_cons_succ]
  refine Aa 6 hHeld ?_
  refine Ai (i:=7) rfl (by kernel_rfl) rfl (fun K hK=>?_)
  go_simp
  refine hK.out _ _ (⟨t0,t1,t2,t3⟩) (fun hHeld=>?_)
  clear hK K
  try simp only [Act.put,List.setIfInBounds_toArray,List.set_cons_zero,List.set_cons_succ]
  refine wpAnyH_done (by kernel_rfl) ?_ _
  clear hHeld
  go_wp2
  refine bodyPost_ret (results_cell_row rfl _ _ _ _ _ _ _ rfl (Bm H6.out.1) Tryz.underlying125 rfl Tryz.infoLinkP) rfl ⟨rfl,?_,?_⟩
  ·rw [HOS.out]
   obtain ⟨hY6,hM6,hg',vo',mb',g1,g2,g3,g4⟩:=H6.out
   have hm : Mv B [125] none w6 (((w6.setCell ⟨w.heap.size+1,0,none⟩ (.string (Ab (Cy n)))).setCell ⟨w.heap.size+1,1,none⟩ (.string (Ab o.1))).setCell ⟨w.heap.size+1,2,none⟩ (.int .i64 (Bt n))):=(((Mv.refl B _ none w6).set (j:=0) hY6 (by decide) (by omega) _).set (j:=1) (An hY6) (by decide) (by omega) _).set (j:=2) (Az (An hY6)) (by decide) (by omega) _
   exact ⟨hg',vo',mb',hm.k _ _ _ _ g1 (by decide) (by simp),hm.own0 g2 (by decide),map_set (map_set (map_set g3 hY6 _) (An hY6) _) (Az (An hY6)) _,g4⟩
  ·exact ((H6.out.2.1.setNew (j:=0) (by omega) hB _).setNew (j:=1) (by omega) hB _).setNew (j:=2) (by omega) hB _
 | false=>
  rw [hq] at l0 l1
  have HOS:=Ac (show os'=os ++ [o] by rw [HOS0.out]; unfold C7; rw [hq,if_neg (by simp)])
  go_wp2_with fail
  refine wp_region_held_drew (S:=fun W=>W.cell? ⟨g,1,none⟩=some (.map (some mb))∧W.cell? ⟨q,0,none⟩=some (.string (Ab o.1))∧(Instr.lookup 91 (.map (some mb)) (.string (Ab o.1)) true).run Tryz.prog W = .ok (.tuple #[.agg #[], .bool false]) W) (by kernel_rfl) (⟨g1,x0,l0⟩) (fun hHeld=>?_)
  refine Aa 0 hHeld ?_
  refine Aa 1 hHeld ?_
  refine Aa 2 hHeld ?_
  refine Aa 3 hHeld ?_
  refine Aa 4 hHeld ?_
  refine Aa 5 hHeld ?_
  refine Aa 6 hHeld ?_
  refine Aa 7 hHeld ?_
  refine Aa 8 hHeld ?_
  refine Aa 9 hHeld ?_
  refine Ai (i:=10) rfl (by kernel_rfl) rfl (fun K hK=>?_)
  go_simp
  refine hK.out _ _ (⟨g1',x0',l1⟩) (fun hHeld=>?_)
  clear hK K
  try simp only [Act.put,List.setIfInBounds_toArray,List.set_cons_zero,List.set_cons_succ]
  refine Ai (i:=11) rfl (by kernel_rfl) rfl (fun K hK=>?_)
  go_simp
  refine hK.out _ _ (⟨g1',x0',l1⟩) (fun hHeld=>?_)
  clear hK K
  try simp only [Act.put,List.setIfInBounds_toArray,List.set_cons_zero,List.set_cons_succ]
  refine Aa 12 hHeld ?_
  refine wpAnyH_done (by kernel_rfl) ?_ _
  clear hHeld
  generalize (w00.alloc (.cells #[] 215)).drew=w1 at *
  obtain ⟨hbw,hh1,hx1,hX2,hY2,hrow1,hmap1⟩:=H1.out
  have hB01:=hbw.trans (HB1.out.mono (by omega))
  have hs1 : q+1≤w1.heap.size:=by have:=HB1.out.size; omega
  obtain ⟨w2,hput,hmap2,hc2,hsz2⟩:=map_put w1.drew mb os o hmap1 hq
  have hh2:=(hc2.block g (Ad hh1) (hmap1.ne hh1)).trans hh1
  have hx2:=(hc2.block q (Ad hx1) (hmap1.ne hx1)).trans hx1
  have hX3:=(hc2.block _ (Ad hX2) (hmap1.ne hX2)).trans hX2
  have hY3:=(hc2.block _ (Ad hY2) (hmap1.ne hY2)).trans hY2
  have hvlt : ∀ q,vo.ownBlock=some q→q<w.heap.size:=HVO.out
  have hrow2 : Rw B w2 38 2 Ak vo os:=Er hrow1 (fun q hq'=>hc2.block q (hrow1.lt q hq').2 (by
   obtain ⟨c,fz,h1⟩:=Lib.ownsRow_kind hrow1 q hq'
   exact hmap1.ne h1))
  obtain ⟨es,ck',hes,-⟩:=hmap1
  have hM2 : Mv B bts none w w2:=(Mv.of hB01 hB).drew.map hc2 hmb hes
  have hB2 : B≤w2.heap.size:=by have:=hc2.size; simp at this; omega
  obtain ⟨vn,w3,hrun3,hrow3,hgr3,-⟩:=app_obj w2.drew B vo os o hrow2 hB2 hn
  rw [Hb] at hrun3 hgr3
  rw [show w2.drew.heap.size=w2.heap.size from rfl] at hrun3
  have hrowA : Rw B (w2.alloc (.cells #[.string (Ab o.1), .string (Ab o.2)] 38)).drew 38 2 Ak vo os:=World.ownsRow.alloc hrow2 _
  have hhA:=(heap_past w2 (.cells #[.string (Ab o.1), .string (Ab o.2)] 38) _ (Ad hh2)).trans hh2
  have hxA:=(heap_past w2 (.cells #[.string (Ab o.1), .string (Ab o.2)] 38) _ (Ad hx2)).trans hx2
  have hXA:=(heap_past w2 (.cells #[.string (Ab o.1), .string (Ab o.2)] 38) _ (Ad hX3)).trans hX3
  have hYA:=(heap_past w2 (.cells #[.string (Ab o.1), .string (Ab o.2)] 38) _ (Ad hY3)).trans hY3
  have hmA : Mp.MapW (w2.alloc (.cells #[.string (Ab o.1), .string (Ab o.2)] 38)) mb (Dz (os ++ [o])):=hmap2.same (heap_past w2 (.cells #[.string (Ab o.1), .string (Ab o.2)] 38) _ hmap2.lt)
  have hh3:=Ej hrowA hgr3 (show (w2.alloc _).drew.heap[g]? = _ from hhA) (by decide)
  have hXB:=Ej hrowA hgr3 (show (w2.alloc _).drew.heap[w.heap.size]? = _ from hXA) (by decide)
  have hYB:=Ej hrowA hgr3 (show (w2.alloc _).drew.heap[w.heap.size+1]? = _ from hYA) (by decide)
  have hx3:=(hgr3.block q (show q<(w2.alloc _).heap.size from Ad hxA) (fun hq'=>by have:=hvlt _ hq'.symm; omega)).trans hxA
  have hm3 : Mp.MapW w3 mb (Dz (os ++ [o])):=hmA.same (hgr3.block mb hmA.lt (fun hq'=>by
   obtain ⟨c,fz,h1⟩:=Lib.ownsRow_kind hrow2 mb hq'.symm
   exact absurd rfl (hmap2.ne h1)))
  have hM3 : Mv B bts none w w3:=(hM2.alloc hB2 _).drew.grown hrowA hgr3 (by decide) (by simp; omega)
  have hM4 : Mv B bts none w (w3.setCell ⟨g,0,none⟩ vn):=hM3.set hh3 (by decide) hg _
  have hx4:=(Bc (j:=0) (u:=vn) (Fk hx3 hh3 (by decide))).trans hx3
  have hX4:=(Bc (j:=0) (u:=vn) (Fk hXB hh3 (by decide))).trans hXB
  have hY4:=(Bc (j:=0) (u:=vn) (Fk hYB hh3 (by decide))).trans hYB
  have hBd : BdW B (w3.setCell ⟨g,0,none⟩ vn) g (os ++ [o]):=⟨hg,vn,mb,Nw hh3,Ap hrow3 hh3 (by decide) _,map_set hm3 hh3 _,hmb⟩
  have cx : ∀ W : World,W.heap[q]? = some (.cells #[.string (Ab o.1), .string (Ab o.2)] 38)→W.cell? ⟨q,0,none⟩=some (.string (Ab o.1))∧W.cell? ⟨q,1,none⟩=some (.string (Ab o.2)):=fun W hW=>by
   have e0:=cell_of_row W q 0 _ _ _ hW
   have e1:=cell_of_row W q 1 _ _ _ hW
   simp only [List.getElem?_toArray,List.getElem?_cons_zero,List.getElem?_cons_succ] at e0 e1
   exact ⟨e0,e1⟩
  have X1:=Ac (cx _ hx1)
  have X2:=Ac (cx _ hx2)
  have XA:=Ac (cx _ hxA)
  have X3:=Ac (cx _ hx3)
  have X4:=Ac (cx _ hx4)
  have m1:=cell_of_row w1 g 1 _ _ _ hh1
  have m2:=cell_of_row w2 g 1 _ _ _ hh2
  have o2:=cell_of_row w2 g 0 _ _ _ hh2
  have oA:=cell_of_row _ g 0 _ _ _ hhA
  have o3:=cell_of_row w3 g 0 _ _ _ hh3
  have c1:=(cx _ hx1).1
  simp only [List.getElem?_toArray,List.getElem?_cons_zero,List.getElem?_cons_succ] at m1 m2 o2 oA o3
  have f3:=Af (j:=0) hh3
  have FIN:=Ac (And.intro hBd (And.intro hM4 (And.intro hX4 (And.intro hY4 hx4))))
  have HRUN:=Ac hrun3
  obtain ⟨vnA,vnm,vnc,rfl⟩:=Av hrow3
  clear hbw hB01 hh1 hx1 hX2 hY2 hrow1 hmap2 hc2 hh2 hx2 hX3 hY3 hvlt hrow2 hes hM2 hrow3 hgr3 hrowA hhA hxA hXA hYA hmA hh3 hXB hYB hx3 hm3 hM3 hM4 hx4 hX4 hY4 hBd cx hsz2 l0 l1 hrun3 g1 x0 g1' x0' H1 HB1 HVO
  go_wp2_with fail
  refine wp_region_held_drew (S:=fun W=>W.cell? ⟨g,1,none⟩=some (.map (some mb))∧W.cell? ⟨q,0,none⟩=some (.string (Ab o.1))) (by kernel_rfl) (⟨m1,c1⟩) (fun hHeld=>?_)
  refine Aa 0 hHeld ?_
  refine Aa 1 hHeld ?_
  refine Aa 2 hHeld ?_
  refine Aa 3 hHeld ?_
  refine Aa 4 hHeld ?_
  refine Aa 5 hHeld ?_
  refine Aa 6 hHeld ?_
  refine Ai (i:=7) rfl (by kernel_rfl) rfl (fun K hK=>?_)
  go_simp
  refine hK.out _ _ (⟨m2,X2.out.1⟩) (fun hHeld=>?_)
  clear hK K
  try simp only [Act.put,List.setIfInBounds_toArray,List.set_cons_zero,List.set_cons_succ]
  refine wpAnyH_done (by kernel_rfl) ?_ _
  clear hHeld
  go_wp2_with fail
  refine wp_region_held_drew (S:=fun W=>W.cell? ⟨q,0,none⟩=some (.string (Ab o.1))∧W.cell? ⟨q,1,none⟩=some (.string (Ab o.2))) (by kernel_rfl) (X2.out) (fun hHeld=>?_)
  refine Aa 0 hHeld ?_
  refine Aa 1 hHeld ?_
  refine Aa 2 hHeld ?_
  refine Aa 3 hHeld ?_
  refine Aa 5 hHeld ?_
  refine twoH (i:=4) (j:=6) rfl rfl (by kernel_rfl) rfl rfl (fun K hK=>?_) (fun K hK=>?_)
  ·go_simp
   refine hK.out _ _ (X2.out) (fun hHeld=>?_)
   clear hK K
   try simp only [Act.put,List.setIfInBounds_toArray,List.set_cons_zero,List.set_cons_succ]
   refine Ai (i:=6) rfl (by kernel_rfl) rfl (fun K hK=>?_)
   go_simp
   refine hK.out _ _ (XA.out) (fun hHeld=>?_)
   clear hK K
   try simp only [Act.put,List.setIfInBounds_toArray,List.set_cons_zero,List.set_cons_succ]
   refine Ai (i:=7) rfl (by kernel_rfl) rfl (fun K hK=>?_)
   refine Cz (.tmp 37) (.tmp 39) 22 rfl rfl rfl HRUN.out ?_
   refine hK.out _ _ (X3.out) (fun hHeld=>?_)
   clear hK K
   try simp only [Act.put,List.setIfInBounds_toArray,List.set_cons_zero,List.set_cons_succ]
   refine Aa 8 hHeld ?_
   refine Aa 9 hHeld ?_
   refine Ai (i:=10) rfl (by kernel_rfl) rfl (fun K hK=>?_)
   go_simp
   refine hK.out _ _ (X4.out) (fun hHeld=>?_)
   clear hK K
   try simp only [Act.put,List.setIfInBounds_toArray,List.set_cons_zero,List.set_cons_succ]
   refine wpAnyH_done (by kernel_rfl) ?_ _
   clear hHeld
   obtain ⟨hBd4,hM4,hX4,hY4,hZ4⟩:=FIN.out
   have TL:=Ac (And.intro hX4 (And.intro hY4 (And.intro hZ4 (And.intro hBd4 hM4))))
   clear FIN hBd4 hM4 hX4 hY4 hZ4 X1 X2 XA X3 X4 HRUN m1 m2 o2 oA o3 c1 f3
   generalize w3.setCell ⟨g,0,none⟩ (.slice vnA vnm vnc)=w4 at *
   obtain ⟨hX,hY,hZ,hBd,hM⟩:=TL.out
   have hLk:=hks _ hM.drew
   have hLp:=hps _ hM.drew
   have hBW : B≤w4.heap.size:=Nat.le_trans hB hM.size
   have u0:=cell_of_row w4 w.heap.size 0 _ _ _ hX
   have u1:=cell_of_row w4 w.heap.size 1 _ _ _ hX
   have u2:=cell_of_row w4 w.heap.size 2 _ _ _ hX
   have u3:=cell_of_row w4 q 0 _ _ _ hZ
   simp only [List.getElem?_toArray,List.getElem?_cons_zero,List.getElem?_cons_succ] at u0 u1 u2 u3
   have hcl:=Gy w4.drew n _ _ hLk hLp
   have HTL:=Ac (And.intro hX (And.intro hY (And.intro hZ (And.intro hBd hM))))
   clear hX hY hZ hBd hM hLk hLp TL
   go_wp2_with fail
   refine wp_region_held_drew (S:=fun W=>W.cell? ⟨w.heap.size,0,none⟩=some (.int .i64 n.1)∧W.cell? ⟨w.heap.size,1,none⟩=some (.slice ak n.2.2.length ck)∧W.cell? ⟨w.heap.size,2,none⟩=some (.slice ap n.2.1.length cp)∧W.cell? ⟨q,0,none⟩=some (.string (Ab o.1))) (by kernel_rfl) (⟨u0,u1,u2,u3⟩) (fun hHeld=>?_)
   refine Aa 0 hHeld ?_
   refine Aa 2 hHeld ?_
   refine Aa 3 hHeld ?_
   refine Aa 4 hHeld ?_
   refine Ai (i:=1) rfl (by kernel_rfl) rfl (fun K hK=>?_)
   go_simp
   refine hcl.mono ?_
   rintro e w5 ⟨rfl,hb5⟩
   clear hcl u0 u1 u2 u3
   have hb5' : Below w4.heap.size w4 w5:=(Below.refl _ _).drew.trans hb5
   have hX5:=(hb5'.block _ (Ad HTL.out.1)).trans HTL.out.1
   have hZ5:=(hb5'.block _ (Ad HTL.out.2.2.1)).trans HTL.out.2.2.1
   have hM5:=HTL.out.2.2.2.2.more hb5' hBW
   have u0:=cell_of_row w5 w.heap.size 0 _ _ _ hX5
   have u1:=cell_of_row w5 w.heap.size 1 _ _ _ hX5
   have u2:=cell_of_row w5 w.heap.size 2 _ _ _ hX5
   have u3:=cell_of_row w5 q 0 _ _ _ hZ5
   simp only [List.getElem?_toArray,List.getElem?_cons_zero,List.getElem?_cons_succ] at u0 u1 u2 u3
   have hcm:=G8 w5 n _ _ (hks _ hM5) (hps _ hM5) hr hs hl
   have H5:=Ac (And.intro hb5' hM5)
   clear hb5 hb5' hX5 hZ5 hM5
   refine hK.out _ _ (⟨u0,u1,u2,u3⟩) (fun hHeld=>?_)
   clear hK K
   try simp only [Act.put,List.setIfInBounds_toArray,List.set_cons_zero,List.set_cons_succ]
   refine Ai (i:=5) rfl (by kernel_rfl) rfl (fun K hK=>?_)
   go_simp
   refine hcm.mono ?_
   rintro e w6 ⟨rfl,hb6⟩
   clear hcm u0 u1 u2 u3
   have hb6' : Below w4.heap.size w4 w6:=H5.out.1.trans (hb6.mono H5.out.1.size)
   have hX6:=(hb6'.block _ (Ad HTL.out.1)).trans HTL.out.1
   have hY6:=(hb6'.block _ (Ad HTL.out.2.1)).trans HTL.out.2.1
   have hZ6:=(hb6'.block _ (Ad HTL.out.2.2.1)).trans HTL.out.2.2.1
   have hM6:=HTL.out.2.2.2.2.more hb6' hBW
   have hBd6:=HTL.out.2.2.2.1.keep hb6'
   have u0:=cell_of_row w6 w.heap.size 0 _ _ _ hX6
   have u1:=cell_of_row w6 w.heap.size 1 _ _ _ hX6
   have u2:=cell_of_row w6 w.heap.size 2 _ _ _ hX6
   have u3:=cell_of_row w6 q 0 _ _ _ hZ6
   have y0:=cell_of_row w6 (w.heap.size+1) 0 _ _ _ hY6
   have y1:=cell_of_row w6 (w.heap.size+1) 1 _ _ _ hY6
   have y2:=cell_of_row w6 (w.heap.size+1) 2 _ _ _ hY6
   simp only [List.getElem?_toArray,List.getElem?_cons_zero,List.getElem?_cons_succ] at u0 u1 u2 u3 y0 y1 y2
   have f0:=Af (j:=0) hY6
   have f1:=Af (j:=1) hY6
   have f2:=Af (j:=2) hY6
   have hqy : q≠w.heap.size+1:=Fk hZ6 hY6 (by decide)
   have hX7 : (((w6.setCell ⟨w.heap.size+1,0,none⟩ (.string (Ab (Cy n)))).setCell ⟨w.heap.size+1,1,none⟩ (.string (Ab o.1))).setCell ⟨w.heap.size+1,2,none⟩ (.int .i64 (Bt n))).heap[w.heap.size]? = _:=(Bc (by omega)).trans ((Bc (by omega)).trans ((Bc (by omega)).trans hX6))
   have hZ7 : (((w6.setCell ⟨w.heap.size+1,0,none⟩ (.string (Ab (Cy n)))).setCell ⟨w.heap.size+1,1,none⟩ (.string (Ab o.1))).setCell ⟨w.heap.size+1,2,none⟩ (.int .i64 (Bt n))).heap[q]? = _:=(Bc hqy).trans ((Bc hqy).trans ((Bc hqy).trans hZ6))
   have t0:=cell_of_row _ w.heap.size 0 _ _ _ hX7
   have t1:=cell_of_row _ w.heap.size 1 _ _ _ hX7
   have t2:=cell_of_row _ w.heap.size 2 _ _ _ hX7
   have t3:=cell_of_row _ q 0 _ _ _ hZ7
   simp only [List.getElem?_toArray,List.getElem?_cons_zero,List.getElem?_cons_succ] at t0 t1 t2 t3
   have H6:=Ac (And.intro hY6 (And.intro hM6 hBd6))
   clear hb6 hb6' hX6 hY6 hZ6 hM6 hBd6 hX7 hZ7 H5 hqy
   refine hK.out _ _ (⟨u0,u1,u2,u3⟩) (fun hHeld=>?_)
   clear hK K
   try simp only [Act.put,List.setIfInBounds_toArray,List.set_cons_zero,List.set_cons_succ]
   refine Aa 6 hHeld ?_
   refine Ai (i:=7) rfl (by kernel_rfl) rfl (fun K hK=>?_)
   go_simp
   refine hK.out _ _ (⟨t0,t1,t2,t3⟩) (fun hHeld=>?_)
   clear hK K
   try simp only [Act.put,List.setIfInBounds_toArray,List.set_cons_zero,List.set_cons_succ]
   refine wpAnyH_done (by kernel_rfl) ?_ _
   clear hHeld
   go_wp2
   refine bodyPost_ret (results_cell_row rfl _ _ _ _ _ _ _ rfl (Bm H6.out.1) Tryz.underlying125 rfl Tryz.infoLinkP) rfl ⟨rfl,?_,?_⟩
   ·rw [HOS.out]
    obtain ⟨hY6,hM6,hg',vo',mb',g1,g2,g3,g4⟩:=H6.out
    have hm : Mv B [125] none w6 (((w6.setCell ⟨w.heap.size+1,0,none⟩ (.string (Ab (Cy n)))).setCell ⟨w.heap.size+1,1,none⟩ (.string (Ab o.1))).setCell ⟨w.heap.size+1,2,none⟩ (.int .i64 (Bt n))):=(((Mv.refl B _ none w6).set (j:=0) hY6 (by decide) (by omega) _).set (j:=1) (An hY6) (by decide) (by omega) _).set (j:=2) (Az (An hY6)) (by decide) (by omega) _
    exact ⟨hg',vo',mb',hm.k _ _ _ _ g1 (by decide) (by simp),hm.own0 g2 (by decide),map_set (map_set (map_set g3 hY6 _) (An hY6) _) (Az (An hY6)) _,g4⟩
   ·exact ((H6.out.2.1.setNew (j:=0) (by omega) hB _).setNew (j:=1) (by omega) hB _).setNew (j:=2) (by omega) hB _
  ·go_simp
   refine hK.out _ _ (XA.out) (fun hHeld=>?_)
   clear hK K
   try simp only [Act.put,List.setIfInBounds_toArray,List.set_cons_zero,List.set_cons_succ]
   refine Ai (i:=4) rfl (by kernel_rfl) rfl (fun K hK=>?_)
   go_simp
   refine hK.out _ _ (XA.out) (fun hHeld=>?_)
   clear hK K
   try simp only [Act.put,List.setIfInBounds_toArray,List.set_cons_zero,List.set_cons_succ]
   refine Ai (i:=7) rfl (by kernel_rfl) rfl (fun K hK=>?_)
   refine Cz (.tmp 37) (.tmp 39) 22 rfl rfl rfl HRUN.out ?_
   refine hK.out _ _ (X3.out) (fun hHeld=>?_)
   clear hK K
   try simp only [Act.put,List.setIfInBounds_toArray,List.set_cons_zero,List.set_cons_succ]
   refine Aa 8 hHeld ?_
   refine Aa 9 hHeld ?_
   refine Ai (i:=10) rfl (by kernel_rfl) rfl (fun K hK=>?_)
   go_simp
   refine hK.out _ _ (X4.out) (fun hHeld=>?_)
   clear hK K
   try simp only [Act.put,List.setIfInBounds_toArray,List.set_cons_zero,List.set_cons_succ]
   refine wpAnyH_done (by kernel_rfl) ?_ _
   clear hHeld
   obtain ⟨hBd4,hM4,hX4,hY4,hZ4⟩:=FIN.out
   have TL:=Ac (And.intro hX4 (And.intro hY4 (And.intro hZ4 (And.intro hBd4 hM4))))
   clear FIN hBd4 hM4 hX4 hY4 hZ4 X1 X2 XA X3 X4 HRUN m1 m2 o2 oA o3 c1 f3
   generalize w3.setCell ⟨g,0,none⟩ (.slice vnA vnm vnc)=w4 at *
   obtain ⟨hX,hY,hZ,hBd,hM⟩:=TL.out
   have hLk:=hks _ hM.drew
   have hLp:=hps _ hM.drew
   have hBW : B≤w4.heap.size:=Nat.le_trans hB hM.size
   have u0:=cell_of_row w4 w.heap.size 0 _ _ _ hX
   have u1:=cell_of_row w4 w.heap.size 1 _ _ _ hX
   have u2:=cell_of_row w4 w.heap.size 2 _ _ _ hX
   have u3:=cell_of_row w4 q 0 _ _ _ hZ
   simp only [List.getElem?_toArray,List.getElem?_cons_zero,List.getElem?_cons_succ] at u0 u1 u2 u3
   have hcl:=Gy w4.drew n _ _ hLk hLp
   have HTL:=Ac (And.intro hX (And.intro hY (And.intro hZ (And.intro hBd hM))))
   clear hX hY hZ hBd hM hLk hLp TL
   go_wp2_with fail
   refine wp_region_held_drew (S:=fun W=>W.cell? ⟨w.heap.size,0,none⟩=some (.int .i64 n.1)∧W.cell? ⟨w.heap.size,1,none⟩=some (.slice ak n.2.2.length ck)∧W.cell? ⟨w.heap.size,2,none⟩=some (.slice ap n.2.1.length cp)∧W.cell? ⟨q,0,none⟩=some (.string (Ab o.1))) (by kernel_rfl) (⟨u0,u1,u2,u3⟩) (fun hHeld=>?_)
   refine Aa 0 hHeld ?_
   refine Aa 2 hHeld ?_
   refine Aa 3 hHeld ?_
   refine Aa 4 hHeld ?_
   refine Ai (i:=1) rfl (by kernel_rfl) rfl (fun K hK=>?_)
   go_simp
   refine hcl.mono ?_
   rintro e w5 ⟨rfl,hb5⟩
   clear hcl u0 u1 u2 u3
   have hb5' : Below w4.heap.size w4 w5:=(Below.refl _ _).drew.trans hb5
   have hX5:=(hb5'.block _ (Ad HTL.out.1)).trans HTL.out.1
   have hZ5:=(hb5'.block _ (Ad HTL.out.2.2.1)).trans HTL.out.2.2.1
   have hM5:=HTL.out.2.2.2.2.more hb5' hBW
   have u0:=cell_of_row w5 w.heap.size 0 _ _ _ hX5
   have u1:=cell_of_row w5 w.heap.size 1 _ _ _ hX5
   have u2:=cell_of_row w5 w.heap.size 2 _ _ _ hX5
   have u3:=cell_of_row w5 q 0 _ _ _ hZ5
   simp only [List.getElem?_toArray,List.getElem?_cons_zero,List.getElem?_cons_succ] at u0 u1 u2 u3
   have hcm:=G8 w5 n _ _ (hks _ hM5) (hps _ hM5) hr hs hl
   have H5:=Ac (And.intro hb5' hM5)
   clear hb5 hb5' hX5 hZ5 hM5
   refine hK.out _ _ (⟨u0,u1,u2,u3⟩) (fun hHeld=>?_)
   clear hK K
   try simp only [Act.put,List.setIfInBounds_toArray,List.set_cons_zero,List.set_cons_succ]
   refine Ai (i:=5) rfl (by kernel_rfl) rfl (fun K hK=>?_)
   go_simp
   refine hcm.mono ?_
   rintro e w6 ⟨rfl,hb6⟩
   clear hcm u0 u1 u2 u3
   have hb6' : Below w4.heap.size w4 w6:=H5.out.1.trans (hb6.mono H5.out.1.size)
   have hX6:=(hb6'.block _ (Ad HTL.out.1)).trans HTL.out.1
   have hY6:=(hb6'.block _ (Ad HTL.out.2.1)).trans HTL.out.2.1
   have hZ6:=(hb6'.block _ (Ad HTL.out.2.2.1)).trans HTL.out.2.2.1
   have hM6:=HTL.out.2.2.2.2.more hb6' hBW
   have hBd6:=HTL.out.2.2.2.1.keep hb6'
   have u0:=cell_of_row w6 w.heap.size 0 _ _ _ hX6
   have u1:=cell_of_row w6 w.heap.size 1 _ _ _ hX6
   have u2:=cell_of_row w6 w.heap.size 2 _ _ _ hX6
   have u3:=cell_of_row w6 q 0 _ _ _ hZ6
   have y0:=cell_of_row w6 (w.heap.size+1) 0 _ _ _ hY6
   have y1:=cell_of_row w6 (w.heap.size+1) 1 _ _ _ hY6
   have y2:=cell_of_row w6 (w.heap.size+1) 2 _ _ _ hY6
   simp only [List.getElem?_toArray,List.getElem?_cons_zero,List.getElem?_cons_succ] at u0 u1 u2 u3 y0 y1 y2
   have f0:=Af (j:=0) hY6
   have f1:=Af (j:=1) hY6
   have f2:=Af (j:=2) hY6
   have hqy : q≠w.heap.size+1:=Fk hZ6 hY6 (by decide)
   have hX7 : (((w6.setCell ⟨w.heap.size+1,0,none⟩ (.string (Ab (Cy n)))).setCell ⟨w.heap.size+1,1,none⟩ (.string (Ab o.1))).setCell ⟨w.heap.size+1,2,none⟩ (.int .i64 (Bt n))).heap[w.heap.size]? = _:=(Bc (by omega)).trans ((Bc (by omega)).trans ((Bc (by omega)).trans hX6))
   have hZ7 : (((w6.setCell ⟨w.heap.size+1,0,none⟩ (.string (Ab (Cy n)))).setCell ⟨w.heap.size+1,1,none⟩ (.string (Ab o.1))).setCell ⟨w.heap.size+1,2,none⟩ (.int .i64 (Bt n))).heap[q]? = _:=(Bc hqy).trans ((Bc hqy).trans ((Bc hqy).trans hZ6))
   have t0:=cell_of_row _ w.heap.size 0 _ _ _ hX7
   have t1:=cell_of_row _ w.heap.size 1 _ _ _ hX7
   have t2:=cell_of_row _ w.heap.size 2 _ _ _ hX7
   have t3:=cell_of_row _ q 0 _ _ _ hZ7
   simp only [List.getElem?_toArray,List.getElem?_cons_zero,List.getElem?_cons_succ] at t0 t1 t2 t3
   have H6:=Ac (And.intro hY6 (And.intro hM6 hBd6))
   clear hb6 hb6' hX6 hY6 hZ6 hM6 hBd6 hX7 hZ7 H5 hqy
   refine hK.out _ _ (⟨u0,u1,u2,u3⟩) (fun hHeld=>?_)
   clear hK K
   try simp only [Act.put,List.setIfInBounds_toArray,List.set_cons_zero,List.set_cons_succ]
   refine Aa 6 hHeld ?_
   refine Ai (i:=7) rfl (by kernel_rfl) rfl (fun K hK=>?_)
   go_simp
   refine hK.out _ _ (⟨t0,t1,t2,t3⟩) (fun hHeld=>?_)
   clear hK K
   try simp only [Act.put,List.setIfInBounds_toArray,List.set_cons_zero,List.set_cons_succ]
   refine wpAnyH_done (by kernel_rfl) ?_ _
   clear hHeld
   go_wp2
   refine bodyPost_ret (results_cell_row rfl _ _ _ _ _ _ _ rfl (Bm H6.out.1) Tryz.underlying125 rfl Tryz.infoLinkP) rfl ⟨rfl,?_,?_⟩
   ·rw [HOS.out]
    obtain ⟨hY6,hM6,hg',vo',mb',g1,g2,g3,g4⟩:=H6.out
    have hm : Mv B [125] none w6 (((w6.setCell ⟨w.heap.size+1,0,none⟩ (.string (Ab (Cy n)))).setCell ⟨w.heap.size+1,1,none⟩ (.string (Ab o.1))).setCell ⟨w.heap.size+1,2,none⟩ (.int .i64 (Bt n))):=(((Mv.refl B _ none w6).set (j:=0) hY6 (by decide) (by omega) _).set (j:=1) (An hY6) (by decide) (by omega) _).set (j:=2) (Az (An hY6)) (by decide) (by omega) _
    exact ⟨hg',vo',mb',hm.k _ _ _ _ g1 (by decide) (by simp),hm.own0 g2 (by decide),map_set (map_set (map_set g3 hY6 _) (An hY6) _) (Az (An hY6)) _,g4⟩
   ·exact ((H6.out.2.1.setNew (j:=0) (by omega) hB _).setNew (j:=1) (by omega) hB _).setNew (j:=2) (by omega) hB _
end Go.Proofs.YtckejblkppllaaaGreatDoor
