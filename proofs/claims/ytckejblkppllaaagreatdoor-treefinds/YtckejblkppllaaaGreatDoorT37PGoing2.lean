/-
  Texts joined: PGoing2, PGoing3, PThrough.
-/
import Derived.Test.YtckejblkppllaaaGreatDoorT36PSteps
namespace Go.Proofs.YtckejblkppllaaaGreatDoor
open Go.RowKit
set_option maxRecDepth 40000 in
set_option maxHeartbeats 6400000 in
theorem goToKids_any {σ : Type} (W : World) (l : Nat) (k : Sink σ) (g : Nat) (caps : Array Value) (fd : Bs→Option Bs) (B : Nat) (sts kts : List TypeId) (J Jx : Value→σ→World→Prop) (hY : YieldOk l k B sts J Jx) (I : World→List Bs→Prop) (hG : GetOk g caps fd B kts I) (_hkt : 135∈kts∧255∈kts∧∀ t∈sts,t∈kts)
  (gb : Nat) (lo hi : Bs) (d : Nat) (hrec : IntoOk l k fd B sts J Jx I gb (.func (.func g) #[] caps) lo hi d) (v : Value) (t : Tst σ) (hJ : J v t.s W) (hg : GoW B W gb (.func (.func g) #[] caps) (.func (.yield l) #[] #[]) lo hi t.told) (hI : I W t.asked)
  (lv : Int) (ks : List Ah) (ka : Option Addr) (kc : Nat) (pa : Option Addr) (pm pc : Nat) (hlv : 1≤lv) (hlv2 : lv≤d+1) (hlv3 : lv≤20) (hks : ∀ q∈ks,A6 q=true) (hsure : ∀ W',Mv B (gts sts) v.ownBlock W W'→Ls W'.heap.size W' 3 Au (.slice ka ks.length kc) ks) (hlen : ks.length≤64) (hak : t.asked.length+(d+1) * (Am ks).toNat≤1000000000) (hcap : k.cap t.s+(Am ks).toNat≤1000000) :
  Calls Tryz.prog 186 #[.pointer (some ⟨gb,0,none⟩), .agg #[.int .i64 lv, .slice ka ks.length kc, .slice pa pm pc]] W fun e W'=>Fr B sts J Jx I gb (.func (.func g) #[] caps) (.func (.yield l) #[] #[]) lo hi v W (Bx (fun q u=>goT k fd lo hi (d+1) q (lv - 1) u) lo hi ks t) e W':=by
 have hB : B≤W.heap.size:=by have:=Ad hg.cell; have:=hg.le; omega
 obtain ⟨R,hR⟩ : ∃ R,R=Bx (fun q u=>goT k fd lo hi (d+1) q (lv - 1) u) lo hi ks t:=⟨_,rfl⟩
 rw [← hR]
 have hb0 : Below W.heap.size W (W.alloc (.cells #[.int .i64 lv, .slice ka ks.length kc, .slice pa pm pc] 240)):=(Below.refl _ _).alloc (Nat.le_refl _) _
 have hn0:=heap_last W (.cells #[.int .i64 lv, .slice ka ks.length kc, .slice pa pm pc] 240) _ rfl
 have HS:=Ac hsure
 have HG:=Ac hG
 have HKS:=Ac hks
 have H0:=Ac (And.intro hR (And.intro (hY.keep hJ (Mv.of hb0 hB) (KO.of hb0)) (And.intro (hg.below hb0) (And.intro (hG.below hI hb0) (And.intro ((Mv.refl B (gts sts) v.ownBlock W).more hb0 hB) (And.intro hn0 (And.intro hak hcap)))))))
 generalize hw0 : W.alloc (.cells #[.int .i64 lv, .slice ka ks.length kc, .slice pa pm pc] 240)=w0 at *
 have c1:=cell_of_row w0 W.heap.size 1 _ _ _ hn0
 simp only [List.getElem?_toArray,List.getElem?_cons_zero,List.getElem?_cons_succ] at c1
 clear hR hJ hg hI hsure hak hcap hks hb0 hn0 hG
 go_enter Tryz.func186,Tryz.ntmps186
 go_wp2_with fail
 try rw [hw0]
 go_wp2_with fail
 go_loopw [11] (fun q wr=>∃ (j' : Nat) (v3 : Value) (u3 : Tst σ),j'≤ks.length∧q = .int .i64 j'∧R=Bx (fun q u=>goT k fd lo hi (d+1) q (lv - 1) u) lo hi (ks.drop j') u3∧J v3 u3.s wr∧GoW B wr gb (.func (.func g) #[] caps) (.func (.yield l) #[] #[]) lo hi u3.told∧I wr u3.asked∧Mv B (gts sts) v.ownBlock W wr∧Nx W v.ownBlock v3.ownBlock∧wr.heap[W.heap.size]? = some (.cells #[.int .i64 lv, .slice ka ks.length kc, .slice pa pm pc] 240)∧u3.asked.length+(d+1) * (Am (ks.drop j')).toNat≤1000000000∧k.cap u3.s+(Am (ks.drop j')).toNat≤1000000)
  (fun q _=>ks.length - (intOf q).toNat)
 case atStart=>exact ⟨0,v,t,by omega,rfl,by simpa using H0.out.1,H0.out.2.1,H0.out.2.2.1,H0.out.2.2.2.1,H0.out.2.2.2.2.1,Nx.refl _ _,H0.out.2.2.2.2.2.1,by simpa using H0.out.2.2.2.2.2.2.1,by simpa using H0.out.2.2.2.2.2.2.2⟩
 case round=>
  clear H0 c1 hw0
  obtain ⟨j,v',u,hj,rfl,hRj,hJr,hgr,hIr,hMr,hNr,hnr,har,hcr⟩:=hrel
  have hBr : B≤wr.heap.size:=Nat.le_trans hB hMr.size
  by_cases hlt : j<ks.length
  ·obtain ⟨ao',cap',hvv,-,-,hc4⟩:=HS.out wr hMr
   obtain ⟨b,off,hao,hbB,hc⟩:=hc4 (by rintro rfl; simp at hlt)
   injection hvv with e1 _ e3
   subst e3
   rw [hao] at e1
   subst e1
   have d0:=hc j hlt 0 _ rfl
   have d1:=hc j hlt 1 _ rfl
   have d2:=hc j hlt 2 _ rfl
   simp only [Nat.add_zero] at d0
   have hxk:=HKS.out ks[j] (by simp)
   rw [List.drop_eq_getElem_cons hlt] at hRj har hcr
   have hdk:=fun q hq=>HKS.out q (List.mem_of_mem_drop (i:=j+1) hq)
   generalize ks[j]=x at *
   have hxm:=((Ee x).1 hxk).2.2.1
   have hmr:=Ef (ks.drop (j+1)) hdk
   rw [If] at har hcr
   have hsum : (x.2.2+Am (ks.drop (j+1))).toNat=x.2.2.toNat+(Am (ks.drop (j+1))).toNat:=by omega
   rw [hsum] at har hcr
   rw [Nat.mul_add] at har
   have hb1 : Below wr.heap.size wr (wr.alloc (.cells #[.string (Ab x.1), .string (Ab x.2.1), .int .i64 x.2.2] 125)):=(Below.refl _ _).alloc (Nat.le_refl _) _
   have hx1:=heap_last wr (.cells #[.string (Ab x.1), .string (Ab x.2.1), .int .i64 x.2.2] 125) _ rfl
   have hn1:=(hb1.block _ (Ad hnr)).trans hnr
   have hg1:=hgr.below hb1
   have hJ1:=hY.keep hJr (Mv.of hb1 hBr) (KO.of hb1)
   have hI1:=HG.out.below hIr hb1
   have hM1:=hMr.more hb1 hBr
   have hs1 : B≤(wr.alloc (.cells #[.string (Ab x.1), .string (Ab x.2.1), .int .i64 x.2.2] 125)).heap.size:=Nat.le_trans hBr hb1.size
   generalize hw1 : wr.alloc (.cells #[.string (Ab x.1), .string (Ab x.2.1), .int .i64 x.2.2] 125)=w1 at *
   have g0:=cell_of_row w1 gb 0 _ _ _ hg1.cell
   have g1:=cell_of_row w1 gb 1 _ _ _ hg1.cell
   have g2:=cell_of_row w1 gb 2 _ _ _ hg1.cell
   have p0:=cell_of_row w1 wr.heap.size 0 _ _ _ hx1
   have p1:=cell_of_row w1 wr.heap.size 1 _ _ _ hx1
   have p2:=cell_of_row w1 wr.heap.size 2 _ _ _ hx1
   have n0:=cell_of_row w1 W.heap.size 0 _ _ _ hn1
   simp only [List.getElem?_toArray,List.getElem?_cons_zero,List.getElem?_cons_succ] at g0 g1 g2 p0 p1 p2 n0
   have H1:=Ac (And.intro hx1 (And.intro hn1 (And.intro hg1 (And.intro hJ1 (And.intro hI1 hM1)))))
   have HRJ:=Ac hRj
   have HAC:=Ac (And.intro har (And.intro hcr (And.intro hxm hxk)))
   have hnext : ∀ (v2 : Value) (u2 : Tst σ) (W2 : World),R=Bx (fun q u=>goT k fd lo hi (d+1) q (lv - 1) u) lo hi (ks.drop (j+1)) u2→J v2 u2.s W2→GoW B W2 gb (.func (.func g) #[] caps) (.func (.yield l) #[] #[]) lo hi u2.told→I W2 u2.asked→Mv B (gts sts) v.ownBlock W W2→Nx W v.ownBlock v2.ownBlock→W2.heap[W.heap.size]? = some (.cells #[.int .i64 lv, .slice (some ⟨b,off,none⟩) ks.length kc, .slice pa pm pc] 240)→u2.asked.length+(d+1) * (Am (ks.drop (j+1))).toNat≤1000000000→k.cap u2.s+(Am (ks.drop (j+1))).toNat≤1000000→∃ (j' : Nat) (v3 : Value) (u3 : Tst σ),j'≤ks.length∧(Value.int .i64 ((j : Int)+1)) = .int .i64 j'∧R=Bx (fun q u=>goT k fd lo hi (d+1) q (lv - 1) u) lo hi (ks.drop j') u3∧J v3 u3.s W2∧GoW B W2 gb (.func (.func g) #[] caps) (.func (.yield l) #[] #[]) lo hi u3.told∧I W2 u3.asked∧Mv B (gts sts) v.ownBlock W W2∧Nx W v.ownBlock v3.ownBlock∧W2.heap[W.heap.size]? = some (.cells #[.int .i64 lv, .slice (some ⟨b,off,none⟩) ks.length kc, .slice pa pm pc] 240)∧u3.asked.length+(d+1) * (Am (ks.drop j')).toNat≤1000000000∧k.cap u3.s+(Am (ks.drop j')).toNat≤1000000:=fun v2 u2 W2 h1 h2 h3 h4 h5 h6 h7 h8 h9=>⟨j+1,v2,u2,by omega,by simp,h1,h2,h3,h4,h5,h6,h7,h8,h9⟩
   have HNX:=Ac hnext
   clear hnext hJr hgr hIr hMr hnr hc hc4 hb1 hx1 hn1 hg1 hJ1 hI1 hM1 hRj har hcr hxm hxk hdk hmr hsum hao
   have hbg:=Mj w1.drew lo hi x.1
   have hwl : IntKind.i64.wrap (lv - 1)=lv - 1:=by rw [IntKind.wrap_i64]; omega
   cases hlo : ltB x.1 lo with
   | true=>
    rw [hlo] at hbg
    simp only [Bool.not_true] at hbg
    go_wp2_with fail
    refine wp_region_held_drew (S:=fun Z=>Z.cell? ⟨gb,0,none⟩=some (.func (.func g) #[] caps)∧Z.cell? ⟨gb,1,none⟩=some (.string (Ab lo))∧Z.cell? ⟨gb,2,none⟩=some (.string (Ab hi))∧Z.cell? ⟨wr.heap.size,0,none⟩=some (.string (Ab x.1))∧Z.cell? ⟨wr.heap.size,1,none⟩=some (.string (Ab x.2.1))∧Z.cell? ⟨wr.heap.size,2,none⟩=some (.int .i64 x.2.2)∧Z.cell? ⟨W.heap.size,0,none⟩=some (.int .i64 lv)) (by kernel_rfl) (⟨g0,g1,g2,p0,p1,p2,n0⟩) (fun hHeld=>?_)
    refine Aa 0 hHeld ?_
    refine Aa 1 hHeld ?_
    refine Aa 2 hHeld ?_
    refine Aa 3 hHeld ?_
    refine Aa 4 hHeld ?_
    refine Aa 5 hHeld ?_
    refine Ai (i:=6) rfl (by kernel_rfl) rfl (fun K hK=>?_)
    go_simp
    refine hbg.mono ?_
    rintro e w2 ⟨rfl,hb2⟩
    have hb2' : Below w1.heap.size w1 w2:=(Below.refl _ _).drew.trans hb2
    have hx2:=(hb2'.block _ (Ad H1.out.1)).trans H1.out.1
    have hn2:=(hb2'.block _ (Ad H1.out.2.1)).trans H1.out.2.1
    have hg2:=H1.out.2.2.1.below hb2'
    clear g0 g1 g2 p0 p1 p2 n0
    have g0:=cell_of_row w2 gb 0 _ _ _ hg2.cell
    have g1:=cell_of_row w2 gb 1 _ _ _ hg2.cell
    have g2:=cell_of_row w2 gb 2 _ _ _ hg2.cell
    have p0:=cell_of_row w2 wr.heap.size 0 _ _ _ hx2
    have p1:=cell_of_row w2 wr.heap.size 1 _ _ _ hx2
    have p2:=cell_of_row w2 wr.heap.size 2 _ _ _ hx2
    have n0:=cell_of_row w2 W.heap.size 0 _ _ _ hn2
    simp only [List.getElem?_toArray,List.getElem?_cons_zero,List.getElem?_cons_succ] at g0 g1 g2 p0 p1 p2 n0
    have H2:=Ac (And.intro hx2 (And.intro hn2 (And.intro hg2 (And.intro (hY.keep H1.out.2.2.2.1 (Mv.of hb2' hs1) (KO.of hb2')) (And.intro (HG.out.below H1.out.2.2.2.2.1 hb2') (And.intro (H1.out.2.2.2.2.2.more hb2' hs1) (And.intro hNr (show u.asked.length+(d+1) * (Am (ks.drop (j+1))).toNat≤1000000000∧k.cap u.s+(Am (ks.drop (j+1))).toNat≤1000000 from ⟨by have:=HAC.out.1; omega,by have:=HAC.out.2.1; omega⟩))))))))
    clear hb2 hb2' hx2 hn2 hg2 hbg
    refine hK.out _ _ (⟨g0,g1,g2,p0,p1,p2,n0⟩) (fun hHeld=>?_)
    clear hK K
    try simp only [Act.put,List.setIfInBounds_toArray,List.set_cons_zero,List.set_cons_succ]
    refine Aa 7 hHeld ?_
    refine Ae 8 hHeld ?_
    refine Ae 9 hHeld ?_
    refine Ae 10 hHeld ?_
    refine Ae 11 hHeld ?_
    refine Ae 12 hHeld ?_
    refine Ae 13 hHeld ?_
    refine Ae 14 hHeld ?_
    refine Ae 15 hHeld ?_
    refine Ae 16 hHeld ?_
    refine Ae 17 hHeld ?_
    refine Ae 18 hHeld ?_
    refine Ae 19 hHeld ?_
    refine Ae 20 hHeld ?_
    refine Ae 21 hHeld ?_
    refine Ae 22 hHeld ?_
    refine Aa 23 hHeld ?_
    refine wpAnyH_done (by kernel_rfl) ?_ _
    clear hHeld g0 g1 g2 p0 p1 p2 n0
    have e1:=cell_of_row w2 gb 1 _ _ _ H2.out.2.2.1.cell
    have e2:=cell_of_row w2 gb 2 _ _ _ H2.out.2.2.1.cell
    have e3:=cell_of_row w2 wr.heap.size 0 _ _ _ H2.out.1
    simp only [List.getElem?_toArray,List.getElem?_cons_zero,List.getElem?_cons_succ] at e1 e2 e3
    have hen:=Kx w2.drew lo hi x.1
    go_wp2_with fail
    refine wp_region_held_drew (S:=fun Z=>Z.cell? ⟨gb,1,none⟩=some (.string (Ab lo))∧Z.cell? ⟨gb,2,none⟩=some (.string (Ab hi))∧Z.cell? ⟨wr.heap.size,0,none⟩=some (.string (Ab x.1))) (by kernel_rfl) (⟨e1,e2,e3⟩) (fun hHeld=>?_)
    refine Aa 0 hHeld ?_
    refine Aa 1 hHeld ?_
    refine Aa 2 hHeld ?_
    refine Aa 3 hHeld ?_
    refine Aa 4 hHeld ?_
    refine Aa 5 hHeld ?_
    refine Ai (i:=6) rfl (by kernel_rfl) rfl (fun K hK=>?_)
    go_simp
    refine hen.mono ?_
    rintro e w8 ⟨rfl,hb8⟩
    have hb8' : Below w2.heap.size w2 w8:=(Below.refl _ _).drew.trans hb8
    have hBZ : B≤w2.heap.size:=Nat.le_trans hB H2.out.2.2.2.2.2.1.size
    have hx8:=(hb8'.block _ (Ad H2.out.1)).trans H2.out.1
    have hn8:=(hb8'.block _ (Ad H2.out.2.1)).trans H2.out.2.1
    have hg8:=H2.out.2.2.1.below hb8'
    have H8:=Ac (And.intro hn8 (And.intro hg8 (And.intro (hY.keep H2.out.2.2.2.1 (Mv.of hb8' hBZ) (KO.of hb8')) (And.intro (HG.out.below H2.out.2.2.2.2.1 hb8') (H2.out.2.2.2.2.2.1.more hb8' hBZ)))))
    have e1:=cell_of_row w8 gb 1 _ _ _ hg8.cell
    have e2:=cell_of_row w8 gb 2 _ _ _ hg8.cell
    have e3:=cell_of_row w8 wr.heap.size 0 _ _ _ hx8
    simp only [List.getElem?_toArray,List.getElem?_cons_zero,List.getElem?_cons_succ] at e1 e2 e3
    clear hb8 hb8' hx8 hn8 hg8 hen
    refine hK.out _ _ (⟨e1,e2,e3⟩) (fun hHeld=>?_)
    clear hK K
    try simp only [Act.put,List.setIfInBounds_toArray,List.set_cons_zero,List.set_cons_succ]
    refine wpAnyH_done (by kernel_rfl) ?_ _
    clear hHeld e1 e2 e3
    cases hed : Bl hi x.1 with
    | true=>
     have HRB:=Ac (show R=(u,true) from HRJ.out.trans (eachT_last hlo hed))
     go_wp2
     go_ret
     rw [HRB.out]
     exact ⟨rfl,v',fun _=>H8.out.2.2.1,fun h=>(by cases h),H8.out.2.1,H8.out.2.2.2.1,H8.out.2.2.2.2,H2.out.2.2.2.2.2.2.1⟩
    | false=>
     have HREL:=Ac (HNX.out v' u w8 (HRJ.out.trans (eachT_skip hlo hed)) H8.out.2.2.1 H8.out.2.1 H8.out.2.2.2.1 H8.out.2.2.2.2 H2.out.2.2.2.2.2.2.1 H8.out.1 H2.out.2.2.2.2.2.2.2.1 H2.out.2.2.2.2.2.2.2.2)
     go_wp2
     go_roundw
     case rel=>exact HREL.out
     case measure=>simp [intOf]; omega
   | false=>
    rw [hlo] at hbg
    simp only [Bool.not_false] at hbg
    go_wp2_with fail
    refine wp_region_held_drew (S:=fun Z=>Z.cell? ⟨gb,0,none⟩=some (.func (.func g) #[] caps)∧Z.cell? ⟨gb,1,none⟩=some (.string (Ab lo))∧Z.cell? ⟨gb,2,none⟩=some (.string (Ab hi))∧Z.cell? ⟨wr.heap.size,0,none⟩=some (.string (Ab x.1))∧Z.cell? ⟨wr.heap.size,1,none⟩=some (.string (Ab x.2.1))∧Z.cell? ⟨wr.heap.size,2,none⟩=some (.int .i64 x.2.2)∧Z.cell? ⟨W.heap.size,0,none⟩=some (.int .i64 lv)) (by kernel_rfl) (⟨g0,g1,g2,p0,p1,p2,n0⟩) (fun hHeld=>?_)
    refine Aa 0 hHeld ?_
    refine Aa 1 hHeld ?_
    refine Aa 2 hHeld ?_
    refine Aa 3 hHeld ?_
    refine Aa 4 hHeld ?_
    refine Aa 5 hHeld ?_
    refine Ai (i:=6) rfl (by kernel_rfl) rfl (fun K hK=>?_)
    go_simp
    refine hbg.mono ?_
    rintro e w2 ⟨rfl,hb2⟩
    have hb2' : Below w1.heap.size w1 w2:=(Below.refl _ _).drew.trans hb2
    have hx2:=(hb2'.block _ (Ad H1.out.1)).trans H1.out.1
    have hn2:=(hb2'.block _ (Ad H1.out.2.1)).trans H1.out.2.1
    have hg2:=H1.out.2.2.1.below hb2'
    have hJ2:=hY.keep H1.out.2.2.2.1 (Mv.of hb2' hs1) (KO.of hb2')
    have hI2:=HG.out.below H1.out.2.2.2.2.1 hb2'
    have hM2:=H1.out.2.2.2.2.2.more hb2' hs1
    have hs2 : B≤w2.heap.size:=Nat.le_trans hs1 hb2'.size
    clear g0 g1 g2 p0 p1 p2 n0
    have g0:=cell_of_row w2 gb 0 _ _ _ hg2.cell
    have g1:=cell_of_row w2 gb 1 _ _ _ hg2.cell
    have g2:=cell_of_row w2 gb 2 _ _ _ hg2.cell
    have p0:=cell_of_row w2 wr.heap.size 0 _ _ _ hx2
    have p1:=cell_of_row w2 wr.heap.size 1 _ _ _ hx2
    have p2:=cell_of_row w2 wr.heap.size 2 _ _ _ hx2
    have n0:=cell_of_row w2 W.heap.size 0 _ _ _ hn2
    simp only [List.getElem?_toArray,List.getElem?_cons_zero,List.getElem?_cons_succ] at g0 g1 g2 p0 p1 p2 n0
    have hak:=Ny w2 g caps fd B kts I HG.out x (lv - 1) HAC.out.2.2.2 (by omega) (by omega) u.asked hI2 (by have:=HAC.out.1; omega)
    have hok:=fun h=>Eg (fd:=fd) (k:=x) (level:=lv - 1) HG.out.short h
    have hgo : goT k fd lo hi (d+1) x (lv - 1) u=D2 k (goT k fd lo hi d) lo hi (Ao fd x (lv - 1)) ⟨u.asked ++ [x.2.1],u.told,u.s⟩:=rfl
    obtain ⟨er,n,hern⟩ : ∃ er n,Ao fd x (lv - 1)=(er,n):=⟨_,_,rfl⟩
    have hze:=fun h=>Ik (fd:=fd) (k:=x) (level:=lv - 1) h
    rw [hern] at hak hok hgo hze
    unfold En at hak
    simp only at hak hok hze
    have hgr:=goT_grows (k:=k) fd HG.out.short lo hi (d+1) x (lv - 1) u HAC.out.2.2.2 (by omega) (by omega)
    rw [hgo] at hgr
    have H2:=Ac (And.intro hx2 (And.intro hn2 (And.intro hg2 (And.intro hJ2 (And.intro hI2 hM2)))))
    have HGO:=Ac (And.intro hgo (And.intro hgr (And.intro hok hze)))
    clear hb2 hb2' hx2 hn2 hg2 hJ2 hI2 hM2 hbg hgo hgr hok hze hern
    refine hK.out _ _ (⟨g0,g1,g2,p0,p1,p2,n0⟩) (fun hHeld=>?_)
    clear hK K
    try simp only [Act.put,List.setIfInBounds_toArray,List.set_cons_zero,List.set_cons_succ]
    refine Aa 7 hHeld ?_
    refine Aa 8 hHeld ?_
    refine Aa 9 hHeld ?_
    refine Aa 10 hHeld ?_
    refine Aa 11 hHeld ?_
    refine Aa 12 hHeld ?_
    refine Aa 13 hHeld ?_
    refine Aa 14 hHeld ?_
    refine Aa 15 hHeld ?_
    refine Aa 16 hHeld ?_
    refine Aa 17 hHeld ?_
    refine Ai (i:=18) rfl (by kernel_rfl) rfl (fun K hK=>?_)
    go_simp
    refine hak.mono ?_
    rintro e w3 ⟨⟨vk,vp,rfl,hrk,hrp⟩,hI3,hm3,hko3⟩
    have hx3:=hm3.k _ _ _ _ H2.out.1 (by decide) (by simp)
    have hn3:=hm3.k _ _ _ _ H2.out.2.1 (by decide) (by simp)
    have hg3:=H2.out.2.2.1.mv hm3 (by decide) (by simp)
    have hJ3:=hY.keep H2.out.2.2.2.1 (hm3.types (by decide)) hko3
    have hM3 : Mv B (gts sts) v.ownBlock W w3:=H2.out.2.2.2.2.2.trans ((hm3.types (ts':=gts sts) (by intro t ht; exact jts_sub sts t (by revert ht; revert t; decide))).none (r:=v.ownBlock)) (Nx.refl _ _)
    have hs3 : B≤w3.heap.size:=Nat.le_trans hs2 hm3.size
    have hvlt : ∀ q,v'.ownBlock=some q→q<w2.heap.size:=fun q hq=>by obtain ⟨cs,fr,h⟩:=hY.row H2.out.2.2.2.1 hq; exact Ad h
    have hsk : ∀ W',Mv B (gts sts) v'.ownBlock w3 W'→Ls W'.heap.size W' 3 Au vk n.2.2:=fun W' h=>Bi Ev (h.own hrk (by have:=hY.apart; simp [this.2.2.1]) (Is hrk hvlt))
    have hsp : ∀ W',Mv B (gts sts) v'.ownBlock w3 W'→Ls W'.heap.size W' 2 Ak vp n.2.1:=fun W' h=>Bi Dr (h.own hrp (by have:=hY.apart; simp [this.2.1]) (Is hrp hvlt))
    clear g0 g1 g2 p0 p1 p2 n0
    have g0:=cell_of_row w3 gb 0 _ _ _ hg3.cell
    have g1:=cell_of_row w3 gb 1 _ _ _ hg3.cell
    have g2:=cell_of_row w3 gb 2 _ _ _ hg3.cell
    have p0:=cell_of_row w3 wr.heap.size 0 _ _ _ hx3
    have p1:=cell_of_row w3 wr.heap.size 1 _ _ _ hx3
    have p2:=cell_of_row w3 wr.heap.size 2 _ _ _ hx3
    have n0:=cell_of_row w3 W.heap.size 0 _ _ _ hn3
    simp only [List.getElem?_toArray,List.getElem?_cons_zero,List.getElem?_cons_succ] at g0 g1 g2 p0 p1 p2 n0
    have hbn : n.2.1.length+(Am n.2.2).toNat≤x.2.2.toNat∧d * (Am n.2.2).toNat≤d * x.2.2.toNat:=by
     by_cases he : er=0
     ·obtain ⟨q1,q2⟩:=HGO.out.2.2.1 he
      rcases q2 with q2 | q2
      ·omega
      ·have q3:=(Fw q2).2
       unfold Bt at q3
       have q4:=Ef n.2.2 q1.links.2.1
       have q5 : (Am n.2.2).toNat≤x.2.2.toNat:=by omega
       exact ⟨by omega,Nat.mul_le_mul_left _ q5⟩
     ·rw [HGO.out.2.2.2 he]
      simp [Am]
    have hd1 : (d+1) * x.2.2.toNat=d * x.2.2.toNat+x.2.2.toNat:=by rw [Nat.add_mul]; simp
    have hre:=hrec w3 v' ⟨u.asked ++ [x.2.1],u.told,u.s⟩ er n vk vp hJ3 hg3 hI3 (fun he=>by
     obtain ⟨q1,q2⟩:=HGO.out.2.2.1 he
     rcases q2 with q2 | q2
     ·omega
     ·exact ⟨q1,by rw [(Fw q2).1]; omega⟩) hsk hsp (by have:=HAC.out.1; have:=HAC.out.2.2.1; simp only [List.length_append,List.length_singleton]; omega) (by have:=HAC.out.2.1; simp only; omega)
    obtain ⟨r2,hr2⟩ : ∃ r2,r2=D2 k (goT k fd lo hi d) lo hi (er,n) ⟨u.asked ++ [x.2.1],u.told,u.s⟩:=⟨_,rfl⟩
    rw [← hr2] at hre
    have HR2:=Ac hr2
    have H3:=Ac (And.intro hx3 (And.intro hn3 (And.intro hJ3 hM3)))
    obtain ⟨ka',km',kc',rfl⟩:=Av hrk
    obtain ⟨pa',pm',pc',rfl⟩:=Av hrp
    clear hko3 hrk hrp hI3 hm3 hx3 hn3 hg3 hJ3 hM3 hvlt hsk hsp hak hbn hd1 hr2
    unfold Fr at hre
    refine hK.out _ _ (⟨g0,g1,g2,p0,p1,p2,n0⟩) (fun hHeld=>?_)
    clear hK K
    try simp only [Act.put,List.setIfInBounds_toArray,List.set_cons_zero,List.set_cons_succ]
    refine Aa 19 hHeld ?_
    refine Aa 20 hHeld ?_
    refine Ai (i:=21) rfl (by kernel_rfl) rfl (fun K hK=>?_)
    go_simp
    refine hre.mono ?_
    rintro e w5 ⟨rfl,v5,hJ5,hJx5,hg5,hI5,hm5,hN5⟩
    have hx5:=hm5.k _ _ _ _ H3.out.1 (by have:=hY.apart; simp [this.2.2.1]) (hY.neq H3.out.2.2.1 H3.out.1 (by decide))
    have hn5:=hm5.k _ _ _ _ H3.out.2.1 (by have:=hY.apart; simp [this.2.2.2]) (hY.neq H3.out.2.2.1 H3.out.2.1 (by decide))
    have hM5 : Mv B (gts sts) v.ownBlock W w5:=H3.out.2.2.2.trans hm5 hNr
    have hNN : Nx W v.ownBlock v5.ownBlock:=hNr.trans hN5 (by have:=H3.out.2.2.2.size; exact this)
    clear g0 g1 g2 p0 p1 p2 n0
    have g0:=cell_of_row w5 gb 0 _ _ _ hg5.cell
    have g1:=cell_of_row w5 gb 1 _ _ _ hg5.cell
    have g2:=cell_of_row w5 gb 2 _ _ _ hg5.cell
    have p0:=cell_of_row w5 wr.heap.size 0 _ _ _ hx5
    have p1:=cell_of_row w5 wr.heap.size 1 _ _ _ hx5
    have p2:=cell_of_row w5 wr.heap.size 2 _ _ _ hx5
    have n0:=cell_of_row w5 W.heap.size 0 _ _ _ hn5
    simp only [List.getElem?_toArray,List.getElem?_cons_zero,List.getElem?_cons_succ] at g0 g1 g2 p0 p1 p2 n0
    clear hre
    refine hK.out _ _ (⟨g0,g1,g2,p0,p1,p2,n0⟩) (fun hHeld=>?_)
    clear hK K
    try simp only [Act.put,List.setIfInBounds_toArray,List.set_cons_zero,List.set_cons_succ]
    cases hfl : r2.2 with
    | false=>
     refine Aa 22 hHeld ?_
     refine Aa 23 hHeld ?_
     refine wpAnyH_done (by kernel_rfl) ?_ _
     clear hHeld g0 g1 g2 p0 p1 p2 n0
     have hrq : goT k fd lo hi (d+1) x (lv - 1) u=r2:=by rw [HGO.out.1,HR2.out]
     have HRB:=Ac (HRJ.out.trans (eachT_stop (f:=fun q u=>goT k fd lo hi (d+1) q (lv - 1) u) hlo (by simp only [hrq,hfl])))
     have HF:=Ac (And.intro (hJx5 hfl) (And.intro hg5 (And.intro hI5 (And.intro hM5 (And.intro hNN hrq)))))
     clear hJ5 hJx5 hg5 hI5 hm5 hN5 hx5 hn5 hM5 hNN hrq
     go_wp2
     go_ret
     rw [HRB.out]
     simp only [HF.out.2.2.2.2.2]
     exact ⟨rfl,v5,fun h=>(by cases h),fun _=>HF.out.1,HF.out.2.1,HF.out.2.2.1,HF.out.2.2.2.1,HF.out.2.2.2.2.1⟩
    | true=>
     refine Aa 22 hHeld ?_
     refine Aa 23 hHeld ?_
     refine wpAnyH_done (by kernel_rfl) ?_ _
     clear hHeld g0 g1 g2 p0 p1 p2 n0
     have hrq : goT k fd lo hi (d+1) x (lv - 1) u=r2:=by rw [HGO.out.1,HR2.out]
     have HRQ:=Ac (And.intro hrq hfl)
     have hgw:=HGO.out.2.1
     rw [← HR2.out] at hgw
     have H5:=Ac (And.intro hx5 (And.intro hn5 (And.intro hg5 (And.intro (hJ5 hfl) (And.intro hI5 (And.intro hM5 (And.intro hNN (show r2.1.asked.length+(d+1) * (Am (ks.drop (j+1))).toNat≤1000000000∧k.cap r2.1.s+(Am (ks.drop (j+1))).toNat≤1000000 from ⟨by have:=HAC.out.1; have:=hgw.1; omega,by have:=HAC.out.2.1; have:=hgw.2; omega⟩))))))))
     clear hJ5 hJx5 hg5 hI5 hm5 hN5 hx5 hn5 hM5 hNN hrq hgw hfl
     have e1:=cell_of_row w5 gb 1 _ _ _ H5.out.2.2.1.cell
     have e2:=cell_of_row w5 gb 2 _ _ _ H5.out.2.2.1.cell
     have e3:=cell_of_row w5 wr.heap.size 0 _ _ _ H5.out.1
     simp only [List.getElem?_toArray,List.getElem?_cons_zero,List.getElem?_cons_succ] at e1 e2 e3
     have hen:=Kx w5.drew lo hi x.1
     go_wp2_with fail
     refine wp_region_held_drew (S:=fun Z=>Z.cell? ⟨gb,1,none⟩=some (.string (Ab lo))∧Z.cell? ⟨gb,2,none⟩=some (.string (Ab hi))∧Z.cell? ⟨wr.heap.size,0,none⟩=some (.string (Ab x.1))) (by kernel_rfl) (⟨e1,e2,e3⟩) (fun hHeld=>?_)
     refine Aa 0 hHeld ?_
     refine Aa 1 hHeld ?_
     refine Aa 2 hHeld ?_
     refine Aa 3 hHeld ?_
     refine Aa 4 hHeld ?_
     refine Aa 5 hHeld ?_
     refine Ai (i:=6) rfl (by kernel_rfl) rfl (fun K hK=>?_)
     go_simp
     refine hen.mono ?_
     rintro e w8 ⟨rfl,hb8⟩
     have hb8' : Below w5.heap.size w5 w8:=(Below.refl _ _).drew.trans hb8
     have hBZ : B≤w5.heap.size:=Nat.le_trans hB H5.out.2.2.2.2.2.1.size
     have hx8:=(hb8'.block _ (Ad H5.out.1)).trans H5.out.1
     have hn8:=(hb8'.block _ (Ad H5.out.2.1)).trans H5.out.2.1
     have hg8:=H5.out.2.2.1.below hb8'
     have H8:=Ac (And.intro hn8 (And.intro hg8 (And.intro (hY.keep H5.out.2.2.2.1 (Mv.of hb8' hBZ) (KO.of hb8')) (And.intro (HG.out.below H5.out.2.2.2.2.1 hb8') (H5.out.2.2.2.2.2.1.more hb8' hBZ)))))
     have e1:=cell_of_row w8 gb 1 _ _ _ hg8.cell
     have e2:=cell_of_row w8 gb 2 _ _ _ hg8.cell
     have e3:=cell_of_row w8 wr.heap.size 0 _ _ _ hx8
     simp only [List.getElem?_toArray,List.getElem?_cons_zero,List.getElem?_cons_succ] at e1 e2 e3
     clear hb8 hb8' hx8 hn8 hg8 hen
     refine hK.out _ _ (⟨e1,e2,e3⟩) (fun hHeld=>?_)
     clear hK K
     try simp only [Act.put,List.setIfInBounds_toArray,List.set_cons_zero,List.set_cons_succ]
     refine wpAnyH_done (by kernel_rfl) ?_ _
     clear hHeld e1 e2 e3
     cases hed : Bl hi x.1 with
     | true=>
      have HRB:=Ac (show R=(r2.1,true) from HRJ.out.trans ((eachT_end (f:=fun q u=>goT k fd lo hi (d+1) q (lv - 1) u) hlo (by simp only [HRQ.out.1,HRQ.out.2]) hed).trans (by simp only [HRQ.out.1])))
      go_wp2
      go_ret
      rw [HRB.out]
      exact ⟨rfl,v5,fun _=>H8.out.2.2.1,fun h=>(by cases h),H8.out.2.1,H8.out.2.2.2.1,H8.out.2.2.2.2,H5.out.2.2.2.2.2.2.1⟩
     | false=>
      have HREL:=Ac (HNX.out v5 r2.1 w8 (HRJ.out.trans ((eachT_on (f:=fun q u=>goT k fd lo hi (d+1) q (lv - 1) u) hlo (by simp only [HRQ.out.1,HRQ.out.2]) hed).trans (by simp only [HRQ.out.1]))) H8.out.2.2.1 H8.out.2.1 H8.out.2.2.2.1 H8.out.2.2.2.2 H5.out.2.2.2.2.2.2.1 H8.out.1 H5.out.2.2.2.2.2.2.2.1 H5.out.2.2.2.2.2.2.2.2)
      go_wp2
      go_roundw
      case rel=>exact HREL.out
      case measure=>simp [intOf]; omega
  ·obtain rfl : j=ks.length:=by omega
   rw [List.drop_length,eachT_nil] at hRj
   have HF:=Ac (And.intro hRj (And.intro hJr (And.intro hgr (And.intro hIr (And.intro hMr hNr)))))
   clear hRj hJr hgr hIr hMr hNr
   go_wp2
   go_ret
   rw [HF.out.1]
   exact ⟨rfl,v',fun _=>HF.out.2.1,fun h=>(by cases h),HF.out.2.2.1,HF.out.2.2.2.1,HF.out.2.2.2.2.1,HF.out.2.2.2.2.2⟩
end Go.Proofs.YtckejblkppllaaaGreatDoor
namespace Go.Proofs.YtckejblkppllaaaGreatDoor
open Go.RowKit
theorem intoT_err {σ : Type} {k : Sink σ} {f : Ah→Int→Tst σ→Tst σ × Bool} {lo hi : Bs} {er : Int} {n : A2} {t : Tst σ} (h : er≠0) : D2 k f lo hi (er,n) t=(⟨t.asked,t.told,k.er t.s er⟩,false):=by unfold D2; rw [if_pos h]
theorem intoT_stop {σ : Type} {k : Sink σ} {f : Ah→Int→Tst σ→Tst σ × Bool} {lo hi : Bs} {er : Int} {n : A2} {t : Tst σ} (h : er=0) (h2 : (Bu k lo hi n.2.1 t).2=false) : D2 k f lo hi (er,n) t=((Bu k lo hi n.2.1 t).1,false):=by unfold D2; rw [if_neg (by rw [h]; simp),h2]; rfl
theorem intoT_on {σ : Type} {k : Sink σ} {f : Ah→Int→Tst σ→Tst σ × Bool} {lo hi : Bs} {er : Int} {n : A2} {t : Tst σ} (h : er=0) (h2 : (Bu k lo hi n.2.1 t).2=true) : D2 k f lo hi (er,n) t=Bx (fun q u=>f q (n.1 - 1) u) lo hi n.2.2 (Bu k lo hi n.2.1 t).1:=by unfold D2; rw [if_neg (by rw [h]; simp),h2]; rfl
def KidsOk {σ : Type} (l : Nat) (k : Sink σ) (fd : Bs→Option Bs) (B : Nat) (sts : List TypeId) (J Jx : Value→σ→World→Prop) (I : World→List Bs→Prop) (gb : Nat) (gv : Value) (lo hi : Bs) (d : Nat) : Prop:=
 ∀ (W : World) (v : Value) (t : Tst σ) (n : A2) (vk vp : Value),J v t.s W→GoW B W gb gv (.func (.yield l) #[] #[]) lo hi t.told→I W t.asked→RightM n→n.1≤d →
  (∀ W',Mv B (gts sts) v.ownBlock W W'→Ls W'.heap.size W' 3 Au vk n.2.2)→(∃ a m c,vp = .slice a m c) →
  t.asked.length+d * (Am n.2.2).toNat≤1000000000→k.cap t.s+(Am n.2.2).toNat≤1000000 →
  Calls Tryz.prog 186 #[.pointer (some ⟨gb,0,none⟩), .agg #[.int .i64 n.1,vk,vp]] W fun e W'=>Fr B sts J Jx I gb gv (.func (.yield l) #[] #[]) lo hi v W (Bx (fun q u=>goT k fd lo hi d q (n.1 - 1) u) lo hi n.2.2 t) e W'
theorem kids_leaf {σ : Type} {l : Nat} {k : Sink σ} {g : Nat} {caps : Array Value} {fd : Bs→Option Bs} {B : Nat} {sts kts : List TypeId} {J Jx : Value→σ→World→Prop} (hY : YieldOk l k B sts J Jx) {I : World→List Bs→Prop} (hG : GetOk g caps fd B kts I) {gb : Nat} {gv : Value} {lo hi : Bs} {f : Ah→Tst σ→Tst σ × Bool} (W : World) (v : Value) (t : Tst σ) (n : A2) (vk vp : Value) (hJ : J v t.s W) (hg : GoW B W gb gv (.func (.yield l) #[] #[]) lo hi t.told) (hI : I W t.asked) (hn : n.2.2 = []) (hsk : Ls W.heap.size W 3 Au vk n.2.2) (hvp : ∃ a m c,vp = .slice a m c) :
  Calls Tryz.prog 186 #[.pointer (some ⟨gb,0,none⟩), .agg #[.int .i64 n.1,vk,vp]] W fun e W'=>Fr B sts J Jx I gb gv (.func (.yield l) #[] #[]) lo hi v W (Bx f lo hi n.2.2 t) e W':=by
 have hB : B≤W.heap.size:=by have:=Ad hg.cell; have:=hg.le; omega
 obtain ⟨pa,pm,pc,rfl⟩:=hvp
 obtain ⟨ka,kc,rfl,-⟩:=Dp hsk
 rw [hn]
 refine (O1 W gb n.1 pa pm pc ka kc).mono ?_
 rintro e w1 ⟨rfl,hb⟩
 exact ⟨rfl,v,fun _=>hY.keep hJ (Mv.of hb hB) (KO.of hb),fun h=>(by cases h),hg.below hb,hG.below hI hb,(Mv.refl B (gts sts) v.ownBlock W).more hb hB,Nx.refl _ _⟩
set_option maxRecDepth 40000 in
set_option maxHeartbeats 3200000 in
theorem M6 {σ : Type} (l : Nat) (k : Sink σ) (g : Nat) (caps : Array Value) (fd : Bs→Option Bs) (B : Nat) (sts kts : List TypeId) (J Jx : Value→σ→World→Prop) (hY : YieldOk l k B sts J Jx) (I : World→List Bs→Prop) (hG : GetOk g caps fd B kts I) (hkt : 135∈kts∧255∈kts∧∀ t∈sts,t∈kts) (gb : Nat) (lo hi : Bs) (d : Nat) (hk : KidsOk l k fd B sts J Jx I gb (.func (.func g) #[] caps) lo hi d) : IntoOk l k fd B sts J Jx I gb (.func (.func g) #[] caps) lo hi d:=by
 intro W v t er n vk vp hJ hg hI hr hsk hsp hak hcap
 have hB : B≤W.heap.size:=by have:=Ad hg.cell; have:=hg.le; omega
 obtain ⟨R,hR⟩ : ∃ R,R=D2 k (goT k fd lo hi d) lo hi (er,n) t:=⟨_,rfl⟩
 rw [← hR]
 obtain ⟨ka,kc,rfl,-⟩:=Dp (hsk W (Mv.refl _ _ _ _))
 obtain ⟨pa,pc,rfl,-⟩:=Dp (hsp W (Mv.refl _ _ _ _))
 have hb0 : Below W.heap.size W (W.alloc (.cells #[.int .i64 n.1, .slice ka n.2.2.length kc, .slice pa n.2.1.length pc] 240)):=(Below.refl _ _).alloc (Nat.le_refl _) _
 have hn0:=heap_last W (.cells #[.int .i64 n.1, .slice ka n.2.2.length kc, .slice pa n.2.1.length pc] 240) _ rfl
 have hJ0:=hY.keep hJ (Mv.of hb0 hB) (KO.of hb0)
 have hg0:=hg.below hb0
 have hI0:=hG.below hI hb0
 have hM0:=(Mv.refl B (gts sts) v.ownBlock W).more hb0 hB
 have hs0 : B≤(W.alloc (.cells #[.int .i64 n.1, .slice ka n.2.2.length kc, .slice pa n.2.1.length pc] 240)).heap.size:=Nat.le_trans hB hb0.size
 generalize hw0 : W.alloc (.cells #[.int .i64 n.1, .slice ka n.2.2.length kc, .slice pa n.2.1.length pc] 240)=w0 at *
 have c2:=cell_of_row w0 W.heap.size 2 _ _ _ hn0
 simp only [List.getElem?_toArray,List.getElem?_cons_zero,List.getElem?_cons_succ] at c2
 by_cases he : er=0
 ·obtain ⟨hN,hnd⟩:=hr he
  have e0 : (er != 0)=false:=by rw [he]; rfl
  have htp:=Pe w0 l k B sts kts J Jx hY I hG.mv hkt gb (.func (.func g) #[] caps) lo hi v t hJ0 hg0 hI0 _ n.2.1 (fun W' h=>hsp W' (hM0.trans h (Nx.refl _ _))) (by omega)
  have hgr:=It k lo hi n.2.1 t
  obtain ⟨r,hrr⟩ : ∃ r,r=Bu k lo hi n.2.1 t:=⟨_,rfl⟩
  rw [← hrr] at htp hgr
  unfold Fr at htp
  have HR:=Ac hR
  have HRR:=Ac hrr
  have HE:=Ac he
  have HN:=Ac (And.intro hN (And.intro hnd (And.intro hsk (And.intro hak (And.intro hcap hgr)))))
  have H0:=Ac (And.intro hn0 (And.intro hM0 hJ0))
  clear hR hrr he hN hnd hsk hsp hak hcap hgr hn0 hJ0 hg0 hI0 hM0 hb0 hJ hg hI hr
  cases hfl : r.2 with
  | false=>
   rw [hfl] at htp
   go_enter Tryz.func151,Tryz.ntmps151
   go_wp2_with fail
   try rw [hw0]
   go_wp2_with fail
   refine htp.mono ?_
   rintro e w1 ⟨rfl,v1,hJ1,hJx1,hg1,hI1,hm1,hN1⟩
   have hRs:=HR.out.trans (intoT_stop HE.out (by rw [← HRR.out]; exact hfl))
   rw [← HRR.out] at hRs
   have hMM:=H0.out.2.1.trans hm1 (Nx.refl _ _)
   have hNN : Nx W v.ownBlock v1.ownBlock:=(Nx.refl W v.ownBlock).trans hN1 H0.out.2.1.size
   have HF:=Ac (And.intro hRs (And.intro (hJx1 trivial) (And.intro hg1 (And.intro hI1 (And.intro hMM hNN)))))
   clear htp hJ1 hJx1 hg1 hI1 hm1 hN1 hRs hMM hNN c2
   go_wp2
   go_ret
   rw [HF.out.1]
   exact ⟨rfl,v1,fun h=>(by cases h),fun _=>HF.out.2.1,HF.out.2.2.1,HF.out.2.2.2.1,HF.out.2.2.2.2.1,HF.out.2.2.2.2.2⟩
  | true=>
   rw [hfl] at htp
   go_enter Tryz.func151,Tryz.ntmps151
   go_wp2_with fail
   try rw [hw0]
   go_wp2_with fail
   refine htp.mono ?_
   rintro e w1 ⟨rfl,v1,hJ1,-,hg1,hI1,hm1,hN1⟩
   have hJ1:=hJ1 trivial
   have hn1:=hm1.k _ _ _ _ H0.out.1 (by have:=hY.apart; simp [this.2.2.2]) (hY.neq H0.out.2.2 H0.out.1 (by decide))
   have hMM:=H0.out.2.1.trans hm1 (Nx.refl _ _)
   have hNN : Nx W v.ownBlock v1.ownBlock:=(Nx.refl W v.ownBlock).trans hN1 H0.out.2.1.size
   have hgr:=HN.out.2.2.2.2.2
   have hkc:=hk w1 v1 r.1 n (.slice ka n.2.2.length kc) (.slice pa n.2.1.length pc) hJ1 hg1 hI1 HN.out.1 HN.out.2.1 (fun W' h=>HN.out.2.2.1 W' (hMM.trans h hNN)) ⟨_,_,_,rfl⟩ (by have:=HN.out.2.2.2.1; have:=hgr.1; omega) (by have:=HN.out.2.2.2.2.1; have:=hgr.2; omega)
   have hRs:=HR.out.trans (intoT_on HE.out (by rw [← HRR.out]; exact hfl))
   rw [← HRR.out] at hRs
   rw [← hRs] at hkc
   unfold Fr at hkc
   have n0:=cell_of_row w1 W.heap.size 0 _ _ _ hn1
   have n1:=cell_of_row w1 W.heap.size 1 _ _ _ hn1
   have n2:=cell_of_row w1 W.heap.size 2 _ _ _ hn1
   simp only [List.getElem?_toArray,List.getElem?_cons_zero,List.getElem?_cons_succ] at n0 n1 n2
   have H1:=Ac (And.intro hMM hNN)
   clear htp hJ1 hg1 hI1 hm1 hN1 hRs hMM hNN c2 hgr hn1
   go_wp2_with fail
   refine hkc.mono ?_
   rintro e w2 ⟨rfl,v2,hJ2,hJx2,hg2,hI2,hm2,hN2⟩
   have hMM:=H1.out.1.trans hm2 H1.out.2
   have hNN : Nx W v.ownBlock v2.ownBlock:=H1.out.2.trans hN2 H1.out.1.size
   have HF:=Ac (And.intro hJ2 (And.intro hJx2 (And.intro hg2 (And.intro hI2 (And.intro hMM hNN)))))
   clear hkc hJ2 hJx2 hg2 hI2 hm2 hN2 hMM hNN n0 n1 n2
   go_wp2
   go_ret
   exact ⟨rfl,v2,HF.out.1,HF.out.2.1,HF.out.2.2.1,HF.out.2.2.2.1,HF.out.2.2.2.2.1,HF.out.2.2.2.2.2⟩
 ·have e0 : (er != 0)=true:=by simpa using he
  have hfa:=fail_any w0 l k B sts J Jx hY gb (.func (.func g) #[] caps) lo hi t.told v t.s er he hJ0 hg0
  have hRs:=hR.trans (intoT_err he)
  have HRS:=Ac hRs
  have H0:=Ac (And.intro hg0 (And.intro hI0 (And.intro hM0 hJ0)))
  clear hR he hsk hsp hak hcap hn0 hJ0 hg0 hI0 hM0 hb0 hJ hg hI hr hRs
  go_enter Tryz.func151,Tryz.ntmps151
  go_wp2_with fail
  try rw [hw0]
  go_wp2_with fail
  refine hfa.mono ?_
  rintro e w1 ⟨rfl,v1,hJx,hM1,hN1⟩
  have hI1:=hG.mv H0.out.2.1 (hM1.absorb (fun q hq=>hY.row H0.out.2.2.2 hq) hkt.1 hkt.2.2)
  have hg1:=H0.out.1.mv hM1 hY.apart.1 (hY.ne H0.out.2.2.2 H0.out.1)
  have hMM:=H0.out.2.2.1.trans (hM1.types (Iw sts)) (Nx.refl _ _)
  have hNN : Nx W v.ownBlock v1.ownBlock:=(Nx.refl W v.ownBlock).trans hN1 H0.out.2.2.1.size
  have HF:=Ac (And.intro hJx (And.intro hg1 (And.intro hI1 (And.intro hMM hNN))))
  clear hfa hJx hM1 hN1 hI1 hg1 hMM hNN c2
  go_wp2
  go_ret
  rw [HRS.out]
  exact ⟨rfl,v1,fun h=>(by cases h),fun _=>HF.out.1,HF.out.2.1,HF.out.2.2.1,HF.out.2.2.2.1,HF.out.2.2.2.2⟩
theorem goInto_any {σ : Type} (l : Nat) (k : Sink σ) (g : Nat) (caps : Array Value) (fd : Bs→Option Bs) (B : Nat) (sts kts : List TypeId) (J Jx : Value→σ→World→Prop) (hY : YieldOk l k B sts J Jx) (I : World→List Bs→Prop) (hG : GetOk g caps fd B kts I) (hkt : 135∈kts∧255∈kts∧∀ t∈sts,t∈kts) (gb : Nat) (lo hi : Bs) : ∀ (d : Nat),IntoOk l k fd B sts J Jx I gb (.func (.func g) #[] caps) lo hi d:=by
 intro d
 induction d with
 | zero=>
  refine M6 l k g caps fd B sts kts J Jx hY I hG hkt gb lo hi 0 ?_
  intro W v t n vk vp hJ hg hI hN hnd hsk hvp _ _
  have h0 : n.1=0:=by have:=hN.lo; simp at hnd; omega
  exact kids_leaf hY hG W v t n vk vp hJ hg hI (hN.leaf h0).1 (hsk W (Mv.refl _ _ _ _)) hvp
 | succ d ih=>
  refine M6 l k g caps fd B sts kts J Jx hY I hG hkt gb lo hi (d+1) ?_
  intro W v t n vk vp hJ hg hI hN hnd hsk hvp hak hcap
  by_cases h0 : n.1=0
  ·exact kids_leaf hY hG W v t n vk vp hJ hg hI (hN.leaf h0).1 (hsk W (Mv.refl _ _ _ _)) hvp
  ·obtain ⟨pa,pm,pc,rfl⟩:=hvp
   obtain ⟨ka,kc,rfl,-⟩:=Dp (hsk W (Mv.refl _ _ _ _))
   have hlo:=hN.lo
   exact goToKids_any W l k g caps fd B sts kts J Jx hY I hG hkt gb lo hi d ih v t hJ hg hI n.1 n.2.2 ka kc pa pm pc (by omega) (by simpa using hnd) hN.hi hN.links.2.1 hsk hN.links.2.2.2 hak hcap
end Go.Proofs.YtckejblkppllaaaGreatDoor
namespace Go.Proofs.YtckejblkppllaaaGreatDoor
open Go.RowKit
set_option maxRecDepth 20000 in
theorem through_any (w : World) (gv : Value) (hgv : gv.oneCell'=true) (root lo hi : Bs) : Calls Tryz.prog 105 #[gv, .string (Ab root), .agg #[.string (Ab lo), .string (Ab hi)]] w fun e w'=>e = .returned (.func (.func 150) #[] #[.pointer (some ⟨w.heap.size,0,none⟩), .pointer (some ⟨w.heap.size+2,0,none⟩), .pointer (some ⟨w.heap.size+1,0,none⟩)])∧w'=((w.alloc (.cells #[gv] 24)).alloc (.cells #[.string (Ab root)] 9)).alloc (.cells #[.string (Ab lo), .string (Ab hi)] 199):=by
 have hmf : ∀ (fn : Fn) (first cap : Array Value) (w : World),(Instr.makeFunc fn first cap).run Tryz.prog w = .ok (.func fn first cap) w:=fun _ _ _ _=>rfl
 go_enter Tryz.func105,Tryz.ntmps105
 go_wp2
 go_ret
 exact ⟨rfl,rfl⟩
set_option maxRecDepth 40000 in
set_option maxHeartbeats 3200000 in
theorem through1_any {σ : Type} (W : World) (l : Nat) (k : Sink σ) (g : Nat) (caps : Array Value) (fd : Bs→Option Bs) (B : Nat) (sts kts : List TypeId) (J Jx : Value→σ→World→Prop) (hY : YieldOk l k B sts J Jx) (I : World→List Bs→Prop) (hG : GetOk g caps fd B kts I) (hkt : 135∈kts∧255∈kts∧∀ t∈sts,t∈kts)
  (c1 c2 c3 : Nat) (root lo hi : Bs) (asked : List Bs) (v : Value) (s : σ) (h1 : W.heap[c1]? = some (.cells #[.func (.func g) #[] caps] 24)) (h2 : W.heap[c2]? = some (.cells #[.string (Ab lo), .string (Ab hi)] 199)) (h3 : W.heap[c3]? = some (.cells #[.string (Ab root)] 9)) (hB : B≤W.heap.size) (hJ : J v s W) (hI : I W asked) (hal : asked.length≤1000000) (hcap : k.cap s≤1000) :
  Calls Tryz.prog 150 #[.func (.yield l) #[] #[], .pointer (some ⟨c1,0,none⟩), .pointer (some ⟨c2,0,none⟩), .pointer (some ⟨c3,0,none⟩)] W fun e W'=>(∃ x,e = .returned x)∧∃ v',((goT k fd lo hi 21 (A8 root) (-1) ⟨asked,[],s⟩).2=true→J v' (goT k fd lo hi 21 (A8 root) (-1) ⟨asked,[],s⟩).1.s W')∧((goT k fd lo hi 21 (A8 root) (-1) ⟨asked,[],s⟩).2=false→Jx v' (goT k fd lo hi 21 (A8 root) (-1) ⟨asked,[],s⟩).1.s W')∧I W' (goT k fd lo hi 21 (A8 root) (-1) ⟨asked,[],s⟩).1.asked∧Mv B (gts sts) v.ownBlock W W'∧Nx W v.ownBlock v'.ownBlock:=by
 have hgo : goT k fd lo hi 21 (A8 root) (-1) ⟨asked,[],s⟩=D2 k (goT k fd lo hi 20) lo hi (Ao fd (A8 root) (-1)) ⟨asked ++ [root],[],s⟩:=rfl
 obtain ⟨R,hR⟩ : ∃ R,R=goT k fd lo hi 21 (A8 root) (-1) ⟨asked,[],s⟩:=⟨_,rfl⟩
 rw [← hR] at hgo ⊢
 have k1:=cell_of_row W c1 0 _ _ _ h1
 have k2:=cell_of_row W c2 0 _ _ _ h2
 have k3:=cell_of_row W c2 1 _ _ _ h2
 have hb0 : Below W.heap.size W (W.alloc (.cells #[.func (.func g) #[] caps, .string (Ab lo), .string (Ab hi), .func (.yield l) #[] #[], .string ⟨#[]⟩] 255)):=(Below.refl _ _).alloc (Nat.le_refl _) _
 have hn0:=heap_last W (.cells #[.func (.func g) #[] caps, .string (Ab lo), .string (Ab hi), .func (.yield l) #[] #[], .string ⟨#[]⟩] 255) _ rfl
 have hr0:=(hb0.block _ (Ad h3)).trans h3
 have hJ0:=hY.keep hJ (Mv.of hb0 hB) (KO.of hb0)
 have hI0:=hG.below hI hb0
 have hM0:=(Mv.refl B (gts sts) v.ownBlock W).more hb0 hB
 have hs0 : B≤(W.alloc (.cells #[.func (.func g) #[] caps, .string (Ab lo), .string (Ab hi), .func (.yield l) #[] #[], .string ⟨#[]⟩] 255)).heap.size:=Nat.le_trans hB hb0.size
 have hg0 : GoW B (W.alloc (.cells #[.func (.func g) #[] caps, .string (Ab lo), .string (Ab hi), .func (.yield l) #[] #[], .string ⟨#[]⟩] 255)) W.heap.size (.func (.func g) #[] caps) (.func (.yield l) #[] #[]) lo hi []:=⟨hB,hn0⟩
 have n0:=cell_of_row (W.alloc (.cells #[.func (.func g) #[] caps, .string (Ab lo), .string (Ab hi), .func (.yield l) #[] #[], .string ⟨#[]⟩] 255)) W.heap.size 0 _ _ _ hn0
 have r0:=cell_of_row (W.alloc (.cells #[.func (.func g) #[] caps, .string (Ab lo), .string (Ab hi), .func (.yield l) #[] #[], .string ⟨#[]⟩] 255)) c3 0 _ _ _ hr0
 simp only [List.getElem?_toArray,List.getElem?_cons_zero,List.getElem?_cons_succ] at k1 k2 k3 n0 r0
 have hask:=ask_any (W.alloc (.cells #[.func (.func g) #[] caps, .string (Ab lo), .string (Ab hi), .func (.yield l) #[] #[], .string ⟨#[]⟩] 255)) g caps fd B kts I hG root asked hI0 (by omega)
 have hok:=fun h=>(Eg (fd:=fd) (k:=A8 root) (level:=-1) hG.short h).1
 have hze:=fun h=>Ik (fd:=fd) (k:=A8 root) (level:=-1) h
 obtain ⟨er,n,hern⟩ : ∃ er n,Ao fd (A8 root) (-1)=(er,n):=⟨_,_,rfl⟩
 rw [hern] at hask hgo hok hze
 unfold En at hask
 simp only at hask hok hze
 have HGO:=Ac (And.intro hgo (And.intro hok hze))
 have H0:=Ac (And.intro hg0 (And.intro hJ0 hM0))
 clear hb0 hn0 hr0 hJ0 hI0 hM0 hg0 hgo hok hze hern hR h1 h2 h3 hJ hI
 go_enter Tryz.func150,Tryz.ntmps150
 go_wp2_with fail
 refine hask.mono ?_
 rintro e w1 ⟨⟨vk,vp,rfl,hrk,hrp⟩,hI1,hm1,hko1⟩
 clear hask
 generalize W.alloc (.cells #[.func (.func g) #[] caps, .string (Ab lo), .string (Ab hi), .func (.yield l) #[] #[], .string ⟨#[]⟩] 255)=w0 at *
 have hg1:=H0.out.1.mv hm1 (by decide) (by simp)
 have hJ1:=hY.keep H0.out.2.1 (hm1.types (by decide)) hko1
 have hM1 : Mv B (gts sts) v.ownBlock W w1:=H0.out.2.2.trans ((hm1.types (ts':=gts sts) (by intro t ht; exact jts_sub sts t (by revert ht; revert t; decide))).none (r:=v.ownBlock)) (Nx.refl _ _)
 have hvlt : ∀ q,v.ownBlock=some q→q<w0.heap.size:=fun q hq=>by obtain ⟨cs,fr,h⟩:=hY.row H0.out.2.1 hq; exact Ad h
 have hs1 : B≤w1.heap.size:=Nat.le_trans hs0 hm1.size
 obtain ⟨ka,km,kc,rfl⟩:=Av hrk
 obtain ⟨pa,pm,pc,rfl⟩:=Av hrp
 have hb2 : Below w1.heap.size w1 (w1.alloc (.cells #[.int .i64 n.1, .slice ka km kc, .slice pa pm pc] 240)):=(Below.refl _ _).alloc (Nat.le_refl _) _
 have hn2:=heap_last w1 (.cells #[.int .i64 n.1, .slice ka km kc, .slice pa pm pc] 240) _ rfl
 have hg2:=hg1.below hb2
 have hJ2:=hY.keep hJ1 (Mv.of hb2 hs1) (KO.of hb2)
 have hI2:=hG.below hI1 hb2
 have hM2:=hM1.more hb2 hs1
 have hrk2:=A0 hrk hb2
 have hrp2:=A0 hrp hb2
 generalize hw2 : w1.alloc (.cells #[.int .i64 n.1, .slice ka km kc, .slice pa pm pc] 240)=w2 at *
 have m0:=cell_of_row w2 w1.heap.size 0 _ _ _ hn2
 have m1:=cell_of_row w2 w1.heap.size 1 _ _ _ hn2
 have m2:=cell_of_row w2 w1.heap.size 2 _ _ _ hn2
 simp only [List.getElem?_toArray,List.getElem?_cons_zero,List.getElem?_cons_succ] at m0 m1 m2
 have hbn : n.2.1.length≤64∧(Am n.2.2).toNat≤4096:=by
  by_cases he : er=0
  ·have q1:=HGO.out.2.1 he
   exact ⟨q1.links.1,by have:=q1.links.2.2.1; omega⟩
  ·rw [HGO.out.2.2 he]
   simp [Am]
 have hin:=goInto_any l k g caps fd B sts kts J Jx hY I hG hkt W.heap.size lo hi 20 w2 v ⟨asked ++ [root],[],s⟩ er n _ _ hJ2 hg2 hI2 (fun he=>⟨HGO.out.2.1 he,(HGO.out.2.1 he).hi⟩) (fun W' h=>Bi Ev (h.own hrk2 (by have:=hY.apart; simp [this.2.2.1]) (Is hrk2 hvlt))) (fun W' h=>Bi Dr (h.own hrp2 (by have:=hY.apart; simp [this.2.1]) (Is hrp2 hvlt))) (by simp only [List.length_append,List.length_singleton]; omega) (by simp only; omega)
 rw [← HGO.out.1] at hin
 unfold Fr at hin
 have H2:=Ac hM2
 clear hko1 hrk hrp hI1 hm1 hg1 hJ1 hM1 hvlt hb2 hn2 hg2 hJ2 hI2 hM2 hrk2 hrp2 hbn n0 r0 k1 k2 k3
 go_wp2_with fail
 refine hin.mono ?_
 rintro e w3 ⟨rfl,v3,hJ3,hJx3,-,hI3,hm3,hN3⟩
 have hMM:=H2.out.trans hm3 (Nx.refl _ _)
 have hNN : Nx W v.ownBlock v3.ownBlock:=(Nx.refl W v.ownBlock).trans hN3 H2.out.size
 have HF:=Ac (And.intro hJ3 (And.intro hJx3 (And.intro hI3 (And.intro hMM hNN))))
 clear hin hJ3 hJx3 hI3 hm3 hN3 hMM hNN m0 m1 m2
 go_wp2
 go_end0
 exact ⟨⟨_,rfl⟩,v3,HF.out.1,HF.out.2.1,HF.out.2.2.1,HF.out.2.2.2.1,HF.out.2.2.2.2⟩
end Go.Proofs.YtckejblkppllaaaGreatDoor
