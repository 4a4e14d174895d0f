/-
  Asking for a branch's kid: it must be as the link says. Conditions: the get keeps its word; the link is right.
-/
import Derived.Test.YtckejblkppllaaaGreatDoorT26PAsk
namespace Go.Proofs.YtckejblkppllaaaGreatDoor
open Go.RowKit
theorem fits_prog {n : A2} {k : Ah} {level : Int} (hR : RightM n) (hk : A6 k=true) : D8 n k level=(decide (n.1=level) && (Cy n == k.1) && decide (Bt n=k.2.2)):=by
 have hkey:=((Ee k).1 hk).1
 have hk1 : 1≤k.1.length:=by unfold As at hkey; simp at hkey; omega
 unfold D8 Cy
 by_cases h0 : n.1=0
 ·obtain ⟨he,-⟩:=hR.leaf h0
  rw [if_pos h0,if_pos (by rw [he]; rfl)]
  by_cases hl : 1≤n.2.1.length
  ·rw [decide_eq_true hl,Bool.true_and]
   cases decide (n.1=level) <;> cases decide (Bt n=k.2.2) <;> cases (By n.2.1 == k.1) <;> rfl
  ·have he2 : n.2.1 = []:=List.length_eq_zero_iff.1 (by omega)
   have hne : (By n.2.1 == k.1)=false:=by
    rw [he2]
    cases hq : k.1 with
    | nil=>rw [hq] at hk1; simp at hk1
    | cons a r=>rfl
   rw [hne,decide_eq_false hl]
   simp
 ·have hb:=hR.branch (by have:=hR.lo; omega)
  have h3:=(Jk hb.2).2.2
  rw [if_neg h0,if_neg (by simp only at h3; omega)]
  cases decide (n.1=level) <;> cases decide (Bt n=k.2.2) <;> cases (E6 n.2.2 == k.1) <;> rfl
theorem askM_err {fd : Bs→Option Bs} {k : Ah} {level : Int} (h : (Ao fd (A8 k.2.1) (-1)).1≠0) : Ao fd k level=((Ao fd (A8 k.2.1) (-1)).1,0,[],[]):=by
 unfold Ao at h ⊢
 simp only at h ⊢
 cases hf : fd k.2.1 with
 | none=>simp
 | some b=>
  rw [hf] at h
  cases hn : Dd b with
  | none=>simp [hn]
  | some n=>
   simp only [hn] at h
   simp at h
theorem askM_node {fd : Bs→Option Bs} {k : Ah} {level : Int} (hl : ¬ level<0) (h : (Ao fd (A8 k.2.1) (-1)).1=0) : Ao fd k level=if D8 (Ao fd (A8 k.2.1) (-1)).2 k level=true then (0,(Ao fd (A8 k.2.1) (-1)).2) else (122,0,[],[]):=by
 unfold Ao at h ⊢
 simp only at h ⊢
 cases hf : fd k.2.1 with
 | none=>rw [hf] at h; simp at h
 | some b=>
  rw [hf] at h
  cases hn : Dd b with
  | none=>simp only [hn] at h; simp at h
  | some n=>simp [hl,hn]
theorem Hw {B : Nat} {w w' : World} (h : Below B w w') : Below B w.drew w':=⟨h.os,h.tape,h.output,h.size,h.block⟩
set_option maxRecDepth 40000 in
set_option maxHeartbeats 3200000 in
theorem Ny (w : World) (g : Nat) (caps : Array Value) (fd : Bs→Option Bs) (B : Nat) (ts : List TypeId) (I : World→List Bs→Prop) (hG : GetOk g caps fd B ts I) (k : Ah) (level : Int) (hk : A6 k=true) (hlv : 0≤level) (hlv2 : level≤20) (asked : List Bs) (hI : I w asked) (hn : asked.length≤4294967296) :
  Calls Tryz.prog 144 #[.agg #[.func (.func g) #[] caps], .agg #[.string (Ab k.1), .string (Ab k.2.1), .int .i64 k.2.2], .int .i64 level] w fun e w'=>En w.heap.size (Ao fd k level).2 (.int .i64 (Ao fd k level).1) e w'∧I w' (asked ++ [k.2.1])∧Mv B ats none w w'∧KO w w':=by
 have hB:=hG.le _ _ hI
 have hb0 : Below w.heap.size w (((w.alloc (.cells #[.func (.func g) #[] caps] 238)).alloc (.cells #[.string (Ab k.1), .string (Ab k.2.1), .int .i64 k.2.2] 125)).alloc (.cells #[.int .i64 0, .slice none 0 0, .slice none 0 0] 240)):=(((Below.refl _ _).alloc (Nat.le_refl _) _).alloc (by simp) _).alloc (by simp; omega) _
 have hx0 : (((w.alloc (.cells #[.func (.func g) #[] caps] 238)).alloc (.cells #[.string (Ab k.1), .string (Ab k.2.1), .int .i64 k.2.2] 125)).alloc (.cells #[.int .i64 0, .slice none 0 0, .slice none 0 0] 240)).heap[w.heap.size+2]? = some (.cells #[.int .i64 0, .slice none 0 0, .slice none 0 0] 240):=heap_last _ _ _ (by simp)
 have hp0 : (((w.alloc (.cells #[.func (.func g) #[] caps] 238)).alloc (.cells #[.string (Ab k.1), .string (Ab k.2.1), .int .i64 k.2.2] 125)).alloc (.cells #[.int .i64 0, .slice none 0 0, .slice none 0 0] 240)).heap[w.heap.size+1]? = some (.cells #[.string (Ab k.1), .string (Ab k.2.1), .int .i64 k.2.2] 125):=(heap_past _ _ _ (by simp)).trans (heap_last (w.alloc (.cells #[.func (.func g) #[] caps] 238)) _ _ (by simp))
 have ha0 : (((w.alloc (.cells #[.func (.func g) #[] caps] 238)).alloc (.cells #[.string (Ab k.1), .string (Ab k.2.1), .int .i64 k.2.2] 125)).alloc (.cells #[.int .i64 0, .slice none 0 0, .slice none 0 0] 240)).heap[w.heap.size]? = some (.cells #[.func (.func g) #[] caps] 238):=(heap_past _ _ _ (by simp; omega)).trans ((heap_past _ _ _ (by simp)).trans (heap_last w _ _ rfl))
 generalize hw0 : ((w.alloc (.cells #[.func (.func g) #[] caps] 238)).alloc (.cells #[.string (Ab k.1), .string (Ab k.2.1), .int .i64 k.2.2] 125)).alloc (.cells #[.int .i64 0, .slice none 0 0, .slice none 0 0] 240)=w0 at *
 have k0:=cell_of_row w0 w.heap.size 0 _ _ _ ha0
 have k1:=cell_of_row w0 (w.heap.size+1) 1 _ _ _ hp0
 simp only [List.getElem?_toArray,List.getElem?_cons_zero,List.getElem?_cons_succ] at k0 k1
 have hcl:=ask_any w0 g caps fd B ts I hG k.2.1 asked (hG.below hI hb0) hn
 have hs0 : w.heap.size≤w0.heap.size:=hb0.size
 obtain ⟨R,hR⟩ : ∃ R,R=Ao fd k level:=⟨_,rfl⟩
 rw [← hR]
 obtain ⟨er,n,hern⟩ : ∃ er n,Ao fd (A8 k.2.1) (-1)=(er,n):=⟨_,_,rfl⟩
 have herr:=fun h=>askM_err (fd:=fd) (k:=k) (level:=level) h
 have hnod:=fun h=>askM_node (fd:=fd) (k:=k) (level:=level) (by omega) h
 have hok:=fun h=>(Eg (fd:=fd) (k:=A8 k.2.1) (level:=-1) hG.short h).1
 rw [hern] at herr hnod hcl hok
 simp only at herr hnod hcl hok
 rw [← hR] at herr hnod
 unfold En at hcl
 have H0:=Ac (And.intro hb0 (And.intro hx0 hp0))
 have HG:=Ac hG
 have HE:=Ac (And.intro herr (And.intro hnod hok))
 have HK:=Ac hk
 clear hb0 hx0 hp0 ha0 hI hG hR hern herr hnod hok hk
 go_enter Tryz.func144,Tryz.ntmps144
 go_wp2_with fail
 try rw [hw0]
 go_wp2_with fail
 refine hcl.mono ?_
 rintro e w1 ⟨⟨vk,vp,rfl,hrk,hrp⟩,hI1,hm1,hko1⟩
 have hko2:=(KO.of H0.out.1).trans hko1
 have hM1 : Mv B ats none w w1:=(Mv.of H0.out.1 hB).trans hm1 (Nx.refl _ _)
 have hx1:=hm1.k _ _ _ _ H0.out.2.1 (by decide) (by simp)
 have hp1:=hm1.k _ _ _ _ H0.out.2.2 (by decide) (by simp)
 have hs1 : w.heap.size≤w1.heap.size:=Nat.le_trans hs0 hm1.size
 have hrk1:=Dh hrk hs0
 have hrp1:=Dh hrp hs0
 obtain ⟨ka,km,kc,rfl⟩:=Av hrk
 obtain ⟨pa,pm,pc,rfl⟩:=Av hrp
 clear hcl hm1 k0 k1 H0 hrk hrp
 have hb2 : Below w1.heap.size w1 (w1.alloc (.cells #[.int .i64 n.1, .slice ka km kc, .slice pa pm pc] 240)):=(Below.refl _ _).alloc (Nat.le_refl _) _
 have hy2:=heap_last w1 (.cells #[.int .i64 n.1, .slice ka km kc, .slice pa pm pc] 240) _ rfl
 have hx2:=(hb2.block _ (Ad hx1)).trans hx1
 have hp2:=(hb2.block _ (Ad hp1)).trans hp1
 have hI2:=HG.out.below hI1 hb2
 have hM2:=hM1.more hb2 (Nat.le_trans hB hs1)
 have HKO2:=Ac (hko2.more hb2)
 clear hko1 hko2
 have hrk2:=A0 hrk1 hb2
 have hrp2:=A0 hrp1 hb2
 have hs2 : w.heap.size≤(w1.alloc (.cells #[.int .i64 n.1, .slice ka km kc, .slice pa pm pc] 240)).heap.size:=Nat.le_trans hs1 hb2.size
 obtain ⟨q,hq⟩ : ∃ q,q=w1.heap.size:=⟨_,rfl⟩
 rw [← hq] at hy2
 generalize hw2 : w1.alloc (.cells #[.int .i64 n.1, .slice ka km kc, .slice pa pm pc] 240)=w2 at *
 have hqr : w1.heap.size=q:=hq.symm
 clear hq hx1 hp1 hI1 hM1 hrk1 hrp1 hb2
 have H2:=Ac (And.intro hx2 (And.intro hy2 (And.intro hp2 (And.intro hI2 (And.intro hM2 (And.intro hrk2 hrp2))))))
 by_cases he : er=0
 ·have hR0:=HE.out.2.2 he
  have hnod:=HE.out.2.1 he
  have hft:=fits_prog (k:=k) (level:=level) hR0 HK.out
  have hLk : Ls w2.drew.heap.size w2.drew 3 Au (.slice ka km kc) n.2.2:=Bi Ev hrk2
  have hLp : Ls w2.drew.heap.size w2.drew 2 Ak (.slice pa pm pc) n.2.1:=Bi Dr hrp2
  have HLR:=Ac (And.intro hR0.links.2.1 (And.intro hR0.links.2.2.1 hR0.links.1))
  obtain ⟨la,hla⟩ : ∃ la,la=Cy n:=⟨_,rfl⟩
  obtain ⟨cn,hcn⟩ : ∃ cn,cn=Bt n:=⟨_,rfl⟩
  rw [← hla,← hcn] at hft
  have HLA:=Ac (And.intro hla.symm hcn.symm)
  have HFT:=Ac hft
  have HA:=Ac hnod
  have e0 : (er != 0)=false:=by rw [he]; rfl
  have tl:=toL la
  have tk:=toL k.1
  have hdl : (n.1 != level) = !decide (n.1=level):=by rw [Bool.eq_iff_iff]; simp
  have hdc : (cn != k.2.2) = !decide (cn=k.2.2):=by rw [Bool.eq_iff_iff]; simp
  have n0:=cell_of_row w2 q 0 _ _ _ hy2
  have n1:=cell_of_row w2 q 1 _ _ _ hy2
  have n2:=cell_of_row w2 q 2 _ _ _ hy2
  have p0:=cell_of_row w2 (w.heap.size+1) 0 _ _ _ hp2
  have p2:=cell_of_row w2 (w.heap.size+1) 2 _ _ _ hp2
  simp only [List.getElem?_toArray,List.getElem?_cons_zero,List.getElem?_cons_succ] at n0 n1 n2 p0 p2
  clear hR0 hnod hft hla hcn hx2 hy2 hp2 hI2 hM2 hrk2 hrp2 he
  cases hq1 : decide (n.1=level) with
  | false=>
   simp only [hq1,Bool.not_false] at hdl
   have hA:=HA.out.trans (by rw [HFT.out,hq1]; rfl : _=((122,0,[],[]) : Int × A2))
   have HA2:=Ac hA
   clear hA
   go_wp2_with fail
   refine wp_region_held_drew (S:=fun W=>W.cell? ⟨q,0,none⟩=some (.int .i64 n.1)∧W.cell? ⟨q,1,none⟩=some (.slice ka km kc)∧W.cell? ⟨q,2,none⟩=some (.slice pa pm pc)∧W.cell? ⟨w.heap.size+1,0,none⟩=some (.string (Ab k.1))∧W.cell? ⟨w.heap.size+1,2,none⟩=some (.int .i64 k.2.2)) (by kernel_rfl) (⟨n0,n1,n2,p0,p2⟩) (fun hHeld=>?_)
   refine Aa 0 hHeld ?_
   refine Aa 1 hHeld ?_
   refine Aa 2 hHeld ?_
   refine Aa 3 hHeld ?_
   refine Aa 4 hHeld ?_
   refine Aa 5 hHeld ?_
   refine Ae 6 hHeld ?_
   refine Ae 7 hHeld ?_
   refine Ae 8 hHeld ?_
   refine Ae 9 hHeld ?_
   refine Ae 10 hHeld ?_
   refine Aa 11 hHeld ?_
   refine Aa 12 hHeld ?_
   refine Ae 13 hHeld ?_
   refine Ae 14 hHeld ?_
   refine Ae 15 hHeld ?_
   refine Ae 16 hHeld ?_
   refine Ae 17 hHeld ?_
   refine Aa 18 hHeld ?_
   refine wpAnyH_done (by kernel_rfl) ?_ _
   clear hHeld
   have hx4:=(show w2.drew.heap[w.heap.size+2]? = _ from H2.out.1)
   have HI:=Ac (HG.out.mv H2.out.2.2.2.1 (Mv.refl B ts none w2).drew)
   have HMM:=Ac H2.out.2.2.2.2.1.drew
   have HKO:=Ac HKO2.out.drew
   generalize w2.drew=w4 at *
   have c0:=cell_of_row w4 (w.heap.size+2) 0 _ _ _ hx4
   have c1:=cell_of_row w4 (w.heap.size+2) 1 _ _ _ hx4
   have c2:=cell_of_row w4 (w.heap.size+2) 2 _ _ _ hx4
   simp only [List.getElem?_toArray,List.getElem?_cons_zero,List.getElem?_cons_succ] at c0 c1 c2
   have f0:=Af (j:=0) hx4
   have f1:=Af (j:=1) hx4
   have f2:=Af (j:=2) hx4
   clear n0 n1 n2 p0 p2
   go_wp2
   refine bodyPost_ret (Aq rfl _ _ _ _ _ _ _ rfl (Bm hx4) Tryz.underlying240 rfl Tryz.infoNodeP) rfl ⟨?_,?_,?_,?_⟩
   ·rw [HA2.out]
    exact ⟨_,_,rfl,World.ownsRow_nil _ _ _ _,World.ownsRow_nil _ _ _ _⟩
   ·exact HG.out.mv HI.out ((((Mv.refl B ts none w4).set (j:=0) hx4 HG.out.node (by omega) _).set (j:=1) (An hx4) HG.out.node (by omega) _).set (j:=2) (Az (An hx4)) HG.out.node (by omega) _)
   ·exact ((HMM.out.setNew (j:=0) (by omega) hB _).setNew (j:=1) (by omega) hB _).setNew (j:=2) (by omega) hB _
   ·exact ((HKO.out.set (j:=0) hx4 _).set (j:=1) (An hx4) _).set (j:=2) (Az (An hx4)) _
  | true=>
   simp only [hq1,Bool.not_true] at hdl
   cases hq2 : (la == k.1) with
   | false=>
    have hA:=HA.out.trans (by rw [HFT.out,hq1,hq2]; rfl : _=((122,0,[],[]) : Int × A2))
    have HA2:=Ac hA
    clear hA
    go_wp2_with fail
    refine wp_region_held_drew (S:=fun W=>W.cell? ⟨q,0,none⟩=some (.int .i64 n.1)∧W.cell? ⟨q,1,none⟩=some (.slice ka km kc)∧W.cell? ⟨q,2,none⟩=some (.slice pa pm pc)∧W.cell? ⟨w.heap.size+1,0,none⟩=some (.string (Ab k.1))∧W.cell? ⟨w.heap.size+1,2,none⟩=some (.int .i64 k.2.2)) (by kernel_rfl) (⟨n0,n1,n2,p0,p2⟩) (fun hHeld=>?_)
    refine Aa 0 hHeld ?_
    refine Aa 1 hHeld ?_
    refine Aa 2 hHeld ?_
    refine Aa 3 hHeld ?_
    refine Aa 4 hHeld ?_
    refine Aa 5 hHeld ?_
    refine Aa 6 hHeld ?_
    refine Aa 8 hHeld ?_
    refine Aa 9 hHeld ?_
    refine Ai (i:=7) rfl (by kernel_rfl) rfl (fun K hK=>?_)
    go_simp
    refine (Gy w2.drew n _ _ hLk hLp).mono ?_
    rintro e w3 ⟨rfl,hb3⟩
    clear n0 n1 n2 p0 p2
    have hb3' : Below w2.heap.size w2 w3:=(Below.refl _ _).drew.trans hb3
    have hxw3:=(hb3'.block _ (Ad H2.out.1)).trans H2.out.1
    have hyw3:=(hb3'.block _ (Ad H2.out.2.1)).trans H2.out.2.1
    have hpw3:=(hb3'.block _ (Ad H2.out.2.2.1)).trans H2.out.2.2.1
    have n0:=cell_of_row w3 q 0 _ _ _ hyw3
    have n1:=cell_of_row w3 q 1 _ _ _ hyw3
    have n2:=cell_of_row w3 q 2 _ _ _ hyw3
    have p0:=cell_of_row w3 (w.heap.size+1) 0 _ _ _ hpw3
    have p2:=cell_of_row w3 (w.heap.size+1) 2 _ _ _ hpw3
    simp only [List.getElem?_toArray,List.getElem?_cons_zero,List.getElem?_cons_succ] at n0 n1 n2 p0 p2
    rw [HLA.out.1]
    clear hb3
    refine hK.out _ _ (⟨n0,n1,n2,p0,p2⟩) (fun hHeld=>?_)
    clear hK K
    try simp only [Act.put,List.setIfInBounds_toArray,List.set_cons_zero,List.set_cons_succ]
    refine Aa 10 hHeld ?_
    refine Aa 11 hHeld ?_
    refine Aa 12 hHeld ?_
    refine Ae 13 hHeld ?_
    refine Ae 14 hHeld ?_
    refine Ae 15 hHeld ?_
    refine Ae 16 hHeld ?_
    refine Ae 17 hHeld ?_
    refine Aa 18 hHeld ?_
    refine wpAnyH_done (by kernel_rfl) ?_ _
    clear hHeld
    have HI:=Ac (HG.out.below H2.out.2.2.2.1 hb3')
    have HMM:=Ac (H2.out.2.2.2.2.1.more hb3' (Nat.le_trans hB hs2))
    have HKO:=Ac (HKO2.out.more hb3')
    have c0:=cell_of_row w3 (w.heap.size+2) 0 _ _ _ hxw3
    have c1:=cell_of_row w3 (w.heap.size+2) 1 _ _ _ hxw3
    have c2:=cell_of_row w3 (w.heap.size+2) 2 _ _ _ hxw3
    simp only [List.getElem?_toArray,List.getElem?_cons_zero,List.getElem?_cons_succ] at c0 c1 c2
    have f0:=Af (j:=0) hxw3
    have f1:=Af (j:=1) hxw3
    have f2:=Af (j:=2) hxw3
    clear n0 n1 n2 p0 p2 hb3'
    go_wp2
    refine bodyPost_ret (Aq rfl _ _ _ _ _ _ _ rfl (Bm hxw3) Tryz.underlying240 rfl Tryz.infoNodeP) rfl ⟨?_,?_,?_,?_⟩
    ·rw [HA2.out]
     exact ⟨_,_,rfl,World.ownsRow_nil _ _ _ _,World.ownsRow_nil _ _ _ _⟩
    ·exact HG.out.mv HI.out ((((Mv.refl B ts none w3).set (j:=0) hxw3 HG.out.node (by omega) _).set (j:=1) (An hxw3) HG.out.node (by omega) _).set (j:=2) (Az (An hxw3)) HG.out.node (by omega) _)
    ·exact ((HMM.out.setNew (j:=0) (by omega) hB _).setNew (j:=1) (by omega) hB _).setNew (j:=2) (by omega) hB _
    ·exact ((HKO.out.set (j:=0) hxw3 _).set (j:=1) (An hxw3) _).set (j:=2) (Az (An hxw3)) _
   | true=>
    cases hq3 : decide (cn=k.2.2) with
    | false=>
     simp only [hq3,Bool.not_false] at hdc
     have hA:=HA.out.trans (by rw [HFT.out,hq1,hq2,hq3]; rfl : _=(((122,0,[],[]) : Int × A2) : Int × A2))
     have HA2:=Ac hA
     clear hA
     go_wp2_with fail
     refine wp_region_held_drew (S:=fun W=>W.cell? ⟨q,0,none⟩=some (.int .i64 n.1)∧W.cell? ⟨q,1,none⟩=some (.slice ka km kc)∧W.cell? ⟨q,2,none⟩=some (.slice pa pm pc)∧W.cell? ⟨w.heap.size+1,0,none⟩=some (.string (Ab k.1))∧W.cell? ⟨w.heap.size+1,2,none⟩=some (.int .i64 k.2.2)) (by kernel_rfl) (⟨n0,n1,n2,p0,p2⟩) (fun hHeld=>?_)
     refine Aa 0 hHeld ?_
     refine Aa 1 hHeld ?_
     refine Aa 2 hHeld ?_
     refine Aa 3 hHeld ?_
     refine Aa 4 hHeld ?_
     refine Aa 5 hHeld ?_
     refine Aa 6 hHeld ?_
     refine Aa 8 hHeld ?_
     refine Aa 9 hHeld ?_
     refine Ai (i:=7) rfl (by kernel_rfl) rfl (fun K hK=>?_)
     go_simp
     refine (Gy w2.drew n _ _ hLk hLp).mono ?_
     rintro e w3 ⟨rfl,hb3⟩
     clear n0 n1 n2 p0 p2
     have hb3' : Below w2.heap.size w2 w3:=(Below.refl _ _).drew.trans hb3
     have hxw3:=(hb3'.block _ (Ad H2.out.1)).trans H2.out.1
     have hyw3:=(hb3'.block _ (Ad H2.out.2.1)).trans H2.out.2.1
     have hpw3:=(hb3'.block _ (Ad H2.out.2.2.1)).trans H2.out.2.2.1
     have n0:=cell_of_row w3 q 0 _ _ _ hyw3
     have n1:=cell_of_row w3 q 1 _ _ _ hyw3
     have n2:=cell_of_row w3 q 2 _ _ _ hyw3
     have p0:=cell_of_row w3 (w.heap.size+1) 0 _ _ _ hpw3
     have p2:=cell_of_row w3 (w.heap.size+1) 2 _ _ _ hpw3
     simp only [List.getElem?_toArray,List.getElem?_cons_zero,List.getElem?_cons_succ] at n0 n1 n2 p0 p2
     rw [HLA.out.1]
     clear hb3
     refine hK.out _ _ (⟨n0,n1,n2,p0,p2⟩) (fun hHeld=>?_)
     clear hK K
     try simp only [Act.put,List.setIfInBounds_toArray,List.set_cons_zero,List.set_cons_succ]
     refine Aa 10 hHeld ?_
     refine Aa 11 hHeld ?_
     refine Aa 12 hHeld ?_
     refine Aa 13 hHeld ?_
     refine Aa 15 hHeld ?_
     refine Aa 16 hHeld ?_
     refine Ai (i:=14) rfl (by kernel_rfl) rfl (fun K hK=>?_)
     go_simp
     refine (G8 w3 n _ _ (hLk.keep (Hw hb3') |>.up hb3'.size) (hLp.keep (Hw hb3') |>.up hb3'.size) HLR.out.1 HLR.out.2.1 (by have:=HLR.out.2.2; omega)).mono ?_
     rintro e w4 ⟨rfl,hb4⟩
     clear n0 n1 n2 p0 p2
     have hb4' : Below w2.heap.size w2 w4:=hb3'.trans (hb4.mono hb3'.size)
     have hxw4:=(hb4'.block _ (Ad H2.out.1)).trans H2.out.1
     have hyw4:=(hb4'.block _ (Ad H2.out.2.1)).trans H2.out.2.1
     have hpw4:=(hb4'.block _ (Ad H2.out.2.2.1)).trans H2.out.2.2.1
     have n0:=cell_of_row w4 q 0 _ _ _ hyw4
     have n1:=cell_of_row w4 q 1 _ _ _ hyw4
     have n2:=cell_of_row w4 q 2 _ _ _ hyw4
     have p0:=cell_of_row w4 (w.heap.size+1) 0 _ _ _ hpw4
     have p2:=cell_of_row w4 (w.heap.size+1) 2 _ _ _ hpw4
     simp only [List.getElem?_toArray,List.getElem?_cons_zero,List.getElem?_cons_succ] at n0 n1 n2 p0 p2
     rw [HLA.out.2]
     clear hb4
     refine hK.out _ _ (⟨n0,n1,n2,p0,p2⟩) (fun hHeld=>?_)
     clear hK K
     try simp only [Act.put,List.setIfInBounds_toArray,List.set_cons_zero,List.set_cons_succ]
     refine Aa 17 hHeld ?_
     refine Aa 18 hHeld ?_
     refine wpAnyH_done (by kernel_rfl) ?_ _
     clear hHeld
     have HI:=Ac (HG.out.below H2.out.2.2.2.1 hb4')
     have HMM:=Ac (H2.out.2.2.2.2.1.more hb4' (Nat.le_trans hB hs2))
     have HKO:=Ac (HKO2.out.more hb4')
     have HOW:=Ac (And.intro (A0 H2.out.2.2.2.2.2.1 hb4') (A0 H2.out.2.2.2.2.2.2 hb4'))
     have c0:=cell_of_row w4 (w.heap.size+2) 0 _ _ _ hxw4
     have c1:=cell_of_row w4 (w.heap.size+2) 1 _ _ _ hxw4
     have c2:=cell_of_row w4 (w.heap.size+2) 2 _ _ _ hxw4
     simp only [List.getElem?_toArray,List.getElem?_cons_zero,List.getElem?_cons_succ] at c0 c1 c2
     have f0:=Af (j:=0) hxw4
     have f1:=Af (j:=1) hxw4
     have f2:=Af (j:=2) hxw4
     clear p0 p2 hb3' hb4'
     go_wp2
     refine bodyPost_ret (Aq rfl _ _ _ _ _ _ _ rfl (Bm hxw4) Tryz.underlying240 rfl Tryz.infoNodeP) rfl ⟨?_,?_,?_,?_⟩
     ·rw [HA2.out]
      exact ⟨_,_,rfl,World.ownsRow_nil _ _ _ _,World.ownsRow_nil _ _ _ _⟩
     ·exact HG.out.mv HI.out ((((Mv.refl B ts none w4).set (j:=0) hxw4 HG.out.node (by omega) _).set (j:=1) (An hxw4) HG.out.node (by omega) _).set (j:=2) (Az (An hxw4)) HG.out.node (by omega) _)
     ·exact ((HMM.out.setNew (j:=0) (by omega) hB _).setNew (j:=1) (by omega) hB _).setNew (j:=2) (by omega) hB _
     ·exact ((HKO.out.set (j:=0) hxw4 _).set (j:=1) (An hxw4) _).set (j:=2) (Az (An hxw4)) _
    | true=>
     simp only [hq3,Bool.not_true] at hdc
     have hA:=HA.out.trans (by rw [HFT.out,hq1,hq2,hq3]; rfl : _=((0,n) : Int × A2))
     have HA2:=Ac hA
     clear hA
     go_wp2_with fail
     refine wp_region_held_drew (S:=fun W=>W.cell? ⟨q,0,none⟩=some (.int .i64 n.1)∧W.cell? ⟨q,1,none⟩=some (.slice ka km kc)∧W.cell? ⟨q,2,none⟩=some (.slice pa pm pc)∧W.cell? ⟨w.heap.size+1,0,none⟩=some (.string (Ab k.1))∧W.cell? ⟨w.heap.size+1,2,none⟩=some (.int .i64 k.2.2)) (by kernel_rfl) (⟨n0,n1,n2,p0,p2⟩) (fun hHeld=>?_)
     refine Aa 0 hHeld ?_
     refine Aa 1 hHeld ?_
     refine Aa 2 hHeld ?_
     refine Aa 3 hHeld ?_
     refine Aa 4 hHeld ?_
     refine Aa 5 hHeld ?_
     refine Aa 6 hHeld ?_
     refine Aa 8 hHeld ?_
     refine Aa 9 hHeld ?_
     refine Ai (i:=7) rfl (by kernel_rfl) rfl (fun K hK=>?_)
     go_simp
     refine (Gy w2.drew n _ _ hLk hLp).mono ?_
     rintro e w3 ⟨rfl,hb3⟩
     clear n0 n1 n2 p0 p2
     have hb3' : Below w2.heap.size w2 w3:=(Below.refl _ _).drew.trans hb3
     have hxw3:=(hb3'.block _ (Ad H2.out.1)).trans H2.out.1
     have hyw3:=(hb3'.block _ (Ad H2.out.2.1)).trans H2.out.2.1
     have hpw3:=(hb3'.block _ (Ad H2.out.2.2.1)).trans H2.out.2.2.1
     have n0:=cell_of_row w3 q 0 _ _ _ hyw3
     have n1:=cell_of_row w3 q 1 _ _ _ hyw3
     have n2:=cell_of_row w3 q 2 _ _ _ hyw3
     have p0:=cell_of_row w3 (w.heap.size+1) 0 _ _ _ hpw3
     have p2:=cell_of_row w3 (w.heap.size+1) 2 _ _ _ hpw3
     simp only [List.getElem?_toArray,List.getElem?_cons_zero,List.getElem?_cons_succ] at n0 n1 n2 p0 p2
     rw [HLA.out.1]
     clear hb3
     refine hK.out _ _ (⟨n0,n1,n2,p0,p2⟩) (fun hHeld=>?_)
     clear hK K
     try simp only [Act.put,List.setIfInBounds_toArray,List.set_cons_zero,List.set_cons_succ]
     refine Aa 10 hHeld ?_
     refine Aa 11 hHeld ?_
     refine Aa 12 hHeld ?_
     refine Aa 13 hHeld ?_
     refine Aa 15 hHeld ?_
     refine Aa 16 hHeld ?_
     refine Ai (i:=14) rfl (by kernel_rfl) rfl (fun K hK=>?_)
     go_simp
     refine (G8 w3 n _ _ (hLk.keep (Hw hb3') |>.up hb3'.size) (hLp.keep (Hw hb3') |>.up hb3'.size) HLR.out.1 HLR.out.2.1 (by have:=HLR.out.2.2; omega)).mono ?_
     rintro e w4 ⟨rfl,hb4⟩
     clear n0 n1 n2 p0 p2
     have hb4' : Below w2.heap.size w2 w4:=hb3'.trans (hb4.mono hb3'.size)
     have hxw4:=(hb4'.block _ (Ad H2.out.1)).trans H2.out.1
     have hyw4:=(hb4'.block _ (Ad H2.out.2.1)).trans H2.out.2.1
     have hpw4:=(hb4'.block _ (Ad H2.out.2.2.1)).trans H2.out.2.2.1
     have n0:=cell_of_row w4 q 0 _ _ _ hyw4
     have n1:=cell_of_row w4 q 1 _ _ _ hyw4
     have n2:=cell_of_row w4 q 2 _ _ _ hyw4
     have p0:=cell_of_row w4 (w.heap.size+1) 0 _ _ _ hpw4
     have p2:=cell_of_row w4 (w.heap.size+1) 2 _ _ _ hpw4
     simp only [List.getElem?_toArray,List.getElem?_cons_zero,List.getElem?_cons_succ] at n0 n1 n2 p0 p2
     rw [HLA.out.2]
     clear hb4
     refine hK.out _ _ (⟨n0,n1,n2,p0,p2⟩) (fun hHeld=>?_)
     clear hK K
     try simp only [Act.put,List.setIfInBounds_toArray,List.set_cons_zero,List.set_cons_succ]
     refine Aa 17 hHeld ?_
     refine Aa 18 hHeld ?_
     refine wpAnyH_done (by kernel_rfl) ?_ _
     clear hHeld
     have HI:=Ac (HG.out.below H2.out.2.2.2.1 hb4')
     have HMM:=Ac (H2.out.2.2.2.2.1.more hb4' (Nat.le_trans hB hs2))
     have HKO:=Ac (HKO2.out.more hb4')
     have HOW:=Ac (And.intro (A0 H2.out.2.2.2.2.2.1 hb4') (A0 H2.out.2.2.2.2.2.2 hb4'))
     have c0:=cell_of_row w4 (w.heap.size+2) 0 _ _ _ hxw4
     have c1:=cell_of_row w4 (w.heap.size+2) 1 _ _ _ hxw4
     have c2:=cell_of_row w4 (w.heap.size+2) 2 _ _ _ hxw4
     simp only [List.getElem?_toArray,List.getElem?_cons_zero,List.getElem?_cons_succ] at c0 c1 c2
     have f0:=Af (j:=0) hxw4
     have f1:=Af (j:=1) hxw4
     have f2:=Af (j:=2) hxw4
     clear p0 p2 hb3' hb4'
     go_wp2
     refine bodyPost_ret (Aq rfl _ _ _ _ _ _ _ rfl (Bm hxw4) Tryz.underlying240 rfl Tryz.infoNodeP) rfl ⟨?_,?_,?_,?_⟩
     ·rw [HA2.out]
      exact ⟨_,_,rfl,Ap (Ap (Ap HOW.out.1 hxw4 (by decide) _) (An hxw4) (by decide) _) (Az (An hxw4)) (by decide) _,Ap (Ap (Ap HOW.out.2 hxw4 (by decide) _) (An hxw4) (by decide) _) (Az (An hxw4)) (by decide) _⟩
     ·exact HG.out.mv HI.out ((((Mv.refl B ts none w4).set (j:=0) hxw4 HG.out.node (by omega) _).set (j:=1) (An hxw4) HG.out.node (by omega) _).set (j:=2) (Az (An hxw4)) HG.out.node (by omega) _)
     ·exact ((HMM.out.setNew (j:=0) (by omega) hB _).setNew (j:=1) (by omega) hB _).setNew (j:=2) (by omega) hB _
     ·exact ((HKO.out.set (j:=0) hxw4 _).set (j:=1) (An hxw4) _).set (j:=2) (Az (An hxw4)) _
 ·have hA:=HE.out.1 he
  have HA2:=Ac hA
  have e0 : (er != 0)=true:=by simpa using he
  have HI:=Ac hI2
  have HMM:=Ac hM2
  have HKO:=Ac HKO2.out
  have c0:=cell_of_row w2 (w.heap.size+2) 0 _ _ _ hx2
  have c1:=cell_of_row w2 (w.heap.size+2) 1 _ _ _ hx2
  have c2:=cell_of_row w2 (w.heap.size+2) 2 _ _ _ hx2
  simp only [List.getElem?_toArray,List.getElem?_cons_zero,List.getElem?_cons_succ] at c0 c1 c2
  have f0:=Af (j:=0) hx2
  have f1:=Af (j:=1) hx2
  have f2:=Af (j:=2) hx2
  clear hA hy2 hp2 hI2 hM2 hrk2 hrp2 he
  go_wp2
  refine bodyPost_ret (Aq rfl _ _ _ _ _ _ _ rfl (Bm hx2) Tryz.underlying240 rfl Tryz.infoNodeP) rfl ⟨?_,?_,?_,?_⟩
  ·rw [HA2.out]
   exact ⟨_,_,rfl,World.ownsRow_nil _ _ _ _,World.ownsRow_nil _ _ _ _⟩
  ·exact HG.out.mv HI.out ((((Mv.refl B ts none w2).set (j:=0) hx2 HG.out.node (by omega) _).set (j:=1) (An hx2) HG.out.node (by omega) _).set (j:=2) (Az (An hx2)) HG.out.node (by omega) _)
  ·exact ((HMM.out.setNew (j:=0) (by omega) hB _).setNew (j:=1) (by omega) hB _).setNew (j:=2) (by omega) hB _
  ·exact ((HKO.out.set (j:=0) hx2 _).set (j:=1) (An hx2) _).set (j:=2) (Az (An hx2)) _
end Go.Proofs.YtckejblkppllaaaGreatDoor
