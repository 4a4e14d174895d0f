/-
  A map built by the program. Conditions: the pairs lie there; the table holds its numbers.
-/
import Derived.Test.YtckejblkppllaaaGreatDoorT33QOEntry3
import Derived.Test.YtckejblkppllaaaGreatDoorT29PKid
namespace Go.Proofs.YtckejblkppllaaaGreatDoor
open Go.RowKit
def Ep (l : List Ag) : Ah × List Ag:=if l.length=0 then (C4 [],[Ay []]) else mapR l
theorem rootM_nil {l : List Ag} (h : l.length=0) : Ep l=(C4 [],[Ay []]):=if_pos h
theorem Ke {l : List Ag} (h : l.length≠0) : Ep l=E1 13 1 ((C3 l).map C4) ((C3 l).map Ay):=if_neg h
theorem Lo {l : List Ag} (h : ¬ 4096<l.length) (h2 : Ce l=true) : Cl l=((Ep l).1.2.1,Bo [] (Ep l).2,0):=by
 by_cases h3 : l.length=0
 ·have : l = []:=List.length_eq_zero_iff.1 h3
  rw [rootM_nil h3,this,Mu]
  rfl
 ·rw [buildM_some h h2 h3]
  unfold Ep
  rw [if_neg h3]
set_option maxRecDepth 40000 in
set_option maxHeartbeats 1600000 in
theorem Pb (B : Nat) (w : World) (g : Nat) (v : Value) (h : BdW B w g []) (hv : Ls w.heap.size w 2 Ak v []) (hT : Bh w) (h0 : 1<B) :
  Calls Tryz.prog 109 #[.pointer (some ⟨g,0,none⟩),v] w fun e w'=>∃ u,e = .returned u∧Rw w.heap.size w' 125 3 Au u [C4 []]∧BdW B w' g [Ay []]∧Mv B bts none w w':=by
 obtain ⟨ao,cap,rfl,-⟩:=Dp hv
 have hB : B≤w.heap.size:=by
  obtain ⟨hg,vo,mb,hh,-⟩:=h
  have:=Ad hh
  omega
 have hlay:=Lv B w g [] (0,[],[]) (.slice none 0 0) (.slice none 0 0) h (by simp) (fun W _=>Ls.nil _ _ _ _) (fun W _=>Ls.nil _ _ _ _) hT h0 (fun _=>by decide) (fun h=>absurd rfl h) (by simp) (by simp [Am]) (by simp)
 have hk : C4 []=(Cy (0,[],[]),(De (0,[],[])).1,Bt (0,[],[])):=by
  unfold C4 Cy De Bt
  simp [Am]
 have ho : C7 [] (De (0,[],[])) = [Ay []]:=by unfold De C7; simp
 rw [ho] at hlay
 obtain ⟨kk,hkk⟩ : ∃ kk,kk=C4 []:=⟨_,rfl⟩
 rw [← hkk]
 rw [← hkk] at hk
 have hl1 : Cy (0,[],[])=kk.1:=by rw [hk]
 have hl2 : (De (0,[],[])).1=kk.2.1:=by rw [hk]
 have hl3 : Bt (0,[],[])=kk.2.2:=by rw [hk]
 rw [hl1,hl2,hl3] at hlay
 clear hl1 hl2 hl3 hk hkk h ho
 go_enter Tryz.func109,Tryz.ntmps109
 go_wp2_with fail
 refine hlay.mono ?_
 rintro e w1 ⟨rfl,hBd1,hM1⟩
 have hb : Below w1.heap.size w1 (w1.alloc (.cells #[.string (Ab kk.1), .string (Ab kk.2.1), .int .i64 kk.2.2] 125)):=(Below.refl _ _).alloc (Nat.le_refl _) _
 have hrow : Rw w.heap.size (w1.alloc (.cells #[.string (Ab kk.1), .string (Ab kk.2.1), .int .i64 kk.2.2] 125)) 125 3 Au (.slice (some ⟨w1.heap.size,0,none⟩) 1 1) [kk]:=
  ⟨rfl, .inr ⟨w1.heap.size,1,#[.string (Ab kk.1), .string (Ab kk.2.1), .int .i64 kk.2.2],rfl,hM1.size,heap_last w1 _ _ rfl,Nat.le_refl _,by unfold maxLen; omega,rfl,rfl⟩⟩
 have HF:=Ac (And.intro hrow (And.intro (hBd1.keep hb) (hM1.more hb (Nat.le_trans hB hM1.size))))
 clear hlay hBd1 hM1 hb hrow
 go_wp2
 go_ret
 exact ⟨_,rfl,HF.out.1,HF.out.2.1,HF.out.2.2⟩
set_option maxRecDepth 40000 in
set_option maxHeartbeats 1600000 in
theorem layMap_any (B : Nat) (w : World) (g : Nat) (l : List Ag) (v : Value) (hg : B≤g) (hh : w.heap[g]? = some (.cells #[.slice none 0 0, .map none] 148)) (hv : ∀ W,Mv B bts none w W→Ls W.heap.size W 2 Ak v l) (hT : Bh w) (h0 : 1<B) (hok : Ce l=true) (hll : l.length≤4096) :
  Calls Tryz.prog 65 #[.pointer (some ⟨g,0,none⟩),v] w fun e w'=>e = .returned (.agg #[.string (Ab (Ep l).1.1), .string (Ab (Ep l).1.2.1), .int .i64 (Ep l).1.2.2])∧BdW B w' g (Bo [] (Ep l).2)∧Mv B bts none w w':=by
 have hB : B≤w.heap.size:=by have:=Ad hh; omega
 have hb0 : Below w.heap.size w (w.alloc (.cells #[.string ⟨#[]⟩, .string ⟨#[]⟩, .int .i64 0] 125)):=(Below.refl _ _).alloc (Nat.le_refl _) _
 have hx0:=heap_last w (.cells #[.string ⟨#[]⟩, .string ⟨#[]⟩, .int .i64 0] 125) _ rfl
 have hn0 : (w.alloc (.cells #[.string ⟨#[]⟩, .string ⟨#[]⟩, .int .i64 0] 125)).heap.size=w.heap.size+1:=by simp
 generalize hw0 : w.alloc (.cells #[.string ⟨#[]⟩, .string ⟨#[]⟩, .int .i64 0] 125)=w0 at *
 have hh0:=(hb0.block _ (Ad hh)).trans hh
 have hmk : (Instr.makeMap 91 none).run Tryz.prog w0 = .ok (.map (some w0.heap.size)) (w0.alloc (.map #[] 0)):=by kernel_rfl
 have hb1 : Below w0.heap.size w0 (w0.alloc (.map #[] 0)):=(Below.refl _ _).alloc (Nat.le_refl _) _
 have hh1:=(hb1.block _ (Ad hh0)).trans hh0
 have hx1:=(hb1.block _ (Ad hx0)).trans hx0
 have hm1 : Mp.MapW (w0.alloc (.map #[] 0)) w0.heap.size []:=Mp.MapW.made w0
 have hB01:=hb0.trans (hb1.mono hb0.size)
 generalize hw1 : w0.alloc (.map #[] 0)=w1 at *
 have hM2 : Mv B bts none w (w1.setCell ⟨g,1,none⟩ (.map (some w0.heap.size))):=(Mv.of hB01 hB).set hh1 (by decide) hg _
 have hh2 : (w1.setCell ⟨g,1,none⟩ (.map (some w0.heap.size))).heap[g]? = some (.cells #[.slice none 0 0, .map (some w0.heap.size)] 148):=by rw [heap_setCell _ _ _ _ _ _ _ hh1]; simp
 have hBd2 : BdW B (w1.setCell ⟨g,1,none⟩ (.map (some w0.heap.size))) g []:=⟨hg,_,_,hh2,World.ownsRow_nil _ _ _ _,map_set hm1 hh1 _,by have:=hb0.size; omega⟩
 have hx2:=(Bc (j:=1) (u:=.map (some w0.heap.size)) (Fk hx1 hh1 (by decide))).trans hx1
 have k1:=cell_of_row w1 g 1 _ _ _ hh1
 simp only [List.getElem?_toArray,List.getElem?_cons_zero,List.getElem?_cons_succ] at k1
 have f1:=Af (j:=1) hh1
 have hT2:=hT.keep hM2.b h0
 have hv2 : ∀ W,Mv B bts none (w1.setCell ⟨g,1,none⟩ (.map (some w0.heap.size))) W→Ls W.heap.size W 2 Ak v l:=fun W hW=>hv W (hM2.trans hW (Nx.refl _ _))
 obtain ⟨ks0,raw0,hks0,hlc⟩ : ∃ ks0 raw0,(Ep l=E1 13 1 ks0 raw0∧(ks0.length=1∨LevOk 0 ks0 raw0))∧Calls Tryz.prog 109 #[.pointer (some ⟨g,0,none⟩),v] (w1.setCell ⟨g,1,none⟩ (.map (some w0.heap.size))) fun e w'=>∃ u,e = .returned u∧Rw (w1.setCell ⟨g,1,none⟩ (.map (some w0.heap.size))).heap.size w' 125 3 Au u ks0∧BdW B w' g (Bo [] raw0)∧Mv B bts none (w1.setCell ⟨g,1,none⟩ (.map (some w0.heap.size))) w':=by
  by_cases hl0 : l.length=0
  ·have hl1 : l = []:=List.length_eq_zero_iff.1 hl0
   refine ⟨[C4 []],[Ay []],⟨by rw [rootM_nil hl0,Jf (by simp)]; rfl, .inl rfl⟩,?_⟩
   have:=hv2 _ (Mv.refl _ _ _ _)
   rw [hl1] at this
   exact Pb B _ g v hBd2 this hT2 h0
  ·refine ⟨_,_,⟨Ke hl0, .inr (leaves_ok hok hll hl0)⟩,?_⟩
   exact Pg B _ g [] l v hBd2 hv2 hok hll hT2 h0 (by rintro rfl; simp at hl0) (by simp)
 have hs2 : w.heap.size<(w1.setCell ⟨g,1,none⟩ (.map (some w0.heap.size))).heap.size:=Ad hx2
 have H2:=Ac (And.intro hM2 (And.intro hx2 (And.intro hs2 (And.intro hks0 hT))))
 obtain ⟨va,vc,rfl,-⟩:=Dp (hv w (Mv.refl _ _ _ _))
 clear hb0 hx0 hn0 hh0 hb1 hh1 hx1 hm1 hB01 hM2 hh2 hBd2 hx2 hT2 hs2 hv hv2 hks0 hT
 go_enter Tryz.func65,Tryz.ntmps65
 go_wp2_with fail
 refine hlc.mono ?_
 rintro e w3 ⟨u0,rfl,hrow,hBd3,hM3⟩
 have hx3:=hM3.k _ _ _ _ H2.out.2.1 (by decide) (by simp)
 have hM:=H2.out.1.trans hM3 (Nx.refl _ _)
 have hs3:=H2.out.2.2.1
 have hrow3:=Fv hrow (show B≤_ by omega)
 have H3:=Ac (And.intro hrow3 (And.intro hBd3 (And.intro hM hx3)))
 obtain ⟨ua,um,uc,rfl⟩:=Av hrow
 clear hlc hrow hBd3 hM3 hM hx3 hrow3 hs3
 go_wp2_with fail
 go_loopw [5,6] (fun t u wr=>∃ (j : Nat) (ks : List Ah) (raw : List Ag),u = .int .i64 ((j+1 : Nat) : Int)∧(ks.length=1∨LevOk j ks raw)∧Ep l=E1 (13 - j) (j+1) ks raw∧Rw B wr 125 3 Au t ks∧BdW B wr g (Bo [] raw)∧Mv B bts none w wr∧wr.heap[w.heap.size]? = some (.cells #[.string ⟨#[]⟩, .string ⟨#[]⟩, .int .i64 0] 125)∧j≤13) (fun _ u _=>15 - (intOf u).toNat)
 case atStart=>exact ⟨0,ks0,raw0,rfl,H2.out.2.2.2.1.2,H2.out.2.2.2.1.1,H3.out.1,H3.out.2.1,H3.out.2.2.1,H3.out.2.2.2,by omega⟩
 case round=>
  obtain ⟨j,ks,raw,rfl,hlev,hfp,hrow,hBd,hMr,hxr,hj13⟩:=hrel
  obtain ⟨ao,cap,rfl,hcap,hcap2⟩:=Bj hrow
  unfold maxLen at hcap2
  by_cases hlt : 1<ks.length
  ·have hlev : LevOk j ks raw:=by rcases hlev with h | h; omega; exact h
   have hfew:=hlev.few
   have hobj:=hlev.objs
   have hj : j<13:=by
    rcases Nat.lt_or_ge j 13 with h | h
    ·exact h
    ·rw [show 13 - j=0 from by omega] at hfew
     simp at hfew
     omega
   have hTr:=H2.out.2.2.2.2.keep hMr.b h0
   have hfe : ks.length≤8192:=Nat.le_trans hfew (by
    have : 2 ^ (13 - j)≤2 ^ 13:=Nat.pow_le_pow_right (by omega) (by omega)
    simpa using this)
   have hlf:=Pf B wr g (Bo [] raw) ks _ hBd (fun W hW=>Bi Ev (hW.own0 hrow (by decide))) j ((j+1 : Nat) : Int) rfl raw hj hlev hfe hTr h0 (by intro e; rw [e] at hlt; simp at hlt) (by have:=Gj raw []; simp at this; omega)
   have hnx:=hlev.next hlt
   have hfn : Ep l=E1 (13 - (j+1)) (j+1+1) ((brG (j+1) ks).map (brK ((j+1 : Nat) : Int))) (raw++(brG (j+1) ks).map (brO ((j+1 : Nat) : Int))):=by
    rw [hfp,show 13 - j=(13 - (j+1))+1 from by omega,E1,if_pos hlt]
   have HN:=Ac (And.intro hnx (And.intro hfn (And.intro hMr hxr)))
   have hsw:=hMr.size
   clear hnx hfn hMr hxr hBd hrow hTr hfp hlev hfew hobj hfe
   go_wp2_with fail
   refine hlf.mono ?_
   rintro e w5 ⟨v5,rfl,hr5,hB5,hM5⟩
   have hx5:=hM5.k _ _ _ _ HN.out.2.2.2 (by decide) (by simp)
   have hr5':=Fv hr5 (show B≤wr.heap.size by omega)
   rw [← No] at hB5
   have H5:=Ac (And.intro hr5' (And.intro hB5 (And.intro (HN.out.2.2.1.trans hM5 (Nx.refl _ _)) hx5)))
   obtain ⟨pa,pm,pc,rfl⟩:=Av hr5
   clear hlf hr5 hB5 hM5 hx5 hr5'
   go_wp2
   go_roundw
   case rel=>exact ⟨j+1,_,_,by go_num, .inr HN.out.1,HN.out.2.1,H5.out.1,H5.out.2.1,H5.out.2.2.1,H5.out.2.2.2,by omega⟩
   case measure=>simp [intOf]; omega
  ·have h1 : ks.length=1:=by rcases hlev with h | h; exact h; have:=h.pos; omega
   rw [Jf hlt] at hfp
   obtain ⟨ao2,cap2,hv2,-,-,hc4⟩:=Bi Ev hrow
   obtain ⟨bb,off,hao,-,hc⟩:=hc4 (by rintro rfl; simp at h1)
   injection hv2 with hv2
   subst hv2 hao
   have p0:=hc 0 (by omega) 0 _ rfl
   have p1:=hc 0 (by omega) 1 _ rfl
   have p2:=hc 0 (by omega) 2 _ rfl
   have hhd : ks.headD ([],[],0)=ks[0]:=by
    rcases ks with _ | ⟨a,r⟩
    ·simp at h1
    ·rfl
   rw [hhd] at hfp
   have hBd':=hBd
   generalize ks[0]=pt at *
   simp only [Nat.zero_mul,Nat.add_zero] at p0 p1 p2
   rw [h1] at hcap ⊢
   have x0:=cell_of_row wr w.heap.size 0 _ _ _ hxr
   have x1:=cell_of_row wr w.heap.size 1 _ _ _ hxr
   have x2:=cell_of_row wr w.heap.size 2 _ _ _ hxr
   simp only [List.getElem?_toArray,List.getElem?_cons_zero,List.getElem?_cons_succ] at x0 x1 x2
   have f0:=Af (j:=0) hxr
   have f1:=Af (j:=1) hxr
   have f2:=Af (j:=2) hxr
   have HX:=Ac (And.intro hBd' (And.intro hMr hxr))
   have HFP:=Ac hfp
   clear hfp hhd hBd' hBd hMr hxr hrow hlev h1 hlt hc hc4
   go_wp2
   refine bodyPost_ret (results_cell_row rfl _ _ _ _ _ _ _ rfl (Bm HX.out.2.2) Tryz.underlying125 rfl Tryz.infoLinkP) rfl ⟨by rw [HFP.out],?_,?_⟩
   ·rw [HFP.out]
    obtain ⟨⟨hg',vo',mb',g1,g2,g3,g4⟩,-,hx3⟩:=HX.out
    have hm : Mv B [125] none wr (((wr.setCell ⟨w.heap.size,0,none⟩ (.string (Ab pt.1))).setCell ⟨w.heap.size,1,none⟩ (.string (Ab pt.2.1))).setCell ⟨w.heap.size,2,none⟩ (.int .i64 pt.2.2)):=(((Mv.refl B _ none wr).set (j:=0) hx3 (by decide) (by omega) _).set (j:=1) (An hx3) (by decide) (by omega) _).set (j:=2) (Az (An hx3)) (by decide) (by omega) _
    exact ⟨hg',vo',mb',hm.k _ _ _ _ g1 (by decide) (by simp),hm.own0 g2 (by decide),map_set (map_set (map_set g3 hx3 _) (An hx3) _) (Az (An hx3)) _,g4⟩
   ·exact ((HX.out.2.1.setNew (j:=0) (by omega) hB _).setNew (j:=1) (by omega) hB _).setNew (j:=2) (by omega) hB _
set_option maxRecDepth 40000 in
set_option maxHeartbeats 1600000 in
theorem build_any (w : World) (l : List Ag) (v : Value) (hv : Ls w.heap.size w 2 Ak v l) (hT : Bh w) :
  Calls Tryz.prog 36 #[v] w fun e w'=>∃ u,e = .returned (.tuple #[.string (Ab (Cl l).1),u, .int .i64 (Cl l).2.2])∧Rw w.heap.size w' 38 2 Ak u (Cl l).2.1∧Below w.heap.size w w':=by
 have HV:=Ac hv
 obtain ⟨ao,cap,rfl,hcap,hcap2,-⟩:=hv
 unfold maxLen at hcap2
 obtain ⟨m,hm⟩ : ∃ m,m=l.length:=⟨_,rfl⟩
 rw [← hm] at hcap ⊢
 have HM:=Ac hm
 have HV2 : Hid (Ls w.heap.size w 2 Ak (.slice ao m cap) l):=Ac (by rw [hm]; exact HV.out)
 clear HV
 obtain ⟨R,hR⟩ : ∃ R,R=Cl l:=⟨_,rfl⟩
 rw [← hR]
 have HR:=Ac hR
 clear hR hm
 by_cases h1 : 4096<m
 ·have hgt : decide ((4096 : Int)<(m : Int))=true:=decide_eq_true (by omega)
  have hb:=buildM_many (l:=l) (by rw [← HM.out]; exact h1)
  go_enter Tryz.func36,Tryz.ntmps36
  go_wp2
  go_ret3
  rw [HR.out,hb]
  exact ⟨_,rfl,World.ownsRow_nil _ _ _ _,Below.refl _ _⟩
 have hgt : decide ((4096 : Int)<(m : Int))=false:=decide_eq_false (by omega)
 have hri:=Ot w l _ HV2.out
 cases hpk : Ce l with
 | false=>
  have hb:=buildM_form (l:=l) (by rw [← HM.out]; exact h1) hpk
  rw [hpk] at hri
  clear hpk
  go_enter Tryz.func36,Tryz.ntmps36
  go_wp2_with fail
  refine hri.mono ?_
  rintro e w1 ⟨rfl,hb1⟩
  clear hri
  go_wp2
  go_ret3
  rw [HR.out,hb]
  exact ⟨_,rfl,World.ownsRow_nil _ _ _ _,hb1⟩
 | true=>
  have hb:=Lo (l:=l) (by rw [← HM.out]; exact h1) hpk
  rw [hpk] at hri
  have HP:=Ac hpk
  have h0:=hT.1
  clear hpk
  go_enter Tryz.func36,Tryz.ntmps36
  go_wp2_with fail
  refine hri.mono ?_
  rintro e w1 ⟨rfl,hb1⟩
  have hs1:=hb1.size
  have hbA : Below w1.heap.size w1 (w1.alloc (.cells #[.slice none 0 0, .map none] 148)):=(Below.refl _ _).alloc (Nat.le_refl _) _
  have hgA:=heap_last w1 (.cells #[.slice none 0 0, .map none] 148) _ rfl
  have hB1:=hb1.trans (hbA.mono hb1.size)
  have hlm:=layMap_any w.heap.size (w1.alloc (.cells #[.slice none 0 0, .map none] 148)) w1.heap.size l _ hs1 hgA (fun W hW=>(HV2.out.keep (hB1.trans hW.b)).up (Nat.le_trans hB1.size hW.size)) (hT.keep hB1 h0) h0 HP.out (by rw [← HM.out]; omega)
  obtain ⟨rt,hrt⟩ : ∃ rt,rt=Ep l:=⟨_,rfl⟩
  rw [← hrt] at hlm hb
  have HB1:=Ac hB1
  have HBM:=Ac hb
  clear hri hb1 hbA hgA hB1 hrt hb
  go_wp2_with fail
  refine hlm.mono ?_
  rintro e w2 ⟨rfl,hBd,hM⟩
  have hB2:=HB1.out.trans hM.b
  have hb3 : Below w2.heap.size w2 (w2.alloc (.cells #[.string (Ab rt.1.1), .string (Ab rt.1.2.1), .int .i64 rt.1.2.2] 125)):=(Below.refl _ _).alloc (Nat.le_refl _) _
  have hy3:=heap_last w2 (.cells #[.string (Ab rt.1.1), .string (Ab rt.1.2.1), .int .i64 rt.1.2.2] 125) _ rfl
  have hBd3:=hBd.keep hb3
  have hB3:=hB2.trans (hb3.mono hB2.size)
  generalize hw3 : w2.alloc (.cells #[.string (Ab rt.1.1), .string (Ab rt.1.2.1), .int .i64 rt.1.2.2] 125)=w3 at *
  obtain ⟨-,vo,mb,hh3,hrow3,-,-⟩:=hBd3
  have y1:=cell_of_row w3 w2.heap.size 1 _ _ _ hy3
  have o0:=cell_of_row w3 w1.heap.size 0 _ _ _ hh3
  simp only [List.getElem?_toArray,List.getElem?_cons_zero,List.getElem?_cons_succ] at y1 o0
  obtain ⟨va,vm,vc,rfl⟩:=Av hrow3
  have H3:=Ac (And.intro hrow3 hB3)
  clear hlm hBd hM hB2 hb3 hy3 hB3 hh3 hrow3
  go_wp2_with fail
  refine wp_region_held_drew (S:=fun W=>W.cell? ⟨w2.heap.size,1,none⟩=some (.string (Ab rt.1.2.1))∧W.cell? ⟨w1.heap.size,0,none⟩=some (.slice va vm vc)) (by kernel_rfl) (⟨y1,o0⟩) (fun hHeld=>?_)
  refine Aa 0 hHeld ?_
  refine Aa 1 hHeld ?_
  refine Aa 2 hHeld ?_
  refine Aa 3 hHeld ?_
  refine Aa 4 hHeld ?_
  refine Aa 5 hHeld ?_
  refine Aa 6 hHeld ?_
  refine wpAnyH_done (by kernel_rfl) ?_ _
  clear hHeld
  go_wp2
  go_ret3
  rw [HR.out,HBM.out]
  exact ⟨_,rfl,H3.out.1,H3.out.2.drew⟩
end Go.Proofs.YtckejblkppllaaaGreatDoor
