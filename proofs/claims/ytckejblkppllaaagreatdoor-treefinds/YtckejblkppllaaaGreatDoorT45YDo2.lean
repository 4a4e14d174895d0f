/-
  Texts joined: YDo2, YLayT, YGood, YKeep.
-/
import Derived.Test.YtckejblkppllaaaGreatDoorT41ODoor
import Derived.Test.YtckejblkppllaaaGreatDoorT39ASeq
import Derived.Test.YtckejblkppllaaaGreatDoorT25PLay0
namespace Go.Proofs.YtckejblkppllaaaGreatDoor
open Go.RowKit
theorem C6.take {w : World} {t : TypeId} {ao : Option Addr} {n c : Nat} {xs : List Value} (h : C6 w t (.slice ao n c) xs) {m : Nat} (hm : m≤xs.length) : C6 w t (.slice ao m c) (xs.take m):=by
 obtain ⟨ao',cap,h1,h2,h3,h4⟩:=h
 injection h1 with e1 e2 e3
 subst e1 e3
 have hl : (xs.take m).length=m:=by rw [List.length_take]; omega
 refine ⟨ao,c,by rw [hl],by rw [hl]; omega,h3,fun hx=>?_⟩
 have hx2 : xs ≠ []:=by rintro rfl; simp at hx
 obtain ⟨b,off,cs,fr,g1,g2,g3⟩:=h4 hx2
 exact ⟨b,off,cs,fr,g1,g2,fun j hj=>by rw [List.getElem_take]; exact g3 j (by rw [hl] at hj; omega)⟩
section
variable {B : Nat} {w : World} {σ : Tre} {K M : List Bs→Nat} {Bg c : Nat} {v : Value} {objs : List Ag} {g : Nat}
set_option maxRecDepth 40000 in
set_option maxHeartbeats 1600000 in
theorem do_any (h : Rep B w σ K M) (hr : Bn σ) (hG : Gf Bg w c v objs) (hBg : Bg≤B) (hB : B≤w.heap.size) (hg : w.heap[g]? = some (.cells (edB c (K [])) 89)) (x : EdP) (hl : x.1.length≤4611686018427387000) :
  Calls Tryz.prog 39 #[ptr g,edAg x] w fun e w'=>DoP B w K (doS (Aj objs) σ x) e w':=by
 obtain ⟨xp,xi,xs,xg⟩:=x
 simp only at hl
 have hb0 : Below w.heap.size w (w.alloc (.cells #[.string (Ab xp), .string (Ab xi), .int .i64 xs, .bool xg] 64)):=(Below.refl _ _).alloc (Nat.le_refl _) _
 have hx0:=heap_last w (.cells #[.string (Ab xp), .string (Ab xi), .int .i64 xs, .bool xg] 64) _ rfl
 have hs0 : (w.alloc (.cells #[.string (Ab xp), .string (Ab xi), .int .i64 xs, .bool xg] 64)).heap.size=w.heap.size+1:=by simp
 have h0:=h.below (Nat.le_refl _) hb0
 have hm0 : Mv B plts none w (w.alloc (.cells #[.string (Ab xp), .string (Ab xi), .int .i64 xs, .bool xg] 64)):=Mv.of hb0 hB
 generalize hw0 : w.alloc (.cells #[.string (Ab xp), .string (Ab xi), .int .i64 xs, .bool xg] 64)=w0 at *
 have x0:=rc (i:=0) hx0 rfl
 unfold doS
 simp only
 by_cases hpb : Pa.Pt.path xp=false
 ·rw [if_pos (.inl hpb)]
  have hpa:=Ni w0 xp hl hpb
  have HR:=Ac (And.intro h0 (And.intro hr hm0))
  have hB0 : B≤w0.heap.size:=by omega
  clear h h0 hr hm0 hG hg hpb hb0 hx0 hs0
  go_enter Tryz.func39,Tryz.ntmps39
  go_wp2_with fail
  try rw [hw0]
  go_wp2_with fail
  refine hpa.mono ?_
  rintro e w1 ⟨rfl,hb1⟩
  have HF:=Ac (show DoP B w K (40,σ) (.returned (.int .i64 40)) w1 from ⟨rfl,⟨K,M,HR.out.1.below (Nat.le_refl _) hb1,rfl⟩,HR.out.2.1,HR.out.2.2.more hb1 hB0⟩)
  clear hpa hb1
  go_wp2
  go_ret
  exact HF.out
 ·have hpt : Pa.Pt.path xp=true:=by simpa using hpb
  have hpa:=parseT_ok w0 xp hl hpt
  have hfl:=Pa.Pt.few_len hpt
  have hB0 : B≤w0.heap.size:=by omega
  by_cases hnil : Pa.Pt.parts xp = []
  ·rw [if_pos (.inr hnil)]
   have HR:=Ac (And.intro h0 (And.intro hr hm0))
   rw [hnil] at hpa
   clear h h0 hr hm0 hG hg hpb hb0 hx0 hs0 hnil
   go_enter Tryz.func39,Tryz.ntmps39
   go_wp2_with fail
   try rw [hw0]
   go_wp2_with fail
   refine hpa.mono ?_
   rintro e w1 ⟨vn,rfl,hvn,hb1⟩
   obtain ⟨na,nc,rfl,-,-,-⟩:=hvn
   have HF:=Ac (show DoP B w K (40,σ) (.returned (.int .i64 40)) w1 from ⟨rfl,⟨K,M,HR.out.1.below (Nat.le_refl _) hb1,rfl⟩,HR.out.2.1,HR.out.2.2.more hb1 hB0⟩)
   clear hpa hb1
   go_wp2
   go_ret
   exact HF.out
  ·rw [if_neg (fun e=>e.elim (fun e=>hpb e) hnil)]
   have hir:=fun W=>isRight_any W (xp,xi,xs,xg)
   generalize Pa.Pt.parts xp=ns at *
   obtain ⟨m,hm⟩ : ∃ m,ns.length=m+1:=⟨ns.length - 1,by have:=List.length_pos_iff.2 hnil; omega⟩
   obtain ⟨n,hn⟩ : ∃ n,n=ns.length:=⟨_,rfl⟩
   have hsub : (n : Int) - 1=(m : Int):=by omega
   have hn0 : ((n : Int) == 0)=false:=by simp; omega
   rw [← hn] at hfl
   have HN:=Ac (And.intro hn hm)
   have HR:=Ac (And.intro h0 (And.intro hr (And.intro hm0 (And.intro hG (And.intro hg (And.intro hx0 (And.intro hb0 hs0)))))))
   clear h h0 hr hm0 hG hg hpb hx0 hb0 hs0 hn hm
   obtain ⟨R,hR⟩ : ∃ R,R=(if F5 (xp,xi,xs,xg)=false then ((2 : Int),σ) else let r:=Cw (Aj objs) xg ns.dropLast (Cn (Aj objs) σ []) []; if r.1≠0 then (r.1,r.2.1) else lastS r.2.1 r.2.2 (ns.getLastD []) (xp,xi,xs,xg)):=⟨_,rfl⟩
   have hgoal : DoP B w K R=DoP B w K (if F5 (xp,xi,xs,xg)=false then ((2 : Int),σ) else let r:=Cw (Aj objs) xg ns.dropLast (Cn (Aj objs) σ []) []; if r.1≠0 then (r.1,r.2.1) else lastS r.2.1 r.2.2 (ns.getLastD []) (xp,xi,xs,xg)):=by rw [← hR]
   have HRR:=Ac hR
   rw [← hR]
   clear hR hgoal
   go_enter Tryz.func39,Tryz.ntmps39
   go_wp2_with fail
   try rw [hw0]
   go_wp2_with fail
   refine hpa.mono ?_
   rintro e w1 ⟨vn,rfl,hvn,hb1⟩
   have hvn':=hvn
   obtain ⟨na,nc,rfl,hnc,-,-⟩:=hvn'
   simp only [List.length_map] at hnc
   rw [List.length_map,← HN.out.1]
   rw [← HN.out.1] at hnc
   obtain ⟨h0,hr,hm0,hG,hg,hx0,hb0,hs0⟩:=HR.out
   have hx1:=(hb1.block _ (Ad hx0)).trans hx0
   have hg1:=(hb1.block _ (Ad ((hb0.block _ (Ad hg)).trans hg))).trans ((hb0.block _ (Ad hg)).trans hg)
   have h1:=h0.below (Nat.le_refl _) hb1
   have hG1:=hG.below ((hb0.trans (hb1.mono hb0.size)).mono (Nat.le_trans hBg hB))
   have hm1:=hm0.more hb1 hB0
   have hB1 : B≤w1.heap.size:=Nat.le_trans hB0 hb1.size
   have x0:=rc (i:=0) hx1 rfl
   have x1:=rc (i:=1) hx1 rfl
   have x2:=rc (i:=2) hx1 rfl
   have x3:=rc (i:=3) hx1 rfl
   have H1:=Ac (And.intro hx1 (And.intro hg1 (And.intro h1 (And.intro hG1 (And.intro hm1 hvn)))))
   clear hpa hb1 h0 hm0 hG hg hx0 hb0 hs0 HR hx1 hg1 h1 hG1 hm1 hvn
   cases hrs : F5 (xp,xi,xs,xg) with
   | false=>
    rw [hrs] at hir HRR
    go_wp2_with fail
    refine (hir w1).mono ?_
    rintro e w2 ⟨rfl,hb2⟩
    have HF:=Ac (show DoP B w K R (.returned (.int .i64 2)) w2 by
     rw [HRR.out,if_pos trivial]
     exact ⟨rfl,⟨K,M,H1.out.2.2.1.below (Nat.le_refl _) hb2,rfl⟩,hr,H1.out.2.2.2.2.1.more hb2 hB1⟩)
    clear hir hb2
    go_wp2
    go_ret
    exact HF.out
   | true=>
    rw [hrs] at hir HRR
    go_wp2_with fail
    refine (hir w1).mono ?_
    rintro e w2 ⟨rfl,hb2⟩
    obtain ⟨hx1,hg1,h1,hG1,hm1,hvn⟩:=H1.out
    have hx2:=(hb2.block _ (Ad hx1)).trans hx1
    have hg2:=(hb2.block _ (Ad hg1)).trans hg1
    have h2:=h1.below (Nat.le_refl _) hb2
    have hG2:=hG1.below (hb2.mono (by omega))
    have hm2:=hm1.more hb2 hB1
    have hB2 : B≤w2.heap.size:=Nat.le_trans hB1 hb2.size
    have hvn2:=hvn.mv (Mv.of (B:=w1.heap.size) (ts:=plts) (r:=none) hb2 (Nat.le_refl _)) (by decide)
    have y3:=rc (i:=3) hx2 rfl
    clear x0 x1 x2 x3
    have hrow:=hvn2.take (m:=m) (by rw [List.length_map]; have:=HN.out; omega)
    rw [← List.map_take] at hrow
    have hdl : ns.take m=ns.dropLast:=by rw [List.dropLast_eq_take]; have:=HN.out; congr 1; omega
    rw [hdl] at hrow
    have hdlen : ns.dropLast.length≤16:=by rw [List.length_dropLast]; have:=HN.out; omega
    have hcall:=comeTo_any h2.drew hr (hG2.below (Below.refl _ _).drew) hBg (show B≤w2.heap.size from hB2) hg2 ns.dropLast _ (hrow.mv (Mv.of (B:=w2.heap.size) (ts:=plts) (r:=none) (Below.refl _ _).drew (Nat.le_refl _)) (by decide)) hdlen xg
    generalize Cw (Aj objs) xg ns.dropLast (Cn (Aj objs) σ []) []=C at *
    have hmn : m≤n:=by have:=HN.out; omega
    have hmc : m≤nc:=by omega
    have p1 : decide ((0 : Int)≤(m : Int))=true:=decide_eq_true (by omega)
    have p2 : decide ((m : Int)≤(nc : Int))=true:=decide_eq_true (by omega)
    have H2:=Ac (And.intro hx2 (And.intro h2 (And.intro hm2 (And.intro hvn2 hB2))))
    clear hx1 hg1 h1 hG1 hm1 hvn hg2 h2 hG2 hm2 hvn2 hB2 hb2 hrow hdl hdlen H1 hir hx2
    go_wp2_with fail
    refine wp_region_held_drew (S:=fun W=>W.cell? ⟨w.heap.size,3,none⟩=some (.bool xg)) (by kernel_rfl) (y3) (fun hHeld=>?_)
    refine Aa 0 hHeld ?_
    refine Aa 1 hHeld ?_
    refine Aa 2 hHeld ?_
    refine Aa 3 hHeld ?_
    refine Aa 4 hHeld ?_
    refine Aa 5 hHeld ?_
    refine Ai (i:=6) rfl (by kernel_rfl) rfl (fun K hK=>?_)
    go_simp
    refine hcall.mono ?_
    rintro e w3 ⟨vp,K3,M3,rfl,hrep3,hr3,hmv3,hK3,hok3⟩
    have hx3:=hmv3.k _ _ _ _ (show w2.drew.heap[w.heap.size]? = _ from H2.out.1) (by decide) (by simp)
    have z3:=rc (i:=3) hx3 rfl
    refine hK.out _ _ (z3) (fun hHeld=>?_)
    clear hK K
    try simp only [Act.put,List.setIfInBounds_toArray,List.set_cons_zero,List.set_cons_succ]
    refine Aa 7 hHeld ?_
    refine Aa 8 hHeld ?_
    refine Aa 9 hHeld ?_
    refine Aa 10 hHeld ?_
    refine Aa 11 hHeld ?_
    refine wpAnyH_done (by kernel_rfl) ?_ _
    clear hHeld y3 hcall
    have hm3:=(H2.out.2.2.1.drew).trans hmv3 (Nx.refl _ _)
    have hvn3:=(H2.out.2.2.2.1.mv (Mv.of (B:=w2.heap.size) (ts:=plts) (r:=none) (Below.refl _ _).drew (Nat.le_refl _)) (by decide)).mv hmv3 (by decide)
    have hB3 : B≤w3.heap.size:=Nat.le_trans H2.out.2.2.2.2 hmv3.size
    obtain ⟨er,τ,q⟩:=C
    simp only at hrep3 hr3 hok3 HRR
    by_cases her : er≠0
    ·have q1 : (er != 0)=true:=by simpa using her
     have HF:=Ac (show DoP B w K R (.returned (.int .i64 er)) w3 by
      rw [HRR.out,if_neg (by simp),if_pos her]
      exact ⟨rfl,⟨K3,M3,hrep3,hK3⟩,hr3,hm3⟩)
     clear hrep3 hr3 hmv3 hK3 hok3 hm3 hvn3 hx3 her HRR
     go_wp2
     go_ret
     exact HF.out
    ·obtain rfl : er=0:=by simpa using her
     have q1 : ((0 : Int) != 0)=false:=rfl
     obtain ⟨rfl,hat,L,hD⟩:=hok3 rfl
     have hmlt : m<ns.length:=by have:=HN.out; omega
     obtain ⟨na',nc',hv',-,-,hcells⟩:=hvn3
     obtain rfl : na=na':=by injection hv'
     obtain ⟨pb,off,cs,fr,rfl,hblk,hcs⟩:=hcells (by intro e; rw [List.map_eq_nil_iff] at e; exact hnil e)
     have hn0:=rc hblk (hcs m (by simpa using hmlt))
     simp only [List.getElem_map] at hn0
     have hlast : ns.getLastD []=ns[m]:=by
      have h1:=HN.out.2
      rw [List.getLastD_eq_getLast?,List.getLast?_eq_getElem?,h1]
      simp [hmlt]
     rw [hlast] at HRR
     generalize ns[m]=nm at *
     have hRR : R=lastS τ q nm (xp,xi,xs,xg):=by rw [HRR.out,if_neg (by simp),if_neg (by simp)]
     have hend : ∀ e w5 (r : Int × Tre),R=r→DoP B w3 K3 r e w5→DoP B w K R e w5:=fun e w5 r g1 g2=>by
      rw [g1]
      obtain ⟨g3,⟨K5,M5,g4,g5⟩,g6,g7⟩:=g2
      exact ⟨g3,⟨K5,M5,g4,g5.trans hK3⟩,g6,hm3.trans g7 (Nx.refl _ _)⟩
     cases xg with
     | true=>
      have hto:=takeOut_any hrep3 hr3 hat hD hB3 nm
      have hRT : R=(if nm ∈ τ.names q then (0,Eb τ (nm :: q)) else (160,τ)):=by rw [hRR]; rfl
      generalize (if nm ∈ τ.names q then ((0 : Int),Eb τ (nm :: q)) else (160,τ))=T at *
      have HE:=Ac (fun e w5=>hend e w5 T hRT)
      clear hrep3 hr3 hmv3 hK3 hok3 hm3 hx3 her HRR hRR hlast hmlt hv' hcells hcs hblk hend hat hD hRT
      go_wp2_with fail
      refine hto.mono ?_
      rintro e w5 ⟨rfl,h5⟩
      have HF:=Ac (HE.out _ _ ⟨rfl,h5⟩)
      clear hto h5
      go_wp2
      go_ret
      exact HF.out
     | false=>
      have hRT : R=(if nm ∈ τ.names q∧(τ.E (nm :: q)).1=2 then (162,τ) else (0,Be τ q nm (1,xi,xs))):=by rw [hRR]; rfl
      have hto:=layFile_any hrep3.drew hr3 hat hD (show B≤w3.drew.heap.size from hB3) nm xi xs
      generalize (if nm ∈ τ.names q∧(τ.E (nm :: q)).1=2 then ((162 : Int),τ) else (0,Be τ q nm (1,xi,xs)))=T at *
      have HE:=Ac (fun e w5=>hend e w5 T hRT)
      have HX:=Ac (And.intro hx3 (And.intro hblk (show cs[off+m]? = some (.string (Ab nm)) from by rw [← hn0,cell_of_row _ _ _ _ _ _ hblk])))
      have hmltn : m<n:=by have:=HN.out; omega
      have z1:=rc (i:=1) hx3 rfl
      have z2:=rc (i:=2) hx3 rfl
      clear hrep3 hr3 hmv3 hK3 hok3 hm3 hx3 her HRR hRR hlast hmlt hv' hcells hcs hblk hend hat hD hRT
      go_wp2_with fail
      refine wp_region_held_drew (S:=fun W=>W.cell? ⟨pb,off+m,none⟩=some (.string (Ab nm))∧W.cell? ⟨w.heap.size,1,none⟩=some (.string (Ab xi))∧W.cell? ⟨w.heap.size,2,none⟩=some (.int .i64 xs)) (by kernel_rfl) (⟨hn0,z1,z2⟩) (fun hHeld=>?_)
      refine Aa 0 hHeld ?_
      refine Aa 1 hHeld ?_
      refine Aa 2 hHeld ?_
      refine Aa 3 hHeld ?_
      refine Aa 4 hHeld ?_
      refine Aa 5 hHeld ?_
      refine Aa 6 hHeld ?_
      refine Aa 7 hHeld ?_
      refine Ai (i:=8) rfl (by kernel_rfl) rfl (fun K hK=>?_)
      go_simp
      refine hto.mono ?_
      rintro e w5 ⟨rfl,h5⟩
      have HF:=Ac (HE.out _ _ ⟨rfl,h5.1,h5.2.1,(Mv.refl B plts none w3).drew.trans h5.2.2 (Nx.refl _ _)⟩)
      have hS5 : w5.cell? ⟨pb,off+m,none⟩=some (.string (Ab nm))∧w5.cell? ⟨w.heap.size,1,none⟩=some (.string (Ab xi))∧w5.cell? ⟨w.heap.size,2,none⟩=some (.int .i64 xs):=by
       have hxx:=h5.2.2.k _ _ _ _ (show w3.drew.heap[w.heap.size]? = _ from HX.out.1) (by decide) (by simp)
       have hbb:=h5.2.2.k _ _ _ _ (show w3.drew.heap[pb]? = _ from HX.out.2.1) (by decide) (by simp)
       exact ⟨(rc hbb HX.out.2.2),rc (i:=1) hxx rfl,rc (i:=2) hxx rfl⟩
      clear h5
      refine hK.out _ _ (hS5) (fun hHeld=>?_)
      clear hK K
      try simp only [Act.put,List.setIfInBounds_toArray,List.set_cons_zero,List.set_cons_succ]
      refine Aa 9 hHeld ?_
      refine wpAnyH_done (by kernel_rfl) ?_ _
      clear hto
      go_wp2
      go_ret
      exact HF.out
end
end Go.Proofs.YtckejblkppllaaaGreatDoor
namespace Go.Proofs.YtckejblkppllaaaGreatDoor
open Go.RowKit
theorem Oi : ∀ (n j : Nat) (ks : List Ah) (raw : List Ag),LevOk j ks raw→(E1 n (j+1) ks raw).2.length≤100000
 | 0,_,_,_,h=>by rw [E1]; have:=h.objs; simp only; omega
 | n+1,j,ks,raw,h=>by
  rw [E1]
  split
  ·rename_i hl
   exact Oi n (j+1) _ _ (h.next hl)
  ·have:=h.objs; simp only; omega
theorem N1 (l : List Ag) : (Cl l).2.1.length≤100000:=by
 unfold Cl
 split
 ·simp
 ·split
  ·simp
  ·split
   ·simp
   ·rename_i h1 h2 h3
    have h4:=Oi 13 0 _ _ (leaves_ok (by simpa using h2) (by omega) h3)
    have h5:=Gj (mapR l).2 []
    simp only [List.length_nil,Nat.zero_add] at h5
    exact Nat.le_trans h5 h4
def sumT (f : List Bs→Nat) (p : List Bs) : List Bs→Nat
 | []=>0
 | n :: ns=>f (n :: p)+sumT f p ns
def cntT (σ : Tre) : Nat→List Bs→Nat
 | 0,_=>0
 | d+1,p=>match σ.D p with
  | none=>0
  | some L=>1+sumT (cntT σ d) p L
theorem Ma {f : List Bs→List Ag→LayR} {g : List Bs→Nat} {p : List Bs} (hf : ∀ n os,(f (n :: p) os).objs.length≤os.length+100000 * g (n :: p)) : ∀ (L : List Bs) (ps os : List Ag),(Dj f p L ps os).2.2.length≤os.length+100000 * sumT g p L
 | [],_,os=>by rw [Dj]; simp only; omega
 | n :: ns,ps,os=>by
  rw [Dj,sumT]
  split
  ·simp only; omega
  ·have h1:=Ma hf ns (ps ++ [(n,entB n (f (n :: p) os).ent)]) (f (n :: p) os).objs
   have h2:=hf n os
   rw [Nat.mul_add]
   omega
theorem layT_objs (σ : Tre) : ∀ (d : Nat) (p : List Bs) (os : List Ag),(Cj σ d p os).objs.length≤os.length+100000 * cntT σ d p
 | 0,_,os=>by rw [Cj]; simp only; omega
 | d+1,p,os=>by
  rw [Cj,cntT]
  cases hD : σ.D p with
  | none=>simp
  | some L=>
   simp only
   have h1:=Ma (fun n os=>layT_objs σ d (n :: p) os) L [] os
   generalize Dj (Cj σ d) p L [] os=k at *
   split
   ·simp only; omega
   ·split
    ·simp only; omega
    ·have h2:=Gj (Cl k.2.1).2.1 k.2.2
     have h3:=N1 k.2.1
     simp only
     rw [Nat.mul_add]
     omega
theorem suf_other {n m : Bs} {p q : List Bs} (h : m≠n) (hm : (m :: p) <:+ q) : ¬ (n :: p) <:+ q:=by
 rintro ⟨a,ha⟩
 obtain ⟨b,hb⟩:=hm
 have h1 : a++n :: p=b++m :: p:=ha.trans hb.symm
 have h2:=List.append_inj' h1 (by simp)
 have h3 : n=m:=by
  have:=h2.2
  injection this
 exact h h3.symm
theorem suf_kid {n : Bs} {p q : List Bs} (h : (n :: p) <:+ q) : p <:+ q:=(List.suffix_cons n p).trans h
end Go.Proofs.YtckejblkppllaaaGreatDoor
namespace Go.Proofs.YtckejblkppllaaaGreatDoor
open Go.RowKit
structure Gd (σ : Tre) (m c : Nat) : Prop where
 rises : Bn σ
 names : ∀ p L,σ.D p=some L→∀ n∈L,n.length≤64
 many : ∀ p L,σ.D p=some L→L.length≤m
 came : ∃ cs : List (List Bs),cs.length≤c∧∀ p,σ.D p≠none→p∈cs
 deep : ∀ p,σ.D p≠none→p.length≤15
theorem K0 (n : Bs) : ∀ L : List Bs,(insB n L).length≤L.length+1
 | []=>by simp [insB]
 | a :: r=>by
  rw [insB]
  split
  ·have:=K0 n r
   simp only [List.length_cons]
   omega
  ·split <;> simp
theorem Gd.more {σ : Tre} {m c m' c' : Nat} (h : Gd σ m c) (hm : m≤m') (hc : c≤c') : Gd σ m' c':=
 ⟨h.rises,h.names,fun p L e=>Nat.le_trans (h.many p L e) hm,by obtain ⟨cs,h1,h2⟩:=h.came; exact ⟨cs,Nat.le_trans h1 hc,h2⟩,h.deep⟩
theorem Gd.layAt {σ : Tre} {m m' c : Nat} (h : Gd σ m c) {p L : List Bs} (hD : σ.D p=some L) {n : Bs} (hn : n.length≤64) (v : Val) (hL : L.length+1≤m') (hm : ∀ q L',q≠p→σ.D q=some L'→L'.length≤m') : Gd (Be σ p n v) m' c:=by
 have hk : ∀ q,(Be σ p n v).D q≠none→σ.D q≠none:=fun q hq=>by
  by_cases e1 : q=n :: p
  ·rw [e1] at hq; exact absurd Ez hq
  ·by_cases e : q=p
   ·rw [e,hD]; simp
   ·rwa [Fj e1 e] at hq
 refine ⟨h.rises.lay p n v,fun q L' hq x hx=>?_,fun q L' hq=>?_,?_,fun q hq=>h.deep q (hk q hq)⟩
 ·by_cases e1 : q=n :: p
  ·rw [e1,Ez] at hq; cases hq
  ·by_cases e : q=p
   ·rw [e,Ff] at hq
    injection hq with hq
    rw [← hq] at hx
    rcases (Gq n x _).1 hx with rfl | hx
    ·exact hn
    ·rw [C2 hD] at hx
     exact h.names p L hD x hx
   ·rw [Fj e1 e] at hq
    exact h.names q L' hq x hx
 ·by_cases e1 : q=n :: p
  ·rw [e1,Ez] at hq; cases hq
  ·by_cases e : q=p
   ·rw [e,Ff] at hq
    injection hq with hq
    rw [← hq,C2 hD]
    exact Nat.le_trans (K0 n L) hL
   ·rw [Fj e1 e] at hq
    exact hm q L' e hq
 ·obtain ⟨cs,h1,h2⟩:=h.came
  exact ⟨cs,h1,fun q hq=>h2 q (hk q hq)⟩
theorem Gd.lay {σ : Tre} {m c : Nat} (h : Gd σ m c) {p L : List Bs} (hD : σ.D p=some L) {n : Bs} (hn : n.length≤64) (v : Val) : Gd (Be σ p n v) (m+1) c:=
 h.layAt hD hn v (by have:=h.many p L hD; omega) (fun q L' _ e=>by have:=h.many q L' e; omega)
theorem Gd.made {σ : Tre} {m c : Nat} (h : Gd σ m c) {p : List Bs} (hp : p.length≤15) : Gd (A9 σ p) m (c+1):=by
 have hs : (A9 σ p).D p=some []:=by unfold A9; exact Bw
 refine ⟨h.rises.made p,fun q L hq n hn=>?_,fun q L hq=>?_,?_,fun q hq=>?_⟩
 ·by_cases e : q=p
  ·rw [e,hs] at hq; injection hq with hq; rw [← hq] at hn; cases hn
  ·rw [Hf e] at hq; exact h.names q L hq n hn
 ·by_cases e : q=p
  ·rw [e,hs] at hq; injection hq with hq; rw [← hq]; simp
  ·rw [Hf e] at hq; exact h.many q L hq
 ·obtain ⟨cs,h1,h2⟩:=h.came
  refine ⟨p :: cs,by simp; omega,fun q hq=>?_⟩
  by_cases e : q=p
  ·rw [e]; simp
  ·rw [Hf e] at hq
   exact List.mem_cons_of_mem _ (h2 q hq)
 ·by_cases e : q=p
  ·rw [e]; exact hp
  ·rw [Hf e] at hq; exact h.deep q hq
theorem Gd.layAll {m c : Nat} {p : List Bs} : ∀ (l : List Ent) {σ : Tre} {L : List Bs},Gd σ m c→σ.D p=some L→L.length+l.length≤m→(∀ x∈l,x.1.length≤64)→Gd (Dg σ p l) m c
 | [],_,_,h,_,_,_=>h
 | x :: r,σ,L,h,hD,hl,hx=>by
  have h1:=h.layAt hD (hx x (by simp)) x.2 (m':=m) (by simp at hl; omega) (fun q L' _ e=>h.many q L' e)
  refine Gd.layAll r h1 Ff ?_ (fun y hy=>hx y (by simp [hy]))
  have:=K0 x.1 L
  rw [C2 hD]
  simp only [List.length_cons] at hl
  omega
theorem entryOk_le {n : Bs} {v : Val} (h : Ck n v=true) : n.length≤64:=by
 unfold Ck at h
 rw [Bool.and_eq_true] at h
 have:=of_decide_eq_true h.1
 exact this.2.1
theorem entsE_names (fd : Bs→Option Bs) (d : Ent) : ∀ x∈(Dt fd d).2,x.1.length≤64:=by
 unfold Dt
 split
 ·intro x hx; cases hx
 ·split
  ·intro x hx; cases hx
  ·unfold Fh
   cases h : Db (Co fd d.2.2.1 [] []).out with
   | none=>intro x hx; cases hx
   | some l=>exact fun x hx=>entryOk_le (N7 _ _ h x hx)
section
variable {fd : Bs→Option Bs} (hs : ∀ id b,fd id=some b→b.length≤140737488355328)
include hs
theorem Gd.into {σ : Tre} {m c : Nat} (h : Gd σ m c) (hm : 4160≤m) {p : List Bs} (hp : p.length≤15) : Gd (Cn fd σ p).2 m (c+1):=by
 unfold Cn
 split
 ·exact h.more (Nat.le_refl _) (by omega)
 ·split
  ·exact h.more (Nat.le_refl _) (by omega)
  ·split
   ·exact h.more (Nat.le_refl _) (by omega)
   ·refine Gd.layAll _ (h.made hp) (L:=[]) (by unfold A9; exact Bw) ?_ (entsE_names fd _)
    have:=entsE_few fd hs (hdN p,σ.E p)
    simp only [List.length_nil]
    omega
theorem Gd.come (find : Bool) {m : Nat} (hm : 4160≤m) : ∀ (ns : List Bs) (r : Int × Tre) (p : List Bs) (k c : Nat),Gd r.2 (m+k) c→p.length+ns.length≤15→(∀ n∈ns,n.length≤64)→(r.1=0→∃ L,r.2.D p=some L)→Gd (Cw fd find ns r p).2.1 (m+k+ns.length) (c+ns.length)∧((Cw fd find ns r p).1=0→(Cw fd find ns r p).2.2.length≤15)
 | [],r,p,k,c,h,hp,_,_=>by
  rw [Cw]
  exact ⟨h,fun _=>by simp at hp; omega⟩
 | n :: ns,r,p,k,c,h,hp,hn,hD=>by
  simp only [List.length_cons] at hp
  rw [Cw]
  split
  ·rename_i h1
   exact ⟨h.more (by omega) (by omega),fun e=>absurd e h1⟩
  ·rename_i h1
   obtain ⟨L,hL⟩:=hD (by simpa using h1)
   split
   ·have h2:=h.into hs (p:=n :: p) (by omega) (by simp only [List.length_cons]; omega)
    have h3:=Gd.come find hm ns (Cn fd r.2 (n :: p)) (n :: p) k (c+1) h2 (by simp only [List.length_cons]; omega) (fun x hx=>hn x (by simp [hx])) (fun e=>Gt e)
    exact ⟨h3.1.more (by simp only [List.length_cons]; omega) (by simp only [List.length_cons]; omega),h3.2⟩
   ·split
    ·exact ⟨h.more (by omega) (by omega),fun e=>by cases e⟩
    ·have h2:=(h.lay hL (hn n (by simp)) newD).made (p:=n :: p) (by simp only [List.length_cons]; omega)
     have h3:=Gd.come find hm ns (0,A9 (Be r.2 p n newD) (n :: p)) (n :: p) (k+1) (c+1) h2 (by simp only [List.length_cons]; omega) (fun x hx=>hn x (by simp [hx])) (fun _=>⟨[],by unfold A9; exact Bw⟩)
     exact ⟨h3.1.more (by simp only [List.length_cons]; omega) (by simp only [List.length_cons]; omega),h3.2⟩
omit hs in
theorem Gd.cut {σ : Tre} {m c : Nat} (h : Gd σ m c) {p L : List Bs} (hD : σ.D p=some L) (n : Bs) : Gd (Ca σ p n) m c:=by
 have hs : (Ca σ p n).D p=some (L.erase n):=by unfold Ca; simp only [Bw]; rw [C2 hD]
 have ho : ∀ q,q≠p→(Ca σ p n).D q = σ.D q:=fun q e=>by unfold Ca; exact Bf e
 have hk : ∀ q,(Ca σ p n).D q≠none→σ.D q≠none:=fun q hq=>by
  by_cases e : q=p
  ·rw [e,hD]; simp
  ·rwa [ho q e] at hq
 refine ⟨h.rises.cut p n,fun q L' hq x hx=>?_,fun q L' hq=>?_,?_,fun q hq=>h.deep q (hk q hq)⟩
 ·by_cases e : q=p
  ·rw [e,hs] at hq; injection hq with hq; rw [← hq] at hx
   exact h.names p L hD x (List.mem_of_mem_erase hx)
  ·rw [ho q e] at hq; exact h.names q L' hq x hx
 ·by_cases e : q=p
  ·rw [e,hs] at hq; injection hq with hq; rw [← hq]
   exact Nat.le_trans (List.length_erase_le) (h.many p L hD)
  ·rw [ho q e] at hq; exact h.many q L' hq
 ·obtain ⟨cs,h1,h2⟩:=h.came
  exact ⟨cs,h1,fun q hq=>h2 q (hk q hq)⟩
omit hs in
theorem Gd.away {m c : Nat} : ∀ (p : List Bs) {σ : Tre} {n : Bs},Gd σ m c→At σ p→n ∈ σ.names p→Gd (Eb σ (n :: p)) m c
 | [],σ,n,h,hp,hn=>by
  obtain ⟨L,hD,-⟩:=Io hn
  rw [G1,if_neg (by simp)]
  exact h.cut hD n
 | x :: p,σ,n,h,hp,hn=>by
  obtain ⟨L,hD,-⟩:=Io hn
  rw [G1]
  split
  ·have h1:=Ha (n:=n) hp
   exact Gd.away p (h.cut hD n) h1.1 h1.2
  ·exact h.cut hD n
omit hs in
theorem Gd.last {σ : Tre} {m c : Nat} (h : Gd σ m c) {p L : List Bs} (hp : At σ p) (hD : σ.D p=some L) {n : Bs} (hn : n.length≤64) (x : EdP) : Gd (lastS σ p n x).2 (m+1) c:=by
 unfold lastS
 split
 ·split
  ·rename_i h1
   exact (Gd.away p h hp h1).more (by omega) (Nat.le_refl _)
  ·exact h.more (by omega) (Nat.le_refl _)
 ·split
  ·exact h.more (by omega) (Nat.le_refl _)
  ·exact h.lay hD hn _
omit hs in
theorem come_at (find : Bool) : ∀ (ns : List Bs) (r : Int × Tre) (p : List Bs),At r.2 p→(r.1=0→∃ L,r.2.D p=some L)→(Cw fd find ns r p).1=0→At (Cw fd find ns r p).2.1 (Cw fd find ns r p).2.2∧∃ L,(Cw fd find ns r p).2.1.D (Cw fd find ns r p).2.2=some L
 | [],r,p,h,hD,h0=>by
  rw [Cw] at h0 ⊢
  exact ⟨h,hD h0⟩
 | n :: ns,r,p,h,hD,h0=>by
  rw [Cw] at h0 ⊢
  split
  ·rename_i h1; rw [if_pos h1] at h0; exact absurd h0 h1
  ·rename_i h1
   rw [if_neg h1] at h0
   obtain ⟨L,hL⟩:=hD (by simpa using h1)
   split
   ·rename_i h2
    rw [if_pos h2] at h0
    exact come_at find ns _ _ (into_at ⟨h,h2⟩) (fun e=>Gt e) h0
   ·rename_i h2
    rw [if_neg h2] at h0
    split
    ·rename_i h3; rw [if_pos h3] at h0; cases h0
    ·rename_i h3
     rw [if_neg h3] at h0
     have ha : At (Be r.2 p n newD) (n :: p):=⟨Ko h,by rw [C2 Ff]; exact (Gq n n _).2 (.inl rfl)⟩
     exact come_at find ns _ _ ((Fo Ez _).2 ha) (fun _=>⟨[],by unfold A9; exact Bw⟩) h0
theorem Gd.do {σ : Tre} {m c : Nat} (h : Gd σ m c) (hm : 4160≤m) (x : EdP) : Gd (doS fd σ x).2 (m+17) (c+16):=by
 unfold doS
 split
 ·exact h.more (by omega) (by omega)
 ·rename_i h1
  split
  ·exact h.more (by omega) (by omega)
  ·simp only
   have hpt : Pa.Pt.path x.1=true:=by
    cases hp : Pa.Pt.path x.1 with
    | true=>rfl
    | false=>exact absurd (.inl hp) h1
   have hfl:=Pa.Pt.few_len hpt
   have hnn : ∀ n∈Pa.Pt.parts x.1,n.length≤64:=fun n hn=>Pa.Pt.name_le (I4 hpt n hn)
   have hne : Pa.Pt.parts x.1 ≠ []:=fun e=>h1 (.inr e)
   generalize Pa.Pt.parts x.1=ns at *
   have hpos:=List.length_pos_iff.2 hne
   have hdl : ns.dropLast.length=ns.length - 1:=List.length_dropLast
   have hi:=h.into hs (p:=[]) hm (by simp)
   obtain ⟨hc1,hc2⟩:=Gd.come hs x.2.2.2 hm ns.dropLast (Cn fd σ []) [] 0 (c+1) hi (by simp only [List.length_nil]; omega) (fun n hn=>hnn n ((List.dropLast_subset ns) hn)) (fun e=>Gt e)
   have hca:=come_at (fd:=fd) x.2.2.2 ns.dropLast (Cn fd σ []) [] trivial (fun e=>Gt e)
   generalize Cw fd x.2.2.2 ns.dropLast (Cn fd σ []) []=r at *
   split
   ·exact hc1.more (by omega) (by omega)
   ·rename_i h0
    obtain ⟨ha,L,hD⟩:=hca (by simpa using h0)
    have hl : (ns.getLastD []).length≤64:=by
     obtain ⟨a,b,e⟩ : ∃ a b,ns=a ++ [b]:=⟨ns.dropLast,ns.getLast hne,(List.dropLast_concat_getLast _).symm⟩
     rw [e]
     simp only [List.getLastD_concat]
     exact hnn b (by rw [e]; simp)
    exact (hc1.last ha hD hl x).more (by omega) (by omega)
theorem Gd.edits : ∀ (xs : List EdP) {σ : Tre} {m c : Nat},Gd σ m c→4160≤m→Gd (Eh fd xs σ).2 (m+17 * xs.length) (c+16 * xs.length)
 | [],_,_,_,h,_=>h
 | x :: r,σ,m,c,h,hm=>by
  have h1:=h.do hs hm x
  rw [Eh,List.length_cons]
  split
  ·exact h1.more (by omega) (by omega)
  ·exact (Gd.edits r h1 (by omega)).more (by omega) (by omega)
end
theorem N9 (root : Bs) : Gd (Ec root) 4160 0:=
 ⟨fun _ _ h=>(by cases h),fun _ _ h=>(by cases h),fun _ _ h=>(by cases h),⟨[],by simp,fun _ h=>absurd rfl h⟩,fun _ h=>absurd rfl h⟩
theorem sum_filter (cs : List (List Bs)) (p : List Bs) : ∀ (L : List Bs),L.Nodup→cs.count p+sumT (fun q=>(cs.filter (fun x=>decide (q <:+ x))).length) p L≤(cs.filter (fun x=>decide (p <:+ x))).length:=by
 intro L hL
 induction cs with
 | nil=>
  have : ∀ L : List Bs,sumT (fun q=>(([] : List (List Bs)).filter (fun x=>decide (q <:+ x))).length) p L=0:=fun L=>by
   induction L with
   | nil=>rfl
   | cons a r ih=>rw [sumT,ih]; rfl
  rw [this]
  simp
 | cons q cs ih=>
  have hstep : ∀ L : List Bs,L.Nodup→sumT (fun s=>((q :: cs).filter (fun x=>decide (s <:+ x))).length) p L≤(if (∃ n∈L,(n :: p) <:+ q) then 1 else 0)+sumT (fun s=>(cs.filter (fun x=>decide (s <:+ x))).length) p L:=fun L hL=>by
   induction L with
   | nil=>simp [sumT]
   | cons a r ihr=>
    have hr:=List.nodup_cons.1 hL
    have h2:=ihr hr.2
    rw [sumT,sumT,List.filter_cons]
    by_cases ha : (a :: p) <:+ q
    ·have hno : ¬ ∃ n∈r,(n :: p) <:+ q:=by
      rintro ⟨n,hn,hq⟩
      exact suf_other (show n≠a from fun e=>hr.1 (by rw [← e]; exact hn)) hq ha
     rw [if_neg hno] at h2
     rw [if_pos (show ∃ n∈a :: r,(n :: p) <:+ q from ⟨a,by simp,ha⟩)]
     simp only [ha,decide_true,if_true,List.length_cons]
     omega
    ·simp only [ha,decide_false,Bool.false_eq_true,if_false]
     have : (if (∃ n∈r,(n :: p) <:+ q) then 1 else 0)≤(if (∃ n∈a :: r,(n :: p) <:+ q) then 1 else 0):=by
      by_cases h3 : ∃ n∈r,(n :: p) <:+ q
      ·obtain ⟨n,hn,hq⟩:=h3
       rw [if_pos ⟨n,hn,hq⟩,if_pos ⟨n,by simp [hn],hq⟩]
       exact Nat.le_refl _
      ·rw [if_neg h3]; omega
     omega
  have h1:=hstep L hL
  rw [List.filter_cons]
  by_cases hq : q=p
  ·subst hq
   have hno : ¬ ∃ n∈L,(n :: q) <:+ q:=by rintro ⟨n,-,hn⟩; exact not_suf n q hn
   rw [if_neg hno] at h1
   simp only [List.suffix_refl,decide_true,if_true,List.length_cons,List.count_cons_self]
   omega
  ·rw [List.count_cons_of_ne (fun e=>hq e)]
   by_cases hs : ∃ n∈L,(n :: p) <:+ q
   ·rw [if_pos hs] at h1
    obtain ⟨n,-,hn⟩:=hs
    simp only [suf_kid hn,decide_true,if_true,List.length_cons]
    omega
   ·rw [if_neg hs] at h1
    split
    ·simp only [List.length_cons]; omega
    ·omega
theorem sumT_le {f g : List Bs→Nat} {p : List Bs} (h : ∀ n,f (n :: p)≤g (n :: p)) : ∀ L : List Bs,sumT f p L≤sumT g p L
 | []=>Nat.le_refl _
 | a :: r=>by
  rw [sumT,sumT]
  have:=h a
  have:=sumT_le h r
  omega
theorem cntT_le {σ : Tre} (hr : Bn σ) {cs : List (List Bs)} (hc : ∀ p,σ.D p≠none→p∈cs) : ∀ (d : Nat) (p : List Bs),cntT σ d p≤(cs.filter (fun x=>decide (p <:+ x))).length
 | 0,_=>by rw [cntT]; omega
 | d+1,p=>by
  rw [cntT]
  cases hD : σ.D p with
  | none=>simp
  | some L=>
   simp only
   have h1:=sum_filter cs p L (J2 (hr p L hD))
   have h2:=sumT_le (f:=cntT σ d) (g:=fun q=>(cs.filter (fun x=>decide (q <:+ x))).length) (p:=p) (fun n=>cntT_le hr hc d (n :: p)) L
   have h3 : 1≤cs.count p:=List.one_le_count_iff.2 (hc p (by rw [hD]; simp))
   omega
theorem Gd.cnt {σ : Tre} {m c : Nat} (h : Gd σ m c) (d : Nat) (p : List Bs) : cntT σ d p≤c:=by
 obtain ⟨cs,h1,h2⟩:=h.came
 exact Nat.le_trans (cntT_le h.rises h2 d p) (Nat.le_trans (List.length_filter_le _ _) h1)
end Go.Proofs.YtckejblkppllaaaGreatDoor
namespace Go.Proofs.YtckejblkppllaaaGreatDoor
open Go.RowKit
abbrev lyts : List TypeId:=[93,38]
structure LyW (S : Nat) (w : World) (g : Nat) (os : List Ag) (vo : Value) (mb : Nat) : Prop where
 base : S≤g
 cell : w.heap[g]? = some (.cells #[vo, .map (some mb)] 93)
 row : Rw S w 38 2 Ak vo os
 map : Mp.MapW w mb (Dz os)
 mbase : S≤mb
theorem LyW.keep {S : Nat} {w w' : World} {g : Nat} {os : List Ag} {vo : Value} {mb : Nat} (h : LyW S w g os vo mb) (hb : Below w.heap.size w w') : LyW S w' g os vo mb:=
 ⟨h.base,(hb.block _ (Ad h.cell)).trans h.cell,Er h.row (fun q hq=>hb.block q (h.row.lt q hq).2),h.map.same (hb.block _ h.map.lt),h.mbase⟩
theorem LyW.put {S : Nat} {w : World} {g : Nat} {os : List Ag} {vo : Value} {mb : Nat} (h : LyW S w g os vo mb) (o : Ag) (hq : os.any (fun x=>x.1 == o.1)=false) (hn : os.length≤4294967296) {B1 : Nat} {v : Value} {raw : List Ag} (hraw : Rw B1 w 38 2 Ak v raw) (hne : v.ownBlock=none∨v.ownBlock≠vo.ownBlock) :
  ∃ w2 w3 vn,(Instr.mapUpdate 91 (.map (some mb)) (.string (Ab o.1)) (.agg #[])).run Tryz.prog w = .ok () w2∧w2.heap[g]? = some (.cells #[vo, .map (some mb)] 93)∧(∀ k,k<w.heap.size→k≠mb→w2.heap[k]? = w.heap[k]?)∧w2.heap.size=w.heap.size ∧
   (Builtin.append_ #[22,22] 22 #[vo, .slice (some ⟨w2.heap.size,0,none⟩) 1 1]).run Tryz.prog (w2.alloc (.cells #[.string (Ab o.1), .string (Ab o.2)] 38)).drew = .ok vn w3 ∧
   w3.heap[g]? = some (.cells #[vo, .map (some mb)] 93)∧(∀ k,k<w.heap.size→k≠mb→some k≠vo.ownBlock→w3.heap[k]? = w.heap[k]?) ∧
   LyW S (w3.setCell ⟨g,0,none⟩ vn) g (os ++ [o]) vn mb∧Rw B1 (w3.setCell ⟨g,0,none⟩ vn) 38 2 Ak v raw∧(vn.ownBlock=vo.ownBlock∨vn.ownBlock=some (w.heap.size+1))∧Mv S lyts none w (w3.setCell ⟨g,0,none⟩ vn)∧(∃ a m c,vn = .slice a m c):=by
 obtain ⟨hg,hh1,hrow1,hmap1,hmb⟩:=h
 have hB : S≤w.heap.size:=by have:=Ad hh1; omega
 obtain ⟨w2,hput,hmap2,hc2,hsz2⟩:=map_put w mb os o hmap1 hq
 have hh2:=(hc2.block g (Ad hh1) (hmap1.ne hh1)).trans hh1
 have hrow2 : Rw S w2 38 2 Ak vo os:=Er hrow1 (fun q hq'=>hc2.block q (hrow1.lt q hq').2 (by
  obtain ⟨c,fz,h1⟩:=Lib.ownsRow_kind hrow1 q hq'
  exact hmap1.ne h1))
 have hraw2 : Rw B1 w2 38 2 Ak v raw:=Er hraw (fun q hq'=>hc2.block q (hraw.lt q hq').2 (by
  obtain ⟨c,fz,h1⟩:=Lib.ownsRow_kind hraw q hq'
  exact hmap1.ne h1))
 have hblk2 : ∀ k,k<w.heap.size→k≠mb→w2.heap[k]? = w.heap[k]?:=fun k hk hne=>hc2.block k hk hne
 obtain ⟨es,ck',hes,-⟩:=hmap1
 have hM2 : Mv S lyts none w w2:=(Mv.refl _ _ _ _).map hc2 hmb hes
 have hB2 : S≤w2.heap.size:=by omega
 obtain ⟨vn,w3,hrun3,hrow3,hgr3,hown3⟩:=app_obj w2.drew S vo os o hrow2 hB2 hn
 rw [Hb] at hrun3 hgr3
 rw [show w2.drew.heap.size=w2.heap.size from rfl] at hrun3 hown3
 have hrowA : Rw S (w2.alloc (.cells #[.string (Ab o.1), .string (Ab o.2)] 38)).drew 38 2 Ak vo os:=World.ownsRow.alloc hrow2 _
 have hrawA : Rw B1 (w2.alloc (.cells #[.string (Ab o.1), .string (Ab o.2)] 38)).drew 38 2 Ak v raw:=World.ownsRow.alloc hraw2 _
 have hhA:=(heap_past w2 (.cells #[.string (Ab o.1), .string (Ab o.2)] 38) _ (Ad hh2)).trans hh2
 have hmA : Mp.MapW (w2.alloc (.cells #[.string (Ab o.1), .string (Ab o.2)] 38)) mb (Dz (os ++ [o])):=hmap2.same (heap_past w2 (.cells #[.string (Ab o.1), .string (Ab o.2)] 38) _ hmap2.lt)
 have hh3:=Ej hrowA hgr3 (show (w2.alloc _).drew.heap[g]? = _ from hhA) (by decide)
 have hm3 : Mp.MapW w3 mb (Dz (os ++ [o])):=hmA.same (hgr3.block mb hmA.lt (fun hq'=>by
  obtain ⟨c,fz,h1⟩:=Lib.ownsRow_kind hrow2 mb hq'.symm
  exact absurd rfl (hmap2.ne h1)))
 have hraw3 : Rw B1 w3 38 2 Ak v raw:=G4 hrawA hrowA hgr3 hne
 have hM3 : Mv S lyts none w w3:=(hM2.alloc hB2 _).drew.grown hrowA hgr3 (by decide) (by simp; omega)
 refine ⟨w2,w3,vn,hput,hh2,hblk2,hsz2,hrun3,hh3,fun k hk h1 h2=>?_,⟨hg,Nw hh3,Ap hrow3 hh3 (by decide) _,map_set hm3 hh3 _,hmb⟩,Ap hraw3 hh3 (by decide) _,by rw [← hsz2]; exact hown3,hM3.set hh3 (by decide) hg _,Av hrow3⟩
 refine (hgr3.block k (by simp; omega) h2).trans ?_
 show (w2.alloc _).heap[k]? = _
 rw [heap_past w2 _ _ (by omega),hblk2 k hk h1]
theorem keptP_take (os raw : List Ag) (i : Nat) (h : i<raw.length) : Bo os (raw.take (i+1))=C7 (Bo os (raw.take i)) raw[i]:=by
 unfold Bo
 rw [List.take_succ_eq_append_getElem h,List.foldl_append]
 rfl
theorem Pn (o : Option Nat) (W : World) : (binOp .eql 91 (.map o) (.map none)).run Tryz.prog W = .ok (.bool (!o.isSome)) W:=by
 have h : (Op.equal 91 (.map o) (.map none)).run Tryz.prog W = .ok (!o.isSome) W:=by
  show (Op.equalIn (9999+1) 91 _ _).run Tryz.prog W=_
  unfold Op.equalIn
  cases o <;> simp [run_underlying Tryz.underlying91,Result.andThen]
 simp only [binOp,Sem.run_bind,h,Result.andThen,Sem.run_pure]
structure LyO (S : Nat) (w : World) (g : Nat) (os : List Ag) (vo : Value) (mo : Option Nat) : Prop where
 base : S≤g
 cell : w.heap[g]? = some (.cells #[vo, .map mo] 93)
 row : Rw S w 38 2 Ak vo os
 none : mo=Option.none→os = []
 map : ∀ mb,mo=some mb→Mp.MapW w mb (Dz os)∧S≤mb
theorem LyW.o {S : Nat} {w : World} {g : Nat} {os : List Ag} {vo : Value} {mb : Nat} (h : LyW S w g os vo mb) : LyO S w g os vo (some mb):=
 ⟨h.base,h.cell,h.row,fun e=>(by cases e),fun m e=>(by injection e with e; rw [← e]; exact ⟨h.map,h.mbase⟩)⟩
set_option maxRecDepth 40000 in
set_option maxHeartbeats 3200000 in
theorem keep_any (w : World) (S g : Nat) (os raw : List Ag) (vo v : Value) (mo : Option Nat) (B1 : Nat) (h : LyO S w g os vo mo) (hv : Rw B1 w 38 2 Ak v raw) (hsep : ∀ q,vo.ownBlock=some q→q<B1) (hn : os.length+raw.length≤4294967296) :
  Calls Tryz.prog 78 #[.pointer (some ⟨g,0,none⟩),v] w fun e w'=>e = .returned (.tuple #[])∧(∃ vo' mb',LyW S w' g (Bo os raw) vo' mb')∧Mv S lyts none w w':=by
 obtain ⟨va,vc,hva,-⟩:=Bj hv
 obtain ⟨n,hnn⟩ : ∃ n,n=raw.length:=⟨_,rfl⟩
 rw [← hnn] at hva
 subst hva
 have hmk:=Pn mo w
 have g1:=rc (i:=1) h.cell rfl
 have hSw : S≤w.heap.size:=by have:=Ad h.cell; have:=h.base; omega
 have HN:=Ac (And.intro hnn (And.intro hn hSw))
 have hn64 : n≤4294967296:=by omega
 have H0:=Ac (And.intro h (And.intro hv (And.intro hsep (show ∀ q,(Value.slice va n vc).ownBlock=some q→B1≤q∧q<w.heap.size from fun q hq=>hv.lt q hq))))
 clear h hv hnn hn hSw hsep
 go_enter Tryz.func78,Tryz.ntmps78
 go_upto_if 12 with fail
 go_cut [12] from 13 to 16 (fun _ wx=>∃ mb,LyW S wx g os vo mb∧Rw B1 wx 38 2 Ak (.slice va n vc) raw∧Mv S lyts none w wx)
 case first=>
  cases mo with
  | some mb=>
   go_wp2_with fail
   go_meet
   exact ⟨mb,⟨H0.out.1.base,H0.out.1.cell,H0.out.1.row,(H0.out.1.map mb rfl).1,(H0.out.1.map mb rfl).2⟩,H0.out.2.1,Mv.refl _ _ _ _⟩
  | none=>
   have hx1:=heap_past w (.map #[] 0) _ (Ad H0.out.1.cell)
   have hx:=hx1.trans H0.out.1.cell
   have d1:=rc (i:=1) hx rfl
   have f1:=Af (j:=1) hx
   have hmake : (Instr.makeMap 91 none).run Tryz.prog w = .ok (.map (some w.heap.size)) (w.alloc (.map #[] 0)):=by kernel_rfl
   clear hx1
   go_wp2_with fail
   go_meet
   have hos:=H0.out.1.none rfl
   have hrowA : Rw S (w.alloc (.map #[] 0)) 38 2 Ak vo os:=H0.out.1.row.alloc _
   have hrawA : Rw B1 (w.alloc (.map #[] 0)) 38 2 Ak (.slice va n vc) raw:=H0.out.2.1.alloc _
   have hne : w.heap.size≠g:=by have:=Ad H0.out.1.cell; omega
   refine ⟨w.heap.size,⟨H0.out.1.base,?_,Ap hrowA hx (by decide) _,?_,HN.out.2.2⟩,Ap hrawA hx (by decide) _,((Mv.refl _ _ _ _).alloc HN.out.2.2 _).set hx (by decide) H0.out.1.base _⟩
   ·rw [heap_setCell _ _ _ _ _ _ _ hx]
    simp
   ·rw [hos]
    exact (Mp.MapW.made w).same (Bc hne)
 case rest=>
 obtain ⟨mb,hlyS,hrwS,hmvS⟩:=hcut
 have HS:=Ac (And.intro hlyS (And.intro hrwS hmvS))
 clear hlyS hrwS hmvS g1 hmk
 go_wp2_with fail
 go_loopw [19] (fun t wr=>∃ (i : Nat) (vo' : Value) (mb' : Nat),i≤n∧t = .int .i64 i∧LyW S wr g (Bo os (raw.take i)) vo' mb'∧Rw B1 wr 38 2 Ak (.slice va n vc) raw∧(∀ q,vo'.ownBlock=some q→q<B1∨w.heap.size≤q)∧Mv S lyts none w wr)
  (fun t _=>n - (intOf t).toNat)
 case atStart=>exact ⟨0,vo,mb,by omega,rfl,by simpa [Bo] using HS.out.1,HS.out.2.1,fun q hq=>.inl (H0.out.2.2.1 q hq),HS.out.2.2⟩
 case round=>
  obtain ⟨i,vo1,mb1,hi,rfl,hly,hrw,hse,hmv⟩:=hrel
  have hSr : S≤wr.heap.size:=Nat.le_trans HN.out.2.2 hmv.size
  by_cases hlt : i<n
  ·have hlt2 : i<raw.length:=by have:=HN.out.1; omega
   obtain ⟨oa,oc,hov,-,-,hc⟩:=Bi Dr hrw
   obtain ⟨pb,off,rfl,hpb,hc⟩:=hc (by rintro rfl; simp at hlt2)
   obtain rfl : va=_:=by injection hov
   clear hov
   have e0:=hc i hlt2 0 _ rfl
   have e1:=hc i hlt2 1 _ rfl
   simp only [Nat.add_zero] at e0
   have hkt:=keptP_take os raw i hlt2
   have hkl : (Bo os (raw.take i)).length≤4294967296:=by have:=Gj (raw.take i) os; have:=HN.out; rw [List.length_take] at *; omega
   generalize raw[i]=o at *
   generalize Bo os (raw.take i)=os1 at *
   obtain ⟨q,hq⟩ : ∃ q,q=wr.heap.size:=⟨_,rfl⟩
   have hb0 : Below wr.heap.size wr (wr.alloc (.cells #[.string (Ab o.1), .string (Ab o.2)] 38)):=(Below.refl _ _).alloc (Nat.le_refl _) _
   have hx0:=heap_last wr (.cells #[.string (Ab o.1), .string (Ab o.2)] 38) q hq
   have hly0:=hly.keep hb0
   have hrw0:=A0 hrw hb0
   have hmv0:=hmv.more hb0 hSr
   have hs0 : (wr.alloc (.cells #[.string (Ab o.1), .string (Ab o.2)] 38)).heap.size=q+1:=by simp [hq]
   have hqr : wr.heap.size=q:=hq.symm
   generalize hw0 : wr.alloc (.cells #[.string (Ab o.1), .string (Ab o.2)] 38)=w0 at *
   have hb1 : Below w0.heap.size w0 (w0.alloc (.cells #[] 215)).drew:=((Below.refl _ _).alloc (Nat.le_refl _) _).drew
   have hx1:=(hb1.block _ (Ad hx0)).trans hx0
   have hly1:=hly0.keep hb1
   have hrw1:=A0 hrw0 hb1
   have hmv1:=hmv0.more hb1 (by omega)
   have l0:=Jb w0.drew mb1 os1 o.1 hly0.map
   have l1:=Jb (w0.alloc (.cells #[] 215)).drew mb1 os1 o.1 hly1.map
   have y1:=rc (i:=1) hly0.cell rfl
   have x0:=rc (i:=0) hx0 rfl
   have y1':=rc (i:=1) (show (w0.alloc (.cells #[] 215)).heap[g]? = _ from hly1.cell) rfl
   have x0':=rc (i:=0) (show (w0.alloc (.cells #[] 215)).heap[q]? = _ from hx1) rfl
   have H1:=Ac (And.intro hly1 (And.intro hrw1 (And.intro hmv1 (And.intro hx1 (And.intro hse (And.intro hkt hs0))))))
   have hqw : w.heap.size≤q:=by have:=hmv.size; omega
   have HVO:=Ac (fun q' (hq' : vo1.ownBlock=some q')=>(show q'<q from hq ▸ (hly.row.lt q' hq').2))
   clear hly hrw hmv hly0 hrw0 hmv0 hb0 hb1 hx0 hx1 hly1 hrw1 hmv1 hse hkt hc hq hs0 hSr
   cases hqa : os1.any (fun x=>x.1 == o.1) with
   | true=>
    rw [hqa] at l0 l1
    have hst : C7 os1 o=os1:=by unfold C7; rw [hqa,if_pos rfl]
    have HF:=Ac hst
    clear hst hqa
    go_wp2_with fail
    try rw [hw0]
    go_wp2_with fail
    refine wp_region_held_drew (S:=fun W=>W.cell? ⟨g,1,none⟩=some (.map (some mb1))∧W.cell? ⟨q,0,none⟩=some (.string (Ab o.1))∧(Instr.lookup 91 (.map (some mb1)) (.string (Ab o.1)) true).run Tryz.prog W = .ok (.tuple #[.agg #[], .bool true]) W) (by kernel_rfl) (⟨y1,x0,l0⟩) (fun hHeld=>?_)
    refine Aa 0 hHeld ?_
    refine Aa 1 hHeld ?_
    refine Aa 2 hHeld ?_
    refine Aa 3 hHeld ?_
    refine Aa 4 hHeld ?_
    refine Aa 5 hHeld ?_
    refine Aa 6 hHeld ?_
    refine Aa 7 hHeld ?_
    refine Aa 8 hHeld ?_
    refine Aa 9 hHeld ?_
    refine Ai (i:=10) rfl (by kernel_rfl) rfl (fun K hK=>?_)
    go_simp
    refine hK.out _ _ (⟨y1',x0',l1⟩) (fun hHeld=>?_)
    clear hK K
    try simp only [Act.put,List.setIfInBounds_toArray,List.set_cons_zero,List.set_cons_succ]
    refine Ai (i:=11) rfl (by kernel_rfl) rfl (fun K hK=>?_)
    go_simp
    refine hK.out _ _ (⟨y1',x0',l1⟩) (fun hHeld=>?_)
    clear hK K
    try simp only [Act.put,List.setIfInBounds_toArray,List.set_cons_zero,List.set_cons_succ]
    refine Aa 12 hHeld ?_
    refine wpAnyH_done (by kernel_rfl) ?_ _
    clear hHeld
    go_wp2_with fail
    go_roundw
    case rel=>exact ⟨i+1,vo1,mb1,by omega,by go_num,by rw [H1.out.2.2.2.2.2.1,HF.out]; exact H1.out.1,H1.out.2.1,H1.out.2.2.2.2.1,H1.out.2.2.1⟩
    case measure=>simp [intOf]; omega
   | false=>
    rw [hqa] at l0 l1
    have hst : C7 os1 o=os1 ++ [o]:=by unfold C7; rw [hqa,if_neg (by simp)]
    have HF:=Ac hst
    have hrne : (Value.slice (some ⟨pb,off,none⟩) n vc).ownBlock=none∨(Value.slice (some ⟨pb,off,none⟩) n vc).ownBlock≠vo1.ownBlock:=by
     refine .inr fun e=>?_
     have hb:=H0.out.2.2.2 pb rfl
     rcases H1.out.2.2.2.2.1 pb e.symm with h | h
     ·omega
     ·omega
    obtain ⟨w2,w3,vn,hput,hh2,hblk2,hsz2,hrun3,hh3,hblk3,hlyF,hrwF,hownF,hmvF,⟨vna,vnm,vnc,rfl⟩⟩:=LyW.put (w:=(w0.alloc (.cells #[] 215)).drew.drew) ⟨H1.out.1.base,H1.out.1.cell,H1.out.1.row,H1.out.1.map,H1.out.1.mbase⟩ o hqa hkl H1.out.2.1 hrne
    have hqlt : q<(w0.alloc (.cells #[] 215)).drew.drew.heap.size:=by show q<(w0.alloc _).heap.size; have:=H1.out.2.2.2.2.2.2; simp; omega
    have hx1 : (w0.alloc (.cells #[] 215)).drew.drew.heap[q]? = some (.cells #[.string (Ab o.1), .string (Ab o.2)] 38):=H1.out.2.2.2.1
    have hqm : q≠mb1:=Mp.MapW.ne H1.out.1.map H1.out.2.2.2.1
    have hqo : some q≠vo1.ownBlock:=fun e=>by have:=HVO.out q e.symm; omega
    have hx2:=(hblk2 q hqlt hqm).trans hx1
    have hxA:=(heap_past w2 (.cells #[.string (Ab o.1), .string (Ab o.2)] 38) _ (Ad hx2)).trans hx2
    have hhA:=(heap_past w2 (.cells #[.string (Ab o.1), .string (Ab o.2)] 38) _ (Ad hh2)).trans hh2
    have hx3:=(hblk3 q hqlt hqm hqo).trans hx1
    have hx4:=(Bc (j:=0) (u:=Value.slice vna vnm vnc) (Fk hx3 hh3 (by decide))).trans hx3
    have cx : ∀ W : World,W.heap[q]? = some (.cells #[.string (Ab o.1), .string (Ab o.2)] 38)→W.cell? ⟨q,0,none⟩=some (.string (Ab o.1))∧W.cell? ⟨q,1,none⟩=some (.string (Ab o.2)):=fun W hW=>⟨rc (i:=0) hW rfl,rc (i:=1) hW rfl⟩
    have X2:=Ac (cx _ hx2)
    have XA:=Ac (cx _ hxA)
    have X3:=Ac (cx _ hx3)
    have X4:=Ac (cx _ hx4)
    have m1:=rc (i:=1) (show (w0.alloc (.cells #[] 215)).heap[g]? = _ from H1.out.1.cell) rfl
    have m2:=rc (i:=1) hh2 rfl
    have o2:=rc (i:=0) hh2 rfl
    have oA:=rc (i:=0) hhA rfl
    have o3:=rc (i:=0) hh3 rfl
    have c1:=(cx _ (show (w0.alloc (.cells #[] 215)).heap[q]? = _ from H1.out.2.2.2.1)).1
    have f3:=Af (j:=0) hh3
    have hmvT : Mv S lyts none w (w3.setCell ⟨g,0,none⟩ (.slice vna vnm vnc)):=(H1.out.2.2.1.drew).trans hmvF (Nx.refl _ _)
    have hseT : ∀ q',(Value.slice vna vnm vnc).ownBlock=some q'→q'<B1∨w.heap.size≤q':=fun q' hq'=>by
     rcases hownF with h | h
     ·rw [h] at hq'; exact H1.out.2.2.2.2.1 q' hq'
     ·rw [h] at hq'
      injection hq' with hq'
      have:=H1.out.2.2.2.2.2.2
      have hz : (w0.alloc (.cells #[] 215)).drew.drew.heap.size=w0.heap.size+1:=by show (w0.alloc _).heap.size=_; simp
      omega
    have FIN:=Ac (And.intro hlyF (And.intro hrwF (And.intro hseT hmvT)))
    have HRUN:=Ac hrun3
    clear hst hqa hrne hblk2 hsz2 hrun3 hblk3 hlyF hrwF hownF hmvF hqlt hx1 hqm hqo hx2 hxA hhA hx3 hx4 cx hmvT hseT hh2 hh3
    go_wp2_with fail
    try rw [hw0]
    go_wp2_with fail
    refine wp_region_held_drew (S:=fun W=>W.cell? ⟨g,1,none⟩=some (.map (some mb1))∧W.cell? ⟨q,0,none⟩=some (.string (Ab o.1))∧(Instr.lookup 91 (.map (some mb1)) (.string (Ab o.1)) true).run Tryz.prog W = .ok (.tuple #[.agg #[], .bool false]) W) (by kernel_rfl) (⟨y1,x0,l0⟩) (fun hHeld=>?_)
    refine Aa 0 hHeld ?_
    refine Aa 1 hHeld ?_
    refine Aa 2 hHeld ?_
    refine Aa 3 hHeld ?_
    refine Aa 4 hHeld ?_
    refine Aa 5 hHeld ?_
    refine Aa 6 hHeld ?_
    refine Aa 7 hHeld ?_
    refine Aa 8 hHeld ?_
    refine Aa 9 hHeld ?_
    refine Ai (i:=10) rfl (by kernel_rfl) rfl (fun K hK=>?_)
    go_simp
    refine hK.out _ _ (⟨y1',x0',l1⟩) (fun hHeld=>?_)
    clear hK K
    try simp only [Act.put,List.setIfInBounds_toArray,List.set_cons_zero,List.set_cons_succ]
    refine Ai (i:=11) rfl (by kernel_rfl) rfl (fun K hK=>?_)
    go_simp
    refine hK.out _ _ (⟨y1',x0',l1⟩) (fun hHeld=>?_)
    clear hK K
    try simp only [Act.put,List.setIfInBounds_toArray,List.set_cons_zero,List.set_cons_succ]
    refine Aa 12 hHeld ?_
    refine wpAnyH_done (by kernel_rfl) ?_ _
    clear hHeld
    go_wp2_with fail
    refine wp_region_held_drew (S:=fun W=>W.cell? ⟨g,1,none⟩=some (.map (some mb1))∧W.cell? ⟨q,0,none⟩=some (.string (Ab o.1))) (by kernel_rfl) (⟨m1,c1⟩) (fun hHeld=>?_)
    refine Aa 0 hHeld ?_
    refine Aa 1 hHeld ?_
    refine Aa 2 hHeld ?_
    refine Aa 3 hHeld ?_
    refine Aa 4 hHeld ?_
    refine Aa 5 hHeld ?_
    refine Aa 6 hHeld ?_
    refine Ai (i:=7) rfl (by kernel_rfl) rfl (fun K hK=>?_)
    go_simp
    refine hK.out _ _ (⟨m2,X2.out.1⟩) (fun hHeld=>?_)
    clear hK K
    try simp only [Act.put,List.setIfInBounds_toArray,List.set_cons_zero,List.set_cons_succ]
    refine wpAnyH_done (by kernel_rfl) ?_ _
    clear hHeld
    go_wp2_with fail
    refine wp_region_held_drew (S:=fun W=>W.cell? ⟨q,0,none⟩=some (.string (Ab o.1))∧W.cell? ⟨q,1,none⟩=some (.string (Ab o.2))) (by kernel_rfl) (X2.out) (fun hHeld=>?_)
    refine Aa 0 hHeld ?_
    refine Aa 1 hHeld ?_
    refine Aa 2 hHeld ?_
    refine Aa 3 hHeld ?_
    refine Aa 5 hHeld ?_
    refine twoH (i:=4) (j:=6) rfl rfl (by kernel_rfl) rfl rfl (fun K hK=>?_) (fun K hK=>?_)
    ·go_simp
     refine hK.out _ _ (X2.out) (fun hHeld=>?_)
     clear hK K
     try simp only [Act.put,List.setIfInBounds_toArray,List.set_cons_zero,List.set_cons_succ]
     refine Ai (i:=6) rfl (by kernel_rfl) rfl (fun K hK=>?_)
     go_simp
     refine hK.out _ _ (XA.out) (fun hHeld=>?_)
     clear hK K
     try simp only [Act.put,List.setIfInBounds_toArray,List.set_cons_zero,List.set_cons_succ]
     refine Ai (i:=7) rfl (by kernel_rfl) rfl (fun K hK=>?_)
     refine Cz (.tmp 46) (.tmp 48) 22 rfl rfl rfl HRUN.out ?_
     refine hK.out _ _ (X3.out) (fun hHeld=>?_)
     clear hK K
     try simp only [Act.put,List.setIfInBounds_toArray,List.set_cons_zero,List.set_cons_succ]
     refine Aa 8 hHeld ?_
     refine Aa 9 hHeld ?_
     refine Ai (i:=10) rfl (by kernel_rfl) rfl (fun K hK=>?_)
     go_simp
     refine hK.out _ _ (X4.out) (fun hHeld=>?_)
     clear hK K
     try simp only [Act.put,List.setIfInBounds_toArray,List.set_cons_zero,List.set_cons_succ]
     refine wpAnyH_done (by kernel_rfl) ?_ _
     clear hHeld
     go_wp2_with fail
     go_roundw
     case rel=>exact ⟨i+1,_,mb1,by omega,by go_num,by rw [H1.out.2.2.2.2.2.1,HF.out]; exact FIN.out.1,FIN.out.2.1,FIN.out.2.2.1,FIN.out.2.2.2⟩
     case measure=>simp [intOf]; omega
    ·go_simp
     refine hK.out _ _ (XA.out) (fun hHeld=>?_)
     clear hK K
     try simp only [Act.put,List.setIfInBounds_toArray,List.set_cons_zero,List.set_cons_succ]
     refine Ai (i:=4) rfl (by kernel_rfl) rfl (fun K hK=>?_)
     go_simp
     refine hK.out _ _ (XA.out) (fun hHeld=>?_)
     clear hK K
     try simp only [Act.put,List.setIfInBounds_toArray,List.set_cons_zero,List.set_cons_succ]
     refine Ai (i:=7) rfl (by kernel_rfl) rfl (fun K hK=>?_)
     refine Cz (.tmp 46) (.tmp 48) 22 rfl rfl rfl HRUN.out ?_
     refine hK.out _ _ (X3.out) (fun hHeld=>?_)
     clear hK K
     try simp only [Act.put,List.setIfInBounds_toArray,List.set_cons_zero,List.set_cons_succ]
     refine Aa 8 hHeld ?_
     refine Aa 9 hHeld ?_
     refine Ai (i:=10) rfl (by kernel_rfl) rfl (fun K hK=>?_)
     go_simp
     refine hK.out _ _ (X4.out) (fun hHeld=>?_)
     clear hK K
     try simp only [Act.put,List.setIfInBounds_toArray,List.set_cons_zero,List.set_cons_succ]
     refine wpAnyH_done (by kernel_rfl) ?_ _
     clear hHeld
     go_wp2_with fail
     go_roundw
     case rel=>exact ⟨i+1,_,mb1,by omega,by go_num,by rw [H1.out.2.2.2.2.2.1,HF.out]; exact FIN.out.1,FIN.out.2.1,FIN.out.2.2.1,FIN.out.2.2.2⟩
     case measure=>simp [intOf]; omega
  ·have hin : i=n:=by omega
   have hall : raw.take i=raw:=by rw [hin,HN.out.1,List.take_length]
   rw [hall] at hly
   have HF:=Ac (And.intro hly hmv)
   have q5 : decide ((i : Int)<(n : Int))=false:=decide_eq_false (by omega)
   clear hly hrw hse hmv hall
   go_wp2
   go_end0
   exact ⟨rfl,⟨_,_,HF.out.1⟩,HF.out.2⟩
end Go.Proofs.YtckejblkppllaaaGreatDoor
