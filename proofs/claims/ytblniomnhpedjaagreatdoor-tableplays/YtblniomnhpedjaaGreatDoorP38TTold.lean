/-
  Texts joined: TTold, TLaw.
-/
import Derived.Test.YtblniomnhpedjaaGreatDoorP33TBegun
import Derived.Test.YtblniomnhpedjaaGreatDoorP37TRCommit
import Derived.BigRegion
namespace Go.Proofs.YtblniomnhpedjaaGreatDoor
open Go.RowKit
def FineG (gs : List (List Bs)) : Prop:=∀ g∈gs,g.length≤100000000∧∀ r∈g,r.length≤1000000000
theorem Po {gs : List (List Bs)} (h : ∀ g∈gs,right g=true) : FineG gs:=by
 intro g hg
 have hr:=h g hg
 refine ⟨?_,fun r hr'=>by have:=Ga hr r hr'; omega⟩
 unfold right at hr
 simp only [Bool.and_eq_true,decide_eq_true_eq] at hr
 omega
section
variable {B : Nat} {w : World} {F : Nat→Prop} {d r : Nat} {S : Dk} {y : List (List Bs) × Nat × Nat} {l l' : List Af}
set_option maxRecDepth 40000 in
set_option maxHeartbeats 1600000 in
theorem told_any (h : Bi B w F d S) (hlk : Cu S B6=(0,some y)) (hfi : FineG y.1) (hto : Ct y.1=some l) (hB : B≤w.heap.size) (hB0 : 0<B) (hT : Bm w) (hb : S.bulk<1000000000) (hr : Cr w r l') (hrF : ¬ F r) (huF : ∀ u,w.cell? ⟨r,0,none⟩=some u→∀ k,u.ownBlock=some k→¬ F k) :
  Calls Tryz.prog 22 #[.pointer (some ⟨d,0,none⟩), .pointer (some ⟨r,0,none⟩)] w fun e w'=>e = .returned (.bool (decide (l=l')))∧C2 B w F d S.begun w':=by
 have hop:=Li h hB hB0 hT hb B6 Fi (fun z hz g hg=>by
  rw [hlk] at hz
  injection hz with hz
  subst hz
  exact hfi g hg)
 have hop : Calls Tryz.prog 14 #[.pointer (some ⟨d,0,none⟩), .string ⟨#[116,97,98]⟩] w _:=hop
 have HR:=Ab hr
 have HS:=Ab h
 have HU:=Ab huF
 clear h hT huF
 go_enter Tryz.func22,Tryz.ntmps22
 go_wp2_with fail
 refine hop.mono ?_
 rintro e w1 hO
 unfold E5 at hO
 rw [hlk] at hO
 simp only [hto] at hO
 obtain ⟨t,b,g,F1,rfl,hL,hF1,ht,hb1,hg,hc⟩:=hO
 obtain ⟨hfit,heach⟩:=tabOf_ok hto
 have hfl:=Ea hfit
 obtain ⟨u,hu,hp⟩:=HR.out
 have hu1:=hc.keep hu hrF
 have hp1 : PrT w1 u l':=by
  obtain ⟨ao,cap,e,g1,g2,g4⟩:=hp
  refine ⟨ao,cap,e,g1,g2,fun hne=>?_⟩
  obtain ⟨c,off,ha,hlt,hcc⟩:=g4 hne
  have hnc : ¬ F c:=HU.out u (by rw [Ad hu]; rfl) c (by rw [e,ha]; rfl)
  exact ⟨c,off,ha,Nat.lt_of_lt_of_le hlt hc.size,fun j hj=>⟨(World.cell?_of_block (w:=w) (hc.block c hlt hnc)).trans (hcc j hj).1,(World.cell?_of_block (w:=w) (hc.block c hlt hnc)).trans (hcc j hj).2⟩⟩
 have x0:=Ad hu1 0
 simp only [List.getElem?_toArray,List.getElem?_cons_zero] at x0
 have hA : C2 B w F d S.begun w1:=⟨F1,hL.log.1,hF1,hc⟩
 obtain ⟨ua,uc,rfl⟩:=hp1.form
 have H1:=Ab (And.intro hL (And.intro hA (And.intro hp1 (At hu1))))
 clear hop hL hA hp1 hc hp hu hu1 hF1
 by_cases hll : l.length=l'.length
 ·have hq : ((l.length : Int) == (l'.length : Int))=true:=by simp [hll]
  have HLL:=Ab hll
  clear hll
  go_wp2_with fail
  refine wp_region_held_drew (S:=fun W=>W.cell? ⟨r,0,none⟩=some (.slice ua l'.length uc)) (by kernel_rfl) (x0) (fun hHeld=>?_)
  refine Aa 0 hHeld ?_
  refine Aa 1 hHeld ?_
  refine Aa 2 hHeld ?_
  refine Aa 3 hHeld ?_
  refine Aa 4 hHeld ?_
  refine Aa 5 hHeld ?_
  refine Aa 6 hHeld ?_
  refine Aa 7 hHeld ?_
  refine Aa 9 hHeld ?_
  refine Aa 10 hHeld ?_
  refine Aa 11 hHeld ?_
  refine Aa 12 hHeld ?_
  refine Aa 13 hHeld ?_
  refine Al (i:=8) rfl (by kernel_rfl) rfl (fun K hK=>?_)
  go_simp
  refine (I2 (H1.out.1.tab.keep ((Chg.refl (fun _=>False) w1).drew) (fun h=>h) (fun h=>h))).mono ?_
  rintro e w2 ⟨rfl,rfl⟩
  refine hK.out _ _ (x0) (fun hHeld=>?_)
  clear hK K
  try simp only [Act.put,List.setIfInBounds_toArray,List.set_cons_zero,List.set_cons_succ]
  refine Aa 14 hHeld ?_
  refine Aa 15 hHeld ?_
  refine Aa 16 hHeld ?_
  refine Aa 17 hHeld ?_
  refine Aa 19 hHeld ?_
  refine Aa 20 hHeld ?_
  refine Aa 21 hHeld ?_
  refine Aa 22 hHeld ?_
  refine Al (i:=18) rfl (by kernel_rfl) rfl (fun K hK=>?_)
  go_simp
  have hal:=Iw (H1.out.1.tab.keep ((Chg.refl (fun _=>False) w1).drew) (fun h=>h) (fun h=>h)) [] (by decide) (fun p hq=>by have:=heach p hq; unfold okP at this; omega) (by omega)
  rw [N0] at hal
  refine hal.mono ?_
  rintro e w2 ⟨v2,rfl,hp2,hb2⟩
  have hb12 : Below w1.heap.size w1 w2:=(Below.refl _ w1).drew.trans hb2
  have x2:=(hb12.cell (p:=⟨r,0,none⟩) H1.out.2.2.2).trans x0
  have hp2:=hp2.pr
  have hp12:=H1.out.2.2.1.keepB (B:=0) hb12 (Nat.le_refl _)
  obtain ⟨o2,c2,rfl⟩:=hp2.form
  have hsm:=Hx w2 l l' _ _ hp2 hp12
  have HB:=Ab hb12
  clear hal hp2 hp12 hb12
  refine hK.out _ _ (x2) (fun hHeld=>?_)
  clear hK K
  try simp only [Act.put,List.setIfInBounds_toArray,List.set_cons_zero,List.set_cons_succ]
  refine Al (i:=23) rfl (by kernel_rfl) rfl (fun K hK=>?_)
  go_simp
  refine hsm.mono ?_
  rintro e w3 ⟨rfl,q3⟩
  have x3:=D1 x2 q3
  refine hK.out _ _ (x3) (fun hHeld=>?_)
  clear hK K
  try simp only [Act.put,List.setIfInBounds_toArray,List.set_cons_zero,List.set_cons_succ]
  refine Aa 24 hHeld ?_
  refine Aa 25 hHeld ?_
  refine wpAnyH_done (by kernel_rfl) ?_ _
  clear hHeld
  go_wp2
  go_ret
  exact ⟨rfl,H1.out.2.1.quiet ((C5 HB.out).then q3)⟩
 ·have hq : ((l.length : Int) == (l'.length : Int))=false:=by simp; omega
  have hd : decide (l=l')=false:=decide_eq_false (fun e=>hll (by rw [e]))
  have HD:=Ab hd
  clear hll hd
  go_wp2_with fail
  refine wp_region_held_drew (S:=fun W=>W.cell? ⟨r,0,none⟩=some (.slice ua l'.length uc)) (by kernel_rfl) (x0) (fun hHeld=>?_)
  refine Aa 0 hHeld ?_
  refine Aa 1 hHeld ?_
  refine Aa 2 hHeld ?_
  refine Aa 3 hHeld ?_
  refine Aa 4 hHeld ?_
  refine Aa 5 hHeld ?_
  refine Aa 6 hHeld ?_
  refine Aa 7 hHeld ?_
  refine Aa 9 hHeld ?_
  refine Aa 10 hHeld ?_
  refine Aa 11 hHeld ?_
  refine Aa 12 hHeld ?_
  refine Aa 13 hHeld ?_
  refine Al (i:=8) rfl (by kernel_rfl) rfl (fun K hK=>?_)
  go_simp
  refine (I2 (H1.out.1.tab.keep ((Chg.refl (fun _=>False) w1).drew) (fun h=>h) (fun h=>h))).mono ?_
  rintro e w2 ⟨rfl,rfl⟩
  refine hK.out _ _ (x0) (fun hHeld=>?_)
  clear hK K
  try simp only [Act.put,List.setIfInBounds_toArray,List.set_cons_zero,List.set_cons_succ]
  refine Aa 14 hHeld ?_
  refine Aa 15 hHeld ?_
  refine Aa 16 hHeld ?_
  refine Aj 17 hHeld ?_
  refine Aj 19 hHeld ?_
  refine Aj 20 hHeld ?_
  refine Aj 21 hHeld ?_
  refine Aj 22 hHeld ?_
  refine Aj 18 hHeld ?_
  refine Aj 23 hHeld ?_
  refine Aa 24 hHeld ?_
  refine Aa 25 hHeld ?_
  refine wpAnyH_done (by kernel_rfl) ?_ _
  clear hHeld
  go_wp2
  go_ret
  rw [HD.out]
  exact ⟨rfl,H1.out.2.1.quiet ((Chg.refl _ w1).drew)⟩
end
end Go.Proofs.YtblniomnhpedjaaGreatDoor
namespace Go.Proofs.YtblniomnhpedjaaGreatDoor
open Go.RowKit
theorem N2 {S : Dk} {L : Lw} {sure : Bool} {lp : List Af} {ps : List An} (hf : Bb lp=true) (h : Bg lp ps≠0∨ps = []) : Aq S L sure lp ps=(S,L,sure,lp,Bg lp ps):=by
 cases hr : Bc ps with
 | false=>rw [Mb hr,Hy hr]
 | true=>
  by_cases h0 : ps = []
  ·rw [M6 hr h0,ans_ok hr (by rw [h0]; exact hf)]
  ·cases hft : Bb (Ai lp ps) with
   | false=>rw [Ls hr h0 hft,Hv hr hft]
   | true=>exact (h.elim (fun h=>h (ans_ok hr hft)) h0).elim
theorem Cr.keepX {X : Nat→Prop} {w w' : World} {r : Nat} {l : List Af} (h : Cr w r l) (hc : Chg X w w') (h1 : ¬ X r) (h2 : ∀ u,w.cell? ⟨r,0,none⟩=some u→∀ q,u.ownBlock=some q→¬ X q) : Cr w' r l:=by
 obtain ⟨u,hu,ao,cap,e,g1,g2,g4⟩:=h
 refine ⟨u,hc.keep hu h1,ao,cap,e,g1,g2,fun hne=>?_⟩
 obtain ⟨c,off,ha,hlt,hcc⟩:=g4 hne
 have hnc : ¬ X c:=h2 u (by rw [Ad hu]; rfl) c (by rw [e,ha]; rfl)
 exact ⟨c,off,ha,Nat.lt_of_lt_of_le hlt hc.size,fun j hj=>⟨(World.cell?_of_block (w:=w) (hc.block c hlt hnc)).trans (hcc j hj).1,(World.cell?_of_block (w:=w) (hc.block c hlt hnc)).trans (hcc j hj).2⟩⟩
section
variable {B : Nat} {w : World} {F : Nat→Prop} {x d g t b r : Nat} {S : Dk} {L : Lw} {sure bad : Bool} {lp : List Af} {ps : List An} {v : Value} {most last : Int}
end
end Go.Proofs.YtblniomnhpedjaaGreatDoor
