/-
  TableLasts, walked: behind crashes at any operation all Commits that were answered, the one under way wholly or not at all. Conditions: what came in lies there; the table of sums holds its numbers.
-/
import Derived.Test.YtblniomnhpedjaaGreatDoorL47WCrcMath
import Derived.Test.YtblniomnhpedjaaGreatDoorL45TNames
import Derived.Deep.CutBlock
import Derived.Deep.CutRange
import Derived.Deep.LoopGhost
namespace Go.Proofs.YtblniomnhpedjaaGreatDoor
open Go.RowKit
structure LifeI (B : Nat) (w : World) (x d g t b r : Nat) (F : Nat→Prop) (S : Dk) (lp : List Af) (m : Nat) : Prop where
 world : Cn w x d t r
 mild : Cf B w F d g t b S lp m
 ref : B3 w x F g t r lp
 xo : ¬ (F x∨x=g∨x=t)
 low : B≤x
structure LifeC (B : Nat) (w : World) (x d g t r rT : Nat) (F : Nat→Prop) (S : Dk) (lp lT : List Af) (m : Nat) : Prop where
 world : Cn w x d t r
 cut : TCut B w F d S lp lT m
 ref : B3 w x F g t r lp
 refT : B3 w x F g t rT lT
def D1 (w : World) (x : Nat) (F : Nat→Prop) (g t lq : Nat) (ov : Value) (y : Ec) : Prop:=w.heap[lq]? = some (.cells #[ov, .int .i64 y.2.1, .int .i64 y.2.2.1, .int .i64 y.2.2.2] 56)∧¬ (F lq∨lq=g∨lq=t)∧lq≠x
section
variable {B : Nat} {w w' : World} {F F' : Nat→Prop} {x d g t b r rT lq : Nat} {S : Dk} {lp lT : List Af} {m : Nat} {ov : Value} {y : Ec}
theorem LifeI.quiet (h : LifeI B w x d g t b r F S lp m) (hb : Below w.heap.size w w') : LifeI B w' x d g t b r F S lp m:=⟨h.world.keep (Da hb) (fun h=>h),h.mild.quiet hb,h.ref.quiet hb,h.xo,h.low⟩
theorem LifeI.more {m' : Nat} (h : LifeI B w x d g t b r F S lp m) (hm : m≤m') : LifeI B w x d g t b r F S lp m':=⟨h.world,h.mild.more hm,h.ref,h.xo,h.low⟩
theorem LifeI.lt (h : LifeI B w x d g t b r F S lp m) : ∀ k,(F k∨k=g∨k=t)∨k=x→k<w.heap.size:=fun k hk=>by
 have hl:=h.mild.low
 rcases hk with (hk | rfl | rfl) | rfl
 ·exact (hl.1 k hk).2
 ·exact hl.2.1.2
 ·exact hl.2.2.1.2
 ·exact h.world.lt
theorem LifeI.belowC (h : LifeI B w x d g t b r F S lp m) (hc : Chg (fun k=>F k∨k=g∨k=t∨k=x) w w') (hB : B≤w.heap.size) : Below B w w':=by
 have hl:=h.mild.low
 refine hc.below (fun k hk=>?_) hB
 rcases hk with hk | rfl | rfl | rfl
 ·exact (hl.1 k hk).1
 ·exact hl.2.1.1
 ·exact hl.2.2.1.1
 ·exact h.low
theorem D1.quiet (h : D1 w x F g t lq ov y) (hb : Below w.heap.size w w') : D1 w' x F g t lq ov y:=⟨(Da hb).keep h.1 (fun h=>h),h.2⟩
theorem D1.step {X : Nat→Prop} (h : D1 w x F g t lq ov y) (hc : Chg X w w') (hX : ∀ k,X k→F k∨k=g∨k=t∨k=x) (hF : ∀ k,F' k→F k∨w.heap.size≤k) : D1 w' x F' g t lq ov y:=by
 refine ⟨hc.keep h.1 (fun e=>?_),fun e=>?_,h.2.2⟩
 ·rcases hX lq e with e | e | e | e
  ·exact h.2.1 (.inl e)
  ·exact h.2.1 (.inr (.inl e))
  ·exact h.2.1 (.inr (.inr e))
  ·exact h.2.2 e
 ·rcases e with e | e
  ·rcases hF lq e with e | e
   ·exact h.2.1 (.inl e)
   ·have:=At h.1
    omega
  ·exact h.2.1 (.inr e)
end
theorem ans_not35 (lp : List Af) (ps : List Al) : Bg lp ps≠35:=by
 unfold Bg
 split
 ·decide
 ·split <;> decide
section
variable {B : Nat} {w8 w9 : World} {F8 F9 : Nat→Prop} {x d g t r g2 t2 b2 : Nat} {S : Dk} {lp : List Af} {m : Nat}
theorem reopened (hW : Cn w8 x d t r) (hR : B3 w8 x F8 g t r lp) (hx : ¬ F8 x) (hlow : B≤x) (hM : Cf B w9 F9 d g2 t2 b2 S lp m) (hF : ∀ k,F9 k→F8 k∨w8.heap.size≤k) (ht : w8.heap.size≤t2) (hg : w8.heap.size≤g2) (hc : Chg F8 w8 w9) :
  Cn w9 x d t r∧LifeI B (w9.setCell ⟨x,1,none⟩ (.pointer (some ⟨t2,0,none⟩))) x d g2 t2 b2 r F9 S lp m:=by
 have hxl:=hW.lt
 have hW9:=hW.keep hc hx
 have k : Chg (· = x) w9 (w9.setCell ⟨x,1,none⟩ (.pointer (some ⟨t2,0,none⟩))):=(Chg.refl (· = x) w9).setCell (p:=⟨x,1,none⟩) (.inl rfl) _
 have hxo : ¬ (F9 x∨x=g2∨x=t2):=fun e=>by
  rcases e with e | e | e
  ·rcases hF x e with e | e
   ·exact hx e
   ·omega
  ·omega
  ·omega
 have hbx:=hM.apart hW9
 have hR9 : B3 w9 x F9 g2 t2 r lp:=hR.step hc (fun k h=>.inl h) (fun k h=>by
  rcases h with h | h | h
  ·exact (hF k h).imp .inl id
  ·exact .inr (by omega)
  ·exact .inr (by omega))
 exact ⟨hW9,hW9.setT t2,hM.keep k (fun k hk e=>hxo (.inl (e ▸ hk))) (fun e=>hxo (.inr (.inr e.symm))) hbx (fun e=>hxo (.inr (.inl e.symm))),hR9.step k (fun k e=>.inr (.inr (.inr e))) (fun k h=>.inl h),hxo,hlow⟩
end
set_option maxRecDepth 400000 in
set_option maxHeartbeats 16000000 in
theorem tlasts_any (w : World) (v : Value) (xs : List Ec) (hv : G3 w v xs) (hs : FineL xs) (hxl : xs.length≤140737488355328) (hB0 : 0<w.heap.size) (hT : Bk w) :
  Calls Tryz.prog 4 #[v] w fun e w'=>e = .returned (.bool true)∧Below w.heap.size w w':=by
 have HV:=Ab hv
 have HT:=Ab hT
 obtain ⟨va,vc,rfl⟩:=hv.form
 have hsh:=shown_any w hB0 hT
 clear hT hv
 go_enter Tryz.func4,Tryz.ntmps4
 go_wp2_with fail
 refine hsh.mono ?_
 rintro e w1 ⟨rfl,hb1⟩
 have hbx:=begun_new w.heap.size w1 hB0 hb1.size (HT.out.keep hb1)
 clear hsh
 go_wp2_with fail
 refine hbx.mono ?_
 rintro e w2 ⟨x,d0,t0,b0,g0,r0,F0,S0,rfl,hwx,hCx,hS0,hrx,hFx,hgx,htx,hbbx,hrs,hrx2,hxx,hb2⟩
 subst hS0
 have hB2:=hb1.trans (hb2.mono hb1.size)
 have hz1:=hb1.size
 have hXr : ∀ k,(F0 k∨k=g0∨k=t0)→k<r0:=fun k hk=>by
  rcases hk with hk | rfl | rfl
  ·exact (hFx k hk).2
  ·exact hgx.2
  ·exact htx.2
 have hrow : ∀ k,Dv w2 r0 k→k=r0:=fun k hk=>by
  rcases hk with hk | ⟨u,hu,hk⟩
  ·exact hk
  ·rw [Ad hrx] at hu
   simp only [List.getElem?_toArray,List.getElem?_cons_zero] at hu
   injection hu with hu
   subst hu
   cases hk
 have hL0 : LifeI w.heap.size w2 x d0 g0 t0 b0 r0 F0 (Dk.new De).begun [] 1:=⟨⟨false,0,0,hwx,by omega,by omega⟩,begun_mild hCx,⟨rtab_none hrx,fun k hk=>by
  have:=hrow k hk
  subst this
  exact ⟨by omega,fun e=>by have:=hXr k e; omega,by omega⟩⟩,fun e=>by have:=hXr x e; omega,by omega⟩
 have HW:=Ab (And.intro hL0 hB2)
 clear hbx hb1 hb2 hwx hCx hrx hFx hXr hrow hL0 hB2
 go_wp2_with fail
 go_loopg [6] 8 (fun gh i wr=>∃ (j d g t b r : Nat) (F : Nat→Prop) (S : Dk) (lp : List Af),gh=8 - j∧i = .int .i64 (j : Int)∧j≤xs.length∧j≤8∧LifeI w.heap.size wr x d g t b r F S lp (1+j * 33000010)∧Below w.heap.size w wr)
 case atStart=>exact ⟨0,d0,g0,t0,b0,r0,F0,_,[],rfl,rfl,by omega,by omega,HW.out.1.more (by omega),HW.out.2⟩
 case round=>
  clear HW
  obtain ⟨j,d,g,t,b,r,F,S,lp,rfl,rfl,j1,j2,hI,bb⟩:=hrel
  by_cases hlt : j<xs.length∧j<8
  ·obtain ⟨j3,j4⟩:=hlt
   obtain ⟨lb,loff,ov,rfl,hov,c0,c1,c2,c3⟩:=HV.out.at bb j3
   obtain ⟨hsm,hcl,hct⟩:=hs xs[j] (List.getElem_mem j3)
   generalize xs[j]=y at hov c0 c1 c2 c3 hsm hcl hct
   obtain ⟨calls,cut,keep,Ch⟩:=y
   dsimp only at hov c0 c1 c2 c3 hsm hcl hct
   have HOV:=Ab hov
   obtain ⟨ua,uc,rfl⟩:=hov.form
   have hbA : Below wr.heap.size wr (wr.alloc (.cells #[.slice ua calls.length uc, .int .i64 cut, .int .i64 keep, .int .i64 Ch] 56)):=(Below.refl _ wr).alloc (Nat.le_refl _) _
   have hqA:=Aq wr (.cells #[.slice ua calls.length uc, .int .i64 cut, .int .i64 keep, .int .i64 Ch] 56)
   have hIA:=hI.quiet hbA
   have hbbA:=bb.trans (hbA.mono bb.size)
   have hoffA : ¬ (F wr.heap.size∨wr.heap.size=g∨wr.heap.size=t)∧wr.heap.size≠x:=by
    have hl:=hI.lt
    exact ⟨fun e=>by have:=hl _ (.inl e); omega,fun e=>by have:=hl x (.inr rfl); omega⟩
   clear hI hbA bb hov
   go_wp2_with fail
   generalize hwA : wr.alloc (.cells #[.slice ua calls.length uc, .int .i64 cut, .int .i64 keep, .int .i64 Ch] 56)=wA at *
   generalize hlq : wr.heap.size=lq at *
   clear hwA hlq c0 c1 c2 c3
   have hdr : Below wA.heap.size wA wA.drew:=(Below.refl _ wA).drew
   have hId:=hIA.quiet hdr
   have hbd : Below w.heap.size w wA.drew:=hbbA.drew
   have q1 : wA.drew.cell? ⟨lq,1,none⟩=some (.int .i64 cut):=Ad (show wA.drew.heap[lq]? = _ from hqA) 1
   obtain ⟨⟨x0,-,-⟩,-⟩:=hId.world.cells
   have hqd : D1 wA.drew x F g t lq (.slice ua calls.length uc) (calls,cut,keep,Ch):=⟨hqA,hoffA⟩
   have hops:=Jg hId.mild.stands.1
   have hpk:=fun W=>pick_big W cut 60 hct (by omega)
   obtain ⟨op,hop⟩ : ∃ op,IntKind.i64.wrap ((S.n : Int)+pk cut 60)=op:=⟨_,rfl⟩
   have hcut:=cut_tmild hId.mild op hbd.size
   refine wp_region_held_drew (S:=fun W=>W.cell? ⟨x,0,none⟩=some (.pointer (some ⟨d,0,none⟩))∧W.cell? ⟨lq,1,none⟩=some (.int .i64 cut)) (by kernel_rfl) (⟨x0,q1⟩) (fun hHeld=>?_)
   refine Aa (i:=0) (v:=?_) rfl (by kernel_rfl) (by kernel_rfl) (by kernel_rfl) (fun _ _ _ h=>h) rfl ?_ hHeld ?_
   rotate_left
   ·intro w hS; (try dsimp only at hS); obtain ⟨hS0,hS1⟩:=hS; go_simp; first | done | (with_reducible rfl)
   try simp only [Act.put,List.setIfInBounds_toArray,List.set_cons_zero,List.set_cons_succ]
   refine Aa (i:=1) (v:=?_) rfl (by kernel_rfl) (by kernel_rfl) (by kernel_rfl) (fun _ _ _ h=>h) rfl ?_ hHeld ?_
   rotate_left
   ·intro w hS; (try dsimp only at hS); obtain ⟨hS0,hS1⟩:=hS; go_simp; first | done | (with_reducible rfl)
   try simp only [Act.put,List.setIfInBounds_toArray,List.set_cons_zero,List.set_cons_succ]
   refine Aa (i:=2) (v:=?_) rfl (by kernel_rfl) (by kernel_rfl) (by kernel_rfl) (fun _ _ _ h=>h) rfl ?_ hHeld ?_
   rotate_left
   ·intro w hS; (try dsimp only at hS); obtain ⟨hS0,hS1⟩:=hS; go_simp; first | done | (with_reducible rfl)
   try simp only [Act.put,List.setIfInBounds_toArray,List.set_cons_zero,List.set_cons_succ]
   refine Aa (i:=3) (v:=?_) rfl (by kernel_rfl) (by kernel_rfl) (by kernel_rfl) (fun _ _ _ h=>h) rfl ?_ hHeld ?_
   rotate_left
   ·intro w hS; (try dsimp only at hS); obtain ⟨hS0,hS1⟩:=hS; go_simp; first | done | (with_reducible rfl)
   try simp only [Act.put,List.setIfInBounds_toArray,List.set_cons_zero,List.set_cons_succ]
   refine Aa (i:=4) (v:=?_) rfl (by kernel_rfl) (by kernel_rfl) (by kernel_rfl) (fun _ _ _ h=>h) rfl ?_ hHeld ?_
   rotate_left
   ·intro w hS; (try dsimp only at hS); obtain ⟨hS0,hS1⟩:=hS; go_simp; first | done | (with_reducible rfl)
   try simp only [Act.put,List.setIfInBounds_toArray,List.set_cons_zero,List.set_cons_succ]
   refine Aa (i:=5) (v:=?_) rfl (by kernel_rfl) (by kernel_rfl) (by kernel_rfl) (fun _ _ _ h=>h) rfl ?_ hHeld ?_
   rotate_left
   ·intro w hS; (try dsimp only at hS); obtain ⟨hS0,hS1⟩:=hS; go_simp; first | done | (with_reducible rfl)
   try simp only [Act.put,List.setIfInBounds_toArray,List.set_cons_zero,List.set_cons_succ]
   refine Aa (i:=6) (v:=?_) rfl (by kernel_rfl) (by kernel_rfl) (by kernel_rfl) (fun _ _ _ h=>h) rfl ?_ hHeld ?_
   rotate_left
   ·intro w hS; (try dsimp only at hS); obtain ⟨hS0,hS1⟩:=hS; go_simp; first | done | (with_reducible rfl)
   try simp only [Act.put,List.setIfInBounds_toArray,List.set_cons_zero,List.set_cons_succ]
   refine Aa (i:=7) (v:=?_) rfl (by kernel_rfl) (by kernel_rfl) (by kernel_rfl) (fun _ _ _ h=>h) rfl ?_ hHeld ?_
   rotate_left
   ·intro w hS; (try dsimp only at hS); obtain ⟨hS0,hS1⟩:=hS; go_simp; first | done | (with_reducible rfl)
   try simp only [Act.put,List.setIfInBounds_toArray,List.set_cons_zero,List.set_cons_succ]
   refine Aa (i:=9) (v:=?_) rfl (by kernel_rfl) (by kernel_rfl) (by kernel_rfl) (fun _ _ _ h=>h) rfl ?_ hHeld ?_
   rotate_left
   ·intro w hS; (try dsimp only at hS); obtain ⟨hS0,hS1⟩:=hS; go_simp; first | done | (with_reducible rfl)
   try simp only [Act.put,List.setIfInBounds_toArray,List.set_cons_zero,List.set_cons_succ]
   refine Aa (i:=10) (v:=?_) rfl (by kernel_rfl) (by kernel_rfl) (by kernel_rfl) (fun _ _ _ h=>h) rfl ?_ hHeld ?_
   rotate_left
   ·intro w hS; (try dsimp only at hS); obtain ⟨hS0,hS1⟩:=hS; go_simp; first | done | (with_reducible rfl)
   try simp only [Act.put,List.setIfInBounds_toArray,List.set_cons_zero,List.set_cons_succ]
   refine An (i:=8) rfl (by kernel_rfl) rfl (fun K hK=>?_)
   go_simp
   refine hops.mono ?_
   rintro e w3 ⟨rfl,hw3⟩
   rw [hw3]
   clear hw3 w3
   refine hK.out _ _ (⟨x0,q1⟩) (fun hHeld=>?_)
   clear hK K
   try simp only [Act.put,List.setIfInBounds_toArray,List.set_cons_zero,List.set_cons_succ]
   refine An (i:=11) rfl (by kernel_rfl) rfl (fun K hK=>?_)
   go_simp
   refine (hpk _).mono ?_
   rintro e w3 ⟨rfl,hw3⟩
   rw [hw3]
   clear hw3 w3
   refine hK.out _ _ (⟨x0,q1⟩) (fun hHeld=>?_)
   clear hK K
   try simp only [Act.put,List.setIfInBounds_toArray,List.set_cons_zero,List.set_cons_succ]
   refine Aa (i:=12) (v:=?_) rfl (by kernel_rfl) (by kernel_rfl) (by kernel_rfl) (fun _ _ _ h=>h) rfl ?_ hHeld ?_
   rotate_left
   ·intro w hS; (try dsimp only at hS); obtain ⟨hS0,hS1⟩:=hS; go_simp; first | done | (with_reducible rfl)
   try simp only [Act.put,List.setIfInBounds_toArray,List.set_cons_zero,List.set_cons_succ]
   refine An (i:=13) rfl (by kernel_rfl) rfl (fun K hK=>?_)
   go_simp
   refine hcut.mono ?_
   rintro e w4 ⟨rfl,F4,hM4,hF4,hc4⟩
   have hq4 : D1 w4 x F4 g t lq (.slice ua calls.length uc) (calls,cut,keep,Ch):=hqd.step hc4 (fun k h=>.inl h) hF4
   have hW4:=hId.world.keep hc4 (fun h=>hId.xo (.inl h))
   have hR4 : B3 w4 x F4 g t r lp:=hId.ref.step hc4 (fun k h=>.inl h) (fun k h=>by
    rcases h with h | h
    ·exact (hF4 k h).imp .inl id
    ·exact .inl (.inr h))
   have hxo4 : ¬ (F4 x∨x=g∨x=t):=fun e=>by
    rcases e with e | e
    ·rcases hF4 x e with e | e
     ·exact hId.xo (.inl e)
     ·have:=hId.world.lt
      omega
    ·exact hId.xo (.inr e)
   have hI4 : LifeI w.heap.size w4 x d g t b r F4 (S.cutAt op) lp (1+j * 33000010):=⟨hW4,hM4,hR4,hxo4,hId.low⟩
   have hb4 : Below w.heap.size w w4:=hbd.trans (hc4.below (fun k hk=>(hId.mild.low.1 k hk).1) hbd.size)
   obtain ⟨⟨x04,-,x24⟩,-⟩:=hI4.world.cells
   refine hK.out _ _ (⟨x04,Ad hq4.1 1⟩) (fun hHeld=>?_)
   clear hK K
   try simp only [Act.put,List.setIfInBounds_toArray,List.set_cons_zero,List.set_cons_succ]
   refine wpAnyH_done (by kernel_rfl) ?_ _
   clear hHeld hops hpk hcut x0 q1 hop hId hIA hqA hoffA hbbA hdr hqd hM4 hW4 hR4 hxo4 hc4 hF4 x04
   generalize S.cutAt op=S4 at *
   have H4:=Ab (And.intro hI4 (And.intro hq4 hb4))
   clear hI4 hq4 hb4 hbd
   go_upto_block 2 with fail
   go_cut [8] from 30 to 157 (fun th wx=>∃ (r rT : Nat) (F : Nat→Prop) (S : Dk) (lp lT : List Af),th = .pointer (some ⟨rT,0,none⟩)∧LifeC w.heap.size wx x d g t r rT F S lp lT (1+j * 33000010+33000000)∧D1 wx x F g t lq (.slice ua calls.length uc) (calls,cut,keep,Ch)∧¬ (F x∨x=g∨x=t)∧w.heap.size≤x∧Below w.heap.size w wx)
   case first=>
    as_aux_lemma=>
     go_wp2_with fail
     go_loopw [8,9] (fun th kk wr=>∃ (k b r rT : Nat) (F : Nat→Prop) (S : Dk) (lp lT : List Af),th = .pointer (some ⟨rT,0,none⟩)∧kk = .int .i64 (k : Int)∧k≤calls.length∧k≤15∧LifeI w.heap.size wr x d g t b r F S lp (1+j * 33000010+k * 2200000)∧B3 wr x F g t rT lT∧D1 wr x F g t lq (.slice ua calls.length uc) (calls,cut,keep,Ch)∧Below w.heap.size w wr)
      (fun _ tk _=>15 - (intOf tk).toNat)
     case atStart=>exact ⟨0,b,r,r,F4,S4,lp,lp,rfl,rfl,by omega,by omega,H4.out.1.more (by omega),H4.out.1.ref,H4.out.2.1,H4.out.2.2⟩
     case round=>
      clear H4 x24
      obtain ⟨k,b,r,rT,F,S,lp,lT,rfl,rfl,k1,k2,hI,hRT,hq,bb⟩:=hrel
      have HC:=Ab (And.intro hI (And.intro hRT (And.intro hq bb)))
      have q0 : wr.cell? ⟨lq,0,none⟩=some (.slice ua calls.length uc):=Ad hq.1 0
      by_cases hlt2 : k<calls.length∧k<15
      ·obtain ⟨k3,k4⟩:=hlt2
       obtain ⟨cb,coff,pv,rfl,hpv,e0,e1,e2,e3,e4⟩:=HOV.out.at bb k3
       have hfo:=hsm calls[k] (List.getElem_mem k3)
       generalize calls[k]=o at hpv e0 e1 e2 e3 e4 hfo
       have hpu:=lputs_any wr o.1 o.2.2.2.1 o.2.2.2.2 o.2.2.1 pv o.2.1 hpv hfo.2.1 hfo.2.2
       obtain ⟨pa,pc,rfl⟩:=hpv.form
       have hlt0:=hI.lt
       clear hI hRT hq bb hpv
       go_wp2_with fail
       refine hpu.mono ?_
       rintro e w3 ⟨u,ps,rfl,hps,hpl,hpb,hpo,hb3⟩
       have hI3:=HC.out.1.quiet hb3
       have hq3:=HC.out.2.2.1.quiet hb3
       have hB3:=HC.out.2.2.2.trans (hb3.mono HC.out.2.2.2.size)
       obtain ⟨hst,hbk,hri,hfit⟩:=hI3.mild.stands
       have hrc:=Nj w3 r lp ps u hI3.ref.1 hri hfit hps (by omega)
       obtain ⟨⟨-,-,x2⟩,-⟩:=hI3.world.cells
       obtain ⟨ua2,uc2,rfl⟩:=hps.form
       have hvo : ∀ k,(Value.slice ua2 ps.length uc2).ownBlock=some k→¬ (F k∨k=g∨k=t)∧k≠x:=fun k hk=>by
        have h1:=hpo k hk
        exact ⟨fun e=>by have:=hlt0 k (.inl e); omega,fun e=>by have:=hlt0 k (.inr e); omega⟩
       have H3:=Ab (And.intro hI3 (And.intro hq3 (And.intro hB3 (And.intro hps hvo))))
       clear hpu hb3 hI3 hq3 hB3 hst hbk hri hfit hps hpb hpo hvo hfo e0 e1 e2 e3 e4 hlt0 q0
       go_wp2_with fail
       refine hrc.mono ?_
       rintro e w4 ⟨r',rfl,hR',hrr,hb4,hown⟩
       have hI4:=H3.out.1.quiet hb4
       have hB4:=H3.out.2.2.1.trans (hb4.mono H3.out.2.2.1.size)
       have hRn : B3 w4 x F g t r' (Bw lp ps):=H3.out.1.ref.next H3.out.1.lt hR' hrr hb4.size hown
       have hq4:=H3.out.2.1.quiet hb4
       have hly:=laylaw_mild hI4.world hI4.mild hI4.ref hI4.xo (H3.out.2.2.2.1.keepB hb4) (by omega) H3.out.2.2.2.2 hB0 (HT.out.keep hB4) (by omega)
       have H4:=Ab (And.intro hI4 (And.intro hRn (And.intro hq4 hB4)))
       clear hrc hR' hrr hb4 hown hI4 hRn hq4 hB4 x2
       go_wp2_with fail
       refine hly.mono ?_
       rintro e w5 ⟨A,rfl,hW5,F5,b5,S5,hA,hF5,hc5⟩
       have hFF : ∀ k,F5 k∨k=g∨k=t→(F k∨k=g∨k=t)∨w4.heap.size≤k:=fun k h=>by
        rcases h with h | h
        ·exact (hF5 k h).imp .inl id
        ·exact .inl (.inr h)
       have hRn5 : B3 w5 x F5 g t r' (Bw lp ps):=H4.out.2.1.step hc5 (fun k h=>h) hFF
       have hRo5 : B3 w5 x F5 g t r lp:=H4.out.1.ref.step hc5 (fun k h=>h) hFF
       have hq5:=H4.out.2.2.1.step hc5 (fun k h=>h) hF5
       have hxo5 : ¬ (F5 x∨x=g∨x=t):=fun e=>by
        rcases hFF x e with e | e
        ·exact H4.out.1.xo e
        ·have:=H4.out.1.world.lt
         omega
       have hB5 : Below w.heap.size w w5:=H4.out.2.2.2.trans (H4.out.1.belowC hc5 H4.out.2.2.2.size)
       have hlow:=H4.out.1.low
       have h35:=ans_not35 lp ps
       have hno:=Fd (lp:=lp) (ps:=ps)
       clear hly hFF hF5 hc5
       rcases hA with ⟨hA,hM5⟩ | ⟨rfl,hC5⟩
       ·rw [← hA] at h35 hno
        clear hA
        by_cases hA0 : A=0
        ·subst hA0
         have k6 : Chg (· = x) w5 (w5.setCell ⟨x,2,none⟩ (.pointer (some ⟨r',0,none⟩))):=(Chg.refl (· = x) w5).setCell (p:=⟨x,2,none⟩) (.inl rfl) _
         have hbx:=hM5.apart hW5
         have hI6 : LifeI w.heap.size (w5.setCell ⟨x,2,none⟩ (.pointer (some ⟨r',0,none⟩))) x d g t b5 r' F5 S5 (Bw lp ps) (1+j * 33000010+(k+1) * 2200000):=
          ⟨hW5.setR r',(hM5.keep k6 (fun k hk e=>hxo5 (.inl (e ▸ hk))) (fun e=>hxo5 (.inr (.inr e.symm))) hbx (fun e=>hxo5 (.inr (.inl e.symm)))).more (by omega),hRn5.step k6 (fun k e=>.inr (.inr (.inr e))) (fun k h=>.inl h),hxo5,hlow⟩
         have hRn6 : B3 (w5.setCell ⟨x,2,none⟩ (.pointer (some ⟨r',0,none⟩))) x F5 g t r' (Bw lp ps):=hRn5.step k6 (fun k e=>.inr (.inr (.inr e))) (fun k h=>.inl h)
         have hq6:=hq5.step (F':=F5) k6 (fun k e=>.inr (.inr (.inr e))) (fun k h=>.inl h)
         have hB6:=hB5.setCell (p:=⟨x,2,none⟩) hlow (.pointer (some ⟨r',0,none⟩))
         obtain ⟨⟨-,-,y2⟩,-,-,z2⟩:=hW5.cells
         have H6:=Ab (And.intro hI6 (And.intro hRn6 (And.intro hq6 hB6)))
         clear hI6 hRn6 hq6 hB6 k6 hbx hM5 hRn5 hRo5 hq5 hxo5 hB5 hlow hW5 h35 hno
         go_wp2_with fail
         go_roundw
         case rel=>exact ⟨k+1,b5,r',r',F5,S5,_,_,rfl,by go_num,by omega,by omega,H6.out.1,H6.out.2.1,H6.out.2.2.1,H6.out.2.2.2⟩
         case measure=>simp [intOf]; omega
        ·have hnx:=hno hA0
         rw [hnx] at hM5
         have g35 : (A == 35)=false:=by simp [h35]
         have g0 : (A == 0)=false:=by simp [hA0]
         have H6:=Ab (show LifeI w.heap.size w5 x d g t b5 r F5 S5 lp (1+j * 33000010+(k+1) * 2200000)∧B3 w5 x F5 g t r' (Bw lp ps)∧D1 w5 x F5 g t lq (.slice (some ⟨cb,coff,none⟩) calls.length uc) (calls,cut,keep,Ch)∧Below w.heap.size w w5 from
          ⟨⟨hW5,hM5.more (by omega),hRo5,hxo5,hlow⟩,hRn5,hq5,hB5⟩)
         clear hnx hM5 hRn5 hRo5 hq5 hxo5 hB5 hlow hW5 h35 hno hA0
         go_wp2_with fail
         go_roundw
         case rel=>exact ⟨k+1,b5,r,r',F5,S5,_,_,rfl,by go_num,by omega,by omega,H6.out.1,H6.out.2.1,H6.out.2.2.1,H6.out.2.2.2⟩
         case measure=>simp [intOf]; omega
       ·have H6:=Ab (show LifeC w.heap.size w5 x d g t r r' F5 S5 lp (Bw lp ps) (1+j * 33000010+33000000)∧D1 w5 x F5 g t lq (.slice (some ⟨cb,coff,none⟩) calls.length uc) (calls,cut,keep,Ch)∧¬ (F5 x∨x=g∨x=t)∧w.heap.size≤x∧Below w.heap.size w w5 from
         ⟨⟨hW5,hC5.more (by omega),hRo5,hRn5⟩,hq5,hxo5,hlow,hB5⟩)
        clear hC5 hRn5 hRo5 hq5 hxo5 hB5 hlow hW5 h35 hno
        go_wp2
        go_meet
        exact ⟨r,r',F5,S5,lp,_,rfl,H6.out⟩
      ·clear hI hRT hq bb
       have hlt3 : ¬ (k : Int)<(calls.length : Int)∨(k : Int)<(calls.length : Int)∧¬ (k : Int)<15:=by omega
       have hfin : LifeC w.heap.size wr x d g t r rT F S lp lT (1+j * 33000010+33000000):=⟨HC.out.1.world,HC.out.1.mild.cut lT (by omega),HC.out.1.ref,HC.out.2.1⟩
       have HF:=Ab hfin
       clear hfin
       rcases hlt3 with hl | ⟨hl,hl2⟩
       ·go_wp2
        go_meet
        exact ⟨r,rT,F,S,lp,lT,rfl,HF.out,HC.out.2.2.1,HC.out.1.xo,HC.out.1.low,HC.out.2.2.2⟩
       ·go_wp2
        go_meet
        exact ⟨r,rT,F,S,lp,lT,rfl,HF.out,HC.out.2.2.1,HC.out.1.xo,HC.out.1.low,HC.out.2.2.2⟩
   case rest=>
    as_aux_lemma=>
     clear H4 x24
     obtain ⟨r,rT,F5,S5,lp,lT,hth,hC,hq,hxo,hlow,bb⟩:=hcut
     replace hth:=hth.symm
     subst hth
     have hdr : Below wc.heap.size wc wc.drew:=(Below.refl _ wc).drew
     have hdc : Chg (fun _=>False) wc wc.drew:=Da hdr
     have hqd:=hq.quiet hdr
     have hWd:=hC.world.keep hdc (fun h=>h)
     have hCd:=hC.cut.keep hdc (fun _ _ h=>h)
     have hR1:=hC.ref.quiet hdr
     have hR2:=hC.refT.quiet hdr
     have hbd : Below w.heap.size w wc.drew:=bb.drew
     have q2 : wc.drew.cell? ⟨lq,2,none⟩=some (.int .i64 keep):=Ad hqd.1 2
     have q3 : wc.drew.cell? ⟨lq,3,none⟩=some (.int .i64 Ch):=Ad hqd.1 3
     obtain ⟨⟨x0,-,-⟩,-⟩:=hWd.cells
     have hcr:=crash_cut hCd hbd.size (by omega) keep Ch
     have hxl:=hWd.lt
     have HH:=Ab (And.intro hqd (And.intro hWd (And.intro hR1 (And.intro hR2 (And.intro hbd hxo)))))
     clear hqd hWd hCd hR1 hR2 hbd hxo hq hC bb hdr hdc
     go_wp2_with fail
     refine wp_region_held_drew (S:=fun W=>W.cell? ⟨lq,2,none⟩=some (.int .i64 keep)∧W.cell? ⟨lq,3,none⟩=some (.int .i64 Ch)) (by kernel_rfl) (⟨q2,q3⟩) (fun hHeld=>?_)
     refine Aa (i:=0) (v:=?_) rfl (by kernel_rfl) (by kernel_rfl) (by kernel_rfl) (fun _ _ _ h=>h) rfl ?_ hHeld ?_
     rotate_left
     ·intro w hS; (try dsimp only at hS); obtain ⟨hS0,hS1⟩:=hS; go_simp; first | done | (with_reducible rfl)
     try simp only [Act.put,List.setIfInBounds_toArray,List.set_cons_zero,List.set_cons_succ]
     refine Aa (i:=1) (v:=?_) rfl (by kernel_rfl) (by kernel_rfl) (by kernel_rfl) (fun _ _ _ h=>h) rfl ?_ hHeld ?_
     rotate_left
     ·intro w hS; (try dsimp only at hS); obtain ⟨hS0,hS1⟩:=hS; go_simp; first | done | (with_reducible rfl)
     try simp only [Act.put,List.setIfInBounds_toArray,List.set_cons_zero,List.set_cons_succ]
     refine Aa (i:=2) (v:=?_) rfl (by kernel_rfl) (by kernel_rfl) (by kernel_rfl) (fun _ _ _ h=>h) rfl ?_ hHeld ?_
     rotate_left
     ·intro w hS; (try dsimp only at hS); obtain ⟨hS0,hS1⟩:=hS; go_simp; first | done | (with_reducible rfl)
     try simp only [Act.put,List.setIfInBounds_toArray,List.set_cons_zero,List.set_cons_succ]
     refine Aa (i:=3) (v:=?_) rfl (by kernel_rfl) (by kernel_rfl) (by kernel_rfl) (fun _ _ _ h=>h) rfl ?_ hHeld ?_
     rotate_left
     ·intro w hS; (try dsimp only at hS); obtain ⟨hS0,hS1⟩:=hS; go_simp; first | done | (with_reducible rfl)
     try simp only [Act.put,List.setIfInBounds_toArray,List.set_cons_zero,List.set_cons_succ]
     refine Aa (i:=5) (v:=?_) rfl (by kernel_rfl) (by kernel_rfl) (by kernel_rfl) (fun _ _ _ h=>h) rfl ?_ hHeld ?_
     rotate_left
     ·intro w hS; (try dsimp only at hS); obtain ⟨hS0,hS1⟩:=hS; go_simp; first | done | (with_reducible rfl)
     try simp only [Act.put,List.setIfInBounds_toArray,List.set_cons_zero,List.set_cons_succ]
     refine Aa (i:=6) (v:=?_) rfl (by kernel_rfl) (by kernel_rfl) (by kernel_rfl) (fun _ _ _ h=>h) rfl ?_ hHeld ?_
     rotate_left
     ·intro w hS; (try dsimp only at hS); obtain ⟨hS0,hS1⟩:=hS; go_simp; first | done | (with_reducible rfl)
     try simp only [Act.put,List.setIfInBounds_toArray,List.set_cons_zero,List.set_cons_succ]
     refine Aa (i:=7) (v:=?_) rfl (by kernel_rfl) (by kernel_rfl) (by kernel_rfl) (fun _ _ _ h=>h) rfl ?_ hHeld ?_
     rotate_left
     ·intro w hS; (try dsimp only at hS); obtain ⟨hS0,hS1⟩:=hS; go_simp; first | done | (with_reducible rfl)
     try simp only [Act.put,List.setIfInBounds_toArray,List.set_cons_zero,List.set_cons_succ]
     refine Aa (i:=8) (v:=?_) rfl (by kernel_rfl) (by kernel_rfl) (by kernel_rfl) (fun _ _ _ h=>h) rfl ?_ hHeld ?_
     rotate_left
     ·intro w hS; (try dsimp only at hS); obtain ⟨hS0,hS1⟩:=hS; go_simp; first | done | (with_reducible rfl)
     try simp only [Act.put,List.setIfInBounds_toArray,List.set_cons_zero,List.set_cons_succ]
     refine An (i:=4) rfl (by kernel_rfl) rfl (fun K hK=>?_)
     go_simp
     refine hK.out _ _ (⟨q2,q3⟩) (fun hHeld=>?_)
     clear hK K
     try simp only [Act.put,List.setIfInBounds_toArray,List.set_cons_zero,List.set_cons_succ]
     refine An (i:=9) rfl (by kernel_rfl) rfl (fun K hK=>?_)
     go_simp
     refine hcr.mono ?_
     rintro e w6 ⟨d2,F6,S6,lq6,rfl,hD6,hlq6,hF6,hc6⟩
     have hq6:=hc6.keep HH.out.1.1 (fun h=>h)
     have hW6:=HH.out.2.1.keep hc6 (fun h=>h)
     refine hK.out _ _ (⟨Ad hq6 2,Ad hq6 3⟩) (fun hHeld=>?_)
     clear hK K
     try simp only [Act.put,List.setIfInBounds_toArray,List.set_cons_zero,List.set_cons_succ]
     refine Aa (i:=10) (v:=?_) rfl (by kernel_rfl) (by kernel_rfl) (by kernel_rfl) (fun _ _ _ h=>h) rfl ?_ hHeld ?_
     rotate_left
     ·intro w hS; (try dsimp only at hS); obtain ⟨hS0,hS1⟩:=hS; go_simp; first | done | (with_reducible rfl)
     try simp only [Act.put,List.setIfInBounds_toArray,List.set_cons_zero,List.set_cons_succ]
     refine Aa (i:=11) (v:=?_) rfl (by kernel_rfl) (by kernel_rfl) (by kernel_rfl) (fun _ _ _ h=>h) rfl ?_ hHeld ?_
     rotate_left
     ·intro w hS; (try dsimp only at hS); obtain ⟨hS0,hS1⟩:=hS; go_simp; first | done | (with_reducible rfl)
     try simp only [Act.put,List.setIfInBounds_toArray,List.set_cons_zero,List.set_cons_succ]
     obtain ⟨⟨y0,-,-⟩,y1,-⟩:=hW6.cells
     have hg7 : Chg (· = x) w6 (w6.setCell ⟨x,0,none⟩ (.pointer (some ⟨d2,0,none⟩))):=(Chg.refl (· = x) w6).setCell (p:=⟨x,0,none⟩) (.inl rfl) _
     have hq7:=hg7.keep hq6 (fun e=>HH.out.1.2.2 e)
     refine An (i:=12) rfl (by kernel_rfl) rfl (fun K hK=>?_)
     go_simp
     refine hK.out _ _ (⟨Ad hq7 2,Ad hq7 3⟩) (fun hHeld=>?_)
     clear hK K
     try simp only [Act.put,List.setIfInBounds_toArray,List.set_cons_zero,List.set_cons_succ]
     refine wpAnyH_done (by kernel_rfl) ?_ _
     clear hHeld q2 q3 x0 y0 y1 hcr hq6 hq7
     have hF6' : ∀ k,F6 k∨k=g∨k=t→(F5 k∨k=g∨k=t)∨wc.drew.heap.size≤k:=fun k h=>h.elim (fun h=>.inr (hF6 k h)) (fun h=>.inl (.inr h))
     have hR7 : B3 (w6.setCell ⟨x,0,none⟩ (.pointer (some ⟨d2,0,none⟩))) x F6 g t r lp:=(HH.out.2.2.1.step hc6 (fun k h=>h.elim) hF6').step hg7 (fun k e=>.inr (.inr (.inr e))) (fun k h=>.inl h)
     have hT7 : B3 (w6.setCell ⟨x,0,none⟩ (.pointer (some ⟨d2,0,none⟩))) x F6 g t rT lT:=(HH.out.2.2.2.1.step hc6 (fun k h=>h.elim) hF6').step hg7 (fun k e=>.inr (.inr (.inr e))) (fun k h=>.inl h)
     have hxF6 : ¬ F6 x:=fun e=>by
      have:=hF6 x e
      have e2 : wc.drew.heap.size=wc.heap.size:=rfl
      omega
     have hD7:=hD6.keep hg7 (fun k hk e=>hxF6 (e ▸ hk))
     have hW7:=hW6.setD d2
     have hb6 : Below w.heap.size w w6:=HH.out.2.2.2.2.1.trans (hc6.below (fun _ h=>h.elim) HH.out.2.2.2.2.1.size)
     have hb7:=hb6.setCell (p:=⟨x,0,none⟩) hlow (.pointer (some ⟨d2,0,none⟩))
     clear hD6 hW6 hg7 hb6 hc6 HH hF6' hF6
     generalize w6.setCell ⟨x,0,none⟩ (.pointer (some ⟨d2,0,none⟩))=w7 at *
     have hdr : Below w7.heap.size w7 w7.drew:=(Below.refl _ w7).drew
     have hdc : Chg (fun _=>False) w7 w7.drew:=Da hdr
     have hbd7 : Below w.heap.size w w7.drew:=hb7.drew
     have hWd:=hW7.keep hdc (fun h=>h)
     have hTd:=hT7.quiet hdr
     have hRd:=hR7.quiet hdr
     have hDd:=hD7.keep hdc (fun _ _ h=>h)
     have htd:=told_dead hDd hbd7.size hB0 (HT.out.keep hbd7) (by omega) hRd
     obtain ⟨⟨x0,-,x2⟩,-⟩:=hWd.cells
     obtain ⟨dq,hdq⟩ : ∃ dq,decide (lq6=lp)=dq:=⟨_,rfl⟩
     rw [hdq] at htd
     have H7:=Ab (And.intro hWd (And.intro hTd (And.intro hRd (And.intro hDd (And.intro hbd7 (And.intro hdq hlq6))))))
     clear hWd hTd hRd hDd hbd7 hdr hdc hR7 hT7 hD7 hW7 hb7 hdq hlq6
     go_wp2_with fail
     refine wp_region_held_drew (S:=fun W=>W.cell? ⟨x,0,none⟩=some (.pointer (some ⟨d2,0,none⟩))∧W.cell? ⟨x,2,none⟩=some (.pointer (some ⟨r,0,none⟩))) (by kernel_rfl) (⟨x0,x2⟩) (fun hHeld=>?_)
     refine Aa (i:=0) (v:=?_) rfl (by kernel_rfl) (by kernel_rfl) (by kernel_rfl) (fun _ _ _ h=>h) rfl ?_ hHeld ?_
     rotate_left
     ·intro w hS; (try dsimp only at hS); obtain ⟨hS0,hS1⟩:=hS; go_simp; first | done | (with_reducible rfl)
     try simp only [Act.put,List.setIfInBounds_toArray,List.set_cons_zero,List.set_cons_succ]
     refine Aa (i:=1) (v:=?_) rfl (by kernel_rfl) (by kernel_rfl) (by kernel_rfl) (fun _ _ _ h=>h) rfl ?_ hHeld ?_
     rotate_left
     ·intro w hS; (try dsimp only at hS); obtain ⟨hS0,hS1⟩:=hS; go_simp; first | done | (with_reducible rfl)
     try simp only [Act.put,List.setIfInBounds_toArray,List.set_cons_zero,List.set_cons_succ]
     refine Aa (i:=2) (v:=?_) rfl (by kernel_rfl) (by kernel_rfl) (by kernel_rfl) (fun _ _ _ h=>h) rfl ?_ hHeld ?_
     rotate_left
     ·intro w hS; (try dsimp only at hS); obtain ⟨hS0,hS1⟩:=hS; go_simp; first | done | (with_reducible rfl)
     try simp only [Act.put,List.setIfInBounds_toArray,List.set_cons_zero,List.set_cons_succ]
     refine Aa (i:=3) (v:=?_) rfl (by kernel_rfl) (by kernel_rfl) (by kernel_rfl) (fun _ _ _ h=>h) rfl ?_ hHeld ?_
     rotate_left
     ·intro w hS; (try dsimp only at hS); obtain ⟨hS0,hS1⟩:=hS; go_simp; first | done | (with_reducible rfl)
     try simp only [Act.put,List.setIfInBounds_toArray,List.set_cons_zero,List.set_cons_succ]
     refine Aa (i:=4) (v:=?_) rfl (by kernel_rfl) (by kernel_rfl) (by kernel_rfl) (fun _ _ _ h=>h) rfl ?_ hHeld ?_
     rotate_left
     ·intro w hS; (try dsimp only at hS); obtain ⟨hS0,hS1⟩:=hS; go_simp; first | done | (with_reducible rfl)
     try simp only [Act.put,List.setIfInBounds_toArray,List.set_cons_zero,List.set_cons_succ]
     refine Aa (i:=5) (v:=?_) rfl (by kernel_rfl) (by kernel_rfl) (by kernel_rfl) (fun _ _ _ h=>h) rfl ?_ hHeld ?_
     rotate_left
     ·intro w hS; (try dsimp only at hS); obtain ⟨hS0,hS1⟩:=hS; go_simp; first | done | (with_reducible rfl)
     try simp only [Act.put,List.setIfInBounds_toArray,List.set_cons_zero,List.set_cons_succ]
     refine Aa (i:=6) (v:=?_) rfl (by kernel_rfl) (by kernel_rfl) (by kernel_rfl) (fun _ _ _ h=>h) rfl ?_ hHeld ?_
     rotate_left
     ·intro w hS; (try dsimp only at hS); obtain ⟨hS0,hS1⟩:=hS; go_simp; first | done | (with_reducible rfl)
     try simp only [Act.put,List.setIfInBounds_toArray,List.set_cons_zero,List.set_cons_succ]
     refine Aa (i:=7) (v:=?_) rfl (by kernel_rfl) (by kernel_rfl) (by kernel_rfl) (fun _ _ _ h=>h) rfl ?_ hHeld ?_
     rotate_left
     ·intro w hS; (try dsimp only at hS); obtain ⟨hS0,hS1⟩:=hS; go_simp; first | done | (with_reducible rfl)
     try simp only [Act.put,List.setIfInBounds_toArray,List.set_cons_zero,List.set_cons_succ]
     refine An (i:=8) rfl (by kernel_rfl) rfl (fun K hK=>?_)
     go_simp
     refine htd.mono ?_
     rintro e w8 ⟨rfl,F8,hD8,hF8,hc8⟩
     have hW8:=H7.out.1.keep hc8 hxF6
     have hF8' : ∀ k,F8 k∨k=g∨k=t→(F6 k∨k=g∨k=t)∨w7.drew.heap.size≤k:=fun k h=>h.elim (fun h=>(hF8 k h).imp .inl id) (fun h=>.inl (.inr h))
     have hR8 : B3 w8 x F8 g t r lp:=H7.out.2.2.1.step hc8 (fun k h=>.inl h) hF8'
     have hT8 : B3 w8 x F8 g t rT lT:=H7.out.2.1.step hc8 (fun k h=>.inl h) hF8'
     have hxF8 : ¬ F8 x:=fun e=>by
      rcases hF8 x e with e | e
      ·exact hxF6 e
      ·have:=H7.out.1.lt
       omega
     have hb8 : Below w.heap.size w w8:=H7.out.2.2.2.2.1.trans (hc8.below (fun k hk=>(H7.out.2.2.2.1.1.2.1 k hk).1) H7.out.2.2.2.2.1.size)
     obtain ⟨⟨z0,-,z2⟩,-⟩:=hW8.cells
     refine hK.out _ _ (⟨z0,z2⟩) (fun hHeld=>?_)
     clear hK K
     try simp only [Act.put,List.setIfInBounds_toArray,List.set_cons_zero,List.set_cons_succ]
     refine Aa (i:=9) (v:=?_) rfl (by kernel_rfl) (by kernel_rfl) (by kernel_rfl) (fun _ _ _ h=>h) rfl ?_ hHeld ?_
     rotate_left
     ·intro w hS; (try dsimp only at hS); obtain ⟨hS0,hS1⟩:=hS; go_simp; first | done | (with_reducible rfl)
     try simp only [Act.put,List.setIfInBounds_toArray,List.set_cons_zero,List.set_cons_succ]
     refine wpAnyH_done (by kernel_rfl) ?_ _
     clear hHeld x0 x2 htd hF8' hc8 hF8
     cases dq with
     | true=>
      have hql : lq6=lp:=of_decide_eq_true H7.out.2.2.2.2.2.1
      subst hql
      have hop:=Oa hD8 hb8.size hB0 (HT.out.keep hb8) (by omega)
      have hop : Calls Tryz.prog 14 #[.pointer (some ⟨d2,0,none⟩), .string ⟨#[116,97,98]⟩] w8 _:=hop
      have H8:=Ab (And.intro hW8 (And.intro hR8 (And.intro hb8 (fun k (hk : F8 k)=>(hD8.1.2.1 k hk).1))))
      clear hW8 hR8 hT8 hb8 hD8 z2
      go_wp2_with fail
      refine hop.mono ?_
      rintro e w9 ⟨t2,b2,g2,F9,rfl,hM9,hF9,ht2,hb2,hg2,hc9⟩
      obtain ⟨hW9,hI9⟩:=reopened H8.out.1 H8.out.2.1 hxF8 hlow hM9 hF9 ht2 hg2 hc9
      obtain ⟨⟨-,y1,-⟩,-,y3,-⟩:=hW9.cells
      have hb9 : Below w.heap.size w w9:=H8.out.2.2.1.trans (hc9.below (fun k hk=>H8.out.2.2.2 k hk) H8.out.2.2.1.size)
      have hb10:=hb9.setCell (p:=⟨x,1,none⟩) hlow (.pointer (some ⟨t2,0,none⟩))
      have H9:=Ab (And.intro hI9 hb10)
      clear hop hM9 hF9 hb2 hg2 ht2 hc9 hW9 hI9 hb9 hb10
      go_wp2_with fail
      go_roundg (8 - (j+1))
      case measure=>omega
      case rel=>exact ⟨j+1,d2,g2,t2,b2,r,F9,_,lq6,rfl,by go_num,by omega,by omega,H9.out.1.more (by omega),H9.out.2⟩
     | false=>
      have hql : lq6=lT:=H7.out.2.2.2.2.2.2.resolve_left (of_decide_eq_false H7.out.2.2.2.2.2.1)
      have htd2:=told_dead hD8 hb8.size hB0 (HT.out.keep hb8) (by omega) hT8
      rw [decide_eq_true hql] at htd2
      subst hql
      have H8:=Ab (And.intro hW8 (And.intro hT8 (And.intro hb8 (fun k (hk : F8 k)=>(hD8.1.2.1 k hk).1))))
      clear hW8 hR8 hT8 hb8 hD8 z2
      go_wp2_with fail
      refine htd2.mono ?_
      rintro e w9 ⟨rfl,F9,hD9,hF9,hc9⟩
      have hW9:=H8.out.1.keep hc9 hxF8
      have hT9 : B3 w9 x F9 g t rT lq6:=H8.out.2.1.step hc9 (fun k h=>.inl h) (fun k h=>h.elim (fun h=>(hF9 k h).imp .inl id) (fun h=>.inl (.inr h)))
      have hxF9 : ¬ F9 x:=fun e=>by
       rcases hF9 x e with e | e
       ·exact hxF8 e
       ·have:=H8.out.1.lt
        omega
      have hb9 : Below w.heap.size w w9:=H8.out.2.2.1.trans (hc9.below (fun k hk=>H8.out.2.2.2 k hk) H8.out.2.2.1.size)
      obtain ⟨⟨-,-,y2⟩,-,-,y3⟩:=hW9.cells
      have k10 : Chg (· = x) w9 (w9.setCell ⟨x,2,none⟩ (.pointer (some ⟨rT,0,none⟩))):=(Chg.refl (· = x) w9).setCell (p:=⟨x,2,none⟩) (.inl rfl) _
      have hW10:=hW9.setR rT
      have hT10:=hT9.step (F':=F9) (g':=g) (t':=t) k10 (fun k e=>.inr (.inr (.inr e))) (fun k h=>.inl h)
      have hD10:=hD9.keep k10 (fun k hk e=>hxF9 (e ▸ hk))
      have hb10:=hb9.setCell (p:=⟨x,2,none⟩) hlow (.pointer (some ⟨rT,0,none⟩))
      clear htd2 hD9 hF9 hc9 hW9 hT9 hb9 k10 z0
      go_upto_region 30 with fail
      generalize w9.setCell ⟨x,2,none⟩ (.pointer (some ⟨rT,0,none⟩))=w10 at *
      clear y2 y3
      have hop:=Oa hD10 hb10.size hB0 (HT.out.keep hb10) (by omega)
      have hop : Calls Tryz.prog 14 #[.pointer (some ⟨d2,0,none⟩), .string ⟨#[116,97,98]⟩] w10 _:=hop
      obtain ⟨⟨z0,-,-⟩,-⟩:=hW10.cells
      have H10:=Ab (And.intro hW10 (And.intro hT10 (And.intro hb10 (fun k (hk : F9 k)=>(hD10.1.2.1 k hk).1))))
      clear hW10 hT10 hb10 hD10 H8
      go_wp2_with fail
      refine hop.mono ?_
      rintro e w11 ⟨t2,b2,g2,F11,rfl,hM11,hF11,ht2,hb2,hg2,hc11⟩
      obtain ⟨hW11,hI11⟩:=reopened H10.out.1 H10.out.2.1 hxF9 hlow hM11 hF11 ht2 hg2 hc11
      obtain ⟨⟨-,y1,-⟩,-,y3,-⟩:=hW11.cells
      have hb11 : Below w.heap.size w w11:=H10.out.2.2.1.trans (hc11.below (fun k hk=>H10.out.2.2.2 k hk) H10.out.2.2.1.size)
      have hb12:=hb11.setCell (p:=⟨x,1,none⟩) hlow (.pointer (some ⟨t2,0,none⟩))
      have H11:=Ab (And.intro hI11 hb12)
      clear hop hM11 hF11 hb2 hg2 ht2 hc11 hW11 hI11 hb11 hb12
      go_wp2_with fail
      go_roundg (8 - (j+1))
      case measure=>omega
      case rel=>exact ⟨j+1,d2,g2,t2,b2,rT,F11,_,lq6,rfl,by go_num,by omega,by omega,H11.out.1.more (by omega),H11.out.2⟩
  ·have hlt' : ¬ (j : Int)<(xs.length : Int) ∨ ¬ (j : Int)<8:=by omega
   rcases hlt' with hl | hl
   ·go_wp2
    go_ret
    exact ⟨rfl,bb⟩
   ·by_cases hl2 : (j : Int)<(xs.length : Int)
    ·go_wp2
     go_ret
     exact ⟨rfl,bb⟩
    ·go_wp2
     go_ret
     exact ⟨rfl,bb⟩
end Go.Proofs.YtblniomnhpedjaaGreatDoor
