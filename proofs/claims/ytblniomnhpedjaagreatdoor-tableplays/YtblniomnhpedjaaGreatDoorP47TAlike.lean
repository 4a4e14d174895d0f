/-
  The law's alike: a table tells of keys what the document's tells. Conditions: both have the same pairs; the puts lie there; lengths within reach.
-/
import Derived.Test.YtblniomnhpedjaaGreatDoorP46TPlays2
import Derived.Test.YtblniomnhpedjaaGreatDoorP25TKeys
import Derived.Test.YtblniomnhpedjaaGreatDoorP31TLog
namespace Go.Proofs.YtblniomnhpedjaaGreatDoor
open Go.RowKit
set_option maxRecDepth 40000 in
set_option maxHeartbeats 1600000 in
theorem alike_any (w : World) {t b g : Nat} {sure : Bool} {lp : List Af} (r : Nat) (v : Value) (ps : List An) (hA : TabAt w t b g sure lp) (hR : Cr w r lp) (hv : PsT w v ps) (hps : ∀ p∈ps,p.1.length≤4611686018427387904) (hn : ∀ p∈lp,p.1.length≤4611686018427387904) (hl : lp.length≤1000000) :
  Calls Tryz.prog 24 #[.pointer (some ⟨t,0,none⟩), .pointer (some ⟨r,0,none⟩),v] w fun e w'=>e = .returned (.bool true)∧Below w.heap.size w w':=by
 have hvl:=hv.len
 obtain ⟨va,vc,rfl⟩:=hv.form
 have HH:=Ab (And.intro hA (And.intro hR hv))
 clear hA hR hv
 go_enter Tryz.func24,Tryz.ntmps24
 go_wp2_with fail
 go_loopw [7] (fun i wr=>∃ k : Nat,i = .int .i64 k∧k≤ps.length∧Below w.heap.size w wr) (fun i _=>ps.length - (intOf i).toNat)
 case atStart=>exact ⟨0,rfl,by omega,Below.refl _ w⟩
 case round=>
  obtain ⟨k,rfl,hk,hbr⟩:=hrel
  have hA:=HH.out.1.keep (C5 hbr) (fun h=>h) (fun h=>h)
  have hR:=HH.out.2.1.keepB hbr
  by_cases hlt : k<ps.length
  ·obtain ⟨cb,off,rfl,hbl,c0,c1,c2⟩:=(HH.out.2.2.keepB hbr).at hlt
   have hyl:=hps _ (List.getElem_mem hlt)
   generalize ps[k]=y at *
   have hgt:=tget_any hA y.1
   have hsz:=B1 y.1
   obtain ⟨m,hm⟩ : ∃ m,y.1.length / 2=m:=⟨_,rfl⟩
   have hml : m≤y.1.length:=by omega
   have hwm : IntKind.i64.wrap ((y.1.length : Int) / 2)=(m : Int):=by rw [IntKind.wrap_i64]; omega
   have hht:=strB_take y.1 m
   have HB:=Ab hbr
   clear hbr c1 c2
   cases hg : getT lp y.1 with
   | none=>
    rw [hg] at hgt
    go_wp2_with fail
    refine hgt.mono ?_
    rintro e w1 ⟨rfl,hb1⟩
    have hrg:=rget_any w1 r lp y.1 (hR.keepB hb1)
    rw [hg] at hrg
    simp only [getE] at hrg
    clear hgt
    go_wp2_with fail
    refine hrg.mono ?_
    rintro e w2 ⟨rfl,rfl⟩
    have hal:=Iw ((hA.keep (C5 hb1) (fun h=>h) (fun h=>h)).keep ((Chg.refl (fun _=>False) w2).drew) (fun h=>h) (fun h=>h)) (y.1.take m) (by simp; omega) hn (by omega)
    have HX:=Ab (And.intro (hR.keepB hb1) hb1)
    clear hrg hA hR hb1 c0
    go_wp2_with fail
    refine wp_region_held_drew (S:=fun W=>True) (by kernel_rfl) (trivial) (fun hHeld=>?_)
    refine Aa 0 hHeld ?_
    refine Aa 1 hHeld ?_
    refine Aa 2 hHeld ?_
    refine Aa 3 hHeld ?_
    refine Aa 4 hHeld ?_
    refine Aa 5 hHeld ?_
    refine Aa 6 hHeld ?_
    refine Aa 7 hHeld ?_
    refine Aa 8 hHeld ?_
    refine Aa 9 hHeld ?_
    refine Aa 10 hHeld ?_
    refine Aa 11 hHeld ?_
    refine Aa 12 hHeld ?_
    refine Aa 13 hHeld ?_
    refine Aa 14 hHeld ?_
    refine Aa 16 hHeld ?_
    refine Aa 17 hHeld ?_
    refine Aa 18 hHeld ?_
    refine Aa 19 hHeld ?_
    refine Aa 20 hHeld ?_
    refine Aa 21 hHeld ?_
    refine Al (i:=15) rfl (by kernel_rfl) rfl (fun K hK=>?_)
    go_simp
    refine hal.mono ?_
    rintro e w3 ⟨v3,rfl,hp3,hb3⟩
    have hb03 : Below w2.heap.size w2 w3:=(Below.refl _ w2).drew.trans hb3
    have hra:=rall_any w3 r lp (y.1.take m) (HX.out.1.keepB hb03) (by simp; omega) hn hl
    obtain ⟨o3,c3,rfl,-⟩:=Ay hp3
    clear hal
    refine hK.out _ _ (trivial) (fun hHeld=>?_)
    clear hK K
    try simp only [Act.put,List.setIfInBounds_toArray,List.set_cons_zero,List.set_cons_succ]
    refine Al (i:=22) rfl (by kernel_rfl) rfl (fun K hK=>?_)
    go_simp
    refine hra.mono ?_
    rintro e w4 ⟨v4,rfl,hp4,hb4⟩
    have hsm:=Hx w4 _ _ _ _ (hp3.pr.keepB (B:=0) hb4 (Nat.le_refl _)) hp4.pr
    rw [decide_eq_true rfl] at hsm
    obtain ⟨o4,c4,rfl,-⟩:=Ay hp4
    clear hra
    refine hK.out _ _ (trivial) (fun hHeld=>?_)
    clear hK K
    try simp only [Act.put,List.setIfInBounds_toArray,List.set_cons_zero,List.set_cons_succ]
    refine Al (i:=23) rfl (by kernel_rfl) rfl (fun K hK=>?_)
    go_simp
    refine hsm.mono ?_
    rintro e w5 ⟨rfl,q5⟩
    have hb5:=HB.out.trans ((HX.out.2.trans ((hb03.trans (hb4.mono hb03.size)).mono HX.out.2.size)).mono HB.out.size)
    have hb6:=hb5.trans (q5.below (fun _ h=>h.elim) hb5.size)
    have HF:=Ab hb6
    clear hsm hp3 hp4 hb5 hb6 q5 hb3 hb4 hb03
    refine hK.out _ _ (trivial) (fun hHeld=>?_)
    clear hK K
    try simp only [Act.put,List.setIfInBounds_toArray,List.set_cons_zero,List.set_cons_succ]
    refine Aa 24 hHeld ?_
    refine Aa 25 hHeld ?_
    refine wpAnyH_done (by kernel_rfl) ?_ _
    clear hHeld
    go_wp2
    go_roundw
    case rel=>exact ⟨k+1,by go_num,by omega,HF.out⟩
    case measure=>simp [intOf]; omega
   | some val=>
    rw [hg] at hgt
    go_wp2_with fail
    refine hgt.mono ?_
    rintro e w1 ⟨rfl,hb1⟩
    have hrg:=rget_any w1 r lp y.1 (hR.keepB hb1)
    rw [hg] at hrg
    simp only [getE] at hrg
    clear hgt
    go_wp2_with fail
    refine hrg.mono ?_
    rintro e w2 ⟨rfl,rfl⟩
    have hne:=neq_text 9 val val
    rw [decide_eq_true rfl] at hne
    have hal:=Iw ((hA.keep (C5 hb1) (fun h=>h) (fun h=>h)).keep ((Chg.refl (fun _=>False) w2).drew) (fun h=>h) (fun h=>h)) (y.1.take m) (by simp; omega) hn (by omega)
    have HX:=Ab (And.intro (hR.keepB hb1) hb1)
    clear hrg hA hR hb1 c0
    go_wp2_with fail
    refine wp_region_held_drew (S:=fun W=>True) (by kernel_rfl) (trivial) (fun hHeld=>?_)
    refine Aa 0 hHeld ?_
    refine Aa 1 hHeld ?_
    refine Aa 2 hHeld ?_
    refine Aa 3 hHeld ?_
    refine Aa 4 hHeld ?_
    refine Aa 5 hHeld ?_
    refine Aa 6 hHeld ?_
    refine Aa 7 hHeld ?_
    refine Aa 8 hHeld ?_
    refine Aa 9 hHeld ?_
    refine Aa 10 hHeld ?_
    refine Aa 11 hHeld ?_
    refine Aa 12 hHeld ?_
    refine Aa 13 hHeld ?_
    refine Aa 14 hHeld ?_
    refine Aa 16 hHeld ?_
    refine Aa 17 hHeld ?_
    refine Aa 18 hHeld ?_
    refine Aa 19 hHeld ?_
    refine Aa 20 hHeld ?_
    refine Aa 21 hHeld ?_
    refine Al (i:=15) rfl (by kernel_rfl) rfl (fun K hK=>?_)
    go_simp
    refine hal.mono ?_
    rintro e w3 ⟨v3,rfl,hp3,hb3⟩
    have hb03 : Below w2.heap.size w2 w3:=(Below.refl _ w2).drew.trans hb3
    have hra:=rall_any w3 r lp (y.1.take m) (HX.out.1.keepB hb03) (by simp; omega) hn hl
    obtain ⟨o3,c3,rfl,-⟩:=Ay hp3
    clear hal
    refine hK.out _ _ (trivial) (fun hHeld=>?_)
    clear hK K
    try simp only [Act.put,List.setIfInBounds_toArray,List.set_cons_zero,List.set_cons_succ]
    refine Al (i:=22) rfl (by kernel_rfl) rfl (fun K hK=>?_)
    go_simp
    refine hra.mono ?_
    rintro e w4 ⟨v4,rfl,hp4,hb4⟩
    have hsm:=Hx w4 _ _ _ _ (hp3.pr.keepB (B:=0) hb4 (Nat.le_refl _)) hp4.pr
    rw [decide_eq_true rfl] at hsm
    obtain ⟨o4,c4,rfl,-⟩:=Ay hp4
    clear hra
    refine hK.out _ _ (trivial) (fun hHeld=>?_)
    clear hK K
    try simp only [Act.put,List.setIfInBounds_toArray,List.set_cons_zero,List.set_cons_succ]
    refine Al (i:=23) rfl (by kernel_rfl) rfl (fun K hK=>?_)
    go_simp
    refine hsm.mono ?_
    rintro e w5 ⟨rfl,q5⟩
    have hb5:=HB.out.trans ((HX.out.2.trans ((hb03.trans (hb4.mono hb03.size)).mono HX.out.2.size)).mono HB.out.size)
    have hb6:=hb5.trans (q5.below (fun _ h=>h.elim) hb5.size)
    have HF:=Ab hb6
    clear hsm hp3 hp4 hb5 hb6 q5 hb3 hb4 hb03
    refine hK.out _ _ (trivial) (fun hHeld=>?_)
    clear hK K
    try simp only [Act.put,List.setIfInBounds_toArray,List.set_cons_zero,List.set_cons_succ]
    refine Aa 24 hHeld ?_
    refine Aa 25 hHeld ?_
    refine wpAnyH_done (by kernel_rfl) ?_ _
    clear hHeld
    go_wp2
    go_roundw
    case rel=>exact ⟨k+1,by go_num,by omega,HF.out⟩
    case measure=>simp [intOf]; omega
  ·have hkl : k=ps.length:=by omega
   subst hkl
   have hln:=I2 (hA.keep ((Chg.refl (fun _=>False) wr).drew) (fun h=>h) (fun h=>h))
   obtain ⟨u,hu,hp⟩:=hR
   obtain ⟨ua,uc,rfl⟩:=hp.form
   have x0 : wr.cell? ⟨r,0,none⟩=some (.slice ua lp.length uc):=by rw [Ad hu]; rfl
   have HB:=Ab hbr
   have hLL : ((lp.length : Int) == (lp.length : Int))=true:=by simp
   clear hu hp hbr hA
   go_wp2_with fail
   refine wp_region_held_drew (S:=fun W=>W.cell? ⟨r,0,none⟩=some (.slice ua lp.length uc)) (by kernel_rfl) (x0) (fun hHeld=>?_)
   refine Aa 0 hHeld ?_
   refine Aa 2 hHeld ?_
   refine Aa 3 hHeld ?_
   refine Aa 4 hHeld ?_
   refine Aa 5 hHeld ?_
   refine Aa 6 hHeld ?_
   refine Al (i:=1) rfl (by kernel_rfl) rfl (fun K hK=>?_)
   go_simp
   refine hln.mono ?_
   rintro e w1 ⟨rfl,rfl⟩
   refine hK.out _ _ (x0) (fun hHeld=>?_)
   clear hK K
   try simp only [Act.put,List.setIfInBounds_toArray,List.set_cons_zero,List.set_cons_succ]
   refine Aa 7 hHeld ?_
   refine Aa 8 hHeld ?_
   refine wpAnyH_done (by kernel_rfl) ?_ _
   clear hHeld
   go_wp2
   go_ret
   exact ⟨rfl,HB.out.drew⟩
end Go.Proofs.YtblniomnhpedjaaGreatDoor
