/-
  A leaf, looked at and made by the reference. Conditions: its pairs lie there.
-/
import Derived.Test.YtckejblkppllaaaGreatDoorT12OEntry2
namespace Go.Proofs.YtckejblkppllaaaGreatDoor
open Go.RowKit
def A3 (p : Ag) : Bool:=As p.1 && decide (p.2.length≤128)
theorem Gv {p : Ag} (h : As p.1=false∨128<p.2.length) : A3 p=false:=by
 unfold A3
 rcases h with h | h
 ·rw [h]; rfl
 ·rw [decide_eq_false (by omega : ¬ p.2.length≤128)]; simp
theorem Mx (xs : List Ag) (h : xs.length≤64) : A5 ltB xs=(xs.all A3 && Bd ltB (xs.map (·.1))):=by
 unfold A5
 rw [decide_eq_true h]
 rfl
theorem rise_end {α : Type} (f : α→Bs) (xs : List α) (k : Nat) (h : xs.length≤k+1) : Bd ltB ((xs.drop k).map f)=true:=by
 have hl : (xs.drop k).length≤1:=by rw [List.length_drop]; omega
 match xs.drop k,hl with
 | [],_=>rfl
 | [_],_=>rfl
theorem rise_next {α : Type} (f : α→Bs) (xs : List α) (m : Nat) (hlt : m+1<xs.length) : Bd ltB ((xs.drop m).map f)=(ltB (f (xs[m]'(by omega))) (f (xs[m+1]'hlt)) && Bd ltB ((xs.drop (m+1)).map f)):=by
 rw [List.drop_eq_getElem_cons (show m<xs.length by omega),List.drop_eq_getElem_cons hlt]
 rfl
theorem D3 (w : World) (s : Bs) : Calls Tryz.prog 111 #[.string (Ab s)] w fun e w'=>e = .returned (.bool (As s))∧w'=w:=by
 have hs:=A1 s
 by_cases h : 1≤s.length
 ·go_enter Tryz.func111,Tryz.ntmps111
  go_wp2
  go_ret
  refine ⟨Al ?_,rfl⟩
  unfold As; rw [Bool.eq_iff_iff]; simp; omega
 ·go_enter Tryz.func111,Tryz.ntmps111
  go_wp2
  go_ret
  refine ⟨Al ?_,rfl⟩
  unfold As; rw [Bool.eq_iff_iff]; simp; omega
set_option maxRecDepth 20000 in
set_option maxHeartbeats 1600000 in
theorem Oa (w : World) (xs : List Ag) (v : Value) (hv : Ls w.heap.size w 2 Ak v xs) :
  Calls Tryz.prog 66 #[v] w fun e w'=>e = .returned (.bool (A5 ltB xs))∧Below w.heap.size w w':=by
 obtain ⟨ao,cap,rfl,g1,g2,h4⟩:=hv
 unfold maxLen at g2
 by_cases hd : 64<xs.length
 ·have hok : A5 ltB xs=false:=by unfold A5; rw [decide_eq_false (by omega : ¬ xs.length≤64)]; rfl
  rw [hok]
  go_enter Tryz.func66,Tryz.ntmps66
  go_wp2
  go_ret
  exact ⟨rfl,Below.refl _ _⟩
 rw [Mx xs (by omega)]
 go_enter Tryz.func66,Tryz.ntmps66
 go_wp2_with fail
 go_loopw [3] (fun t wr=>∃ k : Nat,k≤xs.length∧t = .int .i64 k∧(xs.take k).all A3=true∧Bd ltB (xs.map (·.1))=Bd ltB ((xs.drop (k - 1)).map (·.1))∧Below w.heap.size w wr)
  (fun t _=>xs.length - (intOf t).toNat)
 case atStart=>exact ⟨0,by omega,rfl,by simp,by simp,Below.refl _ _⟩
 case round=>
  obtain ⟨k,hk,rfl,hall,hri,hb⟩:=hrel
  have HA:=Ac hall
  have HR:=Ac hri
  have HB:=Ac hb
  clear hall hri hb
  by_cases hlt : k<xs.length
  ·obtain ⟨b,off,rfl,hbB,hcl⟩:=h4 (by rintro rfl; simp at hlt)
   have hst:=I8 A3 xs k hlt HA.out
   have hno:=I6 A3 xs k hlt
   have k0:=(HB.out.cell (p:=⟨b,off+k * 2+0,none⟩) hbB).trans (hcl k hlt 0 _ rfl)
   have k1:=(HB.out.cell (p:=⟨b,off+k * 2+1,none⟩) hbB).trans (hcl k hlt 1 _ rfl)
   simp only [Nat.add_zero] at k0
   have HST:=Ac hst
   have HNO:=Ac hno
   clear hst hno
   have BD : Below w.heap.size w wr.drew:=HB.out.drew
   cases k with
   | zero=>
    simp only [Nat.zero_mul,Nat.add_zero] at k0 k1
    generalize xs[0]=x at *
    clear hcl h4
    have hsx:=A1 x.2
    by_cases q0 : As x.1=true
    ·by_cases q1 : 128<x.2.length
     ·have hf:=Gv (.inr q1)
      have q1' : (128 : Int)<(x.2.length : Int):=by omega
      go_wp2_with fail
      refine (D3 _ x.1).mono ?_
      rintro e w2 ⟨rfl,rfl⟩
      rw [q0]
      go_wp2_with fail
      refine wp_region_held_drew (S:=fun W=>W.cell? ⟨b,off,none⟩=some (.string (Ab x.1))∧W.cell? ⟨b,off+1,none⟩=some (.string (Ab x.2))) (by kernel_rfl) (⟨k0,k1⟩) (fun hHeld=>?_)
      refine Aa 0 hHeld ?_
      refine Aa 1 hHeld ?_
      refine Aa 2 hHeld ?_
      refine Aa 3 hHeld ?_
      refine Aa 4 hHeld ?_
      refine Aa 5 hHeld ?_
      refine Aa 6 hHeld ?_
      refine Aa 7 hHeld ?_
      refine Aa 8 hHeld ?_
      refine Aa 9 hHeld ?_
      refine Aa 10 hHeld ?_
      refine Aa 11 hHeld ?_
      refine Ae 12 hHeld ?_
      refine Ae 13 hHeld ?_
      refine Ae 14 hHeld ?_
      refine Ae 15 hHeld ?_
      refine Ae 16 hHeld ?_
      refine Ae 17 hHeld ?_
      refine Ae 18 hHeld ?_
      refine Ae 19 hHeld ?_
      refine Ae 20 hHeld ?_
      refine Ae 21 hHeld ?_
      refine Ae 22 hHeld ?_
      refine Ae 23 hHeld ?_
      refine Ae 24 hHeld ?_
      refine Ae 25 hHeld ?_
      refine Ae 26 hHeld ?_
      refine Ae 27 hHeld ?_
      refine Aa 28 hHeld ?_
      refine wpAnyH_done (by kernel_rfl) ?_ _
      clear hHeld
      go_wp2
      go_ret
      exact ⟨Al (by rw [← HNO.out hf]; rfl),BD⟩
     ·have hf : A3 x=true:=by unfold A3; rw [q0,decide_eq_true (by omega : x.2.length≤128)]; rfl
      have q1' : decide ((128 : Int)<(x.2.length : Int))=false:=decide_eq_false (by omega)
      go_wp2_with fail
      refine (D3 _ x.1).mono ?_
      rintro e w2 ⟨rfl,rfl⟩
      rw [q0]
      go_wp2_with fail
      refine wp_region_held_drew (S:=fun W=>W.cell? ⟨b,off,none⟩=some (.string (Ab x.1))∧W.cell? ⟨b,off+1,none⟩=some (.string (Ab x.2))) (by kernel_rfl) (⟨k0,k1⟩) (fun hHeld=>?_)
      refine Aa 0 hHeld ?_
      refine Aa 1 hHeld ?_
      refine Aa 2 hHeld ?_
      refine Aa 3 hHeld ?_
      refine Aa 4 hHeld ?_
      refine Aa 5 hHeld ?_
      refine Aa 6 hHeld ?_
      refine Aa 7 hHeld ?_
      refine Aa 8 hHeld ?_
      refine Aa 9 hHeld ?_
      refine Aa 10 hHeld ?_
      refine Aa 11 hHeld ?_
      refine Aa 12 hHeld ?_
      refine Aa 13 hHeld ?_
      refine Aa 14 hHeld ?_
      refine Ae 15 hHeld ?_
      refine Ae 16 hHeld ?_
      refine Ae 17 hHeld ?_
      refine Ae 18 hHeld ?_
      refine Ae 19 hHeld ?_
      refine Ae 20 hHeld ?_
      refine Ae 21 hHeld ?_
      refine Ae 22 hHeld ?_
      refine Ae 23 hHeld ?_
      refine Ae 24 hHeld ?_
      refine Ae 25 hHeld ?_
      refine Ae 26 hHeld ?_
      refine Aa 27 hHeld ?_
      refine Aa 28 hHeld ?_
      refine wpAnyH_done (by kernel_rfl) ?_ _
      clear hHeld
      go_wp2
      go_roundw
      case rel=>exact ⟨1,by omega,by go_num,HST.out hf,HR.out,BD⟩
      case measure=>simp [intOf]; omega
    ·have q0:=Bool.eq_false_iff.2 q0
     have hf:=Gv (.inl q0)
     go_wp2_with fail
     refine (D3 _ x.1).mono ?_
     rintro e w2 ⟨rfl,rfl⟩
     rw [q0]
     go_wp2_with fail
     refine wp_region_held_drew (S:=fun W=>W.cell? ⟨b,off,none⟩=some (.string (Ab x.1))∧W.cell? ⟨b,off+1,none⟩=some (.string (Ab x.2))) (by kernel_rfl) (⟨k0,k1⟩) (fun hHeld=>?_)
     refine Aa 0 hHeld ?_
     refine Aa 1 hHeld ?_
     refine Aa 2 hHeld ?_
     refine Ae 3 hHeld ?_
     refine Ae 4 hHeld ?_
     refine Ae 5 hHeld ?_
     refine Ae 6 hHeld ?_
     refine Ae 7 hHeld ?_
     refine Ae 8 hHeld ?_
     refine Ae 9 hHeld ?_
     refine Aa 10 hHeld ?_
     refine Aa 11 hHeld ?_
     refine Ae 12 hHeld ?_
     refine Ae 13 hHeld ?_
     refine Ae 14 hHeld ?_
     refine Ae 15 hHeld ?_
     refine Ae 16 hHeld ?_
     refine Ae 17 hHeld ?_
     refine Ae 18 hHeld ?_
     refine Ae 19 hHeld ?_
     refine Ae 20 hHeld ?_
     refine Ae 21 hHeld ?_
     refine Ae 22 hHeld ?_
     refine Ae 23 hHeld ?_
     refine Ae 24 hHeld ?_
     refine Ae 25 hHeld ?_
     refine Ae 26 hHeld ?_
     refine Ae 27 hHeld ?_
     refine Aa 28 hHeld ?_
     refine wpAnyH_done (by kernel_rfl) ?_ _
     clear hHeld
     go_wp2
     go_ret
     exact ⟨Al (by rw [← HNO.out hf]; rfl),BD⟩
   | succ m=>
    have hnx:=rise_next (fun p : Ag=>p.1) xs m hlt
    have HNX:=Ac hnx
    clear hnx
    have d0:=(HB.out.cell (p:=⟨b,off+m * 2+0,none⟩) hbB).trans (hcl m (by omega) 0 _ rfl)
    simp only [Nat.add_zero] at d0
    have hm0 : (0 : Int)≤(m : Int)+1:=by omega
    have hw : IntKind.i64.wrap (m : Int)=(m : Int):=by rw [IntKind.wrap_i64]; omega
    have hk1' : ((m+1 : Nat) : Int) - 1=(m : Int):=by omega
    have hml : m<xs.length:=by omega
    have hpos : (0 : Int)<(m : Int)+1:=by omega
    generalize hx : xs[m+1]=x at *
    generalize hy : xs[m]=y at *
    have hge:=Ex 9 y.1 x.1
    clear hcl h4 hx hy
    have hsx:=A1 x.2
    by_cases q0 : As x.1=true
    ·by_cases q1 : 128<x.2.length
     ·have hf:=Gv (.inr q1)
      have q1' : (128 : Int)<(x.2.length : Int):=by omega
      go_wp2_with fail
      refine (D3 _ x.1).mono ?_
      rintro e w2 ⟨rfl,rfl⟩
      rw [q0]
      go_wp2_with fail
      refine wp_region_held_drew (S:=fun W=>W.cell? ⟨b,off+(m+1) * 2,none⟩=some (.string (Ab x.1))∧W.cell? ⟨b,off+(m+1) * 2+1,none⟩=some (.string (Ab x.2))∧W.cell? ⟨b,off+m * 2,none⟩=some (.string (Ab y.1))) (by kernel_rfl) (⟨k0,k1,d0⟩) (fun hHeld=>?_)
      refine Aa 0 hHeld ?_
      refine Aa 1 hHeld ?_
      refine Aa 2 hHeld ?_
      refine Aa 3 hHeld ?_
      refine Aa 4 hHeld ?_
      refine Aa 5 hHeld ?_
      refine Aa 6 hHeld ?_
      refine Aa 7 hHeld ?_
      refine Aa 8 hHeld ?_
      refine Aa 9 hHeld ?_
      refine Aa 10 hHeld ?_
      refine Aa 11 hHeld ?_
      refine Ae 12 hHeld ?_
      refine Ae 13 hHeld ?_
      refine Ae 14 hHeld ?_
      refine Ae 15 hHeld ?_
      refine Ae 16 hHeld ?_
      refine Ae 17 hHeld ?_
      refine Ae 18 hHeld ?_
      refine Ae 19 hHeld ?_
      refine Ae 20 hHeld ?_
      refine Ae 21 hHeld ?_
      refine Ae 22 hHeld ?_
      refine Ae 23 hHeld ?_
      refine Ae 24 hHeld ?_
      refine Ae 25 hHeld ?_
      refine Ae 26 hHeld ?_
      refine Ae 27 hHeld ?_
      refine Aa 28 hHeld ?_
      refine wpAnyH_done (by kernel_rfl) ?_ _
      clear hHeld
      go_wp2
      go_ret
      exact ⟨Al (by rw [← HNO.out hf]; rfl),BD⟩
     ·have hf : A3 x=true:=by unfold A3; rw [q0,decide_eq_true (by omega : x.2.length≤128)]; rfl
      have q1' : decide ((128 : Int)<(x.2.length : Int))=false:=decide_eq_false (by omega)
      go_wp2_with fail
      refine (D3 _ x.1).mono ?_
      rintro e w2 ⟨rfl,rfl⟩
      rw [q0]
      go_wp2_with fail
      refine wp_region_held_drew (S:=fun W=>W.cell? ⟨b,off+(m+1) * 2,none⟩=some (.string (Ab x.1))∧W.cell? ⟨b,off+(m+1) * 2+1,none⟩=some (.string (Ab x.2))∧W.cell? ⟨b,off+m * 2,none⟩=some (.string (Ab y.1))) (by kernel_rfl) (⟨k0,k1,d0⟩) (fun hHeld=>?_)
      refine Aa 0 hHeld ?_
      refine Aa 1 hHeld ?_
      refine Aa 2 hHeld ?_
      refine Aa 3 hHeld ?_
      refine Aa 4 hHeld ?_
      refine Aa 5 hHeld ?_
      refine Aa 6 hHeld ?_
      refine Aa 7 hHeld ?_
      refine Aa 8 hHeld ?_
      refine Aa 9 hHeld ?_
      refine Aa 10 hHeld ?_
      refine Aa 11 hHeld ?_
      refine Aa 12 hHeld ?_
      refine Aa 13 hHeld ?_
      refine Aa 14 hHeld ?_
      refine Aa 15 hHeld ?_
      refine Aa 16 hHeld ?_
      refine Aa 17 hHeld ?_
      refine Aa 18 hHeld ?_
      refine Aa 19 hHeld ?_
      refine Aa 20 hHeld ?_
      refine Aa 21 hHeld ?_
      refine Aa 22 hHeld ?_
      refine Aa 23 hHeld ?_
      refine Aa 24 hHeld ?_
      refine Aa 25 hHeld ?_
      refine Aa 26 hHeld ?_
      refine Aa 27 hHeld ?_
      refine Aa 28 hHeld ?_
      refine wpAnyH_done (by kernel_rfl) ?_ _
      clear hHeld
      by_cases hl : ltB y.1 x.1=true
      ·rw [hl]
       go_wp2
       go_roundw
       case rel=>
        refine ⟨m+1+1,by omega,by go_num,HST.out hf,?_,BD⟩
        have h1:=HR.out
        rw [Nat.add_sub_cancel] at h1 ⊢
        rw [h1,HNX.out,hl]
        rfl
       case measure=>simp [intOf]; omega
      ·have hl:=Bool.eq_false_iff.2 hl
       rw [hl]
       go_wp2
       go_ret
       have h1:=HR.out
       rw [Nat.add_sub_cancel,HNX.out,hl] at h1
       exact ⟨Al (by rw [h1]; simp),BD⟩
    ·have q0:=Bool.eq_false_iff.2 q0
     have hf:=Gv (.inl q0)
     go_wp2_with fail
     refine (D3 _ x.1).mono ?_
     rintro e w2 ⟨rfl,rfl⟩
     rw [q0]
     go_wp2_with fail
     refine wp_region_held_drew (S:=fun W=>W.cell? ⟨b,off+(m+1) * 2,none⟩=some (.string (Ab x.1))∧W.cell? ⟨b,off+(m+1) * 2+1,none⟩=some (.string (Ab x.2))∧W.cell? ⟨b,off+m * 2,none⟩=some (.string (Ab y.1))) (by kernel_rfl) (⟨k0,k1,d0⟩) (fun hHeld=>?_)
     refine Aa 0 hHeld ?_
     refine Aa 1 hHeld ?_
     refine Aa 2 hHeld ?_
     refine Ae 3 hHeld ?_
     refine Ae 4 hHeld ?_
     refine Ae 5 hHeld ?_
     refine Ae 6 hHeld ?_
     refine Ae 7 hHeld ?_
     refine Ae 8 hHeld ?_
     refine Ae 9 hHeld ?_
     refine Aa 10 hHeld ?_
     refine Aa 11 hHeld ?_
     refine Ae 12 hHeld ?_
     refine Ae 13 hHeld ?_
     refine Ae 14 hHeld ?_
     refine Ae 15 hHeld ?_
     refine Ae 16 hHeld ?_
     refine Ae 17 hHeld ?_
     refine Ae 18 hHeld ?_
     refine Ae 19 hHeld ?_
     refine Ae 20 hHeld ?_
     refine Ae 21 hHeld ?_
     refine Ae 22 hHeld ?_
     refine Ae 23 hHeld ?_
     refine Ae 24 hHeld ?_
     refine Ae 25 hHeld ?_
     refine Ae 26 hHeld ?_
     refine Ae 27 hHeld ?_
     refine Aa 28 hHeld ?_
     refine wpAnyH_done (by kernel_rfl) ?_ _
     clear hHeld
     go_wp2
     go_ret
     exact ⟨Al (by rw [← HNO.out hf]; rfl),BD⟩
  ·obtain rfl : k=xs.length:=by omega
   have ht:=HA.out
   rw [List.take_length] at ht
   have hr:=HR.out
   rw [rise_end _ xs _ (by omega)] at hr
   go_wp2
   go_ret
   exact ⟨Al (by first | rfl | (rw [ht,hr]; rfl)),HB.out⟩
theorem flatPair_le (xs : List Ag) (h : ∀ p∈xs,A3 p=true) : (xs.flatMap Cu).length≤212 * xs.length:=by
 induction xs with
 | nil=>simp
 | cons y ys ih=>
  have h1:=ih (fun p hp=>h p (by simp [hp]))
  have h2:=h y (by simp)
  unfold A3 As at h2
  simp only [Bool.and_eq_true,decide_eq_true_eq] at h2
  have h3:=Jg y.1
  have h4:=Jg y.2
  rw [List.flatMap_cons,List.length_append,List.length_cons,N3]
  omega
theorem G2 {f : List Ag} (h : A5 ltB f=true) : f.length≤64∧∀ p∈f,A3 p=true:=by
 unfold A5 at h
 simp only [Bool.and_eq_true,decide_eq_true_eq,List.all_eq_true] at h
 exact ⟨h.1.1,fun p hp=>by unfold A3; simp only [Bool.and_eq_true,decide_eq_true_eq]; exact h.1.2 p hp⟩
set_option maxRecDepth 20000 in
set_option maxHeartbeats 1600000 in
theorem rleaf_any (w : World) (f : List Ag) (v : Value) (hv : Ls w.heap.size w 2 Ak v f) :
  Calls Tryz.prog 37 #[v] w fun e w'=>e = .returned (made (A5 ltB f) (76 :: Bv f))∧Below w.heap.size w w':=by
 have hb0 : Below w.heap.size w (w.alloc (.cells #[.string ⟨#[]⟩, .string ⟨#[]⟩] 38)):=(Below.refl _ _).alloc (Nat.le_refl _) _
 have x0:=heap_last w (.cells #[.string ⟨#[]⟩, .string ⟨#[]⟩] 38) _ rfl
 have hv0:=hv.keep hb0
 generalize hw0 : w.alloc (.cells #[.string ⟨#[]⟩, .string ⟨#[]⟩] 38)=w0 at *
 have HW:=Ac hw0
 have hR:=Oa w0 f v (hv0.up hb0.size)
 have HV:=Ac hv0
 obtain ⟨ao,cap,rfl,g1,g2,-⟩:=hv0
 unfold maxLen at g2
 clear hv hw0
 obtain ⟨q,hq⟩ : ∃ q,A5 ltB f=q:=⟨_,rfl⟩
 rw [hq] at hR ⊢
 obtain ⟨ra,rb,rk,hm⟩:=made_form q (76 :: Bv f)
 rw [hm]
 have HM:=Ac hm
 clear hm
 go_enter Tryz.func37,Tryz.ntmps37
 go_wp2_with fail
 try rw [HW.out]
 refine hR.mono ?_
 rintro e w1 ⟨rfl,hb1⟩
 have x1:=(hb1.block _ (Ad x0)).trans x0
 have B1 : Below w0.heap.size w0 w1:=hb1
 have o1:=ow_one w1 76
 rw [show ((76 : UInt8).toNat : Int)=76 from rfl] at o1
 have hb2 : Below w1.heap.size w1 (w1.alloc (.cells #[.int .u8 76] 5)):=(Below.refl _ _).alloc (Nat.le_refl _) _
 have x2:=(hb2.block _ (Ad x1)).trans x1
 have n2:=El f.length
 have B2:=B1.trans (hb2.mono B1.size)
 have y1:=Ad x1
 have s2:=hb2.size
 clear hR hb1 hb2 x1
 go_wp2_with fail
 generalize hw2 : w1.alloc (.cells #[.int .u8 76] 5)=w2 at *
 clear hw2
 refine (rnum_any w2 (f.length : Int) ⟨by omega,by omega⟩).mono ?_
 rintro e w5 ⟨u5,rfl,own5,hb5⟩
 have s5:=hb5.size
 obtain ⟨v6,w6,run6,o6,hb6⟩:=(o1.keep hb5).app own5 n2.1 (by simp only [List.length_cons,List.length_nil]; omega) (by omega)
 have R6:=Ac run6
 have x6:=(hb6.block _ y1).trans ((hb5.block _ (Ad x2)).trans x2)
 have B6:=(B2.trans (hb5.mono B2.size)).trans (hb6.mono B1.size)
 have s6:=hb6.size
 clear run6 own5 o1 hb5 hb6 x2 B2
 go_wp2_with (at_builtin; refine wpList_plain rfl (fun K hK=>Cz (.tmp 9) (.tmp 12) 137 rfl rfl rfl R6.out (hK _ _ ?_)))
 go_wp2_with fail
 clear R6
 cases q with
 | false=>
  go_loopw [5,6] (fun s t wr=>s=v6∧t = .int .i64 0∧wr=w6) (fun _ _ _=>0)
  case atStart=>exact ⟨rfl,rfl,rfl⟩
  case round=>
   obtain ⟨rfl,rfl,rfl⟩:=hrel
   have hp:=rput_any _ _ _ false o6.sl (by simp)
   rw [Ih,← Ih (76 :: Bv f),HM.out] at hp
   have hcase : f.length=0∨0<f.length:=by omega
   rcases hcase with hl | hl
   all_goals
    go_wp2_with fail
    refine hp.mono ?_
    rintro e w7 ⟨rfl,hb7⟩
    have x7:=(hb7.block _ (Ad x6)).trans x6
    have B7:=hb0.trans ((B6.mono hb0.size).trans (hb7.mono (Nat.le_trans hb0.size B6.size)))
    have e0:=rc (i:=0) x7 rfl
    have e1:=rc (i:=1) x7 rfl
    have f0:=Af (j:=0) x7
    have f1:=Af (j:=1) x7
    clear hb7
    go_wp2
    refine bodyPost_ret (Aq rfl _ _ _ _ _ _ _ rfl (Cm x7) Tryz.underlying38 rfl Tryz.infoObj) rfl ⟨rfl,?_⟩
    exact (B7.setCell (p:=⟨w.heap.size,0,none⟩) (by simp) _).setCell (p:=⟨w.heap.size,1,none⟩) (by simp) _
 | true=>
  obtain ⟨hlen,hparts⟩:=G2 hq
  have hm : (76 :: Bv f) = [76]++num f.length++f.flatMap Cu:=by simp [Bv,Dv]
  have hM:=HM.out
  rw [hm] at hM
  have o6' : Ow w1.heap.size w6 v6 ([76]++num f.length++(f.take 0).flatMap Cu):=by simpa using o6
  generalize hL : [76]++num f.length=L at *
  have hLl : L.length≤11:=by rw [← hL]; simp only [List.length_append,List.length_cons,List.length_nil]; omega
  have HM2:=Ac hM
  clear hL hm o6 hM HM
  go_loopw [5,6] (fun s t wr=>∃ (k : Nat) (a : Option Addr) (n c : Nat),k≤f.length∧s = .slice a n c∧t = .int .i64 k∧Ow w1.heap.size wr (.slice a n c) (L++(f.take k).flatMap Cu)∧Below w1.heap.size w6 wr) (fun _ t _=>f.length - (intOf t).toNat)
  case atStart=>
   obtain ⟨a6,n6,c6,rfl⟩:=o6'.form
   exact ⟨0,a6,n6,c6,by omega,rfl,rfl,o6',Below.refl _ _⟩
  case round=>
   obtain ⟨k,an,nn,cn,hk,rfl,rfl,ok,hbk⟩:=hrel
   have xr:=(hbk.block _ y1).trans x6
   have sr:=hbk.size
   have hfl : ((f.take k).flatMap Cu).length≤212 * 64:=by
    have h1:=flatPair_le (f.take k) (fun p hp=>hparts p (List.mem_of_mem_take hp))
    have h2 : (f.take k).length≤k:=by rw [List.length_take]; omega
    omega
   have HK:=Ac hbk
   clear hbk
   by_cases hlt : k<f.length
   ·have hpk:=hparts f[k] (List.getElem_mem hlt)
    unfold A3 As at hpk
    simp only [Bool.and_eq_true,decide_eq_true_eq] at hpk
    obtain ⟨ao',cap',he,-,-,h4⟩:=HV.out
    obtain ⟨b,off,rfl,hbB,hc⟩:=h4 (by intro e; rw [e] at hlt; simp at hlt)
    injection he with he _ he2
    subst he he2
    have hst : (f.take (k+1)).flatMap Cu=(f.take k).flatMap Cu++(txt f[k].1++txt f[k].2):=by
     rw [List.take_succ_eq_append_getElem hlt,List.flatMap_append]
     simp [Cu]
    have hcell : ∀ i u,(Ak f[k])[i]? = some u→∀ W,Below w1.heap.size w6 W→W.cell? ⟨b,off+k * 2+i,none⟩=some u:=fun i u hu W hW=>by
     have sw:=hb0.size
     have sw1:=B1.size
     exact (hW.cell (p:=⟨b,off+k * 2+i,none⟩) (by show b<_; omega)).trans ((B6.cell (p:=⟨b,off+k * 2+i,none⟩) (by show b<_; omega)).trans (hc k hlt i u hu))
    have HST:=Ac hst
    generalize f[k]=x at *
    have HC1:=Ac (hcell 1 _ rfl)
    have k0:=hcell 0 _ rfl _ HK.out
    simp only [Nat.add_zero] at k0
    have nx:=Jg x.1
    have ny:=Jg x.2
    clear hcell hst hc
    go_wp2_with fail
    refine (rtext_any wr x.1 (by omega)).mono ?_
    rintro e w7 ⟨u7,rfl,own7,hb7⟩
    have s7:=hb7.size
    obtain ⟨v8,w8,run8,o8,hb8⟩:=(ok.keep hb7).app own7 nx.1 (by rw [List.length_append]; omega) (by omega)
    obtain ⟨a8,n8,c8,rfl⟩:=o8.form
    obtain ⟨a7,n7,c7,rfl⟩:=Ow.form own7
    have R8:=Ac run8
    have K8:=(HK.out.trans (hb7.mono (by omega))).trans hb8
    have s8:=hb8.size
    have k1:=HC1.out _ K8
    clear run8 own7 ok hb7 hb8 k0
    go_wp2_with (at_builtin; refine wpList_plain rfl (fun K hK=>Cz (.tmp 23) (.tmp 29) 137 rfl rfl rfl R8.out (hK _ _ ?_)))
    clear R8
    go_wp2_with fail
    refine (rtext_any w8 x.2 (by omega)).mono ?_
    rintro e w9 ⟨u9,rfl,own9,hb9⟩
    have s9:=hb9.size
    obtain ⟨v10,w10,run10,o10,hb10⟩:=(o8.keep hb9).app own9 ny.1 (by simp only [List.length_append]; omega) (by omega)
    obtain ⟨a10,n10,c10,rfl⟩:=o10.form
    obtain ⟨a9,n9,c9,rfl⟩:=Ow.form own9
    have R10:=Ac run10
    have K10:=(K8.trans (hb9.mono (by omega))).trans hb10
    have O10 : Hid (Ow w1.heap.size w10 (.slice a10 n10 c10) (L++(f.take (k+1)).flatMap Cu)):=Ac (by rw [HST.out]; simpa using o10)
    clear run10 own9 o8 o10 hb9 hb10 K8 k1 xr
    go_wp2_with (at_builtin; refine wpList_plain rfl (fun K hK=>Cz (.tmp 31) (.tmp 37) 137 rfl rfl rfl R10.out (hK _ _ ?_)))
    go_wp2
    go_roundw
    case rel=>exact ⟨k+1,a10,n10,c10,by omega,rfl,by go_num,O10.out,K10⟩
    case measure=>simp [intOf]; omega
   ·obtain rfl : k=f.length:=by omega
    rw [List.take_length] at ok hfl
    have hp:=rput_any _ _ _ true ok.sl (by intro _; rw [List.length_append]; omega)
    rw [HM2.out] at hp
    clear hfl ok
    go_wp2_with fail
    refine hp.mono ?_
    rintro e w7 ⟨rfl,hb7⟩
    have x7:=(hb7.block _ (Ad xr)).trans xr
    have B6':=B6.trans (HK.out.mono B1.size)
    have B7:=hb0.trans ((B6'.mono hb0.size).trans (hb7.mono (Nat.le_trans hb0.size B6'.size)))
    have e0:=rc (i:=0) x7 rfl
    have e1:=rc (i:=1) x7 rfl
    have f0:=Af (j:=0) x7
    have f1:=Af (j:=1) x7
    clear hb7
    go_wp2
    refine bodyPost_ret (Aq rfl _ _ _ _ _ _ _ rfl (Cm x7) Tryz.underlying38 rfl Tryz.infoObj) rfl ⟨rfl,?_⟩
    exact (B7.setCell (p:=⟨w.heap.size,0,none⟩) (by simp) _).setCell (p:=⟨w.heap.size,1,none⟩) (by simp) _
end Go.Proofs.YtckejblkppllaaaGreatDoor
