/-
  A branch, looked at and made by the reference. Conditions: its links lie there.
-/
import Derived.Test.YtckejblkppllaaaGreatDoorT13ORLeaf
namespace Go.Proofs.YtckejblkppllaaaGreatDoor
open Go.RowKit
def A6 (p : Ah) : Bool:=As p.1 && Ci p.2.1 && decide (1≤p.2.2) && decide (p.2.2≤4096)
theorem F8 {x : Ah} (h : As x.1=false∨Ci x.2.1=false∨x.2.2<1∨4096<x.2.2) : A6 x=false:=by
 unfold A6
 rcases h with h | h | h | h
 ·rw [h]; rfl
 ·rw [h]; simp
 ·rw [decide_eq_false (by omega : ¬ 1≤x.2.2)]; simp
 ·rw [decide_eq_false (by omega : ¬ x.2.2≤4096)]; simp
theorem I9 (f : Dx) (h : Dw f.1=true) (h1 : 1≤f.2.length) (h2 : f.2.length≤64) : A4 ltB f=(f.2.all A6 && Bd ltB (f.2.map (·.1)) && decide ((f.2.map (·.2.2)).sum≤4096)):=by
 unfold A4
 rw [within_alike _ _ (by omega),h,decide_eq_true (show 1≤f.2.length∧f.2.length≤64 from ⟨h1,h2⟩)]
 rw [Bool.eq_iff_iff]
 simp only [A6,Bool.and_eq_true,List.all_eq_true,decide_eq_true_eq,List.mem_map,forall_exists_index,and_imp]
 constructor
 ·rintro ⟨⟨⟨_,g1⟩,g2⟩,g3,g4⟩
  exact ⟨⟨fun x hx=>⟨⟨g1 x hx,(g3 _ x hx rfl).1⟩,(g3 _ x hx rfl).2⟩,g2⟩,g4⟩
 ·rintro ⟨⟨g1,g2⟩,g4⟩
  exact ⟨⟨⟨by simp,fun x hx=>(g1 x hx).1.1⟩,g2⟩,fun n x hx e=>by subst e; exact ⟨(g1 x hx).1.2,(g1 x hx).2⟩,g4⟩
theorem sum_stepL (xs : List Ah) (k : Nat) (h : k<xs.length) : ((xs.take (k+1)).map (·.2.2)).sum=((xs.take k).map (·.2.2)).sum+xs[k].2.2:=by
 rw [List.take_succ_eq_append_getElem h,List.map_append,List.sum_append]
 simp only [List.map_cons,List.map_nil,List.sum_cons,List.sum_nil,Int.add_zero]
theorem sum_smallL (xs : List Ah) (k : Nat) (hk : k≤64) (h : (xs.take k).all A6=true) : 0≤((xs.take k).map (·.2.2)).sum∧((xs.take k).map (·.2.2)).sum≤4096 * 64:=by
 have key : ∀ ys : List Ah,ys.all A6=true→0≤(ys.map (·.2.2)).sum∧(ys.map (·.2.2)).sum≤4096 * ys.length:=by
  intro ys
  induction ys with
  | nil=>intro _; simp
  | cons y ys ih=>
   intro g
   simp only [List.all_cons,Bool.and_eq_true] at g
   have g1:=ih g.2
   have g2:=g.1
   unfold A6 at g2
   simp only [Bool.and_eq_true,decide_eq_true_eq] at g2
   simp only [List.map_cons,List.sum_cons,List.length_cons]
   omega
 have h1:=key _ h
 have h2 : (xs.take k).length≤k:=by rw [List.length_take]; omega
 omega
set_option maxRecDepth 20000 in
set_option maxHeartbeats 3200000 in
theorem O0 (w : World) (f : Dx) (v : Value) (hv : Ls w.heap.size w 3 Au v f.2) :
  Calls Tryz.prog 149 #[.agg #[.int .i64 f.1,v]] w fun e w'=>e = .returned (.bool (A4 ltB f))∧Below w.heap.size w w':=by
 have hb0 : Below w.heap.size w (w.alloc (.cells #[.int .i64 f.1,v] 129)):=(Below.refl _ _).alloc (Nat.le_refl _) _
 have x0:=heap_last w (.cells #[.int .i64 f.1,v] 129) _ rfl
 have hv0:=hv.keep hb0
 obtain ⟨lv,xs⟩:=f
 simp only at *
 obtain ⟨ao,cap,rfl,g1,g2,h4⟩:=hv0
 unfold maxLen at g2
 have c0:=rc (i:=0) x0 rfl
 have c1:=rc (i:=1) x0 rfl
 have hlt0:=Ad x0
 have hsz0:=hb0.size
 clear hv
 generalize hw0 : w.alloc (.cells #[.int .i64 lv, .slice ao xs.length cap] 129)=w0 at *
 have HW:=Ac hw0
 clear hw0
 by_cases ha : lv<1
 ·have hok : A4 ltB (lv,xs)=false:=by unfold A4 Dw; simp; omega
  rw [hok]
  go_enter Tryz.func149,Tryz.ntmps149
  go_wp2_with fail
  try rw [HW.out]
  go_wp2
  go_ret
  exact ⟨rfl,hb0⟩
 by_cases hb : 20<lv
 ·have hok : A4 ltB (lv,xs)=false:=by unfold A4 Dw; simp; omega
  rw [hok]
  go_enter Tryz.func149,Tryz.ntmps149
  go_wp2_with fail
  try rw [HW.out]
  go_wp2
  go_ret
  exact ⟨rfl,hb0⟩
 by_cases hc : xs.length<1
 ·have hok : A4 ltB (lv,xs)=false:=by unfold A4 Dw; simp; omega
  rw [hok]
  go_enter Tryz.func149,Tryz.ntmps149
  go_wp2_with fail
  try rw [HW.out]
  go_wp2
  go_ret
  exact ⟨rfl,hb0⟩
 by_cases hd : 64<xs.length
 ·have hok : A4 ltB (lv,xs)=false:=by unfold A4 Dw; simp; omega
  rw [hok]
  go_enter Tryz.func149,Tryz.ntmps149
  go_wp2_with fail
  try rw [HW.out]
  go_wp2
  go_ret
  exact ⟨rfl,hb0⟩
 have hok:=I9 (lv,xs) (by unfold Dw; simp; omega) (by simp only; omega) (by simp only; omega)
 simp only at hok
 rw [hok]
 clear hok
 go_enter Tryz.func149,Tryz.ntmps149
 go_wp2_with fail
 try rw [HW.out]
 go_wp2_with fail
 go_loopw [3,4] (fun s t wr=>∃ k : Nat,k≤xs.length∧t = .int .i64 k∧s = .int .i64 ((xs.take k).map (·.2.2)).sum∧(xs.take k).all A6=true∧Bd ltB (xs.map (·.1))=Bd ltB ((xs.drop (k - 1)).map (·.1))∧Below w0.heap.size w0 wr)
  (fun _ t _=>xs.length - (intOf t).toNat)
 case atStart=>exact ⟨0,by omega,rfl,by simp,by simp,by simp,Below.refl _ _⟩
 case round=>
  obtain ⟨k,hk,rfl,rfl,hall,hri,hbr⟩:=hrel
  have HA:=Ac hall
  have HR:=Ac hri
  have c1:=(hbr.cell (p:=⟨w.heap.size,1,none⟩) hlt0).trans c1
  have hBr:=hb0.trans (hbr.mono hsz0)
  have HB:=Ac hbr
  clear hall hri
  by_cases hlt : k<xs.length
  ·obtain ⟨b,off,rfl,hbB,hcl⟩:=h4 (by rintro rfl; simp at hlt)
   have hst:=I8 A6 xs k hlt HA.out
   have hno:=I6 A6 xs k hlt
   have hsm:=sum_smallL xs k (by omega) HA.out
   have hss:=sum_stepL xs k hlt
   have k0:=(HB.out.cell (p:=⟨b,off+k * 3+0,none⟩) (Nat.lt_of_lt_of_le hbB hsz0)).trans (hcl k hlt 0 _ rfl)
   have k1:=(HB.out.cell (p:=⟨b,off+k * 3+1,none⟩) (Nat.lt_of_lt_of_le hbB hsz0)).trans (hcl k hlt 1 _ rfl)
   have k2:=(HB.out.cell (p:=⟨b,off+k * 3+2,none⟩) (Nat.lt_of_lt_of_le hbB hsz0)).trans (hcl k hlt 2 _ rfl)
   simp only [Nat.add_zero] at k0
   have HST:=Ac hst
   have HNO:=Ac hno
   have SS:=Ac hss
   clear hst hno hss hbr
   cases k with
   | zero=>
    simp only [Nat.zero_mul,Nat.add_zero] at k0 k1 k2
    generalize xs[0]=x at *
    clear hcl h4
    have hba : Below wr.heap.size wr (wr.alloc (.cells #[.string (Ab x.1), .string (Ab x.2.1), .int .i64 x.2.2] 125)):=(Below.refl _ _).alloc (Nat.le_refl _) _
    have za:=heap_last wr (.cells #[.string (Ab x.1), .string (Ab x.2.1), .int .i64 x.2.2] 125) _ rfl
    have a0:=rc (i:=0) za rfl
    have a1:=rc (i:=1) za rfl
    have a2:=rc (i:=2) za rfl
    have HBa:=Ac (HB.out.trans (hba.mono HB.out.size))
    have hBa:=hBr.trans (hba.mono hBr.size)
    have c1:=(hba.cell (p:=⟨w.heap.size,1,none⟩) (Nat.lt_of_lt_of_le hlt0 HB.out.size)).trans c1
    clear hba za
    by_cases q0 : As x.1=true
    ·by_cases q1 : Ci x.2.1=true
     ·by_cases q2 : x.2.2<1
      ·have hf:=F8 (.inr (.inr (.inl q2)))
       go_wp2_with fail
       generalize hwa : wr.alloc (.cells #[.string (Ab x.1), .string (Ab x.2.1), .int .i64 x.2.2] 125)=wa at *
       generalize hlk : wr.heap.size=lk at *
       clear hwa hlk
       refine (D3 _ x.1).mono ?_
       rintro e w2 ⟨rfl,rfl⟩
       rw [q0]
       go_wp2_with fail
       refine (Fd _ x.2.1).mono ?_
       rintro e w3 ⟨rfl,rfl⟩
       rw [q1]
       go_wp2_with fail
       refine wp_region_held_drew (S:=fun W=>W.cell? ⟨lk,0,none⟩=some (.string (Ab x.1))∧W.cell? ⟨lk,2,none⟩=some (.int .i64 x.2.2)) (by kernel_rfl) (⟨a0,a2⟩) (fun hHeld=>?_)
       refine Aa 0 hHeld ?_
       refine Aa 1 hHeld ?_
       refine Aa 2 hHeld ?_
       refine Aa 3 hHeld ?_
       refine Aa 4 hHeld ?_
       refine Aa 5 hHeld ?_
       refine Aa 6 hHeld ?_
       refine Aa 7 hHeld ?_
       refine Aa 8 hHeld ?_
       refine Aa 9 hHeld ?_
       refine Aa 10 hHeld ?_
       refine Aa 11 hHeld ?_
       refine Ae 12 hHeld ?_
       refine Ae 13 hHeld ?_
       refine Ae 14 hHeld ?_
       refine Aa 15 hHeld ?_
       refine Aa 16 hHeld ?_
       refine Ae 17 hHeld ?_
       refine Ae 18 hHeld ?_
       refine Ae 19 hHeld ?_
       refine Ae 20 hHeld ?_
       refine Ae 21 hHeld ?_
       refine Ae 22 hHeld ?_
       refine Ae 23 hHeld ?_
       refine Ae 24 hHeld ?_
       refine Ae 25 hHeld ?_
       refine Ae 26 hHeld ?_
       refine Ae 27 hHeld ?_
       refine Ae 28 hHeld ?_
       refine Ae 29 hHeld ?_
       refine Ae 30 hHeld ?_
       refine Aa 31 hHeld ?_
       refine wpAnyH_done (by kernel_rfl) ?_ _
       clear hHeld
       go_wp2
       go_ret
       exact ⟨Al (by rw [← HNO.out hf]; rfl),hBa.drew⟩
      ·have q2' : decide (x.2.2<1)=false:=decide_eq_false q2
       by_cases q3 : 4096<x.2.2
       ·have hf:=F8 (.inr (.inr (.inr q3)))
        go_wp2_with fail
        generalize hwa : wr.alloc (.cells #[.string (Ab x.1), .string (Ab x.2.1), .int .i64 x.2.2] 125)=wa at *
        generalize hlk : wr.heap.size=lk at *
        clear hwa hlk
        refine (D3 _ x.1).mono ?_
        rintro e w2 ⟨rfl,rfl⟩
        rw [q0]
        go_wp2_with fail
        refine (Fd _ x.2.1).mono ?_
        rintro e w3 ⟨rfl,rfl⟩
        rw [q1]
        go_wp2_with fail
        refine wp_region_held_drew (S:=fun W=>W.cell? ⟨lk,0,none⟩=some (.string (Ab x.1))∧W.cell? ⟨lk,2,none⟩=some (.int .i64 x.2.2)) (by kernel_rfl) (⟨a0,a2⟩) (fun hHeld=>?_)
        refine Aa 0 hHeld ?_
        refine Aa 1 hHeld ?_
        refine Aa 2 hHeld ?_
        refine Aa 3 hHeld ?_
        refine Aa 4 hHeld ?_
        refine Aa 5 hHeld ?_
        refine Aa 6 hHeld ?_
        refine Aa 7 hHeld ?_
        refine Aa 8 hHeld ?_
        refine Aa 9 hHeld ?_
        refine Aa 10 hHeld ?_
        refine Aa 11 hHeld ?_
        refine Aa 12 hHeld ?_
        refine Aa 13 hHeld ?_
        refine Aa 14 hHeld ?_
        refine Aa 15 hHeld ?_
        refine Aa 16 hHeld ?_
        refine Ae 17 hHeld ?_
        refine Ae 18 hHeld ?_
        refine Ae 19 hHeld ?_
        refine Ae 20 hHeld ?_
        refine Ae 21 hHeld ?_
        refine Ae 22 hHeld ?_
        refine Ae 23 hHeld ?_
        refine Ae 24 hHeld ?_
        refine Ae 25 hHeld ?_
        refine Ae 26 hHeld ?_
        refine Ae 27 hHeld ?_
        refine Ae 28 hHeld ?_
        refine Ae 29 hHeld ?_
        refine Ae 30 hHeld ?_
        refine Aa 31 hHeld ?_
        refine wpAnyH_done (by kernel_rfl) ?_ _
        clear hHeld
        go_wp2
        go_ret
        exact ⟨Al (by rw [← HNO.out hf]; rfl),hBa.drew⟩
       ·have q3' : decide (4096<x.2.2)=false:=decide_eq_false q3
        have hf : A6 x=true:=by unfold A6; rw [q0,q1,decide_eq_true (by omega : 1≤x.2.2),decide_eq_true (by omega : x.2.2≤4096)]; rfl
        have hwr : IntKind.i64.wrap (((xs.take 0).map (·.2.2)).sum+x.2.2)=((xs.take 0).map (·.2.2)).sum+x.2.2:=by rw [IntKind.wrap_i64]; omega
        generalize ((xs.take 0).map (·.2.2)).sum=Sm at *
        go_wp2_with fail
        generalize hwa : wr.alloc (.cells #[.string (Ab x.1), .string (Ab x.2.1), .int .i64 x.2.2] 125)=wa at *
        generalize hlk : wr.heap.size=lk at *
        clear hwa hlk
        refine (D3 _ x.1).mono ?_
        rintro e w2 ⟨rfl,rfl⟩
        rw [q0]
        go_wp2_with fail
        refine (Fd _ x.2.1).mono ?_
        rintro e w3 ⟨rfl,rfl⟩
        rw [q1]
        go_wp2_with fail
        refine wp_region_held_drew (S:=fun W=>W.cell? ⟨lk,0,none⟩=some (.string (Ab x.1))∧W.cell? ⟨lk,2,none⟩=some (.int .i64 x.2.2)) (by kernel_rfl) (⟨a0,a2⟩) (fun hHeld=>?_)
        refine Aa 0 hHeld ?_
        refine Aa 1 hHeld ?_
        refine Aa 2 hHeld ?_
        refine Aa 3 hHeld ?_
        refine Aa 4 hHeld ?_
        refine Aa 5 hHeld ?_
        refine Aa 6 hHeld ?_
        refine Aa 7 hHeld ?_
        refine Aa 8 hHeld ?_
        refine Aa 9 hHeld ?_
        refine Aa 10 hHeld ?_
        refine Aa 11 hHeld ?_
        refine Aa 12 hHeld ?_
        refine Aa 13 hHeld ?_
        refine Aa 14 hHeld ?_
        refine Aa 15 hHeld ?_
        refine Aa 16 hHeld ?_
        refine Aa 17 hHeld ?_
        refine Aa 18 hHeld ?_
        refine Aa 19 hHeld ?_
        refine Ae 20 hHeld ?_
        refine Ae 21 hHeld ?_
        refine Ae 22 hHeld ?_
        refine Ae 23 hHeld ?_
        refine Ae 24 hHeld ?_
        refine Ae 25 hHeld ?_
        refine Ae 26 hHeld ?_
        refine Ae 27 hHeld ?_
        refine Ae 28 hHeld ?_
        refine Ae 29 hHeld ?_
        refine Aa 30 hHeld ?_
        refine Aa 31 hHeld ?_
        refine wpAnyH_done (by kernel_rfl) ?_ _
        clear hHeld
        have a2 : w3.drew.cell? ⟨lk,2,none⟩=some (.int .i64 x.2.2):=a2
        go_wp2
        go_roundw
        case rel=>exact ⟨1,by omega,by go_num,by rw [SS.out],HST.out hf,HR.out,HBa.out.drew⟩
        case measure=>simp [intOf]; omega
     ·have q1:=Bool.eq_false_iff.2 q1
      have hf:=F8 (.inr (.inl q1))
      go_wp2_with fail
      generalize hwa : wr.alloc (.cells #[.string (Ab x.1), .string (Ab x.2.1), .int .i64 x.2.2] 125)=wa at *
      generalize hlk : wr.heap.size=lk at *
      clear hwa hlk
      refine (D3 _ x.1).mono ?_
      rintro e w2 ⟨rfl,rfl⟩
      rw [q0]
      go_wp2_with fail
      refine (Fd _ x.2.1).mono ?_
      rintro e w3 ⟨rfl,rfl⟩
      rw [q1]
      go_wp2_with fail
      refine wp_region_held_drew (S:=fun W=>W.cell? ⟨lk,0,none⟩=some (.string (Ab x.1))∧W.cell? ⟨lk,2,none⟩=some (.int .i64 x.2.2)) (by kernel_rfl) (⟨a0,a2⟩) (fun hHeld=>?_)
      refine Aa 0 hHeld ?_
      refine Aa 1 hHeld ?_
      refine Aa 2 hHeld ?_
      refine Aa 3 hHeld ?_
      refine Aa 4 hHeld ?_
      refine Aa 5 hHeld ?_
      refine Aa 6 hHeld ?_
      refine Ae 7 hHeld ?_
      refine Ae 8 hHeld ?_
      refine Ae 9 hHeld ?_
      refine Aa 10 hHeld ?_
      refine Aa 11 hHeld ?_
      refine Ae 12 hHeld ?_
      refine Ae 13 hHeld ?_
      refine Ae 14 hHeld ?_
      refine Aa 15 hHeld ?_
      refine Aa 16 hHeld ?_
      refine Ae 17 hHeld ?_
      refine Ae 18 hHeld ?_
      refine Ae 19 hHeld ?_
      refine Ae 20 hHeld ?_
      refine Ae 21 hHeld ?_
      refine Ae 22 hHeld ?_
      refine Ae 23 hHeld ?_
      refine Ae 24 hHeld ?_
      refine Ae 25 hHeld ?_
      refine Ae 26 hHeld ?_
      refine Ae 27 hHeld ?_
      refine Ae 28 hHeld ?_
      refine Ae 29 hHeld ?_
      refine Ae 30 hHeld ?_
      refine Aa 31 hHeld ?_
      refine wpAnyH_done (by kernel_rfl) ?_ _
      clear hHeld
      go_wp2
      go_ret
      exact ⟨Al (by rw [← HNO.out hf]; rfl),hBa.drew⟩
    ·have q0:=Bool.eq_false_iff.2 q0
     have hf:=F8 (.inl q0)
     obtain ⟨qi,hqi⟩ : ∃ q,Ci x.2.1=q:=⟨_,rfl⟩
     go_wp2_with fail
     generalize hwa : wr.alloc (.cells #[.string (Ab x.1), .string (Ab x.2.1), .int .i64 x.2.2] 125)=wa at *
     generalize hlk : wr.heap.size=lk at *
     clear hwa hlk
     refine (D3 _ x.1).mono ?_
     rintro e w2 ⟨rfl,rfl⟩
     rw [q0]
     go_wp2_with fail
     refine (Fd _ x.2.1).mono ?_
     rintro e w3 ⟨rfl,rfl⟩
     rw [hqi]
     go_wp2_with fail
     refine wp_region_held_drew (S:=fun W=>W.cell? ⟨lk,0,none⟩=some (.string (Ab x.1))∧W.cell? ⟨lk,2,none⟩=some (.int .i64 x.2.2)) (by kernel_rfl) (⟨a0,a2⟩) (fun hHeld=>?_)
     refine Aa 0 hHeld ?_
     refine Aa 1 hHeld ?_
     refine Aa 2 hHeld ?_
     refine Ae 3 hHeld ?_
     refine Ae 4 hHeld ?_
     refine Aa 5 hHeld ?_
     refine Aa 6 hHeld ?_
     refine Ae 7 hHeld ?_
     refine Ae 8 hHeld ?_
     refine Ae 9 hHeld ?_
     refine Aa 10 hHeld ?_
     refine Aa 11 hHeld ?_
     refine Ae 12 hHeld ?_
     refine Ae 13 hHeld ?_
     refine Ae 14 hHeld ?_
     refine Aa 15 hHeld ?_
     refine Aa 16 hHeld ?_
     refine Ae 17 hHeld ?_
     refine Ae 18 hHeld ?_
     refine Ae 19 hHeld ?_
     refine Ae 20 hHeld ?_
     refine Ae 21 hHeld ?_
     refine Ae 22 hHeld ?_
     refine Ae 23 hHeld ?_
     refine Ae 24 hHeld ?_
     refine Ae 25 hHeld ?_
     refine Ae 26 hHeld ?_
     refine Ae 27 hHeld ?_
     refine Ae 28 hHeld ?_
     refine Ae 29 hHeld ?_
     refine Ae 30 hHeld ?_
     refine Aa 31 hHeld ?_
     refine wpAnyH_done (by kernel_rfl) ?_ _
     clear hHeld
     go_wp2
     go_ret
     exact ⟨Al (by rw [← HNO.out hf]; rfl),hBa.drew⟩
   | succ m=>
    have hnx:=rise_next (fun p : Ah=>p.1) xs m hlt
    have HNX:=Ac hnx
    clear hnx
    have d0:=(HB.out.cell (p:=⟨b,off+m * 3+0,none⟩) (Nat.lt_of_lt_of_le hbB hsz0)).trans (hcl m (by omega) 0 _ rfl)
    simp only [Nat.add_zero] at d0
    have hm0 : (0 : Int)≤(m : Int)+1:=by omega
    have hw : IntKind.i64.wrap (m : Int)=(m : Int):=by rw [IntKind.wrap_i64]; omega
    have hk1' : ((m+1 : Nat) : Int) - 1=(m : Int):=by omega
    have hml : m<xs.length:=by omega
    have hpos : (0 : Int)<(m : Int)+1:=by omega
    generalize hx : xs[m+1]=x at *
    generalize hy : xs[m]=y at *
    have hge:=Ex 9 y.1 x.1
    have hdb:=Nat.lt_of_lt_of_le (Nat.lt_of_lt_of_le hbB hsz0) HB.out.size
    clear hcl h4 hx hy
    have hba : Below wr.heap.size wr (wr.alloc (.cells #[.string (Ab x.1), .string (Ab x.2.1), .int .i64 x.2.2] 125)):=(Below.refl _ _).alloc (Nat.le_refl _) _
    have za:=heap_last wr (.cells #[.string (Ab x.1), .string (Ab x.2.1), .int .i64 x.2.2] 125) _ rfl
    have a0:=rc (i:=0) za rfl
    have a1:=rc (i:=1) za rfl
    have a2:=rc (i:=2) za rfl
    have HBa:=Ac (HB.out.trans (hba.mono HB.out.size))
    have hBa:=hBr.trans (hba.mono hBr.size)
    have c1:=(hba.cell (p:=⟨w.heap.size,1,none⟩) (Nat.lt_of_lt_of_le hlt0 HB.out.size)).trans c1
    have d0:=(hba.cell (p:=⟨b,off+m * 3,none⟩) hdb).trans d0
    clear hba za
    by_cases q0 : As x.1=true
    ·by_cases q1 : Ci x.2.1=true
     ·by_cases q2 : x.2.2<1
      ·have hf:=F8 (.inr (.inr (.inl q2)))
       go_wp2_with fail
       generalize hwa : wr.alloc (.cells #[.string (Ab x.1), .string (Ab x.2.1), .int .i64 x.2.2] 125)=wa at *
       generalize hlk : wr.heap.size=lk at *
       clear hwa hlk
       refine (D3 _ x.1).mono ?_
       rintro e w2 ⟨rfl,rfl⟩
       rw [q0]
       go_wp2_with fail
       refine (Fd _ x.2.1).mono ?_
       rintro e w3 ⟨rfl,rfl⟩
       rw [q1]
       go_wp2_with fail
       refine wp_region_held_drew (S:=fun W=>W.cell? ⟨lk,0,none⟩=some (.string (Ab x.1))∧W.cell? ⟨lk,2,none⟩=some (.int .i64 x.2.2)∧W.cell? ⟨w.heap.size,1,none⟩=some (.slice (some ⟨b,off,none⟩) xs.length cap)∧W.cell? ⟨b,off+m * 3,none⟩=some (.string (Ab y.1))) (by kernel_rfl) (⟨a0,a2,c1,d0⟩) (fun hHeld=>?_)
       refine Aa 0 hHeld ?_
       refine Aa 1 hHeld ?_
       refine Aa 2 hHeld ?_
       refine Aa 3 hHeld ?_
       refine Aa 4 hHeld ?_
       refine Aa 5 hHeld ?_
       refine Aa 6 hHeld ?_
       refine Aa 7 hHeld ?_
       refine Aa 8 hHeld ?_
       refine Aa 9 hHeld ?_
       refine Aa 10 hHeld ?_
       refine Aa 11 hHeld ?_
       refine Ae 12 hHeld ?_
       refine Ae 13 hHeld ?_
       refine Ae 14 hHeld ?_
       refine Aa 15 hHeld ?_
       refine Aa 16 hHeld ?_
       refine Ae 17 hHeld ?_
       refine Ae 18 hHeld ?_
       refine Ae 19 hHeld ?_
       refine Ae 20 hHeld ?_
       refine Ae 21 hHeld ?_
       refine Ae 22 hHeld ?_
       refine Ae 23 hHeld ?_
       refine Ae 24 hHeld ?_
       refine Ae 25 hHeld ?_
       refine Ae 26 hHeld ?_
       refine Ae 27 hHeld ?_
       refine Ae 28 hHeld ?_
       refine Ae 29 hHeld ?_
       refine Ae 30 hHeld ?_
       refine Aa 31 hHeld ?_
       refine wpAnyH_done (by kernel_rfl) ?_ _
       clear hHeld
       go_wp2
       go_ret
       exact ⟨Al (by rw [← HNO.out hf]; rfl),hBa.drew⟩
      ·have q2' : decide (x.2.2<1)=false:=decide_eq_false q2
       by_cases q3 : 4096<x.2.2
       ·have hf:=F8 (.inr (.inr (.inr q3)))
        go_wp2_with fail
        generalize hwa : wr.alloc (.cells #[.string (Ab x.1), .string (Ab x.2.1), .int .i64 x.2.2] 125)=wa at *
        generalize hlk : wr.heap.size=lk at *
        clear hwa hlk
        refine (D3 _ x.1).mono ?_
        rintro e w2 ⟨rfl,rfl⟩
        rw [q0]
        go_wp2_with fail
        refine (Fd _ x.2.1).mono ?_
        rintro e w3 ⟨rfl,rfl⟩
        rw [q1]
        go_wp2_with fail
        refine wp_region_held_drew (S:=fun W=>W.cell? ⟨lk,0,none⟩=some (.string (Ab x.1))∧W.cell? ⟨lk,2,none⟩=some (.int .i64 x.2.2)∧W.cell? ⟨w.heap.size,1,none⟩=some (.slice (some ⟨b,off,none⟩) xs.length cap)∧W.cell? ⟨b,off+m * 3,none⟩=some (.string (Ab y.1))) (by kernel_rfl) (⟨a0,a2,c1,d0⟩) (fun hHeld=>?_)
        refine Aa 0 hHeld ?_
        refine Aa 1 hHeld ?_
        refine Aa 2 hHeld ?_
        refine Aa 3 hHeld ?_
        refine Aa 4 hHeld ?_
        refine Aa 5 hHeld ?_
        refine Aa 6 hHeld ?_
        refine Aa 7 hHeld ?_
        refine Aa 8 hHeld ?_
        refine Aa 9 hHeld ?_
        refine Aa 10 hHeld ?_
        refine Aa 11 hHeld ?_
        refine Aa 12 hHeld ?_
        refine Aa 13 hHeld ?_
        refine Aa 14 hHeld ?_
        refine Aa 15 hHeld ?_
        refine Aa 16 hHeld ?_
        refine Ae 17 hHeld ?_
        refine Ae 18 hHeld ?_
        refine Ae 19 hHeld ?_
        refine Ae 20 hHeld ?_
        refine Ae 21 hHeld ?_
        refine Ae 22 hHeld ?_
        refine Ae 23 hHeld ?_
        refine Ae 24 hHeld ?_
        refine Ae 25 hHeld ?_
        refine Ae 26 hHeld ?_
        refine Ae 27 hHeld ?_
        refine Ae 28 hHeld ?_
        refine Ae 29 hHeld ?_
        refine Ae 30 hHeld ?_
        refine Aa 31 hHeld ?_
        refine wpAnyH_done (by kernel_rfl) ?_ _
        clear hHeld
        go_wp2
        go_ret
        exact ⟨Al (by rw [← HNO.out hf]; rfl),hBa.drew⟩
       ·have q3' : decide (4096<x.2.2)=false:=decide_eq_false q3
        have hf : A6 x=true:=by unfold A6; rw [q0,q1,decide_eq_true (by omega : 1≤x.2.2),decide_eq_true (by omega : x.2.2≤4096)]; rfl
        have hwr : IntKind.i64.wrap (((xs.take (m+1)).map (·.2.2)).sum+x.2.2)=((xs.take (m+1)).map (·.2.2)).sum+x.2.2:=by rw [IntKind.wrap_i64]; omega
        generalize ((xs.take (m+1)).map (·.2.2)).sum=Sm at *
        go_wp2_with fail
        generalize hwa : wr.alloc (.cells #[.string (Ab x.1), .string (Ab x.2.1), .int .i64 x.2.2] 125)=wa at *
        generalize hlk : wr.heap.size=lk at *
        clear hwa hlk
        refine (D3 _ x.1).mono ?_
        rintro e w2 ⟨rfl,rfl⟩
        rw [q0]
        go_wp2_with fail
        refine (Fd _ x.2.1).mono ?_
        rintro e w3 ⟨rfl,rfl⟩
        rw [q1]
        go_wp2_with fail
        refine wp_region_held_drew (S:=fun W=>W.cell? ⟨lk,0,none⟩=some (.string (Ab x.1))∧W.cell? ⟨lk,2,none⟩=some (.int .i64 x.2.2)∧W.cell? ⟨w.heap.size,1,none⟩=some (.slice (some ⟨b,off,none⟩) xs.length cap)∧W.cell? ⟨b,off+m * 3,none⟩=some (.string (Ab y.1))) (by kernel_rfl) (⟨a0,a2,c1,d0⟩) (fun hHeld=>?_)
        refine Aa 0 hHeld ?_
        refine Aa 1 hHeld ?_
        refine Aa 2 hHeld ?_
        refine Aa 3 hHeld ?_
        refine Aa 4 hHeld ?_
        refine Aa 5 hHeld ?_
        refine Aa 6 hHeld ?_
        refine Aa 7 hHeld ?_
        refine Aa 8 hHeld ?_
        refine Aa 9 hHeld ?_
        refine Aa 10 hHeld ?_
        refine Aa 11 hHeld ?_
        refine Aa 12 hHeld ?_
        refine Aa 13 hHeld ?_
        refine Aa 14 hHeld ?_
        refine Aa 15 hHeld ?_
        refine Aa 16 hHeld ?_
        refine Aa 17 hHeld ?_
        refine Aa 18 hHeld ?_
        refine Aa 19 hHeld ?_
        refine Aa 20 hHeld ?_
        refine Aa 21 hHeld ?_
        refine Aa 22 hHeld ?_
        refine Aa 23 hHeld ?_
        refine Aa 24 hHeld ?_
        refine Aa 25 hHeld ?_
        refine Aa 26 hHeld ?_
        refine Aa 27 hHeld ?_
        refine Aa 28 hHeld ?_
        refine Aa 29 hHeld ?_
        refine Aa 30 hHeld ?_
        refine Aa 31 hHeld ?_
        refine wpAnyH_done (by kernel_rfl) ?_ _
        clear hHeld
        have a2 : w3.drew.cell? ⟨lk,2,none⟩=some (.int .i64 x.2.2):=a2
        by_cases hl : ltB y.1 x.1=true
        ·rw [hl]
         go_wp2
         go_roundw
         case rel=>
          refine ⟨m+1+1,by omega,by go_num,by rw [SS.out],HST.out hf,?_,HBa.out.drew⟩
          have h1:=HR.out
          rw [Nat.add_sub_cancel] at h1 ⊢
          rw [h1,HNX.out,hl]
          rfl
         case measure=>simp [intOf]; omega
        ·have hl:=Bool.eq_false_iff.2 hl
         rw [hl]
         go_wp2
         go_ret
         have h1:=HR.out
         rw [Nat.add_sub_cancel,HNX.out,hl] at h1
         exact ⟨Al (by rw [h1]; simp),hBa.drew⟩
     ·have q1:=Bool.eq_false_iff.2 q1
      have hf:=F8 (.inr (.inl q1))
      go_wp2_with fail
      generalize hwa : wr.alloc (.cells #[.string (Ab x.1), .string (Ab x.2.1), .int .i64 x.2.2] 125)=wa at *
      generalize hlk : wr.heap.size=lk at *
      clear hwa hlk
      refine (D3 _ x.1).mono ?_
      rintro e w2 ⟨rfl,rfl⟩
      rw [q0]
      go_wp2_with fail
      refine (Fd _ x.2.1).mono ?_
      rintro e w3 ⟨rfl,rfl⟩
      rw [q1]
      go_wp2_with fail
      refine wp_region_held_drew (S:=fun W=>W.cell? ⟨lk,0,none⟩=some (.string (Ab x.1))∧W.cell? ⟨lk,2,none⟩=some (.int .i64 x.2.2)∧W.cell? ⟨w.heap.size,1,none⟩=some (.slice (some ⟨b,off,none⟩) xs.length cap)∧W.cell? ⟨b,off+m * 3,none⟩=some (.string (Ab y.1))) (by kernel_rfl) (⟨a0,a2,c1,d0⟩) (fun hHeld=>?_)
      refine Aa 0 hHeld ?_
      refine Aa 1 hHeld ?_
      refine Aa 2 hHeld ?_
      refine Aa 3 hHeld ?_
      refine Aa 4 hHeld ?_
      refine Aa 5 hHeld ?_
      refine Aa 6 hHeld ?_
      refine Ae 7 hHeld ?_
      refine Ae 8 hHeld ?_
      refine Ae 9 hHeld ?_
      refine Aa 10 hHeld ?_
      refine Aa 11 hHeld ?_
      refine Ae 12 hHeld ?_
      refine Ae 13 hHeld ?_
      refine Ae 14 hHeld ?_
      refine Aa 15 hHeld ?_
      refine Aa 16 hHeld ?_
      refine Ae 17 hHeld ?_
      refine Ae 18 hHeld ?_
      refine Ae 19 hHeld ?_
      refine Ae 20 hHeld ?_
      refine Ae 21 hHeld ?_
      refine Ae 22 hHeld ?_
      refine Ae 23 hHeld ?_
      refine Ae 24 hHeld ?_
      refine Ae 25 hHeld ?_
      refine Ae 26 hHeld ?_
      refine Ae 27 hHeld ?_
      refine Ae 28 hHeld ?_
      refine Ae 29 hHeld ?_
      refine Ae 30 hHeld ?_
      refine Aa 31 hHeld ?_
      refine wpAnyH_done (by kernel_rfl) ?_ _
      clear hHeld
      go_wp2
      go_ret
      exact ⟨Al (by rw [← HNO.out hf]; rfl),hBa.drew⟩
    ·have q0:=Bool.eq_false_iff.2 q0
     have hf:=F8 (.inl q0)
     obtain ⟨qi,hqi⟩ : ∃ q,Ci x.2.1=q:=⟨_,rfl⟩
     go_wp2_with fail
     generalize hwa : wr.alloc (.cells #[.string (Ab x.1), .string (Ab x.2.1), .int .i64 x.2.2] 125)=wa at *
     generalize hlk : wr.heap.size=lk at *
     clear hwa hlk
     refine (D3 _ x.1).mono ?_
     rintro e w2 ⟨rfl,rfl⟩
     rw [q0]
     go_wp2_with fail
     refine (Fd _ x.2.1).mono ?_
     rintro e w3 ⟨rfl,rfl⟩
     rw [hqi]
     go_wp2_with fail
     refine wp_region_held_drew (S:=fun W=>W.cell? ⟨lk,0,none⟩=some (.string (Ab x.1))∧W.cell? ⟨lk,2,none⟩=some (.int .i64 x.2.2)∧W.cell? ⟨w.heap.size,1,none⟩=some (.slice (some ⟨b,off,none⟩) xs.length cap)∧W.cell? ⟨b,off+m * 3,none⟩=some (.string (Ab y.1))) (by kernel_rfl) (⟨a0,a2,c1,d0⟩) (fun hHeld=>?_)
     refine Aa 0 hHeld ?_
     refine Aa 1 hHeld ?_
     refine Aa 2 hHeld ?_
     refine Ae 3 hHeld ?_
     refine Ae 4 hHeld ?_
     refine Aa 5 hHeld ?_
     refine Aa 6 hHeld ?_
     refine Ae 7 hHeld ?_
     refine Ae 8 hHeld ?_
     refine Ae 9 hHeld ?_
     refine Aa 10 hHeld ?_
     refine Aa 11 hHeld ?_
     refine Ae 12 hHeld ?_
     refine Ae 13 hHeld ?_
     refine Ae 14 hHeld ?_
     refine Aa 15 hHeld ?_
     refine Aa 16 hHeld ?_
     refine Ae 17 hHeld ?_
     refine Ae 18 hHeld ?_
     refine Ae 19 hHeld ?_
     refine Ae 20 hHeld ?_
     refine Ae 21 hHeld ?_
     refine Ae 22 hHeld ?_
     refine Ae 23 hHeld ?_
     refine Ae 24 hHeld ?_
     refine Ae 25 hHeld ?_
     refine Ae 26 hHeld ?_
     refine Ae 27 hHeld ?_
     refine Ae 28 hHeld ?_
     refine Ae 29 hHeld ?_
     refine Ae 30 hHeld ?_
     refine Aa 31 hHeld ?_
     refine wpAnyH_done (by kernel_rfl) ?_ _
     clear hHeld
     go_wp2
     go_ret
     exact ⟨Al (by rw [← HNO.out hf]; rfl),hBa.drew⟩
  ·obtain rfl : k=xs.length:=by omega
   have ht:=HA.out
   rw [List.take_length] at ht
   have hr:=HR.out
   rw [rise_end _ xs _ (by omega)] at hr
   rw [List.take_length]
   go_wp2
   go_ret
   exact ⟨Al (by first | rfl | (rw [ht,hr]; simp)),hBr⟩
theorem Ki {f : Dx} (h : A4 ltB f=true) : f.2.length≤64∧∀ p∈f.2,A6 p=true:=by
 have h':=h
 simp only [A4,Bool.and_eq_true,decide_eq_true_eq] at h
 rw [I9 f h.1.1.1.1 h.1.1.1.2.1 h.1.1.1.2.2] at h'
 simp only [Bool.and_eq_true,List.all_eq_true] at h'
 exact ⟨h.1.1.1.2.2,h'.1.1⟩
end Go.Proofs.YtckejblkppllaaaGreatDoor
