/-
  The program's nodes: their last key, how many pairs, their object; read from bytes. Conditions: lists lie there; lengths within reach; the table holds its numbers.
-/
import Derived.Test.YtckejblkppllaaaGreatDoorT22PEnd2
import Derived.Test.YtckejblkppllaaaGreatDoorT19PRMany
import Derived.Test.YtckejblkppllaaaGreatDoorT15PPlain
namespace Go.Proofs.YtckejblkppllaaaGreatDoor
open Go.RowKit
def Cy (n : A2) : Bs:=if n.2.2.length=0 then By n.2.1 else E6 n.2.2
def De (n : A2) : Ag:=if n.1=0 then Ay n.2.1 else brO n.1 n.2.2
theorem Tryz.infoNodeP : (Tryz.prog.info? 240).map (·.size)=some 3:=by kernel_rfl
theorem Dp {α : Type} {B : Nat} {w : World} {k : Nat} {cs : α→List Value} {v : Value} {xs : List α} (h : Ls B w k cs v xs) : ∃ ao cap,v = .slice ao xs.length cap∧xs.length≤cap∧cap≤maxLen:=by
 obtain ⟨ao,cap,h1,h2,h3,-⟩:=h
 exact ⟨ao,cap,h1,h2,h3⟩
set_option maxRecDepth 20000 in
set_option maxHeartbeats 800000 in
theorem Gy (w : World) (n : A2) (vk vp : Value) (hk : Ls w.heap.size w 3 Au vk n.2.2) (hp : Ls w.heap.size w 2 Ak vp n.2.1) :
  Calls Tryz.prog 181 #[.agg #[.int .i64 n.1,vk,vp]] w fun e w'=>e = .returned (.string (Ab (Cy n)))∧Below w.heap.size w w':=by
 obtain ⟨lv,ps,ks⟩:=n
 simp only at hk hp ⊢
 have hb0 : Below w.heap.size w (w.alloc (.cells #[.int .i64 lv,vk,vp] 240)):=(Below.refl _ _).alloc (Nat.le_refl _) _
 have hx0:=heap_last w (.cells #[.int .i64 lv,vk,vp] 240) _ rfl
 have hk0:=hk.keep hb0
 have hp0:=hp.keep hb0
 obtain ⟨ak,ck,rfl,k1,k2,k4⟩:=hk0
 obtain ⟨ap,cp,rfl,p1,p2,p4⟩:=hp0
 unfold maxLen at k2 p2
 generalize hw0 : w.alloc (.cells #[.int .i64 lv, .slice ak ks.length ck, .slice ap ps.length cp] 240)=w0 at *
 have c1:=cell_of_row w0 w.heap.size 1 _ _ _ hx0
 have c2:=cell_of_row w0 w.heap.size 2 _ _ _ hx0
 simp only [List.getElem?_toArray,List.getElem?_cons_zero,List.getElem?_cons_succ] at c1 c2
 have HB:=Ac hb0
 clear hb0 hx0 hk hp
 unfold Cy
 simp only
 by_cases hkl : ks.length=0
 ·rw [if_pos hkl]
  have hz : decide ((0 : Int)<(ks.length : Int))=false:=decide_eq_false (by omega)
  have hz' : decide (0<ks.length)=false:=decide_eq_false (by omega)
  clear hkl
  by_cases hpl : ps.length=0
  ·have hz2 : decide ((0 : Int)<(ps.length : Int))=false:=decide_eq_false (by omega)
   have hz2' : decide (0<ps.length)=false:=decide_eq_false (by omega)
   have HPL:=Ac hpl
   clear hpl k4 p4
   go_enter Tryz.func181,Tryz.ntmps181
   go_wp2_with fail
   try rw [hw0]
   go_wp2
   go_ret
   refine ⟨?_,HB.out⟩
   have : ps = []:=List.length_eq_zero_iff.1 HPL.out
   subst this
   rfl
  ·obtain ⟨m,hm⟩ : ∃ m,ps.length=m+1:=⟨ps.length - 1,by omega⟩
   obtain ⟨b,off,rfl,hbB,hc⟩:=p4 (by rintro rfl; simp at hpl)
   have d0:=hc m (by omega) 0 _ rfl
   simp only [Nat.add_zero] at d0
   have hlp : By ps=(ps[m]'(by omega)).1:=by rw [J6 (by omega)]; simp [hm]
   generalize ps[m]'(by omega)=x at *
   have HL:=Ac hlp
   have hsub : ((m+1 : Nat) : Int) - 1=(m : Int):=by omega
   have hpos : decide ((0 : Int)<((m+1 : Nat) : Int))=true:=decide_eq_true (by omega)
   rw [hm] at c2 p1 hw0 ⊢
   clear hlp hc p4 k4 hpl hm
   go_enter Tryz.func181,Tryz.ntmps181
   go_wp2_with fail
   try rw [hw0]
   go_wp2
   go_ret
   exact ⟨Ig (by rw [HL.out]),HB.out⟩
 ·rw [if_neg hkl]
  obtain ⟨m,hm⟩ : ∃ m,ks.length=m+1:=⟨ks.length - 1,by omega⟩
  obtain ⟨b,off,rfl,hbB,hc⟩:=k4 (by rintro rfl; simp at hkl)
  have d0:=hc m (by omega) 0 _ rfl
  simp only [Nat.add_zero] at d0
  have hlp : E6 ks=(ks[m]'(by omega)).1:=by rw [lastL_get (by omega)]; simp [hm]
  generalize ks[m]'(by omega)=x at *
  have HL:=Ac hlp
  have hsub : ((m+1 : Nat) : Int) - 1=(m : Int):=by omega
  have hpos : decide ((0 : Int)<((m+1 : Nat) : Int))=true:=decide_eq_true (by omega)
  rw [hm] at c1 k1 hw0 ⊢
  clear hlp hc p4 k4 hkl hm
  go_enter Tryz.func181,Tryz.ntmps181
  go_wp2_with fail
  try rw [hw0]
  go_wp2
  go_ret
  exact ⟨Ig (by rw [HL.out]),HB.out⟩
set_option maxRecDepth 20000 in
set_option maxHeartbeats 800000 in
theorem G8 (w : World) (n : A2) (vk vp : Value) (hk : Ls w.heap.size w 3 Au vk n.2.2) (hp : Ls w.heap.size w 2 Ak vp n.2.1) (hr : ∀ k∈n.2.2,A6 k=true) (hs : Am n.2.2≤4096) (hl : n.2.1.length≤4294967296) :
  Calls Tryz.prog 182 #[.agg #[.int .i64 n.1,vk,vp]] w fun e w'=>e = .returned (.int .i64 (Bt n))∧Below w.heap.size w w':=by
 obtain ⟨lv,ps,ks⟩:=n
 simp only at hk hp hr hs hl ⊢
 have hb0 : Below w.heap.size w (w.alloc (.cells #[.int .i64 lv,vk,vp] 240)):=(Below.refl _ _).alloc (Nat.le_refl _) _
 have hx0:=heap_last w (.cells #[.int .i64 lv,vk,vp] 240) _ rfl
 have hk0:=(hk.keep hb0).up hb0.size
 obtain ⟨ap,cp,rfl,-,-⟩:=Dp hp
 obtain ⟨ak,ck,rfl,k1,k2,k4⟩:=hk0
 unfold maxLen at k2
 have hcount : Bt (lv,ps,ks)=(ps.length : Int)+Am ks:=rfl
 rw [hcount]
 generalize hw0 : w.alloc (.cells #[.int .i64 lv, .slice ak ks.length ck, .slice ap ps.length cp] 240)=w0 at *
 have c1:=cell_of_row w0 w.heap.size 1 _ _ _ hx0
 have c2:=cell_of_row w0 w.heap.size 2 _ _ _ hx0
 simp only [List.getElem?_toArray,List.getElem?_cons_zero,List.getElem?_cons_succ] at c1 c2
 have HB:=Ac hb0
 have hklen : ks.length≤4096:=by have:=Ef ks hr; omega
 clear hb0 hx0 hk hp hcount
 go_enter Tryz.func182,Tryz.ntmps182
 go_wp2_with fail
 try rw [hw0]
 go_wp2_with fail
 go_loopw [13,3] (fun t u wr=>∃ k : Nat,k≤ks.length∧t = .int .i64 k∧u = .int .i64 ((ps.length : Int)+Am (ks.take k))∧Below w0.heap.size w0 wr)
  (fun t _ _=>ks.length - (intOf t).toNat)
 case atStart=>exact ⟨0,by omega,rfl,by simp [Am],Below.refl _ _⟩
 case round=>
  obtain ⟨k,hkk,rfl,rfl,hb⟩:=hrel
  have HBr:=Ac hb
  by_cases hlt : k<ks.length
  ·obtain ⟨b,off,rfl,hbB,hc⟩:=k4 (by rintro rfl; simp at hlt)
   have d0:=(hb.cell (p:=⟨b,off+k * 3+0,none⟩) hbB).trans (hc k hlt 0 _ rfl)
   have d1:=(hb.cell (p:=⟨b,off+k * 3+1,none⟩) hbB).trans (hc k hlt 1 _ rfl)
   have d2:=(hb.cell (p:=⟨b,off+k * 3+2,none⟩) hbB).trans (hc k hlt 2 _ rfl)
   simp only [Nat.add_zero] at d0
   have hst:=Nf ks k hlt
   have hw1:=Jh hr hs k
   have hw2:=Jh hr hs (k+1)
   rw [hst] at hw2
   have HB1:=Ac (HBr.out.alloc HBr.out.size (.cells #[.string (Ab ks[k].1), .string (Ab ks[k].2.1), .int .i64 ks[k].2.2] 125))
   generalize ks[k]=x at *
   have HS:=Ac hst
   generalize Am (ks.take k)=z at *
   clear hst hb hc k4
   go_wp2
   go_roundw
   case rel=>exact ⟨k+1,by omega,by go_num,by rw [HS.out,Int.add_assoc],HB1.out⟩
   case measure=>simp [intOf]; omega
  ·obtain rfl : k=ks.length:=by omega
   rw [List.take_length]
   clear hb k4
   go_wp2
   go_ret
   exact ⟨rfl,HB.out.trans (HBr.out.mono HB.out.size)⟩
set_option maxRecDepth 20000 in
set_option maxHeartbeats 800000 in
theorem nobject_any (w : World) (n : A2) (vk vp : Value) (hk : Ls w.heap.size w 3 Au vk n.2.2) (hp : Ls w.heap.size w 2 Ak vp n.2.1) (hT : Bh w) (h0 : n.1=0→A5 ltB n.2.1=true) (h1 : n.1≠0→A4 ltB (n.1,n.2.2)=true) :
  Calls Tryz.prog 191 #[.agg #[.int .i64 n.1,vk,vp]] w fun e w'=>e = .returned (.tuple #[.agg #[.string (Ab (De n).1), .string (Ab (De n).2)], .int .i64 0])∧Below w.heap.size w w':=by
 obtain ⟨lv,ps,ks⟩:=n
 simp only at hk hp h0 h1 ⊢
 obtain ⟨O,hO⟩ : ∃ O,O=De (lv,ps,ks):=⟨_,rfl⟩
 rw [← hO]
 have hb0 : Below w.heap.size w ((w.alloc (.cells #[.int .i64 lv,vk,vp] 240)).alloc (.cells #[.string ⟨#[]⟩, .string ⟨#[]⟩] 38)):=((Below.refl _ _).alloc (Nat.le_refl _) _).alloc (by simp) _
 have hx0 : ((w.alloc (.cells #[.int .i64 lv,vk,vp] 240)).alloc (.cells #[.string ⟨#[]⟩, .string ⟨#[]⟩] 38)).heap[w.heap.size]? = some (.cells #[.int .i64 lv,vk,vp] 240):=(heap_past _ _ _ (by simp)).trans (heap_last w _ _ rfl)
 have hy0 : ((w.alloc (.cells #[.int .i64 lv,vk,vp] 240)).alloc (.cells #[.string ⟨#[]⟩, .string ⟨#[]⟩] 38)).heap[w.heap.size+1]? = some (.cells #[.string ⟨#[]⟩, .string ⟨#[]⟩] 38):=heap_last _ _ _ (by simp)
 have hk0:=(hk.keep hb0).up hb0.size
 have hp0:=(hp.keep hb0).up hb0.size
 have hT0:=hT.keep hb0 hT.1
 obtain ⟨ak,ck,rfl,-⟩:=Dp hk
 obtain ⟨ap,cp,rfl,-⟩:=Dp hp
 generalize hw0 : (w.alloc (.cells #[.int .i64 lv, .slice ak ks.length ck, .slice ap ps.length cp] 240)).alloc (.cells #[.string ⟨#[]⟩, .string ⟨#[]⟩] 38)=w0 at *
 have c0:=cell_of_row w0 w.heap.size 0 _ _ _ hx0
 have c1:=cell_of_row w0 w.heap.size 1 _ _ _ hx0
 have c2:=cell_of_row w0 w.heap.size 2 _ _ _ hx0
 simp only [List.getElem?_toArray,List.getElem?_cons_zero,List.getElem?_cons_succ] at c0 c1 c2
 have HB:=Ac hb0
 have HY:=Ac hy0
 by_cases hl : lv=0
 ·have hcall:=leaf_any w0 ps _ hp0 hT0
  rw [h0 hl] at hcall
  unfold made at hcall
  simp only [if_true] at hcall
  rw [G0] at hcall
  have hO2 : O=(sha (76 :: Bv ps),76 :: Bv ps):=by rw [hO]; unfold De Ay; rw [if_pos hl]
  obtain ⟨fb,hfb⟩ : ∃ fb,fb=76 :: Bv ps:=⟨_,rfl⟩
  rw [← hfb] at hcall hO2
  obtain ⟨sc,hsc⟩ : ∃ sc,sc=sha fb:=⟨_,rfl⟩
  rw [← hsc] at hcall hO2
  have HO:=Ac hO2
  clear hb0 hx0 hy0 hk hp hk0 hp0 hT0 hO hO2 hfb hsc h0 h1 hT
  have hl2 : (lv == 0)=true:=by simpa using hl
  clear hl
  go_enter Tryz.func191,Tryz.ntmps191
  go_wp2_with fail
  try rw [hw0]
  go_wp2_with fail
  refine hcall.mono ?_
  rintro e w1 ⟨rfl,hb1⟩
  have hy1:=(hb1.block _ (Ad HY.out)).trans HY.out
  have hB1:=HB.out.trans (hb1.mono HB.out.size)
  have y0:=cell_of_row w1 (w.heap.size+1) 0 _ _ _ hy1
  have y1:=cell_of_row w1 (w.heap.size+1) 1 _ _ _ hy1
  simp only [List.getElem?_toArray,List.getElem?_cons_zero,List.getElem?_cons_succ] at y0 y1
  have f0:=Af (j:=0) hy1
  have f1:=Af (j:=1) hy1
  clear hb1 hcall c0 c1 c2
  go_wp2
  refine bodyPost_ret (Aq rfl _ _ _ _ _ _ _ rfl (Cm hy1) Tryz.underlying38 rfl Tryz.infoObj) rfl ⟨by rw [HO.out]; rfl,?_⟩
  exact (hB1.setCell (p:=⟨w.heap.size+1,0,none⟩) (by simp) _).setCell (p:=⟨w.heap.size+1,1,none⟩) (by simp) _
 ·have hcall:=branch_any w0 (lv,ks) _ hk0 hT0
  rw [h1 hl] at hcall
  unfold made at hcall
  simp only [if_true] at hcall
  rw [G0] at hcall
  have hO2 : O=(sha (66 :: C8 (lv,ks)),66 :: C8 (lv,ks)):=by rw [hO]; unfold De brO; rw [if_neg hl]
  obtain ⟨fb,hfb⟩ : ∃ fb,fb=66 :: C8 (lv,ks):=⟨_,rfl⟩
  rw [← hfb] at hcall hO2
  obtain ⟨sc,hsc⟩ : ∃ sc,sc=sha fb:=⟨_,rfl⟩
  rw [← hsc] at hcall hO2
  have HO:=Ac hO2
  clear hb0 hx0 hy0 hk hp hk0 hp0 hT0 hO hO2 hfb hsc h0 h1 hT
  have hl2 : (lv == 0)=false:=by simpa using hl
  clear hl
  go_enter Tryz.func191,Tryz.ntmps191
  go_wp2_with fail
  try rw [hw0]
  go_wp2_with fail
  refine hcall.mono ?_
  rintro e w1 ⟨rfl,hb1⟩
  have hy1:=(hb1.block _ (Ad HY.out)).trans HY.out
  have hB1:=HB.out.trans (hb1.mono HB.out.size)
  have y0:=cell_of_row w1 (w.heap.size+1) 0 _ _ _ hy1
  have y1:=cell_of_row w1 (w.heap.size+1) 1 _ _ _ hy1
  simp only [List.getElem?_toArray,List.getElem?_cons_zero,List.getElem?_cons_succ] at y0 y1
  have f0:=Af (j:=0) hy1
  have f1:=Af (j:=1) hy1
  clear hb1 hcall c0 c1 c2
  go_wp2
  refine bodyPost_ret (Aq rfl _ _ _ _ _ _ _ rfl (Cm hy1) Tryz.underlying38 rfl Tryz.infoObj) rfl ⟨by rw [HO.out]; rfl,?_⟩
  exact (hB1.setCell (p:=⟨w.heap.size+1,0,none⟩) (by simp) _).setCell (p:=⟨w.heap.size+1,1,none⟩) (by simp) _
end Go.Proofs.YtckejblkppllaaaGreatDoor
