/-
  What is done to a log's file: extend and replace. Conditions: the disk stands, within bounds; the log and the bytes lie beside it.
-/
import Derived.Test.YtblniomnhpedjaaGreatDoorP19Group1
namespace Go.Proofs.YtblniomnhpedjaaGreatDoor
open Go.RowKit
variable {B : Nat} {w w' : World} {F : Nat→Prop} {d l : Nat} {S : Dk} {L : Lw}
def Ee (w : World) (F : Nat→Prop) (l : Nat) (v : Value) (b : List UInt8) : Prop:=Sl w v b∧∀ g,v.ownBlock=some g→¬ F g∧g≠l∧g<w.heap.size
theorem Ee.keep {v : Value} {b : List UInt8} {F' : Nat→Prop} (h : Ee w F l v b) (hf : ∀ k,F' k→F k∨w.heap.size≤k) (hc : Chg (fun k=>F k∨k=l) w w') : Ee w' F' l v b:=by
 refine ⟨h.1.keep hc fun g hg e=>?_,fun g hg=>⟨fun e=>?_,(h.2 g hg).2.1,Nat.lt_of_lt_of_le (h.2 g hg).2.2 hc.size⟩⟩
 ·rcases e with e | e
  ·exact (h.2 g hg).1 e
  ·exact (h.2 g hg).2.1 e
 ·have h3:=h.2 g hg
  rcases hf g e with e | e
  ·exact h3.1 e
  ·omega
theorem Ee.drew {v : Value} {b : List UInt8} (h : Ee w F l v b) : Ee w.drew F l v b:=h.keep (fun _ h=>.inl h) ((Chg.refl _ _).drew)
theorem Fs (S : Dk) (n : Nm) : (As S n).1.bulk≤S.bulk+2:=by
 unfold As
 split
 ·exact Nat.le_add_right _ _
 ·exact Nat.le_trans (bulk_remove (S:=S) (n++Ao)) (by omega)
theorem It (S : Dk) (s : Bool) : (Ba S s).1.bulk≤S.bulk+1:=by
 unfold Ba
 split
 ·exact Nat.le_add_right _ _
 ·exact bulk_syncDir
def Ec (a : Dk × Int) (sure : Bool) (n : Nm) : Dk × Bool × Int:=if a.2≠0 then (a.1,sure,a.2) else ((a.1.sync n).1,sure,(a.1.sync n).2)
def D8 (s : Dk × Bool × Int) (n : Nm) (b : List UInt8) : Dk × Bool × Int:=if s.2.2≠0 then s else Ec (s.1.append n b) s.2.1 n
def Bw (S : Dk) (n : Nm) (sure : Bool) (b : List UInt8) : Dk × Bool × Int:=
 if (As S n).2≠0 then ((As S n).1,sure,(As S n).2) else D8 (Ba (As S n).1 sure) n b
def D4 (S : Dk) (n : Nm) (sure : Bool) (e : Int) : Dk × Bool × Int:=((As S n).1,sure,e)
def rep5 (s : Dk × Bool × Int) (n : Nm) : Dk × Bool × Int:=if s.2.2≠0 then D4 s.1 n s.2.1 s.2.2 else s
def rep4 (a : Dk × Int) (n : Nm) : Dk × Bool × Int:=if a.2≠0 then D4 a.1 n false a.2 else rep5 (Ba a.1 false) n
def rep3 (a : Dk × Int) (n : Nm) : Dk × Bool × Int:=if a.2≠0 then D4 a.1 n false a.2 else rep4 (a.1.rename (n++Ao) n) n
def rep2 (a : Dk × Int) (n : Nm) : Dk × Bool × Int:=if a.2≠0 then D4 a.1 n false a.2 else rep3 (a.1.sync (n++Ao)) n
def Cc (S : Dk) (n : Nm) (sure : Bool) (b : List UInt8) : Dk × Bool × Int:=
 if (As S n).2≠0 then ((As S n).1,sure,(As S n).2) else rep2 ((As S n).1.append (n++Ao) b) n
set_option maxRecDepth 20000 in
set_option maxHeartbeats 1600000 in
theorem extend_lg (h : Lg B w F d l S L) {v : Value} {b : List UInt8} (hv : Ee w F l v b) (hb : S.bulk+b.length+20<1099511627776) :
  Calls Tryz.prog 117 #[.pointer (some ⟨l,0,none⟩),v] w fun e w'=>e = .returned (.int .i64 (Bw S L.n L.sure b).2.2)∧Bv B w F d l (Bw S L.n L.sure b).1 { L with sure:=(Bw S L.n L.sure b).2.1 } w':=by
 obtain ⟨n,s,wh,sz⟩:=L
 dsimp only
 have ht:=Hj h (by omega)
 have hb1:=Fs S n
 have HV:=Ab hv
 clear hv
 unfold Bw
 dsimp only at ht
 generalize As S n=T at *
 obtain ⟨S1,e1⟩:=T
 dsimp only at ht hb1 ⊢
 by_cases he1 : e1≠0
 ·rw [if_pos he1]
  have heb : (e1 == 0)=false:=by simp [he1]
  clear he1
  go_enter Tryz.func117,Tryz.ntmps117
  go_wp2_with fail
  refine ht.mono ?_
  rintro e w1 ⟨rfl,ha⟩
  go_wp2
  go_ret
  exact ⟨rfl,ha⟩
 rw [if_neg he1]
 obtain rfl : e1=0:=by simpa using he1
 clear he1
 have hb2:=It S1 s
 unfold D8
 generalize hS2 : Ba S1 s=T at *
 obtain ⟨S2,s2,e2⟩:=T
 dsimp only at hb2 ⊢
 by_cases he2 : e2≠0
 ·rw [if_pos he2]
  have heb : (e2 == 0)=false:=by simp [he2]
  have HS2:=Ab hS2
  clear he2 hS2
  go_enter Tryz.func117,Tryz.ntmps117
  go_wp2_with fail
  refine ht.mono ?_
  rintro e w1 ⟨rfl,ha⟩
  obtain ⟨F1,hg1,hf1,hc1⟩:=ha
  have hst:=Ip hg1 (by omega)
  dsimp only at hst
  rw [HS2.out] at hst
  go_wp2_with fail
  refine hst.mono ?_
  rintro e w2 ⟨rfl,ha⟩
  go_wp2
  go_ret
  exact ⟨rfl,ha.next hc1 hf1⟩
 rw [if_neg he2]
 obtain rfl : e2=0:=by simpa using he2
 have HS2:=Ab hS2
 clear he2 hS2
 have hb3:=J0 (S:=S2) n b
 unfold Ec
 generalize hS3 : S2.append n b=T at *
 obtain ⟨S3,e3⟩:=T
 have HS3:=Ab hS3
 clear hS3
 dsimp only at hb3 ⊢
 by_cases he3 : e3≠0
 ·rw [if_pos he3]
  have heb : (e3 == 0)=false:=by simp [he3]
  clear he3
  go_enter Tryz.func117,Tryz.ntmps117
  go_wp2_with fail
  refine ht.mono ?_
  rintro e w1 ⟨rfl,ha⟩
  obtain ⟨F1,hg1,hf1,hc1⟩:=ha
  have hst:=Ip hg1 (by omega)
  dsimp only at hst
  rw [HS2.out] at hst
  go_wp2_with fail
  refine hst.mono ?_
  rintro e w2 ⟨rfl,ha⟩
  obtain ⟨F2,hg2,hf2,hc2⟩:=ha.next hc1 hf1
  have hap:=Fv hg2.drew.1 hg2.size n (by omega) (HV.out.keep hf2 hc2).drew.1 (fun _ g hg=>((HV.out.keep hf2 hc2).2 g hg).1)
  rw [HS3.out] at hap
  have x0 : _=some _:=Ad hg2.2.1 0
  have x1 : _=some _:=Ad hg2.2.1 1
  go_wp2
  refine wp_region_held_drew (S:=fun W=>W.cell? ⟨l,0,none⟩=some (.pointer (some ⟨d,0,none⟩))∧W.cell? ⟨l,1,none⟩=some (.string (Ae n))) (by kernel_rfl) (⟨x0,x1⟩) (fun hHeld=>?_)
  refine Aa 0 hHeld ?_
  refine Aa 1 hHeld ?_
  refine Aa 2 hHeld ?_
  refine Aa 3 hHeld ?_
  refine Aa 4 hHeld ?_
  refine Aa 5 hHeld ?_
  refine Aa 6 hHeld ?_
  refine Aa 7 hHeld ?_
  refine Aa 8 hHeld ?_
  refine Al (i:=9) rfl (by kernel_rfl) rfl (fun K hK=>?_)
  go_simp
  refine hap.mono ?_
  rintro e w3 ⟨rfl,ha⟩
  obtain ⟨F3,hg3,hf3,hc3⟩:=((hg2.drew.after ha).drewn).next hc2 hf2
  have y0 : _=some _:=Ad hg3.2.1 0
  have y1 : _=some _:=Ad hg3.2.1 1
  refine hK.out _ _ (⟨y0,y1⟩) (fun hHeld=>?_)
  clear hK K
  try simp only [Act.put,List.setIfInBounds_toArray,List.set_cons_zero,List.set_cons_succ]
  refine Aa 10 hHeld ?_
  refine wpAnyH_done (by kernel_rfl) ?_ _
  clear hHeld
  go_wp2
  go_ret
  exact ⟨rfl,F3,hg3,hf3,hc3⟩
 rw [if_neg he3]
 obtain rfl : e3=0:=by simpa using he3
 clear he3
 generalize hS4 : S3.sync n=T at *
 obtain ⟨S4,e4⟩:=T
 have HS4:=Ab hS4
 clear hS4
 dsimp only
 go_enter Tryz.func117,Tryz.ntmps117
 go_wp2_with fail
 refine ht.mono ?_
 rintro e w1 ⟨rfl,ha⟩
 obtain ⟨F1,hg1,hf1,hc1⟩:=ha
 have hst:=Ip hg1 (by omega)
 dsimp only at hst
 rw [HS2.out] at hst
 go_wp2_with fail
 refine hst.mono ?_
 rintro e w2 ⟨rfl,ha⟩
 obtain ⟨F2,hg2,hf2,hc2⟩:=ha.next hc1 hf1
 have hap:=Fv hg2.drew.1 hg2.size n (by omega) (HV.out.keep hf2 hc2).drew.1 (fun _ g hg=>((HV.out.keep hf2 hc2).2 g hg).1)
 rw [HS3.out] at hap
 have x0 : _=some _:=Ad hg2.2.1 0
 have x1 : _=some _:=Ad hg2.2.1 1
 go_wp2
 refine wp_region_held_drew (S:=fun W=>W.cell? ⟨l,0,none⟩=some (.pointer (some ⟨d,0,none⟩))∧W.cell? ⟨l,1,none⟩=some (.string (Ae n))) (by kernel_rfl) (⟨x0,x1⟩) (fun hHeld=>?_)
 refine Aa 0 hHeld ?_
 refine Aa 1 hHeld ?_
 refine Aa 2 hHeld ?_
 refine Aa 3 hHeld ?_
 refine Aa 4 hHeld ?_
 refine Aa 5 hHeld ?_
 refine Aa 6 hHeld ?_
 refine Aa 7 hHeld ?_
 refine Aa 8 hHeld ?_
 refine Al (i:=9) rfl (by kernel_rfl) rfl (fun K hK=>?_)
 go_simp
 refine hap.mono ?_
 rintro e w3 ⟨rfl,ha⟩
 obtain ⟨F3,hg3,hf3,hc3⟩:=((hg2.drew.after ha).drewn).next hc2 hf2
 have y0 : _=some _:=Ad hg3.2.1 0
 have y1 : _=some _:=Ad hg3.2.1 1
 refine hK.out _ _ (⟨y0,y1⟩) (fun hHeld=>?_)
 clear hK K
 try simp only [Act.put,List.setIfInBounds_toArray,List.set_cons_zero,List.set_cons_succ]
 refine Aa 10 hHeld ?_
 refine wpAnyH_done (by kernel_rfl) ?_ _
 clear hHeld x0 x1
 have hsy:=Ht hg3.drew.1 hg3.size n (by omega)
 rw [HS4.out] at hsy
 go_wp2
 refine wp_region_held_drew (S:=fun W=>W.cell? ⟨l,0,none⟩=some (.pointer (some ⟨d,0,none⟩))∧W.cell? ⟨l,1,none⟩=some (.string (Ae n))) (by kernel_rfl) (⟨y0,y1⟩) (fun hHeld=>?_)
 refine Aa 0 hHeld ?_
 refine Aa 1 hHeld ?_
 refine Aa 2 hHeld ?_
 refine Aa 3 hHeld ?_
 refine Aa 4 hHeld ?_
 refine Aa 5 hHeld ?_
 refine Aa 6 hHeld ?_
 refine Aa 7 hHeld ?_
 refine Al (i:=8) rfl (by kernel_rfl) rfl (fun K hK=>?_)
 go_simp
 refine hsy.mono ?_
 rintro e w4 ⟨rfl,ha⟩
 obtain ⟨F4,hg4,hf4,hc4⟩:=((hg3.drew.after ha).drewn).next hc3 hf3
 have z0 : _=some _:=Ad hg4.2.1 0
 have z1 : _=some _:=Ad hg4.2.1 1
 refine hK.out _ _ (⟨z0,z1⟩) (fun hHeld=>?_)
 clear hK K
 try simp only [Act.put,List.setIfInBounds_toArray,List.set_cons_zero,List.set_cons_succ]
 refine Aa 9 hHeld ?_
 refine wpAnyH_done (by kernel_rfl) ?_ _
 clear hHeld
 go_wp2
 go_ret
 exact ⟨rfl,F4,hg4,hf4,hc4⟩
set_option maxRecDepth 20000 in
set_option maxHeartbeats 3200000 in
theorem Jv (h : Lg B w F d l S L) {v : Value} {b : List UInt8} (hv : Ee w F l v b) (hb : S.bulk+b.length+30<1099511627776) :
  Calls Tryz.prog 92 #[.pointer (some ⟨l,0,none⟩),v] w fun e w'=>e = .returned (.int .i64 (Cc S L.n L.sure b).2.2)∧Bv B w F d l (Cc S L.n L.sure b).1 { L with sure:=(Cc S L.n L.sure b).2.1 } w':=by
 obtain ⟨n,s,wh,sz⟩:=L
 dsimp only
 have ht:=Hj h (by omega)
 have hsa:=str_anew n
 have hns:=str_room h.2.2.2.2
 have hb1:=Fs S n
 have HV:=Ab hv
 clear hv
 unfold Cc
 dsimp only at ht
 generalize As S n=T at *
 obtain ⟨S1,e1⟩:=T
 dsimp only at ht hb1 hns ⊢
 by_cases he1 : e1≠0
 ·rw [if_pos he1]
  have heb : (e1 == 0)=false:=by simp [he1]
  clear he1
  go_enter Tryz.func92,Tryz.ntmps92
  go_wp2_with fail
  refine ht.mono ?_
  rintro e w1 ⟨rfl,ha⟩
  go_wp2
  go_ret
  exact ⟨rfl,ha⟩
 rw [if_neg he1]
 obtain rfl : e1=0:=by simpa using he1
 clear he1
 have hb2:=J0 (S:=S1) (n++Ao) b
 unfold rep2
 generalize hS2 : S1.append (n++Ao) b=T at *
 obtain ⟨S2,e2⟩:=T
 have HS2:=Ab hS2
 clear hS2
 dsimp only at hb2 ⊢
 by_cases he2 : e2≠0
 ·rw [if_pos he2]
  unfold D4
  dsimp only
  have heb : (e2 == 0)=false:=by simp [he2]
  clear he2
  go_enter Tryz.func92,Tryz.ntmps92
  go_wp2_with fail
  refine ht.mono ?_
  rintro e w0 ⟨rfl,ha⟩
  obtain ⟨F0,hg0,hf0,hc0⟩:=ha
  have u2:=Av hg0.2.1 2
  have u3:=Ad hg0.2.1 2
  obtain ⟨F1,hg1,hf1,hc1⟩:=(hg0.put false).next hc0 hf0
  obtain ⟨W1,hW1⟩ : ∃ W,W=w0.setCell ⟨l,2,none⟩ (.bool false):=⟨_,rfl⟩
  have hW1':=hW1.symm
  have hx:=hW1
  rw [← hW1] at hg1 hc1
  have x0 : W1.cell? ⟨l,0,none⟩=some _:=Ad hg1.2.1 0
  have x1 : W1.cell? ⟨l,1,none⟩=some _:=Ad hg1.2.1 1
  clear hW1 hx
  have hca:=Fv hg1.drew.1 hg1.size (n++Ao) (by omega) (HV.out.keep hf1 hc1).drew.1 (fun _ g hg=>((HV.out.keep hf1 hc1).2 g hg).1)
  rw [HS2.out] at hca
  go_wp2
  refine wp_region_held_drew (S:=fun W=>W.cell? ⟨l,0,none⟩=some (.pointer (some ⟨d,0,none⟩))∧W.cell? ⟨l,1,none⟩=some (.string (Ae n))) (by kernel_rfl) (⟨x0,x1⟩) (fun hHeld=>?_)
  refine Aa 0 hHeld ?_
  refine Aa 1 hHeld ?_
  refine Aa 2 hHeld ?_
  refine Aa 3 hHeld ?_
  refine Aa 4 hHeld ?_
  refine Aa 5 hHeld ?_
  refine Aa 6 hHeld ?_
  refine Aa 7 hHeld ?_
  refine Aa 8 hHeld ?_
  refine Aa 9 hHeld ?_
  refine Al (i:=10) rfl (by kernel_rfl) rfl (fun K hK=>?_)
  go_simp
  refine hca.mono ?_
  rintro e w2 ⟨rfl,ha⟩
  obtain ⟨F2,hg2,hf2,hc2⟩:=((hg1.drew.after ha).drewn).next hc1 hf1
  have y0 : _=some _:=Ad hg2.2.1 0
  have y1 : _=some _:=Ad hg2.2.1 1
  refine hK.out _ _ (⟨y0,y1⟩) (fun hHeld=>?_)
  clear hK K
  try simp only [Act.put,List.setIfInBounds_toArray,List.set_cons_zero,List.set_cons_succ]
  refine Aa 11 hHeld ?_
  refine wpAnyH_done (by kernel_rfl) ?_ _
  clear hHeld x0 x1 hca
  have hti:=Hj hg2 (by omega)
  go_wp2_with fail
  refine hti.mono ?_
  rintro e w9 ⟨rfl,ha⟩
  go_wp2
  go_ret
  exact ⟨rfl,ha.next hc2 hf2⟩
 rw [if_neg he2]
 obtain rfl : e2=0:=by simpa using he2
 clear he2
 have hb3:=L7 (S:=S2) (n++Ao)
 unfold rep3
 generalize hS3 : S2.sync (n++Ao)=T at *
 obtain ⟨S3,e3⟩:=T
 have HS3:=Ab hS3
 clear hS3
 dsimp only at hb3 ⊢
 by_cases he3 : e3≠0
 ·rw [if_pos he3]
  unfold D4
  dsimp only
  have heb : (e3 == 0)=false:=by simp [he3]
  clear he3
  go_enter Tryz.func92,Tryz.ntmps92
  go_wp2_with fail
  refine ht.mono ?_
  rintro e w0 ⟨rfl,ha⟩
  obtain ⟨F0,hg0,hf0,hc0⟩:=ha
  have u2:=Av hg0.2.1 2
  have u3:=Ad hg0.2.1 2
  obtain ⟨F1,hg1,hf1,hc1⟩:=(hg0.put false).next hc0 hf0
  obtain ⟨W1,hW1⟩ : ∃ W,W=w0.setCell ⟨l,2,none⟩ (.bool false):=⟨_,rfl⟩
  have hW1':=hW1.symm
  have hx:=hW1
  rw [← hW1] at hg1 hc1
  have x0 : W1.cell? ⟨l,0,none⟩=some _:=Ad hg1.2.1 0
  have x1 : W1.cell? ⟨l,1,none⟩=some _:=Ad hg1.2.1 1
  clear hW1 hx
  have hca:=Fv hg1.drew.1 hg1.size (n++Ao) (by omega) (HV.out.keep hf1 hc1).drew.1 (fun _ g hg=>((HV.out.keep hf1 hc1).2 g hg).1)
  rw [HS2.out] at hca
  go_wp2
  refine wp_region_held_drew (S:=fun W=>W.cell? ⟨l,0,none⟩=some (.pointer (some ⟨d,0,none⟩))∧W.cell? ⟨l,1,none⟩=some (.string (Ae n))) (by kernel_rfl) (⟨x0,x1⟩) (fun hHeld=>?_)
  refine Aa 0 hHeld ?_
  refine Aa 1 hHeld ?_
  refine Aa 2 hHeld ?_
  refine Aa 3 hHeld ?_
  refine Aa 4 hHeld ?_
  refine Aa 5 hHeld ?_
  refine Aa 6 hHeld ?_
  refine Aa 7 hHeld ?_
  refine Aa 8 hHeld ?_
  refine Aa 9 hHeld ?_
  refine Al (i:=10) rfl (by kernel_rfl) rfl (fun K hK=>?_)
  go_simp
  refine hca.mono ?_
  rintro e w2 ⟨rfl,ha⟩
  obtain ⟨F2,hg2,hf2,hc2⟩:=((hg1.drew.after ha).drewn).next hc1 hf1
  have y0 : _=some _:=Ad hg2.2.1 0
  have y1 : _=some _:=Ad hg2.2.1 1
  refine hK.out _ _ (⟨y0,y1⟩) (fun hHeld=>?_)
  clear hK K
  try simp only [Act.put,List.setIfInBounds_toArray,List.set_cons_zero,List.set_cons_succ]
  refine Aa 11 hHeld ?_
  refine wpAnyH_done (by kernel_rfl) ?_ _
  clear hHeld x0 x1 hca
  have hca:=Ht hg2.drew.1 hg2.size (n++Ao) (by omega)
  rw [HS3.out] at hca
  go_wp2
  refine wp_region_held_drew (S:=fun W=>W.cell? ⟨l,0,none⟩=some (.pointer (some ⟨d,0,none⟩))∧W.cell? ⟨l,1,none⟩=some (.string (Ae n))) (by kernel_rfl) (⟨y0,y1⟩) (fun hHeld=>?_)
  refine Aa 0 hHeld ?_
  refine Aa 1 hHeld ?_
  refine Aa 2 hHeld ?_
  refine Aa 3 hHeld ?_
  refine Aa 4 hHeld ?_
  refine Aa 5 hHeld ?_
  refine Aa 6 hHeld ?_
  refine Aa 7 hHeld ?_
  refine Aa 8 hHeld ?_
  refine Al (i:=9) rfl (by kernel_rfl) rfl (fun K hK=>?_)
  go_simp
  refine hca.mono ?_
  rintro e w3 ⟨rfl,ha⟩
  obtain ⟨F3,hg3,hf3,hc3⟩:=((hg2.drew.after ha).drewn).next hc2 hf2
  have z0 : _=some _:=Ad hg3.2.1 0
  have z1 : _=some _:=Ad hg3.2.1 1
  refine hK.out _ _ (⟨z0,z1⟩) (fun hHeld=>?_)
  clear hK K
  try simp only [Act.put,List.setIfInBounds_toArray,List.set_cons_zero,List.set_cons_succ]
  refine Aa 10 hHeld ?_
  refine wpAnyH_done (by kernel_rfl) ?_ _
  clear hHeld y0 y1 hca
  have hti:=Hj hg3 (by omega)
  go_wp2_with fail
  refine hti.mono ?_
  rintro e w9 ⟨rfl,ha⟩
  go_wp2
  go_ret
  exact ⟨rfl,ha.next hc3 hf3⟩
 rw [if_neg he3]
 obtain rfl : e3=0:=by simpa using he3
 clear he3
 have hb4:=N5 (S:=S3) (n++Ao) n
 unfold rep4
 generalize hS4 : S3.rename (n++Ao) n=T at *
 obtain ⟨S4,e4⟩:=T
 have HS4:=Ab hS4
 clear hS4
 dsimp only at hb4 ⊢
 by_cases he4 : e4≠0
 ·rw [if_pos he4]
  unfold D4
  dsimp only
  have heb : (e4 == 0)=false:=by simp [he4]
  clear he4
  go_enter Tryz.func92,Tryz.ntmps92
  go_wp2_with fail
  refine ht.mono ?_
  rintro e w0 ⟨rfl,ha⟩
  obtain ⟨F0,hg0,hf0,hc0⟩:=ha
  have u2:=Av hg0.2.1 2
  have u3:=Ad hg0.2.1 2
  obtain ⟨F1,hg1,hf1,hc1⟩:=(hg0.put false).next hc0 hf0
  obtain ⟨W1,hW1⟩ : ∃ W,W=w0.setCell ⟨l,2,none⟩ (.bool false):=⟨_,rfl⟩
  have hW1':=hW1.symm
  have hx:=hW1
  rw [← hW1] at hg1 hc1
  have x0 : W1.cell? ⟨l,0,none⟩=some _:=Ad hg1.2.1 0
  have x1 : W1.cell? ⟨l,1,none⟩=some _:=Ad hg1.2.1 1
  clear hW1 hx
  have hca:=Fv hg1.drew.1 hg1.size (n++Ao) (by omega) (HV.out.keep hf1 hc1).drew.1 (fun _ g hg=>((HV.out.keep hf1 hc1).2 g hg).1)
  rw [HS2.out] at hca
  go_wp2
  refine wp_region_held_drew (S:=fun W=>W.cell? ⟨l,0,none⟩=some (.pointer (some ⟨d,0,none⟩))∧W.cell? ⟨l,1,none⟩=some (.string (Ae n))) (by kernel_rfl) (⟨x0,x1⟩) (fun hHeld=>?_)
  refine Aa 0 hHeld ?_
  refine Aa 1 hHeld ?_
  refine Aa 2 hHeld ?_
  refine Aa 3 hHeld ?_
  refine Aa 4 hHeld ?_
  refine Aa 5 hHeld ?_
  refine Aa 6 hHeld ?_
  refine Aa 7 hHeld ?_
  refine Aa 8 hHeld ?_
  refine Aa 9 hHeld ?_
  refine Al (i:=10) rfl (by kernel_rfl) rfl (fun K hK=>?_)
  go_simp
  refine hca.mono ?_
  rintro e w2 ⟨rfl,ha⟩
  obtain ⟨F2,hg2,hf2,hc2⟩:=((hg1.drew.after ha).drewn).next hc1 hf1
  have y0 : _=some _:=Ad hg2.2.1 0
  have y1 : _=some _:=Ad hg2.2.1 1
  refine hK.out _ _ (⟨y0,y1⟩) (fun hHeld=>?_)
  clear hK K
  try simp only [Act.put,List.setIfInBounds_toArray,List.set_cons_zero,List.set_cons_succ]
  refine Aa 11 hHeld ?_
  refine wpAnyH_done (by kernel_rfl) ?_ _
  clear hHeld x0 x1 hca
  have hca:=Ht hg2.drew.1 hg2.size (n++Ao) (by omega)
  rw [HS3.out] at hca
  go_wp2
  refine wp_region_held_drew (S:=fun W=>W.cell? ⟨l,0,none⟩=some (.pointer (some ⟨d,0,none⟩))∧W.cell? ⟨l,1,none⟩=some (.string (Ae n))) (by kernel_rfl) (⟨y0,y1⟩) (fun hHeld=>?_)
  refine Aa 0 hHeld ?_
  refine Aa 1 hHeld ?_
  refine Aa 2 hHeld ?_
  refine Aa 3 hHeld ?_
  refine Aa 4 hHeld ?_
  refine Aa 5 hHeld ?_
  refine Aa 6 hHeld ?_
  refine Aa 7 hHeld ?_
  refine Aa 8 hHeld ?_
  refine Al (i:=9) rfl (by kernel_rfl) rfl (fun K hK=>?_)
  go_simp
  refine hca.mono ?_
  rintro e w3 ⟨rfl,ha⟩
  obtain ⟨F3,hg3,hf3,hc3⟩:=((hg2.drew.after ha).drewn).next hc2 hf2
  have z0 : _=some _:=Ad hg3.2.1 0
  have z1 : _=some _:=Ad hg3.2.1 1
  refine hK.out _ _ (⟨z0,z1⟩) (fun hHeld=>?_)
  clear hK K
  try simp only [Act.put,List.setIfInBounds_toArray,List.set_cons_zero,List.set_cons_succ]
  refine Aa 10 hHeld ?_
  refine wpAnyH_done (by kernel_rfl) ?_ _
  clear hHeld y0 y1 hca
  have hca:=Mk hg3.drew.1 hg3.size (n++Ao) n (by omega)
  rw [HS4.out] at hca
  go_wp2
  refine wp_region_held_drew (S:=fun W=>W.cell? ⟨l,0,none⟩=some (.pointer (some ⟨d,0,none⟩))∧W.cell? ⟨l,1,none⟩=some (.string (Ae n))) (by kernel_rfl) (⟨z0,z1⟩) (fun hHeld=>?_)
  refine Aa 0 hHeld ?_
  refine Aa 1 hHeld ?_
  refine Aa 2 hHeld ?_
  refine Aa 3 hHeld ?_
  refine Aa 4 hHeld ?_
  refine Aa 5 hHeld ?_
  refine Aa 6 hHeld ?_
  refine Aa 7 hHeld ?_
  refine Aa 8 hHeld ?_
  refine Aa 9 hHeld ?_
  refine Aa 10 hHeld ?_
  refine Aa 11 hHeld ?_
  refine Aa 12 hHeld ?_
  refine Al (i:=13) rfl (by kernel_rfl) rfl (fun K hK=>?_)
  go_simp
  refine hca.mono ?_
  rintro e w4 ⟨rfl,ha⟩
  obtain ⟨F4,hg4,hf4,hc4⟩:=((hg3.drew.after ha).drewn).next hc3 hf3
  have q0 : _=some _:=Ad hg4.2.1 0
  have q1 : _=some _:=Ad hg4.2.1 1
  refine hK.out _ _ (⟨q0,q1⟩) (fun hHeld=>?_)
  clear hK K
  try simp only [Act.put,List.setIfInBounds_toArray,List.set_cons_zero,List.set_cons_succ]
  refine Aa 14 hHeld ?_
  refine wpAnyH_done (by kernel_rfl) ?_ _
  clear hHeld z0 z1 hca
  have hti:=Hj hg4 (by omega)
  go_wp2_with fail
  refine hti.mono ?_
  rintro e w9 ⟨rfl,ha⟩
  go_wp2
  go_ret
  exact ⟨rfl,ha.next hc4 hf4⟩
 rw [if_neg he4]
 obtain rfl : e4=0:=by simpa using he4
 clear he4
 have hb5:=It S4 false
 unfold rep5
 generalize hS5 : Ba S4 false=T at *
 obtain ⟨S5,s5,e5⟩:=T
 have HS5:=Ab hS5
 clear hS5
 dsimp only at hb5 ⊢
 by_cases he5 : e5≠0
 ·rw [if_pos he5]
  unfold D4
  dsimp only
  have heb : (e5 == 0)=false:=by simp [he5]
  clear he5
  go_enter Tryz.func92,Tryz.ntmps92
  go_wp2_with fail
  refine ht.mono ?_
  rintro e w0 ⟨rfl,ha⟩
  obtain ⟨F0,hg0,hf0,hc0⟩:=ha
  have u2:=Av hg0.2.1 2
  have u3:=Ad hg0.2.1 2
  obtain ⟨F1,hg1,hf1,hc1⟩:=(hg0.put false).next hc0 hf0
  obtain ⟨W1,hW1⟩ : ∃ W,W=w0.setCell ⟨l,2,none⟩ (.bool false):=⟨_,rfl⟩
  have hW1':=hW1.symm
  have hx:=hW1
  rw [← hW1] at hg1 hc1
  have x0 : W1.cell? ⟨l,0,none⟩=some _:=Ad hg1.2.1 0
  have x1 : W1.cell? ⟨l,1,none⟩=some _:=Ad hg1.2.1 1
  clear hW1 hx
  have hca:=Fv hg1.drew.1 hg1.size (n++Ao) (by omega) (HV.out.keep hf1 hc1).drew.1 (fun _ g hg=>((HV.out.keep hf1 hc1).2 g hg).1)
  rw [HS2.out] at hca
  go_wp2
  refine wp_region_held_drew (S:=fun W=>W.cell? ⟨l,0,none⟩=some (.pointer (some ⟨d,0,none⟩))∧W.cell? ⟨l,1,none⟩=some (.string (Ae n))) (by kernel_rfl) (⟨x0,x1⟩) (fun hHeld=>?_)
  refine Aa 0 hHeld ?_
  refine Aa 1 hHeld ?_
  refine Aa 2 hHeld ?_
  refine Aa 3 hHeld ?_
  refine Aa 4 hHeld ?_
  refine Aa 5 hHeld ?_
  refine Aa 6 hHeld ?_
  refine Aa 7 hHeld ?_
  refine Aa 8 hHeld ?_
  refine Aa 9 hHeld ?_
  refine Al (i:=10) rfl (by kernel_rfl) rfl (fun K hK=>?_)
  go_simp
  refine hca.mono ?_
  rintro e w2 ⟨rfl,ha⟩
  obtain ⟨F2,hg2,hf2,hc2⟩:=((hg1.drew.after ha).drewn).next hc1 hf1
  have y0 : _=some _:=Ad hg2.2.1 0
  have y1 : _=some _:=Ad hg2.2.1 1
  refine hK.out _ _ (⟨y0,y1⟩) (fun hHeld=>?_)
  clear hK K
  try simp only [Act.put,List.setIfInBounds_toArray,List.set_cons_zero,List.set_cons_succ]
  refine Aa 11 hHeld ?_
  refine wpAnyH_done (by kernel_rfl) ?_ _
  clear hHeld x0 x1 hca
  have hca:=Ht hg2.drew.1 hg2.size (n++Ao) (by omega)
  rw [HS3.out] at hca
  go_wp2
  refine wp_region_held_drew (S:=fun W=>W.cell? ⟨l,0,none⟩=some (.pointer (some ⟨d,0,none⟩))∧W.cell? ⟨l,1,none⟩=some (.string (Ae n))) (by kernel_rfl) (⟨y0,y1⟩) (fun hHeld=>?_)
  refine Aa 0 hHeld ?_
  refine Aa 1 hHeld ?_
  refine Aa 2 hHeld ?_
  refine Aa 3 hHeld ?_
  refine Aa 4 hHeld ?_
  refine Aa 5 hHeld ?_
  refine Aa 6 hHeld ?_
  refine Aa 7 hHeld ?_
  refine Aa 8 hHeld ?_
  refine Al (i:=9) rfl (by kernel_rfl) rfl (fun K hK=>?_)
  go_simp
  refine hca.mono ?_
  rintro e w3 ⟨rfl,ha⟩
  obtain ⟨F3,hg3,hf3,hc3⟩:=((hg2.drew.after ha).drewn).next hc2 hf2
  have z0 : _=some _:=Ad hg3.2.1 0
  have z1 : _=some _:=Ad hg3.2.1 1
  refine hK.out _ _ (⟨z0,z1⟩) (fun hHeld=>?_)
  clear hK K
  try simp only [Act.put,List.setIfInBounds_toArray,List.set_cons_zero,List.set_cons_succ]
  refine Aa 10 hHeld ?_
  refine wpAnyH_done (by kernel_rfl) ?_ _
  clear hHeld y0 y1 hca
  have hca:=Mk hg3.drew.1 hg3.size (n++Ao) n (by omega)
  rw [HS4.out] at hca
  go_wp2
  refine wp_region_held_drew (S:=fun W=>W.cell? ⟨l,0,none⟩=some (.pointer (some ⟨d,0,none⟩))∧W.cell? ⟨l,1,none⟩=some (.string (Ae n))) (by kernel_rfl) (⟨z0,z1⟩) (fun hHeld=>?_)
  refine Aa 0 hHeld ?_
  refine Aa 1 hHeld ?_
  refine Aa 2 hHeld ?_
  refine Aa 3 hHeld ?_
  refine Aa 4 hHeld ?_
  refine Aa 5 hHeld ?_
  refine Aa 6 hHeld ?_
  refine Aa 7 hHeld ?_
  refine Aa 8 hHeld ?_
  refine Aa 9 hHeld ?_
  refine Aa 10 hHeld ?_
  refine Aa 11 hHeld ?_
  refine Aa 12 hHeld ?_
  refine Al (i:=13) rfl (by kernel_rfl) rfl (fun K hK=>?_)
  go_simp
  refine hca.mono ?_
  rintro e w4 ⟨rfl,ha⟩
  obtain ⟨F4,hg4,hf4,hc4⟩:=((hg3.drew.after ha).drewn).next hc3 hf3
  have q0 : _=some _:=Ad hg4.2.1 0
  have q1 : _=some _:=Ad hg4.2.1 1
  refine hK.out _ _ (⟨q0,q1⟩) (fun hHeld=>?_)
  clear hK K
  try simp only [Act.put,List.setIfInBounds_toArray,List.set_cons_zero,List.set_cons_succ]
  refine Aa 14 hHeld ?_
  refine wpAnyH_done (by kernel_rfl) ?_ _
  clear hHeld z0 z1 hca
  have hst:=Ip hg4 (by omega)
  dsimp only at hst
  rw [HS5.out] at hst
  go_wp2_with fail
  refine hst.mono ?_
  rintro e w5 ⟨rfl,ha⟩
  obtain ⟨F5,hg5,hf5,hc5⟩:=ha.next hc4 hf4
  have hti:=Hj hg5 (by omega)
  go_wp2_with fail
  refine hti.mono ?_
  rintro e w9 ⟨rfl,ha⟩
  go_wp2
  go_ret
  exact ⟨rfl,ha.next hc5 hf5⟩
 rw [if_neg he5]
 obtain rfl : e5=0:=by simpa using he5
 clear he5
 go_enter Tryz.func92,Tryz.ntmps92
 go_wp2_with fail
 refine ht.mono ?_
 rintro e w0 ⟨rfl,ha⟩
 obtain ⟨F0,hg0,hf0,hc0⟩:=ha
 have u2:=Av hg0.2.1 2
 have u3:=Ad hg0.2.1 2
 obtain ⟨F1,hg1,hf1,hc1⟩:=(hg0.put false).next hc0 hf0
 obtain ⟨W1,hW1⟩ : ∃ W,W=w0.setCell ⟨l,2,none⟩ (.bool false):=⟨_,rfl⟩
 have hW1':=hW1.symm
 have hx:=hW1
 rw [← hW1] at hg1 hc1
 have x0 : W1.cell? ⟨l,0,none⟩=some _:=Ad hg1.2.1 0
 have x1 : W1.cell? ⟨l,1,none⟩=some _:=Ad hg1.2.1 1
 clear hW1 hx
 have hca:=Fv hg1.drew.1 hg1.size (n++Ao) (by omega) (HV.out.keep hf1 hc1).drew.1 (fun _ g hg=>((HV.out.keep hf1 hc1).2 g hg).1)
 rw [HS2.out] at hca
 go_wp2
 refine wp_region_held_drew (S:=fun W=>W.cell? ⟨l,0,none⟩=some (.pointer (some ⟨d,0,none⟩))∧W.cell? ⟨l,1,none⟩=some (.string (Ae n))) (by kernel_rfl) (⟨x0,x1⟩) (fun hHeld=>?_)
 refine Aa 0 hHeld ?_
 refine Aa 1 hHeld ?_
 refine Aa 2 hHeld ?_
 refine Aa 3 hHeld ?_
 refine Aa 4 hHeld ?_
 refine Aa 5 hHeld ?_
 refine Aa 6 hHeld ?_
 refine Aa 7 hHeld ?_
 refine Aa 8 hHeld ?_
 refine Aa 9 hHeld ?_
 refine Al (i:=10) rfl (by kernel_rfl) rfl (fun K hK=>?_)
 go_simp
 refine hca.mono ?_
 rintro e w2 ⟨rfl,ha⟩
 obtain ⟨F2,hg2,hf2,hc2⟩:=((hg1.drew.after ha).drewn).next hc1 hf1
 have y0 : _=some _:=Ad hg2.2.1 0
 have y1 : _=some _:=Ad hg2.2.1 1
 refine hK.out _ _ (⟨y0,y1⟩) (fun hHeld=>?_)
 clear hK K
 try simp only [Act.put,List.setIfInBounds_toArray,List.set_cons_zero,List.set_cons_succ]
 refine Aa 11 hHeld ?_
 refine wpAnyH_done (by kernel_rfl) ?_ _
 clear hHeld x0 x1 hca
 have hca:=Ht hg2.drew.1 hg2.size (n++Ao) (by omega)
 rw [HS3.out] at hca
 go_wp2
 refine wp_region_held_drew (S:=fun W=>W.cell? ⟨l,0,none⟩=some (.pointer (some ⟨d,0,none⟩))∧W.cell? ⟨l,1,none⟩=some (.string (Ae n))) (by kernel_rfl) (⟨y0,y1⟩) (fun hHeld=>?_)
 refine Aa 0 hHeld ?_
 refine Aa 1 hHeld ?_
 refine Aa 2 hHeld ?_
 refine Aa 3 hHeld ?_
 refine Aa 4 hHeld ?_
 refine Aa 5 hHeld ?_
 refine Aa 6 hHeld ?_
 refine Aa 7 hHeld ?_
 refine Aa 8 hHeld ?_
 refine Al (i:=9) rfl (by kernel_rfl) rfl (fun K hK=>?_)
 go_simp
 refine hca.mono ?_
 rintro e w3 ⟨rfl,ha⟩
 obtain ⟨F3,hg3,hf3,hc3⟩:=((hg2.drew.after ha).drewn).next hc2 hf2
 have z0 : _=some _:=Ad hg3.2.1 0
 have z1 : _=some _:=Ad hg3.2.1 1
 refine hK.out _ _ (⟨z0,z1⟩) (fun hHeld=>?_)
 clear hK K
 try simp only [Act.put,List.setIfInBounds_toArray,List.set_cons_zero,List.set_cons_succ]
 refine Aa 10 hHeld ?_
 refine wpAnyH_done (by kernel_rfl) ?_ _
 clear hHeld y0 y1 hca
 have hca:=Mk hg3.drew.1 hg3.size (n++Ao) n (by omega)
 rw [HS4.out] at hca
 go_wp2
 refine wp_region_held_drew (S:=fun W=>W.cell? ⟨l,0,none⟩=some (.pointer (some ⟨d,0,none⟩))∧W.cell? ⟨l,1,none⟩=some (.string (Ae n))) (by kernel_rfl) (⟨z0,z1⟩) (fun hHeld=>?_)
 refine Aa 0 hHeld ?_
 refine Aa 1 hHeld ?_
 refine Aa 2 hHeld ?_
 refine Aa 3 hHeld ?_
 refine Aa 4 hHeld ?_
 refine Aa 5 hHeld ?_
 refine Aa 6 hHeld ?_
 refine Aa 7 hHeld ?_
 refine Aa 8 hHeld ?_
 refine Aa 9 hHeld ?_
 refine Aa 10 hHeld ?_
 refine Aa 11 hHeld ?_
 refine Aa 12 hHeld ?_
 refine Al (i:=13) rfl (by kernel_rfl) rfl (fun K hK=>?_)
 go_simp
 refine hca.mono ?_
 rintro e w4 ⟨rfl,ha⟩
 obtain ⟨F4,hg4,hf4,hc4⟩:=((hg3.drew.after ha).drewn).next hc3 hf3
 have q0 : _=some _:=Ad hg4.2.1 0
 have q1 : _=some _:=Ad hg4.2.1 1
 refine hK.out _ _ (⟨q0,q1⟩) (fun hHeld=>?_)
 clear hK K
 try simp only [Act.put,List.setIfInBounds_toArray,List.set_cons_zero,List.set_cons_succ]
 refine Aa 14 hHeld ?_
 refine wpAnyH_done (by kernel_rfl) ?_ _
 clear hHeld z0 z1 hca
 have hst:=Ip hg4 (by omega)
 dsimp only at hst
 rw [HS5.out] at hst
 go_wp2_with fail
 refine hst.mono ?_
 rintro e w5 ⟨rfl,ha⟩
 obtain ⟨F5,hg5,hf5,hc5⟩:=ha.next hc4 hf4
 go_wp2
 go_ret
 exact ⟨rfl,F5,hg5,hf5,hc5⟩
end Go.Proofs.YtblniomnhpedjaaGreatDoor
