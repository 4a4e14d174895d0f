/-
  What stands behind a link, by the reference. Conditions: the objects lie there; texts within reach.
-/
import Derived.Test.YtckejblkppllaaaGreatDoorT15PPlain
import Derived.Test.YtckejblkppllaaaGreatDoorT17PRow
namespace Go.Proofs.YtckejblkppllaaaGreatDoor
open Go.RowKit
theorem Tryz.infoNodeM : (Tryz.prog.info? 131).map (·.size)=some 3:=by kernel_rfl
def nodeSaid (B : Nat) (a : Int × A2) (e : Ending) (w' : World) : Prop:=
 ∃ vp vk,e = .returned (.tuple #[.agg #[vp, .int .i64 a.2.1,vk], .int .i64 a.1])∧Rw B w' 135 2 Ak vp a.2.2.1∧Rw B w' 125 3 Au vk a.2.2.2
theorem An {w : World} {g : Nat} {v0 v1 v2 u0 : Value} {t : TypeId} (h : w.heap[g]? = some (.cells #[v0,v1,v2] t)) : (w.setCell ⟨g,0,none⟩ u0).heap[g]? = some (.cells #[u0,v1,v2] t):=by
 rw [heap_setCell _ _ _ _ _ _ _ h]
 simp
theorem J6 {l : List Ag} (h : 1≤l.length) : By l=(l[l.length - 1]'(by omega)).1:=by
 unfold By
 rw [List.getLast?_eq_getElem?,List.getElem?_eq_getElem (by omega)]
 rfl
theorem lastL_get {l : List Ah} (h : 1≤l.length) : E6 l=(l[l.length - 1]'(by omega)).1:=by
 unfold E6
 rw [List.getLast?_eq_getElem?,List.getElem?_eq_getElem (by omega)]
 rfl
theorem Nf (xs : List Ah) (k : Nat) (h : k<xs.length) : Am (xs.take (k+1))=Am (xs.take k)+xs[k].2.2:=by
 rw [List.take_succ_eq_append_getElem h,Ht]
 simp [Am]
theorem Jh {xs : List Ah} (h : ∀ p∈xs,A6 p=true) (hs : Am xs≤4096) (k : Nat) : 0≤Am (xs.take k)∧Am (xs.take k)≤4096:=by
 have h1:=Ef (xs.take k) (fun p hp=>h p (List.mem_of_mem_take hp))
 have h2:=Ef (xs.drop k) (fun p hp=>h p (List.mem_of_mem_drop hp))
 have h3 : Am xs=Am (xs.take k)+Am (xs.drop k):=by rw [← Ht,List.take_append_drop]
 omega
theorem Mn {f : Dx} (h : A4 ltB f=true) : Am f.2≤4096:=by
 have h2:=Jk h
 have h3:=Ki h
 rw [I9 f (by simp only [Dw,decide_eq_true_eq]; exact ⟨h2.1,h2.2.1⟩) h2.2.2 h3.1] at h
 simp only [Bool.and_eq_true,decide_eq_true_eq] at h
 exact h.2
set_option maxRecDepth 40000 in
set_option maxHeartbeats 3200000 in
theorem node_any (w : World) (vo : Value) (objs : List Ag) (hv : Ls w.heap.size w 2 Ak vo objs) (hob : ∀ o∈objs,o.2.length≤140737488351232) (k : Ah) (_hk : Cg k.2.2) (level : Int) (hlv : -1≤level) (hlv2 : level≤20) :
  Calls Tryz.prog 56 #[vo, .agg #[.string (Ab k.1), .string (Ab k.2.1), .int .i64 k.2.2], .int .i64 level] w fun e w'=>nodeSaid w.heap.size (Ao (Aj objs) k level) e w'∧Below w.heap.size w w':=by
 have hb0 : Below w.heap.size w ((w.alloc (.cells #[.string (Ab k.1), .string (Ab k.2.1), .int .i64 k.2.2] 125)).alloc (.cells #[.slice none 0 0, .int .i64 0, .slice none 0 0] 131)):=((Below.refl _ _).alloc (Nat.le_refl _) _).alloc (by simp) _
 have hk0 : ((w.alloc (.cells #[.string (Ab k.1), .string (Ab k.2.1), .int .i64 k.2.2] 125)).alloc (.cells #[.slice none 0 0, .int .i64 0, .slice none 0 0] 131)).heap[w.heap.size]? = some (.cells #[.string (Ab k.1), .string (Ab k.2.1), .int .i64 k.2.2] 125):=(heap_past _ _ _ (by simp)).trans (heap_last w _ _ rfl)
 have hz0 : ((w.alloc (.cells #[.string (Ab k.1), .string (Ab k.2.1), .int .i64 k.2.2] 125)).alloc (.cells #[.slice none 0 0, .int .i64 0, .slice none 0 0] 131)).heap[w.heap.size+1]? = some (.cells #[.slice none 0 0, .int .i64 0, .slice none 0 0] 131):=heap_last _ _ _ (by simp)
 generalize hw0 : (w.alloc (.cells #[.string (Ab k.1), .string (Ab k.2.1), .int .i64 k.2.2] 125)).alloc (.cells #[.slice none 0 0, .int .i64 0, .slice none 0 0] 131)=w0 at *
 have hf:=find_any w0 vo objs k.2.1 ((hv.keep hb0).up hb0.size)
 obtain ⟨A,hA⟩ : ∃ A,A=Ao (Aj objs) k level:=⟨_,rfl⟩
 rw [← hA]
 have HA:=Ac hA
 have H0:=Ac (And.intro hb0 (And.intro hk0 hz0))
 have a1:=cell_of_row w0 w.heap.size 1 _ _ _ hk0
 simp only [List.getElem?_toArray,List.getElem?_cons_zero,List.getElem?_cons_succ] at a1
 have fin : ∀ W : World,Below w.heap.size w W→∀ g : Nat,g=w.heap.size+1→W.heap[g]? = some (.cells #[.slice none 0 0, .int .i64 0, .slice none 0 0] 131)→W.cell? ⟨g,0,none⟩=some (.slice none 0 0)∧W.cell? ⟨g,1,none⟩=some (.int .i64 0)∧W.cell? ⟨g,2,none⟩=some (.slice none 0 0):=fun W _ g _ hW=>by
  have q0:=cell_of_row W g 0 _ _ _ hW
  have q1:=cell_of_row W g 1 _ _ _ hW
  have q2:=cell_of_row W g 2 _ _ _ hW
  simp only [List.getElem?_toArray,List.getElem?_cons_zero,List.getElem?_cons_succ] at q0 q1 q2
  exact ⟨q0,q1,q2⟩
 have FIN:=Ac fin
 obtain ⟨vao,vcap,hvv,-⟩:=hv
 obtain ⟨vm,hvm⟩ : ∃ vm,vm=objs.length:=⟨_,rfl⟩
 rw [← hvm] at hvv
 subst hvv
 clear hb0 hk0 hz0 hA fin hvm
 cases hfo : Aj objs k.2.1 with
 | none=>
  rw [hfo] at hf
  have hA2:=HA.out.trans (askM_miss (level:=level) hfo)
  have HA2:=Ac hA2
  obtain ⟨c0,c1,c2⟩:=FIN.out w0 H0.out.1 _ rfl H0.out.2.2
  have f0:=Af (j:=0) H0.out.2.2
  have f1:=Af (j:=1) H0.out.2.2
  have f2:=Af (j:=2) H0.out.2.2
  clear hA2 hfo
  unfold F1 at hf
  go_enter Tryz.func56,Tryz.ntmps56
  go_wp2_with fail
  try rw [hw0]
  refine hf.mono ?_
  rintro e w1 ⟨rfl,he⟩
  subst he
  clear hf
  go_wp2
  refine bodyPost_ret (Aq rfl _ _ _ _ _ _ _ rfl (Bm H0.out.2.2) Tryz.underlying131 rfl Tryz.infoNodeM) rfl ⟨⟨_,_,by rw [HA2.out]; rfl,by rw [HA2.out]; exact World.ownsRow_nil _ _ _ _,by rw [HA2.out]; exact World.ownsRow_nil _ _ _ _⟩,?_⟩
  exact ((H0.out.1.setCell (p:=⟨w.heap.size+1,0,none⟩) (Nat.le_succ _) _).setCell (p:=⟨w.heap.size+1,1,none⟩) (Nat.le_succ _) _).setCell (p:=⟨w.heap.size+1,2,none⟩) (Nat.le_succ _) _
 | some b=>
  rw [hfo] at hf
  unfold F1 at hf
  have hbl : b.length≤140737488351232:=by obtain ⟨o,ho,rfl⟩:=findO_mem hfo; exact hob o ho
  have htl:=Ov w0 b hbl
  unfold F7 at htl
  cases hlf : Eu b with
  | some l=>
   rw [hlf] at htl
   simp only at htl
   have hnm:=Ks hlf
   have hlok:=((Ib b (by omega) l).1 hlf).1
   have hl64:=(G2 hlok).1
   have HN:=Ac (And.intro hfo hnm)
   clear hfo hlf hlok hnm
   go_enter Tryz.func56,Tryz.ntmps56
   go_wp2_with fail
   try rw [hw0]
   refine hf.mono ?_
   rintro e w1 ⟨rfl,he⟩
   subst he
   clear hf
   go_wp2_with fail
   refine htl.mono ?_
   rintro e w2 ⟨⟨vl,rfl,hrow⟩,hb2⟩
   have hB2:=H0.out.1.trans (hb2.mono H0.out.1.size)
   have hk2:=(hb2.block _ (Ad H0.out.2.1)).trans H0.out.2.1
   have hz2:=(hb2.block _ (Ad H0.out.2.2)).trans H0.out.2.2
   have d0:=cell_of_row w2 w.heap.size 0 _ _ _ hk2
   have d2:=cell_of_row w2 w.heap.size 2 _ _ _ hk2
   simp only [List.getElem?_toArray,List.getElem?_cons_zero,List.getElem?_cons_succ] at d0 d2
   obtain ⟨c0,c1,c2⟩:=FIN.out w2 hB2 _ rfl hz2
   have f0:=Af (j:=0) hz2
   have f1:=Af (j:=1) hz2
   have f2:=Af (j:=2) hz2
   have hrow':=Fv hrow H0.out.1.size
   have hls:=Bi Dr hrow
   obtain ⟨la,lc,hlv',-,-,hcc⟩:=hls
   subst hlv'
   have H2:=Ac (And.intro hB2 (And.intro hz2 hrow'))
   clear htl hb2 hB2 hk2 hz2 hrow hrow' a1
   by_cases q1 : 0<level
   ·have p1 : decide ((0 : Int)<level)=true:=decide_eq_true q1
    have hA2:=HA.out.trans (Gp HN.out.1 HN.out.2 (by omega) (by rw [Nk,decide_eq_false (by omega : ¬ (0 : Int)=level)]; rfl))
    have HA2:=Ac hA2
    clear hA2
    go_wp2_with fail
    refine wp_region_held_drew (S:=fun W=>W.cell? ⟨w.heap.size,0,none⟩=some (.string (Ab k.1))∧W.cell? ⟨w.heap.size,2,none⟩=some (.int .i64 k.2.2)) (by kernel_rfl) (⟨d0,d2⟩) (fun hHeld=>?_)
    refine Aa 0 hHeld ?_
    refine Aa 1 hHeld ?_
    refine Aa 2 hHeld ?_
    refine Ae 3 hHeld ?_
    refine Ae 4 hHeld ?_
    refine Ae 5 hHeld ?_
    refine Ae 6 hHeld ?_
    refine Ae 7 hHeld ?_
    refine Ae 8 hHeld ?_
    refine Ae 9 hHeld ?_
    refine Ae 10 hHeld ?_
    refine Ae 11 hHeld ?_
    refine Ae 12 hHeld ?_
    refine Ae 13 hHeld ?_
    refine Ae 14 hHeld ?_
    refine Ae 15 hHeld ?_
    refine Ae 16 hHeld ?_
    refine Ae 17 hHeld ?_
    refine Ae 18 hHeld ?_
    refine Ae 19 hHeld ?_
    refine Ae 20 hHeld ?_
    refine Ae 21 hHeld ?_
    refine Ae 22 hHeld ?_
    refine Ae 23 hHeld ?_
    refine Ae 24 hHeld ?_
    refine Ae 25 hHeld ?_
    refine Ae 26 hHeld ?_
    refine Ae 27 hHeld ?_
    refine Ae 28 hHeld ?_
    refine Aa 29 hHeld ?_
    refine wpAnyH_done (by kernel_rfl) ?_ _
    clear hHeld
    go_wp2
    refine bodyPost_ret (Aq rfl _ _ _ _ _ _ _ rfl (Bm (show w2.drew.heap[w.heap.size+1]? = _ from H2.out.2.1)) Tryz.underlying131 rfl Tryz.infoNodeM) rfl ⟨⟨_,_,by rw [HA2.out]; rfl,?_,?_⟩,?_⟩
    ·rw [HA2.out]; exact World.ownsRow_nil _ _ _ _
    ·rw [HA2.out]; exact World.ownsRow_nil _ _ _ _
    ·exact ((H2.out.1.drew.setCell (p:=⟨w.heap.size+1,0,none⟩) (Nat.le_succ _) _).setCell (p:=⟨w.heap.size+1,1,none⟩) (Nat.le_succ _) _).setCell (p:=⟨w.heap.size+1,2,none⟩) (Nat.le_succ _) _
   ·have p1 : decide ((0 : Int)<level)=false:=decide_eq_false q1
    by_cases q2 : level<0
    ·have p2 : (level == 0)=false:=by rw [beq_eq_false_iff_ne]; omega
     have hA2:=HA.out.trans (Hq HN.out.1 HN.out.2 (.inl q2))
     have HA2:=Ac hA2
     clear hA2
     go_wp2_with fail
     refine wp_region_held_drew (S:=fun W=>W.cell? ⟨w.heap.size,0,none⟩=some (.string (Ab k.1))∧W.cell? ⟨w.heap.size,2,none⟩=some (.int .i64 k.2.2)) (by kernel_rfl) (⟨d0,d2⟩) (fun hHeld=>?_)
     refine Aa 0 hHeld ?_
     refine Aa 1 hHeld ?_
     refine Aa 2 hHeld ?_
     refine Aa 3 hHeld ?_
     refine Aa 4 hHeld ?_
     refine Aa 5 hHeld ?_
     refine Ae 6 hHeld ?_
     refine Ae 7 hHeld ?_
     refine Ae 8 hHeld ?_
     refine Ae 9 hHeld ?_
     refine Ae 10 hHeld ?_
     refine Ae 11 hHeld ?_
     refine Ae 12 hHeld ?_
     refine Ae 13 hHeld ?_
     refine Ae 14 hHeld ?_
     refine Ae 15 hHeld ?_
     refine Ae 16 hHeld ?_
     refine Ae 17 hHeld ?_
     refine Ae 18 hHeld ?_
     refine Ae 19 hHeld ?_
     refine Ae 20 hHeld ?_
     refine Ae 21 hHeld ?_
     refine Ae 22 hHeld ?_
     refine Ae 23 hHeld ?_
     refine Ae 24 hHeld ?_
     refine Ae 25 hHeld ?_
     refine Ae 26 hHeld ?_
     refine Ae 27 hHeld ?_
     refine Aa 28 hHeld ?_
     refine Aa 29 hHeld ?_
     refine wpAnyH_done (by kernel_rfl) ?_ _
     clear hHeld
     go_wp2
     refine bodyPost_ret (Aq rfl _ _ _ _ _ _ _ rfl (Bm (show w2.drew.heap[w.heap.size+1]? = _ from H2.out.2.1)) Tryz.underlying131 rfl Tryz.infoNodeM) rfl ⟨⟨_,_,by rw [HA2.out]; rfl,?_,?_⟩,?_⟩
     ·rw [HA2.out]
      have hz:=(show w2.drew.heap[w.heap.size+1]? = _ from H2.out.2.1)
      have hr:=(show w2.drew.ownsRow _ _ _ _ _ _ from H2.out.2.2)
      exact Ap (Ap (Ap hr hz (by decide) _) (An hz) (by decide) _) (Az (An hz)) (by decide) _
     ·rw [HA2.out]; exact World.ownsRow_nil _ _ _ _
     ·exact ((H2.out.1.drew.setCell (p:=⟨w.heap.size+1,0,none⟩) (Nat.le_succ _) _).setCell (p:=⟨w.heap.size+1,1,none⟩) (Nat.le_succ _) _).setCell (p:=⟨w.heap.size+1,2,none⟩) (Nat.le_succ _) _
    ·have q3 : level=0:=by omega
     have p2 : (level == 0)=true:=by rw [q3]; rfl
     have hfit:=Nk l k level
     rw [decide_eq_true (by omega : (0 : Int)=level),Bool.true_and] at hfit
     by_cases q4 : (l.length : Int)=k.2.2
     rotate_left
     ·have p4 : ((l.length : Int) != k.2.2)=true:=by simpa using q4
      have hA2:=HA.out.trans (Gp HN.out.1 HN.out.2 q2 (by rw [hfit,decide_eq_false q4]; rfl))
      have HA2:=Ac hA2
      clear hA2 hfit q4 q3
      go_wp2_with fail
      refine wp_region_held_drew (S:=fun W=>W.cell? ⟨w.heap.size,0,none⟩=some (.string (Ab k.1))∧W.cell? ⟨w.heap.size,2,none⟩=some (.int .i64 k.2.2)) (by kernel_rfl) (⟨d0,d2⟩) (fun hHeld=>?_)
      refine Aa 0 hHeld ?_
      refine Aa 1 hHeld ?_
      refine Aa 2 hHeld ?_
      refine Aa 3 hHeld ?_
      refine Aa 4 hHeld ?_
      refine Aa 5 hHeld ?_
      refine Aa 6 hHeld ?_
      refine Aa 7 hHeld ?_
      refine Aa 8 hHeld ?_
      refine Aa 9 hHeld ?_
      refine Aa 10 hHeld ?_
      refine Aa 11 hHeld ?_
      refine Ae 12 hHeld ?_
      refine Ae 13 hHeld ?_
      refine Ae 14 hHeld ?_
      refine Aa 15 hHeld ?_
      refine Aa 16 hHeld ?_
      refine Ae 17 hHeld ?_
      refine Ae 18 hHeld ?_
      refine Ae 19 hHeld ?_
      refine Ae 20 hHeld ?_
      refine Ae 21 hHeld ?_
      refine Ae 22 hHeld ?_
      refine Ae 23 hHeld ?_
      refine Ae 24 hHeld ?_
      refine Ae 25 hHeld ?_
      refine Ae 26 hHeld ?_
      refine Aa 27 hHeld ?_
      refine Aa 28 hHeld ?_
      refine Aa 29 hHeld ?_
      refine wpAnyH_done (by kernel_rfl) ?_ _
      clear hHeld
      go_wp2
      refine bodyPost_ret (Aq rfl _ _ _ _ _ _ _ rfl (Bm (show w2.drew.heap[w.heap.size+1]? = _ from H2.out.2.1)) Tryz.underlying131 rfl Tryz.infoNodeM) rfl ⟨⟨_,_,by rw [HA2.out]; rfl,?_,?_⟩,?_⟩
      ·rw [HA2.out]; exact World.ownsRow_nil _ _ _ _
      ·rw [HA2.out]; exact World.ownsRow_nil _ _ _ _
      ·exact ((H2.out.1.drew.setCell (p:=⟨w.heap.size+1,0,none⟩) (Nat.le_succ _) _).setCell (p:=⟨w.heap.size+1,1,none⟩) (Nat.le_succ _) _).setCell (p:=⟨w.heap.size+1,2,none⟩) (Nat.le_succ _) _
     ·have p4 : ((l.length : Int) != k.2.2)=false:=by simpa using q4
      rw [decide_eq_true q4,Bool.true_and] at hfit
      by_cases q5 : l.length=0
      ·have p5 : ((l.length : Int) == 0)=true:=by rw [q5]; rfl
       have hA2:=HA.out.trans (Gp HN.out.1 HN.out.2 q2 (by rw [hfit,decide_eq_false (by omega : ¬ 1≤l.length)]; rfl))
       have HA2:=Ac hA2
       clear hA2 hfit q4 q3 q5
       go_wp2_with fail
       refine wp_region_held_drew (S:=fun W=>W.cell? ⟨w.heap.size,0,none⟩=some (.string (Ab k.1))∧W.cell? ⟨w.heap.size,2,none⟩=some (.int .i64 k.2.2)) (by kernel_rfl) (⟨d0,d2⟩) (fun hHeld=>?_)
       refine Aa 0 hHeld ?_
       refine Aa 1 hHeld ?_
       refine Aa 2 hHeld ?_
       refine Aa 3 hHeld ?_
       refine Aa 4 hHeld ?_
       refine Aa 5 hHeld ?_
       refine Aa 6 hHeld ?_
       refine Aa 7 hHeld ?_
       refine Aa 8 hHeld ?_
       refine Aa 9 hHeld ?_
       refine Aa 10 hHeld ?_
       refine Aa 11 hHeld ?_
       refine Aa 12 hHeld ?_
       refine Aa 13 hHeld ?_
       refine Aa 14 hHeld ?_
       refine Aa 15 hHeld ?_
       refine Aa 16 hHeld ?_
       refine Ae 17 hHeld ?_
       refine Ae 18 hHeld ?_
       refine Ae 19 hHeld ?_
       refine Ae 20 hHeld ?_
       refine Ae 21 hHeld ?_
       refine Ae 22 hHeld ?_
       refine Ae 23 hHeld ?_
       refine Ae 24 hHeld ?_
       refine Ae 25 hHeld ?_
       refine Ae 26 hHeld ?_
       refine Aa 27 hHeld ?_
       refine Aa 28 hHeld ?_
       refine Aa 29 hHeld ?_
       refine wpAnyH_done (by kernel_rfl) ?_ _
       clear hHeld
       go_wp2
       refine bodyPost_ret (Aq rfl _ _ _ _ _ _ _ rfl (Bm (show w2.drew.heap[w.heap.size+1]? = _ from H2.out.2.1)) Tryz.underlying131 rfl Tryz.infoNodeM) rfl ⟨⟨_,_,by rw [HA2.out]; rfl,?_,?_⟩,?_⟩
       ·rw [HA2.out]; exact World.ownsRow_nil _ _ _ _
       ·rw [HA2.out]; exact World.ownsRow_nil _ _ _ _
       ·exact ((H2.out.1.drew.setCell (p:=⟨w.heap.size+1,0,none⟩) (Nat.le_succ _) _).setCell (p:=⟨w.heap.size+1,1,none⟩) (Nat.le_succ _) _).setCell (p:=⟨w.heap.size+1,2,none⟩) (Nat.le_succ _) _
      ·have p5 : ((l.length : Int) == 0)=false:=by rw [beq_eq_false_iff_ne]; omega
       have hl1 : 1≤l.length:=by omega
       rw [decide_eq_true hl1,Bool.true_and,J6 hl1] at hfit
       obtain ⟨lb,loff,rfl,hlbl,hlc⟩:=hcc (by rintro rfl; simp at hl1)
       have y0:=hlc (l.length - 1) (by omega) 0 _ rfl
       simp only [Nat.add_zero] at y0
       generalize l[l.length - 1]=y at *
       have hty:=toL y.1
       have htk:=toL k.1
       have hsub : (l.length : Int) - 1=((l.length - 1 : Nat) : Int):=by omega
       have hwi : IntKind.i64.wrap ((l.length - 1 : Nat) : Int)=((l.length - 1 : Nat) : Int):=by rw [IntKind.wrap_i64]; omega
       have hli : l.length - 1<l.length:=by omega
       by_cases q6 : (y.1 == k.1)=true
       ·have hA2:=HA.out.trans (Hq HN.out.1 HN.out.2 (.inr (by rw [hfit]; exact q6)))
        have HA2:=Ac hA2
        clear hA2 hfit q4 q3 q5 hlc hcc
        go_wp2_with fail
        refine wp_region_held_drew (S:=fun W=>W.cell? ⟨w.heap.size,0,none⟩=some (.string (Ab k.1))∧W.cell? ⟨w.heap.size,2,none⟩=some (.int .i64 k.2.2)∧W.cell? ⟨lb,loff+(l.length - 1) * 2,none⟩=some (.string (Ab y.1))) (by kernel_rfl) (⟨d0,d2,y0⟩) (fun hHeld=>?_)
        refine Aa 0 hHeld ?_
        refine Aa 1 hHeld ?_
        refine Aa 2 hHeld ?_
        refine Aa 3 hHeld ?_
        refine Aa 4 hHeld ?_
        refine Aa 5 hHeld ?_
        refine Aa 6 hHeld ?_
        refine Aa 7 hHeld ?_
        refine Aa 8 hHeld ?_
        refine Aa 9 hHeld ?_
        refine Aa 10 hHeld ?_
        refine Aa 11 hHeld ?_
        refine Aa 12 hHeld ?_
        refine Aa 13 hHeld ?_
        refine Aa 14 hHeld ?_
        refine Aa 15 hHeld ?_
        refine Aa 16 hHeld ?_
        refine Aa 17 hHeld ?_
        refine Aa 18 hHeld ?_
        refine Aa 19 hHeld ?_
        refine Aa 20 hHeld ?_
        refine Aa 21 hHeld ?_
        refine Aa 22 hHeld ?_
        refine Aa 23 hHeld ?_
        refine Aa 24 hHeld ?_
        refine Aa 25 hHeld ?_
        refine Aa 26 hHeld ?_
        refine Aa 27 hHeld ?_
        refine Aa 28 hHeld ?_
        refine Aa 29 hHeld ?_
        refine wpAnyH_done (by kernel_rfl) ?_ _
        clear hHeld
        go_wp2
        refine bodyPost_ret (Aq rfl _ _ _ _ _ _ _ rfl (Bm (show w2.drew.heap[w.heap.size+1]? = _ from H2.out.2.1)) Tryz.underlying131 rfl Tryz.infoNodeM) rfl ⟨⟨_,_,by rw [HA2.out]; rfl,?_,?_⟩,?_⟩
        ·rw [HA2.out]
         have hz:=(show w2.drew.heap[w.heap.size+1]? = _ from H2.out.2.1)
         have hr:=(show w2.drew.ownsRow _ _ _ _ _ _ from H2.out.2.2)
         exact Ap (Ap (Ap hr hz (by decide) _) (An hz) (by decide) _) (Az (An hz)) (by decide) _
        ·rw [HA2.out]; exact World.ownsRow_nil _ _ _ _
        ·exact ((H2.out.1.drew.setCell (p:=⟨w.heap.size+1,0,none⟩) (Nat.le_succ _) _).setCell (p:=⟨w.heap.size+1,1,none⟩) (Nat.le_succ _) _).setCell (p:=⟨w.heap.size+1,2,none⟩) (Nat.le_succ _) _
       ·have q6 : (y.1 == k.1)=false:=by simpa using q6
        have hA2:=HA.out.trans (Gp HN.out.1 HN.out.2 q2 (by rw [hfit]; exact q6))
        have HA2:=Ac hA2
        clear hA2 hfit q4 q3 q5 hlc hcc
        go_wp2_with fail
        refine wp_region_held_drew (S:=fun W=>W.cell? ⟨w.heap.size,0,none⟩=some (.string (Ab k.1))∧W.cell? ⟨w.heap.size,2,none⟩=some (.int .i64 k.2.2)∧W.cell? ⟨lb,loff+(l.length - 1) * 2,none⟩=some (.string (Ab y.1))) (by kernel_rfl) (⟨d0,d2,y0⟩) (fun hHeld=>?_)
        refine Aa 0 hHeld ?_
        refine Aa 1 hHeld ?_
        refine Aa 2 hHeld ?_
        refine Aa 3 hHeld ?_
        refine Aa 4 hHeld ?_
        refine Aa 5 hHeld ?_
        refine Aa 6 hHeld ?_
        refine Aa 7 hHeld ?_
        refine Aa 8 hHeld ?_
        refine Aa 9 hHeld ?_
        refine Aa 10 hHeld ?_
        refine Aa 11 hHeld ?_
        refine Aa 12 hHeld ?_
        refine Aa 13 hHeld ?_
        refine Aa 14 hHeld ?_
        refine Aa 15 hHeld ?_
        refine Aa 16 hHeld ?_
        refine Aa 17 hHeld ?_
        refine Aa 18 hHeld ?_
        refine Aa 19 hHeld ?_
        refine Aa 20 hHeld ?_
        refine Aa 21 hHeld ?_
        refine Aa 22 hHeld ?_
        refine Aa 23 hHeld ?_
        refine Aa 24 hHeld ?_
        refine Aa 25 hHeld ?_
        refine Aa 26 hHeld ?_
        refine Aa 27 hHeld ?_
        refine Aa 28 hHeld ?_
        refine Aa 29 hHeld ?_
        refine wpAnyH_done (by kernel_rfl) ?_ _
        clear hHeld
        go_wp2
        refine bodyPost_ret (Aq rfl _ _ _ _ _ _ _ rfl (Bm (show w2.drew.heap[w.heap.size+1]? = _ from H2.out.2.1)) Tryz.underlying131 rfl Tryz.infoNodeM) rfl ⟨⟨_,_,by rw [HA2.out]; rfl,?_,?_⟩,?_⟩
        ·rw [HA2.out]; exact World.ownsRow_nil _ _ _ _
        ·rw [HA2.out]; exact World.ownsRow_nil _ _ _ _
        ·exact ((H2.out.1.drew.setCell (p:=⟨w.heap.size+1,0,none⟩) (Nat.le_succ _) _).setCell (p:=⟨w.heap.size+1,1,none⟩) (Nat.le_succ _) _).setCell (p:=⟨w.heap.size+1,2,none⟩) (Nat.le_succ _) _
  | none=>
   rw [hlf] at htl
   simp only at htl
   have htb:=fun (W : World)=>Oz W b hbl
   unfold E9 at htb
   cases hbr : E4 b with
   | none=>
    rw [hbr] at htb
    simp only at htb
    have hA2:=HA.out.trans (askM_odd hfo (Nc hlf hbr))
    have HA2:=Ac hA2
    clear hfo hlf hbr hA2
    go_enter Tryz.func56,Tryz.ntmps56
    go_wp2_with fail
    try rw [hw0]
    refine hf.mono ?_
    rintro e w1 ⟨rfl,he⟩
    subst he
    clear hf
    go_wp2_with fail
    refine htl.mono ?_
    rintro e w2 ⟨rfl,hb2⟩
    have hB2:=H0.out.1.trans (hb2.mono H0.out.1.size)
    have hz2:=(hb2.block _ (Ad H0.out.2.2)).trans H0.out.2.2
    clear htl
    go_wp2_with fail
    refine (htb w2).mono ?_
    rintro e w3 ⟨rfl,hb3⟩
    have hB3:=hB2.trans (hb3.mono hB2.size)
    have hz3:=(hb3.block _ (Ad hz2)).trans hz2
    have hb4 : Below w3.heap.size w3 (w3.alloc (.cells #[.int .i64 0, .slice none 0 0] 129)):=(Below.refl _ _).alloc (Nat.le_refl _) _
    have hx4:=heap_last w3 (.cells #[.int .i64 0, .slice none 0 0] 129) _ rfl
    have hB4:=hB3.trans (hb4.mono hB3.size)
    have hz4:=(hb4.block _ (Ad hz3)).trans hz3
    clear htb hb2 hB2 hz2 hb3 hB3 hz3 hb4 a1
    go_wp2_with fail
    generalize w3.alloc (.cells #[.int .i64 0, .slice none 0 0] 129)=w4 at *
    have e1:=cell_of_row w4 w3.heap.size 1 _ _ _ hx4
    simp only [List.getElem?_toArray,List.getElem?_cons_zero,List.getElem?_cons_succ] at e1
    obtain ⟨c0,c1,c2⟩:=FIN.out w4 hB4 _ rfl hz4
    have f0:=Af (j:=0) hz4
    have f1:=Af (j:=1) hz4
    have f2:=Af (j:=2) hz4
    have H4:=Ac (And.intro hB4 hz4)
    clear hB4 hz4 hx4
    go_loopw [12,13] (fun s t wr=>s = .int .i64 0∧t = .int .i64 0∧wr=w4) (fun _ _ _=>0)
    case atStart=>exact ⟨rfl,rfl,rfl⟩
    case round=>
     obtain ⟨rfl,rfl,rfl⟩:=hrel
     go_wp2_with fail
     refine wp_region_held_drew (S:=fun W=>W.cell? ⟨w3.heap.size,1,none⟩=some (.slice none 0 0)) (by kernel_rfl) (e1) (fun hHeld=>?_)
     refine Aa 0 hHeld ?_
     refine Aa 1 hHeld ?_
     refine Aa 2 hHeld ?_
     refine Ae 3 hHeld ?_
     refine Ae 4 hHeld ?_
     refine Ae 5 hHeld ?_
     refine Ae 6 hHeld ?_
     refine Ae 7 hHeld ?_
     refine Ae 8 hHeld ?_
     refine Ae 9 hHeld ?_
     refine Ae 10 hHeld ?_
     refine Ae 11 hHeld ?_
     refine Ae 12 hHeld ?_
     refine Ae 13 hHeld ?_
     refine Ae 14 hHeld ?_
     refine Ae 15 hHeld ?_
     refine Ae 16 hHeld ?_
     refine Ae 17 hHeld ?_
     refine Ae 18 hHeld ?_
     refine Ae 19 hHeld ?_
     refine Ae 20 hHeld ?_
     refine Ae 21 hHeld ?_
     refine Ae 22 hHeld ?_
     refine Ae 23 hHeld ?_
     refine Ae 24 hHeld ?_
     refine Ae 25 hHeld ?_
     refine Ae 26 hHeld ?_
     refine Ae 27 hHeld ?_
     refine Ae 28 hHeld ?_
     refine Ae 29 hHeld ?_
     refine Ae 30 hHeld ?_
     refine Aa 31 hHeld ?_
     refine wpAnyH_done (by kernel_rfl) ?_ _
     clear hHeld
     go_wp2
     refine bodyPost_ret (Aq rfl _ _ _ _ _ _ _ rfl (Bm (show wr.drew.heap[w.heap.size+1]? = _ from H4.out.2)) Tryz.underlying131 rfl Tryz.infoNodeM) rfl ⟨⟨_,_,by rw [HA2.out]; rfl,by rw [HA2.out]; exact World.ownsRow_nil _ _ _ _,by rw [HA2.out]; exact World.ownsRow_nil _ _ _ _⟩,?_⟩
     exact ((H4.out.1.drew.setCell (p:=⟨w.heap.size+1,0,none⟩) (Nat.le_succ _) _).setCell (p:=⟨w.heap.size+1,1,none⟩) (Nat.le_succ _) _).setCell (p:=⟨w.heap.size+1,2,none⟩) (Nat.le_succ _) _
   | some f=>
    rw [hbr] at htb
    simp only at htb
    have hbok:=((K7 b (by omega) f).1 hbr).1
    have hflv:=Jk hbok
    have hfl:=Ki hbok
    have hfs:=Mn hbok
    have hnm:=Nj hlf hbr
    have HN:=Ac (And.intro hfo (And.intro hnm hfl.2))
    have hfl64:=hfl.1
    clear hfo hlf hbr hbok hnm hfl
    go_enter Tryz.func56,Tryz.ntmps56
    go_wp2_with fail
    try rw [hw0]
    refine hf.mono ?_
    rintro e w1 ⟨rfl,he⟩
    subst he
    clear hf
    go_wp2_with fail
    refine htl.mono ?_
    rintro e w2 ⟨rfl,hb2⟩
    have hB2:=H0.out.1.trans (hb2.mono H0.out.1.size)
    have hk2:=(hb2.block _ (Ad H0.out.2.1)).trans H0.out.2.1
    have hz2:=(hb2.block _ (Ad H0.out.2.2)).trans H0.out.2.2
    clear htl
    go_wp2_with fail
    refine (htb w2).mono ?_
    rintro e w3 ⟨⟨vk,rfl,hrow⟩,hb3⟩
    have hB3:=hB2.trans (hb3.mono hB2.size)
    have hk3:=(hb3.block _ (Ad hk2)).trans hk2
    have hz3:=(hb3.block _ (Ad hz2)).trans hz2
    have hls:=Bi Ev hrow
    obtain ⟨ka,kc,hkv',hkc,-,hcc⟩:=hls
    subst hkv'
    have hb4 : Below w3.heap.size w3 (w3.alloc (.cells #[.int .i64 f.1, .slice ka f.2.length kc] 129)):=(Below.refl _ _).alloc (Nat.le_refl _) _
    have hx4:=heap_last w3 (.cells #[.int .i64 f.1, .slice ka f.2.length kc] 129) _ rfl
    have hB4:=hB3.trans (hb4.mono hB3.size)
    have hk4:=(hb4.block _ (Ad hk3)).trans hk3
    have hz4:=(hb4.block _ (Ad hz3)).trans hz3
    have hrow4:=A0 (Fv hrow hB2.size) hb4
    obtain ⟨b2,off2,rfl,hb2l,hcel⟩:=hcc (by intro e; have:=hflv.2.2; rw [e] at this; simp at this)
    have hce4 : ∀ j (hj : j<f.2.length) i u,(Au f.2[j])[i]? = some u→(w3.alloc (.cells #[.int .i64 f.1, .slice (some ⟨b2,off2,none⟩) f.2.length kc] 129)).cell? ⟨b2,off2+j * 3+i,none⟩=some u:=fun j hj i u hu=>(hb4.cell (p:=⟨b2,off2+j * 3+i,none⟩) hb2l).trans (hcel j hj i u hu)
    have HC:=Ac hce4
    generalize hw4 : w3.alloc (.cells #[.int .i64 f.1, .slice (some ⟨b2,off2,none⟩) f.2.length kc] 129)=w4 at *
    have e0:=cell_of_row w4 w3.heap.size 0 _ _ _ hx4
    have e1:=cell_of_row w4 w3.heap.size 1 _ _ _ hx4
    have d0:=cell_of_row w4 w.heap.size 0 _ _ _ hk4
    have d2:=cell_of_row w4 w.heap.size 2 _ _ _ hk4
    simp only [List.getElem?_toArray,List.getElem?_cons_zero,List.getElem?_cons_succ] at e0 e1 d0 d2
    obtain ⟨c0,c1,c2⟩:=FIN.out w4 hB4 _ rfl hz4
    have f0:=Af (j:=0) hz4
    have f1:=Af (j:=1) hz4
    have f2:=Af (j:=2) hz4
    have H4:=Ac (And.intro hB4 (And.intro hz4 hrow4))
    have hf1:=hflv.1
    have hf2:=hflv.2.1
    have hf3:=hflv.2.2
    clear htb hb2 hB2 hk2 hz2 hb3 hB3 hk3 hz3 hb4 hB4 hz4 hx4 hk4 hrow hrow4 hcc hcel hce4 a1 hflv
    obtain ⟨kn,hkn⟩ : ∃ kn,kn=f.2.length:=⟨_,rfl⟩
    have HKN:=Ac hkn
    rw [← hkn] at hfl64 hf3 hkc e1 hw4
    (try rw [← hkn])
    clear hkn
    go_wp2_with fail
    try rw [hw4]
    go_loopw [12,13] (fun s t wr=>∃ i : Nat,i≤kn∧t = .int .i64 i∧s = .int .i64 (Am (f.2.take i))∧wr=w4) (fun _ t _=>kn - (intOf t).toNat)
    case atStart=>exact ⟨0,by omega,rfl,rfl,rfl⟩
    case round=>
     obtain ⟨i,hik,rfl,rfl,rfl⟩:=hrel
     have hmw:=Jh HN.out.2.2 hfs i
     by_cases hlt : i<kn
     ·have hlt2 : i<f.2.length:=by have:=HKN.out; omega
      have hms:=Nf f.2 i hlt2
      have hmw2:=Jh HN.out.2.2 hfs (i+1)
      rw [hms] at hmw2
      have y2:=HC.out i hlt2 2 _ rfl
      have hx2:=(Ee _).1 (HN.out.2.2 f.2[i] (List.getElem_mem hlt2))
      have HMS:=Ac hms
      generalize f.2[i]=x at *
      generalize Am (f.2.take i)=z at *
      have hx3:=hx2.2.2.1
      have hx4':=hx2.2.2.2
      clear hms hx2
      go_wp2
      go_roundw
      case rel=>exact ⟨i+1,by omega,by go_num,by rw [HMS.out],by first | trivial | rfl⟩
      case measure=>simp [intOf]; omega
     ·obtain rfl : i=kn:=by omega
      have hta : f.2.take i=f.2:=by rw [HKN.out,List.take_length]
      rw [hta] at hmw ⊢
      clear hta
      have hfit:=fitsM_branch f k level hf1
      have hlg:=lastL_get (l:=f.2) (by have:=HKN.out; omega)
      have hj : i - 1<f.2.length:=by have:=HKN.out; omega
      have y0:=HC.out (i - 1) hj 0 _ rfl
      simp only [Nat.add_zero] at y0
      have hlg2 : E6 f.2=f.2[i - 1].1:=by rw [hlg]; congr 2; rw [HKN.out]
      rw [hlg2] at hfit
      generalize f.2[i - 1]=y at *
      generalize Am f.2=z at *
      have hty:=toL y.1
      have htk:=toL k.1
      have hsub : (i : Int) - 1=((i - 1 : Nat) : Int):=by omega
      have hwi : IntKind.i64.wrap ((i - 1 : Nat) : Int)=((i - 1 : Nat) : Int):=by rw [IntKind.wrap_i64]; omega
      have hli : i - 1<i:=by omega
      have HFI:=Ac hfit
      clear hfit hlg hlg2 hj
      by_cases q2 : level<0
      ·have p2 : decide ((0 : Int)≤level)=false:=decide_eq_false (by omega)
       have hA2:=HA.out.trans (Hq HN.out.1 HN.out.2.1 (.inl q2))
       have HA2:=Ac hA2
       clear hA2
       go_wp2_with fail
       refine wp_region_held_drew (S:=fun W=>W.cell? ⟨w3.heap.size,0,none⟩=some (.int .i64 f.1)∧W.cell? ⟨w3.heap.size,1,none⟩=some (.slice (some ⟨b2,off2,none⟩) i kc)∧W.cell? ⟨w.heap.size,0,none⟩=some (.string (Ab k.1))∧W.cell? ⟨w.heap.size,2,none⟩=some (.int .i64 k.2.2)∧W.cell? ⟨b2,off2+(i - 1) * 3,none⟩=some (.string (Ab y.1))) (by kernel_rfl) (⟨e0,e1,d0,d2,y0⟩) (fun hHeld=>?_)
       refine Aa 0 hHeld ?_
       refine Aa 1 hHeld ?_
       refine Aa 2 hHeld ?_
       refine Aa 3 hHeld ?_
       refine Aa 4 hHeld ?_
       refine Aa 5 hHeld ?_
       refine Ae 6 hHeld ?_
       refine Ae 7 hHeld ?_
       refine Ae 8 hHeld ?_
       refine Ae 9 hHeld ?_
       refine Ae 10 hHeld ?_
       refine Ae 11 hHeld ?_
       refine Ae 12 hHeld ?_
       refine Ae 13 hHeld ?_
       refine Ae 14 hHeld ?_
       refine Ae 15 hHeld ?_
       refine Ae 16 hHeld ?_
       refine Ae 17 hHeld ?_
       refine Ae 18 hHeld ?_
       refine Ae 19 hHeld ?_
       refine Ae 20 hHeld ?_
       refine Ae 21 hHeld ?_
       refine Ae 22 hHeld ?_
       refine Ae 23 hHeld ?_
       refine Ae 24 hHeld ?_
       refine Ae 25 hHeld ?_
       refine Ae 26 hHeld ?_
       refine Ae 27 hHeld ?_
       refine Ae 28 hHeld ?_
       refine Ae 29 hHeld ?_
       refine Aa 30 hHeld ?_
       refine Aa 31 hHeld ?_
       refine wpAnyH_done (by kernel_rfl) ?_ _
       clear hHeld
       go_wp2
       refine bodyPost_ret (Aq rfl _ _ _ _ _ _ _ rfl (Bm (show wr.drew.heap[w.heap.size+1]? = _ from H4.out.2.1)) Tryz.underlying131 rfl Tryz.infoNodeM) rfl ⟨⟨_,_,by rw [HA2.out]; rfl,?_,?_⟩,?_⟩
       ·rw [HA2.out]; exact World.ownsRow_nil _ _ _ _
       ·rw [HA2.out,HKN.out]
        have hz:=(show wr.drew.heap[w.heap.size+1]? = _ from H4.out.2.1)
        have hr:=(show wr.drew.ownsRow _ _ _ _ _ _ from H4.out.2.2)
        exact Ap (Ap (Ap hr hz (by decide) _) (An hz) (by decide) _) (Az (An hz)) (by decide) _
       ·exact ((H4.out.1.drew.setCell (p:=⟨w.heap.size+1,0,none⟩) (Nat.le_succ _) _).setCell (p:=⟨w.heap.size+1,1,none⟩) (Nat.le_succ _) _).setCell (p:=⟨w.heap.size+1,2,none⟩) (Nat.le_succ _) _
      ·have p2 : decide ((0 : Int)≤level)=true:=decide_eq_true (by omega)
       have hfit:=HFI.out
       by_cases q3 : f.1=level
       rotate_left
       ·have p3 : (f.1 != level)=true:=by simpa using q3
        have hA2:=HA.out.trans (Gp HN.out.1 HN.out.2.1 q2 (by rw [hfit,decide_eq_false q3]; rfl))
        have HA2:=Ac hA2
        clear hA2 hfit q3
        go_wp2_with fail
        refine wp_region_held_drew (S:=fun W=>W.cell? ⟨w3.heap.size,0,none⟩=some (.int .i64 f.1)∧W.cell? ⟨w3.heap.size,1,none⟩=some (.slice (some ⟨b2,off2,none⟩) i kc)∧W.cell? ⟨w.heap.size,0,none⟩=some (.string (Ab k.1))∧W.cell? ⟨w.heap.size,2,none⟩=some (.int .i64 k.2.2)∧W.cell? ⟨b2,off2+(i - 1) * 3,none⟩=some (.string (Ab y.1))) (by kernel_rfl) (⟨e0,e1,d0,d2,y0⟩) (fun hHeld=>?_)
        refine Aa 0 hHeld ?_
        refine Aa 1 hHeld ?_
        refine Aa 2 hHeld ?_
        refine Aa 3 hHeld ?_
        refine Aa 4 hHeld ?_
        refine Aa 5 hHeld ?_
        refine Aa 6 hHeld ?_
        refine Aa 7 hHeld ?_
        refine Aa 8 hHeld ?_
        refine Aa 9 hHeld ?_
        refine Aa 10 hHeld ?_
        refine Ae 11 hHeld ?_
        refine Ae 12 hHeld ?_
        refine Ae 13 hHeld ?_
        refine Ae 14 hHeld ?_
        refine Aa 15 hHeld ?_
        refine Aa 16 hHeld ?_
        refine Ae 17 hHeld ?_
        refine Ae 18 hHeld ?_
        refine Ae 19 hHeld ?_
        refine Ae 20 hHeld ?_
        refine Ae 21 hHeld ?_
        refine Ae 22 hHeld ?_
        refine Ae 23 hHeld ?_
        refine Ae 24 hHeld ?_
        refine Ae 25 hHeld ?_
        refine Ae 26 hHeld ?_
        refine Ae 27 hHeld ?_
        refine Ae 28 hHeld ?_
        refine Aa 29 hHeld ?_
        refine Aa 30 hHeld ?_
        refine Aa 31 hHeld ?_
        refine wpAnyH_done (by kernel_rfl) ?_ _
        clear hHeld
        go_wp2
        refine bodyPost_ret (Aq rfl _ _ _ _ _ _ _ rfl (Bm (show wr.drew.heap[w.heap.size+1]? = _ from H4.out.2.1)) Tryz.underlying131 rfl Tryz.infoNodeM) rfl ⟨⟨_,_,by rw [HA2.out]; rfl,?_,?_⟩,?_⟩
        ·rw [HA2.out]; exact World.ownsRow_nil _ _ _ _
        ·rw [HA2.out]; exact World.ownsRow_nil _ _ _ _
        ·exact ((H4.out.1.drew.setCell (p:=⟨w.heap.size+1,0,none⟩) (Nat.le_succ _) _).setCell (p:=⟨w.heap.size+1,1,none⟩) (Nat.le_succ _) _).setCell (p:=⟨w.heap.size+1,2,none⟩) (Nat.le_succ _) _
       ·have p3 : (f.1 != level)=false:=by simpa using q3
        rw [decide_eq_true q3,Bool.true_and] at hfit
        by_cases q4 : z=k.2.2
        rotate_left
        ·have p4 : (z != k.2.2)=true:=by simpa using q4
         have hA2:=HA.out.trans (Gp HN.out.1 HN.out.2.1 q2 (by rw [hfit,decide_eq_false q4]; rfl))
         have HA2:=Ac hA2
         clear hA2 hfit q3 q4
         go_wp2_with fail
         refine wp_region_held_drew (S:=fun W=>W.cell? ⟨w3.heap.size,0,none⟩=some (.int .i64 f.1)∧W.cell? ⟨w3.heap.size,1,none⟩=some (.slice (some ⟨b2,off2,none⟩) i kc)∧W.cell? ⟨w.heap.size,0,none⟩=some (.string (Ab k.1))∧W.cell? ⟨w.heap.size,2,none⟩=some (.int .i64 k.2.2)∧W.cell? ⟨b2,off2+(i - 1) * 3,none⟩=some (.string (Ab y.1))) (by kernel_rfl) (⟨e0,e1,d0,d2,y0⟩) (fun hHeld=>?_)
         refine Aa 0 hHeld ?_
         refine Aa 1 hHeld ?_
         refine Aa 2 hHeld ?_
         refine Aa 3 hHeld ?_
         refine Aa 4 hHeld ?_
         refine Aa 5 hHeld ?_
         refine Aa 6 hHeld ?_
         refine Aa 7 hHeld ?_
         refine Aa 8 hHeld ?_
         refine Aa 9 hHeld ?_
         refine Aa 10 hHeld ?_
         refine Aa 11 hHeld ?_
         refine Aa 12 hHeld ?_
         refine Aa 13 hHeld ?_
         refine Aa 14 hHeld ?_
         refine Aa 15 hHeld ?_
         refine Aa 16 hHeld ?_
         refine Ae 17 hHeld ?_
         refine Ae 18 hHeld ?_
         refine Ae 19 hHeld ?_
         refine Ae 20 hHeld ?_
         refine Ae 21 hHeld ?_
         refine Ae 22 hHeld ?_
         refine Ae 23 hHeld ?_
         refine Ae 24 hHeld ?_
         refine Ae 25 hHeld ?_
         refine Ae 26 hHeld ?_
         refine Ae 27 hHeld ?_
         refine Ae 28 hHeld ?_
         refine Aa 29 hHeld ?_
         refine Aa 30 hHeld ?_
         refine Aa 31 hHeld ?_
         refine wpAnyH_done (by kernel_rfl) ?_ _
         clear hHeld
         go_wp2
         refine bodyPost_ret (Aq rfl _ _ _ _ _ _ _ rfl (Bm (show wr.drew.heap[w.heap.size+1]? = _ from H4.out.2.1)) Tryz.underlying131 rfl Tryz.infoNodeM) rfl ⟨⟨_,_,by rw [HA2.out]; rfl,?_,?_⟩,?_⟩
         ·rw [HA2.out]; exact World.ownsRow_nil _ _ _ _
         ·rw [HA2.out]; exact World.ownsRow_nil _ _ _ _
         ·exact ((H4.out.1.drew.setCell (p:=⟨w.heap.size+1,0,none⟩) (Nat.le_succ _) _).setCell (p:=⟨w.heap.size+1,1,none⟩) (Nat.le_succ _) _).setCell (p:=⟨w.heap.size+1,2,none⟩) (Nat.le_succ _) _
        ·have p4 : (z != k.2.2)=false:=by simpa using q4
         rw [decide_eq_true q4,Bool.true_and] at hfit
         by_cases q6 : (y.1 == k.1)=true
         ·have hA2:=HA.out.trans (Hq HN.out.1 HN.out.2.1 (.inr (by rw [hfit]; exact q6)))
          have HA2:=Ac hA2
          clear hA2 hfit q3 q4
          go_wp2_with fail
          refine wp_region_held_drew (S:=fun W=>W.cell? ⟨w3.heap.size,0,none⟩=some (.int .i64 f.1)∧W.cell? ⟨w3.heap.size,1,none⟩=some (.slice (some ⟨b2,off2,none⟩) i kc)∧W.cell? ⟨w.heap.size,0,none⟩=some (.string (Ab k.1))∧W.cell? ⟨w.heap.size,2,none⟩=some (.int .i64 k.2.2)∧W.cell? ⟨b2,off2+(i - 1) * 3,none⟩=some (.string (Ab y.1))) (by kernel_rfl) (⟨e0,e1,d0,d2,y0⟩) (fun hHeld=>?_)
          refine Aa 0 hHeld ?_
          refine Aa 1 hHeld ?_
          refine Aa 2 hHeld ?_
          refine Aa 3 hHeld ?_
          refine Aa 4 hHeld ?_
          refine Aa 5 hHeld ?_
          refine Aa 6 hHeld ?_
          refine Aa 7 hHeld ?_
          refine Aa 8 hHeld ?_
          refine Aa 9 hHeld ?_
          refine Aa 10 hHeld ?_
          refine Aa 11 hHeld ?_
          refine Aa 12 hHeld ?_
          refine Aa 13 hHeld ?_
          refine Aa 14 hHeld ?_
          refine Aa 15 hHeld ?_
          refine Aa 16 hHeld ?_
          refine Aa 17 hHeld ?_
          refine Aa 18 hHeld ?_
          refine Aa 19 hHeld ?_
          refine Aa 20 hHeld ?_
          refine Aa 21 hHeld ?_
          refine Aa 22 hHeld ?_
          refine Aa 23 hHeld ?_
          refine Aa 24 hHeld ?_
          refine Aa 25 hHeld ?_
          refine Aa 26 hHeld ?_
          refine Aa 27 hHeld ?_
          refine Aa 28 hHeld ?_
          refine Aa 29 hHeld ?_
          refine Aa 30 hHeld ?_
          refine Aa 31 hHeld ?_
          refine wpAnyH_done (by kernel_rfl) ?_ _
          clear hHeld
          go_wp2
          refine bodyPost_ret (Aq rfl _ _ _ _ _ _ _ rfl (Bm (show wr.drew.heap[w.heap.size+1]? = _ from H4.out.2.1)) Tryz.underlying131 rfl Tryz.infoNodeM) rfl ⟨⟨_,_,by rw [HA2.out]; rfl,?_,?_⟩,?_⟩
          ·rw [HA2.out]; exact World.ownsRow_nil _ _ _ _
          ·rw [HA2.out,HKN.out]
           have hz:=(show wr.drew.heap[w.heap.size+1]? = _ from H4.out.2.1)
           have hr:=(show wr.drew.ownsRow _ _ _ _ _ _ from H4.out.2.2)
           exact Ap (Ap (Ap hr hz (by decide) _) (An hz) (by decide) _) (Az (An hz)) (by decide) _
          ·exact ((H4.out.1.drew.setCell (p:=⟨w.heap.size+1,0,none⟩) (Nat.le_succ _) _).setCell (p:=⟨w.heap.size+1,1,none⟩) (Nat.le_succ _) _).setCell (p:=⟨w.heap.size+1,2,none⟩) (Nat.le_succ _) _
         ·have q6 : (y.1 == k.1)=false:=by simpa using q6
          have hA2:=HA.out.trans (Gp HN.out.1 HN.out.2.1 q2 (by rw [hfit]; exact q6))
          have HA2:=Ac hA2
          clear hA2 hfit q3 q4
          go_wp2_with fail
          refine wp_region_held_drew (S:=fun W=>W.cell? ⟨w3.heap.size,0,none⟩=some (.int .i64 f.1)∧W.cell? ⟨w3.heap.size,1,none⟩=some (.slice (some ⟨b2,off2,none⟩) i kc)∧W.cell? ⟨w.heap.size,0,none⟩=some (.string (Ab k.1))∧W.cell? ⟨w.heap.size,2,none⟩=some (.int .i64 k.2.2)∧W.cell? ⟨b2,off2+(i - 1) * 3,none⟩=some (.string (Ab y.1))) (by kernel_rfl) (⟨e0,e1,d0,d2,y0⟩) (fun hHeld=>?_)
          refine Aa 0 hHeld ?_
          refine Aa 1 hHeld ?_
          refine Aa 2 hHeld ?_
          refine Aa 3 hHeld ?_
          refine Aa 4 hHeld ?_
          refine Aa 5 hHeld ?_
          refine Aa 6 hHeld ?_
          refine Aa 7 hHeld ?_
          refine Aa 8 hHeld ?_
          refine Aa 9 hHeld ?_
          refine Aa 10 hHeld ?_
          refine Aa 11 hHeld ?_
          refine Aa 12 hHeld ?_
          refine Aa 13 hHeld ?_
          refine Aa 14 hHeld ?_
          refine Aa 15 hHeld ?_
          refine Aa 16 hHeld ?_
          refine Aa 17 hHeld ?_
          refine Aa 18 hHeld ?_
          refine Aa 19 hHeld ?_
          refine Aa 20 hHeld ?_
          refine Aa 21 hHeld ?_
          refine Aa 22 hHeld ?_
          refine Aa 23 hHeld ?_
          refine Aa 24 hHeld ?_
          refine Aa 25 hHeld ?_
          refine Aa 26 hHeld ?_
          refine Aa 27 hHeld ?_
          refine Aa 28 hHeld ?_
          refine Aa 29 hHeld ?_
          refine Aa 30 hHeld ?_
          refine Aa 31 hHeld ?_
          refine wpAnyH_done (by kernel_rfl) ?_ _
          clear hHeld
          go_wp2
          refine bodyPost_ret (Aq rfl _ _ _ _ _ _ _ rfl (Bm (show wr.drew.heap[w.heap.size+1]? = _ from H4.out.2.1)) Tryz.underlying131 rfl Tryz.infoNodeM) rfl ⟨⟨_,_,by rw [HA2.out]; rfl,?_,?_⟩,?_⟩
          ·rw [HA2.out]; exact World.ownsRow_nil _ _ _ _
          ·rw [HA2.out]; exact World.ownsRow_nil _ _ _ _
          ·exact ((H4.out.1.drew.setCell (p:=⟨w.heap.size+1,0,none⟩) (Nat.le_succ _) _).setCell (p:=⟨w.heap.size+1,1,none⟩) (Nat.le_succ _) _).setCell (p:=⟨w.heap.size+1,2,none⟩) (Nat.le_succ _) _
end Go.Proofs.YtckejblkppllaaaGreatDoor
