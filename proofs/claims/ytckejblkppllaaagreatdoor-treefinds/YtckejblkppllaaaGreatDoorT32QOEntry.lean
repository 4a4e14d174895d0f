/-
  Texts joined: QOEntry, QOEntry2.
-/
import Derived.Test.YtckejblkppllaaaGreatDoorT9OTop2
import Derived.Test.YtckejblkppllaaaGreatDoorT31PRDone
import Derived.Lib.Bytealg
import Derived.Test.YtckejblkppllaaaGreatDoorT11OReader
import Derived.Test.YtckejblkppllaaaGreatDoorT12OEntry2
namespace Go.Proofs.YtckejblkppllaaaGreatDoor
open Go.RowKit
namespace Pt
end Pt
set_option maxRecDepth 20000 in
theorem Ld (w : World) (l : List UInt8) :
  Calls Tryz.prog 140 #[.string (Ab l)] w fun e w'=>e = .returned (.bool (Pt.name l))∧w'=w:=by
 have hsz:=A1 l
 have hl:=toL l
 by_cases h1 : l.length<1
 ·go_enter Tryz.func140,Tryz.ntmps140
  go_wp2
  go_ret
  exact ⟨Al (by simp [Pt.name]; omega),rfl⟩
 by_cases h2 : 64<l.length
 ·go_enter Tryz.func140,Tryz.ntmps140
  go_wp2
  go_ret
  exact ⟨Al (by simp [Pt.name]; omega),rfl⟩
 by_cases h3 : l = [46]
 ·subst h3
  go_enter Tryz.func140,Tryz.ntmps140
  go_wp2
  go_ret
  exact ⟨Al (by simp [Pt.name]),rfl⟩
 by_cases h4 : l = [46,46]
 ·subst h4
  go_enter Tryz.func140,Tryz.ntmps140
  go_wp2
  go_ret
  exact ⟨Al (by simp [Pt.name]),rfl⟩
 have e1 : Lib.indexByte (Ab l).data.toList (47 : Int).toNat.toUInt8=Lib.indexByte l 47:=by rw [B0]; rfl
 have e2 : Lib.indexByte (Ab l).data.toList (0 : Int).toNat.toUInt8=Lib.indexByte l 0:=by rw [B0]; rfl
 have b3 : (l == [46])=false:=by simp [h3]
 have b4 : (l == [46,46])=false:=by simp [h4]
 have n1:=Pt.indexByte_neg l 47
 have n2:=Pt.indexByte_neg l 0
 by_cases h5 : 47∈l
 ·have h6 : ¬ Lib.indexByte l 47<0:=by simpa [h5] using n1
  go_enter Tryz.func140,Tryz.ntmps140
  go_wp2_with fail
  refine (Tryz.strings_IndexByte (Ab l) 47 w).mono ?_
  rintro e w' ⟨rfl,rfl⟩
  rw [e1]
  go_wp2
  go_ret
  exact ⟨Al (by simp [Pt.name,h5]),rfl⟩
 ·have h6 : Lib.indexByte l 47<0:=by simpa [h5] using n1
  go_enter Tryz.func140,Tryz.ntmps140
  go_wp2_with fail
  refine (Tryz.strings_IndexByte (Ab l) 47 w).mono ?_
  rintro e w' ⟨rfl,rfl⟩
  rw [e1]
  go_wp2_with fail
  refine (Tryz.strings_IndexByte (Ab l) 0 w').mono ?_
  rintro e w ⟨rfl,rfl⟩
  rw [e2]
  go_wp2
  go_ret
  refine ⟨Al ?_,rfl⟩
  have q1 : 1≤l.length:=by omega
  have q2 : l.length≤64:=by omega
  simp [Pt.name,h3,h4,h5,q1,q2]
set_option maxRecDepth 20000 in
theorem Hj (w : World) (name : Bs) (v : Val) :
  Calls Tryz.prog 121 #[.agg #[.string (Ab name), .int .i64 v.1, .string (Ab v.2.1), .int .i64 v.2.2]] w fun e w'=>e = .returned (.bool (Ck name v))∧Below w.heap.size w w':=by
 have hb : Below w.heap.size w (w.alloc (.cells #[.string (Ab name), .int .i64 v.1, .string (Ab v.2.1), .int .i64 v.2.2] 27)):=(Below.refl _ _).alloc (Nat.le_refl _) _
 have hn:=fun W=>Ld W name
 have hi:=fun W=>isId_any W v.2.1
 have hs:=fun W=>O3 W v.1 v.2.2
 unfold Ck valOk
 generalize Pt.name name=q0 at *
 generalize Ci v.2.1=q1 at *
 generalize Ew v.1 v.2.2=q2 at *
 cases q0
 ·go_enter Tryz.func121,Tryz.ntmps121
  go_wp2_with fail
  refine (hn _).mono ?_
  rintro e w1 ⟨rfl,rfl⟩
  go_wp2
  go_ret
  exact ⟨Al (by simp),hb⟩
 cases q1
 ·go_enter Tryz.func121,Tryz.ntmps121
  go_wp2_with fail
  refine (hn _).mono ?_
  rintro e w1 ⟨rfl,rfl⟩
  go_wp2_with fail
  refine (hi _).mono ?_
  rintro e w1 ⟨rfl,rfl⟩
  go_wp2
  go_ret
  exact ⟨Al (by simp),hb⟩
 go_enter Tryz.func121,Tryz.ntmps121
 go_wp2_with fail
 refine (hn _).mono ?_
 rintro e w1 ⟨rfl,rfl⟩
 go_wp2_with fail
 refine (hi _).mono ?_
 rintro e w1 ⟨rfl,rfl⟩
 go_wp2_with fail
 refine (hs _).mono ?_
 rintro e w1 ⟨rfl,rfl⟩
 go_wp2
 go_ret
 exact ⟨Al (by simp),hb⟩
set_option maxRecDepth 20000 in
set_option maxHeartbeats 3200000 in
theorem Ox (w : World) (name val : Bs) (hn : name.length≤140737488355328) (hv : val.length≤140737488355328) :
  Calls Tryz.prog 106 #[.string (Ab name), .string (Ab val)] w fun e w'=>F9 name val e∧Below w.heap.size w w':=by
 have hbE : Below w.heap.size w (w.alloc (.cells #[.string ⟨#[]⟩, .int .i64 0, .string ⟨#[]⟩, .int .i64 0] 27)):=(Below.refl _ _).alloc (Nat.le_refl _) _
 have hx0:=heap_last w (.cells #[.string ⟨#[]⟩, .int .i64 0, .string ⟨#[]⟩, .int .i64 0] 27) _ rfl
 have hn0 : (w.alloc (.cells #[.string ⟨#[]⟩, .int .i64 0, .string ⟨#[]⟩, .int .i64 0] 27)).heap.size=w.heap.size+1:=by simp
 generalize hw0 : w.alloc (.cells #[.string ⟨#[]⟩, .int .i64 0, .string ⟨#[]⟩, .int .i64 0] 27)=w0 at *
 have hrd:=Lq w0 val [] hv (by simp)
 rw [begin_nil] at hrd
 simp only at hrd
 unfold F9 Dc
 obtain ⟨kind,s1,ht1⟩ : ∃ t s1,rC val 2 (some 0)=(t,s1):=⟨_,_,rfl⟩
 obtain ⟨⟨id,size⟩,s2,ht2⟩ : ∃ t s2,E8 val s1=(t,s2):=⟨_,_,rfl⟩
 have hg : gVal val (some 0)=((kind,(id,size)),s2):=by
  unfold gVal
  simp only [rP,ht1,ht2]
 rw [hg]
 simp only
 have H1:=Ac ht1
 have H2:=Ac ht2
 clear hg ht1 ht2
 have hcl:=fun W=>M9 W name hn
 by_cases h1 : s2=some val.length
 ·have hdec:=decide_eq_true h1
  by_cases h2 : Ck name (kind,(id,size))=true
  ·rw [if_pos ⟨h1,h2⟩]
   simp only
   go_enter Tryz.func106,Tryz.ntmps106
   go_wp2_with fail
   try rw [hw0]
   refine hrd.mono ?_
   rintro e w1 ⟨g,rfl,R1,hg1,hb1⟩
   have x1:=(hb1.block _ (by omega)).trans hx0
   have B1:=hbE.trans (hb1.mono hbE.size)
   have hT:=F4 w1 g val (some 0) 2 R1 hv
   unfold Bq at hT
   rw [H1.out] at hT
   simp only at hT
   clear hrd hb1 R1
   go_wp2_with fail
   refine hT.mono ?_
   rintro e w2 ⟨rfl,R2,gb2⟩
   have x2:=(gb2.block _ (Ad x1) (fun e=>by injection e with e; omega)).trans x1
   have B2:=B1.grown gb2 B1.size (fun k hk=>by injection hk with hk; omega)
   have hT2:=J5 w2 g val s1 R2 hv
   unfold Bq at hT2
   rw [H2.out] at hT2
   simp only at hT2
   clear hT gb2 R2 x1 B1
   go_wp2_with fail
   refine hT2.mono ?_
   rintro e w3 ⟨rfl,R3,gb3⟩
   have x3:=(gb3.block _ (Ad x2) (fun e=>by injection e with e; omega)).trans x2
   have B3:=B2.grown gb3 B2.size (fun k hk=>by injection hk with hk; omega)
   have hq4 : Below w3.heap.size w3 (w3.alloc (.cells #[.string (Ab id), .int .i64 size] 60)).drew:=((Below.refl _ _).alloc (Nat.le_refl _) _).drew
   have p4 : (w3.alloc (.cells #[.string (Ab id), .int .i64 size] 60)).drew.heap[w3.heap.size]? = some (.cells #[.string (Ab id), .int .i64 size] 60):=heap_last w3 (.cells #[.string (Ab id), .int .i64 size] 60) _ rfl
   have R4:=R3.keep hq4
   have x4:=(hq4.block _ (Ad x3)).trans x3
   have B4:=B3.trans (hq4.mono B3.size)
   have s4:=Ad p4
   have g4:=R3.lt
   clear hT2 gb3 R3 x2 B2 x3 B3 hq4
   go_wp2_with fail
   generalize hpb : w3.heap.size=pb at *
   have c0:=rc (i:=0) p4 rfl
   have c1:=rc (i:=1) p4 rfl
   refine wp_region_held_drew (S:=fun W=>W.cell? ⟨pb,0,none⟩=some (.string (Ab id))∧W.cell? ⟨pb,1,none⟩=some (.int .i64 size)) (by kernel_rfl) (⟨c0,c1⟩) (fun hHeld=>?_)
   refine Aa 0 hHeld ?_
   refine Aa 2 hHeld ?_
   refine Aa 3 hHeld ?_
   refine Aa 4 hHeld ?_
   refine Aa 5 hHeld ?_
   refine Aa 6 hHeld ?_
   generalize hw4 : (w3.alloc (.cells #[.string (Ab id), .int .i64 size] 60)).drew=w4 at *
   refine twoH (i:=1) (j:=8) rfl rfl (by kernel_rfl) rfl rfl (fun K hK=>?_) (fun K hK=>?_)
   ·skip
    go_simp
    refine (hcl w4).mono ?_
    rintro e w5 ⟨rfl,hb5⟩
    have p5:=(hb5.block _ (Ad p4)).trans p4
    have R5:=R4.keep hb5
    have x5:=(hb5.block _ (Ad x4)).trans x4
    have B5:=B4.trans (hb5.mono B4.size)
    have s5:=Ad p5
    have g5:=R5.lt
    refine hK.out _ _ (⟨rc (i:=0) p5 rfl,rc (i:=1) p5 rfl⟩) (fun hHeld=>?_)
    clear hK K
    try simp only [Act.put,List.setIfInBounds_toArray,List.set_cons_zero,List.set_cons_succ]
    refine Aa 7 hHeld ?_
    refine Ai (i:=8) rfl (by kernel_rfl) rfl (fun K hK=>?_)
    go_simp
    have hqA : Below w5.heap.size w5 (w5.alloc (.cells #[.string ⟨#[]⟩, .int .i64 0, .string ⟨#[]⟩, .int .i64 0] 27)):=(Below.refl _ _).alloc (Nat.le_refl _) _
    have p6:=(hqA.block _ (Ad p5)).trans p5
    have R6:=R5.keep hqA
    have x6:=(hqA.block _ (Ad x5)).trans x5
    have B6:=B5.trans (hqA.mono B5.size)
    have hE:=heap_last w5 (.cells #[.string ⟨#[]⟩, .int .i64 0, .string ⟨#[]⟩, .int .i64 0] 27) _ rfl
    refine hK.out _ _ (⟨rc (i:=0) p6 rfl,rc (i:=1) p6 rfl⟩) (fun hHeld=>?_)
    clear hK K
    try simp only [Act.put,List.setIfInBounds_toArray,List.set_cons_zero,List.set_cons_succ]
    have d0:=rc (i:=0) hE rfl
    have d1:=rc (i:=1) hE rfl
    have d2:=rc (i:=2) hE rfl
    have d3:=rc (i:=3) hE rfl
    have e0:=Af (j:=0) hE
    have e1:=Af (j:=1) hE
    have e2:=Af (j:=2) hE
    have e3:=Af (j:=3) hE
    clear hb5 hqA
    have hqV : Below w5.heap.size w5 (w5.alloc (.cells #[.string (Ab name), .int .i64 kind, .string (Ab id), .int .i64 size] 27)):=(Below.refl _ _).alloc (Nat.le_refl _) _
    have zE:=heap_last w5 (.cells #[.string (Ab name), .int .i64 kind, .string (Ab id), .int .i64 size] 27) _ rfl
    have RE:=R5.keep hqV
    have xE:=(hqV.block _ (Ad x5)).trans x5
    have BE:=B5.trans (hqV.mono B5.size)
    have pE:=(hqV.block _ (Ad p5)).trans p5
    clear hE x6 R6 B6 p6 R5 x5 B5 p5 hqV
    refine Ai (i:=9) rfl (by kernel_rfl) rfl (fun K hK=>?_)
    go_simp
    refine hK.out _ _ (⟨rc (i:=0) pE rfl,rc (i:=1) pE rfl⟩) (fun hHeld=>?_)
    clear hK K
    try simp only [Act.put,List.setIfInBounds_toArray,List.set_cons_zero,List.set_cons_succ]
    refine wpAnyH_done (by kernel_rfl) ?_ _
    clear hHeld
    generalize hwE : (w5.alloc (.cells #[.string (Ab name), .int .i64 kind, .string (Ab id), .int .i64 size] 27))=wE at *
    have k0:=rc (i:=0) zE rfl
    have k1:=rc (i:=1) zE rfl
    have k2:=rc (i:=2) zE rfl
    have k3:=rc (i:=3) zE rfl
    have hW:=E7 wE g val s2 RE
    rw [hdec] at hW
    go_wp2_with fail
    refine hW.mono ?_
    rintro e w6 ⟨rfl,hb6⟩
    have z6:=(hb6.block _ (Ad zE)).trans zE
    have x6:=(hb6.block _ (Ad xE)).trans xE
    have B6:=BE.trans (hb6.mono BE.size)
    have l0:=rc (i:=0) z6 rfl
    have l1:=rc (i:=1) z6 rfl
    have l2:=rc (i:=2) z6 rfl
    have l3:=rc (i:=3) z6 rfl
    clear hW hb6 zE xE k0 k1 k2 k3 RE hwE BE
    have hr:=Hj w6 name (kind,(id,size))
    rw [h2] at hr
    simp only at hr
    go_wp2_with fail
    refine hr.mono ?_
    rintro e w7 ⟨rfl,hb7⟩
    have z7:=(hb7.block _ (Ad z6)).trans z6
    have x7:=(hb7.block _ (Ad x6)).trans x6
    have B7:=B6.trans (hb7.mono B6.size)
    have m0:=rc (i:=0) z7 rfl
    have m1:=rc (i:=1) z7 rfl
    have m2:=rc (i:=2) z7 rfl
    have m3:=rc (i:=3) z7 rfl
    clear hr hb7 z6 x6 B6 l0 l1 l2 l3
    have n0:=rc (i:=0) x7 rfl
    have f0:=Af (j:=0) x7
    have n1:=rc (i:=1) x7 rfl
    have f1:=Af (j:=1) x7
    have n2:=rc (i:=2) x7 rfl
    have f2:=Af (j:=2) x7
    have n3:=rc (i:=3) x7 rfl
    have f3:=Af (j:=3) x7
    go_wp2
    exact bodyPost_ret (Aq rfl _ _ _ _ _ _ _ rfl (Et x7) Tryz.underlying27 rfl Tryz.infoEntry) rfl ⟨rfl,((((B7.setCell (p:=⟨w.heap.size,0,none⟩) (by simp) _).setCell (p:=⟨w.heap.size,1,none⟩) (by simp) _).setCell (p:=⟨w.heap.size,2,none⟩) (by simp) _).setCell (p:=⟨w.heap.size,3,none⟩) (by simp) _)⟩
   ·skip
    go_simp
    have hqA : Below w4.heap.size w4 (w4.alloc (.cells #[.string ⟨#[]⟩, .int .i64 0, .string ⟨#[]⟩, .int .i64 0] 27)):=(Below.refl _ _).alloc (Nat.le_refl _) _
    have p5:=(hqA.block _ (Ad p4)).trans p4
    have R5:=R4.keep hqA
    have x5:=(hqA.block _ (Ad x4)).trans x4
    have B5:=B4.trans (hqA.mono B4.size)
    have hE5:=heap_last w4 (.cells #[.string ⟨#[]⟩, .int .i64 0, .string ⟨#[]⟩, .int .i64 0] 27) _ rfl
    refine hK.out _ _ (⟨rc (i:=0) p5 rfl,rc (i:=1) p5 rfl⟩) (fun hHeld=>?_)
    clear hK K
    try simp only [Act.put,List.setIfInBounds_toArray,List.set_cons_zero,List.set_cons_succ]
    refine Ai (i:=1) rfl (by kernel_rfl) rfl (fun K hK=>?_)
    go_simp
    refine (hcl _).mono ?_
    rintro e w5 ⟨rfl,hb5⟩
    have p6:=(hb5.block _ (Ad p5)).trans p5
    have R6:=R5.keep hb5
    have x6:=(hb5.block _ (Ad x5)).trans x5
    have B6:=B5.trans (hb5.mono B5.size)
    have hE:=(hb5.block _ (Ad hE5)).trans hE5
    have s5 : pb<w4.heap.size:=s4
    have g5 : g<w4.heap.size:=R4.lt
    have sE:=Ad hE
    refine hK.out _ _ (⟨rc (i:=0) p6 rfl,rc (i:=1) p6 rfl⟩) (fun hHeld=>?_)
    clear hK K
    try simp only [Act.put,List.setIfInBounds_toArray,List.set_cons_zero,List.set_cons_succ]
    refine Aa 7 hHeld ?_
    have d0:=rc (i:=0) hE rfl
    have d1:=rc (i:=1) hE rfl
    have d2:=rc (i:=2) hE rfl
    have d3:=rc (i:=3) hE rfl
    have e0:=Af (j:=0) hE
    have e1:=Af (j:=1) hE
    have e2:=Af (j:=2) hE
    have e3:=Af (j:=3) hE
    clear hb5 hqA R5 x5 B5 p5 hE5
    have zE : ((((w5.setCell ⟨w4.heap.size,0,none⟩ (.string (Ab name))).setCell ⟨w4.heap.size,1,none⟩ (.int .i64 kind)).setCell ⟨w4.heap.size,2,none⟩ (.string (Ab id))).setCell ⟨w4.heap.size,3,none⟩ (.int .i64 size)).heap[w4.heap.size]? = some (.cells #[.string (Ab name), .int .i64 kind, .string (Ab id), .int .i64 size] 27):=Et hE
    have RE : Rd w0.heap.size ((((w5.setCell ⟨w4.heap.size,0,none⟩ (.string (Ab name))).setCell ⟨w4.heap.size,1,none⟩ (.int .i64 kind)).setCell ⟨w4.heap.size,2,none⟩ (.string (Ab id))).setCell ⟨w4.heap.size,3,none⟩ (.int .i64 size)) g val s2:=((((R6.set (.inl (by omega))).set (.inl (by omega))).set (.inl (by omega))).set (.inl (by omega)))
    have BE : Below w.heap.size w ((((w5.setCell ⟨w4.heap.size,0,none⟩ (.string (Ab name))).setCell ⟨w4.heap.size,1,none⟩ (.int .i64 kind)).setCell ⟨w4.heap.size,2,none⟩ (.string (Ab id))).setCell ⟨w4.heap.size,3,none⟩ (.int .i64 size)):=((((B6.setCell (p:=⟨w4.heap.size,0,none⟩) (by simp; omega) _).setCell (p:=⟨w4.heap.size,1,none⟩) (by simp; omega) _).setCell (p:=⟨w4.heap.size,2,none⟩) (by simp; omega) _).setCell (p:=⟨w4.heap.size,3,none⟩) (by simp; omega) _)
    have xE : ((((w5.setCell ⟨w4.heap.size,0,none⟩ (.string (Ab name))).setCell ⟨w4.heap.size,1,none⟩ (.int .i64 kind)).setCell ⟨w4.heap.size,2,none⟩ (.string (Ab id))).setCell ⟨w4.heap.size,3,none⟩ (.int .i64 size)).heap[w.heap.size]? = some (.cells #[.string ⟨#[]⟩, .int .i64 0, .string ⟨#[]⟩, .int .i64 0] 27):=((Ar ((((w5.setCell ⟨w4.heap.size,0,none⟩ (.string (Ab name))).setCell ⟨w4.heap.size,1,none⟩ (.int .i64 kind)).setCell ⟨w4.heap.size,2,none⟩ (.string (Ab id)))) (w4.heap.size) 3 (.int .i64 size)).block _ (by have:=Ad x6; simp [World.setCell]; try omega) (fun e=>by injection e with e; omega)).trans (((Ar (((w5.setCell ⟨w4.heap.size,0,none⟩ (.string (Ab name))).setCell ⟨w4.heap.size,1,none⟩ (.int .i64 kind))) (w4.heap.size) 2 (.string (Ab id))).block _ (by have:=Ad x6; simp [World.setCell]; try omega) (fun e=>by injection e with e; omega)).trans (((Ar ((w5.setCell ⟨w4.heap.size,0,none⟩ (.string (Ab name)))) (w4.heap.size) 1 (.int .i64 kind)).block _ (by have:=Ad x6; simp [World.setCell]; try omega) (fun e=>by injection e with e; omega)).trans (((Ar (w5) (w4.heap.size) 0 (.string (Ab name))).block _ (by have:=Ad x6; simp; try omega) (fun e=>by injection e with e; omega)).trans (x6))))
    have pE : ((((w5.setCell ⟨w4.heap.size,0,none⟩ (.string (Ab name))).setCell ⟨w4.heap.size,1,none⟩ (.int .i64 kind)).setCell ⟨w4.heap.size,2,none⟩ (.string (Ab id))).setCell ⟨w4.heap.size,3,none⟩ (.int .i64 size)).heap[pb]? = some (.cells #[.string (Ab id), .int .i64 size] 60):=((Ar ((((w5.setCell ⟨w4.heap.size,0,none⟩ (.string (Ab name))).setCell ⟨w4.heap.size,1,none⟩ (.int .i64 kind)).setCell ⟨w4.heap.size,2,none⟩ (.string (Ab id)))) (w4.heap.size) 3 (.int .i64 size)).block _ (by have:=Ad p6; simp [World.setCell]; try omega) (fun e=>by injection e with e; omega)).trans (((Ar (((w5.setCell ⟨w4.heap.size,0,none⟩ (.string (Ab name))).setCell ⟨w4.heap.size,1,none⟩ (.int .i64 kind))) (w4.heap.size) 2 (.string (Ab id))).block _ (by have:=Ad p6; simp [World.setCell]; try omega) (fun e=>by injection e with e; omega)).trans (((Ar ((w5.setCell ⟨w4.heap.size,0,none⟩ (.string (Ab name)))) (w4.heap.size) 1 (.int .i64 kind)).block _ (by have:=Ad p6; simp [World.setCell]; try omega) (fun e=>by injection e with e; omega)).trans (((Ar (w5) (w4.heap.size) 0 (.string (Ab name))).block _ (by have:=Ad p6; simp; try omega) (fun e=>by injection e with e; omega)).trans (p6))))
    clear hE x6 R6 B6 p6
    refine Ai (i:=9) rfl (by kernel_rfl) rfl (fun K hK=>?_)
    go_simp
    refine hK.out _ _ (⟨rc (i:=0) pE rfl,rc (i:=1) pE rfl⟩) (fun hHeld=>?_)
    clear hK K
    try simp only [Act.put,List.setIfInBounds_toArray,List.set_cons_zero,List.set_cons_succ]
    refine wpAnyH_done (by kernel_rfl) ?_ _
    clear hHeld
    generalize hwE : ((((w5.setCell ⟨w4.heap.size,0,none⟩ (.string (Ab name))).setCell ⟨w4.heap.size,1,none⟩ (.int .i64 kind)).setCell ⟨w4.heap.size,2,none⟩ (.string (Ab id))).setCell ⟨w4.heap.size,3,none⟩ (.int .i64 size))=wE at *
    have k0:=rc (i:=0) zE rfl
    have k1:=rc (i:=1) zE rfl
    have k2:=rc (i:=2) zE rfl
    have k3:=rc (i:=3) zE rfl
    have hW:=E7 wE g val s2 RE
    rw [hdec] at hW
    go_wp2_with fail
    refine hW.mono ?_
    rintro e w6 ⟨rfl,hb6⟩
    have z6:=(hb6.block _ (Ad zE)).trans zE
    have x6:=(hb6.block _ (Ad xE)).trans xE
    have B6:=BE.trans (hb6.mono BE.size)
    have l0:=rc (i:=0) z6 rfl
    have l1:=rc (i:=1) z6 rfl
    have l2:=rc (i:=2) z6 rfl
    have l3:=rc (i:=3) z6 rfl
    clear hW hb6 zE xE k0 k1 k2 k3 RE hwE BE
    have hr:=Hj w6 name (kind,(id,size))
    rw [h2] at hr
    simp only at hr
    go_wp2_with fail
    refine hr.mono ?_
    rintro e w7 ⟨rfl,hb7⟩
    have z7:=(hb7.block _ (Ad z6)).trans z6
    have x7:=(hb7.block _ (Ad x6)).trans x6
    have B7:=B6.trans (hb7.mono B6.size)
    have m0:=rc (i:=0) z7 rfl
    have m1:=rc (i:=1) z7 rfl
    have m2:=rc (i:=2) z7 rfl
    have m3:=rc (i:=3) z7 rfl
    clear hr hb7 z6 x6 B6 l0 l1 l2 l3
    have n0:=rc (i:=0) x7 rfl
    have f0:=Af (j:=0) x7
    have n1:=rc (i:=1) x7 rfl
    have f1:=Af (j:=1) x7
    have n2:=rc (i:=2) x7 rfl
    have f2:=Af (j:=2) x7
    have n3:=rc (i:=3) x7 rfl
    have f3:=Af (j:=3) x7
    go_wp2
    exact bodyPost_ret (Aq rfl _ _ _ _ _ _ _ rfl (Et x7) Tryz.underlying27 rfl Tryz.infoEntry) rfl ⟨rfl,((((B7.setCell (p:=⟨w.heap.size,0,none⟩) (by simp) _).setCell (p:=⟨w.heap.size,1,none⟩) (by simp) _).setCell (p:=⟨w.heap.size,2,none⟩) (by simp) _).setCell (p:=⟨w.heap.size,3,none⟩) (by simp) _)⟩
  ·have h2:=Bool.eq_false_iff.2 h2
   rw [if_neg (by rw [h2]; simp)]
   simp only
   go_enter Tryz.func106,Tryz.ntmps106
   go_wp2_with fail
   try rw [hw0]
   refine hrd.mono ?_
   rintro e w1 ⟨g,rfl,R1,hg1,hb1⟩
   have x1:=(hb1.block _ (by omega)).trans hx0
   have B1:=hbE.trans (hb1.mono hbE.size)
   have hT:=F4 w1 g val (some 0) 2 R1 hv
   unfold Bq at hT
   rw [H1.out] at hT
   simp only at hT
   clear hrd hb1 R1
   go_wp2_with fail
   refine hT.mono ?_
   rintro e w2 ⟨rfl,R2,gb2⟩
   have x2:=(gb2.block _ (Ad x1) (fun e=>by injection e with e; omega)).trans x1
   have B2:=B1.grown gb2 B1.size (fun k hk=>by injection hk with hk; omega)
   have hT2:=J5 w2 g val s1 R2 hv
   unfold Bq at hT2
   rw [H2.out] at hT2
   simp only at hT2
   clear hT gb2 R2 x1 B1
   go_wp2_with fail
   refine hT2.mono ?_
   rintro e w3 ⟨rfl,R3,gb3⟩
   have x3:=(gb3.block _ (Ad x2) (fun e=>by injection e with e; omega)).trans x2
   have B3:=B2.grown gb3 B2.size (fun k hk=>by injection hk with hk; omega)
   have hq4 : Below w3.heap.size w3 (w3.alloc (.cells #[.string (Ab id), .int .i64 size] 60)).drew:=((Below.refl _ _).alloc (Nat.le_refl _) _).drew
   have p4 : (w3.alloc (.cells #[.string (Ab id), .int .i64 size] 60)).drew.heap[w3.heap.size]? = some (.cells #[.string (Ab id), .int .i64 size] 60):=heap_last w3 (.cells #[.string (Ab id), .int .i64 size] 60) _ rfl
   have R4:=R3.keep hq4
   have x4:=(hq4.block _ (Ad x3)).trans x3
   have B4:=B3.trans (hq4.mono B3.size)
   have s4:=Ad p4
   have g4:=R3.lt
   clear hT2 gb3 R3 x2 B2 x3 B3 hq4
   go_wp2_with fail
   generalize hpb : w3.heap.size=pb at *
   have c0:=rc (i:=0) p4 rfl
   have c1:=rc (i:=1) p4 rfl
   refine wp_region_held_drew (S:=fun W=>W.cell? ⟨pb,0,none⟩=some (.string (Ab id))∧W.cell? ⟨pb,1,none⟩=some (.int .i64 size)) (by kernel_rfl) (⟨c0,c1⟩) (fun hHeld=>?_)
   refine Aa 0 hHeld ?_
   refine Aa 2 hHeld ?_
   refine Aa 3 hHeld ?_
   refine Aa 4 hHeld ?_
   refine Aa 5 hHeld ?_
   refine Aa 6 hHeld ?_
   generalize hw4 : (w3.alloc (.cells #[.string (Ab id), .int .i64 size] 60)).drew=w4 at *
   refine twoH (i:=1) (j:=8) rfl rfl (by kernel_rfl) rfl rfl (fun K hK=>?_) (fun K hK=>?_)
   ·skip
    go_simp
    refine (hcl w4).mono ?_
    rintro e w5 ⟨rfl,hb5⟩
    have p5:=(hb5.block _ (Ad p4)).trans p4
    have R5:=R4.keep hb5
    have x5:=(hb5.block _ (Ad x4)).trans x4
    have B5:=B4.trans (hb5.mono B4.size)
    have s5:=Ad p5
    have g5:=R5.lt
    refine hK.out _ _ (⟨rc (i:=0) p5 rfl,rc (i:=1) p5 rfl⟩) (fun hHeld=>?_)
    clear hK K
    try simp only [Act.put,List.setIfInBounds_toArray,List.set_cons_zero,List.set_cons_succ]
    refine Aa 7 hHeld ?_
    refine Ai (i:=8) rfl (by kernel_rfl) rfl (fun K hK=>?_)
    go_simp
    have hqA : Below w5.heap.size w5 (w5.alloc (.cells #[.string ⟨#[]⟩, .int .i64 0, .string ⟨#[]⟩, .int .i64 0] 27)):=(Below.refl _ _).alloc (Nat.le_refl _) _
    have p6:=(hqA.block _ (Ad p5)).trans p5
    have R6:=R5.keep hqA
    have x6:=(hqA.block _ (Ad x5)).trans x5
    have B6:=B5.trans (hqA.mono B5.size)
    have hE:=heap_last w5 (.cells #[.string ⟨#[]⟩, .int .i64 0, .string ⟨#[]⟩, .int .i64 0] 27) _ rfl
    refine hK.out _ _ (⟨rc (i:=0) p6 rfl,rc (i:=1) p6 rfl⟩) (fun hHeld=>?_)
    clear hK K
    try simp only [Act.put,List.setIfInBounds_toArray,List.set_cons_zero,List.set_cons_succ]
    have d0:=rc (i:=0) hE rfl
    have d1:=rc (i:=1) hE rfl
    have d2:=rc (i:=2) hE rfl
    have d3:=rc (i:=3) hE rfl
    have e0:=Af (j:=0) hE
    have e1:=Af (j:=1) hE
    have e2:=Af (j:=2) hE
    have e3:=Af (j:=3) hE
    clear hb5 hqA
    have hqV : Below w5.heap.size w5 (w5.alloc (.cells #[.string (Ab name), .int .i64 kind, .string (Ab id), .int .i64 size] 27)):=(Below.refl _ _).alloc (Nat.le_refl _) _
    have zE:=heap_last w5 (.cells #[.string (Ab name), .int .i64 kind, .string (Ab id), .int .i64 size] 27) _ rfl
    have RE:=R5.keep hqV
    have xE:=(hqV.block _ (Ad x5)).trans x5
    have BE:=B5.trans (hqV.mono B5.size)
    have pE:=(hqV.block _ (Ad p5)).trans p5
    clear hE x6 R6 B6 p6 R5 x5 B5 p5 hqV
    refine Ai (i:=9) rfl (by kernel_rfl) rfl (fun K hK=>?_)
    go_simp
    refine hK.out _ _ (⟨rc (i:=0) pE rfl,rc (i:=1) pE rfl⟩) (fun hHeld=>?_)
    clear hK K
    try simp only [Act.put,List.setIfInBounds_toArray,List.set_cons_zero,List.set_cons_succ]
    refine wpAnyH_done (by kernel_rfl) ?_ _
    clear hHeld
    generalize hwE : (w5.alloc (.cells #[.string (Ab name), .int .i64 kind, .string (Ab id), .int .i64 size] 27))=wE at *
    have k0:=rc (i:=0) zE rfl
    have k1:=rc (i:=1) zE rfl
    have k2:=rc (i:=2) zE rfl
    have k3:=rc (i:=3) zE rfl
    have hW:=E7 wE g val s2 RE
    rw [hdec] at hW
    go_wp2_with fail
    refine hW.mono ?_
    rintro e w6 ⟨rfl,hb6⟩
    have z6:=(hb6.block _ (Ad zE)).trans zE
    have x6:=(hb6.block _ (Ad xE)).trans xE
    have B6:=BE.trans (hb6.mono BE.size)
    have l0:=rc (i:=0) z6 rfl
    have l1:=rc (i:=1) z6 rfl
    have l2:=rc (i:=2) z6 rfl
    have l3:=rc (i:=3) z6 rfl
    clear hW hb6 zE xE k0 k1 k2 k3 RE hwE BE
    have hr:=Hj w6 name (kind,(id,size))
    rw [h2] at hr
    simp only at hr
    go_wp2_with fail
    refine hr.mono ?_
    rintro e w7 ⟨rfl,hb7⟩
    have z7:=(hb7.block _ (Ad z6)).trans z6
    have x7:=(hb7.block _ (Ad x6)).trans x6
    have B7:=B6.trans (hb7.mono B6.size)
    have m0:=rc (i:=0) z7 rfl
    have m1:=rc (i:=1) z7 rfl
    have m2:=rc (i:=2) z7 rfl
    have m3:=rc (i:=3) z7 rfl
    clear hr hb7 z6 x6 B6 l0 l1 l2 l3
    have n0:=rc (i:=0) x7 rfl
    have f0:=Af (j:=0) x7
    have n1:=rc (i:=1) x7 rfl
    have f1:=Af (j:=1) x7
    have n2:=rc (i:=2) x7 rfl
    have f2:=Af (j:=2) x7
    have n3:=rc (i:=3) x7 rfl
    have f3:=Af (j:=3) x7
    go_wp2
    exact bodyPost_ret (Aq rfl _ _ _ _ _ _ _ rfl (Et x7) Tryz.underlying27 rfl Tryz.infoEntry) rfl ⟨rfl,((((B7.setCell (p:=⟨w.heap.size,0,none⟩) (by simp) _).setCell (p:=⟨w.heap.size,1,none⟩) (by simp) _).setCell (p:=⟨w.heap.size,2,none⟩) (by simp) _).setCell (p:=⟨w.heap.size,3,none⟩) (by simp) _)⟩
   ·skip
    go_simp
    have hqA : Below w4.heap.size w4 (w4.alloc (.cells #[.string ⟨#[]⟩, .int .i64 0, .string ⟨#[]⟩, .int .i64 0] 27)):=(Below.refl _ _).alloc (Nat.le_refl _) _
    have p5:=(hqA.block _ (Ad p4)).trans p4
    have R5:=R4.keep hqA
    have x5:=(hqA.block _ (Ad x4)).trans x4
    have B5:=B4.trans (hqA.mono B4.size)
    have hE5:=heap_last w4 (.cells #[.string ⟨#[]⟩, .int .i64 0, .string ⟨#[]⟩, .int .i64 0] 27) _ rfl
    refine hK.out _ _ (⟨rc (i:=0) p5 rfl,rc (i:=1) p5 rfl⟩) (fun hHeld=>?_)
    clear hK K
    try simp only [Act.put,List.setIfInBounds_toArray,List.set_cons_zero,List.set_cons_succ]
    refine Ai (i:=1) rfl (by kernel_rfl) rfl (fun K hK=>?_)
    go_simp
    refine (hcl _).mono ?_
    rintro e w5 ⟨rfl,hb5⟩
    have p6:=(hb5.block _ (Ad p5)).trans p5
    have R6:=R5.keep hb5
    have x6:=(hb5.block _ (Ad x5)).trans x5
    have B6:=B5.trans (hb5.mono B5.size)
    have hE:=(hb5.block _ (Ad hE5)).trans hE5
    have s5 : pb<w4.heap.size:=s4
    have g5 : g<w4.heap.size:=R4.lt
    have sE:=Ad hE
    refine hK.out _ _ (⟨rc (i:=0) p6 rfl,rc (i:=1) p6 rfl⟩) (fun hHeld=>?_)
    clear hK K
    try simp only [Act.put,List.setIfInBounds_toArray,List.set_cons_zero,List.set_cons_succ]
    refine Aa 7 hHeld ?_
    have d0:=rc (i:=0) hE rfl
    have d1:=rc (i:=1) hE rfl
    have d2:=rc (i:=2) hE rfl
    have d3:=rc (i:=3) hE rfl
    have e0:=Af (j:=0) hE
    have e1:=Af (j:=1) hE
    have e2:=Af (j:=2) hE
    have e3:=Af (j:=3) hE
    clear hb5 hqA R5 x5 B5 p5 hE5
    have zE : ((((w5.setCell ⟨w4.heap.size,0,none⟩ (.string (Ab name))).setCell ⟨w4.heap.size,1,none⟩ (.int .i64 kind)).setCell ⟨w4.heap.size,2,none⟩ (.string (Ab id))).setCell ⟨w4.heap.size,3,none⟩ (.int .i64 size)).heap[w4.heap.size]? = some (.cells #[.string (Ab name), .int .i64 kind, .string (Ab id), .int .i64 size] 27):=Et hE
    have RE : Rd w0.heap.size ((((w5.setCell ⟨w4.heap.size,0,none⟩ (.string (Ab name))).setCell ⟨w4.heap.size,1,none⟩ (.int .i64 kind)).setCell ⟨w4.heap.size,2,none⟩ (.string (Ab id))).setCell ⟨w4.heap.size,3,none⟩ (.int .i64 size)) g val s2:=((((R6.set (.inl (by omega))).set (.inl (by omega))).set (.inl (by omega))).set (.inl (by omega)))
    have BE : Below w.heap.size w ((((w5.setCell ⟨w4.heap.size,0,none⟩ (.string (Ab name))).setCell ⟨w4.heap.size,1,none⟩ (.int .i64 kind)).setCell ⟨w4.heap.size,2,none⟩ (.string (Ab id))).setCell ⟨w4.heap.size,3,none⟩ (.int .i64 size)):=((((B6.setCell (p:=⟨w4.heap.size,0,none⟩) (by simp; omega) _).setCell (p:=⟨w4.heap.size,1,none⟩) (by simp; omega) _).setCell (p:=⟨w4.heap.size,2,none⟩) (by simp; omega) _).setCell (p:=⟨w4.heap.size,3,none⟩) (by simp; omega) _)
    have xE : ((((w5.setCell ⟨w4.heap.size,0,none⟩ (.string (Ab name))).setCell ⟨w4.heap.size,1,none⟩ (.int .i64 kind)).setCell ⟨w4.heap.size,2,none⟩ (.string (Ab id))).setCell ⟨w4.heap.size,3,none⟩ (.int .i64 size)).heap[w.heap.size]? = some (.cells #[.string ⟨#[]⟩, .int .i64 0, .string ⟨#[]⟩, .int .i64 0] 27):=((Ar ((((w5.setCell ⟨w4.heap.size,0,none⟩ (.string (Ab name))).setCell ⟨w4.heap.size,1,none⟩ (.int .i64 kind)).setCell ⟨w4.heap.size,2,none⟩ (.string (Ab id)))) (w4.heap.size) 3 (.int .i64 size)).block _ (by have:=Ad x6; simp [World.setCell]; try omega) (fun e=>by injection e with e; omega)).trans (((Ar (((w5.setCell ⟨w4.heap.size,0,none⟩ (.string (Ab name))).setCell ⟨w4.heap.size,1,none⟩ (.int .i64 kind))) (w4.heap.size) 2 (.string (Ab id))).block _ (by have:=Ad x6; simp [World.setCell]; try omega) (fun e=>by injection e with e; omega)).trans (((Ar ((w5.setCell ⟨w4.heap.size,0,none⟩ (.string (Ab name)))) (w4.heap.size) 1 (.int .i64 kind)).block _ (by have:=Ad x6; simp [World.setCell]; try omega) (fun e=>by injection e with e; omega)).trans (((Ar (w5) (w4.heap.size) 0 (.string (Ab name))).block _ (by have:=Ad x6; simp; try omega) (fun e=>by injection e with e; omega)).trans (x6))))
    have pE : ((((w5.setCell ⟨w4.heap.size,0,none⟩ (.string (Ab name))).setCell ⟨w4.heap.size,1,none⟩ (.int .i64 kind)).setCell ⟨w4.heap.size,2,none⟩ (.string (Ab id))).setCell ⟨w4.heap.size,3,none⟩ (.int .i64 size)).heap[pb]? = some (.cells #[.string (Ab id), .int .i64 size] 60):=((Ar ((((w5.setCell ⟨w4.heap.size,0,none⟩ (.string (Ab name))).setCell ⟨w4.heap.size,1,none⟩ (.int .i64 kind)).setCell ⟨w4.heap.size,2,none⟩ (.string (Ab id)))) (w4.heap.size) 3 (.int .i64 size)).block _ (by have:=Ad p6; simp [World.setCell]; try omega) (fun e=>by injection e with e; omega)).trans (((Ar (((w5.setCell ⟨w4.heap.size,0,none⟩ (.string (Ab name))).setCell ⟨w4.heap.size,1,none⟩ (.int .i64 kind))) (w4.heap.size) 2 (.string (Ab id))).block _ (by have:=Ad p6; simp [World.setCell]; try omega) (fun e=>by injection e with e; omega)).trans (((Ar ((w5.setCell ⟨w4.heap.size,0,none⟩ (.string (Ab name)))) (w4.heap.size) 1 (.int .i64 kind)).block _ (by have:=Ad p6; simp [World.setCell]; try omega) (fun e=>by injection e with e; omega)).trans (((Ar (w5) (w4.heap.size) 0 (.string (Ab name))).block _ (by have:=Ad p6; simp; try omega) (fun e=>by injection e with e; omega)).trans (p6))))
    clear hE x6 R6 B6 p6
    refine Ai (i:=9) rfl (by kernel_rfl) rfl (fun K hK=>?_)
    go_simp
    refine hK.out _ _ (⟨rc (i:=0) pE rfl,rc (i:=1) pE rfl⟩) (fun hHeld=>?_)
    clear hK K
    try simp only [Act.put,List.setIfInBounds_toArray,List.set_cons_zero,List.set_cons_succ]
    refine wpAnyH_done (by kernel_rfl) ?_ _
    clear hHeld
    generalize hwE : ((((w5.setCell ⟨w4.heap.size,0,none⟩ (.string (Ab name))).setCell ⟨w4.heap.size,1,none⟩ (.int .i64 kind)).setCell ⟨w4.heap.size,2,none⟩ (.string (Ab id))).setCell ⟨w4.heap.size,3,none⟩ (.int .i64 size))=wE at *
    have k0:=rc (i:=0) zE rfl
    have k1:=rc (i:=1) zE rfl
    have k2:=rc (i:=2) zE rfl
    have k3:=rc (i:=3) zE rfl
    have hW:=E7 wE g val s2 RE
    rw [hdec] at hW
    go_wp2_with fail
    refine hW.mono ?_
    rintro e w6 ⟨rfl,hb6⟩
    have z6:=(hb6.block _ (Ad zE)).trans zE
    have x6:=(hb6.block _ (Ad xE)).trans xE
    have B6:=BE.trans (hb6.mono BE.size)
    have l0:=rc (i:=0) z6 rfl
    have l1:=rc (i:=1) z6 rfl
    have l2:=rc (i:=2) z6 rfl
    have l3:=rc (i:=3) z6 rfl
    clear hW hb6 zE xE k0 k1 k2 k3 RE hwE BE
    have hr:=Hj w6 name (kind,(id,size))
    rw [h2] at hr
    simp only at hr
    go_wp2_with fail
    refine hr.mono ?_
    rintro e w7 ⟨rfl,hb7⟩
    have z7:=(hb7.block _ (Ad z6)).trans z6
    have x7:=(hb7.block _ (Ad x6)).trans x6
    have B7:=B6.trans (hb7.mono B6.size)
    have m0:=rc (i:=0) z7 rfl
    have m1:=rc (i:=1) z7 rfl
    have m2:=rc (i:=2) z7 rfl
    have m3:=rc (i:=3) z7 rfl
    clear hr hb7 z6 x6 B6 l0 l1 l2 l3
    have n0:=rc (i:=0) x7 rfl
    have f0:=Af (j:=0) x7
    have n1:=rc (i:=1) x7 rfl
    have f1:=Af (j:=1) x7
    have n2:=rc (i:=2) x7 rfl
    have f2:=Af (j:=2) x7
    have n3:=rc (i:=3) x7 rfl
    have f3:=Af (j:=3) x7
    go_wp2
    exact bodyPost_ret (Aq rfl _ _ _ _ _ _ _ rfl (Et x7) Tryz.underlying27 rfl Tryz.infoEntry) rfl ⟨rfl,((((B7.setCell (p:=⟨w.heap.size,0,none⟩) (by simp) _).setCell (p:=⟨w.heap.size,1,none⟩) (by simp) _).setCell (p:=⟨w.heap.size,2,none⟩) (by simp) _).setCell (p:=⟨w.heap.size,3,none⟩) (by simp) _)⟩
 ·have hdec:=decide_eq_false h1
  rw [if_neg (fun h=>h1 h.1)]
  simp only
  go_enter Tryz.func106,Tryz.ntmps106
  go_wp2_with fail
  try rw [hw0]
  refine hrd.mono ?_
  rintro e w1 ⟨g,rfl,R1,hg1,hb1⟩
  have x1:=(hb1.block _ (by omega)).trans hx0
  have B1:=hbE.trans (hb1.mono hbE.size)
  have hT:=F4 w1 g val (some 0) 2 R1 hv
  unfold Bq at hT
  rw [H1.out] at hT
  simp only at hT
  clear hrd hb1 R1
  go_wp2_with fail
  refine hT.mono ?_
  rintro e w2 ⟨rfl,R2,gb2⟩
  have x2:=(gb2.block _ (Ad x1) (fun e=>by injection e with e; omega)).trans x1
  have B2:=B1.grown gb2 B1.size (fun k hk=>by injection hk with hk; omega)
  have hT2:=J5 w2 g val s1 R2 hv
  unfold Bq at hT2
  rw [H2.out] at hT2
  simp only at hT2
  clear hT gb2 R2 x1 B1
  go_wp2_with fail
  refine hT2.mono ?_
  rintro e w3 ⟨rfl,R3,gb3⟩
  have x3:=(gb3.block _ (Ad x2) (fun e=>by injection e with e; omega)).trans x2
  have B3:=B2.grown gb3 B2.size (fun k hk=>by injection hk with hk; omega)
  have hq4 : Below w3.heap.size w3 (w3.alloc (.cells #[.string (Ab id), .int .i64 size] 60)).drew:=((Below.refl _ _).alloc (Nat.le_refl _) _).drew
  have p4 : (w3.alloc (.cells #[.string (Ab id), .int .i64 size] 60)).drew.heap[w3.heap.size]? = some (.cells #[.string (Ab id), .int .i64 size] 60):=heap_last w3 (.cells #[.string (Ab id), .int .i64 size] 60) _ rfl
  have R4:=R3.keep hq4
  have x4:=(hq4.block _ (Ad x3)).trans x3
  have B4:=B3.trans (hq4.mono B3.size)
  have s4:=Ad p4
  have g4:=R3.lt
  clear hT2 gb3 R3 x2 B2 x3 B3 hq4
  go_wp2_with fail
  generalize hpb : w3.heap.size=pb at *
  have c0:=rc (i:=0) p4 rfl
  have c1:=rc (i:=1) p4 rfl
  refine wp_region_held_drew (S:=fun W=>W.cell? ⟨pb,0,none⟩=some (.string (Ab id))∧W.cell? ⟨pb,1,none⟩=some (.int .i64 size)) (by kernel_rfl) (⟨c0,c1⟩) (fun hHeld=>?_)
  refine Aa 0 hHeld ?_
  refine Aa 2 hHeld ?_
  refine Aa 3 hHeld ?_
  refine Aa 4 hHeld ?_
  refine Aa 5 hHeld ?_
  refine Aa 6 hHeld ?_
  generalize hw4 : (w3.alloc (.cells #[.string (Ab id), .int .i64 size] 60)).drew=w4 at *
  refine twoH (i:=1) (j:=8) rfl rfl (by kernel_rfl) rfl rfl (fun K hK=>?_) (fun K hK=>?_)
  ·skip
   go_simp
   refine (hcl w4).mono ?_
   rintro e w5 ⟨rfl,hb5⟩
   have p5:=(hb5.block _ (Ad p4)).trans p4
   have R5:=R4.keep hb5
   have x5:=(hb5.block _ (Ad x4)).trans x4
   have B5:=B4.trans (hb5.mono B4.size)
   have s5:=Ad p5
   have g5:=R5.lt
   refine hK.out _ _ (⟨rc (i:=0) p5 rfl,rc (i:=1) p5 rfl⟩) (fun hHeld=>?_)
   clear hK K
   try simp only [Act.put,List.setIfInBounds_toArray,List.set_cons_zero,List.set_cons_succ]
   refine Aa 7 hHeld ?_
   refine Ai (i:=8) rfl (by kernel_rfl) rfl (fun K hK=>?_)
   go_simp
   have hqA : Below w5.heap.size w5 (w5.alloc (.cells #[.string ⟨#[]⟩, .int .i64 0, .string ⟨#[]⟩, .int .i64 0] 27)):=(Below.refl _ _).alloc (Nat.le_refl _) _
   have p6:=(hqA.block _ (Ad p5)).trans p5
   have R6:=R5.keep hqA
   have x6:=(hqA.block _ (Ad x5)).trans x5
   have B6:=B5.trans (hqA.mono B5.size)
   have hE:=heap_last w5 (.cells #[.string ⟨#[]⟩, .int .i64 0, .string ⟨#[]⟩, .int .i64 0] 27) _ rfl
   refine hK.out _ _ (⟨rc (i:=0) p6 rfl,rc (i:=1) p6 rfl⟩) (fun hHeld=>?_)
   clear hK K
   try simp only [Act.put,List.setIfInBounds_toArray,List.set_cons_zero,List.set_cons_succ]
   have d0:=rc (i:=0) hE rfl
   have d1:=rc (i:=1) hE rfl
   have d2:=rc (i:=2) hE rfl
   have d3:=rc (i:=3) hE rfl
   have e0:=Af (j:=0) hE
   have e1:=Af (j:=1) hE
   have e2:=Af (j:=2) hE
   have e3:=Af (j:=3) hE
   clear hb5 hqA
   have hqV : Below w5.heap.size w5 (w5.alloc (.cells #[.string (Ab name), .int .i64 kind, .string (Ab id), .int .i64 size] 27)):=(Below.refl _ _).alloc (Nat.le_refl _) _
   have zE:=heap_last w5 (.cells #[.string (Ab name), .int .i64 kind, .string (Ab id), .int .i64 size] 27) _ rfl
   have RE:=R5.keep hqV
   have xE:=(hqV.block _ (Ad x5)).trans x5
   have BE:=B5.trans (hqV.mono B5.size)
   have pE:=(hqV.block _ (Ad p5)).trans p5
   clear hE x6 R6 B6 p6 R5 x5 B5 p5 hqV
   refine Ai (i:=9) rfl (by kernel_rfl) rfl (fun K hK=>?_)
   go_simp
   refine hK.out _ _ (⟨rc (i:=0) pE rfl,rc (i:=1) pE rfl⟩) (fun hHeld=>?_)
   clear hK K
   try simp only [Act.put,List.setIfInBounds_toArray,List.set_cons_zero,List.set_cons_succ]
   refine wpAnyH_done (by kernel_rfl) ?_ _
   clear hHeld
   generalize hwE : (w5.alloc (.cells #[.string (Ab name), .int .i64 kind, .string (Ab id), .int .i64 size] 27))=wE at *
   have k0:=rc (i:=0) zE rfl
   have k1:=rc (i:=1) zE rfl
   have k2:=rc (i:=2) zE rfl
   have k3:=rc (i:=3) zE rfl
   have hW:=E7 wE g val s2 RE
   rw [hdec] at hW
   go_wp2_with fail
   refine hW.mono ?_
   rintro e w6 ⟨rfl,hb6⟩
   have z6:=(hb6.block _ (Ad zE)).trans zE
   have x6:=(hb6.block _ (Ad xE)).trans xE
   have B6:=BE.trans (hb6.mono BE.size)
   have l0:=rc (i:=0) z6 rfl
   have l1:=rc (i:=1) z6 rfl
   have l2:=rc (i:=2) z6 rfl
   have l3:=rc (i:=3) z6 rfl
   clear hW hb6 zE xE k0 k1 k2 k3 RE hwE BE
   have n0:=rc (i:=0) x6 rfl
   have f0:=Af (j:=0) x6
   have n1:=rc (i:=1) x6 rfl
   have f1:=Af (j:=1) x6
   have n2:=rc (i:=2) x6 rfl
   have f2:=Af (j:=2) x6
   have n3:=rc (i:=3) x6 rfl
   have f3:=Af (j:=3) x6
   go_wp2
   exact bodyPost_ret (Aq rfl _ _ _ _ _ _ _ rfl (Et x6) Tryz.underlying27 rfl Tryz.infoEntry) rfl ⟨rfl,((((B6.setCell (p:=⟨w.heap.size,0,none⟩) (by simp) _).setCell (p:=⟨w.heap.size,1,none⟩) (by simp) _).setCell (p:=⟨w.heap.size,2,none⟩) (by simp) _).setCell (p:=⟨w.heap.size,3,none⟩) (by simp) _)⟩
  ·skip
   go_simp
   have hqA : Below w4.heap.size w4 (w4.alloc (.cells #[.string ⟨#[]⟩, .int .i64 0, .string ⟨#[]⟩, .int .i64 0] 27)):=(Below.refl _ _).alloc (Nat.le_refl _) _
   have p5:=(hqA.block _ (Ad p4)).trans p4
   have R5:=R4.keep hqA
   have x5:=(hqA.block _ (Ad x4)).trans x4
   have B5:=B4.trans (hqA.mono B4.size)
   have hE5:=heap_last w4 (.cells #[.string ⟨#[]⟩, .int .i64 0, .string ⟨#[]⟩, .int .i64 0] 27) _ rfl
   refine hK.out _ _ (⟨rc (i:=0) p5 rfl,rc (i:=1) p5 rfl⟩) (fun hHeld=>?_)
   clear hK K
   try simp only [Act.put,List.setIfInBounds_toArray,List.set_cons_zero,List.set_cons_succ]
   refine Ai (i:=1) rfl (by kernel_rfl) rfl (fun K hK=>?_)
   go_simp
   refine (hcl _).mono ?_
   rintro e w5 ⟨rfl,hb5⟩
   have p6:=(hb5.block _ (Ad p5)).trans p5
   have R6:=R5.keep hb5
   have x6:=(hb5.block _ (Ad x5)).trans x5
   have B6:=B5.trans (hb5.mono B5.size)
   have hE:=(hb5.block _ (Ad hE5)).trans hE5
   have s5 : pb<w4.heap.size:=s4
   have g5 : g<w4.heap.size:=R4.lt
   have sE:=Ad hE
   refine hK.out _ _ (⟨rc (i:=0) p6 rfl,rc (i:=1) p6 rfl⟩) (fun hHeld=>?_)
   clear hK K
   try simp only [Act.put,List.setIfInBounds_toArray,List.set_cons_zero,List.set_cons_succ]
   refine Aa 7 hHeld ?_
   have d0:=rc (i:=0) hE rfl
   have d1:=rc (i:=1) hE rfl
   have d2:=rc (i:=2) hE rfl
   have d3:=rc (i:=3) hE rfl
   have e0:=Af (j:=0) hE
   have e1:=Af (j:=1) hE
   have e2:=Af (j:=2) hE
   have e3:=Af (j:=3) hE
   clear hb5 hqA R5 x5 B5 p5 hE5
   have zE : ((((w5.setCell ⟨w4.heap.size,0,none⟩ (.string (Ab name))).setCell ⟨w4.heap.size,1,none⟩ (.int .i64 kind)).setCell ⟨w4.heap.size,2,none⟩ (.string (Ab id))).setCell ⟨w4.heap.size,3,none⟩ (.int .i64 size)).heap[w4.heap.size]? = some (.cells #[.string (Ab name), .int .i64 kind, .string (Ab id), .int .i64 size] 27):=Et hE
   have RE : Rd w0.heap.size ((((w5.setCell ⟨w4.heap.size,0,none⟩ (.string (Ab name))).setCell ⟨w4.heap.size,1,none⟩ (.int .i64 kind)).setCell ⟨w4.heap.size,2,none⟩ (.string (Ab id))).setCell ⟨w4.heap.size,3,none⟩ (.int .i64 size)) g val s2:=((((R6.set (.inl (by omega))).set (.inl (by omega))).set (.inl (by omega))).set (.inl (by omega)))
   have BE : Below w.heap.size w ((((w5.setCell ⟨w4.heap.size,0,none⟩ (.string (Ab name))).setCell ⟨w4.heap.size,1,none⟩ (.int .i64 kind)).setCell ⟨w4.heap.size,2,none⟩ (.string (Ab id))).setCell ⟨w4.heap.size,3,none⟩ (.int .i64 size)):=((((B6.setCell (p:=⟨w4.heap.size,0,none⟩) (by simp; omega) _).setCell (p:=⟨w4.heap.size,1,none⟩) (by simp; omega) _).setCell (p:=⟨w4.heap.size,2,none⟩) (by simp; omega) _).setCell (p:=⟨w4.heap.size,3,none⟩) (by simp; omega) _)
   have xE : ((((w5.setCell ⟨w4.heap.size,0,none⟩ (.string (Ab name))).setCell ⟨w4.heap.size,1,none⟩ (.int .i64 kind)).setCell ⟨w4.heap.size,2,none⟩ (.string (Ab id))).setCell ⟨w4.heap.size,3,none⟩ (.int .i64 size)).heap[w.heap.size]? = some (.cells #[.string ⟨#[]⟩, .int .i64 0, .string ⟨#[]⟩, .int .i64 0] 27):=((Ar ((((w5.setCell ⟨w4.heap.size,0,none⟩ (.string (Ab name))).setCell ⟨w4.heap.size,1,none⟩ (.int .i64 kind)).setCell ⟨w4.heap.size,2,none⟩ (.string (Ab id)))) (w4.heap.size) 3 (.int .i64 size)).block _ (by have:=Ad x6; simp [World.setCell]; try omega) (fun e=>by injection e with e; omega)).trans (((Ar (((w5.setCell ⟨w4.heap.size,0,none⟩ (.string (Ab name))).setCell ⟨w4.heap.size,1,none⟩ (.int .i64 kind))) (w4.heap.size) 2 (.string (Ab id))).block _ (by have:=Ad x6; simp [World.setCell]; try omega) (fun e=>by injection e with e; omega)).trans (((Ar ((w5.setCell ⟨w4.heap.size,0,none⟩ (.string (Ab name)))) (w4.heap.size) 1 (.int .i64 kind)).block _ (by have:=Ad x6; simp [World.setCell]; try omega) (fun e=>by injection e with e; omega)).trans (((Ar (w5) (w4.heap.size) 0 (.string (Ab name))).block _ (by have:=Ad x6; simp; try omega) (fun e=>by injection e with e; omega)).trans (x6))))
   have pE : ((((w5.setCell ⟨w4.heap.size,0,none⟩ (.string (Ab name))).setCell ⟨w4.heap.size,1,none⟩ (.int .i64 kind)).setCell ⟨w4.heap.size,2,none⟩ (.string (Ab id))).setCell ⟨w4.heap.size,3,none⟩ (.int .i64 size)).heap[pb]? = some (.cells #[.string (Ab id), .int .i64 size] 60):=((Ar ((((w5.setCell ⟨w4.heap.size,0,none⟩ (.string (Ab name))).setCell ⟨w4.heap.size,1,none⟩ (.int .i64 kind)).setCell ⟨w4.heap.size,2,none⟩ (.string (Ab id)))) (w4.heap.size) 3 (.int .i64 size)).block _ (by have:=Ad p6; simp [World.setCell]; try omega) (fun e=>by injection e with e; omega)).trans (((Ar (((w5.setCell ⟨w4.heap.size,0,none⟩ (.string (Ab name))).setCell ⟨w4.heap.size,1,none⟩ (.int .i64 kind))) (w4.heap.size) 2 (.string (Ab id))).block _ (by have:=Ad p6; simp [World.setCell]; try omega) (fun e=>by injection e with e; omega)).trans (((Ar ((w5.setCell ⟨w4.heap.size,0,none⟩ (.string (Ab name)))) (w4.heap.size) 1 (.int .i64 kind)).block _ (by have:=Ad p6; simp [World.setCell]; try omega) (fun e=>by injection e with e; omega)).trans (((Ar (w5) (w4.heap.size) 0 (.string (Ab name))).block _ (by have:=Ad p6; simp; try omega) (fun e=>by injection e with e; omega)).trans (p6))))
   clear hE x6 R6 B6 p6
   refine Ai (i:=9) rfl (by kernel_rfl) rfl (fun K hK=>?_)
   go_simp
   refine hK.out _ _ (⟨rc (i:=0) pE rfl,rc (i:=1) pE rfl⟩) (fun hHeld=>?_)
   clear hK K
   try simp only [Act.put,List.setIfInBounds_toArray,List.set_cons_zero,List.set_cons_succ]
   refine wpAnyH_done (by kernel_rfl) ?_ _
   clear hHeld
   generalize hwE : ((((w5.setCell ⟨w4.heap.size,0,none⟩ (.string (Ab name))).setCell ⟨w4.heap.size,1,none⟩ (.int .i64 kind)).setCell ⟨w4.heap.size,2,none⟩ (.string (Ab id))).setCell ⟨w4.heap.size,3,none⟩ (.int .i64 size))=wE at *
   have k0:=rc (i:=0) zE rfl
   have k1:=rc (i:=1) zE rfl
   have k2:=rc (i:=2) zE rfl
   have k3:=rc (i:=3) zE rfl
   have hW:=E7 wE g val s2 RE
   rw [hdec] at hW
   go_wp2_with fail
   refine hW.mono ?_
   rintro e w6 ⟨rfl,hb6⟩
   have z6:=(hb6.block _ (Ad zE)).trans zE
   have x6:=(hb6.block _ (Ad xE)).trans xE
   have B6:=BE.trans (hb6.mono BE.size)
   have l0:=rc (i:=0) z6 rfl
   have l1:=rc (i:=1) z6 rfl
   have l2:=rc (i:=2) z6 rfl
   have l3:=rc (i:=3) z6 rfl
   clear hW hb6 zE xE k0 k1 k2 k3 RE hwE BE
   have n0:=rc (i:=0) x6 rfl
   have f0:=Af (j:=0) x6
   have n1:=rc (i:=1) x6 rfl
   have f1:=Af (j:=1) x6
   have n2:=rc (i:=2) x6 rfl
   have f2:=Af (j:=2) x6
   have n3:=rc (i:=3) x6 rfl
   have f3:=Af (j:=3) x6
   go_wp2
   exact bodyPost_ret (Aq rfl _ _ _ _ _ _ _ rfl (Et x6) Tryz.underlying27 rfl Tryz.infoEntry) rfl ⟨rfl,((((B6.setCell (p:=⟨w.heap.size,0,none⟩) (by simp) _).setCell (p:=⟨w.heap.size,1,none⟩) (by simp) _).setCell (p:=⟨w.heap.size,2,none⟩) (by simp) _).setCell (p:=⟨w.heap.size,3,none⟩) (by simp) _)⟩
end Go.Proofs.YtckejblkppllaaaGreatDoor
namespace Go.Proofs.YtckejblkppllaaaGreatDoor
open Go.RowKit
variable {N : Nat}
set_option maxRecDepth 20000 in
theorem F3 (w : World) (l : List UInt8) :
  Calls Tryz.prog 55 #[.string (Ab l)] w fun e w'=>e = .returned (.bool (Pt.name l))∧w'=w:=by
 have hsz:=A1 l
 have hl:=toL l
 by_cases h1 : l.length<1
 ·go_enter Tryz.func55,Tryz.ntmps55
  go_wp2
  go_ret
  exact ⟨Al (by simp [Pt.name]; omega),rfl⟩
 by_cases h2 : 64<l.length
 ·go_enter Tryz.func55,Tryz.ntmps55
  go_wp2
  go_ret
  exact ⟨Al (by simp [Pt.name]; omega),rfl⟩
 by_cases h3 : l = [46]
 ·subst h3
  go_enter Tryz.func55,Tryz.ntmps55
  go_wp2
  go_ret
  exact ⟨Al (by simp [Pt.name]),rfl⟩
 by_cases h4 : l = [46,46]
 ·subst h4
  go_enter Tryz.func55,Tryz.ntmps55
  go_wp2
  go_ret
  exact ⟨Al (by simp [Pt.name]),rfl⟩
 have b3 : (l == [46])=false:=by simp [h3]
 have b4 : (l == [46,46])=false:=by simp [h4]
 have q1 : 1≤l.length:=by omega
 have q2 : l.length≤64:=by omega
 go_enter Tryz.func55,Tryz.ntmps55
 go_wp2
 go_loopw [3,2] (fun v r wr=>∃ k : Nat,v = .int .i64 (k : Int)∧r = .bool false∧k≤l.length∧(∀ j (hj : j<l.length),j<k→l[j]≠47∧l[j]≠0)∧wr=w)
  (fun v _ _=>l.length - (intOf v).toNat)
 case atStart=>exact ⟨0,rfl,rfl,by omega,(fun j _ hj=>by omega),rfl⟩
 case round=>
  obtain ⟨k,rfl,rfl,hk,hn,rfl⟩:=hrel
  by_cases hlt : k<l.length
  ·have hix:=fun W=>Gr W l .i64 k hlt
   have hf:=Kh hlt
   by_cases c1 : l[k]=47
   ·have hf:=hf (.inl c1)
    rw [c1] at hix
    go_wp2
    go_ret
    exact ⟨Al hf.symm,rfl⟩
   by_cases c2 : l[k]=0
   ·have hf:=hf (.inr c2)
    rw [c2] at hix
    go_wp2
    go_ret
    exact ⟨Al hf.symm,rfl⟩
   ·have c1' : ¬ (l[k].toNat : Int)=47:=fun e=>c1 (UInt8.toNat_inj.1 (by simpa using Int.ofNat.inj e))
    have c2' : ¬ (l[k].toNat : Int)=0:=fun e=>c2 (UInt8.toNat_inj.1 (by simpa using Int.ofNat.inj e))
    have c1'' : ((l[k].toNat : Int) == 47)=false:=by simpa using c1'
    have c2'' : ((l[k].toNat : Int) == 0)=false:=beq_eq_false_iff_ne.2 c2'
    clear hf c1' c2'
    have hstep : ∀ j (hj : j<l.length),j<k+1→l[j]≠47∧l[j]≠0:=fun j hj hjk=>by
     by_cases e : j=k
     ·subst e; exact ⟨c1,c2⟩
     ·exact hn j hj (by omega)
    generalize l[k]=c at *
    go_wp2_with fail
    exact ⟨⟨k+1,by go_num,rfl,by omega,hstep,trivial⟩,by simp [intOf]; omega⟩
  ·have ht:=Kv q1 q2 h3 h4 (fun j hj=>hn j hj (by omega))
   have : k=l.length:=by omega
   subst this
   go_wp2
   go_ret
   exact ⟨Al ht.symm,rfl⟩
set_option maxRecDepth 20000 in
set_option maxHeartbeats 800000 in
theorem O2 (w : World) (name : Bs) (v : Val) :
  Calls Tryz.prog 60 #[.agg #[.string (Ab name), .int .i64 v.1, .string (Ab v.2.1), .int .i64 v.2.2]] w fun e w'=>e = .returned (.bool (Ck name v))∧Below w.heap.size w w':=by
 have hb : Below w.heap.size w (w.alloc (.cells #[.string (Ab name), .int .i64 v.1, .string (Ab v.2.1), .int .i64 v.2.2] 27)):=(Below.refl _ _).alloc (Nat.le_refl _) _
 have hn:=fun W=>F3 W name
 have hi:=fun W=>Fd W v.2.1
 unfold Ck valOk
 obtain ⟨k,i,n⟩:=v
 simp only at *
 generalize Pt.name name=q0 at *
 generalize Ci i=q1 at *
 cases q0
 ·go_enter Tryz.func60,Tryz.ntmps60
  go_wp2_with fail
  refine (hn _).mono ?_
  rintro e w1 ⟨rfl,rfl⟩
  go_wp2_with fail
  refine (hi _).mono ?_
  rintro e w1 ⟨rfl,rfl⟩
  go_wp2
  go_ret
  exact ⟨Al (by simp),hb⟩
 cases q1
 ·go_enter Tryz.func60,Tryz.ntmps60
  go_wp2_with fail
  refine (hn _).mono ?_
  rintro e w1 ⟨rfl,rfl⟩
  go_wp2_with fail
  refine (hi _).mono ?_
  rintro e w1 ⟨rfl,rfl⟩
  go_wp2
  go_ret
  exact ⟨Al (by simp),hb⟩
 by_cases h1 : k=1
 ·subst h1
  by_cases h2 : 0≤n
  ·by_cases h3 : n≤262144
   all_goals
    go_enter Tryz.func60,Tryz.ntmps60
    go_wp2_with fail
    refine (hn _).mono ?_
    rintro e w1 ⟨rfl,rfl⟩
    go_wp2_with fail
    refine (hi _).mono ?_
    rintro e w1 ⟨rfl,rfl⟩
    go_wp2
    go_ret
    exact ⟨Al (by simp [Ew,h2,h3]),hb⟩
  ·go_enter Tryz.func60,Tryz.ntmps60
   go_wp2_with fail
   refine (hn _).mono ?_
   rintro e w1 ⟨rfl,rfl⟩
   go_wp2_with fail
   refine (hi _).mono ?_
   rintro e w1 ⟨rfl,rfl⟩
   go_wp2
   go_ret
   exact ⟨Al (by simp [Ew]; omega),hb⟩
 ·have b1 : (k == 1)=false:=by simpa using h1
  by_cases h2 : k=2
  ·subst h2
   by_cases h3 : 1≤n
   ·by_cases h4 : n≤4096
    all_goals
     go_enter Tryz.func60,Tryz.ntmps60
     go_wp2_with fail
     refine (hn _).mono ?_
     rintro e w1 ⟨rfl,rfl⟩
     go_wp2_with fail
     refine (hi _).mono ?_
     rintro e w1 ⟨rfl,rfl⟩
     go_wp2
     go_ret
     exact ⟨Al (by simp [Ew,h3,h4]),hb⟩
   ·go_enter Tryz.func60,Tryz.ntmps60
    go_wp2_with fail
    refine (hn _).mono ?_
    rintro e w1 ⟨rfl,rfl⟩
    go_wp2_with fail
    refine (hi _).mono ?_
    rintro e w1 ⟨rfl,rfl⟩
    go_wp2
    go_ret
    exact ⟨Al (by simp [Ew]; omega),hb⟩
  ·have b2 : (k == 2)=false:=by simpa using h2
   go_enter Tryz.func60,Tryz.ntmps60
   go_wp2_with fail
   refine (hn _).mono ?_
   rintro e w1 ⟨rfl,rfl⟩
   go_wp2_with fail
   refine (hi _).mono ?_
   rintro e w1 ⟨rfl,rfl⟩
   go_wp2
   go_ret
   exact ⟨Al (by simp [Ew,h1,h2]),hb⟩
end Go.Proofs.YtckejblkppllaaaGreatDoor
