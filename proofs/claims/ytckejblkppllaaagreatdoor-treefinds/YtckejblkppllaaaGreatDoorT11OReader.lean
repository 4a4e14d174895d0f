/-
  The reference's reader: numbers, ids, its end. Conditions: lengths within reach.
-/
import Derived.Test.YtckejblkppllaaaGreatDoorT9OTop2
import Derived.Test.YtckejblkppllaaaGreatDoorT10WRefTake
namespace Go.Proofs.YtckejblkppllaaaGreatDoor
open Go.RowKit
variable {N : Nat}
def Rr (N : Nat) (w : World) (g : Nat) (l : Bs) (s : Pos) : Prop:=
 ∃ v p,w.heap[g]? = some (.cells #[v, .int .i64 p, .bool s.isNone] 139)∧(∀ w',Und N g w w'→Sl w' v l)∧(∀ a,s=some a→p=(a : Int)∧a≤l.length)
theorem Rr.lt {w : World} {g : Nat} {l : Bs} {s : Pos} (h : Rr N w g l s) : g<w.heap.size:=by
 obtain ⟨v,p,h1,_⟩:=h
 exact Ad h1
theorem Rr.keep {w w' : World} {g : Nat} {l : Bs} {s : Pos} (h : Rr N w g l s) (hb : Below w.heap.size w w') : Rr N w' g l s:=by
 have hl:=h.lt
 obtain ⟨v,p,h1,h2,h3⟩:=h
 exact ⟨v,p,(hb.block g hl).trans h1,fun w2 hw=>h2 w2 (D1 (C5 hl (Fu hb)) hw),h3⟩
theorem Rr.set {w : World} {g : Nat} {l : Bs} {s : Pos} {n i : Nat} {u : Value} (h : Rr N w g l s) (hn : g<n∨n<N∧n≠g) : Rr N (w.setCell ⟨n,i,none⟩ u) g l s:=by
 have hl:=h.lt
 obtain ⟨v,p,h1,h2,h3⟩:=h
 exact ⟨v,p,((Ar w n i u).block g hl (fun e=>by injection e with e; omega)).trans h1,fun w' hu=>h2 w' (D1 (und_set w u hl (by omega)) hu),h3⟩
set_option maxRecDepth 20000 in
theorem Ho (w : World) (g : Nat) (l : Bs) (s : Pos) (h : Rr N w g l s) (hl : l.length≤140737488351232) :
  Calls Tryz.prog 57 #[.pointer (some ⟨g,0,none⟩)] w fun e w'=>e = .returned (.int .i64 (rI l s).1)∧Rr N w' g l (rI l s).2∧w.grownBy w' (some g):=by
 have hR:=h
 obtain ⟨v,p,h1,h2,h3⟩:=h
 have c0:=rc (i:=0) h1 rfl
 have c1:=rc (i:=1) h1 rfl
 have c2:=rc (i:=2) h1 rfl
 cases s with
 | none=>
  simp only [Option.isNone_none] at c2
  rw [show rI l none=(0,none) from rfl]
  go_enter Tryz.func57,Tryz.ntmps57
  go_wp2
  go_ret
  exact ⟨rfl,hR,gb_refl _ _⟩
 | some a=>
  simp only [Option.isNone_some] at c2 h1
  obtain ⟨rfl,ha⟩:=h3 a rfl
  have hs:=h2 w.drew (C5 (Ad h1) (C0 _ _))
  have hT:=Oh w.drew v l a hs hl
  have hd : w.drew.heap[g]? = some (.cells #[v, .int .i64 (a : Int), .bool false] 139):=h1
  have HD:=Ac hd
  have H2:=Ac h2
  have hlt:=Ad h1
  clear hd h2 hR h3 h1
  cases ht : Cc l (a : Int) with
  | none=>
   have hr : rI l (some a)=(0,none):=by simp only [rI]; rw [ht]
   rw [hr]
   rw [ht] at hT
   simp only [tkI] at hT
   clear ht hr
   go_enter Tryz.func57,Tryz.ntmps57
   go_wp2_with fail
   refine wp_region_held_drew (S:=fun W=>W.cell? ⟨g,0,none⟩=some v∧W.cell? ⟨g,1,none⟩=some (.int .i64 (a : Int))) (by kernel_rfl) (⟨c0,c1⟩) (fun hHeld=>?_)
   refine Aa 0 hHeld ?_
   refine Aa 1 hHeld ?_
   refine Aa 2 hHeld ?_
   refine Aa 3 hHeld ?_
   refine Aa 4 hHeld ?_
   refine Aa 5 hHeld ?_
   refine Aa 6 hHeld ?_
   refine Aa 7 hHeld ?_
   refine Ai (i:=8) rfl (by kernel_rfl) rfl (fun K hK=>?_)
   go_simp
   refine hT.mono ?_
   rintro e w1 ⟨rfl,hb1⟩
   have h5:=(hb1.block g hlt).trans HD.out
   have d0:=rc (i:=0) h5 rfl
   have d1:=rc (i:=1) h5 rfl
   have d2:=rc (i:=2) h5 rfl
   have f2:=Af (j:=2) h5
   have h6:=F6 (u2:=.bool true) h5
   have f1:=Af (j:=1) h6
   have k1:=rc (i:=1) h6 rfl
   refine hK.out _ _ (⟨d0,d1⟩) (fun hHeld=>?_)
   clear hK K
   try simp only [Act.put,List.setIfInBounds_toArray,List.set_cons_zero,List.set_cons_succ]
   refine Aa 9 hHeld ?_
   refine Aa 10 hHeld ?_
   refine Aa 11 hHeld ?_
   refine Aa 12 hHeld ?_
   refine Aa 13 hHeld ?_
   refine Aa 14 hHeld ?_
   refine Aa 15 hHeld ?_
   refine wpAnyH_done (by kernel_rfl) ?_ _
   clear hHeld
   go_wp2
   go_ret
   have hg : w.grownBy w1 (some g):=A7 (C0 _ _) (Fu hb1)
   have hg2:=A7 (A7 hg (Ar w1 g 2 (.bool true))) (Ar _ g 1 (.int .i64 0))
   exact ⟨rfl,⟨v,_,Az h6,fun w' hu=>H2.out w' (D1 (C5 hlt hg2) hu),fun b hb=>by cases hb⟩,hg2⟩
  | some x=>
   obtain ⟨n,q⟩:=x
   have hr : rI l (some a)=(n,some q):=by simp only [rI]; rw [ht]
   have hq:=(Hd ht).2.2.1
   rw [hr]
   rw [ht] at hT
   simp only [tkI] at hT
   clear ht hr
   go_enter Tryz.func57,Tryz.ntmps57
   go_wp2_with fail
   refine wp_region_held_drew (S:=fun W=>W.cell? ⟨g,0,none⟩=some v∧W.cell? ⟨g,1,none⟩=some (.int .i64 (a : Int))) (by kernel_rfl) (⟨c0,c1⟩) (fun hHeld=>?_)
   refine Aa 0 hHeld ?_
   refine Aa 1 hHeld ?_
   refine Aa 2 hHeld ?_
   refine Aa 3 hHeld ?_
   refine Aa 4 hHeld ?_
   refine Aa 5 hHeld ?_
   refine Aa 6 hHeld ?_
   refine Aa 7 hHeld ?_
   refine Ai (i:=8) rfl (by kernel_rfl) rfl (fun K hK=>?_)
   go_simp
   refine hT.mono ?_
   rintro e w1 ⟨rfl,hb1⟩
   have h5:=(hb1.block g hlt).trans HD.out
   have d0:=rc (i:=0) h5 rfl
   have d1:=rc (i:=1) h5 rfl
   have d2:=rc (i:=2) h5 rfl
   have f2:=Af (j:=2) h5
   have h6:=F6 (u2:=.bool false) h5
   have f1:=Af (j:=1) h6
   have k1:=rc (i:=1) h6 rfl
   refine hK.out _ _ (⟨d0,d1⟩) (fun hHeld=>?_)
   clear hK K
   try simp only [Act.put,List.setIfInBounds_toArray,List.set_cons_zero,List.set_cons_succ]
   refine Aa 9 hHeld ?_
   refine Aa 10 hHeld ?_
   refine Aa 11 hHeld ?_
   refine Aa 12 hHeld ?_
   refine Aa 13 hHeld ?_
   refine Aa 14 hHeld ?_
   refine Aa 15 hHeld ?_
   refine wpAnyH_done (by kernel_rfl) ?_ _
   clear hHeld
   go_wp2
   go_ret
   have hg : w.grownBy w1 (some g):=A7 (C0 _ _) (Fu hb1)
   have hg2:=A7 (A7 hg (Ar w1 g 2 (.bool false))) (Ar _ g 1 (.int .i64 (q : Int)))
   exact ⟨rfl,⟨v,_,Az h6,fun w' hu=>H2.out w' (D1 (C5 hlt hg2) hu),fun b hb=>by injection hb with hb; subst hb; exact ⟨rfl,hq⟩⟩,hg2⟩
set_option maxRecDepth 20000 in
theorem J1 (w : World) (g : Nat) (l : Bs) (s : Pos) (h : Rr N w g l s) :
  Calls Tryz.prog 59 #[.pointer (some ⟨g,0,none⟩)] w fun e w'=>e = .returned (.bool (decide (s=some l.length)))∧Below w.heap.size w w':=by
 obtain ⟨v,p,h1,h2,h3⟩:=h
 have c0:=rc (i:=0) h1 rfl
 have c1:=rc (i:=1) h1 rfl
 have c2:=rc (i:=2) h1 rfl
 have hs:=h2 w.drew (C5 (Ad h1) (C0 _ _))
 obtain ⟨ao,cap,rfl,-⟩:=hs
 clear h1 h2
 cases s with
 | none=>
  simp only [Option.isNone_none] at c2
  go_enter Tryz.func59,Tryz.ntmps59
  go_wp2_with fail
  refine wp_region_held_drew (S:=fun W=>W.cell? ⟨g,0,none⟩=some (.slice ao l.length cap)∧W.cell? ⟨g,1,none⟩=some (.int .i64 p)∧W.cell? ⟨g,2,none⟩=some (.bool true)) (by kernel_rfl) (⟨c0,c1,c2⟩) (fun hHeld=>?_)
  refine Aa 0 hHeld ?_
  refine Aa 1 hHeld ?_
  refine Aa 2 hHeld ?_
  refine Aa 3 hHeld ?_
  refine Aa 4 hHeld ?_
  refine Aa 5 hHeld ?_
  refine Ae 6 hHeld ?_
  refine Ae 7 hHeld ?_
  refine Ae 8 hHeld ?_
  refine Ae 9 hHeld ?_
  refine Ae 10 hHeld ?_
  refine Ae 11 hHeld ?_
  refine Ae 12 hHeld ?_
  refine Ae 13 hHeld ?_
  refine Ae 14 hHeld ?_
  refine Ae 15 hHeld ?_
  refine Aa 16 hHeld ?_
  refine Aa 17 hHeld ?_
  refine wpAnyH_done (by kernel_rfl) ?_ _
  clear hHeld
  go_wp2
  go_ret
  exact ⟨Al (by simp),(Below.refl _ _).drew⟩
 | some a=>
  obtain ⟨rfl,ha⟩:=h3 a rfl
  simp only [Option.isNone_some] at c2
  go_enter Tryz.func59,Tryz.ntmps59
  go_wp2_with fail
  refine wp_region_held_drew (S:=fun W=>W.cell? ⟨g,0,none⟩=some (.slice ao l.length cap)∧W.cell? ⟨g,1,none⟩=some (.int .i64 (a : Int))∧W.cell? ⟨g,2,none⟩=some (.bool false)) (by kernel_rfl) (⟨c0,c1,c2⟩) (fun hHeld=>?_)
  refine Aa 0 hHeld ?_
  refine Aa 1 hHeld ?_
  refine Aa 2 hHeld ?_
  refine Aa 3 hHeld ?_
  refine Aa 4 hHeld ?_
  refine Aa 5 hHeld ?_
  refine Aa 6 hHeld ?_
  refine Aa 7 hHeld ?_
  refine Aa 8 hHeld ?_
  refine Aa 9 hHeld ?_
  refine Aa 10 hHeld ?_
  refine Aa 11 hHeld ?_
  refine Aa 12 hHeld ?_
  refine Aa 13 hHeld ?_
  refine Aa 14 hHeld ?_
  refine Aa 15 hHeld ?_
  refine Aa 16 hHeld ?_
  refine Aa 17 hHeld ?_
  refine wpAnyH_done (by kernel_rfl) ?_ _
  clear hHeld
  go_wp2
  go_ret
  refine ⟨Al ?_,(Below.refl _ _).drew⟩
  rw [Bool.eq_iff_iff]; simp <;> omega
set_option maxRecDepth 20000 in
theorem rid_any (w : World) (g : Nat) (l : Bs) (s : Pos) (h : Rr N w g l s) (hl : l.length≤140737488351232) :
  Calls Tryz.prog 58 #[.pointer (some ⟨g,0,none⟩)] w fun e w'=>e = .returned (.string (Ab (rD l s).1))∧Rr N w' g l (rD l s).2∧w.grownBy w' (some g):=by
 have hR:=h
 obtain ⟨v,p,h1,h2,h3⟩:=h
 have c0:=rc (i:=0) h1 rfl
 have c1:=rc (i:=1) h1 rfl
 have c2:=rc (i:=2) h1 rfl
 have hs:=h2 w.drew (C5 (Ad h1) (C0 _ _))
 have hlt:=Ad h1
 have hd : w.drew.heap[g]? = some (.cells #[v, .int .i64 p, .bool s.isNone] 139):=h1
 have f2:=Af (j:=2) hd
 have f1:=Af (j:=1) hd
 have d2:=rc (i:=2) hd rfl
 have d1:=rc (i:=1) hd rfl
 have hs':=hs
 obtain ⟨ao,cap,rfl,q1,q2,q3,q4⟩:=hs'
 unfold maxLen at q2
 have H2:=Ac h2
 have HD:=Ac hd
 clear h2 h1 hd
 by_cases hc : ∃ a,s=some a∧a+32≤l.length
 ·obtain ⟨a,rfl,hle⟩:=hc
  obtain ⟨rfl,ha⟩:=h3 a rfl
  simp only [Option.isNone_some] at c2 d2 HD
  have hr : rD l (some a)=((l.drop a).take 32,some (a+32)):=by simp only [rD]; rw [if_pos hle]
  rw [hr]
  obtain ⟨b,off,rfl,hbl,hcl⟩:=q4 (by rintro rfl; simp at hle)
  have hlt' : ¬ ((l.length : Int) - (a : Int)<32):=by omega
  have hwr : IntKind.i64.wrap ((l.length : Int) - (a : Int))=(l.length : Int) - (a : Int):=by rw [IntKind.wrap_i64]; omega
  have hw2 : IntKind.i64.wrap (a : Int)=(a : Int):=by rw [IntKind.wrap_i64]; omega
  have hle2 : (a : Int)+32≤(cap : Int):=by omega
  have ha32 : (a : Int)≤(a : Int)+32:=by omega
  have hca : ¬ cap=a:=by omega
  have hta : ((a : Int)+32).toNat - a=32:=by omega
  have h6:=Az (u1:=.int .i64 ((a : Int)+32)) HD.out
  have k0:=rc (i:=0) h6 rfl
  have k1:=rc (i:=1) h6 rfl
  have hS2:=H2.out ((w.drew.setCell ⟨g,1,none⟩ (.int .i64 ((a : Int)+32))).drew) (C5 hlt (A7 (A7 (C0 _ _) (Ar _ g 1 _)) (C0 _ _)))
  have hcv:=run_str _ _ _ (Sl.cutAt (r:=a) (m:=32) hle (by omega) hS2)
  simp only [Option.map_some,Addr.add_lit] at hcv
  have hx : ((a : Int)+32 - 32)=(a : Int):=by omega
  clear hcl hs hS2 hr h3 hR
  go_enter Tryz.func58,Tryz.ntmps58
  go_wp2_with fail
  refine wp_region_held_drew (S:=fun W=>W.cell? ⟨g,0,none⟩=some (.slice (some ⟨b,off,none⟩) l.length cap)∧W.cell? ⟨g,1,none⟩=some (.int .i64 (a : Int))∧W.cell? ⟨g,2,none⟩=some (.bool false)) (by kernel_rfl) (⟨c0,c1,c2⟩) (fun hHeld=>?_)
  refine Aa 0 hHeld ?_
  refine Aa 1 hHeld ?_
  refine Aa 2 hHeld ?_
  refine Aa 3 hHeld ?_
  refine Aa 4 hHeld ?_
  refine Aa 5 hHeld ?_
  refine Aa 6 hHeld ?_
  refine Aa 7 hHeld ?_
  refine Aa 8 hHeld ?_
  refine Aa 9 hHeld ?_
  refine Aa 10 hHeld ?_
  refine Aa 11 hHeld ?_
  refine Aa 12 hHeld ?_
  refine Aa 13 hHeld ?_
  refine Aa 14 hHeld ?_
  refine Aa 15 hHeld ?_
  refine Aa 16 hHeld ?_
  refine wpAnyH_done (by kernel_rfl) ?_ _
  clear hHeld
  rw [show decide ((l.length : Int) - (a : Int)<32)=false from decide_eq_false (by omega)]
  go_wp2_with fail
  refine wp_region_held_drew (S:=fun W=>W.cell? ⟨g,0,none⟩=some (.slice (some ⟨b,off,none⟩) l.length cap)∧W.cell? ⟨g,1,none⟩=some (.int .i64 ((a : Int)+32))∧(convert 137 9 (.slice (some ⟨b,off+a,none⟩) 32 (cap - a))).run Tryz.prog W = .ok (.string (Ab ((l.drop a).take 32))) W) (by kernel_rfl) (⟨k0,k1,hcv⟩) (fun hHeld=>?_)
  refine Aa 0 hHeld ?_
  refine Aa 1 hHeld ?_
  refine Aa 2 hHeld ?_
  refine Aa 3 hHeld ?_
  refine Aa 4 hHeld ?_
  refine Aa 5 hHeld ?_
  refine Aa 6 hHeld ?_
  refine Aa 7 hHeld ?_
  refine Aa 8 hHeld ?_
  refine Aa 9 hHeld ?_
  refine Aa 10 hHeld ?_
  refine Aa 11 hHeld ?_
  refine Aa 12 hHeld ?_
  refine Aa 13 hHeld ?_
  refine Aa 14 hHeld ?_
  refine Aa 15 hHeld ?_
  refine wpAnyH_done (by kernel_rfl) ?_ _
  clear hHeld
  go_wp2
  go_ret
  have hg2 : w.grownBy ((w.drew.setCell ⟨g,1,none⟩ (.int .i64 ((a : Int)+32))).drew) (some g):=A7 (A7 (C0 _ _) (Ar _ g 1 _)) (C0 _ _)
  exact ⟨rfl,⟨_,_,h6,fun w' hu=>H2.out w' (D1 (C5 hlt hg2) hu),fun c hc=>by injection hc with hc; subst hc; exact ⟨by omega,hle⟩⟩,hg2⟩
 ·have hr : rD l s=([],none):=by
   cases s with
   | none=>rfl
   | some a=>simp only [rD]; rw [if_neg (fun h=>hc ⟨a,rfl,h⟩)]
  rw [hr]
  have h6:=F6 (u2:=.bool true) HD.out
  have hg2 : w.grownBy (w.drew.setCell ⟨g,2,none⟩ (.bool true)) (some g):=A7 (C0 _ _) (Ar _ g 2 _)
  clear hs hr q4 q3
  cases s with
  | none=>
   simp only [Option.isNone_none] at c2 d2
   go_enter Tryz.func58,Tryz.ntmps58
   go_wp2_with fail
   refine wp_region_held_drew (S:=fun W=>W.cell? ⟨g,0,none⟩=some (.slice ao l.length cap)∧W.cell? ⟨g,1,none⟩=some (.int .i64 p)∧W.cell? ⟨g,2,none⟩=some (.bool true)) (by kernel_rfl) (⟨c0,c1,c2⟩) (fun hHeld=>?_)
   refine Aa 0 hHeld ?_
   refine Aa 1 hHeld ?_
   refine Aa 2 hHeld ?_
   refine Aa 3 hHeld ?_
   refine Aa 4 hHeld ?_
   refine Ae 5 hHeld ?_
   refine Ae 6 hHeld ?_
   refine Ae 7 hHeld ?_
   refine Ae 8 hHeld ?_
   refine Ae 9 hHeld ?_
   refine Ae 10 hHeld ?_
   refine Ae 11 hHeld ?_
   refine Ae 12 hHeld ?_
   refine Ae 13 hHeld ?_
   refine Ae 14 hHeld ?_
   refine Ae 15 hHeld ?_
   refine Aa 16 hHeld ?_
   refine wpAnyH_done (by kernel_rfl) ?_ _
   clear hHeld
   go_wp2
   go_ret
   exact ⟨rfl,⟨_,_,h6,fun w' hu=>H2.out w' (D1 (C5 hlt hg2) hu),fun c hc=>by cases hc⟩,hg2⟩
  | some a=>
   obtain ⟨rfl,ha⟩:=h3 a rfl
   simp only [Option.isNone_some] at c2 d2
   have hlt' : (l.length : Int) - (a : Int)<32:=by
    have : ¬ (a+32≤l.length):=fun h=>hc ⟨a,rfl,h⟩
    omega
   have hwr : IntKind.i64.wrap ((l.length : Int) - (a : Int))=(l.length : Int) - (a : Int):=by rw [IntKind.wrap_i64]; omega
   clear hc h3 hR
   go_enter Tryz.func58,Tryz.ntmps58
   go_wp2_with fail
   refine wp_region_held_drew (S:=fun W=>W.cell? ⟨g,0,none⟩=some (.slice ao l.length cap)∧W.cell? ⟨g,1,none⟩=some (.int .i64 (a : Int))∧W.cell? ⟨g,2,none⟩=some (.bool false)) (by kernel_rfl) (⟨c0,c1,c2⟩) (fun hHeld=>?_)
   refine Aa 0 hHeld ?_
   refine Aa 1 hHeld ?_
   refine Aa 2 hHeld ?_
   refine Aa 3 hHeld ?_
   refine Aa 4 hHeld ?_
   refine Aa 5 hHeld ?_
   refine Aa 6 hHeld ?_
   refine Aa 7 hHeld ?_
   refine Aa 8 hHeld ?_
   refine Aa 9 hHeld ?_
   refine Aa 10 hHeld ?_
   refine Aa 11 hHeld ?_
   refine Aa 12 hHeld ?_
   refine Aa 13 hHeld ?_
   refine Aa 14 hHeld ?_
   refine Aa 15 hHeld ?_
   refine Aa 16 hHeld ?_
   refine wpAnyH_done (by kernel_rfl) ?_ _
   clear hHeld
   try rw [show decide ((l.length : Int) - (a : Int)<32)=true from decide_eq_true (by omega)]
   go_wp2
   go_ret
   exact ⟨rfl,⟨_,_,h6,fun w' hu=>H2.out w' (D1 (C5 hlt hg2) hu),fun c hc=>by cases hc⟩,hg2⟩
end Go.Proofs.YtckejblkppllaaaGreatDoor
