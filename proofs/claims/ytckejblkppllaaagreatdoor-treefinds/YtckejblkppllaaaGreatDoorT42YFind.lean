/-
  Find and List, by the program. Conditions: the get's objects lie there; lengths within reach.
-/
import Derived.Test.YtckejblkppllaaaGreatDoorT41ODoor
namespace Go.Proofs.YtckejblkppllaaaGreatDoor
open Go.RowKit
theorem goE_err {fd : Bs→Option Bs} : ∀ (ns : List Bs) (x : Ent),(goE fd ns x).1≠0→(goE fd ns x).2=zEnt
 | [],x,h=>absurd rfl h
 | n :: ns,x,h=>by
  rw [goE] at h ⊢
  split
  ·rfl
  ·rename_i h1
   rw [if_neg h1] at h
   exact goE_err ns _ h
theorem seekE_err {fd : Bs→Option Bs} {root at_ : Bs} (h : (Cp fd root at_).1≠0) : (Cp fd root at_).2=zEnt:=by
 unfold Cp at h ⊢
 split
 ·rfl
 ·rename_i h1
  rw [if_neg h1] at h
  exact goE_err _ _ h
set_option maxRecDepth 20000 in
set_option maxHeartbeats 1600000 in
theorem M8 (w : World) (B c : Nat) (v : Value) (objs : List Ag) (hG : Gf B w c v objs) (hB : B≤w.heap.size) (root at_ : Bs) (hr : root.length≤140737488355328) (ha : at_.length≤4611686018427387000) :
  Calls Tryz.prog 9 #[Cf c, .string (Ab root), .string (Ab at_)] w fun e w'=>e = .returned (.tuple #[E0 (Cp (Aj objs) root at_).2, .int .i64 (Cp (Aj objs) root at_).1])∧Below w.heap.size w w':=by
 have hb0 : Below w.heap.size w (w.alloc (.cells #[.string ⟨#[]⟩, .int .i64 0, .string ⟨#[]⟩, .int .i64 0] 27)):=(Below.refl _ _).alloc (Nat.le_refl _) _
 have hx0:=heap_last w (.cells #[.string ⟨#[]⟩, .int .i64 0, .string ⟨#[]⟩, .int .i64 0] 27) _ rfl
 have hs0 : (w.alloc (.cells #[.string ⟨#[]⟩, .int .i64 0, .string ⟨#[]⟩, .int .i64 0] 27)).heap.size=w.heap.size+1:=by simp
 have hgo:=goTo_any (w.alloc (.cells #[.string ⟨#[]⟩, .int .i64 0, .string ⟨#[]⟩, .int .i64 0] 27)) B c v objs (hG.below (hb0.mono hB)) (by omega) root at_ hr ha
 generalize hw0 : w.alloc (.cells #[.string ⟨#[]⟩, .int .i64 0, .string ⟨#[]⟩, .int .i64 0] 27)=w0 at *
 have herr:=seekE_err (fd:=Aj objs) (root:=root) (at_:=at_)
 generalize Cp (Aj objs) root at_=R at *
 have HX:=Ac (And.intro hb0 (And.intro hx0 hs0))
 clear hb0 hx0 hs0 hG
 unfold goToP at hgo
 by_cases her : R.1≠0
 ·simp only [if_pos her] at hgo
  have q1 : (R.1 != 0)=true:=by simpa using her
  have hz:=herr her
  obtain ⟨re,rx⟩:=R
  simp only at hz hgo q1
  subst hz
  clear her herr
  go_enter Tryz.func9,Tryz.ntmps9
  go_wp2_with fail
  try rw [hw0]
  go_wp2_with fail
  refine hgo.mono ?_
  rintro e w1 ⟨rfl,hb1⟩
  have x1:=(hb1.block _ (Ad HX.out.2.1)).trans HX.out.2.1
  have H0:=Cv (.string ⟨#[]⟩) (.int .i64 0) (.string ⟨#[]⟩) (.int .i64 0) x1 (HX.out.1.trans (hb1.mono HX.out.1.size)) (Nat.le_refl _)
  have n0:=rc (i:=0) x1 rfl
  have f0:=Af (j:=0) x1
  have n1:=rc (i:=1) x1 rfl
  have f1:=Af (j:=1) x1
  have n2:=rc (i:=2) x1 rfl
  have f2:=Af (j:=2) x1
  have n3:=rc (i:=3) x1 rfl
  have f3:=Af (j:=3) x1
  have HH:=Ac H0
  clear hgo hb1 x1 H0
  go_wp2
  exact bodyPost_ret (Aq rfl _ _ _ _ _ _ _ rfl HH.out.1 Tryz.underlying27 rfl Tryz.infoEntry) rfl ⟨rfl,HH.out.2⟩
 ·simp only [if_neg her] at hgo
  obtain ⟨re,rx⟩:=R
  obtain rfl : re=0:=by simpa using her
  simp only at hgo
  clear her herr
  go_enter Tryz.func9,Tryz.ntmps9
  go_wp2_with fail
  try rw [hw0]
  go_wp2_with fail
  refine hgo.mono ?_
  rintro e w1 ⟨⟨k,up,rfl,hpl,-⟩,hb1⟩
  have x1:=(hb1.block _ (Ad HX.out.2.1)).trans HX.out.2.1
  unfold Em at hpl
  have p0:=rc (i:=0) hpl rfl
  have p1:=rc (i:=1) hpl rfl
  have p2:=rc (i:=2) hpl rfl
  have p3:=rc (i:=3) hpl rfl
  have H0:=Cv (.string (Ab rx.1)) (.int .i64 rx.2.1) (.string (Ab rx.2.2.1)) (.int .i64 rx.2.2.2) x1 (HX.out.1.trans (hb1.mono HX.out.1.size)) (Nat.le_refl _)
  have n0:=rc (i:=0) x1 rfl
  have f0:=Af (j:=0) x1
  have n1:=rc (i:=1) x1 rfl
  have f1:=Af (j:=1) x1
  have n2:=rc (i:=2) x1 rfl
  have f2:=Af (j:=2) x1
  have n3:=rc (i:=3) x1 rfl
  have f3:=Af (j:=3) x1
  have HH:=Ac H0
  clear hgo hb1 x1 H0 hpl
  go_wp2
  exact bodyPost_ret (Aq rfl _ _ _ _ _ _ _ rfl HH.out.1 Tryz.underlying27 rfl Tryz.infoEntry) rfl ⟨rfl,HH.out.2⟩
set_option maxRecDepth 20000 in
set_option maxHeartbeats 1600000 in
theorem list16_any (w : World) (B c : Nat) (v : Value) (objs : List Ag) (hG : Gf B w c v objs) (hB : B≤w.heap.size) (root at_ : Bs) (hr : root.length≤140737488355328) (ha : at_.length≤4611686018427387000) :
  Calls Tryz.prog 11 #[Cf c, .string (Ab root), .string (Ab at_)] w fun e w'=>∃ ve,e = .returned (.tuple #[ve, .int .i64 (listE (Aj objs) root at_).1])∧Rw w.heap.size w' 27 4 Dk ve (listE (Aj objs) root at_).2∧Below w.heap.size w w':=by
 have hb0 : Below w.heap.size w (w.alloc (.cells #[Cf c] 71)):=(Below.refl _ _).alloc (Nat.le_refl _) _
 have hx0:=heap_last w (.cells #[Cf c] 71) _ rfl
 have hs0 : (w.alloc (.cells #[Cf c] 71)).heap.size=w.heap.size+1:=by simp
 have hgo:=goTo_any (w.alloc (.cells #[Cf c] 71)) B c v objs (hG.below (hb0.mono hB)) (by omega) root at_ hr ha
 generalize hw0 : w.alloc (.cells #[Cf c] 71)=w0 at *
 have c0:=rc (i:=0) hx0 rfl
 unfold listE
 generalize Cp (Aj objs) root at_=R at *
 have HX:=Ac (And.intro hb0 (And.intro hx0 (And.intro hs0 hG)))
 clear hb0 hx0 hs0 hG
 unfold goToP at hgo
 by_cases her : R.1≠0
 ·simp only [if_pos her] at hgo
  rw [if_pos her]
  have q1 : (R.1 != 0)=true:=by simpa using her
  clear her
  go_enter Tryz.func11,Tryz.ntmps11
  go_wp2_with fail
  try rw [hw0]
  go_wp2_with fail
  refine hgo.mono ?_
  rintro e w1 ⟨rfl,hb1⟩
  have HF:=Ac (HX.out.1.trans (hb1.mono HX.out.1.size))
  clear hgo hb1 c0
  go_wp2
  go_ret2
  exact ⟨_,rfl,World.ownsRow_nil _ _ _ _,HF.out⟩
 ·simp only [if_neg her] at hgo
  rw [if_neg her]
  clear her
  by_cases hk : R.2.2.1≠2
  ·rw [if_pos hk]
   have q0 : (R.2.2.1 != 2)=true:=by simpa using hk
   clear hk
   go_enter Tryz.func11,Tryz.ntmps11
   go_wp2_with fail
   try rw [hw0]
   go_wp2_with fail
   refine hgo.mono ?_
   rintro e w1 ⟨⟨k,up,rfl,hpl,-⟩,hb1⟩
   unfold Em at hpl
   have p1:=rc (i:=1) hpl rfl
   have HF:=Ac (HX.out.1.trans (hb1.mono HX.out.1.size))
   clear hgo hb1 c0 hpl
   go_wp2
   go_ret2
   exact ⟨_,rfl,World.ownsRow_nil _ _ _ _,HF.out⟩
  ·rw [if_neg hk]
   have q0 : (R.2.2.1 != 2)=false:=by simpa using hk
   clear hk
   go_enter Tryz.func11,Tryz.ntmps11
   go_wp2_with fail
   try rw [hw0]
   go_wp2_with fail
   refine hgo.mono ?_
   rintro e w1 ⟨⟨k,up,rfl,hpl,-⟩,hb1⟩
   have x1:=(hb1.block _ (Ad HX.out.2.1)).trans HX.out.2.1
   have hB1:=HX.out.1.trans (hb1.mono HX.out.1.size)
   have hen:=tents_any w1.drew B c v objs (HX.out.2.2.2.below ((hB1.mono hB).drew)) (show B≤w1.heap.size from Nat.le_trans hB hB1.size) R.2
   have HP:=Ac (And.intro x1 hpl)
   unfold Em at hpl
   have r0:=rc (i:=0) x1 rfl
   have p0:=rc (i:=0) hpl rfl
   have p1:=rc (i:=1) hpl rfl
   have p2:=rc (i:=2) hpl rfl
   have p3:=rc (i:=3) hpl rfl
   have HB:=Ac hB1
   clear hgo hb1 c0 hpl x1 hB1
   go_wp2_with fail
   refine wp_region_held_drew (S:=fun W=>W.cell? ⟨w.heap.size,0,none⟩=some (Cf c)∧W.cell? ⟨k,0,none⟩=some (.string (Ab R.2.1))∧W.cell? ⟨k,1,none⟩=some (.int .i64 R.2.2.1)∧W.cell? ⟨k,2,none⟩=some (.string (Ab R.2.2.2.1))∧W.cell? ⟨k,3,none⟩=some (.int .i64 R.2.2.2.2)) (by kernel_rfl) (⟨r0,p0,p1,p2,p3⟩) (fun hHeld=>?_)
   refine Aa 0 hHeld ?_
   refine Aa 1 hHeld ?_
   refine Aa 2 hHeld ?_
   refine Aa 3 hHeld ?_
   refine Aa 4 hHeld ?_
   refine Ai (i:=5) rfl (by kernel_rfl) rfl (fun K hK=>?_)
   go_simp
   refine hen.mono ?_
   rintro e w4 ⟨ve,rfl,hrow,hb4⟩
   have hb4' : Below w1.heap.size w1 w4:=(Below.refl _ _).drew.trans hb4
   have a1:=(hb4'.block _ (Ad HP.out.1)).trans HP.out.1
   have a2:=(hb4'.block _ (Ad HP.out.2)).trans HP.out.2
   refine hK.out _ _ (⟨rc (i:=0) a1 rfl,rc (i:=0) a2 rfl,rc (i:=1) a2 rfl,rc (i:=2) a2 rfl,rc (i:=3) a2 rfl⟩) (fun hHeld=>?_)
   clear hK K
   try simp only [Act.put,List.setIfInBounds_toArray,List.set_cons_zero,List.set_cons_succ]
   refine Aa 6 hHeld ?_
   refine Aa 7 hHeld ?_
   refine Aa 8 hHeld ?_
   refine Aa 9 hHeld ?_
   refine wpAnyH_done (by kernel_rfl) ?_ _
   obtain ⟨va,vm,vc,rfl⟩:=Av hrow
   have HF:=Ac (And.intro (Dh hrow (show w.heap.size≤w1.heap.size from HB.out.size)) (HB.out.trans (hb4'.mono HB.out.size)))
   clear hen hrow hb4 hb4' a1 a2 hHeld r0 p0 p1 p2 p3
   go_wp2
   go_ret2
   exact ⟨_,rfl,HF.out.1,HF.out.2⟩
end Go.Proofs.YtckejblkppllaaaGreatDoor
