/-
  Texts joined: Rename, RenameOk, Forget, DirRep, DirEnd, KeepDir, MClone.
-/
import Derived.Test.YtblniomnhpedjaaGreatDoorP8Sync
import Derived.Shelf.SlMaps.Clone
namespace Go.Proofs.YtblniomnhpedjaaGreatDoor
open Go.RowKit
section
variable {w w' : World} {F : Nat→Prop} {d : Nat} {S : Dk} {G : Gh}
def C4 (w : World) (a b : Nm) : World:=(w.alloc (.cells #[.string (Ae a)] 9)).alloc (.cells #[.string (Ae b)] 9)
theorem Ej (w : World) (a b : Nm) : Chg (fun _=>False) w (C4 w a b):=((Chg.refl _ w).alloc _).alloc _
theorem Mh (w : World) (a b : Nm) : (C4 w a b).heap.size=w.heap.size+2:=by simp [C4]
theorem J5 (w : World) (a b : Nm) : (C4 w a b).heap[w.heap.size]? = some (.cells #[.string (Ae a)] 9):=Bh _ (Au w _)
theorem Ix (w : World) (a b : Nm) : (C4 w a b).heap[w.heap.size+1]? = some (.cells #[.string (Ae b)] 9):=by
 have:=Au (w.alloc (.cells #[.string (Ae a)] 9)) (.cells #[.string (Ae b)] 9)
 rw [show (w.alloc (.cells #[.string (Ae a)] 9)).heap.size=w.heap.size+1 by simp] at this
 exact this
theorem I5 {w w1 : World} {a b : Nm} (_hs : (C4 w a b).heap.size≤w1.heap.size) : ∀ k,Fx F (C4 w a b) w1 k→Fx F w w1 k:=fun k hk=>by
 rcases hk with hk | ⟨x,y⟩
 ·exact Or.inl hk
 ·exact Or.inr ⟨by rw [Mh] at x; omega,y⟩
set_option maxRecDepth 20000 in
theorem rename_off (h : Rep w F d S G) (hon : S.on=false) (a b : Nm) : Calls Tryz.prog 122 #[.pointer (some ⟨d,0,none⟩), .string (Ae a), .string (Ae b)] w fun e w'=>e = .returned (.int .i64 35) ∧
  ∃ G',Rep w' (Fx F w w') d S G'∧Chg F w w':=by
 have hbeg:=Jz (h.keep (Ej w a b) (fun _ _ h=>h) (fun _ h=>h)) hon
 have hB:=Ej w a b
 have hsz:=Mh w a b
 unfold C4 at hbeg hB hsz
 go_enter Tryz.func122,Tryz.ntmps122
 go_wp2_with (go_at_call 140; refine hbeg.mono ?_; rintro e w1 ⟨rfl,hr1,hc1⟩)
 go_ret
 exact ⟨rfl,G,hr1.mono fun k hk=>Or.inl hk,(hB.then hc1).mono fun _ _ f=>f.elim⟩
set_option maxRecDepth 20000 in
theorem rename_name (h : Rep w F d S G) (hlow : ∀ k,F k→k<w.heap.size) (hon : S.on=true) (hb : S.n<4611686018427387904) (a b : Nm) (hn : Ap a=false∨Ap b=false) : Calls Tryz.prog 122 #[.pointer (some ⟨d,0,none⟩), .string (Ae a), .string (Ae b)] w fun e w'=>e = .returned (.int .i64 30) ∧
  ∃ G',Rep w' (Fx F w w') d S.next G'∧Chg F w w':=by
 have hbeg:=Dn (h.keep (Ej w a b) (fun _ _ h=>h) (fun _ h=>h)) hon hb
 have hB:=Ej w a b
 have ha:=J5 w a b
 have hb':=Ix w a b
 have HFX : Hid (∀ w1 : World,(C4 w a b).heap.size≤w1.heap.size→∀ k,Fx F (C4 w a b) w1 k→Fx F w w1 k):=Ab fun w1=>I5
 unfold C4 at hbeg hB ha hb' HFX
 rcases Bool.eq_false_or_eq_true (Ap a) with h1 | h1 <;> rcases Bool.eq_false_or_eq_true (Ap b) with h2 | h2
 ·rw [h1,h2] at hn
  rcases hn with hn | hn <;> cases hn
 all_goals
  go_enter Tryz.func122,Tryz.ntmps122
  go_wp2_with (first
   | (go_at_call 140; refine hbeg.mono ?_; rintro e w1 ⟨rfl,now,sure,hne,hr1,hc1⟩; have xa:=Ad (hc1.keep ha (fun hF=>Nat.lt_irrefl _ (hlow _ hF))) 0; have xb:=Ad (hc1.keep hb' (fun hF=>by have:=hlow _ hF; omega)) 0)
   | (go_at_call 141; refine (Dr _ _).mono ?_; rintro e w2 ⟨rfl,hw2⟩; subst hw2))
  go_ret
  exact ⟨rfl,_,hr1.mono (HFX.out w2 hc1.size),(hB.mono fun _ _ f=>f.elim).then hc1⟩
set_option maxRecDepth 20000 in
theorem rename_none (h : Rep w F d S G) (hlow : ∀ k,F k→k<w.heap.size) (hon : S.on=true) (hb : S.n<4611686018427387904) (a b : Nm) (h1 : Ap a=true) (h2 : Ap b=true) (hl : look S.dir a=none) : Calls Tryz.prog 122 #[.pointer (some ⟨d,0,none⟩), .string (Ae a), .string (Ae b)] w fun e w'=>e = .returned (.int .i64 32) ∧
  ∃ G',Rep w' (Fx F w w') d S.next G'∧Chg F w w':=by
 have hbeg:=Dn (h.keep (Ej w a b) (fun _ _ h=>h) (fun _ h=>h)) hon hb
 have hB:=Ej w a b
 have ha:=J5 w a b
 have hb':=Ix w a b
 have HFX : Hid (∀ w1 : World,(C4 w a b).heap.size≤w1.heap.size→∀ k,Fx F (C4 w a b) w1 k→Fx F w w1 k):=Ab fun w1=>I5
 unfold C4 at hbeg hB ha hb' HFX
 go_enter Tryz.func122,Tryz.ntmps122
 go_wp2_with (first
  | (go_at_call 140; refine hbeg.mono ?_; rintro e w1 ⟨rfl,now,sure,hne,hr1,hc1⟩; have xa:=Ad (hc1.keep ha (fun hF=>Nat.lt_irrefl _ (hlow _ hF))) 0; have xb:=Ad (hc1.keep hb' (fun hF=>by have:=hlow _ hF; omega)) 0)
  | (go_at_call 141; refine (Dr _ _).mono ?_; rintro e w2 ⟨rfl,hw2⟩; subst hw2))
 obtain ⟨bn,rfl⟩:=Option.ne_none_iff_exists'.1 hne
 have hr2:=hr1.keep ((Chg.refl (fun _=>False) w2).drew) (fun _ _ h=>h) (fun _ h=>h)
 have hd1:=hr2.disk
 rw [Db] at hd1
 have x2:=Ad hd1 2
 have hlk:=Eb hr2 rfl a
 rw [show look S.next.dir a=none from hl] at hlk
 have HR2:=Ab (hr2.mono (HFX.out w2 hc1.size))
 have HC2:=Ab ((hB.mono fun _ _ f=>f.elim).then hc1).drew
 clear hr1 hc1 hd1 hr2
 refine wp_region_held_drew (S:=fun W=>W.cell? ⟨d,2,none⟩=some (.map (some bn))∧W.cell? ⟨w.heap.size,0,none⟩=some (.string (Ae a))∧(Instr.lookup 85 (.map (some bn)) (.string (Ae a)) false).run Tryz.prog W = .ok (.pointer none) W) (by kernel_rfl) (⟨x2,xa,hlk⟩) (fun hHeld=>?_)
 refine Aa 0 hHeld ?_
 refine Aa 1 hHeld ?_
 refine Aa 2 hHeld ?_
 refine Aa 3 hHeld ?_
 refine Aa 4 hHeld ?_
 refine Aa 5 hHeld ?_
 refine Aa 6 hHeld ?_
 refine Aa 7 hHeld ?_
 refine wpAnyH_done (by kernel_rfl) ?_ _
 clear hHeld
 go_wp2
 go_ret
 exact ⟨rfl,⟨_,HR2.out⟩,HC2.out⟩
set_option maxRecDepth 20000 in
theorem rename_io (h : Rep w F d S G) (hlow : ∀ k,F k→k<w.heap.size) (hon : S.on=true) (hb : S.n<4611686018427387904) (a b : Nm) (h1 : Ap a=true) (h2 : Ap b=true) {f : Nat} (hl : look S.dir a=some f) (r : Int)
  (hr : S.fails S.n=true∧r=34∨S.fails S.n=false∧a=b∧r=0) : Calls Tryz.prog 122 #[.pointer (some ⟨d,0,none⟩), .string (Ae a), .string (Ae b)] w fun e w'=>e = .returned (.int .i64 r) ∧
  ∃ G',Rep w' (Fx F w w') d S.next G'∧Chg F w w':=by
 have hbeg:=Dn (h.keep (Ej w a b) (fun _ _ h=>h) (fun _ h=>h)) hon hb
 have hB:=Ej w a b
 have ha:=J5 w a b
 have hb':=Ix w a b
 have HFX : Hid (∀ w1 : World,(C4 w a b).heap.size≤w1.heap.size→∀ k,Fx F (C4 w a b) w1 k→Fx F w w1 k):=Ab fun w1=>I5
 unfold C4 at hbeg hB ha hb' HFX
 rcases hr with ⟨hf,rfl⟩ | ⟨hf,rfl,rfl⟩
 all_goals
  rw [hf] at hbeg
  go_enter Tryz.func122,Tryz.ntmps122
  go_wp2_with (first
   | (go_at_call 140; refine hbeg.mono ?_; rintro e w1 ⟨rfl,now,sure,hne,hr1,hc1⟩; have xa:=Ad (hc1.keep ha (fun hF=>Nat.lt_irrefl _ (hlow _ hF))) 0; have xb:=Ad (hc1.keep hb' (fun hF=>by have:=hlow _ hF; omega)) 0)
   | (go_at_call 141; refine (Dr _ _).mono ?_; rintro e w2 ⟨rfl,hw2⟩; subst hw2))
  obtain ⟨bn,rfl⟩:=Option.ne_none_iff_exists'.1 hne
  have hr2:=hr1.keep ((Chg.refl (fun _=>False) w2).drew) (fun _ _ h=>h) (fun _ h=>h)
  have hd1:=hr2.disk
  rw [Db] at hd1
  have x2:=Ad hd1 2
  have hlk:=Eb hr2 rfl a
  rw [show look S.next.dir a=some f from hl] at hlk
  have HR2:=Ab (hr2.mono (HFX.out w2 hc1.size))
  have HC2:=Ab ((hB.mono fun _ _ f=>f.elim).then hc1).drew
  clear hr1 hc1 hd1 hr2
  refine wp_region_held_drew (S:=fun W=>W.cell? ⟨d,2,none⟩=some (.map (some bn))∧W.cell? ⟨w.heap.size,0,none⟩=some (.string (Ae a))∧(Instr.lookup 85 (.map (some bn)) (.string (Ae a)) false).run Tryz.prog W = .ok (.pointer (some ⟨G.fb f,0,none⟩)) W) (by kernel_rfl) (⟨x2,xa,hlk⟩) (fun hHeld=>?_)
  refine Aa 0 hHeld ?_
  refine Aa 1 hHeld ?_
  refine Aa 2 hHeld ?_
  refine Aa 3 hHeld ?_
  refine Aa 4 hHeld ?_
  refine Aa 5 hHeld ?_
  refine Aa 6 hHeld ?_
  refine Aa 7 hHeld ?_
  refine wpAnyH_done (by kernel_rfl) ?_ _
  clear hHeld
  go_wp2
  go_ret
  exact ⟨rfl,⟨_,HR2.out⟩,HC2.out⟩
end
end Go.Proofs.YtblniomnhpedjaaGreatDoor
namespace Go.Proofs.YtblniomnhpedjaaGreatDoor
open Go.RowKit
section
variable {w w' : World} {F : Nat→Prop} {d : Nat} {S : Dk} {G : Gh}
theorem strB_ne {a b : Nm} (h : a≠b) : ((Ae a).toList == (Ae b).toList)=false:=by
 rw [ByteArray.toList_eq,ByteArray.toList_eq,Dg,Dg,beq_eq_false_iff_ne]
 exact h
theorem gone_ren (l : Dir) (a b : Nm) : B5 l (.ren a b)=look l b:=rfl
set_option maxRecDepth 20000 in
set_option maxHeartbeats 1600000 in
theorem rename_ok (h : Rep w F d S G) (hlow : ∀ k,F k→k<w.heap.size) (hon : S.on=true) (hb : S.bulk+1<1099511627776) (a b : Nm) (h1 : Ap a=true) (h2 : Ap b=true) {f : Nat} (hl : look S.dir a=some f)
  (hf : S.fails S.n=false) (hab : a≠b) : Calls Tryz.prog 122 #[.pointer (some ⟨d,0,none⟩), .string (Ae a), .string (Ae b)] w fun e w'=>e = .returned (.int .i64 0) ∧
  ∃ G',Rep w' (Fx F w w') d (S.next.act (.ren a b)) G'∧Chg F w w':=by
 have hmf : ∀ (fn : Fn) (first cap : Array Value) (w : World),(Instr.makeFunc fn first cap).run Tryz.prog w = .ok (.func fn first cap) w:=fun _ _ _ _=>rfl
 have hnl:=n_le S
 have hbeg:=Dn (h.keep (Ej w a b) (fun _ _ h=>h) (fun _ h=>h)) hon (by omega)
 have hB:=Ej w a b
 have ha:=J5 w a b
 have hb':=Ix w a b
 have hbs:=Mh w a b
 have HFX : Hid (∀ w1 : World,(C4 w a b).heap.size≤w1.heap.size→∀ k,Fx F (C4 w a b) w1 k→Fx F w w1 k):=Ab fun w1=>I5
 unfold C4 at hbeg hB ha hb' HFX hbs
 have hne1:=strB_ne hab
 have hla:=(Hr h1).2
 have hlb:=(Hr h2).2
 have hbb : S.next.bulk≤S.bulk+1:=by
  have e : S.begun=S.next:=by unfold Dk.begun; rw [hon]; rfl
  have:=M9 S
  rwa [e] at this
 rw [hf] at hbeg
 go_enter Tryz.func122,Tryz.ntmps122
 go_wp2_with (first
  | (go_at_call 140; refine hbeg.mono ?_; rintro e w1 ⟨rfl,now,sure,hne,hr1,hc1⟩; have xa:=Ad (hc1.keep ha (fun hF=>Nat.lt_irrefl _ (hlow _ hF))) 0; have xb:=Ad (hc1.keep hb' (fun hF=>by have:=hlow _ hF; omega)) 0)
  | (go_at_call 141; refine (Dr _ _).mono ?_; rintro e w2 ⟨rfl,hw2⟩; subst hw2))
 obtain ⟨bn,rfl⟩:=Option.ne_none_iff_exists'.1 hne
 have hr2:=hr1.keep ((Chg.refl (fun _=>False) w2).drew) (fun _ _ h=>h) (fun _ h=>h)
 have hc2:=hc1.drew
 have ya : w2.drew.heap[w.heap.size]? = _:=hc2.keep ha (fun hF=>Nat.lt_irrefl _ (hlow _ hF))
 have yb : w2.drew.heap[w.heap.size+1]? = _:=hc2.keep hb' (fun hF=>by have:=hlow _ hF; omega)
 have hd1:=hr2.disk
 rw [Db] at hd1
 have x2:=Ad hd1 2
 have hlk:=Eb hr2 rfl a
 rw [show look S.next.dir a=some f from hl] at hlk
 have HR2 : Hid (Rep w2.drew (Fx F w w2.drew) d S.next { G with now:=some bn,sure:=sure }):=Ab (hr2.mono (HFX.out w2 hc1.size))
 have HC2:=Ab ((hB.mono fun _ _ f=>f.elim).then hc2)
 have hws : w.heap.size+2≤w2.drew.heap.size:=by
  have:=hc2.size
  rw [hbs] at this
  exact this
 clear hr1 hc1 hd1 hr2 hc2
 refine wp_region_held_drew (S:=fun W=>W.cell? ⟨d,2,none⟩=some (.map (some bn))∧W.cell? ⟨w.heap.size,0,none⟩=some (.string (Ae a))∧(Instr.lookup 85 (.map (some bn)) (.string (Ae a)) false).run Tryz.prog W = .ok (.pointer (some ⟨G.fb f,0,none⟩)) W) (by kernel_rfl) (⟨x2,xa,hlk⟩) (fun hHeld=>?_)
 refine Aa 0 hHeld ?_
 refine Aa 1 hHeld ?_
 refine Aa 2 hHeld ?_
 refine Aa 3 hHeld ?_
 refine Aa 4 hHeld ?_
 refine Aa 5 hHeld ?_
 refine Aa 6 hHeld ?_
 refine Aa 7 hHeld ?_
 refine wpAnyH_done (by kernel_rfl) ?_ _
 clear hHeld hlk
 have xa2 : w2.drew.cell? ⟨w.heap.size,0,none⟩=some (.string (Ae a)):=xa
 have xb2 : w2.drew.cell? ⟨w.heap.size+1,0,none⟩=some (.string (Ae b)):=xb
 clear xa xb
 have HW:=Ab hws
 clear hws
 generalize w2.drew=w3 at *
 go_wp2_with fail
 have hr4:=HR2.out.keep ((Chg.refl (fun _=>False) w3).drew) (fun _ _ h=>h) (fun _ h=>h)
 have HC4:=Ab HC2.out.drew
 have ya4 : w3.drew.heap[w.heap.size]? = _:=ya
 have yb4 : w3.drew.heap[w.heap.size+1]? = _:=yb
 have xb4 : w3.drew.cell? ⟨w.heap.size+1,0,none⟩=some (.string (Ae b)):=xb2
 have x24 : w3.drew.cell? ⟨d,2,none⟩=some (.map (some bn)):=x2
 have hlk:=Eb hr4 rfl b
 have HR4 : Hid (Rep w3.drew (Fx F w w3.drew) d S.next { G with now:=some bn,sure:=sure }):=Ab hr4
 have HW4 : Hid (w.heap.size+2≤w3.drew.heap.size):=Ab HW.out
 clear hr4 HR2 HC2 ya yb xa2 xb2 x2 HW hbeg hne
 refine wp_region_held_drew (S:=fun W=>W.cell? ⟨d,2,none⟩=some (.map (some bn))∧W.cell? ⟨w.heap.size+1,0,none⟩=some (.string (Ae b))∧(Instr.lookup 85 (.map (some bn)) (.string (Ae b)) false).run Tryz.prog W = .ok (pv G.fb (look S.next.dir b)) W) (by kernel_rfl) (⟨x24,xb4,hlk⟩) (fun hHeld=>?_)
 refine Aa 0 hHeld ?_
 refine Aa 1 hHeld ?_
 refine Aa 2 hHeld ?_
 refine Aa 3 hHeld ?_
 refine Aa 4 hHeld ?_
 refine Aa 5 hHeld ?_
 refine Aa 6 hHeld ?_
 refine wpAnyH_done (by kernel_rfl) ?_ _
 clear hHeld hlk
 generalize w3.drew=w4 at *
 clear w2 w3
 obtain ⟨G',hG'⟩ : ∃ G',G' = { G with now:=some bn,sure:=sure }:=⟨_,rfl⟩
 have hfb : G'.fb=G.fb:=by rw [hG']
 have hbn : G'.now=some bn:=by rw [hG']
 rw [← hG'] at HR4
 rw [← hfb]
 clear hG' hfb
 have hl1 : look S.next.dir a≠none:=by
  show look S.dir a≠none
  rw [hl]
  simp
 have hga:=gone_ren S.next.dir a b
 rcases hgo : look S.next.dir b with _ | g
 have hpv : pv G'.fb none = .pointer none:=rfl
 rw [hpv]
 rw [hgo] at hga
 have HGA:=Ab hga
 have HGO:=Ab hgo
 clear hga hgo
 focus
  go_wp2_with fail
 have hga:=HGA.out
 obtain ⟨w5,hw5⟩ : ∃ w5,w5=w4:=⟨_,rfl⟩
 have ya5:=ya4
 have yb5:=yb4
 have HD5 : Hid (w4.heap[d]? = some (.cells #[.int .i64 (S.next.room : Int), .int .i64 ((S.next.used : Int) - (((B5 S.next.dir (.ren a b)).map (Az S.next.files)).getD 0 : Nat)), .map (some bn), .map G'.sure,G'.lv, .int .i64 (S.next.n : Int), .bool S.next.cut.isSome, .int .i64 G'.cv, .map G'.fls] 89)):=Ab (by
  rw [hga,← hbn]
  have:=HR4.out.disk
  unfold B9 at this
  rw [this]
  simp)
 have HG5 : Hid (∀ g,B5 S.next.dir (.ren a b)=some g→w4.heap[G'.fb g]? = some (.cells #[G'.rv g,G'.sv g, .bool false] 118)):=Ab (fun g' hg'=>by
  rw [hga] at hg'
  cases hg')
 have HC5 : Hid (Chg (fun k=>k=d ∨ ∃ g,B5 S.next.dir (.ren a b)=some g∧k=G'.fb g) w4 w4):=Ab (Chg.refl _ _)
 rw [← hw5] at ya5 yb5 HD5 HG5 ⊢
 rw [show Chg (fun k=>k=d ∨ ∃ g,B5 S.next.dir (.ren a b)=some g∧k=G'.fb g) w4 w4=Chg (fun k=>k=d ∨ ∃ g,B5 S.next.dir (.ren a b)=some g∧k=G'.fb g) w4 w5 by rw [hw5]] at HC5
 clear hw5
 rotate_left
 have hpv : pv G'.fb (some g) = .pointer (some ⟨G'.fb g,0,none⟩):=rfl
 rw [hpv]
 have hun:=O3 HR4.out (by omega) (Dq hgo)
 rw [hgo] at hga
 go_wp2_with (go_at_call 146; refine hun.mono ?_; rintro e w5 ⟨rfl,u1,u2,u3⟩)
 have hX : ∀ k x,w4.heap[k]? = some (Obj.cells #[x] 9)→¬ (k=d∨k=G'.fb g):=fun k x hk e=>by
  rcases e with e | e
  ·exact Ax hk HR4.out.disk (show 9≠89 by decide) e
  ·exact Ax hk (HR4.out.files g (Or.inl (Dx HR4.out.ok (Dq hgo)))).2 (show 9≠118 by decide) e
 have ya5:=u3.keep ya4 (hX _ _ ya4)
 have yb5:=u3.keep yb4 (hX _ _ yb4)
 have HD5 : Hid (w5.heap[d]? = some (.cells #[.int .i64 (S.next.room : Int), .int .i64 ((S.next.used : Int) - (((B5 S.next.dir (.ren a b)).map (Az S.next.files)).getD 0 : Nat)), .map (some bn), .map G'.sure,G'.lv, .int .i64 (S.next.n : Int), .bool S.next.cut.isSome, .int .i64 G'.cv, .map G'.fls] 89)):=Ab (by rw [hga,← hbn]; exact u1)
 have HG5 : Hid (∀ g,B5 S.next.dir (.ren a b)=some g→w5.heap[G'.fb g]? = some (.cells #[G'.rv g,G'.sv g, .bool false] 118)):=Ab (fun g' hg'=>by
  rw [hga] at hg'
  injection hg' with hg'
  subst hg'
  exact u2)
 have HC5 : Hid (Chg (fun k=>k=d ∨ ∃ g,B5 S.next.dir (.ren a b)=some g∧k=G'.fb g) w4 w5):=Ab (u3.mono fun k _ e=>e.elim Or.inl fun e=>Or.inr ⟨g,hga,e⟩)
 clear u1 u2 u3 hX
 all_goals
  have HA4:=Ab ya4
  have HB4:=Ab yb4
  clear ya4 yb4 xb4 x24
  have za5 : w5.drew.heap[w.heap.size]? = _:=ya5
  have zb5 : w5.drew.heap[w.heap.size+1]? = _:=yb5
  refine wp_region_held_drew (S:=fun W=>W.cell? ⟨w.heap.size,0,none⟩=some (.string (Ae a))∧W.cell? ⟨w.heap.size+1,0,none⟩=some (.string (Ae b))) (by kernel_rfl) (⟨Ad za5 0,Ad zb5 0⟩) (fun hHeld=>?_)
  refine Aa 0 hHeld ?_
  refine Aa 2 hHeld ?_
  refine Al (i:=1) rfl (by kernel_rfl) rfl (fun K hK=>?_)
  go_simp
  refine (E9 _ a (by omega)).mono ?_
  rintro e w6 ⟨rfl,hb6⟩
  have ya6:=(hb6.block w.heap.size (At za5)).trans za5
  have yb6:=(hb6.block (w.heap.size+1) (At zb5)).trans zb5
  refine hK.out _ _ (⟨Ad ya6 0,Ad yb6 0⟩) (fun hHeld=>?_)
  clear hK K
  try simp only [Act.put,List.setIfInBounds_toArray,List.set_cons_zero,List.set_cons_succ]
  refine Al (i:=3) rfl (by kernel_rfl) rfl (fun K hK=>?_)
  go_simp
  refine (E9 _ b (by omega)).mono ?_
  rintro e w7 ⟨rfl,hb7⟩
  have ya7:=(hb7.block w.heap.size (At ya6)).trans ya6
  have yb7:=(hb7.block (w.heap.size+1) (At yb6)).trans yb6
  have ta7:=Av ya7 0
  refine hK.out _ _ (⟨Ad ya7 0,Ad yb7 0⟩) (fun hHeld=>?_)
  clear hK K
  try simp only [Act.put,List.setIfInBounds_toArray,List.set_cons_zero,List.set_cons_succ]
  refine Al (i:=4) rfl (by kernel_rfl) rfl (fun K hK=>?_)
  go_simp
  have hsa:=Ju ya7
  have ya8:=hsa.keep ya7 (fun h=>h)
  have yb8:=hsa.keep yb7 (fun h=>h)
  have HC8 : Hid (Chg (fun k=>k=d ∨ ∃ g,B5 S.next.dir (.ren a b)=some g∧k=G'.fb g) w4 (w7.setCell ⟨w.heap.size,0,none⟩ (.string (Ae a)))):=Ab (((HC5.out.drew.trans (Chg.of_below hb6) (fun i hi h=>absurd (Nat.lt_of_lt_of_le hi HC5.out.size) (Nat.not_lt_of_le h))).trans (Chg.of_below hb7) (fun i hi h=>absurd (Nat.lt_of_lt_of_le hi (Nat.le_trans HC5.out.size hb6.size)) (Nat.not_lt_of_le h))).then (hsa.mono fun _ _ h=>h.elim))
  have HD8:=Ab (hsa.keep ((hb7.block d (Nat.lt_of_lt_of_le (At HD5.out) hb6.size)).trans ((hb6.block d (At HD5.out)).trans HD5.out)) (fun h=>h))
  have HG8 : Hid (∀ g,B5 S.next.dir (.ren a b)=some g→(w7.setCell ⟨w.heap.size,0,none⟩ (.string (Ae a))).heap[G'.fb g]? = some (.cells #[G'.rv g,G'.sv g, .bool false] 118)):=Ab (fun g hg=>hsa.keep ((hb7.block _ (Nat.lt_of_lt_of_le (At (HG5.out g hg)) hb6.size)).trans ((hb6.block _ (At (HG5.out g hg))).trans (HG5.out g hg))) (fun h=>h))
  refine hK.out _ _ (⟨Ad ya8 0,Ad yb8 0⟩) (fun hHeld=>?_)
  clear hK K
  try simp only [Act.put,List.setIfInBounds_toArray,List.set_cons_zero,List.set_cons_succ]
  clear HC5 HD5 HG5 hsa hb6 hb7 ya5 yb5 za5 zb5 ya6 yb6 ya7 yb7 ta7
  generalize w7.setCell ⟨w.heap.size,0,none⟩ (.string (Ae a))=w8 at *
  have tb8:=Av yb8 0
  refine Al (i:=5) rfl (by kernel_rfl) rfl (fun K hK=>?_)
  go_simp
  have hsb:=Ju yb8
  have ya9:=hsb.keep ya8 (fun h=>h)
  have yb9:=hsb.keep yb8 (fun h=>h)
  have HC9:=Ab (HC8.out.then (hsb.mono fun _ _ h=>h.elim))
  have HD9:=Ab (hsb.keep HD8.out (fun h=>h))
  have HG9 : Hid (∀ g,B5 S.next.dir (.ren a b)=some g→(w8.setCell ⟨w.heap.size+1,0,none⟩ (.string (Ae b))).heap[G'.fb g]? = some (.cells #[G'.rv g,G'.sv g, .bool false] 118)):=Ab (fun g hg=>hsb.keep (HG8.out g hg) (fun h=>h))
  refine hK.out _ _ (⟨Ad ya9 0,Ad yb9 0⟩) (fun hHeld=>?_)
  clear hK K
  try simp only [Act.put,List.setIfInBounds_toArray,List.set_cons_zero,List.set_cons_succ]
  refine wpAnyH_done (by kernel_rfl) ?_ _
  clear hHeld
  clear HC8 HD8 HG8 hsb ya8 yb8 tb8
  generalize w8.setCell ⟨w.heap.size+1,0,none⟩ (.string (Ae b))=w9 at *
  have hca : Fx F w w4 w.heap.size:=Or.inr ⟨Nat.le_refl _,At HA4.out⟩
  have hcb : Fx F w w4 (w.heap.size+1):=Or.inr ⟨Nat.le_succ _,At HB4.out⟩
  have hch:=Oy (w2:=w9) (a:=.ren a b) HR4.out hbn (HR4.out.ok.ren hl1 hab) ⟨hl1,hab⟩ rfl rfl (by omega) HC9.out HD9.out HG9.out
   (g:=148) (caps:=#[.pointer (some ⟨w.heap.size,0,none⟩), .pointer (some ⟨w.heap.size+1,0,none⟩)]) enters54
   (fun W hm hW=>ren1_any W bn w.heap.size (w.heap.size+1) G'.fb S.next.dir a b HR4.out.ok.sortD hm hl1 hab (hW.keep ya9 (fun h=>h)) (hW.keep yb9 (fun h=>h)))
   (fun w' hk=>⟨w.heap.size,w.heap.size+1,rfl,Or.inl hca,Or.inl hcb,hk _ _ ya9,hk _ _ yb9⟩)
  go_wp2_with (go_at_call 147; refine hch.mono ?_; rintro e w10 ⟨rfl,G5,hr5,hc5⟩; have HR5:=Ab hr5; have HC10:=Ab hc5; clear hr5 hc5 hch)
  go_ret
  refine ⟨rfl,G5,HR5.out.mono (fun k hk=>?_),HC4.out.trans HC10.out (fun i hi h=>?_)⟩
  ·rcases hk with (hk | ⟨a,b⟩) | ⟨a,b⟩
   ·exact Or.inl hk
   ·exact Or.inr ⟨a,Nat.lt_of_lt_of_le b HC10.out.size⟩
   ·exact Or.inr ⟨Nat.le_trans HC4.out.size a,b⟩
  ·rcases h with h | ⟨a,b⟩
   ·exact h
   ·exact absurd hi (Nat.not_lt_of_le a)
theorem rename_rep (h : Rep w F d S G) (hlow : ∀ k,F k→k<w.heap.size) (hb : S.bulk+1<1099511627776) (a b : Nm) : Calls Tryz.prog 122 #[.pointer (some ⟨d,0,none⟩), .string (Ae a), .string (Ae b)] w fun e w'=>e = .returned (.int .i64 (S.rename a b).2) ∧
  ∃ G',Rep w' (Fx F w w') d (S.rename a b).1 G'∧Chg F w w':=by
 have hnl:=n_le S
 unfold Dk.rename
 by_cases hon : S.on=false
 ·simp only [if_pos hon]
  exact rename_off h hon a b
 simp only [if_neg hon]
 have hon' : S.on=true:=by simpa using hon
 by_cases hn : Ap a=false∨Ap b=false
 ·simp only [if_pos hn]
  exact rename_name h hlow hon' (by omega) a b hn
 simp only [if_neg hn]
 have h1 : Ap a=true:=by
  rcases Bool.eq_false_or_eq_true (Ap a) with e | e
  ·exact e
  ·exact absurd (Or.inl e) hn
 have h2 : Ap b=true:=by
  rcases Bool.eq_false_or_eq_true (Ap b) with e | e
  ·exact e
  ·exact absurd (Or.inr e) hn
 cases hl : look S.dir a with
 | none=>
  simp only [if_true]
  exact rename_none h hlow hon' (by omega) a b h1 h2 hl
 | some f=>
  simp only [reduceCtorEq,if_false]
  by_cases hf : S.fails S.n=true
  ·simp only [if_pos hf]
   exact rename_io h hlow hon' (by omega) a b h1 h2 hl 34 (Or.inl ⟨hf,rfl⟩)
  have hf' : S.fails S.n=false:=by simpa using hf
  simp only [if_neg hf]
  by_cases hab : a=b
  ·simp only [if_pos hab]
   exact rename_io h hlow hon' (by omega) a b h1 h2 hl 0 (Or.inr ⟨hf',hab,rfl⟩)
  simp only [if_neg hab]
  exact rename_ok h hlow hon' hb a b h1 h2 hl hf' hab
end
end Go.Proofs.YtblniomnhpedjaaGreatDoor
namespace Go.Proofs.YtblniomnhpedjaaGreatDoor
open Go.RowKit
def Bare (w : World) (vs : List (Value × Value)) (k : Nat) : Prop:=(∃ p∈vs,p.1 = .pointer (some ⟨k,0,none⟩))∧∃ r s,w.heap[k]? = some (.cells #[r,s, .bool false] 118)
def Shaped (w w' : World) : Prop:=∀ (k : Nat) (r s : Value) (nm : Bool),w.heap[k]? = some (.cells #[r,s, .bool nm] 118)→∃ r',w'.heap[k]? = some (.cells #[r',s, .bool nm] 118)
theorem not_bare {w : World} {vs : List (Value × Value)} {k : Nat} {o : Obj} (h : w.heap[k]? = some o) (ht : tag o≠118) : ¬ Bare w vs k:=fun ⟨_,_,_,hb⟩=>Ax h hb ht rfl
set_option maxRecDepth 20000 in
set_option maxHeartbeats 400000 in
theorem forget_any (w : World) (d n : Nat) (r u o1 o2 lv o4 c1 c2 fl : Value) (vs : List (Value × Value)) (hd : w.heap[d]? = some (.cells #[r,u,o1,o2,lv,o4,c1,c2,fl] 89)) (hn : vs.length=n) (hrow : w.ownsRow 0 111 2 lv n (vc vs)) (hb : n<1099511627776)
  (hp : ∀ p∈vs,∃ b r s,∃ nm : Bool,p.1 = .pointer (some ⟨b,0,none⟩)∧w.heap[b]? = some (.cells #[r,s, .bool nm] 118)) (hfn : ∀ p∈vs,∃ fn fs cs,p.2 = .func fn fs cs) :
  Calls Tryz.prog 167 #[.pointer (some ⟨d,0,none⟩)] w fun e w'=>e = .returned (.tuple #[])∧Chg (Bare w vs) w w'∧Shaped w w':=by
 obtain ⟨a,cap,rfl⟩:=Do hrow
 have hdl:=Ad hd 4
 have hrn : ∀ k,(Value.slice a n cap).ownBlock=some k→¬ Bare w vs k:=fun k hk=>by
  obtain ⟨cur,hcur⟩:=A2 hrow hk
  exact not_bare hcur (show 111≠118 by decide)
 go_enter Tryz.func167,Tryz.ntmps167
 go_wp2_with fail
 go_loopw [9] (fun x wr=>∃ k : Nat,k≤n∧x = .int .i64 (k : Int)∧Chg (Bare w vs) w wr∧Shaped w wr) (fun x _=>n - (intOf x).toNat)
 case atStart=>exact ⟨0,Nat.zero_le _,rfl,Chg.refl _ _,fun k r s nm h=>⟨r,h⟩⟩
 case round=>
  obtain ⟨k,hk,rfl,hc,hsh⟩:=hrel
  by_cases hlt : k<n
  ·obtain ⟨p,hpk⟩ : ∃ p,vs[k]? = some p:=⟨_,List.getElem?_eq_getElem (by omega)⟩
   obtain ⟨o,v⟩:=p
   have hpm:=List.mem_of_getElem? hpk
   have hrr:=A3 hrow hc hrn
   obtain ⟨g,hg⟩ : ∃ g,a=some ⟨g,0,none⟩:=by
    rcases hrr.2 with ⟨e1,e2⟩ | ⟨g,cap,cur,e1,_⟩
    ·omega
    ·injection e1 with e1
     exact ⟨g,e1⟩
   subst hg
   have x0:=hrr.cellAt (k * 2) (by omega)
   have x1:=hrr.cellAt (k * 2+1) (by omega)
   rw [(Dp hpk).1] at x0
   rw [(Dp hpk).2] at x1
   obtain ⟨b,r0,s0,nm,hpo,hfb⟩:=hp _ hpm
   obtain ⟨fn,fs,fc,hfv⟩:=hfn _ hpm
   simp only at hpo hfv
   subst hpo hfv
   obtain ⟨r1,hf1⟩:=hsh b r0 s0 nm hfb
   have hf2:=Bh (.cells #[.pointer (some ⟨b,0,none⟩), .func fn fs fc] 111) hf1
   have y2:=Ad hf2 2
   have y0:=Ad hf2 0
   have t2:=Av hf2 0
   have HSH:=Ab hsh
   have HC:=Ab hc
   have HPP:=Ab hp
   have HRN:=Ab hrn
   clear hsh hrr hp hc hrn hdl
   cases nm with
   | true=>
    go_wp2_with fail
    go_roundw
    case rel=>exact ⟨k+1,by omega,by go_num,HC.out.alloc _,fun j r s nm h=>by
     obtain ⟨r',hr'⟩:=HSH.out j r s nm h
     exact ⟨r',Bh _ hr'⟩⟩
    case measure=>simp [intOf]; omega
   | false=>
    go_wp2_with fail
    go_roundw
    case rel=>
     refine ⟨k+1,by omega,by go_num,(HC.out.alloc _).setCell (p:=⟨b,0,none⟩) (Or.inl ⟨⟨_,hpm,rfl⟩,r0,s0,hfb⟩) _,fun j r s nm h=>?_⟩
     obtain ⟨r',hr'⟩:=HSH.out j r s nm h
     have hr2:=Bh (.cells #[.pointer (some ⟨b,0,none⟩), .func fn fs fc] 111) hr'
     by_cases e : j=b
     ·subst e
      exact ⟨_,A0 hr2 0 _⟩
     ·exact ⟨r',Cy hr2 e⟩
    case measure=>simp [intOf]; omega
  ·have hkn : k=n:=by omega
   clear hp
   go_wp2
   go_end0
   exact ⟨rfl,hc,hsh⟩
end Go.Proofs.YtblniomnhpedjaaGreatDoor
namespace Go.Proofs.YtblniomnhpedjaaGreatDoor
open Go.RowKit
def Dk.settled (S : Dk) (D : Dir) : Dk:={ S with dir:=D,sure:=D,acts:=S.acts.filter A9 }
theorem Ja {S : Dk} {D : Dir} {i : Nat} : (S.settled D).live i↔i∈ids D:=by
 unfold Dk.live Dk.settled
 simp only [(G8 (Ih S.acts)).2.2]
 simp
theorem Jq {S : Dk} {D : Dir} {i : Nat} (hD : ∀ i∈ids D,S.live i) (h : (S.settled D).known i) : S.known i:=by
 rcases h with h | h
 ·exact Or.inl (hD i (Ja.1 h))
 ·exact Or.inr (H9 h)
section
variable {w w' : World} {F : Nat→Prop} {d : Nat} {S : Dk} {G : Gh}
theorem Rep.directed (h : Rep w F d S G) {D : Dir} (hD : ∀ i∈ids D,S.live i) (hok : Ok (S.settled D)) {now sure : Option Nat} {lv : Value}
  (hc : Chg (fun k=>k=d∨some k=G.now∨some k=G.sure∨some k=G.lv.ownBlock ∨ ∃ i,S.known i∧k=G.fb i) w w')
  (hd : w'.heap[d]? = some (.cells #[.int .i64 (S.room : Int), .int .i64 ((A1 S.files D : Nat) : Int), .map now, .map sure,lv, .int .i64 (S.n : Int), .bool S.cut.isSome, .int .i64 G.cv, .map G.fls] 89))
  (hnow : Be w' (Fx F w w') now (dv G.fb D)) (hsure : Be w' (Fx F w w') sure (dv G.fb D)) (hboth : now=none↔sure=none) (h1 : ∀ b,now=some b→sure≠some b∧G.fls≠some b) (h2 : ∀ b,sure=some b→G.fls≠some b)
  (hbare : now=none→S.acts = [])
  (hlv : lv.ownBlock=G.lv.ownBlock) (hrow : w'.ownsRow 0 111 2 lv (G.vs.filter fun p=>!D7 p.1 (.pointer none)).length (vc (G.vs.filter fun p=>!D7 p.1 (.pointer none))))
  (hfiles : ∀ i,S.known i→∃ r,w'.heap[G.fb i]? = some (.cells #[r,G.sv i, .bool (decide (i∈ids D))] 118)∧(i∈ids D→r=G.rv i)) :
  ∃ G',Rep w' (Fx F w w') d (S.settled D) G':=by
 have hXn : ∀ k o,w.heap[k]? = some o→tag o≠89→tag o≠100000→tag o≠118→tag o≠111→¬ (k=d∨some k=G.now∨some k=G.sure∨some k=G.lv.ownBlock ∨ ∃ i,S.known i∧k=G.fb i):=by
  intro k o ho t1 t2 t3 t4 e
  rcases e with rfl | e | e | e | ⟨i,hi,rfl⟩
  ·exact Ax ho h.disk t1 rfl
  ·have:=h.now
   rw [← e] at this
   obtain ⟨es,ck,hh,_⟩:=this.2
   exact Ax ho hh t2 rfl
  ·have:=h.sure
   rw [← e] at this
   obtain ⟨es,ck,hh,_⟩:=this.2
   exact Ax ho hh t2 rfl
  ·obtain ⟨cur,hcur⟩:=A2 h.row e.symm
   exact Ax ho hcur t4 rfl
  ·exact Ax ho (h.files i hi).2 t3 rfl
 have hsp : Dl w (fun k=>k=d∨some k=G.now∨some k=G.sure∨some k=G.lv.ownBlock ∨ ∃ i,S.known i∧k=G.fb i):=by
  have hmap : ∀ {o : Option Nat} {l : List (Value × Value)},Be w F o l→Dl w (fun k=>some k=o):=by
   intro o l hm k x t h1 h2 e
   rw [← e] at hm
   exact Ka hm.2 k x t h1 h2 rfl
  refine (D6 h.disk (by decide)).or ((hmap h.now).or ((hmap h.sure).or ((Hc h.row (by decide)).or ?_)))
  rintro k x t h1 h2 ⟨g,hg,rfl⟩
  exact D6 (h.files g hg).2 (by decide) _ x t h1 h2 rfl
 have hz:=Mc (R:=ActW w' (Fx F w w') G.fb) (p:=A9) (q:=fun p : Value × Value=>!D7 p.1 (.pointer none)) S.acts G.vs h.many (fun j a p ha hp=>⟨h.actsKeep hc hsp (fun _ h=>Or.inl h) j a p ha hp,h.same_dir ha hp⟩)
 obtain ⟨rv,hrv⟩ : ∃ rv : Nat→Value,∀ i,S.known i→w'.heap[G.fb i]? = some (.cells #[rv i,G.sv i, .bool (decide (i∈ids D))] 118)∧(i∈ids D→rv i=G.rv i):=by
  classical
  exact ⟨fun i=>if hi : S.known i then Classical.choose (hfiles i hi) else .nilFunc,fun i hi=>by
   simp only [dif_pos hi]
   exact Classical.choose_spec (hfiles i hi)⟩
 have hrd : ∀ i,i∈ids D→rv i=G.rv i:=fun i hi=>(hrv i (Or.inl (hD i hi))).2 hi
 refine ⟨{ G with rv:=rv,now:=now,sure:=sure,lv:=lv,vs:=G.vs.filter fun p=>!D7 p.1 (.pointer none) },
  {
   ok:=hok
   disk:=hd
   inD:=Or.inl h.inD
   roomy:=h.roomy
   cutv:=h.cutv
   now:=hnow
   sure:=hsure
   both:=hboth
   bare:=fun e=>by show S.acts.filter A9 = []; rw [hbare e]; rfl
   fails:=?_
   two:=h1
   three:=h2
   row:=hrow
   rowF:=fun k hk=>Or.inl (h.rowF k (by rw [← hlv]; exact hk))
   many:=hz.1
   acts:=hz.2
   files:=fun i hi=>⟨Or.inl (h.files i (Jq hD hi)).1,(hrv i (Jq hD hi)).1⟩
   inj:=fun i j hi hj e=>h.inj i j (Jq hD hi) (Jq hD hj) e
   bytes:=fun i y hi hy=>?_
   apart:=fun i j k hi hj e1 e2=>?_ }⟩
 ·obtain ⟨l,g1,g2⟩:=h.fails
  refine ⟨l,g1.keep hc (fun b e hX=>?_) (fun _ h=>Or.inl h),g2⟩
  have hfm:=g1
  rw [e] at hfm
  rcases hX with e2 | e2 | e2 | e2 | ⟨i,hi,e2⟩
  ·exact hfm.2.ne h.disk e2.symm
  ·exact (h.two b e2.symm).2 e
  ·exact h.three b e2.symm e
  ·obtain ⟨cur,hcur⟩:=A2 h.row e2.symm
   exact hfm.2.ne hcur rfl
  ·exact hfm.2.ne (h.files i hi).2 e2.symm
 ·have hi':=Ja.1 hi
  obtain ⟨c1,c2,c3⟩:=h.bytes i y (hD i hi') hy
  show G.sv i=_∧w'.ownsRow 0 _ 1 (rv i) _ _∧∀ k,(rv i).ownBlock=some k→_
  rw [hrd i hi']
  refine ⟨c1,A3 c2 hc (fun k hk=>?_),fun k hk=>Or.inl (c3 k hk)⟩
  obtain ⟨cur,hcur⟩:=A2 c2 hk
  exact hXn k _ hcur (show 5≠89 by decide) (show 5≠100000 by decide) (show 5≠118 by decide) (show 5≠111 by decide)
 ·have hi':=Ja.1 hi
  have hj':=Ja.1 hj
  have e1' : (rv i).ownBlock=some k:=e1
  have e2' : (rv j).ownBlock=some k:=e2
  rw [hrd i hi'] at e1'
  rw [hrd j hj'] at e2'
  exact h.apart i j k (hD i hi') (hD j hj') e1' e2'
end
end Go.Proofs.YtblniomnhpedjaaGreatDoor
namespace Go.Proofs.YtblniomnhpedjaaGreatDoor
open Go.RowKit
section
variable {w w' wr : World} {F : Nat→Prop} {d : Nat} {S : Dk} {G : Gh}
theorem Rep.finish (h : Rep w F d S G) (hb : S.bulk<1099511627776) {D : Dir} (hD : ∀ i∈ids D,S.live i) (hok : Ok (S.settled D)) {now sure : Option Nat}
  (hc : Chg (fun k=>k=d∨some k=G.now∨some k=G.sure ∨ ∃ i,S.known i∧k=G.fb i) w wr)
  (hd : wr.heap[d]? = some (.cells #[.int .i64 (S.room : Int), .int .i64 ((A1 S.files D : Nat) : Int), .map now, .map sure,G.lv, .int .i64 (S.n : Int), .bool S.cut.isSome, .int .i64 G.cv, .map G.fls] 89))
  (hnow : Be wr (Fx F w wr) now (dv G.fb D)) (hsure : Be wr (Fx F w wr) sure (dv G.fb D)) (hboth : now=none↔sure=none) (h1 : ∀ b,now=some b→sure≠some b∧G.fls≠some b) (h2 : ∀ b,sure=some b→G.fls≠some b)
  (hbare : now=none→S.acts = [])
  (hfiles : ∀ i,S.known i→wr.heap[G.fb i]? = some (.cells #[G.rv i,G.sv i, .bool (decide (i∈ids D))] 118)) :
  Calls Tryz.prog 160 #[.pointer (some ⟨d,0,none⟩), .pointer none] wr fun e w1=>e = .returned (.tuple #[]) ∧
   Calls Tryz.prog 167 #[.pointer (some ⟨d,0,none⟩)] w1 fun e w2=>e = .returned (.tuple #[])∧(∃ G',Rep w2 (Fx F w w2) d (S.settled D) G')∧Chg F w w2:=by
 have hal:=E3 S
 have hmany:=h.many
 have hrn : ∀ j,G.lv.ownBlock=some j→¬ (j=d∨some j=G.now∨some j=G.sure ∨ ∃ i,S.known i∧j=G.fb i):=fun j hj e=>by
  obtain ⟨cur,hcur⟩:=A2 h.row hj
  rcases e with rfl | e | e | ⟨i,hi,rfl⟩
  ·exact Ax hcur h.disk (show 111≠89 by decide) rfl
  ·have hm:=h.now
   rw [← e] at hm
   exact hm.2.ne hcur rfl
  ·have hm:=h.sure
   rw [← e] at hm
   exact hm.2.ne hcur rfl
  ·exact Ax hcur (h.files i hi).2 (show 111≠118 by decide) rfl
 have hrr:=A3 h.row hc hrn
 have hof : ∀ p∈G.vs,p.1 = .pointer none ∨ ∃ i,S.known i∧p.1 = .pointer (some ⟨G.fb i,0,none⟩):=fun p hp=>by
  obtain ⟨a,ha,hw⟩:=h.pair hp
  rcases hw.first with ⟨_,e2⟩ | ⟨f,j,rfl,e2⟩
  ·exact Or.inl e2
  ·exact Or.inr ⟨f,Or.inr (Gp ha),e2⟩
 refine (Kv wr d G.vs.length _ _ _ _ _ _ _ _ _ (.pointer none) G.vs hd rfl hrr (fun p hp=>?_) (Or.inl rfl) (by omega) h.pvn (fun b e=>by cases e) h.funcs).mono ?_
 ·rcases hof p hp with e | ⟨i,hi,e⟩
  ·exact Or.inl e
  ·exact Or.inr ⟨_,_,_,e,hfiles i hi⟩
 rintro e w1 ⟨rfl,lv',q1,q2,q3,q4⟩
 refine ⟨rfl,?_⟩
 have hnf : ∀ i,S.known i→¬ (G.fb i=d∨some (G.fb i)=G.lv.ownBlock):=fun i hi e=>by
  rcases e with e | e
  ·exact h.ne_file hi e.symm
  ·obtain ⟨cur,hcur⟩:=A2 h.row e.symm
   exact Ax (h.files i hi).2 hcur (show 118≠111 by decide) rfl
 have hf1 : ∀ i,S.known i→w1.heap[G.fb i]? = some (.cells #[G.rv i,G.sv i, .bool (decide (i∈ids D))] 118):=fun i hi=>q4.keep (hfiles i hi) (hnf i hi)
 have hfl : ∀ p∈G.vs.filter fun p=>!D7 p.1 (.pointer none),∃ i,S.known i∧p.1 = .pointer (some ⟨G.fb i,0,none⟩):=fun p hp=>by
  obtain ⟨hp1,hp2⟩:=List.mem_filter.1 hp
  rcases hof p hp1 with e | e
  ·rw [e] at hp2
   cases hp2
  ·exact e
 have hle:=List.length_filter_le (fun p : Value × Value=>!D7 p.1 (.pointer none)) G.vs
 refine (forget_any w1 d _ _ _ _ _ lv' _ _ _ _ (G.vs.filter fun p=>!D7 p.1 (.pointer none)) q1 rfl q3 (by omega) (fun p hp=>?_) (fun p hp=>h.funcs p (List.mem_filter.1 hp).1)).mono ?_
 ·obtain ⟨i,hi,e⟩:=hfl p hp
  exact ⟨_,_,_,_,e,hf1 i hi⟩
 rintro e w2 ⟨rfl,q5,q6⟩
 have hb5 : ∀ k,Bare w1 (G.vs.filter fun p=>!D7 p.1 (.pointer none)) k→∃ i,S.known i∧k=G.fb i∧i ∉ ids D:=fun k ⟨⟨p,hp,e⟩,r,s,hk⟩=>by
  obtain ⟨i,hi,e2⟩:=hfl p hp
  rw [e] at e2
  injection e2 with e2
  injection e2 with e2
  injection e2 with e2
  refine ⟨i,hi,e2,fun hiD=>?_⟩
  rw [e2,hf1 i hi,decide_eq_true hiD] at hk
  injection hk with hk
  injection hk with hk
  simp at hk
 have hX : Chg (fun k=>k=d∨some k=G.now∨some k=G.sure∨some k=G.lv.ownBlock ∨ ∃ i,S.known i∧k=G.fb i) w w2:=by
  refine ((hc.mono fun k _ e=>?_).then (q4.mono fun k _ e=>?_)).then (q5.mono fun k _ e=>?_)
  ·rcases e with e | e | e | e
   ·exact Or.inl e
   ·exact Or.inr (Or.inl e)
   ·exact Or.inr (Or.inr (Or.inl e))
   ·exact Or.inr (Or.inr (Or.inr (Or.inr e)))
  ·rcases e with e | e
   ·exact Or.inl e
   ·exact Or.inr (Or.inr (Or.inr (Or.inl e)))
  ·obtain ⟨i,hi,e,_⟩:=hb5 k e
   exact Or.inr (Or.inr (Or.inr (Or.inr ⟨i,hi,e⟩)))
 have hmo : ∀ {o : Option Nat} {l : List (Value × Value)},Be wr (Fx F w wr) o l→Be w2 (Fx F w w2) o l:=fun {o l} hm=>by
  cases o with
  | none=>exact hm
  | some b=>
   refine ⟨?_,(hm.2.keep q4 (fun e=>?_)).keep q5 (fun e=>?_)⟩
   ·rcases hm.1 with hh | ⟨a1,a2⟩
    ·exact Or.inl hh
    ·exact Or.inr ⟨a1,Nat.lt_of_lt_of_le a2 (Nat.le_trans q4.size q5.size)⟩
   ·rcases e with e | e
    ·exact hm.2.ne hd e.symm
    ·obtain ⟨cur,hcur⟩:=A2 hrr e.symm
     exact hm.2.ne hcur rfl
   ·obtain ⟨i,hi,e,_⟩:=hb5 b e
    exact hm.2.ne (hfiles i hi) e.symm
 have hd2:=q5.keep q1 (fun e=>by
  obtain ⟨i,hi,e,_⟩:=hb5 d e
  exact h.ne_file hi e)
 refine ⟨rfl,h.directed hD hok hX hd2 (hmo hnow) (hmo hsure) hboth h1 h2 hbare q2 (A3 q3 q5 (fun k hk e=>?_)) (fun i hi=>?_),hX.mono fun k _ e=>?_⟩
 ·obtain ⟨i,hi,e,_⟩:=hb5 k e
  rw [q2] at hk
  exact hnf i hi (Or.inr (by rw [← e,hk]))
 ·by_cases hiD : i∈ids D
  ·refine ⟨_,q5.keep (hf1 i hi) (fun e=>?_),fun _=>rfl⟩
   obtain ⟨j,hj,e,hn⟩:=hb5 _ e
   exact hn (h.inj i j hi hj e ▸ hiD)
  ·obtain ⟨r',hr'⟩:=q6 _ _ _ _ (hf1 i hi)
   exact ⟨r',hr',fun e=>absurd e hiD⟩
 ·rcases e with rfl | e | e | e | ⟨i,hi,rfl⟩
  ·exact h.inD
  ·have hm:=h.now
   rw [← e] at hm
   exact hm.1
  ·have hm:=h.sure
   rw [← e] at hm
   exact hm.1
  ·exact h.rowF k e.symm
  ·exact (h.files i hi).1
end
end Go.Proofs.YtblniomnhpedjaaGreatDoor
namespace Go.Proofs.YtblniomnhpedjaaGreatDoor
open Go.RowKit
section
variable {w w' : World} {F : Nat→Prop} {d : Nat} {S : Dk} {G : Gh}
theorem ActW.dir {fb : Nat→Nat} {a : Ac} {o v : Value} (hm : A9 a=false) (h : ActW w F fb a (o,v)) :
  o = .pointer none∧∃ c u,v = .func (.func 161) #[] #[.pointer (some ⟨c,0,none⟩)]∧w.heap[c]? = some (.cells #[u] 219)∧DoW w F fb a u:=by
 cases a with
 | more f k=>simp [A9] at hm
 | made n f=>obtain ⟨h1,c,u,h2,_,h3,h4⟩:=h; exact ⟨h1,c,u,h2,h3,h4⟩
 | ren a b=>obtain ⟨h1,c,u,h2,_,h3,h4⟩:=h; exact ⟨h1,c,u,h2,h3,h4⟩
 | rem n=>obtain ⟨h1,c,u,h2,_,h3,h4⟩:=h; exact ⟨h1,c,u,h2,h3,h4⟩
theorem Ji {l : Dir} {ls : List Ac} {k : Nat} {a : Ac} (h : ls[k]? = some a) : A5 l (ls.take (k+1))=Bl (A5 l (ls.take k)) a:=by
 rw [List.take_add_one,h,Hm]
 rfl
theorem Nw {l : Dir} {ls : List Ac} (hv : C8 l ls) {k : Nat} {a : Ac} (h : ls[k]? = some a) : C8 l (ls.take k)∧canD (A5 l (ls.take k)) a:=by
 have h1 : ls=ls.take (k+1)++ls.drop (k+1):=(List.take_append_drop _ _).symm
 rw [h1] at hv
 have h2:=(Gm.1 hv).1
 rw [List.take_add_one,h] at h2
 have h3:=Gm.1 h2
 exact ⟨h3.1,h3.2.1⟩
theorem done_more {l : Dir} {a : Ac} (h : A9 a=true) : Bl l a=l:=by
 cases a <;> first | rfl | simp [A9] at h
set_option maxRecDepth 20000 in
set_option maxHeartbeats 800000 in
theorem keepDir_rep (h : Rep w F d S G) (hb : S.bulk<1099511627776) :
  Calls Tryz.prog 163 #[.pointer (some ⟨d,0,none⟩)] w fun e w'=>e = .returned (.tuple #[])∧(∃ G',Rep w' (Fx F w w') d S.keepD G')∧Chg F w w':=by
 have hd:=h.disk
 unfold B9 at hd
 obtain ⟨a,cap,hlv⟩:=Do h.row
 obtain ⟨n,hn⟩ : ∃ n,n=G.vs.length:=⟨_,rfl⟩
 have hna : S.acts.length=n:=by rw [hn,h.many]
 have hal:=E3 S
 rw [← hn] at hlv
 have hd':=hd
 rw [hlv] at hd'
 have x4:=Ad hd' 4
 have hsd : ∀ bs,G.sure=some bs→bs≠d:=fun bs e ee=>by
  have:=h.sure
  rw [e] at this
  exact this.2.ne h.disk ee.symm
 have hsr : ∀ bs,G.sure=some bs→G.lv.ownBlock≠some bs:=fun bs e ee=>by
  have:=h.sure
  rw [e] at this
  obtain ⟨cur,hcur⟩:=A2 h.row ee
  exact this.2.ne hcur rfl
 have hrow:=h.row
 rw [hlv,← hn] at hrow
 have hsp : Dl w (fun k=>some k=G.sure):=by
  intro k x t h1 h2 e
  have hm:=h.sure
  rw [← e] at hm
  exact Ka hm.2 k x t h1 h2 rfl
 have H:=Ab h
 have HD:=Ab hd
 have HHD:=Ab hd'
 have HROW:=Ab hrow
 have HSD:=Ab hsd
 have HSR:=Ab hsr
 have HSP:=Ab hsp
 have HN:=Ab hn
 clear h hd hd' hrow hsd hsr hsp hn
 go_enter Tryz.func163,Tryz.ntmps163
 go_wp2_with fail
 go_loopw [9] (fun x wr=>∃ k : Nat,k≤n∧x = .int .i64 (k : Int)∧Chg (fun j=>some j=G.sure) w wr∧∀ bs,G.sure=some bs→Ak wr bs (dv G.fb (A5 S.sure (S.acts.take k)))) (fun x _=>n - (intOf x).toNat)
 case atStart=>
  refine ⟨0,Nat.zero_le _,rfl,Chg.refl _ _,fun bs e=>?_⟩
  have:=H.out.sure
  rw [e] at this
  exact this.2
 case round=>
  obtain ⟨k,hk,rfl,hc,hmap⟩:=hrel
  by_cases hlt : k<n
  ·obtain ⟨p,hpk⟩ : ∃ p,G.vs[k]? = some p:=⟨_,List.getElem?_eq_getElem (by rw [← HN.out]; exact hlt)⟩
   obtain ⟨ac,hak⟩ : ∃ ac,S.acts[k]? = some ac:=⟨_,List.getElem?_eq_getElem (by omega)⟩
   obtain ⟨o,v⟩:=p
   obtain ⟨bs,hbs⟩ : ∃ bs,G.sure=some bs:=by
    refine Option.ne_none_iff_exists'.1 fun e=>?_
    have e2:=H.out.bare (H.out.both.2 e)
    rw [e2] at hna
    simp at hna
    omega
   have hrr:=A3 HROW.out hc (fun j hj e=>HSR.out j e.symm (by rw [hlv]; exact hj))
   obtain ⟨g,hg⟩ : ∃ g,a=some ⟨g,0,none⟩:=by
    rcases hrr.2 with ⟨e1,e2⟩ | ⟨g,cap,cur,e1,_⟩
    ·omega
    ·injection e1 with e1
     exact ⟨g,e1⟩
   subst hg
   have hnl:=HN.out
   have z0:=hrr.cellAt (k * 2) (by omega)
   have z1:=hrr.cellAt (k * 2+1) (by omega)
   rw [(Dp hpk).1] at z0
   rw [(Dp hpk).2] at z1
   clear hnl
   have hw:=(H.out.actsKeep hc HSP.out (F':=F) (fun _ h=>h)) k ac (o,v) hak hpk
   obtain ⟨hv1,hv2⟩:=Nw H.out.ok.valid hak
   by_cases hm : A9 ac=true
   ·have ho : ∃ b,o = .pointer (some ⟨b,0,none⟩):=by
     rcases hw.first with ⟨h1,h2⟩ | ⟨f,j,h1,h2⟩
     ·rw [hm] at h1
      cases h1
     ·exact ⟨_,h2⟩
    obtain ⟨fb,rfl⟩:=ho
    obtain ⟨fn,fs,fc,hfv⟩:=hw.second
    simp only at hfv
    subst hfv
    have HC:=Ab hc
    have HM:=Ab hmap
    clear hc hmap hrr hw
    go_wp2_with fail
    go_roundw
    case rel=>
     refine ⟨k+1,by omega,by go_num,HC.out.alloc _,fun bs e=>?_⟩
     rw [Ji hak,done_more hm]
     exact (HM.out bs e).keep ((Chg.refl (fun _=>False) _).alloc _) (fun h=>h)
    case measure=>simp [intOf]; omega
   ·obtain ⟨ho,c,u,hv,hcc,hdo⟩:=hw.dir (by simpa using hm)
    subst ho hv
    have hA : Chg (fun _=>False) wr (wr.alloc (.cells #[.pointer none, .func (.func 161) #[] #[.pointer (some ⟨c,0,none⟩)]] 111)).drew:=((Chg.refl _ _).alloc _).drew
    have hdr:=hA.keep (hc.keep HHD.out (fun e=>HSD.out d e.symm rfl)) (fun h=>h)
    have y3:=Ad hdr 3
    rw [hbs] at y3
    have hnb : (wr.alloc (.cells #[.pointer none, .func (.func 161) #[] #[.pointer (some ⟨c,0,none⟩)]] 111)).drew.heap[wr.heap.size]? = _:=Au wr _
    have y1:=Ad hnb 1
    have hcall:=dirDo_any _ bs c (.map none) 0 u F G.fb _ ac (J6 H.out.ok.sortS hv1) ((hmap bs hbs).keep hA (fun h=>h)) hv2 (hdo.keep hA (fun _ _ _ _ _ _ h=>h) (fun _ h=>h) (fun _ _=>rfl)) (hA.keep hcc (fun h=>h))
    have hbd : d≠bs:=fun e=>HSD.out bs hbs e.symm
    have hbw : wr.heap.size≠bs:=Nat.ne_of_gt (hmap bs hbs).lt
    have HC:=Ab hc
    have HA:=Ab hA
    have HNB:=Ab hnb
    have HDR:=Ab hdr
    clear hc hmap hrr hw hA hnb hdr hdo hcc
    go_wp2_with fail
    refine wp_region_held_drew (S:=fun W=>W.cell? ⟨wr.heap.size,1,none⟩=some (.func (.func 161) #[] #[.pointer (some ⟨c,0,none⟩)])∧W.cell? ⟨d,3,none⟩=some (.map (some bs))) (by kernel_rfl) (⟨y1,y3⟩) (fun hHeld=>?_)
    refine Aa 0 hHeld ?_
    refine Aa 1 hHeld ?_
    refine Aa 2 hHeld ?_
    refine Aa 3 hHeld ?_
    refine Aa 4 hHeld ?_
    refine Aa 5 hHeld ?_
    refine Aa 6 hHeld ?_
    refine Al (i:=7) rfl (by kernel_rfl) rfl (fun K hK=>?_)
    go_simp
    refine hcall.mono ?_
    rintro e w1 ⟨rfl,hm1,hc1⟩
    have v3:=Ad (hc1.keep HDR.out hbd) 3
    rw [hbs] at v3
    refine hK.out _ _ (⟨Ad (hc1.keep HNB.out hbw) 1,v3⟩) (fun hHeld=>?_)
    clear hK K
    try simp only [Act.put,List.setIfInBounds_toArray,List.set_cons_zero,List.set_cons_succ]
    refine wpAnyH_done (by kernel_rfl) ?_ _
    clear hHeld
    have HM1:=Ab hm1
    clear hm1 v3 y1 y3 hcall
    go_wp2_with fail
    go_roundw
    case rel=>
     refine ⟨k+1,by omega,by go_num,(HC.out.then (HA.out.mono fun _ _ h=>h.elim)).then (hc1.mono fun _ _ e=>by rw [e,hbs]),fun b2 e=>?_⟩
     rw [hbs] at e
     injection e with e
     subst e
     rw [Ji hak]
     exact HM1.out
    case measure=>simp [intOf]; omega
  ·have hkn : k=n:=by omega
   subst hkn
   have hdr:=hc.keep HD.out (fun e=>HSD.out d e.symm rfl)
   have hnf : ∀ i,S.known i→some (G.fb i)≠G.sure:=fun i hi e=>by
    have hm:=H.out.sure
    rw [← e] at hm
    exact hm.2.ne (H.out.files i hi).2 rfl
   have hsz:=hc.size
   have hfin:=H.out.finish hb (D:=S.dir) (now:=G.now) (sure:=G.sure) (fun i hi=>Dx H.out.ok hi) H.out.ok.keepD (hc.mono fun _ _ e=>Or.inr (Or.inr (Or.inl e))) hdr
    (H.out.now.keep hc (fun b e e2=>(H.out.two b e).1 e2.symm) (fun _ h=>Or.inl h))
    (by
     have hm:=H.out.sure
     cases e : G.sure with
     | none=>
      rw [e] at hm
      have h0:=H.out.bare (H.out.both.2 e)
      have h1 : dv G.fb S.sure = []:=hm
      have h2 : S.sure = []:=List.map_eq_nil_iff.1 h1
      have h3:=H.out.ok.dir
      rw [h0,h2] at h3
      show dv G.fb S.dir = []
      rw [h3]
      rfl
     | some bs=>
      rw [e] at hm
      have h3:=hmap bs e
      rw [List.take_of_length_le (Nat.le_of_eq hna),← H.out.ok.dir] at h3
      exact ⟨Or.inl hm.1,h3⟩)
    H.out.both H.out.two H.out.three H.out.bare (fun i hi=>hc.keep (H.out.files i hi).2 (hnf i hi))
   clear hc hmap hdr hnf
   go_wp2_with (first
    | (go_at_call 160; refine hfin.mono ?_; rintro e w1 ⟨rfl,hforget⟩)
    | (go_at_call 167; refine hforget.mono ?_; rintro e w2 ⟨rfl,q5,q6⟩))
   go_end0
   exact ⟨rfl,q5,q6⟩
end
end Go.Proofs.YtblniomnhpedjaaGreatDoor
namespace Go.Proofs.YtblniomnhpedjaaGreatDoor
open Go.RowKit
set_option maxRecDepth 20000 in
theorem Ow (w : World) (b : Nat) (l : List (Value × Value)) (h : Ak w b l) :
  Calls Tryz.prog 63 #[.map (some b)] w fun e w'=>e = .returned (.map (some w.heap.size))∧Ak w' w.heap.size l∧Chg (fun _=>False) w w':=by
 obtain ⟨es,clock,h1,h2,h3⟩:=h
 have hq:=fun w=>eqM62 w (some b)
 have HE:=Ab h3
 clear h3
 go_enter Tryz.func63,Tryz.ntmps63
 go_wp2
 rw [run_callFunc_extern Tryz.func82 (by kernel_rfl) (by kernel_rfl) (by kernel_rfl) (e:=Extern.MapsClone.clone) (by kernel_rfl),run_maps_clone_sl w 85 h1]
 simp only [Result.andThen]
 rw [Oper.upon_value]
 go_wp2
 rw [run_typeAssert_map_sl _ 85 20 _ _ _ Tryz.underlying85]
 simp only [Result.andThen]
 rw [Oper.upon_value]
 go_wp2
 go_ret
 exact ⟨rfl,⟨es,clock,Au w _,h2,HE.out⟩,(Chg.refl _ w).alloc _⟩
end Go.Proofs.YtblniomnhpedjaaGreatDoor
