/-
  Texts joined: Rename, RenameOk, Forget, DirRep, DirEnd.
-/
import Derived.Test.YtblniomnhpedjaaGreatDoorL8Sync
namespace Go.Proofs.YtblniomnhpedjaaGreatDoor
open Go.RowKit
section
variable {w w' : World} {F : Nat→Prop} {d : Nat} {S : Dk} {G : Gh}
def Cx (w : World) (a b : Nm) : World:=(w.alloc (.cells #[.string (Ae a)] 9)).alloc (.cells #[.string (Ae b)] 9)
theorem Ei (w : World) (a b : Nm) : Chg (fun _=>False) w (Cx w a b):=((Chg.refl _ w).alloc _).alloc _
theorem Ln (w : World) (a b : Nm) : (Cx w a b).heap.size=w.heap.size+2:=by simp [Cx]
theorem In (w : World) (a b : Nm) : (Cx w a b).heap[w.heap.size]? = some (.cells #[.string (Ae a)] 9):=Bc _ (Aq w _)
theorem I3 (w : World) (a b : Nm) : (Cx w a b).heap[w.heap.size+1]? = some (.cells #[.string (Ae b)] 9):=by
 have:=Aq (w.alloc (.cells #[.string (Ae a)] 9)) (.cells #[.string (Ae b)] 9)
 rw [show (w.alloc (.cells #[.string (Ae a)] 9)).heap.size=w.heap.size+1 by simp] at this
 exact this
theorem Jz {w w1 : World} {a b : Nm} (_hs : (Cx w a b).heap.size≤w1.heap.size) : ∀ k,Fx F (Cx w a b) w1 k→Fx F w w1 k:=fun k hk=>by
 rcases hk with hk | ⟨x,y⟩
 ·exact Or.inl hk
 ·exact Or.inr ⟨by rw [Ln] at x; omega,y⟩
set_option maxRecDepth 20000 in
theorem rename_off (h : Rep w F d S G) (hon : S.on=false) (a b : Nm) : Calls Tryz.prog 122 #[.pointer (some ⟨d,0,none⟩), .string (Ae a), .string (Ae b)] w fun e w'=>e = .returned (.int .i64 35) ∧
  ∃ G',Rep w' (Fx F w w') d S G'∧Chg F w w':=by
 have hbeg:=Iz (h.keep (Ei w a b) (fun _ _ h=>h) (fun _ h=>h)) hon
 have hB:=Ei w a b
 have hsz:=Ln w a b
 unfold Cx at hbeg hB hsz
 go_enter Tryz.func122,Tryz.ntmps122
 go_wp2_with (go_at_call 140; refine hbeg.mono ?_; rintro e w1 ⟨rfl,hr1,hc1⟩)
 go_ret
 exact ⟨rfl,G,hr1.mono fun k hk=>Or.inl hk,(hB.then hc1).mono fun _ _ f=>f.elim⟩
set_option maxRecDepth 20000 in
theorem rename_name (h : Rep w F d S G) (hlow : ∀ k,F k→k<w.heap.size) (hon : S.on=true) (hb : S.n<4611686018427387904) (a b : Nm) (hn : Am a=false∨Am b=false) : Calls Tryz.prog 122 #[.pointer (some ⟨d,0,none⟩), .string (Ae a), .string (Ae b)] w fun e w'=>e = .returned (.int .i64 30) ∧
  ∃ G',Rep w' (Fx F w w') d S.next G'∧Chg F w w':=by
 have hbeg:=Dl (h.keep (Ei w a b) (fun _ _ h=>h) (fun _ h=>h)) hon hb
 have hB:=Ei w a b
 have ha:=In w a b
 have hb':=I3 w a b
 have HFX : Hid (∀ w1 : World,(Cx w a b).heap.size≤w1.heap.size→∀ k,Fx F (Cx w a b) w1 k→Fx F w w1 k):=Ab fun w1=>Jz
 unfold Cx at hbeg hB ha hb' HFX
 rcases Bool.eq_false_or_eq_true (Am a) with h1 | h1 <;> rcases Bool.eq_false_or_eq_true (Am b) with h2 | h2
 ·rw [h1,h2] at hn
  rcases hn with hn | hn <;> cases hn
 all_goals
  go_enter Tryz.func122,Tryz.ntmps122
  go_wp2_with (first
   | (go_at_call 140; refine hbeg.mono ?_; rintro e w1 ⟨rfl,now,sure,hne,hr1,hc1⟩; have xa:=Ad (hc1.keep ha (fun hF=>Nat.lt_irrefl _ (hlow _ hF))) 0; have xb:=Ad (hc1.keep hb' (fun hF=>by have:=hlow _ hF; omega)) 0)
   | (go_at_call 141; refine (Dn _ _).mono ?_; rintro e w2 ⟨rfl,hw2⟩; subst hw2))
  go_ret
  exact ⟨rfl,_,hr1.mono (HFX.out w2 hc1.size),(hB.mono fun _ _ f=>f.elim).then hc1⟩
set_option maxRecDepth 20000 in
theorem rename_none (h : Rep w F d S G) (hlow : ∀ k,F k→k<w.heap.size) (hon : S.on=true) (hb : S.n<4611686018427387904) (a b : Nm) (h1 : Am a=true) (h2 : Am b=true) (hl : look S.dir a=none) : Calls Tryz.prog 122 #[.pointer (some ⟨d,0,none⟩), .string (Ae a), .string (Ae b)] w fun e w'=>e = .returned (.int .i64 32) ∧
  ∃ G',Rep w' (Fx F w w') d S.next G'∧Chg F w w':=by
 have hbeg:=Dl (h.keep (Ei w a b) (fun _ _ h=>h) (fun _ h=>h)) hon hb
 have hB:=Ei w a b
 have ha:=In w a b
 have hb':=I3 w a b
 have HFX : Hid (∀ w1 : World,(Cx w a b).heap.size≤w1.heap.size→∀ k,Fx F (Cx w a b) w1 k→Fx F w w1 k):=Ab fun w1=>Jz
 unfold Cx at hbeg hB ha hb' HFX
 go_enter Tryz.func122,Tryz.ntmps122
 go_wp2_with (first
  | (go_at_call 140; refine hbeg.mono ?_; rintro e w1 ⟨rfl,now,sure,hne,hr1,hc1⟩; have xa:=Ad (hc1.keep ha (fun hF=>Nat.lt_irrefl _ (hlow _ hF))) 0; have xb:=Ad (hc1.keep hb' (fun hF=>by have:=hlow _ hF; omega)) 0)
  | (go_at_call 141; refine (Dn _ _).mono ?_; rintro e w2 ⟨rfl,hw2⟩; subst hw2))
 obtain ⟨bn,rfl⟩:=Option.ne_none_iff_exists'.1 hne
 have hr2:=hr1.keep ((Chg.refl (fun _=>False) w2).drew) (fun _ _ h=>h) (fun _ h=>h)
 have hd1:=hr2.disk
 rw [C6] at hd1
 have x2:=Ad hd1 2
 have hlk:=D8 hr2 rfl a
 rw [show look S.next.dir a=none from hl] at hlk
 have HR2:=Ab (hr2.mono (HFX.out w2 hc1.size))
 have HC2:=Ab ((hB.mono fun _ _ f=>f.elim).then hc1).drew
 clear hr1 hc1 hd1 hr2
 refine wp_region_held_drew (S:=fun W=>W.cell? ⟨d,2,none⟩=some (.map (some bn))∧W.cell? ⟨w.heap.size,0,none⟩=some (.string (Ae a))∧(Instr.lookup 85 (.map (some bn)) (.string (Ae a)) false).run Tryz.prog W = .ok (.pointer none) W) (by kernel_rfl) (⟨x2,xa,hlk⟩) (fun hHeld=>?_)
 refine Aa (i:=0) (v:=?_) rfl (by kernel_rfl) (by kernel_rfl) (by kernel_rfl) (fun _ _ _ h=>h) rfl ?_ hHeld ?_
 rotate_left
 ·intro w hS; (try dsimp only at hS); obtain ⟨hS0,hS1,hS2⟩:=hS; go_simp; first | done | (with_reducible rfl)
 try simp only [Act.put,List.setIfInBounds_toArray,List.set_cons_zero,List.set_cons_succ]
 refine Aa (i:=1) (v:=?_) rfl (by kernel_rfl) (by kernel_rfl) (by kernel_rfl) (fun _ _ _ h=>h) rfl ?_ hHeld ?_
 rotate_left
 ·intro w hS; (try dsimp only at hS); obtain ⟨hS0,hS1,hS2⟩:=hS; go_simp; first | done | (with_reducible rfl)
 try simp only [Act.put,List.setIfInBounds_toArray,List.set_cons_zero,List.set_cons_succ]
 refine Aa (i:=2) (v:=?_) rfl (by kernel_rfl) (by kernel_rfl) (by kernel_rfl) (fun _ _ _ h=>h) rfl ?_ hHeld ?_
 rotate_left
 ·intro w hS; (try dsimp only at hS); obtain ⟨hS0,hS1,hS2⟩:=hS; go_simp; first | done | (with_reducible rfl)
 try simp only [Act.put,List.setIfInBounds_toArray,List.set_cons_zero,List.set_cons_succ]
 refine Aa (i:=3) (v:=?_) rfl (by kernel_rfl) (by kernel_rfl) (by kernel_rfl) (fun _ _ _ h=>h) rfl ?_ hHeld ?_
 rotate_left
 ·intro w hS; (try dsimp only at hS); obtain ⟨hS0,hS1,hS2⟩:=hS; go_simp; first | done | (with_reducible rfl)
 try simp only [Act.put,List.setIfInBounds_toArray,List.set_cons_zero,List.set_cons_succ]
 refine Aa (i:=4) (v:=?_) rfl (by kernel_rfl) (by kernel_rfl) (by kernel_rfl) (fun _ _ _ h=>h) rfl ?_ hHeld ?_
 rotate_left
 ·intro w hS; (try dsimp only at hS); obtain ⟨hS0,hS1,hS2⟩:=hS; go_simp; first | done | (with_reducible rfl)
 try simp only [Act.put,List.setIfInBounds_toArray,List.set_cons_zero,List.set_cons_succ]
 refine Aa (i:=5) (v:=?_) rfl (by kernel_rfl) (by kernel_rfl) (by kernel_rfl) (fun _ _ _ h=>h) rfl ?_ hHeld ?_
 rotate_left
 ·intro w hS; (try dsimp only at hS); obtain ⟨hS0,hS1,hS2⟩:=hS; go_simp; first | done | (with_reducible rfl)
 try simp only [Act.put,List.setIfInBounds_toArray,List.set_cons_zero,List.set_cons_succ]
 refine Aa (i:=6) (v:=?_) rfl (by kernel_rfl) (by kernel_rfl) (by kernel_rfl) (fun _ _ _ h=>h) rfl ?_ hHeld ?_
 rotate_left
 ·intro w hS; (try dsimp only at hS); obtain ⟨hS0,hS1,hS2⟩:=hS; go_simp; first | done | (with_reducible rfl)
 try simp only [Act.put,List.setIfInBounds_toArray,List.set_cons_zero,List.set_cons_succ]
 refine Aa (i:=7) (v:=?_) rfl (by kernel_rfl) (by kernel_rfl) (by kernel_rfl) (fun _ _ _ h=>h) rfl ?_ hHeld ?_
 rotate_left
 ·intro w hS; (try dsimp only at hS); obtain ⟨hS0,hS1,hS2⟩:=hS; go_simp; first | done | (with_reducible rfl)
 try simp only [Act.put,List.setIfInBounds_toArray,List.set_cons_zero,List.set_cons_succ]
 refine wpAnyH_done (by kernel_rfl) ?_ _
 clear hHeld
 go_wp2
 go_ret
 exact ⟨rfl,⟨_,HR2.out⟩,HC2.out⟩
set_option maxRecDepth 20000 in
theorem rename_io (h : Rep w F d S G) (hlow : ∀ k,F k→k<w.heap.size) (hon : S.on=true) (hb : S.n<4611686018427387904) (a b : Nm) (h1 : Am a=true) (h2 : Am b=true) {f : Nat} (hl : look S.dir a=some f) (r : Int)
  (hr : S.fails S.n=true∧r=34∨S.fails S.n=false∧a=b∧r=0) : Calls Tryz.prog 122 #[.pointer (some ⟨d,0,none⟩), .string (Ae a), .string (Ae b)] w fun e w'=>e = .returned (.int .i64 r) ∧
  ∃ G',Rep w' (Fx F w w') d S.next G'∧Chg F w w':=by
 have hbeg:=Dl (h.keep (Ei w a b) (fun _ _ h=>h) (fun _ h=>h)) hon hb
 have hB:=Ei w a b
 have ha:=In w a b
 have hb':=I3 w a b
 have HFX : Hid (∀ w1 : World,(Cx w a b).heap.size≤w1.heap.size→∀ k,Fx F (Cx w a b) w1 k→Fx F w w1 k):=Ab fun w1=>Jz
 unfold Cx at hbeg hB ha hb' HFX
 rcases hr with ⟨hf,rfl⟩ | ⟨hf,rfl,rfl⟩
 all_goals
  rw [hf] at hbeg
  go_enter Tryz.func122,Tryz.ntmps122
  go_wp2_with (first
   | (go_at_call 140; refine hbeg.mono ?_; rintro e w1 ⟨rfl,now,sure,hne,hr1,hc1⟩; have xa:=Ad (hc1.keep ha (fun hF=>Nat.lt_irrefl _ (hlow _ hF))) 0; have xb:=Ad (hc1.keep hb' (fun hF=>by have:=hlow _ hF; omega)) 0)
   | (go_at_call 141; refine (Dn _ _).mono ?_; rintro e w2 ⟨rfl,hw2⟩; subst hw2))
  obtain ⟨bn,rfl⟩:=Option.ne_none_iff_exists'.1 hne
  have hr2:=hr1.keep ((Chg.refl (fun _=>False) w2).drew) (fun _ _ h=>h) (fun _ h=>h)
  have hd1:=hr2.disk
  rw [C6] at hd1
  have x2:=Ad hd1 2
  have hlk:=D8 hr2 rfl a
  rw [show look S.next.dir a=some f from hl] at hlk
  have HR2:=Ab (hr2.mono (HFX.out w2 hc1.size))
  have HC2:=Ab ((hB.mono fun _ _ f=>f.elim).then hc1).drew
  clear hr1 hc1 hd1 hr2
  refine wp_region_held_drew (S:=fun W=>W.cell? ⟨d,2,none⟩=some (.map (some bn))∧W.cell? ⟨w.heap.size,0,none⟩=some (.string (Ae a))∧(Instr.lookup 85 (.map (some bn)) (.string (Ae a)) false).run Tryz.prog W = .ok (.pointer (some ⟨G.fb f,0,none⟩)) W) (by kernel_rfl) (⟨x2,xa,hlk⟩) (fun hHeld=>?_)
  refine Aa (i:=0) (v:=?_) rfl (by kernel_rfl) (by kernel_rfl) (by kernel_rfl) (fun _ _ _ h=>h) rfl ?_ hHeld ?_
  rotate_left
  ·intro w hS; (try dsimp only at hS); obtain ⟨hS0,hS1,hS2⟩:=hS; go_simp; first | done | (with_reducible rfl)
  try simp only [Act.put,List.setIfInBounds_toArray,List.set_cons_zero,List.set_cons_succ]
  refine Aa (i:=1) (v:=?_) rfl (by kernel_rfl) (by kernel_rfl) (by kernel_rfl) (fun _ _ _ h=>h) rfl ?_ hHeld ?_
  rotate_left
  ·intro w hS; (try dsimp only at hS); obtain ⟨hS0,hS1,hS2⟩:=hS; go_simp; first | done | (with_reducible rfl)
  try simp only [Act.put,List.setIfInBounds_toArray,List.set_cons_zero,List.set_cons_succ]
  refine Aa (i:=2) (v:=?_) rfl (by kernel_rfl) (by kernel_rfl) (by kernel_rfl) (fun _ _ _ h=>h) rfl ?_ hHeld ?_
  rotate_left
  ·intro w hS; (try dsimp only at hS); obtain ⟨hS0,hS1,hS2⟩:=hS; go_simp; first | done | (with_reducible rfl)
  try simp only [Act.put,List.setIfInBounds_toArray,List.set_cons_zero,List.set_cons_succ]
  refine Aa (i:=3) (v:=?_) rfl (by kernel_rfl) (by kernel_rfl) (by kernel_rfl) (fun _ _ _ h=>h) rfl ?_ hHeld ?_
  rotate_left
  ·intro w hS; (try dsimp only at hS); obtain ⟨hS0,hS1,hS2⟩:=hS; go_simp; first | done | (with_reducible rfl)
  try simp only [Act.put,List.setIfInBounds_toArray,List.set_cons_zero,List.set_cons_succ]
  refine Aa (i:=4) (v:=?_) rfl (by kernel_rfl) (by kernel_rfl) (by kernel_rfl) (fun _ _ _ h=>h) rfl ?_ hHeld ?_
  rotate_left
  ·intro w hS; (try dsimp only at hS); obtain ⟨hS0,hS1,hS2⟩:=hS; go_simp; first | done | (with_reducible rfl)
  try simp only [Act.put,List.setIfInBounds_toArray,List.set_cons_zero,List.set_cons_succ]
  refine Aa (i:=5) (v:=?_) rfl (by kernel_rfl) (by kernel_rfl) (by kernel_rfl) (fun _ _ _ h=>h) rfl ?_ hHeld ?_
  rotate_left
  ·intro w hS; (try dsimp only at hS); obtain ⟨hS0,hS1,hS2⟩:=hS; go_simp; first | done | (with_reducible rfl)
  try simp only [Act.put,List.setIfInBounds_toArray,List.set_cons_zero,List.set_cons_succ]
  refine Aa (i:=6) (v:=?_) rfl (by kernel_rfl) (by kernel_rfl) (by kernel_rfl) (fun _ _ _ h=>h) rfl ?_ hHeld ?_
  rotate_left
  ·intro w hS; (try dsimp only at hS); obtain ⟨hS0,hS1,hS2⟩:=hS; go_simp; first | done | (with_reducible rfl)
  try simp only [Act.put,List.setIfInBounds_toArray,List.set_cons_zero,List.set_cons_succ]
  refine Aa (i:=7) (v:=?_) rfl (by kernel_rfl) (by kernel_rfl) (by kernel_rfl) (fun _ _ _ h=>h) rfl ?_ hHeld ?_
  rotate_left
  ·intro w hS; (try dsimp only at hS); obtain ⟨hS0,hS1,hS2⟩:=hS; go_simp; first | done | (with_reducible rfl)
  try simp only [Act.put,List.setIfInBounds_toArray,List.set_cons_zero,List.set_cons_succ]
  refine wpAnyH_done (by kernel_rfl) ?_ _
  clear hHeld
  go_wp2
  go_ret
  exact ⟨rfl,⟨_,HR2.out⟩,HC2.out⟩
end
end Go.Proofs.YtblniomnhpedjaaGreatDoor
namespace Go.Proofs.YtblniomnhpedjaaGreatDoor
open Go.RowKit
section
variable {w w' : World} {F : Nat→Prop} {d : Nat} {S : Dk} {G : Gh}
theorem strB_ne {a b : Nm} (h : a≠b) : ((Ae a).toList == (Ae b).toList)=false:=by
 rw [ByteArray.toList_eq,ByteArray.toList_eq,Ds,Ds,beq_eq_false_iff_ne]
 exact h
theorem gone_ren (l : Dir) (a b : Nm) : B0 l (.ren a b)=look l b:=rfl
set_option maxRecDepth 20000 in
set_option maxHeartbeats 1600000 in
theorem rename_ok (h : Rep w F d S G) (hlow : ∀ k,F k→k<w.heap.size) (hon : S.on=true) (hb : S.bulk+1<1099511627776) (a b : Nm) (h1 : Am a=true) (h2 : Am b=true) {f : Nat} (hl : look S.dir a=some f)
  (hf : S.fails S.n=false) (hab : a≠b) : Calls Tryz.prog 122 #[.pointer (some ⟨d,0,none⟩), .string (Ae a), .string (Ae b)] w fun e w'=>e = .returned (.int .i64 0) ∧
  ∃ G',Rep w' (Fx F w w') d (S.next.act (.ren a b)) G'∧Chg F w w':=by
 have hmf : ∀ (fn : Fn) (first cap : Array Value) (w : World),(Instr.makeFunc fn first cap).run Tryz.prog w = .ok (.func fn first cap) w:=fun _ _ _ _=>rfl
 have hnl:=n_le S
 have hbeg:=Dl (h.keep (Ei w a b) (fun _ _ h=>h) (fun _ h=>h)) hon (by omega)
 have hB:=Ei w a b
 have ha:=In w a b
 have hb':=I3 w a b
 have hbs:=Ln w a b
 have HFX : Hid (∀ w1 : World,(Cx w a b).heap.size≤w1.heap.size→∀ k,Fx F (Cx w a b) w1 k→Fx F w w1 k):=Ab fun w1=>Jz
 unfold Cx at hbeg hB ha hb' HFX hbs
 have hne1:=strB_ne hab
 have hla:=(Jt h1).2
 have hlb:=(Jt h2).2
 have hbb : S.next.bulk≤S.bulk+1:=by
  have e : S.begun=S.next:=by unfold Dk.begun; rw [hon]; rfl
  have:=Mo S
  rwa [e] at this
 rw [hf] at hbeg
 go_enter Tryz.func122,Tryz.ntmps122
 go_wp2_with (first
  | (go_at_call 140; refine hbeg.mono ?_; rintro e w1 ⟨rfl,now,sure,hne,hr1,hc1⟩; have xa:=Ad (hc1.keep ha (fun hF=>Nat.lt_irrefl _ (hlow _ hF))) 0; have xb:=Ad (hc1.keep hb' (fun hF=>by have:=hlow _ hF; omega)) 0)
  | (go_at_call 141; refine (Dn _ _).mono ?_; rintro e w2 ⟨rfl,hw2⟩; subst hw2))
 obtain ⟨bn,rfl⟩:=Option.ne_none_iff_exists'.1 hne
 have hr2:=hr1.keep ((Chg.refl (fun _=>False) w2).drew) (fun _ _ h=>h) (fun _ h=>h)
 have hc2:=hc1.drew
 have ya : w2.drew.heap[w.heap.size]? = _:=hc2.keep ha (fun hF=>Nat.lt_irrefl _ (hlow _ hF))
 have yb : w2.drew.heap[w.heap.size+1]? = _:=hc2.keep hb' (fun hF=>by have:=hlow _ hF; omega)
 have hd1:=hr2.disk
 rw [C6] at hd1
 have x2:=Ad hd1 2
 have hlk:=D8 hr2 rfl a
 rw [show look S.next.dir a=some f from hl] at hlk
 have HR2 : Hid (Rep w2.drew (Fx F w w2.drew) d S.next { G with now:=some bn,sure:=sure }):=Ab (hr2.mono (HFX.out w2 hc1.size))
 have HC2:=Ab ((hB.mono fun _ _ f=>f.elim).then hc2)
 have hws : w.heap.size+2≤w2.drew.heap.size:=by
  have:=hc2.size
  rw [hbs] at this
  exact this
 clear hr1 hc1 hd1 hr2 hc2
 refine wp_region_held_drew (S:=fun W=>W.cell? ⟨d,2,none⟩=some (.map (some bn))∧W.cell? ⟨w.heap.size,0,none⟩=some (.string (Ae a))∧(Instr.lookup 85 (.map (some bn)) (.string (Ae a)) false).run Tryz.prog W = .ok (.pointer (some ⟨G.fb f,0,none⟩)) W) (by kernel_rfl) (⟨x2,xa,hlk⟩) (fun hHeld=>?_)
 refine Aa (i:=0) (v:=?_) rfl (by kernel_rfl) (by kernel_rfl) (by kernel_rfl) (fun _ _ _ h=>h) rfl ?_ hHeld ?_
 rotate_left
 ·intro w hS; (try dsimp only at hS); obtain ⟨hS0,hS1,hS2⟩:=hS; go_simp; first | done | (with_reducible rfl)
 try simp only [Act.put,List.setIfInBounds_toArray,List.set_cons_zero,List.set_cons_succ]
 refine Aa (i:=1) (v:=?_) rfl (by kernel_rfl) (by kernel_rfl) (by kernel_rfl) (fun _ _ _ h=>h) rfl ?_ hHeld ?_
 rotate_left
 ·intro w hS; (try dsimp only at hS); obtain ⟨hS0,hS1,hS2⟩:=hS; go_simp; first | done | (with_reducible rfl)
 try simp only [Act.put,List.setIfInBounds_toArray,List.set_cons_zero,List.set_cons_succ]
 refine Aa (i:=2) (v:=?_) rfl (by kernel_rfl) (by kernel_rfl) (by kernel_rfl) (fun _ _ _ h=>h) rfl ?_ hHeld ?_
 rotate_left
 ·intro w hS; (try dsimp only at hS); obtain ⟨hS0,hS1,hS2⟩:=hS; go_simp; first | done | (with_reducible rfl)
 try simp only [Act.put,List.setIfInBounds_toArray,List.set_cons_zero,List.set_cons_succ]
 refine Aa (i:=3) (v:=?_) rfl (by kernel_rfl) (by kernel_rfl) (by kernel_rfl) (fun _ _ _ h=>h) rfl ?_ hHeld ?_
 rotate_left
 ·intro w hS; (try dsimp only at hS); obtain ⟨hS0,hS1,hS2⟩:=hS; go_simp; first | done | (with_reducible rfl)
 try simp only [Act.put,List.setIfInBounds_toArray,List.set_cons_zero,List.set_cons_succ]
 refine Aa (i:=4) (v:=?_) rfl (by kernel_rfl) (by kernel_rfl) (by kernel_rfl) (fun _ _ _ h=>h) rfl ?_ hHeld ?_
 rotate_left
 ·intro w hS; (try dsimp only at hS); obtain ⟨hS0,hS1,hS2⟩:=hS; go_simp; first | done | (with_reducible rfl)
 try simp only [Act.put,List.setIfInBounds_toArray,List.set_cons_zero,List.set_cons_succ]
 refine Aa (i:=5) (v:=?_) rfl (by kernel_rfl) (by kernel_rfl) (by kernel_rfl) (fun _ _ _ h=>h) rfl ?_ hHeld ?_
 rotate_left
 ·intro w hS; (try dsimp only at hS); obtain ⟨hS0,hS1,hS2⟩:=hS; go_simp; first | done | (with_reducible rfl)
 try simp only [Act.put,List.setIfInBounds_toArray,List.set_cons_zero,List.set_cons_succ]
 refine Aa (i:=6) (v:=?_) rfl (by kernel_rfl) (by kernel_rfl) (by kernel_rfl) (fun _ _ _ h=>h) rfl ?_ hHeld ?_
 rotate_left
 ·intro w hS; (try dsimp only at hS); obtain ⟨hS0,hS1,hS2⟩:=hS; go_simp; first | done | (with_reducible rfl)
 try simp only [Act.put,List.setIfInBounds_toArray,List.set_cons_zero,List.set_cons_succ]
 refine Aa (i:=7) (v:=?_) rfl (by kernel_rfl) (by kernel_rfl) (by kernel_rfl) (fun _ _ _ h=>h) rfl ?_ hHeld ?_
 rotate_left
 ·intro w hS; (try dsimp only at hS); obtain ⟨hS0,hS1,hS2⟩:=hS; go_simp; first | done | (with_reducible rfl)
 try simp only [Act.put,List.setIfInBounds_toArray,List.set_cons_zero,List.set_cons_succ]
 refine wpAnyH_done (by kernel_rfl) ?_ _
 clear hHeld hlk
 have xa2 : w2.drew.cell? ⟨w.heap.size,0,none⟩=some (.string (Ae a)):=xa
 have xb2 : w2.drew.cell? ⟨w.heap.size+1,0,none⟩=some (.string (Ae b)):=xb
 clear xa xb
 have HW:=Ab hws
 clear hws
 generalize w2.drew=w3 at *
 go_wp2_with fail
 have hr4:=HR2.out.keep ((Chg.refl (fun _=>False) w3).drew) (fun _ _ h=>h) (fun _ h=>h)
 have HC4:=Ab HC2.out.drew
 have ya4 : w3.drew.heap[w.heap.size]? = _:=ya
 have yb4 : w3.drew.heap[w.heap.size+1]? = _:=yb
 have xb4 : w3.drew.cell? ⟨w.heap.size+1,0,none⟩=some (.string (Ae b)):=xb2
 have x24 : w3.drew.cell? ⟨d,2,none⟩=some (.map (some bn)):=x2
 have hlk:=D8 hr4 rfl b
 have HR4 : Hid (Rep w3.drew (Fx F w w3.drew) d S.next { G with now:=some bn,sure:=sure }):=Ab hr4
 have HW4 : Hid (w.heap.size+2≤w3.drew.heap.size):=Ab HW.out
 clear hr4 HR2 HC2 ya yb xa2 xb2 x2 HW hbeg hne
 refine wp_region_held_drew (S:=fun W=>W.cell? ⟨d,2,none⟩=some (.map (some bn))∧W.cell? ⟨w.heap.size+1,0,none⟩=some (.string (Ae b))∧(Instr.lookup 85 (.map (some bn)) (.string (Ae b)) false).run Tryz.prog W = .ok (pv G.fb (look S.next.dir b)) W) (by kernel_rfl) (⟨x24,xb4,hlk⟩) (fun hHeld=>?_)
 refine Aa (i:=0) (v:=?_) rfl (by kernel_rfl) (by kernel_rfl) (by kernel_rfl) (fun _ _ _ h=>h) rfl ?_ hHeld ?_
 rotate_left
 ·intro w hS; (try dsimp only at hS); obtain ⟨hS0,hS1,hS2⟩:=hS; go_simp; first | done | (with_reducible rfl)
 try simp only [Act.put,List.setIfInBounds_toArray,List.set_cons_zero,List.set_cons_succ]
 refine Aa (i:=1) (v:=?_) rfl (by kernel_rfl) (by kernel_rfl) (by kernel_rfl) (fun _ _ _ h=>h) rfl ?_ hHeld ?_
 rotate_left
 ·intro w hS; (try dsimp only at hS); obtain ⟨hS0,hS1,hS2⟩:=hS; go_simp; first | done | (with_reducible rfl)
 try simp only [Act.put,List.setIfInBounds_toArray,List.set_cons_zero,List.set_cons_succ]
 refine Aa (i:=2) (v:=?_) rfl (by kernel_rfl) (by kernel_rfl) (by kernel_rfl) (fun _ _ _ h=>h) rfl ?_ hHeld ?_
 rotate_left
 ·intro w hS; (try dsimp only at hS); obtain ⟨hS0,hS1,hS2⟩:=hS; go_simp; first | done | (with_reducible rfl)
 try simp only [Act.put,List.setIfInBounds_toArray,List.set_cons_zero,List.set_cons_succ]
 refine Aa (i:=3) (v:=?_) rfl (by kernel_rfl) (by kernel_rfl) (by kernel_rfl) (fun _ _ _ h=>h) rfl ?_ hHeld ?_
 rotate_left
 ·intro w hS; (try dsimp only at hS); obtain ⟨hS0,hS1,hS2⟩:=hS; go_simp; first | done | (with_reducible rfl)
 try simp only [Act.put,List.setIfInBounds_toArray,List.set_cons_zero,List.set_cons_succ]
 refine Aa (i:=4) (v:=?_) rfl (by kernel_rfl) (by kernel_rfl) (by kernel_rfl) (fun _ _ _ h=>h) rfl ?_ hHeld ?_
 rotate_left
 ·intro w hS; (try dsimp only at hS); obtain ⟨hS0,hS1,hS2⟩:=hS; go_simp; first | done | (with_reducible rfl)
 try simp only [Act.put,List.setIfInBounds_toArray,List.set_cons_zero,List.set_cons_succ]
 refine Aa (i:=5) (v:=?_) rfl (by kernel_rfl) (by kernel_rfl) (by kernel_rfl) (fun _ _ _ h=>h) rfl ?_ hHeld ?_
 rotate_left
 ·intro w hS; (try dsimp only at hS); obtain ⟨hS0,hS1,hS2⟩:=hS; go_simp; first | done | (with_reducible rfl)
 try simp only [Act.put,List.setIfInBounds_toArray,List.set_cons_zero,List.set_cons_succ]
 refine Aa (i:=6) (v:=?_) rfl (by kernel_rfl) (by kernel_rfl) (by kernel_rfl) (fun _ _ _ h=>h) rfl ?_ hHeld ?_
 rotate_left
 ·intro w hS; (try dsimp only at hS); obtain ⟨hS0,hS1,hS2⟩:=hS; go_simp; first | done | (with_reducible rfl)
 try simp only [Act.put,List.setIfInBounds_toArray,List.set_cons_zero,List.set_cons_succ]
 refine wpAnyH_done (by kernel_rfl) ?_ _
 clear hHeld hlk
 generalize w3.drew=w4 at *
 clear w2 w3
 obtain ⟨G',hG'⟩ : ∃ G',G' = { G with now:=some bn,sure:=sure }:=⟨_,rfl⟩
 have hfb : G'.fb=G.fb:=by rw [hG']
 have hbn : G'.now=some bn:=by rw [hG']
 rw [← hG'] at HR4
 rw [← hfb]
 clear hG' hfb
 have hl1 : look S.next.dir a≠none:=by
  show look S.dir a≠none
  rw [hl]
  simp
 have hga:=gone_ren S.next.dir a b
 rcases hgo : look S.next.dir b with _ | g
 have hpv : pv G'.fb none = .pointer none:=rfl
 rw [hpv]
 rw [hgo] at hga
 have HGA:=Ab hga
 have HGO:=Ab hgo
 clear hga hgo
 focus
  go_wp2_with fail
 have hga:=HGA.out
 obtain ⟨w5,hw5⟩ : ∃ w5,w5=w4:=⟨_,rfl⟩
 have ya5:=ya4
 have yb5:=yb4
 have HD5 : Hid (w4.heap[d]? = some (.cells #[.int .i64 (S.next.room : Int), .int .i64 ((S.next.used : Int) - (((B0 S.next.dir (.ren a b)).map (Az S.next.files)).getD 0 : Nat)), .map (some bn), .map G'.sure,G'.lv, .int .i64 (S.next.n : Int), .bool S.next.cut.isSome, .int .i64 G'.cv, .map G'.fls] 89)):=Ab (by
  rw [hga,← hbn]
  have:=HR4.out.disk
  unfold B7 at this
  rw [this]
  simp)
 have HG5 : Hid (∀ g,B0 S.next.dir (.ren a b)=some g→w4.heap[G'.fb g]? = some (.cells #[G'.rv g,G'.sv g, .bool false] 118)):=Ab (fun g' hg'=>by
  rw [hga] at hg'
  cases hg')
 have HC5 : Hid (Chg (fun k=>k=d ∨ ∃ g,B0 S.next.dir (.ren a b)=some g∧k=G'.fb g) w4 w4):=Ab (Chg.refl _ _)
 rw [← hw5] at ya5 yb5 HD5 HG5 ⊢
 rw [show Chg (fun k=>k=d ∨ ∃ g,B0 S.next.dir (.ren a b)=some g∧k=G'.fb g) w4 w4=Chg (fun k=>k=d ∨ ∃ g,B0 S.next.dir (.ren a b)=some g∧k=G'.fb g) w4 w5 by rw [hw5]] at HC5
 clear hw5
 rotate_left
 have hpv : pv G'.fb (some g) = .pointer (some ⟨G'.fb g,0,none⟩):=rfl
 rw [hpv]
 have hun:=N1 HR4.out (by omega) (Dm hgo)
 rw [hgo] at hga
 go_wp2_with (go_at_call 146; refine hun.mono ?_; rintro e w5 ⟨rfl,u1,u2,u3⟩)
 have hX : ∀ k x,w4.heap[k]? = some (Obj.cells #[x] 9)→¬ (k=d∨k=G'.fb g):=fun k x hk e=>by
  rcases e with e | e
  ·exact As hk HR4.out.disk (show 9≠89 by decide) e
  ·exact As hk (HR4.out.files g (Or.inl (Dy HR4.out.ok (Dm hgo)))).2 (show 9≠118 by decide) e
 have ya5:=u3.keep ya4 (hX _ _ ya4)
 have yb5:=u3.keep yb4 (hX _ _ yb4)
 have HD5 : Hid (w5.heap[d]? = some (.cells #[.int .i64 (S.next.room : Int), .int .i64 ((S.next.used : Int) - (((B0 S.next.dir (.ren a b)).map (Az S.next.files)).getD 0 : Nat)), .map (some bn), .map G'.sure,G'.lv, .int .i64 (S.next.n : Int), .bool S.next.cut.isSome, .int .i64 G'.cv, .map G'.fls] 89)):=Ab (by rw [hga,← hbn]; exact u1)
 have HG5 : Hid (∀ g,B0 S.next.dir (.ren a b)=some g→w5.heap[G'.fb g]? = some (.cells #[G'.rv g,G'.sv g, .bool false] 118)):=Ab (fun g' hg'=>by
  rw [hga] at hg'
  injection hg' with hg'
  subst hg'
  exact u2)
 have HC5 : Hid (Chg (fun k=>k=d ∨ ∃ g,B0 S.next.dir (.ren a b)=some g∧k=G'.fb g) w4 w5):=Ab (u3.mono fun k _ e=>e.elim Or.inl fun e=>Or.inr ⟨g,hga,e⟩)
 clear u1 u2 u3 hX
 all_goals
  have HA4:=Ab ya4
  have HB4:=Ab yb4
  clear ya4 yb4 xb4 x24
  have za5 : w5.drew.heap[w.heap.size]? = _:=ya5
  have zb5 : w5.drew.heap[w.heap.size+1]? = _:=yb5
  refine wp_region_held_drew (S:=fun W=>W.cell? ⟨w.heap.size,0,none⟩=some (.string (Ae a))∧W.cell? ⟨w.heap.size+1,0,none⟩=some (.string (Ae b))) (by kernel_rfl) (⟨Ad za5 0,Ad zb5 0⟩) (fun hHeld=>?_)
  refine Aa (i:=0) (v:=?_) rfl (by kernel_rfl) (by kernel_rfl) (by kernel_rfl) (fun _ _ _ h=>h) rfl ?_ hHeld ?_
  rotate_left
  ·intro w hS; (try dsimp only at hS); obtain ⟨hS0,hS1⟩:=hS; go_simp; first | done | (with_reducible rfl)
  try simp only [Act.put,List.setIfInBounds_toArray,List.set_cons_zero,List.set_cons_succ]
  refine Aa (i:=2) (v:=?_) rfl (by kernel_rfl) (by kernel_rfl) (by kernel_rfl) (fun _ _ _ h=>h) rfl ?_ hHeld ?_
  rotate_left
  ·intro w hS; (try dsimp only at hS); obtain ⟨hS0,hS1⟩:=hS; go_simp; first | done | (with_reducible rfl)
  try simp only [Act.put,List.setIfInBounds_toArray,List.set_cons_zero,List.set_cons_succ]
  refine An (i:=1) rfl (by kernel_rfl) rfl (fun K hK=>?_)
  go_simp
  refine (E8 _ a (by omega)).mono ?_
  rintro e w6 ⟨rfl,hb6⟩
  have ya6:=(hb6.block w.heap.size (At za5)).trans za5
  have yb6:=(hb6.block (w.heap.size+1) (At zb5)).trans zb5
  refine hK.out _ _ (⟨Ad ya6 0,Ad yb6 0⟩) (fun hHeld=>?_)
  clear hK K
  try simp only [Act.put,List.setIfInBounds_toArray,List.set_cons_zero,List.set_cons_succ]
  refine An (i:=3) rfl (by kernel_rfl) rfl (fun K hK=>?_)
  go_simp
  refine (E8 _ b (by omega)).mono ?_
  rintro e w7 ⟨rfl,hb7⟩
  have ya7:=(hb7.block w.heap.size (At ya6)).trans ya6
  have yb7:=(hb7.block (w.heap.size+1) (At yb6)).trans yb6
  have ta7:=Au ya7 0
  refine hK.out _ _ (⟨Ad ya7 0,Ad yb7 0⟩) (fun hHeld=>?_)
  clear hK K
  try simp only [Act.put,List.setIfInBounds_toArray,List.set_cons_zero,List.set_cons_succ]
  refine An (i:=4) rfl (by kernel_rfl) rfl (fun K hK=>?_)
  go_simp
  have hsa:=Jc ya7
  have ya8:=hsa.keep ya7 (fun h=>h)
  have yb8:=hsa.keep yb7 (fun h=>h)
  have HC8 : Hid (Chg (fun k=>k=d ∨ ∃ g,B0 S.next.dir (.ren a b)=some g∧k=G'.fb g) w4 (w7.setCell ⟨w.heap.size,0,none⟩ (.string (Ae a)))):=Ab (((HC5.out.drew.trans (Chg.of_below hb6) (fun i hi h=>absurd (Nat.lt_of_lt_of_le hi HC5.out.size) (Nat.not_lt_of_le h))).trans (Chg.of_below hb7) (fun i hi h=>absurd (Nat.lt_of_lt_of_le hi (Nat.le_trans HC5.out.size hb6.size)) (Nat.not_lt_of_le h))).then (hsa.mono fun _ _ h=>h.elim))
  have HD8:=Ab (hsa.keep ((hb7.block d (Nat.lt_of_lt_of_le (At HD5.out) hb6.size)).trans ((hb6.block d (At HD5.out)).trans HD5.out)) (fun h=>h))
  have HG8 : Hid (∀ g,B0 S.next.dir (.ren a b)=some g→(w7.setCell ⟨w.heap.size,0,none⟩ (.string (Ae a))).heap[G'.fb g]? = some (.cells #[G'.rv g,G'.sv g, .bool false] 118)):=Ab (fun g hg=>hsa.keep ((hb7.block _ (Nat.lt_of_lt_of_le (At (HG5.out g hg)) hb6.size)).trans ((hb6.block _ (At (HG5.out g hg))).trans (HG5.out g hg))) (fun h=>h))
  refine hK.out _ _ (⟨Ad ya8 0,Ad yb8 0⟩) (fun hHeld=>?_)
  clear hK K
  try simp only [Act.put,List.setIfInBounds_toArray,List.set_cons_zero,List.set_cons_succ]
  clear HC5 HD5 HG5 hsa hb6 hb7 ya5 yb5 za5 zb5 ya6 yb6 ya7 yb7 ta7
  generalize w7.setCell ⟨w.heap.size,0,none⟩ (.string (Ae a))=w8 at *
  have tb8:=Au yb8 0
  refine An (i:=5) rfl (by kernel_rfl) rfl (fun K hK=>?_)
  go_simp
  have hsb:=Jc yb8
  have ya9:=hsb.keep ya8 (fun h=>h)
  have yb9:=hsb.keep yb8 (fun h=>h)
  have HC9:=Ab (HC8.out.then (hsb.mono fun _ _ h=>h.elim))
  have HD9:=Ab (hsb.keep HD8.out (fun h=>h))
  have HG9 : Hid (∀ g,B0 S.next.dir (.ren a b)=some g→(w8.setCell ⟨w.heap.size+1,0,none⟩ (.string (Ae b))).heap[G'.fb g]? = some (.cells #[G'.rv g,G'.sv g, .bool false] 118)):=Ab (fun g hg=>hsb.keep (HG8.out g hg) (fun h=>h))
  refine hK.out _ _ (⟨Ad ya9 0,Ad yb9 0⟩) (fun hHeld=>?_)
  clear hK K
  try simp only [Act.put,List.setIfInBounds_toArray,List.set_cons_zero,List.set_cons_succ]
  refine wpAnyH_done (by kernel_rfl) ?_ _
  clear hHeld
  clear HC8 HD8 HG8 hsb ya8 yb8 tb8
  generalize w8.setCell ⟨w.heap.size+1,0,none⟩ (.string (Ae b))=w9 at *
  have hca : Fx F w w4 w.heap.size:=Or.inr ⟨Nat.le_refl _,At HA4.out⟩
  have hcb : Fx F w w4 (w.heap.size+1):=Or.inr ⟨Nat.le_succ _,At HB4.out⟩
  have hch:=Nn (w2:=w9) (a:=.ren a b) HR4.out hbn (HR4.out.ok.ren hl1 hab) ⟨hl1,hab⟩ rfl rfl (by omega) HC9.out HD9.out HG9.out
   (g:=148) (caps:=#[.pointer (some ⟨w.heap.size,0,none⟩), .pointer (some ⟨w.heap.size+1,0,none⟩)]) enters54
   (fun W hm hW=>ren1_any W bn w.heap.size (w.heap.size+1) G'.fb S.next.dir a b HR4.out.ok.sortD hm hl1 hab (hW.keep ya9 (fun h=>h)) (hW.keep yb9 (fun h=>h)))
   (fun w' hk=>⟨w.heap.size,w.heap.size+1,rfl,Or.inl hca,Or.inl hcb,hk _ _ ya9,hk _ _ yb9⟩)
  go_wp2_with (go_at_call 147; refine hch.mono ?_; rintro e w10 ⟨rfl,G5,hr5,hc5⟩; have HR5:=Ab hr5; have HC10:=Ab hc5; clear hr5 hc5 hch)
  go_ret
  refine ⟨rfl,G5,HR5.out.mono (fun k hk=>?_),HC4.out.trans HC10.out (fun i hi h=>?_)⟩
  ·rcases hk with (hk | ⟨a,b⟩) | ⟨a,b⟩
   ·exact Or.inl hk
   ·exact Or.inr ⟨a,Nat.lt_of_lt_of_le b HC10.out.size⟩
   ·exact Or.inr ⟨Nat.le_trans HC4.out.size a,b⟩
  ·rcases h with h | ⟨a,b⟩
   ·exact h
   ·exact absurd hi (Nat.not_lt_of_le a)
theorem rename_rep (h : Rep w F d S G) (hlow : ∀ k,F k→k<w.heap.size) (hb : S.bulk+1<1099511627776) (a b : Nm) : Calls Tryz.prog 122 #[.pointer (some ⟨d,0,none⟩), .string (Ae a), .string (Ae b)] w fun e w'=>e = .returned (.int .i64 (S.rename a b).2) ∧
  ∃ G',Rep w' (Fx F w w') d (S.rename a b).1 G'∧Chg F w w':=by
 have hnl:=n_le S
 unfold Dk.rename
 by_cases hon : S.on=false
 ·simp only [if_pos hon]
  exact rename_off h hon a b
 simp only [if_neg hon]
 have hon' : S.on=true:=by simpa using hon
 by_cases hn : Am a=false∨Am b=false
 ·simp only [if_pos hn]
  exact rename_name h hlow hon' (by omega) a b hn
 simp only [if_neg hn]
 have h1 : Am a=true:=by
  rcases Bool.eq_false_or_eq_true (Am a) with e | e
  ·exact e
  ·exact absurd (Or.inl e) hn
 have h2 : Am b=true:=by
  rcases Bool.eq_false_or_eq_true (Am b) with e | e
  ·exact e
  ·exact absurd (Or.inr e) hn
 cases hl : look S.dir a with
 | none=>
  simp only [if_true]
  exact rename_none h hlow hon' (by omega) a b h1 h2 hl
 | some f=>
  simp only [reduceCtorEq,if_false]
  by_cases hf : S.fails S.n=true
  ·simp only [if_pos hf]
   exact rename_io h hlow hon' (by omega) a b h1 h2 hl 34 (Or.inl ⟨hf,rfl⟩)
  have hf' : S.fails S.n=false:=by simpa using hf
  simp only [if_neg hf]
  by_cases hab : a=b
  ·simp only [if_pos hab]
   exact rename_io h hlow hon' (by omega) a b h1 h2 hl 0 (Or.inr ⟨hf',hab,rfl⟩)
  simp only [if_neg hab]
  exact rename_ok h hlow hon' hb a b h1 h2 hl hf' hab
end
end Go.Proofs.YtblniomnhpedjaaGreatDoor
namespace Go.Proofs.YtblniomnhpedjaaGreatDoor
open Go.RowKit
def Bare (w : World) (vs : List (Value × Value)) (k : Nat) : Prop:=(∃ p∈vs,p.1 = .pointer (some ⟨k,0,none⟩))∧∃ r s,w.heap[k]? = some (.cells #[r,s, .bool false] 118)
def Shaped (w w' : World) : Prop:=∀ (k : Nat) (r s : Value) (nm : Bool),w.heap[k]? = some (.cells #[r,s, .bool nm] 118)→∃ r',w'.heap[k]? = some (.cells #[r',s, .bool nm] 118)
theorem not_bare {w : World} {vs : List (Value × Value)} {k : Nat} {o : Obj} (h : w.heap[k]? = some o) (ht : tag o≠118) : ¬ Bare w vs k:=fun ⟨_,_,_,hb⟩=>As h hb ht rfl
set_option maxRecDepth 20000 in
set_option maxHeartbeats 400000 in
theorem forget_any (w : World) (d n : Nat) (r u o1 o2 lv o4 c1 c2 fl : Value) (vs : List (Value × Value)) (hd : w.heap[d]? = some (.cells #[r,u,o1,o2,lv,o4,c1,c2,fl] 89)) (hn : vs.length=n) (hrow : w.ownsRow 0 111 2 lv n (vc vs)) (hb : n<1099511627776)
  (hp : ∀ p∈vs,∃ b r s,∃ nm : Bool,p.1 = .pointer (some ⟨b,0,none⟩)∧w.heap[b]? = some (.cells #[r,s, .bool nm] 118)) (hfn : ∀ p∈vs,∃ fn fs cs,p.2 = .func fn fs cs) :
  Calls Tryz.prog 167 #[.pointer (some ⟨d,0,none⟩)] w fun e w'=>e = .returned (.tuple #[])∧Chg (Bare w vs) w w'∧Shaped w w':=by
 obtain ⟨a,cap,rfl⟩:=Do hrow
 have hdl:=Ad hd 4
 have hrn : ∀ k,(Value.slice a n cap).ownBlock=some k→¬ Bare w vs k:=fun k hk=>by
  obtain ⟨cur,hcur⟩:=Aw hrow hk
  exact not_bare hcur (show 111≠118 by decide)
 go_enter Tryz.func167,Tryz.ntmps167
 go_wp2_with fail
 go_loopw [9] (fun x wr=>∃ k : Nat,k≤n∧x = .int .i64 (k : Int)∧Chg (Bare w vs) w wr∧Shaped w wr) (fun x _=>n - (intOf x).toNat)
 case atStart=>exact ⟨0,Nat.zero_le _,rfl,Chg.refl _ _,fun k r s nm h=>⟨r,h⟩⟩
 case round=>
  obtain ⟨k,hk,rfl,hc,hsh⟩:=hrel
  by_cases hlt : k<n
  ·obtain ⟨p,hpk⟩ : ∃ p,vs[k]? = some p:=⟨_,List.getElem?_eq_getElem (by omega)⟩
   obtain ⟨o,v⟩:=p
   have hpm:=List.mem_of_getElem? hpk
   have hrr:=Bb hrow hc hrn
   obtain ⟨g,hg⟩ : ∃ g,a=some ⟨g,0,none⟩:=by
    rcases hrr.2 with ⟨e1,e2⟩ | ⟨g,cap,cur,e1,_⟩
    ·omega
    ·injection e1 with e1
     exact ⟨g,e1⟩
   subst hg
   have x0:=hrr.cellAt (k * 2) (by omega)
   have x1:=hrr.cellAt (k * 2+1) (by omega)
   rw [(Dq hpk).1] at x0
   rw [(Dq hpk).2] at x1
   obtain ⟨b,r0,s0,nm,hpo,hfb⟩:=hp _ hpm
   obtain ⟨fn,fs,fc,hfv⟩:=hfn _ hpm
   simp only at hpo hfv
   subst hpo hfv
   obtain ⟨r1,hf1⟩:=hsh b r0 s0 nm hfb
   have hf2:=Bc (.cells #[.pointer (some ⟨b,0,none⟩), .func fn fs fc] 111) hf1
   have y2:=Ad hf2 2
   have y0:=Ad hf2 0
   have t2:=Au hf2 0
   have HSH:=Ab hsh
   have HC:=Ab hc
   have HPP:=Ab hp
   have HRN:=Ab hrn
   clear hsh hrr hp hc hrn hdl
   cases nm with
   | true=>
    go_wp2_with fail
    go_roundw
    case rel=>exact ⟨k+1,by omega,by go_num,HC.out.alloc _,fun j r s nm h=>by
     obtain ⟨r',hr'⟩:=HSH.out j r s nm h
     exact ⟨r',Bc _ hr'⟩⟩
    case measure=>simp [intOf]; omega
   | false=>
    go_wp2_with fail
    go_roundw
    case rel=>
     refine ⟨k+1,by omega,by go_num,(HC.out.alloc _).setCell (p:=⟨b,0,none⟩) (Or.inl ⟨⟨_,hpm,rfl⟩,r0,s0,hfb⟩) _,fun j r s nm h=>?_⟩
     obtain ⟨r',hr'⟩:=HSH.out j r s nm h
     have hr2:=Bc (.cells #[.pointer (some ⟨b,0,none⟩), .func fn fs fc] 111) hr'
     by_cases e : j=b
     ·subst e
      exact ⟨_,Ax hr2 0 _⟩
     ·exact ⟨r',Ct hr2 e⟩
    case measure=>simp [intOf]; omega
  ·have hkn : k=n:=by omega
   clear hp
   go_wp2
   go_end0
   exact ⟨rfl,hc,hsh⟩
end Go.Proofs.YtblniomnhpedjaaGreatDoor
namespace Go.Proofs.YtblniomnhpedjaaGreatDoor
open Go.RowKit
def Dk.settled (S : Dk) (D : Dir) : Dk:={ S with dir:=D,sure:=D,acts:=S.acts.filter A4 }
theorem Io {S : Dk} {D : Dir} {i : Nat} : (S.settled D).live i↔i∈ids D:=by
 unfold Dk.live Dk.settled
 simp only [(G9 (Ig S.acts)).2.2]
 simp
theorem Jy {S : Dk} {D : Dir} {i : Nat} (hD : ∀ i∈ids D,S.live i) (h : (S.settled D).known i) : S.known i:=by
 rcases h with h | h
 ·exact Or.inl (hD i (Io.1 h))
 ·exact Or.inr (Ij h)
section
variable {w w' : World} {F : Nat→Prop} {d : Nat} {S : Dk} {G : Gh}
theorem Rep.directed (h : Rep w F d S G) {D : Dir} (hD : ∀ i∈ids D,S.live i) (hok : Ok (S.settled D)) {now sure : Option Nat} {lv : Value}
  (hc : Chg (fun k=>k=d∨some k=G.now∨some k=G.sure∨some k=G.lv.ownBlock ∨ ∃ i,S.known i∧k=G.fb i) w w')
  (hd : w'.heap[d]? = some (.cells #[.int .i64 (S.room : Int), .int .i64 ((Ba S.files D : Nat) : Int), .map now, .map sure,lv, .int .i64 (S.n : Int), .bool S.cut.isSome, .int .i64 G.cv, .map G.fls] 89))
  (hnow : Bf w' (Fx F w w') now (dv G.fb D)) (hsure : Bf w' (Fx F w w') sure (dv G.fb D)) (hboth : now=none↔sure=none) (h1 : ∀ b,now=some b→sure≠some b∧G.fls≠some b) (h2 : ∀ b,sure=some b→G.fls≠some b)
  (hbare : now=none→S.acts = [])
  (hlv : lv.ownBlock=G.lv.ownBlock) (hrow : w'.ownsRow 0 111 2 lv (G.vs.filter fun p=>!D6 p.1 (.pointer none)).length (vc (G.vs.filter fun p=>!D6 p.1 (.pointer none))))
  (hfiles : ∀ i,S.known i→∃ r,w'.heap[G.fb i]? = some (.cells #[r,G.sv i, .bool (decide (i∈ids D))] 118)∧(i∈ids D→r=G.rv i)) :
  ∃ G',Rep w' (Fx F w w') d (S.settled D) G':=by
 have hXn : ∀ k o,w.heap[k]? = some o→tag o≠89→tag o≠100000→tag o≠118→tag o≠111→¬ (k=d∨some k=G.now∨some k=G.sure∨some k=G.lv.ownBlock ∨ ∃ i,S.known i∧k=G.fb i):=by
  intro k o ho t1 t2 t3 t4 e
  rcases e with rfl | e | e | e | ⟨i,hi,rfl⟩
  ·exact As ho h.disk t1 rfl
  ·have:=h.now
   rw [← e] at this
   obtain ⟨es,ck,hh,_⟩:=this.2
   exact As ho hh t2 rfl
  ·have:=h.sure
   rw [← e] at this
   obtain ⟨es,ck,hh,_⟩:=this.2
   exact As ho hh t2 rfl
  ·obtain ⟨cur,hcur⟩:=Aw h.row e.symm
   exact As ho hcur t4 rfl
  ·exact As ho (h.files i hi).2 t3 rfl
 have hsp : Dh w (fun k=>k=d∨some k=G.now∨some k=G.sure∨some k=G.lv.ownBlock ∨ ∃ i,S.known i∧k=G.fb i):=by
  have hmap : ∀ {o : Option Nat} {l : List (Value × Value)},Bf w F o l→Dh w (fun k=>some k=o):=by
   intro o l hm k x t h1 h2 e
   rw [← e] at hm
   exact J1 hm.2 k x t h1 h2 rfl
  refine (D3 h.disk (by decide)).or ((hmap h.now).or ((hmap h.sure).or ((G7 h.row (by decide)).or ?_)))
  rintro k x t h1 h2 ⟨g,hg,rfl⟩
  exact D3 (h.files g hg).2 (by decide) _ x t h1 h2 rfl
 have hz:=Kq (R:=ActW w' (Fx F w w') G.fb) (p:=A4) (q:=fun p : Value × Value=>!D6 p.1 (.pointer none)) S.acts G.vs h.many (fun j a p ha hp=>⟨h.actsKeep hc hsp (fun _ h=>Or.inl h) j a p ha hp,h.same_dir ha hp⟩)
 obtain ⟨rv,hrv⟩ : ∃ rv : Nat→Value,∀ i,S.known i→w'.heap[G.fb i]? = some (.cells #[rv i,G.sv i, .bool (decide (i∈ids D))] 118)∧(i∈ids D→rv i=G.rv i):=by
  classical
  exact ⟨fun i=>if hi : S.known i then Classical.choose (hfiles i hi) else .nilFunc,fun i hi=>by
   simp only [dif_pos hi]
   exact Classical.choose_spec (hfiles i hi)⟩
 have hrd : ∀ i,i∈ids D→rv i=G.rv i:=fun i hi=>(hrv i (Or.inl (hD i hi))).2 hi
 refine ⟨{ G with rv:=rv,now:=now,sure:=sure,lv:=lv,vs:=G.vs.filter fun p=>!D6 p.1 (.pointer none) },
  {
   ok:=hok
   disk:=hd
   inD:=Or.inl h.inD
   roomy:=h.roomy
   cutv:=h.cutv
   now:=hnow
   sure:=hsure
   both:=hboth
   bare:=fun e=>by show S.acts.filter A4 = []; rw [hbare e]; rfl
   fails:=?_
   two:=h1
   three:=h2
   row:=hrow
   rowF:=fun k hk=>Or.inl (h.rowF k (by rw [← hlv]; exact hk))
   many:=hz.1
   acts:=hz.2
   files:=fun i hi=>⟨Or.inl (h.files i (Jy hD hi)).1,(hrv i (Jy hD hi)).1⟩
   inj:=fun i j hi hj e=>h.inj i j (Jy hD hi) (Jy hD hj) e
   bytes:=fun i y hi hy=>?_
   apart:=fun i j k hi hj e1 e2=>?_ }⟩
 ·obtain ⟨l,g1,g2⟩:=h.fails
  refine ⟨l,g1.keep hc (fun b e hX=>?_) (fun _ h=>Or.inl h),g2⟩
  have hfm:=g1
  rw [e] at hfm
  rcases hX with e2 | e2 | e2 | e2 | ⟨i,hi,e2⟩
  ·exact hfm.2.ne h.disk e2.symm
  ·exact (h.two b e2.symm).2 e
  ·exact h.three b e2.symm e
  ·obtain ⟨cur,hcur⟩:=Aw h.row e2.symm
   exact hfm.2.ne hcur rfl
  ·exact hfm.2.ne (h.files i hi).2 e2.symm
 ·have hi':=Io.1 hi
  obtain ⟨c1,c2,c3⟩:=h.bytes i y (hD i hi') hy
  show G.sv i=_∧w'.ownsRow 0 _ 1 (rv i) _ _∧∀ k,(rv i).ownBlock=some k→_
  rw [hrd i hi']
  refine ⟨c1,Bb c2 hc (fun k hk=>?_),fun k hk=>Or.inl (c3 k hk)⟩
  obtain ⟨cur,hcur⟩:=Aw c2 hk
  exact hXn k _ hcur (show 5≠89 by decide) (show 5≠100000 by decide) (show 5≠118 by decide) (show 5≠111 by decide)
 ·have hi':=Io.1 hi
  have hj':=Io.1 hj
  have e1' : (rv i).ownBlock=some k:=e1
  have e2' : (rv j).ownBlock=some k:=e2
  rw [hrd i hi'] at e1'
  rw [hrd j hj'] at e2'
  exact h.apart i j k (hD i hi') (hD j hj') e1' e2'
end
end Go.Proofs.YtblniomnhpedjaaGreatDoor
namespace Go.Proofs.YtblniomnhpedjaaGreatDoor
open Go.RowKit
section
variable {w w' wr : World} {F : Nat→Prop} {d : Nat} {S : Dk} {G : Gh}
theorem Rep.finish (h : Rep w F d S G) (hb : S.bulk<1099511627776) {D : Dir} (hD : ∀ i∈ids D,S.live i) (hok : Ok (S.settled D)) {now sure : Option Nat}
  (hc : Chg (fun k=>k=d∨some k=G.now∨some k=G.sure ∨ ∃ i,S.known i∧k=G.fb i) w wr)
  (hd : wr.heap[d]? = some (.cells #[.int .i64 (S.room : Int), .int .i64 ((Ba S.files D : Nat) : Int), .map now, .map sure,G.lv, .int .i64 (S.n : Int), .bool S.cut.isSome, .int .i64 G.cv, .map G.fls] 89))
  (hnow : Bf wr (Fx F w wr) now (dv G.fb D)) (hsure : Bf wr (Fx F w wr) sure (dv G.fb D)) (hboth : now=none↔sure=none) (h1 : ∀ b,now=some b→sure≠some b∧G.fls≠some b) (h2 : ∀ b,sure=some b→G.fls≠some b)
  (hbare : now=none→S.acts = [])
  (hfiles : ∀ i,S.known i→wr.heap[G.fb i]? = some (.cells #[G.rv i,G.sv i, .bool (decide (i∈ids D))] 118)) :
  Calls Tryz.prog 160 #[.pointer (some ⟨d,0,none⟩), .pointer none] wr fun e w1=>e = .returned (.tuple #[]) ∧
   Calls Tryz.prog 167 #[.pointer (some ⟨d,0,none⟩)] w1 fun e w2=>e = .returned (.tuple #[])∧(∃ G',Rep w2 (Fx F w w2) d (S.settled D) G')∧Chg F w w2:=by
 have hal:=E6 S
 have hmany:=h.many
 have hrn : ∀ j,G.lv.ownBlock=some j→¬ (j=d∨some j=G.now∨some j=G.sure ∨ ∃ i,S.known i∧j=G.fb i):=fun j hj e=>by
  obtain ⟨cur,hcur⟩:=Aw h.row hj
  rcases e with rfl | e | e | ⟨i,hi,rfl⟩
  ·exact As hcur h.disk (show 111≠89 by decide) rfl
  ·have hm:=h.now
   rw [← e] at hm
   exact hm.2.ne hcur rfl
  ·have hm:=h.sure
   rw [← e] at hm
   exact hm.2.ne hcur rfl
  ·exact As hcur (h.files i hi).2 (show 111≠118 by decide) rfl
 have hrr:=Bb h.row hc hrn
 have hof : ∀ p∈G.vs,p.1 = .pointer none ∨ ∃ i,S.known i∧p.1 = .pointer (some ⟨G.fb i,0,none⟩):=fun p hp=>by
  obtain ⟨a,ha,hw⟩:=h.pair hp
  rcases hw.first with ⟨_,e2⟩ | ⟨f,j,rfl,e2⟩
  ·exact Or.inl e2
  ·exact Or.inr ⟨f,Or.inr (Gt ha),e2⟩
 refine (K8 wr d G.vs.length _ _ _ _ _ _ _ _ _ (.pointer none) G.vs hd rfl hrr (fun p hp=>?_) (Or.inl rfl) (by omega) h.pvn (fun b e=>by cases e) h.funcs).mono ?_
 ·rcases hof p hp with e | ⟨i,hi,e⟩
  ·exact Or.inl e
  ·exact Or.inr ⟨_,_,_,e,hfiles i hi⟩
 rintro e w1 ⟨rfl,lv',q1,q2,q3,q4⟩
 refine ⟨rfl,?_⟩
 have hnf : ∀ i,S.known i→¬ (G.fb i=d∨some (G.fb i)=G.lv.ownBlock):=fun i hi e=>by
  rcases e with e | e
  ·exact h.ne_file hi e.symm
  ·obtain ⟨cur,hcur⟩:=Aw h.row e.symm
   exact As (h.files i hi).2 hcur (show 118≠111 by decide) rfl
 have hf1 : ∀ i,S.known i→w1.heap[G.fb i]? = some (.cells #[G.rv i,G.sv i, .bool (decide (i∈ids D))] 118):=fun i hi=>q4.keep (hfiles i hi) (hnf i hi)
 have hfl : ∀ p∈G.vs.filter fun p=>!D6 p.1 (.pointer none),∃ i,S.known i∧p.1 = .pointer (some ⟨G.fb i,0,none⟩):=fun p hp=>by
  obtain ⟨hp1,hp2⟩:=List.mem_filter.1 hp
  rcases hof p hp1 with e | e
  ·rw [e] at hp2
   cases hp2
  ·exact e
 have hle:=List.length_filter_le (fun p : Value × Value=>!D6 p.1 (.pointer none)) G.vs
 refine (forget_any w1 d _ _ _ _ _ lv' _ _ _ _ (G.vs.filter fun p=>!D6 p.1 (.pointer none)) q1 rfl q3 (by omega) (fun p hp=>?_) (fun p hp=>h.funcs p (List.mem_filter.1 hp).1)).mono ?_
 ·obtain ⟨i,hi,e⟩:=hfl p hp
  exact ⟨_,_,_,_,e,hf1 i hi⟩
 rintro e w2 ⟨rfl,q5,q6⟩
 have hb5 : ∀ k,Bare w1 (G.vs.filter fun p=>!D6 p.1 (.pointer none)) k→∃ i,S.known i∧k=G.fb i∧i ∉ ids D:=fun k ⟨⟨p,hp,e⟩,r,s,hk⟩=>by
  obtain ⟨i,hi,e2⟩:=hfl p hp
  rw [e] at e2
  injection e2 with e2
  injection e2 with e2
  injection e2 with e2
  refine ⟨i,hi,e2,fun hiD=>?_⟩
  rw [e2,hf1 i hi,decide_eq_true hiD] at hk
  injection hk with hk
  injection hk with hk
  simp at hk
 have hX : Chg (fun k=>k=d∨some k=G.now∨some k=G.sure∨some k=G.lv.ownBlock ∨ ∃ i,S.known i∧k=G.fb i) w w2:=by
  refine ((hc.mono fun k _ e=>?_).then (q4.mono fun k _ e=>?_)).then (q5.mono fun k _ e=>?_)
  ·rcases e with e | e | e | e
   ·exact Or.inl e
   ·exact Or.inr (Or.inl e)
   ·exact Or.inr (Or.inr (Or.inl e))
   ·exact Or.inr (Or.inr (Or.inr (Or.inr e)))
  ·rcases e with e | e
   ·exact Or.inl e
   ·exact Or.inr (Or.inr (Or.inr (Or.inl e)))
  ·obtain ⟨i,hi,e,_⟩:=hb5 k e
   exact Or.inr (Or.inr (Or.inr (Or.inr ⟨i,hi,e⟩)))
 have hmo : ∀ {o : Option Nat} {l : List (Value × Value)},Bf wr (Fx F w wr) o l→Bf w2 (Fx F w w2) o l:=fun {o l} hm=>by
  cases o with
  | none=>exact hm
  | some b=>
   refine ⟨?_,(hm.2.keep q4 (fun e=>?_)).keep q5 (fun e=>?_)⟩
   ·rcases hm.1 with hh | ⟨a1,a2⟩
    ·exact Or.inl hh
    ·exact Or.inr ⟨a1,Nat.lt_of_lt_of_le a2 (Nat.le_trans q4.size q5.size)⟩
   ·rcases e with e | e
    ·exact hm.2.ne hd e.symm
    ·obtain ⟨cur,hcur⟩:=Aw hrr e.symm
     exact hm.2.ne hcur rfl
   ·obtain ⟨i,hi,e,_⟩:=hb5 b e
    exact hm.2.ne (hfiles i hi) e.symm
 have hd2:=q5.keep q1 (fun e=>by
  obtain ⟨i,hi,e,_⟩:=hb5 d e
  exact h.ne_file hi e)
 refine ⟨rfl,h.directed hD hok hX hd2 (hmo hnow) (hmo hsure) hboth h1 h2 hbare q2 (Bb q3 q5 (fun k hk e=>?_)) (fun i hi=>?_),hX.mono fun k _ e=>?_⟩
 ·obtain ⟨i,hi,e,_⟩:=hb5 k e
  rw [q2] at hk
  exact hnf i hi (Or.inr (by rw [← e,hk]))
 ·by_cases hiD : i∈ids D
  ·refine ⟨_,q5.keep (hf1 i hi) (fun e=>?_),fun _=>rfl⟩
   obtain ⟨j,hj,e,hn⟩:=hb5 _ e
   exact hn (h.inj i j hi hj e ▸ hiD)
  ·obtain ⟨r',hr'⟩:=q6 _ _ _ _ (hf1 i hi)
   exact ⟨r',hr',fun e=>absurd e hiD⟩
 ·rcases e with rfl | e | e | e | ⟨i,hi,rfl⟩
  ·exact h.inD
  ·have hm:=h.now
   rw [← e] at hm
   exact hm.1
  ·have hm:=h.sure
   rw [← e] at hm
   exact hm.1
  ·exact h.rowF k e.symm
  ·exact (h.files i hi).1
end
end Go.Proofs.YtblniomnhpedjaaGreatDoor
