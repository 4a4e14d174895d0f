/-
  How an operation begins: begin, beginOn. Conditions: what lies there is told by hypotheses.
-/
import Derived.Test.YtblniomnhpedjaaGreatDoorP5Rep
namespace Go.Proofs.YtblniomnhpedjaaGreatDoor
open Go.RowKit
set_option maxRecDepth 20000 in
theorem begin_off (w : World) (d : Nat) (r u o1 o2 lv fl : Value) (n cut : Int) (hd : w.heap[d]? = some (.cells #[r,u,o1,o2,lv, .int .i64 n, .bool true, .int .i64 cut,fl] 89)) (hc : cut≤n) :
  Calls Tryz.prog 140 #[.pointer (some ⟨d,0,none⟩)] w fun e w'=>e = .returned (.tuple #[.bool false, .int .i64 35])∧Chg (fun _=>False) w w':=by
 have x5:=Ad hd 5
 have x6:=Ad hd 6
 have x7:=Ad hd 7
 have hg : decide (cut≤n)=true:=by simpa using hc
 go_enter Tryz.func140,Tryz.ntmps140
 go_wp2_with fail
 go_quiet (fail)
 go_wp2
 go_ret2
 exact ⟨rfl,(Chg.refl _ _).drewN _⟩
theorem kint (w : World) : KeyKind Tryz.prog 3 w KInt:=kind_int Tryz.underlying3
theorem zero97 (w : World) : (zeroValue 102).run Tryz.prog w = .ok (.agg #[]) w:=by kernel_rfl
theorem G6 (l : List Int) : ∀ p∈fv l,KInt p.1:=by
 intro p hp
 obtain ⟨q,_,rfl⟩:=List.mem_map.1 hp
 exact ⟨_,rfl⟩
theorem fv_ne {l : List Int} {n : Int} (h : n ∉ l) : ∀ p∈fv l,p.1 ≠ .int .i64 n:=by
 intro p hp e
 obtain ⟨q,hq,rfl⟩:=List.mem_map.1 hp
 injection e with _ e
 exact h (e ▸ hq)
theorem E2 {w : World} {F : Nat→Prop} {o : Option Nat} {l : List Int} (h : Be w F o (fv l)) (n : Int) :
  (Instr.lookup 87 (.map o) (.int .i64 n) true).run Tryz.prog w = .ok (.tuple #[.agg #[], .bool (decide (n∈l))]) w:=by
 cases o with
 | none=>
  have hl : l = []:=by simpa [Be,fv] using h
  subst hl
  have:=nil_look (c:=true) Tryz.underlying87 ((kint w).check true _ ⟨n,rfl⟩) (MapKept.run_findKey Tryz.underlying3 rfl) (zero97 w)
  simpa using this
 | some b=>
  by_cases hn : n∈l
  ·have hp : (fv l).Perm ((.int .i64 n, .agg #[]) :: fv (l.erase n)):=(List.perm_cons_erase hn).map _
   have:=(h.2.perm hp).look (kint w) (G6 _) Tryz.underlying87 ⟨n,rfl⟩ true
   simpa [hn] using this
  ·have:=h.2.look_none (kint w) (G6 _) Tryz.underlying87 ⟨n,rfl⟩ (fv_ne hn) (zero97 w) true
   simpa [hn] using this
theorem I3 {w : World} {F : Nat→Prop} {o : Option Nat} {l : List Int} (h : Be w F o (fv l)) (n : Int) :
  ∃ w',(Builtin.delete_ #[87,3] 0 #[.map o, .int .i64 n]).run Tryz.prog w = .ok (.tuple #[]) w'∧Be w' F o (fv (l.erase n))∧Chg (fun k=>some k=o) w w':=by
 cases o with
 | none=>
  have hl : l = []:=by simpa [Be,fv] using h
  subst hl
  exact ⟨w,nil_drop Tryz.underlying87 ((kint w).check true _ ⟨n,rfl⟩) _ _,rfl,Chg.refl _ _⟩
 | some b=>
  by_cases hn : n∈l
  ·have hp : (fv l).Perm ((.int .i64 n, .agg #[]) :: fv (l.erase n)):=(List.perm_cons_erase hn).map _
   obtain ⟨w',h1,h2,h3,_⟩:=(h.2.perm hp).drop_old (kint w) (G6 _) Tryz.underlying87 ⟨n,rfl⟩ 0 3
   exact ⟨w',h1,⟨h.1,h2⟩,h3.mono fun k _ e=>by rw [e]⟩
  ·obtain ⟨w',h1,h2,h3,_⟩:=h.2.drop_none (kint w) (G6 _) Tryz.underlying87 ⟨n,rfl⟩ (fv_ne hn) 0 3
   rw [List.erase_of_not_mem hn]
   exact ⟨w',h1,⟨h.1,h2⟩,h3.mono fun k _ e=>by rw [e]⟩
set_option maxRecDepth 20000 in
set_option maxHeartbeats 800000 in
theorem begin_some (w : World) (F : Nat→Prop) (d bn : Nat) (r u o2 lv : Value) (fls : Option Nat) (cuts : Bool) (n cut : Int) (l : List Int) (hd : w.heap[d]? = some (.cells #[r,u, .map (some bn),o2,lv, .int .i64 n, .bool cuts, .int .i64 cut, .map fls] 89))
  (hg : cuts=false∨(cuts=true∧n<cut)) (hf : Be w F fls (fv l)) (hn0 : 0≤n) (hn : n<4611686018427387904) :
  Calls Tryz.prog 140 #[.pointer (some ⟨d,0,none⟩)] w fun e w'=>e = .returned (.tuple #[.bool (decide (n∈l)), .int .i64 0]) ∧
   w'.heap[d]? = some (.cells #[r,u, .map (some bn),o2,lv, .int .i64 (n+1), .bool cuts, .int .i64 cut, .map fls] 89)∧Be w' F fls (fv (l.erase n))∧Chg (fun k=>k=d∨some k=fls) w w':=by
 have q2:=Ad hd 2
 have q5:=Ad hd 5
 have q6:=Ad hd 6
 have q7:=Ad hd 7
 have hqm:=eqM62
 go_enter Tryz.func140,Tryz.ntmps140
 go_wp2_with fail
 rcases hg with rfl | ⟨rfl,hlt⟩
 ·go_quiet (fail)
  go_wp2_with fail
  have hc0 : Chg (fun _=>False) w (w.drewN nq):=(Chg.refl _ _).drewN _
  generalize w.drewN nq=W1 at hc0 ⊢
  have hd1:=hc0.keep hd (fun h=>h)
  have hf1 : Be W1 F fls (fv l):=hf.keep hc0 (fun _ _ h=>h) (fun _ h=>h)
  have hc1 : Chg (· = d) w W1:=hc0.mono fun _ _ h=>h.elim
  clear hc0 q2 q5 q6 q7
  -- fails
  have S1 : W1.drew.cell? ⟨d,8,none⟩=some (.map fls)∧W1.drew.cell? ⟨d,5,none⟩=some (.int .i64 n)∧(Instr.lookup 87 (.map fls) (.int .i64 n) true).run Tryz.prog W1.drew = .ok (.tuple #[.agg #[], .bool (decide (n∈l))]) W1.drew:=⟨Ad hd1 8,Ad hd1 5,E2 (w:=W1.drew) hf1 n⟩
  obtain ⟨W2,hW2⟩ : ∃ W,W=(W1.alloc (.cells #[] 102)).drew:=⟨_,rfl⟩
  have hc2 : Chg (fun _=>False) W1 W2:=hW2 ▸ ((Chg.refl _ _).alloc _).drew
  have hd2:=hc2.keep hd1 (fun h=>h)
  have hf2:=hf1.keep hc2 (fun _ _ h=>h) (fun _ h=>h)
  have S2 : W2.cell? ⟨d,8,none⟩=some (.map fls)∧W2.cell? ⟨d,5,none⟩=some (.int .i64 n)∧(Instr.lookup 87 (.map fls) (.int .i64 n) true).run Tryz.prog W2 = .ok (.tuple #[.agg #[], .bool (decide (n∈l))]) W2:=⟨Ad hd2 8,Ad hd2 5,E2 hf2 n⟩
  have S2':=hW2 ▸ S2
  obtain ⟨W3,hr3,hf3,hc3⟩:=I3 (w:=W2.drew) hf2 n
  have hdf : ∀ b,fls=some b→d≠b:=fun b e=>by
   rw [e] at hf2
   exact hf2.2.ne hd2
  have hc3':=hc3.undrew
  have hd3 : W3.heap[d]? = _:=hc3'.keep hd2 (fun e=>hdf _ e.symm rfl)
  have x5:=Ad hd3 5
  have x8:=Ad hd3 8
  have y5:=Av hd3 5
  have HD4:=Ab (A0 hd3 5 (.int .i64 (n+1)))
  have HF4:=Ab (hf3.keep (Cb W3 d 5 (.int .i64 (n+1))) (fun b e h=>hdf b e h.symm) (fun _ h=>h))
  have HC4 : Hid (Chg (fun k=>k=d∨some k=fls) w (W3.setCell ⟨d,5,none⟩ (.int .i64 (n+1)))):=
   (((hc1.mono fun _ _ h=>Or.inl h).then (hc2.mono fun _ _ h=>h.elim)).then (hc3'.mono fun _ _ h=>Or.inr h)).setCell (p:=⟨d,5,none⟩) (Or.inl (Or.inl rfl)) _
  have HW2:=Ab hW2
  have HS1:=Ab S1
  have HS2:=Ab S2
  have HS2':=Ab S2'
  clear hW2 S1 S2 S2' hf1 hf2 hf3 hc1 hc2 hc3 hc3' hdf hd1 hd2 hd3
  refine wp_region_held_drew (S:=fun W=>W.cell? ⟨d,8,none⟩=some (.map fls)∧W.cell? ⟨d,5,none⟩=some (.int .i64 n)∧(Instr.lookup 87 (.map fls) (.int .i64 n) true).run Tryz.prog W = .ok (.tuple #[.agg #[], .bool (decide (n∈l))]) W) (by kernel_rfl) (HS1.out) (fun hHeld=>?_)
  refine Aa 0 hHeld ?_
  refine Aa 1 hHeld ?_
  refine Aa 2 hHeld ?_
  refine Aa 3 hHeld ?_
  refine Aa 4 hHeld ?_
  refine Aa 5 hHeld ?_
  refine Aa 6 hHeld ?_
  refine Aa 7 hHeld ?_
  refine Aa 8 hHeld ?_
  refine Aa 9 hHeld ?_
  refine Aa 10 hHeld ?_
  refine Aa 11 hHeld ?_
  refine Al (i:=12) rfl (by kernel_rfl) rfl (fun K hK=>?_)
  go_simp
  refine hK.out _ _ (HS2'.out) (fun hHeld=>?_)
  clear hK K
  try simp only [Act.put,List.setIfInBounds_toArray,List.set_cons_zero,List.set_cons_succ]
  refine Al (i:=13) rfl (by kernel_rfl) rfl (fun K hK=>?_)
  go_simp
  refine hK.out _ _ (HS2'.out) (fun hHeld=>?_)
  clear hK K
  try simp only [Act.put,List.setIfInBounds_toArray,List.set_cons_zero,List.set_cons_succ]
  refine Aa 14 hHeld ?_
  refine wpAnyH_done (by kernel_rfl) ?_ _
  clear hHeld
  rw [← HW2.out]
  go_wp2_with fail
  refine wp_region_held_drew (S:=fun W=>W.cell? ⟨d,8,none⟩=some (.map fls)∧W.cell? ⟨d,5,none⟩=some (.int .i64 n)) (by kernel_rfl) (⟨HS2.out.1,HS2.out.2.1⟩) (fun hHeld=>?_)
  refine Aa 0 hHeld ?_
  refine Aa 1 hHeld ?_
  refine Aa 2 hHeld ?_
  refine Aa 3 hHeld ?_
  refine Aa 4 hHeld ?_
  refine Aa 5 hHeld ?_
  refine Aa 6 hHeld ?_
  refine Aa 7 hHeld ?_
  refine Al (i:=8) rfl (by kernel_rfl) rfl (fun K hK=>?_)
  go_simp
  refine hK.out _ _ (⟨x8,x5⟩) (fun hHeld=>?_)
  clear hK K
  try simp only [Act.put,List.setIfInBounds_toArray,List.set_cons_zero,List.set_cons_succ]
  refine wpAnyH_done (by kernel_rfl) ?_ _
  clear hHeld
  go_wp2
  go_ret2
  exact ⟨rfl,HD4.out,HF4.out,HC4.out⟩
 ·have hgd : decide (cut≤n)=false:=by simpa using hlt
  go_quiet (fail)
  go_wp2_with fail
  have hc0 : Chg (fun _=>False) w (w.drewN nq):=(Chg.refl _ _).drewN _
  generalize w.drewN nq=W1 at hc0 ⊢
  have hd1:=hc0.keep hd (fun h=>h)
  have hf1 : Be W1 F fls (fv l):=hf.keep hc0 (fun _ _ h=>h) (fun _ h=>h)
  have hc1 : Chg (· = d) w W1:=hc0.mono fun _ _ h=>h.elim
  clear hc0 q2 q5 q6 q7
  -- fails
  have S1 : W1.drew.cell? ⟨d,8,none⟩=some (.map fls)∧W1.drew.cell? ⟨d,5,none⟩=some (.int .i64 n)∧(Instr.lookup 87 (.map fls) (.int .i64 n) true).run Tryz.prog W1.drew = .ok (.tuple #[.agg #[], .bool (decide (n∈l))]) W1.drew:=⟨Ad hd1 8,Ad hd1 5,E2 (w:=W1.drew) hf1 n⟩
  obtain ⟨W2,hW2⟩ : ∃ W,W=(W1.alloc (.cells #[] 102)).drew:=⟨_,rfl⟩
  have hc2 : Chg (fun _=>False) W1 W2:=hW2 ▸ ((Chg.refl _ _).alloc _).drew
  have hd2:=hc2.keep hd1 (fun h=>h)
  have hf2:=hf1.keep hc2 (fun _ _ h=>h) (fun _ h=>h)
  have S2 : W2.cell? ⟨d,8,none⟩=some (.map fls)∧W2.cell? ⟨d,5,none⟩=some (.int .i64 n)∧(Instr.lookup 87 (.map fls) (.int .i64 n) true).run Tryz.prog W2 = .ok (.tuple #[.agg #[], .bool (decide (n∈l))]) W2:=⟨Ad hd2 8,Ad hd2 5,E2 hf2 n⟩
  have S2':=hW2 ▸ S2
  obtain ⟨W3,hr3,hf3,hc3⟩:=I3 (w:=W2.drew) hf2 n
  have hdf : ∀ b,fls=some b→d≠b:=fun b e=>by
   rw [e] at hf2
   exact hf2.2.ne hd2
  have hc3':=hc3.undrew
  have hd3 : W3.heap[d]? = _:=hc3'.keep hd2 (fun e=>hdf _ e.symm rfl)
  have x5:=Ad hd3 5
  have x8:=Ad hd3 8
  have y5:=Av hd3 5
  have HD4:=Ab (A0 hd3 5 (.int .i64 (n+1)))
  have HF4:=Ab (hf3.keep (Cb W3 d 5 (.int .i64 (n+1))) (fun b e h=>hdf b e h.symm) (fun _ h=>h))
  have HC4 : Hid (Chg (fun k=>k=d∨some k=fls) w (W3.setCell ⟨d,5,none⟩ (.int .i64 (n+1)))):=
   (((hc1.mono fun _ _ h=>Or.inl h).then (hc2.mono fun _ _ h=>h.elim)).then (hc3'.mono fun _ _ h=>Or.inr h)).setCell (p:=⟨d,5,none⟩) (Or.inl (Or.inl rfl)) _
  have HW2:=Ab hW2
  have HS1:=Ab S1
  have HS2:=Ab S2
  have HS2':=Ab S2'
  clear hW2 S1 S2 S2' hf1 hf2 hf3 hc1 hc2 hc3 hc3' hdf hd1 hd2 hd3
  refine wp_region_held_drew (S:=fun W=>W.cell? ⟨d,8,none⟩=some (.map fls)∧W.cell? ⟨d,5,none⟩=some (.int .i64 n)∧(Instr.lookup 87 (.map fls) (.int .i64 n) true).run Tryz.prog W = .ok (.tuple #[.agg #[], .bool (decide (n∈l))]) W) (by kernel_rfl) (HS1.out) (fun hHeld=>?_)
  refine Aa 0 hHeld ?_
  refine Aa 1 hHeld ?_
  refine Aa 2 hHeld ?_
  refine Aa 3 hHeld ?_
  refine Aa 4 hHeld ?_
  refine Aa 5 hHeld ?_
  refine Aa 6 hHeld ?_
  refine Aa 7 hHeld ?_
  refine Aa 8 hHeld ?_
  refine Aa 9 hHeld ?_
  refine Aa 10 hHeld ?_
  refine Aa 11 hHeld ?_
  refine Al (i:=12) rfl (by kernel_rfl) rfl (fun K hK=>?_)
  go_simp
  refine hK.out _ _ (HS2'.out) (fun hHeld=>?_)
  clear hK K
  try simp only [Act.put,List.setIfInBounds_toArray,List.set_cons_zero,List.set_cons_succ]
  refine Al (i:=13) rfl (by kernel_rfl) rfl (fun K hK=>?_)
  go_simp
  refine hK.out _ _ (HS2'.out) (fun hHeld=>?_)
  clear hK K
  try simp only [Act.put,List.setIfInBounds_toArray,List.set_cons_zero,List.set_cons_succ]
  refine Aa 14 hHeld ?_
  refine wpAnyH_done (by kernel_rfl) ?_ _
  clear hHeld
  rw [← HW2.out]
  go_wp2_with fail
  refine wp_region_held_drew (S:=fun W=>W.cell? ⟨d,8,none⟩=some (.map fls)∧W.cell? ⟨d,5,none⟩=some (.int .i64 n)) (by kernel_rfl) (⟨HS2.out.1,HS2.out.2.1⟩) (fun hHeld=>?_)
  refine Aa 0 hHeld ?_
  refine Aa 1 hHeld ?_
  refine Aa 2 hHeld ?_
  refine Aa 3 hHeld ?_
  refine Aa 4 hHeld ?_
  refine Aa 5 hHeld ?_
  refine Aa 6 hHeld ?_
  refine Aa 7 hHeld ?_
  refine Al (i:=8) rfl (by kernel_rfl) rfl (fun K hK=>?_)
  go_simp
  refine hK.out _ _ (⟨x8,x5⟩) (fun hHeld=>?_)
  clear hK K
  try simp only [Act.put,List.setIfInBounds_toArray,List.set_cons_zero,List.set_cons_succ]
  refine wpAnyH_done (by kernel_rfl) ?_ _
  clear hHeld
  go_wp2
  go_ret2
  exact ⟨rfl,HD4.out,HF4.out,HC4.out⟩
set_option maxRecDepth 20000 in
set_option maxHeartbeats 800000 in
theorem begin_nil (w : World) (F : Nat→Prop) (d : Nat) (r u lv : Value) (fls : Option Nat) (cuts : Bool) (n cut : Int) (l : List Int) (hd : w.heap[d]? = some (.cells #[r,u, .map none, .map none,lv, .int .i64 n, .bool cuts, .int .i64 cut, .map fls] 89))
  (hg : cuts=false∨(cuts=true∧n<cut)) (hf : Be w F fls (fv l)) (hn0 : 0≤n) (hn : n<4611686018427387904) :
  Calls Tryz.prog 140 #[.pointer (some ⟨d,0,none⟩)] w fun e w'=>e = .returned (.tuple #[.bool (decide (n∈l)), .int .i64 0])∧∃ bn bs,bn≠bs∧w.heap.size≤bn∧w.heap.size≤bs∧Ak w' bn []∧Ak w' bs [] ∧
   w'.heap[d]? = some (.cells #[r,u, .map (some bn), .map (some bs),lv, .int .i64 (n+1), .bool cuts, .int .i64 cut, .map fls] 89)∧Be w' F fls (fv (l.erase n))∧Chg (fun k=>k=d∨some k=fls) w w':=by
 have q2:=Ad hd 2
 have q3:=Ad hd 3
 have q5:=Ad hd 5
 have q6:=Ad hd 6
 have q7:=Ad hd 7
 have p2:=Av hd 2
 have p3:=Av hd 3
 have hlt0:=At hd
 have hqm:=eqM62
 have hmm:=@run_makeMap Tryz.prog
 go_enter Tryz.func140,Tryz.ntmps140
 go_wp2_with fail
 rcases hg with rfl | ⟨rfl,hlt⟩
 ·go_quiet (fail)
  have hc0 : Chg (fun _=>False) w (w.drewN nq):=(Chg.refl _ _).drewN _
  generalize w.drewN nq=W0 at hc0 ⊢
  have hd0:=hc0.keep hd (fun h=>h)
  have hda:=Bh (.map #[] 0) (Bh (.map #[] 0) hd0)
  have a2:=Ad hda 2
  have b2:=Av hda 2
  have hdb:=A0 hd0 2 (.map (some W0.heap.size))
  have hdb':=Bh (.map #[] 0) (Bh (.map #[] 0) hdb)
  have a3:=Ad hdb' 3
  have b3:=Av hdb' 3
  have hdc:=Bh (.map #[] 0) (Bh (.map #[] 0) (A0 hdb 3 (.map (some (W0.heap.size+1)))))
  have hsY : ((W0.setCell ⟨d,2,none⟩ (.map (some W0.heap.size))).setCell ⟨d,3,none⟩ (.map (some (W0.heap.size+1)))).heap.size=W0.heap.size:=by simp [World.setCell]
  have hcy : Chg (· = d) w ((W0.setCell ⟨d,2,none⟩ (.map (some W0.heap.size))).setCell ⟨d,3,none⟩ (.map (some (W0.heap.size+1)))):=
   ((hc0.mono (G:=(· = d)) fun _ _ h=>h.elim).setCell (p:=⟨d,2,none⟩) (Or.inl rfl) _).setCell (p:=⟨d,3,none⟩) (Or.inl rfl) _
  have hm0:=Ak.made ((W0.setCell ⟨d,2,none⟩ (.map (some W0.heap.size))).setCell ⟨d,3,none⟩ (.map (some (W0.heap.size+1))))
  rw [hsY] at hm0
  have hmA:=hm0.keep ((Chg.refl (fun _=>False) _).alloc (.map #[] 0)) (fun h=>h)
  have hmB:=Ak.made (((W0.setCell ⟨d,2,none⟩ (.map (some W0.heap.size))).setCell ⟨d,3,none⟩ (.map (some (W0.heap.size+1)))).alloc (.map #[] 0))
  rw [show (((W0.setCell ⟨d,2,none⟩ (.map (some W0.heap.size))).setCell ⟨d,3,none⟩ (.map (some (W0.heap.size+1)))).alloc (.map #[] 0)).heap.size=W0.heap.size+1 by simp [World.setCell]] at hmB
  have hcd:=(hcy.alloc (.map #[] 0)).alloc (.map #[] 0)
  have hltd : d<W0.heap.size:=At hd0
  have z0:=Ad hd0 2
  have hwz : w.heap.size≤W0.heap.size:=hc0.size
  have HH:=Ab (And.intro hdc (And.intro hmA (And.intro hmB hcd)))
  clear hda hdb hdb' hdc hm0 hcy hsY hcd hmA hmB hd0 q2 q3 q5 q6 q7 p2 p3
  go_wp2_with fail
  obtain ⟨bn,hbn⟩ : ∃ bn,bn=W0.heap.size:=⟨_,rfl⟩
  obtain ⟨hd1,hm1,hm2,hc1⟩:=HH.out
  have hf1:=hf.keep hc1 (fun b e h=>by
   rw [e] at hf
   exact hf.2.ne hd h.symm) (fun _ h=>h)
  have hfb : ∀ b,fls=some b→b<W0.heap.size:=fun b e=>by
   rw [e] at hf
   exact Nat.lt_of_lt_of_le hf.2.lt hwz
  clear HH a2 b2 a3 b3 z0
  generalize (((W0.setCell ⟨d,2,none⟩ (.map (some W0.heap.size))).setCell ⟨d,3,none⟩ (.map (some (W0.heap.size+1)))).alloc (.map #[] 0)).alloc (.map #[] 0)=W1 at *
  -- fails
  have S1 : W1.drew.cell? ⟨d,8,none⟩=some (.map fls)∧W1.drew.cell? ⟨d,5,none⟩=some (.int .i64 n)∧(Instr.lookup 87 (.map fls) (.int .i64 n) true).run Tryz.prog W1.drew = .ok (.tuple #[.agg #[], .bool (decide (n∈l))]) W1.drew:=⟨Ad hd1 8,Ad hd1 5,E2 (w:=W1.drew) hf1 n⟩
  obtain ⟨W2,hW2⟩ : ∃ W,W=(W1.alloc (.cells #[] 102)).drew:=⟨_,rfl⟩
  have hc2 : Chg (fun _=>False) W1 W2:=hW2 ▸ ((Chg.refl _ _).alloc _).drew
  have hd2:=hc2.keep hd1 (fun h=>h)
  have hf2:=hf1.keep hc2 (fun _ _ h=>h) (fun _ h=>h)
  have S2 : W2.cell? ⟨d,8,none⟩=some (.map fls)∧W2.cell? ⟨d,5,none⟩=some (.int .i64 n)∧(Instr.lookup 87 (.map fls) (.int .i64 n) true).run Tryz.prog W2 = .ok (.tuple #[.agg #[], .bool (decide (n∈l))]) W2:=⟨Ad hd2 8,Ad hd2 5,E2 hf2 n⟩
  have S2':=hW2 ▸ S2
  obtain ⟨W3,hr3,hf3,hc3⟩:=I3 (w:=W2.drew) hf2 n
  have hdf : ∀ b,fls=some b→d≠b:=fun b e=>by
   rw [e] at hf2
   exact hf2.2.ne hd2
  have hc3':=hc3.undrew
  have hd3 : W3.heap[d]? = _:=hc3'.keep hd2 (fun e=>hdf _ e.symm rfl)
  have x5:=Ad hd3 5
  have x8:=Ad hd3 8
  have y5:=Av hd3 5
  have HD4:=Ab (A0 hd3 5 (.int .i64 (n+1)))
  have HF4:=Ab (hf3.keep (Cb W3 d 5 (.int .i64 (n+1))) (fun b e h=>hdf b e h.symm) (fun _ h=>h))
  have HC4 : Hid (Chg (fun k=>k=d∨some k=fls) w (W3.setCell ⟨d,5,none⟩ (.int .i64 (n+1)))):=
   (((hc1.mono fun _ _ h=>Or.inl h).then (hc2.mono fun _ _ h=>h.elim)).then (hc3'.mono fun _ _ h=>Or.inr h)).setCell (p:=⟨d,5,none⟩) (Or.inl (Or.inl rfl)) _
  have HM1:=Ab (((hm1.keep hc2 (fun h=>h)).keep hc3' (fun e=>Nat.lt_irrefl _ (hfb _ e.symm))).keep (Cb W3 d 5 (.int .i64 (n+1))) (fun e=>by omega))
  have HM2:=Ab (((hm2.keep hc2 (fun h=>h)).keep hc3' (fun e=>by have:=hfb _ e.symm; omega)).keep (Cb W3 d 5 (.int .i64 (n+1))) (fun e=>by omega))
  have HW2:=Ab hW2
  have HS1:=Ab S1
  have HS2:=Ab S2
  have HS2':=Ab S2'
  clear hm1 hm2 hW2 S1 S2 S2' hf1 hf2 hf3 hc1 hc2 hc3 hc3' hdf hd1 hd2 hd3
  refine wp_region_held_drew (S:=fun W=>W.cell? ⟨d,8,none⟩=some (.map fls)∧W.cell? ⟨d,5,none⟩=some (.int .i64 n)∧(Instr.lookup 87 (.map fls) (.int .i64 n) true).run Tryz.prog W = .ok (.tuple #[.agg #[], .bool (decide (n∈l))]) W) (by kernel_rfl) (HS1.out) (fun hHeld=>?_)
  refine Aa 0 hHeld ?_
  refine Aa 1 hHeld ?_
  refine Aa 2 hHeld ?_
  refine Aa 3 hHeld ?_
  refine Aa 4 hHeld ?_
  refine Aa 5 hHeld ?_
  refine Aa 6 hHeld ?_
  refine Aa 7 hHeld ?_
  refine Aa 8 hHeld ?_
  refine Aa 9 hHeld ?_
  refine Aa 10 hHeld ?_
  refine Aa 11 hHeld ?_
  refine Al (i:=12) rfl (by kernel_rfl) rfl (fun K hK=>?_)
  go_simp
  refine hK.out _ _ (HS2'.out) (fun hHeld=>?_)
  clear hK K
  try simp only [Act.put,List.setIfInBounds_toArray,List.set_cons_zero,List.set_cons_succ]
  refine Al (i:=13) rfl (by kernel_rfl) rfl (fun K hK=>?_)
  go_simp
  refine hK.out _ _ (HS2'.out) (fun hHeld=>?_)
  clear hK K
  try simp only [Act.put,List.setIfInBounds_toArray,List.set_cons_zero,List.set_cons_succ]
  refine Aa 14 hHeld ?_
  refine wpAnyH_done (by kernel_rfl) ?_ _
  clear hHeld
  rw [← HW2.out]
  go_wp2_with fail
  refine wp_region_held_drew (S:=fun W=>W.cell? ⟨d,8,none⟩=some (.map fls)∧W.cell? ⟨d,5,none⟩=some (.int .i64 n)) (by kernel_rfl) (⟨HS2.out.1,HS2.out.2.1⟩) (fun hHeld=>?_)
  refine Aa 0 hHeld ?_
  refine Aa 1 hHeld ?_
  refine Aa 2 hHeld ?_
  refine Aa 3 hHeld ?_
  refine Aa 4 hHeld ?_
  refine Aa 5 hHeld ?_
  refine Aa 6 hHeld ?_
  refine Aa 7 hHeld ?_
  refine Al (i:=8) rfl (by kernel_rfl) rfl (fun K hK=>?_)
  go_simp
  refine hK.out _ _ (⟨x8,x5⟩) (fun hHeld=>?_)
  clear hK K
  try simp only [Act.put,List.setIfInBounds_toArray,List.set_cons_zero,List.set_cons_succ]
  refine wpAnyH_done (by kernel_rfl) ?_ _
  clear hHeld
  go_wp2
  go_ret2
  exact ⟨rfl,W0.heap.size,W0.heap.size+1,by omega,hwz,by omega,HM1.out,HM2.out,HD4.out,HF4.out,HC4.out⟩
 ·have hgd : decide (cut≤n)=false:=by simpa using hlt
  go_quiet (fail)
  have hc0 : Chg (fun _=>False) w (w.drewN nq):=(Chg.refl _ _).drewN _
  generalize w.drewN nq=W0 at hc0 ⊢
  have hd0:=hc0.keep hd (fun h=>h)
  have hda:=Bh (.map #[] 0) (Bh (.map #[] 0) hd0)
  have a2:=Ad hda 2
  have b2:=Av hda 2
  have hdb:=A0 hd0 2 (.map (some W0.heap.size))
  have hdb':=Bh (.map #[] 0) (Bh (.map #[] 0) hdb)
  have a3:=Ad hdb' 3
  have b3:=Av hdb' 3
  have hdc:=Bh (.map #[] 0) (Bh (.map #[] 0) (A0 hdb 3 (.map (some (W0.heap.size+1)))))
  have hsY : ((W0.setCell ⟨d,2,none⟩ (.map (some W0.heap.size))).setCell ⟨d,3,none⟩ (.map (some (W0.heap.size+1)))).heap.size=W0.heap.size:=by simp [World.setCell]
  have hcy : Chg (· = d) w ((W0.setCell ⟨d,2,none⟩ (.map (some W0.heap.size))).setCell ⟨d,3,none⟩ (.map (some (W0.heap.size+1)))):=
   ((hc0.mono (G:=(· = d)) fun _ _ h=>h.elim).setCell (p:=⟨d,2,none⟩) (Or.inl rfl) _).setCell (p:=⟨d,3,none⟩) (Or.inl rfl) _
  have hm0:=Ak.made ((W0.setCell ⟨d,2,none⟩ (.map (some W0.heap.size))).setCell ⟨d,3,none⟩ (.map (some (W0.heap.size+1))))
  rw [hsY] at hm0
  have hmA:=hm0.keep ((Chg.refl (fun _=>False) _).alloc (.map #[] 0)) (fun h=>h)
  have hmB:=Ak.made (((W0.setCell ⟨d,2,none⟩ (.map (some W0.heap.size))).setCell ⟨d,3,none⟩ (.map (some (W0.heap.size+1)))).alloc (.map #[] 0))
  rw [show (((W0.setCell ⟨d,2,none⟩ (.map (some W0.heap.size))).setCell ⟨d,3,none⟩ (.map (some (W0.heap.size+1)))).alloc (.map #[] 0)).heap.size=W0.heap.size+1 by simp [World.setCell]] at hmB
  have hcd:=(hcy.alloc (.map #[] 0)).alloc (.map #[] 0)
  have hltd : d<W0.heap.size:=At hd0
  have z0:=Ad hd0 2
  have hwz : w.heap.size≤W0.heap.size:=hc0.size
  have HH:=Ab (And.intro hdc (And.intro hmA (And.intro hmB hcd)))
  clear hda hdb hdb' hdc hm0 hcy hsY hcd hmA hmB hd0 q2 q3 q5 q6 q7 p2 p3
  go_wp2_with fail
  obtain ⟨bn,hbn⟩ : ∃ bn,bn=W0.heap.size:=⟨_,rfl⟩
  obtain ⟨hd1,hm1,hm2,hc1⟩:=HH.out
  have hf1:=hf.keep hc1 (fun b e h=>by
   rw [e] at hf
   exact hf.2.ne hd h.symm) (fun _ h=>h)
  have hfb : ∀ b,fls=some b→b<W0.heap.size:=fun b e=>by
   rw [e] at hf
   exact Nat.lt_of_lt_of_le hf.2.lt hwz
  clear HH a2 b2 a3 b3 z0
  generalize (((W0.setCell ⟨d,2,none⟩ (.map (some W0.heap.size))).setCell ⟨d,3,none⟩ (.map (some (W0.heap.size+1)))).alloc (.map #[] 0)).alloc (.map #[] 0)=W1 at *
  -- fails
  have S1 : W1.drew.cell? ⟨d,8,none⟩=some (.map fls)∧W1.drew.cell? ⟨d,5,none⟩=some (.int .i64 n)∧(Instr.lookup 87 (.map fls) (.int .i64 n) true).run Tryz.prog W1.drew = .ok (.tuple #[.agg #[], .bool (decide (n∈l))]) W1.drew:=⟨Ad hd1 8,Ad hd1 5,E2 (w:=W1.drew) hf1 n⟩
  obtain ⟨W2,hW2⟩ : ∃ W,W=(W1.alloc (.cells #[] 102)).drew:=⟨_,rfl⟩
  have hc2 : Chg (fun _=>False) W1 W2:=hW2 ▸ ((Chg.refl _ _).alloc _).drew
  have hd2:=hc2.keep hd1 (fun h=>h)
  have hf2:=hf1.keep hc2 (fun _ _ h=>h) (fun _ h=>h)
  have S2 : W2.cell? ⟨d,8,none⟩=some (.map fls)∧W2.cell? ⟨d,5,none⟩=some (.int .i64 n)∧(Instr.lookup 87 (.map fls) (.int .i64 n) true).run Tryz.prog W2 = .ok (.tuple #[.agg #[], .bool (decide (n∈l))]) W2:=⟨Ad hd2 8,Ad hd2 5,E2 hf2 n⟩
  have S2':=hW2 ▸ S2
  obtain ⟨W3,hr3,hf3,hc3⟩:=I3 (w:=W2.drew) hf2 n
  have hdf : ∀ b,fls=some b→d≠b:=fun b e=>by
   rw [e] at hf2
   exact hf2.2.ne hd2
  have hc3':=hc3.undrew
  have hd3 : W3.heap[d]? = _:=hc3'.keep hd2 (fun e=>hdf _ e.symm rfl)
  have x5:=Ad hd3 5
  have x8:=Ad hd3 8
  have y5:=Av hd3 5
  have HD4:=Ab (A0 hd3 5 (.int .i64 (n+1)))
  have HF4:=Ab (hf3.keep (Cb W3 d 5 (.int .i64 (n+1))) (fun b e h=>hdf b e h.symm) (fun _ h=>h))
  have HC4 : Hid (Chg (fun k=>k=d∨some k=fls) w (W3.setCell ⟨d,5,none⟩ (.int .i64 (n+1)))):=
   (((hc1.mono fun _ _ h=>Or.inl h).then (hc2.mono fun _ _ h=>h.elim)).then (hc3'.mono fun _ _ h=>Or.inr h)).setCell (p:=⟨d,5,none⟩) (Or.inl (Or.inl rfl)) _
  have HM1:=Ab (((hm1.keep hc2 (fun h=>h)).keep hc3' (fun e=>Nat.lt_irrefl _ (hfb _ e.symm))).keep (Cb W3 d 5 (.int .i64 (n+1))) (fun e=>by omega))
  have HM2:=Ab (((hm2.keep hc2 (fun h=>h)).keep hc3' (fun e=>by have:=hfb _ e.symm; omega)).keep (Cb W3 d 5 (.int .i64 (n+1))) (fun e=>by omega))
  have HW2:=Ab hW2
  have HS1:=Ab S1
  have HS2:=Ab S2
  have HS2':=Ab S2'
  clear hm1 hm2 hW2 S1 S2 S2' hf1 hf2 hf3 hc1 hc2 hc3 hc3' hdf hd1 hd2 hd3
  refine wp_region_held_drew (S:=fun W=>W.cell? ⟨d,8,none⟩=some (.map fls)∧W.cell? ⟨d,5,none⟩=some (.int .i64 n)∧(Instr.lookup 87 (.map fls) (.int .i64 n) true).run Tryz.prog W = .ok (.tuple #[.agg #[], .bool (decide (n∈l))]) W) (by kernel_rfl) (HS1.out) (fun hHeld=>?_)
  refine Aa 0 hHeld ?_
  refine Aa 1 hHeld ?_
  refine Aa 2 hHeld ?_
  refine Aa 3 hHeld ?_
  refine Aa 4 hHeld ?_
  refine Aa 5 hHeld ?_
  refine Aa 6 hHeld ?_
  refine Aa 7 hHeld ?_
  refine Aa 8 hHeld ?_
  refine Aa 9 hHeld ?_
  refine Aa 10 hHeld ?_
  refine Aa 11 hHeld ?_
  refine Al (i:=12) rfl (by kernel_rfl) rfl (fun K hK=>?_)
  go_simp
  refine hK.out _ _ (HS2'.out) (fun hHeld=>?_)
  clear hK K
  try simp only [Act.put,List.setIfInBounds_toArray,List.set_cons_zero,List.set_cons_succ]
  refine Al (i:=13) rfl (by kernel_rfl) rfl (fun K hK=>?_)
  go_simp
  refine hK.out _ _ (HS2'.out) (fun hHeld=>?_)
  clear hK K
  try simp only [Act.put,List.setIfInBounds_toArray,List.set_cons_zero,List.set_cons_succ]
  refine Aa 14 hHeld ?_
  refine wpAnyH_done (by kernel_rfl) ?_ _
  clear hHeld
  rw [← HW2.out]
  go_wp2_with fail
  refine wp_region_held_drew (S:=fun W=>W.cell? ⟨d,8,none⟩=some (.map fls)∧W.cell? ⟨d,5,none⟩=some (.int .i64 n)) (by kernel_rfl) (⟨HS2.out.1,HS2.out.2.1⟩) (fun hHeld=>?_)
  refine Aa 0 hHeld ?_
  refine Aa 1 hHeld ?_
  refine Aa 2 hHeld ?_
  refine Aa 3 hHeld ?_
  refine Aa 4 hHeld ?_
  refine Aa 5 hHeld ?_
  refine Aa 6 hHeld ?_
  refine Aa 7 hHeld ?_
  refine Al (i:=8) rfl (by kernel_rfl) rfl (fun K hK=>?_)
  go_simp
  refine hK.out _ _ (⟨x8,x5⟩) (fun hHeld=>?_)
  clear hK K
  try simp only [Act.put,List.setIfInBounds_toArray,List.set_cons_zero,List.set_cons_succ]
  refine wpAnyH_done (by kernel_rfl) ?_ _
  clear hHeld
  go_wp2
  go_ret2
  exact ⟨rfl,W0.heap.size,W0.heap.size+1,by omega,hwz,by omega,HM1.out,HM2.out,HD4.out,HF4.out,HC4.out⟩
end Go.Proofs.YtblniomnhpedjaaGreatDoor
