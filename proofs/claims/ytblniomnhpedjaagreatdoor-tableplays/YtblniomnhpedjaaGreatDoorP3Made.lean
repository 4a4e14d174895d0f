/-
  What making a file, and letting bytes come behind it, do to memory: made, extend. Conditions: what lies there is told by hypotheses; room.
-/
import Derived.Test.YtblniomnhpedjaaGreatDoorP2Acts
namespace Go.Proofs.YtblniomnhpedjaaGreatDoor
open Go.RowKit
theorem enters69 : ∀ args w,(callFunc 158 args).run Tryz.prog w = .ok (.enter 158 args) w:=enters_of Tryz.func158 (by kernel_rfl) rfl
set_option maxRecDepth 20000 in
set_option maxHeartbeats 400000 in
theorem made_any (w : World) (d bn n : Nat) (nm : Nm) (l : List (Value × Value)) (r u s lv o c1 c2 fl : Value) (xs : List Value)
  (hd : w.heap[d]? = some (.cells #[r,u, .map (some bn),s,lv,o,c1,c2,fl] 89)) (hm : Ak w bn l) (hk : ∀ p∈l,KStr p.1) (hl : ∀ p∈l,p.1 ≠ .string (Ae nm))
  (hrow : w.ownsRow 0 111 2 lv n xs) (hn : n<1099511627776) (hnm : nm.length≤80) :
  Calls Tryz.prog 142 #[.pointer (some ⟨d,0,none⟩), .string (Ae nm)] w fun e w'=>∃ q c cf cn lv',e = .returned (.pointer (some ⟨q,0,none⟩)) ∧
   w'.heap[d]? = some (.cells #[r,u, .map (some bn),s,lv',o,c1,c2,fl] 89)∧Ak w' bn ((.string (Ae nm), .pointer (some ⟨q,0,none⟩)) :: l) ∧
   w'.heap[q]? = some (.cells #[.slice none 0 0, .int .i64 0, .bool true] 118) ∧
   w'.ownsRow 0 111 2 lv' (n+1) (xs ++ [.pointer none, .func (.func 161) #[] #[.pointer (some ⟨c,0,none⟩)]]) ∧
   w'.heap[c]? = some (.cells #[.func (.func 158) #[] #[.pointer (some ⟨cf,0,none⟩), .pointer (some ⟨cn,0,none⟩)]] 219) ∧
   w'.heap[cf]? = some (.cells #[.pointer (some ⟨q,0,none⟩)] 108)∧w'.heap[cn]? = some (.cells #[.string (Ae nm)] 9) ∧
   w.heap.size≤q∧w.heap.size≤c∧w.heap.size≤cf∧w.heap.size≤cn ∧
   (lv'.ownBlock=lv.ownBlock ∨ ∃ q,lv'.ownBlock=some q∧w.heap.size≤q)∧Chg (fun k=>k=d∨k=bn∨some k=lv.ownBlock) w w':=by
 have hmf : ∀ (fn : Fn) (first cap : Array Value) (w : World),(Instr.makeFunc fn first cap).run Tryz.prog w = .ok (.func fn first cap) w:=fun _ _ _ _=>rfl
 have h0:=Au w (.cells #[.string (Ae nm)] 9)
 have z0:=Ad h0 0
 have HD:=Ab hd
 have HM:=Ab hm
 have HK:=Ab hk
 have HL:=Ab hl
 have HR:=Ab hrow
 clear hd hm hk hl hrow
 go_enter Tryz.func142,Tryz.ntmps142
 go_wp2_with (go_at_call 56; refine (E9 _ nm (by omega)).mono ?_; rintro e w2 ⟨rfl,hb2⟩; have h2:=(hb2.block w.heap.size (by simp)).trans h0; have z2:=Ad h2 0; have y2:=Av h2 0)
 have hsz3 : (w2.setCell ⟨w.heap.size,0,none⟩ (.string (Ae nm))).heap.size=w2.heap.size:=by simp [World.setCell]
 have hg2 : Chg (fun _=>False) w w2:=((Chg.refl _ w).alloc _).trans (Chg.of_below hb2) (fun i hi h=>by simp at h; omega)
 have hc3 : Chg (fun _=>False) w (w2.setCell ⟨w.heap.size,0,none⟩ (.string (Ae nm))):=hg2.setCell (p:=⟨w.heap.size,0,none⟩) (Or.inr (Nat.le_refl _)) _
 have k3:=A0 h2 0 (.string (Ae nm))
 have kn:=Bh (.cells #[.pointer (some ⟨w2.heap.size,0,none⟩)] 108) (Bh (.cells #[.slice none 0 0, .int .i64 0, .bool true] 118) k3)
 have kq:=Bh (.cells #[.pointer (some ⟨w2.heap.size,0,none⟩)] 108) (Au (w2.setCell ⟨w.heap.size,0,none⟩ (.string (Ae nm))) (.cells #[.slice none 0 0, .int .i64 0, .bool true] 118))
 have kc:=Au ((w2.setCell ⟨w.heap.size,0,none⟩ (.string (Ae nm))).alloc (.cells #[.slice none 0 0, .int .i64 0, .bool true] 118)) (.cells #[.pointer (some ⟨w2.heap.size,0,none⟩)] 108)
 rw [hsz3] at kq
 rw [show ((w2.setCell ⟨w.heap.size,0,none⟩ (.string (Ae nm))).alloc (.cells #[.slice none 0 0, .int .i64 0, .bool true] 118)).heap.size=w2.heap.size+1 by simp [World.setCell]] at kc
 have hc6 : Chg (fun _=>False) w (((w2.setCell ⟨w.heap.size,0,none⟩ (.string (Ae nm))).alloc (.cells #[.slice none 0 0, .int .i64 0, .bool true] 118)).alloc (.cells #[.pointer (some ⟨w2.heap.size,0,none⟩)] 108)):=(hc3.alloc _).alloc _
 have hws : w.heap.size+1≤w2.heap.size:=by have:=hb2.size; simpa using this
 generalize ((w2.setCell ⟨w.heap.size,0,none⟩ (.string (Ae nm))).alloc (.cells #[.slice none 0 0, .int .i64 0, .bool true] 118)).alloc (.cells #[.pointer (some ⟨w2.heap.size,0,none⟩)] 108)=W at *
 obtain ⟨q,hq⟩ : ∃ q,q=w2.heap.size:=⟨_,rfl⟩
 obtain ⟨cn,hcn⟩ : ∃ cn,cn=w.heap.size:=⟨_,rfl⟩
 rw [← hq] at kq kc hws ⊢
 rw [← hcn] at kn ⊢
 have kd:=hc6.keep HD.out (fun h=>h)
 have km:=HM.out.keep hc6 (fun h=>h)
 have kr:=A3 HR.out hc6 (fun _ _ h=>h)
 have hcall:=O8 W d bn n 158 #[.pointer (some ⟨q+1,0,none⟩), .pointer (some ⟨cn,0,none⟩)] l ((.string (Ae nm), .pointer (some ⟨q,0,none⟩)) :: l) r u s lv o c1 c2 fl xs kd km kr hn enters69
  (fun W' hW'=>made1_raw W' bn (q+1) cn l nm q (km.keep hW' (fun h=>h)) HK.out HL.out (hW'.keep kc (fun h=>h)) (hW'.keep kn (fun h=>h)))
 have HKQ:=Ab kq
 have HKC:=Ab kc
 have HKN:=Ab kn
 have HKM:=Ab km
 have HKR:=Ab kr
 have HKD:=Ab kd
 clear kq kn km kr kd k3 h0 z0 h2 z2 y2
 refine hcall.mono ?_
 rintro e w7 ⟨rfl,c,lv',r1,r2,r3,r4,r5,r6,r7⟩
 have hn1 : ∀ k x,W.heap[k]? = some x→(∀ cc,x ≠ .cells cc 89 (0,0))→(∀ es ck,x ≠ .map es ck)→(∀ cc,x ≠ .cells cc 111 (0,0))→¬ (k=d∨k=bn∨some k=lv.ownBlock):=by
  intro k x hx n1 n2 n3 h
  rcases h with rfl | rfl | h
  ·rw [HKD.out] at hx
   injection hx with hx
   exact n1 _ hx.symm
  ·obtain ⟨es,ck,h1,_⟩:=HKM.out
   rw [h1] at hx
   injection hx with hx
   exact n2 _ _ hx.symm
  ·obtain ⟨cur,hcur⟩:=A2 HKR.out h.symm
   rw [hcur] at hx
   injection hx with hx
   exact n3 _ hx.symm
 have j5:=r7.keep HKC.out (hn1 _ _ HKC.out (by intro cc e; injection e with e1 e2; exact absurd e2 (by decide)) (by intro es ck e; cases e) (by intro cc e; injection e with e1 e2; exact absurd e2 (by decide)))
 have z5:=Ad j5 0
 clear hcall kc
 subst hq
 subst hcn
 go_wp2
 go_ret
 refine ⟨w2.heap.size,c,w2.heap.size+1,w.heap.size,lv',rfl,r1,r2,?_,r3,r5,j5,?_,by omega,Nat.le_trans hc6.size r4,by omega,by omega,?_,(hc6.mono fun _ _ f=>f.elim).then r7⟩
 ·exact r7.keep HKQ.out (hn1 _ _ HKQ.out (by intro cc e; injection e with e1 e2; exact absurd e2 (by decide)) (by intro es ck e; cases e) (by intro cc e; injection e with e1 e2; exact absurd e2 (by decide)))
 ·exact r7.keep HKN.out (hn1 _ _ HKN.out (by intro cc e; injection e with e1 e2; exact absurd e2 (by decide)) (by intro es ck e; cases e) (by intro cc e; injection e with e1 e2; exact absurd e2 (by decide)))
 ·rcases r6 with h | ⟨x,h,hx⟩
  ·exact Or.inl h
  ·exact Or.inr ⟨x,h,Nat.le_trans hc6.size hx⟩
end Go.Proofs.YtblniomnhpedjaaGreatDoor
namespace Go.Proofs.YtblniomnhpedjaaGreatDoor
open Go.RowKit
def tag : Obj→Nat
 | .cells _ t _=>t
 | .map _ _=>100000
 | _=>100001
theorem Ax {w : World} {a b : Nat} {x y : Obj} (ha : w.heap[a]? = some x) (hb : w.heap[b]? = some y) (h : tag x≠tag y) : a≠b:=
 Gg ha hb fun e=>h (by rw [e])
theorem Cg {P : Program} {o : Oper} {a : Act} {w : World} {K : Act→World→Prop} {Q : Exit→Act→World→Prop} (s x : Operand) (t : TypeId)
  (ho : o.op = .call { callee:=.builtin .append,args:=#[s,x],argTypes:=#[t,t] }) {v1 v2 v' : Value} {w' : World} (hs : a.eval s=v1) (hx : a.eval x=v2)
  (hrun : (Builtin.append_ #[t,t] o.type #[v1,v2]).run P w = .ok v' w') (hK : K (a.put o.dst v') w') : o.wp P a w K Q:=by
 unfold Oper.wp
 simp [execOp,ho,resolve,invoke,builtin,hs,hx,hrun,Result.andThen]
 exact hK
theorem Sl.some {w : World} {v : Value} {l : List UInt8} (h : Sl w v l) (hne : l ≠ []) : ∃ b off cap,v = .slice (some ⟨b,off,none⟩) l.length cap∧b<w.heap.size∧∀ j u,(bc l)[j]? = some u→w.cell? ⟨b,off+j,none⟩=some u:=by
 obtain ⟨ao,cap,rfl,h1,h2,h3,h4⟩:=h
 obtain ⟨b,off,rfl,hb,hc⟩:=h4 hne
 refine ⟨b,off,cap,rfl,hb,fun j u hu=>?_⟩
 have hj : j<l.length:=by
  have:=(List.getElem?_eq_some_iff.1 hu).1
  rwa [C3] at this
 rw [Eu l j hj] at hu
 injection hu with hu
 subst hu
 exact hc j hj
set_option maxRecDepth 20000 in
set_option maxHeartbeats 800000 in
theorem extend_any (w : World) (d f n : Nat) (old new : List UInt8) (r o1 o2 lv o4 c1 c2 fl bv s nmv v : Value) (used : Int) (xs : List Value)
  (hd : w.heap[d]? = some (.cells #[r, .int .i64 used,o1,o2,lv,o4,c1,c2,fl] 89)) (hf : w.heap[f]? = some (.cells #[bv,s,nmv] 118))
  (hbv : w.ownsRow 0 5 1 bv old.length (bc old)) (hrow : w.ownsRow 0 111 2 lv n xs) (hv : Sl w v new) (hne : new ≠ [])
  (hn : n<1099511627776) (hu0 : 0≤used) (hu : used+new.length<4611686018427387904) (hlen : old.length+new.length≤70368744177664) :
  Calls Tryz.prog 143 #[.pointer (some ⟨d,0,none⟩), .pointer (some ⟨f,0,none⟩),v] w fun e w'=>e = .returned (.tuple #[])∧∃ bv' lv' cf ck,
   w'.heap[d]? = some (.cells #[r, .int .i64 (used+new.length),o1,o2,lv',o4,c1,c2,fl] 89)∧w'.heap[f]? = some (.cells #[bv',s,nmv] 118) ∧
   w'.ownsRow 0 5 1 bv' (old++new).length (bc (old++new)) ∧
   w'.ownsRow 0 111 2 lv' (n+1) (xs ++ [.pointer (some ⟨f,0,none⟩), .func (.func 159) #[] #[.pointer (some ⟨cf,0,none⟩), .pointer (some ⟨ck,0,none⟩)]]) ∧
   w'.heap[cf]? = some (.cells #[.pointer (some ⟨f,0,none⟩)] 108)∧w'.heap[ck]? = some (.cells #[.int .i64 (new.length : Int)] 3)∧w.heap.size≤cf∧w.heap.size≤ck ∧
   (bv'.ownBlock=bv.ownBlock ∨ ∃ q,bv'.ownBlock=some q∧w.heap.size≤q)∧(lv'.ownBlock=lv.ownBlock ∨ ∃ q,lv'.ownBlock=some q∧w.heap.size≤q) ∧
   Chg (fun k=>k=d∨k=f∨some k=bv.ownBlock∨some k=lv.ownBlock) w w':=by
 have hmf : ∀ (fn : Fn) (first cap : Array Value) (w : World),(Instr.makeFunc fn first cap).run Tryz.prog w = .ok (.func fn first cap) w:=fun _ _ _ _=>rfl
 obtain ⟨i5,hi5,hz50,hz51,hz52⟩:=info_parts Tryz.info5
 obtain ⟨i0,hi,hz0,hz1,hz2⟩:=info_parts Tryz.info104
 obtain ⟨vb,vo,cap,rfl,hadb,hcell⟩:=hv.some hne
 -- the two variables
 obtain ⟨W2,hW2⟩ : ∃ W,W=((w.alloc (.cells #[.pointer (some ⟨f,0,none⟩)] 108)).alloc (.cells #[.int .i64 (new.length : Int)] 3)).drew:=⟨_,rfl⟩
 have hc2 : Chg (fun _=>False) w W2:=hW2 ▸ (((Chg.refl _ w).alloc _).alloc _).drew
 have p1 : W2.heap[w.heap.size]? = some (.cells #[.pointer (some ⟨f,0,none⟩)] 108):=hW2 ▸ Bh _ (Au w _)
 have p2 : W2.heap[w.heap.size+1]? = some (.cells #[.int .i64 (new.length : Int)] 3):=by
  have:=Au (w.alloc (.cells #[.pointer (some ⟨f,0,none⟩)] 108)) (.cells #[.int .i64 (new.length : Int)] 3)
  rw [hW2]
  show (World.alloc _ _).heap[_]? = _
  simpa using this
 have hd2:=hc2.keep hd (fun h=>h)
 have hf2:=hc2.keep hf (fun h=>h)
 have hbv2:=A3 hbv hc2 (fun _ _ h=>h)
 have hrow2:=A3 hrow hc2 (fun _ _ h=>h)
 have hcell2 : ∀ j u,(bc new)[j]? = some u→W2.cell? ((⟨vb,vo,none⟩ : Addr).add j)=some u:=fun j u hu=>by
  rw [Addr.add_lit,← hcell j u hu]
  exact World.cell?_of_block (hc2.block _ hadb (fun h=>h))
 -- the append
 obtain ⟨bv',W3,hrun3,hown3,hgr3,_,hloc3⟩:=run_append_own_at (P:=Tryz.prog) W2 0 68 68 5 i5 (.int .u8 0) 1 1 Tryz.underlying68 hi5 hz50 hz51 hz52 rfl (by decide) bv old.length (bc old) hbv2 ⟨vb,vo,none⟩ new.length cap (bc new) (by rw [C3,Nat.mul_one]) hcell2 (E7 _) (by unfold maxLen; omega) (by omega) (Nat.zero_le _)
 obtain ⟨m,hm⟩ : ∃ m,m=(old++new).length:=⟨_,rfl⟩
 rw [← Fa,← List.length_append,← hm] at hown3
 obtain ⟨ba,bcap,rfl⟩:=Do hown3
 have hg3:=Chg.of_grown hgr3
 have hbn : ∀ k x,W2.heap[k]? = some x→tag x≠5→¬ some k=bv.ownBlock:=fun k x hx ht e=>by
  obtain ⟨cur,hcur⟩:=A2 hbv2 e.symm
  exact Ax hx hcur ht rfl
 have p13:=hg3.keep p1 (hbn _ _ p1 (by simp [tag]))
 have p23:=hg3.keep p2 (hbn _ _ p2 (by simp [tag]))
 have hd3:=hg3.keep hd2 (hbn _ _ hd2 (by simp [tag]))
 have hf3:=hg3.keep hf2 (hbn _ _ hf2 (by simp [tag]))
 have hrow3:=A3 (w':=W3) (F:=fun k=>some k=bv.ownBlock) hrow2 hg3 (fun k hk e=>by
  obtain ⟨cur,hcur⟩:=A2 hrow2 hk
  exact hbn _ _ hcur (show 111≠5 by decide) e)
 -- the store
 obtain ⟨W4,hW4⟩ : ∃ W,W=W3.setCell ⟨f,0,none⟩ (.slice ba m bcap):=⟨_,rfl⟩
 have hc4 : Chg (· = f) W3 W4:=hW4 ▸ Cb _ _ _ _
 have p14:=hc4.keep p13 (Ax p13 hf3 (by simp [tag]))
 have p24:=hc4.keep p23 (Ax p23 hf3 (by simp [tag]))
 have hd4:=hc4.keep hd3 (Ax hd3 hf3 (by simp [tag]))
 have hf4 : W4.heap[f]? = some (.cells #[.slice ba m bcap,s,nmv] 118):=hW4 ▸ A0 hf3 0 _
 have hrow4:=A3 hrow3 hc4 (fun k hk e=>by
  obtain ⟨cur,hcur⟩:=A2 hrow3 hk
  exact Ax hcur hf3 (show 111≠118 by decide) e)
 have hown4:=A3 hown3 hc4 (fun k hk e=>by
  obtain ⟨cur,hcur⟩:=A2 hown3 hk
  exact Ax hcur hf3 (show 5≠118 by decide) e)
 -- used
 obtain ⟨W5,hW5⟩ : ∃ W,W=(W4.setCell ⟨d,1,none⟩ (.int .i64 (used+new.length))).drew:=⟨_,rfl⟩
 have hc5 : Chg (· = d) W4 W5:=hW5 ▸ (Cb _ _ _ _).drew
 have p15:=hc5.keep p14 (Ax p14 hd4 (by simp [tag]))
 have p25:=hc5.keep p24 (Ax p24 hd4 (by simp [tag]))
 have hf5:=hc5.keep hf4 (Ax hf4 hd4 (by simp [tag]))
 have hd5 : W5.heap[d]? = some (.cells #[r, .int .i64 (used+new.length),o1,o2,lv,o4,c1,c2,fl] 89):=hW5 ▸ A0 hd4 1 _
 have hrow5:=A3 hrow4 hc5 (fun k hk e=>by
  obtain ⟨cur,hcur⟩:=A2 hrow4 hk
  exact Ax hcur hd4 (show 111≠89 by decide) e)
 have hown5:=A3 hown4 hc5 (fun k hk e=>by
  obtain ⟨cur,hcur⟩:=A2 hown4 hk
  exact Ax hcur hd4 (show 5≠89 by decide) e)
 -- the act
 have hrow6 : (W5.drew.alloc (.cells #[.pointer (some ⟨f,0,none⟩), .func (.func 159) #[] #[.pointer (some ⟨w.heap.size,0,none⟩), .pointer (some ⟨w.heap.size+1,0,none⟩)]] 111)).ownsRow 0 111 2 lv n xs:=World.ownsRow.alloc (w:=W5.drew) hrow5 _
 have hq6:=Au W5.drew (.cells #[.pointer (some ⟨f,0,none⟩), .func (.func 159) #[] #[.pointer (some ⟨w.heap.size,0,none⟩), .pointer (some ⟨w.heap.size+1,0,none⟩)]] 111)
 have hone : ∀ x ∈ [Value.pointer (some ⟨f,0,none⟩), .func (.func 159) #[] #[.pointer (some ⟨w.heap.size,0,none⟩), .pointer (some ⟨w.heap.size+1,0,none⟩)]],x.oneCell'=true:=by
  intro x hx
  simp only [List.mem_cons,List.not_mem_nil,or_false] at hx
  rcases hx with rfl | rfl <;> rfl
 obtain ⟨lv',W7,hrun7,hrow7,hgr7,_,hloc7⟩:=run_append_own_at (P:=Tryz.prog) _ 0 86 86 111 i0 (.agg #[.pointer none, .nilFunc]) 2 16 Tryz.underlying86 hi hz0 hz1 hz2 rfl (by decide) lv n xs hrow6 ⟨W5.drew.heap.size,0,none⟩ 1 1 _ rfl (fun j u hu=>by
  rw [Addr.add_lit,Nat.zero_add,Ad hq6,List.getElem?_toArray]
  exact hu) hone (by unfold maxLen; omega) (by omega) (Nat.zero_le _)
 obtain ⟨la,lc,rfl⟩:=Do hrow7
 have hc6 : Chg (fun _=>False) W5 (W5.drew.alloc (.cells #[.pointer (some ⟨f,0,none⟩), .func (.func 159) #[] #[.pointer (some ⟨w.heap.size,0,none⟩), .pointer (some ⟨w.heap.size+1,0,none⟩)]] 111)):=(Chg.refl _ W5).drew.alloc _
 have hg7:=Chg.of_grown hgr7
 have hlk : ∀ k x,W5.heap[k]? = some x→tag x≠111→¬ some k=lv.ownBlock:=fun k x hx ht e=>by
  obtain ⟨cur,hcur⟩:=A2 hrow5 e.symm
  exact Ax hx hcur ht rfl
 have p17:=hg7.keep (hc6.keep p15 (fun h=>h)) (hlk _ _ p15 (by simp [tag]))
 have p27:=hg7.keep (hc6.keep p25 (fun h=>h)) (hlk _ _ p25 (by simp [tag]))
 have hd7:=hg7.keep (hc6.keep hd5 (fun h=>h)) (hlk _ _ hd5 (by simp [tag]))
 have hf7:=hg7.keep (hc6.keep hf5 (fun h=>h)) (hlk _ _ hf5 (by simp [tag]))
 have hown7:=A3 (A3 hown5 hc6 (fun _ _ h=>h)) hg7 (fun k hk e=>by
  obtain ⟨cur,hcur⟩:=A2 hown5 hk
  exact hlk _ _ hcur (show 5≠111 by decide) e)
 have e1:=Ad p1 0
 have e2:=Ad hf2 0
 have e4:=Av hf3 0
 have e5:=Ad hf3 0
 have e6:=Ad hd4 1
 have e7:=Ad p24 0
 have e8:=Av hd4 1
 have e9:=Ad hd5 4
 have e10:=Ad p15 0
 have e13:=Ad p13 0
 have e14:=Ad p14 0
 have e15:=Ad (w:=W5.drew.alloc (.cells #[.pointer (some ⟨f,0,none⟩), .func (.func 159) #[] #[.pointer (some ⟨w.heap.size,0,none⟩), .pointer (some ⟨w.heap.size+1,0,none⟩)]] 111)) (hc6.keep p15 (fun h=>h)) 0
 have e16:=Ad p17 0
 have e18:=Ad (w:=(W5.alloc (.cells #[.pointer (some ⟨f,0,none⟩), .func (.func 159) #[] #[.pointer (some ⟨w.heap.size,0,none⟩), .pointer (some ⟨w.heap.size+1,0,none⟩)]] 111)).drew) (hc6.keep hd5 (fun h=>h)) 4
 have e17:=Ad (Cy (p:=⟨d,4,none⟩) (u:=.slice la (n+1) lc) p17 (Ax p17 hd7 (by simp [tag]))) 0
 have e11:=Av hd7 4
 have e12:=Ad hd7 4
 have HALL:=Ab (And.intro hd7 (And.intro hf7 (And.intro hown7 (And.intro hrow7 (And.intro p17 p27)))))
 have hCALL : Chg (fun k=>k=d∨k=f∨some k=bv.ownBlock∨some k=lv.ownBlock) w W7:=
  (((((hc2.mono fun _ _ h=>h.elim).then (hg3.mono fun _ _ h=>Or.inr (Or.inr (Or.inl h)))).then (hc4.mono fun _ _ h=>Or.inr (Or.inl h))).then (hc5.mono fun _ _ h=>Or.inl h)).then (hc6.mono fun _ _ h=>h.elim)).then (hg7.mono fun _ _ h=>Or.inr (Or.inr (Or.inr h)))
 have HCALL:=Ab hCALL
 have hsz : w.heap.size≤W5.heap.size:=Nat.le_trans hc2.size (Nat.le_trans hg3.size (Nat.le_trans hc4.size hc5.size))
 have hsz2 : w.heap.size≤W2.heap.size:=hc2.size
 have HMM:=Ab hm
 have HW2:=Ab hW2
 have HW4:=Ab hW4
 have HW5:=Ab hW5
 have HL3:=Ab hloc3
 have HL7:=Ab hloc7
 clear hm hW2 hW4 hW5 hloc3 hloc7 hd7 hf7 hown7 hrow7 p17 p27 hCALL hd hf hbv hrow hv hcell hcell2 hc2 p1 p2 hd2 hf2 hbv2 hrow2 hbn p13 p23 hd3 hf3 hrow3 hc4 p14 p24 hd4 hf4 hrow4 hown4 hc5 p15 p25 hf5 hd5 hrow5 hown5 hlk hc6 hq6 hone hrow6 hgr3 hgr7 hg3 hg7 hown3
 go_enter Tryz.func143,Tryz.ntmps143
 go_wp2_with fail
 refine wp_region_held_drew (S:=fun W=>W.cell? ⟨w.heap.size,0,none⟩=some (.pointer (some ⟨f,0,none⟩))) (by kernel_rfl) (HW2.out ▸ e1) (fun hHeld=>?_)
 refine Aa 0 hHeld ?_
 refine Aa 1 hHeld ?_
 refine Aa 2 hHeld ?_
 refine Aa 3 hHeld ?_
 refine Aa 5 hHeld ?_
 rw [← HW2.out] at hHeld ⊢
 refine Al (i:=4) rfl (by kernel_rfl) rfl (fun K hK=>?_)
 go_simp
 refine hK.out _ _ (e1) (fun hHeld=>?_)
 clear hK K
 try simp only [Act.put,List.setIfInBounds_toArray,List.set_cons_zero,List.set_cons_succ]
 refine Al (i:=6) rfl (by kernel_rfl) rfl (fun K hK=>?_)
 refine Cg (.tmp 13) (.tmp 14) 68 rfl rfl rfl hrun3 ?_
 refine hK.out _ _ (e13) (fun hHeld=>?_)
 clear hK K
 try simp only [Act.put,List.setIfInBounds_toArray,List.set_cons_zero,List.set_cons_succ]
 refine Aa 7 hHeld ?_
 refine Aa 8 hHeld ?_
 refine Al (i:=9) rfl (by kernel_rfl) rfl (fun K hK=>?_)
 go_simp
 rw [← HW4.out]
 refine hK.out _ _ (e14) (fun hHeld=>?_)
 clear hK K
 try simp only [Act.put,List.setIfInBounds_toArray,List.set_cons_zero,List.set_cons_succ]
 refine wpAnyH_done (by kernel_rfl) ?_ _
 clear hHeld
 go_wp2_with fail
 go_region
 rw [← HW5.out]
 go_wp2_with fail
 refine wp_region_held_drew (S:=fun W=>W.cell? ⟨w.heap.size,0,none⟩=some (.pointer (some ⟨f,0,none⟩))) (by kernel_rfl) (e10) (fun hHeld=>?_)
 refine Aa 0 hHeld ?_
 refine Aa 1 hHeld ?_
 refine Aa 2 hHeld ?_
 refine Aa 3 hHeld ?_
 refine Aa 5 hHeld ?_
 refine Aa 6 hHeld ?_
 refine Aa 7 hHeld ?_
 have fin : ∃ bv' lv' cf ck,
   (W7.setCell ⟨d,4,none⟩ (.slice la (n+1) lc)).heap[d]? = some (.cells #[r, .int .i64 (used+new.length),o1,o2,lv',o4,c1,c2,fl] 89)∧(W7.setCell ⟨d,4,none⟩ (.slice la (n+1) lc)).heap[f]? = some (.cells #[bv',s,nmv] 118) ∧
   (W7.setCell ⟨d,4,none⟩ (.slice la (n+1) lc)).ownsRow 0 5 1 bv' (old++new).length (bc (old++new)) ∧
   (W7.setCell ⟨d,4,none⟩ (.slice la (n+1) lc)).ownsRow 0 111 2 lv' (n+1) (xs ++ [.pointer (some ⟨f,0,none⟩), .func (.func 159) #[] #[.pointer (some ⟨cf,0,none⟩), .pointer (some ⟨ck,0,none⟩)]]) ∧
   (W7.setCell ⟨d,4,none⟩ (.slice la (n+1) lc)).heap[cf]? = some (.cells #[.pointer (some ⟨f,0,none⟩)] 108)∧(W7.setCell ⟨d,4,none⟩ (.slice la (n+1) lc)).heap[ck]? = some (.cells #[.int .i64 (new.length : Int)] 3)∧w.heap.size≤cf∧w.heap.size≤ck ∧
   (bv'.ownBlock=bv.ownBlock ∨ ∃ q,bv'.ownBlock=some q∧w.heap.size≤q)∧(lv'.ownBlock=lv.ownBlock ∨ ∃ q,lv'.ownBlock=some q∧w.heap.size≤q) ∧
   Chg (fun k=>k=d∨k=f∨some k=bv.ownBlock∨some k=lv.ownBlock) w (W7.setCell ⟨d,4,none⟩ (.slice la (n+1) lc)):=by
  obtain ⟨a1,a2,a3,a4,a5,a6⟩:=HALL.out
  refine ⟨.slice ba m bcap, .slice la (n+1) lc,w.heap.size,w.heap.size+1,A0 a1 4 _,Cy a2 (Ax a2 a1 (by simp [tag])),?_,?_,Cy a5 (Ax a5 a1 (by simp [tag])),Cy a6 (Ax a6 a1 (by simp [tag])),Nat.le_refl _,Nat.le_succ _,?_,?_,HCALL.out.setCell (p:=⟨d,4,none⟩) (Or.inl (Or.inl rfl)) _⟩
  ·rw [← HMM.out]
   refine A3 a3 (Cb W7 d 4 _) (fun k hk e=>?_)
   obtain ⟨cur,hcur⟩:=A2 a3 hk
   exact Ax hcur a1 (show 5≠89 by decide) e
  ·refine A3 a4 (Cb W7 d 4 _) (fun k hk e=>?_)
   obtain ⟨cur,hcur⟩:=A2 a4 hk
   exact Ax hcur a1 (show 111≠89 by decide) e
  ·rcases HL3.out with h | h
   ·exact Or.inl h
   ·exact Or.inr ⟨_,h,hsz2⟩
  ·rcases HL7.out with h | h
   ·exact Or.inl h
   ·exact Or.inr ⟨_,h,by simp; omega⟩
 have FIN:=Ab fin
 clear fin
 refine twoH (i:=4) (j:=8) rfl rfl (by kernel_rfl) rfl rfl (fun K hK=>?_) (fun K hK=>?_)
 ·go_simp
  refine hK.out _ _ (e10) (fun hHeld=>?_)
  clear hK K
  try simp only [Act.put,List.setIfInBounds_toArray,List.set_cons_zero,List.set_cons_succ]
  refine Al (i:=8) rfl (by kernel_rfl) rfl (fun K hK=>?_)
  go_simp
  refine hK.out _ _ (e15) (fun hHeld=>?_)
  clear hK K
  try simp only [Act.put,List.setIfInBounds_toArray,List.set_cons_zero,List.set_cons_succ]
  refine Al (i:=9) rfl (by kernel_rfl) rfl (fun K hK=>?_)
  refine Cg (.tmp 30) (.tmp 34) 86 rfl rfl rfl hrun7 ?_
  refine hK.out _ _ (e16) (fun hHeld=>?_)
  clear hK K
  try simp only [Act.put,List.setIfInBounds_toArray,List.set_cons_zero,List.set_cons_succ]
  refine Aa 10 hHeld ?_
  refine Aa 11 hHeld ?_
  refine Al (i:=12) rfl (by kernel_rfl) rfl (fun K hK=>?_)
  go_simp
  refine hK.out _ _ (e17) (fun hHeld=>?_)
  clear hK K
  try simp only [Act.put,List.setIfInBounds_toArray,List.set_cons_zero,List.set_cons_succ]
  refine wpAnyH_done (by kernel_rfl) ?_ _
  clear hHeld
  go_wp2
  go_end0
  exact ⟨rfl,FIN.out⟩
 ·go_simp
  refine hK.out _ _ (e15) (fun hHeld=>?_)
  clear hK K
  try simp only [Act.put,List.setIfInBounds_toArray,List.set_cons_zero,List.set_cons_succ]
  refine Al (i:=4) rfl (by kernel_rfl) rfl (fun K hK=>?_)
  go_simp
  refine hK.out _ _ (e15) (fun hHeld=>?_)
  clear hK K
  try simp only [Act.put,List.setIfInBounds_toArray,List.set_cons_zero,List.set_cons_succ]
  refine Al (i:=9) rfl (by kernel_rfl) rfl (fun K hK=>?_)
  refine Cg (.tmp 30) (.tmp 34) 86 rfl rfl rfl hrun7 ?_
  refine hK.out _ _ (e16) (fun hHeld=>?_)
  clear hK K
  try simp only [Act.put,List.setIfInBounds_toArray,List.set_cons_zero,List.set_cons_succ]
  refine Aa 10 hHeld ?_
  refine Aa 11 hHeld ?_
  refine Al (i:=12) rfl (by kernel_rfl) rfl (fun K hK=>?_)
  go_simp
  refine hK.out _ _ (e17) (fun hHeld=>?_)
  clear hK K
  try simp only [Act.put,List.setIfInBounds_toArray,List.set_cons_zero,List.set_cons_succ]
  refine wpAnyH_done (by kernel_rfl) ?_ _
  clear hHeld
  go_wp2
  go_end0
  exact ⟨rfl,FIN.out⟩
end Go.Proofs.YtblniomnhpedjaaGreatDoor
