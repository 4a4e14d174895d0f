/-
  Texts joined: Sync, SyncRep, ActRep, Remove.
-/
import Derived.Test.YtblniomnhpedjaaGreatDoorP7BeginRep
namespace Go.Proofs.YtblniomnhpedjaaGreatDoor
open Go.RowKit
set_option maxRecDepth 20000 in
theorem Kv (w : World) (d n : Nat) (r u o1 o2 lv o4 c1 c2 fl of : Value) (vs : List (Value × Value)) (hd : w.heap[d]? = some (.cells #[r,u,o1,o2,lv,o4,c1,c2,fl] 89)) (hn : vs.length=n) (hrow : w.ownsRow 0 111 2 lv n (vc vs))
  (hp : ∀ p∈vs,PV w p.1) (hof : PV w of) (hb : n<1099511627776) (hpn : ∀ p∈vs,∀ b,p.1 = .pointer (some ⟨b,0,none⟩)→lv.ownBlock≠some b) (hofn : ∀ b,of = .pointer (some ⟨b,0,none⟩)→lv.ownBlock≠some b) (hfn : ∀ p∈vs,∃ fn fs cs,p.2 = .func fn fs cs) :
  Calls Tryz.prog 160 #[.pointer (some ⟨d,0,none⟩),of] w fun e w'=>e = .returned (.tuple #[])∧∃ lv',w'.heap[d]? = some (.cells #[r,u,o1,o2,lv',o4,c1,c2,fl] 89)∧lv'.ownBlock=lv.ownBlock ∧
   w'.ownsRow 0 111 2 lv' (vs.filter fun p=>!D7 p.1 of).length (vc (vs.filter fun p=>!D7 p.1 of))∧Chg (fun k=>k=d∨some k=lv.ownBlock) w w':=by
 have hmf : ∀ (fn : Fn) (first cap : Array Value) (w : World),(Instr.makeFunc fn first cap).run Tryz.prog w = .ok (.func fn first cap) w:=fun _ _ _ _=>rfl
 have hA : Chg (fun _=>False) w (w.alloc (.cells #[of] 108)):=(Chg.refl _ w).alloc _
 have hc:=Au w (.cells #[of] 108)
 have hdA:=hA.keep hd (fun h=>h)
 have hdel:=Qt (w.alloc (.cells #[of] 108)) w.heap.size n lv of vs hn (A3 hrow hA (fun _ _ h=>h)) (fun p hm=>(hp p hm).keep hA (fun _ _ h=>h)) (hof.keep hA (fun _ _ h=>h)) hc hb hpn hofn hfn
 have x4:=Ad hdA 4
 have hld : ∀ k,lv.ownBlock=some k→k≠d:=fun k hk=>by
  obtain ⟨cur,hcur⟩:=A2 hrow hk
  exact Ax hcur hd (show 111≠89 by decide)
 have HLD:=Ab hld
 have HD:=Ab hdA
 have HA:=Ab hA
 clear hld hp hpn hfn hofn hrow
 generalize (vs.filter fun p=>!D7 p.1 of)=rs at hdel ⊢
 have hpof : ∃ p,of = .pointer p:=hof.shape
 obtain ⟨pof,rfl⟩:=hpof
 go_enter Tryz.func160,Tryz.ntmps160
 go_wp2_with (go_at_call 165; refine hdel.mono ?_; rintro e w1 ⟨lv',rfl,hob,hrow1,hc1⟩; obtain ⟨la,lc,rfl⟩:=Do hrow1; have hd1:=hc1.keep HD.out (fun e=>HLD.out d e.symm rfl); have y4:=Ad hd1 4; have z4:=Av hd1 4)
 go_end0
 refine ⟨rfl,_,A0 hd1 4 _,hob,A3 hrow1 (Cb w1 d 4 _) (fun k hk e=>HLD.out k (by rw [← hob]; exact hk) e),?_⟩
 exact Chg.setCell (F:=fun k=>k=d∨some k=lv.ownBlock) ((HA.out.mono fun _ _ h=>h.elim).then (hc1.mono fun _ _ h=>Or.inr h)) (p:=⟨d,4,none⟩) (Or.inl (Or.inl rfl)) _
theorem Mc {α β : Type} {R : α→β→Prop} {p : α→Bool} {q : β→Bool} : ∀ (ls : List α) (bs : List β),bs.length=ls.length→(∀ (j : Nat) a b,ls[j]? = some a→bs[j]? = some b→R a b∧p a=q b) →
  (bs.filter q).length=(ls.filter p).length∧∀ (j : Nat) a b,(ls.filter p)[j]? = some a→(bs.filter q)[j]? = some b→R a b
 | [],[],_,_=>⟨rfl,fun j a b h=>by simp at h⟩
 | [],b :: bs,h,_=>by simp at h
 | a :: ls,[],h,_=>by simp at h
 | a :: ls,b :: bs,h,hR=>by
  obtain ⟨ih1,ih2⟩:=Mc ls bs (by simpa using h) (fun j x y hx hy=>hR (j+1) x y (by simpa using hx) (by simpa using hy))
  obtain ⟨r0,pq⟩:=hR 0 a b rfl rfl
  by_cases hpa : p a=true
  ·rw [List.filter_cons_of_pos hpa,List.filter_cons_of_pos (pq ▸ hpa)]
   refine ⟨by simp [ih1],fun j x y hx hy=>?_⟩
   cases j with
   | zero=>
    simp at hx hy
    subst hx hy
    exact r0
   | succ j=>exact ih2 j x y (by simpa using hx) (by simpa using hy)
  ·rw [List.filter_cons_of_neg hpa,List.filter_cons_of_neg (pq ▸ hpa)]
   exact ⟨ih1,ih2⟩
section
variable {w w' : World} {F : Nat→Prop} {d : Nat} {S : Dk} {G : Gh}
theorem ActW.first {fb : Nat→Nat} {a : Ac} {p : Value × Value} (h : ActW w F fb a p) : (A9 a=false∧p.1 = .pointer none) ∨ ∃ f k,a = .more f k∧p.1 = .pointer (some ⟨fb f,0,none⟩):=by
 cases a with
 | more f k=>exact Or.inr ⟨f,k,rfl,h.1⟩
 | made n f=>exact Or.inl ⟨rfl,h.1⟩
 | ren a b=>exact Or.inl ⟨rfl,h.1⟩
 | rem n=>exact Or.inl ⟨rfl,h.1⟩
theorem ActW.second {fb : Nat→Nat} {a : Ac} {p : Value × Value} (h : ActW w F fb a p) : ∃ fn fs cs,p.2 = .func fn fs cs:=by
 cases a with
 | more f k=>obtain ⟨_,cf,cn,e,_⟩:=h; exact ⟨_,_,_,e⟩
 | made n f=>obtain ⟨_,c,v,e,_⟩:=h; exact ⟨_,_,_,e⟩
 | ren a b=>obtain ⟨_,c,v,e,_⟩:=h; exact ⟨_,_,_,e⟩
 | rem n=>obtain ⟨_,c,v,e,_⟩:=h; exact ⟨_,_,_,e⟩
theorem Gp {ls : List Ac} {f k : Nat} (h : Ac.more f k∈ls) : f∈Br ls:=List.mem_filterMap.2 ⟨_,h,rfl⟩
theorem Rep.pair (h : Rep w F d S G) {p : Value × Value} (hp : p∈G.vs) : ∃ a∈S.acts,ActW w F G.fb a p:=by
 obtain ⟨j,hj,rfl⟩:=List.getElem_of_mem hp
 have hj' : j<S.acts.length:=by rw [← h.many]; exact hj
 exact ⟨_,List.getElem_mem hj',h.acts j _ _ (List.getElem?_eq_getElem hj') (List.getElem?_eq_getElem hj)⟩
theorem Rep.pv (h : Rep w F d S G) : ∀ p∈G.vs,PV w p.1:=fun p hp=>by
 obtain ⟨a,ha,hw⟩:=h.pair hp
 rcases hw.first with ⟨_,e⟩ | ⟨f,k,rfl,e⟩
 ·exact Or.inl e
 ·exact Or.inr ⟨_,_,_,e,(h.files f (Or.inr (Gp ha))).2⟩
theorem Rep.pvn (h : Rep w F d S G) : ∀ p∈G.vs,∀ b,p.1 = .pointer (some ⟨b,0,none⟩)→G.lv.ownBlock≠some b:=fun p hp b hb hk=>by
 obtain ⟨a,ha,hw⟩:=h.pair hp
 rcases hw.first with ⟨_,e⟩ | ⟨f,k,rfl,e⟩
 ·rw [e] at hb
  cases hb
 ·rw [e] at hb
  injection hb with hb
  injection hb with hb
  injection hb with hb
  obtain ⟨cur,hcur⟩:=A2 h.row hk
  exact Ax hcur (h.files f (Or.inr (Gp ha))).2 (show 111≠118 by decide) hb.symm
theorem Rep.funcs (h : Rep w F d S G) : ∀ p∈G.vs,∃ fn fs cs,p.2 = .func fn fs cs:=fun p hp=>by
 obtain ⟨a,_,hw⟩:=h.pair hp
 exact hw.second
theorem Rep.same_of (h : Rep w F d S G) {f : Nat} (hf : S.known f) {j : Nat} {a : Ac} {p : Value × Value} (ha : S.acts[j]? = some a) (hp : G.vs[j]? = some p) : (!isOf f a) = !D7 p.1 (.pointer (some ⟨G.fb f,0,none⟩)):=by
 rcases (h.acts j a p ha hp).first with ⟨hm,e⟩ | ⟨g,k,rfl,e⟩
 ·rw [e]
  cases a <;> first | rfl | simp [A9] at hm
 ·rw [e]
  have hg : S.known g:=Or.inr (Gp (List.mem_of_getElem? ha))
  show (!(g == f)) = !(G.fb g == G.fb f)
  congr 1
  rw [Bool.eq_iff_iff,beq_iff_eq,beq_iff_eq]
  exact ⟨fun e=>by rw [e],fun e=>h.inj g f hg hf e⟩
theorem Rep.same_dir (h : Rep w F d S G) {j : Nat} {a : Ac} {p : Value × Value} (ha : S.acts[j]? = some a) (hp : G.vs[j]? = some p) : A9 a = !D7 p.1 (.pointer none):=by
 rcases (h.acts j a p ha hp).first with ⟨hm,e⟩ | ⟨g,k,rfl,e⟩
 ·rw [e,hm]
  rfl
 ·rw [e]
  rfl
end
end Go.Proofs.YtblniomnhpedjaaGreatDoor
namespace Go.Proofs.YtblniomnhpedjaaGreatDoor
open Go.RowKit
theorem PV.set {w : World} {v : Value} (h : PV w v) (f i : Nat) (u : Value) : PV (w.setCell ⟨f,i,none⟩ u) v:=by
 rcases h with h | ⟨b,c,t,h1,h2⟩
 ·exact Or.inl h
 ·by_cases e : b=f
  ·subst e
   exact Or.inr ⟨b,_,t,h1,A0 h2 i u⟩
  ·exact Or.inr ⟨b,c,t,h1,Cy h2 e⟩
theorem PV.drew {w : World} {v : Value} (h : PV w v) : PV w.drew v:=h
section
variable {w w' : World} {F : Nat→Prop} {d : Nat} {S : Dk} {G : Gh}
theorem Iy {S : Dk} {q : Ac→Bool} {files : List Fl} (hq : ∀ a,A9 a=false→q a=true) {i : Nat} : Dk.live { S with files:=files,acts:=S.acts.filter q } i↔S.live i:=by
 unfold Dk.live
 simp only
 rw [Iq _ _ hq]
theorem Ke {S : Dk} {q : Ac→Bool} {files : List Fl} (hq : ∀ a,A9 a=false→q a=true) {i : Nat} (h : Dk.known { S with files:=files,acts:=S.acts.filter q } i) : S.known i:=by
 rcases h with h | h
 ·exact Or.inl ((Iy hq).1 h)
 ·exact Or.inr (H9 h)
theorem Rep.refile (h : Rep w F d S G) {f : Nat} (hf : f∈ids S.dir) {x : Fl} (hx : S.files[f]? = some x) (g : Fl→Fl) {rv lv : Value} (hc : Chg (fun k=>k=d∨k=G.fb f∨some k=G.lv.ownBlock) w w')
  (hok : Ok { S with files:=S.files.modify f g,acts:=S.acts.filter fun a=>!isOf f a })
  (hd : w'.heap[d]? = some (.cells (B9 { S with files:=S.files.modify f g,acts:=S.acts.filter fun a=>!isOf f a } { G with lv:=lv }) 89))
  (hfb : w'.heap[G.fb f]? = some (.cells #[rv, .int .i64 ((g x).sure : Int), .bool true] 118)) (hrv : w'.ownsRow 0 5 1 rv (g x).b.length (bc (g x).b)) (hrb : ∀ k,rv.ownBlock=some k→(G.rv f).ownBlock=some k)
  (hlv : lv.ownBlock=G.lv.ownBlock) (hrow : w'.ownsRow 0 111 2 lv (G.vs.filter fun p=>!D7 p.1 (.pointer (some ⟨G.fb f,0,none⟩))).length (vc (G.vs.filter fun p=>!D7 p.1 (.pointer (some ⟨G.fb f,0,none⟩))))) :
  Rep w' (Fx F w w') d { S with files:=S.files.modify f g,acts:=S.acts.filter fun a=>!isOf f a }
   { G with rv:=upd G.rv f rv,sv:=upd G.sv f (.int .i64 ((g x).sure : Int)),lv:=lv,vs:=G.vs.filter fun p=>!D7 p.1 (.pointer (some ⟨G.fb f,0,none⟩)) }:=by
 have hlf:=Dx h.ok hf
 have hkf : S.known f:=Or.inl hlf
 obtain ⟨b1,b2,b3⟩:=h.bytes f x hlf hx
 obtain ⟨f1,f2⟩:=h.files f hkf
 have hXn : ∀ k o,w.heap[k]? = some o→tag o≠89→tag o≠118→tag o≠111→¬ (k=d∨k=G.fb f∨some k=G.lv.ownBlock):=by
  intro k o ho t1 t2 t4 e
  rcases e with rfl | rfl | e
  ·exact Ax ho h.disk t1 rfl
  ·exact Ax ho f2 t2 rfl
  ·obtain ⟨cur,hcur⟩:=A2 h.row e.symm
   exact Ax ho hcur t4 rfl
 have hsp : Dl w (fun k=>k=d∨k=G.fb f∨some k=G.lv.ownBlock):=(D6 h.disk (by decide)).or ((D6 f2 (by decide)).or (Hc h.row (by decide)))
 have hmapn : ∀ {o : Option Nat} {l : List (Value × Value)},Be w F o l→Be w' (Fx F w w') o l:=fun {o l} hm=>hm.keep hc (fun c e=>by
  rw [e] at hm
  obtain ⟨es,ck,hh,_⟩:=hm.2
  exact hXn c _ hh (show (100000 : Nat)≠89 by decide) (show (100000 : Nat)≠118 by decide) (show (100000 : Nat)≠111 by decide)) (fun _ h=>Or.inl h)
 have hz:=Mc (R:=ActW w' (Fx F w w') G.fb) (p:=fun a=>!isOf f a) (q:=fun p : Value × Value=>!D7 p.1 (.pointer (some ⟨G.fb f,0,none⟩))) S.acts G.vs h.many (fun j a p ha hp=>⟨h.actsKeep hc hsp (fun _ h=>Or.inl h) j a p ha hp,h.same_of hkf ha hp⟩)
 have hnm:=Ey f
 refine
  {
   ok:=hok
   disk:=hd
   inD:=Or.inl h.inD
   roomy:=h.roomy
   cutv:=h.cutv
   now:=hmapn h.now
   sure:=hmapn h.sure
   both:=h.both
   bare:=fun e=>by show S.acts.filter _ = []; rw [h.bare e]; rfl
   fails:=by
    obtain ⟨l,g1,g2⟩:=h.fails
    exact ⟨l,hmapn g1,g2⟩
   two:=h.two
   three:=h.three
   row:=hrow
   rowF:=fun k hk=>Or.inl (h.rowF k (by rw [← hlv]; exact hk))
   many:=hz.1
   acts:=hz.2
   files:=fun i hi=>?_
   inj:=fun i j hi hj e=>h.inj i j (Ke hnm hi) (Ke hnm hj) e
   bytes:=fun i y hi hy=>?_
   apart:=fun i j k hi hj e1 e2=>?_ }
 ·have hi':=Ke hnm hi
  obtain ⟨g1,g2⟩:=h.files i hi'
  refine ⟨Or.inl g1,?_⟩
  show w'.heap[G.fb i]? = some (.cells #[upd G.rv f rv i,upd G.sv f _ i, .bool (decide (i∈ids S.dir))] _)
  by_cases e : i=f
  ·subst e
   rw [Ce,Ce,decide_eq_true hf]
   exact hfb
  ·rw [Bq _ _ e,Bq _ _ e]
   refine hc.keep g2 (fun hXb=>?_)
   rcases hXb with e2 | e2 | e2
   ·exact h.ne_file hi' e2.symm
   ·exact e (h.inj i f hi' hkf e2)
   ·obtain ⟨cur,hcur⟩:=A2 h.row e2.symm
    exact Ax g2 hcur (show 118≠111 by decide) rfl
 ·have hi':=(Iy hnm).1 hi
  show upd G.sv f _ i=_∧w'.ownsRow 0 _ 1 (upd G.rv f rv i) _ _∧∀ k,(upd G.rv f rv i).ownBlock=some k→_
  rcases G4 hy with ⟨hne2,hy'⟩ | ⟨rfl,y',hy',rfl⟩
  ·rw [Bq _ _ hne2,Bq _ _ hne2]
   obtain ⟨c1,c2,c3⟩:=h.bytes i y hi' hy'
   refine ⟨c1,A3 c2 hc (fun k hk=>?_),fun k hk=>Or.inl (c3 k hk)⟩
   obtain ⟨cur,hcur⟩:=A2 c2 hk
   exact hXn k _ hcur (show 5≠89 by decide) (show 5≠118 by decide) (show 5≠111 by decide)
  ·rw [hx] at hy'
   injection hy' with hy'
   subst hy'
   rw [Ce,Ce]
   exact ⟨rfl,hrv,fun k hk=>Or.inl (b3 k (hrb k hk))⟩
 ·have hi':=(Iy hnm).1 hi
  have hj':=(Iy hnm).1 hj
  have old : ∀ i,(upd G.rv f rv i).ownBlock=some k→(G.rv i).ownBlock=some k:=fun i hi=>by
   by_cases e : i=f
   ·subst e
    rw [Ce] at hi
    exact hrb k hi
   ·rw [Bq _ _ e] at hi
    exact hi
  exact h.apart i j k hi' hj' (old i e1) (old j e2)
set_option maxRecDepth 20000 in
theorem keepFile_rep (h : Rep w F d S G) {f : Nat} (hf : f∈ids S.dir) (hb : S.bulk<1099511627776) :
  Calls Tryz.prog 145 #[.pointer (some ⟨d,0,none⟩), .pointer (some ⟨G.fb f,0,none⟩)] w fun e w'=>e = .returned (.tuple #[])∧∃ G',Rep w' (Fx F w w') d (S.keepF f) G'∧Chg F w w':=by
 have hlf:=Dx h.ok hf
 obtain ⟨x,hx⟩ : ∃ x,S.files[f]? = some x:=⟨_,List.getElem?_eq_getElem (h.ok.idD hf)⟩
 obtain ⟨b1,b2,b3⟩:=h.bytes f x hlf hx
 obtain ⟨f1,f2⟩:=h.files f (Or.inl hlf)
 rw [decide_eq_true hf] at f2
 obtain ⟨ra,rc,hrv⟩:=Do b2
 have f2':=f2
 rw [hrv] at f2'
 have hd:=h.disk
 unfold B9 at hd
 have hdf : d≠G.fb f:=h.ne_file (Or.inl hlf)
 have hal:=E3 S
 obtain ⟨W1,hW1⟩ : ∃ W,W=w.setCell ⟨G.fb f,1,none⟩ (.int .i64 (x.b.length : Int)):=⟨_,rfl⟩
 have hc1 : Chg (· = G.fb f) w W1:=hW1 ▸ Cb _ _ _ _
 have hd1:=hc1.keep hd hdf
 have hlr : ∀ k,G.lv.ownBlock=some k→k≠G.fb f:=fun k hk=>by
  obtain ⟨cur,hcur⟩:=A2 h.row hk
  exact Ax hcur f2 (show 111≠118 by decide)
 have hset:=Kv W1 d G.vs.length _ _ _ _ _ _ _ _ _ (.pointer (some ⟨G.fb f,0,none⟩)) G.vs hd1 rfl (A3 h.row hc1 (fun k hk=>hlr k hk)) (fun p hp=>hW1 ▸ (h.pv p hp).set _ _ _) (hW1 ▸ (PV.set (Or.inr ⟨_,_,_,rfl,f2⟩) _ _ _)) (by rw [h.many]; omega) h.pvn (fun b e hk=>hlr b hk (by injection e with e; injection e with e; injection e with e; exact e.symm)) h.funcs
 have hf1 : W1.heap[G.fb f]? = some (.cells #[G.rv f, .int .i64 (x.b.length : Int), .bool true] 118):=hW1 ▸ A0 f2 1 _
 have c0:=Ad f2' 0
 have c1:=Ad f2' 1
 have t1:=Av f2' 1
 have HW:=Ab hW1
 have HF1:=Ab hf1
 have HB2:=Ab b2
 have HLR:=Ab hlr
 have HC1:=Ab hc1
 have HF2:=Ab f2
 clear hW1 hf1 b2 hlr hc1 f2 f2' hd1 hd
 go_enter Tryz.func145,Tryz.ntmps145
 go_wp2_with (first
  | (go_at_call 160; (first | rw [← HW.out] | skip); refine hset.mono ?_; rintro e w2 ⟨rfl,lv',q1,q2,q3,q4⟩))
 go_end0
 have hX : Chg (fun k=>k=d∨k=G.fb f∨some k=G.lv.ownBlock) w w2:=(HC1.out.mono fun _ _ e=>Or.inr (Or.inl e)).then (q4.mono fun _ _ e=>e.elim Or.inl fun e=>Or.inr (Or.inr e))
 refine ⟨rfl,_,h.refile hf hx (fun x=>{ x with sure:=x.b.length }) hX (h.ok.keepF f) ?_ (q4.keep HF1.out (fun e=>e.elim (fun e=>hdf e.symm) (fun e=>HLR.out _ e.symm rfl))) ?_ (fun k hk=>hk) q2 q3,hX.mono fun k _ hk=>?_⟩
 ·rw [q1]
  unfold B9
  have e1 : Dk.used { S with files:=S.files.modify f fun x=>{ x with sure:=x.b.length },acts:=S.acts.filter fun a=>!isOf f a } = S.used:=by
   have:=Lx (g:=fun x=>{ x with sure:=x.b.length }) h.ok.oneD hf hx
   unfold Dk.used
   simp only at this ⊢
   omega
  rw [e1]
 ·refine A3 (A3 HB2.out HC1.out (fun k hk e=>?_)) q4 (fun k hk e=>?_)
  ·obtain ⟨cur,hcur⟩:=A2 HB2.out hk
   exact Ax hcur HF2.out (show 5≠118 by decide) e
  ·obtain ⟨cur,hcur⟩:=A2 HB2.out hk
   rcases e with e | e
   ·exact Ax hcur h.disk (show 5≠89 by decide) e
   ·obtain ⟨cur2,hcur2⟩:=A2 h.row e.symm
    exact Ax hcur hcur2 (show 5≠111 by decide) rfl
 ·rcases hk with rfl | rfl | hk
  ·exact h.inD
  ·exact f1
  ·exact h.rowF k hk.symm
theorem own_cut {w : World} {n k : Nat} {ra : Option Addr} {rc : Nat} {l : List UInt8} (h : w.ownsRow 0 5 1 (.slice ra n rc) n (bc l)) (hl : l.length=n) (hk : k≤n) : w.ownsRow 0 5 1 (.slice ra k rc) k (bc (l.take k)):=by
 refine ⟨by rw [C3,List.length_take]; omega,?_⟩
 rcases h.2 with ⟨e,h0⟩ | ⟨g,cap,cur,e,h1,h2,h3,h4,h5,h6⟩
 ·injection e with e1 e2 e3
  subst e1 e3
  exact Or.inl ⟨by rw [show k=0 by omega],by omega⟩
 ·injection e with e1 e2 e3
  subst e1 e3
  refine Or.inr ⟨g,rc,cur,rfl,h1,h2,by omega,h4,h5,?_⟩
  rw [bc_take,← h6,List.take_take,Nat.mul_one,Nat.mul_one,Nat.min_eq_left hk]
set_option maxRecDepth 20000 in
set_option maxHeartbeats 400000 in
theorem undoFile_rep (h : Rep w F d S G) {f : Nat} (hf : f∈ids S.dir) (hb : S.bulk<1099511627776) :
  Calls Tryz.prog 144 #[.pointer (some ⟨d,0,none⟩), .pointer (some ⟨G.fb f,0,none⟩)] w fun e w'=>e = .returned (.tuple #[])∧∃ G',Rep w' (Fx F w w') d (S.undoF f) G'∧Chg F w w':=by
 have hlf:=Dx h.ok hf
 obtain ⟨x,hx⟩ : ∃ x,S.files[f]? = some x:=⟨_,List.getElem?_eq_getElem (h.ok.idD hf)⟩
 have hlen:=h.ok.lens f x hx
 have hsl : x.sure≤x.b.length:=by omega
 obtain ⟨b1,b2,b3⟩:=h.bytes f x hlf hx
 obtain ⟨f1,f2⟩:=h.files f (Or.inl hlf)
 rw [decide_eq_true hf,b1] at f2
 have hrc : ∃ ra rc,G.rv f = .slice ra x.b.length rc∧x.b.length≤rc∧(ra=none→rc=0):=by
  rcases b2.2 with ⟨e,h0⟩ | ⟨g,cap,cur,e,q1,q2,q3,q4,q5,q6⟩
  ·exact ⟨none,0,by rw [h0]; exact e,by omega,fun _=>rfl⟩
  ·exact ⟨_,cap,e,q3,fun h=>by cases h⟩
 obtain ⟨ra,rc,hrv,hle,hnil⟩:=hrc
 have hfl:=G7 hx
 have hus:=Lx (g:=fun x=>{ x with b:=x.b.take x.sure }) h.ok.oneD hf hx
 simp only [List.length_take] at hus
 have hul:=Em h.ok
 have hdu : A1 S.files S.dir=S.used:=rfl
 have f2':=f2
 rw [hrv] at f2'
 have hd:=h.disk
 unfold B9 at hd
 have hdf : d≠G.fb f:=h.ne_file (Or.inl hlf)
 have hal:=E3 S
 obtain ⟨u',hu'⟩ : ∃ u' : Int,u'=(S.used : Int) - ((x.b.length : Int) - (x.sure : Int)):=⟨_,rfl⟩
 -- used
 obtain ⟨W1,hW1⟩ : ∃ W,W=(w.setCell ⟨d,1,none⟩ (.int .i64 u')).drew:=⟨_,rfl⟩
 have hc1 : Chg (· = d) w W1:=hW1 ▸ (Cb _ _ _ _).drew
 have hd1 : W1.heap[d]? = some (.cells #[.int .i64 (S.room : Int), .int .i64 u', .map G.now, .map G.sure,G.lv, .int .i64 (S.n : Int), .bool S.cut.isSome, .int .i64 G.cv, .map G.fls] 89):=hW1 ▸ A0 hd 1 _
 have hf1:=hc1.keep f2 (fun e=>hdf e.symm)
 have hf1':=hf1
 rw [hrv] at hf1'
 have hlrd : ∀ k,G.lv.ownBlock=some k→k≠d:=fun k hk=>h.ne_row hk
 have hlr : ∀ k,G.lv.ownBlock=some k→k≠G.fb f:=fun k hk=>by
  obtain ⟨cur,hcur⟩:=A2 h.row hk
  exact Ax hcur f2 (show 111≠118 by decide)
 -- bytes
 obtain ⟨W2,hW2⟩ : ∃ W,W=(W1.setCell ⟨G.fb f,0,none⟩ (.slice ra x.sure rc)).drew:=⟨_,rfl⟩
 have hc2 : Chg (· = G.fb f) W1 W2:=hW2 ▸ (Cb _ _ _ _).drew
 have hd2:=hc2.keep hd1 hdf
 have hf2 : W2.heap[G.fb f]? = some (.cells #[.slice ra x.sure rc, .int .i64 (x.sure : Int), .bool true] 118):=hW2 ▸ A0 hf1 0 _
 have pvs : ∀ v,PV w v→PV W2 v:=fun v hv=>by
  have h1 : PV W1 v:=hW1 ▸ (hv.set d 1 (.int .i64 u'))
  exact hW2 ▸ (h1.set (G.fb f) 0 (.slice ra x.sure rc))
 have hset:=Kv W2 d G.vs.length _ _ _ _ _ _ _ _ _ (.pointer (some ⟨G.fb f,0,none⟩)) G.vs hd2 rfl (A3 (A3 h.row hc1 (fun k hk=>hlrd k hk)) hc2 (fun k hk=>hlr k hk)) (fun p hp=>pvs _ (h.pv p hp)) (pvs _ (Or.inr ⟨_,_,_,rfl,f2⟩)) (by rw [h.many]; omega) h.pvn (fun b e hk=>hlr b hk (by injection e with e; injection e with e; injection e with e; exact e.symm)) h.funcs
 have c0:=Ad f2' 0
 have c1:=Ad f2' 1
 have c2:=Ad hd 1
 have t1:=Av hd 1
 have g0:=Ad hf1' 0
 have g1:=Ad hf1' 1
 have g2:=Av hf1' 0
 have HW1:=Ab hW1
 have HW2:=Ab hW2
 have HF2:=Ab hf2
 have HB2:=Ab b2
 have HLR:=Ab hlr
 have HC1:=Ab hc1
 have HC2:=Ab hc2
 have HFF:=Ab f2
 have HU:=Ab hu'
 have HUS:=Ab hus
 have HLEN:=Ab hlen
 clear hW1 hW2 hf2 b2 hlr hc1 hc2 f2 f2' hf1 hf1' hd1 hd2 pvs hus hlen hdu hu'
 go_enter Tryz.func144,Tryz.ntmps144
 go_wp2_with fail
 go_region
 rw [← HU.out,← HW1.out]
 go_wp2_with fail
 go_region
 rw [← HW2.out]
 go_wp2_with (go_at_call 160; refine hset.mono ?_; rintro e w3 ⟨rfl,lv',q1,q2,q3,q4⟩)
 go_end0
 have hX : Chg (fun k=>k=d∨k=G.fb f∨some k=G.lv.ownBlock) w w3:=((HC1.out.mono fun _ _ e=>Or.inl e).then (HC2.out.mono fun _ _ e=>Or.inr (Or.inl e))).then (q4.mono fun _ _ e=>e.elim Or.inl fun e=>Or.inr (Or.inr e))
 have hus:=HUS.out
 refine ⟨rfl,_,h.refile hf hx (fun x=>{ x with b:=x.b.take x.sure }) (rv:=.slice ra x.sure rc) hX (h.ok.undoF f) ?_ (q4.keep HF2.out (fun e=>e.elim (fun e=>hdf e.symm) (fun e=>HLR.out _ e.symm rfl))) ?_ (fun k hk=>by rw [hrv]; cases ra with | none=>cases hk | some a=>exact hk) q2 q3,hX.mono fun k _ hk=>?_⟩
 ·rw [q1]
  unfold B9
  have e1 : ((Dk.used { S with files:=S.files.modify f fun x=>{ x with b:=x.b.take x.sure },acts:=S.acts.filter fun a=>!isOf f a } : Nat) : Int)=u':=by
   have e2 : A1 S.files S.dir=S.used:=rfl
   have e3 : Dk.used { S with files:=S.files.modify f fun x=>{ x with b:=x.b.take x.sure },acts:=S.acts.filter fun a=>!isOf f a } = A1 (S.files.modify f fun x=>{ x with b:=x.b.take x.sure }) S.dir:=rfl
   rw [e3,HU.out]
   omega
  rw [e1]
 ·have hcut:=own_cut (l:=x.b) (k:=x.sure) (hrv ▸ HB2.out) rfl hsl
  show w3.ownsRow 0 _ 1 (.slice ra x.sure rc) (x.b.take x.sure).length (bc (x.b.take x.sure))
  rw [show (x.b.take x.sure).length=x.sure by rw [List.length_take]; omega]
  refine A3 (A3 (A3 hcut HC1.out (fun k hk e=>?_)) HC2.out (fun k hk e=>?_)) q4 (fun k hk e=>?_)
  ·obtain ⟨cur,hcur⟩:=A2 hcut hk
   exact Ax hcur h.disk (show 5≠89 by decide) e
  ·obtain ⟨cur,hcur⟩:=A2 hcut hk
   exact Ax hcur HFF.out (show 5≠118 by decide) e
  ·obtain ⟨cur,hcur⟩:=A2 hcut hk
   rcases e with e | e
   ·exact Ax hcur h.disk (show 5≠89 by decide) e
   ·obtain ⟨cur2,hcur2⟩:=A2 h.row e.symm
    exact Ax hcur hcur2 (show 5≠111 by decide) rfl
 ·rcases hk with rfl | rfl | hk
  ·exact h.inD
  ·exact f1
  ·exact h.rowF k hk.symm
theorem M9 (S : Dk) : S.begun.bulk≤S.bulk+1:=by
 unfold Dk.begun
 split
 ·omega
 ·rw [Ic]
  omega
set_option maxRecDepth 20000 in
set_option maxHeartbeats 400000 in
theorem sync_rep (h : Rep w F d S G) (hb : S.bulk+1<1099511627776) (n : Nm) : Calls Tryz.prog 121 #[.pointer (some ⟨d,0,none⟩), .string (Ae n)] w fun e w'=>e = .returned (.int .i64 (S.sync n).2)∧∃ G',Rep w' (Fx F w w') d (S.sync n).1 G'∧Chg F w w':=by
 have hon:=on_rep h (by omega) n
 have hbb:=M9 S
 have hkeep : ∀ {G' : Gh} {w1 : World} {f : Nat},Rep w1 (Fx F w w1) d S.begun G'→look S.dir n=some f→_:=fun {G' w1 f} hr hl=>keepFile_rep hr (f:=f) (by rw [(D3 S).1]; exact Dq hl) (by omega)
 have hundo : ∀ {G' : Gh} {w1 : World} {f : Nat},Rep w1 (Fx F w w1) d S.begun G'→look S.dir n=some f→_:=fun {G' w1 f} hr hl=>undoFile_rep hr (f:=f) (by rw [(D3 S).1]; exact Dq hl) (by omega)
 obtain ⟨ra,hra⟩ : ∃ ra,ra=(S.sync n).1:=⟨_,rfl⟩
 obtain ⟨re,hre⟩ : ∃ re,re=(S.sync n).2:=⟨_,rfl⟩
 rw [← hra,← hre]
 have HA:=Ab hra
 have HE:=Ab hre
 clear hra hre
 go_enter Tryz.func121,Tryz.ntmps121
 go_wp2_with (first
  | (go_at_call 124; refine hon.mono ?_; rintro e w1 ⟨G',hr,hc,⟨er,he,hne,rfl⟩ | ⟨f,fl,he,hl,rfl⟩⟩)
  | (go_at_call 144; refine (hundo hr hl).mono ?_; rintro e w2 ⟨rfl,G2,hr2,hc2⟩)
  | (go_at_call 145; refine (hkeep hr hl).mono ?_; rintro e w2 ⟨rfl,G2,hr2,hc2⟩))
 ·go_ret
  have e1 : S.sync n=(S.begun,er):=by unfold Dk.sync; rw [he]
  rw [HA.out,HE.out,e1]
  exact ⟨rfl,G',hr,hc⟩
 ·rename_i hfl
  go_ret
  have e1 : S.sync n=(S.begun.undoF f,34):=by unfold Dk.sync; rw [he]; simp [hfl]
  rw [HA.out,HE.out,e1]
  exact ⟨rfl,G2,hr2.mono (Fx.trans hc.size hc2.size),hc.fx hc2⟩
 ·rename_i hfl
  go_ret
  have e1 : S.sync n=(S.begun.keepF f,0):=by unfold Dk.sync; rw [he]; simp [hfl]
  rw [HA.out,HE.out,e1]
  exact ⟨rfl,G2,hr2.mono (Fx.trans hc.size hc2.size),hc.fx hc2⟩
end
end Go.Proofs.YtblniomnhpedjaaGreatDoor
namespace Go.Proofs.YtblniomnhpedjaaGreatDoor
open Go.RowKit
def B5 (l : Dir) : Ac→Option Nat
 | .ren _ b=>look l b
 | .rem n=>look l n
 | _=>none
theorem Hu {l : Dir} (hs : Bx l) (hn : (ids l).Nodup) {n : Nm} {f : Nat} (h : look l n=some f) (i : Nat) : i∈ids (del n l)↔i∈ids l∧i≠f:=by
 have hp : (ids l).Perm (f :: ids (del n l)):=(Jb hs h).map fun p : Nm × Nat=>p.2
 have hn2:=(hp.nodup_iff).1 hn
 rw [List.nodup_cons] at hn2
 rw [hp.mem_iff,List.mem_cons]
 constructor
 ·intro hi
  exact ⟨Or.inr hi,fun e=>hn2.1 (e ▸ hi)⟩
 ·rintro ⟨h1 | h1,h2⟩
  ·exact absurd h1 h2
  ·exact h1
theorem Jn {files : List Fl} {l : Dir} (hs : Bx l) {n : Nm} {f : Nat} (h : look l n=some f) : A1 files l=Az files f+A1 files (del n l):=by
 unfold A1
 rw [Il ((Jb hs h).map fun p : Nm × Nat=>Az files p.2)]
 rfl
theorem gone_facts {files : List Fl} {l : Dir} (hs : Bx l) (hn : (ids l).Nodup) {a : Ac} (hc : canD l a) (hm : A9 a=false) (hmade : A4 [a] = []) :
  (∀ i,i∈ids (Bl l a)↔i∈ids l∧B5 l a≠some i)∧A1 files l=((B5 l a).map (Az files)).getD 0+A1 files (Bl l a):=by
 cases a with
 | made n f=>simp [A4] at hmade
 | more f k=>simp [A9] at hm
 | rem n=>
  obtain ⟨f,hf⟩:=Option.ne_none_iff_exists'.1 hc
  have e : B5 l (.rem n)=some f:=hf
  rw [e]
  refine ⟨fun i=>?_,Jn hs hf⟩
  show i∈ids (del n l)↔_
  rw [Hu hs hn hf]
  simp [eq_comm]
 | ren x y=>
  obtain ⟨f,hf⟩:=Option.ne_none_iff_exists'.1 hc.1
  have ed : Bl l (.ren x y)=ins y f (del y (del x l)):=by simp only [Bl,hf]
  have hp : (ids (ins y f (del y (del x l)))).Perm (f :: ids (del y (del x l))):=(Fo y f _).map fun p : Nm × Nat=>p.2
  have hu : A1 files (ins y f (del y (del x l)))=Az files f+A1 files (del y (del x l)):=by
   unfold A1
   rw [Il ((Fo y f (del y (del x l))).map fun p : Nm × Nat=>Az files p.2)]
   rfl
  have hnx : (ids (del x l)).Nodup:=(List.filter_sublist (l:=l)).map (fun p : Nm × Nat=>p.2) |>.nodup hn
  have hlf : f∈ids l:=Dq hf
  have e : B5 l (.ren x y)=look l y:=rfl
  rw [ed,e,hu]
  cases hy : look l y with
  | none=>
   have hy2 : look (del x l) y=none:=by rw [D5,if_neg (fun e=>hc.2 e.symm),hy]
   rw [Mw hy2]
   refine ⟨fun i=>?_,?_⟩
   ·rw [Mw hy2] at hp
    rw [hp.mem_iff,List.mem_cons,Hu hs hn hf]
    simp
    constructor
    ·rintro (rfl | h)
     ·exact hlf
     ·exact h.1
    ·intro h
     by_cases e : i=f
     ·exact Or.inl e
     ·exact Or.inr ⟨h,e⟩
   ·rw [Jn hs hf]
    simp
  | some g=>
   have hy2 : look (del x l) y=some g:=by rw [D5,if_neg (fun e=>hc.2 e.symm),hy]
   have hgf : g≠f:=fun e=>by
    have:=(Hu hs hn hf g).1 (Dq hy2)
    exact this.2 e
   refine ⟨fun i=>?_,?_⟩
   ·rw [hp.mem_iff,List.mem_cons,Hu (Gz hs x) hnx hy2,Hu hs hn hf]
    simp
    constructor
    ·rintro (rfl | ⟨⟨h1,h2⟩,h3⟩)
     ·exact ⟨hlf,hgf⟩
     ·exact ⟨h1,fun e=>h3 e.symm⟩
    ·rintro ⟨h1,h2⟩
     by_cases e : i=f
     ·exact Or.inl e
     ·exact Or.inr ⟨⟨h1,e⟩,fun e=>h2 e.symm⟩
   ·rw [Jn hs hf,Jn (Gz hs x) hy2]
    simp
    omega
section
variable {w w' : World} {F : Nat→Prop} {d : Nat} {S : Dk} {G : Gh}
theorem Jj {S : Dk} {a : Ac} (hmade : A4 [a] = []) {i : Nat} : (S.act a).live i↔S.live i:=by
 unfold Dk.live Dk.act
 simp only [Ek,hmade,List.append_nil]
theorem M8 {S : Dk} {a : Ac} (hmade : A4 [a] = []) (hm : A9 a=false) {i : Nat} : (S.act a).known i↔S.known i:=by
 unfold Dk.known
 rw [Jj hmade]
 unfold Dk.act
 have e : Br [a] = []:=by cases a <;> first | rfl | simp [A9] at hm
 simp only [Gu,e,List.append_nil]
theorem Rep.acted (h : Rep w F d S G) {bn : Nat} (hnow : G.now=some bn) {a : Ac} (hok : Ok (S.act a)) (hcan : canD S.dir a) (hm : A9 a=false) (hmade : A4 [a] = []) {lv dov : Value} {c : Nat}
  (hc : Chg (fun k=>k=d∨k=bn∨some k=G.lv.ownBlock ∨ ∃ g,B5 S.dir a=some g∧k=G.fb g) w w')
  (hd : w'.heap[d]? = some (.cells #[.int .i64 (S.room : Int), .int .i64 ((S.used : Int) - (((B5 S.dir a).map (Az S.files)).getD 0 : Nat)), .map (some bn), .map G.sure,lv, .int .i64 (S.n : Int), .bool S.cut.isSome, .int .i64 G.cv, .map G.fls] 89))
  (hmap : Ak w' bn (dv G.fb (Bl S.dir a))) (hgone : ∀ g,B5 S.dir a=some g→w'.heap[G.fb g]? = some (.cells #[G.rv g,G.sv g, .bool false] 118))
  (hrow : w'.ownsRow 0 111 2 lv (G.vs.length+1) (vc G.vs ++ [.pointer none, .func (.func 161) #[] #[.pointer (some ⟨c,0,none⟩)]]))
  (hcs : w.heap.size≤c) (hcc : w'.heap[c]? = some (.cells #[dov] 219)) (hlv : lv.ownBlock=G.lv.ownBlock ∨ ∃ q,lv.ownBlock=some q∧w.heap.size≤q) (hdo : DoW w' (Fx F w w') G.fb a dov) :
  Rep w' (Fx F w w') d (S.act a) { G with lv:=lv,vs:=G.vs ++ [(.pointer none, .func (.func 161) #[] #[.pointer (some ⟨c,0,none⟩)])] }:=by
 obtain ⟨hids,hused⟩:=gone_facts (files:=S.files) h.ok.sortD h.ok.oneD hcan hm hmade
 have hmp:=h.now
 rw [hnow] at hmp
 have hgl : ∀ g,B5 S.dir a=some g→g∈ids S.dir:=fun g hg=>by
  cases a with
  | ren x y=>exact Dq hg
  | rem n=>exact Dq hg
  | made n f=>cases hg
  | more f k=>cases hg
 have hgk : ∀ g,B5 S.dir a=some g→S.known g:=fun g hg=>Or.inl (Dx h.ok (hgl g hg))
 have hXn : ∀ k o,w.heap[k]? = some o→tag o≠89→tag o≠100000→tag o≠111→tag o≠118→¬ (k=d∨k=bn∨some k=G.lv.ownBlock ∨ ∃ g,B5 S.dir a=some g∧k=G.fb g):=by
  intro k o ho t1 t2 t3 t4 e
  rcases e with rfl | rfl | e | ⟨g,hg,rfl⟩
  ·exact Ax ho h.disk t1 rfl
  ·obtain ⟨es,ck,hh,_⟩:=hmp.2
   exact Ax ho hh t2 rfl
  ·obtain ⟨cur,hcur⟩:=A2 h.row e.symm
   exact Ax ho hcur t3 rfl
  ·exact Ax ho (h.files g (hgk g hg)).2 t4 rfl
 have hsp : Dl w (fun k=>k=d∨k=bn∨some k=G.lv.ownBlock ∨ ∃ g,B5 S.dir a=some g∧k=G.fb g):=
  (D6 h.disk (by decide)).or ((Ka hmp.2).or ((Hc h.row (by decide)).or (by
   rintro k x t h1 h2 ⟨g,hg,rfl⟩
   exact D6 (h.files g (hgk g hg)).2 (by decide) _ x t h1 h2 rfl)))
 have hmo : ∀ {o : Option Nat} {l : List (Value × Value)},Be w F o l→o≠some bn→Be w' (Fx F w w') o l:=fun {o l} hmm hne=>hmm.keep hc (fun b e hX=>by
  rw [e] at hmm
  rcases hX with e2 | e2 | e2 | ⟨g,hg,e2⟩
  ·exact hmm.2.ne h.disk e2.symm
  ·exact hne (e2 ▸ e)
  ·obtain ⟨cur,hcur⟩:=A2 h.row e2.symm
   exact hmm.2.ne hcur rfl
  ·exact hmm.2.ne (h.files g (hgk g hg)).2 e2.symm) (fun _ h=>Or.inl h)
 have nd : ∀ k,w.heap.size≤k→w'.heap[k]? ≠ none→Fx F w w' k:=fun k hk hne=>Or.inr ⟨hk,by
  rcases Nat.lt_or_ge k w'.heap.size with h1 | h1
  ·exact h1
  ·exact absurd (Array.getElem?_eq_none h1) hne⟩
 have hsure : G.sure≠some bn:=(h.two bn hnow).1
 have hfls : G.fls≠some bn:=(h.two bn hnow).2
 refine
  {
   ok:=hok
   disk:=?_
   inD:=Or.inl h.inD
   roomy:=h.roomy
   cutv:=h.cutv
   now:=by
    show Be w' _ G.now _
    rw [hnow]
    exact ⟨Or.inl hmp.1,hmap⟩
   sure:=hmo h.sure hsure
   both:=h.both
   bare:=fun e=>by rw [show G.now=some bn from hnow] at e; cases e
   fails:=by
    obtain ⟨l,g1,g2⟩:=h.fails
    exact ⟨l,hmo g1 hfls,g2⟩
   two:=h.two
   three:=h.three
   row:=?_
   rowF:=fun k hk=>?_
   many:=?_
   acts:=fun j b p ha hp=>?_
   files:=fun i hi=>?_
   inj:=fun i j hi hj e=>h.inj i j ((M8 hmade hm).1 hi) ((M8 hmade hm).1 hj) e
   bytes:=fun i y hi hy=>?_
   apart:=fun i j k hi hj e1 e2=>h.apart i j k ((Jj hmade).1 hi) ((Jj hmade).1 hj) e1 e2 }
 ·rw [hd]
  unfold B9
  have e1 : (((S.act a).used : Nat) : Int)=(S.used : Int) - (((B5 S.dir a).map (Az S.files)).getD 0 : Nat):=by
   have e2 : S.used=A1 S.files S.dir:=rfl
   have e3 : (S.act a).used=A1 S.files (Bl S.dir a):=rfl
   rw [e2,e3,hused]
   omega
  rw [e1]
  show _=some (Obj.cells #[_,_, .map G.now,_,_,_,_,_,_] _)
  rw [hnow]
  rfl
 ·show w'.ownsRow 0 _ 2 lv (G.vs ++ [_]).length (vc (G.vs ++ [_]))
  rw [Kr,List.length_append]
  exact hrow
 ·have hk' : lv.ownBlock=some k:=hk
  rcases hlv with e | ⟨x,e,hx⟩
  ·rw [e] at hk'
   exact Or.inl (h.rowF k hk')
  ·rw [e] at hk'
   injection hk' with hk'
   subst hk'
   exact nd x hx (by obtain ⟨cur,hcur⟩:=A2 hrow e; rw [hcur]; simp)
 ·show (G.vs ++ [_]).length=(S.acts ++ [_]).length
  rw [List.length_append,List.length_append,h.many]
  rfl
 ·have ha' : (S.acts ++ [a])[j]? = some b:=ha
  have hp' : (G.vs ++ [_])[j]? = some p:=hp
  rcases Nat.lt_or_ge j S.acts.length with hj | hj
  ·rw [List.getElem?_append_left hj] at ha'
   rw [List.getElem?_append_left (by rw [h.many]; exact hj)] at hp'
   exact (h.acts j b p ha' hp').keep hc (fun c x t h1 h2 _=>hsp c x t h1 h2) (fun _ h=>Or.inl h) (fun i hi=>rfl)
  ·have hj' : j=S.acts.length:=by
    have:=(List.getElem?_eq_some_iff.1 ha').1
    simp at this
    omega
   subst hj'
   rw [List.getElem?_append_right (Nat.le_refl _)] at ha'
   rw [← h.many,List.getElem?_append_right (Nat.le_refl _)] at hp'
   simp at ha' hp'
   subst ha' hp'
   have hfin : (Value.pointer none,Value.func (.func 161) #[] #[.pointer (some ⟨c,0,none⟩)]).1 = .pointer none∧∃ c' v,(Value.pointer none,Value.func (.func 161) #[] #[.pointer (some ⟨c,0,none⟩)]).2 = .func (.func 161) #[] #[.pointer (some ⟨c',0,none⟩)]∧Fx F w w' c'∧w'.heap[c']? = some (.cells #[v] 219)∧DoW w' (Fx F w w') G.fb a v:=
    ⟨rfl,c,dov,rfl,nd c hcs (by rw [hcc]; simp),hcc,hdo⟩
   cases a with
   | made n f=>exact hfin
   | ren x y=>exact hfin
   | rem n=>exact hfin
   | more f k=>simp [A9] at hm
 ·have hi':=(M8 hmade hm).1 hi
  obtain ⟨g1,g2⟩:=h.files i hi'
  refine ⟨Or.inl g1,?_⟩
  show w'.heap[G.fb i]? = some (.cells #[G.rv i,G.sv i, .bool (decide (i∈ids (Bl S.dir a)))] _)
  by_cases e : B5 S.dir a=some i
  ·rw [show decide (i∈ids (Bl S.dir a))=false by rw [decide_eq_false_iff_not,hids]; exact fun hh=>hh.2 e]
   exact hgone i e
  ·rw [show decide (i∈ids (Bl S.dir a))=decide (i∈ids S.dir) by rw [decide_eq_decide,hids]; exact ⟨fun hh=>hh.1,fun hh=>⟨hh,e⟩⟩]
   refine hc.keep g2 (fun hXb=>?_)
   rcases hXb with e2 | e2 | e2 | ⟨g,hg,e2⟩
   ·exact h.ne_file hi' e2.symm
   ·exact hmp.2.ne g2 e2
   ·obtain ⟨cur,hcur⟩:=A2 h.row e2.symm
    exact Ax g2 hcur (show 118≠111 by decide) rfl
   ·exact e (by rw [h.inj i g hi' (hgk g hg) e2]; exact hg)
 ·have hi':=(Jj hmade).1 hi
  obtain ⟨c1,c2,c3⟩:=h.bytes i y hi' hy
  refine ⟨c1,A3 c2 hc (fun k hk=>?_),fun k hk=>Or.inl (c3 k hk)⟩
  obtain ⟨cur,hcur⟩:=A2 c2 hk
  exact hXn k _ hcur (show 5≠89 by decide) (show 5≠100000 by decide) (show 5≠111 by decide) (show 5≠118 by decide)
end
end Go.Proofs.YtblniomnhpedjaaGreatDoor
namespace Go.Proofs.YtblniomnhpedjaaGreatDoor
open Go.RowKit
theorem Ju {w : World} {g : Nat} {v : Value} {t : TypeId} (h : w.heap[g]? = some (.cells #[v] t (0,0))) : Chg (fun _=>False) w (w.setCell ⟨g,0,none⟩ v):=by
 refine ⟨rfl,rfl,rfl,by simp [World.setCell],fun k hk _=>?_⟩
 by_cases e : k=g
 ·subst e
  rw [A0 h 0 v,h]
  rfl
 ·exact Below.heap_setCell _ _ _ _ e
theorem enters44 : ∀ args w,(callFunc 157 args).run Tryz.prog w = .ok (.enter 157 args) w:=enters_of Tryz.func157 (by kernel_rfl) rfl
theorem enters54 : ∀ args w,(callFunc 148 args).run Tryz.prog w = .ok (.enter 148 args) w:=enters_of Tryz.func148 (by kernel_rfl) rfl
section
variable {w w' : World} {F : Nat→Prop} {d : Nat} {S : Dk} {G : Gh}
theorem O3 (h : Rep w F d S G) (hb : S.bulk<1099511627776) {f : Nat} (hf : f∈ids S.dir) :
  Calls Tryz.prog 146 #[.pointer (some ⟨d,0,none⟩), .pointer (some ⟨G.fb f,0,none⟩)] w fun e w'=>e = .returned (.tuple #[]) ∧
   w'.heap[d]? = some (.cells #[.int .i64 (S.room : Int), .int .i64 ((S.used : Int) - Az S.files f), .map G.now, .map G.sure,G.lv, .int .i64 (S.n : Int), .bool S.cut.isSome, .int .i64 G.cv, .map G.fls] 89) ∧
   w'.heap[G.fb f]? = some (.cells #[G.rv f,G.sv f, .bool false] 118)∧Chg (fun k=>k=d∨k=G.fb f) w w':=by
 have hlf:=Dx h.ok hf
 obtain ⟨x,hx⟩ : ∃ x,S.files[f]? = some x:=⟨_,List.getElem?_eq_getElem (h.ok.idD hf)⟩
 obtain ⟨b1,b2,b3⟩:=h.bytes f x hlf hx
 obtain ⟨f1,f2⟩:=h.files f (Or.inl hlf)
 obtain ⟨ra,rc,hrv⟩:=Do b2
 have hd:=h.disk
 unfold B9 at hd
 have hul:=Em h.ok
 have hlu : x.b.length≤S.used:=by
  have : Az S.files f∈S.dir.map fun p=>Az S.files p.2:=by
   obtain ⟨p,hp,e⟩:=List.mem_map.1 hf
   exact List.mem_map.2 ⟨p,hp,by rw [e]⟩
  have h2:=Km this
  have e : Az S.files f=x.b.length:=by simp [Az,hx]
  rw [e] at h2
  exact h2
 have e : Az S.files f=x.b.length:=by simp [Az,hx]
 rw [hrv] at f2 ⊢
 rw [e]
 refine (Ot w d (G.fb f) x.b.length rc ra _ _ _ _ _ _ _ _ _ _ (S.used : Int) hd f2 (by omega) (by omega)).mono ?_
 rintro e w' ⟨he,h1,h2,h3,_⟩
 exact ⟨he,h1,h2,h3⟩
theorem Oy {w2 : World} (h : Rep w F d S G) {bn : Nat} (hnow : G.now=some bn) {a : Ac} (hok : Ok (S.act a)) (hcan : canD S.dir a) (hm : A9 a=false) (hmade : A4 [a] = []) (hb : S.bulk<1099511627776)
  (hc : Chg (fun k=>k=d ∨ ∃ g,B5 S.dir a=some g∧k=G.fb g) w w2)
  (hd : w2.heap[d]? = some (.cells #[.int .i64 (S.room : Int), .int .i64 ((S.used : Int) - (((B5 S.dir a).map (Az S.files)).getD 0 : Nat)), .map (some bn), .map G.sure,G.lv, .int .i64 (S.n : Int), .bool S.cut.isSome, .int .i64 G.cv, .map G.fls] 89))
  (hgone : ∀ g,B5 S.dir a=some g→w2.heap[G.fb g]? = some (.cells #[G.rv g,G.sv g, .bool false] 118))
  {g : Nat} {caps : Array Value} (eg : ∀ args w,(callFunc g args).run Tryz.prog w = .ok (.enter g args) w)
  (hcall : ∀ W,Ak W bn (dv G.fb S.dir)→Chg (fun _=>False) w2 W→Calls Tryz.prog g (#[.map (some bn)]++caps) W fun e w'=>e = .returned (.tuple #[])∧Ak w' bn (dv G.fb (Bl S.dir a))∧Chg (· = bn) W w')
  (hdo : ∀ w',(∀ (k : Nat) (x : Value),w2.heap[k]? = some (Obj.cells #[x] 9)→w'.heap[k]? = some (Obj.cells #[x] 9))→DoW w' (Fx F w w') G.fb a (.func (.func g) #[] caps)) :
  Calls Tryz.prog 147 #[.pointer (some ⟨d,0,none⟩), .func (.func g) #[] caps] w2 fun e w'=>e = .returned (.tuple #[])∧∃ G',Rep w' (Fx F w w') d (S.act a) G'∧Chg F w w':=by
 have hmp:=h.now
 rw [hnow] at hmp
 have hgk : ∀ g,B5 S.dir a=some g→S.known g:=fun g hg=>Or.inl (Dx h.ok (by
  cases a with
  | ren x y=>exact Dq hg
  | rem n=>exact Dq hg
  | made n f=>cases hg
  | more f k=>cases hg))
 have hmw : Ak w2 bn (dv G.fb S.dir):=hmp.2.keep hc (fun e=>by
  rcases e with e | ⟨g,hg,e⟩
  ·exact hmp.2.ne h.disk e.symm
  ·exact hmp.2.ne (h.files g (hgk g hg)).2 e.symm)
 have hrow : w2.ownsRow 0 111 2 G.lv G.vs.length (vc G.vs):=A3 h.row hc (fun k hk e=>by
  obtain ⟨cur,hcur⟩:=A2 h.row hk
  rcases e with e | ⟨g,hg,e⟩
  ·subst e
   exact Ax hcur h.disk (show 111≠89 by decide) rfl
  ·subst e
   exact Ax hcur (h.files g (hgk g hg)).2 (show 111≠118 by decide) rfl)
 have hal:=E3 S
 refine (O8 w2 d bn G.vs.length g caps (dv G.fb S.dir) (dv G.fb (Bl S.dir a)) _ _ _ _ _ _ _ _ _ hd hmw hrow (by rw [h.many]; omega) eg (fun W hW=>hcall W (hmw.keep hW (fun h=>h)) hW)).mono ?_
 rintro e w' ⟨he,c,lv',r1,r2,r3,r4,r5,r6,r7⟩
 have hc' : Chg (fun k=>k=d∨k=bn∨some k=G.lv.ownBlock ∨ ∃ g,B5 S.dir a=some g∧k=G.fb g) w w':=
  (hc.mono fun k _ e=>e.elim Or.inl fun e=>Or.inr (Or.inr (Or.inr e))).then (r7.mono fun k _ e=>by
   rcases e with e | e | e
   ·exact Or.inl e
   ·exact Or.inr (Or.inl e)
   ·exact Or.inr (Or.inr (Or.inl e)))
 have hcF : Chg F w w':=hc'.mono fun k _ e=>by
  rcases e with rfl | rfl | e | ⟨g,hg,rfl⟩
  ·exact h.inD
  ·exact hmp.1
  ·exact h.rowF k e.symm
  ·exact (h.files g (hgk g hg)).1
 have hlast : ∀ k o,w2.heap[k]? = some o→tag o≠89→tag o≠100000→tag o≠111→¬ (k=d∨k=bn∨some k=G.lv.ownBlock):=by
  intro k o ho t1 t2 t3 e
  rcases e with rfl | rfl | e
  ·exact Ax ho hd t1 rfl
  ·obtain ⟨es,ck,hh,_⟩:=hmw
   exact Ax ho hh t2 rfl
  ·obtain ⟨cur,hcur⟩:=A2 hrow e.symm
   exact Ax ho hcur t3 rfl
 refine ⟨he,_,h.acted hnow hok hcan hm hmade hc' r1 r2 (fun g hg=>?_) r3 (Nat.le_trans hc.size r4) r5 ?_ (hdo w' fun k x hk=>?_),hcF⟩
 ·exact r7.keep (hgone g hg) (hlast _ _ (hgone g hg) (show 118≠89 by decide) (show 118≠100000 by decide) (show 118≠111 by decide))
 ·rcases r6 with e | ⟨q,e1,e2⟩
  ·exact Or.inl e
  ·exact Or.inr ⟨q,e1,Nat.le_trans hc.size e2⟩
 ·exact r7.keep hk (hlast _ _ hk (show 9≠89 by decide) (show 9≠100000 by decide) (show 9≠111 by decide))
theorem Rep.hasNow (h : Rep w F d S G) {n : Nm} {f : Nat} (hl : look S.dir n=some f) : ∃ bn,G.now=some bn:=by
 cases e : G.now with
 | some b=>exact ⟨b,rfl⟩
 | none=>
  have:=h.now
  rw [e] at this
  have h2 : dv G.fb S.dir = []:=this
  have h3 : S.dir = []:=List.map_eq_nil_iff.1 h2
  rw [h3] at hl
  cases hl
set_option maxRecDepth 20000 in
set_option maxHeartbeats 800000 in
theorem remove_rep (h : Rep w F d S G) (hlow : ∀ k,F k→k<w.heap.size) (hb : S.bulk+1<1099511627776) (n : Nm) : Calls Tryz.prog 139 #[.pointer (some ⟨d,0,none⟩), .string (Ae n)] w fun e w'=>e = .returned (.int .i64 (S.remove n).2)∧∃ G',Rep w' (Fx F w w') d (S.remove n).1 G'∧Chg F w w':=by
 have hmf : ∀ (fn : Fn) (first cap : Array Value) (w : World),(Instr.makeFunc fn first cap).run Tryz.prog w = .ok (.func fn first cap) w:=fun _ _ _ _=>rfl
 have hA : Chg (fun _=>False) w (w.alloc (.cells #[.string (Ae n)] 9)):=(Chg.refl _ w).alloc _
 have hn0:=Au w (.cells #[.string (Ae n)] 9)
 have hon:=on_rep (h.keep hA (fun _ _ h=>h) (fun _ h=>h)) (by omega) n
 have hszA : (w.alloc (.cells #[.string (Ae n)] 9)).heap.size=w.heap.size+1:=by simp
 have hbb:=M9 S
 have x0:=Ad hn0 0
 obtain ⟨ra,hra⟩ : ∃ ra,ra=(S.remove n).1:=⟨_,rfl⟩
 obtain ⟨re,hre⟩ : ∃ re,re=(S.remove n).2:=⟨_,rfl⟩
 rw [← hra,← hre]
 have HA:=Ab hra
 have HE:=Ab hre
 clear hra hre
 have fx0 : ∀ w1 : World,(w.alloc (.cells #[.string (Ae n)] 9)).heap.size≤w1.heap.size→∀ k,Fx F (w.alloc (.cells #[.string (Ae n)] 9)) w1 k→Fx F w w1 k:=fun w1 hs k hk=>by
  rcases hk with hk | ⟨a,b⟩
  ·exact Or.inl hk
  ·exact Or.inr ⟨by omega,b⟩
 have hnl : Ap n=true→n.length≤80:=fun h=>(Hr h).2
 go_enter Tryz.func139,Tryz.ntmps139
 go_wp2_with (first
  | (go_at_call 124; refine hon.mono ?_; rintro e w1 ⟨G',hr,hc,⟨er,he,hne,rfl⟩ | ⟨f,fl,he,hl,rfl⟩⟩))
 ·go_ret
  have e1 : S.remove n=(S.begun,er):=by unfold Dk.remove; rw [he]
  rw [HA.out,HE.out,e1]
  exact ⟨rfl,G',hr.mono (fx0 w1 hc.size),(hA.mono fun _ _ h=>h.elim).then hc⟩
 ·rename_i hfl
  go_ret
  have e1 : S.remove n=(S.begun,34):=by unfold Dk.remove; rw [he]; simp [hfl]
  rw [HA.out,HE.out,e1]
  exact ⟨rfl,G',hr.mono (fx0 w1 hc.size),(hA.mono fun _ _ h=>h.elim).then hc⟩
 ·have hfl : fl=false:=by assumption
  subst hfl
  have e1 : S.remove n=(S.begun.act (.rem n),0):=by unfold Dk.remove; rw [he]; rfl
  have hl1 : look S.begun.dir n=some f:=by rw [(D3 S).1]; exact hl
  have hne1 : look S.begun.dir n≠none:=by rw [hl1]; simp
  obtain ⟨bn,hbn⟩:=hr.hasNow hl1
  have hnm : Ap n=true:=by
   rcases Bool.eq_false_or_eq_true (Ap n) with e | e
   ·exact e
   ·exfalso
    unfold Dk.onFile at he
    split at he
    ·cases he
    ·cases he
  have hnlen:=hnl hnm
  have hun:=O3 hr (by omega) (Dq hl1)
  have hn1 : w1.heap[w.heap.size]? = some (.cells #[.string (Ae n)] 9):=hc.keep hn0 (fun hF=>Nat.lt_irrefl _ (hlow _ hF))
  have hlt1 : w.heap.size<w1.heap.size:=At hn1
  have hg1 : B5 S.begun.dir (.rem n)=some f:=hl1
  have hX1 : ¬ (w.heap.size=d∨w.heap.size=G'.fb f):=fun e=>by
   rcases e with e | e
   ·exact Ax hn1 hr.disk (show 9≠89 by decide) e
   ·exact Ax hn1 (hr.files f (Or.inl (Dx hr.ok (Dq hl1)))).2 (show 9≠118 by decide) e
  have HR:=Ab hr
  have HC:=Ab hc
  clear hr hc
  refine hun.mono ?_
  rintro e w2 ⟨rfl,u1,u2,u3⟩
  have hn2:=u3.keep hn1 hX1
  have y2:=Ad hn2 0
  have HU1:=Ab u1
  have HU2:=Ab u2
  have HU3:=Ab u3
  clear u1 u2 u3
  go_wp2_with (first
   | (go_at_call 56; refine (E9 _ n (by omega)).mono ?_; rintro e w3 ⟨rfl,hb3⟩; have h3:=(hb3.block w.heap.size (At hn2)).trans hn2; have y3:=Av h3 0; have z3:=Ad h3 0)
   | fail)
  have hr1 : Rep w1 (Fx F w w1) d S.begun G':=HR.out.mono (fx0 w1 HC.out.size)
  have hcn : Fx F w w1 w.heap.size:=Or.inr ⟨Nat.le_refl _,hlt1⟩
  have hs2:=HU3.out.size
  have hc3 : Chg (fun k=>k=d∨k=G'.fb f) w1 w3:=HU3.out.trans (Chg.of_below hb3) (fun i hi h=>by omega)
  have hc4 : Chg (fun k=>k=d∨k=G'.fb f) w1 (w3.setCell ⟨w.heap.size,0,none⟩ (.string (Ae n))):=hc3.then ((Ju h3).mono fun _ _ h=>h.elim)
  have hsame:=(Ju h3)
  have hn4:=hsame.keep h3 (fun h=>h)
  have hd4:=hsame.keep ((hb3.block d (At HU1.out)).trans HU1.out) (fun h=>h)
  have hf4:=hsame.keep ((hb3.block (G'.fb f) (At HU2.out)).trans HU2.out) (fun h=>h)
  clear hsame y3 z3 h3 hc3
  generalize w3.setCell ⟨w.heap.size,0,none⟩ (.string (Ae n))=w4 at *
  rw [hbn] at hd4
  have hch:=Oy (w2:=w4) (a:=.rem n) hr1 hbn (hr1.ok.rem hne1) hne1 rfl rfl (by omega) (hc4.mono fun k _ e=>e.elim Or.inl fun e=>Or.inr ⟨f,hg1,e⟩) (by rw [hg1]; exact hd4)
   (fun g hg=>by rw [hg1] at hg; injection hg with hg; subst hg; exact hf4) (g:=157) (caps:=#[.pointer (some ⟨w.heap.size,0,none⟩)]) enters44
   (fun W hm hW=>rem1_any W bn w.heap.size G'.fb S.begun.dir n hr1.ok.sortD hm hne1 (hW.keep hn4 (fun h=>h)))
   (fun w' hk=>⟨w.heap.size,rfl,Or.inl hcn,hk _ _ hn4⟩)
  refine hch.mono ?_
  rintro e w5 ⟨rfl,G5,hr5,hc5⟩
  have HR5:=Ab hr5
  have HC5:=Ab hc5
  clear hr5 hc5 hch hun hon
  go_wp2
  go_ret
  rw [HA.out,HE.out,e1]
  refine ⟨rfl,G5,HR5.out.mono (fun k hk=>?_),((hA.mono fun _ _ h=>h.elim).then HC.out).trans HC5.out (fun i hi h=>?_)⟩
  ·rcases hk with (hk | ⟨a,b⟩) | ⟨a,b⟩
   ·exact Or.inl hk
   ·exact Or.inr ⟨a,Nat.lt_of_lt_of_le b HC5.out.size⟩
   ·exact Or.inr ⟨by omega,b⟩
  ·rcases h with h | ⟨a,b⟩
   ·exact h
   ·omega
end
end Go.Proofs.YtblniomnhpedjaaGreatDoor
