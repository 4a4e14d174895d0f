/-
  Texts joined: TPlays2, TRGet.
-/
import Derived.Test.YtblniomnhpedjaaGreatDoorP45WCrcMath
import Derived.Test.YtblniomnhpedjaaGreatDoorP36TRDone
import Derived.Test.YtblniomnhpedjaaGreatDoorP25TKeys
namespace Go.Proofs.YtblniomnhpedjaaGreatDoor
open Go.RowKit
structure PlL (B : Nat) (w : World) (x d g t b r : Nat) (F : Nat→Prop) (S : Dk) (lp : List Af) (f : Value) (ks : List Int) (tight : Bool) : Prop where
 world : B8 w x d t r f tight S
 tab : TabS B w F d g t b S lp
 row : w.ownsRow B 3 1 f ks.length (icW ks)
 fo : ∀ k,f.ownBlock=some k→¬ (F k∨k=g∨k=t)∧k≠x
 xo : ¬ (F x∨x=g∨x=t)
 low : B≤x
def TDeadP (B : Nat) (w : World) (F : Nat→Prop) (d : Nat) (S : Dk) (lq : List Af) (m : Nat) : Prop:=Bi B w F d S∧(∃ gq tail,On B6 S gq tail∧Ct gq=some lq)∧B3 S∧S.bulk≤m
section
variable {z : Nm} {S : Dk} {gs : List (List (List UInt8))}
theorem on_look2 {tail : List UInt8} (h : On z S gs tail) (hz : Ap z=true) (hon : S.on=true) : Cu S z=(0,some (gs,(laid Ah gs).length,(laid Ah gs++tail).length))∨(Cu S z=(34,none)∧S.fails S.n=true):=by
 cases hf : S.fails S.n with
 | false=>exact .inl (h.look hz hon hf)
 | true=>
  have hof : S.onFile z=match look S.dir z with
    | none=>.error 32
    | some f=>.ok (f,S.fails S.n):=by
   unfold Dk.onFile
   rw [if_neg (by simp [hon]),if_neg (by simp [hz])]
   cases look S.dir z <;> rfl
  rcases h.2.2 with ⟨h1,e⟩ | ⟨g,h1⟩
  ·left
   have hr : Cw S z=(laid Ah gs++tail,0):=by
    unfold Cw Dk.read
    rw [hof,h1.lookD,e]
    rfl
   unfold Cu
   rw [hr]
   dsimp only
   rw [if_neg (by decide),groups_on h.1 h.2.1]
   rfl
  ·right
   have hr : Cw S z=([],34):=by
    unfold Cw Dk.read
    rw [hof,h1.lookD]
    simp only [hf]
    rfl
   unfold Cu
   rw [hr]
   exact ⟨rfl,rfl⟩
end
section
variable {B : Nat} {w w' w2 : World} {F F' : Nat→Prop} {x d g t b r : Nat} {S S' : Dk} {L : Lw} {sure : Bool} {lp l : List Af} {f v : Value} {ks : List Int} {tight : Bool} {m k : Nat} {ps : List An} {gs : List (List Bs)}
theorem PlL.full {r' : Nat} (h : PlL B w x d g t b r' F S lp f ks tight) (hR : C6 w x F g t r' lp) (hf : ∀ k,Cm w r' k→f.ownBlock≠some k) : PlM B w x d g t b r' F S lp f ks tight:=⟨h.world,h.tab,h.row,h.fo,hR,hf,h.xo,h.low⟩
theorem next_same (hE : Bg lp ps≠0∨ps = []) : Bz lp ps=lp:=by
 rcases hE with e | e
 ·exact Gj e
 ·by_cases e0 : Bg lp ps=0
  ·rw [Gf e0,e]; rfl
  ·exact Gj e0
theorem commit_may (h : Cx B6 S L sure lp gs) (hk : Ok S) (hr : Bn lp) (hl : ∀ p∈lp,okP p) (hf0 : Bb lp=true) (hP : PlP S ks tight m k) (hm : m≤400000000) (hE : ¬ (Bg lp ps≠0∨ps = [])) (hk' : Ok (Aq S L sure lp ps).1) :
  MayBe tight ks S.n (Aq S L sure lp ps).1.n (Aq S L sure lp ps).2.2.2.2∧(Aq S L sure lp ps).1.n≤S.n+30∧(Aq S L sure lp ps).1.n≤4611686018427387904:=by
 obtain ⟨-,q1,q2,q3,q4,-⟩:=Nl h hk hk' Fi hr hl hf0 hP.lit hP.slim hE
 have hn : (Aq S L sure lp ps).1.n≤(Aq S L sure lp ps).1.bulk:=by unfold Dk.bulk; omega
 have:=hP.bulk
 exact ⟨hP.may q1,by have:=q3.2.2; omega,by omega⟩
theorem commit_pl (h : Cx B6 S L sure lp gs) (hk : Ok S) (hr : Bn lp) (hl : ∀ p∈lp,okP p) (hf0 : Bb lp=true) (hP : PlP S ks tight m k) (hk' : Ok (Aq S L sure lp ps).1) :
  (Aq S L sure lp ps).2.2.2.2≠35∧PlP (Aq S L sure lp ps).1 ks tight (m+2200000) k
 ∧((Aq S L sure lp ps).2.2.2.2=0∧(Aq S L sure lp ps).2.2.2.1=Bz lp ps∧(∃ gs',Cx B6 (Aq S L sure lp ps).1 (Aq S L sure lp ps).2.1 (Aq S L sure lp ps).2.2.1 (Bz lp ps) gs')
   ∨ (Aq S L sure lp ps).2.2.2.2≠0∧(Aq S L sure lp ps).2.2.2.1=lp∧∃ gs',Cx B6 (Aq S L sure lp ps).1 (Aq S L sure lp ps).2.1 (Aq S L sure lp ps).2.2.1 lp gs')
 ∧(∀ most most' : Int,(S.used : Int)≤10000+2 * most→most≤most'→(¬ (Bg lp ps≠0∨ps = [])→(Ag (Ai lp ps) : Int)≤most')→(¬ (Bg lp ps≠0∨ps = [])→(Aq S L sure lp ps).2.2.2.2≠34)→((Aq S L sure lp ps).1.used : Int)≤10000+2 * most'):=by
 by_cases hE : Bg lp ps≠0∨ps = []
 ·have hnx:=next_same hE
  rw [N2 hf0 hE,hnx]
  refine ⟨ans_not35 lp ps,⟨hP.lit,hP.slim,Nat.le_trans hP.bulk (Nat.le_add_right _ _),hP.fl,hP.room,hP.few⟩,?_,fun most most' h1 h2 _ _=>?_⟩
  ·by_cases h0 : Bg lp ps=0
   ·exact .inl ⟨h0,rfl,gs,h⟩
   ·exact .inr ⟨h0,rfl,gs,h⟩
  ·dsimp only
   omega
 ·obtain ⟨⟨ha,hnx⟩,q1,q2,q3,q4,q5,q6,q7⟩:=Nl h hk hk' Fi hr hl hf0 hP.lit hP.slim hE
  have hnot : (Aq S L sure lp ps).2.2.2.2=0∨(Aq S L sure lp ps).2.2.2.2=34∨(Aq S L sure lp ps).2.2.2.2=33:=q1.imp id (fun h=>h.imp (fun h=>h.1) (fun h=>h.1))
  refine ⟨by omega,hP.near q3 q2 q4 (Nat.le_refl _) (Nat.le_refl _),?_,fun most most' h1 h2 h3 h4=>?_⟩
  ·by_cases h0 : (Aq S L sure lp ps).2.2.2.2=0
   ·obtain ⟨-,p2,p3⟩:=q6 h0
    exact .inl ⟨h0,p2,p3⟩
   ·obtain ⟨p1,p2⟩:=q7 h0
    exact .inr ⟨h0,p1,gs,p2⟩
  ·have h3:=h3 hE
   have h4:=h4 hE
   rcases hnot with e | e | e
   ·have:=(q6 e).1
    rw [hnx] at this
    omega
   ·exact absurd e h4
   ·have:=q5 e
    omega
theorem lay_pl (h : PlM B w x d g t b r F S lp f ks tight) (hP : PlP S ks tight m k) (hv : PsT w v ps) (hpl : ps.length≤140737488355328) (hvo : ∀ k,v.ownBlock=some k→¬ (F k∨k=g∨k=t)∧k≠x) (hkk : k≤1000000) (hB0 : 0<B) (hT : Bm w) (hm : m≤400000000) :
  Calls Tryz.prog 21 #[.pointer (some ⟨x,0,none⟩),v] w fun e w'=>∃ A,e = .returned (.tuple #[.int .i64 A, .bool true])∧A≠35 ∧
   ∃ F' b' S' lp',(A=0∧lp'=Bz lp ps∨A≠0∧lp'=lp)∧PlL B w' x d g t b' r F' S' lp' f ks tight∧PlP S' ks tight (m+2200000) k∧(∀ k,F' k→F k∨w.heap.size≤k)∧Chg (fun k=>F k∨k=g∨k=t∨k=x) w w':=by
 obtain ⟨bad,most,last,hW,hm1,hm2,hus⟩:=h.world
 obtain ⟨L,sure,gs,h1,h2⟩:=h.tab
 have hwh:=slim_wh h2.1 hP.slim
 have hfew:=hP.few
 have hbu:=hP.bulk
 refine (layp_any hW h1 h.ref.1 hv hpl (fun k hk=>?_) (fun k hk=>?_) hm1 hm2 hB0 hT (by omega) ⟨hwh.1,by omega⟩ h.row h.fo (by omega) (fun hE hk'=>commit_may h2 h1.log.1.ok h1.tab.rise h1.each h1.fit hP hm hE hk')).mono ?_
 ·rcases hk with rfl | hk | hk | hk
  ·exact h.xo
  ·exact (h.ref.2 k (.inl hk)).2.1
  ·exact (h.ref.2 k (.inr hk)).2.1
  ·exact (hvo k hk).1
 ·rcases hk with hk | hk | hk
  ·exact (h.ref.2 k (.inl hk)).2.2
  ·exact (h.ref.2 k (.inr hk)).2.2
  ·exact (hvo k hk).2
 ·rintro e w' ⟨⟨most',last',bad',rfl,k1,k2,k3,k4,k5⟩,F',b',k6,k7,k8,k9⟩
  obtain ⟨p1,p2,p3,p4⟩:=commit_pl (ps:=ps) h2 h1.log.1.ok h1.tab.rise h1.each h1.fit hP k6.log.1.ok
  have hlt:=h.lt
  have hFF : ∀ k,F' k∨k=g∨k=t→(F k∨k=g∨k=t)∨w.heap.size≤k:=fun k h=>by
   rcases h with h | h
   ·exact (k7 k h).imp .inl id
   ·exact .inl (.inr h)
  have hWP : B8 w' x d t r f tight (Aq S L sure lp ps).1:=⟨bad',most',last',k1,⟨k3.1,k4⟩,k5,fun e=>p4 most most' (hus (k2 e).1) k3.2.1 k3.2.2 (k2 e).2⟩
  have hrow : w'.ownsRow B 3 1 f ks.length (icW ks):=A3 h.row k9 (fun k hk e=>by
   have:=h.fo k hk
   rcases e with e | e | e | e
   ·exact this.1 (.inl e)
   ·exact this.1 (.inr (.inl e))
   ·exact this.1 (.inr (.inr e))
   ·exact this.2 e)
  have hfo : ∀ k,f.ownBlock=some k→¬ (F' k∨k=g∨k=t)∧k≠x:=fun k hk=>⟨fun e=>by
   rcases hFF k e with e | e
   ·exact (h.fo k hk).1 e
   ·have:=(World.ownsRow.lt h.row k hk).2
    omega,(h.fo k hk).2⟩
  have hxo : ¬ (F' x∨x=g∨x=t):=fun e=>by
   rcases hFF x e with e | e
   ·exact h.xo e
   ·have:=hlt x (.inr rfl)
    omega
  refine ⟨(Aq S L sure lp ps).2.2.2.2,rfl,p1,F',b',(Aq S L sure lp ps).1,(Aq S L sure lp ps).2.2.2.1,?_,⟨hWP,?_,hrow,hfo,hxo,h.low⟩,p2,k7,k9⟩
  ·rcases p3 with ⟨q1,q2,-⟩ | ⟨q1,q2,-⟩
   ·exact .inl ⟨q1,q2⟩
   ·exact .inr ⟨q1,q2⟩
  ·rcases p3 with ⟨-,q2,gs',q3⟩ | ⟨-,q2,gs',q3⟩
   ·rw [q2] at k6 ⊢
    exact ⟨_,_,gs',k6,q3⟩
   ·rw [q2] at k6 ⊢
    exact ⟨_,_,gs',k6,q3⟩
theorem Hh (h : TabS B w F d g t b S lp) (hb : S.bulk≤m) (hB : B≤w.heap.size) (hm : m≤499000000) (keep tn : Int) :
  Calls Tryz.prog 23 #[.pointer (some ⟨d,0,none⟩), .int .i64 keep, .int .i64 tn] w fun e w'=>∃ d2 F2 S2,e = .returned (.pointer (some ⟨d2,0,none⟩))∧TDeadP B w' F2 d2 S2 lp m∧(∀ k,F2 k→w.heap.size≤k)∧Chg (fun _=>False) w w':=by
 obtain ⟨L,sure,gs,h1,⟨-,tail,ho,-⟩,hto,-⟩:=h
 have hbc:=Pc (S:=S) keep tn
 refine (Nx h1.log.1 hB keep tn (by omega)).mono ?_
 rintro e w' ⟨d2,F2,rfl,q1,q2,q3⟩
 exact ⟨d2,F2,_,rfl,⟨q1,⟨gs,tail,ho.crash h1.log.1.ok keep tn,hto⟩,P1 keep tn,by omega⟩,q2,q3⟩
theorem Gv (h : TDeadP B w F d S l m) (hB : B≤w.heap.size) (hB0 : 0<B) (hT : Bm w) (hm : m≤499000000) (hR : Cr w r l) (hRF : ∀ k,Cm w r k→¬ F k) :
  Calls Tryz.prog 22 #[.pointer (some ⟨d,0,none⟩), .pointer (some ⟨r,0,none⟩)] w fun e w'=>e = .returned (.bool true)∧Chg F w w':=by
 obtain ⟨h1,⟨gq,tail,k1,k2⟩,h3,h5⟩:=h
 have hnm:=Hd Fi
 have hlk:=k1.look hnm.1 (Hi h3) (h3.2 _)
 refine (told_any h1 hlk (Po k1.1) k2 hB hB0 hT (by omega) hR (hRF r (.inl rfl)) (fun u hu k hk=>hRF k (.inr ⟨u,hu,hk⟩))).mono ?_
 rintro e w' ⟨rfl,F',-,-,q3⟩
 exact ⟨by rw [decide_eq_true rfl],q3⟩
theorem open_pl (h : TabS B w F d g t b S lp) (hl : Lit S) (hB : B≤w.heap.size) (hB0 : 0<B) (hT : Bm w) (hb : S.bulk≤499000000) :
  (Calls Tryz.prog 14 #[.pointer (some ⟨d,0,none⟩), .string ⟨#[116,97,98]⟩] w fun e w'=>∃ t2 b2 g2 F2,e = .returned (.tuple #[.pointer (some ⟨t2,0,none⟩), .int .i64 0])∧TabS B w' F2 d g2 t2 b2 S.begun lp ∧
   (∀ k,F2 k→F k∨w.heap.size≤k)∧w.heap.size≤t2∧w.heap.size≤b2∧w.heap.size≤g2∧Chg F w w') ∨
  (S.fails S.n=true∧Calls Tryz.prog 14 #[.pointer (some ⟨d,0,none⟩), .string ⟨#[116,97,98]⟩] w fun e w'=>e = .returned (.tuple #[.pointer none, .int .i64 34])∧C2 B w F d S.begun w'):=by
 obtain ⟨L,sure,gs,h1,⟨hn,tail,ho,hw1,hw2⟩,hto,hsu⟩:=h
 have hnm:=Hd Fi
 have hlk:=on_look2 ho hnm.1 hl.on
 have hop:=Li h1.log.1 hB hB0 hT (by omega) B6 Fi (fun y hy g hg=>by
  rcases hlk with e | ⟨e,-⟩
  ·rw [e] at hy
   injection hy with hy
   subst hy
   exact Po ho.1 g hg
  ·rw [e] at hy
   cases hy)
 have hop : Calls Tryz.prog 14 #[.pointer (some ⟨d,0,none⟩), .string ⟨#[116,97,98]⟩] w _:=hop
 rcases hlk with hlk | ⟨hlk,hf⟩
 ·left
  refine hop.mono ?_
  rintro e w' hO
  unfold E5 at hO
  rw [hlk] at hO
  simp only [hto] at hO
  obtain ⟨t2,b2,g2,F2,rfl,q1,q2,q3,q4,q5,q6⟩:=hO
  exact ⟨t2,b2,g2,F2,rfl,⟨_,false,gs,q1,ho.begun.has false,hto,fun e=>by cases e⟩,q2,q3,q4,q5,q6⟩
 ·right
  refine ⟨hf,hop.mono ?_⟩
  rintro e w' hO
  unfold E5 at hO
  rw [hlk] at hO
  exact hO
end
end Go.Proofs.YtblniomnhpedjaaGreatDoor
namespace Go.Proofs.YtblniomnhpedjaaGreatDoor
open Go.RowKit
theorem eql_text (t : TypeId) (a b : Bs) : binOp .eql t (.string (Ae a)) (.string (Ae b))=pure (.bool (decide (a=b))):=by
 by_cases h : a=b
 ·simp [binOp,Op.stringOp,Ae,h]
 ·have h2 : (a == b)=false:=by simpa using h
  simp [binOp,Op.stringOp,Ae,h,h2]
def getE (o : Option Bs) : Ending:=.returned (match o with | some v=>.tuple #[.string (Ae v), .bool true] | none=>.tuple #[.string ⟨#[]⟩, .bool false])
set_option maxRecDepth 20000 in
theorem rget_any (w : World) (r : Nat) (l : List Af) (key : Bs) (h : Cr w r l) :
  Calls Tryz.prog 44 #[.pointer (some ⟨r,0,none⟩), .string (Ae key)] w fun e w'=>e=getE (getT l key)∧w'=w:=by
 obtain ⟨u,hu,hp⟩:=h
 obtain ⟨ao,cap,rfl⟩:=hp.form
 have x0 : w.cell? ⟨r,0,none⟩=some (.slice ao l.length cap):=by rw [Ad hu]; rfl
 have hl:=hp.len
 have HP:=Ab hp
 clear hp hu
 go_enter Tryz.func44,Tryz.ntmps44
 go_wp2_with fail
 go_loopw [6] (fun t wr=>∃ k : Nat,t = .int .i64 k∧k≤l.length∧wr=w∧getT l key=getT (l.drop k) key) (fun t _=>l.length - (intOf t).toNat)
 case atStart=>exact ⟨0,rfl,by omega,rfl,by rw [List.drop_zero]⟩
 case round=>
  obtain ⟨k,rfl,hk,rfl,hD⟩:=hrel
  by_cases hlt : k<l.length
  ·obtain ⟨b,off,rfl,hbl,c0,c1⟩:=HP.out.at hlt
   have he:=eql_text 9 l[k].1 key
   rw [List.drop_eq_getElem_cons hlt] at hD
   generalize l[k]=y at *
   by_cases hy : y.1=key
   ·rw [decide_eq_true hy] at he
    have HD:=Ab (show getT l key=some y.2 from by
     rw [hD]
     unfold getT
     rw [List.find?_cons_of_pos (by simpa using hy)]
     rfl)
    clear hD hy
    go_wp2_with fail
    go_ret2
    rw [HD.out]
    exact ⟨rfl,rfl⟩
   ·rw [decide_eq_false hy] at he
    have HD:=Ab (show getT l key=getT (l.drop (k+1)) key from by
     rw [hD]
     unfold getT
     rw [List.find?_cons_of_neg (by simpa using hy)])
    clear hD hy
    go_wp2_with fail
    go_roundw
    case rel=>exact ⟨k+1,by go_num,by omega,by first | trivial | rfl,HD.out⟩
    case measure=>simp [intOf]; omega
  ·have hkl : k=l.length:=by omega
   have HD:=Ab (show getT l key=none from by
    rw [hD,hkl,List.drop_length]
    rfl)
   subst hkl
   clear hD
   go_wp2_with fail
   go_ret2
   rw [HD.out]
   exact ⟨rfl,rfl⟩
theorem pre_take {s p : Bs} (_h : p.length≤s.length) : p.isPrefixOf s=decide (s.take p.length=p):=by
 by_cases e : s.take p.length=p
 ·rw [Dy.2 ⟨s.drop p.length,by conv=>lhs; rw [← List.take_append_drop p.length s,e]⟩,decide_eq_true e]
 ·cases hq : p.isPrefixOf s with
  | false=>rw [decide_eq_false e]
  | true=>
   obtain ⟨c,hc⟩:=Dy.1 hq
   exact absurd (by rw [hc,List.take_left]) e
theorem pre_short {s p : Bs} (h : ¬ p.length≤s.length) : p.isPrefixOf s=false:=by
 cases hq : p.isPrefixOf s with
 | false=>rfl
 | true=>
  obtain ⟨c,hc⟩:=Dy.1 hq
  rw [hc,List.length_append] at h
  omega
theorem strB_take (s : Bs) (n : Nat) : (Ae s).extract 0 n=Ae (s.take n):=by
 unfold Ae
 apply ByteArray.ext
 simp
set_option maxRecDepth 40000 in
set_option maxHeartbeats 1600000 in
theorem rall_any (w : World) (r : Nat) (l : List Af) (pre : Bs) (h : Cr w r l) (_hpl : pre.length≤4611686018427387904) (hkl : ∀ p∈l,p.1.length≤4611686018427387904) (hl : l.length≤1000000) :
  Calls Tryz.prog 45 #[.pointer (some ⟨r,0,none⟩), .string (Ae pre)] w fun e w'=>∃ u,e = .returned u∧Cq w.heap.size w' u (l.filter fun p=>pre.isPrefixOf p.1)∧Below w.heap.size w w':=by
 obtain ⟨u,hu,hp⟩:=h
 have hrl:=At hu
 obtain ⟨ao,cap,rfl⟩:=hp.form
 have x0 : w.cell? ⟨r,0,none⟩=some (.slice ao l.length cap):=by rw [Ad hu]; rfl
 have X0:=Ab x0
 have HP:=Ab hp
 have q2:=B1 pre
 clear hp hu x0
 go_enter Tryz.func45,Tryz.ntmps45
 go_wp2_with fail
 go_loopw [5,6] (fun v t wr=>∃ k : Nat,t = .int .i64 k∧k≤l.length∧Cq w.heap.size wr v ((l.take k).filter fun p=>pre.isPrefixOf p.1)∧Below w.heap.size w wr) (fun _ t _=>l.length - (intOf t).toNat)
 case atStart=>exact ⟨0,rfl,by omega,by rw [List.take_zero]; exact World.ownsRow_nil _ _ _ _,Below.refl _ w⟩
 case round=>
  obtain ⟨k,rfl,hk,hrow,hbr⟩:=hrel
  have x0:=(hbr.cell (p:=⟨r,0,none⟩) hrl).trans X0.out
  by_cases hlt : k<l.length
  ·obtain ⟨b,off,rfl,hbl,c0',c1'⟩:=HP.out.at hlt
   have c0:=(hbr.cell (p:=⟨b,off+k * 2,none⟩) hbl).trans c0'
   have c1:=(hbr.cell (p:=⟨b,off+k * 2+1,none⟩) hbl).trans c1'
   have hky:=hkl _ (List.getElem_mem hlt)
   have htk : (l.take (k+1)).filter (fun p=>pre.isPrefixOf p.1)=(l.take k).filter (fun p=>pre.isPrefixOf p.1)++(if pre.isPrefixOf l[k].1 then [l[k]] else []):=by
    rw [List.take_succ_eq_append_getElem hlt,List.filter_append]
    congr 1
    by_cases q : pre.isPrefixOf l[k].1=true
    ·simp [q]
    ·simp [q]
   have hol : ((l.take k).filter fun p=>pre.isPrefixOf p.1).length≤1000000:=by
    have h1:=List.length_filter_le (fun p=>pre.isPrefixOf p.1) (l.take k)
    rw [List.length_take] at h1
    omega
   generalize l[k]=y at *
   have q1:=B1 y.1
   have HH:=Ab (And.intro hrow (And.intro hbr (And.intro htk hol)))
   obtain ⟨ua,uc,rfl,-⟩:=Ay hrow
   clear hrow hbr htk hol c0' c1'
   by_cases hle : pre.length≤y.1.length
   ·have he:=eql_text 9 (y.1.take pre.length) pre
    have hst:=strB_take y.1 pre.length
    have hpt:=pre_take hle
    by_cases hy : y.1.take pre.length=pre
    ·rw [decide_eq_true hy] at he hpt
     have HPT:=Ab hpt
     clear hy hpt
     obtain ⟨u3,w3,hrun3,hrow3,hb3⟩:=Gq w wr _ _ y HH.out.1 HH.out.2.1 (by have:=HH.out.2.2.2; omega)
     obtain ⟨uc3,um3,rfl,-⟩:=Ay hrow3
     have HR3:=Ab (And.intro (show Cq w.heap.size w3 (.slice uc3 ((l.take k).filter (fun p=>pre.isPrefixOf p.1) ++ [y]).length um3) ((l.take (k+1)).filter fun p=>pre.isPrefixOf p.1) from by rw [HH.out.2.2.1,if_pos HPT.out]; exact hrow3) hb3)
     have HRUN3:=Ab hrun3
     clear hrun3 hrow3 hb3
     go_wp2_with (at_builtin; refine wpList_plain rfl (fun K hK=>Cg (.tmp 38) (.tmp 46) 65 rfl rfl rfl HRUN3.out (hK _ _ ?_)))
     go_roundw
     case rel=>exact ⟨k+1,by go_num,by omega,Es HR3.out.1 (by simp),HR3.out.2⟩
     case measure=>simp [intOf]; omega
    ·rw [decide_eq_false hy] at he hpt
     have HPT:=Ab hpt
     clear hy hpt
     have HR3:=Ab (show Cq w.heap.size wr (.slice ua ((l.take k).filter (fun p=>pre.isPrefixOf p.1)).length uc) ((l.take (k+1)).filter fun p=>pre.isPrefixOf p.1) from by rw [HH.out.2.2.1,if_neg (by rw [HPT.out]; decide),List.append_nil]; exact HH.out.1)
     go_wp2_with fail
     go_roundw
     case rel=>exact ⟨k+1,by go_num,by omega,HR3.out,HH.out.2.1⟩
     case measure=>simp [intOf]; omega
   ·have HPT:=Ab (pre_short hle)
    have HR3:=Ab (show Cq w.heap.size wr (.slice ua ((l.take k).filter (fun p=>pre.isPrefixOf p.1)).length uc) ((l.take (k+1)).filter fun p=>pre.isPrefixOf p.1) from by rw [HH.out.2.2.1,if_neg (by rw [HPT.out]; decide),List.append_nil]; exact HH.out.1)
    go_wp2_with fail
    go_roundw
    case rel=>exact ⟨k+1,by go_num,by omega,HR3.out,HH.out.2.1⟩
    case measure=>simp [intOf]; omega
  ·have hkl : k=l.length:=by omega
   subst hkl
   rw [List.take_length] at hrow
   go_wp2_with fail
   go_ret
   exact ⟨_,rfl,hrow,hbr⟩
end Go.Proofs.YtblniomnhpedjaaGreatDoor
