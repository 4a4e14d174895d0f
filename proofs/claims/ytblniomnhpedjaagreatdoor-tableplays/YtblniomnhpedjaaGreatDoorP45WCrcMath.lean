/-
  Texts joined: WCrcMath, TellsPure, TellsPure2, Turn, TurnOk, TTells1, TTells2, TLasts1, TFails, TPlays1.
-/
import Derived.Test.YtblniomnhpedjaaGreatDoorP17WCrc
import Derived.Test.YtblniomnhpedjaaGreatDoorP26Kx
import Derived.Test.YtblniomnhpedjaaGreatDoorP14Asks
import Derived.Test.YtblniomnhpedjaaGreatDoorP38TTold
import Derived.Test.YtblniomnhpedjaaGreatDoorP44TPutsL
import Derived.Test.YtblniomnhpedjaaGreatDoorP41MildPure
import Derived.Test.YtblniomnhpedjaaGreatDoorP40TLawP
namespace Go.Proofs.YtblniomnhpedjaaGreatDoor.Pl
def bs (x : Nat) : Nat:=if x % 2=1 then x / 2 ^^^ 3988292384 else x / 2
end Go.Proofs.YtblniomnhpedjaaGreatDoor.Pl
namespace Go.Proofs.YtblniomnhpedjaaGreatDoor
def Turned (l l' : List UInt8) : Prop:=∃ p c c' r,l=p++c :: r∧l'=p++c' :: r∧c≠c'
theorem Turned.length {l l' : List UInt8} (h : Turned l l') : l'.length=l.length:=by
 obtain ⟨p,c,c',r,rfl,rfl,-⟩:=h
 simp
theorem Turned.ne {l l' : List UInt8} (h : Turned l l') : l'≠l:=by
 obtain ⟨p,c,c',r,rfl,rfl,hc⟩:=h
 intro e
 have:=List.append_cancel_left e
 injection this with this _
 exact hc this.symm
section
variable {cs : List UInt8→List UInt8} (hcs : ∀ b,(cs b).length=4) (hone : ∀ l l',Turned l l'→cs l≠cs l')
include hcs hone
omit hcs in
omit hone in
omit hone in
end
end Go.Proofs.YtblniomnhpedjaaGreatDoor
namespace Go.Proofs.YtblniomnhpedjaaGreatDoor
variable {z n : Nm} {S : Dk} {all : List UInt8}
theorem size_look {S : Dk} {n : Nm} {f : Nat} (hl : look S.dir n=some f) : S.size n=((S.bytes f).length : Int):=by
 unfold Dk.size
 rw [hl]
end Go.Proofs.YtblniomnhpedjaaGreatDoor
namespace Go.Proofs.YtblniomnhpedjaaGreatDoor
open Go.RowKit
section
variable {w w' : World} {F : Nat→Prop} {d : Nat} {S : Dk} {G : Gh}
end
end Go.Proofs.YtblniomnhpedjaaGreatDoor
namespace Go.Proofs.YtblniomnhpedjaaGreatDoor
open Go.RowKit
theorem Ok.modify {S : Dk} (h : Ok S) (f : Nat) (g : Fl→Fl) (hg : ∀ x,(g x).sure=x.sure∧(g x).b.length=x.b.length) : Ok { S with files:=S.files.modify f g } where
 sortS:=h.sortS
 valid:=h.valid
 dir:=h.dir
 one:=h.one
 idS i hi:=by
  show i<(S.files.modify f g).length
  rw [List.length_modify]
  exact h.idS i hi
 idA i hi:=by
  show i<(S.files.modify f g).length
  rw [List.length_modify]
  exact h.idA i hi
 idM i hi:=by
  show i<(S.files.modify f g).length
  rw [List.length_modify]
  exact h.idM i hi
 lens i y hy:=by
  rcases G4 hy with ⟨_,hy'⟩ | ⟨rfl,x,hx,rfl⟩
  ·exact h.lens i y hy'
  ·rw [(hg x).1,(hg x).2]
   exact h.lens i x hx
section
variable {w w' : World} {F : Nat→Prop} {d : Nat} {S : Dk} {G : Gh}
end
end Go.Proofs.YtblniomnhpedjaaGreatDoor
namespace Go.Proofs.YtblniomnhpedjaaGreatDoor
open Go.RowKit
def Cm (w : World) (r k : Nat) : Prop:=k=r ∨ ∃ u,w.cell? ⟨r,0,none⟩=some u∧u.ownBlock=some k
structure TWorld (B : Nat) (w : World) (x d g t b r : Nat) (F : Nat→Prop) (S : Dk) (lp : List Af) (m : Nat) : Prop where
 world : ∃ bad most last,C9 w x d t r (.slice none 0 0) false bad most last∧0≤most∧most≤4611686018427387904
 calm : Bt B w F d g t b B6 S lp m Dm
 ref : Cr w r lp
 apart : ∀ k,k=x∨Cm w r k→k<w.heap.size∧¬ (F k∨k=g∨k=t)
 other : ∀ k,Cm w r k→k≠x
 low : B≤x
section
variable {B : Nat} {w w' : World} {F : Nat→Prop} {x d g t b r : Nat} {S : Dk} {lp : List Af} {ps : List An} {v : Value} {m : Nat}
theorem Cm.back {k : Nat} (h : Cm w' r k) (hb : Below w.heap.size w w') (hr : r<w.heap.size) : Cm w r k:=by
 rcases h with h | ⟨u,h1,h2⟩
 ·exact .inl h
 ·exact .inr ⟨u,by rw [← h1]; exact (hb.cell (p:=⟨r,0,none⟩) hr).symm,h2⟩
theorem TWorld.quiet (h : TWorld B w x d g t b r F S lp m) (hb : Below w.heap.size w w') : TWorld B w' x d g t b r F S lp m:=by
 obtain ⟨bad,most,last,h1,h2⟩:=h.world
 have hr:=h.ref.lt
 refine ⟨⟨bad,most,last,(C5 hb).keep (show w.heap[x]? = some _ from h1) (fun h=>h),h2⟩,h.calm.quiet (C5 hb),h.ref.keepB hb,fun k hk=>?_,fun k hk=>h.other k (hk.back hb hr),h.low⟩
 have:=h.apart k (hk.imp id (fun q=>q.back hb hr))
 exact ⟨Nat.lt_of_lt_of_le this.1 hb.size,this.2⟩
end
end Go.Proofs.YtblniomnhpedjaaGreatDoor
namespace Go.Proofs.YtblniomnhpedjaaGreatDoor
open Go.RowKit
section
variable {B : Nat} {w2 w3 w4 : World} {F F' : Nat→Prop} {x d g t b b' r r' : Nat} {S S' : Dk} {lp lp' : List Af} {m m' : Nat}
theorem TWorld.next (h : TWorld B w2 x d g t b r F S lp m) (hb : Below w2.heap.size w2 w3) (hR : Cr w3 r' lp') (hrr : r'=r∨w2.heap.size≤r')
  (hown : ∀ u,w3.cell? ⟨r',0,none⟩=some u→w2.cell? ⟨r,0,none⟩=some u ∨ ∀ q,u.ownBlock=some q→w2.heap.size≤q∧q<w3.heap.size)
  (hW : ∃ bad most last,C9 w4 x d t r (.slice none 0 0) false bad most last∧0≤most∧most≤4611686018427387904) (hC : Bt B w4 F' d g t b' B6 S' lp' m' Dm)
  (hF : ∀ k,F' k→F k∨w3.heap.size≤k) (hc : Chg (fun k=>F k∨k=g∨k=t∨k=x) w3 w4) :
  TWorld B (w4.setCell ⟨x,2,none⟩ (.pointer (some ⟨r',0,none⟩))) x d g t b' r' F' S' lp' m':=by
 obtain ⟨bad,most,last,h1,h2⟩:=hW
 have hlow:=h.calm.low
 have hz:=hb.size
 have hz4:=hc.size
 have hxs:=(h.apart x (.inl rfl)).1
 have hXlt : ∀ k,(F k∨k=g∨k=t)→k<w2.heap.size:=fun k hk=>by
  rcases hk with hk | rfl | rfl
  ·exact (hlow.1 k hk).2
  ·exact hlow.2.1.2
  ·exact hlow.2.2.1.2
 -- r' and its row lie apart
 have hr : ∀ k,Cm w3 r' k→k<w3.heap.size∧¬ (F k∨k=g∨k=t)∧k≠x:=by
  intro k hk
  rcases hk with rfl | ⟨u,hu,hk⟩
  ·rcases hrr with rfl | q
   ·exact ⟨hR.lt,(h.apart k (.inr (.inl rfl))).2,h.other k (.inl rfl)⟩
   ·exact ⟨hR.lt,fun e=>by have:=hXlt k e; omega,by omega⟩
  ·rcases hown u hu with e | e
   ·have ha:=h.apart k (.inr (.inr ⟨u,e,hk⟩))
    exact ⟨by omega,ha.2,h.other k (.inr ⟨u,e,hk⟩)⟩
   ·have:=e k hk
    exact ⟨this.2,fun e=>by have:=hXlt k e; omega,by omega⟩
 have hX : ∀ k,Cm w3 r' k→¬ (F k∨k=g∨k=t∨k=x):=fun k hk e=>by
  have:=hr k hk
  rcases e with e | e | e | e
  ·exact this.2.1 (.inl e)
  ·exact this.2.1 (.inr (.inl e))
  ·exact this.2.1 (.inr (.inr e))
  ·exact this.2.2 e
 have hR4:=hR.keepX hc (hX r' (.inl rfl)) (fun u hu q hq=>hX q (.inr ⟨u,hu,hq⟩))
 have k5 : Chg (· = x) w4 (w4.setCell ⟨x,2,none⟩ (.pointer (some ⟨r',0,none⟩))):=(Chg.refl (· = x) w4).setCell (p:=⟨x,2,none⟩) (.inl rfl) _
 have hcell : w4.cell? ⟨r',0,none⟩=w3.cell? ⟨r',0,none⟩:=World.cell?_of_block (w:=w3) (a:=⟨r',0,none⟩) (hc.block r' hR.lt (hX r' (.inl rfl)))
 have hcell5 : (w4.setCell ⟨x,2,none⟩ (.pointer (some ⟨r',0,none⟩))).cell? ⟨r',0,none⟩=w4.cell? ⟨r',0,none⟩:=World.cell?_of_block (w:=w4) (a:=⟨r',0,none⟩) (k5.block r' hR4.lt (hr r' (.inl rfl)).2.2)
 have hback : ∀ k,Cm (w4.setCell ⟨x,2,none⟩ (.pointer (some ⟨r',0,none⟩))) r' k→Cm w3 r' k:=fun k hk=>by
  rcases hk with hk | ⟨u,hu,hk⟩
  ·exact .inl hk
  ·exact .inr ⟨u,by rw [← hcell,← hcell5]; exact hu,hk⟩
 have hR5:=hR4.keepX k5 (hr r' (.inl rfl)).2.2 (fun u hu q hq=>(hr q (.inr ⟨u,by rw [← hcell]; exact hu,hq⟩)).2.2)
 have hxF : ¬ (F' x∨x=g∨x=t):=fun e=>by
  have:=(h.apart x (.inl rfl)).2
  rcases e with e | e
  ·rcases hF x e with e | e
   ·exact this (.inl e)
   ·omega
  ·exact this (.inr e)
 have hbx : b'≠x:=by
  obtain ⟨L,sure,gs,q1,-⟩:=hC
  exact fun e=>q1.tab.map.ne (show w4.heap[x]? = some _ from h1) e.symm
 refine ⟨⟨bad,most,last,A0 (show w4.heap[x]? = some _ from h1) 2 _,h2⟩,hC.keep k5 (fun k hk e=>hxF (.inl (e ▸ hk))) (fun e=>hxF (.inr (.inr e.symm))) hbx (fun e=>hxF (.inr (.inl e.symm))),hR5,fun k hk=>?_,fun k hk=>(hr k (hback k hk)).2.2,h.low⟩
 have hs5:=k5.size
 rcases hk with rfl | hk
 ·exact ⟨by omega,hxF⟩
 ·have ha:=hr k (hback k hk)
  refine ⟨by omega,fun e=>?_⟩
  rcases e with e | e
  ·rcases hF k e with e | e
   ·exact ha.2.1 (.inl e)
   ·omega
  ·exact ha.2.1 (.inr e)
end
abbrev OpT:=Int × List An × Int × Int × Int
def OpsT (w : World) (v : Value) (os : List OpT) : Prop:=
 ∃ ao cap,v = .slice ao os.length cap∧os.length≤cap∧cap≤maxLen∧(os ≠ []→∃ b off,ao=some ⟨b,off,none⟩∧b<w.heap.size∧∀ j (h : j<os.length),∃ pv,PsT w pv (os[j]'h).2.1 ∧
  w.cell? ⟨b,off+j * 5,none⟩=some (.int .i64 (os[j]'h).1)∧w.cell? ⟨b,off+j * 5+1,none⟩=some pv∧w.cell? ⟨b,off+j * 5+2,none⟩=some (.int .i64 (os[j]'h).2.2.1)∧w.cell? ⟨b,off+j * 5+3,none⟩=some (.int .i64 (os[j]'h).2.2.2.1)∧w.cell? ⟨b,off+j * 5+4,none⟩=some (.int .i64 (os[j]'h).2.2.2.2))
theorem OpsT.form {w : World} {v : Value} {l : List OpT} (h : OpsT w v l) : ∃ ao cap,v = .slice ao l.length cap:=by
 obtain ⟨ao,cap,hv,-⟩:=h
 exact ⟨ao,cap,hv⟩
theorem OpsT.at {w w' : World} {ao : Option Addr} {n cap : Nat} {l : List OpT} (h : OpsT w (.slice ao n cap) l) (hb : Below w.heap.size w w') {j : Nat} (hj : j<l.length) :
  ∃ b off pv,ao=some ⟨b,off,none⟩∧PsT w' pv l[j].2.1∧w'.cell? ⟨b,off+j * 5,none⟩=some (.int .i64 l[j].1)∧w'.cell? ⟨b,off+j * 5+1,none⟩=some pv∧w'.cell? ⟨b,off+j * 5+2,none⟩=some (.int .i64 l[j].2.2.1)∧w'.cell? ⟨b,off+j * 5+3,none⟩=some (.int .i64 l[j].2.2.2.1)∧w'.cell? ⟨b,off+j * 5+4,none⟩=some (.int .i64 l[j].2.2.2.2):=by
 obtain ⟨ao',cap',hv,-,-,h4⟩:=h
 injection hv with e1 e2 e3
 subst e1
 obtain ⟨b,off,ha,hlt,hc⟩:=h4 (by intro e; rw [e] at hj; simp at hj)
 obtain ⟨pv,h1,h2,h3,h5,h6,h7⟩:=hc j hj
 exact ⟨b,off,pv,ha,h1.keepB hb,(hb.cell (p:=⟨b,off+j * 5,none⟩) hlt).trans h2,(hb.cell (p:=⟨b,off+j * 5+1,none⟩) hlt).trans h3,(hb.cell (p:=⟨b,off+j * 5+2,none⟩) hlt).trans h5,(hb.cell (p:=⟨b,off+j * 5+3,none⟩) hlt).trans h6,(hb.cell (p:=⟨b,off+j * 5+4,none⟩) hlt).trans h7⟩
def FineT (os : List OpT) : Prop:=∀ o∈os,(-9223372036854775808≤o.1∧o.1≤9223372036854775807)∧(-9223372036854775808≤o.2.2.1∧o.2.2.1≤9223372036854775807)∧∀ p∈o.2.1,p.1.length≤140737488351232∧p.2.1.length≤140737488351232
end Go.Proofs.YtblniomnhpedjaaGreatDoor
namespace Go.Proofs.YtblniomnhpedjaaGreatDoor
open Go.RowKit
theorem ans_not35 (lp : List Af) (ps : List An) : Bg lp ps≠35:=by
 unfold Bg
 split
 ·decide
 ·split <;> decide
abbrev LifeT:=List OpT × Int × Int × Int
def LivesT (w : World) (v : Value) (xs : List LifeT) : Prop:=
 ∃ ao cap,v = .slice ao xs.length cap∧xs.length≤cap∧cap≤maxLen∧(xs ≠ []→∃ b off,ao=some ⟨b,off,none⟩∧b<w.heap.size∧∀ j (h : j<xs.length),∃ ov,OpsT w ov (xs[j]'h).1 ∧
  w.cell? ⟨b,off+j * 4,none⟩=some ov∧w.cell? ⟨b,off+j * 4+1,none⟩=some (.int .i64 (xs[j]'h).2.1)∧w.cell? ⟨b,off+j * 4+2,none⟩=some (.int .i64 (xs[j]'h).2.2.1)∧w.cell? ⟨b,off+j * 4+3,none⟩=some (.int .i64 (xs[j]'h).2.2.2))
theorem LivesT.form {w : World} {v : Value} {l : List LifeT} (h : LivesT w v l) : ∃ ao cap,v = .slice ao l.length cap:=by
 obtain ⟨ao,cap,hv,-⟩:=h
 exact ⟨ao,cap,hv⟩
theorem LivesT.at {w w' : World} {ao : Option Addr} {n cap : Nat} {l : List LifeT} (h : LivesT w (.slice ao n cap) l) (hb : Below w.heap.size w w') {j : Nat} (hj : j<l.length) :
  ∃ b off ov,ao=some ⟨b,off,none⟩∧OpsT w ov l[j].1∧w'.cell? ⟨b,off+j * 4,none⟩=some ov∧w'.cell? ⟨b,off+j * 4+1,none⟩=some (.int .i64 l[j].2.1)∧w'.cell? ⟨b,off+j * 4+2,none⟩=some (.int .i64 l[j].2.2.1)∧w'.cell? ⟨b,off+j * 4+3,none⟩=some (.int .i64 l[j].2.2.2):=by
 obtain ⟨ao',cap',hv,-,-,h4⟩:=h
 injection hv with e1 e2 e3
 subst e1
 obtain ⟨b,off,ha,hlt,hc⟩:=h4 (by intro e; rw [e] at hj; simp at hj)
 obtain ⟨ov,h1,h2,h3,h5,h6⟩:=hc j hj
 exact ⟨b,off,ov,ha,h1,(hb.cell (p:=⟨b,off+j * 4,none⟩) hlt).trans h2,(hb.cell (p:=⟨b,off+j * 4+1,none⟩) hlt).trans h3,(hb.cell (p:=⟨b,off+j * 4+2,none⟩) hlt).trans h5,(hb.cell (p:=⟨b,off+j * 4+3,none⟩) hlt).trans h6⟩
def De (B : Nat) (w : World) (F : Nat→Prop) (d g t b : Nat) (S : Dk) (lp : List Af) (m : Nat) : Prop:=∃ L sure gs,TabL B w F d g t b S L sure lp∧Cx B6 S L sure lp gs∧Mild S∧Slim B6 2200000 S∧S.bulk≤m∧S.room=Dm
def TCut (B : Nat) (w : World) (F : Nat→Prop) (d : Nat) (S : Dk) (old new : List Af) (m : Nat) : Prop:=Bi B w F d S∧EitherT B6 S old new∧Slim B6 2200000 S∧S.bulk≤m∧S.room=Dm
def C6 (w : World) (x : Nat) (F : Nat→Prop) (g t r : Nat) (l : List Af) : Prop:=Cr w r l∧∀ k,Cm w r k→k<w.heap.size∧¬ (F k∨k=g∨k=t)∧k≠x
def Dw (w : World) (x d t r : Nat) : Prop:=∃ bad most last,C9 w x d t r (.slice none 0 0) false bad most last∧0≤most∧most≤4611686018427387904
section
variable {B : Nat} {w w' w2 w3 : World} {F F' : Nat→Prop} {x d g t b r r' g' t' : Nat} {S : Dk} {lp l : List Af} {ps : List An} {v : Value} {m : Nat}
theorem Dw.keep {X : Nat→Prop} (h : Dw w x d t r) (hc : Chg X w w') (hx : ¬ X x) : Dw w' x d t r:=by
 obtain ⟨bad,most,last,h1,h2⟩:=h
 exact ⟨bad,most,last,hc.keep (show w.heap[x]? = some _ from h1) hx,h2⟩
theorem Dw.lt (h : Dw w x d t r) : x<w.heap.size:=by
 obtain ⟨bad,most,last,h1,-⟩:=h
 exact At (show w.heap[x]? = some _ from h1)
theorem Dw.setT (h : Dw w x d t r) (t' : Nat) : Dw (w.setCell ⟨x,1,none⟩ (.pointer (some ⟨t',0,none⟩))) x d t' r:=by
 obtain ⟨bad,most,last,h1,h2⟩:=h
 exact ⟨bad,most,last,A0 (show w.heap[x]? = some _ from h1) 1 _,h2⟩
theorem Dw.setR (h : Dw w x d t r) (r' : Nat) : Dw (w.setCell ⟨x,2,none⟩ (.pointer (some ⟨r',0,none⟩))) x d t r':=by
 obtain ⟨bad,most,last,h1,h2⟩:=h
 exact ⟨bad,most,last,A0 (show w.heap[x]? = some _ from h1) 2 _,h2⟩
theorem Dw.cells (h : Dw w x d t r) : (w.cell? ⟨x,0,none⟩=some (.pointer (some ⟨d,0,none⟩))∧w.cell? ⟨x,1,none⟩=some (.pointer (some ⟨t,0,none⟩))∧w.cell? ⟨x,2,none⟩=some (.pointer (some ⟨r,0,none⟩)))∧w.frozen? ⟨x,0,none⟩=false∧w.frozen? ⟨x,1,none⟩=false∧w.frozen? ⟨x,2,none⟩=false:=by
 obtain ⟨bad,most,last,h1,-⟩:=h
 have h1 : w.heap[x]? = some _:=h1
 exact ⟨⟨by rw [Ad h1]; rfl,by rw [Ad h1]; rfl,by rw [Ad h1]; rfl⟩,Av h1 0,Av h1 1,Av h1 2⟩
theorem C6.quiet (h : C6 w x F g t r l) (hb : Below w.heap.size w w') : C6 w' x F g t r l:=by
 have hr:=h.1.lt
 refine ⟨h.1.keepB hb,fun k hk=>?_⟩
 have:=h.2 k (hk.back hb hr)
 exact ⟨Nat.lt_of_lt_of_le this.1 hb.size,this.2⟩
theorem C6.chg {X : Nat→Prop} (h : C6 w x F g t r l) (hc : Chg X w w') (hX : ∀ k,X k→F k∨k=g∨k=t∨k=x) : Cr w' r l∧∀ k,Cm w' r k→Cm w r k:=by
 have hX' : ∀ k,Cm w r k→¬ X k:=fun k hk e=>by
  have:=h.2 k hk
  rcases hX k e with e | e | e | e
  ·exact this.2.1 (.inl e)
  ·exact this.2.1 (.inr (.inl e))
  ·exact this.2.1 (.inr (.inr e))
  ·exact this.2.2 e
 refine ⟨h.1.keepX hc (hX' r (.inl rfl)) (fun u hu q hq=>hX' q (.inr ⟨u,hu,hq⟩)),fun k hk=>?_⟩
 rcases hk with hk | ⟨u,hu,hk⟩
 ·exact .inl hk
 ·exact .inr ⟨u,by rw [← hu]; exact (World.cell?_of_block (w:=w) (a:=⟨r,0,none⟩) (hc.block r h.1.lt (hX' r (.inl rfl)))).symm,hk⟩
theorem C6.step {X : Nat→Prop} (h : C6 w x F g t r l) (hc : Chg X w w') (hX : ∀ k,X k→F k∨k=g∨k=t∨k=x) (hF : ∀ k,F' k∨k=g'∨k=t'→(F k∨k=g∨k=t)∨w.heap.size≤k) : C6 w' x F' g' t' r l:=by
 obtain ⟨h1,h2⟩:=h.chg hc hX
 refine ⟨h1,fun k hk=>?_⟩
 have:=h.2 k (h2 k hk)
 refine ⟨Nat.lt_of_lt_of_le this.1 hc.size,fun e=>?_,this.2.2⟩
 rcases hF k e with e | e
 ·exact this.2.1 e
 ·omega
theorem C6.next (h : C6 w2 x F g t r lp) (hlt : ∀ k,(F k∨k=g∨k=t)∨k=x→k<w2.heap.size) (hR : Cr w3 r' l) (hrr : r'=r∨w2.heap.size≤r') (hz : w2.heap.size≤w3.heap.size)
  (hown : ∀ u,w3.cell? ⟨r',0,none⟩=some u→w2.cell? ⟨r,0,none⟩=some u ∨ ∀ q,u.ownBlock=some q→w2.heap.size≤q∧q<w3.heap.size) : C6 w3 x F g t r' l:=by
 refine ⟨hR,fun k hk=>?_⟩
 rcases hk with rfl | ⟨u,hu,hk⟩
 ·rcases hrr with rfl | q
  ·have:=h.2 k (.inl rfl)
   exact ⟨hR.lt,this.2⟩
  ·exact ⟨hR.lt,fun e=>by have:=hlt k (.inl e); omega,fun e=>by have:=hlt k (.inr e); omega⟩
 ·rcases hown u hu with e | e
  ·have ha:=h.2 k (.inr ⟨u,e,hk⟩)
   exact ⟨by omega,ha.2⟩
  ·have:=e k hk
   exact ⟨this.2,fun e=>by have:=hlt k (.inl e); omega,fun e=>by have:=hlt k (.inr e); omega⟩
theorem De.keep {X : Nat→Prop} (h : De B w F d g t b S lp m) (hc : Chg X w w') (hF : ∀ k,F k→¬ X k) (h1 : ¬ X t) (h2 : ¬ X b) (h3 : ¬ X g) : De B w' F d g t b S lp m:=by
 obtain ⟨L,sure,gs,k1,k2⟩:=h
 exact ⟨L,sure,gs,k1.keep hc hF h1 h2 h3,k2⟩
theorem De.quiet (h : De B w F d g t b S lp m) (hb : Below w.heap.size w w') : De B w' F d g t b S lp m:=h.keep (C5 hb) (fun _ _ h=>h) (fun h=>h) (fun h=>h) (fun h=>h)
theorem De.low (h : De B w F d g t b S lp m) : (∀ k,F k→B≤k∧k<w.heap.size)∧(B≤g∧g<w.heap.size)∧(B≤t∧t<w.heap.size)∧(B≤b∧b<w.heap.size):=by
 obtain ⟨L,sure,gs,k1,-⟩:=h
 exact ⟨k1.log.1.2.1,⟨k1.log.2.2.2.1,k1.log.lt⟩,⟨k1.bt,At k1.tab.cells⟩,⟨k1.bb,k1.tab.map.lt⟩⟩
theorem De.stands (h : De B w F d g t b S lp m) : Bi B w F d S∧S.bulk≤m∧Bn lp∧Bb lp=true:=by
 obtain ⟨L,sure,gs,h1,-,-,-,h3,-⟩:=h
 exact ⟨h1.log.1,h3,h1.tab.rise,h1.fit⟩
theorem De.more {m' : Nat} (h : De B w F d g t b S lp m) (hm : m≤m') : De B w F d g t b S lp m':=by
 obtain ⟨L,sure,gs,h1,h2,h3,h4,h5,h6⟩:=h
 exact ⟨L,sure,gs,h1,h2,h3,h4,Nat.le_trans h5 hm,h6⟩
theorem De.cut (h : De B w F d g t b S lp m) (l : List Af) {m' : Nat} (hm : m≤m') : TCut B w F d S lp l m':=by
 obtain ⟨L,sure,gs,h1,h2,h3,h4,h5,h6⟩:=h
 exact ⟨h1.log.1,either_says h2 h1.log.1.ok l,h4,Nat.le_trans h5 hm,h6⟩
theorem TCut.more {m' : Nat} (h : TCut B w F d S lp l m) (hm : m≤m') : TCut B w F d S lp l m':=⟨h.1,h.2.1,h.2.2.1,Nat.le_trans h.2.2.2.1 hm,h.2.2.2.2⟩
theorem TCut.keep {X : Nat→Prop} (h : TCut B w F d S lp l m) (hc : Chg X w w') (hF : ∀ k,F k→¬ X k) : TCut B w' F d S lp l m:=⟨h.1.keep hc hF,h.2⟩
theorem De.apart {d' : Nat} (h : De B w F d g t b S lp m) (hW : Dw w x d' t' r) : b≠x:=by
 obtain ⟨L,sure,gs,q1,-⟩:=h
 obtain ⟨bad,most,last,h1,-⟩:=hW
 exact fun e=>q1.tab.map.ne (show w.heap[x]? = some _ from h1) e.symm
def TDead (B : Nat) (w : World) (F : Nat→Prop) (d : Nat) (S : Dk) (lq : List Af) (m : Nat) : Prop:=Bi B w F d S∧(∃ gq tail,On B6 S gq tail∧Ct gq=some lq)∧B3 S∧Slim B6 2200000 S∧S.bulk≤m∧S.room=Dm
theorem TDead.keep {X : Nat→Prop} (h : TDead B w F d S l m) (hc : Chg X w w') (hF : ∀ k,F k→¬ X k) : TDead B w' F d S l m:=⟨h.1.keep hc hF,h.2⟩
theorem TDead.more {m' : Nat} (h : TDead B w F d S l m) (hm : m≤m') : TDead B w F d S l m':=⟨h.1,h.2.1,h.2.2.1,h.2.2.2.1,Nat.le_trans h.2.2.2.2.1 hm,h.2.2.2.2.2⟩
end
end Go.Proofs.YtblniomnhpedjaaGreatDoor
namespace Go.Proofs.YtblniomnhpedjaaGreatDoor
open Go.RowKit
variable {B : Nat} {w w' : World} {F : Nat→Prop} {d : Nat} {S : Dk} {G : Gh}
set_option maxRecDepth 20000 in
set_option maxHeartbeats 800000 in
theorem failAt_some (w : World) (F : Nat→Prop) (d b : Nat) (r u o1 o2 lv cu ct v : Value) (n : Int) (l ks : List Int) (hd : w.heap[d]? = some (.cells #[r,u,o1,o2,lv, .int .i64 n,cu,ct, .map (some b)] 89))
  (hf : Be w F (some b) (fv l)) (hv : Is w v ks) (hvb : ∀ g,v.ownBlock=some g→g≠b) (hks : ks.length≤4611686018427387904) :
  Calls Tryz.prog 16 #[.pointer (some ⟨d,0,none⟩),v] w fun e w'=>e = .returned (.tuple #[])∧∃ l',Be w' F (some b) (fv l')∧(∀ k,n≤k→(k∈l'↔k∈l∨k∈ks))∧Chg (· = b) w w':=by
 obtain ⟨vb,off,cap,rfl,hvl,hcap,hc⟩:=hv
 have hvb' : vb≠b:=hvb vb rfl
 have hdb : d≠b:=hf.2.ne hd
 have q8:=Ad hd 8
 have hqm:=eqM64
 go_enter Tryz.func16,Tryz.ntmps16
 go_wp2
 go_loopw [19,5] (fun i x wr=>∃ (j : Nat) (l' : List Int),i = .int .i64 (j : Int)∧j≤ks.length∧Be wr F (some b) (fv l')∧(∀ k,n≤k→(k∈l'↔k∈l∨k∈ks.take j))∧Chg (· = b) w wr)
  (fun i _ _=>ks.length - (intOf i).toNat)
 case atStart=>exact ⟨0,l,rfl,by omega,hf,fun k _=>by simp,Chg.refl _ _⟩
 case round=>
  obtain ⟨j,l',rfl,hj,hf',hl',hch⟩:=hrel
  by_cases hlt : j<ks.length
  ·have hcj:=hc j hlt
   have hcj' : wr.cell? ⟨vb,off+j,none⟩=some (.int .i64 ks[j]):=by
    rw [← hcj]
    exact World.cell?_of_block (hch.block vb hvl hvb')
   have hd':=hch.keep hd hdb
   have q5:=Ad hd' 5
   have q8:=Ad hd' 8
   have htk : ks.take (j+1)=ks.take j ++ [ks[j]]:=by rw [List.take_add_one]; simp [hlt]
   obtain ⟨wp,lp,hp1,hp2,hp3,hp4⟩:=fails_put hf' ks[j]
   have hl1 : n≤ks[j]→∀ k,n≤k→(k∈lp↔k∈l∨k∈ks.take (j+1)):=fun _ k hk=>by
    rw [hp3,hl' k hk,htk,List.mem_append,List.mem_singleton]
    constructor
    ·rintro (h | h | h)
     ·exact Or.inr (Or.inr h)
     ·exact Or.inl h
     ·exact Or.inr (Or.inl h)
    ·rintro (h | h | h)
     ·exact Or.inr (Or.inl h)
     ·exact Or.inr (Or.inr h)
     ·exact Or.inl h
   have hl2 : ks[j]<n→∀ k,n≤k→(k∈l'↔k∈l∨k∈ks.take (j+1)):=fun hlow k hk=>by
    rw [hl' k hk,htk,List.mem_append,List.mem_singleton]
    constructor
    ·rintro (h | h)
     ·exact Or.inl h
     ·exact Or.inr (Or.inl h)
    ·rintro (h | h | h)
     ·exact Or.inl h
     ·exact Or.inr h
     ·omega
   have HL1:=Ab hl1
   have HL2:=Ab hl2
   have HP:=Ab hp3
   clear hc hcj htk hl1 hl2 hp3 hl'
   generalize ks[j]=x at *
   by_cases hx : n≤x
   ·go_wp2_with fail
    refine ⟨⟨j+1,lp,by go_num,by omega,hp2,HL1.out hx,hch.then hp4⟩,by simp [intOf]; omega⟩
   ·have hx' : x<n:=by omega
    go_wp2_with fail
    refine ⟨⟨j+1,l',by go_num,by omega,hf',HL2.out hx',hch⟩,by simp [intOf]; omega⟩
  ·obtain rfl : j=ks.length:=by omega
   rw [List.take_length] at hl'
   go_wp2_with fail
   go_end0
   exact ⟨rfl,l',hf',hl',hch⟩
set_option maxRecDepth 20000 in
set_option maxHeartbeats 800000 in
theorem failAt_none (w : World) (F : Nat→Prop) (d : Nat) (r u o1 o2 lv cu ct v : Value) (n : Int) (ks : List Int) (hd : w.heap[d]? = some (.cells #[r,u,o1,o2,lv, .int .i64 n,cu,ct, .map none] 89))
  (hF : F w.heap.size) (hv : Is w v ks) (hvb : ∀ g,v.ownBlock=some g→g≠d) (hks : ks.length≤4611686018427387904) :
  Calls Tryz.prog 16 #[.pointer (some ⟨d,0,none⟩),v] w fun e w'=>e = .returned (.tuple #[])∧∃ b,w'.heap[d]? = some (.cells #[r,u,o1,o2,lv, .int .i64 n,cu,ct, .map (some b)] 89)∧∃ l',Be w' F (some b) (fv l')∧(∀ k,n≤k→(k∈l'↔k∈ks))∧Chg (· = d) w w'∧w.heap.size≤b∧b<w'.heap.size:=by
 have hmm:=@run_makeMap Tryz.prog
 obtain ⟨vb,off,cap,rfl,hvl,hcap,hc⟩:=hv
 have hvd : ¬ vb=d:=hvb vb rfl
 have q8:=Ad hd 8
 have t8:=Av hd 8
 have hqm:=eqM64
 have hdl:=At hd
 have hd1:=Bh (.map #[] 0) hd
 have t8':=Av hd1 8
 have q8':=Ad hd1 8
 have hm1:=Ak.made w
 obtain ⟨W0,hW0⟩ : ∃ W0,(w.alloc (.map #[] 0)).setCell ⟨d,8,none⟩ (.map (some w.heap.size))=W0:=⟨_,rfl⟩
 have hd0 : W0.heap[d]? = some (.cells #[r,u,o1,o2,lv, .int .i64 n,cu,ct, .map (some w.heap.size)] 89):=by rw [← hW0]; exact A0 hd1 8 _
 have hc0 : Chg (· = d) w W0:=by rw [← hW0]; exact ((Chg.refl (· = d) w).alloc _).setCell (p:=⟨d,8,none⟩) (Or.inl rfl) _
 have hf : Be W0 F (some w.heap.size) (fv []):=by
  refine ⟨hF,?_⟩
  rw [← hW0]
  exact hm1.keep (Cb _ d 8 _) (fun e=>by omega)
 have hdb : d≠w.heap.size:=by omega
 have hvb' : vb≠w.heap.size:=by omega
 have hvl0 : vb<W0.heap.size:=Nat.lt_of_lt_of_le hvl hc0.size
 clear hm1 hd1
 go_enter Tryz.func16,Tryz.ntmps16
 go_wp2
 go_loopw [19,5] (fun i x wr=>∃ (j : Nat) (l' : List Int),i = .int .i64 (j : Int)∧j≤ks.length∧Be wr F (some w.heap.size) (fv l')∧(∀ k,n≤k→(k∈l'↔k∈([] : List Int)∨k∈ks.take j))∧Chg (· = w.heap.size) W0 wr)
  (fun i _ _=>ks.length - (intOf i).toNat)
 case atStart=>exact ⟨0,[],rfl,by omega,hf,fun k _=>by simp,Chg.refl _ _⟩
 case round=>
  obtain ⟨j,l',rfl,hj,hf',hl',hch⟩:=hrel
  by_cases hlt : j<ks.length
  ·have hcj:=hc j hlt
   have hcj0 : W0.cell? ⟨vb,off+j,none⟩=some (.int .i64 ks[j]):=(World.cell?_of_block (hc0.block vb hvl hvd)).trans hcj
   have hcj' : wr.cell? ⟨vb,off+j,none⟩=some (.int .i64 ks[j]):=by
    rw [← hcj0]
    exact World.cell?_of_block (hch.block vb hvl0 hvb')
   have hd':=hch.keep hd0 hdb
   have q5:=Ad hd' 5
   have q8:=Ad hd' 8
   have htk : ks.take (j+1)=ks.take j ++ [ks[j]]:=by rw [List.take_add_one]; simp [hlt]
   obtain ⟨wp,lp,hp1,hp2,hp3,hp4⟩:=fails_put hf' ks[j]
   have hl1 : n≤ks[j]→∀ k,n≤k→(k∈lp↔k∈([] : List Int)∨k∈ks.take (j+1)):=fun _ k hk=>by
    rw [hp3,hl' k hk,htk,List.mem_append,List.mem_singleton]
    constructor
    ·rintro (h | h | h)
     ·exact Or.inr (Or.inr h)
     ·exact Or.inl h
     ·exact Or.inr (Or.inl h)
    ·rintro (h | h | h)
     ·exact Or.inr (Or.inl h)
     ·exact Or.inr (Or.inr h)
     ·exact Or.inl h
   have hl2 : ks[j]<n→∀ k,n≤k→(k∈l'↔k∈([] : List Int)∨k∈ks.take (j+1)):=fun hlow k hk=>by
    rw [hl' k hk,htk,List.mem_append,List.mem_singleton]
    constructor
    ·rintro (h | h)
     ·exact Or.inl h
     ·exact Or.inr (Or.inl h)
    ·rintro (h | h | h)
     ·exact Or.inl h
     ·exact Or.inr h
     ·omega
   have HL1:=Ab hl1
   have HL2:=Ab hl2
   have HP:=Ab hp3
   clear hc hcj hcj0 htk hl1 hl2 hp3 hl'
   generalize ks[j]=x at *
   by_cases hx : n≤x
   ·go_wp2_with fail
    refine ⟨⟨j+1,lp,by go_num,by omega,hp2,HL1.out hx,hch.then hp4⟩,by simp [intOf]; omega⟩
   ·have hx' : x<n:=by omega
    go_wp2_with fail
    refine ⟨⟨j+1,l',by go_num,by omega,hf',HL2.out hx',hch⟩,by simp [intOf]; omega⟩
  ·obtain rfl : j=ks.length:=by omega
   rw [List.take_length] at hl'
   go_wp2_with fail
   go_end0
   exact ⟨rfl,w.heap.size,hch.keep hd0 hdb,l',hf',fun k hk=>by simpa using hl' k hk,hc0.trans hch (fun k hk e=>by rw [e] at hk; exact absurd hk (Nat.lt_irrefl _)),Nat.le_refl _,hf'.2.lt⟩
theorem failAt_rep (h : Rep w F d S G) {v : Value} {ks : List Int} (hv : Is w v ks) (hvF : ∀ g,v.ownBlock=some g→¬ F g) (hks : ks.length≤4611686018427387904) :
  Calls Tryz.prog 16 #[.pointer (some ⟨d,0,none⟩),v] w fun e w'=>e = .returned (.tuple #[])∧∃ G',Rep w' (Fx F w w') d (S.failAt ks) G'∧Chg F w w':=by
 have hd:=h.disk
 unfold B9 at hd
 obtain ⟨l,hl1,hl2⟩:=h.fails
 cases hfls : G.fls with
 | some b=>
  rw [hfls] at hd hl1
  have hFb : F b:=hl1.1
  refine (failAt_some w F d b _ _ _ _ _ _ _ v S.n l ks hd hl1 hv (fun g hg e=>hvF g hg (e ▸ hFb)) hks).mono ?_
  rintro e w' ⟨rfl,l',hm,hl',hc⟩
  refine ⟨rfl,{ G with fls:=some b },?_,hc.mono fun k _ e=>by rw [e]; exact hFb⟩
  have hdb : d≠b:=hl1.2.ne hd
  have hr:=h.told (F':=Fx F w w') (w':=w') (hc.mono fun k _ e=>Or.inr (by rw [hfls,e])) (room:=S.room) (cut:=S.cut) (fails:=(S.failAt ks).fails) (cv:=G.cv) (fls:=some b) l' h.roomy h.cutv (fun k hk=>Or.inl hk)
   (by have:=hc.keep hd hdb; rw [this]; rfl) ⟨Or.inl hFb,hm.2⟩
   (fun k hk=>by
    rw [hl' k (by omega)]
    show (S.fails k || ks.contains (k : Int))=true↔_
    rw [Bool.or_eq_true,hl2 k hk,List.contains_iff_mem])
   (fun b' e=>by rw [← hfls]; exact (h.two b' e).2) (fun b' e=>by rw [← hfls]; exact h.three b' e)
  exact hr
 | none=>
  rw [hfls] at hd hl1
  have hl : l = []:=by simpa [Be,fv] using hl1
  subst hl
  refine (failAt_none w (fun k=>k=w.heap.size) d _ _ _ _ _ _ _ v S.n ks hd rfl hv (fun g hg e=>hvF g hg (e ▸ h.inD)) hks).mono ?_
  rintro e w' ⟨rfl,b,hd',l',hm,hl',hc,hb1,hb2⟩
  have hcF : Chg F w w':=hc.mono fun k _ e=>by rw [e]; exact h.inD
  refine ⟨rfl,{ G with fls:=some b },?_,hcF⟩
  have hr:=h.told (F':=Fx F w w') (w':=w') (hc.mono fun k _ e=>Or.inl e) (room:=S.room) (cut:=S.cut) (fails:=(S.failAt ks).fails) (cv:=G.cv) (fls:=some b) l' h.roomy h.cutv (fun k hk=>Or.inl hk)
   (by rw [hd']; rfl) ⟨Or.inr ⟨hb1,hb2⟩,hm.2⟩
   (fun k hk=>by
    rw [hl' k (by omega)]
    show (S.fails k || ks.contains (k : Int))=true↔_
    rw [Bool.or_eq_true,hl2 k hk,List.contains_iff_mem]
    simp)
   (fun b' e=>by
    have hm:=h.now
    rw [e] at hm
    intro e2
    injection e2 with e2
    have:=hm.2.lt
    omega)
   (fun b' e=>by
    have hm:=h.sure
    rw [e] at hm
    intro e2
    injection e2 with e2
    have:=hm.2.lt
    omega)
  exact hr
set_option maxRecDepth 20000 in
theorem setRoom_rep (h : Rep w F d S G) (r : Int) (hr : r≤9223372036854775807) : Calls Tryz.prog 17 #[.pointer (some ⟨d,0,none⟩), .int .i64 r] w fun e w'=>e = .returned (.tuple #[])∧Rep w' F d (S.setRoom r) G∧Chg F w w':=by
 have hd:=h.disk
 unfold B9 at hd
 have t0:=Av hd 0
 have x0:=Ad hd 0
 have hfin : ∀ v : Int,v=(r.toNat : Int)→Rep (w.setCell ⟨d,0,none⟩ (.int .i64 v)) F d (S.setRoom r) G∧Chg F w (w.setCell ⟨d,0,none⟩ (.int .i64 v)):=fun v hv=>
  ⟨h.told1 (Cb w d 0 _) (room:=r.toNat) (cut:=S.cut) (cv:=G.cv) (by omega) h.cutv (by rw [A0 hd 0 _,hv]; rfl),(Cb w d 0 _).mono fun k _ e=>by rw [e]; exact h.inD⟩
 have HF:=Ab hfin
 clear hfin hd h
 rcases Int.lt_or_le r 0 with hlt | hlt
 all_goals
  go_enter Tryz.func17,Tryz.ntmps17
  go_wp2
  go_end0
  exact ⟨rfl,HF.out _ (by omega)⟩
theorem failAt_lies (h : Bi B w F d S) (hB : B≤w.heap.size) {v : Value} {ks : List Int} (hv : Is w v ks) (hvF : ∀ g,v.ownBlock=some g→¬ F g) (hks : ks.length≤4611686018427387904) :
  Calls Tryz.prog 16 #[.pointer (some ⟨d,0,none⟩),v] w fun e w'=>e = .returned (.tuple #[])∧C2 B w F d (S.failAt ks) w':=by
 have h0:=h
 obtain ⟨⟨G,hr⟩,h2,h3⟩:=h
 refine (failAt_rep hr hv hvF hks).mono ?_
 rintro e w' ⟨rfl,G',hr',hc⟩
 exact ⟨rfl,Fh h0 hB hr' hc (h3.same rfl rfl)⟩
theorem N3 (h : Bi B w F d S) (hB : B≤w.heap.size) (r : Int) (hr0 : r≤9223372036854775807) :
  Calls Tryz.prog 17 #[.pointer (some ⟨d,0,none⟩), .int .i64 r] w fun e w'=>e = .returned (.tuple #[])∧C2 B w F d (S.setRoom r) w':=by
 have h0:=h
 obtain ⟨⟨G,hr⟩,h2,h3⟩:=h
 refine (setRoom_rep hr r hr0).mono ?_
 rintro e w' ⟨rfl,hr',hc⟩
 exact ⟨rfl,Fh h0 hB (hr'.mono fun k hk=>Or.inl hk) hc (h3.same rfl rfl)⟩
theorem failAt_one {F : Nat→Prop} {d : Nat} {S : Dk} (h : Bi B w F d S) (hB : B≤w.heap.size) (k : Int) :
  Calls Tryz.prog 16 #[.pointer (some ⟨d,0,none⟩), .slice (some ⟨w.heap.size,0,none⟩) 1 1] (w.alloc (.cells #[.int .i64 k] 3)) fun e w'=>e = .returned (.tuple #[])∧C2 B w F d (S.failAt [k]) w':=by
 have hc : Chg (fun _=>False) w (w.alloc (.cells #[.int .i64 k] 3)):=(Chg.refl _ w).alloc _
 have h1:=h.keep hc (fun _ _ h=>h)
 have hi : Is (w.alloc (.cells #[.int .i64 k] 3)) (.slice (some ⟨w.heap.size,0,none⟩) 1 1) [k]:=by
  refine ⟨w.heap.size,0,1,rfl,by simp,Nat.le_refl _,fun j hj=>?_⟩
  have hj0 : j=0:=by simp at hj; omega
  subst hj0
  exact Ad (Au w _) 0
 refine (failAt_lies h1 (Nat.le_trans hB hc.size) hi (fun g hg hF=>?_) (by simp)).mono ?_
 ·have:=(h.2.1 g hF).2
  cases hg
  exact Nat.lt_irrefl _ this
 ·rintro e w' ⟨rfl,F',h2,h3,h4⟩
  refine ⟨rfl,F',h2,fun k hk=>?_,(hc.mono fun _ _ h=>h.elim).then h4⟩
  rcases h3 k hk with h | h
  ·exact Or.inl h
  ·exact Or.inr (Nat.le_trans hc.size h)
end Go.Proofs.YtblniomnhpedjaaGreatDoor
namespace Go.Proofs.YtblniomnhpedjaaGreatDoor
open Go.RowKit
structure PlP (S : Dk) (ks : List Int) (tight : Bool) (m k : Nat) : Prop where
 lit : Lit S
 slim : Slim B6 2200000 S
 bulk : S.bulk≤m
 fl : ∀ i : Nat,S.fails i=true→(i : Int)∈ks
 room : tight=false→S.room=Dm
 few : ks.length≤k
def TabS (B : Nat) (w : World) (F : Nat→Prop) (d g t b : Nat) (S : Dk) (lp : List Af) : Prop:=∃ L sure gs,TabL B w F d g t b S L sure lp∧Cx B6 S L sure lp gs
def B8 (w : World) (x d t r : Nat) (f : Value) (tight : Bool) (S : Dk) : Prop:=∃ (bad : Bool) (most last : Int),C9 w x d t r f tight bad most last∧(0≤most∧most≤1048576)∧(0≤last∧last≤100000000)∧(bad=false→(S.used : Int)≤10000+2 * most)
structure PlM (B : Nat) (w : World) (x d g t b r : Nat) (F : Nat→Prop) (S : Dk) (lp : List Af) (f : Value) (ks : List Int) (tight : Bool) : Prop where
 world : B8 w x d t r f tight S
 tab : TabS B w F d g t b S lp
 row : w.ownsRow B 3 1 f ks.length (icW ks)
 fo : ∀ k,f.ownBlock=some k→¬ (F k∨k=g∨k=t)∧k≠x
 ref : C6 w x F g t r lp
 rf : ∀ k,Cm w r k→f.ownBlock≠some k
 xo : ¬ (F x∨x=g∨x=t)
 low : B≤x
section
variable {B : Nat} {w w' w2 : World} {F F' : Nat→Prop} {x d g t b r : Nat} {S S' : Dk} {lp l : List Af} {f : Value} {ks : List Int} {tight : Bool} {m k : Nat} {ps : List An}
theorem B8.keep {X : Nat→Prop} (h : B8 w x d t r f tight S) (hc : Chg X w w') (hx : ¬ X x) : B8 w' x d t r f tight S:=by
 obtain ⟨bad,most,last,h1,h2⟩:=h
 exact ⟨bad,most,last,hc.keep (show w.heap[x]? = some _ from h1) hx,h2⟩
theorem B8.same (h : B8 w x d t r f tight S) (hu : S'.used=S.used) : B8 w x d t r f tight S':=by
 obtain ⟨bad,most,last,h1,h2,h3,h4⟩:=h
 exact ⟨bad,most,last,h1,h2,h3,fun e=>by rw [hu]; exact h4 e⟩
theorem B8.lt (h : B8 w x d t r f tight S) : x<w.heap.size:=by
 obtain ⟨bad,most,last,h1,-⟩:=h
 exact At (show w.heap[x]? = some _ from h1)
theorem B8.setT (h : B8 w x d t r f tight S) (t' : Nat) : B8 (w.setCell ⟨x,1,none⟩ (.pointer (some ⟨t',0,none⟩))) x d t' r f tight S:=by
 obtain ⟨bad,most,last,h1,h2⟩:=h
 exact ⟨bad,most,last,A0 (show w.heap[x]? = some _ from h1) 1 _,h2⟩
theorem B8.setR (h : B8 w x d t r f tight S) (r' : Nat) : B8 (w.setCell ⟨x,2,none⟩ (.pointer (some ⟨r',0,none⟩))) x d t r' f tight S:=by
 obtain ⟨bad,most,last,h1,h2⟩:=h
 exact ⟨bad,most,last,A0 (show w.heap[x]? = some _ from h1) 2 _,h2⟩
theorem B8.setF (h : B8 w x d t r f tight S) (f' : Value) : B8 (w.setCell ⟨x,3,none⟩ f') x d t r f' tight S:=by
 obtain ⟨bad,most,last,h1,h2⟩:=h
 exact ⟨bad,most,last,A0 (show w.heap[x]? = some _ from h1) 3 _,h2⟩
theorem B8.setQ (h : B8 w x d t r f tight S) (q : Bool) : B8 (w.setCell ⟨x,4,none⟩ (.bool q)) x d t r f q S:=by
 obtain ⟨bad,most,last,h1,h2⟩:=h
 exact ⟨bad,most,last,A0 (show w.heap[x]? = some _ from h1) 4 _,h2⟩
theorem B8.cells (h : B8 w x d t r f tight S) : (w.cell? ⟨x,0,none⟩=some (.pointer (some ⟨d,0,none⟩))∧w.cell? ⟨x,1,none⟩=some (.pointer (some ⟨t,0,none⟩))∧w.cell? ⟨x,2,none⟩=some (.pointer (some ⟨r,0,none⟩))∧w.cell? ⟨x,3,none⟩=some f∧w.cell? ⟨x,4,none⟩=some (.bool tight))∧∀ i,w.frozen? ⟨x,i,none⟩=false:=by
 obtain ⟨bad,most,last,h1,-⟩:=h
 have h1 : w.heap[x]? = some _:=h1
 exact ⟨⟨by rw [Ad h1]; rfl,by rw [Ad h1]; rfl,by rw [Ad h1]; rfl,by rw [Ad h1]; rfl,by rw [Ad h1]; rfl⟩,fun i=>Av h1 i⟩
theorem TabS.keep {X : Nat→Prop} (h : TabS B w F d g t b S lp) (hc : Chg X w w') (hF : ∀ k,F k→¬ X k) (h1 : ¬ X t) (h2 : ¬ X b) (h3 : ¬ X g) : TabS B w' F d g t b S lp:=by
 obtain ⟨L,sure,gs,k1,k2⟩:=h
 exact ⟨L,sure,gs,k1.keep hc hF h1 h2 h3,k2⟩
theorem TabS.low (h : TabS B w F d g t b S lp) : (∀ k,F k→B≤k∧k<w.heap.size)∧(B≤g∧g<w.heap.size)∧(B≤t∧t<w.heap.size)∧(B≤b∧b<w.heap.size):=by
 obtain ⟨L,sure,gs,k1,-⟩:=h
 exact ⟨k1.log.1.2.1,⟨k1.log.2.2.2.1,k1.log.lt⟩,⟨k1.bt,At k1.tab.cells⟩,⟨k1.bb,k1.tab.map.lt⟩⟩
theorem TabS.stands (h : TabS B w F d g t b S lp) : Bi B w F d S∧Bn lp∧Bb lp=true∧(∀ p∈lp,okP p)∧∃ sure,TabAt w t b g sure lp:=by
 obtain ⟨L,sure,gs,h1,-⟩:=h
 exact ⟨h1.log.1,h1.tab.rise,h1.fit,h1.each,sure,h1.tab⟩
theorem TabS.ne {y : Nat} {c : Array Value} {ty : TypeId} {fr : Nat × Nat} (h : TabS B w F d g t b S lp) (hy : w.heap[y]? = some (.cells c ty fr)) : y≠b:=by
 obtain ⟨L,sure,gs,h1,-⟩:=h
 exact h1.tab.map.ne hy
theorem PlM.lt (h : PlM B w x d g t b r F S lp f ks tight) : ∀ k,(F k∨k=g∨k=t)∨k=x→k<w.heap.size:=fun k hk=>by
 have hl:=h.tab.low
 rcases hk with (hk | rfl | rfl) | rfl
 ·exact (hl.1 k hk).2
 ·exact hl.2.1.2
 ·exact hl.2.2.1.2
 ·exact h.world.lt
theorem PlM.fb (h : PlM B w x d g t b r F S lp f ks tight) : f.ownBlock≠some b:=fun e=>by
 rcases h.row.2 with ⟨e1,-⟩ | ⟨g',cap,cur,e1,-,hh,-⟩
 ·rw [e1] at e
  cases e
 ·rw [e1] at e
  injection e with e
  exact h.tab.ne hh e
theorem PlM.xb (h : PlM B w x d g t b r F S lp f ks tight) : x≠b:=by
 obtain ⟨bad,most,last,h1,-⟩:=h.world
 have h1 : w.heap[x]? = some (.cells _ _):=h1
 exact h.tab.ne h1
theorem PlM.quiet (h : PlM B w x d g t b r F S lp f ks tight) (hb : Below w.heap.size w w') : PlM B w' x d g t b r F S lp f ks tight:=
 ⟨h.world.keep (C5 hb) (fun h=>h),h.tab.keep (C5 hb) (fun _ _ h=>h) (fun h=>h) (fun h=>h) (fun h=>h),A3 h.row (C5 hb) (fun _ _ h=>h),h.fo,h.ref.quiet hb,fun k hk=>h.rf k (hk.back hb h.ref.1.lt),h.xo,h.low⟩
theorem PlM.belowC (h : PlM B w x d g t b r F S lp f ks tight) (hc : Chg (fun k=>F k∨k=g∨k=t∨k=x) w w') (hB : B≤w.heap.size) : Below B w w':=by
 have hl:=h.tab.low
 refine hc.below (fun k hk=>?_) hB
 rcases hk with hk | rfl | rfl | rfl
 ·exact (hl.1 k hk).1
 ·exact hl.2.1.1
 ·exact hl.2.2.1.1
 ·exact h.low
theorem PlM.put (h : PlM B w x d g t b r F S lp f ks tight) (i : Nat) (u : Value) (hW : B8 (w.setCell ⟨x,i,none⟩ u) x d t r f tight S) : PlM B (w.setCell ⟨x,i,none⟩ u) x d g t b r F S lp f ks tight:=by
 have k : Chg (· = x) w (w.setCell ⟨x,i,none⟩ u):=(Chg.refl (· = x) w).setCell (p:=⟨x,i,none⟩) (.inl rfl) _
 obtain ⟨h1,h2⟩:=h.ref.chg k (fun k e=>.inr (.inr (.inr e)))
 exact ⟨hW,h.tab.keep k (fun k hk e=>h.xo (.inl (e ▸ hk))) (fun e=>h.xo (.inr (.inr e.symm))) (fun e=>h.xb e.symm) (fun e=>h.xo (.inr (.inl e.symm))),A3 h.row k (fun k hk e=>(h.fo k hk).2 e),h.fo,h.ref.step k (fun k e=>.inr (.inr (.inr e))) (fun k h=>.inl h),fun k hk=>h.rf k (h2 k hk),h.xo,h.low⟩
theorem PlM.putQ (h : PlM B w x d g t b r F S lp f ks tight) (q : Bool) : PlM B (w.setCell ⟨x,4,none⟩ (.bool q)) x d g t b r F S lp f ks q:=by
 have k : Chg (· = x) w (w.setCell ⟨x,4,none⟩ (.bool q)):=(Chg.refl (· = x) w).setCell (p:=⟨x,4,none⟩) (.inl rfl) _
 obtain ⟨h1,h2⟩:=h.ref.chg k (fun k e=>.inr (.inr (.inr e)))
 exact ⟨h.world.setQ q,h.tab.keep k (fun k hk e=>h.xo (.inl (e ▸ hk))) (fun e=>h.xo (.inr (.inr e.symm))) (fun e=>h.xb e.symm) (fun e=>h.xo (.inr (.inl e.symm))),A3 h.row k (fun k hk e=>(h.fo k hk).2 e),h.fo,h.ref.step k (fun k e=>.inr (.inr (.inr e))) (fun k h=>.inl h),fun k hk=>h.rf k (h2 k hk),h.xo,h.low⟩
theorem PlM.putR {r' : Nat} (h : PlM B w x d g t b r F S lp f ks tight) (hR : C6 w x F g t r' lp) (hf : ∀ k,Cm w r' k→f.ownBlock≠some k) : PlM B (w.setCell ⟨x,2,none⟩ (.pointer (some ⟨r',0,none⟩))) x d g t b r' F S lp f ks tight:=by
 have k : Chg (· = x) w (w.setCell ⟨x,2,none⟩ (.pointer (some ⟨r',0,none⟩))):=(Chg.refl (· = x) w).setCell (p:=⟨x,2,none⟩) (.inl rfl) _
 obtain ⟨h1,h2⟩:=hR.chg k (fun k e=>.inr (.inr (.inr e)))
 exact ⟨h.world.setR r',h.tab.keep k (fun k hk e=>h.xo (.inl (e ▸ hk))) (fun e=>h.xo (.inr (.inr e.symm))) (fun e=>h.xb e.symm) (fun e=>h.xo (.inr (.inl e.symm))),A3 h.row k (fun k hk e=>(h.fo k hk).2 e),h.fo,hR.step k (fun k e=>.inr (.inr (.inr e))) (fun k h=>.inl h),fun k hk=>hf k (h2 k hk),h.xo,h.low⟩
theorem PlM.putF {f2 : Value} {ks2 : List Int} (h : PlM B w x d g t b r F S lp f ks tight) (hr : w'.ownsRow B 3 1 f2 ks2.length (icW ks2)) (hc : Chg (fun k=>f.ownBlock=some k) w w') (hf : ∀ k,f2.ownBlock=some k→f.ownBlock=some k∨w.heap.size≤k) :
  PlM B (w'.setCell ⟨x,3,none⟩ f2) x d g t b r F S lp f2 ks2 tight∧(f2.ownBlock≠some x):=by
 have hlt:=h.lt
 have hW':=h.world.keep hc (fun e=>(h.fo x e).2 rfl)
 have hT':=h.tab.keep hc (fun k hk e=>(h.fo k e).1 (.inl hk)) (fun e=>(h.fo t e).1 (.inr (.inr rfl))) (fun e=>h.fb e) (fun e=>(h.fo g e).1 (.inr (.inl rfl)))
 have k : Chg (· = x) w' (w'.setCell ⟨x,3,none⟩ f2):=(Chg.refl (· = x) w').setCell (p:=⟨x,3,none⟩) (.inl rfl) _
 have hfo : ∀ k,f2.ownBlock=some k→¬ (F k∨k=g∨k=t)∧k≠x:=fun k e=>(hf k e).elim (h.fo k) (fun h2=>⟨fun e=>by have:=hlt k (.inl e); omega,fun e=>by have:=hlt k (.inr e); omega⟩)
 have hxb : x≠b:=h.xb
 have hR1 : Cr w' r lp:=h.ref.1.keepX hc (fun e=>h.rf r (.inl rfl) e) (fun u hu q hq e=>h.rf q (.inr ⟨u,hu,hq⟩) e)
 have hcl : w'.cell? ⟨r,0,none⟩=w.cell? ⟨r,0,none⟩:=World.cell?_of_block (w:=w) (a:=⟨r,0,none⟩) (hc.block r h.ref.1.lt (fun e=>h.rf r (.inl rfl) e))
 have hback : ∀ k,Cm w' r k→Cm w r k:=fun k hk=>hk.imp id (fun ⟨u,hu,hk⟩=>⟨u,by rw [← hcl]; exact hu,hk⟩)
 have hR' : C6 w' x F g t r lp:=⟨hR1,fun k hk=>by
  have:=h.ref.2 k (hback k hk)
  exact ⟨Nat.lt_of_lt_of_le this.1 hc.size,this.2⟩⟩
 obtain ⟨q1,q2⟩:=hR'.chg k (fun k e=>.inr (.inr (.inr e)))
 refine ⟨⟨hW'.setF f2,hT'.keep k (fun k hk e=>h.xo (.inl (e ▸ hk))) (fun e=>h.xo (.inr (.inr e.symm))) (fun e=>hxb e.symm) (fun e=>h.xo (.inr (.inl e.symm))),A3 hr k (fun k hk e=>(hfo k hk).2 e),hfo,hR'.step k (fun k e=>.inr (.inr (.inr e))) (fun k h=>.inl h),fun k hk e=>?_,h.xo,h.low⟩,fun e=>(hfo x e).2 rfl⟩
 have hk':=hback k (q2 k hk)
 rcases hf k e with e | e
 ·exact h.rf k hk' e
 ·have:=(h.ref.2 k hk').1
  omega
theorem PlM.after (h : PlM B w x d g t b r F S lp f ks tight) (ha : C2 B w F d S' w') (hs : ∀ L sure gs,Cx B6 S L sure lp gs→Cx B6 S' L sure lp gs) (hu : S'.used=S.used) :
  ∃ F',PlM B w' x d g t b r F' S' lp f ks tight∧(∀ k,F' k→F k∨w.heap.size≤k)∧Chg F w w':=by
 obtain ⟨F',hst,hF,hc⟩:=ha
 have hlt:=h.lt
 have hnF : ∀ k,k<w.heap.size→¬ F k→¬ F' k:=fun k hk hn e=>(hF k e).elim hn (fun e=>by omega)
 obtain ⟨L,sure,gs,h1,h2⟩:=h.tab
 have hlow : t<w.heap.size∧b<w.heap.size:=⟨At h1.tab.cells,h1.tab.map.lt⟩
 have hFF : ∀ k,F' k∨k=g∨k=t→(F k∨k=g∨k=t)∨w.heap.size≤k:=fun k h=>by
  rcases h with h | h
  ·exact (hF k h).imp .inl id
  ·exact .inl (.inr h)
 obtain ⟨q1,q2⟩:=h.ref.chg hc (fun k h=>.inl h)
 have hxl:=h.world.lt
 refine ⟨F',⟨(h.world.keep hc (fun e=>h.xo (.inl e))).same hu,⟨L,sure,gs,⟨h1.log.next hst hF hc,h1.tab.keep hc h1.nt h1.nb,hnF t hlow.1 h1.nt,hnF b hlow.2 h1.nb,h1.tg,h1.bt,h1.bb,h1.fit,h1.each⟩,hs L sure gs h2⟩,A3 h.row hc (fun k hk e=>(h.fo k hk).1 (.inl e)),fun k hk=>⟨fun e=>?_,(h.fo k hk).2⟩,h.ref.step hc (fun k h=>.inl h) hFF,fun k hk=>h.rf k (q2 k hk),fun e=>?_,h.low⟩,hF,hc⟩
 ·rcases hFF k e with e | e
  ·exact (h.fo k hk).1 e
  ·have:=(World.ownsRow.lt h.row k hk).2
   omega
 ·rcases hFF x e with e | e
  ·exact h.xo e
  ·omega
theorem says_begun {L : Lw} {sure : Bool} {gs : List (List Bs)} (h : Cx B6 S L sure lp gs) : Cx B6 S.begun L sure lp gs:=by
 obtain ⟨⟨h1,tail,h2,h3⟩,h4⟩:=h
 exact ⟨⟨h1,tail,h2.begun,h3⟩,h4⟩
theorem Lk {L : Lw} {sure : Bool} {gs : List (List Bs)} (h : Cx B6 S L sure lp gs) (hd : S'.dir=S.dir) (hs : S'.sure=S.sure) (ha : S'.acts=S.acts) (hf : S'.files=S.files) : Cx B6 S' L sure lp gs:=by
 obtain ⟨⟨h1,tail,⟨h2,h3,h4⟩,h5⟩,h6⟩:=h
 refine ⟨⟨h1,tail,⟨h2,h3,?_⟩,h5⟩,h6⟩
 rcases h4 with ⟨h4,e⟩ | ⟨f,h4⟩
 ·exact .inl ⟨⟨by rw [hs]; exact h4.lookS,by rw [hd]; exact h4.lookD,by rw [ha]; exact h4.acts⟩,e⟩
 ·exact .inr ⟨f,by rw [hs]; exact h4.lookS,by rw [hd]; exact h4.lookD,by rw [ha]; exact h4.acts,by rw [hf]; exact h4.file⟩
theorem PlP.may {e : Int} (h : PlP S ks tight m k) (ha : Ans S S' e) : MayBe tight ks S.n S'.n e:=by
 rcases ha with ha | ⟨ha,i,h1,h2,h3⟩ | ⟨ha,h1⟩
 ·exact .inl ha
 ·obtain ⟨j,hj,e⟩:=List.getElem_of_mem (h.fl i h3)
  exact .inr (.inl ⟨ha,j,hj,by omega,by omega⟩)
 ·refine .inr (.inr ⟨ha,?_⟩)
  cases tight with
  | false=>exact absurd (h.room rfl) h1
  | true=>rfl
theorem PlP.near {a c m' k' : Nat} (h : PlP S ks tight m k) (hn : B0 S S' a) (hs : Slim B6 2200000 S') (hb : S'.bulk≤S.bulk+c) (hm : m+c≤m') (hk : k≤k') : PlP S' ks tight m' k':=
 ⟨hn.lit h.lit,hs,Nat.le_trans hb (Nat.le_trans (Nat.add_le_add_right h.bulk c) hm),fun i q=>h.fl i (by rw [← hn.1.2.1]; exact q),fun e=>hn.1.2.2.trans (h.room e),Nat.le_trans h.few hk⟩
end
end Go.Proofs.YtblniomnhpedjaaGreatDoor
