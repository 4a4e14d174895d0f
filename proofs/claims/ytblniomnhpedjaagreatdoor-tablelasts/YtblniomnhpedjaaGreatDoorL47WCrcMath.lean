/-
  Texts joined: WCrcMath, TellsPure, TellsPure2, Turn, TurnOk, TTells1, TTells2, TLasts1.
-/
import Derived.Test.YtblniomnhpedjaaGreatDoorL18WCrc
import Derived.Test.YtblniomnhpedjaaGreatDoorL29Firm
import Derived.Test.YtblniomnhpedjaaGreatDoorL15Asks
import Derived.Test.YtblniomnhpedjaaGreatDoorL42TLaw
import Derived.Test.YtblniomnhpedjaaGreatDoorL46TPutsL
import Derived.Test.YtblniomnhpedjaaGreatDoorL43MildPure
namespace Go.Proofs.YtblniomnhpedjaaGreatDoor.Pl
def bs (x : Nat) : Nat:=if x % 2=1 then x / 2 ^^^ 3988292384 else x / 2
end Go.Proofs.YtblniomnhpedjaaGreatDoor.Pl
namespace Go.Proofs.YtblniomnhpedjaaGreatDoor
def Turned (l l' : List UInt8) : Prop:=∃ p c c' r,l=p++c :: r∧l'=p++c' :: r∧c≠c'
theorem Turned.length {l l' : List UInt8} (h : Turned l l') : l'.length=l.length:=by
 obtain ⟨p,c,c',r,rfl,rfl,-⟩:=h
 simp
theorem Turned.ne {l l' : List UInt8} (h : Turned l l') : l'≠l:=by
 obtain ⟨p,c,c',r,rfl,rfl,hc⟩:=h
 intro e
 have:=List.append_cancel_left e
 injection this with this _
 exact hc this.symm
section
variable {cs : List UInt8→List UInt8} (hcs : ∀ b,(cs b).length=4) (hone : ∀ l l',Turned l l'→cs l≠cs l')
include hcs hone
omit hcs in
omit hone in
omit hone in
end
end Go.Proofs.YtblniomnhpedjaaGreatDoor
namespace Go.Proofs.YtblniomnhpedjaaGreatDoor
variable {z n : Nm} {S : Dk} {all : List UInt8}
end Go.Proofs.YtblniomnhpedjaaGreatDoor
namespace Go.Proofs.YtblniomnhpedjaaGreatDoor
open Go.RowKit
section
variable {w w' : World} {F : Nat→Prop} {d : Nat} {S : Dk} {G : Gh}
end
end Go.Proofs.YtblniomnhpedjaaGreatDoor
namespace Go.Proofs.YtblniomnhpedjaaGreatDoor
open Go.RowKit
theorem Ok.modify {S : Dk} (h : Ok S) (f : Nat) (g : Fl→Fl) (hg : ∀ x,(g x).sure=x.sure∧(g x).b.length=x.b.length) : Ok { S with files:=S.files.modify f g } where
 sortS:=h.sortS
 valid:=h.valid
 dir:=h.dir
 one:=h.one
 idS i hi:=by
  show i<(S.files.modify f g).length
  rw [List.length_modify]
  exact h.idS i hi
 idA i hi:=by
  show i<(S.files.modify f g).length
  rw [List.length_modify]
  exact h.idA i hi
 idM i hi:=by
  show i<(S.files.modify f g).length
  rw [List.length_modify]
  exact h.idM i hi
 lens i y hy:=by
  rcases Gz hy with ⟨_,hy'⟩ | ⟨rfl,x,hx,rfl⟩
  ·exact h.lens i y hy'
  ·rw [(hg x).1,(hg x).2]
   exact h.lens i x hx
section
variable {w w' : World} {F : Nat→Prop} {d : Nat} {S : Dk} {G : Gh}
end
end Go.Proofs.YtblniomnhpedjaaGreatDoor
namespace Go.Proofs.YtblniomnhpedjaaGreatDoor
open Go.RowKit
def Dv (w : World) (r k : Nat) : Prop:=k=r ∨ ∃ u,w.cell? ⟨r,0,none⟩=some u∧u.ownBlock=some k
structure TWorld (B : Nat) (w : World) (x d g t b r : Nat) (F : Nat→Prop) (S : Dk) (lp : List Af) (m : Nat) : Prop where
 world : ∃ bad most last,Dx w x d t r (.slice none 0 0) false bad most last∧0≤most∧most≤4611686018427387904
 calm : Bp B w F d g t b C8 S lp m De
 ref : C2 w r lp
 apart : ∀ k,k=x∨Dv w r k→k<w.heap.size∧¬ (F k∨k=g∨k=t)
 other : ∀ k,Dv w r k→k≠x
 low : B≤x
section
variable {B : Nat} {w w' : World} {F : Nat→Prop} {x d g t b r : Nat} {S : Dk} {lp : List Af} {ps : List Al} {v : Value} {m : Nat}
theorem Dv.back {k : Nat} (h : Dv w' r k) (hb : Below w.heap.size w w') (hr : r<w.heap.size) : Dv w r k:=by
 rcases h with h | ⟨u,h1,h2⟩
 ·exact .inl h
 ·exact .inr ⟨u,by rw [← h1]; exact (hb.cell (p:=⟨r,0,none⟩) hr).symm,h2⟩
theorem TWorld.quiet (h : TWorld B w x d g t b r F S lp m) (hb : Below w.heap.size w w') : TWorld B w' x d g t b r F S lp m:=by
 obtain ⟨bad,most,last,h1,h2⟩:=h.world
 have hr:=h.ref.lt
 refine ⟨⟨bad,most,last,(Da hb).keep (show w.heap[x]? = some _ from h1) (fun h=>h),h2⟩,h.calm.quiet (Da hb),h.ref.keepB hb,fun k hk=>?_,fun k hk=>h.other k (hk.back hb hr),h.low⟩
 have:=h.apart k (hk.imp id (fun q=>q.back hb hr))
 exact ⟨Nat.lt_of_lt_of_le this.1 hb.size,this.2⟩
end
end Go.Proofs.YtblniomnhpedjaaGreatDoor
namespace Go.Proofs.YtblniomnhpedjaaGreatDoor
open Go.RowKit
section
variable {B : Nat} {w2 w3 w4 : World} {F F' : Nat→Prop} {x d g t b b' r r' : Nat} {S S' : Dk} {lp lp' : List Af} {m m' : Nat}
theorem TWorld.next (h : TWorld B w2 x d g t b r F S lp m) (hb : Below w2.heap.size w2 w3) (hR : C2 w3 r' lp') (hrr : r'=r∨w2.heap.size≤r')
  (hown : ∀ u,w3.cell? ⟨r',0,none⟩=some u→w2.cell? ⟨r,0,none⟩=some u ∨ ∀ q,u.ownBlock=some q→w2.heap.size≤q∧q<w3.heap.size)
  (hW : ∃ bad most last,Dx w4 x d t r (.slice none 0 0) false bad most last∧0≤most∧most≤4611686018427387904) (hC : Bp B w4 F' d g t b' C8 S' lp' m' De)
  (hF : ∀ k,F' k→F k∨w3.heap.size≤k) (hc : Chg (fun k=>F k∨k=g∨k=t∨k=x) w3 w4) :
  TWorld B (w4.setCell ⟨x,2,none⟩ (.pointer (some ⟨r',0,none⟩))) x d g t b' r' F' S' lp' m':=by
 obtain ⟨bad,most,last,h1,h2⟩:=hW
 have hlow:=h.calm.low
 have hz:=hb.size
 have hz4:=hc.size
 have hxs:=(h.apart x (.inl rfl)).1
 have hXlt : ∀ k,(F k∨k=g∨k=t)→k<w2.heap.size:=fun k hk=>by
  rcases hk with hk | rfl | rfl
  ·exact (hlow.1 k hk).2
  ·exact hlow.2.1.2
  ·exact hlow.2.2.1.2
 -- r' and its row lie apart
 have hr : ∀ k,Dv w3 r' k→k<w3.heap.size∧¬ (F k∨k=g∨k=t)∧k≠x:=by
  intro k hk
  rcases hk with rfl | ⟨u,hu,hk⟩
  ·rcases hrr with rfl | q
   ·exact ⟨hR.lt,(h.apart k (.inr (.inl rfl))).2,h.other k (.inl rfl)⟩
   ·exact ⟨hR.lt,fun e=>by have:=hXlt k e; omega,by omega⟩
  ·rcases hown u hu with e | e
   ·have ha:=h.apart k (.inr (.inr ⟨u,e,hk⟩))
    exact ⟨by omega,ha.2,h.other k (.inr ⟨u,e,hk⟩)⟩
   ·have:=e k hk
    exact ⟨this.2,fun e=>by have:=hXlt k e; omega,by omega⟩
 have hX : ∀ k,Dv w3 r' k→¬ (F k∨k=g∨k=t∨k=x):=fun k hk e=>by
  have:=hr k hk
  rcases e with e | e | e | e
  ·exact this.2.1 (.inl e)
  ·exact this.2.1 (.inr (.inl e))
  ·exact this.2.1 (.inr (.inr e))
  ·exact this.2.2 e
 have hR4:=hR.keepX hc (hX r' (.inl rfl)) (fun u hu q hq=>hX q (.inr ⟨u,hu,hq⟩))
 have k5 : Chg (· = x) w4 (w4.setCell ⟨x,2,none⟩ (.pointer (some ⟨r',0,none⟩))):=(Chg.refl (· = x) w4).setCell (p:=⟨x,2,none⟩) (.inl rfl) _
 have hcell : w4.cell? ⟨r',0,none⟩=w3.cell? ⟨r',0,none⟩:=World.cell?_of_block (w:=w3) (a:=⟨r',0,none⟩) (hc.block r' hR.lt (hX r' (.inl rfl)))
 have hcell5 : (w4.setCell ⟨x,2,none⟩ (.pointer (some ⟨r',0,none⟩))).cell? ⟨r',0,none⟩=w4.cell? ⟨r',0,none⟩:=World.cell?_of_block (w:=w4) (a:=⟨r',0,none⟩) (k5.block r' hR4.lt (hr r' (.inl rfl)).2.2)
 have hback : ∀ k,Dv (w4.setCell ⟨x,2,none⟩ (.pointer (some ⟨r',0,none⟩))) r' k→Dv w3 r' k:=fun k hk=>by
  rcases hk with hk | ⟨u,hu,hk⟩
  ·exact .inl hk
  ·exact .inr ⟨u,by rw [← hcell,← hcell5]; exact hu,hk⟩
 have hR5:=hR4.keepX k5 (hr r' (.inl rfl)).2.2 (fun u hu q hq=>(hr q (.inr ⟨u,by rw [← hcell]; exact hu,hq⟩)).2.2)
 have hxF : ¬ (F' x∨x=g∨x=t):=fun e=>by
  have:=(h.apart x (.inl rfl)).2
  rcases e with e | e
  ·rcases hF x e with e | e
   ·exact this (.inl e)
   ·omega
  ·exact this (.inr e)
 have hbx : b'≠x:=by
  obtain ⟨L,sure,gs,q1,-⟩:=hC
  exact fun e=>q1.tab.map.ne (show w4.heap[x]? = some _ from h1) e.symm
 refine ⟨⟨bad,most,last,Ax (show w4.heap[x]? = some _ from h1) 2 _,h2⟩,hC.keep k5 (fun k hk e=>hxF (.inl (e ▸ hk))) (fun e=>hxF (.inr (.inr e.symm))) hbx (fun e=>hxF (.inr (.inl e.symm))),hR5,fun k hk=>?_,fun k hk=>(hr k (hback k hk)).2.2,h.low⟩
 have hs5:=k5.size
 rcases hk with rfl | hk
 ·exact ⟨by omega,hxF⟩
 ·have ha:=hr k (hback k hk)
  refine ⟨by omega,fun e=>?_⟩
  rcases e with e | e
  ·rcases hF k e with e | e
   ·exact ha.2.1 (.inl e)
   ·omega
  ·exact ha.2.1 (.inr e)
end
abbrev OpT:=Int × List Al × Int × Int × Int
def OpsT (w : World) (v : Value) (os : List OpT) : Prop:=
 ∃ ao cap,v = .slice ao os.length cap∧os.length≤cap∧cap≤maxLen∧(os ≠ []→∃ b off,ao=some ⟨b,off,none⟩∧b<w.heap.size∧∀ j (h : j<os.length),∃ pv,PsT w pv (os[j]'h).2.1 ∧
  w.cell? ⟨b,off+j * 5,none⟩=some (.int .i64 (os[j]'h).1)∧w.cell? ⟨b,off+j * 5+1,none⟩=some pv∧w.cell? ⟨b,off+j * 5+2,none⟩=some (.int .i64 (os[j]'h).2.2.1)∧w.cell? ⟨b,off+j * 5+3,none⟩=some (.int .i64 (os[j]'h).2.2.2.1)∧w.cell? ⟨b,off+j * 5+4,none⟩=some (.int .i64 (os[j]'h).2.2.2.2))
theorem OpsT.form {w : World} {v : Value} {l : List OpT} (h : OpsT w v l) : ∃ ao cap,v = .slice ao l.length cap:=by
 obtain ⟨ao,cap,hv,-⟩:=h
 exact ⟨ao,cap,hv⟩
theorem OpsT.at {w w' : World} {ao : Option Addr} {n cap : Nat} {l : List OpT} (h : OpsT w (.slice ao n cap) l) (hb : Below w.heap.size w w') {j : Nat} (hj : j<l.length) :
  ∃ b off pv,ao=some ⟨b,off,none⟩∧PsT w' pv l[j].2.1∧w'.cell? ⟨b,off+j * 5,none⟩=some (.int .i64 l[j].1)∧w'.cell? ⟨b,off+j * 5+1,none⟩=some pv∧w'.cell? ⟨b,off+j * 5+2,none⟩=some (.int .i64 l[j].2.2.1)∧w'.cell? ⟨b,off+j * 5+3,none⟩=some (.int .i64 l[j].2.2.2.1)∧w'.cell? ⟨b,off+j * 5+4,none⟩=some (.int .i64 l[j].2.2.2.2):=by
 obtain ⟨ao',cap',hv,-,-,h4⟩:=h
 injection hv with e1 e2 e3
 subst e1
 obtain ⟨b,off,ha,hlt,hc⟩:=h4 (by intro e; rw [e] at hj; simp at hj)
 obtain ⟨pv,h1,h2,h3,h5,h6,h7⟩:=hc j hj
 exact ⟨b,off,pv,ha,h1.keepB hb,(hb.cell (p:=⟨b,off+j * 5,none⟩) hlt).trans h2,(hb.cell (p:=⟨b,off+j * 5+1,none⟩) hlt).trans h3,(hb.cell (p:=⟨b,off+j * 5+2,none⟩) hlt).trans h5,(hb.cell (p:=⟨b,off+j * 5+3,none⟩) hlt).trans h6,(hb.cell (p:=⟨b,off+j * 5+4,none⟩) hlt).trans h7⟩
def FineT (os : List OpT) : Prop:=∀ o∈os,(-9223372036854775808≤o.1∧o.1≤9223372036854775807)∧(-9223372036854775808≤o.2.2.1∧o.2.2.1≤9223372036854775807)∧∀ p∈o.2.1,p.1.length≤140737488351232∧p.2.1.length≤140737488351232
end Go.Proofs.YtblniomnhpedjaaGreatDoor
namespace Go.Proofs.YtblniomnhpedjaaGreatDoor
open Go.RowKit
abbrev Ec:=List OpT × Int × Int × Int
def G3 (w : World) (v : Value) (xs : List Ec) : Prop:=
 ∃ ao cap,v = .slice ao xs.length cap∧xs.length≤cap∧cap≤maxLen∧(xs ≠ []→∃ b off,ao=some ⟨b,off,none⟩∧b<w.heap.size∧∀ j (h : j<xs.length),∃ ov,OpsT w ov (xs[j]'h).1 ∧
  w.cell? ⟨b,off+j * 4,none⟩=some ov∧w.cell? ⟨b,off+j * 4+1,none⟩=some (.int .i64 (xs[j]'h).2.1)∧w.cell? ⟨b,off+j * 4+2,none⟩=some (.int .i64 (xs[j]'h).2.2.1)∧w.cell? ⟨b,off+j * 4+3,none⟩=some (.int .i64 (xs[j]'h).2.2.2))
theorem G3.form {w : World} {v : Value} {l : List Ec} (h : G3 w v l) : ∃ ao cap,v = .slice ao l.length cap:=by
 obtain ⟨ao,cap,hv,-⟩:=h
 exact ⟨ao,cap,hv⟩
theorem G3.at {w w' : World} {ao : Option Addr} {n cap : Nat} {l : List Ec} (h : G3 w (.slice ao n cap) l) (hb : Below w.heap.size w w') {j : Nat} (hj : j<l.length) :
  ∃ b off ov,ao=some ⟨b,off,none⟩∧OpsT w ov l[j].1∧w'.cell? ⟨b,off+j * 4,none⟩=some ov∧w'.cell? ⟨b,off+j * 4+1,none⟩=some (.int .i64 l[j].2.1)∧w'.cell? ⟨b,off+j * 4+2,none⟩=some (.int .i64 l[j].2.2.1)∧w'.cell? ⟨b,off+j * 4+3,none⟩=some (.int .i64 l[j].2.2.2):=by
 obtain ⟨ao',cap',hv,-,-,h4⟩:=h
 injection hv with e1 e2 e3
 subst e1
 obtain ⟨b,off,ha,hlt,hc⟩:=h4 (by intro e; rw [e] at hj; simp at hj)
 obtain ⟨ov,h1,h2,h3,h5,h6⟩:=hc j hj
 exact ⟨b,off,ov,ha,h1,(hb.cell (p:=⟨b,off+j * 4,none⟩) hlt).trans h2,(hb.cell (p:=⟨b,off+j * 4+1,none⟩) hlt).trans h3,(hb.cell (p:=⟨b,off+j * 4+2,none⟩) hlt).trans h5,(hb.cell (p:=⟨b,off+j * 4+3,none⟩) hlt).trans h6⟩
def FineL (xs : List Ec) : Prop:=∀ x∈xs,FineT x.1∧x.1.length≤140737488355328∧(-9223372036854775808≤x.2.1∧x.2.1≤9223372036854775807)
def Cf (B : Nat) (w : World) (F : Nat→Prop) (d g t b : Nat) (S : Dk) (lp : List Af) (m : Nat) : Prop:=∃ L sure gs,TabL B w F d g t b S L sure lp∧En C8 S L sure lp gs∧Cw S∧Slim C8 2200000 S∧S.bulk≤m∧S.room=De
def TCut (B : Nat) (w : World) (F : Nat→Prop) (d : Nat) (S : Dk) (old new : List Af) (m : Nat) : Prop:=Bn B w F d S∧EitherT C8 S old new∧Slim C8 2200000 S∧S.bulk≤m∧S.room=De
def B3 (w : World) (x : Nat) (F : Nat→Prop) (g t r : Nat) (l : List Af) : Prop:=C2 w r l∧∀ k,Dv w r k→k<w.heap.size∧¬ (F k∨k=g∨k=t)∧k≠x
def Cn (w : World) (x d t r : Nat) : Prop:=∃ bad most last,Dx w x d t r (.slice none 0 0) false bad most last∧0≤most∧most≤4611686018427387904
section
variable {B : Nat} {w w' w2 w3 : World} {F F' : Nat→Prop} {x d g t b r r' g' t' : Nat} {S : Dk} {lp l : List Af} {ps : List Al} {v : Value} {m : Nat}
theorem Cn.keep {X : Nat→Prop} (h : Cn w x d t r) (hc : Chg X w w') (hx : ¬ X x) : Cn w' x d t r:=by
 obtain ⟨bad,most,last,h1,h2⟩:=h
 exact ⟨bad,most,last,hc.keep (show w.heap[x]? = some _ from h1) hx,h2⟩
theorem Cn.lt (h : Cn w x d t r) : x<w.heap.size:=by
 obtain ⟨bad,most,last,h1,-⟩:=h
 exact At (show w.heap[x]? = some _ from h1)
theorem Cn.setD (h : Cn w x d t r) (d' : Nat) : Cn (w.setCell ⟨x,0,none⟩ (.pointer (some ⟨d',0,none⟩))) x d' t r:=by
 obtain ⟨bad,most,last,h1,h2⟩:=h
 exact ⟨bad,most,last,Ax (show w.heap[x]? = some _ from h1) 0 _,h2⟩
theorem Cn.setT (h : Cn w x d t r) (t' : Nat) : Cn (w.setCell ⟨x,1,none⟩ (.pointer (some ⟨t',0,none⟩))) x d t' r:=by
 obtain ⟨bad,most,last,h1,h2⟩:=h
 exact ⟨bad,most,last,Ax (show w.heap[x]? = some _ from h1) 1 _,h2⟩
theorem Cn.setR (h : Cn w x d t r) (r' : Nat) : Cn (w.setCell ⟨x,2,none⟩ (.pointer (some ⟨r',0,none⟩))) x d t r':=by
 obtain ⟨bad,most,last,h1,h2⟩:=h
 exact ⟨bad,most,last,Ax (show w.heap[x]? = some _ from h1) 2 _,h2⟩
theorem Cn.cells (h : Cn w x d t r) : (w.cell? ⟨x,0,none⟩=some (.pointer (some ⟨d,0,none⟩))∧w.cell? ⟨x,1,none⟩=some (.pointer (some ⟨t,0,none⟩))∧w.cell? ⟨x,2,none⟩=some (.pointer (some ⟨r,0,none⟩)))∧w.frozen? ⟨x,0,none⟩=false∧w.frozen? ⟨x,1,none⟩=false∧w.frozen? ⟨x,2,none⟩=false:=by
 obtain ⟨bad,most,last,h1,-⟩:=h
 have h1 : w.heap[x]? = some _:=h1
 exact ⟨⟨by rw [Ad h1]; rfl,by rw [Ad h1]; rfl,by rw [Ad h1]; rfl⟩,Au h1 0,Au h1 1,Au h1 2⟩
theorem B3.quiet (h : B3 w x F g t r l) (hb : Below w.heap.size w w') : B3 w' x F g t r l:=by
 have hr:=h.1.lt
 refine ⟨h.1.keepB hb,fun k hk=>?_⟩
 have:=h.2 k (hk.back hb hr)
 exact ⟨Nat.lt_of_lt_of_le this.1 hb.size,this.2⟩
theorem B3.chg {X : Nat→Prop} (h : B3 w x F g t r l) (hc : Chg X w w') (hX : ∀ k,X k→F k∨k=g∨k=t∨k=x) : C2 w' r l∧∀ k,Dv w' r k→Dv w r k:=by
 have hX' : ∀ k,Dv w r k→¬ X k:=fun k hk e=>by
  have:=h.2 k hk
  rcases hX k e with e | e | e | e
  ·exact this.2.1 (.inl e)
  ·exact this.2.1 (.inr (.inl e))
  ·exact this.2.1 (.inr (.inr e))
  ·exact this.2.2 e
 refine ⟨h.1.keepX hc (hX' r (.inl rfl)) (fun u hu q hq=>hX' q (.inr ⟨u,hu,hq⟩)),fun k hk=>?_⟩
 rcases hk with hk | ⟨u,hu,hk⟩
 ·exact .inl hk
 ·exact .inr ⟨u,by rw [← hu]; exact (World.cell?_of_block (w:=w) (a:=⟨r,0,none⟩) (hc.block r h.1.lt (hX' r (.inl rfl)))).symm,hk⟩
theorem B3.step {X : Nat→Prop} (h : B3 w x F g t r l) (hc : Chg X w w') (hX : ∀ k,X k→F k∨k=g∨k=t∨k=x) (hF : ∀ k,F' k∨k=g'∨k=t'→(F k∨k=g∨k=t)∨w.heap.size≤k) : B3 w' x F' g' t' r l:=by
 obtain ⟨h1,h2⟩:=h.chg hc hX
 refine ⟨h1,fun k hk=>?_⟩
 have:=h.2 k (h2 k hk)
 refine ⟨Nat.lt_of_lt_of_le this.1 hc.size,fun e=>?_,this.2.2⟩
 rcases hF k e with e | e
 ·exact this.2.1 e
 ·omega
theorem B3.next (h : B3 w2 x F g t r lp) (hlt : ∀ k,(F k∨k=g∨k=t)∨k=x→k<w2.heap.size) (hR : C2 w3 r' l) (hrr : r'=r∨w2.heap.size≤r') (hz : w2.heap.size≤w3.heap.size)
  (hown : ∀ u,w3.cell? ⟨r',0,none⟩=some u→w2.cell? ⟨r,0,none⟩=some u ∨ ∀ q,u.ownBlock=some q→w2.heap.size≤q∧q<w3.heap.size) : B3 w3 x F g t r' l:=by
 refine ⟨hR,fun k hk=>?_⟩
 rcases hk with rfl | ⟨u,hu,hk⟩
 ·rcases hrr with rfl | q
  ·have:=h.2 k (.inl rfl)
   exact ⟨hR.lt,this.2⟩
  ·exact ⟨hR.lt,fun e=>by have:=hlt k (.inl e); omega,fun e=>by have:=hlt k (.inr e); omega⟩
 ·rcases hown u hu with e | e
  ·have ha:=h.2 k (.inr ⟨u,e,hk⟩)
   exact ⟨by omega,ha.2⟩
  ·have:=e k hk
   exact ⟨this.2,fun e=>by have:=hlt k (.inl e); omega,fun e=>by have:=hlt k (.inr e); omega⟩
theorem Cf.keep {X : Nat→Prop} (h : Cf B w F d g t b S lp m) (hc : Chg X w w') (hF : ∀ k,F k→¬ X k) (h1 : ¬ X t) (h2 : ¬ X b) (h3 : ¬ X g) : Cf B w' F d g t b S lp m:=by
 obtain ⟨L,sure,gs,k1,k2⟩:=h
 exact ⟨L,sure,gs,k1.keep hc hF h1 h2 h3,k2⟩
theorem Cf.quiet (h : Cf B w F d g t b S lp m) (hb : Below w.heap.size w w') : Cf B w' F d g t b S lp m:=h.keep (Da hb) (fun _ _ h=>h) (fun h=>h) (fun h=>h) (fun h=>h)
theorem Cf.low (h : Cf B w F d g t b S lp m) : (∀ k,F k→B≤k∧k<w.heap.size)∧(B≤g∧g<w.heap.size)∧(B≤t∧t<w.heap.size)∧(B≤b∧b<w.heap.size):=by
 obtain ⟨L,sure,gs,k1,-⟩:=h
 exact ⟨k1.log.1.2.1,⟨k1.log.2.2.2.1,k1.log.lt⟩,⟨k1.bt,At k1.tab.cells⟩,⟨k1.bb,k1.tab.map.lt⟩⟩
theorem Cf.stands (h : Cf B w F d g t b S lp m) : Bn B w F d S∧S.bulk≤m∧Bq lp∧A9 lp=true:=by
 obtain ⟨L,sure,gs,h1,-,-,-,h3,-⟩:=h
 exact ⟨h1.log.1,h3,h1.tab.rise,h1.fit⟩
theorem Cf.more {m' : Nat} (h : Cf B w F d g t b S lp m) (hm : m≤m') : Cf B w F d g t b S lp m':=by
 obtain ⟨L,sure,gs,h1,h2,h3,h4,h5,h6⟩:=h
 exact ⟨L,sure,gs,h1,h2,h3,h4,Nat.le_trans h5 hm,h6⟩
theorem Cf.cut (h : Cf B w F d g t b S lp m) (l : List Af) {m' : Nat} (hm : m≤m') : TCut B w F d S lp l m':=by
 obtain ⟨L,sure,gs,h1,h2,h3,h4,h5,h6⟩:=h
 exact ⟨h1.log.1,either_says h2 h1.log.1.ok l,h4,Nat.le_trans h5 hm,h6⟩
theorem TCut.more {m' : Nat} (h : TCut B w F d S lp l m) (hm : m≤m') : TCut B w F d S lp l m':=⟨h.1,h.2.1,h.2.2.1,Nat.le_trans h.2.2.2.1 hm,h.2.2.2.2⟩
theorem TCut.keep {X : Nat→Prop} (h : TCut B w F d S lp l m) (hc : Chg X w w') (hF : ∀ k,F k→¬ X k) : TCut B w' F d S lp l m:=⟨h.1.keep hc hF,h.2⟩
theorem Cf.apart {d' : Nat} (h : Cf B w F d g t b S lp m) (hW : Cn w x d' t' r) : b≠x:=by
 obtain ⟨L,sure,gs,q1,-⟩:=h
 obtain ⟨bad,most,last,h1,-⟩:=hW
 exact fun e=>q1.tab.map.ne (show w.heap[x]? = some _ from h1) e.symm
theorem cut_tmild (h : Cf B w F d g t b S lp m) (op : Int) (hB : B≤w.heap.size) :
  Calls Tryz.prog 25 #[.pointer (some ⟨d,0,none⟩), .int .i64 op] w fun e w'=>e = .returned (.tuple #[])∧∃ F',Cf B w' F' d g t b (S.cutAt op) lp m∧(∀ k,F' k→F k∨w.heap.size≤k)∧Chg F w w':=by
 obtain ⟨L,sure,gs,h1,⟨⟨hn,tail,ho,hw1,hw2⟩,hto,hsu⟩,h3,h4,h5,h6⟩:=h
 refine (cutAt_lies h1.log.1 hB op).mono ?_
 rintro e w' ⟨rfl,F',hst,hF,hc⟩
 have hlow : t<w.heap.size∧b<w.heap.size∧g<w.heap.size:=⟨At h1.tab.cells,h1.tab.map.lt,h1.log.lt⟩
 have hnF : ∀ k,k<w.heap.size→¬ F k→¬ F' k:=fun k hk hn e=>(hF k e).elim hn (fun e=>by omega)
 have hlg : Lg B w' F' d g (S.cutAt op) L:=h1.log.next hst hF hc
 have ho' : On C8 (S.cutAt op) gs tail:=by
  refine ⟨ho.1,ho.2.1,?_⟩
  rcases ho.2.2 with ⟨h4,e⟩ | ⟨f,h4⟩
  ·exact .inl ⟨⟨h4.lookS,h4.lookD,h4.acts⟩,e⟩
  ·exact .inr ⟨f,h4.lookS,h4.lookD,h4.acts,h4.file⟩
 exact ⟨rfl,F',⟨L,sure,gs,⟨hlg,h1.tab.keep hc h1.nt h1.nb,hnF t hlow.1 h1.nt,hnF b hlow.2.1 h1.nb,h1.tg,h1.bt,h1.bb,h1.fit,h1.each⟩,⟨⟨hn,tail,ho',hw1,hw2⟩,hto,hsu⟩,h3,h4.cutAt op,h5,h6⟩,hF,hc⟩
theorem laylaw_mild (hW : Cn w x d t r) (h : Cf B w F d g t b S lp m) (hR : B3 w x F g t r lp) (hx : ¬ (F x∨x=g∨x=t)) (hv : PsT w v ps) (hpl : ps.length≤140737488355328) (hvo : ∀ k,v.ownBlock=some k→¬ (F k∨k=g∨k=t)∧k≠x) (hB0 : 0<B) (hT : Bk w) (hm : m≤490000000) :
  Calls Tryz.prog 21 #[.pointer (some ⟨x,0,none⟩),v] w fun e w'=>∃ A,e = .returned (.tuple #[.int .i64 A, .bool true])∧Cn w' x d t r ∧
   ∃ F' b' S',(A=Bg lp ps∧Cf B w' F' d g t b' S' (Bw lp ps) (m+2200000)∨A=35∧TCut B w' F' d S' lp (Bw lp ps) (m+2200000))∧(∀ k,F' k→F k∨w.heap.size≤k)∧Chg (fun k=>F k∨k=g∨k=t∨k=x) w w':=by
 obtain ⟨bad,most,last,hW,hmo⟩:=hW
 obtain ⟨L,sure,gs,h1,h2,h3,h4,h5,h6⟩:=h
 have hmuch : De=67108864:=rfl
 have hwh:=slim_wh h2.1 h4
 obtain ⟨p1,p2,p3,p4,p5,p6⟩:=commit_mild (ps:=ps) h2 h1.log.1.ok G1 h1.tab.rise h1.each h1.fit h3 h4 (by omega)
 have hn : (A5 S L sure lp ps).1.n≤(A5 S L sure lp ps).1.bulk:=by unfold Dk.bulk; omega
 refine (laylaw_any hW h1 hR.1 hv hpl (fun k hk=>?_) (fun k hk=>?_) hmo (by omega) hB0 hT (by omega) ⟨hwh.1,by omega⟩).mono ?_
 ·rcases hk with rfl | hk | hk | hk
  ·exact hx
  ·exact (hR.2 k (.inl hk)).2.1
  ·exact (hR.2 k (.inr hk)).2.1
  ·exact (hvo k hk).1
 ·rcases hk with hk | hk | hk
  ·exact (hR.2 k (.inl hk)).2.2
  ·exact (hR.2 k (.inr hk)).2.2
  ·exact (hvo k hk).2
 ·rintro e w' ⟨most',last',rfl,k1,k2,F',b',k3,k4,k5,k6⟩
  refine ⟨(A5 S L sure lp ps).2.2.2.2,by rw [p6],⟨bad,most',last',k1,k2⟩,F',b',(A5 S L sure lp ps).1,?_,k4,k6⟩
  rcases p1 with ⟨q1,q2,gs',q3⟩ | ⟨q1,q2,q3⟩
  ·rw [q2] at k3
   exact .inl ⟨q1,_,_,gs',k3,q3,p3,p2,by omega,p4.trans h6⟩
  ·exact .inr ⟨q1,k3.log.1,q3 k3.log.1.ok,p2,by omega,p4.trans h6⟩
def Es (B : Nat) (w : World) (F : Nat→Prop) (d : Nat) (S : Dk) (lq : List Af) (m : Nat) : Prop:=Bn B w F d S∧(∃ gq tail,On C8 S gq tail∧Cp gq=some lq)∧Bz S∧Slim C8 2200000 S∧S.bulk≤m∧S.room=De
theorem Es.keep {X : Nat→Prop} (h : Es B w F d S l m) (hc : Chg X w w') (hF : ∀ k,F k→¬ X k) : Es B w' F d S l m:=⟨h.1.keep hc hF,h.2⟩
theorem Es.more {m' : Nat} (h : Es B w F d S l m) (hm : m≤m') : Es B w F d S l m':=⟨h.1,h.2.1,h.2.2.1,h.2.2.2.1,Nat.le_trans h.2.2.2.2.1 hm,h.2.2.2.2.2⟩
theorem crash_cut (h : TCut B w F d S lp l m) (hB : B≤w.heap.size) (hm : m≤499000000) (keep tn : Int) :
  Calls Tryz.prog 23 #[.pointer (some ⟨d,0,none⟩), .int .i64 keep, .int .i64 tn] w fun e w'=>∃ d2 F2 S2 lq,e = .returned (.pointer (some ⟨d2,0,none⟩))∧Es B w' F2 d2 S2 lq m∧(lq=lp∨lq=l)∧(∀ k,F2 k→w.heap.size≤k)∧Chg (fun _=>False) w w':=by
 obtain ⟨h1,h2,h3,h4,h5⟩:=h
 have hbc:=O5 (S:=S) keep tn
 obtain ⟨gq,tail,lq,k1,k2,k3⟩:=h2 keep tn
 refine (O9 h1 hB keep tn (by omega)).mono ?_
 rintro e w' ⟨d2,F2,rfl,q1,q2,q3⟩
 exact ⟨d2,F2,_,lq,rfl,⟨q1,⟨gq,tail,k1,k2⟩,O1 keep tn,h3.crash keep tn,by omega,h5⟩,k3,q2,q3⟩
theorem Oa (h : Es B w F d S l m) (hB : B≤w.heap.size) (hB0 : 0<B) (hT : Bk w) (hm : m≤499000000) :
  Calls Tryz.prog 14 #[.pointer (some ⟨d,0,none⟩), .string (Ae C8)] w fun e w'=>∃ t b g F',e = .returned (.tuple #[.pointer (some ⟨t,0,none⟩), .int .i64 0])∧Cf B w' F' d g t b S.begun l (m+1) ∧
   (∀ k,F' k→F k∨w.heap.size≤k)∧w.heap.size≤t∧w.heap.size≤b∧w.heap.size≤g∧Chg F w w':=by
 obtain ⟨h1,⟨gq,tail,k1,k2⟩,h3,h4,h5,h6⟩:=h
 have hnm:=Ha G1
 have hlk:=k1.look hnm.1 (Gb h3) (h3.2 _)
 have hbg:=Fh S
 refine (K2 h1 hB hB0 hT (by omega) C8 G1 (fun y hy g hg=>?_)).mono ?_
 ·rw [hlk] at hy
  injection hy with hy
  subst hy
  exact Nk k1.1 g hg
 ·rintro e w' hO
  unfold Fz at hO
  rw [hlk] at hO
  simp only [k2] at hO
  obtain ⟨t,b,g,F',rfl,q1,q2,q3,q4,q5,q6⟩:=hO
  exact ⟨t,b,g,F',rfl,⟨_,false,gq,q1,⟨k1.begun.has false,k2,fun e=>by cases e⟩,((Dp S).calm h3).mild,h4.begun,by omega,(Dp S).2.2.trans h6⟩,q2,q3,q4,q5,q6⟩
theorem told_dead {l' : List Af} (h : Es B w F d S l m) (hB : B≤w.heap.size) (hB0 : 0<B) (hT : Bk w) (hm : m≤499000000) (hR : B3 w x F g t r l') :
  Calls Tryz.prog 22 #[.pointer (some ⟨d,0,none⟩), .pointer (some ⟨r,0,none⟩)] w fun e w'=>e = .returned (.bool (decide (l=l')))∧∃ F',Es B w' F' d S.begun l (m+1)∧(∀ k,F' k→F k∨w.heap.size≤k)∧Chg F w w':=by
 obtain ⟨h1,⟨gq,tail,k1,k2⟩,h3,h4,h5,h6⟩:=h
 have hnm:=Ha G1
 have hlk:=k1.look hnm.1 (Gb h3) (h3.2 _)
 have hbg:=Fh S
 refine (told_any h1 hlk (Nk k1.1) k2 hB hB0 hT (by omega) hR.1 (fun e=>(hR.2 r (.inl rfl)).2.1 (.inl e)) (fun u hu k hk e=>(hR.2 k (.inr ⟨u,hu,hk⟩)).2.1 (.inl e))).mono ?_
 rintro e w' ⟨rfl,F',q1,q2,q3⟩
 exact ⟨rfl,F',⟨q1,⟨gq,tail,k1.begun,k2⟩,(Dp S).calm h3,h4.begun,by omega,(Dp S).2.2.trans h6⟩,q2,q3⟩
end
theorem begun_mild {B : Nat} {w : World} {F : Nat→Prop} {d g t b : Nat} (h : Bp B w F d g t b C8 (Dk.new De).begun [] 1 De) : Cf B w F d g t b (Dk.new De).begun [] 1:=by
 obtain ⟨L,sure,gs,h1,h2,h3,h4,h5,-⟩:=h
 exact ⟨L,sure,gs,h1,h2,h3.mild,(slim_new _ _ _).begun,h4,h5⟩
end Go.Proofs.YtblniomnhpedjaaGreatDoor
