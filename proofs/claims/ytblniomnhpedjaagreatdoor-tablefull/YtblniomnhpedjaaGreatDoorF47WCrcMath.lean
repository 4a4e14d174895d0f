/-
  Texts joined: WCrcMath, TellsPure, TellsPure2, Turn, TurnOk, TTells1, TFull1, TFull2.
-/
import Derived.Test.YtblniomnhpedjaaGreatDoorF18WCrc
import Derived.Test.YtblniomnhpedjaaGreatDoorF29Firm
import Derived.Test.YtblniomnhpedjaaGreatDoorF15Asks
import Derived.Test.YtblniomnhpedjaaGreatDoorF46TLaw
import Derived.Test.YtblniomnhpedjaaGreatDoorF37TPutsL
import Derived.Test.YtblniomnhpedjaaGreatDoorF45TParts1
namespace Go.Proofs.YtblniomnhpedjaaGreatDoor.Pl
def bs (x : Nat) : Nat:=if x % 2=1 then x / 2 ^^^ 3988292384 else x / 2
end Go.Proofs.YtblniomnhpedjaaGreatDoor.Pl
namespace Go.Proofs.YtblniomnhpedjaaGreatDoor
def Turned (l l' : List UInt8) : Prop:=∃ p c c' r,l=p++c :: r∧l'=p++c' :: r∧c≠c'
theorem Turned.length {l l' : List UInt8} (h : Turned l l') : l'.length=l.length:=by
 obtain ⟨p,c,c',r,rfl,rfl,-⟩:=h
 simp
theorem Turned.ne {l l' : List UInt8} (h : Turned l l') : l'≠l:=by
 obtain ⟨p,c,c',r,rfl,rfl,hc⟩:=h
 intro e
 have:=List.append_cancel_left e
 injection this with this _
 exact hc this.symm
section
variable {cs : List UInt8→List UInt8} (hcs : ∀ b,(cs b).length=4) (hone : ∀ l l',Turned l l'→cs l≠cs l')
include hcs hone
omit hcs in
omit hone in
omit hone in
end
end Go.Proofs.YtblniomnhpedjaaGreatDoor
namespace Go.Proofs.YtblniomnhpedjaaGreatDoor
variable {z n : Nm} {S : Dk} {all : List UInt8}
end Go.Proofs.YtblniomnhpedjaaGreatDoor
namespace Go.Proofs.YtblniomnhpedjaaGreatDoor
open Go.RowKit
section
variable {w w' : World} {F : Nat→Prop} {d : Nat} {S : Dk} {G : Gh}
end
end Go.Proofs.YtblniomnhpedjaaGreatDoor
namespace Go.Proofs.YtblniomnhpedjaaGreatDoor
open Go.RowKit
theorem Ok.modify {S : Dk} (h : Ok S) (f : Nat) (g : Fl→Fl) (hg : ∀ x,(g x).sure=x.sure∧(g x).b.length=x.b.length) : Ok { S with files:=S.files.modify f g } where
 sortS:=h.sortS
 valid:=h.valid
 dir:=h.dir
 one:=h.one
 idS i hi:=by
  show i<(S.files.modify f g).length
  rw [List.length_modify]
  exact h.idS i hi
 idA i hi:=by
  show i<(S.files.modify f g).length
  rw [List.length_modify]
  exact h.idA i hi
 idM i hi:=by
  show i<(S.files.modify f g).length
  rw [List.length_modify]
  exact h.idM i hi
 lens i y hy:=by
  rcases Fu hy with ⟨_,hy'⟩ | ⟨rfl,x,hx,rfl⟩
  ·exact h.lens i y hy'
  ·rw [(hg x).1,(hg x).2]
   exact h.lens i x hx
section
variable {w w' : World} {F : Nat→Prop} {d : Nat} {S : Dk} {G : Gh}
end
end Go.Proofs.YtblniomnhpedjaaGreatDoor
namespace Go.Proofs.YtblniomnhpedjaaGreatDoor
open Go.RowKit
def RowOf (w : World) (r k : Nat) : Prop:=k=r ∨ ∃ u,w.cell? ⟨r,0,none⟩=some u∧u.ownBlock=some k
structure TWorld (B : Nat) (w : World) (x d g t b r : Nat) (F : Nat→Prop) (S : Dk) (lp : List Af) (m : Nat) : Prop where
 world : ∃ bad most last,WorldT w x d t r (.slice none 0 0) false bad most last∧0≤most∧most≤4611686018427387904
 calm : Bi B w F d g t b nmTab S lp m Dm
 ref : RTab w r lp
 apart : ∀ k,k=x∨RowOf w r k→k<w.heap.size∧¬ (F k∨k=g∨k=t)
 other : ∀ k,RowOf w r k→k≠x
 low : B≤x
section
variable {B : Nat} {w w' : World} {F : Nat→Prop} {x d g t b r : Nat} {S : Dk} {lp : List Af} {ps : List Al} {v : Value} {m : Nat}
theorem RowOf.back {k : Nat} (h : RowOf w' r k) (hb : Below w.heap.size w w') (hr : r<w.heap.size) : RowOf w r k:=by
 rcases h with h | ⟨u,h1,h2⟩
 ·exact .inl h
 ·exact .inr ⟨u,by rw [← h1]; exact (hb.cell (p:=⟨r,0,none⟩) hr).symm,h2⟩
theorem TWorld.quiet (h : TWorld B w x d g t b r F S lp m) (hb : Below w.heap.size w w') : TWorld B w' x d g t b r F S lp m:=by
 obtain ⟨bad,most,last,h1,h2⟩:=h.world
 have hr:=h.ref.lt
 refine ⟨⟨bad,most,last,(Ds hb).keep (show w.heap[x]? = some _ from h1) (fun h=>h),h2⟩,h.calm.quiet (Ds hb),h.ref.keepB hb,fun k hk=>?_,fun k hk=>h.other k (hk.back hb hr),h.low⟩
 have:=h.apart k (hk.imp id (fun q=>q.back hb hr))
 exact ⟨Nat.lt_of_lt_of_le this.1 hb.size,this.2⟩
end
end Go.Proofs.YtblniomnhpedjaaGreatDoor
namespace Go.Proofs.YtblniomnhpedjaaGreatDoor
open Go.RowKit
theorem grown_chg {w w' : World} {o : Obj} {row : Option Nat} (h : (w.alloc o).grownBy w' row) : Chg (fun k=>row=some k) w w':=by
 have ha : Chg (fun k=>row=some k) w (w.alloc o):=(Chg.refl _ w).alloc o
 have hz : (w.alloc o).heap.size=w.heap.size+1:=by simp
 have hs:=h.size
 exact ⟨h.os.trans ha.os,h.tape.trans ha.tape,h.output.trans ha.output,by omega,fun k hk hn=>(h.block k (by omega) (fun e=>hn e.symm)).trans (ha.block k hk hn)⟩
theorem more_putC (B : Nat) (wr : World) (u : Value) (xs : List Al) (x : Al) (ho : OwnP B wr u xs) (hB : B≤wr.heap.size) (hn : xs.length≤4294967296) :
  ∃ u' w',(Builtin.append_ #[27,27] 27 #[u, .slice (some ⟨wr.heap.size,0,none⟩) 1 1]).run Tryz.prog (wr.alloc (Bo x)) = .ok u' w'∧OwnP B w' u' (xs ++ [x])∧Chg (fun k=>u.ownBlock=some k) wr w'∧(∀ k,u'.ownBlock=some k→u.ownBlock=some k∨wr.heap.size≤k):=by
 obtain ⟨i0,hi,hz0,hz1,hz2⟩:=info_parts Tryz.zPut
 have hx:=Ap wr (Bo x)
 obtain ⟨u',w',h1,h2,h3,-,h4⟩:=run_append_own_at (P:=Tryz.prog) (wr.alloc (Bo x)) B 27 27 73 i0 (.agg #[.string ⟨#[]⟩, .string ⟨#[]⟩, .bool false]) 3 40 Tryz.underlying27 hi hz0 hz1 hz2 rfl (by decide) u xs.length (xs.flatMap Cu) (World.ownsRow.alloc ho _) ⟨wr.heap.size,0,none⟩ 1 1 (Cu x) rfl (fun j v hv=>by
   rw [Addr.add_lit,Nat.zero_add,Ae hx,List.getElem?_toArray]; exact hv) (by simp [Cu,Value.oneCell']) (by unfold maxLen; omega) (by omega) (by simp; omega)
 refine ⟨u',w',h1,?_,grown_chg h3,fun k hk=>?_⟩
 ·rw [OwnP,List.length_append,List.flatMap_append]
  simpa using h2
 ·rcases h4 with e | e
  ·exact .inl (by rw [← e]; exact hk)
  ·rw [e] at hk
   injection hk with hk
   rw [World.size_alloc] at hk
   exact .inr (by omega)
theorem more_pairC (B : Nat) (wr : World) (u : Value) (xs : List Af) (x : Af) (ho : Cr B wr u xs) (hB : B≤wr.heap.size) (hn : xs.length≤4294967296) :
  ∃ u' w',(Builtin.append_ #[65,65] 65 #[u, .slice (some ⟨wr.heap.size,0,none⟩) 1 1]).run Tryz.prog (wr.alloc (.cells #[.string (Ad x.1), .string (Ad x.2)] 75)) = .ok u' w'∧Cr B w' u' (xs ++ [x])∧Chg (fun k=>u.ownBlock=some k) wr w'∧(∀ k,u'.ownBlock=some k→u.ownBlock=some k∨wr.heap.size≤k):=by
 obtain ⟨i0,hi,hz0,hz1,hz2⟩:=info_parts Tryz.zPair
 have hx:=Ap wr (.cells #[.string (Ad x.1), .string (Ad x.2)] 75)
 obtain ⟨u',w',h1,h2,h3,-,h4⟩:=run_append_own_at (P:=Tryz.prog) (wr.alloc (.cells #[.string (Ad x.1), .string (Ad x.2)] 75)) B 65 65 75 i0 (.agg #[.string ⟨#[]⟩, .string ⟨#[]⟩]) 2 32 Tryz.underlying65 hi hz0 hz1 hz2 rfl (by decide) u xs.length (xs.flatMap prC) (World.ownsRow.alloc ho _) ⟨wr.heap.size,0,none⟩ 1 1 (prC x) rfl (fun j v hv=>by
   rw [Addr.add_lit,Nat.zero_add,Ae hx,List.getElem?_toArray]; exact hv) (by simp [prC,Value.oneCell']) (by unfold maxLen; omega) (by omega) (by simp; omega)
 refine ⟨u',w',h1,?_,grown_chg h3,fun k hk=>?_⟩
 ·rw [Cr,List.length_append,List.flatMap_append]
  simpa using h2
 ·rcases h4 with e | e
  ·exact .inl (by rw [← e]; exact hk)
  ·rw [e] at hk
   injection hk with hk
   rw [World.size_alloc] at hk
   exact .inr (by omega)
theorem ownR_cut {B : Nat} {w : World} {ao : Option Addr} {n cap z : Nat} {l : List Af} (h : Cr B w (.slice ao n cap) l) (hz : z≤l.length) : Cr B w (.slice ao z cap) (l.take z):=by
 have hl : (l.take z).length=z:=by rw [List.length_take]; omega
 have hf : ∀ (l : List Af),(l.flatMap prC).length=l.length * 2:=fun l=>by
  induction l with
  | nil=>rfl
  | cons a r ih=>rw [List.flatMap_cons,List.length_append,ih,List.length_cons]; simp [prC]; omega
 have hft : (l.take z).flatMap prC=(l.flatMap prC).take (z * 2):=by
  clear h hl
  induction l generalizing z with
  | nil=>simp
  | cons a r ih=>
   cases z with
   | zero=>simp
   | succ z=>
    rw [List.take_succ_cons,List.flatMap_cons,List.flatMap_cons,ih (by simpa using hz),List.take_append,List.take_of_length_le (l:=prC a) (show 2≤(z+1) * 2 by omega),show (prC a).length=2 from rfl,show (z+1) * 2 - 2=z * 2 by omega]
 obtain ⟨h0,h1⟩:=h
 refine ⟨by rw [hf,hl],?_⟩
 rcases h1 with ⟨e,e0⟩ | ⟨g,cap',cur,e,hg,hh,h2,h3,h4,h5⟩
 ·injection e with e1 e2 e3
  refine .inl ⟨?_,by rw [hl]; omega⟩
  rw [e1,e3,show z=0 by omega]
 ·injection e with e1 e2 e3
  refine .inr ⟨g,cap',cur,by rw [e1,e3,hl],hg,hh,by rw [hl]; omega,h3,h4,?_⟩
  rw [hl,hft,← h5,List.take_take,Nat.min_eq_left (by omega)]
structure FullSt (B : Nat) (w : World) (x d g t b r : Nat) (F : Nat→Prop) (lp Rl : List Af) (lv rv : Value) (nm vl : Bs) (j nl nr m : Nat) : Prop where
 world : ∃ r0 bad most last,WorldT w x d t r0 (.slice none 0 0) false bad most last
 calm : ∃ S,Bi B w F d g t b nmTab S lp m Dm
 ref : w.heap[r]? = some (.cells #[rv] 70)
 lrow : OwnP B w lv (Bf nm vl j nl)
 rrow : Cr B w rv (Rl++B2 nm vl j nr)
 same : lp.length=Rl.length∧Ag lp=Ag Rl
 keys : ∀ y∈lp,∃ s,s<j∧y.1=Cb nm s
 apart : ∀ k,(k=x∨k=r∨lv.ownBlock=some k∨rv.ownBlock=some k)→k<w.heap.size∧¬ (F k∨k=g∨k=t)∧k≠b
 sep : r≠x∧(∀ k,lv.ownBlock=some k→k≠r∧k≠x∧rv.ownBlock≠some k)∧∀ k,rv.ownBlock=some k→k≠r∧k≠x
 low : B≤r∧B≤w.heap.size
section
variable {B : Nat} {w w' : World} {F : Nat→Prop} {x d g t b r : Nat} {lp Rl : List Af} {lv rv : Value} {nm vl : Bs} {j nl nr m : Nat}
theorem FullSt.keepX {X : Nat→Prop} (h : FullSt B w x d g t b r F lp Rl lv rv nm vl j nl nr m) (hc : Chg X w w') (hF : ∀ k,F k→¬ X k) (hg : ¬ X g) (ht : ¬ X t) (hb : ¬ X b) (hx : ¬ X x) (hr : ¬ X r) (hl : ∀ k,lv.ownBlock=some k→¬ X k) (hv : ∀ k,rv.ownBlock=some k→¬ X k) :
  FullSt B w' x d g t b r F lp Rl lv rv nm vl j nl nr m:=by
 obtain ⟨r0,bad,most,last,h1⟩:=h.world
 obtain ⟨S,h2⟩:=h.calm
 exact ⟨⟨r0,bad,most,last,hc.keep (show w.heap[x]? = some _ from h1) hx⟩,⟨S,h2.keep hc hF ht hb hg⟩,hc.keep h.ref hr,A3 h.lrow hc hl,A3 h.rrow hc hv,h.same,h.keys,fun k hk=>⟨Nat.lt_of_lt_of_le (h.apart k hk).1 hc.size,(h.apart k hk).2⟩,h.sep,h.low.1,Nat.le_trans h.low.2 hc.size⟩
theorem FullSt.quiet (h : FullSt B w x d g t b r F lp Rl lv rv nm vl j nl nr m) (hc : Chg (fun _=>False) w w') : FullSt B w' x d g t b r F lp Rl lv rv nm vl j nl nr m:=
 h.keepX hc (fun _ _ h=>h) (fun h=>h) (fun h=>h) (fun h=>h) (fun h=>h) (fun h=>h) (fun _ _ h=>h) (fun _ _ h=>h)
theorem FullSt.putl (h : FullSt B w x d g t b r F lp Rl lv rv nm vl j nl nr m) (hn : nl≤4294967296) :
  ∃ lv' w',(Builtin.append_ #[27,27] 27 #[lv, .slice (some ⟨w.heap.size,0,none⟩) 1 1]).run Tryz.prog (w.alloc (Bo (Cb nm (j+nl),(vl,false)))) = .ok lv' w' ∧
   FullSt B w' x d g t b r F lp Rl lv' rv nm vl j (nl+1) nr m∧Chg (fun k=>lv.ownBlock=some k) w w':=by
 obtain ⟨lv',w',h1,h2,h3,h4⟩:=more_putC B w lv _ (Cb nm (j+nl),(vl,false)) h.lrow h.low.2 (by rw [Kr]; omega)
 rw [← J9] at h2
 have ha:=fun k (hk : lv.ownBlock=some k)=>h.apart k (.inr (.inr (.inl hk)))
 have hs:=fun k (hk : lv.ownBlock=some k)=>h.sep.2.1 k hk
 have h0 : FullSt B w' x d g t b r F lp Rl (.slice none 0 0) rv nm vl j 0 nr m:=by
  have h00 : FullSt B w x d g t b r F lp Rl (.slice none 0 0) rv nm vl j 0 nr m:=⟨h.world,h.calm,h.ref,World.ownsRow_nil _ _ _ _,h.rrow,h.same,h.keys,fun k hk=>h.apart k (by
   rcases hk with hk | hk | hk | hk
   ·exact .inl hk
   ·exact .inr (.inl hk)
   ·cases hk
   ·exact .inr (.inr (.inr hk))),⟨h.sep.1,(fun k hk=>by cases hk),h.sep.2.2⟩,h.low⟩
  exact h00.keepX h3 (fun k hk e=>(ha k e).2.1 (.inl hk)) (fun e=>(ha g e).2.1 (.inr (.inl rfl))) (fun e=>(ha t e).2.1 (.inr (.inr rfl))) (fun e=>(ha b e).2.2 rfl) (fun e=>(hs x e).2.1 rfl) (fun e=>(hs r e).1 rfl) (fun k hk=>by cases hk) (fun k hk e=>(hs k e).2.2 hk)
 have hlt:=fun k (hk : lv'.ownBlock=some k)=>(h2.lt k hk).2
 obtain ⟨S,hC⟩:=h.calm
 have hlow:=hC.low
 have hxl:=(h.apart x (.inl rfl)).1
 have hrl:=(h.apart r (.inr (.inl rfl))).1
 refine ⟨lv',w',h1,⟨h0.world,h0.calm,h0.ref,h2,h0.rrow,h0.same,h0.keys,fun k hk=>?_,⟨h0.sep.1,fun k hk=>?_,h0.sep.2.2⟩,h0.low⟩,h3⟩
 ·rcases hk with hk | hk | hk | hk
  ·exact h0.apart k (.inl hk)
  ·exact h0.apart k (.inr (.inl hk))
  ·refine ⟨hlt k hk,?_⟩
   rcases h4 k hk with e | e
   ·exact (ha k e).2
   ·refine ⟨fun q=>?_,by omega⟩
    rcases q with q | q | q
    ·have:=(hlow.1 k q).2; omega
    ·omega
    ·omega
  ·exact h0.apart k (.inr (.inr (.inr hk)))
 ·rcases h4 k hk with e | e
  ·exact hs k e
  ·refine ⟨by omega,by omega,fun q=>?_⟩
   have:=(h.apart k (.inr (.inr (.inr q)))).1
   omega
end
end Go.Proofs.YtblniomnhpedjaaGreatDoor
namespace Go.Proofs.YtblniomnhpedjaaGreatDoor
open Go.RowKit
section
variable {B : Nat} {w w' : World} {F F' : Nat→Prop} {x d g t b b' r : Nat} {S' : Dk} {lp lp' Rl : List Af} {lv rv : Value} {nm vl : Bs} {j n nl nr m m' : Nat}
theorem FullSt.putr (h : FullSt B w x d g t b r F lp Rl lv rv nm vl j nl nr m) (hn : Rl.length+nr≤4294967296) :
  ∃ rv' w',(Builtin.append_ #[65,65] 65 #[rv, .slice (some ⟨w.heap.size,0,none⟩) 1 1]).run Tryz.prog (w.alloc (.cells #[.string (Ad (Cb nm (j+nr))), .string (Ad vl)] 75)) = .ok rv' w' ∧
   w'.cell? ⟨r,0,none⟩=some rv∧w'.frozen? ⟨r,0,none⟩=false∧FullSt B (w'.setCell ⟨r,0,none⟩ rv') x d g t b r F lp Rl lv rv' nm vl j nl (nr+1) m∧Chg (fun k=>rv.ownBlock=some k∨k=r) w (w'.setCell ⟨r,0,none⟩ rv'):=by
 obtain ⟨rv',w',h1,h2,h3,h4⟩:=more_pairC B w rv _ (Cb nm (j+nr),vl) h.rrow h.low.2 (by rw [List.length_append,Im]; omega)
 rw [List.append_assoc,← My] at h2
 have ha:=fun k (hk : rv.ownBlock=some k)=>h.apart k (.inr (.inr (.inr hk)))
 have hs:=fun k (hk : rv.ownBlock=some k)=>h.sep.2.2 k hk
 have hrw:=h3.keep h.ref (fun e=>(hs r e).1 rfl)
 have k4 : Chg (· = r) w' (w'.setCell ⟨r,0,none⟩ rv'):=(Chg.refl (· = r) w').setCell (p:=⟨r,0,none⟩) (.inl rfl) _
 have hc : Chg (fun k=>rv.ownBlock=some k∨k=r) w (w'.setCell ⟨r,0,none⟩ rv'):=(h3.mono (fun _ _ h=>.inl h)).then (k4.mono (fun _ _ h=>.inr h))
 obtain ⟨S,hC⟩:=h.calm
 have hlow:=hC.low
 have hxl:=(h.apart x (.inl rfl)).1
 have hrl:=(h.apart r (.inr (.inl rfl))).1
 have hra:=(h.apart r (.inr (.inl rfl))).2
 obtain ⟨r0,bad,most,last,hw⟩:=h.world
 have hcs:=hc.size
 have h2' : Cr B (w'.setCell ⟨r,0,none⟩ rv') rv' (Rl++B2 nm vl j (nr+1)):=A3 h2 k4 (fun k hk e=>by
  rcases h4 k hk with q | q
  ·exact (hs k q).1 e
  ·omega)
 have hlt:=fun k (hk : rv'.ownBlock=some k)=>(h2'.lt k hk).2
 have hX : ∀ k,(rv.ownBlock=some k∨k=r)→¬ F k∧k≠g∧k≠t∧k≠b∧k≠x:=fun k hk=>by
  rcases hk with hk | rfl
  ·exact ⟨fun e=>(ha k hk).2.1 (.inl e),fun e=>(ha k hk).2.1 (.inr (.inl e)),fun e=>(ha k hk).2.1 (.inr (.inr e)),(ha k hk).2.2,(hs k hk).2⟩
  ·exact ⟨fun e=>hra.1 (.inl e),fun e=>hra.1 (.inr (.inl e)),fun e=>hra.1 (.inr (.inr e)),hra.2,h.sep.1⟩
 refine ⟨rv',w',h1,by rw [Ae hrw]; rfl,Au hrw 0,⟨⟨r0,bad,most,last,hc.keep (show w.heap[x]? = some _ from hw) (fun e=>(hX x e).2.2.2.2 rfl)⟩,⟨S,hC.keep hc (fun k hk e=>(hX k e).1 hk) (fun e=>(hX t e).2.2.1 rfl) (fun e=>(hX b e).2.2.2.1 rfl) (fun e=>(hX g e).2.1 rfl)⟩,A1 hrw 0 rv',
  A3 h.lrow hc (fun k hk e=>?_),h2',h.same,h.keys,fun k hk=>?_,⟨h.sep.1,fun k hk=>?_,fun k hk=>?_⟩,h.low.1,by omega⟩,hc⟩
 ·rcases e with e | e
  ·exact (h.sep.2.1 k hk).2.2 e
  ·exact (h.sep.2.1 k hk).1 e
 ·rcases hk with hk | hk | hk | hk
  ·exact ⟨by have:=h.apart k (.inl hk); omega,(h.apart k (.inl hk)).2⟩
  ·exact ⟨by have:=h.apart k (.inr (.inl hk)); omega,(h.apart k (.inr (.inl hk))).2⟩
  ·exact ⟨by have:=h.apart k (.inr (.inr (.inl hk))); omega,(h.apart k (.inr (.inr (.inl hk)))).2⟩
  ·refine ⟨hlt k hk,?_⟩
   rcases h4 k hk with e | e
   ·exact (ha k e).2
   ·refine ⟨fun q=>?_,by omega⟩
    rcases q with q | q | q
    ·have:=(hlow.1 k q).2; omega
    ·omega
    ·omega
 ·refine ⟨(h.sep.2.1 k hk).1,(h.sep.2.1 k hk).2.1,fun q=>?_⟩
  rcases h4 k q with e | e
  ·exact (h.sep.2.1 k hk).2.2 e
  ·have:=(h.apart k (.inr (.inr (.inl hk)))).1
   omega
 ·rcases h4 k hk with e | e
  ·exact hs k e
  ·exact ⟨by omega,by omega⟩
theorem FullSt.after (h : FullSt B w x d g t b r F lp Rl lv rv nm vl j nl nr m) (hC : Bi B w' F' d g t b' nmTab S' lp' m' Dm) (hF : ∀ k,F' k→F k∨w.heap.size≤k) (hb : b'=b∨w.heap.size≤b') (hc : Chg (fun k=>F k∨k=g∨k=t) w w')
  {Rl' : List Af} {j' nr' : Nat} (hrow : Rl++B2 nm vl j nr=Rl'++B2 nm vl j' nr') (hsm : lp'.length=Rl'.length∧Ag lp'=Ag Rl') (hk : ∀ y∈lp',∃ s,s<j'∧y.1=Cb nm s) :
  FullSt B w' x d g t b' r F' lp' Rl' (.slice none 0 0) rv nm vl j' 0 nr' m':=by
 obtain ⟨r0,bad,most,last,hw⟩:=h.world
 have hcs:=hc.size
 have hr:=h.rrow
 rw [hrow] at hr
 refine ⟨⟨r0,bad,most,last,hc.keep (show w.heap[x]? = some _ from hw) (h.apart x (.inl rfl)).2.1⟩,⟨S',hC⟩,hc.keep h.ref (h.apart r (.inr (.inl rfl))).2.1,World.ownsRow_nil _ _ _ _,A3 hr hc (fun k hk=>(h.apart k (.inr (.inr (.inr hk)))).2.1),hsm,hk,fun k hk=>?_,⟨h.sep.1,(fun k hk=>by cases hk),h.sep.2.2⟩,h.low.1,by have:=h.low.2; omega⟩
 have ha:=h.apart k (by
  rcases hk with hk | hk | hk | hk
  ·exact .inl hk
  ·exact .inr (.inl hk)
  ·cases hk
  ·exact .inr (.inr (.inr hk)))
 refine ⟨by omega,fun e=>?_,?_⟩
 ·rcases e with e | e
  ·rcases hF k e with e | e
   ·exact ha.2.1 (.inl e)
   ·omega
  ·exact ha.2.1 (.inr e)
 ·rcases hb with e | e
  ·rw [e]; exact ha.2.2
  ·omega
theorem FullSt.cut {ao : Option Addr} {N cap : Nat} (h : FullSt B w x d g t b r F lp Rl lv (.slice ao N cap) nm vl j nl nr m) :
  FullSt B (w.setCell ⟨r,0,none⟩ (.slice ao Rl.length cap)) x d g t b r F lp Rl lv (.slice ao Rl.length cap) nm vl j nl 0 m:=by
 have k4 : Chg (· = r) w (w.setCell ⟨r,0,none⟩ (.slice ao Rl.length cap)):=(Chg.refl (· = r) w).setCell (p:=⟨r,0,none⟩) (.inl rfl) _
 have hra:=(h.apart r (.inr (.inl rfl))).2
 obtain ⟨r0,bad,most,last,hw⟩:=h.world
 obtain ⟨S,hC⟩:=h.calm
 have hob : ∀ k,(Value.slice ao Rl.length cap).ownBlock=some k→(Value.slice ao N cap).ownBlock=some k:=fun k hk=>by
  cases ao with
  | none=>cases hk
  | some a=>exact hk
 have hcut:=ownR_cut h.rrow (z:=Rl.length) (by rw [List.length_append]; omega)
 rw [List.take_left] at hcut
 refine ⟨⟨r0,bad,most,last,k4.keep (show w.heap[x]? = some _ from hw) (fun e=>h.sep.1 e.symm)⟩,⟨S,hC.keep k4 (fun k hk e=>hra.1 (.inl (e ▸ hk))) (fun e=>hra.1 (.inr (.inr e.symm))) (fun e=>hra.2 e.symm) (fun e=>hra.1 (.inr (.inl e.symm)))⟩,A1 h.ref 0 _,A3 h.lrow k4 (fun k hk e=>(h.sep.2.1 k hk).1 e),?_,h.same,h.keys,fun k hk=>?_,⟨h.sep.1,fun k hk=>?_,fun k hk=>h.sep.2.2 k (hob k hk)⟩,h.low.1,by have:=k4.size; have:=h.low.2; omega⟩
 ·have e : Rl++B2 nm vl j 0=Rl:=by simp [B2]
  rw [e]
  exact A3 hcut k4 (fun k hk e=>(h.sep.2.2 k (hob k hk)).1 e)
 ·have:=h.apart k (by
   rcases hk with hk | hk | hk | hk
   ·exact .inl hk
   ·exact .inr (.inl hk)
   ·exact .inr (.inr (.inl hk))
   ·exact .inr (.inr (.inr (hob k hk))))
  exact ⟨by have:=k4.size; omega,this.2⟩
 ·exact ⟨(h.sep.2.1 k hk).1,(h.sep.2.1 k hk).2.1,fun q=>(h.sep.2.1 k hk).2.2 (hob k q)⟩
end
end Go.Proofs.YtblniomnhpedjaaGreatDoor
