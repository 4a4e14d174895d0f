/-
  Texts joined: TBytes, TPlays3.
-/
import Derived.Test.YtblniomnhpedjaaGreatDoorP43TNames
import Derived.Test.YtblniomnhpedjaaGreatDoorP45WCrcMath
import Derived.Test.YtblniomnhpedjaaGreatDoorP46TPlays2
import Derived.Test.YtblniomnhpedjaaGreatDoorP47TAlike
namespace Go.Proofs.YtblniomnhpedjaaGreatDoor
open Go.RowKit
theorem used_at (S : Dk) (hk : Ok S) {k : Nat} (h : k<S.dir.length) : S.size (S.dir[k]).1=(Az S.files (S.dir[k]).2 : Int):=by
 have hm : S.dir[k]∈S.dir:=List.getElem_mem h
 have hl : look S.dir (S.dir[k]).1=some (S.dir[k]).2:=mem_look hk.sortD hm
 rw [size_look hl]
 unfold Dk.bytes Az
 cases S.files[(S.dir[k]).2]? <;> rfl
theorem used_take (S : Dk) {k : Nat} (h : k<S.dir.length) : A1 S.files (S.dir.take (k+1))=A1 S.files (S.dir.take k)+Az S.files (S.dir[k]).2:=by
 rw [List.take_succ_eq_append_getElem h]
 unfold A1
 rw [List.map_append,List.sum_append]
 simp
theorem used_taken (S : Dk) (k : Nat) : A1 S.files (S.dir.take k)≤S.used:=by
 have : S.used=A1 S.files (S.dir.take k)+A1 S.files (S.dir.drop k):=by
  unfold Dk.used A1
  rw [← List.sum_append,← List.map_append,List.take_append_drop]
 omega
set_option maxRecDepth 20000 in
theorem Ko {B : Nat} {w : World} {F : Nat→Prop} {d : Nat} {S : Dk} (h : Bi B w F d S) (hb : S.bulk<1099511627776) :
  Calls Tryz.prog 18 #[.pointer (some ⟨d,0,none⟩)] w fun e w'=>e = .returned (.int .i64 (S.used : Int))∧Chg (fun _=>False) w w':=by
 have hnm:=Qw h hb
 have hok:=h.ok
 have hul:=Em hok
 go_enter Tryz.func18,Tryz.ntmps18
 go_wp2_with fail
 refine hnm.mono ?_
 rintro e w1 ⟨vn,rfl,hrow,hst1,q1,hdl⟩
 obtain ⟨na,nc,rfl,-⟩:=Ay hrow
 have hcells:=fun g hg=>World.ownsRow.cells hrow (g:=g) hg
 have hrw:=hrow.2
 clear hnm h hrow
 go_wp2_with fail
 go_loopw [4,5] (fun n t wr=>∃ k : Nat,t = .int .i64 k∧k≤S.dir.length∧n = .int .i64 (A1 S.files (S.dir.take k) : Int)∧wr=w1) (fun _ t _=>S.dir.length - (intOf t).toNat)
 case atStart=>exact ⟨0,rfl,by omega,by rw [List.take_zero]; rfl,rfl⟩
 case round=>
  obtain ⟨k,rfl,hk,rfl,rfl⟩:=hrel
  by_cases hlt : k<S.dir.length
  ·obtain ⟨ba,rfl⟩ : ∃ ba,na=some ⟨ba,0,none⟩:=by
    rcases hrw with ⟨e1,-⟩ | ⟨g,cap,cur,e1,-⟩
    ·injection e1 with e1 e2 e3
     omega
    ·injection e1 with e1 e2 e3
     exact ⟨g,e1⟩
   have hcq : wr.cell? ⟨ba,k,none⟩=some (.string (Ae (S.dir[k]).1)):=by
    have:=hcells ba rfl k (.string (Ae (S.dir[k]).1)) (by unfold tc; simp [hlt])
    simpa [Addr.add_lit] using this
   have hsl:=Kd hst1 (S.dir[k]).1
   rw [used_at S hok hlt] at hsl
   have ht:=used_take S hlt
   have htt:=used_taken S (k+1)
   generalize Az S.files (S.dir[k]).2=ln at *
   generalize (S.dir[k]).1=nm at *
   have hw : IntKind.i64.wrap ((A1 S.files (S.dir.take k) : Int)+(ln : Int))=(A1 S.files (S.dir.take (k+1)) : Int):=by
    rw [IntKind.wrap_i64]; omega
   have HW:=Ab hw
   clear hcells ht htt hw
   go_wp2_with fail
   refine hsl.mono ?_
   rintro e w2 ⟨rfl,rfl⟩
   have hw:=HW.out
   go_wp2_with fail
   go_roundw
   case rel=>exact ⟨k+1,by go_num,by omega,by first | trivial | rfl,by first | trivial | rfl⟩
   case measure=>simp [intOf]; omega
  ·have hkl : k=S.dir.length:=by omega
   subst hkl
   have hu : A1 S.files (S.dir.take S.dir.length)=S.used:=by rw [List.take_length]; rfl
   have HU:=Ab hu
   clear hu
   go_wp2_with fail
   go_ret
   refine ⟨?_,q1⟩
   show Ending.returned (.int .i64 (A1 S.files (S.dir.take S.dir.length) : Int))=_
   rw [HU.out]
end Go.Proofs.YtblniomnhpedjaaGreatDoor
namespace Go.Proofs.YtblniomnhpedjaaGreatDoor
open Go.RowKit
section
variable {B : Nat} {w w' W : World} {F F2 : Nat→Prop} {x d g t b r g2 t2 b2 : Nat} {S S' : Dk} {lp : List Af} {f : Value} {ks : List Int} {tight bad : Bool} {most last e : Int}
theorem PlM.chgX (h : PlM B w x d g t b r F S lp f ks tight) (hc : Chg (· = x) w w') (hW : B8 w' x d t r f tight S) : PlM B w' x d g t b r F S lp f ks tight:=by
 obtain ⟨h1,h2⟩:=h.ref.chg hc (fun k e=>.inr (.inr (.inr e)))
 exact ⟨hW,h.tab.keep hc (fun k hk e=>h.xo (.inl (e ▸ hk))) (fun e=>h.xo (.inr (.inr e.symm))) (fun e=>h.xb e.symm) (fun e=>h.xo (.inr (.inl e.symm))),A3 h.row hc (fun k hk e=>(h.fo k hk).2 e),h.fo,h.ref.step hc (fun k e=>.inr (.inr (.inr e))) (fun k h=>.inl h),fun k hk=>h.rf k (h2 k hk),h.xo,h.low⟩
theorem MayW.world (h : MayW w w' x d t r f tight bad most last e) (h1 : 0≤most∧most≤1048576) (h2 : 0≤last∧last≤100000000) (h3 : bad=false→(S.used : Int)≤10000+2 * most) : B8 w' x d t r f tight S∧Chg (· = x) w w':=by
 obtain ⟨bad',k1,k2,k3⟩:=h
 exact ⟨⟨bad',most,last,k1,h1,h2,fun e=>h3 (k2 e).1⟩,k3⟩
theorem PlM.opened (h : PlM B w x d g t b r F S lp f ks tight) (hT : TabS B w' F2 d g2 t2 b2 S' lp) (hF : ∀ k,F2 k→F k∨w.heap.size≤k) (ht : w.heap.size≤t2) (hg : w.heap.size≤g2) (hc : Chg F w w') (hx : Chg (· = x) w' W) (hW : B8 W x d t2 r f tight S') :
  PlM B W x d g2 t2 b2 r F2 S' lp f ks tight:=by
 have hxl:=h.world.lt
 have hFF : ∀ k,F2 k∨k=g2∨k=t2→(F k∨k=g∨k=t)∨w.heap.size≤k:=fun k h=>by
  rcases h with h | h | h
  ·exact (hF k h).imp .inl id
  ·exact .inr (by omega)
  ·exact .inr (by omega)
 have hxo : ¬ (F2 x∨x=g2∨x=t2):=fun e=>by
  rcases hFF x e with e | e
  ·exact h.xo e
  ·omega
 obtain ⟨bad,most,last,hw,-⟩:=h.world
 have hw' : w'.heap[x]? = some (.cells _ _):=hc.keep (show w.heap[x]? = some _ from hw) (fun e=>h.xo (.inl e))
 have hbx : x≠b2:=hT.ne hw'
 obtain ⟨q1,q2⟩:=h.ref.chg hc (fun k h=>.inl h)
 have hR : C6 w' x F2 g2 t2 r lp:=h.ref.step hc (fun k h=>.inl h) hFF
 obtain ⟨q3,q4⟩:=hR.chg hx (fun k e=>.inr (.inr (.inr e)))
 have hfo : ∀ k,f.ownBlock=some k→¬ (F2 k∨k=g2∨k=t2)∧k≠x:=fun k hk=>⟨fun e=>by
  rcases hFF k e with e | e
  ·exact (h.fo k hk).1 e
  ·have:=(World.ownsRow.lt h.row k hk).2
   omega,(h.fo k hk).2⟩
 exact ⟨hW,hT.keep hx (fun k hk e=>hxo (.inl (e ▸ hk))) (fun e=>hxo (.inr (.inr e.symm))) (fun e=>hbx e.symm) (fun e=>hxo (.inr (.inl e.symm))),A3 (A3 h.row hc (fun k hk e=>(h.fo k hk).1 (.inl e))) hx (fun k hk e=>(hfo k hk).2 e),hfo,hR.step hx (fun k e=>.inr (.inr (.inr e))) (fun k h=>.inl h),fun k hk=>h.rf k (q2 k (q4 k hk)),hxo,h.low⟩
end
section
variable {B : Nat} {w : World} {F : Nat→Prop} {x d g t b r r' : Nat} {S : Dk} {lp : List Af} {f : Value} {ks : List Int} {tight : Bool}
theorem PlL.putR (h : PlL B w x d g t b r F S lp f ks tight) (hR : C6 w x F g t r' lp) (hf : ∀ k,Cm w r' k→f.ownBlock≠some k) : PlM B (w.setCell ⟨x,2,none⟩ (.pointer (some ⟨r',0,none⟩))) x d g t b r' F S lp f ks tight∧Chg (· = x) w (w.setCell ⟨x,2,none⟩ (.pointer (some ⟨r',0,none⟩))):=by
 have k : Chg (· = x) w (w.setCell ⟨x,2,none⟩ (.pointer (some ⟨r',0,none⟩))):=(Chg.refl (· = x) w).setCell (p:=⟨x,2,none⟩) (.inl rfl) _
 obtain ⟨h1,h2⟩:=hR.chg k (fun k e=>.inr (.inr (.inr e)))
 obtain ⟨bad,most,last,hw,-⟩:=h.world
 have hw : w.heap[x]? = some (.cells _ _):=hw
 have hbx:=h.tab.ne hw
 exact ⟨⟨h.world.setR r',h.tab.keep k (fun k hk e=>h.xo (.inl (e ▸ hk))) (fun e=>h.xo (.inr (.inr e.symm))) (fun e=>hbx e.symm) (fun e=>h.xo (.inr (.inl e.symm))),A3 h.row k (fun k hk e=>(h.fo k hk).2 e),h.fo,hR.step k (fun k e=>.inr (.inr (.inr e))) (fun k h=>.inl h),fun k hk=>hf k (h2 k hk),h.xo,h.low⟩,k⟩
end
def OpB (w : World) (x : Nat) (F : Nat→Prop) (g t : Nat) (f : Value) (q : Nat) (kind : Int) (pv : Value) (tm nn tt : Int) : Prop:=w.heap[q]? = some (.cells #[.int .i64 kind,pv, .int .i64 tm, .int .i64 nn, .int .i64 tt] 29)∧¬ (F q∨q=g∨q=t)∧q≠x∧f.ownBlock≠some q
section
variable {w w' : World} {F F' : Nat→Prop} {x g t q : Nat} {f f' pv : Value} {kind tm nn tt : Int}
theorem OpB.quiet (h : OpB w x F g t f q kind pv tm nn tt) (hb : Below w.heap.size w w') : OpB w' x F g t f q kind pv tm nn tt:=⟨(C5 hb).keep h.1 (fun h=>h),h.2⟩
theorem OpB.step {X : Nat→Prop} (h : OpB w x F g t f q kind pv tm nn tt) (hc : Chg X w w') (hX : ∀ k,X k→F k∨k=g∨k=t∨k=x) (hF : ∀ k,F' k→F k∨w.heap.size≤k) : OpB w' x F' g t f q kind pv tm nn tt:=by
 refine ⟨hc.keep h.1 (fun e=>?_),fun e=>?_,h.2.2⟩
 ·rcases hX q e with e | e | e | e
  ·exact h.2.1 (.inl e)
  ·exact h.2.1 (.inr (.inl e))
  ·exact h.2.1 (.inr (.inr e))
  ·exact h.2.2.1 e
 ·rcases e with e | e
  ·rcases hF q e with e | e
   ·exact h.2.1 (.inl e)
   ·have:=At h.1
    omega
  ·exact h.2.1 (.inr e)
end
def FineN (os : List OpT) : Prop:=∀ o∈os,(-9223372036854775808≤o.2.2.2.1∧o.2.2.2.1≤9223372036854775807)∧(-9223372036854775808≤o.2.2.2.2∧o.2.2.2.2≤9223372036854775807)
theorem Tryz.infoI : (Tryz.prog.info? 3).map (fun i=>(i.zero,i.size,i.bytes))=some (some (.int .i64 0),1,8):=by kernel_rfl
theorem wrap_hi (x : Int) : IntKind.i64.wrap x≤9223372036854775807:=by
 rw [IntKind.wrap_i64]
 omega
theorem row_form {w : World} {base n : Nat} {ty : TypeId} {u : Value} {xs : List Value} (h : w.ownsRow base ty 1 u n xs) : ∃ ao c m,u = .slice ao m c:=by
 rcases h.2 with ⟨rfl,-⟩ | ⟨g,cap,cur,rfl,-⟩
 ·exact ⟨_,_,_,rfl⟩
 ·exact ⟨_,_,_,rfl⟩
end Go.Proofs.YtblniomnhpedjaaGreatDoor
