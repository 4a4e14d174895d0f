/-
  Texts joined: SyncDir, MCopy, NewDisk, ODisk, CrashPure, Crash, CrashEnd.
-/
import Derived.Test.YtblniomnhpedjaaGreatDoorP10UndoDir
namespace Go.Proofs.YtblniomnhpedjaaGreatDoor
open Go.RowKit
section
variable {w w' : World} {F : Nat→Prop} {d : Nat} {S : Dk} {G : Gh}
set_option maxRecDepth 20000 in
set_option maxHeartbeats 400000 in
theorem syncDir_rep (h : Rep w F d S G) (hb : S.bulk+1<1099511627776) : Calls Tryz.prog 149 #[.pointer (some ⟨d,0,none⟩)] w fun e w'=>e = .returned (.int .i64 S.syncDir.2)∧∃ G',Rep w' (Fx F w w') d S.syncDir.1 G'∧Chg F w w':=by
 have hnl:=n_le S
 have hbb:=Ic S
 unfold Dk.syncDir
 by_cases hon : S.on=false
 ·simp only [if_pos hon]
  have hbeg:=Jz h hon
  go_enter Tryz.func149,Tryz.ntmps149
  go_wp2_with (go_at_call 140; refine hbeg.mono ?_; rintro e w1 ⟨rfl,hr1,hc1⟩)
  go_ret
  exact ⟨rfl,G,hr1.mono fun k hk=>Or.inl hk,hc1.mono fun _ _ f=>f.elim⟩
 simp only [if_neg hon]
 have hon' : S.on=true:=by simpa using hon
 have hbeg:=Dn h hon' (by omega)
 by_cases hf : S.fails S.n=true
 ·simp only [if_pos hf]
  rw [hf] at hbeg
  have hun : ∀ {w1 : World} {G' : Gh},Rep w1 (Fx F w w1) d S.next G'→G'.now≠none→_:=fun {w1 G'} hr hne=>undoDir_rep hr (Option.ne_none_iff_exists'.1 hne).choose_spec (by omega)
  go_enter Tryz.func149,Tryz.ntmps149
  go_wp2_with (first
   | (go_at_call 140; refine hbeg.mono ?_; rintro e w1 ⟨rfl,now,sure,hne,hr1,hc1⟩)
   | (go_at_call 162; refine (hun hr1 hne).mono ?_; rintro e w2 ⟨rfl,⟨G2,hr2⟩,hc2⟩))
  go_ret
  exact ⟨rfl,G2,hr2.mono (Fx.trans hc1.size hc2.size),hc1.fx hc2⟩
 ·simp only [if_neg hf]
  rw [show S.fails S.n=false by simpa using hf] at hbeg
  have hun : ∀ {w1 : World} {G' : Gh},Rep w1 (Fx F w w1) d S.next G'→_:=fun {w1 G'} hr=>keepDir_rep hr (by omega)
  go_enter Tryz.func149,Tryz.ntmps149
  go_wp2_with (first
   | (go_at_call 140; refine hbeg.mono ?_; rintro e w1 ⟨rfl,now,sure,hne,hr1,hc1⟩)
   | (go_at_call 163; refine (hun hr1).mono ?_; rintro e w2 ⟨rfl,⟨G2,hr2⟩,hc2⟩))
  go_ret
  exact ⟨rfl,G2,hr2.mono (Fx.trans hc1.size hc2.size),hc1.fx hc2⟩
end
end Go.Proofs.YtblniomnhpedjaaGreatDoor
namespace Go.Proofs.YtblniomnhpedjaaGreatDoor
open Go.RowKit
set_option maxRecDepth 20000 in
theorem mcopy_nil (w : World) (c : Nat) : Calls Tryz.prog 42 #[.map (some c), .map none] w fun e w'=>e = .returned (.tuple #[])∧Chg (fun _=>False) w w':=by
 have hrg:=run_range_nilMap (P:=Tryz.prog) w 85 _ _ Tryz.underlying85
 have hnx : ∀ ty,(Instr.next (.pointer (some ⟨w.heap.size,0,none⟩)) false ty).run Tryz.prog (w.alloc (.mapIter none 0 #[] 0))=_:=fun ty=>run_next_nilMap w ty 0 0 #[]
 go_enter Tryz.func42,Tryz.ntmps42
 go_wp2_with fail
 go_loopw [8] (fun _ wr=>wr=w.alloc (.mapIter none 0 #[] 0)) (fun _ _=>0)
 case atStart=>rfl
 case round=>
  subst hrel
  go_wp2
  go_end0
  exact ⟨rfl,(Chg.refl _ w).alloc _⟩
set_option maxRecDepth 20000 in
set_option maxHeartbeats 400000 in
theorem mcopy_some (w : World) (b c : Nat) (fb : Nat→Nat) (l : Dir) (hs : Bx l) (h : Ak w b (dv fb l)) (hc : Ak w c []) (hbc : b≠c) :
  Calls Tryz.prog 42 #[.map (some c), .map (some b)] w fun e w'=>e = .returned (.tuple #[])∧Ak w' c (dv fb l)∧Chg (· = c) w w':=by
 obtain ⟨w1,hrun1,hgo1,hch1,hsz1⟩:=Ca.start h Tryz.underlying85
 have hcl:=hc.lt
 have hc1:=hc.keep hch1 (fun h=>h)
 have HGO1:=Ab hgo1
 have HC1:=Ab hc1
 have HCH1:=Ab hch1
 clear hgo1 hc1 hch1 h hc
 go_enter Tryz.func42,Tryz.ntmps42
 go_wp2_with fail
 go_loopw [8] (fun _ wr=>∃ rl dl : Dir,(dl++rl).Perm l∧Ca wr b w.heap.size (dv fb rl)∧Ak wr c (dv fb dl)∧Chg (· = c) w wr) (fun _ wr=>Hg wr b w.heap.size)
 case atStart=>exact ⟨l,[],List.Perm.refl _,HGO1.out,HC1.out,HCH1.out.mono fun _ _ h=>h.elim⟩
 case round=>
  obtain ⟨rl,dl,hpl,hgo,hmw,hcg⟩:=hrel
  rcases hgo.step (P:=Tryz.prog) 0 with ⟨hr0,hnext⟩ | ⟨k,v,rest,w2,hperm,hnext,hentry,hgo2,hc2,hs2⟩
  ·have hrl0 : rl = []:=List.map_eq_nil_iff.1 hr0
   subst hrl0
   rw [List.append_nil] at hpl
   have HM:=Ab (hmw.perm (hpl.map fun p : Nm × Nat=>(Value.string (Ae p.1),Value.pointer (some ⟨fb p.2,0,none⟩))))
   have HC:=Ab hcg
   clear hgo hmw hcg hr0 hpl
   go_wp2
   go_end0
   exact ⟨rfl,HM.out,HC.out⟩
  ·obtain ⟨n,f,rl',hp1,rfl,rfl,hp2⟩:=Jo hperm
   have hne : look dl n=none:=Ig fun p hp e=>by
    have h1 : (dl++rl).Perm (dl++((n,f) :: rl')):=hp1.append_left dl
    have h2:=((hpl.symm.trans h1).map fun p : Nm × Nat=>p.1).nodup_iff.1 (Je hs)
    rw [List.map_append,List.nodup_append] at h2
    exact h2.2.2 p.1 (List.mem_map.2 ⟨p,hp,rfl⟩) n (by simp) e
   have hm2:=hmw.keep hc2 (fun e=>by omega)
   obtain ⟨w3,hput,hm3,hc3,_⟩:=hm2.put_new (kstr w2) (Ep fb dl) Tryz.underlying85 ⟨_,rfl⟩ (dv_ne hne) (.pointer (some ⟨fb f,0,none⟩))
   have hlen:=hgo.len
   have hgo3:=(hgo2.perm hp2).keep hc3 hbc (fun e=>by omega)
   have hm3':=hm3.perm (show ((Value.string (Ae n),Value.pointer (some ⟨fb f,0,none⟩)) :: dv fb dl).Perm (dv fb ((n,f) :: dl)) from List.Perm.refl _)
   have HM:=Ab hm3'
   have HG:=Ab hgo3
   have HC:=Ab ((hcg.trans hc2 (fun i hi e=>absurd hi (by omega))).then hc3)
   have HL:=Ab hlen
   have HPL : Hid (((n,f) :: dl++rl').Perm l):=Ab ((List.perm_middle.symm.trans (hp1.symm.append_left dl)).trans hpl)
   have HP:=Ab hp1.length_eq
   clear hm3' hm3 hgo3 hcg hc2 hc3 hlen hpl hp1 hgo hgo2 hmw hm2 hperm hp2
   go_wp2_with fail
   go_roundw
   case rel=>exact ⟨rl',(n,f) :: dl,HPL.out,HG.out,HM.out,HC.out⟩
   case measure=>
    rw [HG.out.len,HL.out]
    have:=HP.out
    simp [dv,this]
end Go.Proofs.YtblniomnhpedjaaGreatDoor
namespace Go.Proofs.YtblniomnhpedjaaGreatDoor
open Go.RowKit
def Cn (q : Nat→Nat) (l : Dir) : Nat:=(l.map fun p=>q p.2).sum
structure New (w : World) (d2 nm : Nat) (room : Int) (sure : Option Nat) (fb : Nat→Nat) (rv : Nat→Value) (q : Nat→Nat) (cut : Nat→List UInt8) (dl : Dir) (wr : World) : Prop where
 disk : wr.heap[d2]? = some (.cells #[.int .i64 room, .int .i64 ((Cn q dl : Nat) : Int), .map (some nm), .map sure, .slice none 0 0, .int .i64 0, .bool false, .int .i64 0, .map none] 89)
 map : Ak wr nm (dv fb dl)
 files : ∀ i∈ids dl,w.heap.size≤fb i∧wr.heap[fb i]? = some (.cells #[rv i, .int .i64 (q i : Int), .bool true] 118)
 inj : ∀ i∈ids dl,∀ j∈ids dl,fb i=fb j→i=j
 rows : ∀ i∈ids dl,wr.ownsRow 0 5 1 (rv i) (q i) (bc (cut i))∧∀ k,(rv i).ownBlock=some k→w.heap.size≤k
 apart : ∀ i∈ids dl,∀ j∈ids dl,∀ k,(rv i).ownBlock=some k→(rv j).ownBlock=some k→i=j
 chg : Chg (fun _=>False) w wr
 newD : w.heap.size≤d2
 newM : w.heap.size≤nm
section
variable {w wr wr' : World} {d2 nm : Nat} {room : Int} {sure : Option Nat} {fb : Nat→Nat} {rv : Nat→Value} {q : Nat→Nat} {cut : Nat→List UInt8} {dl : Dir}
theorem New.keep {X : Nat→Prop} (h : New w d2 nm room sure fb rv q cut dl wr) (hc : Chg X wr wr') (hX : ∀ k,X k→w.heap.size≤k) (h1 : ¬ X d2) (h2 : ¬ X nm) (h3 : ∀ k c t,wr.heap[k]? = some (.cells c t (0,0))→t=118∨t=5→¬ X k) : New w d2 nm room sure fb rv q cut dl wr' where
 disk:=hc.keep h.disk h1
 map:=h.map.keep hc h2
 files i hi:=⟨(h.files i hi).1,hc.keep (h.files i hi).2 (h3 _ _ _ (h.files i hi).2 (Or.inl rfl))⟩
 inj:=h.inj
 rows i hi:=⟨A3 (h.rows i hi).1 hc (fun k hk=>by
  obtain ⟨cur,hcur⟩:=A2 (h.rows i hi).1 hk
  exact h3 _ _ _ hcur (Or.inr rfl)),(h.rows i hi).2⟩
 apart:=h.apart
 chg:=h.chg.trans hc (fun i hi e=>absurd hi (Nat.not_lt_of_le (hX i e)))
 newD:=h.newD
 newM:=h.newM
theorem New.add (h : New w d2 nm room sure fb rv q cut dl wr) {n : Nm} {f : Nat} (hf : f ∉ ids dl) {v : Value} {wb wc : World} (hb : Below wr.heap.size wr wb) (hv : wb.ownsRow wr.heap.size 5 1 v (q f) (bc (cut f)))
  (hm : Ak wc nm ((.string (Ae n), .pointer (some ⟨wb.heap.size,0,none⟩)) :: dv fb dl)) (hc : Chg (· = nm) (wb.alloc (.cells #[v, .int .i64 (q f : Int), .bool true] 118)) wc) :
  New w d2 nm room sure (upd fb f wb.heap.size) (upd rv f v) q cut ((n,f) :: dl) (wc.setCell ⟨d2,1,none⟩ (.int .i64 ((Cn q dl : Int)+(q f : Int)))):=by
 have hbs:=hb.size
 have hws:=h.chg.size
 have h1 : Chg (fun _=>False) wr wb:=(Chg.of_below hb).mono fun k hk e=>absurd hk (Nat.not_lt_of_le e)
 have h2 : Chg (fun _=>False) wr (wb.alloc (.cells #[v, .int .i64 (q f : Int), .bool true] 118)):=h1.alloc _
 have h3 : Chg (· = nm) wr wc:=(h2.mono fun _ _ e=>e.elim).then hc
 have h4 : Chg (fun k=>k=nm∨k=d2) wr (wc.setCell ⟨d2,1,none⟩ (.int .i64 ((Cn q dl : Int)+(q f : Int)))):=Chg.setCell (F:=fun k=>k=nm∨k=d2) (h3.mono fun _ _ e=>Or.inl e) (p:=⟨d2,1,none⟩) (Or.inl (Or.inr rfl)) _
 have hdn : d2≠nm:=h.map.ne h.disk
 have hdc:=h3.keep h.disk hdn
 have hfn:=Au wb (.cells #[v, .int .i64 (q f : Int), .bool true] 118)
 have hlm:=h.map.lt
 have hld:=At h.disk
 have hfc:=hc.keep hfn (by omega)
 have e1 : ∀ i∈ids ((n,f) :: dl),i=f∨i∈ids dl:=fun i hi=>List.mem_cons.1 hi
 have enf : ∀ i∈ids dl,i≠f:=fun i hi e=>hf (e ▸ hi)
 have hnX : ∀ k c t,wr.heap[k]? = some (.cells c t (0,0))→t=118∨t=5→¬ (k=nm∨k=d2):=fun k c t hk ht e=>by
  rcases e with rfl | rfl
  ·exact h.map.ne hk rfl
  ·rcases ht with rfl | rfl
   ·exact Ax hk h.disk (show 118≠89 by decide) rfl
   ·exact Ax hk h.disk (show 5≠89 by decide) rfl
 have hvb : ∀ k,v.ownBlock=some k→wr.heap.size≤k∧k<wb.heap.size:=fun k hk=>by
  rcases hv.2 with ⟨rfl,_⟩ | ⟨g,cap,cur,rfl,a1,a2,_⟩
  ·cases hk
  ·injection hk with hk
   subst hk
   exact ⟨a1,At a2⟩
 refine ⟨?_,?_,fun i hi=>?_,fun i hi j hj e=>?_,fun i hi=>?_,fun i hi j hj k e2 e3=>?_,?_,h.newD,h.newM⟩
 ·have:=A0 hdc 1 (.int .i64 ((Cn q dl : Int)+(q f : Int)))
  rw [this]
  have e : ((Cn q ((n,f) :: dl) : Nat) : Int)=(Cn q dl : Int)+(q f : Int):=by
   unfold Cn
   simp
   omega
  rw [e]
  rfl
 ·have e : dv (upd fb f wb.heap.size) ((n,f) :: dl)=(.string (Ae n), .pointer (some ⟨wb.heap.size,0,none⟩)) :: dv fb dl:=by
   unfold dv
   rw [List.map_cons,Ce]
   congr 1
   refine List.map_congr_left fun p hp=>?_
   rw [Bq _ _ (enf p.2 (List.mem_map.2 ⟨p,hp,rfl⟩))]
  rw [e]
  exact hm.keep (Cb wc d2 1 _) (fun e=>hdn e.symm)
 ·rcases e1 i hi with rfl | hi'
  ·rw [Ce,Ce]
   exact ⟨by omega,Cy hfc (show wb.heap.size≠d2 by omega)⟩
  ·rw [Bq _ _ (enf i hi'),Bq _ _ (enf i hi')]
   obtain ⟨g1,g2⟩:=h.files i hi'
   exact ⟨g1,h4.keep g2 (hnX _ _ _ g2 (Or.inl rfl))⟩
 ·rcases e1 i hi with rfl | hi' <;> rcases e1 j hj with rfl | hj'
  ·rfl
  ·rw [Ce,Bq _ _ (enf j hj')] at e
   have:=At (h.files j hj').2
   omega
  ·rw [Ce,Bq _ _ (enf i hi')] at e
   have:=At (h.files i hi').2
   omega
  ·rw [Bq _ _ (enf i hi'),Bq _ _ (enf j hj')] at e
   exact h.inj i hi' j hj' e
 ·rcases e1 i hi with rfl | hi'
  ·rw [Ce]
   refine ⟨G3 (A3 (A3 (hv.alloc _) hc (fun k hk e=>?_)) (Cb wc d2 1 _) (fun k hk e=>?_)) (Nat.zero_le _),fun k hk=>Nat.le_trans hws (hvb k hk).1⟩
   ·have:=hvb k hk
    omega
   ·have:=hvb k hk
    omega
  ·rw [Bq _ _ (enf i hi')]
   obtain ⟨g1,g2⟩:=h.rows i hi'
   refine ⟨A3 g1 h4 (fun k hk=>?_),g2⟩
   obtain ⟨cur,hcur⟩:=A2 g1 hk
   exact hnX _ _ _ hcur (Or.inr rfl)
 ·have old : ∀ i∈ids dl,∀ k,(rv i).ownBlock=some k→k<wr.heap.size:=fun i hi k hk=>by
   obtain ⟨cur,hcur⟩:=A2 (h.rows i hi).1 hk
   exact At hcur
  rcases e1 i hi with rfl | hi' <;> rcases e1 j hj with rfl | hj'
  ·rfl
  ·rw [Ce] at e2
   rw [Bq _ _ (enf j hj')] at e3
   have:=(hvb k e2).1
   have:=old j hj' k e3
   omega
  ·rw [Ce] at e3
   rw [Bq _ _ (enf i hi')] at e2
   have:=(hvb k e3).1
   have:=old i hi' k e2
   omega
  ·rw [Bq _ _ (enf i hi')] at e2
   rw [Bq _ _ (enf j hj')] at e3
   exact h.apart i hi' j hj' k e2 e3
 ·exact h.chg.trans h4 (fun i hi e=>by
   have:=h.newD
   have:=h.newM
   rcases e with e | e <;> omega)
end
end Go.Proofs.YtblniomnhpedjaaGreatDoor
namespace Go.Proofs.YtblniomnhpedjaaGreatDoor
open Go.RowKit
theorem Mx {q : Nat→Nat} {l l' : Dir} (h : l.Perm l') : Cn q l=Cn q l':=Il (h.map fun p : Nm × Nat=>q p.2)
theorem sumQ_le {q : Nat→Nat} {dl rl D : Dir} (h : (dl++rl).Perm D) : Cn q dl+Cn q rl=Cn q D:=by
 rw [← Mx h]
 unfold Cn
 rw [List.map_append,List.sum_append_nat]
theorem Ca.iter {w : World} {b r : Nat} {rest : List (Value × Value)} (h : Ca w b r rest) {k : Nat} {c : Array Value} {t : TypeId} (hk : w.heap[k]? = some (.cells c t (0,0))) : k≠r:=by
 obtain ⟨es,ck,seen,c0,a1,a2,a3,a4,a5⟩:=h
 exact Gg hk a3 (by intro e; cases e)
theorem sumQ_pick {q : Nat→Nat} {rl rl' : Dir} {n : Nm} {f : Nat} (h : rl.Perm ((n,f) :: rl')) : Cn q rl=q f+Cn q rl':=by
 rw [Mx h]
 rfl
set_option maxRecDepth 20000 in
set_option maxHeartbeats 1600000 in
theorem odisk_any (w : World) (on om : Nat) (room : Int) (fb : Nat→Nat) (is : List Nat) (ml : List (Nat × Nat)) (D : Dir) (sr : Nat→Nat) (src : Nat→List UInt8) (hn : (ids D).Nodup)
  (hon : Ak w on (dv fb D)) (hom : Ak w om (mv fb ml)) (hl : Lies w fb is) (hml : ∀ p∈ml,p.1∈is) (hDi : ∀ i∈ids D,i∈is) (hs : Bx D)
  (hfile : ∀ i∈ids D,∃ rv nmv,w.heap[fb i]? = some (.cells #[rv, .int .i64 (sr i : Int),nmv] 118)∧w.ownsRow 0 5 1 rv (src i).length (bc (src i)))
  (hq : ∀ i∈ids D,sr i+B2 ml i≤(src i).length) (hsz : ∀ i∈ids D,(src i).length<1099511627776) (hsum : Cn (fun i=>sr i+B2 ml i) D<1099511627776) :
  Calls Tryz.prog 43 #[.agg #[.map (some on), .map (some om)], .int .i64 room] w fun e w'=>∃ d2 nm sm fb2 rv2,e = .returned (.pointer (some ⟨d2,0,none⟩)) ∧
   New w d2 nm room (some sm) fb2 rv2 (fun i=>sr i+B2 ml i) (fun i=>(src i).take (sr i+B2 ml i)) D w'∧Ak w' sm (dv fb2 D)∧w.heap.size≤sm∧sm≠nm:=by
 have hmm:=@run_makeMap Tryz.prog
 obtain ⟨q,hqd⟩ : ∃ q : Nat→Nat,q=fun i=>sr i+B2 ml i:=⟨_,rfl⟩
 obtain ⟨cut,hcd⟩ : ∃ cut : Nat→List UInt8,cut=fun i=>(src i).take (sr i+B2 ml i):=⟨_,rfl⟩
 rw [← hqd] at hsum
 rw [← hqd,← hcd]
 have hA : Chg (fun _=>False) w (((w.alloc (.cells #[.map (some on), .map (some om)] 106)).alloc (.map #[] 0)).alloc (.cells #[.int .i64 room, .int .i64 0, .map (some (w.heap.size+1)), .map none, .slice none 0 0, .int .i64 0, .bool false, .int .i64 0, .map none] 89)):=(((Chg.refl _ w).alloc _).alloc _).alloc _
 have hob : (((w.alloc (.cells #[.map (some on), .map (some om)] 106)).alloc (.map #[] 0)).alloc (.cells #[.int .i64 room, .int .i64 0, .map (some (w.heap.size+1)), .map none, .slice none 0 0, .int .i64 0, .bool false, .int .i64 0, .map none] 89)).heap[w.heap.size]? = some (.cells #[.map (some on), .map (some om)] 106):=Bh _ (Bh _ (Au w _))
 have hmp : Ak (((w.alloc (.cells #[.map (some on), .map (some om)] 106)).alloc (.map #[] 0)).alloc (.cells #[.int .i64 room, .int .i64 0, .map (some (w.heap.size+1)), .map none, .slice none 0 0, .int .i64 0, .bool false, .int .i64 0, .map none] 89)) (w.heap.size+1) []:=by
  have h1:=Ak.made (w.alloc (.cells #[.map (some on), .map (some om)] 106))
  rw [show (w.alloc (.cells #[.map (some on), .map (some om)] 106)).heap.size=w.heap.size+1 by simp] at h1
  exact h1.keep ((Chg.refl (fun _=>False) _).alloc _) (fun h=>h)
 have hdk : (((w.alloc (.cells #[.map (some on), .map (some om)] 106)).alloc (.map #[] 0)).alloc (.cells #[.int .i64 room, .int .i64 0, .map (some (w.heap.size+1)), .map none, .slice none 0 0, .int .i64 0, .bool false, .int .i64 0, .map none] 89)).heap[w.heap.size+2]? = some (.cells #[.int .i64 room, .int .i64 0, .map (some (w.heap.size+1)), .map none, .slice none 0 0, .int .i64 0, .bool false, .int .i64 0, .map none] 89):=by
  have h1:=Au ((w.alloc (.cells #[.map (some on), .map (some om)] 106)).alloc (.map #[] 0)) (.cells #[.int .i64 room, .int .i64 0, .map (some (w.heap.size+1)), .map none, .slice none 0 0, .int .i64 0, .bool false, .int .i64 0, .map none] 89)
  rw [show ((w.alloc (.cells #[.map (some on), .map (some om)] 106)).alloc (.map #[] 0)).heap.size=w.heap.size+2 by simp] at h1
  exact h1
 have hsz3 : (((w.alloc (.cells #[.map (some on), .map (some om)] 106)).alloc (.map #[] 0)).alloc (.cells #[.int .i64 room, .int .i64 0, .map (some (w.heap.size+1)), .map none, .slice none 0 0, .int .i64 0, .bool false, .int .i64 0, .map none] 89)).heap.size=w.heap.size+3:=by simp
 obtain ⟨w1,hrun1,hgo1,hch1,hsz1⟩:=Ca.start (hon.keep hA (fun h=>h)) Tryz.underlying85
 rw [hsz3] at hrun1 hgo1
 have hnew0 : New w (w.heap.size+2) (w.heap.size+1) room none (fun _=>0) (fun _=>.nilFunc) q cut [] w1:=
  ⟨hch1.keep hdk (fun h=>h),hmp.keep hch1 (fun h=>h),(fun i hi=>by cases hi),(fun i hi=>by cases hi),(fun i hi=>by cases hi),(fun i hi=>by cases hi),hA.then hch1,by omega,by omega⟩
 have hob1:=hch1.keep hob (fun h=>h)
 have z0:=Ad hob 0
 have honl:=hon.lt
 have HN0:=Ab hnew0
 have HG1:=Ab hgo1
 have HO1:=Ab hob1
 have HOM:=Ab hom
 have HLL:=Ab hl
 have HML:=Ab hml
 have HDI:=Ab hDi
 have HFI:=Ab hfile
 have HQ:=Ab hq
 have HSZ:=Ab hsz
 have HS:=Ab hs
 have HN:=Ab hn
 have HQD:=Ab hqd
 have HCD:=Ab hcd
 clear hnew0 hgo1 hob1 hom hl hml hDi hfile hq hsz hs hn hqd hcd hA hob hmp hdk hch1 hon hsz1
 go_enter Tryz.func43,Tryz.ntmps43
 go_wp2_with fail
 go_loopw [16] (fun _ wr=>∃ (rl dl : Dir) (fb2 : Nat→Nat) (rv2 : Nat→Value),(dl++rl).Perm D∧Ca wr on (w.heap.size+3) (dv fb rl)∧New w (w.heap.size+2) (w.heap.size+1) room none fb2 rv2 q cut dl wr∧wr.heap[w.heap.size]? = some (.cells #[.map (some on), .map (some om)] 106)) (fun _ wr=>Hg wr on (w.heap.size+3))
 case atStart=>exact ⟨D,[],_,_,List.Perm.refl _,HG1.out,HN0.out,HO1.out⟩
 case round=>
  obtain ⟨rl,dl,fb2,rv2,hpl,hgo,hnew,hobr⟩:=hrel
  have hbase : ∀ k,k<w.heap.size→wr.heap[k]? = w.heap[k]?:=fun k hk=>hnew.chg.block k hk (fun h=>h)
  rcases hgo.step (P:=Tryz.prog) 0 with ⟨hr0,hnext⟩ | ⟨k,v,rest,w2,hperm,hnext,hentry,hgo2,hc2,hs2⟩
  ·have hrl0 : rl = []:=List.map_eq_nil_iff.1 hr0
   subst hrl0
   rw [List.append_nil] at hpl
   have hcl:=Ow wr (w.heap.size+1) _ hnew.map
   have hdk:=hnew.disk
   have y2:=Ad hdk 2
   have HNEW:=Ab hnew
   have HDK:=Ab hdk
   have HPL:=Ab hpl
   clear hgo hnew hdk hr0 hpl hobr hbase
   go_wp2_with fail
   refine hcl.mono ?_
   rintro e w4 ⟨rfl,hm4,hc4⟩
   obtain ⟨sm,hsm⟩ : ∃ sm,sm=wr.heap.size:=⟨_,rfl⟩
   rw [← hsm] at hm4 ⊢
   have hsm1:=HNEW.out.map.lt
   have hsm2:=At HDK.out
   have hd4:=hc4.keep HDK.out (fun h=>h)
   have z3:=Av hd4 3
   have a3:=Ad hd4 3
   have hD4:=A0 hd4 3 (.map (some sm))
   have hne : w.heap.size+2≠w.heap.size+1:=by omega
   have hN4:=HNEW.out.keep hc4 (fun _ h=>h.elim) (fun h=>h) (fun h=>h) (fun _ _ _ _ _ h=>h)
   have hmD : Ak (w4.setCell ⟨w.heap.size+2,3,none⟩ (.map (some sm))) sm (dv fb2 dl):=hm4.keep (Cb w4 _ 3 _) (fun e=>by omega)
   have hfin : New w (w.heap.size+2) (w.heap.size+1) room (some sm) fb2 rv2 q cut D (w4.setCell ⟨w.heap.size+2,3,none⟩ (.map (some sm))):=by
    have hnf : ∀ k c t,w4.heap[k]? = some (.cells c t (0,0))→t=118∨t=5→k≠w.heap.size+2:=fun k c t hk ht e=>by
     subst e
     rcases ht with rfl | rfl
     ·exact Ax hk hd4 (show 118≠89 by decide) rfl
     ·exact Ax hk hd4 (show 5≠89 by decide) rfl
    have hids : ∀ i,i∈ids D↔i∈ids dl:=fun i=>((HPL.out.map fun p : Nm × Nat=>p.2).mem_iff).symm
    refine ⟨?_,?_,fun i hi=>?_,fun i hi j hj=>hN4.inj i ((hids i).1 hi) j ((hids j).1 hj),fun i hi=>?_,fun i hi j hj=>hN4.apart i ((hids i).1 hi) j ((hids j).1 hj),hN4.chg.trans (Cb w4 _ 3 _) (fun i hi e=>by omega),hN4.newD,hN4.newM⟩
    ·rw [← Mx HPL.out]
     exact hD4
    ·exact (hN4.map.perm (HPL.out.map fun p : Nm × Nat=>(Value.string (Ae p.1),Value.pointer (some ⟨fb2 p.2,0,none⟩)))).keep (Cb w4 _ 3 _) (fun e=>by omega)
    ·obtain ⟨g1,g2⟩:=hN4.files i ((hids i).1 hi)
     exact ⟨g1,Cy g2 (hnf _ _ _ g2 (Or.inl rfl))⟩
    ·obtain ⟨g1,g2⟩:=hN4.rows i ((hids i).1 hi)
     refine ⟨A3 g1 (Cb w4 _ 3 _) (fun k hk=>?_),g2⟩
     obtain ⟨cur,hcur⟩:=A2 g1 hk
     exact hnf _ _ _ hcur (Or.inr rfl)
   have HMD:=Ab (hmD.perm (HPL.out.map fun p : Nm × Nat=>(Value.string (Ae p.1),Value.pointer (some ⟨fb2 p.2,0,none⟩))))
   have HFIN:=Ab hfin
   have HSM : Hid (w.heap.size≤sm∧sm≠w.heap.size+1):=Ab ⟨by omega,by omega⟩
   clear hmD hfin hN4 hD4 hd4 hm4 hc4 hcl hsm
   go_wp2
   go_ret
   exact ⟨_,_,sm,fb2,rv2,rfl,HFIN.out,HMD.out,HSM.out.1,HSM.out.2⟩
  ·obtain ⟨n,f,rl',hp1,rfl,rfl,hp2⟩:=Jo hperm
   have hfr : f∈ids rl:=List.mem_map.2 ⟨(n,f),hp1.mem_iff.2 List.mem_cons_self,rfl⟩
   have hpl2 : ((n,f) :: dl++rl').Perm D:=(List.perm_middle.symm.trans (hp1.symm.append_left dl)).trans hpl
   have hfD : f∈ids D:=(hpl2.map fun p : Nm × Nat=>p.2).mem_iff.1 (by simp)
   have hnd:=((hpl2.map fun p : Nm × Nat=>p.2).nodup_iff).2 HN.out
   have hfd : f ∉ ids dl:=fun h=>by
    rw [List.map_append,List.map_cons,List.cons_append,List.nodup_cons] at hnd
    exact hnd.1 (List.mem_append.2 (Or.inl h))
   have hnl : look dl n=none:=Ig fun p hp e=>by
    have h2:=((hpl2.map fun p : Nm × Nat=>p.1).nodup_iff).2 (Je HS.out)
    rw [List.map_append,List.map_cons,List.cons_append,List.nodup_cons] at h2
    exact h2.1 (List.mem_append.2 (Or.inl (List.mem_map.2 ⟨p,hp,e⟩)))
   have hsl:=sumQ_le (q:=q) hpl
   have hsp:=sumQ_pick (q:=q) hp1
   obtain ⟨rvf,nmv,hf0,hrow0⟩:=HFI.out f hfD
   have hq1:=HQ.out f hfD
   have hq2:=HSZ.out f hfD
   have hqf : q f=sr f+B2 ml f:=by rw [HQD.out]
   have hcf : cut f=(src f).take (q f):=by rw [HCD.out,hqf]
   have hnew2 : New w (w.heap.size+2) (w.heap.size+1) room none fb2 rv2 q cut dl w2.drew:=(hnew.keep hc2 (fun k e=>by omega) (by omega) (by omega) (fun k c t hk _=>hgo.iter hk)).keep ((Chg.refl (fun _=>False) _).drew) (fun _ h=>h.elim) (fun h=>h) (fun h=>h) (fun _ _ _ _ _ h=>h)
   have hc02:=hnew2.chg
   have hf2:=hc02.keep hf0 (fun h=>h)
   have hob2 : w2.drew.heap[w.heap.size]? = _:=hc2.keep hobr (by omega)
   have hlk:=more_look (HOM.out.keep hc02 (fun h=>h)) (HLL.out.keep hc02 (fun _ _ h=>h)) HML.out (HDI.out f hfD)
   have hgo3 : Ca w2.drew on (w.heap.size+3) (dv fb rl'):=hgo2.perm hp2
   have HLEN:=Ab hgo.len
   have HPLEN:=Ab hp1.length_eq
   have HROW:=Ab hrow0
   have HHF:=Ab hf2
   have HOB2:=Ab hob2
   have HGO3:=Ab hgo3
   have HNEW2:=Ab hnew2
   have HP2:=Ab hpl2
   have v1:=Ad hf2 1
   have v2:=Ad hob2 1
   clear hgo hnew hobr hbase hperm hgo2 hc2 hs2 hp2 hpl hp1 hnew2 hc02 hf2 hob2 hgo3 hrow0 hnd hpl2 hfr
   obtain ⟨x,hx⟩ : ∃ x,x=sr f:=⟨_,rfl⟩
   obtain ⟨y,hy⟩ : ∃ y,y=B2 ml f:=⟨_,rfl⟩
   rw [← hx] at v1 hq1 hqf
   rw [← hy] at hlk hq1 hqf
   have HX:=Ab hx
   clear hx hy
   go_wp2_with fail
   refine wp_region_held_drew (S:=fun W=>W.cell? ⟨fb f,1,none⟩=some (.int .i64 (x : Int))∧W.cell? ⟨w.heap.size,1,none⟩=some (.map (some om))∧(Instr.lookup 104 (.map (some om)) (.pointer (some ⟨fb f,0,none⟩)) false).run Tryz.prog W = .ok (.int .i64 (y : Int)) W) (by kernel_rfl) (⟨v1,v2,hlk⟩) (fun hHeld=>?_)
   refine Aa 0 hHeld ?_
   refine Aa 1 hHeld ?_
   refine Aa 2 hHeld ?_
   refine Aa 3 hHeld ?_
   refine Aa 4 hHeld ?_
   refine Aa 5 hHeld ?_
   refine Aa 6 hHeld ?_
   refine Aa 7 hHeld ?_
   refine Aa 8 hHeld ?_
   refine Aa 9 hHeld ?_
   refine wpAnyH_done (by kernel_rfl) ?_ _
   clear hHeld
   have hwr : IntKind.i64.wrap ((x : Int)+(y : Int))=((q f : Nat) : Int):=by
    rw [hqf,IntKind.wrap_i64]
    omega
   rw [hwr]
   clear hwr hlk v1 v2
   generalize w2.drew=w3 at *
   obtain ⟨z,hz⟩ : ∃ z,z=q f:=⟨_,rfl⟩
   rw [← hz] at hsp hcf ⊢
   have hzl : z≤(src f).length:=by omega
   clear hqf hq1
   have HZ:=Ab hz
   clear hz
   go_wp2_with fail
   have hch3:=HNEW2.out.chg.drew
   have hrow4:=A3 HROW.out hch3 (fun _ _ h=>h)
   have hrc : ∃ ra rc,rvf = .slice ra (src f).length rc∧(src f).length≤rc∧(ra=none→rc=0):=by
    rcases hrow4.2 with ⟨e,h0⟩ | ⟨g,cap,cur,e,q1,q2,q3,q4,q5,q6⟩
    ·exact ⟨none,0,by rw [h0]; exact e,by omega,fun _=>rfl⟩
    ·exact ⟨_,cap,e,q3,fun h=>by cases h⟩
   obtain ⟨ra,rc,rfl,hle,hnil⟩:=hrc
   have hf4:=hch3.keep hf0 (fun h=>h)
   have hnew4:=HNEW2.out.keep ((Chg.refl (fun _=>False) _).drew) (fun _ h=>h.elim) (fun h=>h) (fun h=>h) (fun _ _ _ _ _ h=>h)
   have hd4:=hnew4.disk
   have hlcut : (cut f).length=z:=by rw [hcf,List.length_take]; omega
   have hcut:=own_cut (l:=src f) (k:=z) hrow4 rfl hzl
   rw [← hcf] at hcut
   have hcl:=Iz w3.drew (.slice ra z rc) (cut f) (by
    have:=Dh (l:=cut f) (w:=w3.drew) (base:=0) (v:=.slice ra z rc) (by rw [hlcut]; exact hcut)
    exact this) (by omega)
   rw [hlcut] at hcl
   obtain ⟨len,hlen⟩ : ∃ len,len=(src f).length:=⟨_,rfl⟩
   rw [← hlen] at hf4 hle hzl hq2
   have hzr : z≤rc:=by omega
   have u0:=Ad hf4 0
   have u2:=Ad hd4 2
   have HF4:=Ab hf4
   have HNEW4:=Ab hnew4
   have HD4:=Ab hd4
   have HHLEN:=Ab hlen
   have hdn : w.heap.size+2≠w.heap.size+1:=by omega
   clear hrow4 hcut hlcut hf4 hnew4 hd4 hch3 hlen
   refine wp_region_held_drew (S:=fun W=>W.cell? ⟨w.heap.size+2,2,none⟩=some (.map (some (w.heap.size+1)))∧W.cell? ⟨fb f,0,none⟩=some (.slice ra len rc)) (by kernel_rfl) (⟨u2,u0⟩) (fun hHeld=>?_)
   refine Aa 0 hHeld ?_
   refine Aa 1 hHeld ?_
   refine Aa 2 hHeld ?_
   refine Aa 3 hHeld ?_
   refine Aa 4 hHeld ?_
   refine Aa 5 hHeld ?_
   refine Aa 6 hHeld ?_
   refine Aa 7 hHeld ?_
   refine Aa 8 hHeld ?_
   refine Aa 9 hHeld ?_
   refine Aa 10 hHeld ?_
   refine Aa 12 hHeld ?_
   refine Al (i:=11) rfl (by kernel_rfl) rfl (fun K hK=>?_)
   go_simp
   refine hcl.mono ?_
   rintro e w5 ⟨v',rfl,hv5,hb5⟩
   obtain ⟨va,vcap,rfl⟩:=Do hv5
   have hc5 : Chg (fun _=>False) w3.drew w5:=(Chg.of_below hb5).mono fun k hk e=>absurd hk (Nat.not_lt_of_le e)
   have hd5:=hc5.keep HD4.out (fun h=>h)
   have hf5:=hc5.keep HF4.out (fun h=>h)
   refine hK.out _ _ (⟨Ad hd5 2,Ad hf5 0⟩) (fun hHeld=>?_)
   clear hK K
   try simp only [Act.put,List.setIfInBounds_toArray,List.set_cons_zero,List.set_cons_succ]
   refine Aa 13 hHeld ?_
   have hd6:=Bh (.cells #[.slice va z vcap, .int .i64 (z : Int), .bool true] 118) hd5
   have hf6:=Bh (.cells #[.slice va z vcap, .int .i64 (z : Int), .bool true] 118) hf5
   obtain ⟨w7,hput,hm7,hc7,hs7⟩:=((HNEW4.out.map.keep hc5 (fun h=>h)).keep ((Chg.refl (fun _=>False) w5).alloc (.cells #[.slice va z vcap, .int .i64 (z : Int), .bool true] 118)) (fun h=>h)).put_new (kstr _) (Ep fb2 dl) Tryz.underlying85 ⟨_,rfl⟩ (dv_ne hnl) (.pointer (some ⟨w5.heap.size,0,none⟩))
   have hd7:=hc7.keep hd6 hdn
   have hf7:=hc7.keep hf6 (fun e=>by
    have h1:=At hf0
    omega)
   refine Al (i:=14) rfl (by kernel_rfl) rfl (fun K hK=>?_)
   go_simp
   refine hK.out _ _ (⟨Ad hd6 2,Ad hf6 0⟩) (fun hHeld=>?_)
   clear hK K
   try simp only [Act.put,List.setIfInBounds_toArray,List.set_cons_zero,List.set_cons_succ]
   refine Al (i:=15) rfl (by kernel_rfl) rfl (fun K hK=>?_)
   go_simp
   refine hK.out _ _ (⟨Ad hd7 2,Ad hf7 0⟩) (fun hHeld=>?_)
   clear hK K
   try simp only [Act.put,List.setIfInBounds_toArray,List.set_cons_zero,List.set_cons_succ]
   refine wpAnyH_done (by kernel_rfl) ?_ _
   clear hHeld
   have hadd:=HNEW4.out.add (n:=n) hfd hb5 (by rw [← HZ.out]; exact hv5) hm7 (by rw [← HZ.out]; exact hc7)
   rw [← HZ.out] at hadd
   have t1:=Ad hd7 1
   have t2:=Av hd7 1
   have hgo7 : Ca w7 on (w.heap.size+3) (dv fb rl'):=((HGO3.out.keep ((Chg.refl (fun _=>False) _).drew) (fun h=>h) (fun h=>h)).keep (hc5.alloc _) (fun h=>h) (fun h=>h)).keep hc7 (by omega) (by omega)
   have hob7:=hc7.keep (Bh (.cells #[.slice va z vcap, .int .i64 (z : Int), .bool true] 118) (hc5.keep ((Chg.refl (fun _=>False) w3).drew.keep HOB2.out (fun h=>h)) (fun h=>h))) (by omega)
   have HADD:=Ab hadd
   have HGO7:=Ab hgo7
   have HOB7:=Ab hob7
   have hss : Cn q dl+z<1099511627776:=by omega
   obtain ⟨sq,hsq⟩ : ∃ sq,sq=Cn q dl:=⟨_,rfl⟩
   rw [← hsq] at t1 hss HADD
   clear hadd hgo7 hob7 hm7 hc7 hput hd7 hf7 hd6 hf6 hd5 hf5 hc5 hb5 hv5 hcl u0 u2 hsq hsl
   go_wp2_with fail
   have hgo8:=HGO7.out.keep (Cb w7 (w.heap.size+2) 1 (.int .i64 ((sq : Int)+(z : Int)))) (by omega) (by omega)
   go_roundw
   case rel=>exact ⟨rl',(n,f) :: dl,_,_,HP2.out,hgo8,HADD.out,Cy HOB7.out (show w.heap.size≠w.heap.size+2 by omega)⟩
   case measure=>
    rw [hgo8.len,HLEN.out]
    have:=HPLEN.out
    simp [dv,this]
end Go.Proofs.YtblniomnhpedjaaGreatDoor
namespace Go.Proofs.YtblniomnhpedjaaGreatDoor
open Go.RowKit
theorem torn_more (t : Nat) (ls : List Ac) : ∀ a∈torn t ls,A9 a=true:=by
 intro a ha
 unfold torn at ha
 split at ha
 ·simp at ha
  subst ha
  rfl
 ·cases ha
theorem Gd (l : Dir) (ls : List Ac) (keep t : Int) : A5 l (A6 ls keep t)=A5 l (ls.take keep.toNat):=by
 unfold A6
 rw [Hm,(G8 (torn_more _ _)).1]
theorem O7 (ls : List Ac) (k : Nat) : (A4 (ls.take k)).Sublist (A4 ls):=(List.take_sublist k ls).filterMap _
theorem Ok.upto {S : Dk} (h : Ok S) (k : Nat) : Bx (A5 S.sure (S.acts.take k))∧(ids (A5 S.sure (S.acts.take k))).Nodup∧∀ i∈ids (A5 S.sure (S.acts.take k)),S.live i:=by
 have hv : C8 S.sure (S.acts.take k):=by
  have:=h.valid
  rw [← List.take_append_drop k S.acts] at this
  exact (Gm.1 this).1
 refine ⟨J6 h.sortS hv,?_,fun i hi=>?_⟩
 ·have h1 : (ids S.sure++(A4 (S.acts.take k) ++ [])).Nodup:=by
   rw [List.append_nil]
   exact ((List.Sublist.refl _).append (O7 _ _)).nodup h.one
  have:=ids_app h.sortS hv h1
  rwa [List.append_nil] at this
 ·rcases mem_app hi with h1 | h1
  ·exact Or.inl h1
  ·exact Or.inr ((O7 _ _).subset h1)
theorem moreSum_torn (t : Nat) (ls : List Ac) (i : Nat) : Ar (torn t ls) i≤Ar ls i:=by
 unfold torn
 split
 ·rename_i f k r
  rw [Fm (.more f k) r]
  have : Ar [.more f (min k t)] i≤Ar [.more f k] i:=by
   simp only [Ar,List.map_cons,List.map_nil,List.sum_cons,List.sum_nil]
   split <;> omega
  omega
 ·simp [Ar]
theorem moreSum_stay (ls : List Ac) (keep t : Int) (i : Nat) : Ar (A6 ls keep t) i≤Ar ls i:=by
 unfold A6
 rw [Ew]
 have h1 : Ar ls i=Ar (ls.take keep.toNat) i+Ar (ls.drop keep.toNat) i:=by
  rw [← Ew,List.take_append_drop]
 have:=moreSum_torn t.toNat (ls.drop keep.toNat) i
 omega
theorem Ok.quota {S : Dk} (h : Ok S) (keep t : Int) {i : Nat} {x : Fl} (hx : S.files[i]? = some x) : x.sure+Ar (A6 S.acts keep t) i≤x.b.length:=by
 have h1:=h.lens i x hx
 have h2:=moreSum_stay S.acts keep t i
 omega
theorem Pm {S : Dk} {keep t : Int} {i : Nat} {y : Fl} (h : (S.crash keep t).files[i]? = some y) : ∃ x,S.files[i]? = some x∧y=⟨x.b.take (x.sure+Ar (A6 S.acts keep t) i),x.sure+Ar (A6 S.acts keep t) i⟩:=by
 have h1 : (S.files.mapIdx fun i x=>(⟨x.b.take (x.sure+Ar (A6 S.acts keep t) i),x.sure+Ar (A6 S.acts keep t) i⟩ : Fl))[i]? = some y:=h
 rw [List.getElem?_mapIdx] at h1
 cases hx : S.files[i]? with
 | none=>rw [hx] at h1; cases h1
 | some x=>
  rw [hx] at h1
  simp at h1
  exact ⟨x,rfl,h1.symm⟩
theorem Ok.crash {S : Dk} (h : Ok S) (keep t : Int) : Ok (S.crash keep t) where
 sortS:=by
  show Bx (A5 S.sure (A6 S.acts keep t))
  rw [Gd]
  exact (h.upto _).1
 valid:=trivial
 dir:=rfl
 one:=by
  show (ids (A5 S.sure (A6 S.acts keep t))++A4 []).Nodup
  rw [Gd]
  simpa [A4] using (h.upto keep.toNat).2.1
 idS i hi:=by
  show i<(S.files.mapIdx _).length
  have hi' : i∈ids (A5 S.sure (A6 S.acts keep t)):=hi
  rw [Gd] at hi'
  rw [List.length_mapIdx]
  exact h.liveLt ((h.upto _).2.2 i hi')
 idA i hi:=by cases hi
 idM i hi:=by cases hi
 lens i y hy:=by
  obtain ⟨x,hx,rfl⟩:=Pm hy
  have:=h.quota keep t hx
  show (x.b.take _).length=(x.sure+Ar (A6 S.acts keep t) i)+0
  rw [List.length_take,Nat.min_eq_left this,Nat.add_zero]
end Go.Proofs.YtblniomnhpedjaaGreatDoor
namespace Go.Proofs.YtblniomnhpedjaaGreatDoor
open Go.RowKit
section
variable {w w' : World} {F : Nat→Prop} {d : Nat} {S : Dk} {G : Gh}
theorem New.rep {d2 nm sm : Nat} {fb2 : Nat→Nat} {rv2 : Nat→Value} {q : Nat→Nat} {cut : Nat→List UInt8} (h : Rep w F d S G) {keep t : Int} (hq : ∀ i x,S.files[i]? = some x→q i=x.sure+Ar (A6 S.acts keep t) i) (hcut : ∀ i x,S.files[i]? = some x→cut i=x.b.take (x.sure+Ar (A6 S.acts keep t) i))
  (hn : New w d2 nm (S.room : Int) (some sm) fb2 rv2 q cut (A5 S.sure (A6 S.acts keep t)) w') (hsm : Ak w' sm (dv fb2 (A5 S.sure (A6 S.acts keep t)))) (hs1 : w.heap.size≤sm) (hs2 : sm≠nm) :
  ∃ G2,Rep w' (fun k=>w.heap.size≤k∧k<w'.heap.size) d2 (S.crash keep t) G2:=by
 have hok:=h.ok.crash keep t
 have hlv : ∀ i,(S.crash keep t).live i↔i∈ids (A5 S.sure (A6 S.acts keep t)):=fun i=>by
  unfold Dk.live
  show i∈ids (A5 S.sure (A6 S.acts keep t))∨i∈A4 []↔_
  simp [A4]
 have hkn : ∀ i,(S.crash keep t).known i→i∈ids (A5 S.sure (A6 S.acts keep t)):=fun i hi=>by
  rcases hi with hi | hi
  ·exact (hlv i).1 hi
  ·cases hi
 have hlen : ∀ i∈ids (A5 S.sure (A6 S.acts keep t)),∃ x,S.files[i]? = some x:=fun i hi=>by
  rw [Gd] at hi
  exact ⟨_,List.getElem?_eq_getElem (h.ok.liveLt ((h.ok.upto _).2.2 i hi))⟩
 refine ⟨{ fb:=fb2,rv:=rv2,sv:=fun i=>.int .i64 (q i : Int),now:=some nm,sure:=some sm,fls:=none,lv:=.slice none 0 0,cv:=0,vs:=[] },
  {
   ok:=hok
   disk:=?_
   inD:=⟨hn.newD,At hn.disk⟩
   roomy:=h.roomy
   cutv:=fun c e=>by cases e
   now:=⟨⟨hn.newM,hn.map.lt⟩,hn.map⟩
   sure:=⟨⟨hs1,hsm.lt⟩,hsm⟩
   both:=by simp
   bare:=fun e=>by cases e
   fails:=⟨[],rfl,fun k _=>by show false=true↔_; simp⟩
   two:=fun b e=>⟨fun e2=>hs2 (by injection e with e; injection e2 with e2; rw [e,e2]),fun e2=>by cases e2⟩
   three:=fun b e e2=>by cases e2
   row:=⟨rfl,Or.inl ⟨rfl,rfl⟩⟩
   rowF:=fun k hk=>by cases hk
   many:=rfl
   acts:=fun j a p ha=>by cases ha
   files:=fun i hi=>?_
   inj:=fun i j hi hj e=>hn.inj i (hkn i hi) j (hkn j hj) e
   bytes:=fun i y hi hy=>?_
   apart:=fun i j k hi hj e1 e2=>hn.apart i ((hlv i).1 hi) j ((hlv j).1 hj) k e1 e2 }⟩
 ·rw [hn.disk]
  unfold B9
  have e1 : (S.crash keep t).used=Cn q (A5 S.sure (A6 S.acts keep t)):=by
   unfold Dk.used A1 Cn
   show ((A5 S.sure (A6 S.acts keep t)).map fun p=>Az (S.crash keep t).files p.2).sum=_
   congr 1
   refine List.map_congr_left fun p hp=>?_
   obtain ⟨x,hx⟩:=hlen p.2 (List.mem_map.2 ⟨p,hp,rfl⟩)
   have hc : (S.crash keep t).files[p.2]? = some ⟨x.b.take (x.sure+Ar (A6 S.acts keep t) p.2),x.sure+Ar (A6 S.acts keep t) p.2⟩:=by
    show (S.files.mapIdx _)[p.2]? = _
    rw [List.getElem?_mapIdx,hx]
    rfl
   have hle:=h.ok.quota keep t hx
   rw [hq _ _ hx]
   simp only [Az,hc,Option.map_some,Option.getD_some,List.length_take]
   omega
  rw [e1]
  rfl
 ·obtain ⟨g1,g2⟩:=hn.files i (hkn i hi)
  refine ⟨⟨g1,At g2⟩,?_⟩
  show w'.heap[fb2 i]? = some (.cells #[rv2 i, .int .i64 (q i : Int), .bool (decide (i∈ids (A5 S.sure (A6 S.acts keep t))))] _)
  rw [decide_eq_true (hkn i hi)]
  exact g2
 ·have hi':=(hlv i).1 hi
  obtain ⟨x,hx,rfl⟩:=Pm hy
  obtain ⟨g1,g2⟩:=hn.rows i hi'
  refine ⟨?_,?_,fun k hk=>⟨g2 k hk,?_⟩⟩
  ·show Value.int .i64 (q i : Int)=_
   rw [hq i x hx]
  ·show w'.ownsRow 0 _ 1 (rv2 i) (x.b.take _).length (bc (x.b.take _))
   have hle:=h.ok.quota keep t hx
   rw [List.length_take,Nat.min_eq_left hle,← hq i x hx]
   rw [hcut i x hx,← hq i x hx] at g1
   exact g1
  ·obtain ⟨cur,hcur⟩:=A2 g1 hk
   exact At hcur
theorem Rep.lies (h : Rep w F d S G) : Lies w G.fb (ids S.sure++(A4 S.acts++Br S.acts)):=by
 have hk : ∀ i∈ids S.sure++(A4 S.acts++Br S.acts),S.known i:=fun i hi=>by
  rcases List.mem_append.1 hi with hi | hi
  ·exact Or.inl (Or.inl hi)
  ·rcases List.mem_append.1 hi with hi | hi
   ·exact Or.inl (Or.inr hi)
   ·exact Or.inr hi
 exact ⟨fun i hi=>⟨_,(h.files i (hk i hi)).2⟩,fun i hi j hj e=>h.inj i j (hk i hi) (hk j hj) e⟩
theorem mcopy_rep {W : World} {o : Option Nat} {c : Nat} {fb : Nat→Nat} {l : Dir} (hs : Bx l) (hm : Be W F o (dv fb l)) (hc : Ak W c []) (hne : o≠some c) :
  Calls Tryz.prog 42 #[.map (some c), .map o] W fun e w'=>e = .returned (.tuple #[])∧Ak w' c (dv fb l)∧Chg (· = c) W w':=by
 cases o with
 | none=>
  have h0 : dv fb l = []:=hm
  refine (mcopy_nil W c).mono ?_
  rintro e w' ⟨he,hcg⟩
  rw [h0]
  exact ⟨he,hc.keep hcg (fun h=>h),hcg.mono fun _ _ h=>h.elim⟩
 | some b=>exact mcopy_some W b c fb l hs hm.2 hc (fun e=>hne (by rw [e]))
end
end Go.Proofs.YtblniomnhpedjaaGreatDoor
namespace Go.Proofs.YtblniomnhpedjaaGreatDoor
open Go.RowKit
def Dk.surely (S : Dk) (i : Nat) : Nat:=((S.files[i]?).map (·.sure)).getD 0
theorem sumQ_mono {q q' : Nat→Nat} {l : Dir} (h : ∀ i∈ids l,q i≤q' i) : Cn q l≤Cn q' l:=by
 induction l with
 | nil=>exact Nat.le_refl _
 | cons p r ih=>
  have h1:=h p.2 (List.mem_cons.2 (Or.inl rfl))
  have h2:=ih fun i hi=>h i (List.mem_cons.2 (Or.inr hi))
  unfold Cn at h2 ⊢
  simp
  omega
theorem Ps {ls : List Ac} {j : Nat} {a : Ac} (h : ls[j]? = some a) (i : Nat) : Ar (ls.take (j+1)) i=Ar (ls.take j) i+Ar [a] i:=by
 rw [List.take_add_one,h,Ew]
 rfl
theorem Of {f i k : Nat} (h : i≠f) : Ar [.more f k] i=0:=by
 simp only [Ar,List.map_cons,List.map_nil,List.sum_cons,List.sum_nil,if_neg (fun e : f=i=>h e.symm),Nat.add_zero]
theorem N1 (f k : Nat) : Ar [.more f k] f=k:=by simp [Ar]
theorem Nq (ls : List Ac) (j i : Nat) : Ar (ls.take j) i≤Ar ls i:=by
 have h1 : Ar ls i=Ar (ls.take j) i+Ar (ls.drop j) i:=by
  rw [← Ew,List.take_append_drop]
 omega
section
variable {w w' : World} {F : Nat→Prop} {d : Nat} {S : Dk} {G : Gh}
theorem more_le (h : Rep w F d S G) {f : Nat} (hf : f∈Br S.acts) : Ar S.acts f≤S.bulk:=by
 obtain ⟨x,hx⟩ : ∃ x,S.files[f]? = some x:=⟨_,List.getElem?_eq_getElem (h.ok.idM f hf)⟩
 have h1:=h.ok.lens f x hx
 have h2:=G7 hx
 omega
theorem Kt (h : Rep w F d S G) (hb : S.bulk<1099511627776) {keep t : Int} {W : World} {on om : Nat} {ml : List (Nat × Nat)} (hc : Chg (fun _=>False) w W) (hon : Ak W on (dv G.fb (A5 S.sure (A6 S.acts keep t)))) (hom : Ak W om (mv G.fb ml))
  (hml : ∀ p∈ml,p.1∈ids S.sure++(A4 S.acts++Br S.acts)) (hlk : ∀ i,B2 ml i=Ar (A6 S.acts keep t) i) :
  Calls Tryz.prog 43 #[.agg #[.map (some on), .map (some om)], .int .i64 (S.room : Int)] W fun e w'=>∃ d2 G2,e = .returned (.pointer (some ⟨d2,0,none⟩)) ∧
   Rep w' (fun k=>w.heap.size≤k∧k<w'.heap.size) d2 (S.crash keep t) G2∧Chg (fun _=>False) W w':=by
 have hW:=h.keep hc (fun _ _ h=>h) (fun _ h=>h)
 have hlive : ∀ i∈ids (A5 S.sure (A6 S.acts keep t)),S.live i:=fun i hi=>by
  rw [Gd] at hi
  exact (h.ok.upto _).2.2 i hi
 have hfl : ∀ i∈ids (A5 S.sure (A6 S.acts keep t)),∃ x,S.files[i]? = some x:=fun i hi=>⟨_,List.getElem?_eq_getElem (h.ok.liveLt (hlive i hi))⟩
 have hsu : ∀ i x,S.files[i]? = some x→S.surely i=x.sure∧S.bytes i=x.b:=fun i x hx=>by
  unfold Dk.surely Dk.bytes
  rw [hx]
  exact ⟨rfl,rfl⟩
 have hq : ∀ i∈ids (A5 S.sure (A6 S.acts keep t)),S.surely i+B2 ml i≤(S.bytes i).length:=fun i hi=>by
  obtain ⟨x,hx⟩:=hfl i hi
  rw [(hsu i x hx).1,(hsu i x hx).2,hlk]
  exact h.ok.quota keep t hx
 have hsn : Bx (A5 S.sure (A6 S.acts keep t))∧(ids (A5 S.sure (A6 S.acts keep t))).Nodup:=by
  rw [Gd]
  exact ⟨(h.ok.upto _).1,(h.ok.upto _).2.1⟩
 refine (odisk_any W on om (S.room : Int) G.fb _ ml (A5 S.sure (A6 S.acts keep t)) S.surely S.bytes hsn.2 hon hom hW.lies hml (fun i hi=>?_) hsn.1 (fun i hi=>?_) hq (fun i hi=>?_) ?_).mono ?_
 ·rcases hlive i hi with h1 | h1
  ·exact List.mem_append.2 (Or.inl h1)
  ·exact List.mem_append.2 (Or.inr (List.mem_append.2 (Or.inl h1)))
 ·obtain ⟨x,hx⟩:=hfl i hi
  obtain ⟨b1,b2,b3⟩:=hW.bytes i x (hlive i hi) hx
  have f2:=(hW.files i (Or.inl (hlive i hi))).2
  rw [b1,← (hsu i x hx).1] at f2
  exact ⟨_,_,f2,by rw [(hsu i x hx).2]; exact b2⟩
 ·obtain ⟨x,hx⟩:=hfl i hi
  rw [(hsu i x hx).2]
  have:=G7 hx
  omega
 ·have h1:=Kz (S:=S) hsn.2
  have h2 : Cn (fun i=>S.surely i+B2 ml i) (A5 S.sure (A6 S.acts keep t))≤A1 S.files (A5 S.sure (A6 S.acts keep t)):=by
   refine sumQ_mono (q':=Az S.files) fun i hi=>?_
   obtain ⟨x,hx⟩:=hfl i hi
   have:=hq i hi
   rw [(hsu i x hx).2] at this
   simpa [Az,hx] using this
  omega
 ·rintro e w' ⟨d2,nm,sm,fb2,rv2,he,hnew,hsm,hs1,hs2⟩
  obtain ⟨G2,hr⟩:=New.rep hW (keep:=keep) (t:=t) (fun i x hx=>by rw [(hsu i x hx).1,hlk]) (fun i x hx=>by rw [(hsu i x hx).1,(hsu i x hx).2,hlk]) hnew hsm hs1 hs2
  refine ⟨d2,G2,he,hr.mono fun k hk=>⟨Nat.le_trans hc.size hk.1,hk.2⟩,hnew.chg⟩
end
end Go.Proofs.YtblniomnhpedjaaGreatDoor
