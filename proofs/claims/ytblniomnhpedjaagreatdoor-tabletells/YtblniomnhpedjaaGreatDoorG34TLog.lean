/-
  Texts joined: TLog, TKeep, TSize, TNone, TRef, Shown1, TCalm, TSame, TLits, TCalm2.
-/
import Derived.Test.YtblniomnhpedjaaGreatDoorG33TOpen
import Derived.Test.YtblniomnhpedjaaGreatDoorG29Firm
import Derived.Laws.StructEq
namespace Go.Proofs.YtblniomnhpedjaaGreatDoor
open Go.RowKit
theorem pos_all : ∀ {l : List Af} {k : Bs},(∀ y∈l,ltB y.1 k=true)→posM l k=l.length
 | [],_,_=>rfl
 | y :: r,k,h=>by
  have ih:=pos_all (l:=r) (k:=k) (fun z hz=>h z (List.mem_cons_of_mem _ hz))
  unfold posM at ih ⊢
  rw [List.takeWhile_cons,if_pos (h y (by simp)),List.length_cons,List.length_cons,ih]
theorem done_last {l : List Af} {x : Af} (h : ∀ y∈l,ltB y.1 x.1=true) : Bu l (x.1,x.2,false)=l ++ [x]:=by
 have hp : posM l x.1=l.length:=pos_all h
 unfold Bu E3
 simp only [hp]
 rw [List.take_length,List.getElem?_eq_none (Nat.le_refl _),List.drop_eq_nil_of_le (by simp)]
 simp
theorem doneA_all : ∀ (r l : List Af),Bv (l++r)→Ak l (Bj r)=l++r
 | [],l,_=>by simp [Bj,Ak]
 | x :: r,l,h=>by
  have h1 : ∀ y∈l,ltB y.1 x.1=true:=fun y hy=>(List.pairwise_append.1 h).2.2 y hy x (by simp)
  have e : Ak l (Bj (x :: r))=Ak (Bu l (x.1,x.2,false)) (Bj r):=rfl
  rw [e,done_last h1,doneA_all r (l ++ [x]) (by rw [List.append_assoc]; exact h),List.append_assoc]
  rfl
theorem all_ok {l : List Af} (h : ∀ p∈l,okP p) : (Bj l).all Ce=true:=by
 rw [List.all_eq_true]
 intro p hp
 obtain ⟨x,hx,rfl⟩:=List.mem_map.1 hp
 have:=h x hx
 unfold okP at this
 unfold Ce
 simp
 omega
theorem text_all (l : List Af) : Be (Bj l)≤Ah l:=by
 unfold Be Bj Ah
 induction l with
 | nil=>simp
 | cons x r ih=>
  simp only [List.map_cons,List.sum_cons] at ih ⊢
  omega
theorem Ig {l : List Af} (h : ∀ p∈l,okP p) (hf : A9 l=true) : A8 (Bj l)=true:=by
 have h1:=El hf
 have h2:=text_all l
 unfold A8
 rw [all_ok h,show (Bj l).length=l.length from List.length_map _]
 simp
 omega
theorem laidf_cons (last : Option Bs) (p : Al) (r : List Al) : Cy last (p :: r)=(!p.2.2 && (match last with | none=>true | some q=>ltB q p.1) && Cy (some p.1) r):=by
 cases last <;> rfl
theorem laid_all (l : List Af) : ∀ (last : Option Bs),Bv l→(∀ q,last=some q→∀ x∈l,ltB q x.1=true)→Cy last (Bj l)=true:=by
 induction l with
 | nil=>intro _ _ _; rfl
 | cons x r ih=>
  intro last h hl
  have h1:=List.pairwise_cons.1 h
  have e : Bj (x :: r)=(x.1,x.2,false) :: Bj r:=rfl
  rw [e,laidf_cons,ih (some x.1) h1.2 (fun q hq y hy=>by injection hq with hq; subst hq; exact h1.1 y hy)]
  cases last with
  | none=>rfl
  | some q=>simp [hl q rfl x (by simp)]
theorem tab_anew {l : List Af} (hr : Bv l) (h : ∀ p∈l,okP p) (hf : A9 l=true) : Ct [(Bj l).map As]=some l:=by
 unfold Ct
 rw [C3,Kz _ (all_ok h)]
 have e : Ak [] (Bj l)=l:=by
  have:=doneA_all l [] (by simpa using hr)
  simpa using this
 simp only
 rw [Ig h hf,e,hf]
 have hlt : Dz (Bj l) true=true:=by
  unfold Dz
  rw [if_pos rfl]
  exact laid_all l none hr (fun q hq=>by cases hq)
 rw [hlt]
 rfl
theorem N6 : ∀ (gs : List (List Bs)) (l0 l : List Af) (first : Bool) (ps : List Al),C3 l0 gs first=some l→(gs = []→first=false)→A8 ps=true→ps ≠ []→A9 (Ak l ps)=true→C3 l0 (gs ++ [ps.map As]) first=some (Ak l ps)
 | [],l0,l,first,ps,h,hf,hr,hn,hfit=>by
  rw [C3] at h
  injection h with h
  subst h
  obtain rfl:=hf rfl
  rw [List.nil_append,C3,Kz _ (Eg hr).2.1]
  simp only
  have hlt : Dz ps false=true:=by
   unfold Dz
   rw [if_neg (by simp)]
   exact decide_eq_true (List.length_pos_iff.2 hn)
  rw [hr,hlt,hfit]
  rfl
 | g :: r,l0,l,first,ps,h,hf,hr,hn,hfit=>by
  rw [List.cons_append,C3]
  rw [C3] at h
  cases ht : Ci g with
  | none=>rw [ht] at h; cases h
  | some qs=>
   rw [ht] at h
   simp only at h ⊢
   by_cases hc : (A8 qs && Dz qs first && A9 (Ak l0 qs))=true
   ·rw [if_pos hc] at h ⊢
    exact N6 r _ l false ps h (fun _=>rfl) hr hn hfit
   ·rw [if_neg hc] at h
    cases h
theorem tab_more {gs : List (List Bs)} {l : List Af} {ps : List Al} (h : Ct gs=some l) (hg : gs ≠ []) (hr : A8 ps=true) (hn : ps ≠ []) (hf : A9 (Ak l ps)=true) : Ct (gs ++ [ps.map As])=some (Ak l ps):=
 N6 gs [] l true ps h (fun e=>absurd e hg) hr hn hf
theorem tab_none : Ct []=some []:=rfl
end Go.Proofs.YtblniomnhpedjaaGreatDoor
namespace Go.Proofs.YtblniomnhpedjaaGreatDoor
open Go.RowKit
theorem recs_len (ps : List Al) : ((ps.map As).map List.length).sum≤Be ps+20 * ps.length:=by
 unfold Be
 induction ps with
 | nil=>simp
 | cons p r ih=>
  have:=H9 p
  simp only [List.map_cons,List.sum_cons,List.length_cons] at ih ⊢
  omega
theorem Fw {ps : List Al} (h : A8 ps=true) : right (ps.map As)=true:=by
 have h1:=Eg h
 have h2:=recs_len ps
 unfold right
 rw [List.length_map,Bool.and_eq_true,decide_eq_true_eq,decide_eq_true_eq]
 omega
def TSays (z : Nm) (S : Dk) (L : Lw) (sure : Bool) (lp : List Af) (gs : List (List Bs)) : Prop:=Has z S L gs∧Ct gs=some lp∧(sure=true→gs ≠ [])
section
variable {z : Nm} {S : Dk} {L : Lw} {sure : Bool} {lp : List Af} {gs : List (List Bs)} {ps : List Al}
theorem lay_keep (h : TSays z S L sure lp gs) (hk : Ok S) (hz : An z=true) (hr : Bv lp) (hl : ∀ p∈lp,okP p) (hp : A8 ps=true) (hn : ps ≠ []) (hf : A9 (Ak lp ps)=true) :
  ∃ gs',Laid z (Bl S L sure ps (Ak lp ps)) gs gs'∧gs' ≠ []∧Ct gs'=some (Ak lp ps):=by
 obtain ⟨h1,h2,h3⟩:=h
 by_cases hc : sure=true∧L.wh+By (ps.map As)≤10000+2 * Ah (Ak lp ps)
 ·refine ⟨gs ++ [ps.map As],?_,by simp,tab_more h2 (h3 hc.1) hp hn hf⟩
  rw [Jb hc.1 hc.2]
  exact N8 h1 hk hz (Fw hp)
 ·have he:=Gq ps hl (Eg hp).2.1
  refine ⟨[(Bj (Ak lp ps)).map As],?_,by simp,tab_anew (Kr hr ps) he hf⟩
  rw [G0 hc]
  exact reset_has h1 hk (Fw (Ig he hf))
end
end Go.Proofs.YtblniomnhpedjaaGreatDoor
namespace Go.Proofs.YtblniomnhpedjaaGreatDoor
open Go.RowKit
theorem body_most (rs : List Bs) : (Ag rs).length≤(rs.map fun r=>10+r.length).sum:=by
 induction rs with
 | nil=>simp [Ag]
 | cons r rs ih=>
  have:=txt_le r
  rw [Fq,List.length_append,List.map_cons,List.sum_cons]
  omega
theorem grp_most (rs : List Bs) : (grp Ai rs).length≤By rs:=by
 have:=body_most rs
 rw [D5 Cu]
 unfold By
 omega
theorem body_anew : ∀ (l : List Af),(∀ p∈l,okP p)→(Ag ((Bj l).map As)).length≤Ah l
 | [],_=>by simp [Bj,Ag]
 | x :: r,h=>by
  have ih:=body_anew r (fun p hp=>h p (List.mem_cons_of_mem _ hp))
  have hx:=h x (by simp)
  unfold okP at hx
  have e : (Bj (x :: r)).map As=As (x.1,x.2,false) :: (Bj r).map As:=rfl
  have h1:=H7 (r:=x.1) (by omega)
  have h2:=H7 (r:=x.2) (by omega)
  have e2 : As (x.1,x.2,false)=txt x.1++txt x.2:=rfl
  have h3 : (As (x.1,x.2,false)).length≤x.1.length+x.2.length+8:=by
   rw [e2,List.length_append]
   omega
  have h4:=H7 (r:=As (x.1,x.2,false)) (by omega)
  rw [e,Fq,List.length_append,Gv]
  omega
theorem grp_anew {l : List Af} (h : ∀ p∈l,okP p) : (grp Ai ((Bj l).map As)).length≤16+Ah l:=by
 have:=body_anew l h
 rw [D5 Cu]
 omega
section
variable {z : Nm} {S : Dk} {L : Lw} {sure : Bool} {lp : List Af} {gs : List (List Bs)} {ps : List Al}
theorem lay_small (h : TSays z S L sure lp gs) (hk : Ok S) (hz : An z=true) (hl : ∀ p∈lp,okP p) (hp : A8 ps=true) (hf : A9 (Ak lp ps)=true)
  (h0 : (Bl S L sure ps (Ak lp ps)).2.2=0) : (Bl S L sure ps (Ak lp ps)).2.1.wh≤10000+2 * Ah (Ak lp ps):=by
 obtain ⟨h1,-,-⟩:=h
 by_cases hc : sure=true∧L.wh+By (ps.map As)≤10000+2 * Ah (Ak lp ps)
 ·rw [Jb hc.1 hc.2] at h0 ⊢
  obtain ⟨-,tl,-,q,-⟩:=(N8 h1 hk hz (Fw hp)).1 h0
  obtain ⟨-,tl2,-,q2,-⟩:=h1
  have:=grp_most (ps.map As)
  rw [q,Mu,Fe,List.length_append]
  omega
 ·have he:=Gq ps hl (Eg hp).2.1
  rw [G0 hc] at h0 ⊢
  obtain ⟨-,tl,-,q,-⟩:=(reset_has h1 hk (Fw (Ig he hf))).1 h0
  have:=grp_anew he
  rw [q,Fe]
  omega
end
end Go.Proofs.YtblniomnhpedjaaGreatDoor
namespace Go.Proofs.YtblniomnhpedjaaGreatDoor
open Go.RowKit
end Go.Proofs.YtblniomnhpedjaaGreatDoor
namespace Go.Proofs.YtblniomnhpedjaaGreatDoor
open Go.RowKit
def PrT (w : World) (v : Value) (l : List Af) : Prop:=
 ∃ ao cap,v = .slice ao l.length cap∧l.length≤cap∧cap≤maxLen∧(l ≠ []→∃ b off,ao=some ⟨b,off,none⟩∧b<w.heap.size∧∀ j (h : j<l.length),w.cell? ⟨b,off+j * 2,none⟩=some (.string (Ae l[j].1))∧w.cell? ⟨b,off+j * 2+1,none⟩=some (.string (Ae l[j].2)))
theorem weightT_take (l : List Af) {k : Nat} (h : k<l.length) : Ah (l.take (k+1))=Ah (l.take k)+(16+l[k].1.length+l[k].2.length):=by
 rw [E2 l h,He,Gv]
 simp [Ah]
theorem weightT_le (l : List Af) (k : Nat) : Ah (l.take k)≤Ah l:=by
 have h : Ah l=Ah (l.take k)+Ah (l.drop k):=by rw [← He,List.take_append_drop]
 omega
set_option maxRecDepth 20000 in
theorem Me (w : World) (v : Value) (l : List Af) (hv : PrT w v l) (hm : Ah l≤4611686018427387904) :
  Calls Tryz.prog 34 #[v] w fun e w'=>e = .returned (.int .i64 (Ah l))∧Chg (fun _=>False) w w':=by
 obtain ⟨ao,cap,rfl,h1,h2,h4⟩:=hv
 unfold maxLen at h2
 go_enter Tryz.func34,Tryz.ntmps34
 go_wp2_with fail
 go_loopw [4,3] (fun t u wr=>∃ k : Nat,k≤l.length∧t = .int .i64 k∧u = .int .i64 (Ah (l.take k))∧Chg (fun _=>False) w wr)
  (fun t _ _=>l.length - (intOf t).toNat)
 case atStart=>exact ⟨0,by omega,rfl,by simp [Ah],Chg.refl _ _⟩
 case round=>
  obtain ⟨k,hk,rfl,rfl,hch⟩:=hrel
  by_cases hlt : k<l.length
  ·obtain ⟨b,off,rfl,hbl,hc⟩:=h4 (by intro e; rw [e] at hlt; simp at hlt)
   have c0:=(World.cell?_of_block (w:=w) (a:=⟨b,off+k * 2,none⟩) (hch.block b hbl (fun h=>h))).trans (hc k hlt).1
   have c1:=(World.cell?_of_block (w:=w) (a:=⟨b,off+k * 2+1,none⟩) (hch.block b hbl (fun h=>h))).trans (hc k hlt).2
   have htk:=weightT_take l hlt
   have hle:=weightT_le l (k+1)
   generalize l[k]=x at *
   have hx1:=B6 x.1
   have hx2:=B6 x.2
   obtain ⟨tk,htk1⟩ : ∃ tk,tk=Ah (l.take k):=⟨_,rfl⟩
   obtain ⟨tn,htn1⟩ : ∃ tn,tn=Ah (l.take (k+1)):=⟨_,rfl⟩
   rw [← htk1,← htn1] at htk
   rw [← htn1] at hle
   rw [← htk1]
   have q1 : IntKind.i64.wrap ((tk : Int)+16)=(tk : Int)+16:=by simp [IntKind.wrap,IntKind.bits,IntKind.signed]; omega
   have q2 : IntKind.i64.wrap ((tk : Int)+16+(x.1.length : Int))=(tk : Int)+16+(x.1.length : Int):=by simp [IntKind.wrap,IntKind.bits,IntKind.signed]; omega
   have q3 : IntKind.i64.wrap ((tk : Int)+16+(x.1.length : Int)+(x.2.length : Int))=(tn : Int):=by
    rw [show (tk : Int)+16+(x.1.length : Int)+(x.2.length : Int)=(tn : Int) by omega]
    simp [IntKind.wrap,IntKind.bits,IntKind.signed]
    omega
   have HN:=Ab (And.intro htn1 hch)
   clear hc htk hle htk1 htn1 hch
   go_wp2_with fail
   refine wp_region_held_drew (S:=fun W=>W.cell? ⟨b,off+k * 2,none⟩=some (.string (Ae x.1))∧W.cell? ⟨b,off+k * 2+1,none⟩=some (.string (Ae x.2))) (by kernel_rfl) (⟨c0,c1⟩) (fun hHeld=>?_)
   refine Aa (i:=0) (v:=?_) rfl (by kernel_rfl) (by kernel_rfl) (by kernel_rfl) (fun _ _ _ h=>h) rfl ?_ hHeld ?_
   rotate_left
   ·intro w hS; (try dsimp only at hS); obtain ⟨hS0,hS1⟩:=hS; go_simp; first | done | (with_reducible rfl)
   try simp only [Act.put,List.setIfInBounds_toArray,List.set_cons_zero,List.set_cons_succ]
   refine Aa (i:=1) (v:=?_) rfl (by kernel_rfl) (by kernel_rfl) (by kernel_rfl) (fun _ _ _ h=>h) rfl ?_ hHeld ?_
   rotate_left
   ·intro w hS; (try dsimp only at hS); obtain ⟨hS0,hS1⟩:=hS; go_simp; first | done | (with_reducible rfl)
   try simp only [Act.put,List.setIfInBounds_toArray,List.set_cons_zero,List.set_cons_succ]
   refine Aa (i:=2) (v:=?_) rfl (by kernel_rfl) (by kernel_rfl) (by kernel_rfl) (fun _ _ _ h=>h) rfl ?_ hHeld ?_
   rotate_left
   ·intro w hS; (try dsimp only at hS); obtain ⟨hS0,hS1⟩:=hS; go_simp; first | done | (with_reducible rfl)
   try simp only [Act.put,List.setIfInBounds_toArray,List.set_cons_zero,List.set_cons_succ]
   refine Aa (i:=3) (v:=?_) rfl (by kernel_rfl) (by kernel_rfl) (by kernel_rfl) (fun _ _ _ h=>h) rfl ?_ hHeld ?_
   rotate_left
   ·intro w hS; (try dsimp only at hS); obtain ⟨hS0,hS1⟩:=hS; go_simp; first | done | (with_reducible rfl)
   try simp only [Act.put,List.setIfInBounds_toArray,List.set_cons_zero,List.set_cons_succ]
   refine Aa (i:=4) (v:=?_) rfl (by kernel_rfl) (by kernel_rfl) (by kernel_rfl) (fun _ _ _ h=>h) rfl ?_ hHeld ?_
   rotate_left
   ·intro w hS; (try dsimp only at hS); obtain ⟨hS0,hS1⟩:=hS; go_simp; first | done | (with_reducible rfl)
   try simp only [Act.put,List.setIfInBounds_toArray,List.set_cons_zero,List.set_cons_succ]
   refine Aa (i:=5) (v:=?_) rfl (by kernel_rfl) (by kernel_rfl) (by kernel_rfl) (fun _ _ _ h=>h) rfl ?_ hHeld ?_
   rotate_left
   ·intro w hS; (try dsimp only at hS); obtain ⟨hS0,hS1⟩:=hS; go_simp; first | done | (with_reducible rfl)
   try simp only [Act.put,List.setIfInBounds_toArray,List.set_cons_zero,List.set_cons_succ]
   refine Aa (i:=6) (v:=?_) rfl (by kernel_rfl) (by kernel_rfl) (by kernel_rfl) (fun _ _ _ h=>h) rfl ?_ hHeld ?_
   rotate_left
   ·intro w hS; (try dsimp only at hS); obtain ⟨hS0,hS1⟩:=hS; go_simp; first | done | (with_reducible rfl)
   try simp only [Act.put,List.setIfInBounds_toArray,List.set_cons_zero,List.set_cons_succ]
   refine Aa (i:=7) (v:=?_) rfl (by kernel_rfl) (by kernel_rfl) (by kernel_rfl) (fun _ _ _ h=>h) rfl ?_ hHeld ?_
   rotate_left
   ·intro w hS; (try dsimp only at hS); obtain ⟨hS0,hS1⟩:=hS; go_simp; first | done | (with_reducible rfl)
   try simp only [Act.put,List.setIfInBounds_toArray,List.set_cons_zero,List.set_cons_succ]
   refine Aa (i:=8) (v:=?_) rfl (by kernel_rfl) (by kernel_rfl) (by kernel_rfl) (fun _ _ _ h=>h) rfl ?_ hHeld ?_
   rotate_left
   ·intro w hS; (try dsimp only at hS); obtain ⟨hS0,hS1⟩:=hS; go_simp; first | done | (with_reducible rfl)
   try simp only [Act.put,List.setIfInBounds_toArray,List.set_cons_zero,List.set_cons_succ]
   refine Aa (i:=9) (v:=?_) rfl (by kernel_rfl) (by kernel_rfl) (by kernel_rfl) (fun _ _ _ h=>h) rfl ?_ hHeld ?_
   rotate_left
   ·intro w hS; (try dsimp only at hS); obtain ⟨hS0,hS1⟩:=hS; go_simp; first | done | (with_reducible rfl)
   try simp only [Act.put,List.setIfInBounds_toArray,List.set_cons_zero,List.set_cons_succ]
   refine Aa (i:=10) (v:=?_) rfl (by kernel_rfl) (by kernel_rfl) (by kernel_rfl) (fun _ _ _ h=>h) rfl ?_ hHeld ?_
   rotate_left
   ·intro w hS; (try dsimp only at hS); obtain ⟨hS0,hS1⟩:=hS; go_simp; first | done | (with_reducible rfl)
   try simp only [Act.put,List.setIfInBounds_toArray,List.set_cons_zero,List.set_cons_succ]
   refine Aa (i:=11) (v:=?_) rfl (by kernel_rfl) (by kernel_rfl) (by kernel_rfl) (fun _ _ _ h=>h) rfl ?_ hHeld ?_
   rotate_left
   ·intro w hS; (try dsimp only at hS); obtain ⟨hS0,hS1⟩:=hS; go_simp; first | done | (with_reducible rfl)
   try simp only [Act.put,List.setIfInBounds_toArray,List.set_cons_zero,List.set_cons_succ]
   refine Aa (i:=12) (v:=?_) rfl (by kernel_rfl) (by kernel_rfl) (by kernel_rfl) (fun _ _ _ h=>h) rfl ?_ hHeld ?_
   rotate_left
   ·intro w hS; (try dsimp only at hS); obtain ⟨hS0,hS1⟩:=hS; go_simp; first | done | (with_reducible rfl)
   try simp only [Act.put,List.setIfInBounds_toArray,List.set_cons_zero,List.set_cons_succ]
   refine Aa (i:=13) (v:=?_) rfl (by kernel_rfl) (by kernel_rfl) (by kernel_rfl) (fun _ _ _ h=>h) rfl ?_ hHeld ?_
   rotate_left
   ·intro w hS; (try dsimp only at hS); obtain ⟨hS0,hS1⟩:=hS; go_simp; first | done | (with_reducible rfl)
   try simp only [Act.put,List.setIfInBounds_toArray,List.set_cons_zero,List.set_cons_succ]
   refine Aa (i:=14) (v:=?_) rfl (by kernel_rfl) (by kernel_rfl) (by kernel_rfl) (fun _ _ _ h=>h) rfl ?_ hHeld ?_
   rotate_left
   ·intro w hS; (try dsimp only at hS); obtain ⟨hS0,hS1⟩:=hS; go_simp; first | done | (with_reducible rfl)
   try simp only [Act.put,List.setIfInBounds_toArray,List.set_cons_zero,List.set_cons_succ]
   refine Aa (i:=15) (v:=?_) rfl (by kernel_rfl) (by kernel_rfl) (by kernel_rfl) (fun _ _ _ h=>h) rfl ?_ hHeld ?_
   rotate_left
   ·intro w hS; (try dsimp only at hS); obtain ⟨hS0,hS1⟩:=hS; go_simp; first | done | (with_reducible rfl)
   try simp only [Act.put,List.setIfInBounds_toArray,List.set_cons_zero,List.set_cons_succ]
   refine Aa (i:=16) (v:=?_) rfl (by kernel_rfl) (by kernel_rfl) (by kernel_rfl) (fun _ _ _ h=>h) rfl ?_ hHeld ?_
   rotate_left
   ·intro w hS; (try dsimp only at hS); obtain ⟨hS0,hS1⟩:=hS; go_simp; first | done | (with_reducible rfl)
   try simp only [Act.put,List.setIfInBounds_toArray,List.set_cons_zero,List.set_cons_succ]
   refine wpAnyH_done (by kernel_rfl) ?_ _
   clear hHeld
   go_wp2
   go_roundw
   case rel=>exact ⟨k+1,by omega,by go_num,by rw [HN.out.1],HN.out.2.drew⟩
   case measure=>simp [intOf]; omega
  ·have hkl : k=l.length:=by omega
   subst hkl
   rw [List.take_length]
   go_wp2
   go_ret
   exact ⟨rfl,hch⟩
end Go.Proofs.YtblniomnhpedjaaGreatDoor
namespace Go.Proofs.YtblniomnhpedjaaGreatDoor
open Go.RowKit
variable {B : Nat} {w w' : World} {F : Nat→Prop} {d l : Nat} {z : Nm} {gs : List (List (List UInt8))} {v : Value} {m M : Nat}
theorem Eo.keep {X : Nat→Prop} (h : Eo B w F d l z gs m M) (hc : Chg X w w') (hX : ∀ k,F k→¬ X k) (hl : ¬ X l) : Eo B w' F d l z gs m M:=by
 obtain ⟨S,L,h1,h2⟩:=h
 exact ⟨S,L,h1.keep hc hX hl,h2⟩
theorem Eo.quiet (h : Eo B w F d l z gs m M) (hc : Chg (fun _=>False) w w') : Eo B w' F d l z gs m M:=h.keep hc (fun _ _ h=>h) (fun h=>h)
theorem Eo.low (h : Eo B w F d l z gs m M) : (∀ k,F k→k<w.heap.size)∧l<w.heap.size:=by
 obtain ⟨S,L,h1,h2⟩:=h
 exact ⟨fun k hk=>(h1.1.2.1 k hk).2,h1.lt⟩
theorem Lp (w : World) (cs : List Value) (t : TypeId) (j : Nat) (u : Value) (h : cs[j]? = some u) : (w.alloc (.cells cs.toArray t)).cell? ⟨w.heap.size,j,none⟩=some u:=by
 have:=Ad (Aq w (.cells cs.toArray t)) j
 rw [this]
 simpa using h
theorem Ep (w : World) (o : Obj) : Chg (fun _=>False) w (w.alloc o):=(Chg.refl _ w).alloc o
end Go.Proofs.YtblniomnhpedjaaGreatDoor
namespace Go.Proofs.YtblniomnhpedjaaGreatDoor
open Go.RowKit
def Bg (lp : List Af) (ps : List Al) : Int:=if A8 ps=false then 130 else if A9 (Ak lp ps)=false then 131 else 0
def Ck (lp : List Af) (ps : List Al) : List Af:=if Bg lp ps=0 then Ak lp ps else lp
def Bo (B : Nat) (w : World) (F : Nat→Prop) (d g t b : Nat) (z : Nm) (S : Dk) (lp : List Af) (m M : Nat) : Prop:=∃ L sure gs,TabL B w F d g t b S L sure lp∧TSays z S L sure lp gs∧Bx S∧S.bulk≤m∧S.room=M∧L.wh≤3000000
section
variable {B : Nat} {w w' : World} {F : Nat→Prop} {d g t b : Nat} {z : Nm} {S : Dk} {L : Lw} {sure : Bool} {lp : List Af} {gs : List (List Bs)} {ps : List Al} {v : Value} {m M : Nat}
theorem Io (h : A8 ps=false) : Bg lp ps=130:=by unfold Bg; rw [if_pos h]
theorem Ia (h : A8 ps=true) (h2 : A9 (Ak lp ps)=false) : Bg lp ps=131:=by unfold Bg; rw [if_neg (by rw [h]; simp),if_pos h2]
theorem ans_ok (h : A8 ps=true) (h2 : A9 (Ak lp ps)=true) : Bg lp ps=0:=by unfold Bg; rw [if_neg (by rw [h]; simp),if_neg (by rw [h2]; simp)]
theorem I6 (h : Bg lp ps=0) : Ck lp ps=Ak lp ps:=by unfold Ck; rw [if_pos h]
theorem Hs (h : Bg lp ps≠0) : Ck lp ps=lp:=by unfold Ck; rw [if_neg h]
theorem wh_bulk (h : Has z S L gs) : L.wh≤(S.bulk : Int):=by
 obtain ⟨-,tail,⟨-,-,hF⟩,q,-⟩:=h
 rcases hF with ⟨-,e⟩ | ⟨f,hK⟩
 ·have:=congrArg List.length e
  rw [List.length_append,List.length_nil] at this
  omega
 ·obtain ⟨x,hx,hb,-⟩:=hK.file
  have h1 : x.b.length≤(S.files.map fun f=>f.b.length).sum:=J4 (List.mem_map.2 ⟨x,List.mem_of_getElem? hx,rfl⟩)
  rw [hb,List.length_append] at h1
  unfold Dk.bulk
  omega
theorem Mt {k : Nat} (h : TSays z S L sure lp gs) (hk : Ok S) (hz : Cf z=true) (hr : Bv lp) (hl : ∀ p∈lp,okP p) (hf0 : A9 lp=true) (hc : Bx S) (hroom : S.bulk+k≤S.room) (hw : L.wh≤3000000)
  (hkb : A8 ps=true→A9 (Ak lp ps)=true→L.wh+By (ps.map As)+Ah (Ak lp ps)+100≤k) :
  (Bh S L sure lp ps).2.2.2.2=Bg lp ps∧(Bh S L sure lp ps).2.2.2.1=Ck lp ps∧(∃ gs',TSays z (Bh S L sure lp ps).1 (Bh S L sure lp ps).2.1 (Bh S L sure lp ps).2.2.1 (Ck lp ps) gs')
  ∧Bx (Bh S L sure lp ps).1∧((Bh S L sure lp ps).1.bulk≤S.bulk+2200000∧(Bh S L sure lp ps).1.bulk≤S.bulk+k)∧(Bh S L sure lp ps).1.room=S.room∧(Bh S L sure lp ps).2.1.wh≤3000000∧(Bg lp ps≠0∨ps = []→(Bh S L sure lp ps).1=S):=by
 have hnm:=isLg_nm hz
 have hwh0 : 0≤L.wh:=by
  obtain ⟨⟨-,tail,-,q,-⟩,-⟩:=h
  omega
 cases hp : A8 ps with
 | false=>
  have ha : Bg lp ps=130:=Io hp
  have hn : Ck lp ps=lp:=Hs (by rw [ha]; decide)
  rw [Jz hp,ha,hn]
  exact ⟨rfl,rfl,⟨gs,h⟩,hc,⟨Nat.le_add_right _ _,Nat.le_add_right _ _⟩,rfl,hw,fun _=>rfl⟩
 | true=>
  by_cases h0 : ps = []
  ·have ha : Bg lp ps=0:=ans_ok hp (by rw [h0]; exact hf0)
   have hn : Ck lp ps=lp:=by rw [I6 ha,h0]; rfl
   rw [K9 hp h0,ha,hn]
   exact ⟨rfl,rfl,⟨gs,h⟩,hc,⟨Nat.le_add_right _ _,Nat.le_add_right _ _⟩,rfl,hw,fun _=>rfl⟩
  ·cases hf : A9 (Ak lp ps) with
   | false=>
    have ha : Bg lp ps=131:=Ia hp hf
    have hn : Ck lp ps=lp:=Hs (by rw [ha]; decide)
    rw [La hp h0 hf,ha,hn]
    exact ⟨rfl,rfl,⟨gs,h⟩,hc,⟨Nat.le_add_right _ _,Nat.le_add_right _ _⟩,rfl,hw,fun _=>rfl⟩
   | true=>
    have ha : Bg lp ps=0:=ans_ok hp hf
    have hn : Ck lp ps=Ak lp ps:=I6 ha
    have hfl:=El hf
    have hlay : (Bl S L sure ps (Ak lp ps)).2.2=0∧Alt S (Bl S L sure ps (Ak lp ps)).1∧(Bl S L sure ps (Ak lp ps)).1.bulk≤S.bulk+2200000∧(Bl S L sure ps (Ak lp ps)).1.bulk≤S.bulk+k:=by
     have hkk:=hkb hp hf
     obtain ⟨h1,h2,h3⟩:=h
     by_cases hcnd : sure=true∧L.wh+By (ps.map As)≤10000+2 * Ah (Ak lp ps)
     ·rw [Jb hcnd.1 hcnd.2]
      have hgm:=grp_most (ps.map As)
      have hlw : L.wh=((laid Ai gs).length : Int):=by
       obtain ⟨-,tail,-,q,-⟩:=h1
       exact q
      have hca:=calm_appendW h1 hc hk hnm.1 hnm.2 (Fw hp) (by omega)
      have hbu:=bulk_appendW (rs:=ps.map As) h1
      exact ⟨hca.1,hca.2,by omega,by omega⟩
     ·rw [G0 hcnd]
      have he:=Gq ps hl (Eg hp).2.1
      have hga:=grp_anew he
      have hca:=calm_resetW h1 hc hk hnm.1 hnm.2 (Fw (Ig he hf)) (by omega)
      have hbu:=bulk_resetW S L ((Bj (Ak lp ps)).map As)
      exact ⟨hca.1,hca.2,by omega,by omega⟩
    have hsm:=lay_small h hk hnm.1 hl hp hf hlay.1
    obtain ⟨gs',q1,q2,q3⟩:=lay_keep h hk hnm.1 hr hl hp h0 hf
    rw [commit_ok hp h0 hf hlay.1,ha,hn]
    exact ⟨rfl,rfl,⟨gs',q1.1 hlay.1,q3,fun _=>q2⟩,hlay.2.1.calm hc,hlay.2.2,hlay.2.1.2.2,Int.le_trans hsm (by omega),fun e=>e.elim (fun e=>absurd rfl e) (fun e=>absurd e h0)⟩
theorem Bo.tab (h : Bo B w F d g t b z S lp m M) : ∃ sure,TabAt w t b g sure lp:=by
 obtain ⟨L,sure,gs,h1,-⟩:=h
 exact ⟨sure,h1.tab⟩
theorem Bo.fit (h : Bo B w F d g t b z S lp m M) : A9 lp=true∧(∀ p∈lp,okP p)∧Bv lp:=by
 obtain ⟨L,sure,gs,h1,-⟩:=h
 exact ⟨h1.fit,h1.each,h1.tab.rise⟩
theorem Bo.stands (h : Bo B w F d g t b z S lp m M) : Bm B w F d S∧S.bulk≤m∧Bx S:=by
 obtain ⟨L,sure,gs,h1,-,h2,h3,-⟩:=h
 exact ⟨h1.log.1,h3,h2⟩
theorem Bo.keep {X : Nat→Prop} (h : Bo B w F d g t b z S lp m M) (hc : Chg X w w') (hF : ∀ k,F k→¬ X k) (h1 : ¬ X t) (h2 : ¬ X b) (h3 : ¬ X g) : Bo B w' F d g t b z S lp m M:=by
 obtain ⟨L,sure,gs,k1,k2⟩:=h
 exact ⟨L,sure,gs,k1.keep hc hF h1 h2 h3,k2⟩
theorem Bo.quiet (h : Bo B w F d g t b z S lp m M) (hc : Chg (fun _=>False) w w') : Bo B w' F d g t b z S lp m M:=h.keep hc (fun _ _ h=>h) (fun h=>h) (fun h=>h) (fun h=>h)
theorem Bo.low (h : Bo B w F d g t b z S lp m M) : (∀ k,F k→B≤k∧k<w.heap.size)∧(B≤g∧g<w.heap.size)∧(B≤t∧t<w.heap.size)∧(B≤b∧b<w.heap.size):=by
 obtain ⟨L,sure,gs,k1,-⟩:=h
 exact ⟨k1.log.1.2.1,⟨k1.log.2.2.2.1,k1.log.lt⟩,⟨k1.bt,At k1.tab.cells⟩,⟨k1.bb,k1.tab.map.lt⟩⟩
theorem Bo.belowC (h : Bo B w F d g t b z S lp m M) (hc : Chg (fun k=>F k∨k=g∨k=t) w w') : Below B w w':=by
 have hl:=h.low
 refine hc.below (fun k hk=>?_) (by omega)
 rcases hk with hk | rfl | rfl
 ·exact (hl.1 k hk).1
 ·exact hl.2.1.1
 ·exact hl.2.2.1.1
theorem Bo.more {m' : Nat} (h : Bo B w F d g t b z S lp m M) (hm : m≤m') : Bo B w F d g t b z S lp m' M:=by
 obtain ⟨L,sure,gs,h1,h2,h3,h4,h5⟩:=h
 exact ⟨L,sure,gs,h1,h2,h3,Nat.le_trans h4 hm,h5⟩
theorem Oh {k : Nat} (h : Bo B w F d g t b z S lp m M) (hz : Cf z=true) (hv : PsT w v ps) (hB0 : 0<B) (hT : Bi w) (hm : 2 * m<999999990) (hM : m+k≤M)
  (hkb : ∀ wh : Int,wh≤3000000→wh≤m→A8 ps=true→A9 (Ak lp ps)=true→wh+By (ps.map As)+Ah (Ak lp ps)+100≤k) {x : Nat} (hx : x=2200000∨x=k) :
  Calls Tryz.prog 29 #[.pointer (some ⟨t,0,none⟩),v] w fun e w'=>e = .returned (.int .i64 (Bg lp ps))∧∃ F' b' S',Bo B w' F' d g t b' z S' (Ck lp ps) (m+x) M∧(Bg lp ps≠0∨ps = []→S'=S) ∧
   (∀ k,F' k→F k∨w.heap.size≤k)∧(b'=b∨w.heap.size≤b')∧Chg (fun k=>F k∨k=g∨k=t) w w':=by
 obtain ⟨L,sure,gs,h1,h2,h3,h4,h5,h6⟩:=h
 have hwb:=wh_bulk h2.1
 obtain ⟨p1,p2,⟨gs',p3⟩,p4,p5,p6,p7,p8⟩:=Mt (ps:=ps) (k:=k) h2 h1.log.1.ok hz h1.tab.rise h1.each h1.fit h3 (by omega) h6 (hkb L.wh h6 (by omega))
 have hwh : 0≤L.wh:=by
  obtain ⟨⟨-,tail,-,q,-⟩,-⟩:=h2
  omega
 refine (Nd h1 hv hB0 hT (by omega) ⟨hwh,by omega⟩).mono ?_
 rintro e w' ⟨rfl,F',b',k1,k2,k3,k4⟩
 rw [p2] at k1
 exact ⟨by rw [p1],F',b',_,⟨_,_,gs',k1,p3,p4,by omega,p6.trans h5,p7⟩,p8,k2,k3,k4⟩
theorem Ko {k : Nat} (h : Bo B w F d g t b z S lp m M) (hz : Cf z=true) (hv : PsT w v ps) (hB0 : 0<B) (hT : Bi w) (hm : 2 * m<999999990) (hM : m+k≤M) (hk : m+(130+30 * ps.length+Be ps)+Ah (Ak lp ps)≤k) :
  Calls Tryz.prog 29 #[.pointer (some ⟨t,0,none⟩),v] w fun e w'=>e = .returned (.int .i64 (Bg lp ps))∧∃ F' b' S',Bo B w' F' d g t b' z S' (Ck lp ps) (m+k) M∧(Bg lp ps≠0∨ps = []→S'=S) ∧
   (∀ k,F' k→F k∨w.heap.size≤k)∧(b'=b∨w.heap.size≤b')∧Chg (fun k=>F k∨k=g∨k=t) w w':=
 Oh (k:=k) h hz hv hB0 hT hm hM (fun wh _ h2 _ _=>by have:=most_le ps; omega) (.inr rfl)
theorem Lk {tail : List UInt8} (h : Bm B w F d S) (ho : On z S gs tail) (hto : Ct gs=some lp) (hgl : (laid Ai gs).length≤3000000) (hc : Bx S) (hz : Cf z=true) (hB : B≤w.heap.size) (hB0 : 0<B) (hT : Bi w) (hb : S.bulk<1000000000) :
  Calls Tryz.prog 14 #[.pointer (some ⟨d,0,none⟩), .string (Ae z)] w fun e w'=>∃ t b g F',e = .returned (.tuple #[.pointer (some ⟨t,0,none⟩), .int .i64 0])∧Bo B w' F' d g t b z S.begun lp (S.bulk+1) S.room ∧
   (∀ k,F' k→F k∨w.heap.size≤k)∧w.heap.size≤t∧w.heap.size≤b∧w.heap.size≤g∧Chg F w w':=by
 have hnm:=isLg_nm hz
 have hlk:=ho.look hnm.1 (Ff hc) (hc.2 _)
 refine (Kc h hB hB0 hT hb z hz (fun y hy g hg=>?_)).mono ?_
 ·rw [hlk] at hy
  injection hy with hy
  subst hy
  have hr:=ho.1 g hg
  refine ⟨?_,fun r hr'=>by have:=Fh hr r hr'; omega⟩
  unfold right at hr
  simp only [Bool.and_eq_true,decide_eq_true_eq] at hr
  omega
 ·rintro e w' hO
  unfold Fd at hO
  rw [hlk] at hO
  simp only [hto] at hO
  obtain ⟨t,b,g,F',rfl,h1,h2,h3,h4,h5,h6⟩:=hO
  exact ⟨t,b,g,F',rfl,⟨_,false,gs,h1,⟨ho.begun.has false,hto,fun e=>by cases e⟩,(Ej S).calm hc,Fj S,(Ej S).2.2,by simp only; omega⟩,h2,h3,h4,h5,h6⟩
theorem tcrash_calm (h : Bo B w F d g t b z S lp m M) (hm : m<1000000000) (keep tn : Int) :
  Calls Tryz.prog 23 #[.pointer (some ⟨d,0,none⟩), .int .i64 keep, .int .i64 tn] w fun e w'=>∃ d2 F2 S2 tail gs,e = .returned (.pointer (some ⟨d2,0,none⟩))∧Bm B w' F2 d2 S2∧On z S2 gs tail∧Ct gs=some lp∧(laid Ai gs).length≤3000000∧Bx S2∧S2.bulk≤m∧(∀ k,F2 k→w.heap.size≤k)∧Chg (fun _=>False) w w':=by
 obtain ⟨L,sure,gs,h1,⟨⟨hn,tail,ho,hw1,hw2⟩,hto,-⟩,hc,hb,hM,hw⟩:=h
 have hbc:=bulk_crash (S:=S) keep tn
 refine (crash_lies h1.log.1 h1.log.size keep tn (by omega)).mono ?_
 rintro e w' ⟨d2,F2,rfl,h3,h4,h5⟩
 exact ⟨d2,F2,_,tail,gs,rfl,h3,ho.crash h1.log.1.ok keep tn,hto,by omega,calm_crash keep tn,by omega,h4,h5⟩
end
end Go.Proofs.YtblniomnhpedjaaGreatDoor
namespace Go.Proofs.YtblniomnhpedjaaGreatDoor
open Go.RowKit
theorem toL (l : List UInt8) : (Ae l).toList=l:=by rw [ByteArray.toList_eq]; exact C5 l
theorem Tryz.eqPair : Tryz.prog.underlying 75=some (.struct (Tryz.prog.fieldsOf 75))∧Tryz.prog.stoodInHeld 75=false∧Tryz.prog.eqGuardType Tryz.prog.depth 75=false:=⟨by kernel_rfl,by kernel_rfl,by kernel_rfl⟩
def same1 (x y : Af) : Bool:=decide (x=y)
theorem same1_true {x y : Af} (h : x=y) : same1 x y=true:=decide_eq_true h
theorem same1_false {x y : Af} (h : ¬ x=y) : same1 x y=false:=decide_eq_false h
theorem neq_Pair (W : World) (a0 b0 a1 b1 : Bs) : (binOp .neq 75 (.agg #[.string (Ae a0), .string (Ae a1)]) (.agg #[.string (Ae b0), .string (Ae b1)])).run Tryz.prog W = .ok (.bool (!(a0 == b0 && a1 == b1))) W:=by
 obtain ⟨h1,h2,h3⟩:=Tryz.eqPair
 rw [run_neq_struct,run_equalIn_agg _ _ _ _ _ h1 h2]
 simp only [Program.fieldsOf,Tryz.underlying75]
 by_cases q0 : a0=b0 <;> by_cases q1 : a1=b1 <;> simp [Op.eqFields,go_sem,Tryz.underlying9,toL,q0,q1]
theorem neqPair (W : World) (x y : Af) : (binOp .neq 75 (.agg #[.string (Ae x.1), .string (Ae x.2)]) (.agg #[.string (Ae y.1), .string (Ae y.2)])).run Tryz.prog W = .ok (.bool (!(same1 x y))) W:=by
 rw [neq_Pair,show (x.1 == y.1 && x.2 == y.2)=same1 x y from by unfold same1; rw [Bool.eq_iff_iff]; simp [Prod.ext_iff]]
theorem Iu (l : List Af) (j i : Nat) (hj : j<l.length) (u : Value) (hu : (prC l[j])[i]? = some u) : (l.flatMap prC)[j * 2+i]? = some u:=by
 induction l generalizing j with
 | nil=>simp at hj
 | cons x r ih=>
  rw [List.flatMap_cons]
  have hx : (prC x).length=2:=rfl
  cases j with
  | zero=>
   simp only [List.getElem_cons_zero] at hu
   have hi : i<(prC x).length:=(List.getElem?_eq_some_iff.1 hu).1
   rw [Nat.zero_mul,Nat.zero_add,List.getElem?_append_left hi]
   exact hu
  | succ j=>
   simp only [List.getElem_cons_succ] at hu
   rw [List.getElem?_append_right (by rw [hx]; omega),hx,show (j+1) * 2+i - 2=j * 2+i by omega]
   exact ih j (by simpa using hj) hu
theorem Cx.pr {B : Nat} {w : World} {v : Value} {l : List Af} (h : Cx B w v l) : PrT w v l:=by
 have h':=h
 obtain ⟨-,⟨rfl,h0⟩ | ⟨g,cap,cur,rfl,-,hh,hc,hm,-⟩⟩:=h'
 ·obtain rfl : l = []:=List.eq_nil_of_length_eq_zero h0
  exact ⟨none,0,rfl,by simp,by simp,fun h=>absurd rfl h⟩
 ·refine ⟨_,_,rfl,hc,hm,fun _=>⟨g,0,rfl,At hh,fun j hj=>⟨?_,?_⟩⟩⟩
  ·have:=World.ownsRow.cells h (g:=g) rfl _ _ (Iu l j 0 hj _ rfl)
   rw [Addr.add_lit] at this
   simpa using this
  ·have:=World.ownsRow.cells h (g:=g) rfl _ _ (Iu l j 1 hj _ rfl)
   rw [Addr.add_lit] at this
   rwa [Nat.add_assoc]
theorem PrT.keepB {B : Nat} {w w' : World} {v : Value} {l : List Af} (h : PrT w v l) (hb : Below w.heap.size w w') (_ : B≤B) : PrT w' v l:=by
 obtain ⟨ao,cap,hv,h1,h2,h4⟩:=h
 refine ⟨ao,cap,hv,h1,h2,fun hl=>?_⟩
 obtain ⟨b,off,ha,hlt,hc⟩:=h4 hl
 exact ⟨b,off,ha,Nat.lt_of_lt_of_le hlt hb.size,fun j hj=>⟨(World.cell?_of_block (w:=w) (hb.block b hlt)).trans (hc j hj).1,(World.cell?_of_block (w:=w) (hb.block b hlt)).trans (hc j hj).2⟩⟩
theorem PrT.quiet {w w' : World} {v : Value} {l : List Af} (h : PrT w v l) (hc : Chg (fun _=>False) w w') : PrT w' v l:=h.keepB (B:=0) (hc.below (fun _ h=>h.elim) (Nat.le_refl _)) (Nat.le_refl _)
theorem PrT.form {w : World} {v : Value} {l : List Af} (h : PrT w v l) : ∃ ao cap,v = .slice ao l.length cap:=by
 obtain ⟨ao,cap,hv,-⟩:=h
 exact ⟨ao,cap,hv⟩
theorem prT_built (w : World) (xs : List Af) (t : TypeId) (hl : xs.length≤maxLen) : PrT (w.alloc (.cells (xs.flatMap prC).toArray t)) (.slice (some ⟨w.heap.size,0,none⟩) xs.length xs.length) xs:=
 ⟨_,_,rfl,Nat.le_refl _,hl,fun _=>⟨w.heap.size,0,rfl,by simp,fun j hj=>⟨by rw [Nat.zero_add]; exact Lp w _ t _ _ (Iu xs j 0 hj _ rfl),by rw [Nat.zero_add]; exact Lp w _ t _ _ (Iu xs j 1 hj _ rfl)⟩⟩⟩
set_option maxRecDepth 20000 in
set_option maxHeartbeats 800000 in
theorem J5 (w : World) (xs ys : List Af) (vx vy : Value) (hvx : PrT w vx xs) (hvy : PrT w vy ys) :
  Calls Tryz.prog 31 #[vx,vy] w fun e w'=>e = .returned (.bool (decide (xs=ys)))∧Chg (fun _=>False) w w':=by
 obtain ⟨ax,capx,rfl,gx1,gx2,hx⟩:=hvx
 obtain ⟨ay,capy,rfl,gy1,gy2,hy⟩:=hvy
 unfold maxLen at gx2 gy2
 by_cases hle : xs.length=ys.length
 rotate_left
 ·have hle' : ((xs.length : Int) == (ys.length : Int))=false:=by simp; omega
  go_enter Tryz.func31,Tryz.ntmps31
  go_wp2_with fail
  skip
  try go_wp2
  go_ret
  exact ⟨Dv (Eq.symm (decide_eq_false (fun e=>hle (congrArg List.length e)))),Chg.refl _ _⟩
 rw [hle] at gx1 ⊢
 have HLE:=Ab hle
 clear hle
 go_enter Tryz.func31,Tryz.ntmps31
 go_wp2_with fail
 skip
 go_loopw [5] (fun t wr=>∃ k : Nat,k≤ys.length∧t = .int .i64 k∧xs.take k=ys.take k∧Chg (fun _=>False) w wr)
  (fun t _=>ys.length - (intOf t).toNat)
 case atStart=>exact ⟨0,by omega,rfl,by simp,Chg.refl _ _⟩
 case round=>
  obtain ⟨k,hk,rfl,htk,hbr⟩:=hrel
  have HB:=Ab hbr
  have HTK:=Ab htk
  clear hbr htk
  by_cases hlt2 : k<ys.length
  ·have hlt : k<xs.length:=by rw [HLE.out]; exact hlt2
   obtain ⟨bx,offx,rfl,hbX,hcx⟩:=hx (by intro e; rw [e] at hlt; simp at hlt)
   obtain ⟨bY,offy,rfl,hbYl,hcy⟩:=hy (by intro e; rw [e] at hlt2; simp at hlt2)
   have c0:=(World.cell?_of_block (w:=w) (a:=⟨bx,offx+k * 2,none⟩) (HB.out.block bx hbX (fun h=>h))).trans (hcx k hlt).1
   have c1:=(World.cell?_of_block (w:=w) (a:=⟨bx,offx+k * 2+1,none⟩) (HB.out.block bx hbX (fun h=>h))).trans (hcx k hlt).2
   have d0:=(World.cell?_of_block (w:=w) (a:=⟨bY,offy+k * 2,none⟩) (HB.out.block bY hbYl (fun h=>h))).trans (hcy k hlt2).1
   have d1:=(World.cell?_of_block (w:=w) (a:=⟨bY,offy+k * 2+1,none⟩) (HB.out.block bY hbYl (fun h=>h))).trans (hcy k hlt2).2
   have hst:=fun he=>take_one HTK.out hlt hlt2 he
   have hno : xs[k]≠ys[k]→xs≠ys:=fun hne e=>hne (by simp only [e])
   generalize xs[k]=x at *
   generalize ys[k]=y at *
   have HST:=Ab hst
   have HNO:=Ab hno
   have hnq : ∀ W,_:=fun W=>neqPair W x y
   clear hst hno hcx hcy hx hy hlt
   go_wp2_with fail
   refine wp_region_held_drew (S:=fun W=>W.cell? ⟨bx,offx+k * 2,none⟩=some (.string (Ae x.1))∧W.cell? ⟨bx,offx+k * 2+1,none⟩=some (.string (Ae x.2))∧W.cell? ⟨bY,offy+k * 2,none⟩=some (.string (Ae y.1))∧W.cell? ⟨bY,offy+k * 2+1,none⟩=some (.string (Ae y.2))) (by kernel_rfl) (⟨c0,c1,d0,d1⟩) (fun hHeld=>?_)
   refine Aa (i:=0) (v:=?_) rfl (by kernel_rfl) (by kernel_rfl) (by kernel_rfl) (fun _ _ _ h=>h) rfl ?_ hHeld ?_
   rotate_left
   ·intro w hS; (try dsimp only at hS); obtain ⟨hS0,hS1,hS2,hS3⟩:=hS; go_simp; first | done | (with_reducible rfl)
   try simp only [Act.put,List.setIfInBounds_toArray,List.set_cons_zero,List.set_cons_succ]
   refine Aa (i:=1) (v:=?_) rfl (by kernel_rfl) (by kernel_rfl) (by kernel_rfl) (fun _ _ _ h=>h) rfl ?_ hHeld ?_
   rotate_left
   ·intro w hS; (try dsimp only at hS); obtain ⟨hS0,hS1,hS2,hS3⟩:=hS; go_simp; first | done | (with_reducible rfl)
   try simp only [Act.put,List.setIfInBounds_toArray,List.set_cons_zero,List.set_cons_succ]
   refine Aa (i:=2) (v:=?_) rfl (by kernel_rfl) (by kernel_rfl) (by kernel_rfl) (fun _ _ _ h=>h) rfl ?_ hHeld ?_
   rotate_left
   ·intro w hS; (try dsimp only at hS); obtain ⟨hS0,hS1,hS2,hS3⟩:=hS; go_simp; first | done | (with_reducible rfl)
   try simp only [Act.put,List.setIfInBounds_toArray,List.set_cons_zero,List.set_cons_succ]
   refine Aa (i:=3) (v:=?_) rfl (by kernel_rfl) (by kernel_rfl) (by kernel_rfl) (fun _ _ _ h=>h) rfl ?_ hHeld ?_
   rotate_left
   ·intro w hS; (try dsimp only at hS); obtain ⟨hS0,hS1,hS2,hS3⟩:=hS; go_simp; first | done | (with_reducible rfl)
   try simp only [Act.put,List.setIfInBounds_toArray,List.set_cons_zero,List.set_cons_succ]
   refine Aa (i:=4) (v:=?_) rfl (by kernel_rfl) (by kernel_rfl) (by kernel_rfl) (fun _ _ _ h=>h) rfl ?_ hHeld ?_
   rotate_left
   ·intro w hS; (try dsimp only at hS); obtain ⟨hS0,hS1,hS2,hS3⟩:=hS; go_simp; first | done | (with_reducible rfl)
   try simp only [Act.put,List.setIfInBounds_toArray,List.set_cons_zero,List.set_cons_succ]
   refine Aa (i:=5) (v:=?_) rfl (by kernel_rfl) (by kernel_rfl) (by kernel_rfl) (fun _ _ _ h=>h) rfl ?_ hHeld ?_
   rotate_left
   ·intro w hS; (try dsimp only at hS); obtain ⟨hS0,hS1,hS2,hS3⟩:=hS; go_simp; first | done | (with_reducible rfl)
   try simp only [Act.put,List.setIfInBounds_toArray,List.set_cons_zero,List.set_cons_succ]
   refine Aa (i:=6) (v:=?_) rfl (by kernel_rfl) (by kernel_rfl) (by kernel_rfl) (fun _ _ _ h=>h) rfl ?_ hHeld ?_
   rotate_left
   ·intro w hS; (try dsimp only at hS); obtain ⟨hS0,hS1,hS2,hS3⟩:=hS; go_simp; first | done | (with_reducible rfl)
   try simp only [Act.put,List.setIfInBounds_toArray,List.set_cons_zero,List.set_cons_succ]
   refine Aa (i:=7) (v:=?_) rfl (by kernel_rfl) (by kernel_rfl) (by kernel_rfl) (fun _ _ _ h=>h) rfl ?_ hHeld ?_
   rotate_left
   ·intro w hS; (try dsimp only at hS); obtain ⟨hS0,hS1,hS2,hS3⟩:=hS; go_simp; first | done | (with_reducible rfl)
   try simp only [Act.put,List.setIfInBounds_toArray,List.set_cons_zero,List.set_cons_succ]
   refine Aa (i:=8) (v:=?_) rfl (by kernel_rfl) (by kernel_rfl) (by kernel_rfl) (fun _ _ _ h=>h) rfl ?_ hHeld ?_
   rotate_left
   ·intro w hS; (try dsimp only at hS); obtain ⟨hS0,hS1,hS2,hS3⟩:=hS; go_simp; first | done | (with_reducible rfl)
   try simp only [Act.put,List.setIfInBounds_toArray,List.set_cons_zero,List.set_cons_succ]
   refine wpAnyH_done (by kernel_rfl) ?_ _
   clear hHeld hnq
   have HBD:=Ab HB.out.drew
   by_cases he : x=y
   ·have hbe:=same1_true he
    rw [hbe]
    go_wp2
    go_roundw
    case rel=>exact ⟨k+1,by omega,by go_num,HST.out he,HBD.out⟩
    case measure=>simp [intOf]; omega
   ·have hbe:=same1_false he
    rw [hbe]
    go_wp2
    go_ret
    exact ⟨Dv (Eq.symm (decide_eq_false (fun e=>HNO.out he (e)))),HBD.out⟩
  ·have hall : xs=ys:=by
    have:=HTK.out
    have hL:=HLE.out
    rwa [List.take_of_length_le (by omega),List.take_of_length_le (by omega)] at this
   go_wp2
   go_ret
   exact ⟨Dv (Eq.symm (decide_eq_true (hall))),HB.out⟩
end Go.Proofs.YtblniomnhpedjaaGreatDoor
namespace Go.Proofs.YtblniomnhpedjaaGreatDoor
open Go.RowKit
theorem Ju (w : World) (ps : List Al) (t : TypeId) (hl : ps.length≤maxLen) : PsT (w.alloc (.cells (ps.flatMap Cq).toArray t)) (.slice (some ⟨w.heap.size,0,none⟩) ps.length ps.length) ps:=
 ⟨_,_,rfl,Nat.le_refl _,hl,fun _=>⟨w.heap.size,0,rfl,by simp,fun j hj i u hu=>by rw [Nat.zero_add]; exact Lp w _ t _ _ (Kw ps j i hj u hu)⟩⟩
theorem PsT.form {w : World} {v : Value} {l : List Al} (h : PsT w v l) : ∃ ao cap,v = .slice ao l.length cap:=by
 obtain ⟨ao,cap,hv,-⟩:=h
 exact ⟨ao,cap,hv⟩
theorem PsT.keepB {w w' : World} {v : Value} {l : List Al} (h : PsT w v l) (hb : Below w.heap.size w w') : PsT w' v l:=h.quiet (Dt hb)
theorem PsT.at {w : World} {ao : Option Addr} {n cap : Nat} {l : List Al} (h : PsT w (.slice ao n cap) l) {j : Nat} (hj : j<l.length) :
  ∃ b off,ao=some ⟨b,off,none⟩∧b<w.heap.size∧w.cell? ⟨b,off+j * 3,none⟩=some (.string (Ae l[j].1))∧w.cell? ⟨b,off+j * 3+1,none⟩=some (.string (Ae l[j].2.1))∧w.cell? ⟨b,off+j * 3+2,none⟩=some (.bool l[j].2.2):=by
 obtain ⟨ao',cap',hv,-,-,h4⟩:=h
 injection hv with e1 e2 e3
 subst e1
 obtain ⟨b,off,ha,hb,hc⟩:=h4 (by intro e; rw [e] at hj; simp at hj)
 exact ⟨b,off,ha,hb,by simpa using hc j hj 0 _ rfl,by simpa using hc j hj 1 _ rfl,by simpa using hc j hj 2 _ rfl⟩
theorem PrT.at {w : World} {ao : Option Addr} {n cap : Nat} {l : List Af} (h : PrT w (.slice ao n cap) l) {j : Nat} (hj : j<l.length) :
  ∃ b off,ao=some ⟨b,off,none⟩∧b<w.heap.size∧w.cell? ⟨b,off+j * 2,none⟩=some (.string (Ae l[j].1))∧w.cell? ⟨b,off+j * 2+1,none⟩=some (.string (Ae l[j].2)):=by
 obtain ⟨ao',cap',hv,-,-,h4⟩:=h
 injection hv with e1 e2 e3
 subst e1
 obtain ⟨b,off,ha,hb,hc⟩:=h4 (by intro e; rw [e] at hj; simp at hj)
 exact ⟨b,off,ha,hb,(hc j hj).1,(hc j hj).2⟩
theorem PsT.len {w : World} {v : Value} {l : List Al} (h : PsT w v l) : l.length≤9223372036854775807:=by
 obtain ⟨ao,cap,-,h1,h2,-⟩:=h
 unfold maxLen at h2
 omega
theorem PrT.len {w : World} {v : Value} {l : List Af} (h : PrT w v l) : l.length≤9223372036854775807:=by
 obtain ⟨ao,cap,-,h1,h2,-⟩:=h
 unfold maxLen at h2
 omega
def RTab (w : World) (r : Nat) (l : List Af) : Prop:=∃ u,w.heap[r]? = some (.cells #[u] 70)∧PrT w u l
theorem RTab.keepB {w w' : World} {r : Nat} {l : List Af} (h : RTab w r l) (hb : Below w.heap.size w w') : RTab w' r l:=by
 obtain ⟨u,h1,h2⟩:=h
 exact ⟨u,(hb.block r (At h1)).trans h1,h2.keepB (B:=0) hb (Nat.le_refl _)⟩
theorem RTab.lt {w : World} {r : Nat} {l : List Af} (h : RTab w r l) : r<w.heap.size:=by
 obtain ⟨u,h1,-⟩:=h
 exact At h1
end Go.Proofs.YtblniomnhpedjaaGreatDoor
namespace Go.Proofs.YtblniomnhpedjaaGreatDoor
open Go.RowKit
section
variable {B : Nat} {w w' : World} {F : Nat→Prop} {d g t b : Nat} {z : Nm} {S : Dk} {lp : List Af} {m M : Nat}
theorem tlen_calm (h : Bo B w F d g t b z S lp m M) : Calls Tryz.prog 30 #[.pointer (some ⟨t,0,none⟩)] w fun e w'=>e = .returned (.int .i64 lp.length)∧w'=w:=by
 obtain ⟨sure,h1⟩:=h.tab
 exact K7 h1
theorem tall_calm (h : Bo B w F d g t b z S lp m M) (pre : Bs) (hp : pre.length≤4611686018427387904) :
  Calls Tryz.prog 32 #[.pointer (some ⟨t,0,none⟩), .string (Ae pre)] w fun e w'=>∃ v,e = .returned v∧PrT w' v (lp.filter fun p=>pre.isPrefixOf p.1)∧Below w.heap.size w w':=by
 obtain ⟨sure,h1⟩:=h.tab
 obtain ⟨hf,he,-⟩:=h.fit
 have hfl:=El hf
 refine (tall_any h1 pre hp (fun p hq=>by have:=he p hq; unfold okP at this; omega) (by omega)).mono ?_
 rintro e w' ⟨v,rfl,h2,h3⟩
 exact ⟨v,rfl,h2.pr,h3⟩
theorem Ma (l : List Af) : l.filter (fun p=>([] : Bs).isPrefixOf p.1)=l:=Mv l
end
set_option maxRecDepth 20000 in
theorem topen_bad (w : World) (d : Nat) (n : Nm) (hn : Cf n=false) : Calls Tryz.prog 14 #[.pointer (some ⟨d,0,none⟩), .string (Ae n)] w fun e w'=>e = .returned (.tuple #[.pointer none, .int .i64 130])∧w'=w:=by
 have ho:=open_bad w d n hn
 have ha : Calls Tryz.prog 39 #[.int .i64 50] w fun x w'=>x = .returned (.int .i64 130)∧w'=w:=Id w 50
 go_enter Tryz.func14,Tryz.ntmps14
 go_wp2_with fail
 refine ho.mono ?_
 rintro e w1 ⟨rfl,rfl⟩
 go_wp2_with fail
 refine ha.mono ?_
 rintro e w2 ⟨rfl,rfl⟩
 go_wp2
 go_ret2
 exact ⟨rfl,rfl⟩
end Go.Proofs.YtblniomnhpedjaaGreatDoor
