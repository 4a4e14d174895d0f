/-
  Texts joined: TLog, TKeep, TSize, TNone, TRef, Shown1, TCalm, TSame, TLits, TDigits, Pick.
-/
import Derived.Test.YtblniomnhpedjaaGreatDoorF33TOpen
import Derived.Test.YtblniomnhpedjaaGreatDoorF29Firm
import Derived.Laws.StructEq
import Derived.Test.YtblniomnhpedjaaGreatDoorF1Chg
namespace Go.Proofs.YtblniomnhpedjaaGreatDoor
open Go.RowKit
theorem pos_all : ∀ {l : List Af} {k : Bs},(∀ y∈l,ltB y.1 k=true)→posM l k=l.length
 | [],_,_=>rfl
 | y :: r,k,h=>by
  have ih:=pos_all (l:=r) (k:=k) (fun z hz=>h z (List.mem_cons_of_mem _ hz))
  unfold posM at ih ⊢
  rw [List.takeWhile_cons,if_pos (h y (by simp)),List.length_cons,List.length_cons,ih]
theorem done_last {l : List Af} {x : Af} (h : ∀ y∈l,ltB y.1 x.1=true) : B9 l (x.1,x.2,false)=l ++ [x]:=by
 have hp : posM l x.1=l.length:=pos_all h
 unfold B9 Ey
 simp only [hp]
 rw [List.take_length,List.getElem?_eq_none (Nat.le_refl _),List.drop_eq_nil_of_le (by simp)]
 simp
theorem doneA_all : ∀ (r l : List Af),Bq (l++r)→Ak l (Bd r)=l++r
 | [],l,_=>by simp [Bd,Ak]
 | x :: r,l,h=>by
  have h1 : ∀ y∈l,ltB y.1 x.1=true:=fun y hy=>(List.pairwise_append.1 h).2.2 y hy x (by simp)
  have e : Ak l (Bd (x :: r))=Ak (B9 l (x.1,x.2,false)) (Bd r):=rfl
  rw [e,done_last h1,doneA_all r (l ++ [x]) (by rw [List.append_assoc]; exact h),List.append_assoc]
  rfl
theorem all_ok {l : List Af} (h : ∀ p∈l,okP p) : (Bd l).all Ce=true:=by
 rw [List.all_eq_true]
 intro p hp
 obtain ⟨x,hx,rfl⟩:=List.mem_map.1 hp
 have:=h x hx
 unfold okP at this
 unfold Ce
 simp
 omega
theorem text_all (l : List Af) : Br (Bd l)≤Ag l:=by
 unfold Br Bd Ag
 induction l with
 | nil=>simp
 | cons x r ih=>
  simp only [List.map_cons,List.sum_cons] at ih ⊢
  omega
theorem Hw {l : List Af} (h : ∀ p∈l,okP p) (hf : Bc l=true) : Ba (Bd l)=true:=by
 have h1:=En hf
 have h2:=text_all l
 unfold Ba
 rw [all_ok h,show (Bd l).length=l.length from List.length_map _]
 simp
 omega
theorem laidf_cons (last : Option Bs) (p : Al) (r : List Al) : Ct last (p :: r)=(!p.2.2 && (match last with | none=>true | some q=>ltB q p.1) && Ct (some p.1) r):=by
 cases last <;> rfl
theorem laid_all (l : List Af) : ∀ (last : Option Bs),Bq l→(∀ q,last=some q→∀ x∈l,ltB q x.1=true)→Ct last (Bd l)=true:=by
 induction l with
 | nil=>intro _ _ _; rfl
 | cons x r ih=>
  intro last h hl
  have h1:=List.pairwise_cons.1 h
  have e : Bd (x :: r)=(x.1,x.2,false) :: Bd r:=rfl
  rw [e,laidf_cons,ih (some x.1) h1.2 (fun q hq y hy=>by injection hq with hq; subst hq; exact h1.1 y hy)]
  cases last with
  | none=>rfl
  | some q=>simp [hl q rfl x (by simp)]
theorem tab_anew {l : List Af} (hr : Bq l) (h : ∀ p∈l,okP p) (hf : Bc l=true) : Cs [(Bd l).map As]=some l:=by
 unfold Cs
 rw [C0,Kj _ (all_ok h)]
 have e : Ak [] (Bd l)=l:=by
  have:=doneA_all l [] (by simpa using hr)
  simpa using this
 simp only
 rw [Hw h hf,e,hf]
 have hlt : Dt (Bd l) true=true:=by
  unfold Dt
  rw [if_pos rfl]
  exact laid_all l none hr (fun q hq=>by cases hq)
 rw [hlt]
 rfl
theorem Nj : ∀ (gs : List (List Bs)) (l0 l : List Af) (first : Bool) (ps : List Al),C0 l0 gs first=some l→(gs = []→first=false)→Ba ps=true→ps ≠ []→Bc (Ak l ps)=true→C0 l0 (gs ++ [ps.map As]) first=some (Ak l ps)
 | [],l0,l,first,ps,h,hf,hr,hn,hfit=>by
  rw [C0] at h
  injection h with h
  subst h
  obtain rfl:=hf rfl
  rw [List.nil_append,C0,Kj _ (Er hr).2.1]
  simp only
  have hlt : Dt ps false=true:=by
   unfold Dt
   rw [if_neg (by simp)]
   exact decide_eq_true (List.length_pos_iff.2 hn)
  rw [hr,hlt,hfit]
  rfl
 | g :: r,l0,l,first,ps,h,hf,hr,hn,hfit=>by
  rw [List.cons_append,C0]
  rw [C0] at h
  cases ht : Cd g with
  | none=>rw [ht] at h; cases h
  | some qs=>
   rw [ht] at h
   simp only at h ⊢
   by_cases hc : (Ba qs && Dt qs first && Bc (Ak l0 qs))=true
   ·rw [if_pos hc] at h ⊢
    exact Nj r _ l false ps h (fun _=>rfl) hr hn hfit
   ·rw [if_neg hc] at h
    cases h
theorem tab_more {gs : List (List Bs)} {l : List Af} {ps : List Al} (h : Cs gs=some l) (hg : gs ≠ []) (hr : Ba ps=true) (hn : ps ≠ []) (hf : Bc (Ak l ps)=true) : Cs (gs ++ [ps.map As])=some (Ak l ps):=
 Nj gs [] l true ps h (fun e=>absurd e hg) hr hn hf
theorem tab_none : Cs []=some []:=rfl
end Go.Proofs.YtblniomnhpedjaaGreatDoor
namespace Go.Proofs.YtblniomnhpedjaaGreatDoor
open Go.RowKit
theorem recs_len (ps : List Al) : ((ps.map As).map List.length).sum≤Br ps+20 * ps.length:=by
 unfold Br
 induction ps with
 | nil=>simp
 | cons p r ih=>
  have:=Hq p
  simp only [List.map_cons,List.sum_cons,List.length_cons] at ih ⊢
  omega
theorem Ff {ps : List Al} (h : Ba ps=true) : right (ps.map As)=true:=by
 have h1:=Er h
 have h2:=recs_len ps
 unfold right
 rw [List.length_map,Bool.and_eq_true,decide_eq_true_eq,decide_eq_true_eq]
 omega
def TSays (z : Nm) (S : Dk) (L : Lw) (sure : Bool) (lp : List Af) (gs : List (List Bs)) : Prop:=Has z S L gs∧Cs gs=some lp∧(sure=true→gs ≠ [])
section
variable {z : Nm} {S : Dk} {L : Lw} {sure : Bool} {lp : List Af} {gs : List (List Bs)} {ps : List Al}
theorem lay_keep (h : TSays z S L sure lp gs) (hk : Ok S) (hz : An z=true) (hr : Bq lp) (hl : ∀ p∈lp,okP p) (hp : Ba ps=true) (hn : ps ≠ []) (hf : Bc (Ak lp ps)=true) :
  ∃ gs',Laid z (Bh S L sure ps (Ak lp ps)) gs gs'∧gs' ≠ []∧Cs gs'=some (Ak lp ps):=by
 obtain ⟨h1,h2,h3⟩:=h
 by_cases hc : sure=true∧L.wh+Bt (ps.map As)≤10000+2 * Ag (Ak lp ps)
 ·refine ⟨gs ++ [ps.map As],?_,by simp,tab_more h2 (h3 hc.1) hp hn hf⟩
  rw [I2 hc.1 hc.2]
  exact Nl h1 hk hz (Ff hp)
 ·have he:=Gb ps hl (Er hp).2.1
  refine ⟨[(Bd (Ak lp ps)).map As],?_,by simp,tab_anew (Ka hr ps) he hf⟩
  rw [Gm hc]
  exact reset_has h1 hk (Ff (Hw he hf))
end
end Go.Proofs.YtblniomnhpedjaaGreatDoor
namespace Go.Proofs.YtblniomnhpedjaaGreatDoor
open Go.RowKit
theorem body_most (rs : List Bs) : (Ah rs).length≤(rs.map fun r=>10+r.length).sum:=by
 induction rs with
 | nil=>simp [Ah]
 | cons r rs ih=>
  have:=txt_le r
  rw [Fc,List.length_append,List.map_cons,List.sum_cons]
  omega
theorem grp_most (rs : List Bs) : (grp Aj rs).length≤Bt rs:=by
 have:=body_most rs
 rw [Es C2]
 unfold Bt
 omega
theorem body_anew : ∀ (l : List Af),(∀ p∈l,okP p)→(Ah ((Bd l).map As)).length≤Ag l
 | [],_=>by simp [Bd,Ah]
 | x :: r,h=>by
  have ih:=body_anew r (fun p hp=>h p (List.mem_cons_of_mem _ hp))
  have hx:=h x (by simp)
  unfold okP at hx
  have e : (Bd (x :: r)).map As=As (x.1,x.2,false) :: (Bd r).map As:=rfl
  have h1:=Hp (r:=x.1) (by omega)
  have h2:=Hp (r:=x.2) (by omega)
  have e2 : As (x.1,x.2,false)=txt x.1++txt x.2:=rfl
  have h3 : (As (x.1,x.2,false)).length≤x.1.length+x.2.length+8:=by
   rw [e2,List.length_append]
   omega
  have h4:=Hp (r:=As (x.1,x.2,false)) (by omega)
  rw [e,Fc,List.length_append,Ew]
  omega
theorem grp_anew {l : List Af} (h : ∀ p∈l,okP p) : (grp Aj ((Bd l).map As)).length≤16+Ag l:=by
 have:=body_anew l h
 rw [Es C2]
 omega
section
variable {z : Nm} {S : Dk} {L : Lw} {sure : Bool} {lp : List Af} {gs : List (List Bs)} {ps : List Al}
theorem lay_small (h : TSays z S L sure lp gs) (hk : Ok S) (hz : An z=true) (hl : ∀ p∈lp,okP p) (hp : Ba ps=true) (hf : Bc (Ak lp ps)=true)
  (h0 : (Bh S L sure ps (Ak lp ps)).2.2=0) : (Bh S L sure ps (Ak lp ps)).2.1.wh≤10000+2 * Ag (Ak lp ps):=by
 obtain ⟨h1,-,-⟩:=h
 by_cases hc : sure=true∧L.wh+Bt (ps.map As)≤10000+2 * Ag (Ak lp ps)
 ·rw [I2 hc.1 hc.2] at h0 ⊢
  obtain ⟨-,tl,-,q,-⟩:=(Nl h1 hk hz (Ff hp)).1 h0
  obtain ⟨-,tl2,-,q2,-⟩:=h1
  have:=grp_most (ps.map As)
  rw [q,L3,E7,List.length_append]
  omega
 ·have he:=Gb ps hl (Er hp).2.1
  rw [Gm hc] at h0 ⊢
  obtain ⟨-,tl,-,q,-⟩:=(reset_has h1 hk (Ff (Hw he hf))).1 h0
  have:=grp_anew he
  rw [q,E7]
  omega
end
end Go.Proofs.YtblniomnhpedjaaGreatDoor
namespace Go.Proofs.YtblniomnhpedjaaGreatDoor
open Go.RowKit
end Go.Proofs.YtblniomnhpedjaaGreatDoor
namespace Go.Proofs.YtblniomnhpedjaaGreatDoor
open Go.RowKit
def PrT (w : World) (v : Value) (l : List Af) : Prop:=
 ∃ ao cap,v = .slice ao l.length cap∧l.length≤cap∧cap≤maxLen∧(l ≠ []→∃ b off,ao=some ⟨b,off,none⟩∧b<w.heap.size∧∀ j (h : j<l.length),w.cell? ⟨b,off+j * 2,none⟩=some (.string (Ad l[j].1))∧w.cell? ⟨b,off+j * 2+1,none⟩=some (.string (Ad l[j].2)))
theorem weightT_take (l : List Af) {k : Nat} (h : k<l.length) : Ag (l.take (k+1))=Ag (l.take k)+(16+l[k].1.length+l[k].2.length):=by
 rw [Ev l h,Dv,Ew]
 simp [Ag]
theorem weightT_le (l : List Af) (k : Nat) : Ag (l.take k)≤Ag l:=by
 have h : Ag l=Ag (l.take k)+Ag (l.drop k):=by rw [← Dv,List.take_append_drop]
 omega
set_option maxRecDepth 20000 in
theorem Lm (w : World) (v : Value) (l : List Af) (hv : PrT w v l) (hm : Ag l≤4611686018427387904) :
  Calls Tryz.prog 34 #[v] w fun e w'=>e = .returned (.int .i64 (Ag l))∧Chg (fun _=>False) w w':=by
 obtain ⟨ao,cap,rfl,h1,h2,h4⟩:=hv
 unfold maxLen at h2
 go_enter Tryz.func34,Tryz.ntmps34
 go_wp2_with fail
 go_loopw [4,3] (fun t u wr=>∃ k : Nat,k≤l.length∧t = .int .i64 k∧u = .int .i64 (Ag (l.take k))∧Chg (fun _=>False) w wr)
  (fun t _ _=>l.length - (intOf t).toNat)
 case atStart=>exact ⟨0,by omega,rfl,by simp [Ag],Chg.refl _ _⟩
 case round=>
  obtain ⟨k,hk,rfl,rfl,hch⟩:=hrel
  by_cases hlt : k<l.length
  ·obtain ⟨b,off,rfl,hbl,hc⟩:=h4 (by intro e; rw [e] at hlt; simp at hlt)
   have c0:=(World.cell?_of_block (w:=w) (a:=⟨b,off+k * 2,none⟩) (hch.block b hbl (fun h=>h))).trans (hc k hlt).1
   have c1:=(World.cell?_of_block (w:=w) (a:=⟨b,off+k * 2+1,none⟩) (hch.block b hbl (fun h=>h))).trans (hc k hlt).2
   have htk:=weightT_take l hlt
   have hle:=weightT_le l (k+1)
   generalize l[k]=x at *
   have hx1:=Ca x.1
   have hx2:=Ca x.2
   obtain ⟨tk,htk1⟩ : ∃ tk,tk=Ag (l.take k):=⟨_,rfl⟩
   obtain ⟨tn,htn1⟩ : ∃ tn,tn=Ag (l.take (k+1)):=⟨_,rfl⟩
   rw [← htk1,← htn1] at htk
   rw [← htn1] at hle
   rw [← htk1]
   have q1 : IntKind.i64.wrap ((tk : Int)+16)=(tk : Int)+16:=by simp [IntKind.wrap,IntKind.bits,IntKind.signed]; omega
   have q2 : IntKind.i64.wrap ((tk : Int)+16+(x.1.length : Int))=(tk : Int)+16+(x.1.length : Int):=by simp [IntKind.wrap,IntKind.bits,IntKind.signed]; omega
   have q3 : IntKind.i64.wrap ((tk : Int)+16+(x.1.length : Int)+(x.2.length : Int))=(tn : Int):=by
    rw [show (tk : Int)+16+(x.1.length : Int)+(x.2.length : Int)=(tn : Int) by omega]
    simp [IntKind.wrap,IntKind.bits,IntKind.signed]
    omega
   have HN:=Ab (And.intro htn1 hch)
   clear hc htk hle htk1 htn1 hch
   go_wp2_with fail
   refine wp_region_held_drew (S:=fun W=>W.cell? ⟨b,off+k * 2,none⟩=some (.string (Ad x.1))∧W.cell? ⟨b,off+k * 2+1,none⟩=some (.string (Ad x.2))) (by kernel_rfl) (⟨c0,c1⟩) (fun hHeld=>?_)
   refine Aa (i:=0) (v:=?_) rfl (by kernel_rfl) (by kernel_rfl) (by kernel_rfl) (fun _ _ _ h=>h) rfl ?_ hHeld ?_
   rotate_left
   ·intro w hS; (try dsimp only at hS); obtain ⟨hS0,hS1⟩:=hS; go_simp; first | done | (with_reducible rfl)
   try simp only [Act.put,List.setIfInBounds_toArray,List.set_cons_zero,List.set_cons_succ]
   refine Aa (i:=1) (v:=?_) rfl (by kernel_rfl) (by kernel_rfl) (by kernel_rfl) (fun _ _ _ h=>h) rfl ?_ hHeld ?_
   rotate_left
   ·intro w hS; (try dsimp only at hS); obtain ⟨hS0,hS1⟩:=hS; go_simp; first | done | (with_reducible rfl)
   try simp only [Act.put,List.setIfInBounds_toArray,List.set_cons_zero,List.set_cons_succ]
   refine Aa (i:=2) (v:=?_) rfl (by kernel_rfl) (by kernel_rfl) (by kernel_rfl) (fun _ _ _ h=>h) rfl ?_ hHeld ?_
   rotate_left
   ·intro w hS; (try dsimp only at hS); obtain ⟨hS0,hS1⟩:=hS; go_simp; first | done | (with_reducible rfl)
   try simp only [Act.put,List.setIfInBounds_toArray,List.set_cons_zero,List.set_cons_succ]
   refine Aa (i:=3) (v:=?_) rfl (by kernel_rfl) (by kernel_rfl) (by kernel_rfl) (fun _ _ _ h=>h) rfl ?_ hHeld ?_
   rotate_left
   ·intro w hS; (try dsimp only at hS); obtain ⟨hS0,hS1⟩:=hS; go_simp; first | done | (with_reducible rfl)
   try simp only [Act.put,List.setIfInBounds_toArray,List.set_cons_zero,List.set_cons_succ]
   refine Aa (i:=4) (v:=?_) rfl (by kernel_rfl) (by kernel_rfl) (by kernel_rfl) (fun _ _ _ h=>h) rfl ?_ hHeld ?_
   rotate_left
   ·intro w hS; (try dsimp only at hS); obtain ⟨hS0,hS1⟩:=hS; go_simp; first | done | (with_reducible rfl)
   try simp only [Act.put,List.setIfInBounds_toArray,List.set_cons_zero,List.set_cons_succ]
   refine Aa (i:=5) (v:=?_) rfl (by kernel_rfl) (by kernel_rfl) (by kernel_rfl) (fun _ _ _ h=>h) rfl ?_ hHeld ?_
   rotate_left
   ·intro w hS; (try dsimp only at hS); obtain ⟨hS0,hS1⟩:=hS; go_simp; first | done | (with_reducible rfl)
   try simp only [Act.put,List.setIfInBounds_toArray,List.set_cons_zero,List.set_cons_succ]
   refine Aa (i:=6) (v:=?_) rfl (by kernel_rfl) (by kernel_rfl) (by kernel_rfl) (fun _ _ _ h=>h) rfl ?_ hHeld ?_
   rotate_left
   ·intro w hS; (try dsimp only at hS); obtain ⟨hS0,hS1⟩:=hS; go_simp; first | done | (with_reducible rfl)
   try simp only [Act.put,List.setIfInBounds_toArray,List.set_cons_zero,List.set_cons_succ]
   refine Aa (i:=7) (v:=?_) rfl (by kernel_rfl) (by kernel_rfl) (by kernel_rfl) (fun _ _ _ h=>h) rfl ?_ hHeld ?_
   rotate_left
   ·intro w hS; (try dsimp only at hS); obtain ⟨hS0,hS1⟩:=hS; go_simp; first | done | (with_reducible rfl)
   try simp only [Act.put,List.setIfInBounds_toArray,List.set_cons_zero,List.set_cons_succ]
   refine Aa (i:=8) (v:=?_) rfl (by kernel_rfl) (by kernel_rfl) (by kernel_rfl) (fun _ _ _ h=>h) rfl ?_ hHeld ?_
   rotate_left
   ·intro w hS; (try dsimp only at hS); obtain ⟨hS0,hS1⟩:=hS; go_simp; first | done | (with_reducible rfl)
   try simp only [Act.put,List.setIfInBounds_toArray,List.set_cons_zero,List.set_cons_succ]
   refine Aa (i:=9) (v:=?_) rfl (by kernel_rfl) (by kernel_rfl) (by kernel_rfl) (fun _ _ _ h=>h) rfl ?_ hHeld ?_
   rotate_left
   ·intro w hS; (try dsimp only at hS); obtain ⟨hS0,hS1⟩:=hS; go_simp; first | done | (with_reducible rfl)
   try simp only [Act.put,List.setIfInBounds_toArray,List.set_cons_zero,List.set_cons_succ]
   refine Aa (i:=10) (v:=?_) rfl (by kernel_rfl) (by kernel_rfl) (by kernel_rfl) (fun _ _ _ h=>h) rfl ?_ hHeld ?_
   rotate_left
   ·intro w hS; (try dsimp only at hS); obtain ⟨hS0,hS1⟩:=hS; go_simp; first | done | (with_reducible rfl)
   try simp only [Act.put,List.setIfInBounds_toArray,List.set_cons_zero,List.set_cons_succ]
   refine Aa (i:=11) (v:=?_) rfl (by kernel_rfl) (by kernel_rfl) (by kernel_rfl) (fun _ _ _ h=>h) rfl ?_ hHeld ?_
   rotate_left
   ·intro w hS; (try dsimp only at hS); obtain ⟨hS0,hS1⟩:=hS; go_simp; first | done | (with_reducible rfl)
   try simp only [Act.put,List.setIfInBounds_toArray,List.set_cons_zero,List.set_cons_succ]
   refine Aa (i:=12) (v:=?_) rfl (by kernel_rfl) (by kernel_rfl) (by kernel_rfl) (fun _ _ _ h=>h) rfl ?_ hHeld ?_
   rotate_left
   ·intro w hS; (try dsimp only at hS); obtain ⟨hS0,hS1⟩:=hS; go_simp; first | done | (with_reducible rfl)
   try simp only [Act.put,List.setIfInBounds_toArray,List.set_cons_zero,List.set_cons_succ]
   refine Aa (i:=13) (v:=?_) rfl (by kernel_rfl) (by kernel_rfl) (by kernel_rfl) (fun _ _ _ h=>h) rfl ?_ hHeld ?_
   rotate_left
   ·intro w hS; (try dsimp only at hS); obtain ⟨hS0,hS1⟩:=hS; go_simp; first | done | (with_reducible rfl)
   try simp only [Act.put,List.setIfInBounds_toArray,List.set_cons_zero,List.set_cons_succ]
   refine Aa (i:=14) (v:=?_) rfl (by kernel_rfl) (by kernel_rfl) (by kernel_rfl) (fun _ _ _ h=>h) rfl ?_ hHeld ?_
   rotate_left
   ·intro w hS; (try dsimp only at hS); obtain ⟨hS0,hS1⟩:=hS; go_simp; first | done | (with_reducible rfl)
   try simp only [Act.put,List.setIfInBounds_toArray,List.set_cons_zero,List.set_cons_succ]
   refine Aa (i:=15) (v:=?_) rfl (by kernel_rfl) (by kernel_rfl) (by kernel_rfl) (fun _ _ _ h=>h) rfl ?_ hHeld ?_
   rotate_left
   ·intro w hS; (try dsimp only at hS); obtain ⟨hS0,hS1⟩:=hS; go_simp; first | done | (with_reducible rfl)
   try simp only [Act.put,List.setIfInBounds_toArray,List.set_cons_zero,List.set_cons_succ]
   refine Aa (i:=16) (v:=?_) rfl (by kernel_rfl) (by kernel_rfl) (by kernel_rfl) (fun _ _ _ h=>h) rfl ?_ hHeld ?_
   rotate_left
   ·intro w hS; (try dsimp only at hS); obtain ⟨hS0,hS1⟩:=hS; go_simp; first | done | (with_reducible rfl)
   try simp only [Act.put,List.setIfInBounds_toArray,List.set_cons_zero,List.set_cons_succ]
   refine wpAnyH_done (by kernel_rfl) ?_ _
   clear hHeld
   go_wp2
   go_roundw
   case rel=>exact ⟨k+1,by omega,by go_num,by rw [HN.out.1],HN.out.2.drew⟩
   case measure=>simp [intOf]; omega
  ·have hkl : k=l.length:=by omega
   subst hkl
   rw [List.take_length]
   go_wp2
   go_ret
   exact ⟨rfl,hch⟩
end Go.Proofs.YtblniomnhpedjaaGreatDoor
namespace Go.Proofs.YtblniomnhpedjaaGreatDoor
open Go.RowKit
variable {B : Nat} {w w' : World} {F : Nat→Prop} {d l : Nat} {z : Nm} {gs : List (List (List UInt8))} {v : Value} {m M : Nat}
theorem Ei.keep {X : Nat→Prop} (h : Ei B w F d l z gs m M) (hc : Chg X w w') (hX : ∀ k,F k→¬ X k) (hl : ¬ X l) : Ei B w' F d l z gs m M:=by
 obtain ⟨S,L,h1,h2⟩:=h
 exact ⟨S,L,h1.keep hc hX hl,h2⟩
theorem Ei.quiet (h : Ei B w F d l z gs m M) (hc : Chg (fun _=>False) w w') : Ei B w' F d l z gs m M:=h.keep hc (fun _ _ h=>h) (fun h=>h)
theorem Ei.low (h : Ei B w F d l z gs m M) : (∀ k,F k→k<w.heap.size)∧l<w.heap.size:=by
 obtain ⟨S,L,h1,h2⟩:=h
 exact ⟨fun k hk=>(h1.1.2.1 k hk).2,h1.lt⟩
theorem K5 (w : World) (cs : List Value) (t : TypeId) (j : Nat) (u : Value) (h : cs[j]? = some u) : (w.alloc (.cells cs.toArray t)).cell? ⟨w.heap.size,j,none⟩=some u:=by
 have:=Ae (Ap w (.cells cs.toArray t)) j
 rw [this]
 simpa using h
theorem Dl (w : World) (o : Obj) : Chg (fun _=>False) w (w.alloc o):=(Chg.refl _ w).alloc o
end Go.Proofs.YtblniomnhpedjaaGreatDoor
namespace Go.Proofs.YtblniomnhpedjaaGreatDoor
open Go.RowKit
def Bk (lp : List Af) (ps : List Al) : Int:=if Ba ps=false then 130 else if Bc (Ak lp ps)=false then 131 else 0
def Cl (lp : List Af) (ps : List Al) : List Af:=if Bk lp ps=0 then Ak lp ps else lp
def Bi (B : Nat) (w : World) (F : Nat→Prop) (d g t b : Nat) (z : Nm) (S : Dk) (lp : List Af) (m M : Nat) : Prop:=∃ L sure gs,TabL B w F d g t b S L sure lp∧TSays z S L sure lp gs∧B4 S∧S.bulk≤m∧S.room=M∧L.wh≤3000000
section
variable {B : Nat} {w w' : World} {F : Nat→Prop} {d g t b : Nat} {z : Nm} {S : Dk} {L : Lw} {sure : Bool} {lp : List Af} {gs : List (List Bs)} {ps : List Al} {v : Value} {m M : Nat}
theorem ans_form (h : Ba ps=false) : Bk lp ps=130:=by unfold Bk; rw [if_pos h]
theorem Jk (h : Ba ps=true) (h2 : Bc (Ak lp ps)=false) : Bk lp ps=131:=by unfold Bk; rw [if_neg (by rw [h]; simp),if_pos h2]
theorem ans_ok (h : Ba ps=true) (h2 : Bc (Ak lp ps)=true) : Bk lp ps=0:=by unfold Bk; rw [if_neg (by rw [h]; simp),if_neg (by rw [h2]; simp)]
theorem Iu (h : Bk lp ps=0) : Cl lp ps=Ak lp ps:=by unfold Cl; rw [if_pos h]
theorem Hi (h : Bk lp ps≠0) : Cl lp ps=lp:=by unfold Cl; rw [if_neg h]
theorem wh_bulk (h : Has z S L gs) : L.wh≤(S.bulk : Int):=by
 obtain ⟨-,tail,⟨-,-,hF⟩,q,-⟩:=h
 rcases hF with ⟨-,e⟩ | ⟨f,hK⟩
 ·have:=congrArg List.length e
  rw [List.length_append,List.length_nil] at this
  omega
 ·obtain ⟨x,hx,hb,-⟩:=hK.file
  have h1 : x.b.length≤(S.files.map fun f=>f.b.length).sum:=Js (List.mem_map.2 ⟨x,List.mem_of_getElem? hx,rfl⟩)
  rw [hb,List.length_append] at h1
  unfold Dk.bulk
  omega
theorem commit_plain {k : Nat} (h : TSays z S L sure lp gs) (hk : Ok S) (hz : B8 z=true) (hr : Bq lp) (hl : ∀ p∈lp,okP p) (hf0 : Bc lp=true) (hc : B4 S) (hroom : S.bulk+k≤S.room) (hw : L.wh≤3000000)
  (hkb : Ba ps=true→Bc (Ak lp ps)=true→L.wh+Bt (ps.map As)+Ag (Ak lp ps)+100≤k) :
  (Bz S L sure lp ps).2.2.2.2=Bk lp ps∧(Bz S L sure lp ps).2.2.2.1=Cl lp ps∧(∃ gs',TSays z (Bz S L sure lp ps).1 (Bz S L sure lp ps).2.1 (Bz S L sure lp ps).2.2.1 (Cl lp ps) gs')
  ∧B4 (Bz S L sure lp ps).1∧((Bz S L sure lp ps).1.bulk≤S.bulk+2200000∧(Bz S L sure lp ps).1.bulk≤S.bulk+k)∧(Bz S L sure lp ps).1.room=S.room∧(Bz S L sure lp ps).2.1.wh≤3000000∧(Bk lp ps≠0∨ps = []→(Bz S L sure lp ps).1=S):=by
 have hnm:=isLg_nm hz
 have hwh0 : 0≤L.wh:=by
  obtain ⟨⟨-,tail,-,q,-⟩,-⟩:=h
  omega
 cases hp : Ba ps with
 | false=>
  have ha : Bk lp ps=130:=ans_form hp
  have hn : Cl lp ps=lp:=Hi (by rw [ha]; decide)
  rw [Lr hp,ha,hn]
  exact ⟨rfl,rfl,⟨gs,h⟩,hc,⟨Nat.le_add_right _ _,Nat.le_add_right _ _⟩,rfl,hw,fun _=>rfl⟩
 | true=>
  by_cases h0 : ps = []
  ·have ha : Bk lp ps=0:=ans_ok hp (by rw [h0]; exact hf0)
   have hn : Cl lp ps=lp:=by rw [Iu ha,h0]; rfl
   rw [Na hp h0,ha,hn]
   exact ⟨rfl,rfl,⟨gs,h⟩,hc,⟨Nat.le_add_right _ _,Nat.le_add_right _ _⟩,rfl,hw,fun _=>rfl⟩
  ·cases hf : Bc (Ak lp ps) with
   | false=>
    have ha : Bk lp ps=131:=Jk hp hf
    have hn : Cl lp ps=lp:=Hi (by rw [ha]; decide)
    rw [Ne hp h0 hf,ha,hn]
    exact ⟨rfl,rfl,⟨gs,h⟩,hc,⟨Nat.le_add_right _ _,Nat.le_add_right _ _⟩,rfl,hw,fun _=>rfl⟩
   | true=>
    have ha : Bk lp ps=0:=ans_ok hp hf
    have hn : Cl lp ps=Ak lp ps:=Iu ha
    have hfl:=En hf
    have hlay : (Bh S L sure ps (Ak lp ps)).2.2=0∧Alt S (Bh S L sure ps (Ak lp ps)).1∧(Bh S L sure ps (Ak lp ps)).1.bulk≤S.bulk+2200000∧(Bh S L sure ps (Ak lp ps)).1.bulk≤S.bulk+k:=by
     have hkk:=hkb hp hf
     obtain ⟨h1,h2,h3⟩:=h
     by_cases hcnd : sure=true∧L.wh+Bt (ps.map As)≤10000+2 * Ag (Ak lp ps)
     ·rw [I2 hcnd.1 hcnd.2]
      have hgm:=grp_most (ps.map As)
      have hlw : L.wh=((laid Aj gs).length : Int):=by
       obtain ⟨-,tail,-,q,-⟩:=h1
       exact q
      have hca:=calm_appendW h1 hc hk hnm.1 hnm.2 (Ff hp) (by omega)
      have hbu:=bulk_appendW (rs:=ps.map As) h1
      exact ⟨hca.1,hca.2,by omega,by omega⟩
     ·rw [Gm hcnd]
      have he:=Gb ps hl (Er hp).2.1
      have hga:=grp_anew he
      have hca:=calm_resetW h1 hc hk hnm.1 hnm.2 (Ff (Hw he hf)) (by omega)
      have hbu:=bulk_resetW S L ((Bd (Ak lp ps)).map As)
      exact ⟨hca.1,hca.2,by omega,by omega⟩
    have hsm:=lay_small h hk hnm.1 hl hp hf hlay.1
    obtain ⟨gs',q1,q2,q3⟩:=lay_keep h hk hnm.1 hr hl hp h0 hf
    rw [commit_ok hp h0 hf hlay.1,ha,hn]
    exact ⟨rfl,rfl,⟨gs',q1.1 hlay.1,q3,fun _=>q2⟩,hlay.2.1.calm hc,hlay.2.2,hlay.2.1.2.2,Int.le_trans hsm (by omega),fun e=>e.elim (fun e=>absurd rfl e) (fun e=>absurd e h0)⟩
theorem Bi.tab (h : Bi B w F d g t b z S lp m M) : ∃ sure,TabAt w t b g sure lp:=by
 obtain ⟨L,sure,gs,h1,-⟩:=h
 exact ⟨sure,h1.tab⟩
theorem Bi.fit (h : Bi B w F d g t b z S lp m M) : Bc lp=true∧(∀ p∈lp,okP p)∧Bq lp:=by
 obtain ⟨L,sure,gs,h1,-⟩:=h
 exact ⟨h1.fit,h1.each,h1.tab.rise⟩
theorem Bi.keep {X : Nat→Prop} (h : Bi B w F d g t b z S lp m M) (hc : Chg X w w') (hF : ∀ k,F k→¬ X k) (h1 : ¬ X t) (h2 : ¬ X b) (h3 : ¬ X g) : Bi B w' F d g t b z S lp m M:=by
 obtain ⟨L,sure,gs,k1,k2⟩:=h
 exact ⟨L,sure,gs,k1.keep hc hF h1 h2 h3,k2⟩
theorem Bi.quiet (h : Bi B w F d g t b z S lp m M) (hc : Chg (fun _=>False) w w') : Bi B w' F d g t b z S lp m M:=h.keep hc (fun _ _ h=>h) (fun h=>h) (fun h=>h) (fun h=>h)
theorem Bi.low (h : Bi B w F d g t b z S lp m M) : (∀ k,F k→B≤k∧k<w.heap.size)∧(B≤g∧g<w.heap.size)∧(B≤t∧t<w.heap.size)∧(B≤b∧b<w.heap.size):=by
 obtain ⟨L,sure,gs,k1,-⟩:=h
 exact ⟨k1.log.1.2.1,⟨k1.log.2.2.2.1,k1.log.lt⟩,⟨k1.bt,At k1.tab.cells⟩,⟨k1.bb,k1.tab.map.lt⟩⟩
theorem Bi.belowC (h : Bi B w F d g t b z S lp m M) (hc : Chg (fun k=>F k∨k=g∨k=t) w w') : Below B w w':=by
 have hl:=h.low
 refine hc.below (fun k hk=>?_) (by omega)
 rcases hk with hk | rfl | rfl
 ·exact (hl.1 k hk).1
 ·exact hl.2.1.1
 ·exact hl.2.2.1.1
theorem Bi.more {m' : Nat} (h : Bi B w F d g t b z S lp m M) (hm : m≤m') : Bi B w F d g t b z S lp m' M:=by
 obtain ⟨L,sure,gs,h1,h2,h3,h4,h5⟩:=h
 exact ⟨L,sure,gs,h1,h2,h3,Nat.le_trans h4 hm,h5⟩
theorem Lf {k : Nat} (h : Bi B w F d g t b z S lp m M) (hz : B8 z=true) (hv : PsT w v ps) (hB0 : 0<B) (hT : Be w) (hm : 2 * m<999999990) (hM : m+k≤M)
  (hkb : ∀ wh : Int,wh≤3000000→wh≤m→Ba ps=true→Bc (Ak lp ps)=true→wh+Bt (ps.map As)+Ag (Ak lp ps)+100≤k) {x : Nat} (hx : x=2200000∨x=k) :
  Calls Tryz.prog 29 #[.pointer (some ⟨t,0,none⟩),v] w fun e w'=>e = .returned (.int .i64 (Bk lp ps))∧∃ F' b' S',Bi B w' F' d g t b' z S' (Cl lp ps) (m+x) M∧(Bk lp ps≠0∨ps = []→S'=S) ∧
   (∀ k,F' k→F k∨w.heap.size≤k)∧(b'=b∨w.heap.size≤b')∧Chg (fun k=>F k∨k=g∨k=t) w w':=by
 obtain ⟨L,sure,gs,h1,h2,h3,h4,h5,h6⟩:=h
 have hwb:=wh_bulk h2.1
 obtain ⟨p1,p2,⟨gs',p3⟩,p4,p5,p6,p7,p8⟩:=commit_plain (ps:=ps) (k:=k) h2 h1.log.1.ok hz h1.tab.rise h1.each h1.fit h3 (by omega) h6 (hkb L.wh h6 (by omega))
 have hwh : 0≤L.wh:=by
  obtain ⟨⟨-,tail,-,q,-⟩,-⟩:=h2
  omega
 refine (tcommit_any h1 hv hB0 hT (by omega) ⟨hwh,by omega⟩).mono ?_
 rintro e w' ⟨rfl,F',b',k1,k2,k3,k4⟩
 rw [p2] at k1
 exact ⟨by rw [p1],F',b',_,⟨_,_,gs',k1,p3,p4,by omega,p6.trans h5,p7⟩,p8,k2,k3,k4⟩
theorem Mu (h : Bi B w F d g t b z S lp m M) (hz : B8 z=true) (hv : PsT w v ps) (hB0 : 0<B) (hT : Be w) (hm : 2 * m<999999990) (hM : m+6000000≤M) :
  Calls Tryz.prog 29 #[.pointer (some ⟨t,0,none⟩),v] w fun e w'=>e = .returned (.int .i64 (Bk lp ps))∧∃ F' b' S',Bi B w' F' d g t b' z S' (Cl lp ps) (m+2200000) M∧(Bk lp ps≠0∨ps = []→S'=S) ∧
   (∀ k,F' k→F k∨w.heap.size≤k)∧(b'=b∨w.heap.size≤b')∧Chg (fun k=>F k∨k=g∨k=t) w w':=
 Lf (k:=6000000) h hz hv hB0 hT hm hM (fun wh h1 _ h3 h4=>by have:=Er h3; have:=most_le ps; have:=En h4; omega) (.inl rfl)
theorem J6 {k : Nat} (h : Bi B w F d g t b z S lp m M) (hz : B8 z=true) (hv : PsT w v ps) (hB0 : 0<B) (hT : Be w) (hm : 2 * m<999999990) (hM : m+k≤M) (hk : m+(130+30 * ps.length+Br ps)+Ag (Ak lp ps)≤k) :
  Calls Tryz.prog 29 #[.pointer (some ⟨t,0,none⟩),v] w fun e w'=>e = .returned (.int .i64 (Bk lp ps))∧∃ F' b' S',Bi B w' F' d g t b' z S' (Cl lp ps) (m+k) M∧(Bk lp ps≠0∨ps = []→S'=S) ∧
   (∀ k,F' k→F k∨w.heap.size≤k)∧(b'=b∨w.heap.size≤b')∧Chg (fun k=>F k∨k=g∨k=t) w w':=
 Lf (k:=k) h hz hv hB0 hT hm hM (fun wh _ h2 _ _=>by have:=most_le ps; omega) (.inr rfl)
theorem Ky {tail : List UInt8} (h : Bw B w F d S) (ho : On z S gs tail) (hto : Cs gs=some lp) (hgl : (laid Aj gs).length≤3000000) (hc : B4 S) (hz : B8 z=true) (hB : B≤w.heap.size) (hB0 : 0<B) (hT : Be w) (hb : S.bulk<1000000000) :
  Calls Tryz.prog 14 #[.pointer (some ⟨d,0,none⟩), .string (Ad z)] w fun e w'=>∃ t b g F',e = .returned (.tuple #[.pointer (some ⟨t,0,none⟩), .int .i64 0])∧Bi B w' F' d g t b z S.begun lp (S.bulk+1) S.room ∧
   (∀ k,F' k→F k∨w.heap.size≤k)∧w.heap.size≤t∧w.heap.size≤b∧w.heap.size≤g∧Chg F w w':=by
 have hnm:=isLg_nm hz
 have hlk:=ho.look hnm.1 (Hb hc) (hc.2 _)
 refine (topen_any h hB hB0 hT hb z hz (fun y hy g hg=>?_)).mono ?_
 ·rw [hlk] at hy
  injection hy with hy
  subst hy
  have hr:=ho.1 g hg
  refine ⟨?_,fun r hr'=>by have:=Ga hr r hr'; omega⟩
  unfold right at hr
  simp only [Bool.and_eq_true,decide_eq_true_eq] at hr
  omega
 ·rintro e w' hO
  unfold G8 at hO
  rw [hlk] at hO
  simp only [hto] at hO
  obtain ⟨t,b,g,F',rfl,h1,h2,h3,h4,h5,h6⟩:=hO
  exact ⟨t,b,g,F',rfl,⟨_,false,gs,h1,⟨ho.begun.has false,hto,fun e=>by cases e⟩,(Eg S).calm hc,Gi S,(Eg S).2.2,by simp only; omega⟩,h2,h3,h4,h5,h6⟩
theorem tcrash_calm (h : Bi B w F d g t b z S lp m M) (hm : m<1000000000) (keep tn : Int) :
  Calls Tryz.prog 23 #[.pointer (some ⟨d,0,none⟩), .int .i64 keep, .int .i64 tn] w fun e w'=>∃ d2 F2 S2 tail gs,e = .returned (.pointer (some ⟨d2,0,none⟩))∧Bw B w' F2 d2 S2∧On z S2 gs tail∧Cs gs=some lp∧(laid Aj gs).length≤3000000∧B4 S2∧S2.bulk≤m∧(∀ k,F2 k→w.heap.size≤k)∧Chg (fun _=>False) w w':=by
 obtain ⟨L,sure,gs,h1,⟨⟨hn,tail,ho,hw1,hw2⟩,hto,-⟩,hc,hb,hM,hw⟩:=h
 have hbc:=bulk_crash (S:=S) keep tn
 refine (crash_lies h1.log.1 h1.log.size keep tn (by omega)).mono ?_
 rintro e w' ⟨d2,F2,rfl,h3,h4,h5⟩
 exact ⟨d2,F2,_,tail,gs,rfl,h3,ho.crash h1.log.1.ok keep tn,hto,by omega,calm_crash keep tn,by omega,h4,h5⟩
end
end Go.Proofs.YtblniomnhpedjaaGreatDoor
namespace Go.Proofs.YtblniomnhpedjaaGreatDoor
open Go.RowKit
theorem toL (l : List UInt8) : (Ad l).toList=l:=by rw [ByteArray.toList_eq]; exact Dh l
theorem Tryz.eqPair : Tryz.prog.underlying 75=some (.struct (Tryz.prog.fieldsOf 75))∧Tryz.prog.stoodInHeld 75=false∧Tryz.prog.eqGuardType Tryz.prog.depth 75=false:=⟨by kernel_rfl,by kernel_rfl,by kernel_rfl⟩
def same1 (x y : Af) : Bool:=decide (x=y)
theorem same1_true {x y : Af} (h : x=y) : same1 x y=true:=decide_eq_true h
theorem same1_false {x y : Af} (h : ¬ x=y) : same1 x y=false:=decide_eq_false h
theorem neq_Pair (W : World) (a0 b0 a1 b1 : Bs) : (binOp .neq 75 (.agg #[.string (Ad a0), .string (Ad a1)]) (.agg #[.string (Ad b0), .string (Ad b1)])).run Tryz.prog W = .ok (.bool (!(a0 == b0 && a1 == b1))) W:=by
 obtain ⟨h1,h2,h3⟩:=Tryz.eqPair
 rw [run_neq_struct,run_equalIn_agg _ _ _ _ _ h1 h2]
 simp only [Program.fieldsOf,Tryz.underlying75]
 by_cases q0 : a0=b0 <;> by_cases q1 : a1=b1 <;> simp [Op.eqFields,go_sem,Tryz.underlying9,toL,q0,q1]
theorem neqPair (W : World) (x y : Af) : (binOp .neq 75 (.agg #[.string (Ad x.1), .string (Ad x.2)]) (.agg #[.string (Ad y.1), .string (Ad y.2)])).run Tryz.prog W = .ok (.bool (!(same1 x y))) W:=by
 rw [neq_Pair,show (x.1 == y.1 && x.2 == y.2)=same1 x y from by unfold same1; rw [Bool.eq_iff_iff]; simp [Prod.ext_iff]]
theorem Ij (l : List Af) (j i : Nat) (hj : j<l.length) (u : Value) (hu : (prC l[j])[i]? = some u) : (l.flatMap prC)[j * 2+i]? = some u:=by
 induction l generalizing j with
 | nil=>simp at hj
 | cons x r ih=>
  rw [List.flatMap_cons]
  have hx : (prC x).length=2:=rfl
  cases j with
  | zero=>
   simp only [List.getElem_cons_zero] at hu
   have hi : i<(prC x).length:=(List.getElem?_eq_some_iff.1 hu).1
   rw [Nat.zero_mul,Nat.zero_add,List.getElem?_append_left hi]
   exact hu
  | succ j=>
   simp only [List.getElem_cons_succ] at hu
   rw [List.getElem?_append_right (by rw [hx]; omega),hx,show (j+1) * 2+i - 2=j * 2+i by omega]
   exact ih j (by simpa using hj) hu
theorem Cr.pr {B : Nat} {w : World} {v : Value} {l : List Af} (h : Cr B w v l) : PrT w v l:=by
 have h':=h
 obtain ⟨-,⟨rfl,h0⟩ | ⟨g,cap,cur,rfl,-,hh,hc,hm,-⟩⟩:=h'
 ·obtain rfl : l = []:=List.eq_nil_of_length_eq_zero h0
  exact ⟨none,0,rfl,by simp,by simp,fun h=>absurd rfl h⟩
 ·refine ⟨_,_,rfl,hc,hm,fun _=>⟨g,0,rfl,At hh,fun j hj=>⟨?_,?_⟩⟩⟩
  ·have:=World.ownsRow.cells h (g:=g) rfl _ _ (Ij l j 0 hj _ rfl)
   rw [Addr.add_lit] at this
   simpa using this
  ·have:=World.ownsRow.cells h (g:=g) rfl _ _ (Ij l j 1 hj _ rfl)
   rw [Addr.add_lit] at this
   rwa [Nat.add_assoc]
theorem PrT.keepB {B : Nat} {w w' : World} {v : Value} {l : List Af} (h : PrT w v l) (hb : Below w.heap.size w w') (_ : B≤B) : PrT w' v l:=by
 obtain ⟨ao,cap,hv,h1,h2,h4⟩:=h
 refine ⟨ao,cap,hv,h1,h2,fun hl=>?_⟩
 obtain ⟨b,off,ha,hlt,hc⟩:=h4 hl
 exact ⟨b,off,ha,Nat.lt_of_lt_of_le hlt hb.size,fun j hj=>⟨(World.cell?_of_block (w:=w) (hb.block b hlt)).trans (hc j hj).1,(World.cell?_of_block (w:=w) (hb.block b hlt)).trans (hc j hj).2⟩⟩
theorem PrT.quiet {w w' : World} {v : Value} {l : List Af} (h : PrT w v l) (hc : Chg (fun _=>False) w w') : PrT w' v l:=h.keepB (B:=0) (hc.below (fun _ h=>h.elim) (Nat.le_refl _)) (Nat.le_refl _)
theorem PrT.form {w : World} {v : Value} {l : List Af} (h : PrT w v l) : ∃ ao cap,v = .slice ao l.length cap:=by
 obtain ⟨ao,cap,hv,-⟩:=h
 exact ⟨ao,cap,hv⟩
theorem prT_built (w : World) (xs : List Af) (t : TypeId) (hl : xs.length≤maxLen) : PrT (w.alloc (.cells (xs.flatMap prC).toArray t)) (.slice (some ⟨w.heap.size,0,none⟩) xs.length xs.length) xs:=
 ⟨_,_,rfl,Nat.le_refl _,hl,fun _=>⟨w.heap.size,0,rfl,by simp,fun j hj=>⟨by rw [Nat.zero_add]; exact K5 w _ t _ _ (Ij xs j 0 hj _ rfl),by rw [Nat.zero_add]; exact K5 w _ t _ _ (Ij xs j 1 hj _ rfl)⟩⟩⟩
set_option maxRecDepth 20000 in
set_option maxHeartbeats 800000 in
theorem rsame_any (w : World) (xs ys : List Af) (vx vy : Value) (hvx : PrT w vx xs) (hvy : PrT w vy ys) :
  Calls Tryz.prog 31 #[vx,vy] w fun e w'=>e = .returned (.bool (decide (xs=ys)))∧Chg (fun _=>False) w w':=by
 obtain ⟨ax,capx,rfl,gx1,gx2,hx⟩:=hvx
 obtain ⟨ay,capy,rfl,gy1,gy2,hy⟩:=hvy
 unfold maxLen at gx2 gy2
 by_cases hle : xs.length=ys.length
 rotate_left
 ·have hle' : ((xs.length : Int) == (ys.length : Int))=false:=by simp; omega
  go_enter Tryz.func31,Tryz.ntmps31
  go_wp2_with fail
  skip
  try go_wp2
  go_ret
  exact ⟨Dq (Eq.symm (decide_eq_false (fun e=>hle (congrArg List.length e)))),Chg.refl _ _⟩
 rw [hle] at gx1 ⊢
 have HLE:=Ab hle
 clear hle
 go_enter Tryz.func31,Tryz.ntmps31
 go_wp2_with fail
 skip
 go_loopw [5] (fun t wr=>∃ k : Nat,k≤ys.length∧t = .int .i64 k∧xs.take k=ys.take k∧Chg (fun _=>False) w wr)
  (fun t _=>ys.length - (intOf t).toNat)
 case atStart=>exact ⟨0,by omega,rfl,by simp,Chg.refl _ _⟩
 case round=>
  obtain ⟨k,hk,rfl,htk,hbr⟩:=hrel
  have HB:=Ab hbr
  have HTK:=Ab htk
  clear hbr htk
  by_cases hlt2 : k<ys.length
  ·have hlt : k<xs.length:=by rw [HLE.out]; exact hlt2
   obtain ⟨bx,offx,rfl,hbX,hcx⟩:=hx (by intro e; rw [e] at hlt; simp at hlt)
   obtain ⟨bY,offy,rfl,hbYl,hcy⟩:=hy (by intro e; rw [e] at hlt2; simp at hlt2)
   have c0:=(World.cell?_of_block (w:=w) (a:=⟨bx,offx+k * 2,none⟩) (HB.out.block bx hbX (fun h=>h))).trans (hcx k hlt).1
   have c1:=(World.cell?_of_block (w:=w) (a:=⟨bx,offx+k * 2+1,none⟩) (HB.out.block bx hbX (fun h=>h))).trans (hcx k hlt).2
   have d0:=(World.cell?_of_block (w:=w) (a:=⟨bY,offy+k * 2,none⟩) (HB.out.block bY hbYl (fun h=>h))).trans (hcy k hlt2).1
   have d1:=(World.cell?_of_block (w:=w) (a:=⟨bY,offy+k * 2+1,none⟩) (HB.out.block bY hbYl (fun h=>h))).trans (hcy k hlt2).2
   have hst:=fun he=>take_one HTK.out hlt hlt2 he
   have hno : xs[k]≠ys[k]→xs≠ys:=fun hne e=>hne (by simp only [e])
   generalize xs[k]=x at *
   generalize ys[k]=y at *
   have HST:=Ab hst
   have HNO:=Ab hno
   have hnq : ∀ W,_:=fun W=>neqPair W x y
   clear hst hno hcx hcy hx hy hlt
   go_wp2_with fail
   refine wp_region_held_drew (S:=fun W=>W.cell? ⟨bx,offx+k * 2,none⟩=some (.string (Ad x.1))∧W.cell? ⟨bx,offx+k * 2+1,none⟩=some (.string (Ad x.2))∧W.cell? ⟨bY,offy+k * 2,none⟩=some (.string (Ad y.1))∧W.cell? ⟨bY,offy+k * 2+1,none⟩=some (.string (Ad y.2))) (by kernel_rfl) (⟨c0,c1,d0,d1⟩) (fun hHeld=>?_)
   refine Aa (i:=0) (v:=?_) rfl (by kernel_rfl) (by kernel_rfl) (by kernel_rfl) (fun _ _ _ h=>h) rfl ?_ hHeld ?_
   rotate_left
   ·intro w hS; (try dsimp only at hS); obtain ⟨hS0,hS1,hS2,hS3⟩:=hS; go_simp; first | done | (with_reducible rfl)
   try simp only [Act.put,List.setIfInBounds_toArray,List.set_cons_zero,List.set_cons_succ]
   refine Aa (i:=1) (v:=?_) rfl (by kernel_rfl) (by kernel_rfl) (by kernel_rfl) (fun _ _ _ h=>h) rfl ?_ hHeld ?_
   rotate_left
   ·intro w hS; (try dsimp only at hS); obtain ⟨hS0,hS1,hS2,hS3⟩:=hS; go_simp; first | done | (with_reducible rfl)
   try simp only [Act.put,List.setIfInBounds_toArray,List.set_cons_zero,List.set_cons_succ]
   refine Aa (i:=2) (v:=?_) rfl (by kernel_rfl) (by kernel_rfl) (by kernel_rfl) (fun _ _ _ h=>h) rfl ?_ hHeld ?_
   rotate_left
   ·intro w hS; (try dsimp only at hS); obtain ⟨hS0,hS1,hS2,hS3⟩:=hS; go_simp; first | done | (with_reducible rfl)
   try simp only [Act.put,List.setIfInBounds_toArray,List.set_cons_zero,List.set_cons_succ]
   refine Aa (i:=3) (v:=?_) rfl (by kernel_rfl) (by kernel_rfl) (by kernel_rfl) (fun _ _ _ h=>h) rfl ?_ hHeld ?_
   rotate_left
   ·intro w hS; (try dsimp only at hS); obtain ⟨hS0,hS1,hS2,hS3⟩:=hS; go_simp; first | done | (with_reducible rfl)
   try simp only [Act.put,List.setIfInBounds_toArray,List.set_cons_zero,List.set_cons_succ]
   refine Aa (i:=4) (v:=?_) rfl (by kernel_rfl) (by kernel_rfl) (by kernel_rfl) (fun _ _ _ h=>h) rfl ?_ hHeld ?_
   rotate_left
   ·intro w hS; (try dsimp only at hS); obtain ⟨hS0,hS1,hS2,hS3⟩:=hS; go_simp; first | done | (with_reducible rfl)
   try simp only [Act.put,List.setIfInBounds_toArray,List.set_cons_zero,List.set_cons_succ]
   refine Aa (i:=5) (v:=?_) rfl (by kernel_rfl) (by kernel_rfl) (by kernel_rfl) (fun _ _ _ h=>h) rfl ?_ hHeld ?_
   rotate_left
   ·intro w hS; (try dsimp only at hS); obtain ⟨hS0,hS1,hS2,hS3⟩:=hS; go_simp; first | done | (with_reducible rfl)
   try simp only [Act.put,List.setIfInBounds_toArray,List.set_cons_zero,List.set_cons_succ]
   refine Aa (i:=6) (v:=?_) rfl (by kernel_rfl) (by kernel_rfl) (by kernel_rfl) (fun _ _ _ h=>h) rfl ?_ hHeld ?_
   rotate_left
   ·intro w hS; (try dsimp only at hS); obtain ⟨hS0,hS1,hS2,hS3⟩:=hS; go_simp; first | done | (with_reducible rfl)
   try simp only [Act.put,List.setIfInBounds_toArray,List.set_cons_zero,List.set_cons_succ]
   refine Aa (i:=7) (v:=?_) rfl (by kernel_rfl) (by kernel_rfl) (by kernel_rfl) (fun _ _ _ h=>h) rfl ?_ hHeld ?_
   rotate_left
   ·intro w hS; (try dsimp only at hS); obtain ⟨hS0,hS1,hS2,hS3⟩:=hS; go_simp; first | done | (with_reducible rfl)
   try simp only [Act.put,List.setIfInBounds_toArray,List.set_cons_zero,List.set_cons_succ]
   refine Aa (i:=8) (v:=?_) rfl (by kernel_rfl) (by kernel_rfl) (by kernel_rfl) (fun _ _ _ h=>h) rfl ?_ hHeld ?_
   rotate_left
   ·intro w hS; (try dsimp only at hS); obtain ⟨hS0,hS1,hS2,hS3⟩:=hS; go_simp; first | done | (with_reducible rfl)
   try simp only [Act.put,List.setIfInBounds_toArray,List.set_cons_zero,List.set_cons_succ]
   refine wpAnyH_done (by kernel_rfl) ?_ _
   clear hHeld hnq
   have HBD:=Ab HB.out.drew
   by_cases he : x=y
   ·have hbe:=same1_true he
    rw [hbe]
    go_wp2
    go_roundw
    case rel=>exact ⟨k+1,by omega,by go_num,HST.out he,HBD.out⟩
    case measure=>simp [intOf]; omega
   ·have hbe:=same1_false he
    rw [hbe]
    go_wp2
    go_ret
    exact ⟨Dq (Eq.symm (decide_eq_false (fun e=>HNO.out he (e)))),HBD.out⟩
  ·have hall : xs=ys:=by
    have:=HTK.out
    have hL:=HLE.out
    rwa [List.take_of_length_le (by omega),List.take_of_length_le (by omega)] at this
   go_wp2
   go_ret
   exact ⟨Dq (Eq.symm (decide_eq_true (hall))),HB.out⟩
end Go.Proofs.YtblniomnhpedjaaGreatDoor
namespace Go.Proofs.YtblniomnhpedjaaGreatDoor
open Go.RowKit
theorem Hr (w : World) (ps : List Al) (t : TypeId) (hl : ps.length≤maxLen) : PsT (w.alloc (.cells (ps.flatMap Cu).toArray t)) (.slice (some ⟨w.heap.size,0,none⟩) ps.length ps.length) ps:=
 ⟨_,_,rfl,Nat.le_refl _,hl,fun _=>⟨w.heap.size,0,rfl,by simp,fun j hj i u hu=>by rw [Nat.zero_add]; exact K5 w _ t _ _ (Kf ps j i hj u hu)⟩⟩
theorem PsT.form {w : World} {v : Value} {l : List Al} (h : PsT w v l) : ∃ ao cap,v = .slice ao l.length cap:=by
 obtain ⟨ao,cap,hv,-⟩:=h
 exact ⟨ao,cap,hv⟩
theorem PsT.keepB {w w' : World} {v : Value} {l : List Al} (h : PsT w v l) (hb : Below w.heap.size w w') : PsT w' v l:=h.quiet (Ds hb)
theorem PsT.at {w : World} {ao : Option Addr} {n cap : Nat} {l : List Al} (h : PsT w (.slice ao n cap) l) {j : Nat} (hj : j<l.length) :
  ∃ b off,ao=some ⟨b,off,none⟩∧b<w.heap.size∧w.cell? ⟨b,off+j * 3,none⟩=some (.string (Ad l[j].1))∧w.cell? ⟨b,off+j * 3+1,none⟩=some (.string (Ad l[j].2.1))∧w.cell? ⟨b,off+j * 3+2,none⟩=some (.bool l[j].2.2):=by
 obtain ⟨ao',cap',hv,-,-,h4⟩:=h
 injection hv with e1 e2 e3
 subst e1
 obtain ⟨b,off,ha,hb,hc⟩:=h4 (by intro e; rw [e] at hj; simp at hj)
 exact ⟨b,off,ha,hb,by simpa using hc j hj 0 _ rfl,by simpa using hc j hj 1 _ rfl,by simpa using hc j hj 2 _ rfl⟩
theorem PrT.at {w : World} {ao : Option Addr} {n cap : Nat} {l : List Af} (h : PrT w (.slice ao n cap) l) {j : Nat} (hj : j<l.length) :
  ∃ b off,ao=some ⟨b,off,none⟩∧b<w.heap.size∧w.cell? ⟨b,off+j * 2,none⟩=some (.string (Ad l[j].1))∧w.cell? ⟨b,off+j * 2+1,none⟩=some (.string (Ad l[j].2)):=by
 obtain ⟨ao',cap',hv,-,-,h4⟩:=h
 injection hv with e1 e2 e3
 subst e1
 obtain ⟨b,off,ha,hb,hc⟩:=h4 (by intro e; rw [e] at hj; simp at hj)
 exact ⟨b,off,ha,hb,(hc j hj).1,(hc j hj).2⟩
theorem PsT.len {w : World} {v : Value} {l : List Al} (h : PsT w v l) : l.length≤9223372036854775807:=by
 obtain ⟨ao,cap,-,h1,h2,-⟩:=h
 unfold maxLen at h2
 omega
theorem PrT.len {w : World} {v : Value} {l : List Af} (h : PrT w v l) : l.length≤9223372036854775807:=by
 obtain ⟨ao,cap,-,h1,h2,-⟩:=h
 unfold maxLen at h2
 omega
def RTab (w : World) (r : Nat) (l : List Af) : Prop:=∃ u,w.heap[r]? = some (.cells #[u] 70)∧PrT w u l
theorem RTab.keepB {w w' : World} {r : Nat} {l : List Af} (h : RTab w r l) (hb : Below w.heap.size w w') : RTab w' r l:=by
 obtain ⟨u,h1,h2⟩:=h
 exact ⟨u,(hb.block r (At h1)).trans h1,h2.keepB (B:=0) hb (Nat.le_refl _)⟩
theorem RTab.lt {w : World} {r : Nat} {l : List Af} (h : RTab w r l) : r<w.heap.size:=by
 obtain ⟨u,h1,-⟩:=h
 exact At h1
end Go.Proofs.YtblniomnhpedjaaGreatDoor
namespace Go.Proofs.YtblniomnhpedjaaGreatDoor
open Go.RowKit
def chT (d : Nat) : UInt8:=UInt8.ofNat (48+d)
theorem chT_nat {d : Nat} (h : d<10) : (chT d).toNat=48+d:=by
 unfold chT
 rw [UInt8.toNat_ofNat']
 omega
def dgs (n : Nat) : Bs:=if n=0 then [] else dgs (n / 10) ++ [chT (n % 10)]
termination_by n
decreasing_by omega
def dgT (n : Nat) : Bs:=dgs (n / 10) ++ [chT (n % 10)]
theorem Gg {n : Nat} (h : n≠0) : dgs n=dgs (n / 10) ++ [chT (n % 10)]:=by
 conv=>lhs; unfold dgs
 rw [if_neg h]
theorem Gw : dgs 0 = []:=by unfold dgs; rfl
theorem dgs_len : ∀ (k n : Nat),n<10 ^ k→(dgs n).length≤k
 | 0,n,h=>by
  obtain rfl : n=0:=by simpa using h
  rw [Gw]
  simp
 | k+1,n,h=>by
  by_cases hn : n=0
  ·rw [hn,Gw]
   simp
  ·rw [Gg hn,List.length_append]
   have:=dgs_len k (n / 10) (by rw [Nat.pow_succ] at h; omega)
   simp
   omega
theorem strB_add (a b : Bs) : Ad a++Ad b=Ad (a++b):=by
 unfold Ad
 apply ByteArray.ext
 simp
theorem add_str (W : World) (a b : Bs) (h : a.length+b.length≤9223372036854775807) : (Op.stringOp .add (Ad a) (Ad b)).run Tryz.prog W = .ok (.string (Ad (a++b))) W:=by
 rw [run_string_add_sum _ _ _ (by rw [Ca,Ca]; omega),strB_add]
theorem one_text (W : World) (c : UInt8) : (convert 68 9 (.slice (some ⟨W.heap.size,0,none⟩) 1 1)).run Tryz.prog (W.alloc (.cells #[.int .u8 (c.toNat : Int)] 5)) = .ok (.string (Ad [c])) (W.alloc (.cells #[.int .u8 (c.toNat : Int)] 5)):=by
 refine Ex _ _ [c] ⟨some ⟨W.heap.size,0,none⟩,1,rfl,Nat.le_refl _,by unfold maxLen; omega,(fun h=>by cases h),fun _=>⟨W.heap.size,0,rfl,by simp,fun j hj=>?_⟩⟩
 have hj' : j=0:=by simpa using hj
 subst hj'
 rw [Ae (Ap W _)]
 rfl
theorem Mh (W : World) (n : Nat) : (convert 68 9 (.slice (some ⟨W.heap.size,0,none⟩) 1 1)).run Tryz.prog (W.alloc (.cells #[.int .u8 (48+(n : Int) % 10)] 5)) = .ok (.string (Ad [chT (n % 10)])) (W.alloc (.cells #[.int .u8 (48+(n : Int) % 10)] 5)):=by
 have h:=one_text W (chT (n % 10))
 rw [chT_nat (show n % 10<10 by omega),show ((48+n % 10 : Nat) : Int)=48+(n : Int) % 10 by omega] at h
 exact h
set_option maxRecDepth 20000 in
theorem digits_any (w : World) (n : Nat) (hn : n≤99999) : Calls Tryz.prog 33 #[.int .i64 (n : Int)] w fun e w'=>e = .returned (.string (Ad (dgT n)))∧Below w.heap.size w w':=by
 have hcv:=Mh w n
 have hb1 : Below w.heap.size w (w.alloc (.cells #[.int .u8 (48+(n : Int) % 10)] 5)):=(Below.refl _ w).alloc (Nat.le_refl _) _
 go_enter Tryz.func33,Tryz.ntmps33
 go_wp2_with fail
 clear hcv
 generalize w.alloc (.cells #[.int .u8 (48+(n : Int) % 10)] 5)=w1 at *
 go_loopw [0,3] (fun t u wr=>∃ (m : Nat) (s : Bs),t = .int .i64 m∧m≤n∧u = .string (Ad s)∧dgs m++s=dgT n∧Below w.heap.size w wr) (fun t _ _=>(intOf t).toNat)
 case atStart=>exact ⟨n / 10,[chT (n % 10)],by first | rfl | go_num,by omega,rfl,rfl,hb1⟩
 case round=>
  obtain ⟨m,s,rfl,hm,rfl,hd,hbr⟩:=hrel
  by_cases h0 : m=0
  ·subst h0
   rw [Gw,List.nil_append] at hd
   subst hd
   go_wp2_with fail
   skip
   try go_wp2
   go_ret
   exact ⟨rfl,hbr⟩
  ·have hpos : decide ((0 : Int)<(m : Int))=true:=decide_eq_true (by omega)
   have hcv:=Mh wr m
   have hb2 : Below w.heap.size w (wr.alloc (.cells #[.int .u8 (48+(m : Int) % 10)] 5)):=hbr.alloc hbr.size _
   have hd2 : dgs (m / 10)++([chT (m % 10)]++s)=dgT n:=by rw [← hd,Gg h0,List.append_assoc]
   have hsl : s.length≤10:=by
    have h9 : (dgT n).length≤6:=by
     unfold dgT
     rw [List.length_append]
     have:=dgs_len 5 (n / 10) (by omega)
     simp
     omega
    rw [← hd,List.length_append] at h9
    omega
   have hadd:=fun W=>add_str W [chT (m % 10)] s (by simp; omega)
   have HD:=Ab (And.intro hd2 hb2)
   clear hd hd2 hb2 hsl
   go_wp2_with fail
   generalize wr.alloc (.cells #[.int .u8 (48+(m : Int) % 10)] 5)=w2 at *
   go_roundw
   case rel=>exact ⟨m / 10,_,by first | rfl | go_num,by omega,rfl,HD.out.1,HD.out.2⟩
   case measure=>simp [intOf]; omega
end Go.Proofs.YtblniomnhpedjaaGreatDoor
namespace Go.Proofs.YtblniomnhpedjaaGreatDoor
open Go.RowKit
def pk (c n : Int) : Int:=(if c<0 then -(c+1) else c) % n
theorem Iz {c n : Int} (hn : 0<n) : 0≤pk c n∧pk c n<n:=⟨Int.emod_nonneg _ (by omega),Int.emod_lt_of_pos _ hn⟩
theorem ret_i {a b : Int} (h : a=b) : Ending.returned (.int .i64 a) = .returned (.int .i64 b):=by rw [h]
end Go.Proofs.YtblniomnhpedjaaGreatDoor
