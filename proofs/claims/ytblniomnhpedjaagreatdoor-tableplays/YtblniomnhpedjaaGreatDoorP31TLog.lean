/-
  Texts joined: TLog, TKeep, TSize, TNone, TRef, Shown1, TCalm, TSame, TLits, TCalm2.
-/
import Derived.Test.YtblniomnhpedjaaGreatDoorP30TOpen
import Derived.Test.YtblniomnhpedjaaGreatDoorP26Kx
import Derived.Laws.StructEq
namespace Go.Proofs.YtblniomnhpedjaaGreatDoor
open Go.RowKit
theorem pos_all : ∀ {l : List Af} {k : Bs},(∀ y∈l,ltB y.1 k=true)→posM l k=l.length
 | [],_,_=>rfl
 | y :: r,k,h=>by
  have ih:=pos_all (l:=r) (k:=k) (fun z hz=>h z (List.mem_cons_of_mem _ hz))
  unfold posM at ih ⊢
  rw [List.takeWhile_cons,if_pos (h y (by simp)),List.length_cons,List.length_cons,ih]
theorem done_last {l : List Af} {x : Af} (h : ∀ y∈l,ltB y.1 x.1=true) : Bu l (x.1,x.2,false)=l ++ [x]:=by
 have hp : posM l x.1=l.length:=pos_all h
 unfold Bu Fg
 simp only [hp]
 rw [List.take_length,List.getElem?_eq_none (Nat.le_refl _),List.drop_eq_nil_of_le (by simp)]
 simp
theorem doneA_all : ∀ (r l : List Af),Bn (l++r)→Ai l (Bo r)=l++r
 | [],l,_=>by simp [Bo,Ai]
 | x :: r,l,h=>by
  have h1 : ∀ y∈l,ltB y.1 x.1=true:=fun y hy=>(List.pairwise_append.1 h).2.2 y hy x (by simp)
  have e : Ai l (Bo (x :: r))=Ai (Bu l (x.1,x.2,false)) (Bo r):=rfl
  rw [e,done_last h1,doneA_all r (l ++ [x]) (by rw [List.append_assoc]; exact h),List.append_assoc]
  rfl
theorem all_ok {l : List Af} (h : ∀ p∈l,okP p) : (Bo l).all Cp=true:=by
 rw [List.all_eq_true]
 intro p hp
 obtain ⟨x,hx,rfl⟩:=List.mem_map.1 hp
 have:=h x hx
 unfold okP at this
 unfold Cp
 simp
 omega
theorem text_all (l : List Af) : Bk (Bo l)≤Ag l:=by
 unfold Bk Bo Ag
 induction l with
 | nil=>simp
 | cons x r ih=>
  simp only [List.map_cons,List.sum_cons] at ih ⊢
  omega
theorem Hw {l : List Af} (h : ∀ p∈l,okP p) (hf : Bb l=true) : Bc (Bo l)=true:=by
 have h1:=Ea hf
 have h2:=text_all l
 unfold Bc
 rw [all_ok h,show (Bo l).length=l.length from List.length_map _]
 simp
 omega
theorem laidf_cons (last : Option Bs) (p : An) (r : List An) : C7 last (p :: r)=(!p.2.2 && (match last with | none=>true | some q=>ltB q p.1) && C7 (some p.1) r):=by
 cases last <;> rfl
theorem laid_all (l : List Af) : ∀ (last : Option Bs),Bn l→(∀ q,last=some q→∀ x∈l,ltB q x.1=true)→C7 last (Bo l)=true:=by
 induction l with
 | nil=>intro _ _ _; rfl
 | cons x r ih=>
  intro last h hl
  have h1:=List.pairwise_cons.1 h
  have e : Bo (x :: r)=(x.1,x.2,false) :: Bo r:=rfl
  rw [e,laidf_cons,ih (some x.1) h1.2 (fun q hq y hy=>by injection hq with hq; subst hq; exact h1.1 y hy)]
  cases last with
  | none=>rfl
  | some q=>simp [hl q rfl x (by simp)]
theorem tab_anew {l : List Af} (hr : Bn l) (h : ∀ p∈l,okP p) (hf : Bb l=true) : Ct [(Bo l).map Aw]=some l:=by
 unfold Ct
 rw [Dd,Lo _ (all_ok h)]
 have e : Ai [] (Bo l)=l:=by
  have:=doneA_all l [] (by simpa using hr)
  simpa using this
 simp only
 rw [Hw h hf,e,hf]
 have hlt : Eg (Bo l) true=true:=by
  unfold Eg
  rw [if_pos rfl]
  exact laid_all l none hr (fun q hq=>by cases hq)
 rw [hlt]
 rfl
theorem Pe : ∀ (gs : List (List Bs)) (l0 l : List Af) (first : Bool) (ps : List An),Dd l0 gs first=some l→(gs = []→first=false)→Bc ps=true→ps ≠ []→Bb (Ai l ps)=true→Dd l0 (gs ++ [ps.map Aw]) first=some (Ai l ps)
 | [],l0,l,first,ps,h,hf,hr,hn,hfit=>by
  rw [Dd] at h
  injection h with h
  subst h
  obtain rfl:=hf rfl
  rw [List.nil_append,Dd,Lo _ (Er hr).2.1]
  simp only
  have hlt : Eg ps false=true:=by
   unfold Eg
   rw [if_neg (by simp)]
   exact decide_eq_true (List.length_pos_iff.2 hn)
  rw [hr,hlt,hfit]
  rfl
 | g :: r,l0,l,first,ps,h,hf,hr,hn,hfit=>by
  rw [List.cons_append,Dd]
  rw [Dd] at h
  cases ht : Co g with
  | none=>rw [ht] at h; cases h
  | some qs=>
   rw [ht] at h
   simp only at h ⊢
   by_cases hc : (Bc qs && Eg qs first && Bb (Ai l0 qs))=true
   ·rw [if_pos hc] at h ⊢
    exact Pe r _ l false ps h (fun _=>rfl) hr hn hfit
   ·rw [if_neg hc] at h
    cases h
theorem tab_more {gs : List (List Bs)} {l : List Af} {ps : List An} (h : Ct gs=some l) (hg : gs ≠ []) (hr : Bc ps=true) (hn : ps ≠ []) (hf : Bb (Ai l ps)=true) : Ct (gs ++ [ps.map Aw])=some (Ai l ps):=
 Pe gs [] l true ps h (fun e=>absurd e hg) hr hn hf
theorem tab_none : Ct []=some []:=rfl
end Go.Proofs.YtblniomnhpedjaaGreatDoor
namespace Go.Proofs.YtblniomnhpedjaaGreatDoor
open Go.RowKit
theorem recs_len (ps : List An) : ((ps.map Aw).map List.length).sum≤Bk ps+20 * ps.length:=by
 unfold Bk
 induction ps with
 | nil=>simp
 | cons p r ih=>
  have:=Jc p
  simp only [List.map_cons,List.sum_cons,List.length_cons] at ih ⊢
  omega
theorem Ei {ps : List An} (h : Bc ps=true) : right (ps.map Aw)=true:=by
 have h1:=Er h
 have h2:=recs_len ps
 unfold right
 rw [List.length_map,Bool.and_eq_true,decide_eq_true_eq,decide_eq_true_eq]
 omega
def Cx (z : Nm) (S : Dk) (L : Lw) (sure : Bool) (lp : List Af) (gs : List (List Bs)) : Prop:=Has z S L gs∧Ct gs=some lp∧(sure=true→gs ≠ [])
section
variable {z : Nm} {S : Dk} {L : Lw} {sure : Bool} {lp : List Af} {gs : List (List Bs)} {ps : List An}
theorem Ks (h : Cx z S L sure lp gs) (hk : Ok S) (hz : Ap z=true) (hr : Bn lp) (hl : ∀ p∈lp,okP p) (hp : Bc ps=true) (hn : ps ≠ []) (hf : Bb (Ai lp ps)=true) :
  ∃ gs',Laid z (Bf S L sure ps (Ai lp ps)) gs gs'∧gs' ≠ []∧Ct gs'=some (Ai lp ps):=by
 obtain ⟨h1,h2,h3⟩:=h
 by_cases hc : sure=true∧L.wh+By (ps.map Aw)≤10000+2 * Ag (Ai lp ps)
 ·refine ⟨gs ++ [ps.map Aw],?_,by simp,tab_more h2 (h3 hc.1) hp hn hf⟩
  rw [Ij hc.1 hc.2]
  exact Om h1 hk hz (Ei hp)
 ·have he:=Gi ps hl (Er hp).2.1
  refine ⟨[(Bo (Ai lp ps)).map Aw],?_,by simp,tab_anew (Mg hr ps) he hf⟩
  rw [Ha hc]
  exact reset_has h1 hk (Ei (Hw he hf))
end
end Go.Proofs.YtblniomnhpedjaaGreatDoor
namespace Go.Proofs.YtblniomnhpedjaaGreatDoor
open Go.RowKit
theorem body_most (rs : List Bs) : (Am rs).length≤(rs.map fun r=>10+r.length).sum:=by
 induction rs with
 | nil=>simp [Am]
 | cons r rs ih=>
  have:=txt_le r
  rw [Gw,List.length_append,List.map_cons,List.sum_cons]
  omega
theorem Lm (rs : List Bs) : (grp Ah rs).length≤By rs:=by
 have:=body_most rs
 rw [Fc Dj]
 unfold By
 omega
theorem body_anew : ∀ (l : List Af),(∀ p∈l,okP p)→(Am ((Bo l).map Aw)).length≤Ag l
 | [],_=>by simp [Bo,Am]
 | x :: r,h=>by
  have ih:=body_anew r (fun p hp=>h p (List.mem_cons_of_mem _ hp))
  have hx:=h x (by simp)
  unfold okP at hx
  have e : (Bo (x :: r)).map Aw=Aw (x.1,x.2,false) :: (Bo r).map Aw:=rfl
  have h1:=Iv (r:=x.1) (by omega)
  have h2:=Iv (r:=x.2) (by omega)
  have e2 : Aw (x.1,x.2,false)=txt x.1++txt x.2:=rfl
  have h3 : (Aw (x.1,x.2,false)).length≤x.1.length+x.2.length+8:=by
   rw [e2,List.length_append]
   omega
  have h4:=Iv (r:=Aw (x.1,x.2,false)) (by omega)
  rw [e,Gw,List.length_append,Ik]
  omega
theorem K3 {l : List Af} (h : ∀ p∈l,okP p) : (grp Ah ((Bo l).map Aw)).length≤16+Ag l:=by
 have:=body_anew l h
 rw [Fc Dj]
 omega
section
variable {z : Nm} {S : Dk} {L : Lw} {sure : Bool} {lp : List Af} {gs : List (List Bs)} {ps : List An}
theorem lay_small (h : Cx z S L sure lp gs) (hk : Ok S) (hz : Ap z=true) (hl : ∀ p∈lp,okP p) (hp : Bc ps=true) (hf : Bb (Ai lp ps)=true)
  (h0 : (Bf S L sure ps (Ai lp ps)).2.2=0) : (Bf S L sure ps (Ai lp ps)).2.1.wh≤10000+2 * Ag (Ai lp ps):=by
 obtain ⟨h1,-,-⟩:=h
 by_cases hc : sure=true∧L.wh+By (ps.map Aw)≤10000+2 * Ag (Ai lp ps)
 ·rw [Ij hc.1 hc.2] at h0 ⊢
  obtain ⟨-,tl,-,q,-⟩:=(Om h1 hk hz (Ei hp)).1 h0
  obtain ⟨-,tl2,-,q2,-⟩:=h1
  have:=Lm (ps.map Aw)
  rw [q,O0,Fu,List.length_append]
  omega
 ·have he:=Gi ps hl (Er hp).2.1
  rw [Ha hc] at h0 ⊢
  obtain ⟨-,tl,-,q,-⟩:=(reset_has h1 hk (Ei (Hw he hf))).1 h0
  have:=K3 he
  rw [q,Fu]
  omega
end
end Go.Proofs.YtblniomnhpedjaaGreatDoor
namespace Go.Proofs.YtblniomnhpedjaaGreatDoor
open Go.RowKit
set_option maxRecDepth 20000 in
theorem tget_nil (w : World) (k : ByteArray) : Calls Tryz.prog 37 #[.pointer none, .string k] w fun e w'=>(∃ v,e = .returned (.tuple #[.string v, .bool false]))∧w'=w:=by
 have hi:=Jg w
 go_enter Tryz.func37,Tryz.ntmps37
 go_wp2_with fail
 refine hi.mono ?_
 rintro e w1 ⟨rfl,rfl⟩
 go_wp2
 go_ret2
 exact ⟨⟨_,rfl⟩,rfl⟩
set_option maxRecDepth 20000 in
theorem tcommit_nil (w : World) (v : Value) : Calls Tryz.prog 29 #[.pointer none,v] w fun e w'=>e = .returned (.int .i64 1)∧w'=w:=by
 have hi:=Jg w
 go_enter Tryz.func29,Tryz.ntmps29
 go_wp2_with fail
 refine hi.mono ?_
 rintro e w1 ⟨rfl,rfl⟩
 go_wp2
 go_ret
 exact ⟨rfl,rfl⟩
set_option maxRecDepth 20000 in
theorem tlen_nil (w : World) : Calls Tryz.prog 30 #[.pointer none] w fun e w'=>e = .returned (.int .i64 0)∧w'=w:=by
 have hi:=Jg w
 go_enter Tryz.func30,Tryz.ntmps30
 go_wp2_with fail
 refine hi.mono ?_
 rintro e w1 ⟨rfl,rfl⟩
 go_wp2
 go_ret
 exact ⟨rfl,rfl⟩
set_option maxRecDepth 20000 in
theorem tall_nil (w : World) (k : ByteArray) : Calls Tryz.prog 32 #[.pointer none, .string k] w fun e w'=>e = .returned (.slice none 0 0)∧w'=w:=by
 have hi:=Jg w
 go_enter Tryz.func32,Tryz.ntmps32
 go_wp2_with fail
 refine hi.mono ?_
 rintro e w1 ⟨rfl,rfl⟩
 go_wp2
 go_ret
 exact ⟨rfl,rfl⟩
set_option maxRecDepth 20000 in
theorem topen_nil (w : World) (k : ByteArray) : Calls Tryz.prog 14 #[.pointer none, .string k] w fun e w'=>e = .returned (.tuple #[.pointer none, .int .i64 1])∧w'=w:=by
 have ho:=open_nil w (.string k)
 have ha : Calls Tryz.prog 39 #[.int .i64 1] w fun x w'=>x = .returned (.int .i64 1)∧w'=w:=Im w 1
 go_enter Tryz.func14,Tryz.ntmps14
 go_wp2_with fail
 refine ho.mono ?_
 rintro e w1 ⟨rfl,rfl⟩
 go_wp2_with fail
 refine ha.mono ?_
 rintro e w2 ⟨rfl,rfl⟩
 go_wp2
 go_ret2
 exact ⟨rfl,rfl⟩
set_option maxRecDepth 20000 in
theorem none_any (w : World) : Calls Tryz.prog 10 #[] w fun e w'=>e = .returned (.bool true)∧w'=w:=by
 have h1:=fun k=>topen_nil w k
 have h2:=fun k=>tget_nil w k
 have h3:=fun v=>tcommit_nil w v
 have h4:=fun k=>tall_nil w k
 have h5:=tlen_nil w
 go_enter Tryz.func10,Tryz.ntmps10
 go_wp2_with fail
 refine (h1 _).mono ?_
 rintro e w1 ⟨rfl,rfl⟩
 go_wp2_with fail
 refine (h2 _).mono ?_
 rintro e w2 ⟨⟨v,rfl⟩,rfl⟩
 go_wp2_with fail
 refine (h3 _).mono ?_
 rintro e w3 ⟨rfl,rfl⟩
 go_wp2_with fail
 refine (h4 _).mono ?_
 rintro e w4 ⟨rfl,rfl⟩
 go_wp2_with fail
 refine h5.mono ?_
 rintro e w5 ⟨rfl,rfl⟩
 go_wp2
 go_ret
 exact ⟨rfl,rfl⟩
end Go.Proofs.YtblniomnhpedjaaGreatDoor
namespace Go.Proofs.YtblniomnhpedjaaGreatDoor
open Go.RowKit
def PrT (w : World) (v : Value) (l : List Af) : Prop:=
 ∃ ao cap,v = .slice ao l.length cap∧l.length≤cap∧cap≤maxLen∧(l ≠ []→∃ b off,ao=some ⟨b,off,none⟩∧b<w.heap.size∧∀ j (h : j<l.length),w.cell? ⟨b,off+j * 2,none⟩=some (.string (Ae l[j].1))∧w.cell? ⟨b,off+j * 2+1,none⟩=some (.string (Ae l[j].2)))
theorem weightT_take (l : List Af) {k : Nat} (h : k<l.length) : Ag (l.take (k+1))=Ag (l.take k)+(16+l[k].1.length+l[k].2.length):=by
 rw [Fk l h,If,Ik]
 simp [Ag]
theorem weightT_le (l : List Af) (k : Nat) : Ag (l.take k)≤Ag l:=by
 have h : Ag l=Ag (l.take k)+Ag (l.drop k):=by rw [← If,List.take_append_drop]
 omega
set_option maxRecDepth 20000 in
theorem Pk (w : World) (v : Value) (l : List Af) (hv : PrT w v l) (hm : Ag l≤4611686018427387904) :
  Calls Tryz.prog 34 #[v] w fun e w'=>e = .returned (.int .i64 (Ag l))∧Chg (fun _=>False) w w':=by
 obtain ⟨ao,cap,rfl,h1,h2,h4⟩:=hv
 unfold maxLen at h2
 go_enter Tryz.func34,Tryz.ntmps34
 go_wp2_with fail
 go_loopw [4,3] (fun t u wr=>∃ k : Nat,k≤l.length∧t = .int .i64 k∧u = .int .i64 (Ag (l.take k))∧Chg (fun _=>False) w wr)
  (fun t _ _=>l.length - (intOf t).toNat)
 case atStart=>exact ⟨0,by omega,rfl,by simp [Ag],Chg.refl _ _⟩
 case round=>
  obtain ⟨k,hk,rfl,rfl,hch⟩:=hrel
  by_cases hlt : k<l.length
  ·obtain ⟨b,off,rfl,hbl,hc⟩:=h4 (by intro e; rw [e] at hlt; simp at hlt)
   have c0:=(World.cell?_of_block (w:=w) (a:=⟨b,off+k * 2,none⟩) (hch.block b hbl (fun h=>h))).trans (hc k hlt).1
   have c1:=(World.cell?_of_block (w:=w) (a:=⟨b,off+k * 2+1,none⟩) (hch.block b hbl (fun h=>h))).trans (hc k hlt).2
   have htk:=weightT_take l hlt
   have hle:=weightT_le l (k+1)
   generalize l[k]=x at *
   have hx1:=B1 x.1
   have hx2:=B1 x.2
   obtain ⟨tk,htk1⟩ : ∃ tk,tk=Ag (l.take k):=⟨_,rfl⟩
   obtain ⟨tn,htn1⟩ : ∃ tn,tn=Ag (l.take (k+1)):=⟨_,rfl⟩
   rw [← htk1,← htn1] at htk
   rw [← htn1] at hle
   rw [← htk1]
   have q1 : IntKind.i64.wrap ((tk : Int)+16)=(tk : Int)+16:=by simp [IntKind.wrap,IntKind.bits,IntKind.signed]; omega
   have q2 : IntKind.i64.wrap ((tk : Int)+16+(x.1.length : Int))=(tk : Int)+16+(x.1.length : Int):=by simp [IntKind.wrap,IntKind.bits,IntKind.signed]; omega
   have q3 : IntKind.i64.wrap ((tk : Int)+16+(x.1.length : Int)+(x.2.length : Int))=(tn : Int):=by
    rw [show (tk : Int)+16+(x.1.length : Int)+(x.2.length : Int)=(tn : Int) by omega]
    simp [IntKind.wrap,IntKind.bits,IntKind.signed]
    omega
   have HN:=Ab (And.intro htn1 hch)
   clear hc htk hle htk1 htn1 hch
   go_wp2_with fail
   refine wp_region_held_drew (S:=fun W=>W.cell? ⟨b,off+k * 2,none⟩=some (.string (Ae x.1))∧W.cell? ⟨b,off+k * 2+1,none⟩=some (.string (Ae x.2))) (by kernel_rfl) (⟨c0,c1⟩) (fun hHeld=>?_)
   refine Aa 0 hHeld ?_
   refine Aa 1 hHeld ?_
   refine Aa 2 hHeld ?_
   refine Aa 3 hHeld ?_
   refine Aa 4 hHeld ?_
   refine Aa 5 hHeld ?_
   refine Aa 6 hHeld ?_
   refine Aa 7 hHeld ?_
   refine Aa 8 hHeld ?_
   refine Aa 9 hHeld ?_
   refine Aa 10 hHeld ?_
   refine Aa 11 hHeld ?_
   refine Aa 12 hHeld ?_
   refine Aa 13 hHeld ?_
   refine Aa 14 hHeld ?_
   refine Aa 15 hHeld ?_
   refine Aa 16 hHeld ?_
   refine wpAnyH_done (by kernel_rfl) ?_ _
   clear hHeld
   go_wp2
   go_roundw
   case rel=>exact ⟨k+1,by omega,by go_num,by rw [HN.out.1],HN.out.2.drew⟩
   case measure=>simp [intOf]; omega
  ·have hkl : k=l.length:=by omega
   subst hkl
   rw [List.take_length]
   go_wp2
   go_ret
   exact ⟨rfl,hch⟩
end Go.Proofs.YtblniomnhpedjaaGreatDoor
namespace Go.Proofs.YtblniomnhpedjaaGreatDoor
open Go.RowKit
variable {B : Nat} {w w' : World} {F : Nat→Prop} {d l : Nat} {z : Nm} {gs : List (List (List UInt8))} {v : Value} {m M : Nat}
theorem E1.keep {X : Nat→Prop} (h : E1 B w F d l z gs m M) (hc : Chg X w w') (hX : ∀ k,F k→¬ X k) (hl : ¬ X l) : E1 B w' F d l z gs m M:=by
 obtain ⟨S,L,h1,h2⟩:=h
 exact ⟨S,L,h1.keep hc hX hl,h2⟩
theorem E1.quiet (h : E1 B w F d l z gs m M) (hc : Chg (fun _=>False) w w') : E1 B w' F d l z gs m M:=h.keep hc (fun _ _ h=>h) (fun h=>h)
theorem E1.low (h : E1 B w F d l z gs m M) : (∀ k,F k→k<w.heap.size)∧l<w.heap.size:=by
 obtain ⟨S,L,h1,h2⟩:=h
 exact ⟨fun k hk=>(h1.1.2.1 k hk).2,h1.lt⟩
theorem L3 (w : World) (cs : List Value) (t : TypeId) (j : Nat) (u : Value) (h : cs[j]? = some u) : (w.alloc (.cells cs.toArray t)).cell? ⟨w.heap.size,j,none⟩=some u:=by
 have:=Ad (Au w (.cells cs.toArray t)) j
 rw [this]
 simpa using h
theorem Fd (w : World) (o : Obj) : Chg (fun _=>False) w (w.alloc o):=(Chg.refl _ w).alloc o
end Go.Proofs.YtblniomnhpedjaaGreatDoor
namespace Go.Proofs.YtblniomnhpedjaaGreatDoor
open Go.RowKit
def Bg (lp : List Af) (ps : List An) : Int:=if Bc ps=false then 130 else if Bb (Ai lp ps)=false then 131 else 0
def Bz (lp : List Af) (ps : List An) : List Af:=if Bg lp ps=0 then Ai lp ps else lp
def Bt (B : Nat) (w : World) (F : Nat→Prop) (d g t b : Nat) (z : Nm) (S : Dk) (lp : List Af) (m M : Nat) : Prop:=∃ L sure gs,TabL B w F d g t b S L sure lp∧Cx z S L sure lp gs∧B3 S∧S.bulk≤m∧S.room=M∧L.wh≤3000000
section
variable {B : Nat} {w w' : World} {F : Nat→Prop} {d g t b : Nat} {z : Nm} {S : Dk} {L : Lw} {sure : Bool} {lp : List Af} {gs : List (List Bs)} {ps : List An} {v : Value} {m M : Nat}
theorem Hy (h : Bc ps=false) : Bg lp ps=130:=by unfold Bg; rw [if_pos h]
theorem Hv (h : Bc ps=true) (h2 : Bb (Ai lp ps)=false) : Bg lp ps=131:=by unfold Bg; rw [if_neg (by rw [h]; simp),if_pos h2]
theorem ans_ok (h : Bc ps=true) (h2 : Bb (Ai lp ps)=true) : Bg lp ps=0:=by unfold Bg; rw [if_neg (by rw [h]; simp),if_neg (by rw [h2]; simp)]
theorem Gf (h : Bg lp ps=0) : Bz lp ps=Ai lp ps:=by unfold Bz; rw [if_pos h]
theorem Gj (h : Bg lp ps≠0) : Bz lp ps=lp:=by unfold Bz; rw [if_neg h]
theorem wh_bulk (h : Has z S L gs) : L.wh≤(S.bulk : Int):=by
 obtain ⟨-,tail,⟨-,-,hF⟩,q,-⟩:=h
 rcases hF with ⟨-,e⟩ | ⟨f,hK⟩
 ·have:=congrArg List.length e
  rw [List.length_append,List.length_nil] at this
  omega
 ·obtain ⟨x,hx,hb,-⟩:=hK.file
  have h1 : x.b.length≤(S.files.map fun f=>f.b.length).sum:=Km (List.mem_map.2 ⟨x,List.mem_of_getElem? hx,rfl⟩)
  rw [hb,List.length_append] at h1
  unfold Dk.bulk
  omega
theorem commit_plain {k : Nat} (h : Cx z S L sure lp gs) (hk : Ok S) (hz : Cj z=true) (hr : Bn lp) (hl : ∀ p∈lp,okP p) (hf0 : Bb lp=true) (hc : B3 S) (hroom : S.bulk+k≤S.room) (hw : L.wh≤3000000)
  (hkb : Bc ps=true→Bb (Ai lp ps)=true→L.wh+By (ps.map Aw)+Ag (Ai lp ps)+100≤k) :
  (Aq S L sure lp ps).2.2.2.2=Bg lp ps∧(Aq S L sure lp ps).2.2.2.1=Bz lp ps∧(∃ gs',Cx z (Aq S L sure lp ps).1 (Aq S L sure lp ps).2.1 (Aq S L sure lp ps).2.2.1 (Bz lp ps) gs')
  ∧B3 (Aq S L sure lp ps).1∧((Aq S L sure lp ps).1.bulk≤S.bulk+2200000∧(Aq S L sure lp ps).1.bulk≤S.bulk+k)∧(Aq S L sure lp ps).1.room=S.room∧(Aq S L sure lp ps).2.1.wh≤3000000∧(Bg lp ps≠0∨ps = []→(Aq S L sure lp ps).1=S):=by
 have hnm:=Hd hz
 have hwh0 : 0≤L.wh:=by
  obtain ⟨⟨-,tail,-,q,-⟩,-⟩:=h
  omega
 cases hp : Bc ps with
 | false=>
  have ha : Bg lp ps=130:=Hy hp
  have hn : Bz lp ps=lp:=Gj (by rw [ha]; decide)
  rw [Mb hp,ha,hn]
  exact ⟨rfl,rfl,⟨gs,h⟩,hc,⟨Nat.le_add_right _ _,Nat.le_add_right _ _⟩,rfl,hw,fun _=>rfl⟩
 | true=>
  by_cases h0 : ps = []
  ·have ha : Bg lp ps=0:=ans_ok hp (by rw [h0]; exact hf0)
   have hn : Bz lp ps=lp:=by rw [Gf ha,h0]; rfl
   rw [M6 hp h0,ha,hn]
   exact ⟨rfl,rfl,⟨gs,h⟩,hc,⟨Nat.le_add_right _ _,Nat.le_add_right _ _⟩,rfl,hw,fun _=>rfl⟩
  ·cases hf : Bb (Ai lp ps) with
   | false=>
    have ha : Bg lp ps=131:=Hv hp hf
    have hn : Bz lp ps=lp:=Gj (by rw [ha]; decide)
    rw [Ls hp h0 hf,ha,hn]
    exact ⟨rfl,rfl,⟨gs,h⟩,hc,⟨Nat.le_add_right _ _,Nat.le_add_right _ _⟩,rfl,hw,fun _=>rfl⟩
   | true=>
    have ha : Bg lp ps=0:=ans_ok hp hf
    have hn : Bz lp ps=Ai lp ps:=Gf ha
    have hfl:=Ea hf
    have hlay : (Bf S L sure ps (Ai lp ps)).2.2=0∧Alt S (Bf S L sure ps (Ai lp ps)).1∧(Bf S L sure ps (Ai lp ps)).1.bulk≤S.bulk+2200000∧(Bf S L sure ps (Ai lp ps)).1.bulk≤S.bulk+k:=by
     have hkk:=hkb hp hf
     obtain ⟨h1,h2,h3⟩:=h
     by_cases hcnd : sure=true∧L.wh+By (ps.map Aw)≤10000+2 * Ag (Ai lp ps)
     ·rw [Ij hcnd.1 hcnd.2]
      have hgm:=Lm (ps.map Aw)
      have hlw : L.wh=((laid Ah gs).length : Int):=by
       obtain ⟨-,tail,-,q,-⟩:=h1
       exact q
      have hca:=calm_appendW h1 hc hk hnm.1 hnm.2 (Ei hp) (by omega)
      have hbu:=Nc (rs:=ps.map Aw) h1
      exact ⟨hca.1,hca.2,by omega,by omega⟩
     ·rw [Ha hcnd]
      have he:=Gi ps hl (Er hp).2.1
      have hga:=K3 he
      have hca:=calm_resetW h1 hc hk hnm.1 hnm.2 (Ei (Hw he hf)) (by omega)
      have hbu:=Px S L ((Bo (Ai lp ps)).map Aw)
      exact ⟨hca.1,hca.2,by omega,by omega⟩
    have hsm:=lay_small h hk hnm.1 hl hp hf hlay.1
    obtain ⟨gs',q1,q2,q3⟩:=Ks h hk hnm.1 hr hl hp h0 hf
    rw [M0 hp h0 hf hlay.1,ha,hn]
    exact ⟨rfl,rfl,⟨gs',q1.1 hlay.1,q3,fun _=>q2⟩,hlay.2.1.calm hc,hlay.2.2,hlay.2.1.2.2,Int.le_trans hsm (by omega),fun e=>e.elim (fun e=>absurd rfl e) (fun e=>absurd e h0)⟩
theorem Bt.tab (h : Bt B w F d g t b z S lp m M) : ∃ sure,TabAt w t b g sure lp:=by
 obtain ⟨L,sure,gs,h1,-⟩:=h
 exact ⟨sure,h1.tab⟩
theorem Bt.fit (h : Bt B w F d g t b z S lp m M) : Bb lp=true∧(∀ p∈lp,okP p)∧Bn lp:=by
 obtain ⟨L,sure,gs,h1,-⟩:=h
 exact ⟨h1.fit,h1.each,h1.tab.rise⟩
theorem Bt.stands (h : Bt B w F d g t b z S lp m M) : Bi B w F d S∧S.bulk≤m∧B3 S:=by
 obtain ⟨L,sure,gs,h1,-,h2,h3,-⟩:=h
 exact ⟨h1.log.1,h3,h2⟩
theorem Bt.keep {X : Nat→Prop} (h : Bt B w F d g t b z S lp m M) (hc : Chg X w w') (hF : ∀ k,F k→¬ X k) (h1 : ¬ X t) (h2 : ¬ X b) (h3 : ¬ X g) : Bt B w' F d g t b z S lp m M:=by
 obtain ⟨L,sure,gs,k1,k2⟩:=h
 exact ⟨L,sure,gs,k1.keep hc hF h1 h2 h3,k2⟩
theorem Bt.quiet (h : Bt B w F d g t b z S lp m M) (hc : Chg (fun _=>False) w w') : Bt B w' F d g t b z S lp m M:=h.keep hc (fun _ _ h=>h) (fun h=>h) (fun h=>h) (fun h=>h)
theorem Bt.low (h : Bt B w F d g t b z S lp m M) : (∀ k,F k→B≤k∧k<w.heap.size)∧(B≤g∧g<w.heap.size)∧(B≤t∧t<w.heap.size)∧(B≤b∧b<w.heap.size):=by
 obtain ⟨L,sure,gs,k1,-⟩:=h
 exact ⟨k1.log.1.2.1,⟨k1.log.2.2.2.1,k1.log.lt⟩,⟨k1.bt,At k1.tab.cells⟩,⟨k1.bb,k1.tab.map.lt⟩⟩
theorem Bt.belowC (h : Bt B w F d g t b z S lp m M) (hc : Chg (fun k=>F k∨k=g∨k=t) w w') : Below B w w':=by
 have hl:=h.low
 refine hc.below (fun k hk=>?_) (by omega)
 rcases hk with hk | rfl | rfl
 ·exact (hl.1 k hk).1
 ·exact hl.2.1.1
 ·exact hl.2.2.1.1
theorem Bt.more {m' : Nat} (h : Bt B w F d g t b z S lp m M) (hm : m≤m') : Bt B w F d g t b z S lp m' M:=by
 obtain ⟨L,sure,gs,h1,h2,h3,h4,h5⟩:=h
 exact ⟨L,sure,gs,h1,h2,h3,Nat.le_trans h4 hm,h5⟩
theorem Qu {k : Nat} (h : Bt B w F d g t b z S lp m M) (hz : Cj z=true) (hv : PsT w v ps) (hB0 : 0<B) (hT : Bm w) (hm : 2 * m<999999990) (hM : m+k≤M)
  (hkb : ∀ wh : Int,wh≤3000000→wh≤m→Bc ps=true→Bb (Ai lp ps)=true→wh+By (ps.map Aw)+Ag (Ai lp ps)+100≤k) {x : Nat} (hx : x=2200000∨x=k) :
  Calls Tryz.prog 29 #[.pointer (some ⟨t,0,none⟩),v] w fun e w'=>e = .returned (.int .i64 (Bg lp ps))∧∃ F' b' S',Bt B w' F' d g t b' z S' (Bz lp ps) (m+x) M∧(Bg lp ps≠0∨ps = []→S'=S) ∧
   (∀ k,F' k→F k∨w.heap.size≤k)∧(b'=b∨w.heap.size≤b')∧Chg (fun k=>F k∨k=g∨k=t) w w':=by
 obtain ⟨L,sure,gs,h1,h2,h3,h4,h5,h6⟩:=h
 have hwb:=wh_bulk h2.1
 obtain ⟨p1,p2,⟨gs',p3⟩,p4,p5,p6,p7,p8⟩:=commit_plain (ps:=ps) (k:=k) h2 h1.log.1.ok hz h1.tab.rise h1.each h1.fit h3 (by omega) h6 (hkb L.wh h6 (by omega))
 have hwh : 0≤L.wh:=by
  obtain ⟨⟨-,tail,-,q,-⟩,-⟩:=h2
  omega
 refine (Ob h1 hv hB0 hT (by omega) ⟨hwh,by omega⟩).mono ?_
 rintro e w' ⟨rfl,F',b',k1,k2,k3,k4⟩
 rw [p2] at k1
 exact ⟨by rw [p1],F',b',_,⟨_,_,gs',k1,p3,p4,by omega,p6.trans h5,p7⟩,p8,k2,k3,k4⟩
theorem Kw {k : Nat} (h : Bt B w F d g t b z S lp m M) (hz : Cj z=true) (hv : PsT w v ps) (hB0 : 0<B) (hT : Bm w) (hm : 2 * m<999999990) (hM : m+k≤M) (hk : m+(130+30 * ps.length+Bk ps)+Ag (Ai lp ps)≤k) :
  Calls Tryz.prog 29 #[.pointer (some ⟨t,0,none⟩),v] w fun e w'=>e = .returned (.int .i64 (Bg lp ps))∧∃ F' b' S',Bt B w' F' d g t b' z S' (Bz lp ps) (m+k) M∧(Bg lp ps≠0∨ps = []→S'=S) ∧
   (∀ k,F' k→F k∨w.heap.size≤k)∧(b'=b∨w.heap.size≤b')∧Chg (fun k=>F k∨k=g∨k=t) w w':=
 Qu (k:=k) h hz hv hB0 hT hm hM (fun wh _ h2 _ _=>by have:=most_le ps; omega) (.inr rfl)
theorem Lv {tail : List UInt8} (h : Bi B w F d S) (ho : On z S gs tail) (hto : Ct gs=some lp) (hgl : (laid Ah gs).length≤3000000) (hc : B3 S) (hz : Cj z=true) (hB : B≤w.heap.size) (hB0 : 0<B) (hT : Bm w) (hb : S.bulk<1000000000) :
  Calls Tryz.prog 14 #[.pointer (some ⟨d,0,none⟩), .string (Ae z)] w fun e w'=>∃ t b g F',e = .returned (.tuple #[.pointer (some ⟨t,0,none⟩), .int .i64 0])∧Bt B w' F' d g t b z S.begun lp (S.bulk+1) S.room ∧
   (∀ k,F' k→F k∨w.heap.size≤k)∧w.heap.size≤t∧w.heap.size≤b∧w.heap.size≤g∧Chg F w w':=by
 have hnm:=Hd hz
 have hlk:=ho.look hnm.1 (Hi hc) (hc.2 _)
 refine (Li h hB hB0 hT hb z hz (fun y hy g hg=>?_)).mono ?_
 ·rw [hlk] at hy
  injection hy with hy
  subst hy
  have hr:=ho.1 g hg
  refine ⟨?_,fun r hr'=>by have:=Ga hr r hr'; omega⟩
  unfold right at hr
  simp only [Bool.and_eq_true,decide_eq_true_eq] at hr
  omega
 ·rintro e w' hO
  unfold E5 at hO
  rw [hlk] at hO
  simp only [hto] at hO
  obtain ⟨t,b,g,F',rfl,h1,h2,h3,h4,h5,h6⟩:=hO
  exact ⟨t,b,g,F',rfl,⟨_,false,gs,h1,⟨ho.begun.has false,hto,fun e=>by cases e⟩,(D9 S).calm hc,Gk S,(D9 S).2.2,by simp only; omega⟩,h2,h3,h4,h5,h6⟩
theorem tcrash_calm (h : Bt B w F d g t b z S lp m M) (hm : m<1000000000) (keep tn : Int) :
  Calls Tryz.prog 23 #[.pointer (some ⟨d,0,none⟩), .int .i64 keep, .int .i64 tn] w fun e w'=>∃ d2 F2 S2 tail gs,e = .returned (.pointer (some ⟨d2,0,none⟩))∧Bi B w' F2 d2 S2∧On z S2 gs tail∧Ct gs=some lp∧(laid Ah gs).length≤3000000∧B3 S2∧S2.bulk≤m∧(∀ k,F2 k→w.heap.size≤k)∧Chg (fun _=>False) w w':=by
 obtain ⟨L,sure,gs,h1,⟨⟨hn,tail,ho,hw1,hw2⟩,hto,-⟩,hc,hb,hM,hw⟩:=h
 have hbc:=Pc (S:=S) keep tn
 refine (Nx h1.log.1 h1.log.size keep tn (by omega)).mono ?_
 rintro e w' ⟨d2,F2,rfl,h3,h4,h5⟩
 exact ⟨d2,F2,_,tail,gs,rfl,h3,ho.crash h1.log.1.ok keep tn,hto,by omega,P1 keep tn,by omega,h4,h5⟩
end
end Go.Proofs.YtblniomnhpedjaaGreatDoor
namespace Go.Proofs.YtblniomnhpedjaaGreatDoor
open Go.RowKit
theorem toL (l : List UInt8) : (Ae l).toList=l:=by rw [ByteArray.toList_eq]; exact Dg l
theorem Tryz.eqPair : Tryz.prog.underlying 75=some (.struct (Tryz.prog.fieldsOf 75))∧Tryz.prog.stoodInHeld 75=false∧Tryz.prog.eqGuardType Tryz.prog.depth 75=false:=⟨by kernel_rfl,by kernel_rfl,by kernel_rfl⟩
def same1 (x y : Af) : Bool:=decide (x=y)
theorem same1_true {x y : Af} (h : x=y) : same1 x y=true:=decide_eq_true h
theorem same1_false {x y : Af} (h : ¬ x=y) : same1 x y=false:=decide_eq_false h
theorem neq_Pair (W : World) (a0 b0 a1 b1 : Bs) : (binOp .neq 75 (.agg #[.string (Ae a0), .string (Ae a1)]) (.agg #[.string (Ae b0), .string (Ae b1)])).run Tryz.prog W = .ok (.bool (!(a0 == b0 && a1 == b1))) W:=by
 obtain ⟨h1,h2,h3⟩:=Tryz.eqPair
 rw [run_neq_struct,run_equalIn_agg _ _ _ _ _ h1 h2]
 simp only [Program.fieldsOf,Tryz.underlying75]
 by_cases q0 : a0=b0 <;> by_cases q1 : a1=b1 <;> simp [Op.eqFields,go_sem,Tryz.underlying9,toL,q0,q1]
theorem neqPair (W : World) (x y : Af) : (binOp .neq 75 (.agg #[.string (Ae x.1), .string (Ae x.2)]) (.agg #[.string (Ae y.1), .string (Ae y.2)])).run Tryz.prog W = .ok (.bool (!(same1 x y))) W:=by
 rw [neq_Pair,show (x.1 == y.1 && x.2 == y.2)=same1 x y from by unfold same1; rw [Bool.eq_iff_iff]; simp [Prod.ext_iff]]
theorem J3 (l : List Af) (j i : Nat) (hj : j<l.length) (u : Value) (hu : (prC l[j])[i]? = some u) : (l.flatMap prC)[j * 2+i]? = some u:=by
 induction l generalizing j with
 | nil=>simp at hj
 | cons x r ih=>
  rw [List.flatMap_cons]
  have hx : (prC x).length=2:=rfl
  cases j with
  | zero=>
   simp only [List.getElem_cons_zero] at hu
   have hi : i<(prC x).length:=(List.getElem?_eq_some_iff.1 hu).1
   rw [Nat.zero_mul,Nat.zero_add,List.getElem?_append_left hi]
   exact hu
  | succ j=>
   simp only [List.getElem_cons_succ] at hu
   rw [List.getElem?_append_right (by rw [hx]; omega),hx,show (j+1) * 2+i - 2=j * 2+i by omega]
   exact ih j (by simpa using hj) hu
theorem Cq.pr {B : Nat} {w : World} {v : Value} {l : List Af} (h : Cq B w v l) : PrT w v l:=by
 have h':=h
 obtain ⟨-,⟨rfl,h0⟩ | ⟨g,cap,cur,rfl,-,hh,hc,hm,-⟩⟩:=h'
 ·obtain rfl : l = []:=List.eq_nil_of_length_eq_zero h0
  exact ⟨none,0,rfl,by simp,by simp,fun h=>absurd rfl h⟩
 ·refine ⟨_,_,rfl,hc,hm,fun _=>⟨g,0,rfl,At hh,fun j hj=>⟨?_,?_⟩⟩⟩
  ·have:=World.ownsRow.cells h (g:=g) rfl _ _ (J3 l j 0 hj _ rfl)
   rw [Addr.add_lit] at this
   simpa using this
  ·have:=World.ownsRow.cells h (g:=g) rfl _ _ (J3 l j 1 hj _ rfl)
   rw [Addr.add_lit] at this
   rwa [Nat.add_assoc]
theorem PrT.keepB {B : Nat} {w w' : World} {v : Value} {l : List Af} (h : PrT w v l) (hb : Below w.heap.size w w') (_ : B≤B) : PrT w' v l:=by
 obtain ⟨ao,cap,hv,h1,h2,h4⟩:=h
 refine ⟨ao,cap,hv,h1,h2,fun hl=>?_⟩
 obtain ⟨b,off,ha,hlt,hc⟩:=h4 hl
 exact ⟨b,off,ha,Nat.lt_of_lt_of_le hlt hb.size,fun j hj=>⟨(World.cell?_of_block (w:=w) (hb.block b hlt)).trans (hc j hj).1,(World.cell?_of_block (w:=w) (hb.block b hlt)).trans (hc j hj).2⟩⟩
theorem PrT.quiet {w w' : World} {v : Value} {l : List Af} (h : PrT w v l) (hc : Chg (fun _=>False) w w') : PrT w' v l:=h.keepB (B:=0) (hc.below (fun _ h=>h.elim) (Nat.le_refl _)) (Nat.le_refl _)
theorem PrT.form {w : World} {v : Value} {l : List Af} (h : PrT w v l) : ∃ ao cap,v = .slice ao l.length cap:=by
 obtain ⟨ao,cap,hv,-⟩:=h
 exact ⟨ao,cap,hv⟩
theorem prT_built (w : World) (xs : List Af) (t : TypeId) (hl : xs.length≤maxLen) : PrT (w.alloc (.cells (xs.flatMap prC).toArray t)) (.slice (some ⟨w.heap.size,0,none⟩) xs.length xs.length) xs:=
 ⟨_,_,rfl,Nat.le_refl _,hl,fun _=>⟨w.heap.size,0,rfl,by simp,fun j hj=>⟨by rw [Nat.zero_add]; exact L3 w _ t _ _ (J3 xs j 0 hj _ rfl),by rw [Nat.zero_add]; exact L3 w _ t _ _ (J3 xs j 1 hj _ rfl)⟩⟩⟩
set_option maxRecDepth 20000 in
set_option maxHeartbeats 800000 in
theorem Hx (w : World) (xs ys : List Af) (vx vy : Value) (hvx : PrT w vx xs) (hvy : PrT w vy ys) :
  Calls Tryz.prog 31 #[vx,vy] w fun e w'=>e = .returned (.bool (decide (xs=ys)))∧Chg (fun _=>False) w w':=by
 obtain ⟨ax,capx,rfl,gx1,gx2,hx⟩:=hvx
 obtain ⟨ay,capy,rfl,gy1,gy2,hy⟩:=hvy
 unfold maxLen at gx2 gy2
 by_cases hle : xs.length=ys.length
 rotate_left
 ·have hle' : ((xs.length : Int) == (ys.length : Int))=false:=by simp; omega
  go_enter Tryz.func31,Tryz.ntmps31
  go_wp2_with fail
  skip
  try go_wp2
  go_ret
  exact ⟨D2 (Eq.symm (decide_eq_false (fun e=>hle (congrArg List.length e)))),Chg.refl _ _⟩
 rw [hle] at gx1 ⊢
 have HLE:=Ab hle
 clear hle
 go_enter Tryz.func31,Tryz.ntmps31
 go_wp2_with fail
 skip
 go_loopw [5] (fun t wr=>∃ k : Nat,k≤ys.length∧t = .int .i64 k∧xs.take k=ys.take k∧Chg (fun _=>False) w wr)
  (fun t _=>ys.length - (intOf t).toNat)
 case atStart=>exact ⟨0,by omega,rfl,by simp,Chg.refl _ _⟩
 case round=>
  obtain ⟨k,hk,rfl,htk,hbr⟩:=hrel
  have HB:=Ab hbr
  have HTK:=Ab htk
  clear hbr htk
  by_cases hlt2 : k<ys.length
  ·have hlt : k<xs.length:=by rw [HLE.out]; exact hlt2
   obtain ⟨bx,offx,rfl,hbX,hcx⟩:=hx (by intro e; rw [e] at hlt; simp at hlt)
   obtain ⟨bY,offy,rfl,hbYl,hcy⟩:=hy (by intro e; rw [e] at hlt2; simp at hlt2)
   have c0:=(World.cell?_of_block (w:=w) (a:=⟨bx,offx+k * 2,none⟩) (HB.out.block bx hbX (fun h=>h))).trans (hcx k hlt).1
   have c1:=(World.cell?_of_block (w:=w) (a:=⟨bx,offx+k * 2+1,none⟩) (HB.out.block bx hbX (fun h=>h))).trans (hcx k hlt).2
   have d0:=(World.cell?_of_block (w:=w) (a:=⟨bY,offy+k * 2,none⟩) (HB.out.block bY hbYl (fun h=>h))).trans (hcy k hlt2).1
   have d1:=(World.cell?_of_block (w:=w) (a:=⟨bY,offy+k * 2+1,none⟩) (HB.out.block bY hbYl (fun h=>h))).trans (hcy k hlt2).2
   have hst:=fun he=>take_one HTK.out hlt hlt2 he
   have hno : xs[k]≠ys[k]→xs≠ys:=fun hne e=>hne (by simp only [e])
   generalize xs[k]=x at *
   generalize ys[k]=y at *
   have HST:=Ab hst
   have HNO:=Ab hno
   have hnq : ∀ W,_:=fun W=>neqPair W x y
   clear hst hno hcx hcy hx hy hlt
   go_wp2_with fail
   refine wp_region_held_drew (S:=fun W=>W.cell? ⟨bx,offx+k * 2,none⟩=some (.string (Ae x.1))∧W.cell? ⟨bx,offx+k * 2+1,none⟩=some (.string (Ae x.2))∧W.cell? ⟨bY,offy+k * 2,none⟩=some (.string (Ae y.1))∧W.cell? ⟨bY,offy+k * 2+1,none⟩=some (.string (Ae y.2))) (by kernel_rfl) (⟨c0,c1,d0,d1⟩) (fun hHeld=>?_)
   refine Aa 0 hHeld ?_
   refine Aa 1 hHeld ?_
   refine Aa 2 hHeld ?_
   refine Aa 3 hHeld ?_
   refine Aa 4 hHeld ?_
   refine Aa 5 hHeld ?_
   refine Aa 6 hHeld ?_
   refine Aa 7 hHeld ?_
   refine Aa 8 hHeld ?_
   refine wpAnyH_done (by kernel_rfl) ?_ _
   clear hHeld hnq
   have HBD:=Ab HB.out.drew
   by_cases he : x=y
   ·have hbe:=same1_true he
    rw [hbe]
    go_wp2
    go_roundw
    case rel=>exact ⟨k+1,by omega,by go_num,HST.out he,HBD.out⟩
    case measure=>simp [intOf]; omega
   ·have hbe:=same1_false he
    rw [hbe]
    go_wp2
    go_ret
    exact ⟨D2 (Eq.symm (decide_eq_false (fun e=>HNO.out he (e)))),HBD.out⟩
  ·have hall : xs=ys:=by
    have:=HTK.out
    have hL:=HLE.out
    rwa [List.take_of_length_le (by omega),List.take_of_length_le (by omega)] at this
   go_wp2
   go_ret
   exact ⟨D2 (Eq.symm (decide_eq_true (hall))),HB.out⟩
end Go.Proofs.YtblniomnhpedjaaGreatDoor
namespace Go.Proofs.YtblniomnhpedjaaGreatDoor
open Go.RowKit
theorem L8 (w : World) (ps : List An) (t : TypeId) (hl : ps.length≤maxLen) : PsT (w.alloc (.cells (ps.flatMap C1).toArray t)) (.slice (some ⟨w.heap.size,0,none⟩) ps.length ps.length) ps:=
 ⟨_,_,rfl,Nat.le_refl _,hl,fun _=>⟨w.heap.size,0,rfl,by simp,fun j hj i u hu=>by rw [Nat.zero_add]; exact L3 w _ t _ _ (Mj ps j i hj u hu)⟩⟩
theorem PsT.form {w : World} {v : Value} {l : List An} (h : PsT w v l) : ∃ ao cap,v = .slice ao l.length cap:=by
 obtain ⟨ao,cap,hv,-⟩:=h
 exact ⟨ao,cap,hv⟩
theorem PsT.keepB {w w' : World} {v : Value} {l : List An} (h : PsT w v l) (hb : Below w.heap.size w w') : PsT w' v l:=h.quiet (C5 hb)
theorem PsT.at {w : World} {ao : Option Addr} {n cap : Nat} {l : List An} (h : PsT w (.slice ao n cap) l) {j : Nat} (hj : j<l.length) :
  ∃ b off,ao=some ⟨b,off,none⟩∧b<w.heap.size∧w.cell? ⟨b,off+j * 3,none⟩=some (.string (Ae l[j].1))∧w.cell? ⟨b,off+j * 3+1,none⟩=some (.string (Ae l[j].2.1))∧w.cell? ⟨b,off+j * 3+2,none⟩=some (.bool l[j].2.2):=by
 obtain ⟨ao',cap',hv,-,-,h4⟩:=h
 injection hv with e1 e2 e3
 subst e1
 obtain ⟨b,off,ha,hb,hc⟩:=h4 (by intro e; rw [e] at hj; simp at hj)
 exact ⟨b,off,ha,hb,by simpa using hc j hj 0 _ rfl,by simpa using hc j hj 1 _ rfl,by simpa using hc j hj 2 _ rfl⟩
theorem PrT.at {w : World} {ao : Option Addr} {n cap : Nat} {l : List Af} (h : PrT w (.slice ao n cap) l) {j : Nat} (hj : j<l.length) :
  ∃ b off,ao=some ⟨b,off,none⟩∧b<w.heap.size∧w.cell? ⟨b,off+j * 2,none⟩=some (.string (Ae l[j].1))∧w.cell? ⟨b,off+j * 2+1,none⟩=some (.string (Ae l[j].2)):=by
 obtain ⟨ao',cap',hv,-,-,h4⟩:=h
 injection hv with e1 e2 e3
 subst e1
 obtain ⟨b,off,ha,hb,hc⟩:=h4 (by intro e; rw [e] at hj; simp at hj)
 exact ⟨b,off,ha,hb,(hc j hj).1,(hc j hj).2⟩
theorem PsT.len {w : World} {v : Value} {l : List An} (h : PsT w v l) : l.length≤9223372036854775807:=by
 obtain ⟨ao,cap,-,h1,h2,-⟩:=h
 unfold maxLen at h2
 omega
theorem PrT.len {w : World} {v : Value} {l : List Af} (h : PrT w v l) : l.length≤9223372036854775807:=by
 obtain ⟨ao,cap,-,h1,h2,-⟩:=h
 unfold maxLen at h2
 omega
def Cr (w : World) (r : Nat) (l : List Af) : Prop:=∃ u,w.heap[r]? = some (.cells #[u] 70)∧PrT w u l
theorem Cr.keepB {w w' : World} {r : Nat} {l : List Af} (h : Cr w r l) (hb : Below w.heap.size w w') : Cr w' r l:=by
 obtain ⟨u,h1,h2⟩:=h
 exact ⟨u,(hb.block r (At h1)).trans h1,h2.keepB (B:=0) hb (Nat.le_refl _)⟩
theorem Cr.lt {w : World} {r : Nat} {l : List Af} (h : Cr w r l) : r<w.heap.size:=by
 obtain ⟨u,h1,-⟩:=h
 exact At h1
end Go.Proofs.YtblniomnhpedjaaGreatDoor
namespace Go.Proofs.YtblniomnhpedjaaGreatDoor
open Go.RowKit
section
variable {B : Nat} {w w' : World} {F : Nat→Prop} {d g t b : Nat} {z : Nm} {S : Dk} {lp : List Af} {m M : Nat}
theorem tlen_calm (h : Bt B w F d g t b z S lp m M) : Calls Tryz.prog 30 #[.pointer (some ⟨t,0,none⟩)] w fun e w'=>e = .returned (.int .i64 lp.length)∧w'=w:=by
 obtain ⟨sure,h1⟩:=h.tab
 exact I2 h1
theorem tall_calm (h : Bt B w F d g t b z S lp m M) (pre : Bs) (hp : pre.length≤4611686018427387904) :
  Calls Tryz.prog 32 #[.pointer (some ⟨t,0,none⟩), .string (Ae pre)] w fun e w'=>∃ v,e = .returned v∧PrT w' v (lp.filter fun p=>pre.isPrefixOf p.1)∧Below w.heap.size w w':=by
 obtain ⟨sure,h1⟩:=h.tab
 obtain ⟨hf,he,-⟩:=h.fit
 have hfl:=Ea hf
 refine (Iw h1 pre hp (fun p hq=>by have:=he p hq; unfold okP at this; omega) (by omega)).mono ?_
 rintro e w' ⟨v,rfl,h2,h3⟩
 exact ⟨v,rfl,h2.pr,h3⟩
theorem N0 (l : List Af) : l.filter (fun p=>([] : Bs).isPrefixOf p.1)=l:=Pr l
end
set_option maxRecDepth 20000 in
theorem topen_bad (w : World) (d : Nat) (n : Nm) (hn : Cj n=false) : Calls Tryz.prog 14 #[.pointer (some ⟨d,0,none⟩), .string (Ae n)] w fun e w'=>e = .returned (.tuple #[.pointer none, .int .i64 130])∧w'=w:=by
 have ho:=open_bad w d n hn
 have ha : Calls Tryz.prog 39 #[.int .i64 50] w fun x w'=>x = .returned (.int .i64 130)∧w'=w:=Im w 50
 go_enter Tryz.func14,Tryz.ntmps14
 go_wp2_with fail
 refine ho.mono ?_
 rintro e w1 ⟨rfl,rfl⟩
 go_wp2_with fail
 refine ha.mono ?_
 rintro e w2 ⟨rfl,rfl⟩
 go_wp2
 go_ret2
 exact ⟨rfl,rfl⟩
end Go.Proofs.YtblniomnhpedjaaGreatDoor
