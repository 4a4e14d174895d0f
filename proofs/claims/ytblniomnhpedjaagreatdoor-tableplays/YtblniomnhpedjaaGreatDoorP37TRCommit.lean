/-
  The reference's Commit, Get, All. Conditions: the pairs and the puts lie there; the pairs rise.
-/
import Derived.Test.YtblniomnhpedjaaGreatDoorP36TRDone
namespace Go.Proofs.YtblniomnhpedjaaGreatDoor
open Go.RowKit
theorem doneM_len (l : List Af) (p : An) : (Bu l p).length≤l.length+1:=by
 unfold Bu
 rw [List.length_append,List.length_append,List.length_take,List.length_drop]
 split <;> split <;> simp <;> omega
theorem Pj (lp : List Af) (ps : List An) : ∀ k,k≤ps.length→(Ai lp (ps.take k)).length≤lp.length+k
 | 0,_=>by simp [Ai]
 | k+1,h=>by
  rw [Mv lp ps (by omega)]
  have:=doneM_len (Ai lp (ps.take k)) ps[k]
  have:=Pj lp ps k (by omega)
  omega
set_option maxRecDepth 40000 in
set_option maxHeartbeats 1600000 in
theorem Pn (w : World) (r : Nat) (lp : List Af) (ps : List An) (v : Value) (h : Cr w r lp) (hr : Bn lp) (hf : Bb lp=true) (hv : PsT w v ps) (hn : ps.length≤140737488355328) :
  Calls Tryz.prog 20 #[.pointer (some ⟨r,0,none⟩),v] w fun e w'=>∃ r',e = .returned (.tuple #[.pointer (some ⟨r',0,none⟩), .int .i64 (Bg lp ps)])∧Cr w' r' (Bz lp ps)∧(r'=r∨w.heap.size≤r')∧Below w.heap.size w w'∧(∀ u,w'.cell? ⟨r',0,none⟩=some u→w.cell? ⟨r,0,none⟩=some u ∨ ∀ q,u.ownBlock=some q→w.heap.size≤q∧q<w'.heap.size):=by
 have hrr:=rright_any w ps v hv hn
 obtain ⟨ao,cap,rfl⟩:=hv.form
 have HV:=Ab hv
 have HR:=Ab h
 have HSame:=Ab (show ∀ w',Below w.heap.size w w'→∀ u,w'.cell? ⟨r,0,none⟩=some u→w.cell? ⟨r,0,none⟩=some u ∨ ∀ q,u.ownBlock=some q→w.heap.size≤q∧q<w'.heap.size from fun w' hb u hu=>.inl (by rw [← hu]; exact (hb.cell (p:=⟨r,0,none⟩) h.lt).symm))
 clear hv
 cases hp : Bc ps with
 | false=>
  rw [hp] at hrr
  have ha : Bg lp ps=130:=Hy hp
  have hn : Bz lp ps=lp:=Gj (by rw [ha]; decide)
  rw [ha,hn]
  clear h
  go_enter Tryz.func20,Tryz.ntmps20
  go_wp2_with fail
  refine hrr.mono ?_
  rintro e w1 ⟨rfl,q1⟩
  have hb1 : Below w.heap.size w w1:=q1.below (fun _ h=>h.elim) (Nat.le_refl _)
  have HF:=Ab (And.intro (HR.out.keepB hb1) hb1)
  clear q1 hb1 hrr
  go_wp2
  go_ret2
  exact ⟨r,rfl,HF.out.1, .inl rfl,HF.out.2,HSame.out _ HF.out.2⟩
 | true=>
  rw [hp] at hrr
  obtain ⟨hp1,hp2,hp3⟩:=Er hp
  have hfl:=Ea hf
  have HA:=Ab (show (Bb (Ai lp ps)=false→Bg lp ps=131)∧(Bb (Ai lp ps)=true→Bg lp ps=0) from ⟨fun q=>Hv hp q,fun q=>ans_ok hp q⟩)
  obtain ⟨u0,hu0,hpu0⟩:=h
  have x0:=Ad hu0 0
  simp only [List.getElem?_toArray,List.getElem?_cons_zero] at x0
  have HC0:=Ab x0
  go_enter Tryz.func20,Tryz.ntmps20
  go_wp2_with fail
  refine hrr.mono ?_
  rintro e w1 ⟨rfl,q1⟩
  have hb1 : Below w.heap.size w w1:=q1.below (fun _ h=>h.elim) (Nat.le_refl _)
  have x1:=(hb1.cell (p:=⟨r,0,none⟩) (At hu0)).trans x0
  have hp1':=hpu0.keepB (B:=0) hb1 (Nat.le_refl _)
  have H1:=Ab (And.intro hb1 hp1')
  clear q1 hb1 hrr x0 hpu0 hp1' hu0
  go_wp2_with fail
  go_loopw [8,7] (fun t u wr=>∃ k : Nat,k≤ps.length∧t = .int .i64 k∧PrT wr u (Ai lp (ps.take k))∧Below w.heap.size w wr∧(u=u0 ∨ ∀ q,u.ownBlock=some q→w.heap.size≤q∧q<wr.heap.size))
   (fun t _ _=>ps.length - (intOf t).toNat)
  case atStart=>exact ⟨0,by omega,rfl,by rw [List.take_zero]; exact H1.out.2,H1.out.1, .inl rfl⟩
  case round=>
   obtain ⟨k,hk,rfl,hpr,hbr,hown⟩:=hrel
   by_cases hlt : k<ps.length
   ·obtain ⟨b,off,rfl,hbl,c0,c1,c2⟩:=(HV.out.keepB hbr).at hlt
    have hdn:=rdone_any wr _ (Ai lp (ps.take k)) ps[k] hpr (Mg hr _) (by have:=Pj lp ps k (by omega); omega)
    rw [← Mv lp ps hlt] at hdn
    obtain ⟨ua,uc,rfl⟩:=hpr.form
    generalize ps[k]=p at *
    have HB:=Ab hbr
    clear hbr hpr hown
    go_wp2_with fail
    refine hdn.mono ?_
    rintro e w2 ⟨u2,rfl,hp2,ho2,hb2⟩
    have HF:=Ab (And.intro hp2 (And.intro (HB.out.trans (hb2.mono HB.out.size)) (show ∀ q,u2.ownBlock=some q→w.heap.size≤q∧q<w2.heap.size from fun q hq=>⟨Nat.le_trans HB.out.size (ho2 q hq).1,(ho2 q hq).2⟩)))
    obtain ⟨ub,uc2,rfl⟩:=hp2.form
    clear hp2 hb2 hdn ho2
    go_wp2
    go_roundw
    case rel=>exact ⟨k+1,by omega,by go_num,HF.out.1,HF.out.2.1, .inr HF.out.2.2⟩
    case measure=>simp [intOf]; omega
   ·have hkl : k=ps.length:=by omega
    subst hkl
    rw [List.take_length] at hpr
    have hwl:=P7 hr ps
    have hbt:=Ku ps hp
    obtain ⟨ua,uc,rfl⟩:=hpr.form
    have hwt:=Pk wr _ _ hpr (by omega)
    have HF:=Ab (And.intro hpr (And.intro hbr (show Bz lp ps=if Bb (Ai lp ps)=true then Ai lp ps else lp from by
     cases q : Bb (Ai lp ps) with
     | true=>rw [Gf (HA.out.2 q)]; rfl
     | false=>rw [Gj (by rw [HA.out.1 q]; decide)]; rfl)))
    have HFit:=Ab (show Bb (Ai lp ps)=(decide ((Ai lp ps).length≤2000) && decide (Ag (Ai lp ps)≤1048576)) from rfl)
    have hll:=hpr.len
    have HOwn:=Ab hown
    clear hown
    generalize Ai lp ps=nx at *
    clear hpr hbr
    by_cases h1 : 2000<nx.length
    ·have q1 : decide ((2000 : Int)<(nx.length : Int))=true:=decide_eq_true (by omega)
     have hft : Bb nx=false:=by rw [HFit.out,decide_eq_false (by omega)]; rfl
     have ha:=HA.out.1 hft
     have hn : Bz lp ps=lp:=by rw [HF.out.2.2,hft]; rfl
     have HAN:=Ab (And.intro ha hn)
     have HFF:=Ab (And.intro (HR.out.keepB HF.out.2.1) HF.out.2.1)
     clear hft ha hn h1 hwt
     go_wp2
     go_ret2
     rw [HAN.out.1,HAN.out.2]
     exact ⟨r,rfl,HFF.out.1, .inl rfl,HFF.out.2,HSame.out _ HFF.out.2⟩
    ·have q1 : decide ((2000 : Int)<(nx.length : Int))=false:=decide_eq_false (by omega)
     have hle1 : nx.length≤2000:=by omega
     go_wp2_with fail
     refine hwt.mono ?_
     rintro e w3 ⟨rfl,q3⟩
     have hb3:=HF.out.2.1.trans (q3.below (fun _ h=>h.elim) HF.out.2.1.size)
     have hp3:=HF.out.1.quiet q3
     generalize Ag nx=wt at *
     by_cases h2 : 1048576<wt
     ·have q2 : decide ((1048576 : Int)<(wt : Int))=true:=decide_eq_true (by omega)
      have hft : Bb nx=false:=by rw [HFit.out,decide_eq_false (show ¬ wt≤1048576 by omega)]; simp
      have ha:=HA.out.1 hft
      have hn : Bz lp ps=lp:=by rw [HF.out.2.2,hft]; rfl
      have HAN:=Ab (And.intro ha hn)
      have HFF:=Ab (And.intro (HR.out.keepB hb3) hb3)
      clear hft ha hn h1 hwt hb3 hp3 q3
      go_wp2
      go_ret2
      rw [HAN.out.1,HAN.out.2]
      exact ⟨r,rfl,HFF.out.1, .inl rfl,HFF.out.2,HSame.out _ HFF.out.2⟩
     ·have q2 : decide ((1048576 : Int)<(wt : Int))=false:=decide_eq_false (by omega)
      have hft : Bb nx=true:=by rw [HFit.out,decide_eq_true hle1,decide_eq_true (show wt≤1048576 by omega)]; rfl
      have ha:=HA.out.2 hft
      have hn : Bz lp ps=nx:=by rw [HF.out.2.2,hft]; rfl
      have HAN:=Ab (And.intro ha hn)
      have hrt : Cr (w3.alloc (.cells #[.slice ua nx.length uc] 70)) w3.heap.size nx:=⟨_,Au w3 _,hp3.quiet (Fd w3 _)⟩
      have HFF:=Ab (And.intro hrt (And.intro hb3.size (hb3.alloc hb3.size (.cells #[.slice ua nx.length uc] 70))))
      have HNew:=Ab (show ∀ u,(w3.alloc (.cells #[.slice ua nx.length uc] 70)).cell? ⟨w3.heap.size,0,none⟩=some u→w.cell? ⟨r,0,none⟩=some u ∨ ∀ q,u.ownBlock=some q→w.heap.size≤q∧q<(w3.alloc (.cells #[.slice ua nx.length uc] 70)).heap.size from fun u hu=>by
       rw [Ad (Au w3 _)] at hu
       simp only [List.getElem?_toArray,List.getElem?_cons_zero] at hu
       injection hu with hu
       subst hu
       rcases HOwn.out with q | q
       ·exact .inl (by rw [q]; exact HC0.out)
       ·exact .inr (fun k hk=>⟨(q k hk).1,by have h1:=(q k hk).2; have h2:=q3.size; simp only [World.size_alloc]; omega⟩))
      clear hft ha hn h1 hwt hb3 hp3 q3 hrt
      go_wp2
      go_ret2
      rw [HAN.out.1,HAN.out.2]
      exact ⟨w3.heap.size,rfl,HFF.out.1, .inr HFF.out.2.1,HFF.out.2.2,HNew.out⟩
end Go.Proofs.YtblniomnhpedjaaGreatDoor
