/-
  The law's may, whatever is to fail. Conditions: the law's world and its numbers lie there; what it is told of can be.
-/
import Derived.Test.YtblniomnhpedjaaGreatDoorP38TTold
namespace Go.Proofs.YtblniomnhpedjaaGreatDoor
open Go.RowKit
def icW (ks : List Int) : List Value:=ks.map fun k=>.int .i64 k
theorem icW_get (ks : List Int) (j : Nat) (h : j<ks.length) : (icW ks)[j]? = some (.int .i64 ks[j]):=by simp [icW,h]
def MayBe (t : Bool) (ks : List Int) (ops n e : Int) : Prop:=e=0∨(e=34∧∃ (j : Nat) (h : j<ks.length),ops≤ks[j]∧ks[j]<n)∨(e=33∧t=true)
def MayW (w w' : World) (x d t r : Nat) (f : Value) (tight bad : Bool) (most last e : Int) : Prop:=∃ bad',C9 w' x d t r f tight bad' most last∧(bad'=false→bad=false∧e≠34)∧Chg (· = x) w w'
def MayI (w wr : World) (x d t r : Nat) (f : Value) (tight bad : Bool) (most last e ops : Int) (S : Dk) (ks : List Int) (j : Nat) : Prop:=∃ b',C9 wr x d t r f tight b' most last∧Chg (· = x) w wr∧(b'=false→bad=false)∧(e=34→∃ (q : Nat) (h : q<ks.length),j≤q∧ops≤ks[q]∧ks[q]<S.n)
set_option maxRecDepth 20000 in
set_option maxHeartbeats 1600000 in
theorem Kc {B base : Nat} {w : World} {F : Nat→Prop} {x d t r : Nat} {f : Value} {tight bad : Bool} {most last : Int} {S : Dk} {ks : List Int} (hW : C9 w x d t r f tight bad most last) (hs : Bi B w F d S) (hxF : ¬ F x) (hk : w.ownsRow base 3 1 f ks.length (icW ks)) (hfx : f.ownBlock≠some x) (hl : ks.length≤1000000) {e ops : Int} (hm : MayBe tight ks ops S.n e) :
  Calls Tryz.prog 15 #[.pointer (some ⟨x,0,none⟩), .int .i64 e, .int .i64 ops] w fun r' w'=>r' = .returned (.bool true)∧MayW w w' x d t r f tight bad most last e:=by
 obtain ⟨ao,cap,rfl⟩ : ∃ ao cap,f = .slice ao ks.length cap:=by
  rcases hk.2 with ⟨rfl,hn⟩ | ⟨g,cap,cur,rfl,-⟩
  ·exact ⟨none,0,by rw [hn]⟩
  ·exact ⟨_,_,rfl⟩
 have hcells : ∀ j (h : j<ks.length),∃ g,ao=some ⟨g,0,none⟩∧g<w.heap.size∧g≠x∧w.cell? ⟨g,j,none⟩=some (.int .i64 ks[j]):=by
  intro j hj
  have h0:=hk
  rcases hk.2 with ⟨-,hn⟩ | ⟨g,cap,cur,he,hg,hh,-⟩
  ·omega
  ·injection he with he _ _
   subst he
   refine ⟨g,rfl,At hh,fun e=>hfx (by rw [← e]; rfl),?_⟩
   have:=World.ownsRow.cells h0 (g:=g) rfl j _ (icW_get ks j hj)
   rw [Addr.add_lit,Nat.zero_add] at this
   exact this
 have HC:=Ab hcells
 have HS:=Ab (And.intro hs hxF)
 have HM:=Ab hm
 have HW:=Ab hW
 clear hcells hs hk hm hfx hxF
 go_enter Tryz.func15,Tryz.ntmps15
 go_wp2_with fail
 go_loopw [7] (fun i wr=>∃ (j : Nat),i = .int .i64 j∧j≤ks.length∧MayI w wr x d t r (.slice ao ks.length cap) tight bad most last e ops S ks j) (fun i _=>ks.length - (intOf i).toNat)
 case atStart=>
  refine ⟨0,rfl,by omega,bad,HW.out,Chg.refl _ _,fun h=>h,fun h34=>?_⟩
  rcases HM.out with h | ⟨h,q,hq,h1,h2⟩ | ⟨h,-⟩
  ·omega
  ·exact ⟨q,hq,by omega,h1,h2⟩
  ·omega
 case round=>
  obtain ⟨j,rfl,hj,b',hWr,hch,hbb,hgood⟩:=hrel
  have hWr' : wr.heap[x]? = some _:=hWr
  have x0 : wr.cell? ⟨x,0,none⟩=some (.pointer (some ⟨d,0,none⟩)):=by rw [Ad hWr']; rfl
  have x3 : wr.cell? ⟨x,3,none⟩=some (.slice ao ks.length cap):=by rw [Ad hWr']; rfl
  have x4 : wr.cell? ⟨x,4,none⟩=some (.bool tight):=by rw [Ad hWr']; rfl
  have x5 : wr.frozen? ⟨x,5,none⟩=false:=Av hWr' 5
  have x6 : wr.cell? ⟨x,5,none⟩=some (.bool b'):=by rw [Ad hWr']; rfl
  by_cases hlt : j<ks.length
  ·obtain ⟨b,rfl,hbl,hbx,hcj⟩:=HC.out j hlt
   have hcj : wr.cell? ⟨b,j,none⟩=some (.int .i64 ks[j]):=(World.cell?_of_block (hch.block b hbl hbx)).trans hcj
   have hops:=G0 ((HS.out.1.keep hch (fun k hk e=>HS.out.2 (e ▸ hk))).keep ((Chg.refl (fun _=>False) wr).drew) (fun _ _ h=>h))
   have hchd : Chg (· = x) w wr.drew:=hch.drew
   have hWd : C9 wr.drew x d t r (.slice (some ⟨b,0,none⟩) ks.length cap) tight b' most last:=hWr
   have hq' : ks[j]<ops∨S.n≤ks[j]→e=34→∃ (q : Nat) (h : q<ks.length),j+1≤q∧ops≤ks[q]∧ks[q]<S.n:=fun h h34=>by
    obtain ⟨q,hq,h1,h2,h3⟩:=hgood h34
    have : j≠q:=fun e=>by subst e; omega
    exact ⟨q,hq,by omega,h2,h3⟩
   have HQ:=Ab (And.intro hbb (And.intro hgood hq'))
   have HD:=Ab (And.intro hWd hchd)
   clear hWr hWr' hgood hq' hWd hchd hch hbb
   generalize hkj : ks[j]=kj at *
   by_cases hge : ops≤kj
   ·by_cases hlt2 : kj<S.n
    ·go_wp2_with fail
     refine wp_region_held_drew (S:=fun W=>W.cell? ⟨x,0,none⟩=some (.pointer (some ⟨d,0,none⟩))∧W.cell? ⟨x,3,none⟩=some (.slice (some ⟨b,0,none⟩) ks.length cap)∧W.cell? ⟨b,j,none⟩=some (.int .i64 kj)) (by kernel_rfl) (⟨x0,x3,hcj⟩) (fun hHeld=>?_)
     refine Aa 0 hHeld ?_
     refine Aa 1 hHeld ?_
     refine Aa 2 hHeld ?_
     refine Aa 3 hHeld ?_
     refine Aa 4 hHeld ?_
     refine Aa 5 hHeld ?_
     refine Aa 6 hHeld ?_
     refine Aa 7 hHeld ?_
     refine Aa 8 hHeld ?_
     refine Aa 9 hHeld ?_
     refine Aa 10 hHeld ?_
     refine Aa 11 hHeld ?_
     refine Aa 12 hHeld ?_
     refine Aa 13 hHeld ?_
     refine Aa 14 hHeld ?_
     refine Aa 15 hHeld ?_
     refine Aa 16 hHeld ?_
     refine Aa 17 hHeld ?_
     refine Aa 18 hHeld ?_
     refine Aa 19 hHeld ?_
     refine Aa 20 hHeld ?_
     refine Al (i:=21) rfl (by kernel_rfl) rfl (fun K hK=>?_)
     go_simp
     refine hops.mono ?_
     rintro e1 w1 ⟨rfl,hw1⟩
     rw [hw1]
     clear hw1
     refine hK.out _ _ (⟨x0,x3,hcj⟩) (fun hHeld=>?_)
     clear hK K
     try simp only [Act.put,List.setIfInBounds_toArray,List.set_cons_zero,List.set_cons_succ]
     refine Aa 22 hHeld ?_
     refine Aa 23 hHeld ?_
     refine wpAnyH_done (by kernel_rfl) ?_ _
     clear hHeld
     have hs5:=A0 (show wr.drew.heap[x]? = some _ from HD.out.1) 5 (.bool true)
     have hc5:=HD.out.2.setCell (p:=⟨x,5,none⟩) (.inl rfl) (.bool true)
     have x5 : wr.drew.frozen? ⟨x,5,none⟩=false:=x5
     have x6 : wr.drew.cell? ⟨x,5,none⟩=some (.bool b'):=x6
     have HS5:=Ab (And.intro (show C9 (wr.drew.setCell ⟨x,5,none⟩ (.bool true)) x d t r (.slice (some ⟨b,0,none⟩) ks.length cap) tight true most last from hs5) hc5)
     clear hs5 hc5
     by_cases h34 : e=34
     ·subst h34
      go_wp2_with fail
      go_ret
      exact ⟨rfl,true,HS5.out.1,(fun h=>by cases h),HS5.out.2⟩
     ·have q34 : (e == 34)=false:=by simp [h34]
      go_wp2_with fail
      go_roundw
      case rel=>exact ⟨j+1,by go_num,by omega,true,HS5.out.1,HS5.out.2,(fun h=>by cases h),fun h=>absurd h h34⟩
      case measure=>simp [intOf]; omega
    ·have hnl : ¬ (kj<(S.n : Int)):=hlt2
     go_wp2_with fail
     refine wp_region_held_drew (S:=fun W=>W.cell? ⟨x,0,none⟩=some (.pointer (some ⟨d,0,none⟩))∧W.cell? ⟨x,3,none⟩=some (.slice (some ⟨b,0,none⟩) ks.length cap)∧W.cell? ⟨b,j,none⟩=some (.int .i64 kj)) (by kernel_rfl) (⟨x0,x3,hcj⟩) (fun hHeld=>?_)
     refine Aa 0 hHeld ?_
     refine Aa 1 hHeld ?_
     refine Aa 2 hHeld ?_
     refine Aa 3 hHeld ?_
     refine Aa 4 hHeld ?_
     refine Aa 5 hHeld ?_
     refine Aa 6 hHeld ?_
     refine Aa 7 hHeld ?_
     refine Aa 8 hHeld ?_
     refine Aa 9 hHeld ?_
     refine Aa 10 hHeld ?_
     refine Aa 11 hHeld ?_
     refine Aa 12 hHeld ?_
     refine Aa 13 hHeld ?_
     refine Aa 14 hHeld ?_
     refine Aa 15 hHeld ?_
     refine Aa 16 hHeld ?_
     refine Aa 17 hHeld ?_
     refine Aa 18 hHeld ?_
     refine Aa 19 hHeld ?_
     refine Aa 20 hHeld ?_
     refine Al (i:=21) rfl (by kernel_rfl) rfl (fun K hK=>?_)
     go_simp
     refine hops.mono ?_
     rintro e1 w1 ⟨rfl,hw1⟩
     rw [hw1]
     clear hw1
     refine hK.out _ _ (⟨x0,x3,hcj⟩) (fun hHeld=>?_)
     clear hK K
     try simp only [Act.put,List.setIfInBounds_toArray,List.set_cons_zero,List.set_cons_succ]
     refine Aa 22 hHeld ?_
     refine Aa 23 hHeld ?_
     refine wpAnyH_done (by kernel_rfl) ?_ _
     clear hHeld
     go_wp2
     go_roundw
     case rel=>exact ⟨j+1,by go_num,by omega,b',HD.out.1,HD.out.2,HQ.out.1,HQ.out.2.2 (.inr (by omega))⟩
     case measure=>simp [intOf]; omega
   ·have hnl : ¬ (ops≤kj):=hge
    have hnd : decide (ops≤kj)=false:=decide_eq_false hnl
    go_wp2_with fail
    refine wp_region_held_drew (S:=fun W=>W.cell? ⟨x,0,none⟩=some (.pointer (some ⟨d,0,none⟩))∧W.cell? ⟨x,3,none⟩=some (.slice (some ⟨b,0,none⟩) ks.length cap)∧W.cell? ⟨b,j,none⟩=some (.int .i64 kj)) (by kernel_rfl) (⟨x0,x3,hcj⟩) (fun hHeld=>?_)
    refine Aa 0 hHeld ?_
    refine Aa 1 hHeld ?_
    refine Aa 2 hHeld ?_
    refine Aa 3 hHeld ?_
    refine Aa 4 hHeld ?_
    refine Aa 5 hHeld ?_
    refine Aa 6 hHeld ?_
    refine Aa 7 hHeld ?_
    refine Aa 8 hHeld ?_
    refine Aa 9 hHeld ?_
    refine Aj 10 hHeld ?_
    refine Aj 11 hHeld ?_
    refine Aj 12 hHeld ?_
    refine Aj 13 hHeld ?_
    refine Aj 14 hHeld ?_
    refine Aj 15 hHeld ?_
    refine Aj 16 hHeld ?_
    refine Aj 17 hHeld ?_
    refine Aj 18 hHeld ?_
    refine Aj 19 hHeld ?_
    refine Aj 20 hHeld ?_
    refine Aj 21 hHeld ?_
    refine Aj 22 hHeld ?_
    refine Aa 23 hHeld ?_
    refine wpAnyH_done (by kernel_rfl) ?_ _
    clear hHeld
    go_wp2
    go_roundw
    case rel=>exact ⟨j+1,by go_num,by omega,b',HD.out.1,HD.out.2,HQ.out.1,HQ.out.2.2 (.inl (by omega))⟩
    case measure=>simp [intOf]; omega
  ·obtain rfl : j=ks.length:=by omega
   have h34 : e≠34:=fun h=>by
    obtain ⟨q,hq,h1,-⟩:=hgood h
    omega
   have HD:=Ab (And.intro hWr (And.intro hch hbb))
   have hnl : ¬ ((ks.length : Int)<(ks.length : Int)):=by omega
   clear hWr hWr' hch hbb hgood
   rcases HM.out with rfl | ⟨h,-⟩ | ⟨rfl,rfl⟩
   ·go_wp2
    go_ret
    exact ⟨rfl,b',HD.out.1,fun h=>⟨HD.out.2.2 h,h34⟩,HD.out.2.1⟩
   ·exact absurd h h34
   ·go_wp2
    go_ret
    exact ⟨rfl,b',HD.out.1,fun h=>⟨HD.out.2.2 h,h34⟩,HD.out.2.1⟩
end Go.Proofs.YtblniomnhpedjaaGreatDoor
