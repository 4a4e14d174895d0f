/-
  What ReadAt, Turn, SetRoom do, of a disk that stands. Conditions: a disk within bounds.
-/
import Derived.Test.YtblniomnhpedjaaGreatDoorP14Asks
namespace Go.Proofs.YtblniomnhpedjaaGreatDoor
open Go.RowKit
section
variable {w w' : World} {F : Nat→Prop} {d : Nat} {S : Dk} {G : Gh}
theorem own_cap {w : World} {base n size cap m : Nat} {e : TypeId} {ao : Option Addr} {xs : List Value} (h : w.ownsRow base e size (.slice ao m cap) n xs) : n≤cap:=by
 rcases h.2 with ⟨hv,hn⟩ | ⟨g',cap',cur,hv,_,_,hc,_⟩
 ·omega
 ·injection hv with e1 e2 e3
  omega
theorem sl_cut {w : World} {ra : Option Addr} {rc : Nat} {l : List UInt8} (h : w.ownsRow 0 5 1 (.slice ra l.length rc) l.length (bc l)) {i j : Nat} (hij : i+j≤l.length) (hlt : i<rc) : Sl w (.slice (ra.map fun x=>x.add i) j (rc - i)) ((l.drop i).take j):=by
 have hlen : ((l.drop i).take j).length=j:=by simp; omega
 have h0:=h
 rcases h.2 with ⟨hv,hn⟩ | ⟨g,cap',cur,hv,-,hh,h1,h2,-⟩
 ·injection hv with e1 e2 e3
  omega
 ·injection hv with e1 e2 e3
  subst e1 e3
  refine ⟨some ⟨g,0+i,none⟩,rc - i,?_,by omega,by omega,(fun e=>by cases e),fun _=>⟨g,0+i,rfl,At hh,fun q hq=>?_⟩⟩
  ·rw [hlen,Option.map_some,Addr.add_lit]
  ·rw [hlen] at hq
   have:=World.ownsRow.cells h0 (g:=g) rfl (i+q) _ (Eu l (i+q) (by omega))
   rw [Addr.add_lit] at this
   rw [show 0+i+q=0+(i+q) by omega,this]
   simp
theorem sl_cut0 {w : World} {ra : Option Addr} {rc : Nat} {l : List UInt8} (h : w.ownsRow 0 5 1 (.slice ra l.length rc) l.length (bc l)) {i j : Nat} (hij : i+j≤l.length) (hlt : rc≤i) : Sl w (.slice ra j 0) ((l.drop i).take j):=by
 have hc:=own_cap h
 have hj : j=0:=by omega
 subst hj
 have e : (l.drop i).take 0 = []:=by simp
 rw [e]
 exact ⟨ra,0,rfl,Nat.le_refl _,by simp,fun _=>rfl,fun h=>absurd rfl h⟩
set_option maxRecDepth 20000 in
set_option maxHeartbeats 1600000 in
theorem readAt_rep (h : Rep w F d S G) (hlow : ∀ k,F k→k<w.heap.size) (hb : S.bulk<1099511627776) (n : Nm) (a m : Int) (ha : -9223372036854775808≤a∧a≤9223372036854775807) (hm : -9223372036854775808≤m∧m≤9223372036854775807) :
  Calls Tryz.prog 138 #[.pointer (some ⟨d,0,none⟩), .string (Ae n), .int .i64 a, .int .i64 m] w fun e w'=>∃ v G',e = .returned (.tuple #[v, .int .i64 (S.readAt n a m).2])∧∃ F',Rep w' F' d S.begun G'∧Chg F w w'∧(∀ k,F' k→F k∨(w.heap.size≤k∧k<w'.heap.size)) ∧
  w'.ownsRow w.heap.size 5 1 v (S.readAt n a m).1.length (bc (S.readAt n a m).1)∧∀ k,v.ownBlock=some k→¬ F' k:=by
 have hon:=on_rep h hb n
 go_enter Tryz.func138,Tryz.ntmps138
 go_wp2_with fail
 refine hon.mono ?_
 rintro e w1 ⟨G',hr,hc,⟨er,he,hne,rfl⟩ | ⟨f,fl,he,hl,rfl⟩⟩
 ·have hnb : (er != 0)=true:=by simp [hne]
  have HE:=Ab (show S.readAt n a m=([],er) by unfold Dk.readAt; rw [he])
  have HR:=Ab hr
  clear he hne hr hon
  go_wp2
  go_ret2
  rw [HE.out]
  exact ⟨_,G',rfl,_,HR.out,hc,fun k hk=>hk,World.ownsRow_nil _ _ _ _,fun k hk=>by cases hk⟩
 ·obtain ⟨x,hx,hbx,hlx,hfx,hrx⟩:=hr.file (n:=n) (f:=f) (by rw [(D3 S).1]; exact hl)
  have c0:=Ad hfx 0
  have hby : S.bytes f=x.b:=by
   rw [(D3 S).2.1] at hx
   exact Mu hx
  have hxl : x.b.length≤S.bulk:=by
   rw [(D3 S).2.1] at hx
   exact G7 hx
  have HRD:=Ab (show S.readAt n a m=(if a<0∨m<0∨(x.b.length : Int)<a∨(x.b.length : Int) - a<m then ([],2) else if fl=true then ([],34) else ((x.b.drop a.toNat).take m.toNat,0)) by
   unfold Dk.readAt
   rw [he]
   show (if _ then _ else _)=_
   rw [hby])
  have HR:=Ab hr
  obtain ⟨ra,rc,hrv⟩:=Do hrx
  rw [hrv] at hrx c0
  have HRX:=Ab hrx
  have hcap:=own_cap hrx
  clear he hon hr hx hbx hlx hfx hrx hby hl
  by_cases b1 : a<0
  ·have HE:=Ab (HRD.out.trans (if_pos (Or.inl b1)))
   go_wp2
   go_ret2
   rw [HE.out]
   exact ⟨_,G',rfl,_,HR.out,hc,fun k hk=>hk,World.ownsRow_nil _ _ _ _,fun k hk=>by cases hk⟩
  by_cases b2 : m<0
  ·have HE:=Ab (HRD.out.trans (if_pos (Or.inr (Or.inl b2))))
   go_wp2
   go_ret2
   rw [HE.out]
   exact ⟨_,G',rfl,_,HR.out,hc,fun k hk=>hk,World.ownsRow_nil _ _ _ _,fun k hk=>by cases hk⟩
  by_cases b3 : (x.b.length : Int)<a
  ·have HE:=Ab (HRD.out.trans (if_pos (Or.inr (Or.inr (Or.inl b3)))))
   go_wp2
   go_ret2
   rw [HE.out]
   exact ⟨_,G',rfl,_,HR.out,hc,fun k hk=>hk,World.ownsRow_nil _ _ _ _,fun k hk=>by cases hk⟩
  have hwr : IntKind.i64.wrap ((x.b.length : Int) - a)=(x.b.length : Int) - a:=by rw [IntKind.wrap_i64]; omega
  by_cases b4 : (x.b.length : Int) - a<m
  ·have HE:=Ab (HRD.out.trans (if_pos (Or.inr (Or.inr (Or.inr b4)))))
   go_wp2
   go_ret2
   rw [HE.out]
   exact ⟨_,G',rfl,_,HR.out,hc,fun k hk=>hk,World.ownsRow_nil _ _ _ _,fun k hk=>by cases hk⟩
  have HN:=Ab (show ¬ (a<0∨m<0∨(x.b.length : Int)<a∨(x.b.length : Int) - a<m) by omega)
  cases fl with
  | true=>
   have HE:=Ab (HRD.out.trans ((if_neg HN.out).trans (if_pos rfl)))
   go_wp2
   go_ret2
   rw [HE.out]
   exact ⟨_,G',rfl,_,HR.out,hc,fun k hk=>hk,World.ownsRow_nil _ _ _ _,fun k hk=>by cases hk⟩
  | false=>
   have HE:=Ab (HRD.out.trans ((if_neg HN.out).trans (if_neg (by simp))))
   obtain ⟨i,rfl⟩ : ∃ i : Nat,a=(i : Int):=⟨a.toNat,by omega⟩
   obtain ⟨j,rfl⟩ : ∃ j : Nat,m=(j : Int):=⟨m.toNat,by omega⟩
   have hwr2 : IntKind.i64.wrap ((i : Int)+(j : Int))=(i : Int)+(j : Int):=by rw [IntKind.wrap_i64]; omega
   have hij1 : (i : Int)≤(i : Int)+(j : Int):=by omega
   have hij2 : (i : Int)+(j : Int)≤(rc : Int):=by omega
   have hbl : ((x.b.drop i).take j).length≤70368744177664:=by simp; omega
   have hcut1:=fun hlt=>sl_cut HRX.out (i:=i) (j:=j) (by omega) hlt
   have hcut2:=fun hlt=>sl_cut0 HRX.out (i:=i) (j:=j) (by omega) hlt
   have HC1:=Ab hcut1
   have HC2:=Ab hcut2
   clear hcut1 hcut2
   by_cases hic : i<rc
   ·have HLT:=Ab (HC1.out hic)
    have hz : ¬ rc - i=0:=by omega
    go_wp2_with fail
    refine (Iz _ _ _ HLT.out hbl).mono ?_
    rintro e w2 ⟨v',rfl,hown,hbel⟩
    have hcb:=Chg.of_below hbel
    have hfin : ∃ F',Rep w2 F' d S.begun G'∧Chg F w w2∧(∀ k,F' k→F k∨(w.heap.size≤k∧k<w2.heap.size))∧w2.ownsRow w.heap.size 5 1 v' ((x.b.drop i).take j).length (bc ((x.b.drop i).take j))∧∀ k,v'.ownBlock=some k→¬ F' k:=by
     refine ⟨Fx F w w1,HR.out.keep hcb (fun k hk hle=>?_) (fun _ h=>h),hc.trans hcb (fun i hi hle=>?_),fun k hk=>hk.imp_right fun h=>⟨h.1,Nat.lt_of_lt_of_le h.2 hbel.size⟩,G3 hown hc.size,fun k hk hF=>?_⟩
     ·have h0:=hc.size
      rcases hk with h1 | h1
      ·have:=hlow k h1
       omega
      ·omega
     ·have:=hc.size
      omega
     ·have h1:=(hown.lt k hk).1
      rcases hF with h2 | h2
      ·have:=hlow k h2
       have:=hc.size
       omega
      ·omega
    have HFIN:=Ab hfin
    clear hfin hown hbel hcb
    go_wp2
    go_ret2
    rw [HE.out]
    exact ⟨_,G',rfl,HFIN.out⟩
   ·have HLT:=Ab (HC2.out (by omega))
    have hz : rc - i=0:=by omega
    go_wp2_with fail
    refine (Iz _ _ _ HLT.out hbl).mono ?_
    rintro e w2 ⟨v',rfl,hown,hbel⟩
    have hcb:=Chg.of_below hbel
    have hfin : ∃ F',Rep w2 F' d S.begun G'∧Chg F w w2∧(∀ k,F' k→F k∨(w.heap.size≤k∧k<w2.heap.size))∧w2.ownsRow w.heap.size 5 1 v' ((x.b.drop i).take j).length (bc ((x.b.drop i).take j))∧∀ k,v'.ownBlock=some k→¬ F' k:=by
     refine ⟨Fx F w w1,HR.out.keep hcb (fun k hk hle=>?_) (fun _ h=>h),hc.trans hcb (fun i hi hle=>?_),fun k hk=>hk.imp_right fun h=>⟨h.1,Nat.lt_of_lt_of_le h.2 hbel.size⟩,G3 hown hc.size,fun k hk hF=>?_⟩
     ·have h0:=hc.size
      rcases hk with h1 | h1
      ·have:=hlow k h1
       omega
      ·omega
     ·have:=hc.size
      omega
     ·have h1:=(hown.lt k hk).1
      rcases hF with h2 | h2
      ·have:=hlow k h2
       have:=hc.size
       omega
      ·omega
    have HFIN:=Ab hfin
    clear hfin hown hbel hcb
    go_wp2
    go_ret2
    rw [HE.out]
    exact ⟨_,G',rfl,HFIN.out⟩
end
variable {B : Nat} {w w' : World} {F : Nat→Prop} {d : Nat} {S : Dk}
theorem readAt_lies (h : Bi B w F d S) (hB : B≤w.heap.size) (n : Nm) (a m : Int) (ha : -9223372036854775808≤a∧a≤9223372036854775807) (hm : -9223372036854775808≤m∧m≤9223372036854775807) (hb : S.bulk<1099511627776) :
  Calls Tryz.prog 138 #[.pointer (some ⟨d,0,none⟩), .string (Ae n), .int .i64 a, .int .i64 m] w fun e w'=>∃ v,e = .returned (.tuple #[v, .int .i64 (S.readAt n a m).2])∧w'.ownsRow w.heap.size 5 1 v (S.readAt n a m).1.length (bc (S.readAt n a m).1) ∧
   ∃ F',Bi B w' F' d S.begun∧(∀ k,F' k→F k∨w.heap.size≤k)∧Chg F w w'∧∀ k,v.ownBlock=some k→¬ F' k:=by
 obtain ⟨⟨G,hr⟩,h2,h3⟩:=h
 refine (readAt_rep hr (fun k hk=>(h2 k hk).2) hb n a m ha hm).mono ?_
 rintro e w' ⟨v,G',rfl,F',hr',hc,hF,hown,hv⟩
 refine ⟨v,rfl,hown,F',⟨⟨G',hr'⟩,fun k hk=>?_,h3.begun⟩,fun k hk=>(hF k hk).imp_right (·.1),hc,hv⟩
 rcases hF k hk with h | h
 ·exact ⟨(h2 k h).1,Nat.lt_of_lt_of_le (h2 k h).2 hc.size⟩
 ·exact ⟨Nat.le_trans hB h.1,h.2⟩
end Go.Proofs.YtblniomnhpedjaaGreatDoor
