/-
  Texts joined: Api, Open, Same, TRight, TGroup.
-/
import Derived.Test.YtblniomnhpedjaaGreatDoorL23Log
import Derived.Test.YtblniomnhpedjaaGreatDoorL12TWith
import Derived.Test.YtblniomnhpedjaaGreatDoorL20Recs2
namespace Go.Proofs.YtblniomnhpedjaaGreatDoor
open Go.RowKit
variable {B : Nat} {w w' : World} {F : Nat→Prop} {d l : Nat} {S : Dk} {L : Lw}
def TxB (w : World) (F : Nat→Prop) (l : Nat) (v : Value) (rs : List (List UInt8)) : Prop:=Tx w v rs∧∀ g,v.ownBlock=some g→¬ F g∧g≠l∧g<w.heap.size
theorem Tx.chg {X : Nat→Prop} {v : Value} {xs : List (List UInt8)} (h : Tx w v xs) (hc : Chg X w w') (hX : ∀ g,v.ownBlock=some g→¬ X g) : Tx w' v xs:=by
 obtain ⟨ao,cap,hv,h1,h2,h4⟩:=h
 refine ⟨ao,cap,hv,h1,h2,fun hl=>?_⟩
 obtain ⟨b,off,ha,hlt,hcell⟩:=h4 hl
 subst hv ha
 exact ⟨b,off,rfl,Nat.lt_of_lt_of_le hlt hc.size,fun j hj=>(World.cell?_of_block (w:=w) (hc.block b hlt (hX b rfl))).trans (hcell j hj)⟩
theorem TxB.keep {v : Value} {rs : List (List UInt8)} {F' : Nat→Prop} (h : TxB w F l v rs) (hf : ∀ k,F' k→F k∨w.heap.size≤k) (hc : Chg (fun k=>F k∨k=l) w w') : TxB w' F' l v rs:=by
 refine ⟨h.1.chg hc fun g hg e=>?_,fun g hg=>⟨fun e=>?_,(h.2 g hg).2.1,Nat.lt_of_lt_of_le (h.2 g hg).2.2 hc.size⟩⟩
 ·rcases e with e | e
  ·exact (h.2 g hg).1 e
  ·exact (h.2 g hg).2.1 e
 ·have h3:=h.2 g hg
  rcases hf g e with e | e
  ·exact h3.1 e
  ·omega
theorem Tx.form {v : Value} {xs : List (List UInt8)} (h : Tx w v xs) : ∃ ao cap,v = .slice ao xs.length cap:=by
 obtain ⟨ao,cap,hv,-⟩:=h
 exact ⟨ao,cap,hv⟩
theorem Gw {v : Value} {b : List UInt8} (h : Lg B w F d l S L) (ho : w'.ownsRow w.heap.size 5 1 v b.length (bc b)) : Eb w' F l v b:=by
 have hl:=h.lt
 refine ⟨Dd ho,fun g hg=>?_⟩
 have:=ho.lt g hg
 refine ⟨fun hf=>?_,fun e=>by omega,this.2⟩
 have:=(h.1.2.1 g hf).2
 omega
theorem Dr (hb : Below w.heap.size w w') : Chg (fun _=>False) w w':=(Chg.of_below hb).mono fun k h1 h2=>by omega
theorem Lg.keepB (h : Lg B w F d l S L) (hb : Below w.heap.size w w') : Lg B w' F d l S L:=h.keep (Dr hb) (fun _ _ h=>h) (fun h=>h)
theorem Bu.grow {w1 : World} (h : Bu B w1 F d l S L w') (hc : Chg (fun _=>False) w w1) : Bu B w F d l S L w':=h.next (hc.mono fun _ _ h=>h.elim) (fun _ h=>.inl h)
theorem Bu.has {w3 w4 : World} {F3 : Nat→Prop} (hg4 : Lg B w4 F3 d l S L) (hf3 : ∀ k,F3 k→F k∨w.heap.size≤k) (hc3 : Chg (fun k=>F k∨k=l) w w3) (hc4 : Chg (fun k=>k=l) w3 w4) : Bu B w F d l S L w4:=⟨F3,hg4,hf3,hc3.trans hc4 fun _ _ h=>.inr h⟩
theorem grp_small {rs : List (List UInt8)} (h : right rs=true) : (grp Ah rs).length≤2130000:=by
 have h1:=I2 h
 have h2:=Fb Dg rs
 omega
theorem Ow (cs : List UInt8→List UInt8) (b : List UInt8) : ∀ (f a : Nat) (gs : List (List (List UInt8))) (n : Nat),a≤b.length→Co cs f b a=some (gs,n)→n≤b.length
 | 0,a,gs,n,ha,h=>by
  unfold Co at h
  injection h with h
  injection h with _ h
  omega
 | f+1,a,gs,n,ha,h=>by
  by_cases hlt : a<b.length
  ·rw [Id _ _ _ _ hlt] at h
   unfold D7 at h
   have hle:=groupW_le cs (b.drop a)
   rw [List.length_drop] at hle
   split at h
   ·cases h
   ·split at h
    ·injection h with h
     injection h with _ h
     omega
    ·cases hk : Co cs f b (a+(Dt cs (b.drop a)).2.1) with
     | none=>rw [hk] at h; cases h
     | some x=>
      rw [hk] at h
      simp only [Option.map_some] at h
      injection h with h
      injection h with _ h
      have:=Ow cs b f _ x.1 x.2 (by omega) hk
      omega
  ·rw [Ju _ _ _ _ hlt] at h
   injection h with h
   injection h with _ h
   omega
theorem Mp {S : Dk} {n : Nm} {e : Int} {y : List (List (List UInt8)) × Nat × Nat} (h : C4 S n=(e,some y)) : y.2.1≤y.2.2∧y.2.2≤S.bulk∧e=0:=by
 have hr:=readW_le S n
 unfold C4 at h
 split at h
 ·injection h with _ h
  cases h
 ·cases hg : Co Ah ((C9 S n).1.length+1) (C9 S n).1 0 with
  | none=>
   rw [hg] at h
   injection h with _ h
   cases h
  | some x=>
   rw [hg] at h
   have h5:=Ow Ah _ _ 0 x.1 x.2 (Nat.zero_le _) hg
   unfold lookG at h
   injection h with h1 h2
   injection h2 with h2
   subst h2
   exact ⟨h5,hr,h1.symm⟩
theorem Ky {S : Dk} {n : Nm} {e : Int} (h : C4 S n=(e,none)) : e≠0:=by
 unfold C4 at h
 split at h
 ·next hh=>
  injection h with h _
  rw [← h]
  exact hh
 ·cases hg : Co Ah ((C9 S n).1.length+1) (C9 S n).1 0 with
  | none=>
   rw [hg] at h
   injection h with h _
   rw [← h]
   decide
  | some x=>
   rw [hg] at h
   injection h with _ h
   cases h
def Di (p : Dk × Bool × Int) (L : Lw) (wh k : Int) : Dk × Lw × Int:=if p.2.2=0 then (p.1,⟨L.n,p.2.1,wh+k,wh+k⟩,0) else (p.1,{ L with sure:=p.2.1 },p.2.2)
def Cy (S : Dk) (L : Lw) (rs : List (List UInt8)) : Dk × Lw × Int:=
 if right rs=false then (S,L,50) else Di (Cs S L.n L.sure (grp Ah rs)) L 0 (grp Ah rs).length
def Ed (S : Dk) (L : Lw) (rs : List (List UInt8)) : Dk × Lw × Int:=Di (putW S L (grp Ah rs)) L L.wh (grp Ah rs).length
def appendL (S : Dk) (L : Lw) (rs : List (List UInt8)) (x : Int × Option (List (List (List UInt8)) × Nat × Nat)) : Dk × Lw × Int:=
 match x.2 with
 | none=>(S,L,x.1)
 | some y=>Ed S { L with wh:=(y.2.1 : Int),sz:=(y.2.2 : Int) } rs
def C1 (S : Dk) (L : Lw) (rs : List (List UInt8)) : Dk × Lw × Int:=
 if right rs=false then (S,L,50) else if max (S.size L.n) 0=L.sz then Ed S L rs else appendL S.begun L rs (C4 S L.n)
set_option maxRecDepth 20000 in
set_option maxHeartbeats 1600000 in
theorem reset_lg (h : Lg B w F d l S L) {v : Value} {rs : List (List UInt8)} (hv : TxB w F l v rs) (_hB0 : 0<B) (hT : Bk w) (hea : ∀ r∈rs,r.length≤140737488355328) (hb : 2 * S.bulk<1000000000) :
  Calls Tryz.prog 72 #[.pointer (some ⟨l,0,none⟩),v] w fun e w'=>e = .returned (.int .i64 (Cy S L rs).2.2)∧Bu B w F d l (Cy S L rs).1 (Cy S L rs).2.1 w':=by
 have hir:=Me w v rs hv.1 hea
 obtain ⟨ao,cap,rfl⟩:=hv.1.form
 have H:=Ab h
 have HV:=Ab hv
 have HT:=Ab hT
 clear h hv hT hea
 obtain ⟨n,s,wh,sz⟩:=L
 unfold Cy
 by_cases hr : right rs=false
 ·rw [if_pos hr]
  rw [hr] at hir
  go_enter Tryz.func72,Tryz.ntmps72
  go_wp2_with fail
  refine hir.mono ?_
  rintro e w1 ⟨rfl,rfl⟩
  go_wp2
  go_ret
  exact ⟨rfl,H.out.refl⟩
 rw [if_neg hr]
 have hr : right rs=true:=by simpa using hr
 have hgl:=grp_small hr
 have hpg:=Hc w _ rs HV.out.1 hr HT.out
 rw [hr] at hir
 clear hr
 generalize grp Ah rs=G at *
 dsimp only
 unfold Di
 generalize hR : Cs S n s G=R at *
 obtain ⟨S3,s3,e3⟩:=R
 have HR:=Ab hR
 clear hR
 dsimp only
 by_cases he : e3=0
 ·rw [if_pos he]
  have heb : (e3 == 0)=true:=by simp [he]
  clear he
  go_enter Tryz.func72,Tryz.ntmps72
  go_wp2_with fail
  refine hir.mono ?_
  rintro e w1 ⟨rfl,rfl⟩
  go_wp2_with fail
  refine hpg.mono ?_
  rintro e w2 ⟨v2,rfl,ho2,hb2⟩
  have hrp:=Jk (H.out.keepB hb2) (Gw H.out ho2) (by omega)
  dsimp only at hrp
  rw [HR.out] at hrp
  have hc2:=Dr hb2
  obtain ⟨a2,c2,rfl,-⟩:=Ay ho2
  clear ho2
  go_wp2_with fail
  refine hrp.mono ?_
  rintro e w3 ⟨rfl,ha⟩
  obtain ⟨F3,hg3,hf3,hc3⟩:=ha.grow hc2
  have hha:=has_lg hg3 (G.length : Int)
  go_wp2_with fail
  refine hha.mono ?_
  rintro e w4 ⟨rfl,hg4,hc4⟩
  go_wp2
  go_ret
  have he : e3=0:=by simpa using heb
  subst he
  rw [Int.zero_add]
  exact ⟨rfl,Bu.has hg4 hf3 hc3 hc4⟩
 ·rw [if_neg he]
  have heb : (e3 == 0)=false:=by simp [he]
  clear he
  go_enter Tryz.func72,Tryz.ntmps72
  go_wp2_with fail
  refine hir.mono ?_
  rintro e w1 ⟨rfl,rfl⟩
  go_wp2_with fail
  refine hpg.mono ?_
  rintro e w2 ⟨v2,rfl,ho2,hb2⟩
  have hrp:=Jk (H.out.keepB hb2) (Gw H.out ho2) (by omega)
  dsimp only at hrp
  rw [HR.out] at hrp
  have hc2:=Dr hb2
  obtain ⟨a2,c2,rfl,-⟩:=Ay ho2
  clear ho2
  go_wp2_with fail
  refine hrp.mono ?_
  rintro e w3 ⟨rfl,ha⟩
  go_wp2
  go_ret
  exact ⟨rfl,ha.grow hc2⟩
set_option maxRecDepth 20000 in
set_option maxHeartbeats 3200000 in
theorem append_lg (h : Lg B w F d l S L) {v : Value} {rs : List (List UInt8)} (hv : TxB w F l v rs) (hB0 : 0<B) (hT : Bk w) (hea : ∀ r∈rs,r.length≤140737488355328) (hb : 2 * S.bulk<999999990) (hwh : 0≤L.wh∧L.wh≤1099511627776) :
  Calls Tryz.prog 71 #[.pointer (some ⟨l,0,none⟩),v] w fun e w'=>e = .returned (.int .i64 (C1 S L rs).2.2)∧Bu B w F d l (C1 S L rs).1 (C1 S L rs).2.1 w':=by
 have hir:=Me w v rs hv.1 hea
 have hle:=length_lg h.drew
 have hlk:=look_lg h.drew.drew hB0 hT (by omega)
 have hbb:=Fh S
 have x4:=Ad h.2.1 4
 obtain ⟨ao,cap,rfl⟩:=hv.1.form
 have H:=Ab h
 have HV:=Ab hv
 have HT:=Ab hT
 clear h hv hT hea
 unfold C1 appendL
 by_cases hr : right rs=false
 ·rw [if_pos hr]
  rw [hr] at hir
  go_enter Tryz.func71,Tryz.ntmps71
  go_wp2_with fail
  refine hir.mono ?_
  rintro e w1 ⟨rfl,rfl⟩
  go_wp2
  go_ret
  exact ⟨rfl,H.out.refl⟩
 rw [if_neg hr]
 have hr : right rs=true:=by simpa using hr
 have hgl:=grp_small hr
 rw [hr] at hir
 have HRI:=Ab hr
 clear hr
 unfold Ed
 generalize hGG : grp Ah rs=G at *
 have HGG:=Ab hGG
 clear hGG
 generalize max (S.size L.n) 0=z at *
 by_cases hz : z=L.sz
 ·rw [if_pos hz]
  have hzb : (z == L.sz)=true:=by simp [hz]
  clear hz hlk
  unfold Di
  generalize hP : putW S L G=P
  obtain ⟨S5,s5,e5⟩:=P
  have HP:=Ab hP
  clear hP
  dsimp only
  by_cases he : e5=0
  ·rw [if_pos he]
   have heb : (e5 == 0)=true:=by simp [he]
   clear he
   go_enter Tryz.func71,Tryz.ntmps71
   go_wp2_with fail
   refine hir.mono ?_
   rintro e w ⟨rfl,rfl⟩
   go_wp2
   refine wp_region_held_drew (S:=fun W=>W.cell? ⟨l,4,none⟩=some (.int .i64 L.sz)) (by kernel_rfl) (x4) (fun hHeld=>?_)
   refine Aa (i:=0) (v:=?_) rfl (by kernel_rfl) (by kernel_rfl) (by kernel_rfl) (fun _ _ _ h=>h) rfl ?_ hHeld ?_
   rotate_left
   ·intro w hS; (try dsimp only at hS); obtain hS0:=hS; go_simp; first | done | (with_reducible rfl)
   try simp only [Act.put,List.setIfInBounds_toArray,List.set_cons_zero,List.set_cons_succ]
   refine Aa (i:=1) (v:=?_) rfl (by kernel_rfl) (by kernel_rfl) (by kernel_rfl) (fun _ _ _ h=>h) rfl ?_ hHeld ?_
   rotate_left
   ·intro w hS; (try dsimp only at hS); obtain hS0:=hS; go_simp; first | done | (with_reducible rfl)
   try simp only [Act.put,List.setIfInBounds_toArray,List.set_cons_zero,List.set_cons_succ]
   refine Aa (i:=2) (v:=?_) rfl (by kernel_rfl) (by kernel_rfl) (by kernel_rfl) (fun _ _ _ h=>h) rfl ?_ hHeld ?_
   rotate_left
   ·intro w hS; (try dsimp only at hS); obtain hS0:=hS; go_simp; first | done | (with_reducible rfl)
   try simp only [Act.put,List.setIfInBounds_toArray,List.set_cons_zero,List.set_cons_succ]
   refine Aa (i:=4) (v:=?_) rfl (by kernel_rfl) (by kernel_rfl) (by kernel_rfl) (fun _ _ _ h=>h) rfl ?_ hHeld ?_
   rotate_left
   ·intro w hS; (try dsimp only at hS); obtain hS0:=hS; go_simp; first | done | (with_reducible rfl)
   try simp only [Act.put,List.setIfInBounds_toArray,List.set_cons_zero,List.set_cons_succ]
   refine Aa (i:=5) (v:=?_) rfl (by kernel_rfl) (by kernel_rfl) (by kernel_rfl) (fun _ _ _ h=>h) rfl ?_ hHeld ?_
   rotate_left
   ·intro w hS; (try dsimp only at hS); obtain hS0:=hS; go_simp; first | done | (with_reducible rfl)
   try simp only [Act.put,List.setIfInBounds_toArray,List.set_cons_zero,List.set_cons_succ]
   refine Aa (i:=6) (v:=?_) rfl (by kernel_rfl) (by kernel_rfl) (by kernel_rfl) (fun _ _ _ h=>h) rfl ?_ hHeld ?_
   rotate_left
   ·intro w hS; (try dsimp only at hS); obtain hS0:=hS; go_simp; first | done | (with_reducible rfl)
   try simp only [Act.put,List.setIfInBounds_toArray,List.set_cons_zero,List.set_cons_succ]
   refine Aa (i:=7) (v:=?_) rfl (by kernel_rfl) (by kernel_rfl) (by kernel_rfl) (fun _ _ _ h=>h) rfl ?_ hHeld ?_
   rotate_left
   ·intro w hS; (try dsimp only at hS); obtain hS0:=hS; go_simp; first | done | (with_reducible rfl)
   try simp only [Act.put,List.setIfInBounds_toArray,List.set_cons_zero,List.set_cons_succ]
   refine An (i:=3) rfl (by kernel_rfl) rfl (fun K hK=>?_)
   go_simp
   refine hle.mono ?_
   rintro e w2 ⟨rfl,h2⟩
   rw [h2]
   clear h2
   refine hK.out _ _ (x4) (fun hHeld=>?_)
   clear hK K
   try simp only [Act.put,List.setIfInBounds_toArray,List.set_cons_zero,List.set_cons_succ]
   refine Aa (i:=8) (v:=?_) rfl (by kernel_rfl) (by kernel_rfl) (by kernel_rfl) (fun _ _ _ h=>h) rfl ?_ hHeld ?_
   rotate_left
   ·intro w hS; (try dsimp only at hS); obtain hS0:=hS; go_simp; first | done | (with_reducible rfl)
   try simp only [Act.put,List.setIfInBounds_toArray,List.set_cons_zero,List.set_cons_succ]
   refine wpAnyH_done (by kernel_rfl) ?_ _
   clear hHeld
   have hgx:=H.out.drew.drew
   have hfx : ∀ k,F k→F k∨w.heap.size≤k:=fun _ h=>.inl h
   have hcx : Chg (fun k=>F k∨k=l) w w.drew.drew:=((Chg.refl _ w).drew).drew
   have hpg:=Hc _ _ rs (HV.out.keep hfx hcx).1 HRI.out (HT.out.low (hcx.below (fun k hk=>hk.elim (fun hk=>(H.out.1.2.1 k hk).1) (fun e=>e ▸ H.out.2.2.2.1)) H.out.size) hB0)
   rw [HGG.out] at hpg
   go_wp2_with fail
   refine hpg.mono ?_
   rintro e wg ⟨vg,rfl,hog,hbg⟩
   have hpu:=put_lg (hgx.keepB hbg) (Gw hgx hog) (by omega) (by omega)
   rw [HP.out] at hpu
   dsimp only at hpu
   have hcg:=Dr hbg
   obtain ⟨ag,cg,rfl,-⟩:=Ay hog
   clear hog hpg
   go_wp2_with fail
   refine hpu.mono ?_
   rintro e wp ⟨rfl,ha⟩
   obtain ⟨Fp,hgp,hfp,hcp⟩:=(ha.grow hcg).next hcx hfx
   have y3:=Ad hgp.2.1 3
   have hha:=has_lg hgp (L.wh+(G.length : Int))
   dsimp only at hha
   go_wp2_with fail
   refine hha.mono ?_
   rintro e w9 ⟨rfl,hg9,hc9⟩
   go_wp2
   go_ret
   have he : e5=0:=by simpa using heb
   subst he
   exact ⟨rfl,Bu.has hg9 hfp hcp hc9⟩
  ·rw [if_neg he]
   have heb : (e5 == 0)=false:=by simp [he]
   clear he
   go_enter Tryz.func71,Tryz.ntmps71
   go_wp2_with fail
   refine hir.mono ?_
   rintro e w ⟨rfl,rfl⟩
   go_wp2
   refine wp_region_held_drew (S:=fun W=>W.cell? ⟨l,4,none⟩=some (.int .i64 L.sz)) (by kernel_rfl) (x4) (fun hHeld=>?_)
   refine Aa (i:=0) (v:=?_) rfl (by kernel_rfl) (by kernel_rfl) (by kernel_rfl) (fun _ _ _ h=>h) rfl ?_ hHeld ?_
   rotate_left
   ·intro w hS; (try dsimp only at hS); obtain hS0:=hS; go_simp; first | done | (with_reducible rfl)
   try simp only [Act.put,List.setIfInBounds_toArray,List.set_cons_zero,List.set_cons_succ]
   refine Aa (i:=1) (v:=?_) rfl (by kernel_rfl) (by kernel_rfl) (by kernel_rfl) (fun _ _ _ h=>h) rfl ?_ hHeld ?_
   rotate_left
   ·intro w hS; (try dsimp only at hS); obtain hS0:=hS; go_simp; first | done | (with_reducible rfl)
   try simp only [Act.put,List.setIfInBounds_toArray,List.set_cons_zero,List.set_cons_succ]
   refine Aa (i:=2) (v:=?_) rfl (by kernel_rfl) (by kernel_rfl) (by kernel_rfl) (fun _ _ _ h=>h) rfl ?_ hHeld ?_
   rotate_left
   ·intro w hS; (try dsimp only at hS); obtain hS0:=hS; go_simp; first | done | (with_reducible rfl)
   try simp only [Act.put,List.setIfInBounds_toArray,List.set_cons_zero,List.set_cons_succ]
   refine Aa (i:=4) (v:=?_) rfl (by kernel_rfl) (by kernel_rfl) (by kernel_rfl) (fun _ _ _ h=>h) rfl ?_ hHeld ?_
   rotate_left
   ·intro w hS; (try dsimp only at hS); obtain hS0:=hS; go_simp; first | done | (with_reducible rfl)
   try simp only [Act.put,List.setIfInBounds_toArray,List.set_cons_zero,List.set_cons_succ]
   refine Aa (i:=5) (v:=?_) rfl (by kernel_rfl) (by kernel_rfl) (by kernel_rfl) (fun _ _ _ h=>h) rfl ?_ hHeld ?_
   rotate_left
   ·intro w hS; (try dsimp only at hS); obtain hS0:=hS; go_simp; first | done | (with_reducible rfl)
   try simp only [Act.put,List.setIfInBounds_toArray,List.set_cons_zero,List.set_cons_succ]
   refine Aa (i:=6) (v:=?_) rfl (by kernel_rfl) (by kernel_rfl) (by kernel_rfl) (fun _ _ _ h=>h) rfl ?_ hHeld ?_
   rotate_left
   ·intro w hS; (try dsimp only at hS); obtain hS0:=hS; go_simp; first | done | (with_reducible rfl)
   try simp only [Act.put,List.setIfInBounds_toArray,List.set_cons_zero,List.set_cons_succ]
   refine Aa (i:=7) (v:=?_) rfl (by kernel_rfl) (by kernel_rfl) (by kernel_rfl) (fun _ _ _ h=>h) rfl ?_ hHeld ?_
   rotate_left
   ·intro w hS; (try dsimp only at hS); obtain hS0:=hS; go_simp; first | done | (with_reducible rfl)
   try simp only [Act.put,List.setIfInBounds_toArray,List.set_cons_zero,List.set_cons_succ]
   refine An (i:=3) rfl (by kernel_rfl) rfl (fun K hK=>?_)
   go_simp
   refine hle.mono ?_
   rintro e w2 ⟨rfl,h2⟩
   rw [h2]
   clear h2
   refine hK.out _ _ (x4) (fun hHeld=>?_)
   clear hK K
   try simp only [Act.put,List.setIfInBounds_toArray,List.set_cons_zero,List.set_cons_succ]
   refine Aa (i:=8) (v:=?_) rfl (by kernel_rfl) (by kernel_rfl) (by kernel_rfl) (fun _ _ _ h=>h) rfl ?_ hHeld ?_
   rotate_left
   ·intro w hS; (try dsimp only at hS); obtain hS0:=hS; go_simp; first | done | (with_reducible rfl)
   try simp only [Act.put,List.setIfInBounds_toArray,List.set_cons_zero,List.set_cons_succ]
   refine wpAnyH_done (by kernel_rfl) ?_ _
   clear hHeld
   have hgx:=H.out.drew.drew
   have hfx : ∀ k,F k→F k∨w.heap.size≤k:=fun _ h=>.inl h
   have hcx : Chg (fun k=>F k∨k=l) w w.drew.drew:=((Chg.refl _ w).drew).drew
   have hpg:=Hc _ _ rs (HV.out.keep hfx hcx).1 HRI.out (HT.out.low (hcx.below (fun k hk=>hk.elim (fun hk=>(H.out.1.2.1 k hk).1) (fun e=>e ▸ H.out.2.2.2.1)) H.out.size) hB0)
   rw [HGG.out] at hpg
   go_wp2_with fail
   refine hpg.mono ?_
   rintro e wg ⟨vg,rfl,hog,hbg⟩
   have hpu:=put_lg (hgx.keepB hbg) (Gw hgx hog) (by omega) (by omega)
   rw [HP.out] at hpu
   dsimp only at hpu
   have hcg:=Dr hbg
   obtain ⟨ag,cg,rfl,-⟩:=Ay hog
   clear hog hpg
   go_wp2_with fail
   refine hpu.mono ?_
   rintro e wp ⟨rfl,ha⟩
   go_wp2
   go_ret
   exact ⟨rfl,(ha.grow hcg).next hcx hfx⟩
 ·rw [if_neg hz]
  have hzb : (z == L.sz)=false:=by simp [hz]
  clear hz
  generalize hK : C4 S L.n=K at *
  obtain ⟨e1,o1⟩:=K
  dsimp only at hlk ⊢
  cases o1 with
  | none=>
   have hek : (e1 == 0)=false:=by
    have:=Ky hK
    simp [this]
   clear hK
   dsimp only
   go_enter Tryz.func71,Tryz.ntmps71
   go_wp2_with fail
   refine hir.mono ?_
   rintro e w ⟨rfl,rfl⟩
   go_wp2
   refine wp_region_held_drew (S:=fun W=>W.cell? ⟨l,4,none⟩=some (.int .i64 L.sz)) (by kernel_rfl) (x4) (fun hHeld=>?_)
   refine Aa (i:=0) (v:=?_) rfl (by kernel_rfl) (by kernel_rfl) (by kernel_rfl) (fun _ _ _ h=>h) rfl ?_ hHeld ?_
   rotate_left
   ·intro w hS; (try dsimp only at hS); obtain hS0:=hS; go_simp; first | done | (with_reducible rfl)
   try simp only [Act.put,List.setIfInBounds_toArray,List.set_cons_zero,List.set_cons_succ]
   refine Aa (i:=1) (v:=?_) rfl (by kernel_rfl) (by kernel_rfl) (by kernel_rfl) (fun _ _ _ h=>h) rfl ?_ hHeld ?_
   rotate_left
   ·intro w hS; (try dsimp only at hS); obtain hS0:=hS; go_simp; first | done | (with_reducible rfl)
   try simp only [Act.put,List.setIfInBounds_toArray,List.set_cons_zero,List.set_cons_succ]
   refine Aa (i:=2) (v:=?_) rfl (by kernel_rfl) (by kernel_rfl) (by kernel_rfl) (fun _ _ _ h=>h) rfl ?_ hHeld ?_
   rotate_left
   ·intro w hS; (try dsimp only at hS); obtain hS0:=hS; go_simp; first | done | (with_reducible rfl)
   try simp only [Act.put,List.setIfInBounds_toArray,List.set_cons_zero,List.set_cons_succ]
   refine Aa (i:=4) (v:=?_) rfl (by kernel_rfl) (by kernel_rfl) (by kernel_rfl) (fun _ _ _ h=>h) rfl ?_ hHeld ?_
   rotate_left
   ·intro w hS; (try dsimp only at hS); obtain hS0:=hS; go_simp; first | done | (with_reducible rfl)
   try simp only [Act.put,List.setIfInBounds_toArray,List.set_cons_zero,List.set_cons_succ]
   refine Aa (i:=5) (v:=?_) rfl (by kernel_rfl) (by kernel_rfl) (by kernel_rfl) (fun _ _ _ h=>h) rfl ?_ hHeld ?_
   rotate_left
   ·intro w hS; (try dsimp only at hS); obtain hS0:=hS; go_simp; first | done | (with_reducible rfl)
   try simp only [Act.put,List.setIfInBounds_toArray,List.set_cons_zero,List.set_cons_succ]
   refine Aa (i:=6) (v:=?_) rfl (by kernel_rfl) (by kernel_rfl) (by kernel_rfl) (fun _ _ _ h=>h) rfl ?_ hHeld ?_
   rotate_left
   ·intro w hS; (try dsimp only at hS); obtain hS0:=hS; go_simp; first | done | (with_reducible rfl)
   try simp only [Act.put,List.setIfInBounds_toArray,List.set_cons_zero,List.set_cons_succ]
   refine Aa (i:=7) (v:=?_) rfl (by kernel_rfl) (by kernel_rfl) (by kernel_rfl) (fun _ _ _ h=>h) rfl ?_ hHeld ?_
   rotate_left
   ·intro w hS; (try dsimp only at hS); obtain hS0:=hS; go_simp; first | done | (with_reducible rfl)
   try simp only [Act.put,List.setIfInBounds_toArray,List.set_cons_zero,List.set_cons_succ]
   refine An (i:=3) rfl (by kernel_rfl) rfl (fun K hK=>?_)
   go_simp
   refine hle.mono ?_
   rintro e w2 ⟨rfl,h2⟩
   rw [h2]
   clear h2
   refine hK.out _ _ (x4) (fun hHeld=>?_)
   clear hK K
   try simp only [Act.put,List.setIfInBounds_toArray,List.set_cons_zero,List.set_cons_succ]
   refine Aa (i:=8) (v:=?_) rfl (by kernel_rfl) (by kernel_rfl) (by kernel_rfl) (fun _ _ _ h=>h) rfl ?_ hHeld ?_
   rotate_left
   ·intro w hS; (try dsimp only at hS); obtain hS0:=hS; go_simp; first | done | (with_reducible rfl)
   try simp only [Act.put,List.setIfInBounds_toArray,List.set_cons_zero,List.set_cons_succ]
   refine wpAnyH_done (by kernel_rfl) ?_ _
   clear hHeld
   go_wp2_with fail
   refine hlk.mono ?_
   rintro e w4 ⟨v4,rfl,rfl,ha⟩
   go_wp2
   go_ret
   exact ⟨rfl,ha.drewn.drewn⟩
  | some y=>
   obtain ⟨hy1,hy2,rfl⟩:=Mp hK
   clear hK
   obtain ⟨gs,k,zz⟩:=y
   dsimp only at hy1 hy2 ⊢
   unfold Di
   generalize hP : putW S.begun { L with wh:=(k : Int),sz:=(zz : Int) } G=P
   obtain ⟨S5,s5,e5⟩:=P
   have HP:=Ab hP
   clear hP
   dsimp only
   by_cases he : e5=0
   ·rw [if_pos he]
    have heb : (e5 == 0)=true:=by simp [he]
    clear he
    go_enter Tryz.func71,Tryz.ntmps71
    go_wp2_with fail
    refine hir.mono ?_
    rintro e w ⟨rfl,rfl⟩
    go_wp2
    refine wp_region_held_drew (S:=fun W=>W.cell? ⟨l,4,none⟩=some (.int .i64 L.sz)) (by kernel_rfl) (x4) (fun hHeld=>?_)
    refine Aa (i:=0) (v:=?_) rfl (by kernel_rfl) (by kernel_rfl) (by kernel_rfl) (fun _ _ _ h=>h) rfl ?_ hHeld ?_
    rotate_left
    ·intro w hS; (try dsimp only at hS); obtain hS0:=hS; go_simp; first | done | (with_reducible rfl)
    try simp only [Act.put,List.setIfInBounds_toArray,List.set_cons_zero,List.set_cons_succ]
    refine Aa (i:=1) (v:=?_) rfl (by kernel_rfl) (by kernel_rfl) (by kernel_rfl) (fun _ _ _ h=>h) rfl ?_ hHeld ?_
    rotate_left
    ·intro w hS; (try dsimp only at hS); obtain hS0:=hS; go_simp; first | done | (with_reducible rfl)
    try simp only [Act.put,List.setIfInBounds_toArray,List.set_cons_zero,List.set_cons_succ]
    refine Aa (i:=2) (v:=?_) rfl (by kernel_rfl) (by kernel_rfl) (by kernel_rfl) (fun _ _ _ h=>h) rfl ?_ hHeld ?_
    rotate_left
    ·intro w hS; (try dsimp only at hS); obtain hS0:=hS; go_simp; first | done | (with_reducible rfl)
    try simp only [Act.put,List.setIfInBounds_toArray,List.set_cons_zero,List.set_cons_succ]
    refine Aa (i:=4) (v:=?_) rfl (by kernel_rfl) (by kernel_rfl) (by kernel_rfl) (fun _ _ _ h=>h) rfl ?_ hHeld ?_
    rotate_left
    ·intro w hS; (try dsimp only at hS); obtain hS0:=hS; go_simp; first | done | (with_reducible rfl)
    try simp only [Act.put,List.setIfInBounds_toArray,List.set_cons_zero,List.set_cons_succ]
    refine Aa (i:=5) (v:=?_) rfl (by kernel_rfl) (by kernel_rfl) (by kernel_rfl) (fun _ _ _ h=>h) rfl ?_ hHeld ?_
    rotate_left
    ·intro w hS; (try dsimp only at hS); obtain hS0:=hS; go_simp; first | done | (with_reducible rfl)
    try simp only [Act.put,List.setIfInBounds_toArray,List.set_cons_zero,List.set_cons_succ]
    refine Aa (i:=6) (v:=?_) rfl (by kernel_rfl) (by kernel_rfl) (by kernel_rfl) (fun _ _ _ h=>h) rfl ?_ hHeld ?_
    rotate_left
    ·intro w hS; (try dsimp only at hS); obtain hS0:=hS; go_simp; first | done | (with_reducible rfl)
    try simp only [Act.put,List.setIfInBounds_toArray,List.set_cons_zero,List.set_cons_succ]
    refine Aa (i:=7) (v:=?_) rfl (by kernel_rfl) (by kernel_rfl) (by kernel_rfl) (fun _ _ _ h=>h) rfl ?_ hHeld ?_
    rotate_left
    ·intro w hS; (try dsimp only at hS); obtain hS0:=hS; go_simp; first | done | (with_reducible rfl)
    try simp only [Act.put,List.setIfInBounds_toArray,List.set_cons_zero,List.set_cons_succ]
    refine An (i:=3) rfl (by kernel_rfl) rfl (fun K hK=>?_)
    go_simp
    refine hle.mono ?_
    rintro e w2 ⟨rfl,h2⟩
    rw [h2]
    clear h2
    refine hK.out _ _ (x4) (fun hHeld=>?_)
    clear hK K
    try simp only [Act.put,List.setIfInBounds_toArray,List.set_cons_zero,List.set_cons_succ]
    refine Aa (i:=8) (v:=?_) rfl (by kernel_rfl) (by kernel_rfl) (by kernel_rfl) (fun _ _ _ h=>h) rfl ?_ hHeld ?_
    rotate_left
    ·intro w hS; (try dsimp only at hS); obtain hS0:=hS; go_simp; first | done | (with_reducible rfl)
    try simp only [Act.put,List.setIfInBounds_toArray,List.set_cons_zero,List.set_cons_succ]
    refine wpAnyH_done (by kernel_rfl) ?_ _
    clear hHeld
    go_wp2_with fail
    refine hlk.mono ?_
    rintro e w4 ⟨v4,rfl,F4,b4,hgx,hf4,hc4,hgs4,-⟩
    have hfx : ∀ k,F4 k→F k∨w.heap.size≤k:=hf4
    have hcx : Chg (fun k=>F k∨k=l) w w4:=hc4.undrew.undrew
    clear hf4 hc4
    obtain ⟨a4,c4,rfl,-⟩:=hgs4.form
    clear hgs4
    have hpg:=Hc _ _ rs (HV.out.keep hfx hcx).1 HRI.out (HT.out.low (hcx.below (fun k hk=>hk.elim (fun hk=>(H.out.1.2.1 k hk).1) (fun e=>e ▸ H.out.2.2.2.1)) H.out.size) hB0)
    rw [HGG.out] at hpg
    go_wp2_with fail
    refine hpg.mono ?_
    rintro e wg ⟨vg,rfl,hog,hbg⟩
    have hpu:=put_lg (hgx.keepB hbg) (Gw hgx hog) (by omega) (by dsimp only; omega)
    rw [HP.out] at hpu
    dsimp only at hpu
    have hcg:=Dr hbg
    obtain ⟨ag,cg,rfl,-⟩:=Ay hog
    clear hog hpg
    go_wp2_with fail
    refine hpu.mono ?_
    rintro e wp ⟨rfl,ha⟩
    obtain ⟨Fp,hgp,hfp,hcp⟩:=(ha.grow hcg).next hcx hfx
    have y3:=Ad hgp.2.1 3
    have hha:=has_lg hgp ((k : Int)+(G.length : Int))
    dsimp only at hha
    go_wp2_with fail
    refine hha.mono ?_
    rintro e w9 ⟨rfl,hg9,hc9⟩
    go_wp2
    go_ret
    have he : e5=0:=by simpa using heb
    subst he
    exact ⟨rfl,Bu.has hg9 hfp hcp hc9⟩
   ·rw [if_neg he]
    have heb : (e5 == 0)=false:=by simp [he]
    clear he
    go_enter Tryz.func71,Tryz.ntmps71
    go_wp2_with fail
    refine hir.mono ?_
    rintro e w ⟨rfl,rfl⟩
    go_wp2
    refine wp_region_held_drew (S:=fun W=>W.cell? ⟨l,4,none⟩=some (.int .i64 L.sz)) (by kernel_rfl) (x4) (fun hHeld=>?_)
    refine Aa (i:=0) (v:=?_) rfl (by kernel_rfl) (by kernel_rfl) (by kernel_rfl) (fun _ _ _ h=>h) rfl ?_ hHeld ?_
    rotate_left
    ·intro w hS; (try dsimp only at hS); obtain hS0:=hS; go_simp; first | done | (with_reducible rfl)
    try simp only [Act.put,List.setIfInBounds_toArray,List.set_cons_zero,List.set_cons_succ]
    refine Aa (i:=1) (v:=?_) rfl (by kernel_rfl) (by kernel_rfl) (by kernel_rfl) (fun _ _ _ h=>h) rfl ?_ hHeld ?_
    rotate_left
    ·intro w hS; (try dsimp only at hS); obtain hS0:=hS; go_simp; first | done | (with_reducible rfl)
    try simp only [Act.put,List.setIfInBounds_toArray,List.set_cons_zero,List.set_cons_succ]
    refine Aa (i:=2) (v:=?_) rfl (by kernel_rfl) (by kernel_rfl) (by kernel_rfl) (fun _ _ _ h=>h) rfl ?_ hHeld ?_
    rotate_left
    ·intro w hS; (try dsimp only at hS); obtain hS0:=hS; go_simp; first | done | (with_reducible rfl)
    try simp only [Act.put,List.setIfInBounds_toArray,List.set_cons_zero,List.set_cons_succ]
    refine Aa (i:=4) (v:=?_) rfl (by kernel_rfl) (by kernel_rfl) (by kernel_rfl) (fun _ _ _ h=>h) rfl ?_ hHeld ?_
    rotate_left
    ·intro w hS; (try dsimp only at hS); obtain hS0:=hS; go_simp; first | done | (with_reducible rfl)
    try simp only [Act.put,List.setIfInBounds_toArray,List.set_cons_zero,List.set_cons_succ]
    refine Aa (i:=5) (v:=?_) rfl (by kernel_rfl) (by kernel_rfl) (by kernel_rfl) (fun _ _ _ h=>h) rfl ?_ hHeld ?_
    rotate_left
    ·intro w hS; (try dsimp only at hS); obtain hS0:=hS; go_simp; first | done | (with_reducible rfl)
    try simp only [Act.put,List.setIfInBounds_toArray,List.set_cons_zero,List.set_cons_succ]
    refine Aa (i:=6) (v:=?_) rfl (by kernel_rfl) (by kernel_rfl) (by kernel_rfl) (fun _ _ _ h=>h) rfl ?_ hHeld ?_
    rotate_left
    ·intro w hS; (try dsimp only at hS); obtain hS0:=hS; go_simp; first | done | (with_reducible rfl)
    try simp only [Act.put,List.setIfInBounds_toArray,List.set_cons_zero,List.set_cons_succ]
    refine Aa (i:=7) (v:=?_) rfl (by kernel_rfl) (by kernel_rfl) (by kernel_rfl) (fun _ _ _ h=>h) rfl ?_ hHeld ?_
    rotate_left
    ·intro w hS; (try dsimp only at hS); obtain hS0:=hS; go_simp; first | done | (with_reducible rfl)
    try simp only [Act.put,List.setIfInBounds_toArray,List.set_cons_zero,List.set_cons_succ]
    refine An (i:=3) rfl (by kernel_rfl) rfl (fun K hK=>?_)
    go_simp
    refine hle.mono ?_
    rintro e w2 ⟨rfl,h2⟩
    rw [h2]
    clear h2
    refine hK.out _ _ (x4) (fun hHeld=>?_)
    clear hK K
    try simp only [Act.put,List.setIfInBounds_toArray,List.set_cons_zero,List.set_cons_succ]
    refine Aa (i:=8) (v:=?_) rfl (by kernel_rfl) (by kernel_rfl) (by kernel_rfl) (fun _ _ _ h=>h) rfl ?_ hHeld ?_
    rotate_left
    ·intro w hS; (try dsimp only at hS); obtain hS0:=hS; go_simp; first | done | (with_reducible rfl)
    try simp only [Act.put,List.setIfInBounds_toArray,List.set_cons_zero,List.set_cons_succ]
    refine wpAnyH_done (by kernel_rfl) ?_ _
    clear hHeld
    go_wp2_with fail
    refine hlk.mono ?_
    rintro e w4 ⟨v4,rfl,F4,b4,hgx,hf4,hc4,hgs4,-⟩
    have hfx : ∀ k,F4 k→F k∨w.heap.size≤k:=hf4
    have hcx : Chg (fun k=>F k∨k=l) w w4:=hc4.undrew.undrew
    clear hf4 hc4
    obtain ⟨a4,c4,rfl,-⟩:=hgs4.form
    clear hgs4
    have hpg:=Hc _ _ rs (HV.out.keep hfx hcx).1 HRI.out (HT.out.low (hcx.below (fun k hk=>hk.elim (fun hk=>(H.out.1.2.1 k hk).1) (fun e=>e ▸ H.out.2.2.2.1)) H.out.size) hB0)
    rw [HGG.out] at hpg
    go_wp2_with fail
    refine hpg.mono ?_
    rintro e wg ⟨vg,rfl,hog,hbg⟩
    have hpu:=put_lg (hgx.keepB hbg) (Gw hgx hog) (by omega) (by dsimp only; omega)
    rw [HP.out] at hpu
    dsimp only at hpu
    have hcg:=Dr hbg
    obtain ⟨ag,cg,rfl,-⟩:=Ay hog
    clear hog hpg
    go_wp2_with fail
    refine hpu.mono ?_
    rintro e wp ⟨rfl,ha⟩
    go_wp2
    go_ret
    exact ⟨rfl,(ha.grow hcg).next hcx hfx⟩
end Go.Proofs.YtblniomnhpedjaaGreatDoor
namespace Go.Proofs.YtblniomnhpedjaaGreatDoor
open Go.RowKit
variable {B : Nat} {w w' : World} {F : Nat→Prop} {d l : Nat} {S : Dk} {L : Lw}
def Opened (B : Nat) (w : World) (F : Nat→Prop) (d : Nat) (S : Dk) (n : Nm) (w' : World) (x v : Value) : Option (List (List (List UInt8)) × Nat × Nat)→Prop
 | none=>x = .pointer none∧v = .slice none 0 0∧Dc B w F d S.begun w'
 | some y=>∃ l F' b1,x = .pointer (some ⟨l,0,none⟩)∧w.heap.size≤l∧Lg B w' F' d l S.begun ⟨n,false,(y.2.1 : Int),(y.2.2 : Int)⟩∧(∀ k,F' k→F k∨w.heap.size≤k)∧Chg F w w'∧Gs w' b1 v y.1∧w.heap.size≤b1∧l<b1∧∀ k,F' k→k<b1
set_option maxRecDepth 20000 in
theorem open_bad (w : World) (d : Nat) (n : Nm) (hn : Cc n=false) :
  Calls Tryz.prog 38 #[.pointer (some ⟨d,0,none⟩), .string (Ae n)] w fun e w'=>e = .returned (.tuple #[.pointer none, .slice none 0 0, .int .i64 50])∧w'=w:=by
 have hi:=isLog_any w n
 rw [hn] at hi
 go_enter Tryz.func38,Tryz.ntmps38
 go_wp2_with fail
 refine hi.mono ?_
 rintro e w1 ⟨rfl,rfl⟩
 go_wp2
 go_ret3
 exact ⟨rfl,rfl⟩
set_option maxRecDepth 20000 in
set_option maxHeartbeats 1600000 in
theorem open_lg (h : Bn B w F d S) (hB : B≤w.heap.size) (hB0 : 0<B) (hT : Bk w) (hb : S.bulk<1000000000) (n : Nm) (hn : Cc n=true) :
  Calls Tryz.prog 38 #[.pointer (some ⟨d,0,none⟩), .string (Ae n)] w fun e w'=>∃ x v,e = .returned (.tuple #[x,v, .int .i64 (C4 S n).1])∧Opened B w F d S n w' x v (C4 S n).2:=by
 have hi:=isLog_any w n
 have hl70:=isLg_len hn
 rw [hn] at hi
 have H:=Ab h
 have HT:=Ab hT
 clear h hT hn
 generalize hK : C4 S n=K
 obtain ⟨e1,o1⟩:=K
 cases o1 with
 | none=>
  have hek : (e1 == 0)=false:=by
   have:=Ky hK
   simp [this]
  have HK:=Ab hK
  clear hK
  dsimp only
  go_enter Tryz.func38,Tryz.ntmps38
  go_wp2_with fail
  refine hi.mono ?_
  rintro e w ⟨rfl,rfl⟩
  have hcl:=E8 w n (by omega)
  go_wp2_with fail
  refine hcl.mono ?_
  rintro e w2 ⟨rfl,hb2⟩
  have hbW : Below w.heap.size w (w2.alloc (.cells #[.pointer (some ⟨d,0,none⟩), .string (Ae n), .bool false, .int .i64 0, .int .i64 0] 129)):=hb2.alloc hb2.size _
  have hgW : Lg B (w2.alloc (.cells #[.pointer (some ⟨d,0,none⟩), .string (Ae n), .bool false, .int .i64 0, .int .i64 0] 129)) F d w2.heap.size S ⟨n,false,0,0⟩:=by
   have hs2:=hb2.size
   refine ⟨H.out.keep (Dr hbW) (fun _ _ h=>h),Aq w2 _,fun hf=>?_,by omega,hl70.2⟩
   have:=(H.out.2.1 _ hf).2
   omega
  have hlk:=look_lg hgW hB0 (HT.out.keep hbW) hb
  dsimp only at hlk
  rw [HK.out] at hlk
  have hszW : (w2.alloc (.cells #[.pointer (some ⟨d,0,none⟩), .string (Ae n), .bool false, .int .i64 0, .int .i64 0] 129)).heap.size=w2.heap.size+1:=by simp
  have hs2:=hb2.size
  go_wp2_with fail
  refine hlk.mono ?_
  rintro e w3 ⟨v3,rfl,rfl,ha⟩
  obtain ⟨F3,hg3,hf3,hc3⟩:=ha
  have HS:=Ab hszW
  clear hszW
  go_wp2
  go_ret3
  have hszW:=HS.out
  refine ⟨_,_,rfl,rfl,rfl,F3,hg3.1,fun k hk=>?_,?_⟩
  ·rcases hf3 k hk with h | h
   ·exact .inl h
   ·exact .inr (by omega)
  ·refine ((Dr hbW).mono fun _ _ h=>h.elim).trans hc3 fun k hk h=>?_
   rcases h with h | h
   ·exact h
   ·omega
 | some y=>
  obtain ⟨hy1,hy2,rfl⟩:=Mp hK
  have HK:=Ab hK
  clear hK
  dsimp only
  go_enter Tryz.func38,Tryz.ntmps38
  go_wp2_with fail
  refine hi.mono ?_
  rintro e w ⟨rfl,rfl⟩
  have hcl:=E8 w n (by omega)
  go_wp2_with fail
  refine hcl.mono ?_
  rintro e w2 ⟨rfl,hb2⟩
  have hbW : Below w.heap.size w (w2.alloc (.cells #[.pointer (some ⟨d,0,none⟩), .string (Ae n), .bool false, .int .i64 0, .int .i64 0] 129)):=hb2.alloc hb2.size _
  have hgW : Lg B (w2.alloc (.cells #[.pointer (some ⟨d,0,none⟩), .string (Ae n), .bool false, .int .i64 0, .int .i64 0] 129)) F d w2.heap.size S ⟨n,false,0,0⟩:=by
   have hs2:=hb2.size
   refine ⟨H.out.keep (Dr hbW) (fun _ _ h=>h),Aq w2 _,fun hf=>?_,by omega,hl70.2⟩
   have:=(H.out.2.1 _ hf).2
   omega
  have hlk:=look_lg hgW hB0 (HT.out.keep hbW) hb
  dsimp only at hlk
  rw [HK.out] at hlk
  have hszW : (w2.alloc (.cells #[.pointer (some ⟨d,0,none⟩), .string (Ae n), .bool false, .int .i64 0, .int .i64 0] 129)).heap.size=w2.heap.size+1:=by simp
  have hs2:=hb2.size
  go_wp2_with fail
  refine hlk.mono ?_
  rintro e w3 ⟨v3,rfl,F3,b3,hg3,hf3,hc3,hgs,hb3,hF3⟩
  have HS:=Ab hszW
  have HGS:=Ab hgs
  obtain ⟨a3,c3,rfl,-⟩:=hgs.form
  clear hszW hgs
  go_wp2
  go_ret3
  have hszW:=HS.out
  refine ⟨_,_,rfl,w2.heap.size,F3,b3,rfl,hs2,hg3,fun k hk=>?_,?_,HGS.out,by omega,by omega,hF3⟩
  ·rcases hf3 k hk with h | h
   ·exact .inl h
   ·exact .inr (by omega)
  ·refine ((Dr hbW).mono fun _ _ h=>h.elim).trans hc3 fun k hk h=>?_
   rcases h with h | h
   ·exact h
   ·omega
end Go.Proofs.YtblniomnhpedjaaGreatDoor
namespace Go.Proofs.YtblniomnhpedjaaGreatDoor
open Go.RowKit
variable {w w' : World}
def Rs (w : World) (v : Value) (gs : List (List (List UInt8))) : Prop:=
 ∃ ao cap,v = .slice ao gs.length cap∧gs.length≤cap∧cap≤maxLen ∧
  (gs ≠ []→∃ b off,ao=some ⟨b,off,none⟩∧b<w.heap.size∧∀ j (h : j<gs.length),∃ x,w.cell? ⟨b,off+j,none⟩=some x∧Tx w x gs[j])
theorem Gs.rs {base : Nat} {v : Value} {gs : List (List (List UInt8))} (h : Gs w base v gs) : Rs w v gs:=by
 obtain ⟨vs,ho,hx⟩:=h
 have hl : vs.length=gs.length:=by have:=ho.1; omega
 have h0:=ho
 rcases ho.2 with ⟨rfl,hn⟩ | ⟨g,cap,cur,rfl,hg,hh,hc,hm,hs,ht⟩
 ·obtain rfl : gs = []:=List.eq_nil_of_length_eq_zero hn
  exact ⟨none,0,rfl,Nat.le_refl _,by simp,fun h=>absurd rfl h⟩
 ·refine ⟨_,_,rfl,hc,hm,fun _=>⟨g,0,rfl,At hh,fun j hj=>?_⟩⟩
  have hj' : vs[j]? = some vs[j]:=List.getElem?_eq_getElem (by omega)
  have hcell:=World.ownsRow.cells h0 (g:=g) rfl j _ hj'
  rw [Addr.add_lit] at hcell
  exact ⟨vs[j],hcell,Fq (hx j vs[j] gs[j] hj' (List.getElem?_eq_getElem hj))⟩
theorem Tx.quiet {v : Value} {xs : List (List UInt8)} (h : Tx w v xs) (hc : Chg (fun _=>False) w w') : Tx w' v xs:=h.chg hc fun _ _ h=>h
theorem Rs.quiet {v : Value} {gs : List (List (List UInt8))} (h : Rs w v gs) (hc : Chg (fun _=>False) w w') : Rs w' v gs:=by
 obtain ⟨ao,cap,hv,h1,h2,h4⟩:=h
 refine ⟨ao,cap,hv,h1,h2,fun hl=>?_⟩
 obtain ⟨b,off,ha,hlt,hcell⟩:=h4 hl
 refine ⟨b,off,ha,Nat.lt_of_lt_of_le hlt hc.size,fun j hj=>?_⟩
 obtain ⟨x,hx,hT⟩:=hcell j hj
 exact ⟨x,(World.cell?_of_block (w:=w) (hc.block b hlt (fun h=>h))).trans hx,hT.quiet hc⟩
theorem Rs.form {v : Value} {gs : List (List (List UInt8))} (h : Rs w v gs) : ∃ ao cap,v = .slice ao gs.length cap:=by
 obtain ⟨ao,cap,hv,-⟩:=h
 exact ⟨ao,cap,hv⟩
theorem Rs.at {ao : Option Addr} {n cap : Nat} {gs : List (List (List UInt8))} (h : Rs w (.slice ao n cap) gs) (j : Nat) (hj : j<gs.length) :
  ∃ b off,ao=some ⟨b,off,none⟩∧n=gs.length∧∃ x,w.cell? ⟨b,off+j,none⟩=some x∧Tx w x gs[j]:=by
 obtain ⟨ao',cap',hv,h1,h2,h4⟩:=h
 injection hv with e1 e2 e3
 subst e1 e2 e3
 obtain ⟨b,off,ha,hlt,hcell⟩:=h4 (fun e=>by rw [e] at hj; simp at hj)
 exact ⟨b,off,ha,rfl,hcell j hj⟩
theorem Tx.at {ao : Option Addr} {n cap : Nat} {xs : List (List UInt8)} (h : Tx w (.slice ao n cap) xs) (j : Nat) (hj : j<xs.length) :
  ∃ b off,ao=some ⟨b,off,none⟩∧w.cell? ⟨b,off+j,none⟩=some (.string (Ae xs[j])):=by
 obtain ⟨ao',cap',hv,h1,h2,h4⟩:=h
 injection hv with e1 e2 e3
 subst e1
 obtain ⟨b,off,ha,hlt,hcell⟩:=h4 (fun e=>by rw [e] at hj; simp at hj)
 exact ⟨b,off,ha,hcell j hj⟩
theorem Tx.len {v : Value} {xs : List (List UInt8)} (h : Tx w v xs) : xs.length≤maxLen:=by
 obtain ⟨ao',cap',hv,h1,h2,h4⟩:=h
 omega
theorem Rs.len {v : Value} {gs : List (List (List UInt8))} (h : Rs w v gs) : gs.length≤maxLen:=by
 obtain ⟨ao',cap',hv,h1,h2,h4⟩:=h
 omega
theorem Mi {a : Addr} {v : Value} (h : w.cell? a=some v) (hc : Chg (fun _=>False) w w') : w'.cell? a=some v:=(World.cell?_of_block (w:=w) (hc.block a.block (World.block_lt_of_cell? w a h) (fun h=>h))).trans h
theorem take_one {α : Type} {a b : List α} {k : Nat} (h : a.take k=b.take k) (ha : k<a.length) (hb : k<b.length) (e : a[k]=b[k]) : a.take (k+1)=b.take (k+1):=by
 rw [List.take_add_one,List.take_add_one,h,List.getElem?_eq_getElem ha,List.getElem?_eq_getElem hb,e]
end Go.Proofs.YtblniomnhpedjaaGreatDoor
namespace Go.Proofs.YtblniomnhpedjaaGreatDoor
open Go.RowKit
def Ci (p : Al) : Bool:=!decide (2048<p.1.length) && !decide (4096<p.2.1.length) && !(p.2.2 && !p.2.1.isEmpty)
def Bh (l : List Al) : Nat:=(l.map fun p=>p.1.length+p.2.1.length).sum
def A6 (l : List Al) : Bool:=decide (l.length≤2000) && l.all Ci && decide (Bh l≤1048576)
theorem O7 (a b : List Al) : Bh (a++b)=Bh a+Bh b:=by simp [Bh]
theorem Fg {α : Type} (l : List α) {k : Nat} (h : k<l.length) : l.take (k+1)=l.take k ++ [l[k]]:=by rw [List.take_add_one]; simp [h]
theorem Mj (l : List Al) {k : Nat} (h : k<l.length) : Bh (l.take (k+1))=Bh (l.take k)+(l[k].1.length+l[k].2.1.length):=by
 rw [Fg l h,O7]
 generalize l[k]=x
 simp [Bh]
theorem Nu (t : TypeId) (a : Bs) : binOp .neq t (.string (Ae a)) (.string ⟨#[]⟩)=pure (.bool (!a.isEmpty)):=by
 cases a <;> simp [binOp,Op.stringOp,Ae]
theorem right_no {l : List Al} {k : Nat} (h : k<l.length) (hx : Ci l[k]=false) : A6 l=false:=by
 have : l.all Ci=false:=by
  rw [Bool.eq_false_iff]
  intro hc
  have:=List.all_eq_true.1 hc l[k] (List.getElem_mem h)
  rw [hx] at this
  cases this
 unfold A6
 rw [this]
 simp
theorem Oi {l : List Al} {k : Nat} (h : k<l.length) (ha : (l.take k).all Ci=true) (hx : Ci l[k]=true) : (l.take (k+1)).all Ci=true:=by
 rw [Fg l h,List.all_append,ha]
 simpa using hx
set_option maxRecDepth 40000 in
set_option maxHeartbeats 1600000 in
theorem Pi (w : World) (l : List Al) (v : Value) (hv : PsT w v l) :
  Calls Tryz.prog 49 #[v] w fun e w'=>e = .returned (.bool (A6 l))∧Chg (fun _=>False) w w':=by
 obtain ⟨ao,cap,rfl,h1,h2,h4⟩:=hv
 unfold maxLen at h2
 by_cases hmany : 2000<l.length
 ·have q0 : decide ((2000 : Int)<(l.length : Int))=true:=decide_eq_true (by omega)
  have HN : Hid (A6 l=false):=Ab (by unfold A6; rw [decide_eq_false (by omega)]; rfl)
  clear h4
  go_enter Tryz.func49,Tryz.ntmps49
  go_wp2
  go_ret
  exact ⟨by rw [HN.out]; rfl,Chg.refl _ _⟩
 have q0 : decide ((2000 : Int)<(l.length : Int))=false:=decide_eq_false (by omega)
 go_enter Tryz.func49,Tryz.ntmps49
 go_wp2_with fail
 go_loopw [11,3] (fun t u wr=>∃ k : Nat,k≤l.length∧t = .int .i64 k∧u = .int .i64 (Bh (l.take k))∧Bh (l.take k)≤k * 6144∧(l.take k).all Ci=true∧Chg (fun _=>False) w wr)
  (fun t _ _=>l.length - (intOf t).toNat)
 case atStart=>exact ⟨0,by omega,rfl,rfl,by simp [Bh],rfl,Chg.refl _ _⟩
 case round=>
  obtain ⟨k,hk,rfl,rfl,hsum,hok,hch⟩:=hrel
  by_cases hlt : k<l.length
  ·obtain ⟨b,off,rfl,hbl,hc⟩:=h4 (by intro e; rw [e] at hlt; simp at hlt)
   have c0:=(World.cell?_of_block (w:=w) (a:=⟨b,off+k * 3+0,none⟩) (hch.block b hbl (fun h=>h))).trans (hc k hlt 0 _ rfl)
   have c1:=(World.cell?_of_block (w:=w) (a:=⟨b,off+k * 3+1,none⟩) (hch.block b hbl (fun h=>h))).trans (hc k hlt 1 _ rfl)
   have c2:=(World.cell?_of_block (w:=w) (a:=⟨b,off+k * 3+2,none⟩) (hch.block b hbl (fun h=>h))).trans (hc k hlt 2 _ rfl)
   have hno:=fun h=>right_no (l:=l) hlt h
   have hst:=fun h=>Oi (l:=l) hlt hok h
   have htt:=Mj l hlt
   generalize l[k]=x at *
   have hb1:=hch.trans (Cm wr (A7 x)) (fun _ _ h=>h)
   have hx1:=B8 x.1
   have hx2:=B8 x.2.1
   have hne:=Nu 9 x.2.1
   obtain ⟨tk,htk⟩ : ∃ tk,tk=Bh (l.take k):=⟨_,rfl⟩
   obtain ⟨tn,htn⟩ : ∃ tn,tn=Bh (l.take (k+1)):=⟨_,rfl⟩
   rw [← htk] at htt hsum
   rw [← htn] at htt
   rw [← htk]
   have hput : Ci x=(!decide (2048<x.1.length) && !decide (4096<x.2.1.length) && !(x.2.2 && !x.2.1.isEmpty)):=rfl
   have HH:=Ab (And.intro hno (And.intro hst (And.intro hb1 (And.intro hput (And.intro htt (And.intro hsum htn))))))
   try simp only [Nat.add_zero] at c0 c1 c2
   clear hno hst hb1 hput hc hch hok htt htk htn hsum
   have HB1:=Ab HH.out.2.2.1
   by_cases hk1 : 2048<x.1.length
   ·have qa : decide ((2048 : Int)<(x.1.length : Int))=true:=decide_eq_true (by omega)
    have HN : Hid (A6 l=false):=Ab (HH.out.1 (by rw [HH.out.2.2.2.1,decide_eq_true hk1]; rfl))
    go_wp2
    go_ret
    exact ⟨by rw [HN.out]; rfl,HB1.out⟩
   have qa : decide ((2048 : Int)<(x.1.length : Int))=false:=decide_eq_false (by omega)
   by_cases hk2 : 4096<x.2.1.length
   ·have qb : decide ((4096 : Int)<(x.2.1.length : Int))=true:=decide_eq_true (by omega)
    have HN : Hid (A6 l=false):=Ab (HH.out.1 (by rw [HH.out.2.2.2.1,decide_eq_false hk1,decide_eq_true hk2]; rfl))
    go_wp2
    go_ret
    exact ⟨by rw [HN.out]; rfl,HB1.out⟩
   have qb : decide ((4096 : Int)<(x.2.1.length : Int))=false:=decide_eq_false (by omega)
   have hadd1 : IntKind.i64.wrap ((x.1.length : Int)+(x.2.1.length : Int))=(x.1.length : Int)+(x.2.1.length : Int):=by simp [IntKind.wrap,IntKind.bits,IntKind.signed]; omega
   have hadd2 : IntKind.i64.wrap ((tk : Int)+((x.1.length : Int)+(x.2.1.length : Int)))=(tn : Int):=by
    have h3:=HH.out.2.2.2.2.1
    have h4:=HH.out.2.2.2.2.2.1
    rw [show (tk : Int)+((x.1.length : Int)+(x.2.1.length : Int))=(tn : Int) by omega]
    simp [IntKind.wrap,IntKind.bits,IntKind.signed]
    omega
   cases hgo : x.2.2 with
   | false=>
    rw [hgo] at c2
    have hb1:=HH.out.2.2.1
    simp only [A7,hgo] at hb1
    have HB1:=Ab hb1
    clear hb1
    have HN : Hid ((l.take (k+1)).all Ci=true):=Ab (HH.out.2.1 (by rw [HH.out.2.2.2.1,hgo,decide_eq_false hk1,decide_eq_false hk2]; rfl))
    go_wp2_with fail
    go_roundw
    case rel=>exact ⟨k+1,by omega,by go_num,by rw [← HH.out.2.2.2.2.2.2],by rw [← HH.out.2.2.2.2.2.2]; have:=HH.out.2.2.2.2.1; have:=HH.out.2.2.2.2.2.1; omega,HN.out,HB1.out⟩
    case measure=>simp [intOf]; omega
   | true=>
    rw [hgo] at c2
    have hb1:=HH.out.2.2.1
    simp only [A7,hgo] at hb1
    have HB1:=Ab hb1
    clear hb1
    cases hem : x.2.1.isEmpty with
    | false=>
     rw [hem] at hne
     have HN : Hid (A6 l=false):=Ab (HH.out.1 (by rw [HH.out.2.2.2.1,hgo,hem,decide_eq_false hk1,decide_eq_false hk2]; rfl))
     go_wp2
     go_ret
     exact ⟨by rw [HN.out]; rfl,HB1.out⟩
    | true=>
     rw [hem] at hne
     have HN : Hid ((l.take (k+1)).all Ci=true):=Ab (HH.out.2.1 (by rw [HH.out.2.2.2.1,hgo,hem,decide_eq_false hk1,decide_eq_false hk2]; rfl))
     go_wp2_with fail
     go_roundw
     case rel=>exact ⟨k+1,by omega,by go_num,by rw [← HH.out.2.2.2.2.2.2],by rw [← HH.out.2.2.2.2.2.2]; have:=HH.out.2.2.2.2.1; have:=HH.out.2.2.2.2.2.1; omega,HN.out,HB1.out⟩
     case measure=>simp [intOf]; omega
  ·have hkl : k=l.length:=by omega
   subst hkl
   rw [List.take_length] at hok hsum ⊢
   have HN : Hid (A6 l=decide (Bh l≤1048576)):=Ab (by unfold A6; rw [hok,decide_eq_true (show l.length≤2000 by omega)]; rfl)
   have HC:=Ab hch
   generalize Bh l=tt at *
   clear hok hch hsum
   by_cases hle : tt≤1048576
   ·have q1 : decide ((tt : Int)≤1048576)=true:=decide_eq_true (by omega)
    go_wp2
    go_ret
    exact ⟨by rw [HN.out,decide_eq_true hle]; rfl,HC.out⟩
   ·have q1 : decide ((tt : Int)≤1048576)=false:=decide_eq_false (by omega)
    go_wp2
    go_ret
    exact ⟨by rw [HN.out,decide_eq_false hle]; rfl,HC.out⟩
end Go.Proofs.YtblniomnhpedjaaGreatDoor
namespace Go.Proofs.YtblniomnhpedjaaGreatDoor
open Go.RowKit
def Ar (p : Al) : Bs:=txt p.1++if p.2.2 then [] else txt p.2.1
theorem txt_of (r : Bs) : Pl.enc (Pl.zz (Ae r).size)++(Ae r).data.toList=txt r:=by have:=txt_put r; rwa [List.nil_append] at this
theorem txt_le (r : Bs) : (txt r).length≤r.length+10:=by
 have:=Gi r.length
 unfold txt
 rw [List.length_append]
 omega
set_option maxRecDepth 20000 in
set_option maxHeartbeats 1600000 in
theorem Mt (w : World) (v : Value) (l : List Al) (hv : PsT w v l) (hn : l.length≤1000000) (hs : ∀ p∈l,p.1.length≤1000000∧p.2.1.length≤1000000) :
  Calls Tryz.prog 68 #[v] w fun e w'=>∃ u,e = .returned u∧w'.ownsRow w.heap.size 9 1 u (l.map Ar).length (tcW (l.map Ar))∧Below w.heap.size w w':=by
 obtain ⟨ao,cap,rfl,h1,h2,h4⟩:=hv
 unfold maxLen at h2
 obtain ⟨i0,hi0,hz0,hz1,hz2⟩:=info_parts Tryz.infoT
 go_enter Tryz.func68,Tryz.ntmps68
 go_wp2_with fail
 go_loopw [9,3] (fun t u wr=>∃ k : Nat,k≤l.length∧t = .int .i64 k∧wr.ownsRow w.heap.size 9 1 u ((l.take k).map Ar).length (tcW ((l.take k).map Ar))∧Below w.heap.size w wr)
  (fun t _ _=>l.length - (intOf t).toNat)
 case atStart=>exact ⟨0,by omega,rfl,World.ownsRow_nil _ _ _ _,Below.refl _ _⟩
 case round=>
  obtain ⟨k,hk,rfl,hrow,hbr⟩:=hrel
  by_cases hlt : k<l.length
  ·obtain ⟨b,off,rfl,hbl,hc⟩:=h4 (by intro e; rw [e] at hlt; simp at hlt)
   have c0:=(hbr.cell (p:=⟨b,off+k * 3+0,none⟩) hbl).trans (hc k hlt 0 _ rfl)
   have c1:=(hbr.cell (p:=⟨b,off+k * 3+1,none⟩) hbl).trans (hc k hlt 1 _ rfl)
   have c2:=(hbr.cell (p:=⟨b,off+k * 3+2,none⟩) hbl).trans (hc k hlt 2 _ rfl)
   have hsk:=hs _ (List.getElem_mem hlt)
   have htk : (l.take (k+1)).map Ar=(l.take k).map Ar ++ [Ar l[k]]:=by rw [Fg l hlt,List.map_append]; rfl
   generalize l[k]=x at *
   have hlen : ((l.take k).map Ar).length≤1000000:=by rw [List.length_map,List.length_take]; omega
   generalize (l.take k).map Ar=acc at *
   try simp only [Nat.add_zero] at c0 c1 c2
   have hbA : Below wr.heap.size wr (wr.alloc (A7 x)):=(Below.refl _ _).alloc (Nat.le_refl _) _
   have hxA:=Aq wr (A7 x)
   have hp1:=Kp (wr.alloc (A7 x)) (.slice none 0 0) [] (Ae x.1) (Sl.nil _) (by rw [B8]; simp; omega)
   rw [txt_of,List.nil_append] at hp1
   have HH:=Ab (And.intro hrow (And.intro hbr (And.intro hbA (And.intro hxA htk))))
   obtain ⟨ua,uc,rfl,-⟩:=Ay hrow
   clear hc hrow hbr hbA htk
   cases hgo : x.2.2 with
   | true=>
    have hxr : Ar x=txt x.1:=by unfold Ar; rw [hgo]; simp
    rw [hgo] at c2
    simp only [A7,hgo] at hp1
    have hxA2:=hxA
    have hbA2:=HH.out.2.2.1
    simp only [A7,hgo] at hxA2 hbA2
    have HX:=Ab (And.intro hxA2 hbA2)
    clear hxA hxA2 hbA2
    have HXR:=Ab hxr
    clear hxr
    go_wp2_with fail
    refine hp1.mono ?_
    rintro e w1 ⟨g,m,cp,rfl,-,-,hsl,hb1⟩
    have hcv : (convert 68 9 (.slice (some ⟨g,0,none⟩) m cp)).run Tryz.prog w1 = .ok (.string (Ae (Ar x))) w1:=by rw [HXR.out]; exact Gf w1 _ _ hsl
    have hb1w:=HX.out.2.trans (hb1.mono HX.out.2.size)
    have y2:=Ad ((hb1.block _ (At HX.out.1)).trans HX.out.1) 2
    simp only [List.getElem?_toArray,List.getElem?_cons_zero,List.getElem?_cons_succ] at y2
    have HR:=Ab (And.intro (Cj HH.out.1 hb1w) (HH.out.2.1.trans (hb1w.mono HH.out.2.1.size)))
    clear hp1 hsl hb1 hb1w
    go_wp2_with (at_builtin; refine wpList_append_own _ rfl (.tmp 23) (.tmp 26) 58 rfl w.heap.size 9 i0 (.string ⟨#[]⟩) 1 16 Tryz.underlying58 hi0 hz0 hz1 hz2 rfl (by decide) _ _ _ rfl (HR.out.1.alloc _) ⟨w1.heap.size,0,none⟩ 1 1 [.string (Ae (Ar x))] rfl rfl (cell_one_new _ _ _) (by simp [Value.oneCell']) (by unfold maxLen; omega) (by omega) (by have:=HR.out.2.size; simp; omega) ?_)
    intro v2 w9 hown2 hgrow2 _
    have hb9 : Below w.heap.size w w9:=(HR.out.2.alloc HR.out.2.size _).grown hgrow2 (by have:=HR.out.2.size; simp; omega) (fun k hk=>(HR.out.1.lt k hk).1)
    obtain ⟨a3,c3,rfl,-⟩:=Ay hown2
    have HF:=Ab (And.intro hown2 hb9)
    clear hgrow2 hown2 hb9
    go_wp2
    go_roundw
    case rel=>exact ⟨k+1,by omega,by go_num,by rw [HH.out.2.2.2.2,Ms,List.length_append]; exact HF.out.1,HF.out.2⟩
    case measure=>simp [intOf]; omega
   | false=>
    have hxr : Ar x=txt x.1++txt x.2.1:=by unfold Ar; rw [hgo]; simp
    rw [hgo] at c2
    simp only [A7,hgo] at hp1
    have hxA2:=hxA
    have hbA2:=HH.out.2.2.1
    simp only [A7,hgo] at hxA2 hbA2
    have HX:=Ab (And.intro hxA2 hbA2)
    clear hxA hxA2 hbA2
    have HXR:=Ab hxr
    clear hxr
    go_wp2_with fail
    refine hp1.mono ?_
    rintro e w1 ⟨g,m,cp,rfl,-,-,hsl,hb1⟩
    have hx1:=(hb1.block _ (At HX.out.1)).trans HX.out.1
    have y1:=Ad hx1 1
    have y2:=Ad hx1 2
    simp only [List.getElem?_toArray,List.getElem?_cons_zero,List.getElem?_cons_succ] at y1 y2
    have hp2:=Kp w1 _ _ (Ae x.2.1) hsl (by rw [B8]; have:=txt_le x.1; omega)
    rw [txt_of,← HXR.out] at hp2
    have hb1w:=HX.out.2.trans (hb1.mono HX.out.2.size)
    have HB1:=Ab hb1w
    clear hp1 hsl hb1 hb1w hx1
    go_wp2_with fail
    refine hp2.mono ?_
    rintro e w2 ⟨g2,m2,cp2,rfl,-,-,hsl2,hb2⟩
    have hcv : (convert 68 9 (.slice (some ⟨g2,0,none⟩) m2 cp2)).run Tryz.prog w2 = .ok (.string (Ae (Ar x))) w2:=Gf w2 _ _ hsl2
    have hb2w:=HB1.out.trans (hb2.mono HB1.out.size)
    have HR:=Ab (And.intro (Cj HH.out.1 hb2w) (HH.out.2.1.trans (hb2w.mono HH.out.2.1.size)))
    clear hp2 hsl2 hb2 hb2w
    go_wp2_with (at_builtin; refine wpList_append_own _ rfl (.tmp 23) (.tmp 26) 58 rfl w.heap.size 9 i0 (.string ⟨#[]⟩) 1 16 Tryz.underlying58 hi0 hz0 hz1 hz2 rfl (by decide) _ _ _ rfl (HR.out.1.alloc _) ⟨w2.heap.size,0,none⟩ 1 1 [.string (Ae (Ar x))] rfl rfl (cell_one_new _ _ _) (by simp [Value.oneCell']) (by unfold maxLen; omega) (by omega) (by have:=HR.out.2.size; simp; omega) ?_)
    intro v2 w9 hown2 hgrow2 _
    have hb9 : Below w.heap.size w w9:=(HR.out.2.alloc HR.out.2.size _).grown hgrow2 (by have:=HR.out.2.size; simp; omega) (fun k hk=>(HR.out.1.lt k hk).1)
    obtain ⟨a3,c3,rfl,-⟩:=Ay hown2
    have HF:=Ab (And.intro hown2 hb9)
    clear hgrow2 hown2 hb9
    go_wp2
    go_roundw
    case rel=>exact ⟨k+1,by omega,by go_num,by rw [HH.out.2.2.2.2,Ms,List.length_append]; exact HF.out.1,HF.out.2⟩
    case measure=>simp [intOf]; omega
  ·have hkl : k=l.length:=by omega
   subst hkl
   rw [List.take_length] at hrow
   obtain ⟨ua,uc,rfl,-⟩:=Ay hrow
   have HR:=Ab (And.intro hrow hbr)
   clear hrow hbr
   go_wp2
   go_ret
   exact ⟨_,rfl,HR.out.1,HR.out.2⟩
end Go.Proofs.YtblniomnhpedjaaGreatDoor
