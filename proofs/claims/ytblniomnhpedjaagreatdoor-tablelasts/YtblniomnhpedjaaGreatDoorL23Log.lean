/-
  Texts joined: Log, Name, Put.
-/
import Derived.Test.YtblniomnhpedjaaGreatDoorL22File2
import Derived.Test.YtblniomnhpedjaaGreatDoorL21File
namespace Go.Proofs.YtblniomnhpedjaaGreatDoor
open Go.RowKit
variable {B : Nat} {w w' : World} {F : Nat→Prop} {d l : Nat} {S : Dk} {L : Lw}
theorem Bk.low (h : Bk w) (hb : Below B w w') (hB : 0<B) : Bk w':=⟨Nat.lt_of_lt_of_le h.1 hb.size,fun j hj=>(hb.cell (p:=⟨0,j,none⟩) hB).trans (h.2 j hj)⟩
theorem mem_sumN {xs : List Nat} {x : Nat} (h : x∈xs) : x≤xs.sum:=by
 induction xs with
 | nil=>cases h
 | cons y r ih=>
  rw [List.sum_cons]
  rcases List.mem_cons.1 h with rfl | h
  ·omega
  ·have:=ih h; omega
theorem bytes_le (S : Dk) (f : Nat) : (S.bytes f).length≤S.bulk:=by
 unfold Dk.bytes
 cases h : S.files[f]? with
 | none=>simp
 | some x=>
  have : x.b.length≤(S.files.map fun x=>x.b.length).sum:=mem_sumN (List.mem_map.2 ⟨x,List.mem_of_getElem? h,rfl⟩)
  unfold Dk.bulk
  simp only [Option.map_some,Option.getD_some]
  omega
theorem read_le (S : Dk) (n : Nm) : (S.read n).1.length≤S.bulk:=by
 unfold Dk.read
 split
 ·simp
 ·split
  ·simp
  ·exact bytes_le S _
theorem readW_le (S : Dk) (n : Nm) : (C9 S n).1.length≤S.bulk:=by
 unfold C9
 split
 ·simp
 ·exact read_le S n
def lookG (b : List UInt8) : Option (List (List (List UInt8)) × Nat)→Int × Option (List (List (List UInt8)) × Nat × Nat)
 | none=>(52,none)
 | some x=>(0,some (x.1,x.2,b.length))
def C4 (S : Dk) (n : Nm) : Int × Option (List (List (List UInt8)) × Nat × Nat):=
 if (C9 S n).2≠0 then ((C9 S n).2,none) else lookG (C9 S n).1 (Co Ah ((C9 S n).1.length+1) (C9 S n).1 0)
theorem Lg.put2 (h : Lg B w F d l S L) (a b : Int) : Lg B ((w.setCell ⟨l,3,none⟩ (.int .i64 a)).setCell ⟨l,4,none⟩ (.int .i64 b)) F d l S { L with wh:=a,sz:=b }∧Chg (fun k=>k=l) w ((w.setCell ⟨l,3,none⟩ (.int .i64 a)).setCell ⟨l,4,none⟩ (.int .i64 b)):=by
 have hc : Chg (fun k=>k=l) w ((w.setCell ⟨l,3,none⟩ (.int .i64 a)).setCell ⟨l,4,none⟩ (.int .i64 b)):=((Chg.refl (fun k=>k=l) w).setCell (p:=⟨l,3,none⟩) (.inl rfl) _).setCell (p:=⟨l,4,none⟩) (.inl rfl) _
 exact ⟨⟨h.1.keep hc (fun k hk e=>h.2.2.1 (e ▸ hk)),Ax (Ax h.2.1 3 (.int .i64 a)) 4 (.int .i64 b),h.2.2⟩,hc⟩
theorem own_chg {X : Nat→Prop} {base size n : Nat} {e : TypeId} {v : Value} {xs : List Value} (h : w.ownsRow base e size v n xs) (hc : Chg X w w') (hX : ∀ k,base≤k→¬ X k) : w'.ownsRow base e size v n xs:=Bb h hc fun k hk=>hX k (h.lt k hk).1
theorem Gs.chg {X : Nat→Prop} {base : Nat} {v : Value} {gs : List (List (List UInt8))} (h : Gs w base v gs) (hc : Chg X w w') (hX : ∀ k,base≤k→¬ X k) : Gs w' base v gs:=by
 obtain ⟨vs,h1,h2⟩:=h
 exact ⟨vs,own_chg h1 hc hX,fun i x g hx hg=>own_chg (h2 i x g hx hg) hc hX⟩
def Looked (B : Nat) (w : World) (F : Nat→Prop) (d l : Nat) (S : Dk) (L : Lw) (w' : World) (v : Value) : Option (List (List (List UInt8)) × Nat × Nat)→Prop
 | none=>v = .slice none 0 0∧Bu B w F d l S.begun L w'
 | some x=>∃ F' b1,Lg B w' F' d l S.begun { L with wh:=(x.2.1 : Int),sz:=(x.2.2 : Int) }∧(∀ k,F' k→F k∨w.heap.size≤k)∧Chg (fun k=>F k∨k=l) w w'∧Gs w' b1 v x.1∧w.heap.size≤b1∧∀ k,F' k→k<b1
set_option maxRecDepth 20000 in
set_option maxHeartbeats 1600000 in
theorem look_lg (h : Lg B w F d l S L) (hB0 : 0<B) (hT : Bk w) (hb : S.bulk<1000000000) :
  Calls Tryz.prog 57 #[.pointer (some ⟨l,0,none⟩)] w fun e w'=>∃ v,e = .returned (.tuple #[v, .int .i64 (C4 S L.n).1])∧Looked B w F d l S L w' v (C4 S L.n).2:=by
 have hrd:=read_lg h (by omega)
 have hle:=readW_le S L.n
 have H:=Ab h
 have HT:=Ab hT
 clear h hT
 unfold C4
 generalize C9 S L.n=R at *
 obtain ⟨b,e0⟩:=R
 dsimp only at hrd hle ⊢
 by_cases he : e0≠0
 ·rw [if_pos he]
  have heb : (e0 == 0)=false:=by simp [he]
  clear he
  go_enter Tryz.func57,Tryz.ntmps57
  go_wp2_with fail
  refine hrd.mono ?_
  rintro e w1 ⟨v,F1,rfl,ho,hg1,hf1,hc1,hv1⟩
  go_wp2
  go_ret2
  exact ⟨_,rfl,rfl,F1,hg1,hf1,hc1.mono fun _ _ h=>.inl h⟩
 rw [if_neg he]
 obtain rfl : e0=0:=by simpa using he
 clear he
 generalize hG : Co Ah (b.length+1) b 0=G
 have HG:=Ab hG
 clear hG
 go_enter Tryz.func57,Tryz.ntmps57
 go_wp2_with fail
 refine hrd.mono ?_
 rintro e w1 ⟨v,F1,rfl,ho,hg1,hf1,hc1,hv1⟩
 have hbl : Below B w w1:=hc1.below (fun k hk=>(H.out.1.2.1 k hk).1) H.out.size
 have htg:=Pu w1 v b (Dd ho) (by omega) (HT.out.low hbl hB0)
 rw [HG.out] at htg
 obtain ⟨ao,cap,rfl,-⟩:=Ay ho
 clear ho hv1
 cases G with
 | none=>
  go_wp2_with fail
  refine htg.mono ?_
  rintro e w2 ⟨hb2,h2⟩
  have hc2 : Chg (fun _=>False) w1 w2:=(Chg.of_below hb2).mono fun k h1 h2=>by omega
  rcases h2 with ⟨-,rfl⟩ | ⟨gs,n,v',h2,-⟩
  ·go_wp2
   go_ret2
   exact ⟨_,rfl,rfl,F1,hg1.keep hc2 (fun _ _ h=>h) (fun h=>h),hf1,(hc1.mono fun _ _ h=>.inl h).trans hc2 (fun _ _ h=>h.elim)⟩
  ·cases h2
 | some x=>
  obtain ⟨gs,n⟩:=x
  go_wp2_with fail
  refine htg.mono ?_
  rintro e w2 ⟨hb2,h2⟩
  have hc2 : Chg (fun _=>False) w1 w2:=(Chg.of_below hb2).mono fun k h1 h2=>by omega
  rcases h2 with ⟨h2,-⟩ | ⟨gs,n,v',h2,hn1,hn2,rfl,hgs⟩
  ·cases h2
  ·injection h2 with h2
   injection h2 with h3 h4
   subst h3 h4
   have hg2:=hg1.keep hc2 (fun _ _ h=>h) (fun h=>h)
   obtain ⟨a3,c3,rfl,-⟩:=hgs.form
   have HGS:=Ab hgs
   have u1:=Au hg2.2.1 3
   have u2:=Ad hg2.2.1 3
   have u3:=Au (Ax hg2.2.1 3 (.int .i64 (n : Int))) 4
   have u4:=Ad (Ax hg2.2.1 3 (.int .i64 (n : Int))) 4
   obtain ⟨hg3,hc3⟩:=hg2.put2 (n : Int) (b.length : Int)
   have hlt:=hg1.lt
   clear hgs
   go_wp2
   go_ret2
   refine ⟨_,rfl,F1,w1.heap.size,hg3,hf1,?_,HGS.out.chg hc3 fun k hk e=>?_,hc1.size,fun k hk=>(hg1.1.2.1 k hk).2⟩
   ·exact ((hc1.mono fun _ _ h=>.inl h).trans hc2 (fun _ _ h=>h.elim)).trans hc3 (fun _ _ h=>.inr h)
   ·subst e; omega
set_option maxRecDepth 20000 in
theorem has_lg (h : Lg B w F d l S L) (k : Int) :
  Calls Tryz.prog 91 #[.pointer (some ⟨l,0,none⟩), .int .i64 k] w fun e w'=>e = .returned (.tuple #[])∧Lg B w' F d l S { L with wh:=k,sz:=k }∧Chg (fun x=>x=l) w w':=by
 have u1:=Au h.2.1 3
 have u2:=Ad h.2.1 3
 have u3:=Au (Ax h.2.1 3 (.int .i64 k)) 4
 have u4:=Ad (Ax h.2.1 3 (.int .i64 k)) 4
 have hp:=h.put2 k k
 clear h
 go_enter Tryz.func91,Tryz.ntmps91
 go_wp2
 exact ⟨rfl,_,results_none rfl _ _ _,rfl,hp⟩
set_option maxRecDepth 20000 in
theorem bytes_lg (h : Lg B w F d l S L) : Calls Tryz.prog 69 #[.pointer (some ⟨l,0,none⟩)] w fun e w'=>e = .returned (.int .i64 L.wh)∧w'=w:=by
 have u1:=Ad h.2.1 3
 clear h
 go_enter Tryz.func69,Tryz.ntmps69
 go_wp2
 go_ret
 exact ⟨rfl,rfl⟩
set_option maxRecDepth 20000 in
theorem append_nil (w : World) (v : Value) : Calls Tryz.prog 71 #[.pointer none,v] w fun e w'=>e = .returned (.int .i64 1)∧w'=w:=by
 go_enter Tryz.func71,Tryz.ntmps71
 go_wp2
 go_ret
 exact ⟨rfl,rfl⟩
end Go.Proofs.YtblniomnhpedjaaGreatDoor
namespace Go.Proofs.YtblniomnhpedjaaGreatDoor
open Go.RowKit
def Cc (n : Nm) : Bool:=decide (1≤n.length) && decide (n.length≤70) && n.all fun c=>decide (33≤c.toNat) && decide (c.toNat≤126)
theorem Nw {l : List UInt8} {k : Nat} (h : k<l.length) (hc : (l.getD k 0).toNat<33∨126<(l.getD k 0).toNat) : Cc l=false:=by
 have hin : l.getD k 0∈l:=by simp [List.getD,List.getElem?_eq_getElem h]
 cases hb : Cc l with
 | false=>rfl
 | true=>
  exfalso
  simp only [Cc,Bool.and_eq_true,decide_eq_true_eq,List.all_eq_true] at hb
  have:=hb.2 _ hin
  omega
theorem isLg_true {l : List UInt8} (h1 : 1≤l.length) (h2 : l.length≤70) (h : ∀ j,j<l.length→33≤(l.getD j 0).toNat∧(l.getD j 0).toNat≤126) : Cc l=true:=by
 simp only [Cc,Bool.and_eq_true,decide_eq_true_eq,List.all_eq_true]
 refine ⟨⟨h1,h2⟩,fun x hx=>?_⟩
 obtain ⟨j,hj,rfl⟩:=List.getElem_of_mem hx
 have:=h j hj
 simpa [List.getD,List.getElem?_eq_getElem hj] using this
theorem isLg_len {l : List UInt8} (h : Cc l=true) : 1≤l.length∧l.length≤70:=by
 simp only [Cc,Bool.and_eq_true,decide_eq_true_eq] at h
 exact h.1
set_option maxRecDepth 20000 in
theorem isLog_any (w : World) (l : List UInt8) :
  Calls Tryz.prog 55 #[.string (Ae l)] w fun e w'=>e = .returned (.bool (Cc l))∧w'=w:=by
 have hsz:=B8 l
 by_cases h1 : l.length<1
 ·have : Cc l=false:=by simp [Cc]; omega
  rw [this]
  go_enter Tryz.func55,Tryz.ntmps55
  go_wp2
  go_ret
  exact ⟨rfl,rfl⟩
 by_cases h2 : 70<l.length
 ·have : Cc l=false:=by simp [Cc]; omega
  rw [this]
  go_enter Tryz.func55,Tryz.ntmps55
  go_wp2
  go_ret
  exact ⟨rfl,rfl⟩
 go_enter Tryz.func55,Tryz.ntmps55
 go_wp2
 go_loop [14] (fun x=>∃ k : Nat,k≤l.length∧x = .int .i64 (k : Int)∧∀ j,j<k→33≤(l.getD j 0).toNat∧(l.getD j 0).toNat≤126) (fun x=>l.length - (intOf x).toNat)
 case atStart=>exact ⟨0,Nat.zero_le _,rfl,fun j hj=>absurd hj (Nat.not_lt_zero j)⟩
 case round=>
  obtain ⟨k,hk,rfl,hall⟩:=hrel
  by_cases hlt : k<l.length
  ·have hi:=index_str w l .i64 k hlt
   have hc:=(l.getD k 0).toNat_lt
   by_cases hlo : (l.getD k 0).toNat<33
   ·have hf:=Nw hlt (Or.inl hlo)
    have HF:=Ab hf
    clear hf
    generalize l.getD k 0=c at *
    go_wp2
    go_ret
    exact ⟨D2 HF.out.symm,rfl⟩
   by_cases hhi : 126<(l.getD k 0).toNat
   ·have hf:=Nw hlt (Or.inr hhi)
    have HF:=Ab hf
    clear hf
    generalize l.getD k 0=c at *
    go_wp2
    go_ret
    exact ⟨D2 HF.out.symm,rfl⟩
   have HK : Hid (33≤(l.getD k 0).toNat∧(l.getD k 0).toNat≤126):=⟨by omega,by omega⟩
   have HA:=Ab hall
   clear hall
   generalize hcc : l.getD k 0=c at *
   have HCC:=Ab hcc
   clear hcc
   go_wp2
   go_round
   case rel=>
    refine ⟨k+1,by omega,by go_num,fun j hj=>?_⟩
    by_cases e : j=k
    ·subst e; rw [HCC.out]; exact HK.out
    ·exact HA.out j (by omega)
   case measure=>simp [intOf]; omega
  ·have hkl : k=l.length:=by omega
   subst hkl
   have HF:=Ab (isLg_true (by omega) (by omega) hall)
   clear hall
   go_wp2
   go_ret
   exact ⟨D2 HF.out.symm,rfl⟩
end Go.Proofs.YtblniomnhpedjaaGreatDoor
namespace Go.Proofs.YtblniomnhpedjaaGreatDoor
open Go.RowKit
variable {B : Nat} {w w' : World} {F : Nat→Prop} {d l : Nat} {S : Dk} {L : Lw}
theorem Px (w : World) {base : Nat} {v x : Value} {a b : List UInt8} (ho : w.ownsRow base 5 1 v a.length (bc a)) (hs : Sl w x b) (hl : a.length+b.length≤140737488355328) (hB : base≤w.heap.size) (ty : TypeId) :
  ∃ v' w',(Builtin.append_ #[68,68] ty #[v,x]).run Tryz.prog w = .ok v' w'∧w'.ownsRow base 5 1 v' (a++b).length (bc (a++b))∧w.grownBy w' v.ownBlock∧(v'.ownBlock=v.ownBlock∨v'.ownBlock=some w.heap.size):=by
 obtain ⟨i0,hi,hz0,hz1,hz2⟩:=info_parts Tryz.infoB
 by_cases he : b = []
 ·subst he
  obtain ⟨ao,cap,rfl,h1,h2,h3,-⟩:=hs
  cases ao with
  | none=>
   obtain ⟨av,cv,rfl,c1,c2⟩:=Ay ho
   refine ⟨_,w,run_append_nothing w _ _ _ _ i0 Tryz.underlying68 hi av a.length cv c1 _ ?_,by simpa using ho,⟨rfl,rfl,rfl,Nat.le_refl _,fun _ _ _=>rfl⟩, .inl rfl⟩
   rw [hz1]
   exact Src.ofNil w Tryz.underlying68 cap
  | some ad=>
   obtain ⟨v',w',hr,hown,hg,_,hat⟩:=run_append_own_at (P:=Tryz.prog) w base 68 ty 5 i0 (.int .u8 0) 1 1 Tryz.underlying68 hi hz0 hz1 hz2 rfl (by decide) v a.length (bc a) ho ad 0 cap [] rfl (fun j u hu=>by cases hu) (fun u hu=>by cases hu) (by unfold maxLen; simp at hl; omega) (by simp at hl; omega) hB
   exact ⟨v',w',hr,by simpa using hown,hg,hat⟩
 ·obtain ⟨g,off,cap,rfl,hg,hc⟩:=hs.some he
  obtain ⟨v',w',hr,hown,hg,_,hat⟩:=run_append_own_at (P:=Tryz.prog) w base 68 ty 5 i0 (.int .u8 0) 1 1 Tryz.underlying68 hi hz0 hz1 hz2 rfl (by decide) v a.length (bc a) ho ⟨g,off,none⟩ b.length cap (bc b) (by rw [Cv,Nat.mul_one]) (fun j u hu=>by rw [Addr.add_lit]; exact hc j u hu) (E4 b) (by unfold maxLen; omega) (by omega) hB
  exact ⟨v',w',hr,by rw [Fa,List.length_append]; exact hown,hg,hat⟩
def Fu (r : List UInt8 × Int) (S : Dk) (n : Nm) (sure : Bool) (b : List UInt8) : Dk × Bool × Int:=if r.2≠0 then (S,sure,r.2) else Cs S n sure (r.1++b)
def putW (S : Dk) (L : Lw) (b : List UInt8) : Dk × Bool × Int:=
 if L.wh=0 then Cs S L.n L.sure b else if L.wh=L.sz then Cb S L.n L.sure b else Fu (S.readAt L.n 0 L.wh) S.begun L.n L.sure b
theorem Fh (S : Dk) : S.begun.bulk≤S.bulk+1:=bulk_bg
theorem readAt_le (S : Dk) (n : Nm) (a k : Int) : (S.readAt n a k).1.length≤S.bulk:=by
 unfold Dk.readAt
 split
 ·simp
 ·split
  ·simp
  ·split
   ·simp
   ·have:=bytes_le S (by assumption)
    simp only [List.length_take,List.length_drop]
    omega
set_option maxRecDepth 20000 in
set_option maxHeartbeats 1600000 in
theorem put_lg (h : Lg B w F d l S L) {v : Value} {b : List UInt8} (hv : Eb w F l v b) (hb : 2 * S.bulk+b.length+40<1099511627776) (hwh : -9223372036854775808≤L.wh∧L.wh≤9223372036854775807) :
  Calls Tryz.prog 90 #[.pointer (some ⟨l,0,none⟩),v] w fun e w'=>e = .returned (.int .i64 (putW S L b).2.2)∧Bu B w F d l (putW S L b).1 { L with sure:=(putW S L b).2.1 } w':=by
 have hrp:=Jk h hv (by omega)
 have hex:=extend_lg h.drew hv.drew (by omega)
 have hbg:=beginning_lg h.drew.drew L.wh hwh (by omega)
 have hrl:=readAt_le S L.n 0 L.wh
 have x3:=Ad h.2.1 3
 have x4:=Ad h.2.1 4
 have hbb:=Fh S
 have H:=Ab h
 have HV:=Ab hv
 clear h hv
 obtain ⟨n,s,wh,sz⟩:=L
 dsimp only at *
 unfold putW
 dsimp only
 by_cases h0 : wh=0
 ·rw [if_pos h0]
  have hz : (wh == 0)=true:=by simp [h0]
  clear h0 hbg hex hrl
  generalize Cs S n s b=R at *
  go_enter Tryz.func90,Tryz.ntmps90
  go_wp2_with fail
  refine hrp.mono ?_
  rintro e w1 ⟨rfl,ha⟩
  go_wp2
  go_ret
  exact ⟨rfl,ha⟩
 rw [if_neg h0]
 have hz : (wh == 0)=false:=by simp [h0]
 clear h0 hrp
 by_cases h1 : wh=sz
 ·rw [if_pos h1]
  have hy : (wh == sz)=true:=by simp [h1]
  clear h1 hbg hrl
  generalize Cb S n s b=R at *
  go_enter Tryz.func90,Tryz.ntmps90
  go_wp2
  refine wp_region_held_drew (S:=fun W=>W.cell? ⟨l,3,none⟩=some (.int .i64 wh)∧W.cell? ⟨l,4,none⟩=some (.int .i64 sz)) (by kernel_rfl) (⟨x3,x4⟩) (fun hHeld=>?_)
  refine Aa (i:=0) (v:=?_) rfl (by kernel_rfl) (by kernel_rfl) (by kernel_rfl) (fun _ _ _ h=>h) rfl ?_ hHeld ?_
  rotate_left
  ·intro w hS; (try dsimp only at hS); obtain ⟨hS0,hS1⟩:=hS; go_simp; first | done | (with_reducible rfl)
  try simp only [Act.put,List.setIfInBounds_toArray,List.set_cons_zero,List.set_cons_succ]
  refine Aa (i:=1) (v:=?_) rfl (by kernel_rfl) (by kernel_rfl) (by kernel_rfl) (fun _ _ _ h=>h) rfl ?_ hHeld ?_
  rotate_left
  ·intro w hS; (try dsimp only at hS); obtain ⟨hS0,hS1⟩:=hS; go_simp; first | done | (with_reducible rfl)
  try simp only [Act.put,List.setIfInBounds_toArray,List.set_cons_zero,List.set_cons_succ]
  refine Aa (i:=2) (v:=?_) rfl (by kernel_rfl) (by kernel_rfl) (by kernel_rfl) (fun _ _ _ h=>h) rfl ?_ hHeld ?_
  rotate_left
  ·intro w hS; (try dsimp only at hS); obtain ⟨hS0,hS1⟩:=hS; go_simp; first | done | (with_reducible rfl)
  try simp only [Act.put,List.setIfInBounds_toArray,List.set_cons_zero,List.set_cons_succ]
  refine Aa (i:=3) (v:=?_) rfl (by kernel_rfl) (by kernel_rfl) (by kernel_rfl) (fun _ _ _ h=>h) rfl ?_ hHeld ?_
  rotate_left
  ·intro w hS; (try dsimp only at hS); obtain ⟨hS0,hS1⟩:=hS; go_simp; first | done | (with_reducible rfl)
  try simp only [Act.put,List.setIfInBounds_toArray,List.set_cons_zero,List.set_cons_succ]
  refine Aa (i:=4) (v:=?_) rfl (by kernel_rfl) (by kernel_rfl) (by kernel_rfl) (fun _ _ _ h=>h) rfl ?_ hHeld ?_
  rotate_left
  ·intro w hS; (try dsimp only at hS); obtain ⟨hS0,hS1⟩:=hS; go_simp; first | done | (with_reducible rfl)
  try simp only [Act.put,List.setIfInBounds_toArray,List.set_cons_zero,List.set_cons_succ]
  refine Aa (i:=5) (v:=?_) rfl (by kernel_rfl) (by kernel_rfl) (by kernel_rfl) (fun _ _ _ h=>h) rfl ?_ hHeld ?_
  rotate_left
  ·intro w hS; (try dsimp only at hS); obtain ⟨hS0,hS1⟩:=hS; go_simp; first | done | (with_reducible rfl)
  try simp only [Act.put,List.setIfInBounds_toArray,List.set_cons_zero,List.set_cons_succ]
  refine Aa (i:=6) (v:=?_) rfl (by kernel_rfl) (by kernel_rfl) (by kernel_rfl) (fun _ _ _ h=>h) rfl ?_ hHeld ?_
  rotate_left
  ·intro w hS; (try dsimp only at hS); obtain ⟨hS0,hS1⟩:=hS; go_simp; first | done | (with_reducible rfl)
  try simp only [Act.put,List.setIfInBounds_toArray,List.set_cons_zero,List.set_cons_succ]
  refine Aa (i:=7) (v:=?_) rfl (by kernel_rfl) (by kernel_rfl) (by kernel_rfl) (fun _ _ _ h=>h) rfl ?_ hHeld ?_
  rotate_left
  ·intro w hS; (try dsimp only at hS); obtain ⟨hS0,hS1⟩:=hS; go_simp; first | done | (with_reducible rfl)
  try simp only [Act.put,List.setIfInBounds_toArray,List.set_cons_zero,List.set_cons_succ]
  refine Aa (i:=8) (v:=?_) rfl (by kernel_rfl) (by kernel_rfl) (by kernel_rfl) (fun _ _ _ h=>h) rfl ?_ hHeld ?_
  rotate_left
  ·intro w hS; (try dsimp only at hS); obtain ⟨hS0,hS1⟩:=hS; go_simp; first | done | (with_reducible rfl)
  try simp only [Act.put,List.setIfInBounds_toArray,List.set_cons_zero,List.set_cons_succ]
  refine Aa (i:=9) (v:=?_) rfl (by kernel_rfl) (by kernel_rfl) (by kernel_rfl) (fun _ _ _ h=>h) rfl ?_ hHeld ?_
  rotate_left
  ·intro w hS; (try dsimp only at hS); obtain ⟨hS0,hS1⟩:=hS; go_simp; first | done | (with_reducible rfl)
  try simp only [Act.put,List.setIfInBounds_toArray,List.set_cons_zero,List.set_cons_succ]
  refine wpAnyH_done (by kernel_rfl) ?_ _
  clear hHeld
  go_wp2_with fail
  refine hex.mono ?_
  rintro e w1 ⟨rfl,ha⟩
  go_wp2
  go_ret
  exact ⟨rfl,ha.drewn⟩
 rw [if_neg h1]
 have hy : (wh == sz)=false:=by simp [h1]
 clear h1 hex
 unfold Fu
 generalize S.readAt n 0 wh=R at *
 obtain ⟨r,e0⟩:=R
 dsimp only at hbg hrl ⊢
 by_cases he : e0≠0
 ·rw [if_pos he]
  have heb : (e0 == 0)=false:=by simp [he]
  clear he
  go_enter Tryz.func90,Tryz.ntmps90
  go_wp2
  refine wp_region_held_drew (S:=fun W=>W.cell? ⟨l,3,none⟩=some (.int .i64 wh)∧W.cell? ⟨l,4,none⟩=some (.int .i64 sz)) (by kernel_rfl) (⟨x3,x4⟩) (fun hHeld=>?_)
  refine Aa (i:=0) (v:=?_) rfl (by kernel_rfl) (by kernel_rfl) (by kernel_rfl) (fun _ _ _ h=>h) rfl ?_ hHeld ?_
  rotate_left
  ·intro w hS; (try dsimp only at hS); obtain ⟨hS0,hS1⟩:=hS; go_simp; first | done | (with_reducible rfl)
  try simp only [Act.put,List.setIfInBounds_toArray,List.set_cons_zero,List.set_cons_succ]
  refine Aa (i:=1) (v:=?_) rfl (by kernel_rfl) (by kernel_rfl) (by kernel_rfl) (fun _ _ _ h=>h) rfl ?_ hHeld ?_
  rotate_left
  ·intro w hS; (try dsimp only at hS); obtain ⟨hS0,hS1⟩:=hS; go_simp; first | done | (with_reducible rfl)
  try simp only [Act.put,List.setIfInBounds_toArray,List.set_cons_zero,List.set_cons_succ]
  refine Aa (i:=2) (v:=?_) rfl (by kernel_rfl) (by kernel_rfl) (by kernel_rfl) (fun _ _ _ h=>h) rfl ?_ hHeld ?_
  rotate_left
  ·intro w hS; (try dsimp only at hS); obtain ⟨hS0,hS1⟩:=hS; go_simp; first | done | (with_reducible rfl)
  try simp only [Act.put,List.setIfInBounds_toArray,List.set_cons_zero,List.set_cons_succ]
  refine Aa (i:=3) (v:=?_) rfl (by kernel_rfl) (by kernel_rfl) (by kernel_rfl) (fun _ _ _ h=>h) rfl ?_ hHeld ?_
  rotate_left
  ·intro w hS; (try dsimp only at hS); obtain ⟨hS0,hS1⟩:=hS; go_simp; first | done | (with_reducible rfl)
  try simp only [Act.put,List.setIfInBounds_toArray,List.set_cons_zero,List.set_cons_succ]
  refine Aa (i:=4) (v:=?_) rfl (by kernel_rfl) (by kernel_rfl) (by kernel_rfl) (fun _ _ _ h=>h) rfl ?_ hHeld ?_
  rotate_left
  ·intro w hS; (try dsimp only at hS); obtain ⟨hS0,hS1⟩:=hS; go_simp; first | done | (with_reducible rfl)
  try simp only [Act.put,List.setIfInBounds_toArray,List.set_cons_zero,List.set_cons_succ]
  refine Aa (i:=5) (v:=?_) rfl (by kernel_rfl) (by kernel_rfl) (by kernel_rfl) (fun _ _ _ h=>h) rfl ?_ hHeld ?_
  rotate_left
  ·intro w hS; (try dsimp only at hS); obtain ⟨hS0,hS1⟩:=hS; go_simp; first | done | (with_reducible rfl)
  try simp only [Act.put,List.setIfInBounds_toArray,List.set_cons_zero,List.set_cons_succ]
  refine Aa (i:=6) (v:=?_) rfl (by kernel_rfl) (by kernel_rfl) (by kernel_rfl) (fun _ _ _ h=>h) rfl ?_ hHeld ?_
  rotate_left
  ·intro w hS; (try dsimp only at hS); obtain ⟨hS0,hS1⟩:=hS; go_simp; first | done | (with_reducible rfl)
  try simp only [Act.put,List.setIfInBounds_toArray,List.set_cons_zero,List.set_cons_succ]
  refine Aa (i:=7) (v:=?_) rfl (by kernel_rfl) (by kernel_rfl) (by kernel_rfl) (fun _ _ _ h=>h) rfl ?_ hHeld ?_
  rotate_left
  ·intro w hS; (try dsimp only at hS); obtain ⟨hS0,hS1⟩:=hS; go_simp; first | done | (with_reducible rfl)
  try simp only [Act.put,List.setIfInBounds_toArray,List.set_cons_zero,List.set_cons_succ]
  refine Aa (i:=8) (v:=?_) rfl (by kernel_rfl) (by kernel_rfl) (by kernel_rfl) (fun _ _ _ h=>h) rfl ?_ hHeld ?_
  rotate_left
  ·intro w hS; (try dsimp only at hS); obtain ⟨hS0,hS1⟩:=hS; go_simp; first | done | (with_reducible rfl)
  try simp only [Act.put,List.setIfInBounds_toArray,List.set_cons_zero,List.set_cons_succ]
  refine Aa (i:=9) (v:=?_) rfl (by kernel_rfl) (by kernel_rfl) (by kernel_rfl) (fun _ _ _ h=>h) rfl ?_ hHeld ?_
  rotate_left
  ·intro w hS; (try dsimp only at hS); obtain ⟨hS0,hS1⟩:=hS; go_simp; first | done | (with_reducible rfl)
  try simp only [Act.put,List.setIfInBounds_toArray,List.set_cons_zero,List.set_cons_succ]
  refine wpAnyH_done (by kernel_rfl) ?_ _
  clear hHeld
  go_wp2
  refine wp_region_held_drew (S:=fun W=>W.cell? ⟨l,3,none⟩=some (.int .i64 wh)) (by kernel_rfl) (x3) (fun hHeld=>?_)
  refine Aa (i:=0) (v:=?_) rfl (by kernel_rfl) (by kernel_rfl) (by kernel_rfl) (fun _ _ _ h=>h) rfl ?_ hHeld ?_
  rotate_left
  ·intro w hS; (try dsimp only at hS); obtain hS0:=hS; go_simp; first | done | (with_reducible rfl)
  try simp only [Act.put,List.setIfInBounds_toArray,List.set_cons_zero,List.set_cons_succ]
  refine Aa (i:=1) (v:=?_) rfl (by kernel_rfl) (by kernel_rfl) (by kernel_rfl) (fun _ _ _ h=>h) rfl ?_ hHeld ?_
  rotate_left
  ·intro w hS; (try dsimp only at hS); obtain hS0:=hS; go_simp; first | done | (with_reducible rfl)
  try simp only [Act.put,List.setIfInBounds_toArray,List.set_cons_zero,List.set_cons_succ]
  refine Aa (i:=2) (v:=?_) rfl (by kernel_rfl) (by kernel_rfl) (by kernel_rfl) (fun _ _ _ h=>h) rfl ?_ hHeld ?_
  rotate_left
  ·intro w hS; (try dsimp only at hS); obtain hS0:=hS; go_simp; first | done | (with_reducible rfl)
  try simp only [Act.put,List.setIfInBounds_toArray,List.set_cons_zero,List.set_cons_succ]
  refine Aa (i:=3) (v:=?_) rfl (by kernel_rfl) (by kernel_rfl) (by kernel_rfl) (fun _ _ _ h=>h) rfl ?_ hHeld ?_
  rotate_left
  ·intro w hS; (try dsimp only at hS); obtain hS0:=hS; go_simp; first | done | (with_reducible rfl)
  try simp only [Act.put,List.setIfInBounds_toArray,List.set_cons_zero,List.set_cons_succ]
  refine Aa (i:=4) (v:=?_) rfl (by kernel_rfl) (by kernel_rfl) (by kernel_rfl) (fun _ _ _ h=>h) rfl ?_ hHeld ?_
  rotate_left
  ·intro w hS; (try dsimp only at hS); obtain hS0:=hS; go_simp; first | done | (with_reducible rfl)
  try simp only [Act.put,List.setIfInBounds_toArray,List.set_cons_zero,List.set_cons_succ]
  refine Aa (i:=5) (v:=?_) rfl (by kernel_rfl) (by kernel_rfl) (by kernel_rfl) (fun _ _ _ h=>h) rfl ?_ hHeld ?_
  rotate_left
  ·intro w hS; (try dsimp only at hS); obtain hS0:=hS; go_simp; first | done | (with_reducible rfl)
  try simp only [Act.put,List.setIfInBounds_toArray,List.set_cons_zero,List.set_cons_succ]
  refine Aa (i:=6) (v:=?_) rfl (by kernel_rfl) (by kernel_rfl) (by kernel_rfl) (fun _ _ _ h=>h) rfl ?_ hHeld ?_
  rotate_left
  ·intro w hS; (try dsimp only at hS); obtain hS0:=hS; go_simp; first | done | (with_reducible rfl)
  try simp only [Act.put,List.setIfInBounds_toArray,List.set_cons_zero,List.set_cons_succ]
  refine An (i:=7) rfl (by kernel_rfl) rfl (fun K hK=>?_)
  go_simp
  refine hbg.mono ?_
  rintro e w1 ⟨vb,F1,rfl,ho,hg1,hf1,hc1,hv1⟩
  have y3:=Ad hg1.2.1 3
  refine hK.out _ _ (y3) (fun hHeld=>?_)
  clear hK K
  try simp only [Act.put,List.setIfInBounds_toArray,List.set_cons_zero,List.set_cons_succ]
  refine Aa (i:=8) (v:=?_) rfl (by kernel_rfl) (by kernel_rfl) (by kernel_rfl) (fun _ _ _ h=>h) rfl ?_ hHeld ?_
  rotate_left
  ·intro w hS; (try dsimp only at hS); obtain hS0:=hS; go_simp; first | done | (with_reducible rfl)
  try simp only [Act.put,List.setIfInBounds_toArray,List.set_cons_zero,List.set_cons_succ]
  refine Aa (i:=9) (v:=?_) rfl (by kernel_rfl) (by kernel_rfl) (by kernel_rfl) (fun _ _ _ h=>h) rfl ?_ hHeld ?_
  rotate_left
  ·intro w hS; (try dsimp only at hS); obtain hS0:=hS; go_simp; first | done | (with_reducible rfl)
  try simp only [Act.put,List.setIfInBounds_toArray,List.set_cons_zero,List.set_cons_succ]
  refine Aa (i:=10) (v:=?_) rfl (by kernel_rfl) (by kernel_rfl) (by kernel_rfl) (fun _ _ _ h=>h) rfl ?_ hHeld ?_
  rotate_left
  ·intro w hS; (try dsimp only at hS); obtain hS0:=hS; go_simp; first | done | (with_reducible rfl)
  try simp only [Act.put,List.setIfInBounds_toArray,List.set_cons_zero,List.set_cons_succ]
  refine Aa (i:=11) (v:=?_) rfl (by kernel_rfl) (by kernel_rfl) (by kernel_rfl) (fun _ _ _ h=>h) rfl ?_ hHeld ?_
  rotate_left
  ·intro w hS; (try dsimp only at hS); obtain hS0:=hS; go_simp; first | done | (with_reducible rfl)
  try simp only [Act.put,List.setIfInBounds_toArray,List.set_cons_zero,List.set_cons_succ]
  refine Aa (i:=12) (v:=?_) rfl (by kernel_rfl) (by kernel_rfl) (by kernel_rfl) (fun _ _ _ h=>h) rfl ?_ hHeld ?_
  rotate_left
  ·intro w hS; (try dsimp only at hS); obtain hS0:=hS; go_simp; first | done | (with_reducible rfl)
  try simp only [Act.put,List.setIfInBounds_toArray,List.set_cons_zero,List.set_cons_succ]
  refine wpAnyH_done (by kernel_rfl) ?_ _
  clear hHeld
  go_wp2
  go_ret
  exact ⟨rfl,F1,hg1,hf1,(hc1.mono fun _ _ h=>.inl h).undrew.undrew⟩
 ·rw [if_neg he]
  obtain rfl : e0=0:=by simpa using he
  clear he
  go_enter Tryz.func90,Tryz.ntmps90
  go_wp2
  refine wp_region_held_drew (S:=fun W=>W.cell? ⟨l,3,none⟩=some (.int .i64 wh)∧W.cell? ⟨l,4,none⟩=some (.int .i64 sz)) (by kernel_rfl) (⟨x3,x4⟩) (fun hHeld=>?_)
  refine Aa (i:=0) (v:=?_) rfl (by kernel_rfl) (by kernel_rfl) (by kernel_rfl) (fun _ _ _ h=>h) rfl ?_ hHeld ?_
  rotate_left
  ·intro w hS; (try dsimp only at hS); obtain ⟨hS0,hS1⟩:=hS; go_simp; first | done | (with_reducible rfl)
  try simp only [Act.put,List.setIfInBounds_toArray,List.set_cons_zero,List.set_cons_succ]
  refine Aa (i:=1) (v:=?_) rfl (by kernel_rfl) (by kernel_rfl) (by kernel_rfl) (fun _ _ _ h=>h) rfl ?_ hHeld ?_
  rotate_left
  ·intro w hS; (try dsimp only at hS); obtain ⟨hS0,hS1⟩:=hS; go_simp; first | done | (with_reducible rfl)
  try simp only [Act.put,List.setIfInBounds_toArray,List.set_cons_zero,List.set_cons_succ]
  refine Aa (i:=2) (v:=?_) rfl (by kernel_rfl) (by kernel_rfl) (by kernel_rfl) (fun _ _ _ h=>h) rfl ?_ hHeld ?_
  rotate_left
  ·intro w hS; (try dsimp only at hS); obtain ⟨hS0,hS1⟩:=hS; go_simp; first | done | (with_reducible rfl)
  try simp only [Act.put,List.setIfInBounds_toArray,List.set_cons_zero,List.set_cons_succ]
  refine Aa (i:=3) (v:=?_) rfl (by kernel_rfl) (by kernel_rfl) (by kernel_rfl) (fun _ _ _ h=>h) rfl ?_ hHeld ?_
  rotate_left
  ·intro w hS; (try dsimp only at hS); obtain ⟨hS0,hS1⟩:=hS; go_simp; first | done | (with_reducible rfl)
  try simp only [Act.put,List.setIfInBounds_toArray,List.set_cons_zero,List.set_cons_succ]
  refine Aa (i:=4) (v:=?_) rfl (by kernel_rfl) (by kernel_rfl) (by kernel_rfl) (fun _ _ _ h=>h) rfl ?_ hHeld ?_
  rotate_left
  ·intro w hS; (try dsimp only at hS); obtain ⟨hS0,hS1⟩:=hS; go_simp; first | done | (with_reducible rfl)
  try simp only [Act.put,List.setIfInBounds_toArray,List.set_cons_zero,List.set_cons_succ]
  refine Aa (i:=5) (v:=?_) rfl (by kernel_rfl) (by kernel_rfl) (by kernel_rfl) (fun _ _ _ h=>h) rfl ?_ hHeld ?_
  rotate_left
  ·intro w hS; (try dsimp only at hS); obtain ⟨hS0,hS1⟩:=hS; go_simp; first | done | (with_reducible rfl)
  try simp only [Act.put,List.setIfInBounds_toArray,List.set_cons_zero,List.set_cons_succ]
  refine Aa (i:=6) (v:=?_) rfl (by kernel_rfl) (by kernel_rfl) (by kernel_rfl) (fun _ _ _ h=>h) rfl ?_ hHeld ?_
  rotate_left
  ·intro w hS; (try dsimp only at hS); obtain ⟨hS0,hS1⟩:=hS; go_simp; first | done | (with_reducible rfl)
  try simp only [Act.put,List.setIfInBounds_toArray,List.set_cons_zero,List.set_cons_succ]
  refine Aa (i:=7) (v:=?_) rfl (by kernel_rfl) (by kernel_rfl) (by kernel_rfl) (fun _ _ _ h=>h) rfl ?_ hHeld ?_
  rotate_left
  ·intro w hS; (try dsimp only at hS); obtain ⟨hS0,hS1⟩:=hS; go_simp; first | done | (with_reducible rfl)
  try simp only [Act.put,List.setIfInBounds_toArray,List.set_cons_zero,List.set_cons_succ]
  refine Aa (i:=8) (v:=?_) rfl (by kernel_rfl) (by kernel_rfl) (by kernel_rfl) (fun _ _ _ h=>h) rfl ?_ hHeld ?_
  rotate_left
  ·intro w hS; (try dsimp only at hS); obtain ⟨hS0,hS1⟩:=hS; go_simp; first | done | (with_reducible rfl)
  try simp only [Act.put,List.setIfInBounds_toArray,List.set_cons_zero,List.set_cons_succ]
  refine Aa (i:=9) (v:=?_) rfl (by kernel_rfl) (by kernel_rfl) (by kernel_rfl) (fun _ _ _ h=>h) rfl ?_ hHeld ?_
  rotate_left
  ·intro w hS; (try dsimp only at hS); obtain ⟨hS0,hS1⟩:=hS; go_simp; first | done | (with_reducible rfl)
  try simp only [Act.put,List.setIfInBounds_toArray,List.set_cons_zero,List.set_cons_succ]
  refine wpAnyH_done (by kernel_rfl) ?_ _
  clear hHeld
  go_wp2
  refine wp_region_held_drew (S:=fun W=>W.cell? ⟨l,3,none⟩=some (.int .i64 wh)) (by kernel_rfl) (x3) (fun hHeld=>?_)
  refine Aa (i:=0) (v:=?_) rfl (by kernel_rfl) (by kernel_rfl) (by kernel_rfl) (fun _ _ _ h=>h) rfl ?_ hHeld ?_
  rotate_left
  ·intro w hS; (try dsimp only at hS); obtain hS0:=hS; go_simp; first | done | (with_reducible rfl)
  try simp only [Act.put,List.setIfInBounds_toArray,List.set_cons_zero,List.set_cons_succ]
  refine Aa (i:=1) (v:=?_) rfl (by kernel_rfl) (by kernel_rfl) (by kernel_rfl) (fun _ _ _ h=>h) rfl ?_ hHeld ?_
  rotate_left
  ·intro w hS; (try dsimp only at hS); obtain hS0:=hS; go_simp; first | done | (with_reducible rfl)
  try simp only [Act.put,List.setIfInBounds_toArray,List.set_cons_zero,List.set_cons_succ]
  refine Aa (i:=2) (v:=?_) rfl (by kernel_rfl) (by kernel_rfl) (by kernel_rfl) (fun _ _ _ h=>h) rfl ?_ hHeld ?_
  rotate_left
  ·intro w hS; (try dsimp only at hS); obtain hS0:=hS; go_simp; first | done | (with_reducible rfl)
  try simp only [Act.put,List.setIfInBounds_toArray,List.set_cons_zero,List.set_cons_succ]
  refine Aa (i:=3) (v:=?_) rfl (by kernel_rfl) (by kernel_rfl) (by kernel_rfl) (fun _ _ _ h=>h) rfl ?_ hHeld ?_
  rotate_left
  ·intro w hS; (try dsimp only at hS); obtain hS0:=hS; go_simp; first | done | (with_reducible rfl)
  try simp only [Act.put,List.setIfInBounds_toArray,List.set_cons_zero,List.set_cons_succ]
  refine Aa (i:=4) (v:=?_) rfl (by kernel_rfl) (by kernel_rfl) (by kernel_rfl) (fun _ _ _ h=>h) rfl ?_ hHeld ?_
  rotate_left
  ·intro w hS; (try dsimp only at hS); obtain hS0:=hS; go_simp; first | done | (with_reducible rfl)
  try simp only [Act.put,List.setIfInBounds_toArray,List.set_cons_zero,List.set_cons_succ]
  refine Aa (i:=5) (v:=?_) rfl (by kernel_rfl) (by kernel_rfl) (by kernel_rfl) (fun _ _ _ h=>h) rfl ?_ hHeld ?_
  rotate_left
  ·intro w hS; (try dsimp only at hS); obtain hS0:=hS; go_simp; first | done | (with_reducible rfl)
  try simp only [Act.put,List.setIfInBounds_toArray,List.set_cons_zero,List.set_cons_succ]
  refine Aa (i:=6) (v:=?_) rfl (by kernel_rfl) (by kernel_rfl) (by kernel_rfl) (fun _ _ _ h=>h) rfl ?_ hHeld ?_
  rotate_left
  ·intro w hS; (try dsimp only at hS); obtain hS0:=hS; go_simp; first | done | (with_reducible rfl)
  try simp only [Act.put,List.setIfInBounds_toArray,List.set_cons_zero,List.set_cons_succ]
  refine An (i:=7) rfl (by kernel_rfl) rfl (fun K hK=>?_)
  go_simp
  refine hbg.mono ?_
  rintro e w1 ⟨vb,F1,rfl,ho,hg1,hf1,hc1,hv1⟩
  have y3:=Ad hg1.2.1 3
  refine hK.out _ _ (y3) (fun hHeld=>?_)
  clear hK K
  try simp only [Act.put,List.setIfInBounds_toArray,List.set_cons_zero,List.set_cons_succ]
  refine Aa (i:=8) (v:=?_) rfl (by kernel_rfl) (by kernel_rfl) (by kernel_rfl) (fun _ _ _ h=>h) rfl ?_ hHeld ?_
  rotate_left
  ·intro w hS; (try dsimp only at hS); obtain hS0:=hS; go_simp; first | done | (with_reducible rfl)
  try simp only [Act.put,List.setIfInBounds_toArray,List.set_cons_zero,List.set_cons_succ]
  refine Aa (i:=9) (v:=?_) rfl (by kernel_rfl) (by kernel_rfl) (by kernel_rfl) (fun _ _ _ h=>h) rfl ?_ hHeld ?_
  rotate_left
  ·intro w hS; (try dsimp only at hS); obtain hS0:=hS; go_simp; first | done | (with_reducible rfl)
  try simp only [Act.put,List.setIfInBounds_toArray,List.set_cons_zero,List.set_cons_succ]
  refine Aa (i:=10) (v:=?_) rfl (by kernel_rfl) (by kernel_rfl) (by kernel_rfl) (fun _ _ _ h=>h) rfl ?_ hHeld ?_
  rotate_left
  ·intro w hS; (try dsimp only at hS); obtain hS0:=hS; go_simp; first | done | (with_reducible rfl)
  try simp only [Act.put,List.setIfInBounds_toArray,List.set_cons_zero,List.set_cons_succ]
  refine Aa (i:=11) (v:=?_) rfl (by kernel_rfl) (by kernel_rfl) (by kernel_rfl) (fun _ _ _ h=>h) rfl ?_ hHeld ?_
  rotate_left
  ·intro w hS; (try dsimp only at hS); obtain hS0:=hS; go_simp; first | done | (with_reducible rfl)
  try simp only [Act.put,List.setIfInBounds_toArray,List.set_cons_zero,List.set_cons_succ]
  refine Aa (i:=12) (v:=?_) rfl (by kernel_rfl) (by kernel_rfl) (by kernel_rfl) (fun _ _ _ h=>h) rfl ?_ hHeld ?_
  rotate_left
  ·intro w hS; (try dsimp only at hS); obtain hS0:=hS; go_simp; first | done | (with_reducible rfl)
  try simp only [Act.put,List.setIfInBounds_toArray,List.set_cons_zero,List.set_cons_succ]
  refine wpAnyH_done (by kernel_rfl) ?_ _
  clear hHeld
  have hc1' : Chg (fun k=>F k∨k=l) w w1:=(hc1.mono fun _ _ h=>.inl h).undrew.undrew
  have hbs:=(HV.out.keep hf1 hc1').drew
  have hsz1:=hc1.size
  have hlt:=H.out.lt
  obtain ⟨v2,w2,hrun,hown,hgr,hat⟩:=Px w1.drew (show w1.drew.ownsRow w.heap.size 5 1 vb r.length (bc r) from ho) hbs.1 (by omega) (show w.heap.size≤w1.heap.size from hsz1) 68
  have hc2 : Chg (fun k=>some k=vb.ownBlock) w1.drew w2:=Chg.of_grown hgr
  have hnl : vb.ownBlock≠some l:=fun e=>by have:=(ho.lt l e).1; simp at this; omega
  have hg2 : Lg B w2 F1 d l S.begun ⟨n,s,wh,sz⟩:=hg1.drew.keep hc2 (fun k hk e=>hv1 k e.symm hk) (fun e=>hnl e.symm)
  have hc2' : Chg (fun k=>F k∨k=l) w w2:=hc1'.drew.trans hc2 fun i hi e=>by
   have:=(ho.lt i e.symm).1
   simp at this
   omega
  have hB2 : Eb w2 F1 l v2 (r++b):=by
   refine ⟨Dd hown,fun g hg=>?_⟩
   have hlg:=hown.lt g hg
   refine ⟨fun hf=>?_,fun e=>by subst e; omega,hlg.2⟩
   rcases hat with hat | hat
   ·rw [hat] at hg
    exact hv1 g hg hf
   ·rw [hat] at hg
    injection hg with hg
    have hfl:=(hg1.1.2.1 g hf).2
    have hsd : w1.drew.heap.size=w1.heap.size:=rfl
    omega
  have hrp:=Jk hg2 hB2 (by rw [List.length_append]; omega)
  dsimp only at hrp
  go_wp2
  refine wp_region_held_drew (S:=fun _=>True) (by kernel_rfl) (trivial) (fun hHeld=>?_)
  refine Aa (i:=0) (v:=?_) rfl (by kernel_rfl) (by kernel_rfl) (by kernel_rfl) (fun _ _ _ h=>h) rfl ?_ hHeld ?_
  rotate_left
  ·intro w _; go_simp; first | done | (with_reducible rfl)
  try simp only [Act.put,List.setIfInBounds_toArray,List.set_cons_zero,List.set_cons_succ]
  refine Aa (i:=1) (v:=?_) rfl (by kernel_rfl) (by kernel_rfl) (by kernel_rfl) (fun _ _ _ h=>h) rfl ?_ hHeld ?_
  rotate_left
  ·intro w _; go_simp; first | done | (with_reducible rfl)
  try simp only [Act.put,List.setIfInBounds_toArray,List.set_cons_zero,List.set_cons_succ]
  refine Aa (i:=2) (v:=?_) rfl (by kernel_rfl) (by kernel_rfl) (by kernel_rfl) (fun _ _ _ h=>h) rfl ?_ hHeld ?_
  rotate_left
  ·intro w _; go_simp; first | done | (with_reducible rfl)
  try simp only [Act.put,List.setIfInBounds_toArray,List.set_cons_zero,List.set_cons_succ]
  refine Aa (i:=3) (v:=?_) rfl (by kernel_rfl) (by kernel_rfl) (by kernel_rfl) (fun _ _ _ h=>h) rfl ?_ hHeld ?_
  rotate_left
  ·intro w _; go_simp; first | done | (with_reducible rfl)
  try simp only [Act.put,List.setIfInBounds_toArray,List.set_cons_zero,List.set_cons_succ]
  refine Aa (i:=4) (v:=?_) rfl (by kernel_rfl) (by kernel_rfl) (by kernel_rfl) (fun _ _ _ h=>h) rfl ?_ hHeld ?_
  rotate_left
  ·intro w _; go_simp; first | done | (with_reducible rfl)
  try simp only [Act.put,List.setIfInBounds_toArray,List.set_cons_zero,List.set_cons_succ]
  refine An (i:=5) rfl (by kernel_rfl) rfl (fun K hK=>?_)
  refine Cg (.tmp 50) (.tmp 51) 68 rfl rfl rfl hrun ?_
  refine hK.out _ _ (trivial) (fun hHeld=>?_)
  clear hK K
  try simp only [Act.put,List.setIfInBounds_toArray,List.set_cons_zero,List.set_cons_succ]
  refine An (i:=6) rfl (by kernel_rfl) rfl (fun K hK=>?_)
  go_simp
  refine hrp.mono ?_
  rintro e w3 ⟨rfl,ha⟩
  refine hK.out _ _ (trivial) (fun hHeld=>?_)
  clear hK K
  try simp only [Act.put,List.setIfInBounds_toArray,List.set_cons_zero,List.set_cons_succ]
  refine Aa (i:=7) (v:=?_) rfl (by kernel_rfl) (by kernel_rfl) (by kernel_rfl) (fun _ _ _ h=>h) rfl ?_ hHeld ?_
  rotate_left
  ·intro w _; go_simp; first | done | (with_reducible rfl)
  try simp only [Act.put,List.setIfInBounds_toArray,List.set_cons_zero,List.set_cons_succ]
  refine wpAnyH_done (by kernel_rfl) ?_ _
  clear hHeld
  go_wp2
  go_ret
  exact ⟨rfl,ha.next hc2' hf1⟩
end Go.Proofs.YtblniomnhpedjaaGreatDoor
