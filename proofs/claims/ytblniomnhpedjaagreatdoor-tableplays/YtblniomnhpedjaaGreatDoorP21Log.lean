/-
  Texts joined: Log, Name, Put, Api, Open, Same.
-/
import Derived.Test.YtblniomnhpedjaaGreatDoorP20File2
import Derived.Test.YtblniomnhpedjaaGreatDoorP19Group1
namespace Go.Proofs.YtblniomnhpedjaaGreatDoor
open Go.RowKit
variable {B : Nat} {w w' : World} {F : Nat→Prop} {d l : Nat} {S : Dk} {L : Lw}
theorem Bm.low (h : Bm w) (hb : Below B w w') (hB : 0<B) : Bm w':=⟨Nat.lt_of_lt_of_le h.1 hb.size,fun j hj=>(hb.cell (p:=⟨0,j,none⟩) hB).trans (h.2 j hj)⟩
theorem mem_sumN {xs : List Nat} {x : Nat} (h : x∈xs) : x≤xs.sum:=by
 induction xs with
 | nil=>cases h
 | cons y r ih=>
  rw [List.sum_cons]
  rcases List.mem_cons.1 h with rfl | h
  ·omega
  ·have:=ih h; omega
theorem bytes_le (S : Dk) (f : Nat) : (S.bytes f).length≤S.bulk:=by
 unfold Dk.bytes
 cases h : S.files[f]? with
 | none=>simp
 | some x=>
  have : x.b.length≤(S.files.map fun x=>x.b.length).sum:=mem_sumN (List.mem_map.2 ⟨x,List.mem_of_getElem? h,rfl⟩)
  unfold Dk.bulk
  simp only [Option.map_some,Option.getD_some]
  omega
theorem read_le (S : Dk) (n : Nm) : (S.read n).1.length≤S.bulk:=by
 unfold Dk.read
 split
 ·simp
 ·split
  ·simp
  ·exact bytes_le S _
theorem readW_le (S : Dk) (n : Nm) : (Cw S n).1.length≤S.bulk:=by
 unfold Cw
 split
 ·simp
 ·exact read_le S n
def lookG (b : List UInt8) : Option (List (List (List UInt8)) × Nat)→Int × Option (List (List (List UInt8)) × Nat × Nat)
 | none=>(52,none)
 | some x=>(0,some (x.1,x.2,b.length))
def Cu (S : Dk) (n : Nm) : Int × Option (List (List (List UInt8)) × Nat × Nat):=
 if (Cw S n).2≠0 then ((Cw S n).2,none) else lookG (Cw S n).1 (Cz Ah ((Cw S n).1.length+1) (Cw S n).1 0)
theorem Lg.put2 (h : Lg B w F d l S L) (a b : Int) : Lg B ((w.setCell ⟨l,3,none⟩ (.int .i64 a)).setCell ⟨l,4,none⟩ (.int .i64 b)) F d l S { L with wh:=a,sz:=b }∧Chg (fun k=>k=l) w ((w.setCell ⟨l,3,none⟩ (.int .i64 a)).setCell ⟨l,4,none⟩ (.int .i64 b)):=by
 have hc : Chg (fun k=>k=l) w ((w.setCell ⟨l,3,none⟩ (.int .i64 a)).setCell ⟨l,4,none⟩ (.int .i64 b)):=((Chg.refl (fun k=>k=l) w).setCell (p:=⟨l,3,none⟩) (.inl rfl) _).setCell (p:=⟨l,4,none⟩) (.inl rfl) _
 exact ⟨⟨h.1.keep hc (fun k hk e=>h.2.2.1 (e ▸ hk)),A0 (A0 h.2.1 3 (.int .i64 a)) 4 (.int .i64 b),h.2.2⟩,hc⟩
theorem own_chg {X : Nat→Prop} {base size n : Nat} {e : TypeId} {v : Value} {xs : List Value} (h : w.ownsRow base e size v n xs) (hc : Chg X w w') (hX : ∀ k,base≤k→¬ X k) : w'.ownsRow base e size v n xs:=A3 h hc fun k hk=>hX k (h.lt k hk).1
theorem Gs.chg {X : Nat→Prop} {base : Nat} {v : Value} {gs : List (List (List UInt8))} (h : Gs w base v gs) (hc : Chg X w w') (hX : ∀ k,base≤k→¬ X k) : Gs w' base v gs:=by
 obtain ⟨vs,h1,h2⟩:=h
 exact ⟨vs,own_chg h1 hc hX,fun i x g hx hg=>own_chg (h2 i x g hx hg) hc hX⟩
def Looked (B : Nat) (w : World) (F : Nat→Prop) (d l : Nat) (S : Dk) (L : Lw) (w' : World) (v : Value) : Option (List (List (List UInt8)) × Nat × Nat)→Prop
 | none=>v = .slice none 0 0∧Bv B w F d l S.begun L w'
 | some x=>∃ F' b1,Lg B w' F' d l S.begun { L with wh:=(x.2.1 : Int),sz:=(x.2.2 : Int) }∧(∀ k,F' k→F k∨w.heap.size≤k)∧Chg (fun k=>F k∨k=l) w w'∧Gs w' b1 v x.1∧w.heap.size≤b1∧∀ k,F' k→k<b1
set_option maxRecDepth 20000 in
set_option maxHeartbeats 1600000 in
theorem look_lg (h : Lg B w F d l S L) (hB0 : 0<B) (hT : Bm w) (hb : S.bulk<1000000000) :
  Calls Tryz.prog 57 #[.pointer (some ⟨l,0,none⟩)] w fun e w'=>∃ v,e = .returned (.tuple #[v, .int .i64 (Cu S L.n).1])∧Looked B w F d l S L w' v (Cu S L.n).2:=by
 have hrd:=read_lg h (by omega)
 have hle:=readW_le S L.n
 have H:=Ab h
 have HT:=Ab hT
 clear h hT
 unfold Cu
 generalize Cw S L.n=R at *
 obtain ⟨b,e0⟩:=R
 dsimp only at hrd hle ⊢
 by_cases he : e0≠0
 ·rw [if_pos he]
  have heb : (e0 == 0)=false:=by simp [he]
  clear he
  go_enter Tryz.func57,Tryz.ntmps57
  go_wp2_with fail
  refine hrd.mono ?_
  rintro e w1 ⟨v,F1,rfl,ho,hg1,hf1,hc1,hv1⟩
  go_wp2
  go_ret2
  exact ⟨_,rfl,rfl,F1,hg1,hf1,hc1.mono fun _ _ h=>.inl h⟩
 rw [if_neg he]
 obtain rfl : e0=0:=by simpa using he
 clear he
 generalize hG : Cz Ah (b.length+1) b 0=G
 have HG:=Ab hG
 clear hG
 go_enter Tryz.func57,Tryz.ntmps57
 go_wp2_with fail
 refine hrd.mono ?_
 rintro e w1 ⟨v,F1,rfl,ho,hg1,hf1,hc1,hv1⟩
 have hbl : Below B w w1:=hc1.below (fun k hk=>(H.out.1.2.1 k hk).1) H.out.size
 have htg:=Qb w1 v b (Dh ho) (by omega) (HT.out.low hbl hB0)
 rw [HG.out] at htg
 obtain ⟨ao,cap,rfl,-⟩:=Ay ho
 clear ho hv1
 cases G with
 | none=>
  go_wp2_with fail
  refine htg.mono ?_
  rintro e w2 ⟨hb2,h2⟩
  have hc2 : Chg (fun _=>False) w1 w2:=(Chg.of_below hb2).mono fun k h1 h2=>by omega
  rcases h2 with ⟨-,rfl⟩ | ⟨gs,n,v',h2,-⟩
  ·go_wp2
   go_ret2
   exact ⟨_,rfl,rfl,F1,hg1.keep hc2 (fun _ _ h=>h) (fun h=>h),hf1,(hc1.mono fun _ _ h=>.inl h).trans hc2 (fun _ _ h=>h.elim)⟩
  ·cases h2
 | some x=>
  obtain ⟨gs,n⟩:=x
  go_wp2_with fail
  refine htg.mono ?_
  rintro e w2 ⟨hb2,h2⟩
  have hc2 : Chg (fun _=>False) w1 w2:=(Chg.of_below hb2).mono fun k h1 h2=>by omega
  rcases h2 with ⟨h2,-⟩ | ⟨gs,n,v',h2,hn1,hn2,rfl,hgs⟩
  ·cases h2
  ·injection h2 with h2
   injection h2 with h3 h4
   subst h3 h4
   have hg2:=hg1.keep hc2 (fun _ _ h=>h) (fun h=>h)
   obtain ⟨a3,c3,rfl,-⟩:=hgs.form
   have HGS:=Ab hgs
   have u1:=Av hg2.2.1 3
   have u2:=Ad hg2.2.1 3
   have u3:=Av (A0 hg2.2.1 3 (.int .i64 (n : Int))) 4
   have u4:=Ad (A0 hg2.2.1 3 (.int .i64 (n : Int))) 4
   obtain ⟨hg3,hc3⟩:=hg2.put2 (n : Int) (b.length : Int)
   have hlt:=hg1.lt
   clear hgs
   go_wp2
   go_ret2
   refine ⟨_,rfl,F1,w1.heap.size,hg3,hf1,?_,HGS.out.chg hc3 fun k hk e=>?_,hc1.size,fun k hk=>(hg1.1.2.1 k hk).2⟩
   ·exact ((hc1.mono fun _ _ h=>.inl h).trans hc2 (fun _ _ h=>h.elim)).trans hc3 (fun _ _ h=>.inr h)
   ·subst e; omega
set_option maxRecDepth 20000 in
theorem has_lg (h : Lg B w F d l S L) (k : Int) :
  Calls Tryz.prog 91 #[.pointer (some ⟨l,0,none⟩), .int .i64 k] w fun e w'=>e = .returned (.tuple #[])∧Lg B w' F d l S { L with wh:=k,sz:=k }∧Chg (fun x=>x=l) w w':=by
 have u1:=Av h.2.1 3
 have u2:=Ad h.2.1 3
 have u3:=Av (A0 h.2.1 3 (.int .i64 k)) 4
 have u4:=Ad (A0 h.2.1 3 (.int .i64 k)) 4
 have hp:=h.put2 k k
 clear h
 go_enter Tryz.func91,Tryz.ntmps91
 go_wp2
 exact ⟨rfl,_,results_none rfl _ _ _,rfl,hp⟩
set_option maxRecDepth 20000 in
theorem bytes_lg (h : Lg B w F d l S L) : Calls Tryz.prog 69 #[.pointer (some ⟨l,0,none⟩)] w fun e w'=>e = .returned (.int .i64 L.wh)∧w'=w:=by
 have u1:=Ad h.2.1 3
 clear h
 go_enter Tryz.func69,Tryz.ntmps69
 go_wp2
 go_ret
 exact ⟨rfl,rfl⟩
set_option maxRecDepth 20000 in
theorem append_nil (w : World) (v : Value) : Calls Tryz.prog 71 #[.pointer none,v] w fun e w'=>e = .returned (.int .i64 1)∧w'=w:=by
 go_enter Tryz.func71,Tryz.ntmps71
 go_wp2
 go_ret
 exact ⟨rfl,rfl⟩
set_option maxRecDepth 20000 in
theorem open_nil (w : World) (v : Value) : Calls Tryz.prog 38 #[.pointer none,v] w fun e w'=>e = .returned (.tuple #[.pointer none, .slice none 0 0, .int .i64 1])∧w'=w:=by
 go_enter Tryz.func38,Tryz.ntmps38
 go_wp2
 go_ret3
 exact ⟨rfl,rfl⟩
end Go.Proofs.YtblniomnhpedjaaGreatDoor
namespace Go.Proofs.YtblniomnhpedjaaGreatDoor
open Go.RowKit
def Cj (n : Nm) : Bool:=decide (1≤n.length) && decide (n.length≤70) && n.all fun c=>decide (33≤c.toNat) && decide (c.toNat≤126)
theorem N7 {l : List UInt8} {k : Nat} (h : k<l.length) (hc : (l.getD k 0).toNat<33∨126<(l.getD k 0).toNat) : Cj l=false:=by
 have hin : l.getD k 0∈l:=by simp [List.getD,List.getElem?_eq_getElem h]
 cases hb : Cj l with
 | false=>rfl
 | true=>
  exfalso
  simp only [Cj,Bool.and_eq_true,decide_eq_true_eq,List.all_eq_true] at hb
  have:=hb.2 _ hin
  omega
theorem isLg_true {l : List UInt8} (h1 : 1≤l.length) (h2 : l.length≤70) (h : ∀ j,j<l.length→33≤(l.getD j 0).toNat∧(l.getD j 0).toNat≤126) : Cj l=true:=by
 simp only [Cj,Bool.and_eq_true,decide_eq_true_eq,List.all_eq_true]
 refine ⟨⟨h1,h2⟩,fun x hx=>?_⟩
 obtain ⟨j,hj,rfl⟩:=List.getElem_of_mem hx
 have:=h j hj
 simpa [List.getD,List.getElem?_eq_getElem hj] using this
theorem isLg_len {l : List UInt8} (h : Cj l=true) : 1≤l.length∧l.length≤70:=by
 simp only [Cj,Bool.and_eq_true,decide_eq_true_eq] at h
 exact h.1
set_option maxRecDepth 20000 in
theorem isLog_any (w : World) (l : List UInt8) :
  Calls Tryz.prog 55 #[.string (Ae l)] w fun e w'=>e = .returned (.bool (Cj l))∧w'=w:=by
 have hsz:=B1 l
 by_cases h1 : l.length<1
 ·have : Cj l=false:=by simp [Cj]; omega
  rw [this]
  go_enter Tryz.func55,Tryz.ntmps55
  go_wp2
  go_ret
  exact ⟨rfl,rfl⟩
 by_cases h2 : 70<l.length
 ·have : Cj l=false:=by simp [Cj]; omega
  rw [this]
  go_enter Tryz.func55,Tryz.ntmps55
  go_wp2
  go_ret
  exact ⟨rfl,rfl⟩
 go_enter Tryz.func55,Tryz.ntmps55
 go_wp2
 go_loop [14] (fun x=>∃ k : Nat,k≤l.length∧x = .int .i64 (k : Int)∧∀ j,j<k→33≤(l.getD j 0).toNat∧(l.getD j 0).toNat≤126) (fun x=>l.length - (intOf x).toNat)
 case atStart=>exact ⟨0,Nat.zero_le _,rfl,fun j hj=>absurd hj (Nat.not_lt_zero j)⟩
 case round=>
  obtain ⟨k,hk,rfl,hall⟩:=hrel
  by_cases hlt : k<l.length
  ·have hi:=index_str w l .i64 k hlt
   have hc:=(l.getD k 0).toNat_lt
   by_cases hlo : (l.getD k 0).toNat<33
   ·have hf:=N7 hlt (Or.inl hlo)
    have HF:=Ab hf
    clear hf
    generalize l.getD k 0=c at *
    go_wp2
    go_ret
    exact ⟨D2 HF.out.symm,rfl⟩
   by_cases hhi : 126<(l.getD k 0).toNat
   ·have hf:=N7 hlt (Or.inr hhi)
    have HF:=Ab hf
    clear hf
    generalize l.getD k 0=c at *
    go_wp2
    go_ret
    exact ⟨D2 HF.out.symm,rfl⟩
   have HK : Hid (33≤(l.getD k 0).toNat∧(l.getD k 0).toNat≤126):=⟨by omega,by omega⟩
   have HA:=Ab hall
   clear hall
   generalize hcc : l.getD k 0=c at *
   have HCC:=Ab hcc
   clear hcc
   go_wp2
   go_round
   case rel=>
    refine ⟨k+1,by omega,by go_num,fun j hj=>?_⟩
    by_cases e : j=k
    ·subst e; rw [HCC.out]; exact HK.out
    ·exact HA.out j (by omega)
   case measure=>simp [intOf]; omega
  ·have hkl : k=l.length:=by omega
   subst hkl
   have HF:=Ab (isLg_true (by omega) (by omega) hall)
   clear hall
   go_wp2
   go_ret
   exact ⟨D2 HF.out.symm,rfl⟩
end Go.Proofs.YtblniomnhpedjaaGreatDoor
namespace Go.Proofs.YtblniomnhpedjaaGreatDoor
open Go.RowKit
variable {B : Nat} {w w' : World} {F : Nat→Prop} {d l : Nat} {S : Dk} {L : Lw}
theorem Ql (w : World) {base : Nat} {v x : Value} {a b : List UInt8} (ho : w.ownsRow base 5 1 v a.length (bc a)) (hs : Sl w x b) (hl : a.length+b.length≤140737488355328) (hB : base≤w.heap.size) (ty : TypeId) :
  ∃ v' w',(Builtin.append_ #[68,68] ty #[v,x]).run Tryz.prog w = .ok v' w'∧w'.ownsRow base 5 1 v' (a++b).length (bc (a++b))∧w.grownBy w' v.ownBlock∧(v'.ownBlock=v.ownBlock∨v'.ownBlock=some w.heap.size):=by
 obtain ⟨i0,hi,hz0,hz1,hz2⟩:=info_parts Tryz.infoB
 by_cases he : b = []
 ·subst he
  obtain ⟨ao,cap,rfl,h1,h2,h3,-⟩:=hs
  cases ao with
  | none=>
   obtain ⟨av,cv,rfl,c1,c2⟩:=Ay ho
   refine ⟨_,w,run_append_nothing w _ _ _ _ i0 Tryz.underlying68 hi av a.length cv c1 _ ?_,by simpa using ho,⟨rfl,rfl,rfl,Nat.le_refl _,fun _ _ _=>rfl⟩, .inl rfl⟩
   rw [hz1]
   exact Src.ofNil w Tryz.underlying68 cap
  | some ad=>
   obtain ⟨v',w',hr,hown,hg,_,hat⟩:=run_append_own_at (P:=Tryz.prog) w base 68 ty 5 i0 (.int .u8 0) 1 1 Tryz.underlying68 hi hz0 hz1 hz2 rfl (by decide) v a.length (bc a) ho ad 0 cap [] rfl (fun j u hu=>by cases hu) (fun u hu=>by cases hu) (by unfold maxLen; simp at hl; omega) (by simp at hl; omega) hB
   exact ⟨v',w',hr,by simpa using hown,hg,hat⟩
 ·obtain ⟨g,off,cap,rfl,hg,hc⟩:=hs.some he
  obtain ⟨v',w',hr,hown,hg,_,hat⟩:=run_append_own_at (P:=Tryz.prog) w base 68 ty 5 i0 (.int .u8 0) 1 1 Tryz.underlying68 hi hz0 hz1 hz2 rfl (by decide) v a.length (bc a) ho ⟨g,off,none⟩ b.length cap (bc b) (by rw [C3,Nat.mul_one]) (fun j u hu=>by rw [Addr.add_lit]; exact hc j u hu) (E7 b) (by unfold maxLen; omega) (by omega) hB
  exact ⟨v',w',hr,by rw [Fa,List.length_append]; exact hown,hg,hat⟩
def E8 (r : List UInt8 × Int) (S : Dk) (n : Nm) (sure : Bool) (b : List UInt8) : Dk × Bool × Int:=if r.2≠0 then (S,sure,r.2) else Cc S n sure (r.1++b)
def putW (S : Dk) (L : Lw) (b : List UInt8) : Dk × Bool × Int:=
 if L.wh=0 then Cc S L.n L.sure b else if L.wh=L.sz then Bw S L.n L.sure b else E8 (S.readAt L.n 0 L.wh) S.begun L.n L.sure b
theorem Gk (S : Dk) : S.begun.bulk≤S.bulk+1:=bulk_bg
theorem readAt_le (S : Dk) (n : Nm) (a k : Int) : (S.readAt n a k).1.length≤S.bulk:=by
 unfold Dk.readAt
 split
 ·simp
 ·split
  ·simp
  ·split
   ·simp
   ·have:=bytes_le S (by assumption)
    simp only [List.length_take,List.length_drop]
    omega
set_option maxRecDepth 20000 in
set_option maxHeartbeats 1600000 in
theorem put_lg (h : Lg B w F d l S L) {v : Value} {b : List UInt8} (hv : Ee w F l v b) (hb : 2 * S.bulk+b.length+40<1099511627776) (hwh : -9223372036854775808≤L.wh∧L.wh≤9223372036854775807) :
  Calls Tryz.prog 90 #[.pointer (some ⟨l,0,none⟩),v] w fun e w'=>e = .returned (.int .i64 (putW S L b).2.2)∧Bv B w F d l (putW S L b).1 { L with sure:=(putW S L b).2.1 } w':=by
 have hrp:=Jv h hv (by omega)
 have hex:=extend_lg h.drew hv.drew (by omega)
 have hbg:=beginning_lg h.drew.drew L.wh hwh (by omega)
 have hrl:=readAt_le S L.n 0 L.wh
 have x3:=Ad h.2.1 3
 have x4:=Ad h.2.1 4
 have hbb:=Gk S
 have H:=Ab h
 have HV:=Ab hv
 clear h hv
 obtain ⟨n,s,wh,sz⟩:=L
 dsimp only at *
 unfold putW
 dsimp only
 by_cases h0 : wh=0
 ·rw [if_pos h0]
  have hz : (wh == 0)=true:=by simp [h0]
  clear h0 hbg hex hrl
  generalize Cc S n s b=R at *
  go_enter Tryz.func90,Tryz.ntmps90
  go_wp2_with fail
  refine hrp.mono ?_
  rintro e w1 ⟨rfl,ha⟩
  go_wp2
  go_ret
  exact ⟨rfl,ha⟩
 rw [if_neg h0]
 have hz : (wh == 0)=false:=by simp [h0]
 clear h0 hrp
 by_cases h1 : wh=sz
 ·rw [if_pos h1]
  have hy : (wh == sz)=true:=by simp [h1]
  clear h1 hbg hrl
  generalize Bw S n s b=R at *
  go_enter Tryz.func90,Tryz.ntmps90
  go_wp2
  refine wp_region_held_drew (S:=fun W=>W.cell? ⟨l,3,none⟩=some (.int .i64 wh)∧W.cell? ⟨l,4,none⟩=some (.int .i64 sz)) (by kernel_rfl) (⟨x3,x4⟩) (fun hHeld=>?_)
  refine Aa 0 hHeld ?_
  refine Aa 1 hHeld ?_
  refine Aa 2 hHeld ?_
  refine Aa 3 hHeld ?_
  refine Aa 4 hHeld ?_
  refine Aa 5 hHeld ?_
  refine Aa 6 hHeld ?_
  refine Aa 7 hHeld ?_
  refine Aa 8 hHeld ?_
  refine Aa 9 hHeld ?_
  refine wpAnyH_done (by kernel_rfl) ?_ _
  clear hHeld
  go_wp2_with fail
  refine hex.mono ?_
  rintro e w1 ⟨rfl,ha⟩
  go_wp2
  go_ret
  exact ⟨rfl,ha.drewn⟩
 rw [if_neg h1]
 have hy : (wh == sz)=false:=by simp [h1]
 clear h1 hex
 unfold E8
 generalize S.readAt n 0 wh=R at *
 obtain ⟨r,e0⟩:=R
 dsimp only at hbg hrl ⊢
 by_cases he : e0≠0
 ·rw [if_pos he]
  have heb : (e0 == 0)=false:=by simp [he]
  clear he
  go_enter Tryz.func90,Tryz.ntmps90
  go_wp2
  refine wp_region_held_drew (S:=fun W=>W.cell? ⟨l,3,none⟩=some (.int .i64 wh)∧W.cell? ⟨l,4,none⟩=some (.int .i64 sz)) (by kernel_rfl) (⟨x3,x4⟩) (fun hHeld=>?_)
  refine Aa 0 hHeld ?_
  refine Aa 1 hHeld ?_
  refine Aa 2 hHeld ?_
  refine Aa 3 hHeld ?_
  refine Aa 4 hHeld ?_
  refine Aa 5 hHeld ?_
  refine Aa 6 hHeld ?_
  refine Aa 7 hHeld ?_
  refine Aa 8 hHeld ?_
  refine Aa 9 hHeld ?_
  refine wpAnyH_done (by kernel_rfl) ?_ _
  clear hHeld
  go_wp2
  refine wp_region_held_drew (S:=fun W=>W.cell? ⟨l,3,none⟩=some (.int .i64 wh)) (by kernel_rfl) (x3) (fun hHeld=>?_)
  refine Aa 0 hHeld ?_
  refine Aa 1 hHeld ?_
  refine Aa 2 hHeld ?_
  refine Aa 3 hHeld ?_
  refine Aa 4 hHeld ?_
  refine Aa 5 hHeld ?_
  refine Aa 6 hHeld ?_
  refine Al (i:=7) rfl (by kernel_rfl) rfl (fun K hK=>?_)
  go_simp
  refine hbg.mono ?_
  rintro e w1 ⟨vb,F1,rfl,ho,hg1,hf1,hc1,hv1⟩
  have y3:=Ad hg1.2.1 3
  refine hK.out _ _ (y3) (fun hHeld=>?_)
  clear hK K
  try simp only [Act.put,List.setIfInBounds_toArray,List.set_cons_zero,List.set_cons_succ]
  refine Aa 8 hHeld ?_
  refine Aa 9 hHeld ?_
  refine Aa 10 hHeld ?_
  refine Aa 11 hHeld ?_
  refine Aa 12 hHeld ?_
  refine wpAnyH_done (by kernel_rfl) ?_ _
  clear hHeld
  go_wp2
  go_ret
  exact ⟨rfl,F1,hg1,hf1,(hc1.mono fun _ _ h=>.inl h).undrew.undrew⟩
 ·rw [if_neg he]
  obtain rfl : e0=0:=by simpa using he
  clear he
  go_enter Tryz.func90,Tryz.ntmps90
  go_wp2
  refine wp_region_held_drew (S:=fun W=>W.cell? ⟨l,3,none⟩=some (.int .i64 wh)∧W.cell? ⟨l,4,none⟩=some (.int .i64 sz)) (by kernel_rfl) (⟨x3,x4⟩) (fun hHeld=>?_)
  refine Aa 0 hHeld ?_
  refine Aa 1 hHeld ?_
  refine Aa 2 hHeld ?_
  refine Aa 3 hHeld ?_
  refine Aa 4 hHeld ?_
  refine Aa 5 hHeld ?_
  refine Aa 6 hHeld ?_
  refine Aa 7 hHeld ?_
  refine Aa 8 hHeld ?_
  refine Aa 9 hHeld ?_
  refine wpAnyH_done (by kernel_rfl) ?_ _
  clear hHeld
  go_wp2
  refine wp_region_held_drew (S:=fun W=>W.cell? ⟨l,3,none⟩=some (.int .i64 wh)) (by kernel_rfl) (x3) (fun hHeld=>?_)
  refine Aa 0 hHeld ?_
  refine Aa 1 hHeld ?_
  refine Aa 2 hHeld ?_
  refine Aa 3 hHeld ?_
  refine Aa 4 hHeld ?_
  refine Aa 5 hHeld ?_
  refine Aa 6 hHeld ?_
  refine Al (i:=7) rfl (by kernel_rfl) rfl (fun K hK=>?_)
  go_simp
  refine hbg.mono ?_
  rintro e w1 ⟨vb,F1,rfl,ho,hg1,hf1,hc1,hv1⟩
  have y3:=Ad hg1.2.1 3
  refine hK.out _ _ (y3) (fun hHeld=>?_)
  clear hK K
  try simp only [Act.put,List.setIfInBounds_toArray,List.set_cons_zero,List.set_cons_succ]
  refine Aa 8 hHeld ?_
  refine Aa 9 hHeld ?_
  refine Aa 10 hHeld ?_
  refine Aa 11 hHeld ?_
  refine Aa 12 hHeld ?_
  refine wpAnyH_done (by kernel_rfl) ?_ _
  clear hHeld
  have hc1' : Chg (fun k=>F k∨k=l) w w1:=(hc1.mono fun _ _ h=>.inl h).undrew.undrew
  have hbs:=(HV.out.keep hf1 hc1').drew
  have hsz1:=hc1.size
  have hlt:=H.out.lt
  obtain ⟨v2,w2,hrun,hown,hgr,hat⟩:=Ql w1.drew (show w1.drew.ownsRow w.heap.size 5 1 vb r.length (bc r) from ho) hbs.1 (by omega) (show w.heap.size≤w1.heap.size from hsz1) 68
  have hc2 : Chg (fun k=>some k=vb.ownBlock) w1.drew w2:=Chg.of_grown hgr
  have hnl : vb.ownBlock≠some l:=fun e=>by have:=(ho.lt l e).1; simp at this; omega
  have hg2 : Lg B w2 F1 d l S.begun ⟨n,s,wh,sz⟩:=hg1.drew.keep hc2 (fun k hk e=>hv1 k e.symm hk) (fun e=>hnl e.symm)
  have hc2' : Chg (fun k=>F k∨k=l) w w2:=hc1'.drew.trans hc2 fun i hi e=>by
   have:=(ho.lt i e.symm).1
   simp at this
   omega
  have hB2 : Ee w2 F1 l v2 (r++b):=by
   refine ⟨Dh hown,fun g hg=>?_⟩
   have hlg:=hown.lt g hg
   refine ⟨fun hf=>?_,fun e=>by subst e; omega,hlg.2⟩
   rcases hat with hat | hat
   ·rw [hat] at hg
    exact hv1 g hg hf
   ·rw [hat] at hg
    injection hg with hg
    have hfl:=(hg1.1.2.1 g hf).2
    have hsd : w1.drew.heap.size=w1.heap.size:=rfl
    omega
  have hrp:=Jv hg2 hB2 (by rw [List.length_append]; omega)
  dsimp only at hrp
  go_wp2
  refine wp_region_held_drew (S:=fun _=>True) (by kernel_rfl) (trivial) (fun hHeld=>?_)
  refine Aa 0 hHeld ?_
  refine Aa 1 hHeld ?_
  refine Aa 2 hHeld ?_
  refine Aa 3 hHeld ?_
  refine Aa 4 hHeld ?_
  refine Al (i:=5) rfl (by kernel_rfl) rfl (fun K hK=>?_)
  refine Cg (.tmp 50) (.tmp 51) 68 rfl rfl rfl hrun ?_
  refine hK.out _ _ (trivial) (fun hHeld=>?_)
  clear hK K
  try simp only [Act.put,List.setIfInBounds_toArray,List.set_cons_zero,List.set_cons_succ]
  refine Al (i:=6) rfl (by kernel_rfl) rfl (fun K hK=>?_)
  go_simp
  refine hrp.mono ?_
  rintro e w3 ⟨rfl,ha⟩
  refine hK.out _ _ (trivial) (fun hHeld=>?_)
  clear hK K
  try simp only [Act.put,List.setIfInBounds_toArray,List.set_cons_zero,List.set_cons_succ]
  refine Aa 7 hHeld ?_
  refine wpAnyH_done (by kernel_rfl) ?_ _
  clear hHeld
  go_wp2
  go_ret
  exact ⟨rfl,ha.next hc2' hf1⟩
end Go.Proofs.YtblniomnhpedjaaGreatDoor
namespace Go.Proofs.YtblniomnhpedjaaGreatDoor
open Go.RowKit
variable {B : Nat} {w w' : World} {F : Nat→Prop} {d l : Nat} {S : Dk} {L : Lw}
def TxB (w : World) (F : Nat→Prop) (l : Nat) (v : Value) (rs : List (List UInt8)) : Prop:=Tx w v rs∧∀ g,v.ownBlock=some g→¬ F g∧g≠l∧g<w.heap.size
theorem Tx.chg {X : Nat→Prop} {v : Value} {xs : List (List UInt8)} (h : Tx w v xs) (hc : Chg X w w') (hX : ∀ g,v.ownBlock=some g→¬ X g) : Tx w' v xs:=by
 obtain ⟨ao,cap,hv,h1,h2,h4⟩:=h
 refine ⟨ao,cap,hv,h1,h2,fun hl=>?_⟩
 obtain ⟨b,off,ha,hlt,hcell⟩:=h4 hl
 subst hv ha
 exact ⟨b,off,rfl,Nat.lt_of_lt_of_le hlt hc.size,fun j hj=>(World.cell?_of_block (w:=w) (hc.block b hlt (hX b rfl))).trans (hcell j hj)⟩
theorem TxB.keep {v : Value} {rs : List (List UInt8)} {F' : Nat→Prop} (h : TxB w F l v rs) (hf : ∀ k,F' k→F k∨w.heap.size≤k) (hc : Chg (fun k=>F k∨k=l) w w') : TxB w' F' l v rs:=by
 refine ⟨h.1.chg hc fun g hg e=>?_,fun g hg=>⟨fun e=>?_,(h.2 g hg).2.1,Nat.lt_of_lt_of_le (h.2 g hg).2.2 hc.size⟩⟩
 ·rcases e with e | e
  ·exact (h.2 g hg).1 e
  ·exact (h.2 g hg).2.1 e
 ·have h3:=h.2 g hg
  rcases hf g e with e | e
  ·exact h3.1 e
  ·omega
theorem Tx.form {v : Value} {xs : List (List UInt8)} (h : Tx w v xs) : ∃ ao cap,v = .slice ao xs.length cap:=by
 obtain ⟨ao,cap,hv,-⟩:=h
 exact ⟨ao,cap,hv⟩
theorem Hf {v : Value} {b : List UInt8} (h : Lg B w F d l S L) (ho : w'.ownsRow w.heap.size 5 1 v b.length (bc b)) : Ee w' F l v b:=by
 have hl:=h.lt
 refine ⟨Dh ho,fun g hg=>?_⟩
 have:=ho.lt g hg
 refine ⟨fun hf=>?_,fun e=>by omega,this.2⟩
 have:=(h.1.2.1 g hf).2
 omega
theorem Dt (hb : Below w.heap.size w w') : Chg (fun _=>False) w w':=(Chg.of_below hb).mono fun k h1 h2=>by omega
theorem Lg.keepB (h : Lg B w F d l S L) (hb : Below w.heap.size w w') : Lg B w' F d l S L:=h.keep (Dt hb) (fun _ _ h=>h) (fun h=>h)
theorem Bv.grow {w1 : World} (h : Bv B w1 F d l S L w') (hc : Chg (fun _=>False) w w1) : Bv B w F d l S L w':=h.next (hc.mono fun _ _ h=>h.elim) (fun _ h=>.inl h)
theorem Bv.has {w3 w4 : World} {F3 : Nat→Prop} (hg4 : Lg B w4 F3 d l S L) (hf3 : ∀ k,F3 k→F k∨w.heap.size≤k) (hc3 : Chg (fun k=>F k∨k=l) w w3) (hc4 : Chg (fun k=>k=l) w3 w4) : Bv B w F d l S L w4:=⟨F3,hg4,hf3,hc3.trans hc4 fun _ _ h=>.inr h⟩
theorem grp_small {rs : List (List UInt8)} (h : right rs=true) : (grp Ah rs).length≤2130000:=by
 have h1:=J1 h
 have h2:=Fc Dj rs
 omega
theorem Nt (cs : List UInt8→List UInt8) (b : List UInt8) : ∀ (f a : Nat) (gs : List (List (List UInt8))) (n : Nat),a≤b.length→Cz cs f b a=some (gs,n)→n≤b.length
 | 0,a,gs,n,ha,h=>by
  unfold Cz at h
  injection h with h
  injection h with _ h
  omega
 | f+1,a,gs,n,ha,h=>by
  by_cases hlt : a<b.length
  ·rw [H8 _ _ _ _ hlt] at h
   unfold Ed at h
   have hle:=groupW_le cs (b.drop a)
   rw [List.length_drop] at hle
   split at h
   ·cases h
   ·split at h
    ·injection h with h
     injection h with _ h
     omega
    ·cases hk : Cz cs f b (a+(Du cs (b.drop a)).2.1) with
     | none=>rw [hk] at h; cases h
     | some x=>
      rw [hk] at h
      simp only [Option.map_some] at h
      injection h with h
      injection h with _ h
      have:=Nt cs b f _ x.1 x.2 (by omega) hk
      omega
  ·rw [J8 _ _ _ _ hlt] at h
   injection h with h
   injection h with _ h
   omega
theorem Lz {S : Dk} {n : Nm} {e : Int} {y : List (List (List UInt8)) × Nat × Nat} (h : Cu S n=(e,some y)) : y.2.1≤y.2.2∧y.2.2≤S.bulk∧e=0:=by
 have hr:=readW_le S n
 unfold Cu at h
 split at h
 ·injection h with _ h
  cases h
 ·cases hg : Cz Ah ((Cw S n).1.length+1) (Cw S n).1 0 with
  | none=>
   rw [hg] at h
   injection h with _ h
   cases h
  | some x=>
   rw [hg] at h
   have h5:=Nt Ah _ _ 0 x.1 x.2 (Nat.zero_le _) hg
   unfold lookG at h
   injection h with h1 h2
   injection h2 with h2
   subst h2
   exact ⟨h5,hr,h1.symm⟩
theorem Lh {S : Dk} {n : Nm} {e : Int} (h : Cu S n=(e,none)) : e≠0:=by
 unfold Cu at h
 split at h
 ·next hh=>
  injection h with h _
  rw [← h]
  exact hh
 ·cases hg : Cz Ah ((Cw S n).1.length+1) (Cw S n).1 0 with
  | none=>
   rw [hg] at h
   injection h with h _
   rw [← h]
   decide
  | some x=>
   rw [hg] at h
   injection h with _ h
   cases h
def Cs (p : Dk × Bool × Int) (L : Lw) (wh k : Int) : Dk × Lw × Int:=if p.2.2=0 then (p.1,⟨L.n,p.2.1,wh+k,wh+k⟩,0) else (p.1,{ L with sure:=p.2.1 },p.2.2)
def B4 (S : Dk) (L : Lw) (rs : List (List UInt8)) : Dk × Lw × Int:=
 if right rs=false then (S,L,50) else Cs (Cc S L.n L.sure (grp Ah rs)) L 0 (grp Ah rs).length
def Ef (S : Dk) (L : Lw) (rs : List (List UInt8)) : Dk × Lw × Int:=Cs (putW S L (grp Ah rs)) L L.wh (grp Ah rs).length
def appendL (S : Dk) (L : Lw) (rs : List (List UInt8)) (x : Int × Option (List (List (List UInt8)) × Nat × Nat)) : Dk × Lw × Int:=
 match x.2 with
 | none=>(S,L,x.1)
 | some y=>Ef S { L with wh:=(y.2.1 : Int),sz:=(y.2.2 : Int) } rs
def B7 (S : Dk) (L : Lw) (rs : List (List UInt8)) : Dk × Lw × Int:=
 if right rs=false then (S,L,50) else if max (S.size L.n) 0=L.sz then Ef S L rs else appendL S.begun L rs (Cu S L.n)
set_option maxRecDepth 20000 in
set_option maxHeartbeats 1600000 in
theorem reset_lg (h : Lg B w F d l S L) {v : Value} {rs : List (List UInt8)} (hv : TxB w F l v rs) (_hB0 : 0<B) (hT : Bm w) (hea : ∀ r∈rs,r.length≤140737488355328) (hb : 2 * S.bulk<1000000000) :
  Calls Tryz.prog 72 #[.pointer (some ⟨l,0,none⟩),v] w fun e w'=>e = .returned (.int .i64 (B4 S L rs).2.2)∧Bv B w F d l (B4 S L rs).1 (B4 S L rs).2.1 w':=by
 have hir:=M7 w v rs hv.1 hea
 obtain ⟨ao,cap,rfl⟩:=hv.1.form
 have H:=Ab h
 have HV:=Ab hv
 have HT:=Ab hT
 clear h hv hT hea
 obtain ⟨n,s,wh,sz⟩:=L
 unfold B4
 by_cases hr : right rs=false
 ·rw [if_pos hr]
  rw [hr] at hir
  go_enter Tryz.func72,Tryz.ntmps72
  go_wp2_with fail
  refine hir.mono ?_
  rintro e w1 ⟨rfl,rfl⟩
  go_wp2
  go_ret
  exact ⟨rfl,H.out.refl⟩
 rw [if_neg hr]
 have hr : right rs=true:=by simpa using hr
 have hgl:=grp_small hr
 have hpg:=Hk w _ rs HV.out.1 hr HT.out
 rw [hr] at hir
 clear hr
 generalize grp Ah rs=G at *
 dsimp only
 unfold Cs
 generalize hR : Cc S n s G=R at *
 obtain ⟨S3,s3,e3⟩:=R
 have HR:=Ab hR
 clear hR
 dsimp only
 by_cases he : e3=0
 ·rw [if_pos he]
  have heb : (e3 == 0)=true:=by simp [he]
  clear he
  go_enter Tryz.func72,Tryz.ntmps72
  go_wp2_with fail
  refine hir.mono ?_
  rintro e w1 ⟨rfl,rfl⟩
  go_wp2_with fail
  refine hpg.mono ?_
  rintro e w2 ⟨v2,rfl,ho2,hb2⟩
  have hrp:=Jv (H.out.keepB hb2) (Hf H.out ho2) (by omega)
  dsimp only at hrp
  rw [HR.out] at hrp
  have hc2:=Dt hb2
  obtain ⟨a2,c2,rfl,-⟩:=Ay ho2
  clear ho2
  go_wp2_with fail
  refine hrp.mono ?_
  rintro e w3 ⟨rfl,ha⟩
  obtain ⟨F3,hg3,hf3,hc3⟩:=ha.grow hc2
  have hha:=has_lg hg3 (G.length : Int)
  go_wp2_with fail
  refine hha.mono ?_
  rintro e w4 ⟨rfl,hg4,hc4⟩
  go_wp2
  go_ret
  have he : e3=0:=by simpa using heb
  subst he
  rw [Int.zero_add]
  exact ⟨rfl,Bv.has hg4 hf3 hc3 hc4⟩
 ·rw [if_neg he]
  have heb : (e3 == 0)=false:=by simp [he]
  clear he
  go_enter Tryz.func72,Tryz.ntmps72
  go_wp2_with fail
  refine hir.mono ?_
  rintro e w1 ⟨rfl,rfl⟩
  go_wp2_with fail
  refine hpg.mono ?_
  rintro e w2 ⟨v2,rfl,ho2,hb2⟩
  have hrp:=Jv (H.out.keepB hb2) (Hf H.out ho2) (by omega)
  dsimp only at hrp
  rw [HR.out] at hrp
  have hc2:=Dt hb2
  obtain ⟨a2,c2,rfl,-⟩:=Ay ho2
  clear ho2
  go_wp2_with fail
  refine hrp.mono ?_
  rintro e w3 ⟨rfl,ha⟩
  go_wp2
  go_ret
  exact ⟨rfl,ha.grow hc2⟩
set_option maxRecDepth 20000 in
set_option maxHeartbeats 3200000 in
theorem append_lg (h : Lg B w F d l S L) {v : Value} {rs : List (List UInt8)} (hv : TxB w F l v rs) (hB0 : 0<B) (hT : Bm w) (hea : ∀ r∈rs,r.length≤140737488355328) (hb : 2 * S.bulk<999999990) (hwh : 0≤L.wh∧L.wh≤1099511627776) :
  Calls Tryz.prog 71 #[.pointer (some ⟨l,0,none⟩),v] w fun e w'=>e = .returned (.int .i64 (B7 S L rs).2.2)∧Bv B w F d l (B7 S L rs).1 (B7 S L rs).2.1 w':=by
 have hir:=M7 w v rs hv.1 hea
 have hle:=length_lg h.drew
 have hlk:=look_lg h.drew.drew hB0 hT (by omega)
 have hbb:=Gk S
 have x4:=Ad h.2.1 4
 obtain ⟨ao,cap,rfl⟩:=hv.1.form
 have H:=Ab h
 have HV:=Ab hv
 have HT:=Ab hT
 clear h hv hT hea
 unfold B7 appendL
 by_cases hr : right rs=false
 ·rw [if_pos hr]
  rw [hr] at hir
  go_enter Tryz.func71,Tryz.ntmps71
  go_wp2_with fail
  refine hir.mono ?_
  rintro e w1 ⟨rfl,rfl⟩
  go_wp2
  go_ret
  exact ⟨rfl,H.out.refl⟩
 rw [if_neg hr]
 have hr : right rs=true:=by simpa using hr
 have hgl:=grp_small hr
 rw [hr] at hir
 have HRI:=Ab hr
 clear hr
 unfold Ef
 generalize hGG : grp Ah rs=G at *
 have HGG:=Ab hGG
 clear hGG
 generalize max (S.size L.n) 0=z at *
 by_cases hz : z=L.sz
 ·rw [if_pos hz]
  have hzb : (z == L.sz)=true:=by simp [hz]
  clear hz hlk
  unfold Cs
  generalize hP : putW S L G=P
  obtain ⟨S5,s5,e5⟩:=P
  have HP:=Ab hP
  clear hP
  dsimp only
  by_cases he : e5=0
  ·rw [if_pos he]
   have heb : (e5 == 0)=true:=by simp [he]
   clear he
   go_enter Tryz.func71,Tryz.ntmps71
   go_wp2_with fail
   refine hir.mono ?_
   rintro e w ⟨rfl,rfl⟩
   go_wp2
   refine wp_region_held_drew (S:=fun W=>W.cell? ⟨l,4,none⟩=some (.int .i64 L.sz)) (by kernel_rfl) (x4) (fun hHeld=>?_)
   refine Aa 0 hHeld ?_
   refine Aa 1 hHeld ?_
   refine Aa 2 hHeld ?_
   refine Aa 4 hHeld ?_
   refine Aa 5 hHeld ?_
   refine Aa 6 hHeld ?_
   refine Aa 7 hHeld ?_
   refine Al (i:=3) rfl (by kernel_rfl) rfl (fun K hK=>?_)
   go_simp
   refine hle.mono ?_
   rintro e w2 ⟨rfl,h2⟩
   rw [h2]
   clear h2
   refine hK.out _ _ (x4) (fun hHeld=>?_)
   clear hK K
   try simp only [Act.put,List.setIfInBounds_toArray,List.set_cons_zero,List.set_cons_succ]
   refine Aa 8 hHeld ?_
   refine wpAnyH_done (by kernel_rfl) ?_ _
   clear hHeld
   have hgx:=H.out.drew.drew
   have hfx : ∀ k,F k→F k∨w.heap.size≤k:=fun _ h=>.inl h
   have hcx : Chg (fun k=>F k∨k=l) w w.drew.drew:=((Chg.refl _ w).drew).drew
   have hpg:=Hk _ _ rs (HV.out.keep hfx hcx).1 HRI.out (HT.out.low (hcx.below (fun k hk=>hk.elim (fun hk=>(H.out.1.2.1 k hk).1) (fun e=>e ▸ H.out.2.2.2.1)) H.out.size) hB0)
   rw [HGG.out] at hpg
   go_wp2_with fail
   refine hpg.mono ?_
   rintro e wg ⟨vg,rfl,hog,hbg⟩
   have hpu:=put_lg (hgx.keepB hbg) (Hf hgx hog) (by omega) (by omega)
   rw [HP.out] at hpu
   dsimp only at hpu
   have hcg:=Dt hbg
   obtain ⟨ag,cg,rfl,-⟩:=Ay hog
   clear hog hpg
   go_wp2_with fail
   refine hpu.mono ?_
   rintro e wp ⟨rfl,ha⟩
   obtain ⟨Fp,hgp,hfp,hcp⟩:=(ha.grow hcg).next hcx hfx
   have y3:=Ad hgp.2.1 3
   have hha:=has_lg hgp (L.wh+(G.length : Int))
   dsimp only at hha
   go_wp2_with fail
   refine hha.mono ?_
   rintro e w9 ⟨rfl,hg9,hc9⟩
   go_wp2
   go_ret
   have he : e5=0:=by simpa using heb
   subst he
   exact ⟨rfl,Bv.has hg9 hfp hcp hc9⟩
  ·rw [if_neg he]
   have heb : (e5 == 0)=false:=by simp [he]
   clear he
   go_enter Tryz.func71,Tryz.ntmps71
   go_wp2_with fail
   refine hir.mono ?_
   rintro e w ⟨rfl,rfl⟩
   go_wp2
   refine wp_region_held_drew (S:=fun W=>W.cell? ⟨l,4,none⟩=some (.int .i64 L.sz)) (by kernel_rfl) (x4) (fun hHeld=>?_)
   refine Aa 0 hHeld ?_
   refine Aa 1 hHeld ?_
   refine Aa 2 hHeld ?_
   refine Aa 4 hHeld ?_
   refine Aa 5 hHeld ?_
   refine Aa 6 hHeld ?_
   refine Aa 7 hHeld ?_
   refine Al (i:=3) rfl (by kernel_rfl) rfl (fun K hK=>?_)
   go_simp
   refine hle.mono ?_
   rintro e w2 ⟨rfl,h2⟩
   rw [h2]
   clear h2
   refine hK.out _ _ (x4) (fun hHeld=>?_)
   clear hK K
   try simp only [Act.put,List.setIfInBounds_toArray,List.set_cons_zero,List.set_cons_succ]
   refine Aa 8 hHeld ?_
   refine wpAnyH_done (by kernel_rfl) ?_ _
   clear hHeld
   have hgx:=H.out.drew.drew
   have hfx : ∀ k,F k→F k∨w.heap.size≤k:=fun _ h=>.inl h
   have hcx : Chg (fun k=>F k∨k=l) w w.drew.drew:=((Chg.refl _ w).drew).drew
   have hpg:=Hk _ _ rs (HV.out.keep hfx hcx).1 HRI.out (HT.out.low (hcx.below (fun k hk=>hk.elim (fun hk=>(H.out.1.2.1 k hk).1) (fun e=>e ▸ H.out.2.2.2.1)) H.out.size) hB0)
   rw [HGG.out] at hpg
   go_wp2_with fail
   refine hpg.mono ?_
   rintro e wg ⟨vg,rfl,hog,hbg⟩
   have hpu:=put_lg (hgx.keepB hbg) (Hf hgx hog) (by omega) (by omega)
   rw [HP.out] at hpu
   dsimp only at hpu
   have hcg:=Dt hbg
   obtain ⟨ag,cg,rfl,-⟩:=Ay hog
   clear hog hpg
   go_wp2_with fail
   refine hpu.mono ?_
   rintro e wp ⟨rfl,ha⟩
   go_wp2
   go_ret
   exact ⟨rfl,(ha.grow hcg).next hcx hfx⟩
 ·rw [if_neg hz]
  have hzb : (z == L.sz)=false:=by simp [hz]
  clear hz
  generalize hK : Cu S L.n=K at *
  obtain ⟨e1,o1⟩:=K
  dsimp only at hlk ⊢
  cases o1 with
  | none=>
   have hek : (e1 == 0)=false:=by
    have:=Lh hK
    simp [this]
   clear hK
   dsimp only
   go_enter Tryz.func71,Tryz.ntmps71
   go_wp2_with fail
   refine hir.mono ?_
   rintro e w ⟨rfl,rfl⟩
   go_wp2
   refine wp_region_held_drew (S:=fun W=>W.cell? ⟨l,4,none⟩=some (.int .i64 L.sz)) (by kernel_rfl) (x4) (fun hHeld=>?_)
   refine Aa 0 hHeld ?_
   refine Aa 1 hHeld ?_
   refine Aa 2 hHeld ?_
   refine Aa 4 hHeld ?_
   refine Aa 5 hHeld ?_
   refine Aa 6 hHeld ?_
   refine Aa 7 hHeld ?_
   refine Al (i:=3) rfl (by kernel_rfl) rfl (fun K hK=>?_)
   go_simp
   refine hle.mono ?_
   rintro e w2 ⟨rfl,h2⟩
   rw [h2]
   clear h2
   refine hK.out _ _ (x4) (fun hHeld=>?_)
   clear hK K
   try simp only [Act.put,List.setIfInBounds_toArray,List.set_cons_zero,List.set_cons_succ]
   refine Aa 8 hHeld ?_
   refine wpAnyH_done (by kernel_rfl) ?_ _
   clear hHeld
   go_wp2_with fail
   refine hlk.mono ?_
   rintro e w4 ⟨v4,rfl,rfl,ha⟩
   go_wp2
   go_ret
   exact ⟨rfl,ha.drewn.drewn⟩
  | some y=>
   obtain ⟨hy1,hy2,rfl⟩:=Lz hK
   clear hK
   obtain ⟨gs,k,zz⟩:=y
   dsimp only at hy1 hy2 ⊢
   unfold Cs
   generalize hP : putW S.begun { L with wh:=(k : Int),sz:=(zz : Int) } G=P
   obtain ⟨S5,s5,e5⟩:=P
   have HP:=Ab hP
   clear hP
   dsimp only
   by_cases he : e5=0
   ·rw [if_pos he]
    have heb : (e5 == 0)=true:=by simp [he]
    clear he
    go_enter Tryz.func71,Tryz.ntmps71
    go_wp2_with fail
    refine hir.mono ?_
    rintro e w ⟨rfl,rfl⟩
    go_wp2
    refine wp_region_held_drew (S:=fun W=>W.cell? ⟨l,4,none⟩=some (.int .i64 L.sz)) (by kernel_rfl) (x4) (fun hHeld=>?_)
    refine Aa 0 hHeld ?_
    refine Aa 1 hHeld ?_
    refine Aa 2 hHeld ?_
    refine Aa 4 hHeld ?_
    refine Aa 5 hHeld ?_
    refine Aa 6 hHeld ?_
    refine Aa 7 hHeld ?_
    refine Al (i:=3) rfl (by kernel_rfl) rfl (fun K hK=>?_)
    go_simp
    refine hle.mono ?_
    rintro e w2 ⟨rfl,h2⟩
    rw [h2]
    clear h2
    refine hK.out _ _ (x4) (fun hHeld=>?_)
    clear hK K
    try simp only [Act.put,List.setIfInBounds_toArray,List.set_cons_zero,List.set_cons_succ]
    refine Aa 8 hHeld ?_
    refine wpAnyH_done (by kernel_rfl) ?_ _
    clear hHeld
    go_wp2_with fail
    refine hlk.mono ?_
    rintro e w4 ⟨v4,rfl,F4,b4,hgx,hf4,hc4,hgs4,-⟩
    have hfx : ∀ k,F4 k→F k∨w.heap.size≤k:=hf4
    have hcx : Chg (fun k=>F k∨k=l) w w4:=hc4.undrew.undrew
    clear hf4 hc4
    obtain ⟨a4,c4,rfl,-⟩:=hgs4.form
    clear hgs4
    have hpg:=Hk _ _ rs (HV.out.keep hfx hcx).1 HRI.out (HT.out.low (hcx.below (fun k hk=>hk.elim (fun hk=>(H.out.1.2.1 k hk).1) (fun e=>e ▸ H.out.2.2.2.1)) H.out.size) hB0)
    rw [HGG.out] at hpg
    go_wp2_with fail
    refine hpg.mono ?_
    rintro e wg ⟨vg,rfl,hog,hbg⟩
    have hpu:=put_lg (hgx.keepB hbg) (Hf hgx hog) (by omega) (by dsimp only; omega)
    rw [HP.out] at hpu
    dsimp only at hpu
    have hcg:=Dt hbg
    obtain ⟨ag,cg,rfl,-⟩:=Ay hog
    clear hog hpg
    go_wp2_with fail
    refine hpu.mono ?_
    rintro e wp ⟨rfl,ha⟩
    obtain ⟨Fp,hgp,hfp,hcp⟩:=(ha.grow hcg).next hcx hfx
    have y3:=Ad hgp.2.1 3
    have hha:=has_lg hgp ((k : Int)+(G.length : Int))
    dsimp only at hha
    go_wp2_with fail
    refine hha.mono ?_
    rintro e w9 ⟨rfl,hg9,hc9⟩
    go_wp2
    go_ret
    have he : e5=0:=by simpa using heb
    subst he
    exact ⟨rfl,Bv.has hg9 hfp hcp hc9⟩
   ·rw [if_neg he]
    have heb : (e5 == 0)=false:=by simp [he]
    clear he
    go_enter Tryz.func71,Tryz.ntmps71
    go_wp2_with fail
    refine hir.mono ?_
    rintro e w ⟨rfl,rfl⟩
    go_wp2
    refine wp_region_held_drew (S:=fun W=>W.cell? ⟨l,4,none⟩=some (.int .i64 L.sz)) (by kernel_rfl) (x4) (fun hHeld=>?_)
    refine Aa 0 hHeld ?_
    refine Aa 1 hHeld ?_
    refine Aa 2 hHeld ?_
    refine Aa 4 hHeld ?_
    refine Aa 5 hHeld ?_
    refine Aa 6 hHeld ?_
    refine Aa 7 hHeld ?_
    refine Al (i:=3) rfl (by kernel_rfl) rfl (fun K hK=>?_)
    go_simp
    refine hle.mono ?_
    rintro e w2 ⟨rfl,h2⟩
    rw [h2]
    clear h2
    refine hK.out _ _ (x4) (fun hHeld=>?_)
    clear hK K
    try simp only [Act.put,List.setIfInBounds_toArray,List.set_cons_zero,List.set_cons_succ]
    refine Aa 8 hHeld ?_
    refine wpAnyH_done (by kernel_rfl) ?_ _
    clear hHeld
    go_wp2_with fail
    refine hlk.mono ?_
    rintro e w4 ⟨v4,rfl,F4,b4,hgx,hf4,hc4,hgs4,-⟩
    have hfx : ∀ k,F4 k→F k∨w.heap.size≤k:=hf4
    have hcx : Chg (fun k=>F k∨k=l) w w4:=hc4.undrew.undrew
    clear hf4 hc4
    obtain ⟨a4,c4,rfl,-⟩:=hgs4.form
    clear hgs4
    have hpg:=Hk _ _ rs (HV.out.keep hfx hcx).1 HRI.out (HT.out.low (hcx.below (fun k hk=>hk.elim (fun hk=>(H.out.1.2.1 k hk).1) (fun e=>e ▸ H.out.2.2.2.1)) H.out.size) hB0)
    rw [HGG.out] at hpg
    go_wp2_with fail
    refine hpg.mono ?_
    rintro e wg ⟨vg,rfl,hog,hbg⟩
    have hpu:=put_lg (hgx.keepB hbg) (Hf hgx hog) (by omega) (by dsimp only; omega)
    rw [HP.out] at hpu
    dsimp only at hpu
    have hcg:=Dt hbg
    obtain ⟨ag,cg,rfl,-⟩:=Ay hog
    clear hog hpg
    go_wp2_with fail
    refine hpu.mono ?_
    rintro e wp ⟨rfl,ha⟩
    go_wp2
    go_ret
    exact ⟨rfl,(ha.grow hcg).next hcx hfx⟩
end Go.Proofs.YtblniomnhpedjaaGreatDoor
namespace Go.Proofs.YtblniomnhpedjaaGreatDoor
open Go.RowKit
variable {B : Nat} {w w' : World} {F : Nat→Prop} {d l : Nat} {S : Dk} {L : Lw}
def Opened (B : Nat) (w : World) (F : Nat→Prop) (d : Nat) (S : Dk) (n : Nm) (w' : World) (x v : Value) : Option (List (List (List UInt8)) × Nat × Nat)→Prop
 | none=>x = .pointer none∧v = .slice none 0 0∧C2 B w F d S.begun w'
 | some y=>∃ l F' b1,x = .pointer (some ⟨l,0,none⟩)∧w.heap.size≤l∧Lg B w' F' d l S.begun ⟨n,false,(y.2.1 : Int),(y.2.2 : Int)⟩∧(∀ k,F' k→F k∨w.heap.size≤k)∧Chg F w w'∧Gs w' b1 v y.1∧w.heap.size≤b1∧l<b1∧∀ k,F' k→k<b1
set_option maxRecDepth 20000 in
theorem open_bad (w : World) (d : Nat) (n : Nm) (hn : Cj n=false) :
  Calls Tryz.prog 38 #[.pointer (some ⟨d,0,none⟩), .string (Ae n)] w fun e w'=>e = .returned (.tuple #[.pointer none, .slice none 0 0, .int .i64 50])∧w'=w:=by
 have hi:=isLog_any w n
 rw [hn] at hi
 go_enter Tryz.func38,Tryz.ntmps38
 go_wp2_with fail
 refine hi.mono ?_
 rintro e w1 ⟨rfl,rfl⟩
 go_wp2
 go_ret3
 exact ⟨rfl,rfl⟩
set_option maxRecDepth 20000 in
set_option maxHeartbeats 1600000 in
theorem open_lg (h : Bi B w F d S) (hB : B≤w.heap.size) (hB0 : 0<B) (hT : Bm w) (hb : S.bulk<1000000000) (n : Nm) (hn : Cj n=true) :
  Calls Tryz.prog 38 #[.pointer (some ⟨d,0,none⟩), .string (Ae n)] w fun e w'=>∃ x v,e = .returned (.tuple #[x,v, .int .i64 (Cu S n).1])∧Opened B w F d S n w' x v (Cu S n).2:=by
 have hi:=isLog_any w n
 have hl70:=isLg_len hn
 rw [hn] at hi
 have H:=Ab h
 have HT:=Ab hT
 clear h hT hn
 generalize hK : Cu S n=K
 obtain ⟨e1,o1⟩:=K
 cases o1 with
 | none=>
  have hek : (e1 == 0)=false:=by
   have:=Lh hK
   simp [this]
  have HK:=Ab hK
  clear hK
  dsimp only
  go_enter Tryz.func38,Tryz.ntmps38
  go_wp2_with fail
  refine hi.mono ?_
  rintro e w ⟨rfl,rfl⟩
  have hcl:=E9 w n (by omega)
  go_wp2_with fail
  refine hcl.mono ?_
  rintro e w2 ⟨rfl,hb2⟩
  have hbW : Below w.heap.size w (w2.alloc (.cells #[.pointer (some ⟨d,0,none⟩), .string (Ae n), .bool false, .int .i64 0, .int .i64 0] 129)):=hb2.alloc hb2.size _
  have hgW : Lg B (w2.alloc (.cells #[.pointer (some ⟨d,0,none⟩), .string (Ae n), .bool false, .int .i64 0, .int .i64 0] 129)) F d w2.heap.size S ⟨n,false,0,0⟩:=by
   have hs2:=hb2.size
   refine ⟨H.out.keep (Dt hbW) (fun _ _ h=>h),Au w2 _,fun hf=>?_,by omega,hl70.2⟩
   have:=(H.out.2.1 _ hf).2
   omega
  have hlk:=look_lg hgW hB0 (HT.out.keep hbW) hb
  dsimp only at hlk
  rw [HK.out] at hlk
  have hszW : (w2.alloc (.cells #[.pointer (some ⟨d,0,none⟩), .string (Ae n), .bool false, .int .i64 0, .int .i64 0] 129)).heap.size=w2.heap.size+1:=by simp
  have hs2:=hb2.size
  go_wp2_with fail
  refine hlk.mono ?_
  rintro e w3 ⟨v3,rfl,rfl,ha⟩
  obtain ⟨F3,hg3,hf3,hc3⟩:=ha
  have HS:=Ab hszW
  clear hszW
  go_wp2
  go_ret3
  have hszW:=HS.out
  refine ⟨_,_,rfl,rfl,rfl,F3,hg3.1,fun k hk=>?_,?_⟩
  ·rcases hf3 k hk with h | h
   ·exact .inl h
   ·exact .inr (by omega)
  ·refine ((Dt hbW).mono fun _ _ h=>h.elim).trans hc3 fun k hk h=>?_
   rcases h with h | h
   ·exact h
   ·omega
 | some y=>
  obtain ⟨hy1,hy2,rfl⟩:=Lz hK
  have HK:=Ab hK
  clear hK
  dsimp only
  go_enter Tryz.func38,Tryz.ntmps38
  go_wp2_with fail
  refine hi.mono ?_
  rintro e w ⟨rfl,rfl⟩
  have hcl:=E9 w n (by omega)
  go_wp2_with fail
  refine hcl.mono ?_
  rintro e w2 ⟨rfl,hb2⟩
  have hbW : Below w.heap.size w (w2.alloc (.cells #[.pointer (some ⟨d,0,none⟩), .string (Ae n), .bool false, .int .i64 0, .int .i64 0] 129)):=hb2.alloc hb2.size _
  have hgW : Lg B (w2.alloc (.cells #[.pointer (some ⟨d,0,none⟩), .string (Ae n), .bool false, .int .i64 0, .int .i64 0] 129)) F d w2.heap.size S ⟨n,false,0,0⟩:=by
   have hs2:=hb2.size
   refine ⟨H.out.keep (Dt hbW) (fun _ _ h=>h),Au w2 _,fun hf=>?_,by omega,hl70.2⟩
   have:=(H.out.2.1 _ hf).2
   omega
  have hlk:=look_lg hgW hB0 (HT.out.keep hbW) hb
  dsimp only at hlk
  rw [HK.out] at hlk
  have hszW : (w2.alloc (.cells #[.pointer (some ⟨d,0,none⟩), .string (Ae n), .bool false, .int .i64 0, .int .i64 0] 129)).heap.size=w2.heap.size+1:=by simp
  have hs2:=hb2.size
  go_wp2_with fail
  refine hlk.mono ?_
  rintro e w3 ⟨v3,rfl,F3,b3,hg3,hf3,hc3,hgs,hb3,hF3⟩
  have HS:=Ab hszW
  have HGS:=Ab hgs
  obtain ⟨a3,c3,rfl,-⟩:=hgs.form
  clear hszW hgs
  go_wp2
  go_ret3
  have hszW:=HS.out
  refine ⟨_,_,rfl,w2.heap.size,F3,b3,rfl,hs2,hg3,fun k hk=>?_,?_,HGS.out,by omega,by omega,hF3⟩
  ·rcases hf3 k hk with h | h
   ·exact .inl h
   ·exact .inr (by omega)
  ·refine ((Dt hbW).mono fun _ _ h=>h.elim).trans hc3 fun k hk h=>?_
   rcases h with h | h
   ·exact h
   ·omega
end Go.Proofs.YtblniomnhpedjaaGreatDoor
namespace Go.Proofs.YtblniomnhpedjaaGreatDoor
open Go.RowKit
variable {w w' : World}
def Rs (w : World) (v : Value) (gs : List (List (List UInt8))) : Prop:=
 ∃ ao cap,v = .slice ao gs.length cap∧gs.length≤cap∧cap≤maxLen ∧
  (gs ≠ []→∃ b off,ao=some ⟨b,off,none⟩∧b<w.heap.size∧∀ j (h : j<gs.length),∃ x,w.cell? ⟨b,off+j,none⟩=some x∧Tx w x gs[j])
theorem Gs.rs {base : Nat} {v : Value} {gs : List (List (List UInt8))} (h : Gs w base v gs) : Rs w v gs:=by
 obtain ⟨vs,ho,hx⟩:=h
 have hl : vs.length=gs.length:=by have:=ho.1; omega
 have h0:=ho
 rcases ho.2 with ⟨rfl,hn⟩ | ⟨g,cap,cur,rfl,hg,hh,hc,hm,hs,ht⟩
 ·obtain rfl : gs = []:=List.eq_nil_of_length_eq_zero hn
  exact ⟨none,0,rfl,Nat.le_refl _,by simp,fun h=>absurd rfl h⟩
 ·refine ⟨_,_,rfl,hc,hm,fun _=>⟨g,0,rfl,At hh,fun j hj=>?_⟩⟩
  have hj' : vs[j]? = some vs[j]:=List.getElem?_eq_getElem (by omega)
  have hcell:=World.ownsRow.cells h0 (g:=g) rfl j _ hj'
  rw [Addr.add_lit] at hcell
  exact ⟨vs[j],hcell,Fw (hx j vs[j] gs[j] hj' (List.getElem?_eq_getElem hj))⟩
theorem Tx.quiet {v : Value} {xs : List (List UInt8)} (h : Tx w v xs) (hc : Chg (fun _=>False) w w') : Tx w' v xs:=h.chg hc fun _ _ h=>h
theorem Rs.quiet {v : Value} {gs : List (List (List UInt8))} (h : Rs w v gs) (hc : Chg (fun _=>False) w w') : Rs w' v gs:=by
 obtain ⟨ao,cap,hv,h1,h2,h4⟩:=h
 refine ⟨ao,cap,hv,h1,h2,fun hl=>?_⟩
 obtain ⟨b,off,ha,hlt,hcell⟩:=h4 hl
 refine ⟨b,off,ha,Nat.lt_of_lt_of_le hlt hc.size,fun j hj=>?_⟩
 obtain ⟨x,hx,hT⟩:=hcell j hj
 exact ⟨x,(World.cell?_of_block (w:=w) (hc.block b hlt (fun h=>h))).trans hx,hT.quiet hc⟩
theorem Rs.form {v : Value} {gs : List (List (List UInt8))} (h : Rs w v gs) : ∃ ao cap,v = .slice ao gs.length cap:=by
 obtain ⟨ao,cap,hv,-⟩:=h
 exact ⟨ao,cap,hv⟩
theorem Rs.at {ao : Option Addr} {n cap : Nat} {gs : List (List (List UInt8))} (h : Rs w (.slice ao n cap) gs) (j : Nat) (hj : j<gs.length) :
  ∃ b off,ao=some ⟨b,off,none⟩∧n=gs.length∧∃ x,w.cell? ⟨b,off+j,none⟩=some x∧Tx w x gs[j]:=by
 obtain ⟨ao',cap',hv,h1,h2,h4⟩:=h
 injection hv with e1 e2 e3
 subst e1 e2 e3
 obtain ⟨b,off,ha,hlt,hcell⟩:=h4 (fun e=>by rw [e] at hj; simp at hj)
 exact ⟨b,off,ha,rfl,hcell j hj⟩
theorem Tx.at {ao : Option Addr} {n cap : Nat} {xs : List (List UInt8)} (h : Tx w (.slice ao n cap) xs) (j : Nat) (hj : j<xs.length) :
  ∃ b off,ao=some ⟨b,off,none⟩∧w.cell? ⟨b,off+j,none⟩=some (.string (Ae xs[j])):=by
 obtain ⟨ao',cap',hv,h1,h2,h4⟩:=h
 injection hv with e1 e2 e3
 subst e1
 obtain ⟨b,off,ha,hlt,hcell⟩:=h4 (fun e=>by rw [e] at hj; simp at hj)
 exact ⟨b,off,ha,hcell j hj⟩
theorem Tx.len {v : Value} {xs : List (List UInt8)} (h : Tx w v xs) : xs.length≤maxLen:=by
 obtain ⟨ao',cap',hv,h1,h2,h4⟩:=h
 omega
theorem Rs.len {v : Value} {gs : List (List (List UInt8))} (h : Rs w v gs) : gs.length≤maxLen:=by
 obtain ⟨ao',cap',hv,h1,h2,h4⟩:=h
 omega
theorem D1 {a : Addr} {v : Value} (h : w.cell? a=some v) (hc : Chg (fun _=>False) w w') : w'.cell? a=some v:=(World.cell?_of_block (w:=w) (hc.block a.block (World.block_lt_of_cell? w a h) (fun h=>h))).trans h
theorem take_one {α : Type} {a b : List α} {k : Nat} (h : a.take k=b.take k) (ha : k<a.length) (hb : k<b.length) (e : a[k]=b[k]) : a.take (k+1)=b.take (k+1):=by
 rw [List.take_add_one,List.take_add_one,h,List.getElem?_eq_getElem ha,List.getElem?_eq_getElem hb,e]
end Go.Proofs.YtblniomnhpedjaaGreatDoor
