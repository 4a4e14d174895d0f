/-
  Texts joined: Puts, Takes, Heads, Recs, Recs2.
-/
import Derived.Test.YtblniomnhpedjaaGreatDoorP17WCrc
import Derived.Test.YtblniomnhpedjaaGreatDoorP3Made
import Derived.Deep.Upon
import Derived.Laws.AppendOwn
import Derived.Maps.AppendAt
import Derived.Test.YtblniomnhpedjaaGreatDoorP2Acts
import Derived.Deep.CutBlock
import Derived.Laws.MakeOwn
import Derived.Laws.CopyOwn
namespace Go.Proofs.YtblniomnhpedjaaGreatDoor
open Go.RowKit
theorem Ay {w : World} {base n size : Nat} {e : TypeId} {v : Value} {xs : List Value} (h : w.ownsRow base e size v n xs) : ∃ ao cap,v = .slice ao n cap∧n≤cap∧cap≤maxLen:=by
 rcases h.2 with ⟨rfl,rfl⟩ | ⟨g,cap',cur,rfl,hg,hh,h1,h2,-⟩
 ·exact ⟨none,0,rfl,Nat.le_refl _,by simp⟩
 ·exact ⟨_,_,rfl,h1,h2⟩
theorem Ck {w w' : World} {base n size : Nat} {e : TypeId} {v : Value} {xs : List Value} (h : w.ownsRow base e size v n xs) (hb : Below w.heap.size w w') : w'.ownsRow base e size v n xs:=by
 refine ⟨h.1,?_⟩
 rcases h.2 with h | ⟨g',cap',cur,rfl,hb',hh,r⟩
 ·exact Or.inl h
 ·exact Or.inr ⟨g',cap',cur,rfl,hb',(hb.block _ (At hh)).trans hh,r⟩
theorem E6 {w : World} {base base' n size : Nat} {e : TypeId} {v : Value} {xs : List Value} (h : w.ownsRow base e size v n xs) (hb : base'≤base) : w.ownsRow base' e size v n xs:=by
 refine ⟨h.1,?_⟩
 rcases h.2 with h | ⟨g',cap',cur,rfl,hb',r⟩
 ·exact Or.inl h
 ·exact Or.inr ⟨g',cap',cur,rfl,by omega,r⟩
theorem El (w : World) {base : Nat} {v x : Value} {a b : List UInt8} (ho : w.ownsRow base 5 1 v a.length (bc a)) (hs : Sl w x b) (hl : a.length+b.length≤140737488355328) (hB : base≤w.heap.size) (ty : TypeId) :
  ∃ v' w',(Builtin.append_ #[68,68] ty #[v,x]).run Tryz.prog w = .ok v' w'∧w'.ownsRow base 5 1 v' (a++b).length (bc (a++b))∧w.grownBy w' v.ownBlock:=by
 obtain ⟨i0,hi,hz0,hz1,hz2⟩:=info_parts Tryz.infoB
 by_cases he : b = []
 ·subst he
  obtain ⟨ao,cap,rfl,h1,h2,h3,-⟩:=hs
  cases ao with
  | none=>
   obtain ⟨av,cv,rfl,c1,c2⟩:=Ay ho
   refine ⟨_,w,run_append_nothing w _ _ _ _ i0 Tryz.underlying68 hi av a.length cv c1 _ ?_,by simpa using ho,⟨rfl,rfl,rfl,Nat.le_refl _,fun _ _ _=>rfl⟩⟩
   rw [hz1]
   exact Src.ofNil w Tryz.underlying68 cap
  | some ad=>
   obtain ⟨v',w',hr,hown,hg,_⟩:=run_append_own (P:=Tryz.prog) w base 68 ty 5 i0 (.int .u8 0) 1 1 Tryz.underlying68 hi hz0 hz1 hz2 rfl (by decide) v a.length (bc a) ho ad 0 cap [] rfl (fun j u hu=>by cases hu) (fun u hu=>by cases hu) (by unfold maxLen; simp at hl; omega) (by simp at hl; omega) hB
   exact ⟨v',w',hr,by simpa using hown,hg⟩
 ·obtain ⟨g,off,cap,rfl,hg,hc⟩:=hs.some he
  obtain ⟨v',w',hr,hown,hg,_⟩:=run_append_own (P:=Tryz.prog) w base 68 ty 5 i0 (.int .u8 0) 1 1 Tryz.underlying68 hi hz0 hz1 hz2 rfl (by decide) v a.length (bc a) ho ⟨g,off,none⟩ b.length cap (bc b) (by rw [C3,Nat.mul_one]) (fun j u hu=>by rw [Addr.add_lit]; exact hc j u hu) (E7 b) (by unfold maxLen; omega) (by omega) hB
  exact ⟨v',w',hr,by rw [Fa,List.length_append]; exact hown,hg⟩
theorem Qj (w : World) {ad : Addr} {x : Value} {a b : List UInt8} {cap : Nat} (ha : ∀ j u,(bc a)[j]? = some u→w.cell? (ad.add j)=some u) (hs : Sl w x b) (hne : b ≠ []) (hc : cap<a.length+b.length) (_hca : a.length≤cap) (hl : a.length+b.length≤140737488355328) (ty : TypeId) :
  ∃ v' w',(Builtin.append_ #[68,68] ty #[.slice (some ad) a.length cap,x]).run Tryz.prog w = .ok v' w'∧w'.ownsRow w.heap.size 5 1 v' (a++b).length (bc (a++b))∧Below w.heap.size w w':=by
 obtain ⟨i0,hi,hz0,hz1,hz2⟩:=info_parts Tryz.infoB
 obtain ⟨g,off,c2,rfl,hg,hcb⟩:=hs.some hne
 have h63 : a.length+b.length≤maxLen:=by unfold maxLen; omega
 have hge:=grownCap_ge w (a.length+b.length) cap 5
 have hcm:=grownCap_le_maxLen w (a.length+b.length) cap 5 h63
 refine ⟨_,_,run_append_grow (P:=Tryz.prog) w 68 ty 5 i0 (.int .u8 0) Tryz.underlying68 hi hz0 ad a.length cap (bc a) (by rw [C3,hz1,Nat.mul_one]) ha ⟨g,off,none⟩ b.length c2 (bc b) (by rw [C3,hz1,Nat.mul_one]) (fun j u hu=>by rw [Addr.add_lit]; exact hcb j u hu) hc (by omega) (by rw [hz2]; exact growslice_fits (by omega) (by omega)),⟨by rw [C3,Nat.mul_one], .inr ⟨w.heap.size,_,_,by rw [List.length_append],Nat.le_refl _,Au w.drew _,by rw [List.length_append]; exact hge,hcm,?_,?_⟩⟩,((Below.refl _ w).drew).alloc (Nat.le_refl _) _⟩
 ·simp only [Array.size_append,List.size_toArray,C3,size_zeroCells]
  have : (Value.int IntKind.u8 0).cells.size=1:=rfl
  rw [this]
  omega
 ·rw [Array.toList_append,Array.toList_append,← Fa,Nat.mul_one]
  exact List.take_left' (C3 _)
theorem Gl (n k : Nat) (_h : n<4294967296) (d : Int) (hd : d=(k : Int)) : IntKind.u8.wrap ((n : Int) / d)=((UInt8.ofNat (n / k)).toNat : Int):=by
 rw [hd,G1,IntKind.wrap_u8]
 omega
theorem u8_low0 (n : Nat) (_h : n<4294967296) : IntKind.u8.wrap (n : Int)=((UInt8.ofNat n).toNat : Int):=by
 rw [G1,IntKind.wrap_u8]
 omega
set_option maxRecDepth 20000 in
theorem putWord_any (w : World) (base : Nat) (v : Value) (l : List UInt8) (n : Nat) (hn : n<4294967296) (ho : w.ownsRow base 5 1 v l.length (bc l)) (hB : base≤w.heap.size) (hl : l.length≤1000) :
  Calls Tryz.prog 136 #[v, .int .u32 (n : Int)] w fun e w'=>∃ v',e = .returned v'∧w'.ownsRow base 5 1 v' (l++Bp n).length (bc (l++Bp n))∧Below base w w':=by
 have e1:=Gl n 16777216 hn 16777216 rfl
 have e2:=Gl n 65536 hn 65536 rfl
 have e3:=Gl n 256 hn 256 rfl
 have e4:=u8_low0 n hn
 have hsl : Sl (w.alloc (.cells (bc (Bp n)).toArray 5)) (.slice (some ⟨w.heap.size,0,none⟩) 4 4) (Bp n):=by
  refine ⟨_,_,rfl,Nat.le_refl _,by decide,by simp,fun _=>⟨w.heap.size,0,rfl,by simp,fun j hj=>?_⟩⟩
  rw [Nat.zero_add,Ad (Au w _),List.getElem?_toArray]
  exact Eu _ j hj
 obtain ⟨v',w',hrun,hown,hg⟩:=El _ (ho.alloc _) hsl (by rw [Gt]; omega) (by simp; omega) 68
 have hb : Below base w w':=((Below.refl base w).alloc hB _).grown hg (by simp; omega) (fun k hk=>(ho.lt k hk).1)
 have HR:=Ab hrun
 clear hrun hsl hg
 obtain ⟨ao,cap,rfl,c1,c2⟩:=Ay ho
 go_enter Tryz.func136,Tryz.ntmps136
 go_wp2_with (at_builtin; refine wpList_plain rfl (fun K hK=>Cg (.tmp 5) (.tmp 17) 68 rfl rfl rfl HR.out (hK _ _ ?_)))
 go_ret
 exact ⟨_,rfl,hown,hb⟩
set_option maxRecDepth 20000 in
theorem putWord_new (w : World) (ad : Addr) (l : List UInt8) (n : Nat) (hn : n<4294967296) (_hne : l ≠ []) (hs : Sl w (.slice (some ad) l.length l.length) l) (hl : l.length≤1000) :
  Calls Tryz.prog 136 #[.slice (some ad) l.length l.length, .int .u32 (n : Int)] w fun e w'=>∃ v',e = .returned v'∧w'.ownsRow w.heap.size 5 1 v' (l++Bp n).length (bc (l++Bp n))∧Below w.heap.size w w':=by
 have e1:=Gl n 16777216 hn 16777216 rfl
 have e2:=Gl n 65536 hn 65536 rfl
 have e3:=Gl n 256 hn 256 rfl
 have e4:=u8_low0 n hn
 have hb0 : Below w.heap.size w (w.alloc (.cells (bc (Bp n)).toArray 5)):=(Below.refl _ w).alloc (Nat.le_refl _) _
 have hsl : Sl (w.alloc (.cells (bc (Bp n)).toArray 5)) (.slice (some ⟨w.heap.size,0,none⟩) 4 4) (Bp n):=by
  refine ⟨_,_,rfl,Nat.le_refl _,by decide,by simp,fun _=>⟨w.heap.size,0,rfl,by simp,fun j hj=>?_⟩⟩
  rw [Nat.zero_add,Ad (Au w _),List.getElem?_toArray]
  exact Eu _ j hj
 obtain ⟨v',w',hrun,hown,hg⟩:=Qj (w.alloc (.cells (bc (Bp n)).toArray 5)) (a:=l) (cap:=l.length) (hs.cells hb0 ad rfl) hsl (by unfold Bp; simp) (by rw [Gt]; omega) (Nat.le_refl _) (by rw [Gt]; omega) 68
 have hb : Below w.heap.size w w':=hb0.trans (hg.mono hb0.size)
 have HR:=Ab hrun
 clear hrun hsl hg hs hb0
 go_enter Tryz.func136,Tryz.ntmps136
 go_wp2_with (at_builtin; refine wpList_plain rfl (fun K hK=>Cg (.tmp 5) (.tmp 17) 68 rfl rfl rfl HR.out (hK _ _ ?_)))
 go_ret
 exact ⟨_,rfl,E6 hown (by simp),hb⟩
theorem crc_lt (l : List UInt8) : crc l<4294967296:=by
 unfold crc
 exact Nat.xor_lt_two_pow (n:=32) (by omega) (I0 l _ (by omega))
set_option maxRecDepth 20000 in
theorem K9 (w : World) (v : Value) (l : List UInt8) (hs : Sl w v l) (hT : Bm w) :
  Calls Tryz.prog 116 #[v] w fun e w'=>∃ v',e = .returned v'∧w'.ownsRow w.heap.size 5 1 v' 4 (bc (Ah l))∧Below w.heap.size w w':=by
 have hb : Below w.heap.size w (w.alloc (.cells #[v] 68)):=(Below.refl _ w).alloc (Nat.le_refl _) _
 have hss : Ss (w.alloc (.cells #[v] 68)) (.slice (some ⟨w.heap.size,0,none⟩) 1 1) [l]:=by
  refine ⟨_,_,rfl,Nat.le_refl _,by decide,fun _=>⟨w.heap.size,0,rfl,by simp,fun j hj=>⟨v,?_,?_⟩⟩⟩
  ·obtain rfl : j=0:=by simp at hj; omega
   rw [Ad (Au w _)]
   rfl
  ·obtain rfl : j=0:=by simp at hj; omega
   exact hs.keepB hb
 have hc:=crc_any _ _ _ hss (hT.keep hb)
 simp only [List.flatten_cons,List.flatten_nil,List.append_nil] at hc
 have hlt:=crc_lt l
 unfold Ah
 have hp:=fun W=>putWord_any W W.heap.size (.slice none 0 0) [] (crc l) hlt (World.ownsRow_nil _ _ _ _) (Nat.le_refl _) (by simp)
 generalize crc l=c at *
 obtain ⟨ao,cap,rfl,-⟩:=hs
 clear hss hT
 go_enter Tryz.func116,Tryz.ntmps116
 go_wp2_with fail
 refine hc.mono ?_
 rintro e w1 ⟨rfl,rfl⟩
 go_wp2_with fail
 refine (hp _).mono ?_
 rintro e w2 ⟨v',rfl,hown,hb2⟩
 go_wp2
 go_ret
 rw [List.nil_append,Gt] at hown
 exact ⟨_,rfl,E6 hown hb.size,hb.trans (hb2.mono hb.size)⟩
set_option maxRecDepth 20000 in
theorem O4 (w : World) (n : Nat) (hn : n<4294967296) (hT : Bm w) :
  Calls Tryz.prog 115 #[.int .i64 (n : Int)] w fun e w'=>∃ v',e = .returned v'∧w'.ownsRow w.heap.size 5 1 v' 12 (bc (hdW Ah n))∧Below w.heap.size w w':=by
 have hb : Below w.heap.size w (w.alloc (.cells #[.int .u8 245, .int .u8 119, .int .u8 97, .int .u8 108] 5 (4,5))):=(Below.refl _ w).alloc (Nat.le_refl _) _
 have hcv:=conv33 w #[.int .u8 245, .int .u8 119, .int .u8 97, .int .u8 108] 4 4 w.heap.size rfl
 have ho : Sl (w.alloc (.cells #[.int .u8 245, .int .u8 119, .int .u8 97, .int .u8 108] 5 (4,5))) (.slice (some ⟨w.heap.size,0,none⟩) mkW.length mkW.length) mkW:=by
  refine ⟨_,_,rfl,Nat.le_refl _,by decide,by simp,fun _=>⟨w.heap.size,0,rfl,by simp,fun j hj=>?_⟩⟩
  rw [Nat.zero_add,Ad (Au w _)]
  have : (#[.int .u8 245, .int .u8 119, .int .u8 97, .int .u8 108] : Array Value)=(bc mkW).toArray:=rfl
  rw [this,List.getElem?_toArray]
  exact Eu _ j hj
 have hw : IntKind.u32.wrap (n : Int)=(n : Int):=by rw [IntKind.wrap_u32]; omega
 have hp:=putWord_new _ _ mkW n hn (by decide) ho (by decide)
 rw [show mkW.length=4 from rfl] at hp
 have HT:=Ab hT
 clear ho hT
 go_enter Tryz.func115,Tryz.ntmps115
 go_wp2_with fail
 refine hp.mono ?_
 rintro e w1 ⟨v1,rfl,ho1,hb1⟩
 have ho1:=E6 ho1 hb.size
 have hB1:=hb.trans (hb1.mono hb.size)
 have hsl:=Dh ho1
 have hps:=K9 w1 v1 _ hsl (HT.out.keep hB1)
 have HO1:=Ab ho1
 obtain ⟨ao,cap,rfl,-⟩:=Ay ho1
 clear hsl ho1 hp hb1
 go_wp2_with fail
 refine hps.mono ?_
 rintro e w2 ⟨v2,rfl,ho2,hb2⟩
 have hB2:=hB1.trans (hb2.mono hB1.size)
 have hs2:=Dh (l:=Ah (mkW++Bp n)) (by rw [Dj]; exact ho2)
 obtain ⟨v3,w3,hrun,hown,hg⟩:=El w2 (Ck HO1.out hb2) hs2 (by rw [Ho,Dj]; omega) hB2.size 68
 have hB3 : Below w.heap.size w w3:=hB2.grown hg hB2.size (fun k hk=>(HO1.out.lt k hk).1)
 have HR:=Ab hrun
 obtain ⟨a2,c2,rfl,-⟩:=Ay ho2
 obtain ⟨a3,c3,rfl,-⟩:=Ay hown
 clear hrun hg hs2 ho2 hps
 go_wp2_with (at_builtin; refine wpList_plain rfl (fun K hK=>Cg (.tmp 9) (.tmp 11) 68 rfl rfl rfl HR.out (hK _ _ ?_)))
 go_ret
 exact ⟨_,rfl,hown,hB3⟩
def Tx (w : World) (v : Value) (xs : List (List UInt8)) : Prop:=
 ∃ ao cap,v = .slice ao xs.length cap∧xs.length≤cap∧cap≤maxLen ∧
  (xs ≠ []→∃ b off,ao=some ⟨b,off,none⟩∧b<w.heap.size∧∀ j (h : j<xs.length),w.cell? ⟨b,off+j,none⟩=some (.string (Ae xs[j])))
theorem Tx.nil (w : World) : Tx w (.slice none 0 0) []:=⟨none,0,rfl,Nat.le_refl _,by simp,fun h=>absurd rfl h⟩
theorem Tx.keep {w w' : World} {v : Value} {xs : List (List UInt8)} (h : Tx w v xs) (hb : Below w.heap.size w w') : Tx w' v xs:=by
 obtain ⟨ao,cap,hv,h1,h2,h4⟩:=h
 refine ⟨ao,cap,hv,h1,h2,fun hl=>?_⟩
 obtain ⟨b,off,ha,hlt,hc⟩:=h4 hl
 exact ⟨b,off,ha,Nat.lt_of_lt_of_le hlt hb.size,fun j hj=>(hb.cell (p:=⟨b,off+j,none⟩) hlt).trans (hc j hj)⟩
theorem sum_take {xs : List (List UInt8)} {k : Nat} (h : k<xs.length) : ((xs.take (k+1)).map List.length).sum=((xs.take k).map List.length).sum+xs[k].length:=by
 rw [List.take_add_one,List.getElem?_eq_getElem h]
 simp only [Option.toList_some,List.map_append,List.map_cons,List.map_nil,List.sum_append,List.sum_cons,List.sum_nil]
 omega
set_option maxRecDepth 20000 in
theorem M7 (w : World) (v : Value) (rs : List (List UInt8)) (h : Tx w v rs) (hl : ∀ r∈rs,r.length≤140737488355328) :
  Calls Tryz.prog 87 #[v] w fun e w'=>e = .returned (.bool (right rs))∧w'=w:=by
 obtain ⟨ao,cap,rfl,h1,h2,h4⟩:=h
 unfold maxLen at h2
 by_cases hm : 8192<rs.length
 ·have hr : right rs=false:=by unfold right; rw [decide_eq_false (by omega)]; rfl
  go_enter Tryz.func87,Tryz.ntmps87
  go_wp2
  go_ret
  exact ⟨D2 hr.symm,rfl⟩
 ·have hbd : ∀ k,k≤rs.length→((rs.take k).map List.length).sum≤140737488355328 * k:=fun k=>by
   induction k with
   | zero=>intro _; simp
   | succ k ih=>
    intro hk
    rw [sum_take (by omega)]
    have:=ih (by omega)
    have:=hl rs[k] (List.getElem_mem _)
    omega
  have HL:=Ab hl
  clear hl
  go_enter Tryz.func87,Tryz.ntmps87
  go_wp2
  go_loopw [11,3] (fun i n wr=>∃ k : Nat,i = .int .i64 (k : Int)∧k≤rs.length∧n = .int .i64 (((rs.take k).map List.length).sum : Int)∧wr=w)
   (fun i _ _=>rs.length - (intOf i).toNat)
  case atStart=>exact ⟨0,rfl,Nat.zero_le _,by simp,rfl⟩
  case round=>
   obtain ⟨k,rfl,hk,rfl,rfl⟩:=hrel
   have hb0:=hbd k hk
   by_cases hlt : k<rs.length
   ·obtain ⟨b,off,rfl,hb,hc⟩:=h4 (by rintro rfl; simp at hlt)
    have hck:=hc k hlt
    have hst:=sum_take hlt
    have hll:=HL.out rs[k] (List.getElem_mem _)
    have hss:=B1 rs[k]
    clear hc h4 hbd
    have HST:=Ab hst
    clear hst
    generalize rs[k]=r at *
    generalize ((rs.take k).map List.length).sum=m at *
    go_wp2_with fail
    exact ⟨⟨k+1,by go_num,by omega,by rw [HST.out]; go_num,trivial⟩,by simp [intOf]; omega⟩
   ·obtain rfl : k=rs.length:=by omega
    rw [List.take_length] at *
    have hr : right rs=decide ((rs.map List.length).sum≤2097152):=by unfold right; rw [decide_eq_true (by omega)]; rfl
    clear h4 hbd
    generalize (rs.map List.length).sum=m at *
    by_cases hm2 : m≤2097152
    ·go_wp2
     go_ret
     exact ⟨D2 (by rw [hr,decide_eq_true hm2]; exact decide_eq_true (by omega)),rfl⟩
    ·go_wp2
     go_ret
     exact ⟨D2 (by rw [hr,decide_eq_false hm2]; exact decide_eq_false (by omega)),rfl⟩
theorem txt_put (r : List UInt8) : []++(Pl.enc (Pl.zz (Ae r).size)++(Ae r).data.toList)=txt r:=by
 rw [B1,Dg]
 rfl
theorem body_snoc {rs : List (List UInt8)} {k : Nat} (h : k<rs.length) : Am (rs.take (k+1))=Am (rs.take k)++txt rs[k]:=by
 rw [List.take_add_one,List.getElem?_eq_getElem h,Nz]
 simp [Am]
theorem body_part {rs : List (List UInt8)} (k : Nat) : (Am (rs.take k)).length≤(Am rs).length:=by
 have:=congrArg (fun x=>(Am x).length) (List.take_append_drop k rs)
 simp only [Nz,List.length_append] at this
 omega
set_option maxRecDepth 20000 in
set_option maxHeartbeats 800000 in
theorem Hk (w : World) (v : Value) (rs : List (List UInt8)) (h : Tx w v rs) (hr : right rs=true) (hT : Bm w) :
  Calls Tryz.prog 89 #[v] w fun e w'=>∃ v',e = .returned v'∧w'.ownsRow w.heap.size 5 1 v' (grp Ah rs).length (bc (grp Ah rs))∧Below w.heap.size w w':=by
 have hbl:=J1 hr
 have hea:=Ga hr
 obtain ⟨ao,cap,rfl,h1,h2,h4⟩:=h
 unfold maxLen at h2
 have hcnt:=(Jl hr).1
 have HT:=Ab hT
 have HE:=Ab hea
 clear hT hr hea
 go_enter Tryz.func89,Tryz.ntmps89
 go_wp2
 go_loopw [8,3] (fun i b wr=>∃ k : Nat,i = .int .i64 (k : Int)∧k≤rs.length∧wr.ownsRow w.heap.size 5 1 b (Am (rs.take k)).length (bc (Am (rs.take k)))∧Below w.heap.size w wr)
  (fun i _ _=>rs.length - (intOf i).toNat)
 case atStart=>exact ⟨0,rfl,Nat.zero_le _,World.ownsRow_nil _ _ _ _,Below.refl _ _⟩
 case round=>
  obtain ⟨k,rfl,hk,hrow,hB⟩:=hrel
  by_cases hlt : k<rs.length
  ·obtain ⟨b,off,rfl,hb,hc⟩:=h4 (by rintro rfl; simp at hlt)
   have hck:=(hB.cell (p:=⟨b,off+k,none⟩) hb).trans (hc k hlt)
   have hbs:=body_snoc hlt
   have hrl:=HE.out rs[k] (List.getElem_mem _)
   have hbp:=body_part (rs:=rs) (k+1)
   have hpt:=fun W=>Kl W (.slice none 0 0) [] (Ae rs[k]) (Sl.nil _) (by rw [B1]; simp; omega)
   rw [txt_put] at hpt
   have HBS:=Ab hbs
   have HRW:=Ab hrow
   rw [hbs,List.length_append] at hbp
   clear hc h4 hbs
   generalize rs[k]=r at *
   obtain ⟨ab,cb,rfl,-⟩:=Ay hrow
   clear hrow
   go_wp2_with fail
   refine (hpt _).mono ?_
   rintro e w1 ⟨g,m,c,rfl,hm,hmc,hsl,hb1⟩
   clear hm
   have hB1:=hB.trans (hb1.mono hB.size)
   obtain ⟨v2,w2,hrun,hown,hg⟩:=El w1 (Ck HRW.out hb1) hsl (by omega) hB1.size 68
   have hB2 : Below w.heap.size w w2:=hB1.grown hg hB1.size (fun j hj=>(HRW.out.lt j hj).1)
   have HR:=Ab hrun
   rw [← HBS.out] at hown
   obtain ⟨a2,c2,rfl,-⟩:=Ay hown
   clear hrun hg hsl hpt
   go_wp2_with (at_builtin; refine wpList_plain rfl (fun K hK=>Cg (.tmp 12) (.tmp 14) 68 rfl rfl rfl HR.out (hK _ _ ?_)))
   exact ⟨⟨k+1,by go_num,by omega,hown,hB2⟩,by simp [intOf]; omega⟩
  ·obtain rfl : k=rs.length:=by omega
   rw [List.take_length] at hrow
   have HRW:=Ab hrow
   have hph:=fun W hW=>O4 W (Am rs).length (by omega) hW
   obtain ⟨ab,cb,rfl,-⟩:=Ay hrow
   clear hrow h4
   go_wp2_with fail
   refine (hph _ (HT.out.keep hB)).mono ?_
   rintro e w1 ⟨v1,rfl,ho1,hb1⟩
   have hB1:=hB.trans (hb1.mono hB.size)
   have hrw1:=Ck HRW.out hb1
   obtain ⟨v2,w2,hrun,hown,hg⟩:=El w1 (a:=hdW Ah (Am rs).length) (by rw [Ez Dj]; exact E6 ho1 hB.size) (Dh hrw1) (by rw [Ez Dj]; omega) hB1.size 68
   have hB2 : Below w.heap.size w w2:=hB1.grown hg hB1.size (fun j hj=>Nat.le_trans hB.size (ho1.lt j hj).1)
   have hne1 : ∀ k,(Value.slice ab (Am rs).length cb).ownBlock=some k→some k≠v1.ownBlock:=fun k hk e=>by
    have a1:=(HRW.out.lt k hk).2
    have a2:=(ho1.lt k e.symm).1
    omega
   have hrw2 : w2.ownsRow w.heap.size 5 1 (.slice ab (Am rs).length cb) (Am rs).length (bc (Am rs)):=hrw1.kept hg (by
    cases hv : (Value.slice ab (Am rs).length cb).ownBlock with
    | none=>exact .inl rfl
    | some k=>exact .inr (fun e=>hne1 k hv (by rw [← e])))
   have HR:=Ab hrun
   have hps:=K9 w2 _ _ (Dh hrw2) (HT.out.keep hB2)
   have HO2:=Ab hown
   obtain ⟨a1,c1,rfl,-⟩:=Ay ho1
   obtain ⟨a2,c2,rfl,-⟩:=Ay hown
   clear hrun hg hph ho1 hrw1 hrw2 hown hne1
   generalize hL2 : (hdW Ah (Am rs).length++Am rs).length=L2 at *
   have HL2:=Ab hL2
   have hL2b : L2≤2129932:=by rw [← hL2,List.length_append,Ez Dj]; omega
   clear hL2
   go_wp2_with (at_builtin; refine wpList_plain rfl (fun K hK=>Cg (.tmp 19) (.tmp 20) 68 rfl rfl rfl HR.out (hK _ _ ?_)))
   refine hps.mono ?_
   rintro e w3 ⟨v3,rfl,ho3,hb3⟩
   have hB3:=hB2.trans (hb3.mono hB2.size)
   obtain ⟨v4,w4,hrun,hown,hg⟩:=El w3 (a:=hdW Ah (Am rs).length++Am rs) (by rw [HL2.out]; exact Ck HO2.out hb3) (Dh (l:=Ah (Am rs)) (by rw [Dj]; exact ho3)) (by rw [HL2.out,Dj]; omega) hB3.size 68
   have hB4 : Below w.heap.size w w4:=hB3.grown hg hB3.size (fun j hj=>(HO2.out.lt j hj).1)
   have HR2:=Ab hrun
   have eg : hdW Ah (Am rs).length++Am rs++Ah (Am rs)=grp Ah rs:=by unfold grp; rw [List.append_assoc]
   rw [eg] at hown
   obtain ⟨a3,c3,rfl,-⟩:=Ay ho3
   obtain ⟨a4,c4,rfl,-⟩:=Ay hown
   clear hrun hg hps ho3
   go_wp2_with (at_builtin; refine wpList_plain rfl (fun K hK=>Cg (.tmp 21) (.tmp 23) 68 rfl rfl rfl HR2.out (hK _ _ ?_)))
   go_ret
   exact ⟨_,rfl,hown,hB4⟩
end Go.Proofs.YtblniomnhpedjaaGreatDoor
namespace Go.Proofs.YtblniomnhpedjaaGreatDoor
open Go.RowKit
theorem Ii (w : World) {ao : Option Addr} {n cap : Nat} {l : List UInt8} (h : Sl w (.slice ao n cap) l) (i : Nat) (hi : i≤l.length) : ∃ v',(∀ W : World,(Instr.slice 68 (.slice ao n cap) (some (.int .i64 (i : Int))) none none).run Tryz.prog W = .ok v' W)∧Sl w v' (l.drop i):=by
 have h0:=h
 obtain ⟨ao0,cap0,hv,h1,h2,h3,h4⟩:=h0
 injection hv with e1 e2 e3
 subst e1 e2 e3
 have a1 : (i : Int)≤(l.length : Int):=by omega
 by_cases hc : i<cap
 ·refine ⟨.slice (Option.map (fun x=>x.add i) ao) (l.length - i) (cap - i),fun W=>?_,?_⟩
  ·have e : ¬ cap - i=0:=by omega
   have e2 : ¬ cap=i:=by omega
   simp [Instr.slice,run_underlying Tryz.underlying68,Instr.sliceBounds,run_sliceBound,a1,e2,Result.andThen]
  ·have:=Sl.cutAt (r:=i) (m:=l.length - i) (by omega) hc h
   rwa [List.take_of_length_le (by simp)] at this
 ·have hil : i=l.length:=by omega
  have hic : i=cap:=by omega
  refine ⟨.slice ao (l.length - i) 0,fun W=>?_,?_⟩
  ·have e : cap - i=0:=by omega
   have e2 : cap=i:=by omega
   have e3 : ¬ i<cap:=by omega
   simp [Instr.slice,run_underlying Tryz.underlying68,Instr.sliceBounds,run_sliceBound,a1,e2,Result.andThen]
  ·have:=Sl.cutEnd (n:=l.length) (r:=i) (m:=l.length - i) (l:=l) (ao:=ao) (w:=w) (by omega) (by rw [hic]; exact h)
   rwa [List.take_of_length_le (by simp)] at this
theorem run_to (w : World) {ao : Option Addr} {n cap : Nat} {l : List UInt8} (h : Sl w (.slice ao n cap) l) (i : Nat) (hi : i≤l.length) : (∀ W : World,(Instr.slice 68 (.slice ao n cap) none (some (.int .i64 (i : Int))) none).run Tryz.prog W = .ok (.slice ao i cap) W)∧Sl w (.slice ao i cap) (l.take i):=by
 have h0:=h
 obtain ⟨ao0,cap0,hv,h1,h2,h3,h4⟩:=h0
 injection hv with e1 e2 e3
 subst e1 e2 e3
 have a1 : (i : Int)≤(cap : Int):=by omega
 refine ⟨fun W=>?_,?_⟩
 ·simp [Instr.slice,run_underlying Tryz.underlying68,Instr.sliceBounds,run_sliceBound,a1,Result.andThen]
  intro _
  cases ao <;> simp [Addr.add]
 ·have hl : (l.take i).length=i:=by rw [List.length_take]; omega
  refine ⟨ao,cap,by rw [hl],by omega,h2,h3,fun hne=>?_⟩
  obtain ⟨b,off,ha,hb,hc⟩:=h4 (by rintro rfl; simp at hne)
  refine ⟨b,off,ha,hb,fun j hj=>?_⟩
  rw [hl] at hj
  rw [hc j (by omega),List.getElem_take]
theorem Sl.form {w : World} {v : Value} {l : List UInt8} (h : Sl w v l) : ∃ ao cap,v = .slice ao l.length cap∧l.length≤cap∧cap≤maxLen:=by
 obtain ⟨ao,cap,rfl,h1,h2,-⟩:=h
 exact ⟨ao,cap,rfl,h1,h2⟩
set_option maxRecDepth 20000 in
theorem M2 (w : World) (v : Value) (l : List UInt8) (n : Nat) (h : Sl w v l) (_hn : n≤9223372036854775807) :
  Calls Tryz.prog 126 #[v, .int .i64 (n : Int)] w fun e w'=>∃ v1 v2,e = .returned (.tuple #[v1,v2])∧Sl w' v1 (l.take n)∧Sl w' v2 (l.drop n)∧Below w.heap.size w w':=by
 obtain ⟨ao,cap,rfl,h1,h2⟩:=h.form
 unfold maxLen at h2
 by_cases hc : n≤l.length
 ·obtain ⟨v2,hr2,hs2⟩:=Ii w h n hc
  obtain ⟨hr1,hs1⟩:=run_to w h n hc
  have H1:=Ab hs1
  have H2:=Ab hs2
  obtain ⟨a2,c2,rfl,-⟩:=hs2.form
  generalize (l.drop n).length=m2 at *
  clear h hs1 hs2
  go_enter Tryz.func126,Tryz.ntmps126
  go_wp2_with fail
  all_goals (go_region; go_wp2; go_ret2; exact ⟨_,_,rfl,H1.out,H2.out,(Below.refl _ w).drew⟩)
 ·obtain ⟨v2,hr2,hs2⟩:=Ii w h l.length (Nat.le_refl _)
  obtain ⟨hr1,hs1⟩:=run_to w h l.length (Nat.le_refl _)
  rw [show l.drop l.length=l.drop n by rw [List.drop_eq_nil_of_le (Nat.le_refl _),List.drop_eq_nil_of_le (by omega)]] at hs2
  rw [show l.take l.length=l.take n by rw [List.take_of_length_le (Nat.le_refl _),List.take_of_length_le (by omega)]] at hs1
  have H1:=Ab hs1
  have H2:=Ab hs2
  obtain ⟨a2,c2,rfl,-⟩:=hs2.form
  generalize (l.drop n).length=m2 at *
  clear h hs1 hs2
  go_enter Tryz.func126,Tryz.ntmps126
  go_wp2_with fail
  all_goals (go_region; go_wp2; go_ret2; exact ⟨_,_,rfl,H1.out,H2.out,(Below.refl _ w).drew⟩)
theorem eq_strB (a b : List UInt8) : ((Ae a).toList == (Ae b).toList)=decide (a=b):=by
 rw [ByteArray.toList_eq,ByteArray.toList_eq,Dg,Dg]
 by_cases h : a=b
 ·rw [h,decide_eq_true rfl]; exact beq_self_eq_true _
 ·rw [decide_eq_false h]; exact beq_eq_false_iff_ne.2 h
set_option maxRecDepth 20000 in
theorem equal_any (w : World) (v u : Value) (a b : List UInt8) (h : Sl w v a) (k : Sl w u b) :
  Calls Tryz.prog 152 #[v,u] w fun e w'=>e = .returned (.bool (decide (a=b)))∧w'=w:=by
 have h1 : (convert 68 9 v).run Tryz.prog w = .ok (.string (Ae a)) w:=G9 w v a h
 have h2 : (convert 68 9 u).run Tryz.prog w = .ok (.string (Ae b)) w:=G9 w u b k
 have he:=eq_strB a b
 obtain ⟨ao,ca,rfl,-⟩:=h.form
 obtain ⟨bo,cb,rfl,-⟩:=k.form
 clear h k
 go_enter Tryz.func152,Tryz.ntmps152
 go_wp2
 go_ret
 exact ⟨rfl,rfl⟩
set_option maxRecDepth 20000 in
theorem Og (w : World) (v u : Value) (a b : List UInt8) (h : Sl w v a) (k : Sl w u b) :
  Calls Tryz.prog 128 #[v,u] w fun e w'=>e = .returned (.bool (b.isPrefixOf a))∧w'=w:=by
 obtain ⟨ao,ca,rfl,h1,h2⟩:=h.form
 obtain ⟨bo,cb,rfl,k1,k2⟩:=k.form
 unfold maxLen at h2 k2
 by_cases hl : b.length≤a.length
 ·obtain ⟨hr,hs⟩:=run_to w h b.length hl
  have heq:=equal_any w _ _ _ _ hs k
  have hp : b.isPrefixOf a=decide (a.take b.length=b):=by
   by_cases e : a.take b.length=b
   ·rw [decide_eq_true e]; exact Dy.2 ⟨a.drop b.length,by conv=>lhs; rw [← List.take_append_drop b.length a,e]⟩
   ·rw [decide_eq_false e]
    cases hq : b.isPrefixOf a with
    | false=>rfl
    | true=>
     obtain ⟨c,hc⟩:=Dy.1 hq
     exact absurd (by rw [hc,List.take_left]) e
  rw [hp]
  generalize decide (a.take b.length=b)=r at *
  clear h k hs hp
  go_enter Tryz.func128,Tryz.ntmps128
  go_wp2_with fail
  refine heq.mono ?_
  rintro e w1 ⟨rfl,rfl⟩
  go_wp2
  go_ret
  exact ⟨rfl,rfl⟩
 ·have hp : b.isPrefixOf a=false:=by
   cases hq : b.isPrefixOf a with
   | false=>rfl
   | true=>
    obtain ⟨c,hc⟩:=Dy.1 hq
    rw [hc,List.length_append] at hl
    omega
  rw [hp]
  clear h k
  go_enter Tryz.func128,Tryz.ntmps128
  go_wp2
  go_ret
  exact ⟨rfl,rfl⟩
end Go.Proofs.YtblniomnhpedjaaGreatDoor
namespace Go.Proofs.YtblniomnhpedjaaGreatDoor
open Go.RowKit
theorem sl_at {w : World} {v : Value} {l : List UInt8} (h : Sl w v l) (hne : l ≠ []) : ∃ b off cap,v = .slice (some ⟨b,off,none⟩) l.length cap∧l.length≤cap∧cap≤maxLen∧b<w.heap.size∧∀ j (hj : j<l.length),w.cell? ⟨b,off+j,none⟩=some (.int .u8 ((l[j]'hj).toNat : Int)):=by
 obtain ⟨ao,cap,rfl,h1,h2,h3,h4⟩:=h
 obtain ⟨b,off,rfl,hb,hc⟩:=h4 hne
 exact ⟨b,off,cap,rfl,h1,h2,hb,hc⟩
theorem or_sum (i a b : Nat) (hb : b<2 ^ i) (h : 2 ^ i * a+b<4294967296) : bits .or .u32 ((2 ^ i * a : Nat) : Int) (b : Int)=((2 ^ i * a+b : Nat) : Int):=by
 rw [u32_or_nat _ _ (by omega) (by omega),← Nat.two_pow_add_eq_or_of_lt hb]
set_option maxRecDepth 20000 in
theorem takeWord_any (w : World) (v : Value) (a b c d : UInt8) (r : List UInt8) (h : Sl w v (a :: b :: c :: d :: r)) :
  Calls Tryz.prog 150 #[v] w fun e w'=>e = .returned (.int .u32 (Dz [a,b,c,d] : Int))∧Below w.heap.size w w':=by
 obtain ⟨g,off,cap,rfl,h1,h2,hg,hc⟩:=sl_at h (by simp)
 have hL4 : 4≤(a :: b :: c :: d :: r).length:=by simp
 have c0:=hc 0 (by simp)
 have c1:=hc 1 (by simp)
 have c2:=hc 2 (by simp)
 have c3:=hc 3 (by simp)
 simp only [List.getElem_cons_zero,List.getElem_cons_succ,Nat.add_zero] at c0 c1 c2 c3
 have ha:=a.toNat_lt
 have hb:=b.toNat_lt
 have hcc:=c.toNat_lt
 have hd:=d.toNat_lt
 have hw : Dz [a,b,c,d]=a.toNat * 16777216+b.toNat * 65536+c.toNat * 256+d.toNat:=rfl
 rw [hw]
 clear hw
 clear hc h
 generalize (a :: b :: c :: d :: r).length=L at *
 have l0 : (0 : Int)<(L : Int):=by omega
 have l1 : (1 : Int)<(L : Int):=by omega
 have l2 : (2 : Int)<(L : Int):=by omega
 have l3 : (3 : Int)<(L : Int):=by omega
 unfold maxLen at h2
 generalize a.toNat=a at *
 generalize b.toNat=b at *
 generalize c.toNat=c at *
 generalize d.toNat=d at *
 have l00 : 0<L:=by omega
 have wr : ∀ x : Nat,x<256→IntKind.u32.wrap (x : Int)=(x : Int):=fun x hx=>by rw [IntKind.wrap_u32]; omega
 have wa:=wr a ha
 have wb:=wr b hb
 have wc:=wr c hcc
 have wd:=wr d hd
 obtain ⟨A,hA⟩ : ∃ A,A=2 ^ 24 * a:=⟨_,rfl⟩
 obtain ⟨B,hB⟩ : ∃ B,B=2 ^ 16 * b:=⟨_,rfl⟩
 obtain ⟨C,hC⟩ : ∃ C,C=2 ^ 8 * c:=⟨_,rfl⟩
 have ma : IntKind.u32.wrap ((a : Int) * 16777216)=(A : Int):=by rw [IntKind.wrap_u32,hA]; omega
 have mb : IntKind.u32.wrap ((b : Int) * 65536)=(B : Int):=by rw [IntKind.wrap_u32,hB]; omega
 have mc : IntKind.u32.wrap ((c : Int) * 256)=(C : Int):=by rw [IntKind.wrap_u32,hC]; omega
 obtain ⟨X,hX⟩ : ∃ X,X=A+B:=⟨_,rfl⟩
 obtain ⟨Y,hY⟩ : ∃ Y,Y=X+C:=⟨_,rfl⟩
 obtain ⟨Z,hZ⟩ : ∃ Z,Z=Y+d:=⟨_,rfl⟩
 have o1 : bits .or .u32 (A : Int) (B : Int)=(X : Int):=by
  have:=or_sum 24 a B (by omega) (by omega)
  rw [hX,hA]
  exact this
 have o2 : bits .or .u32 (X : Int) (C : Int)=(Y : Int):=by
  have:=or_sum 16 (2 ^ 8 * a+b) C (by omega) (by omega)
  rw [show 2 ^ 16 * (2 ^ 8 * a+b)=X by omega] at this
  rw [hY]
  exact this
 have o3 : bits .or .u32 (Y : Int) (d : Int)=(Z : Int):=by
  have:=or_sum 8 (2 ^ 16 * a+2 ^ 8 * b+c) d (by omega) (by omega)
  rw [show 2 ^ 8 * (2 ^ 16 * a+2 ^ 8 * b+c)=Y by omega] at this
  rw [hZ]
  exact this
 have hT : a * 16777216+b * 65536+c * 256+d=Z:=by omega
 rw [hT]
 clear hT hA hB hC hX hY hZ wr
 go_enter Tryz.func150,Tryz.ntmps150
 go_wp2_with fail
 refine wp_region_held_drew (S:=fun W=>W.cell? ⟨g,off,none⟩=some (.int .u8 (a : Int))∧W.cell? ⟨g,off+1,none⟩=some (.int .u8 (b : Int))∧W.cell? ⟨g,off+2,none⟩=some (.int .u8 (c : Int))∧W.cell? ⟨g,off+3,none⟩=some (.int .u8 (d : Int))) (by kernel_rfl) (⟨c0,c1,c2,c3⟩) (fun hHeld=>?_)
 refine Aa 0 hHeld ?_
 refine Aa 1 hHeld ?_
 refine Aa 2 hHeld ?_
 refine Aa 3 hHeld ?_
 refine Aa 4 hHeld ?_
 refine Aa 5 hHeld ?_
 refine Aa 6 hHeld ?_
 refine Aa 7 hHeld ?_
 refine Aa 8 hHeld ?_
 refine Aa 9 hHeld ?_
 refine Aa 10 hHeld ?_
 refine Aa 11 hHeld ?_
 refine Aa 12 hHeld ?_
 refine Aa 13 hHeld ?_
 refine Aa 14 hHeld ?_
 refine Aa 15 hHeld ?_
 refine Aa 16 hHeld ?_
 refine Aa 17 hHeld ?_
 refine Aa 18 hHeld ?_
 refine Aa 19 hHeld ?_
 refine Aa 20 hHeld ?_
 refine Aa 21 hHeld ?_
 refine Aa 22 hHeld ?_
 refine wpAnyH_done (by kernel_rfl) ?_ _
 go_wp2
 go_ret
 exact ⟨rfl,(Below.refl _ w).drew⟩
theorem four_of {l : List UInt8} (h : 4≤l.length) : ∃ a b c d r,l=a :: b :: c :: d :: r:=by
 match l,h with
 | a :: b :: c :: d :: r,_=>exact ⟨a,b,c,d,r,rfl⟩
def zs : List Value:=bc (List.replicate 12 0)
theorem splice_zs (q : List UInt8) (_h : q.length≤12) : splice zs 0 (bc q)=bc (q++List.replicate (12 - q.length) 0):=by
 unfold splice zs
 rw [List.take_zero,List.nil_append,Nat.zero_add,C3,Fa]
 congr 1
 unfold bc
 rw [← List.map_drop,List.drop_replicate]
theorem sizeOf8 : (Tryz.prog.info? 5).map (·.size)=some 1:=by kernel_rfl
theorem headW_eq (cs : List UInt8→List UInt8) (l : List UInt8) (s : Nat) (h : Dz (((l.take 12++List.replicate (12 - (l.take 12).length) 0).drop 4).take 4)=s) : Di cs l=if 2129920<s then (0,false) else (s,(l.take 12).isPrefixOf (hdW cs s)):=by
 subst h
 rfl
theorem unword_lt (a b c d : UInt8) : Dz [a,b,c,d]<4294967296:=by
 have:=a.toNat_lt
 have:=b.toNat_lt
 have:=c.toNat_lt
 have:=d.toNat_lt
 show a.toNat * 16777216+b.toNat * 65536+c.toNat * 256+d.toNat<4294967296
 omega
set_option maxRecDepth 20000 in
set_option maxHeartbeats 800000 in
theorem takeHead_any (w : World) (v : Value) (l : List UInt8) (h : Sl w v l) (hT : Bm w) :
  Calls Tryz.prog 125 #[v] w fun e w'=>e = .returned (.tuple #[.int .i64 ((Di Ah l).1 : Int), .bool (Di Ah l).2])∧Below w.heap.size w w':=by
 obtain ⟨i0,hi,hz0,hz1,hz2⟩:=info_parts Tryz.infoB
 have hcut:=M2 w v l 12 h (by decide)
 have hmk : ∀ W : World,(Instr.makeSlice 68 (.int .i64 12) (.int .i64 12)).run Tryz.prog W = .ok (.slice (some ⟨W.heap.size,0,none⟩) 12 12) (W.alloc (.cells zs.toArray 5)):=fun W=>by
  have:=run_make (P:=Tryz.prog) W 68 5 i0 (.int .u8 0) Tryz.underlying68 hi hz0 .i64 .i64 12 12 (by omega) (by omega) (by rw [hz2]; omega) (by omega)
  rw [hz1,show madeCells (Value.int IntKind.u8 0).cells ((12 : Int).toNat * 1)=zs.toArray from by kernel_rfl] at this
  exact this
 have HT:=Ab hT
 obtain ⟨ao,cap,rfl,-⟩:=h.form
 have hq12 : (l.take 12).length≤12:=by rw [List.length_take]; omega
 have hhe0:=headW_eq Ah l
 have hl12 : (l.take 12++List.replicate (12 - (l.take 12).length) 0).length=12:=by rw [List.length_append,List.length_replicate]; omega
 have hsp:=splice_zs (l.take 12) hq12
 obtain ⟨a,b,c,d,r,hr⟩:=four_of (l:=(l.take 12++List.replicate (12 - (l.take 12).length) 0).drop 4) (by rw [List.length_drop,hl12]; omega)
 have hhe:=hhe0 (Dz [a,b,c,d]) (by rw [hr]; rfl)
 clear hhe0
 have hlt:=unword_lt a b c d
 have htw:=fun W v hv=>takeWord_any W v a b c d r hv
 rw [← hr] at htw
 have hgen : (l.take 12++List.replicate (12 - (l.take 12).length) 0).drop 4=a :: b :: c :: d :: r:=hr
 generalize Dz [a,b,c,d]=sz at *
 generalize Di Ah l=p at *
 generalize l.take 12=q at *
 generalize hl12e : q++List.replicate (12 - q.length) 0=l12 at *
 have hr8 : (l12.drop 4).length=8:=by rw [List.length_drop,hl12]
 have HSP:=Ab hsp
 have HH:=Ab hhe
 clear hT h hsp hl12e hgen hr hhe
 go_enter Tryz.func125,Tryz.ntmps125
 go_wp2_with fail
 refine hcut.mono ?_
 rintro e w1 ⟨v1,v2,rfl,hs1,-,hb1⟩
 have hs1':=hs1
 obtain ⟨a1,c1,rfl,q1,q2,-,q4⟩:=hs1'
 have hb2 : Below w.heap.size w (w1.alloc (.cells zs.toArray 5)):=hb1.alloc hb1.size _
 have hbA : Below w1.heap.size w1 (w1.alloc (.cells zs.toArray 5)):=(Below.refl _ w1).alloc (Nat.le_refl _) _
 have hs2:=hs1.keepB hbA
 have HS1:=Ab hs1
 clear hs1 hcut
 obtain ⟨w3,hcp,hk3,hb3⟩ : ∃ w3,(Builtin.copy_ #[68,68] 3 #[.slice (some ⟨w1.heap.size,0,none⟩) 12 12, .slice a1 q.length c1]).run Tryz.prog (w1.alloc (.cells zs.toArray 5)) = .ok (.int .i64 (q.length : Int)) w3∧w3.heap[w1.heap.size]? = some (.cells (bc l12).toArray 5)∧Below w1.heap.size w1 w3:=by
  by_cases hq0 : q = []
  ·refine ⟨_,?_,?_,hbA⟩
   ·rw [run_copy_none (P:=Tryz.prog) _ 68 68 3 5 _ a1 12 12 q.length c1 Tryz.underlying68 sizeOf8 (by rw [hq0]; rfl),hq0]
    rfl
   ·rw [Au,← HSP.out,hq0]
    rfl
  ·obtain ⟨b0,off0,rfl,-,-⟩:=q4 hq0
   refine ⟨_,run_copy_row (P:=Tryz.prog) _ 68 68 3 5 w1.heap.size 0 12 12 ⟨b0,off0,none⟩ q.length c1 zs.toArray 5 (bc q) Tryz.underlying68 sizeOf8 (Au w1 _) (by rw [C3]; exact (Nat.min_eq_left hq12).symm) (hs2.cells (Below.refl _ _) _ rfl) (by rw [C3]; show 0+q.length≤12; omega) (E7 q) |>.trans (by rw [C3]; rfl),?_,below_setRow hbA (Nat.le_refl _) _⟩
   rw [setRow_heap (w1.alloc (.cells zs.toArray 5)) _ _ _ _ _ (Au w1 _),← HSP.out]
   unfold splice
   rw [List.append_assoc,C3]
 have HK3:=Ab hk3
 clear hk3
 go_wp2_with fail
 have hB3 : Below w.heap.size w w3:=hb1.trans (hb3.mono hb1.size)
 have hsl4 : Sl w3 (.slice (some ⟨w1.heap.size,4,none⟩) 8 8) (l12.drop 4):=by
  refine ⟨_,8,by rw [hr8],by rw [hr8]; omega,by decide,by simp,fun _=>⟨w1.heap.size,4,rfl,At HK3.out,fun j hj=>?_⟩⟩
  rw [Ad HK3.out,List.getElem?_toArray,Eu l12 (4+j) (by omega),List.getElem_drop]
 refine (htw _ _ hsl4).mono ?_
 rintro e w4 ⟨rfl,hb4⟩
 have hB4 : Below w.heap.size w w4:=hB3.trans (hb4.mono hB3.size)
 have hs4:=HS1.out.keepB (hb3.trans (hb4.mono hb3.size))
 clear htw hsl4 hcp hmk hb2 hbA hs2
 by_cases hbig : 2129920<sz
 ·go_wp2
  go_ret2
  refine ⟨?_,hB4⟩
  rw [HH.out,if_pos hbig]
  rfl
 ·have hw64 : IntKind.i64.wrap (sz : Int)=(sz : Int):=by rw [IntKind.wrap_i64]; omega
  have hph:=O4 w4 sz hlt (HT.out.keep hB4)
  go_wp2_with fail
  refine hph.mono ?_
  rintro e w5 ⟨v5,rfl,ho5,hb5⟩
  have hhp:=Og w5 _ _ _ _ (Dh (l:=hdW Ah sz) (by rw [Ez Dj]; exact ho5)) (hs4.keepB hb5)
  obtain ⟨a5,c5,rfl,-⟩:=Ay ho5
  have hB5:=hB4.trans (hb5.mono hB4.size)
  have HH2:=HH.out
  rw [if_neg hbig] at HH2
  generalize q.isPrefixOf (hdW Ah sz)=ok at *
  have H3:=Ab HH2
  clear HH2
  clear ho5 hph
  go_wp2_with fail
  refine hhp.mono ?_
  rintro e w6 ⟨rfl,rfl⟩
  go_wp2
  go_ret2
  refine ⟨?_,hB5⟩
  rw [H3.out]
  rfl
end Go.Proofs.YtblniomnhpedjaaGreatDoor
namespace Go.Proofs.YtblniomnhpedjaaGreatDoor
open Go.RowKit
set_option maxRecDepth 20000 in
theorem bclone_any (w : World) (v : Value) (l : List UInt8) (h : Sl w v l) (hl : l.length≤1099511627776) :
  Calls Tryz.prog 164 #[v] w fun e w'=>∃ v',e = .returned v'∧w'.ownsRow w.heap.size 5 1 v' l.length (bc l)∧Below w.heap.size w w':=by
 have he:=fun a n c=>eqS33 w a n c 0 0
 have h0:=h
 obtain ⟨ao,cap,rfl,h1,h2,h3,h4⟩:=h0
 cases ao with
 | none=>
  have hc:=h3 rfl
  have hl0 : l = []:=List.eq_nil_of_length_eq_zero (by omega)
  subst hl0
  subst hc
  clear h h4
  go_enter Tryz.func164,Tryz.ntmps164
  go_wp2
  go_ret
  exact ⟨_,rfl,World.ownsRow_nil _ _ _ _,Below.refl _ _⟩
 | some ad=>
  have hb : Below w.heap.size w (w.alloc (.cells #[] 5)):=(Below.refl _ w).alloc (Nat.le_refl _) _
  have ho : (w.alloc (.cells #[] 5)).ownsRow w.heap.size 5 1 (.slice (some ⟨w.heap.size,0,none⟩) 0 0) ([] : List UInt8).length (bc []):=
   ⟨rfl, .inr ⟨_,0,_,rfl,Nat.le_refl _,Au _ _,Nat.le_refl _,by decide,rfl,rfl⟩⟩
  obtain ⟨v',w',hrun,hown,hg⟩:=El _ ho (h.keepB hb) (by simp; omega) hb.size 68
  have hB : Below w.heap.size w w':=hb.grown hg hb.size (fun k hk=>by injection hk with hk; dsimp only at hk; omega)
  rw [List.nil_append] at hown
  have HR:=Ab hrun
  have hi : (some ad : Option Addr).isNone=false:=rfl
  clear hrun hg ho h h4
  go_enter Tryz.func164,Tryz.ntmps164
  go_wp2_with (at_builtin; refine wpList_plain rfl (fun K hK=>Cg (.tmp 5) (.tmp 6) 68 rfl rfl rfl HR.out (hK _ _ ?_)))
  obtain ⟨a',c',rfl,-⟩:=Ay hown
  go_wp2
  go_ret
  exact ⟨_,rfl,hown,hB⟩
theorem one_sl (w : World) : Sl (w.alloc (.cells #[.int .u8 1] 5)) (.slice (some ⟨w.heap.size,0,none⟩) 1 1) [1]:=by
 refine ⟨_,_,rfl,Nat.le_refl _,by decide,by simp,fun _=>⟨w.heap.size,0,rfl,by simp,fun j hj=>?_⟩⟩
 obtain rfl : j=0:=by simp at hj; omega
 rw [Ad (Au w _)]
 rfl
set_option maxRecDepth 20000 in
set_option maxHeartbeats 800000 in
theorem isTorn_any (w : World) (v : Value) (l : List UInt8) (size : Int) (h : Sl w v l) (hl : l.length≤1000000000000) (h0 : 0≤size) (h1 : size≤1000000000000) :
  Calls Tryz.prog 151 #[v, .int .i64 size] w fun e w'=>e = .returned (.bool (tornW l size))∧Below w.heap.size w w':=by
 unfold tornW
 cases ht : Ci l 0 with
 | some x=>
  obtain ⟨n,q⟩:=x
  have hti:=Gn w v l 0 n q h (by omega) ht
  obtain ⟨-,-,hq,-,hn0,hn1,-⟩:=Kk ht
  obtain ⟨ao,cap,rfl,-⟩:=h.form
  simp only
  by_cases c1 : 0≤n
  ·by_cases c2 : (2097152 : Int)<size - q
   ·have hr : decide (n≤2097152)=decide (0≤n∧n≤min (size - (q : Int)) 2097152):=decide_eq_decide.2 (by omega)
    rw [← hr]
    clear hr
    clear h ht
    go_enter Tryz.func151,Tryz.ntmps151
    go_wp2_with fail
    refine hti.mono ?_
    rintro e w1 ⟨rfl,rfl⟩
    go_wp2
    go_ret
    exact ⟨rfl,Below.refl _ _⟩
   ·have hr : decide (n≤size - q)=decide (0≤n∧n≤min (size - (q : Int)) 2097152):=decide_eq_decide.2 (by omega)
    rw [← hr]
    clear hr
    clear h ht
    go_enter Tryz.func151,Tryz.ntmps151
    go_wp2_with fail
    refine hti.mono ?_
    rintro e w1 ⟨rfl,rfl⟩
    go_wp2
    go_ret
    exact ⟨rfl,Below.refl _ _⟩
  ·have hr : decide (0≤n∧n≤min (size - (q : Int)) 2097152)=false:=decide_eq_false (by omega)
   rw [hr]
   clear hr
   clear h ht
   go_enter Tryz.func151,Tryz.ntmps151
   go_wp2_with fail
   refine hti.mono ?_
   rintro e w1 ⟨rfl,rfl⟩
   go_wp2
   go_ret
   exact ⟨rfl,Below.refl _ _⟩
 | none=>
  have hti:=Mm w v l 0 h (by omega) ht
  have hcl:=bclone_any w v l h (by omega)
  obtain ⟨ao,cap,rfl,-⟩:=h.form
  simp only
  cases ht2 : Ci (l ++ [1]) 0 with
  | some x=>
   obtain ⟨n,q⟩:=x
   obtain ⟨-,-,hq,-,hn0,hn1,-⟩:=Kk ht2
   rw [List.length_append,List.length_singleton] at hq
   have H2:=Ab ht2
   clear ht2
   simp only
   by_cases c1 : 0≤n
   ·by_cases c2 : (2097152 : Int)<size - q
    ·have hr : decide (n≤2097152)=decide (0≤n∧n≤min (size - (q : Int)) 2097152):=decide_eq_decide.2 (by omega)
     rw [← hr]
     clear hr
     clear h ht
     go_enter Tryz.func151,Tryz.ntmps151
     go_wp2_with fail
     refine hti.mono ?_
     rintro e w1 ⟨rfl,rfl⟩
     go_wp2_with fail
     refine hcl.mono ?_
     rintro e w2 ⟨v2,rfl,ho2,hb2⟩
     have hbA : Below w2.heap.size w2 (w2.alloc (.cells #[.int .u8 1] 5)):=(Below.refl _ w2).alloc (Nat.le_refl _) _
     obtain ⟨v3,w3,hrun,hown,hg⟩:=El _ (ho2.alloc (.cells #[.int .u8 1] 5)) (one_sl w2) (by simp; omega) (Nat.le_trans hb2.size hbA.size) 68
     have hB3 : Below w1.heap.size w1 w3:=(hb2.trans (hbA.mono hb2.size)).grown hg (Nat.le_trans hb2.size hbA.size) (fun k hk=>(ho2.lt k hk).1)
     have HR:=Ab hrun
     have ht3:=Gn w3 v3 (l ++ [1]) 0 n q (Dh hown) (by omega) H2.out
     obtain ⟨a2,c2',rfl,-⟩:=Ay ho2
     obtain ⟨a3,c3',rfl,-⟩:=Ay hown
     generalize (l ++ [1]).length=L1 at *
     clear hrun hg hown ho2
     go_wp2_with (at_builtin; refine wpList_plain rfl (fun K hK=>Cg (.tmp 18) (.tmp 19) 68 rfl rfl rfl HR.out (hK _ _ ?_)))
     refine ht3.mono ?_
     rintro e w4 ⟨rfl,rfl⟩
     go_wp2
     go_ret
     exact ⟨rfl,hB3⟩
    ·have hr : decide (n≤size - q)=decide (0≤n∧n≤min (size - (q : Int)) 2097152):=decide_eq_decide.2 (by omega)
     rw [← hr]
     clear hr
     clear h ht
     go_enter Tryz.func151,Tryz.ntmps151
     go_wp2_with fail
     refine hti.mono ?_
     rintro e w1 ⟨rfl,rfl⟩
     go_wp2_with fail
     refine hcl.mono ?_
     rintro e w2 ⟨v2,rfl,ho2,hb2⟩
     have hbA : Below w2.heap.size w2 (w2.alloc (.cells #[.int .u8 1] 5)):=(Below.refl _ w2).alloc (Nat.le_refl _) _
     obtain ⟨v3,w3,hrun,hown,hg⟩:=El _ (ho2.alloc (.cells #[.int .u8 1] 5)) (one_sl w2) (by simp; omega) (Nat.le_trans hb2.size hbA.size) 68
     have hB3 : Below w1.heap.size w1 w3:=(hb2.trans (hbA.mono hb2.size)).grown hg (Nat.le_trans hb2.size hbA.size) (fun k hk=>(ho2.lt k hk).1)
     have HR:=Ab hrun
     have ht3:=Gn w3 v3 (l ++ [1]) 0 n q (Dh hown) (by omega) H2.out
     obtain ⟨a2,c2',rfl,-⟩:=Ay ho2
     obtain ⟨a3,c3',rfl,-⟩:=Ay hown
     generalize (l ++ [1]).length=L1 at *
     clear hrun hg hown ho2
     go_wp2_with (at_builtin; refine wpList_plain rfl (fun K hK=>Cg (.tmp 18) (.tmp 19) 68 rfl rfl rfl HR.out (hK _ _ ?_)))
     refine ht3.mono ?_
     rintro e w4 ⟨rfl,rfl⟩
     go_wp2
     go_ret
     exact ⟨rfl,hB3⟩
   ·have hr : decide (0≤n∧n≤min (size - (q : Int)) 2097152)=false:=decide_eq_false (by omega)
    rw [hr]
    clear hr
    clear h ht
    go_enter Tryz.func151,Tryz.ntmps151
    go_wp2_with fail
    refine hti.mono ?_
    rintro e w1 ⟨rfl,rfl⟩
    go_wp2_with fail
    refine hcl.mono ?_
    rintro e w2 ⟨v2,rfl,ho2,hb2⟩
    have hbA : Below w2.heap.size w2 (w2.alloc (.cells #[.int .u8 1] 5)):=(Below.refl _ w2).alloc (Nat.le_refl _) _
    obtain ⟨v3,w3,hrun,hown,hg⟩:=El _ (ho2.alloc (.cells #[.int .u8 1] 5)) (one_sl w2) (by simp; omega) (Nat.le_trans hb2.size hbA.size) 68
    have hB3 : Below w1.heap.size w1 w3:=(hb2.trans (hbA.mono hb2.size)).grown hg (Nat.le_trans hb2.size hbA.size) (fun k hk=>(ho2.lt k hk).1)
    have HR:=Ab hrun
    have ht3:=Gn w3 v3 (l ++ [1]) 0 n q (Dh hown) (by omega) H2.out
    obtain ⟨a2,c2',rfl,-⟩:=Ay ho2
    obtain ⟨a3,c3',rfl,-⟩:=Ay hown
    generalize (l ++ [1]).length=L1 at *
    clear hrun hg hown ho2
    go_wp2_with (at_builtin; refine wpList_plain rfl (fun K hK=>Cg (.tmp 18) (.tmp 19) 68 rfl rfl rfl HR.out (hK _ _ ?_)))
    refine ht3.mono ?_
    rintro e w4 ⟨rfl,rfl⟩
    go_wp2
    go_ret
    exact ⟨rfl,hB3⟩
  | none=>
   have H2:=Ab ht2
   clear ht2
   simp only
   clear h ht
   go_enter Tryz.func151,Tryz.ntmps151
   go_wp2_with fail
   refine hti.mono ?_
   rintro e w1 ⟨rfl,rfl⟩
   go_wp2_with fail
   refine hcl.mono ?_
   rintro e w2 ⟨v2,rfl,ho2,hb2⟩
   have hbA : Below w2.heap.size w2 (w2.alloc (.cells #[.int .u8 1] 5)):=(Below.refl _ w2).alloc (Nat.le_refl _) _
   obtain ⟨v3,w3,hrun,hown,hg⟩:=El _ (ho2.alloc (.cells #[.int .u8 1] 5)) (one_sl w2) (by simp; omega) (Nat.le_trans hb2.size hbA.size) 68
   have hB3 : Below w1.heap.size w1 w3:=(hb2.trans (hbA.mono hb2.size)).grown hg (Nat.le_trans hb2.size hbA.size) (fun k hk=>(ho2.lt k hk).1)
   have HR:=Ab hrun
   have ht3:=Mm w3 v3 (l ++ [1]) 0 (Dh hown) (by omega) H2.out
   obtain ⟨a2,c2',rfl,-⟩:=Ay ho2
   obtain ⟨a3,c3',rfl,-⟩:=Ay hown
   generalize (l ++ [1]).length=L1 at *
   clear hrun hg hown ho2
   go_wp2_with (at_builtin; refine wpList_plain rfl (fun K hK=>Cg (.tmp 18) (.tmp 19) 68 rfl rfl rfl HR.out (hK _ _ ?_)))
   refine ht3.mono ?_
   rintro e w4 ⟨rfl,rfl⟩
   go_wp2
   go_ret
   exact ⟨rfl,hB3⟩
end Go.Proofs.YtblniomnhpedjaaGreatDoor
namespace Go.Proofs.YtblniomnhpedjaaGreatDoor
open Go.RowKit
def tcW (xs : List (List UInt8)) : List Value:=xs.map fun x=>.string (Ae x)
theorem tcW_get (xs : List (List UInt8)) (j : Nat) (h : j<xs.length) : (tcW xs)[j]? = some (.string (Ae xs[j])):=by simp [tcW,h]
theorem Na (xs : List (List UInt8)) (x : List UInt8) : tcW (xs ++ [x])=tcW xs ++ [.string (Ae x)]:=by simp [tcW]
theorem Tryz.infoT : (Tryz.prog.info? 9).map (fun i=>(i.zero,i.size,i.bytes))=some (some (.string ⟨#[]⟩),1,16):=by kernel_rfl
theorem Fw {w : World} {base : Nat} {v : Value} {xs : List (List UInt8)} (h : w.ownsRow base 9 1 v xs.length (tcW xs)) : Tx w v xs:=by
 have h0:=h
 rcases h.2 with ⟨rfl,hn⟩ | ⟨g,cap,cur,rfl,hg,hh,hc,hm,hs,ht⟩
 ·obtain rfl : xs = []:=List.eq_nil_of_length_eq_zero hn
  exact Tx.nil w
 ·refine ⟨_,_,rfl,hc,hm,fun _=>⟨g,0,rfl,At hh,fun j hj=>?_⟩⟩
  have:=World.ownsRow.cells h0 (g:=g) rfl j _ (tcW_get xs j hj)
  rw [Addr.add_lit] at this
  exact this
theorem Nv {f : Nat} {b : List UInt8} {a : Nat} {size : Int} (ha : a<b.length) (ht : Ch b a 2097152=none) : Cd (f+1) b a size=([],tornW (b.drop a) (size - a)):=by
 unfold Cd
 rw [if_pos ha,ht]
theorem Pu {f : Nat} {b : List UInt8} {a q : Nat} {size : Int} {r : List UInt8} (ha : a<b.length) (ht : Ch b a 2097152=some (r,q)) : Cd (f+1) b a size=(r :: (Cd f b q size).1,(Cd f b q size).2):=by
 conv=>lhs; unfold Cd
 rw [if_pos ha,ht]
theorem recsW_end {f : Nat} {b : List UInt8} {a : Nat} {size : Int} (ha : ¬ a<b.length) : Cd (f+1) b a size=([],true):=by
 unfold Cd
 rw [if_neg ha]
set_option maxRecDepth 20000 in
set_option maxHeartbeats 800000 in
theorem Qx (w : World) (v : Value) (b : List UInt8) (size : Nat) (h : Sl w v b) (hl : b.length≤size) (hs : size≤1000000000) :
  Calls Tryz.prog 127 #[v, .int .i64 (size : Int)] w fun e w'=>∃ v',e = .returned (.tuple #[v', .bool (Cd (b.length+1) b 0 size).2])∧w'.ownsRow w.heap.size 9 1 v' (Cd (b.length+1) b 0 size).1.length (tcW (Cd (b.length+1) b 0 size).1)∧Below w.heap.size w w':=by
 obtain ⟨i0,hi0,hz0,hz1,hz2⟩:=info_parts Tryz.infoT
 obtain ⟨ao,cap,rfl,c1,c2⟩:=h.form
 unfold maxLen at c2
 have H:=Ab h
 clear h
 generalize hR : Cd (b.length+1) b 0 size=R
 have HR:=Ab hR
 clear hR
 go_enter Tryz.func127,Tryz.ntmps127
 go_wp2
 go_loopw [6,7] (fun rv at_ wr=>∃ (acc : List (List UInt8)) (a : Nat),at_ = .int .i64 (a : Int)∧a≤b.length∧acc.length≤a∧wr.ownsRow w.heap.size 9 1 rv acc.length (tcW acc)∧Below w.heap.size w wr ∧
   R=(acc++(Cd (b.length+1 - acc.length) b a size).1,(Cd (b.length+1 - acc.length) b a size).2))
  (fun _ at_ _=>b.length - (intOf at_).toNat)
 case atStart=>exact ⟨[],0,rfl,Nat.zero_le _,Nat.le_refl _,World.ownsRow_nil _ _ _ _,Below.refl _ _,by rw [List.nil_append]; exact HR.out.symm⟩
 case round=>
  obtain ⟨acc,a,rfl,ha,hac,hrow,hB,hE⟩:=hrel
  have hslw:=H.out.keepB hB
  obtain ⟨f,hf⟩ : ∃ f,b.length+1 - acc.length=f+1:=⟨b.length - acc.length,by omega⟩
  rw [hf] at hE
  by_cases hlt : a<b.length
  ·cases ht : Ch b a 2097152 with
   | none=>
    rw [Nv hlt ht] at hE
    have hti:=M3 wr _ b a 2097152 hslw (by omega) ht
    obtain ⟨v2,hr2,hs2⟩:=Ii wr hslw a (by omega)
    have hto:=isTorn_any wr v2 (b.drop a) ((size : Int) - a) hs2 (by rw [List.length_drop]; omega) (by omega) (by omega)
    generalize tornW (b.drop a) ((size : Int) - a)=tb at *
    have HE:=Ab hE
    have HRW:=Ab hrow
    obtain ⟨a2,q2,rfl,-⟩:=hs2.form
    obtain ⟨ar,cr,rfl,-⟩:=Ay hrow
    generalize (b.drop a).length=L2 at *
    clear hE hslw hs2 hrow
    go_wp2_with fail
    refine hti.mono ?_
    rintro e w1 ⟨rfl,rfl⟩
    go_wp2_with fail
    refine hto.mono ?_
    rintro e w2 ⟨rfl,hb2⟩
    go_wp2
    go_ret2
    rw [HE.out]
    simp only [List.append_nil]
    exact ⟨_,rfl,Ck HRW.out hb2,hB.trans (hb2.mono hB.size)⟩
   | some x=>
    obtain ⟨r,q⟩:=x
    rw [Pu hlt ht] at hE
    have hti:=M4 wr _ b a 2097152 r q hslw (by omega) ht
    obtain ⟨-,hq1,hq2,htx,-⟩:=Ph ht
    have hql : q=a+(txt r).length:=by
     have:=congrArg List.length htx
     rw [List.length_take,List.length_drop,Int.toNat_natCast] at this
     rw [Int.toNat_natCast] at hq1
     omega
    have htl : 0<(txt r).length:=by have:=He r.length; unfold txt; rw [List.length_append]; omega
    have hq3 : a<q:=by omega
    clear hql
    have hti : Calls Tryz.prog 98 #[.slice ao b.length cap, .int .i64 (a : Int), .int .i64 2097152] wr fun e w'=>e = .returned (.tuple #[.string (Ae r), .int .i64 (q : Int), .bool true])∧w'=wr:=hti
    have HE:=Ab hE
    have HRW:=Ab hrow
    have hrow':=hrow
    obtain ⟨ar,cr,rfl,-⟩:=Ay hrow
    clear hE hslw hrow htx
    go_wp2_with fail
    refine hti.mono ?_
    rintro e w1 ⟨rfl,rfl⟩
    go_wp2_with (at_builtin; refine wpList_append_own _ rfl (.tmp 32) (.tmp 34) 58 rfl w.heap.size 9 i0 (.string ⟨#[]⟩) 1 16 Tryz.underlying58 hi0 hz0 hz1 hz2 rfl (by decide) _ _ _ rfl (hrow'.alloc _) ⟨w1.heap.size,0,none⟩ 1 1 [.string (Ae r)] rfl rfl (cell_one_new _ _ _) (by simp [Value.oneCell']) (by unfold maxLen; omega) (by omega) (by have:=hB.size; simp; omega) ?_)
    intro v2 w2 hown2 hgrow2 _
    have hb2 : Below w.heap.size w w2:=(hB.alloc hB.size _).grown hgrow2 (by have:=hB.size; simp; omega) (fun k hk=>(hrow'.lt k hk).1)
    obtain ⟨a3,c3,rfl,-⟩:=Ay hown2
    clear hgrow2 hti
    go_wp2
    go_roundw
    case rel=>
     refine ⟨acc ++ [r],q,rfl,by omega,by rw [List.length_append,List.length_singleton]; omega,by rw [Na,List.length_append]; exact hown2,hb2,?_⟩
     rw [HE.out,List.length_append,List.length_singleton,show b.length+1 - (acc.length+1)=f by omega,List.append_assoc]
     rfl
    case measure=>simp [intOf] <;> omega
  ·obtain rfl : a=b.length:=by omega
   rw [recsW_end hlt] at hE
   have HE:=Ab hE
   have HRW:=Ab hrow
   obtain ⟨ar,cr,rfl,-⟩:=Ay hrow
   clear hE hrow hslw
   go_wp2
   go_ret2
   rw [HE.out]
   simp only [List.append_nil]
   exact ⟨_,rfl,HRW.out,hB⟩
end Go.Proofs.YtblniomnhpedjaaGreatDoor
