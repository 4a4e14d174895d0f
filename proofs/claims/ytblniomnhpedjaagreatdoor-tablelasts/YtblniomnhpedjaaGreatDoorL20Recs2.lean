/-
  Texts joined: Recs2, Group1, Group2.
-/
import Derived.Test.YtblniomnhpedjaaGreatDoorL19Puts
import Derived.Test.YtblniomnhpedjaaGreatDoorL2Acts
namespace Go.Proofs.YtblniomnhpedjaaGreatDoor
open Go.RowKit
def tcW (xs : List (List UInt8)) : List Value:=xs.map fun x=>.string (Ae x)
theorem tcW_get (xs : List (List UInt8)) (j : Nat) (h : j<xs.length) : (tcW xs)[j]? = some (.string (Ae xs[j])):=by simp [tcW,h]
theorem Ms (xs : List (List UInt8)) (x : List UInt8) : tcW (xs ++ [x])=tcW xs ++ [.string (Ae x)]:=by simp [tcW]
theorem Tryz.infoT : (Tryz.prog.info? 9).map (fun i=>(i.zero,i.size,i.bytes))=some (some (.string ⟨#[]⟩),1,16):=by kernel_rfl
theorem Fq {w : World} {base : Nat} {v : Value} {xs : List (List UInt8)} (h : w.ownsRow base 9 1 v xs.length (tcW xs)) : Tx w v xs:=by
 have h0:=h
 rcases h.2 with ⟨rfl,hn⟩ | ⟨g,cap,cur,rfl,hg,hh,hc,hm,hs,ht⟩
 ·obtain rfl : xs = []:=List.eq_nil_of_length_eq_zero hn
  exact Tx.nil w
 ·refine ⟨_,_,rfl,hc,hm,fun _=>⟨g,0,rfl,At hh,fun j hj=>?_⟩⟩
  have:=World.ownsRow.cells h0 (g:=g) rfl j _ (tcW_get xs j hj)
  rw [Addr.add_lit] at this
  exact this
theorem O6 {f : Nat} {b : List UInt8} {a : Nat} {size : Int} (ha : a<b.length) (ht : Cd b a 2097152=none) : B5 (f+1) b a size=([],tornW (b.drop a) (size - a)):=by
 unfold B5
 rw [if_pos ha,ht]
theorem Nz {f : Nat} {b : List UInt8} {a q : Nat} {size : Int} {r : List UInt8} (ha : a<b.length) (ht : Cd b a 2097152=some (r,q)) : B5 (f+1) b a size=(r :: (B5 f b q size).1,(B5 f b q size).2):=by
 conv=>lhs; unfold B5
 rw [if_pos ha,ht]
theorem recsW_end {f : Nat} {b : List UInt8} {a : Nat} {size : Int} (ha : ¬ a<b.length) : B5 (f+1) b a size=([],true):=by
 unfold B5
 rw [if_neg ha]
set_option maxRecDepth 20000 in
set_option maxHeartbeats 800000 in
theorem P0 (w : World) (v : Value) (b : List UInt8) (size : Nat) (h : Sl w v b) (hl : b.length≤size) (hs : size≤1000000000) :
  Calls Tryz.prog 127 #[v, .int .i64 (size : Int)] w fun e w'=>∃ v',e = .returned (.tuple #[v', .bool (B5 (b.length+1) b 0 size).2])∧w'.ownsRow w.heap.size 9 1 v' (B5 (b.length+1) b 0 size).1.length (tcW (B5 (b.length+1) b 0 size).1)∧Below w.heap.size w w':=by
 obtain ⟨i0,hi0,hz0,hz1,hz2⟩:=info_parts Tryz.infoT
 obtain ⟨ao,cap,rfl,c1,c2⟩:=h.form
 unfold maxLen at c2
 have H:=Ab h
 clear h
 generalize hR : B5 (b.length+1) b 0 size=R
 have HR:=Ab hR
 clear hR
 go_enter Tryz.func127,Tryz.ntmps127
 go_wp2
 go_loopw [6,7] (fun rv at_ wr=>∃ (acc : List (List UInt8)) (a : Nat),at_ = .int .i64 (a : Int)∧a≤b.length∧acc.length≤a∧wr.ownsRow w.heap.size 9 1 rv acc.length (tcW acc)∧Below w.heap.size w wr ∧
   R=(acc++(B5 (b.length+1 - acc.length) b a size).1,(B5 (b.length+1 - acc.length) b a size).2))
  (fun _ at_ _=>b.length - (intOf at_).toNat)
 case atStart=>exact ⟨[],0,rfl,Nat.zero_le _,Nat.le_refl _,World.ownsRow_nil _ _ _ _,Below.refl _ _,by rw [List.nil_append]; exact HR.out.symm⟩
 case round=>
  obtain ⟨acc,a,rfl,ha,hac,hrow,hB,hE⟩:=hrel
  have hslw:=H.out.keepB hB
  obtain ⟨f,hf⟩ : ∃ f,b.length+1 - acc.length=f+1:=⟨b.length - acc.length,by omega⟩
  rw [hf] at hE
  by_cases hlt : a<b.length
  ·cases ht : Cd b a 2097152 with
   | none=>
    rw [O6 hlt ht] at hE
    have hti:=L5 wr _ b a 2097152 hslw (by omega) ht
    obtain ⟨v2,hr2,hs2⟩:=Ih wr hslw a (by omega)
    have hto:=isTorn_any wr v2 (b.drop a) ((size : Int) - a) hs2 (by rw [List.length_drop]; omega) (by omega) (by omega)
    generalize tornW (b.drop a) ((size : Int) - a)=tb at *
    have HE:=Ab hE
    have HRW:=Ab hrow
    obtain ⟨a2,q2,rfl,-⟩:=hs2.form
    obtain ⟨ar,cr,rfl,-⟩:=Ay hrow
    generalize (b.drop a).length=L2 at *
    clear hE hslw hs2 hrow
    go_wp2_with fail
    refine hti.mono ?_
    rintro e w1 ⟨rfl,rfl⟩
    go_wp2_with fail
    refine hto.mono ?_
    rintro e w2 ⟨rfl,hb2⟩
    go_wp2
    go_ret2
    rw [HE.out]
    simp only [List.append_nil]
    exact ⟨_,rfl,Cj HRW.out hb2,hB.trans (hb2.mono hB.size)⟩
   | some x=>
    obtain ⟨r,q⟩:=x
    rw [Nz hlt ht] at hE
    have hti:=L8 wr _ b a 2097152 r q hslw (by omega) ht
    obtain ⟨-,hq1,hq2,htx,-⟩:=Mv ht
    have hql : q=a+(txt r).length:=by
     have:=congrArg List.length htx
     rw [List.length_take,List.length_drop,Int.toNat_natCast] at this
     rw [Int.toNat_natCast] at hq1
     omega
    have htl : 0<(txt r).length:=by have:=Gi r.length; unfold txt; rw [List.length_append]; omega
    have hq3 : a<q:=by omega
    clear hql
    have hti : Calls Tryz.prog 98 #[.slice ao b.length cap, .int .i64 (a : Int), .int .i64 2097152] wr fun e w'=>e = .returned (.tuple #[.string (Ae r), .int .i64 (q : Int), .bool true])∧w'=wr:=hti
    have HE:=Ab hE
    have HRW:=Ab hrow
    have hrow':=hrow
    obtain ⟨ar,cr,rfl,-⟩:=Ay hrow
    clear hE hslw hrow htx
    go_wp2_with fail
    refine hti.mono ?_
    rintro e w1 ⟨rfl,rfl⟩
    go_wp2_with (at_builtin; refine wpList_append_own _ rfl (.tmp 32) (.tmp 34) 58 rfl w.heap.size 9 i0 (.string ⟨#[]⟩) 1 16 Tryz.underlying58 hi0 hz0 hz1 hz2 rfl (by decide) _ _ _ rfl (hrow'.alloc _) ⟨w1.heap.size,0,none⟩ 1 1 [.string (Ae r)] rfl rfl (cell_one_new _ _ _) (by simp [Value.oneCell']) (by unfold maxLen; omega) (by omega) (by have:=hB.size; simp; omega) ?_)
    intro v2 w2 hown2 hgrow2 _
    have hb2 : Below w.heap.size w w2:=(hB.alloc hB.size _).grown hgrow2 (by have:=hB.size; simp; omega) (fun k hk=>(hrow'.lt k hk).1)
    obtain ⟨a3,c3,rfl,-⟩:=Ay hown2
    clear hgrow2 hti
    go_wp2
    go_roundw
    case rel=>
     refine ⟨acc ++ [r],q,rfl,by omega,by rw [List.length_append,List.length_singleton]; omega,by rw [Ms,List.length_append]; exact hown2,hb2,?_⟩
     rw [HE.out,List.length_append,List.length_singleton,show b.length+1 - (acc.length+1)=f by omega,List.append_assoc]
     rfl
    case measure=>simp [intOf] <;> omega
  ·obtain rfl : a=b.length:=by omega
   rw [recsW_end hlt] at hE
   have HE:=Ab hE
   have HRW:=Ab hrow
   obtain ⟨ar,cr,rfl,-⟩:=Ay hrow
   clear hE hrow hslw
   go_wp2
   go_ret2
   rw [HE.out]
   simp only [List.append_nil]
   exact ⟨_,rfl,HRW.out,hB⟩
end Go.Proofs.YtblniomnhpedjaaGreatDoor
namespace Go.Proofs.YtblniomnhpedjaaGreatDoor
open Go.RowKit
theorem headW_le (cs : List UInt8→List UInt8) (b : List UInt8) : (Dj cs b).1≤2129920:=by
 rw [headW_eq cs b _ rfl]
 split
 ·omega
 ·dsimp only
  omega
theorem Nx (size : Int) : ∀ (f : Nat) (b : List UInt8) (a : Nat),∀ r∈(B5 f b a size).1,r.length≤2097152
 | 0,b,a=>by simp [B5]
 | f+1,b,a=>by
  by_cases ha : a<b.length
  ·cases ht : Cd b a 2097152 with
   | none=>rw [O6 ha ht]; simp
   | some x=>
    obtain ⟨r,q⟩:=x
    rw [Nz ha ht]
    intro r' hr'
    rcases List.mem_cons.1 hr' with rfl | h
    ·have:=(Mv ht).2.2.2.2
     omega
    ·exact Nx size f b q r' h
  ·rw [recsW_end ha]; simp
set_option maxRecDepth 20000 in
set_option maxHeartbeats 1600000 in
theorem Pz (w : World) (v : Value) (b : List UInt8) (h : Sl w v b) (hl : b.length≤1000000000) (hT : Bk w) :
  Calls Tryz.prog 97 #[v] w fun e w'=>∃ v',e = .returned (.tuple #[v', .int .i64 ((Dt Ah b).2.1 : Int), .bool (Dt Ah b).2.2])∧w'.ownsRow w.heap.size 9 1 v' (Dt Ah b).1.length (tcW (Dt Ah b).1)∧Below w.heap.size w w':=by
 have hhd:=takeHead_any w v b h hT
 have hle:=headW_le Ah b
 obtain ⟨ao,cap,rfl,c1,c2⟩:=h.form
 unfold maxLen at c2
 generalize hG : Dt Ah b=G
 have hG : Er Ah b (Dj Ah b)=G:=hG
 generalize Dj Ah b=p at *
 obtain ⟨size,ok⟩:=p
 dsimp only at hle
 have HT:=Ab hT
 have H:=Ab h
 unfold Er at hG
 dsimp only at hG
 clear hT h
 by_cases hok : ok=false
 ·rw [if_pos (.inl hok)] at hG
  subst hG hok
  go_enter Tryz.func97,Tryz.ntmps97
  go_wp2_with fail
  refine hhd.mono ?_
  rintro e w1 ⟨rfl,hb1⟩
  go_wp2
  go_ret3
  exact ⟨_,rfl,World.ownsRow_nil _ _ _ _,hb1⟩
 obtain rfl : ok=true:=by simpa using hok
 by_cases h12 : b.length<12
 ·rw [if_pos (.inr h12)] at hG
  subst hG
  go_enter Tryz.func97,Tryz.ntmps97
  go_wp2_with fail
  refine hhd.mono ?_
  rintro e w1 ⟨rfl,hb1⟩
  go_wp2
  go_ret3
  exact ⟨_,rfl,World.ownsRow_nil _ _ _ _,hb1⟩
 rw [if_neg (fun e=>e.elim (fun e=>by cases e) h12)] at hG
 have HG:=Ab hG
 clear hG hok
 go_enter Tryz.func97,Tryz.ntmps97
 go_wp2_with fail
 refine hhd.mono ?_
 rintro e w1 ⟨rfl,hb1⟩
 obtain ⟨v2,hr2,hs2⟩:=Ih w1 (H.out.keepB hb1) 12 (by omega)
 have hcut:=L4 w1 v2 (b.drop 12) size hs2 (by omega)
 have hbl : (b.drop 12).length≤1000000000:=by rw [List.length_drop]; omega
 generalize b.drop 12=bd at *
 obtain ⟨a2,q2,rfl,-⟩:=hs2.form
 have hr2 : ∀ W : World,(Instr.slice 68 (.slice ao b.length cap) (some (.int .i64 12)) none none).run Tryz.prog W = .ok (.slice a2 bd.length q2) W:=hr2
 clear hs2 hhd
 go_wp2_with fail
 refine hcut.mono ?_
 rintro e w2 ⟨v3,v4,rfl,hs3,hs4,hb2⟩
 have hB2:=hb1.trans (hb2.mono hb1.size)
 have hbl3 : (bd.take size).length≤size:=by rw [List.length_take]; omega
 have htr:=P0 w2 v3 (bd.take size) size hs3 hbl3 (by omega)
 have hea:=Nx size ((bd.take size).length+1) (bd.take size) 0
 generalize B5 ((bd.take size).length+1) (bd.take size) 0 size=R at *
 obtain ⟨rs,rok⟩:=R
 generalize bd.take size=body at *
 generalize bd.drop size=rest at *
 dsimp only at htr hea
 have H3:=Ab hs3
 have H4:=Ab hs4
 obtain ⟨a3,q3,rfl,q31,q32⟩:=hs3.form
 obtain ⟨a4,q4,rfl,q41,q42⟩:=hs4.form
 clear hs3 hs4 hcut
 go_wp2_with fail
 refine htr.mono ?_
 rintro e w3 ⟨v5,rfl,ho5,hb3⟩
 have hB3:=hB2.trans (hb3.mono hB2.size)
 have hir:=Me w3 v5 rs (Fq ho5) (fun r hr=>by have:=hea r hr; omega)
 have HO5:=Ab ho5
 obtain ⟨a5,q5,rfl,-⟩:=Ay ho5
 have hG:=HG.out
 unfold recB at hG
 dsimp only at hG
 clear HG htr ho5
 cases hrok : rok with
 | false=>
  rw [if_pos (.inl hrok)] at hG
  subst hG
  go_wp2
  go_ret3
  exact ⟨_,rfl,World.ownsRow_nil _ _ _ _,hB3⟩
 | true=>
  cases hri : right rs with
  | false=>
   rw [if_pos (.inr hri)] at hG
   subst hG
   rw [hri] at hir
   go_wp2_with fail
   refine hir.mono ?_
   rintro e w4 ⟨rfl,rfl⟩
   go_wp2
   go_ret3
   exact ⟨_,rfl,World.ownsRow_nil _ _ _ _,hB3⟩
  | true=>
   rw [if_neg (fun e=>e.elim (fun e=>by rw [hrok] at e; cases e) (fun e=>by rw [hri] at e; cases e))] at hG
   rw [hri] at hir
   by_cases hsh : body.length<size
   ·rw [if_pos hsh] at hG
    subst hG
    go_wp2_with fail
    refine hir.mono ?_
    rintro e w4 ⟨rfl,rfl⟩
    go_wp2
    go_ret3
    exact ⟨_,rfl,World.ownsRow_nil _ _ _ _,hB3⟩
   ·rw [if_neg hsh] at hG
    unfold sumB at hG
    have hcut:=L4 w3 _ rest 4 (H4.out.keepB hb3) (by decide)
    have HG:=Ab hG
    clear hG
    go_wp2_with fail
    refine hir.mono ?_
    rintro e w4 ⟨rfl,rfl⟩
    go_wp2_with fail
    refine hcut.mono ?_
    rintro e w5 ⟨v6,v7,rfl,hs6,-,hb5⟩
    have hB5:=hB3.trans (hb5.mono hB3.size)
    have hps:=J4 w5 _ body ((H3.out.keepB hb3).keepB hb5) (HT.out.keep hB5)
    generalize rest.take 4=s4 at *
    obtain ⟨a6,q6,rfl,q61,q62⟩:=hs6.form
    have H6:=Ab hs6
    clear hs6 hcut
    go_wp2_with fail
    refine hps.mono ?_
    rintro e w6 ⟨v8,rfl,ho8,hb6⟩
    have hB6:=hB5.trans (hb6.mono hB5.size)
    have hhp:=Oz w6 _ _ _ _ (Dd (l:=Ah body) (by rw [Dg]; exact ho8)) (H6.out.keepB hb6)
    obtain ⟨a8,q8,rfl,-⟩:=Ay ho8
    have ho6:=Cj HO5.out (hb5.trans (hb6.mono hb5.size))
    generalize s4.isPrefixOf (Ah body)=sok at *
    clear ho8 hps
    cases sok with
    | false=>
     have hG:=HG.out
     rw [if_pos (.inl rfl)] at hG
     subst hG
     go_wp2_with fail
     refine hhp.mono ?_
     rintro e w7 ⟨rfl,rfl⟩
     go_wp2
     go_ret3
     exact ⟨_,rfl,World.ownsRow_nil _ _ _ _,hB6⟩
    | true=>
     by_cases h4 : s4.length<4
     ·have hG:=HG.out
      rw [if_pos (.inr h4)] at hG
      subst hG
      go_wp2_with fail
      refine hhp.mono ?_
      rintro e w7 ⟨rfl,rfl⟩
      go_wp2
      go_ret3
      exact ⟨_,rfl,World.ownsRow_nil _ _ _ _,hB6⟩
     ·have hG:=HG.out
      rw [if_neg (fun e=>e.elim (fun e=>by cases e) h4)] at hG
      subst hG
      go_wp2_with fail
      refine hhp.mono ?_
      rintro e w7 ⟨rfl,rfl⟩
      go_wp2
      go_ret3
      refine ⟨_,?_,E3 ho6 hB2.size,hB6⟩
      go_num
end Go.Proofs.YtblniomnhpedjaaGreatDoor
namespace Go.Proofs.YtblniomnhpedjaaGreatDoor
open Go.RowKit
theorem groupW_le (cs : List UInt8→List UInt8) (b : List UInt8) : (Dt cs b).2.1≤b.length:=by
 show (Er cs b (Dj cs b)).2.1≤_
 generalize Dj cs b=p
 unfold Er
 split
 ·exact Nat.zero_le _
 ·next h1=>
  unfold recB
  split
  ·exact Nat.zero_le _
  ·split
   ·exact Nat.zero_le _
   ·next h2 h3=>
    unfold sumB
    split
    ·exact Nat.zero_le _
    ·next h4=>
     simp only [List.length_take,List.length_drop,not_or] at h1 h3 h4 ⊢
     omega
theorem Tryz.infoTs : (Tryz.prog.info? 58).map (fun i=>(i.zero,i.size,i.bytes))=some (some (.slice none 0 0),1,24):=by kernel_rfl
def Gs (w : World) (base : Nat) (v : Value) (gs : List (List (List UInt8))) : Prop:=
 ∃ vs : List Value,w.ownsRow base 58 1 v gs.length vs∧∀ (i : Nat) (x : Value) (g : List (List UInt8)),vs[i]? = some x→gs[i]? = some g→w.ownsRow base 9 1 x g.length (tcW g)
theorem Gs.nil (w : World) (base : Nat) : Gs w base (.slice none 0 0) []:=⟨[],World.ownsRow_nil _ _ _ _,fun i x g h=>by simp at h⟩
theorem Gs.keepB {w w' : World} {base : Nat} {v : Value} {gs : List (List (List UInt8))} (h : Gs w base v gs) (hb : Below w.heap.size w w') : Gs w' base v gs:=by
 obtain ⟨vs,h1,h2⟩:=h
 exact ⟨vs,Cj h1 hb,fun i x g hx hg=>Cj (h2 i x g hx hg) hb⟩
theorem Gs.low {w : World} {base base' : Nat} {v : Value} {gs : List (List (List UInt8))} (h : Gs w base v gs) (hb : base'≤base) : Gs w base' v gs:=by
 obtain ⟨vs,h1,h2⟩:=h
 exact ⟨vs,E3 h1 hb,fun i x g hx hg=>E3 (h2 i x g hx hg) hb⟩
theorem Gs.form {w : World} {base : Nat} {v : Value} {gs : List (List (List UInt8))} (h : Gs w base v gs) : ∃ ao cap,v = .slice ao gs.length cap∧gs.length≤cap∧cap≤maxLen:=by
 obtain ⟨vs,h1,-⟩:=h
 exact Ay h1
theorem Oo {w w' : World} {base base' n m : Nat} {v x : Value} {xs ys : List Value} (h : w.ownsRow base 58 1 v n xs) (hx : w.ownsRow base' 9 1 x m ys) (hg : w.grownBy w' v.ownBlock) : w'.ownsRow base' 9 1 x m ys:=by
 refine hx.kept hg ?_
 cases hb : x.ownBlock with
 | none=>exact .inl rfl
 | some k=>
  refine .inr fun e=>?_
  obtain ⟨c1,e1⟩:=Aw hx hb
  obtain ⟨c2,e2⟩:=Aw h e.symm
  rw [e1] at e2
  injection e2 with e2
  injection e2 with _ e2
  exact absurd e2 (by decide)
set_option maxRecDepth 20000 in
set_option maxHeartbeats 1600000 in
theorem Pu (w : World) (v : Value) (b : List UInt8) (h : Sl w v b) (hl : b.length≤1000000000) (hT : Bk w) :
  Calls Tryz.prog 78 #[v] w fun e w'=>Below w.heap.size w w'∧((Co Ah (b.length+1) b 0=none∧e = .returned (.tuple #[.slice none 0 0, .int .i64 0, .bool false])) ∨
   ∃ gs n v',Co Ah (b.length+1) b 0=some (gs,n)∧n≤b.length∧gs.length≤n∧e = .returned (.tuple #[v', .int .i64 (n : Int), .bool true])∧Gs w' w.heap.size v' gs):=by
 obtain ⟨i0,hi0,hz0,hz1,hz2⟩:=info_parts Tryz.infoTs
 obtain ⟨ao,cap,rfl,c1,c2⟩:=h.form
 unfold maxLen at c2
 have H:=Ab h
 have HT:=Ab hT
 clear h hT
 generalize hR : Co Ah (b.length+1) b 0=R
 have HR:=Ab hR
 clear hR
 go_enter Tryz.func78,Tryz.ntmps78
 go_wp2
 go_loopw [5,6] (fun rv at_ wr=>∃ (acc : List (List (List UInt8))) (a : Nat),at_ = .int .i64 (a : Int)∧a≤b.length∧acc.length≤a∧Gs wr w.heap.size rv acc∧Below w.heap.size w wr ∧
   R=(Co Ah (b.length+1 - acc.length) b a).map fun x=>(acc++x.1,x.2))
  (fun _ at_ _=>b.length - (intOf at_).toNat)
 case atStart=>exact ⟨[],0,rfl,Nat.zero_le _,Nat.le_refl _,Gs.nil _ _,Below.refl _ _,by rw [← HR.out]; simp only [List.length_nil,Nat.sub_zero,List.nil_append]; cases Co Ah (b.length+1) b 0 <;> rfl⟩
 case round=>
  obtain ⟨acc,a,rfl,ha,hac,hrow,hB,hE⟩:=hrel
  have hslw:=H.out.keepB hB
  obtain ⟨f,hf⟩ : ∃ f,b.length+1 - acc.length=f+1:=⟨b.length - acc.length,by omega⟩
  rw [hf] at hE
  have HRW:=Ab hrow
  obtain ⟨ar,cr,rfl,hr1,hr2⟩:=hrow.form
  clear hrow
  by_cases hlt : a<b.length
  ·rw [Id _ _ _ _ hlt] at hE
   obtain ⟨v2,hrun2,hs2⟩:=Ih wr hslw a (by omega)
   have hgl:=groupW_le Ah (b.drop a)
   have htg:=Pz wr v2 (b.drop a) hs2 (by rw [List.length_drop]; omega) (HT.out.keep hB)
   have hdl : (b.drop a).length=b.length - a:=List.length_drop
   generalize Dt Ah (b.drop a)=G at *
   obtain ⟨rs,n,ok⟩:=G
   dsimp only at hgl htg hE
   have hna : a+n≤b.length:=by omega
   obtain ⟨a2,q2,rfl,-⟩:=hs2.form
   generalize (b.drop a).length=L2 at *
   have HE:=Ab hE
   clear hE hslw hs2 hdl hgl hr1 hr2
   by_cases hbad : ok=false∨n=0∧a=0
   ·have hE:=HE.out
    unfold D7 at hE
    rw [if_pos hbad] at hE
    clear HE
    have HE:=Ab hE
    clear hE
    cases ok
    ·clear hbad
     go_wp2_with fail
     refine htg.mono ?_
     rintro e w1 ⟨v3,rfl,-,hb1⟩
     go_wp2
     go_ret3
     exact ⟨hB.trans (hb1.mono hB.size), .inl ⟨HE.out,rfl⟩⟩
    ·have hn0 : n=0:=hbad.elim (fun e=>by cases e) (fun e=>e.1)
     have ha0 : a=0:=hbad.elim (fun e=>by cases e) (fun e=>e.2)
     have hab : ((a : Int) == 0)=true:=by simp [ha0]
     subst hn0
     clear hbad ha0
     go_wp2_with fail
     refine htg.mono ?_
     rintro e w1 ⟨v3,rfl,-,hb1⟩
     go_wp2
     go_ret3
     exact ⟨hB.trans (hb1.mono hB.size), .inl ⟨HE.out,rfl⟩⟩
   ·have hE:=HE.out
    unfold D7 at hE
    rw [if_neg hbad] at hE
    obtain rfl : ok=true:=by cases ok; exact absurd (.inl rfl) hbad; rfl
    by_cases hn0 : n=0
    ·subst hn0
     have ha0 : a≠0:=fun e=>hbad (.inr ⟨rfl,e⟩)
     rw [if_pos rfl] at hE
     have HE:=Ab hE
     have hab : ((a : Int) == 0)=false:=by simp [ha0]
     clear hE hbad
     go_wp2_with fail
     refine htg.mono ?_
     rintro e w1 ⟨v3,rfl,-,hb1⟩
     go_wp2
     go_ret3
     refine ⟨hB.trans (hb1.mono hB.size), .inr ⟨acc,a,_,?_,ha,hac,rfl,HRW.out.keepB hb1⟩⟩
     rw [HE.out]
     simp
    ·rw [if_neg hn0] at hE
     have HE:=Ab hE
     have hnb : ((n : Int) == 0)=false:=by simp [hn0]
     clear hE hbad
     obtain ⟨vs,hvs,hvg⟩:=HRW.out
     have hvl : vs.length=acc.length:=by have:=hvs.1; omega
     have HVL:=Ab hvl
     clear hvl
     go_wp2_with fail
     refine htg.mono ?_
     rintro e w1 ⟨v3,rfl,ho3,hb1⟩
     have hvs1:=Cj hvs hb1
     have HO3:=Ab ho3
     obtain ⟨a3,c3,rfl,-⟩:=Ay ho3
     have hB1:=hB.trans (hb1.mono hB.size)
     clear ho3
     go_wp2_with (at_builtin; refine wpList_append_own _ rfl (.tmp 34) (.tmp 36) 91 rfl w.heap.size 58 i0 (.slice none 0 0) 1 24 Tryz.underlying91 hi0 hz0 hz1 hz2 rfl (by decide) _ _ _ rfl (hvs1.alloc _) ⟨w1.heap.size,0,none⟩ 1 1 [.slice a3 rs.length c3] rfl rfl (cell_one_new _ _ _) (by simp [Value.oneCell']) (by unfold maxLen; omega) (by omega) (by have:=hB1.size; simp; omega) ?_)
     intro v2 w2 hown2 hgrow2 _
     have hb2 : Below w.heap.size w w2:=(hB1.alloc hB1.size _).grown hgrow2 (by have:=hB1.size; simp; omega) (fun k hk=>(hvs1.lt k hk).1)
     obtain ⟨a4,c4,rfl,-⟩:=Ay hown2
     have HO2:=Ab hown2
     clear hown2 htg
     go_wp2
     go_roundw
     case rel=>
      refine ⟨acc ++ [rs],a+n,rfl,hna,by rw [List.length_append,List.length_singleton]; omega,⟨vs ++ [.slice a3 rs.length c3],by rw [List.length_append]; exact HO2.out,?_⟩,hb2,?_⟩
      ·intro i x g hx hg
       have hvl:=HVL.out
       by_cases hi : i<vs.length
       ·rw [List.getElem?_append_left hi] at hx
        rw [List.getElem?_append_left (by omega)] at hg
        exact Oo (hvs1.alloc _) ((Cj (hvg i x g hx hg) hb1).alloc _) hgrow2
       ·rw [List.getElem?_append_right (by omega)] at hx hg
        obtain ⟨i',hi'⟩ : ∃ i',i - vs.length=i':=⟨_,rfl⟩
        rw [hi'] at hx
        rw [← hvl,hi'] at hg
        cases i' with
        | zero=>
         simp at hx hg
         subst hx hg
         exact Oo (hvs1.alloc _) ((E3 HO3.out hB.size).alloc _) hgrow2
        | succ i'=>simp at hx
      ·rw [HE.out,List.length_append,List.length_singleton,show b.length+1 - (acc.length+1)=f by omega]
       cases Co Ah f b (a+n) with
       | none=>rfl
       | some x=>simp
     case measure=>simp [intOf] <;> omega
  ·obtain rfl : a=b.length:=by omega
   rw [Ju _ _ _ _ hlt] at hE
   have HE:=Ab hE
   clear hE hslw
   go_wp2
   go_ret3
   refine ⟨hB, .inr ⟨acc,b.length,_,?_,ha,hac,rfl,HRW.out⟩⟩
   rw [HE.out]
   simp
end Go.Proofs.YtblniomnhpedjaaGreatDoor
