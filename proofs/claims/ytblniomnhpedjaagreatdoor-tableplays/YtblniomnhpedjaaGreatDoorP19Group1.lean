/-
  Texts joined: Group1, Group2, File.
-/
import Derived.Test.YtblniomnhpedjaaGreatDoorP18Puts
import Derived.Test.YtblniomnhpedjaaGreatDoorP2Acts
import Derived.Test.YtblniomnhpedjaaGreatDoorP15ReadAt
namespace Go.Proofs.YtblniomnhpedjaaGreatDoor
open Go.RowKit
theorem headW_le (cs : List UInt8→List UInt8) (b : List UInt8) : (Di cs b).1≤2129920:=by
 rw [headW_eq cs b _ rfl]
 split
 ·omega
 ·dsimp only
  omega
theorem Pt (size : Int) : ∀ (f : Nat) (b : List UInt8) (a : Nat),∀ r∈(Cd f b a size).1,r.length≤2097152
 | 0,b,a=>by simp [Cd]
 | f+1,b,a=>by
  by_cases ha : a<b.length
  ·cases ht : Ch b a 2097152 with
   | none=>rw [Nv ha ht]; simp
   | some x=>
    obtain ⟨r,q⟩:=x
    rw [Pu ha ht]
    intro r' hr'
    rcases List.mem_cons.1 hr' with rfl | h
    ·have:=(Ph ht).2.2.2.2
     omega
    ·exact Pt size f b q r' h
  ·rw [recsW_end ha]; simp
set_option maxRecDepth 20000 in
set_option maxHeartbeats 1600000 in
theorem Qq (w : World) (v : Value) (b : List UInt8) (h : Sl w v b) (hl : b.length≤1000000000) (hT : Bm w) :
  Calls Tryz.prog 97 #[v] w fun e w'=>∃ v',e = .returned (.tuple #[v', .int .i64 ((Du Ah b).2.1 : Int), .bool (Du Ah b).2.2])∧w'.ownsRow w.heap.size 9 1 v' (Du Ah b).1.length (tcW (Du Ah b).1)∧Below w.heap.size w w':=by
 have hhd:=takeHead_any w v b h hT
 have hle:=headW_le Ah b
 obtain ⟨ao,cap,rfl,c1,c2⟩:=h.form
 unfold maxLen at c2
 generalize hG : Du Ah b=G
 have hG : En Ah b (Di Ah b)=G:=hG
 generalize Di Ah b=p at *
 obtain ⟨size,ok⟩:=p
 dsimp only at hle
 have HT:=Ab hT
 have H:=Ab h
 unfold En at hG
 dsimp only at hG
 clear hT h
 by_cases hok : ok=false
 ·rw [if_pos (.inl hok)] at hG
  subst hG hok
  go_enter Tryz.func97,Tryz.ntmps97
  go_wp2_with fail
  refine hhd.mono ?_
  rintro e w1 ⟨rfl,hb1⟩
  go_wp2
  go_ret3
  exact ⟨_,rfl,World.ownsRow_nil _ _ _ _,hb1⟩
 obtain rfl : ok=true:=by simpa using hok
 by_cases h12 : b.length<12
 ·rw [if_pos (.inr h12)] at hG
  subst hG
  go_enter Tryz.func97,Tryz.ntmps97
  go_wp2_with fail
  refine hhd.mono ?_
  rintro e w1 ⟨rfl,hb1⟩
  go_wp2
  go_ret3
  exact ⟨_,rfl,World.ownsRow_nil _ _ _ _,hb1⟩
 rw [if_neg (fun e=>e.elim (fun e=>by cases e) h12)] at hG
 have HG:=Ab hG
 clear hG hok
 go_enter Tryz.func97,Tryz.ntmps97
 go_wp2_with fail
 refine hhd.mono ?_
 rintro e w1 ⟨rfl,hb1⟩
 obtain ⟨v2,hr2,hs2⟩:=Ii w1 (H.out.keepB hb1) 12 (by omega)
 have hcut:=M2 w1 v2 (b.drop 12) size hs2 (by omega)
 have hbl : (b.drop 12).length≤1000000000:=by rw [List.length_drop]; omega
 generalize b.drop 12=bd at *
 obtain ⟨a2,q2,rfl,-⟩:=hs2.form
 have hr2 : ∀ W : World,(Instr.slice 68 (.slice ao b.length cap) (some (.int .i64 12)) none none).run Tryz.prog W = .ok (.slice a2 bd.length q2) W:=hr2
 clear hs2 hhd
 go_wp2_with fail
 refine hcut.mono ?_
 rintro e w2 ⟨v3,v4,rfl,hs3,hs4,hb2⟩
 have hB2:=hb1.trans (hb2.mono hb1.size)
 have hbl3 : (bd.take size).length≤size:=by rw [List.length_take]; omega
 have htr:=Qx w2 v3 (bd.take size) size hs3 hbl3 (by omega)
 have hea:=Pt size ((bd.take size).length+1) (bd.take size) 0
 generalize Cd ((bd.take size).length+1) (bd.take size) 0 size=R at *
 obtain ⟨rs,rok⟩:=R
 generalize bd.take size=body at *
 generalize bd.drop size=rest at *
 dsimp only at htr hea
 have H3:=Ab hs3
 have H4:=Ab hs4
 obtain ⟨a3,q3,rfl,q31,q32⟩:=hs3.form
 obtain ⟨a4,q4,rfl,q41,q42⟩:=hs4.form
 clear hs3 hs4 hcut
 go_wp2_with fail
 refine htr.mono ?_
 rintro e w3 ⟨v5,rfl,ho5,hb3⟩
 have hB3:=hB2.trans (hb3.mono hB2.size)
 have hir:=M7 w3 v5 rs (Fw ho5) (fun r hr=>by have:=hea r hr; omega)
 have HO5:=Ab ho5
 obtain ⟨a5,q5,rfl,-⟩:=Ay ho5
 have hG:=HG.out
 unfold recB at hG
 dsimp only at hG
 clear HG htr ho5
 cases hrok : rok with
 | false=>
  rw [if_pos (.inl hrok)] at hG
  subst hG
  go_wp2
  go_ret3
  exact ⟨_,rfl,World.ownsRow_nil _ _ _ _,hB3⟩
 | true=>
  cases hri : right rs with
  | false=>
   rw [if_pos (.inr hri)] at hG
   subst hG
   rw [hri] at hir
   go_wp2_with fail
   refine hir.mono ?_
   rintro e w4 ⟨rfl,rfl⟩
   go_wp2
   go_ret3
   exact ⟨_,rfl,World.ownsRow_nil _ _ _ _,hB3⟩
  | true=>
   rw [if_neg (fun e=>e.elim (fun e=>by rw [hrok] at e; cases e) (fun e=>by rw [hri] at e; cases e))] at hG
   rw [hri] at hir
   by_cases hsh : body.length<size
   ·rw [if_pos hsh] at hG
    subst hG
    go_wp2_with fail
    refine hir.mono ?_
    rintro e w4 ⟨rfl,rfl⟩
    go_wp2
    go_ret3
    exact ⟨_,rfl,World.ownsRow_nil _ _ _ _,hB3⟩
   ·rw [if_neg hsh] at hG
    unfold sumB at hG
    have hcut:=M2 w3 _ rest 4 (H4.out.keepB hb3) (by decide)
    have HG:=Ab hG
    clear hG
    go_wp2_with fail
    refine hir.mono ?_
    rintro e w4 ⟨rfl,rfl⟩
    go_wp2_with fail
    refine hcut.mono ?_
    rintro e w5 ⟨v6,v7,rfl,hs6,-,hb5⟩
    have hB5:=hB3.trans (hb5.mono hB3.size)
    have hps:=K9 w5 _ body ((H3.out.keepB hb3).keepB hb5) (HT.out.keep hB5)
    generalize rest.take 4=s4 at *
    obtain ⟨a6,q6,rfl,q61,q62⟩:=hs6.form
    have H6:=Ab hs6
    clear hs6 hcut
    go_wp2_with fail
    refine hps.mono ?_
    rintro e w6 ⟨v8,rfl,ho8,hb6⟩
    have hB6:=hB5.trans (hb6.mono hB5.size)
    have hhp:=Og w6 _ _ _ _ (Dh (l:=Ah body) (by rw [Dj]; exact ho8)) (H6.out.keepB hb6)
    obtain ⟨a8,q8,rfl,-⟩:=Ay ho8
    have ho6:=Ck HO5.out (hb5.trans (hb6.mono hb5.size))
    generalize s4.isPrefixOf (Ah body)=sok at *
    clear ho8 hps
    cases sok with
    | false=>
     have hG:=HG.out
     rw [if_pos (.inl rfl)] at hG
     subst hG
     go_wp2_with fail
     refine hhp.mono ?_
     rintro e w7 ⟨rfl,rfl⟩
     go_wp2
     go_ret3
     exact ⟨_,rfl,World.ownsRow_nil _ _ _ _,hB6⟩
    | true=>
     by_cases h4 : s4.length<4
     ·have hG:=HG.out
      rw [if_pos (.inr h4)] at hG
      subst hG
      go_wp2_with fail
      refine hhp.mono ?_
      rintro e w7 ⟨rfl,rfl⟩
      go_wp2
      go_ret3
      exact ⟨_,rfl,World.ownsRow_nil _ _ _ _,hB6⟩
     ·have hG:=HG.out
      rw [if_neg (fun e=>e.elim (fun e=>by cases e) h4)] at hG
      subst hG
      go_wp2_with fail
      refine hhp.mono ?_
      rintro e w7 ⟨rfl,rfl⟩
      go_wp2
      go_ret3
      refine ⟨_,?_,E6 ho6 hB2.size,hB6⟩
      go_num
end Go.Proofs.YtblniomnhpedjaaGreatDoor
namespace Go.Proofs.YtblniomnhpedjaaGreatDoor
open Go.RowKit
theorem groupW_le (cs : List UInt8→List UInt8) (b : List UInt8) : (Du cs b).2.1≤b.length:=by
 show (En cs b (Di cs b)).2.1≤_
 generalize Di cs b=p
 unfold En
 split
 ·exact Nat.zero_le _
 ·next h1=>
  unfold recB
  split
  ·exact Nat.zero_le _
  ·split
   ·exact Nat.zero_le _
   ·next h2 h3=>
    unfold sumB
    split
    ·exact Nat.zero_le _
    ·next h4=>
     simp only [List.length_take,List.length_drop,not_or] at h1 h3 h4 ⊢
     omega
theorem Tryz.infoTs : (Tryz.prog.info? 58).map (fun i=>(i.zero,i.size,i.bytes))=some (some (.slice none 0 0),1,24):=by kernel_rfl
def Gs (w : World) (base : Nat) (v : Value) (gs : List (List (List UInt8))) : Prop:=
 ∃ vs : List Value,w.ownsRow base 58 1 v gs.length vs∧∀ (i : Nat) (x : Value) (g : List (List UInt8)),vs[i]? = some x→gs[i]? = some g→w.ownsRow base 9 1 x g.length (tcW g)
theorem Gs.nil (w : World) (base : Nat) : Gs w base (.slice none 0 0) []:=⟨[],World.ownsRow_nil _ _ _ _,fun i x g h=>by simp at h⟩
theorem Gs.keepB {w w' : World} {base : Nat} {v : Value} {gs : List (List (List UInt8))} (h : Gs w base v gs) (hb : Below w.heap.size w w') : Gs w' base v gs:=by
 obtain ⟨vs,h1,h2⟩:=h
 exact ⟨vs,Ck h1 hb,fun i x g hx hg=>Ck (h2 i x g hx hg) hb⟩
theorem Gs.low {w : World} {base base' : Nat} {v : Value} {gs : List (List (List UInt8))} (h : Gs w base v gs) (hb : base'≤base) : Gs w base' v gs:=by
 obtain ⟨vs,h1,h2⟩:=h
 exact ⟨vs,E6 h1 hb,fun i x g hx hg=>E6 (h2 i x g hx hg) hb⟩
theorem Gs.form {w : World} {base : Nat} {v : Value} {gs : List (List (List UInt8))} (h : Gs w base v gs) : ∃ ao cap,v = .slice ao gs.length cap∧gs.length≤cap∧cap≤maxLen:=by
 obtain ⟨vs,h1,-⟩:=h
 exact Ay h1
theorem Pz {w w' : World} {base base' n m : Nat} {v x : Value} {xs ys : List Value} (h : w.ownsRow base 58 1 v n xs) (hx : w.ownsRow base' 9 1 x m ys) (hg : w.grownBy w' v.ownBlock) : w'.ownsRow base' 9 1 x m ys:=by
 refine hx.kept hg ?_
 cases hb : x.ownBlock with
 | none=>exact .inl rfl
 | some k=>
  refine .inr fun e=>?_
  obtain ⟨c1,e1⟩:=A2 hx hb
  obtain ⟨c2,e2⟩:=A2 h e.symm
  rw [e1] at e2
  injection e2 with e2
  injection e2 with _ e2
  exact absurd e2 (by decide)
set_option maxRecDepth 20000 in
set_option maxHeartbeats 1600000 in
theorem Qb (w : World) (v : Value) (b : List UInt8) (h : Sl w v b) (hl : b.length≤1000000000) (hT : Bm w) :
  Calls Tryz.prog 78 #[v] w fun e w'=>Below w.heap.size w w'∧((Cz Ah (b.length+1) b 0=none∧e = .returned (.tuple #[.slice none 0 0, .int .i64 0, .bool false])) ∨
   ∃ gs n v',Cz Ah (b.length+1) b 0=some (gs,n)∧n≤b.length∧gs.length≤n∧e = .returned (.tuple #[v', .int .i64 (n : Int), .bool true])∧Gs w' w.heap.size v' gs):=by
 obtain ⟨i0,hi0,hz0,hz1,hz2⟩:=info_parts Tryz.infoTs
 obtain ⟨ao,cap,rfl,c1,c2⟩:=h.form
 unfold maxLen at c2
 have H:=Ab h
 have HT:=Ab hT
 clear h hT
 generalize hR : Cz Ah (b.length+1) b 0=R
 have HR:=Ab hR
 clear hR
 go_enter Tryz.func78,Tryz.ntmps78
 go_wp2
 go_loopw [5,6] (fun rv at_ wr=>∃ (acc : List (List (List UInt8))) (a : Nat),at_ = .int .i64 (a : Int)∧a≤b.length∧acc.length≤a∧Gs wr w.heap.size rv acc∧Below w.heap.size w wr ∧
   R=(Cz Ah (b.length+1 - acc.length) b a).map fun x=>(acc++x.1,x.2))
  (fun _ at_ _=>b.length - (intOf at_).toNat)
 case atStart=>exact ⟨[],0,rfl,Nat.zero_le _,Nat.le_refl _,Gs.nil _ _,Below.refl _ _,by rw [← HR.out]; simp only [List.length_nil,Nat.sub_zero,List.nil_append]; cases Cz Ah (b.length+1) b 0 <;> rfl⟩
 case round=>
  obtain ⟨acc,a,rfl,ha,hac,hrow,hB,hE⟩:=hrel
  have hslw:=H.out.keepB hB
  obtain ⟨f,hf⟩ : ∃ f,b.length+1 - acc.length=f+1:=⟨b.length - acc.length,by omega⟩
  rw [hf] at hE
  have HRW:=Ab hrow
  obtain ⟨ar,cr,rfl,hr1,hr2⟩:=hrow.form
  clear hrow
  by_cases hlt : a<b.length
  ·rw [H8 _ _ _ _ hlt] at hE
   obtain ⟨v2,hrun2,hs2⟩:=Ii wr hslw a (by omega)
   have hgl:=groupW_le Ah (b.drop a)
   have htg:=Qq wr v2 (b.drop a) hs2 (by rw [List.length_drop]; omega) (HT.out.keep hB)
   have hdl : (b.drop a).length=b.length - a:=List.length_drop
   generalize Du Ah (b.drop a)=G at *
   obtain ⟨rs,n,ok⟩:=G
   dsimp only at hgl htg hE
   have hna : a+n≤b.length:=by omega
   obtain ⟨a2,q2,rfl,-⟩:=hs2.form
   generalize (b.drop a).length=L2 at *
   have HE:=Ab hE
   clear hE hslw hs2 hdl hgl hr1 hr2
   by_cases hbad : ok=false∨n=0∧a=0
   ·have hE:=HE.out
    unfold Ed at hE
    rw [if_pos hbad] at hE
    clear HE
    have HE:=Ab hE
    clear hE
    cases ok
    ·clear hbad
     go_wp2_with fail
     refine htg.mono ?_
     rintro e w1 ⟨v3,rfl,-,hb1⟩
     go_wp2
     go_ret3
     exact ⟨hB.trans (hb1.mono hB.size), .inl ⟨HE.out,rfl⟩⟩
    ·have hn0 : n=0:=hbad.elim (fun e=>by cases e) (fun e=>e.1)
     have ha0 : a=0:=hbad.elim (fun e=>by cases e) (fun e=>e.2)
     have hab : ((a : Int) == 0)=true:=by simp [ha0]
     subst hn0
     clear hbad ha0
     go_wp2_with fail
     refine htg.mono ?_
     rintro e w1 ⟨v3,rfl,-,hb1⟩
     go_wp2
     go_ret3
     exact ⟨hB.trans (hb1.mono hB.size), .inl ⟨HE.out,rfl⟩⟩
   ·have hE:=HE.out
    unfold Ed at hE
    rw [if_neg hbad] at hE
    obtain rfl : ok=true:=by cases ok; exact absurd (.inl rfl) hbad; rfl
    by_cases hn0 : n=0
    ·subst hn0
     have ha0 : a≠0:=fun e=>hbad (.inr ⟨rfl,e⟩)
     rw [if_pos rfl] at hE
     have HE:=Ab hE
     have hab : ((a : Int) == 0)=false:=by simp [ha0]
     clear hE hbad
     go_wp2_with fail
     refine htg.mono ?_
     rintro e w1 ⟨v3,rfl,-,hb1⟩
     go_wp2
     go_ret3
     refine ⟨hB.trans (hb1.mono hB.size), .inr ⟨acc,a,_,?_,ha,hac,rfl,HRW.out.keepB hb1⟩⟩
     rw [HE.out]
     simp
    ·rw [if_neg hn0] at hE
     have HE:=Ab hE
     have hnb : ((n : Int) == 0)=false:=by simp [hn0]
     clear hE hbad
     obtain ⟨vs,hvs,hvg⟩:=HRW.out
     have hvl : vs.length=acc.length:=by have:=hvs.1; omega
     have HVL:=Ab hvl
     clear hvl
     go_wp2_with fail
     refine htg.mono ?_
     rintro e w1 ⟨v3,rfl,ho3,hb1⟩
     have hvs1:=Ck hvs hb1
     have HO3:=Ab ho3
     obtain ⟨a3,c3,rfl,-⟩:=Ay ho3
     have hB1:=hB.trans (hb1.mono hB.size)
     clear ho3
     go_wp2_with (at_builtin; refine wpList_append_own _ rfl (.tmp 34) (.tmp 36) 91 rfl w.heap.size 58 i0 (.slice none 0 0) 1 24 Tryz.underlying91 hi0 hz0 hz1 hz2 rfl (by decide) _ _ _ rfl (hvs1.alloc _) ⟨w1.heap.size,0,none⟩ 1 1 [.slice a3 rs.length c3] rfl rfl (cell_one_new _ _ _) (by simp [Value.oneCell']) (by unfold maxLen; omega) (by omega) (by have:=hB1.size; simp; omega) ?_)
     intro v2 w2 hown2 hgrow2 _
     have hb2 : Below w.heap.size w w2:=(hB1.alloc hB1.size _).grown hgrow2 (by have:=hB1.size; simp; omega) (fun k hk=>(hvs1.lt k hk).1)
     obtain ⟨a4,c4,rfl,-⟩:=Ay hown2
     have HO2:=Ab hown2
     clear hown2 htg
     go_wp2
     go_roundw
     case rel=>
      refine ⟨acc ++ [rs],a+n,rfl,hna,by rw [List.length_append,List.length_singleton]; omega,⟨vs ++ [.slice a3 rs.length c3],by rw [List.length_append]; exact HO2.out,?_⟩,hb2,?_⟩
      ·intro i x g hx hg
       have hvl:=HVL.out
       by_cases hi : i<vs.length
       ·rw [List.getElem?_append_left hi] at hx
        rw [List.getElem?_append_left (by omega)] at hg
        exact Pz (hvs1.alloc _) ((Ck (hvg i x g hx hg) hb1).alloc _) hgrow2
       ·rw [List.getElem?_append_right (by omega)] at hx hg
        obtain ⟨i',hi'⟩ : ∃ i',i - vs.length=i':=⟨_,rfl⟩
        rw [hi'] at hx
        rw [← hvl,hi'] at hg
        cases i' with
        | zero=>
         simp at hx hg
         subst hx hg
         exact Pz (hvs1.alloc _) ((E6 HO3.out hB.size).alloc _) hgrow2
        | succ i'=>simp at hx
      ·rw [HE.out,List.length_append,List.length_singleton,show b.length+1 - (acc.length+1)=f by omega]
       cases Cz Ah f b (a+n) with
       | none=>rfl
       | some x=>simp
     case measure=>simp [intOf] <;> omega
  ·obtain rfl : a=b.length:=by omega
   rw [J8 _ _ _ _ hlt] at hE
   have HE:=Ab hE
   clear hE hslw
   go_wp2
   go_ret3
   refine ⟨hB, .inr ⟨acc,b.length,_,?_,ha,hac,rfl,HRW.out⟩⟩
   rw [HE.out]
   simp
end Go.Proofs.YtblniomnhpedjaaGreatDoor
namespace Go.Proofs.YtblniomnhpedjaaGreatDoor
open Go.RowKit
variable {B : Nat} {w w' : World} {F : Nat→Prop} {d l : Nat} {S : Dk} {n : Nm}
def Ao : Nm:=[126,97,110,101,119]
def LogAt (w : World) (l d : Nat) (n : Nm) (sure : Bool) (wh sz : Int) : Prop:=
 w.heap[l]? = some (.cells #[.pointer (some ⟨d,0,none⟩), .string (Ae n), .bool sure, .int .i64 wh, .int .i64 sz] 129)
theorem LogAt.keep {sure : Bool} {wh sz : Int} {X : Nat→Prop} (h : LogAt w l d n sure wh sz) (hc : Chg X w w') (hX : ¬ X l) : LogAt w' l d n sure wh sz:=hc.keep h hX
theorem str_app (a b : List UInt8) : Ae a++Ae b=Ae (a++b):=by
 apply ByteArray.ext
 simp [Ae]
theorem str_anew (n : Nm) : Ae n++(ByteArray.mk #[126,97,110,101,119])=Ae (n++Ao):=str_app n Ao
theorem str_room {n : Nm} (h : n.length≤70) : ¬ 9223372036854775807<(Ae n).size+5:=by
 have : (Ae n).size=n.length:=by simp [Ae,ByteArray.size]
 omega
def As (S : Dk) (n : Nm) : Dk × Int:=if S.size (n++Ao)<0 then (S,0) else S.remove (n++Ao)
def Ba (S : Dk) (sure : Bool) : Dk × Bool × Int:=if sure=true then (S,true,0) else (S.syncDir.1,S.syncDir.2 == 0,S.syncDir.2)
theorem Bi.drew (h : Bi B w F d S) : Bi B w.drew F d S:=h.keep ((Chg.refl (fun _=>False) _).drew) (fun _ _ h=>h)
structure Lw where
 n : Nm
 sure : Bool
 wh : Int
 sz : Int
variable {L : Lw}
def Lg (B : Nat) (w : World) (F : Nat→Prop) (d l : Nat) (S : Dk) (L : Lw) : Prop:=Bi B w F d S∧LogAt w l d L.n L.sure L.wh L.sz∧¬ F l∧B≤l∧L.n.length≤70
def Bv (B : Nat) (w : World) (F : Nat→Prop) (d l : Nat) (S : Dk) (L : Lw) (w' : World) : Prop:=∃ F',Lg B w' F' d l S L∧(∀ k,F' k→F k∨w.heap.size≤k)∧Chg (fun k=>F k∨k=l) w w'
theorem Lg.lt (h : Lg B w F d l S L) : l<w.heap.size:=At h.2.1
theorem Lg.size (h : Lg B w F d l S L) : B≤w.heap.size:=by have:=h.lt; have:=h.2.2.2.1; omega
theorem Lg.keep {X : Nat→Prop} (h : Lg B w F d l S L) (hc : Chg X w w') (hX : ∀ k,F k→¬ X k) (hl : ¬ X l) : Lg B w' F d l S L:=⟨h.1.keep hc hX,h.2.1.keep hc hl,h.2.2⟩
theorem Lg.drew (h : Lg B w F d l S L) : Lg B w.drew F d l S L:=h.keep ((Chg.refl (fun _=>False) _).drew) (fun _ _ h=>h) (fun h=>h)
theorem Lg.refl (h : Lg B w F d l S L) : Bv B w F d l S L w:=⟨F,h,fun _ h=>.inl h,Chg.refl _ _⟩
theorem Bv.drewn (h : Bv B w.drew F d l S L w') : Bv B w F d l S L w':=by
 obtain ⟨F',h1,h2,h3⟩:=h
 exact ⟨F',h1,h2,h3.undrew⟩
theorem Bv.drew (h : Bv B w F d l S L w') : Bv B w F d l S L w'.drew:=by
 obtain ⟨F',h1,h2,h3⟩:=h
 exact ⟨F',h1.drew,h2,h3.drew⟩
theorem Bv.next {S' : Dk} {L' : Lw} {w1 w2 : World} {F1 : Nat→Prop} (h1 : Chg (fun k=>F k∨k=l) w w1) (h2 : ∀ k,F1 k→F k∨w.heap.size≤k) (h : Bv B w1 F1 d l S' L' w2) : Bv B w F d l S' L' w2:=by
 obtain ⟨F',h3,h4,h5⟩:=h
 refine ⟨F',h3,fun k hk=>?_,h1.trans h5 fun i hi hn=>?_⟩
 ·rcases h4 k hk with h | h
  ·exact h2 k h
  ·exact .inr (Nat.le_trans h1.size h)
 ·rcases hn with hn | hn
  ·rcases h2 i hn with h | h
   ·exact .inl h
   ·omega
  ·exact .inr hn
theorem Lg.next {S' : Dk} {F' : Nat→Prop} (h : Lg B w F d l S L) (h1 : Bi B w' F' d S') (h2 : ∀ k,F' k→F k∨w.heap.size≤k) (h3 : Chg F w w') : Lg B w' F' d l S' L:=by
 have hl:=h.lt
 refine ⟨h1,h.2.1.keep h3 h.2.2.1,fun hf=>?_,h.2.2.2⟩
 rcases h2 l hf with hf | hf
 ·exact h.2.2.1 hf
 ·omega
theorem Lg.after {S' : Dk} (h : Lg B w F d l S L) (ha : C2 B w F d S' w') : Bv B w F d l S' L w':=by
 obtain ⟨F',h1,h2,h3⟩:=ha
 exact ⟨F',h.next h1 h2 h3,h2,h3.mono fun _ _ h=>.inl h⟩
theorem Bv.below (h : Bv B w F d l S L w') {S0 : Dk} {L0 : Lw} (h0 : Lg B w F d l S0 L0) : Below B w w':=by
 obtain ⟨F',h1,h2,h3⟩:=h
 refine h3.below (fun k hk=>?_) h0.size
 rcases hk with hk | rfl
 ·exact (h0.1.2.1 k hk).1
 ·exact h0.2.2.2.1
theorem Lg.put (h : Lg B w F d l S L) (sure : Bool) : Bv B w F d l S { L with sure:=sure } (w.setCell ⟨l,2,none⟩ (.bool sure)):=by
 have hc : Chg (fun k=>k=l) w (w.setCell ⟨l,2,none⟩ (.bool sure)):=(Chg.refl (fun k=>k=l) w).setCell (p:=⟨l,2,none⟩) (.inl rfl) _
 refine ⟨F,⟨h.1.keep hc (fun k hk e=>h.2.2.1 (e ▸ hk)),A0 h.2.1 2 (.bool sure),h.2.2⟩,fun _ h=>.inl h,hc.mono fun _ _ h=>.inr h⟩
set_option maxRecDepth 20000 in
set_option maxHeartbeats 800000 in
theorem Hj (h : Lg B w F d l S L) (hb : S.bulk+1<1099511627776) :
  Calls Tryz.prog 119 #[.pointer (some ⟨l,0,none⟩)] w fun e w'=>e = .returned (.int .i64 (As S L.n).2)∧Bv B w F d l (As S L.n).1 L w':=by
 have hsz:=Kd h.1.drew (L.n++Ao)
 have hrm:=remove_lies h.1.drew.drew h.size (L.n++Ao) hb
 have x0:=Ad h.2.1 0
 have x1:=Ad h.2.1 1
 have hsa:=str_anew L.n
 have hns:=str_room h.2.2.2.2
 have H:=Ab h
 clear h
 unfold As
 by_cases hs : S.size (L.n++Ao)<0
 ·rw [if_pos hs]
  go_enter Tryz.func119,Tryz.ntmps119
  go_wp2
  refine wp_region_held_drew (S:=fun W=>W.cell? ⟨l,0,none⟩=some (.pointer (some ⟨d,0,none⟩))∧W.cell? ⟨l,1,none⟩=some (.string (Ae L.n))) (by kernel_rfl) (⟨x0,x1⟩) (fun hHeld=>?_)
  refine Aa 0 hHeld ?_
  refine Aa 1 hHeld ?_
  refine Aa 2 hHeld ?_
  refine Aa 3 hHeld ?_
  refine Aa 4 hHeld ?_
  refine Aa 5 hHeld ?_
  refine Aa 6 hHeld ?_
  refine Aa 7 hHeld ?_
  refine Aa 8 hHeld ?_
  refine Al (i:=9) rfl (by kernel_rfl) rfl (fun K hK=>?_)
  go_simp
  refine hsz.mono ?_
  rintro e w1 ⟨rfl,h1⟩
  rw [h1]
  clear h1
  refine hK.out _ _ (⟨x0,x1⟩) (fun hHeld=>?_)
  clear hK K
  try simp only [Act.put,List.setIfInBounds_toArray,List.set_cons_zero,List.set_cons_succ]
  refine Aa 10 hHeld ?_
  refine wpAnyH_done (by kernel_rfl) ?_ _
  clear hHeld
  go_wp2
  go_ret
  exact ⟨rfl,H.out.drew.refl.drewn⟩
 ·rw [if_neg hs]
  generalize S.remove (L.n++Ao)=R at *
  go_enter Tryz.func119,Tryz.ntmps119
  go_wp2
  refine wp_region_held_drew (S:=fun W=>W.cell? ⟨l,0,none⟩=some (.pointer (some ⟨d,0,none⟩))∧W.cell? ⟨l,1,none⟩=some (.string (Ae L.n))) (by kernel_rfl) (⟨x0,x1⟩) (fun hHeld=>?_)
  refine Aa 0 hHeld ?_
  refine Aa 1 hHeld ?_
  refine Aa 2 hHeld ?_
  refine Aa 3 hHeld ?_
  refine Aa 4 hHeld ?_
  refine Aa 5 hHeld ?_
  refine Aa 6 hHeld ?_
  refine Aa 7 hHeld ?_
  refine Aa 8 hHeld ?_
  refine Al (i:=9) rfl (by kernel_rfl) rfl (fun K hK=>?_)
  go_simp
  refine hsz.mono ?_
  rintro e w1 ⟨rfl,h1⟩
  rw [h1]
  clear h1
  refine hK.out _ _ (⟨x0,x1⟩) (fun hHeld=>?_)
  clear hK K
  try simp only [Act.put,List.setIfInBounds_toArray,List.set_cons_zero,List.set_cons_succ]
  refine Aa 10 hHeld ?_
  refine wpAnyH_done (by kernel_rfl) ?_ _
  clear hHeld
  go_wp2
  refine wp_region_held_drew (S:=fun W=>W.cell? ⟨l,0,none⟩=some (.pointer (some ⟨d,0,none⟩))∧W.cell? ⟨l,1,none⟩=some (.string (Ae L.n))) (by kernel_rfl) (⟨x0,x1⟩) (fun hHeld=>?_)
  refine Aa 0 hHeld ?_
  refine Aa 1 hHeld ?_
  refine Aa 2 hHeld ?_
  refine Aa 3 hHeld ?_
  refine Aa 4 hHeld ?_
  refine Aa 5 hHeld ?_
  refine Aa 6 hHeld ?_
  refine Aa 7 hHeld ?_
  refine Aa 8 hHeld ?_
  refine Al (i:=9) rfl (by kernel_rfl) rfl (fun K hK=>?_)
  go_simp
  refine hrm.mono ?_
  rintro e w2 ⟨rfl,ha⟩
  have ht:=H.out.drew.drew.after ha
  obtain ⟨F2,hg2,-⟩:=id ht
  have y0:=Ad hg2.2.1 0
  have y1:=Ad hg2.2.1 1
  refine hK.out _ _ (⟨y0,y1⟩) (fun hHeld=>?_)
  clear hK K
  try simp only [Act.put,List.setIfInBounds_toArray,List.set_cons_zero,List.set_cons_succ]
  refine Aa 10 hHeld ?_
  refine wpAnyH_done (by kernel_rfl) ?_ _
  clear hHeld
  go_wp2
  go_ret
  exact ⟨rfl,ht.drewn.drewn⟩
set_option maxRecDepth 20000 in
set_option maxHeartbeats 800000 in
theorem Ip (h : Lg B w F d l S L) (hb : S.bulk+1<1099511627776) :
  Calls Tryz.prog 123 #[.pointer (some ⟨l,0,none⟩)] w fun e w'=>e = .returned (.int .i64 (Ba S L.sure).2.2)∧Bv B w F d l (Ba S L.sure).1 { L with sure:=(Ba S L.sure).2.1 } w':=by
 have hsd:=syncDir_lies h.1 h.size hb
 have x0:=Ad h.2.1 0
 have x2:=Ad h.2.1 2
 have H:=Ab h
 clear h
 unfold Ba
 cases hs : L.sure with
 | true=>
  rw [if_pos rfl]
  rw [hs] at x2
  go_enter Tryz.func123,Tryz.ntmps123
  go_wp2
  go_ret
  have:=H.out.refl
  refine ⟨rfl,?_⟩
  rw [← hs]
  exact this
 | false=>
  rw [if_neg (by decide)]
  rw [hs] at x2
  generalize S.syncDir=R at *
  obtain ⟨S1,e1⟩:=R
  dsimp only at hsd ⊢
  go_enter Tryz.func123,Tryz.ntmps123
  go_wp2_with fail
  refine hsd.mono ?_
  rintro e w1 ⟨rfl,ha⟩
  obtain ⟨F1,hg1,hf1,hc1⟩:=H.out.after ha
  have y2:=Av hg1.2.1 2
  have y3:=Ad hg1.2.1 2
  have hp:=hg1.put (e1 == 0)
  go_wp2
  go_ret
  exact ⟨rfl,hp.next hc1 hf1⟩
set_option maxRecDepth 20000 in
set_option maxHeartbeats 800000 in
theorem length_lg (h : Lg B w F d l S L) :
  Calls Tryz.prog 88 #[.pointer (some ⟨l,0,none⟩)] w fun e w'=>e = .returned (.int .i64 (max (S.size L.n) 0))∧w'=w.drew:=by
 have hsz:=Kd h.1.drew L.n
 have x0:=Ad h.2.1 0
 have x1:=Ad h.2.1 1
 clear h
 generalize S.size L.n=z at *
 have hm : (if z<0 then (0 : Int) else z)=max z 0:=by split <;> omega
 generalize max z 0=m at *
 go_enter Tryz.func88,Tryz.ntmps88
 go_wp2
 refine wp_region_held_drew (S:=fun W=>W.cell? ⟨l,0,none⟩=some (.pointer (some ⟨d,0,none⟩))∧W.cell? ⟨l,1,none⟩=some (.string (Ae L.n))) (by kernel_rfl) (⟨x0,x1⟩) (fun hHeld=>?_)
 refine Aa 0 hHeld ?_
 refine Aa 1 hHeld ?_
 refine Aa 2 hHeld ?_
 refine Aa 3 hHeld ?_
 refine Aa 4 hHeld ?_
 refine Aa 5 hHeld ?_
 refine Aa 6 hHeld ?_
 refine Aa 7 hHeld ?_
 refine Al (i:=8) rfl (by kernel_rfl) rfl (fun K hK=>?_)
 go_simp
 refine hsz.mono ?_
 rintro e w1 ⟨rfl,h1⟩
 rw [h1]
 clear h1
 refine hK.out _ _ (⟨x0,x1⟩) (fun hHeld=>?_)
 clear hK K
 try simp only [Act.put,List.setIfInBounds_toArray,List.set_cons_zero,List.set_cons_succ]
 refine Aa 9 hHeld ?_
 refine Aa 10 hHeld ?_
 refine wpAnyH_done (by kernel_rfl) ?_ _
 clear hHeld
 go_wp2
 go_ret
 exact ⟨rfl,rfl⟩
def Cw (S : Dk) (n : Nm) : List UInt8 × Int:=if (S.read n).2=32 then ([],0) else S.read n
set_option maxRecDepth 20000 in
set_option maxHeartbeats 800000 in
theorem read_lg (h : Lg B w F d l S L) (hb : S.bulk<1099511627776) :
  Calls Tryz.prog 77 #[.pointer (some ⟨l,0,none⟩)] w fun e w'=>∃ v F',e = .returned (.tuple #[v, .int .i64 (Cw S L.n).2])∧w'.ownsRow w.heap.size 5 1 v (Cw S L.n).1.length (bc (Cw S L.n).1) ∧
   Lg B w' F' d l S.begun L∧(∀ k,F' k→F k∨w.heap.size≤k)∧Chg F w w'∧∀ k,v.ownBlock=some k→¬ F' k:=by
 have hrd:=read_lies h.1.drew h.size L.n hb
 have x0:=Ad h.2.1 0
 have x1:=Ad h.2.1 1
 have H:=Ab h
 clear h
 unfold Cw
 generalize S.read L.n=R at *
 obtain ⟨b,e0⟩:=R
 dsimp only at hrd ⊢
 by_cases he : e0=32
 ·subst he
  rw [if_pos rfl]
  go_enter Tryz.func77,Tryz.ntmps77
  go_wp2
  refine wp_region_held_drew (S:=fun W=>W.cell? ⟨l,0,none⟩=some (.pointer (some ⟨d,0,none⟩))∧W.cell? ⟨l,1,none⟩=some (.string (Ae L.n))) (by kernel_rfl) (⟨x0,x1⟩) (fun hHeld=>?_)
  refine Aa 0 hHeld ?_
  refine Aa 1 hHeld ?_
  refine Aa 2 hHeld ?_
  refine Aa 3 hHeld ?_
  refine Aa 4 hHeld ?_
  refine Aa 5 hHeld ?_
  refine Aa 6 hHeld ?_
  refine Aa 7 hHeld ?_
  refine Al (i:=8) rfl (by kernel_rfl) rfl (fun K hK=>?_)
  go_simp
  refine hrd.mono ?_
  rintro e w1 ⟨v,rfl,ho,F1,hs1,hf1,hc1,hv1⟩
  have hg1:=H.out.drew.next hs1 hf1 hc1
  have y0:=Ad hg1.2.1 0
  have y1:=Ad hg1.2.1 1
  refine hK.out _ _ (⟨y0,y1⟩) (fun hHeld=>?_)
  clear hK K
  try simp only [Act.put,List.setIfInBounds_toArray,List.set_cons_zero,List.set_cons_succ]
  refine Aa 9 hHeld ?_
  refine Aa 10 hHeld ?_
  refine Aa 11 hHeld ?_
  refine Aa 12 hHeld ?_
  refine Aa 13 hHeld ?_
  refine wpAnyH_done (by kernel_rfl) ?_ _
  clear hHeld
  go_wp2
  go_ret2
  exact ⟨_,F1,rfl,World.ownsRow_nil _ _ _ _,hg1,hf1,hc1.undrew,fun k hk=>by cases hk⟩
 ·rw [if_neg he]
  go_enter Tryz.func77,Tryz.ntmps77
  go_wp2
  refine wp_region_held_drew (S:=fun W=>W.cell? ⟨l,0,none⟩=some (.pointer (some ⟨d,0,none⟩))∧W.cell? ⟨l,1,none⟩=some (.string (Ae L.n))) (by kernel_rfl) (⟨x0,x1⟩) (fun hHeld=>?_)
  refine Aa 0 hHeld ?_
  refine Aa 1 hHeld ?_
  refine Aa 2 hHeld ?_
  refine Aa 3 hHeld ?_
  refine Aa 4 hHeld ?_
  refine Aa 5 hHeld ?_
  refine Aa 6 hHeld ?_
  refine Aa 7 hHeld ?_
  refine Al (i:=8) rfl (by kernel_rfl) rfl (fun K hK=>?_)
  go_simp
  refine hrd.mono ?_
  rintro e w1 ⟨v,rfl,ho,F1,hs1,hf1,hc1,hv1⟩
  have hg1:=H.out.drew.next hs1 hf1 hc1
  have y0:=Ad hg1.2.1 0
  have y1:=Ad hg1.2.1 1
  refine hK.out _ _ (⟨y0,y1⟩) (fun hHeld=>?_)
  clear hK K
  try simp only [Act.put,List.setIfInBounds_toArray,List.set_cons_zero,List.set_cons_succ]
  refine Aa 9 hHeld ?_
  refine Aa 10 hHeld ?_
  refine Aa 11 hHeld ?_
  refine Aa 12 hHeld ?_
  refine Aa 13 hHeld ?_
  refine wpAnyH_done (by kernel_rfl) ?_ _
  clear hHeld
  have heb : (e0 == 32)=false:=by simp [he]
  go_wp2
  go_ret2
  exact ⟨_,F1,rfl,ho,hg1,hf1,hc1.undrew,hv1⟩
set_option maxRecDepth 20000 in
set_option maxHeartbeats 800000 in
theorem beginning_lg (h : Lg B w F d l S L) (k : Int) (hk : -9223372036854775808≤k∧k≤9223372036854775807) (hb : S.bulk<1099511627776) :
  Calls Tryz.prog 118 #[.pointer (some ⟨l,0,none⟩), .int .i64 k] w fun e w'=>∃ v F',e = .returned (.tuple #[v, .int .i64 (S.readAt L.n 0 k).2])∧w'.ownsRow w.heap.size 5 1 v (S.readAt L.n 0 k).1.length (bc (S.readAt L.n 0 k).1) ∧
   Lg B w' F' d l S.begun L∧(∀ k,F' k→F k∨w.heap.size≤k)∧Chg F w w'∧∀ k,v.ownBlock=some k→¬ F' k:=by
 have hrd:=readAt_lies h.1.drew h.size L.n 0 k (by omega) hk hb
 have x0:=Ad h.2.1 0
 have x1:=Ad h.2.1 1
 have H:=Ab h
 clear h
 generalize S.readAt L.n 0 k=R at *
 obtain ⟨b,e0⟩:=R
 dsimp only at hrd ⊢
 go_enter Tryz.func118,Tryz.ntmps118
 go_wp2
 refine wp_region_held_drew (S:=fun W=>W.cell? ⟨l,0,none⟩=some (.pointer (some ⟨d,0,none⟩))∧W.cell? ⟨l,1,none⟩=some (.string (Ae L.n))) (by kernel_rfl) (⟨x0,x1⟩) (fun hHeld=>?_)
 refine Aa 0 hHeld ?_
 refine Aa 1 hHeld ?_
 refine Aa 2 hHeld ?_
 refine Aa 3 hHeld ?_
 refine Aa 4 hHeld ?_
 refine Aa 5 hHeld ?_
 refine Aa 6 hHeld ?_
 refine Aa 7 hHeld ?_
 refine Aa 8 hHeld ?_
 refine Al (i:=9) rfl (by kernel_rfl) rfl (fun K hK=>?_)
 go_simp
 refine hrd.mono ?_
 rintro e w1 ⟨v,rfl,ho,F1,hs1,hf1,hc1,hv1⟩
 have hg1:=H.out.drew.next hs1 hf1 hc1
 have y0:=Ad hg1.2.1 0
 have y1:=Ad hg1.2.1 1
 refine hK.out _ _ (⟨y0,y1⟩) (fun hHeld=>?_)
 clear hK K
 try simp only [Act.put,List.setIfInBounds_toArray,List.set_cons_zero,List.set_cons_succ]
 refine Aa 10 hHeld ?_
 refine Aa 11 hHeld ?_
 refine Aa 12 hHeld ?_
 refine Aa 13 hHeld ?_
 refine wpAnyH_done (by kernel_rfl) ?_ _
 clear hHeld
 go_wp2
 go_ret2
 exact ⟨_,F1,rfl,ho,hg1,hf1,hc1.undrew,hv1⟩
end Go.Proofs.YtblniomnhpedjaaGreatDoor
