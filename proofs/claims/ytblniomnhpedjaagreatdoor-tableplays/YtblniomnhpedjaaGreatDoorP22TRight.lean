/-
  Texts joined: TRight, TGroup, TTake, TTakes, TTakes2, TLaid, TGroups.
-/
import Derived.Test.YtblniomnhpedjaaGreatDoorP11TWith
import Derived.Test.YtblniomnhpedjaaGreatDoorP21Log
import Derived.Test.YtblniomnhpedjaaGreatDoorP18Puts
import Derived.Test.YtblniomnhpedjaaGreatDoorP3Made
import Derived.Maps.AppendAt
namespace Go.Proofs.YtblniomnhpedjaaGreatDoor
open Go.RowKit
def Cp (p : An) : Bool:=!decide (2048<p.1.length) && !decide (4096<p.2.1.length) && !(p.2.2 && !p.2.1.isEmpty)
def Bk (l : List An) : Nat:=(l.map fun p=>p.1.length+p.2.1.length).sum
def Bc (l : List An) : Bool:=decide (l.length≤2000) && l.all Cp && decide (Bk l≤1048576)
theorem Oj (a b : List An) : Bk (a++b)=Bk a+Bk b:=by simp [Bk]
theorem Fk {α : Type} (l : List α) {k : Nat} (h : k<l.length) : l.take (k+1)=l.take k ++ [l[k]]:=by rw [List.take_add_one]; simp [h]
theorem K7 (l : List An) {k : Nat} (h : k<l.length) : Bk (l.take (k+1))=Bk (l.take k)+(l[k].1.length+l[k].2.1.length):=by
 rw [Fk l h,Oj]
 generalize l[k]=x
 simp [Bk]
theorem N6 (t : TypeId) (a : Bs) : binOp .neq t (.string (Ae a)) (.string ⟨#[]⟩)=pure (.bool (!a.isEmpty)):=by
 cases a <;> simp [binOp,Op.stringOp,Ae]
theorem right_no {l : List An} {k : Nat} (h : k<l.length) (hx : Cp l[k]=false) : Bc l=false:=by
 have : l.all Cp=false:=by
  rw [Bool.eq_false_iff]
  intro hc
  have:=List.all_eq_true.1 hc l[k] (List.getElem_mem h)
  rw [hx] at this
  cases this
 unfold Bc
 rw [this]
 simp
theorem Nr {l : List An} {k : Nat} (h : k<l.length) (ha : (l.take k).all Cp=true) (hx : Cp l[k]=true) : (l.take (k+1)).all Cp=true:=by
 rw [Fk l h,List.all_append,ha]
 simpa using hx
set_option maxRecDepth 40000 in
set_option maxHeartbeats 1600000 in
theorem Pg (w : World) (l : List An) (v : Value) (hv : PsT w v l) :
  Calls Tryz.prog 49 #[v] w fun e w'=>e = .returned (.bool (Bc l))∧Chg (fun _=>False) w w':=by
 obtain ⟨ao,cap,rfl,h1,h2,h4⟩:=hv
 unfold maxLen at h2
 by_cases hmany : 2000<l.length
 ·have q0 : decide ((2000 : Int)<(l.length : Int))=true:=decide_eq_true (by omega)
  have HN : Hid (Bc l=false):=Ab (by unfold Bc; rw [decide_eq_false (by omega)]; rfl)
  clear h4
  go_enter Tryz.func49,Tryz.ntmps49
  go_wp2
  go_ret
  exact ⟨by rw [HN.out]; rfl,Chg.refl _ _⟩
 have q0 : decide ((2000 : Int)<(l.length : Int))=false:=decide_eq_false (by omega)
 go_enter Tryz.func49,Tryz.ntmps49
 go_wp2_with fail
 go_loopw [11,3] (fun t u wr=>∃ k : Nat,k≤l.length∧t = .int .i64 k∧u = .int .i64 (Bk (l.take k))∧Bk (l.take k)≤k * 6144∧(l.take k).all Cp=true∧Chg (fun _=>False) w wr)
  (fun t _ _=>l.length - (intOf t).toNat)
 case atStart=>exact ⟨0,by omega,rfl,rfl,by simp [Bk],rfl,Chg.refl _ _⟩
 case round=>
  obtain ⟨k,hk,rfl,rfl,hsum,hok,hch⟩:=hrel
  by_cases hlt : k<l.length
  ·obtain ⟨b,off,rfl,hbl,hc⟩:=h4 (by intro e; rw [e] at hlt; simp at hlt)
   have c0:=(World.cell?_of_block (w:=w) (a:=⟨b,off+k * 3+0,none⟩) (hch.block b hbl (fun h=>h))).trans (hc k hlt 0 _ rfl)
   have c1:=(World.cell?_of_block (w:=w) (a:=⟨b,off+k * 3+1,none⟩) (hch.block b hbl (fun h=>h))).trans (hc k hlt 1 _ rfl)
   have c2:=(World.cell?_of_block (w:=w) (a:=⟨b,off+k * 3+2,none⟩) (hch.block b hbl (fun h=>h))).trans (hc k hlt 2 _ rfl)
   have hno:=fun h=>right_no (l:=l) hlt h
   have hst:=fun h=>Nr (l:=l) hlt hok h
   have htt:=K7 l hlt
   generalize l[k]=x at *
   have hb1:=hch.trans (Cl wr (Bd x)) (fun _ _ h=>h)
   have hx1:=B1 x.1
   have hx2:=B1 x.2.1
   have hne:=N6 9 x.2.1
   obtain ⟨tk,htk⟩ : ∃ tk,tk=Bk (l.take k):=⟨_,rfl⟩
   obtain ⟨tn,htn⟩ : ∃ tn,tn=Bk (l.take (k+1)):=⟨_,rfl⟩
   rw [← htk] at htt hsum
   rw [← htn] at htt
   rw [← htk]
   have hput : Cp x=(!decide (2048<x.1.length) && !decide (4096<x.2.1.length) && !(x.2.2 && !x.2.1.isEmpty)):=rfl
   have HH:=Ab (And.intro hno (And.intro hst (And.intro hb1 (And.intro hput (And.intro htt (And.intro hsum htn))))))
   try simp only [Nat.add_zero] at c0 c1 c2
   clear hno hst hb1 hput hc hch hok htt htk htn hsum
   have HB1:=Ab HH.out.2.2.1
   by_cases hk1 : 2048<x.1.length
   ·have qa : decide ((2048 : Int)<(x.1.length : Int))=true:=decide_eq_true (by omega)
    have HN : Hid (Bc l=false):=Ab (HH.out.1 (by rw [HH.out.2.2.2.1,decide_eq_true hk1]; rfl))
    go_wp2
    go_ret
    exact ⟨by rw [HN.out]; rfl,HB1.out⟩
   have qa : decide ((2048 : Int)<(x.1.length : Int))=false:=decide_eq_false (by omega)
   by_cases hk2 : 4096<x.2.1.length
   ·have qb : decide ((4096 : Int)<(x.2.1.length : Int))=true:=decide_eq_true (by omega)
    have HN : Hid (Bc l=false):=Ab (HH.out.1 (by rw [HH.out.2.2.2.1,decide_eq_false hk1,decide_eq_true hk2]; rfl))
    go_wp2
    go_ret
    exact ⟨by rw [HN.out]; rfl,HB1.out⟩
   have qb : decide ((4096 : Int)<(x.2.1.length : Int))=false:=decide_eq_false (by omega)
   have hadd1 : IntKind.i64.wrap ((x.1.length : Int)+(x.2.1.length : Int))=(x.1.length : Int)+(x.2.1.length : Int):=by simp [IntKind.wrap,IntKind.bits,IntKind.signed]; omega
   have hadd2 : IntKind.i64.wrap ((tk : Int)+((x.1.length : Int)+(x.2.1.length : Int)))=(tn : Int):=by
    have h3:=HH.out.2.2.2.2.1
    have h4:=HH.out.2.2.2.2.2.1
    rw [show (tk : Int)+((x.1.length : Int)+(x.2.1.length : Int))=(tn : Int) by omega]
    simp [IntKind.wrap,IntKind.bits,IntKind.signed]
    omega
   cases hgo : x.2.2 with
   | false=>
    rw [hgo] at c2
    have hb1:=HH.out.2.2.1
    simp only [Bd,hgo] at hb1
    have HB1:=Ab hb1
    clear hb1
    have HN : Hid ((l.take (k+1)).all Cp=true):=Ab (HH.out.2.1 (by rw [HH.out.2.2.2.1,hgo,decide_eq_false hk1,decide_eq_false hk2]; rfl))
    go_wp2_with fail
    go_roundw
    case rel=>exact ⟨k+1,by omega,by go_num,by rw [← HH.out.2.2.2.2.2.2],by rw [← HH.out.2.2.2.2.2.2]; have:=HH.out.2.2.2.2.1; have:=HH.out.2.2.2.2.2.1; omega,HN.out,HB1.out⟩
    case measure=>simp [intOf]; omega
   | true=>
    rw [hgo] at c2
    have hb1:=HH.out.2.2.1
    simp only [Bd,hgo] at hb1
    have HB1:=Ab hb1
    clear hb1
    cases hem : x.2.1.isEmpty with
    | false=>
     rw [hem] at hne
     have HN : Hid (Bc l=false):=Ab (HH.out.1 (by rw [HH.out.2.2.2.1,hgo,hem,decide_eq_false hk1,decide_eq_false hk2]; rfl))
     go_wp2
     go_ret
     exact ⟨by rw [HN.out]; rfl,HB1.out⟩
    | true=>
     rw [hem] at hne
     have HN : Hid ((l.take (k+1)).all Cp=true):=Ab (HH.out.2.1 (by rw [HH.out.2.2.2.1,hgo,hem,decide_eq_false hk1,decide_eq_false hk2]; rfl))
     go_wp2_with fail
     go_roundw
     case rel=>exact ⟨k+1,by omega,by go_num,by rw [← HH.out.2.2.2.2.2.2],by rw [← HH.out.2.2.2.2.2.2]; have:=HH.out.2.2.2.2.1; have:=HH.out.2.2.2.2.2.1; omega,HN.out,HB1.out⟩
     case measure=>simp [intOf]; omega
  ·have hkl : k=l.length:=by omega
   subst hkl
   rw [List.take_length] at hok hsum ⊢
   have HN : Hid (Bc l=decide (Bk l≤1048576)):=Ab (by unfold Bc; rw [hok,decide_eq_true (show l.length≤2000 by omega)]; rfl)
   have HC:=Ab hch
   generalize Bk l=tt at *
   clear hok hch hsum
   by_cases hle : tt≤1048576
   ·have q1 : decide ((tt : Int)≤1048576)=true:=decide_eq_true (by omega)
    go_wp2
    go_ret
    exact ⟨by rw [HN.out,decide_eq_true hle]; rfl,HC.out⟩
   ·have q1 : decide ((tt : Int)≤1048576)=false:=decide_eq_false (by omega)
    go_wp2
    go_ret
    exact ⟨by rw [HN.out,decide_eq_false hle]; rfl,HC.out⟩
end Go.Proofs.YtblniomnhpedjaaGreatDoor
namespace Go.Proofs.YtblniomnhpedjaaGreatDoor
open Go.RowKit
def Aw (p : An) : Bs:=txt p.1++if p.2.2 then [] else txt p.2.1
theorem txt_of (r : Bs) : Pl.enc (Pl.zz (Ae r).size)++(Ae r).data.toList=txt r:=by have:=txt_put r; rwa [List.nil_append] at this
theorem txt_le (r : Bs) : (txt r).length≤r.length+10:=by
 have:=He r.length
 unfold txt
 rw [List.length_append]
 omega
set_option maxRecDepth 20000 in
set_option maxHeartbeats 1600000 in
theorem Mo (w : World) (v : Value) (l : List An) (hv : PsT w v l) (hn : l.length≤1000000) (hs : ∀ p∈l,p.1.length≤1000000∧p.2.1.length≤1000000) :
  Calls Tryz.prog 68 #[v] w fun e w'=>∃ u,e = .returned u∧w'.ownsRow w.heap.size 9 1 u (l.map Aw).length (tcW (l.map Aw))∧Below w.heap.size w w':=by
 obtain ⟨ao,cap,rfl,h1,h2,h4⟩:=hv
 unfold maxLen at h2
 obtain ⟨i0,hi0,hz0,hz1,hz2⟩:=info_parts Tryz.infoT
 go_enter Tryz.func68,Tryz.ntmps68
 go_wp2_with fail
 go_loopw [9,3] (fun t u wr=>∃ k : Nat,k≤l.length∧t = .int .i64 k∧wr.ownsRow w.heap.size 9 1 u ((l.take k).map Aw).length (tcW ((l.take k).map Aw))∧Below w.heap.size w wr)
  (fun t _ _=>l.length - (intOf t).toNat)
 case atStart=>exact ⟨0,by omega,rfl,World.ownsRow_nil _ _ _ _,Below.refl _ _⟩
 case round=>
  obtain ⟨k,hk,rfl,hrow,hbr⟩:=hrel
  by_cases hlt : k<l.length
  ·obtain ⟨b,off,rfl,hbl,hc⟩:=h4 (by intro e; rw [e] at hlt; simp at hlt)
   have c0:=(hbr.cell (p:=⟨b,off+k * 3+0,none⟩) hbl).trans (hc k hlt 0 _ rfl)
   have c1:=(hbr.cell (p:=⟨b,off+k * 3+1,none⟩) hbl).trans (hc k hlt 1 _ rfl)
   have c2:=(hbr.cell (p:=⟨b,off+k * 3+2,none⟩) hbl).trans (hc k hlt 2 _ rfl)
   have hsk:=hs _ (List.getElem_mem hlt)
   have htk : (l.take (k+1)).map Aw=(l.take k).map Aw ++ [Aw l[k]]:=by rw [Fk l hlt,List.map_append]; rfl
   generalize l[k]=x at *
   have hlen : ((l.take k).map Aw).length≤1000000:=by rw [List.length_map,List.length_take]; omega
   generalize (l.take k).map Aw=acc at *
   try simp only [Nat.add_zero] at c0 c1 c2
   have hbA : Below wr.heap.size wr (wr.alloc (Bd x)):=(Below.refl _ _).alloc (Nat.le_refl _) _
   have hxA:=Au wr (Bd x)
   have hp1:=Kl (wr.alloc (Bd x)) (.slice none 0 0) [] (Ae x.1) (Sl.nil _) (by rw [B1]; simp; omega)
   rw [txt_of,List.nil_append] at hp1
   have HH:=Ab (And.intro hrow (And.intro hbr (And.intro hbA (And.intro hxA htk))))
   obtain ⟨ua,uc,rfl,-⟩:=Ay hrow
   clear hc hrow hbr hbA htk
   cases hgo : x.2.2 with
   | true=>
    have hxr : Aw x=txt x.1:=by unfold Aw; rw [hgo]; simp
    rw [hgo] at c2
    simp only [Bd,hgo] at hp1
    have hxA2:=hxA
    have hbA2:=HH.out.2.2.1
    simp only [Bd,hgo] at hxA2 hbA2
    have HX:=Ab (And.intro hxA2 hbA2)
    clear hxA hxA2 hbA2
    have HXR:=Ab hxr
    clear hxr
    go_wp2_with fail
    refine hp1.mono ?_
    rintro e w1 ⟨g,m,cp,rfl,-,-,hsl,hb1⟩
    have hcv : (convert 68 9 (.slice (some ⟨g,0,none⟩) m cp)).run Tryz.prog w1 = .ok (.string (Ae (Aw x))) w1:=by rw [HXR.out]; exact G9 w1 _ _ hsl
    have hb1w:=HX.out.2.trans (hb1.mono HX.out.2.size)
    have y2:=Ad ((hb1.block _ (At HX.out.1)).trans HX.out.1) 2
    simp only [List.getElem?_toArray,List.getElem?_cons_zero,List.getElem?_cons_succ] at y2
    have HR:=Ab (And.intro (Ck HH.out.1 hb1w) (HH.out.2.1.trans (hb1w.mono HH.out.2.1.size)))
    clear hp1 hsl hb1 hb1w
    go_wp2_with (at_builtin; refine wpList_append_own _ rfl (.tmp 23) (.tmp 26) 58 rfl w.heap.size 9 i0 (.string ⟨#[]⟩) 1 16 Tryz.underlying58 hi0 hz0 hz1 hz2 rfl (by decide) _ _ _ rfl (HR.out.1.alloc _) ⟨w1.heap.size,0,none⟩ 1 1 [.string (Ae (Aw x))] rfl rfl (cell_one_new _ _ _) (by simp [Value.oneCell']) (by unfold maxLen; omega) (by omega) (by have:=HR.out.2.size; simp; omega) ?_)
    intro v2 w9 hown2 hgrow2 _
    have hb9 : Below w.heap.size w w9:=(HR.out.2.alloc HR.out.2.size _).grown hgrow2 (by have:=HR.out.2.size; simp; omega) (fun k hk=>(HR.out.1.lt k hk).1)
    obtain ⟨a3,c3,rfl,-⟩:=Ay hown2
    have HF:=Ab (And.intro hown2 hb9)
    clear hgrow2 hown2 hb9
    go_wp2
    go_roundw
    case rel=>exact ⟨k+1,by omega,by go_num,by rw [HH.out.2.2.2.2,Na,List.length_append]; exact HF.out.1,HF.out.2⟩
    case measure=>simp [intOf]; omega
   | false=>
    have hxr : Aw x=txt x.1++txt x.2.1:=by unfold Aw; rw [hgo]; simp
    rw [hgo] at c2
    simp only [Bd,hgo] at hp1
    have hxA2:=hxA
    have hbA2:=HH.out.2.2.1
    simp only [Bd,hgo] at hxA2 hbA2
    have HX:=Ab (And.intro hxA2 hbA2)
    clear hxA hxA2 hbA2
    have HXR:=Ab hxr
    clear hxr
    go_wp2_with fail
    refine hp1.mono ?_
    rintro e w1 ⟨g,m,cp,rfl,-,-,hsl,hb1⟩
    have hx1:=(hb1.block _ (At HX.out.1)).trans HX.out.1
    have y1:=Ad hx1 1
    have y2:=Ad hx1 2
    simp only [List.getElem?_toArray,List.getElem?_cons_zero,List.getElem?_cons_succ] at y1 y2
    have hp2:=Kl w1 _ _ (Ae x.2.1) hsl (by rw [B1]; have:=txt_le x.1; omega)
    rw [txt_of,← HXR.out] at hp2
    have hb1w:=HX.out.2.trans (hb1.mono HX.out.2.size)
    have HB1:=Ab hb1w
    clear hp1 hsl hb1 hb1w hx1
    go_wp2_with fail
    refine hp2.mono ?_
    rintro e w2 ⟨g2,m2,cp2,rfl,-,-,hsl2,hb2⟩
    have hcv : (convert 68 9 (.slice (some ⟨g2,0,none⟩) m2 cp2)).run Tryz.prog w2 = .ok (.string (Ae (Aw x))) w2:=G9 w2 _ _ hsl2
    have hb2w:=HB1.out.trans (hb2.mono HB1.out.size)
    have HR:=Ab (And.intro (Ck HH.out.1 hb2w) (HH.out.2.1.trans (hb2w.mono HH.out.2.1.size)))
    clear hp2 hsl2 hb2 hb2w
    go_wp2_with (at_builtin; refine wpList_append_own _ rfl (.tmp 23) (.tmp 26) 58 rfl w.heap.size 9 i0 (.string ⟨#[]⟩) 1 16 Tryz.underlying58 hi0 hz0 hz1 hz2 rfl (by decide) _ _ _ rfl (HR.out.1.alloc _) ⟨w2.heap.size,0,none⟩ 1 1 [.string (Ae (Aw x))] rfl rfl (cell_one_new _ _ _) (by simp [Value.oneCell']) (by unfold maxLen; omega) (by omega) (by have:=HR.out.2.size; simp; omega) ?_)
    intro v2 w9 hown2 hgrow2 _
    have hb9 : Below w.heap.size w w9:=(HR.out.2.alloc HR.out.2.size _).grown hgrow2 (by have:=HR.out.2.size; simp; omega) (fun k hk=>(HR.out.1.lt k hk).1)
    obtain ⟨a3,c3,rfl,-⟩:=Ay hown2
    have HF:=Ab (And.intro hown2 hb9)
    clear hgrow2 hown2 hb9
    go_wp2
    go_roundw
    case rel=>exact ⟨k+1,by omega,by go_num,by rw [HH.out.2.2.2.2,Na,List.length_append]; exact HF.out.1,HF.out.2⟩
    case measure=>simp [intOf]; omega
  ·have hkl : k=l.length:=by omega
   subst hkl
   rw [List.take_length] at hrow
   obtain ⟨ua,uc,rfl,-⟩:=Ay hrow
   have HR:=Ab (And.intro hrow hbr)
   clear hrow hbr
   go_wp2
   go_ret
   exact ⟨_,rfl,HR.out.1,HR.out.2⟩
end Go.Proofs.YtblniomnhpedjaaGreatDoor
namespace Go.Proofs.YtblniomnhpedjaaGreatDoor
open Go.RowKit
def Cv (b : Bs) : Option An:=match Ch b 0 2048 with
 | none=>none
 | some (key,q)=>if q=b.length then some (key,([],true)) else match Ch b q 4096 with
  | none=>none
  | some (val,r)=>if r=b.length then some (key,(val,false)) else none
theorem takeR_put (p : An) (h : Cp p=true) : Cv (Aw p)=some p:=by
 unfold Cp at h
 simp only [Bool.and_eq_true,Bool.not_eq_true',decide_eq_false_iff_not] at h
 obtain ⟨⟨h1,h2⟩,h3⟩:=h
 obtain ⟨key,val,gone⟩:=p
 simp only at h1 h2 h3
 unfold Cv Aw
 cases gone with
 | true=>
  have hv : val = []:=by cases val with
   | nil=>rfl
   | cons a r=>simp at h3
  subst hv
  have:=Hp [] [] key 2048 (by omega) (by omega)
  simp only [List.nil_append,List.append_nil,List.length_nil,Nat.zero_add] at this
  simp only [if_true,List.append_nil]
  rw [show ((0 : Nat) : Int)=0 from rfl] at this
  rw [this]
  simp
 | false=>
  have k1:=Hp [] (txt val) key 2048 (by omega) (by omega)
  simp only [List.nil_append,List.length_nil,Nat.zero_add] at k1
  rw [show ((0 : Nat) : Int)=0 from rfl] at k1
  have k2:=Hp (txt key) [] val 4096 (by omega) (by omega)
  rw [List.append_nil] at k2
  have hpos : 0<(txt val).length:=by have:=He val.length; unfold txt; rw [List.length_append]; omega
  simp only [Bool.false_eq_true,if_false]
  rw [k1]
  simp only
  rw [if_neg (by rw [List.length_append]; omega),k2]
  simp
theorem takeT_end {b t : Bs} {p most : Int} {q : Nat} (h : Ch b p most=some (t,q)) : q≤b.length:=by
 unfold Ch at h
 split at h
 ·cases h
 ·split at h
  ·cases h
  ·injection h with h
   injection h with h1 h2
   omega
abbrev putV (p : An) : Value:=.agg #[.string (Ae p.1), .string (Ae p.2.1), .bool p.2.2]
theorem Tryz.infoPut : (Tryz.prog.info? 73).map (·.size)=some 3:=by kernel_rfl
theorem Ev {P : Program} {fn : Func} {p u : Tmp} {ty : TypeId} (h : fn.results = #[.cell p ty, .tmp u]) (tmps : Array Value) (w : World) (g : Nat) (t : TypeId) (cs : Array Value) (fr : Nat × Nat) (d : TypeDesc)
  (hp : tmps.getD p undef = .pointer (some ⟨g,0,none⟩)) (hg : w.heap[g]? = some (.cells cs t fr))
  (hu : P.underlying ty=some d) (hd : (match d with | .struct _ | .array _ _=>true | _=>false)=true) (hi : (P.info? ty).map (·.size)=some cs.size) :
  (results fn tmps).run P w = .ok (.tuple #[.agg cs,tmps.getD u undef]) w:=by
 have hp' : tmps[p]?.getD undef = .pointer (some ⟨g,0,none⟩):=by simpa using hp
 rw [results_cell_tmp h]
 simp [hp',asAddr,run_loadVar_row w g t ty cs fr d hg hu hd hi]
def takeV (r : Option An) (e : Ending) : Prop:=match r with
 | some p=>e = .returned (.tuple #[putV p, .bool true])
 | none=>∃ p : An,e = .returned (.tuple #[putV p, .bool false])
set_option maxRecDepth 20000 in
set_option maxHeartbeats 800000 in
theorem takePut_any (w : World) (v : Value) (b : Bs) (h : Sl w v b) (hl : b.length≤1000000000) :
  Calls Tryz.prog 79 #[v] w fun e w'=>takeV (Cv b) e∧Below w.heap.size w w':=by
 have hA : ∀ cs : List Value,Below w.heap.size w (w.alloc (.cells cs.toArray 73)):=fun cs=>(Below.refl _ _).alloc (Nat.le_refl _) _
 have hA0:=hA [.string ⟨#[]⟩, .string ⟨#[]⟩, .bool false]
 have hs:=h.keepB hA0
 have hsd:=h
 obtain ⟨ao,cap,rfl,-⟩:=hsd
 cases h1 : Ch b 0 2048 with
 | none=>
  have hR : Cv b=none:=by unfold Cv; rw [h1]
  have ht:=M3 _ _ b 0 2048 hs (by omega) h1
  rw [hR]
  clear hR h1 hs h
  go_enter Tryz.func79,Tryz.ntmps79
  go_wp2_with fail
  refine ht.mono ?_
  rintro e w1 ⟨rfl,rfl⟩
  go_wp2
  refine bodyPost_ret (Ev rfl _ _ _ _ _ _ _ rfl (Au w _) Tryz.underlying73 rfl Tryz.infoPut) rfl ?_
  exact ⟨⟨([],([],false)),rfl⟩,hA [.string (Ae []), .string (Ae []), .bool false]⟩
 | some kq=>
  obtain ⟨key,q⟩:=kq
  have ht : Calls Tryz.prog _ _ _ fun e w'=>e = .returned (.tuple #[.string (Ae key), .int .i64 (q : Int), .bool true])∧w'=_:=M4 _ _ b 0 2048 key q hs (by omega) h1
  have hq:=takeT_end h1
  by_cases hqe : q=b.length
  ·have hR : Cv b=some (key,([],true)):=by unfold Cv; rw [h1]; simp only; rw [if_pos hqe]
   have q1 : ((q : Int) == (b.length : Int))=true:=by simp [hqe]
   rw [hR]
   clear hR h1 hs h hqe hq
   go_enter Tryz.func79,Tryz.ntmps79
   go_wp2_with fail
   refine ht.mono ?_
   rintro e w1 ⟨rfl,rfl⟩
   go_wp2
   refine bodyPost_ret (Ev rfl _ _ _ _ _ _ _ rfl (Au w _) Tryz.underlying73 rfl Tryz.infoPut) rfl ?_
   exact ⟨rfl,hA [.string (Ae key), .string (Ae []), .bool true]⟩
  ·have q1 : ((q : Int) == (b.length : Int))=false:=by simpa using fun e=>hqe (by omega)
   cases h2 : Ch b q 4096 with
   | none=>
    have hR : Cv b=none:=by unfold Cv; rw [h1]; simp only; rw [if_neg hqe,h2]
    have ht2:=M3 _ _ b q 4096 hs (by omega) h2
    rw [hR]
    clear hR h1 h2 hs h hqe hq
    go_enter Tryz.func79,Tryz.ntmps79
    go_wp2_with fail
    refine ht.mono ?_
    rintro e w1 ⟨rfl,rfl⟩
    go_wp2_with fail
    refine ht2.mono ?_
    rintro e w2 ⟨rfl,rfl⟩
    go_wp2
    refine bodyPost_ret (Ev rfl _ _ _ _ _ _ _ rfl (Au w _) Tryz.underlying73 rfl Tryz.infoPut) rfl ?_
    exact ⟨⟨(key,([],false)),rfl⟩,hA [.string (Ae key), .string (Ae []), .bool false]⟩
   | some vr=>
    obtain ⟨val,r⟩:=vr
    have ht2 : Calls Tryz.prog _ _ _ fun e w'=>e = .returned (.tuple #[.string (Ae val), .int .i64 (r : Int), .bool true])∧w'=_:=M4 _ _ b q 4096 val r hs (by omega) h2
    by_cases hre : r=b.length
    ·have hR : Cv b=some (key,(val,false)):=by unfold Cv; rw [h1]; simp only; rw [if_neg hqe,h2]; simp only; rw [if_pos hre]
     have q2 : ((r : Int) == (b.length : Int))=true:=by simp [hre]
     rw [hR]
     clear hR h1 h2 hs h hqe hq hre
     go_enter Tryz.func79,Tryz.ntmps79
     go_wp2_with fail
     refine ht.mono ?_
     rintro e w1 ⟨rfl,rfl⟩
     go_wp2_with fail
     refine ht2.mono ?_
     rintro e w2 ⟨rfl,rfl⟩
     go_wp2
     refine bodyPost_ret (Ev rfl _ _ _ _ _ _ _ rfl (Au w _) Tryz.underlying73 rfl Tryz.infoPut) rfl ?_
     exact ⟨rfl,hA [.string (Ae key), .string (Ae val), .bool false]⟩
    ·have hR : Cv b=none:=by unfold Cv; rw [h1]; simp only; rw [if_neg hqe,h2]; simp only; rw [if_neg hre]
     have q2 : ((r : Int) == (b.length : Int))=false:=by simpa using fun e=>hre (by omega)
     rw [hR]
     clear hR h1 h2 hs h hqe hq hre
     go_enter Tryz.func79,Tryz.ntmps79
     go_wp2_with fail
     refine ht.mono ?_
     rintro e w1 ⟨rfl,rfl⟩
     go_wp2_with fail
     refine ht2.mono ?_
     rintro e w2 ⟨rfl,rfl⟩
     go_wp2
     refine bodyPost_ret (Ev rfl _ _ _ _ _ _ _ rfl (Au w _) Tryz.underlying73 rfl Tryz.infoPut) rfl ?_
     exact ⟨⟨(key,(val,false)),rfl⟩,hA [.string (Ae key), .string (Ae val), .bool false]⟩
end Go.Proofs.YtblniomnhpedjaaGreatDoor
namespace Go.Proofs.YtblniomnhpedjaaGreatDoor
open Go.RowKit
theorem tobytesT (w : World) (l : Bs) (hl : l.length≤maxLen) : ∃ ao cap w',(convert 9 68 (.string (Ae l))).run Tryz.prog w = .ok (.slice ao l.length cap) w'∧Sl w' (.slice ao l.length cap) l∧Below w.heap.size w w':=by
 have hs : (Ae l).size=l.length:=B1 l
 have hr:=run_bytes_of_string (P:=Tryz.prog) w 9 68 5 (Ae l) Tryz.underlying9 Tryz.underlying68 Tryz.underlying5
 rw [hs] at hr
 have hge:=grownCap_ge w l.length 0 5
 have hle:=grownCap_le_maxLen w l.length 0 5 hl
 refine ⟨_,_,_,hr,?_,((Below.refl _ w).drew).alloc (by simp) _⟩
 refine ⟨_,_,rfl,by omega,hle,by simp,fun _=>⟨w.heap.size,0,rfl,by simp,fun j hj=>?_⟩⟩
 have h:=Au w.drew (.cells (bytesRow (Ae l) (grownCap w l.length 0 5)) 5 ((bytesRow (Ae l) (grownCap w l.length 0 5)).size,(bytesRow (Ae l) (grownCap w l.length 0 5)).size+1))
 rw [show w.drew.heap.size=w.heap.size from rfl] at h
 rw [Nat.zero_add,Ad h,bytesRow_at (Ae l) _ j (by show j<l.toArray.size; simpa using hj)]
 simp [Ae]
def Co : List Bs→Option (List An)
 | []=>some []
 | r :: t=>match Cv r,Co t with
  | some p,some l=>some (p :: l)
  | _,_=>none
theorem takeL_snoc (a : List Bs) (r : Bs) : Co (a ++ [r])=(Co a).bind fun l=>(Cv r).map fun p=>l ++ [p]:=by
 induction a with
 | nil=>simp only [List.nil_append,Co]; cases Cv r <;> rfl
 | cons x t ih=>
  rw [List.cons_append,Co,ih,Co]
  cases Cv x <;> cases Co t <;> cases Cv r <;> rfl
theorem takeL_no {rs : List Bs} {k : Nat} (h : k<rs.length) (hx : Cv rs[k]=none) : Co rs=none:=by
 induction rs generalizing k with
 | nil=>simp at h
 | cons x t ih=>
  cases k with
  | zero=>simp only [List.getElem_cons_zero] at hx; rw [Co,hx]
  | succ k=>
   simp only [List.getElem_cons_succ] at hx
   rw [Co,ih (by simpa using h) hx]
   cases Cv x <;> rfl
theorem Nk : ∀ (rs : List Bs) (l : List An),Co rs=some l→l.length=rs.length
 | [],l,h=>by rw [Co] at h; injection h with h; subst h; rfl
 | r :: t,l,h=>by
  rw [Co] at h
  cases h1 : Cv r with
  | none=>rw [h1] at h; cases h
  | some p=>
   cases h2 : Co t with
   | none=>rw [h1,h2] at h; cases h
   | some m=>
    rw [h1,h2] at h
    injection h with h
    subst h
    rw [List.length_cons,List.length_cons,Nk t m h2]
theorem Lo : ∀ (l : List An),l.all Cp=true→Co (l.map Aw)=some l
 | [],_=>rfl
 | p :: r,h=>by
  rw [List.all_cons,Bool.and_eq_true] at h
  rw [List.map_cons,Co,takeR_put p h.1,Lo r h.2]
abbrev Cf (B : Nat) (w : World) (v : Value) (l : List An) : Prop:=w.ownsRow B 73 3 v l.length (l.flatMap C1)
theorem Mj : ∀ (ys : List An) (j i : Nat) (h : j<ys.length) (u : Value),(C1 (ys[j]'h))[i]? = some u→(ys.flatMap C1)[j * 3+i]? = some u
 | y :: ys,0,i,_,u,hu=>by
  have hi : i<3:=by have:=(List.getElem?_eq_some_iff.1 hu).1; simpa [C1] using this
  rw [List.flatMap_cons,Nat.zero_mul,Nat.zero_add,List.getElem?_append_left (by simpa [C1] using hi)]
  exact hu
 | y :: ys,j+1,i,h,u,hu=>by
  have:=Mj ys j i (by simpa using h) u hu
  rw [List.flatMap_cons,List.getElem?_append_right (by simp [C1]; omega)]
  rw [show (j+1) * 3+i - (C1 y).length=j * 3+i by simp [C1]; omega]
  exact this
theorem Cf.ps {B : Nat} {w : World} {v : Value} {l : List An} (h : Cf B w v l) : PsT w v l:=by
 have h':=h
 obtain ⟨-,⟨rfl,h0⟩ | ⟨g,cap,cur,rfl,-,hh,hc,hm,-⟩⟩:=h'
 ·obtain rfl : l = []:=List.eq_nil_of_length_eq_zero h0
  exact PsT.nil w
 ·refine ⟨_,_,rfl,hc,hm,fun _=>⟨g,0,rfl,At hh,fun j hj i u hu=>?_⟩⟩
  have:=World.ownsRow.cells h (g:=g) rfl _ _ (Mj l j i hj u hu)
  rw [Addr.add_lit] at this
  rwa [Nat.add_assoc]
end Go.Proofs.YtblniomnhpedjaaGreatDoor
namespace Go.Proofs.YtblniomnhpedjaaGreatDoor
open Go.RowKit
theorem Tryz.zPut : (Tryz.prog.info? 73).map (fun i=>(i.zero,i.size,i.bytes))=some (some (.agg #[.string ⟨#[]⟩, .string ⟨#[]⟩, .bool false]),3,40):=by kernel_rfl
theorem app_put (w : World) (B : Nat) (v : Value) (xs : List An) (p : An) (h : Cf B w v xs) (hB : B≤w.heap.size) (hn : xs.length≤4294967296) :
  ∃ v' w',(Builtin.append_ #[27,27] 27 #[v, .slice (some ⟨w.heap.size,0,none⟩) 1 1]).run Tryz.prog (w.alloc (Bd p)) = .ok v' w' ∧
   Cf B w' v' (xs ++ [p])∧(w.alloc (Bd p)).grownBy w' v.ownBlock:=by
 obtain ⟨i0,hi,hz0,hz1,hz2⟩:=info_parts Tryz.zPut
 have hx:=Au w (Bd p)
 obtain ⟨v',w',h1,h2,h3,-,h4⟩:=run_append_own_at (P:=Tryz.prog) (w.alloc (Bd p)) B 27 27 73 i0 (.agg #[.string ⟨#[]⟩, .string ⟨#[]⟩, .bool false]) 3 40 Tryz.underlying27 hi hz0 hz1 hz2 rfl (by decide) v xs.length (xs.flatMap C1) (h.alloc _) ⟨w.heap.size,0,none⟩ 1 1 (C1 p) rfl (fun j u hu=>by
   rw [Addr.add_lit,Nat.zero_add,Ad hx,List.getElem?_toArray]; exact hu) (by simp [C1,Value.oneCell']) (by unfold maxLen; omega) (by omega) (by simp; omega)
 refine ⟨v',w',h1,?_,h3⟩
 rw [Cf,List.length_append,List.flatMap_append]
 simpa using h2
def takeLV (B : Nat) (w : World) (r : Option (List An)) (e : Ending) : Prop:=match r with
 | some l=>∃ u,e = .returned (.tuple #[u, .bool true])∧Cf B w u l
 | none=>e = .returned (.tuple #[.slice none 0 0, .bool false])
set_option maxRecDepth 20000 in
set_option maxHeartbeats 1600000 in
theorem takePuts_any (w : World) (v : Value) (rs : List Bs) (hv : Tx w v rs) (hn : rs.length≤100000000) (hs : ∀ r∈rs,r.length≤1000000000) :
  Calls Tryz.prog 59 #[v] w fun e w'=>takeLV w.heap.size w' (Co rs) e∧Below w.heap.size w w':=by
 have HV:=Ab hv
 obtain ⟨ao,cap,rfl,h1,h2,h4⟩:=hv
 unfold maxLen at h2
 go_enter Tryz.func59,Tryz.ntmps59
 go_wp2_with fail
 go_loopw [11,4] (fun t u wr=>∃ (k : Nat) (acc : List An),k≤rs.length∧t = .int .i64 k∧Co (rs.take k)=some acc∧Cf w.heap.size wr u acc∧Below w.heap.size w wr)
  (fun t _ _=>rs.length - (intOf t).toNat)
 case atStart=>exact ⟨0,[],by omega,rfl,rfl,World.ownsRow_nil _ _ _ _,Below.refl _ _⟩
 case round=>
  obtain ⟨k,acc,hk,rfl,hacc,hrow,hbr⟩:=hrel
  have hal:=Nk _ _ hacc
  rw [List.length_take] at hal
  have hal2 : acc.length≤100000000:=by omega
  clear hal
  by_cases hlt : k<rs.length
  ·obtain ⟨b,off,rfl,hbl,hc⟩:=h4 (by intro e; rw [e] at hlt; simp at hlt)
   have c0:=(hbr.cell (p:=⟨b,off+k,none⟩) hbl).trans (hc k hlt)
   have hsk:=hs _ (List.getElem_mem hlt)
   have hno:=fun h=>takeL_no (rs:=rs) hlt h
   have htk:=takeL_snoc (rs.take k) rs[k]
   rw [← Fk rs hlt,hacc] at htk
   generalize rs[k]=r at *
   obtain ⟨ba,bc',w1,hcv,hsl,hb1⟩:=tobytesT wr r (by unfold maxLen; omega)
   have htp:=takePut_any w1 _ r hsl hsk
   have HH:=Ab (And.intro hrow (And.intro hbr (And.intro hb1 (And.intro hno htk))))
   obtain ⟨ua,uc,rfl,-⟩:=Ay hrow
   clear hc hrow hbr hb1 hno htk hsl hacc
   cases htr : Cv r with
   | none=>
    rw [htr] at htp
    have HN:=Ab (HH.out.2.2.2.1 htr)
    clear htr
    go_wp2_with fail
    refine htp.mono ?_
    rintro e w2 ⟨⟨q,rfl⟩,hb2⟩
    have hbw:=HH.out.2.1.trans ((HH.out.2.2.1.trans (hb2.mono HH.out.2.2.1.size)).mono HH.out.2.1.size)
    have HB:=Ab (hbw.alloc hbw.size (Bd q))
    clear htp hb2 hbw
    go_wp2
    go_ret2
    rw [HN.out]
    exact ⟨rfl,HB.out⟩
   | some p=>
    rw [htr] at htp
    have htk2 : Co (rs.take (k+1))=some (acc ++ [p]):=by rw [HH.out.2.2.2.2,htr]; rfl
    have HT:=Ab htk2
    clear htr htk2
    go_wp2_with fail
    refine htp.mono ?_
    rintro e w2 ⟨rfl,hb2⟩
    have hbw2:=HH.out.2.2.1.trans (hb2.mono HH.out.2.2.1.size)
    have hbA : Below wr.heap.size wr (w2.alloc (Bd p)):=hbw2.alloc hbw2.size _
    have hrow2:=Ck HH.out.1 hbA
    have hxA:=Au w2 (Bd p)
    have hBA:=HH.out.2.1.trans (hbA.mono HH.out.2.1.size)
    obtain ⟨v',w3,hrun,hrow3,hgr⟩:=app_put (w2.alloc (Bd p)) w.heap.size _ acc p hrow2 hBA.size (by omega)
    have hb3 : Below w.heap.size w w3:=(hBA.alloc hBA.size _).grown hgr (by have:=hBA.size; simp only [World.size_alloc] at this ⊢; omega) (fun k hk=>(hrow2.lt k hk).1)
    obtain ⟨va,vc,rfl,-⟩:=Ay hrow3
    rw [World.size_alloc] at hrun
    have HF:=Ab (And.intro hrow3 hb3)
    have HRUN:=Ab hrun
    clear hrun hrow3 hb3 hgr hrow2 hxA hBA hbA hbw2 hb2 htp
    go_wp2_with (at_builtin; refine wpList_plain rfl (fun K hK=>Cg (.tmp 23) (.tmp 25) 27 rfl rfl rfl HRUN.out (hK _ _ ?_)))
    go_wp2
    go_roundw
    case rel=>
     have h9:=HF.out.1
     have e9 : (acc ++ [p]).length=acc.length+1:=by simp
     refine ⟨k+1,acc ++ [p],by omega,by go_num,HT.out,?_,HF.out.2⟩
     rw [← e9]
     exact h9
    case measure=>simp [intOf]; omega
  ·have hkl : k=rs.length:=by omega
   subst hkl
   rw [List.take_length] at hacc
   obtain ⟨ua,uc,rfl,-⟩:=Ay hrow
   have HR:=Ab (And.intro hrow (And.intro hbr hacc))
   clear hrow hbr hacc
   go_wp2
   go_ret2
   rw [HR.out.2.2]
   exact ⟨⟨_,rfl,HR.out.1⟩,HR.out.2.1⟩
end Go.Proofs.YtblniomnhpedjaaGreatDoor
namespace Go.Proofs.YtblniomnhpedjaaGreatDoor
open Go.RowKit
def C7 : Option Bs→List An→Bool
 | _,[]=>true
 | last,p :: r=>!p.2.2 && (match last with | none=>true | some k=>ltB k p.1) && C7 (some p.1) r
def Eg (ps : List An) (first : Bool) : Bool:=if first then C7 none ps else decide (0<ps.length)
def Et (ps : List An) (k : Nat) : Option Bs:=if k=0 then none else (ps[k - 1]?).map (·.1)
theorem laid_at {ps : List An} {k : Nat} (h : k<ps.length) (last : Option Bs) : C7 last (ps.drop k)=(!ps[k].2.2 && (match last with | none=>true | some q=>ltB q ps[k].1) && C7 (some ps[k].1) (ps.drop (k+1))):=by
 rw [List.drop_eq_getElem_cons h]
 cases last <;> rfl
theorem leq_strT (t : TypeId) (a b : Bs) : binOp .leq t (.string (Ae a)) (.string (Ae b))=pure (.bool (!ltB b a)):=by
 have h1 : (Ae a).toList=a:=by rw [ByteArray.toList_eq]; exact Dg a
 have h2 : (Ae b).toList=b:=by rw [ByteArray.toList_eq]; exact Dg b
 have hg : (Op.bytesLess a b || a == b) = !ltB b a:=by
  show (ltB a b || a == b) = !ltB b a
  cases h3 : ltB b a with
  | true=>
   have h4 : ltB a b=false:=by
    cases h5 : ltB a b with
    | false=>rfl
    | true=>have:=Jf _ _ _ h3 h5; rw [Ff] at this; cases this
   have h6 : a≠b:=fun e=>by rw [e,Ff] at h3; cases h3
   rw [h4]
   simpa using h6
  | false=>
   cases h5 : ltB a b with
   | true=>rfl
   | false=>rw [L4 _ _ h5 h3]; simp
 simp [binOp,Op.stringOp,h1,h2,hg]
set_option maxRecDepth 20000 in
set_option maxHeartbeats 1600000 in
theorem isLaid_any (w : World) (v : Value) (ps : List An) (hv : PsT w v ps) (first : Bool) :
  Calls Tryz.prog 60 #[v, .bool first] w fun e w'=>e = .returned (.bool (Eg ps first))∧Below w.heap.size w w':=by
 obtain ⟨ao,cap,rfl,h1,h2,h4⟩:=hv
 unfold maxLen at h2
 cases first with
 | false=>
  unfold Eg
  clear h4
  by_cases hz : 0<ps.length
  ·have q : decide ((0 : Int)<(ps.length : Int))=true:=decide_eq_true (by omega)
   have q2 : decide (0<ps.length)=true:=decide_eq_true hz
   go_enter Tryz.func60,Tryz.ntmps60
   go_wp2
   go_ret
   exact ⟨by simp,Below.refl _ _⟩
  ·have q : decide ((0 : Int)<(ps.length : Int))=false:=decide_eq_false (by omega)
   have q2 : decide (0<ps.length)=false:=decide_eq_false hz
   go_enter Tryz.func60,Tryz.ntmps60
   go_wp2
   go_ret
   exact ⟨by simp,Below.refl _ _⟩
 | true=>
  rw [show Eg ps true=C7 none ps from rfl]
  go_enter Tryz.func60,Tryz.ntmps60
  go_wp2_with fail
  go_loopw [14] (fun t wr=>∃ k : Nat,k≤ps.length∧t = .int .i64 k∧C7 none ps=C7 (Et ps k) (ps.drop k)∧Below w.heap.size w wr)
   (fun t _=>ps.length - (intOf t).toNat)
  case atStart=>exact ⟨0,by omega,rfl,rfl,Below.refl _ _⟩
  case round=>
   obtain ⟨k,hk,rfl,hlf,hbr⟩:=hrel
   by_cases hlt : k<ps.length
   ·obtain ⟨b,off,rfl,hbl,hc⟩:=h4 (by intro e; rw [e] at hlt; simp at hlt)
    have c0:=(hbr.cell (p:=⟨b,off+k * 3+0,none⟩) hbl).trans (hc k hlt 0 _ rfl)
    have c1:=(hbr.cell (p:=⟨b,off+k * 3+1,none⟩) hbl).trans (hc k hlt 1 _ rfl)
    have c2:=(hbr.cell (p:=⟨b,off+k * 3+2,none⟩) hbl).trans (hc k hlt 2 _ rfl)
    have hst:=laid_at hlt (Et ps k)
    rw [← hlf] at hst
    have hln : Et ps (k+1)=some ps[k].1:=by unfold Et; simp [hlt]
    rw [← hln] at hst
    have hprev : ∀ j,k=j+1→∃ q : An,Et ps k=some q.1∧wr.cell? ⟨b,off+j * 3,none⟩=some (.string (Ae q.1)):=fun j hj=>by
     have hjl : j<ps.length:=by omega
     refine ⟨ps[j],by unfold Et; subst hj; simp [hjl],?_⟩
     have:=(hbr.cell (p:=⟨b,off+j * 3+0,none⟩) hbl).trans (hc j hjl 0 _ rfl)
     simpa using this
    generalize ps[k]=x at *
    try simp only [Nat.add_zero] at c0 c1 c2
    have hbA:=hbr.alloc hbr.size (Bd x)
    have hxA:=Au wr (Bd x)
    have hbA1 : Below wr.heap.size wr (wr.alloc (Bd x)):=(Below.refl _ _).alloc (Nat.le_refl _) _
    have x0:=Ad hxA 0
    have x2:=Ad hxA 2
    simp only [List.getElem?_toArray,List.getElem?_cons_zero,List.getElem?_cons_succ] at x0 x2
    have hbs:=hbr.size
    have HH:=Ab (And.intro hst (And.intro hbA hlf))
    clear hst hbA hlf hbr hc hxA
    cases hgo : x.2.2 with
    | true=>
     rw [hgo] at c2 x2
     have hb9:=HH.out.2.1
     have hb8:=hbA1
     simp only [Bd,hgo] at hb9 hb8 x0 x2
     have HB1:=Ab hb9
     clear hb9 hbA1
     have HN : Hid (C7 none ps=false):=Ab (by rw [HH.out.1,hgo]; rfl)
     clear hprev hb8
     go_wp2_with fail
     refine wp_region_held_drew (S:=fun W=>W.cell? ⟨wr.heap.size,2,none⟩=some (.bool true)) (by kernel_rfl) (x2) (fun hHeld=>?_)
     refine Aa 0 hHeld ?_
     refine Aa 1 hHeld ?_
     refine Aa 2 hHeld ?_
     refine Aj 3 hHeld ?_
     refine Aj 4 hHeld ?_
     refine Aj 5 hHeld ?_
     refine Aj 6 hHeld ?_
     refine Aj 7 hHeld ?_
     refine Aj 8 hHeld ?_
     refine Aj 9 hHeld ?_
     refine Aj 10 hHeld ?_
     refine Aj 11 hHeld ?_
     refine Aj 12 hHeld ?_
     refine Aj 13 hHeld ?_
     refine Aj 14 hHeld ?_
     refine Aj 15 hHeld ?_
     refine Aa 16 hHeld ?_
     refine wpAnyH_done (by kernel_rfl) ?_ _
     clear hHeld
     go_wp2
     go_ret
     rw [HN.out]
     exact ⟨rfl,HB1.out.drew⟩
    | false=>
     rw [hgo] at c2 x2
     have hb9:=HH.out.2.1
     have hb8:=hbA1
     simp only [Bd,hgo] at hb9 hb8 x0 x2
     have HB1:=Ab hb9
     clear hb9 hbA1
     cases k with
     | zero=>
      have HN : Hid (C7 none ps=C7 (Et ps (0+1)) (ps.drop (0+1))):=Ab (by rw [HH.out.1,hgo]; simp [Et])
      clear hprev hb8
      simp only [Nat.zero_mul,Nat.add_zero] at c0 c1 c2
      go_wp2_with fail
      refine wp_region_held_drew (S:=fun W=>W.cell? ⟨wr.heap.size,2,none⟩=some (.bool false)) (by kernel_rfl) (x2) (fun hHeld=>?_)
      refine Aa 0 hHeld ?_
      refine Aa 1 hHeld ?_
      refine Aa 2 hHeld ?_
      refine Aa 3 hHeld ?_
      refine Aa 4 hHeld ?_
      refine Aa 5 hHeld ?_
      refine Aj 6 hHeld ?_
      refine Aj 7 hHeld ?_
      refine Aj 8 hHeld ?_
      refine Aj 9 hHeld ?_
      refine Aj 10 hHeld ?_
      refine Aj 11 hHeld ?_
      refine Aj 12 hHeld ?_
      refine Aj 13 hHeld ?_
      refine Aj 14 hHeld ?_
      refine Aa 15 hHeld ?_
      refine Aa 16 hHeld ?_
      refine wpAnyH_done (by kernel_rfl) ?_ _
      clear hHeld
      go_wp2
      go_roundw
      case rel=>exact ⟨0+1,by omega,by go_num,HN.out,HB1.out.drew⟩
      case measure=>simp [intOf]; omega
     | succ j=>
      obtain ⟨q,hq1,hq2⟩:=hprev j rfl
      have hleq:=leq_strT 9 x.1 q.1
      have hstk : C7 none ps=(ltB q.1 x.1 && C7 (Et ps (j+1+1)) (ps.drop (j+1+1))):=by rw [HH.out.1,hgo,hq1]; rfl
      have hq3:=(hb8.cell (p:=⟨b,off+j * 3,none⟩) (show b<wr.heap.size by omega)).trans hq2
      have hgt : decide ((0 : Int)<((j+1 : Nat) : Int))=true:=decide_eq_true (by omega)
      have hjl : j<ps.length:=by omega
      have hwj : IntKind.i64.wrap (j : Int)=(j : Int):=by simp [IntKind.wrap,IntKind.bits,IntKind.signed]; omega
      clear hprev hb8 hq2 hq1
      cases hlb : ltB q.1 x.1 with
      | true=>
       rw [hlb] at hleq
       have HN : Hid (C7 none ps=C7 (Et ps (j+1+1)) (ps.drop (j+1+1))):=Ab (by rw [hstk,hlb]; rfl)
       clear hstk hlb
       go_wp2_with fail
       refine wp_region_held_drew (S:=fun W=>W.cell? ⟨wr.heap.size,2,none⟩=some (.bool false)∧W.cell? ⟨wr.heap.size,0,none⟩=some (.string (Ae x.1))∧W.cell? ⟨b,off+j * 3,none⟩=some (.string (Ae q.1))) (by kernel_rfl) (⟨x2,x0,hq3⟩) (fun hHeld=>?_)
       refine Aa 0 hHeld ?_
       refine Aa 1 hHeld ?_
       refine Aa 2 hHeld ?_
       refine Aa 3 hHeld ?_
       refine Aa 4 hHeld ?_
       refine Aa 5 hHeld ?_
       refine Aa 6 hHeld ?_
       refine Aa 7 hHeld ?_
       refine Aa 8 hHeld ?_
       refine Aa 9 hHeld ?_
       refine Aa 10 hHeld ?_
       refine Aa 11 hHeld ?_
       refine Aa 12 hHeld ?_
       refine Aa 13 hHeld ?_
       refine Aa 14 hHeld ?_
       refine Aa 15 hHeld ?_
       refine Aa 16 hHeld ?_
       refine wpAnyH_done (by kernel_rfl) ?_ _
       clear hHeld
       go_wp2
       go_roundw
       case rel=>exact ⟨(j+1)+1,by omega,by go_num,HN.out,HB1.out.drew⟩
       case measure=>simp [intOf]; omega
      | false=>
       rw [hlb] at hleq
       have HN : Hid (C7 none ps=false):=Ab (by rw [hstk,hlb]; rfl)
       clear hstk hlb
       go_wp2_with fail
       refine wp_region_held_drew (S:=fun W=>W.cell? ⟨wr.heap.size,2,none⟩=some (.bool false)∧W.cell? ⟨wr.heap.size,0,none⟩=some (.string (Ae x.1))∧W.cell? ⟨b,off+j * 3,none⟩=some (.string (Ae q.1))) (by kernel_rfl) (⟨x2,x0,hq3⟩) (fun hHeld=>?_)
       refine Aa 0 hHeld ?_
       refine Aa 1 hHeld ?_
       refine Aa 2 hHeld ?_
       refine Aa 3 hHeld ?_
       refine Aa 4 hHeld ?_
       refine Aa 5 hHeld ?_
       refine Aa 6 hHeld ?_
       refine Aa 7 hHeld ?_
       refine Aa 8 hHeld ?_
       refine Aa 9 hHeld ?_
       refine Aa 10 hHeld ?_
       refine Aa 11 hHeld ?_
       refine Aa 12 hHeld ?_
       refine Aa 13 hHeld ?_
       refine Aa 14 hHeld ?_
       refine Aa 15 hHeld ?_
       refine Aa 16 hHeld ?_
       refine wpAnyH_done (by kernel_rfl) ?_ _
       clear hHeld
       go_wp2
       go_ret
       rw [HN.out]
       exact ⟨rfl,HB1.out.drew⟩
   ·have hkl : k=ps.length:=by omega
    subst hkl
    rw [List.drop_length] at hlf
    have HR:=Ab (And.intro hlf hbr)
    clear hlf hbr
    go_wp2
    go_ret
    rw [HR.out.1]
    exact ⟨by simp [C7],HR.out.2⟩
end Go.Proofs.YtblniomnhpedjaaGreatDoor
namespace Go.Proofs.YtblniomnhpedjaaGreatDoor
open Go.RowKit
def Bb (l : List Af) : Bool:=decide (l.length≤2000) && decide (Ag l≤1048576)
def Dd : List Af→List (List Bs)→Bool→Option (List Af)
 | l,[],_=>some l
 | l,g :: r,first=>match Co g with
  | none=>none
  | some ps=>if Bc ps && Eg ps first && Bb (Ai l ps) then Dd (Ai l ps) r false else none
def Ct (gs : List (List Bs)) : Option (List Af):=Dd [] gs true
theorem tab_at {gs : List (List Bs)} {k : Nat} (h : k<gs.length) (l : List Af) : Dd l (gs.drop k) (decide (k=0))=match Co gs[k] with
  | none=>none
  | some ps=>if Bc ps && Eg ps (decide (k=0)) && Bb (Ai l ps) then Dd (Ai l ps) (gs.drop (k+1)) (decide (k+1=0)) else none:=by
 rw [List.drop_eq_getElem_cons h,Dd]
 rfl
def tabV (B : Nat) (w : World) (r : Option (List Af)) (e : Ending) : Prop:=match r with
 | some l=>∃ v,e = .returned (.tuple #[v, .bool true])∧RowsV w B v l
 | none=>e = .returned (.tuple #[.agg #[.map none, .int .i64 0], .bool false])
theorem Ku (ps : List An) (h : Bc ps=true) : Da ps≤2000000:=by
 unfold Bc at h
 simp only [Bool.and_eq_true,decide_eq_true_eq] at h
 have e : Da ps=16 * ps.length+Bk ps:=by
  clear h
  induction ps with
  | nil=>rfl
  | cons p r ih=>
   rw [P2,ih,List.length_cons]
   unfold Bk
   simp
   omega
 omega
end Go.Proofs.YtblniomnhpedjaaGreatDoor
