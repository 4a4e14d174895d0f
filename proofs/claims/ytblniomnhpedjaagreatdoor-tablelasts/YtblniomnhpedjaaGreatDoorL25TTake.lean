/-
  Texts joined: TTake, TTakes, TTakes2, TLaid, TGroups.
-/
import Derived.Test.YtblniomnhpedjaaGreatDoorL24Api
import Derived.Test.YtblniomnhpedjaaGreatDoorL3Made
import Derived.Maps.AppendAt
namespace Go.Proofs.YtblniomnhpedjaaGreatDoor
open Go.RowKit
def Cr (b : Bs) : Option Al:=match Cd b 0 2048 with
 | none=>none
 | some (key,q)=>if q=b.length then some (key,([],true)) else match Cd b q 4096 with
  | none=>none
  | some (val,r)=>if r=b.length then some (key,(val,false)) else none
theorem takeR_put (p : Al) (h : Ci p=true) : Cr (Ar p)=some p:=by
 unfold Ci at h
 simp only [Bool.and_eq_true,Bool.not_eq_true',decide_eq_false_iff_not] at h
 obtain ⟨⟨h1,h2⟩,h3⟩:=h
 obtain ⟨key,val,gone⟩:=p
 simp only at h1 h2 h3
 unfold Cr Ar
 cases gone with
 | true=>
  have hv : val = []:=by cases val with
   | nil=>rfl
   | cons a r=>simp at h3
  subst hv
  have:=Hv [] [] key 2048 (by omega) (by omega)
  simp only [List.nil_append,List.append_nil,List.length_nil,Nat.zero_add] at this
  simp only [if_true,List.append_nil]
  rw [show ((0 : Nat) : Int)=0 from rfl] at this
  rw [this]
  simp
 | false=>
  have k1:=Hv [] (txt val) key 2048 (by omega) (by omega)
  simp only [List.nil_append,List.length_nil,Nat.zero_add] at k1
  rw [show ((0 : Nat) : Int)=0 from rfl] at k1
  have k2:=Hv (txt key) [] val 4096 (by omega) (by omega)
  rw [List.append_nil] at k2
  have hpos : 0<(txt val).length:=by have:=Gi val.length; unfold txt; rw [List.length_append]; omega
  simp only [Bool.false_eq_true,if_false]
  rw [k1]
  simp only
  rw [if_neg (by rw [List.length_append]; omega),k2]
  simp
theorem takeT_end {b t : Bs} {p most : Int} {q : Nat} (h : Cd b p most=some (t,q)) : q≤b.length:=by
 unfold Cd at h
 split at h
 ·cases h
 ·split at h
  ·cases h
  ·injection h with h
   injection h with h1 h2
   omega
abbrev putV (p : Al) : Value:=.agg #[.string (Ae p.1), .string (Ae p.2.1), .bool p.2.2]
theorem Tryz.infoPut : (Tryz.prog.info? 73).map (·.size)=some 3:=by kernel_rfl
theorem Ek {P : Program} {fn : Func} {p u : Tmp} {ty : TypeId} (h : fn.results = #[.cell p ty, .tmp u]) (tmps : Array Value) (w : World) (g : Nat) (t : TypeId) (cs : Array Value) (fr : Nat × Nat) (d : TypeDesc)
  (hp : tmps.getD p undef = .pointer (some ⟨g,0,none⟩)) (hg : w.heap[g]? = some (.cells cs t fr))
  (hu : P.underlying ty=some d) (hd : (match d with | .struct _ | .array _ _=>true | _=>false)=true) (hi : (P.info? ty).map (·.size)=some cs.size) :
  (results fn tmps).run P w = .ok (.tuple #[.agg cs,tmps.getD u undef]) w:=by
 have hp' : tmps[p]?.getD undef = .pointer (some ⟨g,0,none⟩):=by simpa using hp
 rw [results_cell_tmp h]
 simp [hp',asAddr,run_loadVar_row w g t ty cs fr d hg hu hd hi]
def takeV (r : Option Al) (e : Ending) : Prop:=match r with
 | some p=>e = .returned (.tuple #[putV p, .bool true])
 | none=>∃ p : Al,e = .returned (.tuple #[putV p, .bool false])
set_option maxRecDepth 20000 in
set_option maxHeartbeats 800000 in
theorem takePut_any (w : World) (v : Value) (b : Bs) (h : Sl w v b) (hl : b.length≤1000000000) :
  Calls Tryz.prog 79 #[v] w fun e w'=>takeV (Cr b) e∧Below w.heap.size w w':=by
 have hA : ∀ cs : List Value,Below w.heap.size w (w.alloc (.cells cs.toArray 73)):=fun cs=>(Below.refl _ _).alloc (Nat.le_refl _) _
 have hA0:=hA [.string ⟨#[]⟩, .string ⟨#[]⟩, .bool false]
 have hs:=h.keepB hA0
 have hsd:=h
 obtain ⟨ao,cap,rfl,-⟩:=hsd
 cases h1 : Cd b 0 2048 with
 | none=>
  have hR : Cr b=none:=by unfold Cr; rw [h1]
  have ht:=L5 _ _ b 0 2048 hs (by omega) h1
  rw [hR]
  clear hR h1 hs h
  go_enter Tryz.func79,Tryz.ntmps79
  go_wp2_with fail
  refine ht.mono ?_
  rintro e w1 ⟨rfl,rfl⟩
  go_wp2
  refine bodyPost_ret (Ek rfl _ _ _ _ _ _ _ rfl (Aq w _) Tryz.underlying73 rfl Tryz.infoPut) rfl ?_
  exact ⟨⟨([],([],false)),rfl⟩,hA [.string (Ae []), .string (Ae []), .bool false]⟩
 | some kq=>
  obtain ⟨key,q⟩:=kq
  have ht : Calls Tryz.prog _ _ _ fun e w'=>e = .returned (.tuple #[.string (Ae key), .int .i64 (q : Int), .bool true])∧w'=_:=L8 _ _ b 0 2048 key q hs (by omega) h1
  have hq:=takeT_end h1
  by_cases hqe : q=b.length
  ·have hR : Cr b=some (key,([],true)):=by unfold Cr; rw [h1]; simp only; rw [if_pos hqe]
   have q1 : ((q : Int) == (b.length : Int))=true:=by simp [hqe]
   rw [hR]
   clear hR h1 hs h hqe hq
   go_enter Tryz.func79,Tryz.ntmps79
   go_wp2_with fail
   refine ht.mono ?_
   rintro e w1 ⟨rfl,rfl⟩
   go_wp2
   refine bodyPost_ret (Ek rfl _ _ _ _ _ _ _ rfl (Aq w _) Tryz.underlying73 rfl Tryz.infoPut) rfl ?_
   exact ⟨rfl,hA [.string (Ae key), .string (Ae []), .bool true]⟩
  ·have q1 : ((q : Int) == (b.length : Int))=false:=by simpa using fun e=>hqe (by omega)
   cases h2 : Cd b q 4096 with
   | none=>
    have hR : Cr b=none:=by unfold Cr; rw [h1]; simp only; rw [if_neg hqe,h2]
    have ht2:=L5 _ _ b q 4096 hs (by omega) h2
    rw [hR]
    clear hR h1 h2 hs h hqe hq
    go_enter Tryz.func79,Tryz.ntmps79
    go_wp2_with fail
    refine ht.mono ?_
    rintro e w1 ⟨rfl,rfl⟩
    go_wp2_with fail
    refine ht2.mono ?_
    rintro e w2 ⟨rfl,rfl⟩
    go_wp2
    refine bodyPost_ret (Ek rfl _ _ _ _ _ _ _ rfl (Aq w _) Tryz.underlying73 rfl Tryz.infoPut) rfl ?_
    exact ⟨⟨(key,([],false)),rfl⟩,hA [.string (Ae key), .string (Ae []), .bool false]⟩
   | some vr=>
    obtain ⟨val,r⟩:=vr
    have ht2 : Calls Tryz.prog _ _ _ fun e w'=>e = .returned (.tuple #[.string (Ae val), .int .i64 (r : Int), .bool true])∧w'=_:=L8 _ _ b q 4096 val r hs (by omega) h2
    by_cases hre : r=b.length
    ·have hR : Cr b=some (key,(val,false)):=by unfold Cr; rw [h1]; simp only; rw [if_neg hqe,h2]; simp only; rw [if_pos hre]
     have q2 : ((r : Int) == (b.length : Int))=true:=by simp [hre]
     rw [hR]
     clear hR h1 h2 hs h hqe hq hre
     go_enter Tryz.func79,Tryz.ntmps79
     go_wp2_with fail
     refine ht.mono ?_
     rintro e w1 ⟨rfl,rfl⟩
     go_wp2_with fail
     refine ht2.mono ?_
     rintro e w2 ⟨rfl,rfl⟩
     go_wp2
     refine bodyPost_ret (Ek rfl _ _ _ _ _ _ _ rfl (Aq w _) Tryz.underlying73 rfl Tryz.infoPut) rfl ?_
     exact ⟨rfl,hA [.string (Ae key), .string (Ae val), .bool false]⟩
    ·have hR : Cr b=none:=by unfold Cr; rw [h1]; simp only; rw [if_neg hqe,h2]; simp only; rw [if_neg hre]
     have q2 : ((r : Int) == (b.length : Int))=false:=by simpa using fun e=>hre (by omega)
     rw [hR]
     clear hR h1 h2 hs h hqe hq hre
     go_enter Tryz.func79,Tryz.ntmps79
     go_wp2_with fail
     refine ht.mono ?_
     rintro e w1 ⟨rfl,rfl⟩
     go_wp2_with fail
     refine ht2.mono ?_
     rintro e w2 ⟨rfl,rfl⟩
     go_wp2
     refine bodyPost_ret (Ek rfl _ _ _ _ _ _ _ rfl (Aq w _) Tryz.underlying73 rfl Tryz.infoPut) rfl ?_
     exact ⟨⟨(key,(val,false)),rfl⟩,hA [.string (Ae key), .string (Ae val), .bool false]⟩
end Go.Proofs.YtblniomnhpedjaaGreatDoor
namespace Go.Proofs.YtblniomnhpedjaaGreatDoor
open Go.RowKit
theorem tobytesT (w : World) (l : Bs) (hl : l.length≤maxLen) : ∃ ao cap w',(convert 9 68 (.string (Ae l))).run Tryz.prog w = .ok (.slice ao l.length cap) w'∧Sl w' (.slice ao l.length cap) l∧Below w.heap.size w w':=by
 have hs : (Ae l).size=l.length:=B8 l
 have hr:=run_bytes_of_string (P:=Tryz.prog) w 9 68 5 (Ae l) Tryz.underlying9 Tryz.underlying68 Tryz.underlying5
 rw [hs] at hr
 have hge:=grownCap_ge w l.length 0 5
 have hle:=grownCap_le_maxLen w l.length 0 5 hl
 refine ⟨_,_,_,hr,?_,((Below.refl _ w).drew).alloc (by simp) _⟩
 refine ⟨_,_,rfl,by omega,hle,by simp,fun _=>⟨w.heap.size,0,rfl,by simp,fun j hj=>?_⟩⟩
 have h:=Aq w.drew (.cells (bytesRow (Ae l) (grownCap w l.length 0 5)) 5 ((bytesRow (Ae l) (grownCap w l.length 0 5)).size,(bytesRow (Ae l) (grownCap w l.length 0 5)).size+1))
 rw [show w.drew.heap.size=w.heap.size from rfl] at h
 rw [Nat.zero_add,Ad h,bytesRow_at (Ae l) _ j (by show j<l.toArray.size; simpa using hj)]
 simp [Ae]
def Cl : List Bs→Option (List Al)
 | []=>some []
 | r :: t=>match Cr r,Cl t with
  | some p,some l=>some (p :: l)
  | _,_=>none
theorem takeL_snoc (a : List Bs) (r : Bs) : Cl (a ++ [r])=(Cl a).bind fun l=>(Cr r).map fun p=>l ++ [p]:=by
 induction a with
 | nil=>simp only [List.nil_append,Cl]; cases Cr r <;> rfl
 | cons x t ih=>
  rw [List.cons_append,Cl,ih,Cl]
  cases Cr x <;> cases Cl t <;> cases Cr r <;> rfl
theorem takeL_no {rs : List Bs} {k : Nat} (h : k<rs.length) (hx : Cr rs[k]=none) : Cl rs=none:=by
 induction rs generalizing k with
 | nil=>simp at h
 | cons x t ih=>
  cases k with
  | zero=>simp only [List.getElem_cons_zero] at hx; rw [Cl,hx]
  | succ k=>
   simp only [List.getElem_cons_succ] at hx
   rw [Cl,ih (by simpa using h) hx]
   cases Cr x <;> rfl
theorem Nt : ∀ (rs : List Bs) (l : List Al),Cl rs=some l→l.length=rs.length
 | [],l,h=>by rw [Cl] at h; injection h with h; subst h; rfl
 | r :: t,l,h=>by
  rw [Cl] at h
  cases h1 : Cr r with
  | none=>rw [h1] at h; cases h
  | some p=>
   cases h2 : Cl t with
   | none=>rw [h1,h2] at h; cases h
   | some m=>
    rw [h1,h2] at h
    injection h with h
    subst h
    rw [List.length_cons,List.length_cons,Nt t m h2]
theorem Lx : ∀ (l : List Al),l.all Ci=true→Cl (l.map Ar)=some l
 | [],_=>rfl
 | p :: r,h=>by
  rw [List.all_cons,Bool.and_eq_true] at h
  rw [List.map_cons,Cl,takeR_put p h.1,Lx r h.2]
abbrev Ca (B : Nat) (w : World) (v : Value) (l : List Al) : Prop:=w.ownsRow B 73 3 v l.length (l.flatMap Cu)
theorem Ls : ∀ (ys : List Al) (j i : Nat) (h : j<ys.length) (u : Value),(Cu (ys[j]'h))[i]? = some u→(ys.flatMap Cu)[j * 3+i]? = some u
 | y :: ys,0,i,_,u,hu=>by
  have hi : i<3:=by have:=(List.getElem?_eq_some_iff.1 hu).1; simpa [Cu] using this
  rw [List.flatMap_cons,Nat.zero_mul,Nat.zero_add,List.getElem?_append_left (by simpa [Cu] using hi)]
  exact hu
 | y :: ys,j+1,i,h,u,hu=>by
  have:=Ls ys j i (by simpa using h) u hu
  rw [List.flatMap_cons,List.getElem?_append_right (by simp [Cu]; omega)]
  rw [show (j+1) * 3+i - (Cu y).length=j * 3+i by simp [Cu]; omega]
  exact this
theorem Ca.ps {B : Nat} {w : World} {v : Value} {l : List Al} (h : Ca B w v l) : PsT w v l:=by
 have h':=h
 obtain ⟨-,⟨rfl,h0⟩ | ⟨g,cap,cur,rfl,-,hh,hc,hm,-⟩⟩:=h'
 ·obtain rfl : l = []:=List.eq_nil_of_length_eq_zero h0
  exact PsT.nil w
 ·refine ⟨_,_,rfl,hc,hm,fun _=>⟨g,0,rfl,At hh,fun j hj i u hu=>?_⟩⟩
  have:=World.ownsRow.cells h (g:=g) rfl _ _ (Ls l j i hj u hu)
  rw [Addr.add_lit] at this
  rwa [Nat.add_assoc]
end Go.Proofs.YtblniomnhpedjaaGreatDoor
namespace Go.Proofs.YtblniomnhpedjaaGreatDoor
open Go.RowKit
theorem Tryz.zPut : (Tryz.prog.info? 73).map (fun i=>(i.zero,i.size,i.bytes))=some (some (.agg #[.string ⟨#[]⟩, .string ⟨#[]⟩, .bool false]),3,40):=by kernel_rfl
theorem app_put (w : World) (B : Nat) (v : Value) (xs : List Al) (p : Al) (h : Ca B w v xs) (hB : B≤w.heap.size) (hn : xs.length≤4294967296) :
  ∃ v' w',(Builtin.append_ #[27,27] 27 #[v, .slice (some ⟨w.heap.size,0,none⟩) 1 1]).run Tryz.prog (w.alloc (A7 p)) = .ok v' w' ∧
   Ca B w' v' (xs ++ [p])∧(w.alloc (A7 p)).grownBy w' v.ownBlock:=by
 obtain ⟨i0,hi,hz0,hz1,hz2⟩:=info_parts Tryz.zPut
 have hx:=Aq w (A7 p)
 obtain ⟨v',w',h1,h2,h3,-,h4⟩:=run_append_own_at (P:=Tryz.prog) (w.alloc (A7 p)) B 27 27 73 i0 (.agg #[.string ⟨#[]⟩, .string ⟨#[]⟩, .bool false]) 3 40 Tryz.underlying27 hi hz0 hz1 hz2 rfl (by decide) v xs.length (xs.flatMap Cu) (h.alloc _) ⟨w.heap.size,0,none⟩ 1 1 (Cu p) rfl (fun j u hu=>by
   rw [Addr.add_lit,Nat.zero_add,Ad hx,List.getElem?_toArray]; exact hu) (by simp [Cu,Value.oneCell']) (by unfold maxLen; omega) (by omega) (by simp; omega)
 refine ⟨v',w',h1,?_,h3⟩
 rw [Ca,List.length_append,List.flatMap_append]
 simpa using h2
def takeLV (B : Nat) (w : World) (r : Option (List Al)) (e : Ending) : Prop:=match r with
 | some l=>∃ u,e = .returned (.tuple #[u, .bool true])∧Ca B w u l
 | none=>e = .returned (.tuple #[.slice none 0 0, .bool false])
set_option maxRecDepth 20000 in
set_option maxHeartbeats 1600000 in
theorem takePuts_any (w : World) (v : Value) (rs : List Bs) (hv : Tx w v rs) (hn : rs.length≤100000000) (hs : ∀ r∈rs,r.length≤1000000000) :
  Calls Tryz.prog 59 #[v] w fun e w'=>takeLV w.heap.size w' (Cl rs) e∧Below w.heap.size w w':=by
 have HV:=Ab hv
 obtain ⟨ao,cap,rfl,h1,h2,h4⟩:=hv
 unfold maxLen at h2
 go_enter Tryz.func59,Tryz.ntmps59
 go_wp2_with fail
 go_loopw [11,4] (fun t u wr=>∃ (k : Nat) (acc : List Al),k≤rs.length∧t = .int .i64 k∧Cl (rs.take k)=some acc∧Ca w.heap.size wr u acc∧Below w.heap.size w wr)
  (fun t _ _=>rs.length - (intOf t).toNat)
 case atStart=>exact ⟨0,[],by omega,rfl,rfl,World.ownsRow_nil _ _ _ _,Below.refl _ _⟩
 case round=>
  obtain ⟨k,acc,hk,rfl,hacc,hrow,hbr⟩:=hrel
  have hal:=Nt _ _ hacc
  rw [List.length_take] at hal
  have hal2 : acc.length≤100000000:=by omega
  clear hal
  by_cases hlt : k<rs.length
  ·obtain ⟨b,off,rfl,hbl,hc⟩:=h4 (by intro e; rw [e] at hlt; simp at hlt)
   have c0:=(hbr.cell (p:=⟨b,off+k,none⟩) hbl).trans (hc k hlt)
   have hsk:=hs _ (List.getElem_mem hlt)
   have hno:=fun h=>takeL_no (rs:=rs) hlt h
   have htk:=takeL_snoc (rs.take k) rs[k]
   rw [← Fg rs hlt,hacc] at htk
   generalize rs[k]=r at *
   obtain ⟨ba,bc',w1,hcv,hsl,hb1⟩:=tobytesT wr r (by unfold maxLen; omega)
   have htp:=takePut_any w1 _ r hsl hsk
   have HH:=Ab (And.intro hrow (And.intro hbr (And.intro hb1 (And.intro hno htk))))
   obtain ⟨ua,uc,rfl,-⟩:=Ay hrow
   clear hc hrow hbr hb1 hno htk hsl hacc
   cases htr : Cr r with
   | none=>
    rw [htr] at htp
    have HN:=Ab (HH.out.2.2.2.1 htr)
    clear htr
    go_wp2_with fail
    refine htp.mono ?_
    rintro e w2 ⟨⟨q,rfl⟩,hb2⟩
    have hbw:=HH.out.2.1.trans ((HH.out.2.2.1.trans (hb2.mono HH.out.2.2.1.size)).mono HH.out.2.1.size)
    have HB:=Ab (hbw.alloc hbw.size (A7 q))
    clear htp hb2 hbw
    go_wp2
    go_ret2
    rw [HN.out]
    exact ⟨rfl,HB.out⟩
   | some p=>
    rw [htr] at htp
    have htk2 : Cl (rs.take (k+1))=some (acc ++ [p]):=by rw [HH.out.2.2.2.2,htr]; rfl
    have HT:=Ab htk2
    clear htr htk2
    go_wp2_with fail
    refine htp.mono ?_
    rintro e w2 ⟨rfl,hb2⟩
    have hbw2:=HH.out.2.2.1.trans (hb2.mono HH.out.2.2.1.size)
    have hbA : Below wr.heap.size wr (w2.alloc (A7 p)):=hbw2.alloc hbw2.size _
    have hrow2:=Cj HH.out.1 hbA
    have hxA:=Aq w2 (A7 p)
    have hBA:=HH.out.2.1.trans (hbA.mono HH.out.2.1.size)
    obtain ⟨v',w3,hrun,hrow3,hgr⟩:=app_put (w2.alloc (A7 p)) w.heap.size _ acc p hrow2 hBA.size (by omega)
    have hb3 : Below w.heap.size w w3:=(hBA.alloc hBA.size _).grown hgr (by have:=hBA.size; simp only [World.size_alloc] at this ⊢; omega) (fun k hk=>(hrow2.lt k hk).1)
    obtain ⟨va,vc,rfl,-⟩:=Ay hrow3
    rw [World.size_alloc] at hrun
    have HF:=Ab (And.intro hrow3 hb3)
    have HRUN:=Ab hrun
    clear hrun hrow3 hb3 hgr hrow2 hxA hBA hbA hbw2 hb2 htp
    go_wp2_with (at_builtin; refine wpList_plain rfl (fun K hK=>Cg (.tmp 23) (.tmp 25) 27 rfl rfl rfl HRUN.out (hK _ _ ?_)))
    go_wp2
    go_roundw
    case rel=>
     have h9:=HF.out.1
     have e9 : (acc ++ [p]).length=acc.length+1:=by simp
     refine ⟨k+1,acc ++ [p],by omega,by go_num,HT.out,?_,HF.out.2⟩
     rw [← e9]
     exact h9
    case measure=>simp [intOf]; omega
  ·have hkl : k=rs.length:=by omega
   subst hkl
   rw [List.take_length] at hacc
   obtain ⟨ua,uc,rfl,-⟩:=Ay hrow
   have HR:=Ab (And.intro hrow (And.intro hbr hacc))
   clear hrow hbr hacc
   go_wp2
   go_ret2
   rw [HR.out.2.2]
   exact ⟨⟨_,rfl,HR.out.1⟩,HR.out.2.1⟩
end Go.Proofs.YtblniomnhpedjaaGreatDoor
namespace Go.Proofs.YtblniomnhpedjaaGreatDoor
open Go.RowKit
def C3 : Option Bs→List Al→Bool
 | _,[]=>true
 | last,p :: r=>!p.2.2 && (match last with | none=>true | some k=>ltB k p.1) && C3 (some p.1) r
def D5 (ps : List Al) (first : Bool) : Bool:=if first then C3 none ps else decide (0<ps.length)
def Ef (ps : List Al) (k : Nat) : Option Bs:=if k=0 then none else (ps[k - 1]?).map (·.1)
theorem laid_at {ps : List Al} {k : Nat} (h : k<ps.length) (last : Option Bs) : C3 last (ps.drop k)=(!ps[k].2.2 && (match last with | none=>true | some q=>ltB q ps[k].1) && C3 (some ps[k].1) (ps.drop (k+1))):=by
 rw [List.drop_eq_getElem_cons h]
 cases last <;> rfl
theorem leq_strT (t : TypeId) (a b : Bs) : binOp .leq t (.string (Ae a)) (.string (Ae b))=pure (.bool (!ltB b a)):=by
 have h1 : (Ae a).toList=a:=by rw [ByteArray.toList_eq]; exact Ds a
 have h2 : (Ae b).toList=b:=by rw [ByteArray.toList_eq]; exact Ds b
 have hg : (Op.bytesLess a b || a == b) = !ltB b a:=by
  show (ltB a b || a == b) = !ltB b a
  cases h3 : ltB b a with
  | true=>
   have h4 : ltB a b=false:=by
    cases h5 : ltB a b with
    | false=>rfl
    | true=>have:=I1 _ _ _ h3 h5; rw [Fc] at this; cases this
   have h6 : a≠b:=fun e=>by rw [e,Fc] at h3; cases h3
   rw [h4]
   simpa using h6
  | false=>
   cases h5 : ltB a b with
   | true=>rfl
   | false=>rw [J8 _ _ h5 h3]; simp
 simp [binOp,Op.stringOp,h1,h2,hg]
set_option maxRecDepth 20000 in
set_option maxHeartbeats 1600000 in
theorem isLaid_any (w : World) (v : Value) (ps : List Al) (hv : PsT w v ps) (first : Bool) :
  Calls Tryz.prog 60 #[v, .bool first] w fun e w'=>e = .returned (.bool (D5 ps first))∧Below w.heap.size w w':=by
 obtain ⟨ao,cap,rfl,h1,h2,h4⟩:=hv
 unfold maxLen at h2
 cases first with
 | false=>
  unfold D5
  clear h4
  by_cases hz : 0<ps.length
  ·have q : decide ((0 : Int)<(ps.length : Int))=true:=decide_eq_true (by omega)
   have q2 : decide (0<ps.length)=true:=decide_eq_true hz
   go_enter Tryz.func60,Tryz.ntmps60
   go_wp2
   go_ret
   exact ⟨by simp,Below.refl _ _⟩
  ·have q : decide ((0 : Int)<(ps.length : Int))=false:=decide_eq_false (by omega)
   have q2 : decide (0<ps.length)=false:=decide_eq_false hz
   go_enter Tryz.func60,Tryz.ntmps60
   go_wp2
   go_ret
   exact ⟨by simp,Below.refl _ _⟩
 | true=>
  rw [show D5 ps true=C3 none ps from rfl]
  go_enter Tryz.func60,Tryz.ntmps60
  go_wp2_with fail
  go_loopw [14] (fun t wr=>∃ k : Nat,k≤ps.length∧t = .int .i64 k∧C3 none ps=C3 (Ef ps k) (ps.drop k)∧Below w.heap.size w wr)
   (fun t _=>ps.length - (intOf t).toNat)
  case atStart=>exact ⟨0,by omega,rfl,rfl,Below.refl _ _⟩
  case round=>
   obtain ⟨k,hk,rfl,hlf,hbr⟩:=hrel
   by_cases hlt : k<ps.length
   ·obtain ⟨b,off,rfl,hbl,hc⟩:=h4 (by intro e; rw [e] at hlt; simp at hlt)
    have c0:=(hbr.cell (p:=⟨b,off+k * 3+0,none⟩) hbl).trans (hc k hlt 0 _ rfl)
    have c1:=(hbr.cell (p:=⟨b,off+k * 3+1,none⟩) hbl).trans (hc k hlt 1 _ rfl)
    have c2:=(hbr.cell (p:=⟨b,off+k * 3+2,none⟩) hbl).trans (hc k hlt 2 _ rfl)
    have hst:=laid_at hlt (Ef ps k)
    rw [← hlf] at hst
    have hln : Ef ps (k+1)=some ps[k].1:=by unfold Ef; simp [hlt]
    rw [← hln] at hst
    have hprev : ∀ j,k=j+1→∃ q : Al,Ef ps k=some q.1∧wr.cell? ⟨b,off+j * 3,none⟩=some (.string (Ae q.1)):=fun j hj=>by
     have hjl : j<ps.length:=by omega
     refine ⟨ps[j],by unfold Ef; subst hj; simp [hjl],?_⟩
     have:=(hbr.cell (p:=⟨b,off+j * 3+0,none⟩) hbl).trans (hc j hjl 0 _ rfl)
     simpa using this
    generalize ps[k]=x at *
    try simp only [Nat.add_zero] at c0 c1 c2
    have hbA:=hbr.alloc hbr.size (A7 x)
    have hxA:=Aq wr (A7 x)
    have hbA1 : Below wr.heap.size wr (wr.alloc (A7 x)):=(Below.refl _ _).alloc (Nat.le_refl _) _
    have x0:=Ad hxA 0
    have x2:=Ad hxA 2
    simp only [List.getElem?_toArray,List.getElem?_cons_zero,List.getElem?_cons_succ] at x0 x2
    have hbs:=hbr.size
    have HH:=Ab (And.intro hst (And.intro hbA hlf))
    clear hst hbA hlf hbr hc hxA
    cases hgo : x.2.2 with
    | true=>
     rw [hgo] at c2 x2
     have hb9:=HH.out.2.1
     have hb8:=hbA1
     simp only [A7,hgo] at hb9 hb8 x0 x2
     have HB1:=Ab hb9
     clear hb9 hbA1
     have HN : Hid (C3 none ps=false):=Ab (by rw [HH.out.1,hgo]; rfl)
     clear hprev hb8
     go_wp2_with fail
     refine wp_region_held_drew (S:=fun W=>W.cell? ⟨wr.heap.size,2,none⟩=some (.bool true)) (by kernel_rfl) (x2) (fun hHeld=>?_)
     refine Aa (i:=0) (v:=?_) rfl (by kernel_rfl) (by kernel_rfl) (by kernel_rfl) (fun _ _ _ h=>h) rfl ?_ hHeld ?_
     rotate_left
     ·intro w hS; (try dsimp only at hS); obtain hS0:=hS; go_simp; first | done | (with_reducible rfl)
     try simp only [Act.put,List.setIfInBounds_toArray,List.set_cons_zero,List.set_cons_succ]
     refine Aa (i:=1) (v:=?_) rfl (by kernel_rfl) (by kernel_rfl) (by kernel_rfl) (fun _ _ _ h=>h) rfl ?_ hHeld ?_
     rotate_left
     ·intro w hS; (try dsimp only at hS); obtain hS0:=hS; go_simp; first | done | (with_reducible rfl)
     try simp only [Act.put,List.setIfInBounds_toArray,List.set_cons_zero,List.set_cons_succ]
     refine Aa (i:=2) (v:=?_) rfl (by kernel_rfl) (by kernel_rfl) (by kernel_rfl) (fun _ _ _ h=>h) rfl ?_ hHeld ?_
     rotate_left
     ·intro w hS; (try dsimp only at hS); obtain hS0:=hS; go_simp; first | done | (with_reducible rfl)
     try simp only [Act.put,List.setIfInBounds_toArray,List.set_cons_zero,List.set_cons_succ]
     refine Bj (i:=3) rfl (by kernel_rfl) (by kernel_rfl) (by kernel_rfl) (fun _ _ _ h=>h) rfl hHeld ?_
     try simp only [Act.put,List.setIfInBounds_toArray,List.set_cons_zero,List.set_cons_succ]
     refine Bj (i:=4) rfl (by kernel_rfl) (by kernel_rfl) (by kernel_rfl) (fun _ _ _ h=>h) rfl hHeld ?_
     try simp only [Act.put,List.setIfInBounds_toArray,List.set_cons_zero,List.set_cons_succ]
     refine Bj (i:=5) rfl (by kernel_rfl) (by kernel_rfl) (by kernel_rfl) (fun _ _ _ h=>h) rfl hHeld ?_
     try simp only [Act.put,List.setIfInBounds_toArray,List.set_cons_zero,List.set_cons_succ]
     refine Bj (i:=6) rfl (by kernel_rfl) (by kernel_rfl) (by kernel_rfl) (fun _ _ _ h=>h) rfl hHeld ?_
     try simp only [Act.put,List.setIfInBounds_toArray,List.set_cons_zero,List.set_cons_succ]
     refine Bj (i:=7) rfl (by kernel_rfl) (by kernel_rfl) (by kernel_rfl) (fun _ _ _ h=>h) rfl hHeld ?_
     try simp only [Act.put,List.setIfInBounds_toArray,List.set_cons_zero,List.set_cons_succ]
     refine Bj (i:=8) rfl (by kernel_rfl) (by kernel_rfl) (by kernel_rfl) (fun _ _ _ h=>h) rfl hHeld ?_
     try simp only [Act.put,List.setIfInBounds_toArray,List.set_cons_zero,List.set_cons_succ]
     refine Bj (i:=9) rfl (by kernel_rfl) (by kernel_rfl) (by kernel_rfl) (fun _ _ _ h=>h) rfl hHeld ?_
     try simp only [Act.put,List.setIfInBounds_toArray,List.set_cons_zero,List.set_cons_succ]
     refine Bj (i:=10) rfl (by kernel_rfl) (by kernel_rfl) (by kernel_rfl) (fun _ _ _ h=>h) rfl hHeld ?_
     try simp only [Act.put,List.setIfInBounds_toArray,List.set_cons_zero,List.set_cons_succ]
     refine Bj (i:=11) rfl (by kernel_rfl) (by kernel_rfl) (by kernel_rfl) (fun _ _ _ h=>h) rfl hHeld ?_
     try simp only [Act.put,List.setIfInBounds_toArray,List.set_cons_zero,List.set_cons_succ]
     refine Bj (i:=12) rfl (by kernel_rfl) (by kernel_rfl) (by kernel_rfl) (fun _ _ _ h=>h) rfl hHeld ?_
     try simp only [Act.put,List.setIfInBounds_toArray,List.set_cons_zero,List.set_cons_succ]
     refine Bj (i:=13) rfl (by kernel_rfl) (by kernel_rfl) (by kernel_rfl) (fun _ _ _ h=>h) rfl hHeld ?_
     try simp only [Act.put,List.setIfInBounds_toArray,List.set_cons_zero,List.set_cons_succ]
     refine Bj (i:=14) rfl (by kernel_rfl) (by kernel_rfl) (by kernel_rfl) (fun _ _ _ h=>h) rfl hHeld ?_
     try simp only [Act.put,List.setIfInBounds_toArray,List.set_cons_zero,List.set_cons_succ]
     refine Bj (i:=15) rfl (by kernel_rfl) (by kernel_rfl) (by kernel_rfl) (fun _ _ _ h=>h) rfl hHeld ?_
     try simp only [Act.put,List.setIfInBounds_toArray,List.set_cons_zero,List.set_cons_succ]
     refine Aa (i:=16) (v:=?_) rfl (by kernel_rfl) (by kernel_rfl) (by kernel_rfl) (fun _ _ _ h=>h) rfl ?_ hHeld ?_
     rotate_left
     ·intro w hS; (try dsimp only at hS); obtain hS0:=hS; go_simp; first | done | (with_reducible rfl)
     try simp only [Act.put,List.setIfInBounds_toArray,List.set_cons_zero,List.set_cons_succ]
     refine wpAnyH_done (by kernel_rfl) ?_ _
     clear hHeld
     go_wp2
     go_ret
     rw [HN.out]
     exact ⟨rfl,HB1.out.drew⟩
    | false=>
     rw [hgo] at c2 x2
     have hb9:=HH.out.2.1
     have hb8:=hbA1
     simp only [A7,hgo] at hb9 hb8 x0 x2
     have HB1:=Ab hb9
     clear hb9 hbA1
     cases k with
     | zero=>
      have HN : Hid (C3 none ps=C3 (Ef ps (0+1)) (ps.drop (0+1))):=Ab (by rw [HH.out.1,hgo]; simp [Ef])
      clear hprev hb8
      simp only [Nat.zero_mul,Nat.add_zero] at c0 c1 c2
      go_wp2_with fail
      refine wp_region_held_drew (S:=fun W=>W.cell? ⟨wr.heap.size,2,none⟩=some (.bool false)) (by kernel_rfl) (x2) (fun hHeld=>?_)
      refine Aa (i:=0) (v:=?_) rfl (by kernel_rfl) (by kernel_rfl) (by kernel_rfl) (fun _ _ _ h=>h) rfl ?_ hHeld ?_
      rotate_left
      ·intro w hS; (try dsimp only at hS); obtain hS0:=hS; go_simp; first | done | (with_reducible rfl)
      try simp only [Act.put,List.setIfInBounds_toArray,List.set_cons_zero,List.set_cons_succ]
      refine Aa (i:=1) (v:=?_) rfl (by kernel_rfl) (by kernel_rfl) (by kernel_rfl) (fun _ _ _ h=>h) rfl ?_ hHeld ?_
      rotate_left
      ·intro w hS; (try dsimp only at hS); obtain hS0:=hS; go_simp; first | done | (with_reducible rfl)
      try simp only [Act.put,List.setIfInBounds_toArray,List.set_cons_zero,List.set_cons_succ]
      refine Aa (i:=2) (v:=?_) rfl (by kernel_rfl) (by kernel_rfl) (by kernel_rfl) (fun _ _ _ h=>h) rfl ?_ hHeld ?_
      rotate_left
      ·intro w hS; (try dsimp only at hS); obtain hS0:=hS; go_simp; first | done | (with_reducible rfl)
      try simp only [Act.put,List.setIfInBounds_toArray,List.set_cons_zero,List.set_cons_succ]
      refine Aa (i:=3) (v:=?_) rfl (by kernel_rfl) (by kernel_rfl) (by kernel_rfl) (fun _ _ _ h=>h) rfl ?_ hHeld ?_
      rotate_left
      ·intro w hS; (try dsimp only at hS); obtain hS0:=hS; go_simp; first | done | (with_reducible rfl)
      try simp only [Act.put,List.setIfInBounds_toArray,List.set_cons_zero,List.set_cons_succ]
      refine Aa (i:=4) (v:=?_) rfl (by kernel_rfl) (by kernel_rfl) (by kernel_rfl) (fun _ _ _ h=>h) rfl ?_ hHeld ?_
      rotate_left
      ·intro w hS; (try dsimp only at hS); obtain hS0:=hS; go_simp; first | done | (with_reducible rfl)
      try simp only [Act.put,List.setIfInBounds_toArray,List.set_cons_zero,List.set_cons_succ]
      refine Aa (i:=5) (v:=?_) rfl (by kernel_rfl) (by kernel_rfl) (by kernel_rfl) (fun _ _ _ h=>h) rfl ?_ hHeld ?_
      rotate_left
      ·intro w hS; (try dsimp only at hS); obtain hS0:=hS; go_simp; first | done | (with_reducible rfl)
      try simp only [Act.put,List.setIfInBounds_toArray,List.set_cons_zero,List.set_cons_succ]
      refine Bj (i:=6) rfl (by kernel_rfl) (by kernel_rfl) (by kernel_rfl) (fun _ _ _ h=>h) rfl hHeld ?_
      try simp only [Act.put,List.setIfInBounds_toArray,List.set_cons_zero,List.set_cons_succ]
      refine Bj (i:=7) rfl (by kernel_rfl) (by kernel_rfl) (by kernel_rfl) (fun _ _ _ h=>h) rfl hHeld ?_
      try simp only [Act.put,List.setIfInBounds_toArray,List.set_cons_zero,List.set_cons_succ]
      refine Bj (i:=8) rfl (by kernel_rfl) (by kernel_rfl) (by kernel_rfl) (fun _ _ _ h=>h) rfl hHeld ?_
      try simp only [Act.put,List.setIfInBounds_toArray,List.set_cons_zero,List.set_cons_succ]
      refine Bj (i:=9) rfl (by kernel_rfl) (by kernel_rfl) (by kernel_rfl) (fun _ _ _ h=>h) rfl hHeld ?_
      try simp only [Act.put,List.setIfInBounds_toArray,List.set_cons_zero,List.set_cons_succ]
      refine Bj (i:=10) rfl (by kernel_rfl) (by kernel_rfl) (by kernel_rfl) (fun _ _ _ h=>h) rfl hHeld ?_
      try simp only [Act.put,List.setIfInBounds_toArray,List.set_cons_zero,List.set_cons_succ]
      refine Bj (i:=11) rfl (by kernel_rfl) (by kernel_rfl) (by kernel_rfl) (fun _ _ _ h=>h) rfl hHeld ?_
      try simp only [Act.put,List.setIfInBounds_toArray,List.set_cons_zero,List.set_cons_succ]
      refine Bj (i:=12) rfl (by kernel_rfl) (by kernel_rfl) (by kernel_rfl) (fun _ _ _ h=>h) rfl hHeld ?_
      try simp only [Act.put,List.setIfInBounds_toArray,List.set_cons_zero,List.set_cons_succ]
      refine Bj (i:=13) rfl (by kernel_rfl) (by kernel_rfl) (by kernel_rfl) (fun _ _ _ h=>h) rfl hHeld ?_
      try simp only [Act.put,List.setIfInBounds_toArray,List.set_cons_zero,List.set_cons_succ]
      refine Bj (i:=14) rfl (by kernel_rfl) (by kernel_rfl) (by kernel_rfl) (fun _ _ _ h=>h) rfl hHeld ?_
      try simp only [Act.put,List.setIfInBounds_toArray,List.set_cons_zero,List.set_cons_succ]
      refine Aa (i:=15) (v:=?_) rfl (by kernel_rfl) (by kernel_rfl) (by kernel_rfl) (fun _ _ _ h=>h) rfl ?_ hHeld ?_
      rotate_left
      ·intro w hS; (try dsimp only at hS); obtain hS0:=hS; go_simp; first | done | (with_reducible rfl)
      try simp only [Act.put,List.setIfInBounds_toArray,List.set_cons_zero,List.set_cons_succ]
      refine Aa (i:=16) (v:=?_) rfl (by kernel_rfl) (by kernel_rfl) (by kernel_rfl) (fun _ _ _ h=>h) rfl ?_ hHeld ?_
      rotate_left
      ·intro w hS; (try dsimp only at hS); obtain hS0:=hS; go_simp; first | done | (with_reducible rfl)
      try simp only [Act.put,List.setIfInBounds_toArray,List.set_cons_zero,List.set_cons_succ]
      refine wpAnyH_done (by kernel_rfl) ?_ _
      clear hHeld
      go_wp2
      go_roundw
      case rel=>exact ⟨0+1,by omega,by go_num,HN.out,HB1.out.drew⟩
      case measure=>simp [intOf]; omega
     | succ j=>
      obtain ⟨q,hq1,hq2⟩:=hprev j rfl
      have hleq:=leq_strT 9 x.1 q.1
      have hstk : C3 none ps=(ltB q.1 x.1 && C3 (Ef ps (j+1+1)) (ps.drop (j+1+1))):=by rw [HH.out.1,hgo,hq1]; rfl
      have hq3:=(hb8.cell (p:=⟨b,off+j * 3,none⟩) (show b<wr.heap.size by omega)).trans hq2
      have hgt : decide ((0 : Int)<((j+1 : Nat) : Int))=true:=decide_eq_true (by omega)
      have hjl : j<ps.length:=by omega
      have hwj : IntKind.i64.wrap (j : Int)=(j : Int):=by simp [IntKind.wrap,IntKind.bits,IntKind.signed]; omega
      clear hprev hb8 hq2 hq1
      cases hlb : ltB q.1 x.1 with
      | true=>
       rw [hlb] at hleq
       have HN : Hid (C3 none ps=C3 (Ef ps (j+1+1)) (ps.drop (j+1+1))):=Ab (by rw [hstk,hlb]; rfl)
       clear hstk hlb
       go_wp2_with fail
       refine wp_region_held_drew (S:=fun W=>W.cell? ⟨wr.heap.size,2,none⟩=some (.bool false)∧W.cell? ⟨wr.heap.size,0,none⟩=some (.string (Ae x.1))∧W.cell? ⟨b,off+j * 3,none⟩=some (.string (Ae q.1))) (by kernel_rfl) (⟨x2,x0,hq3⟩) (fun hHeld=>?_)
       refine Aa (i:=0) (v:=?_) rfl (by kernel_rfl) (by kernel_rfl) (by kernel_rfl) (fun _ _ _ h=>h) rfl ?_ hHeld ?_
       rotate_left
       ·intro w hS; (try dsimp only at hS); obtain ⟨hS0,hS1,hS2⟩:=hS; go_simp; first | done | (with_reducible rfl)
       try simp only [Act.put,List.setIfInBounds_toArray,List.set_cons_zero,List.set_cons_succ]
       refine Aa (i:=1) (v:=?_) rfl (by kernel_rfl) (by kernel_rfl) (by kernel_rfl) (fun _ _ _ h=>h) rfl ?_ hHeld ?_
       rotate_left
       ·intro w hS; (try dsimp only at hS); obtain ⟨hS0,hS1,hS2⟩:=hS; go_simp; first | done | (with_reducible rfl)
       try simp only [Act.put,List.setIfInBounds_toArray,List.set_cons_zero,List.set_cons_succ]
       refine Aa (i:=2) (v:=?_) rfl (by kernel_rfl) (by kernel_rfl) (by kernel_rfl) (fun _ _ _ h=>h) rfl ?_ hHeld ?_
       rotate_left
       ·intro w hS; (try dsimp only at hS); obtain ⟨hS0,hS1,hS2⟩:=hS; go_simp; first | done | (with_reducible rfl)
       try simp only [Act.put,List.setIfInBounds_toArray,List.set_cons_zero,List.set_cons_succ]
       refine Aa (i:=3) (v:=?_) rfl (by kernel_rfl) (by kernel_rfl) (by kernel_rfl) (fun _ _ _ h=>h) rfl ?_ hHeld ?_
       rotate_left
       ·intro w hS; (try dsimp only at hS); obtain ⟨hS0,hS1,hS2⟩:=hS; go_simp; first | done | (with_reducible rfl)
       try simp only [Act.put,List.setIfInBounds_toArray,List.set_cons_zero,List.set_cons_succ]
       refine Aa (i:=4) (v:=?_) rfl (by kernel_rfl) (by kernel_rfl) (by kernel_rfl) (fun _ _ _ h=>h) rfl ?_ hHeld ?_
       rotate_left
       ·intro w hS; (try dsimp only at hS); obtain ⟨hS0,hS1,hS2⟩:=hS; go_simp; first | done | (with_reducible rfl)
       try simp only [Act.put,List.setIfInBounds_toArray,List.set_cons_zero,List.set_cons_succ]
       refine Aa (i:=5) (v:=?_) rfl (by kernel_rfl) (by kernel_rfl) (by kernel_rfl) (fun _ _ _ h=>h) rfl ?_ hHeld ?_
       rotate_left
       ·intro w hS; (try dsimp only at hS); obtain ⟨hS0,hS1,hS2⟩:=hS; go_simp; first | done | (with_reducible rfl)
       try simp only [Act.put,List.setIfInBounds_toArray,List.set_cons_zero,List.set_cons_succ]
       refine Aa (i:=6) (v:=?_) rfl (by kernel_rfl) (by kernel_rfl) (by kernel_rfl) (fun _ _ _ h=>h) rfl ?_ hHeld ?_
       rotate_left
       ·intro w hS; (try dsimp only at hS); obtain ⟨hS0,hS1,hS2⟩:=hS; go_simp; first | done | (with_reducible rfl)
       try simp only [Act.put,List.setIfInBounds_toArray,List.set_cons_zero,List.set_cons_succ]
       refine Aa (i:=7) (v:=?_) rfl (by kernel_rfl) (by kernel_rfl) (by kernel_rfl) (fun _ _ _ h=>h) rfl ?_ hHeld ?_
       rotate_left
       ·intro w hS; (try dsimp only at hS); obtain ⟨hS0,hS1,hS2⟩:=hS; go_simp; first | done | (with_reducible rfl)
       try simp only [Act.put,List.setIfInBounds_toArray,List.set_cons_zero,List.set_cons_succ]
       refine Aa (i:=8) (v:=?_) rfl (by kernel_rfl) (by kernel_rfl) (by kernel_rfl) (fun _ _ _ h=>h) rfl ?_ hHeld ?_
       rotate_left
       ·intro w hS; (try dsimp only at hS); obtain ⟨hS0,hS1,hS2⟩:=hS; go_simp; first | done | (with_reducible rfl)
       try simp only [Act.put,List.setIfInBounds_toArray,List.set_cons_zero,List.set_cons_succ]
       refine Aa (i:=9) (v:=?_) rfl (by kernel_rfl) (by kernel_rfl) (by kernel_rfl) (fun _ _ _ h=>h) rfl ?_ hHeld ?_
       rotate_left
       ·intro w hS; (try dsimp only at hS); obtain ⟨hS0,hS1,hS2⟩:=hS; go_simp; first | done | (with_reducible rfl)
       try simp only [Act.put,List.setIfInBounds_toArray,List.set_cons_zero,List.set_cons_succ]
       refine Aa (i:=10) (v:=?_) rfl (by kernel_rfl) (by kernel_rfl) (by kernel_rfl) (fun _ _ _ h=>h) rfl ?_ hHeld ?_
       rotate_left
       ·intro w hS; (try dsimp only at hS); obtain ⟨hS0,hS1,hS2⟩:=hS; go_simp; first | done | (with_reducible rfl)
       try simp only [Act.put,List.setIfInBounds_toArray,List.set_cons_zero,List.set_cons_succ]
       refine Aa (i:=11) (v:=?_) rfl (by kernel_rfl) (by kernel_rfl) (by kernel_rfl) (fun _ _ _ h=>h) rfl ?_ hHeld ?_
       rotate_left
       ·intro w hS; (try dsimp only at hS); obtain ⟨hS0,hS1,hS2⟩:=hS; go_simp; first | done | (with_reducible rfl)
       try simp only [Act.put,List.setIfInBounds_toArray,List.set_cons_zero,List.set_cons_succ]
       refine Aa (i:=12) (v:=?_) rfl (by kernel_rfl) (by kernel_rfl) (by kernel_rfl) (fun _ _ _ h=>h) rfl ?_ hHeld ?_
       rotate_left
       ·intro w hS; (try dsimp only at hS); obtain ⟨hS0,hS1,hS2⟩:=hS; go_simp; first | done | (with_reducible rfl)
       try simp only [Act.put,List.setIfInBounds_toArray,List.set_cons_zero,List.set_cons_succ]
       refine Aa (i:=13) (v:=?_) rfl (by kernel_rfl) (by kernel_rfl) (by kernel_rfl) (fun _ _ _ h=>h) rfl ?_ hHeld ?_
       rotate_left
       ·intro w hS; (try dsimp only at hS); obtain ⟨hS0,hS1,hS2⟩:=hS; go_simp; first | done | (with_reducible rfl)
       try simp only [Act.put,List.setIfInBounds_toArray,List.set_cons_zero,List.set_cons_succ]
       refine Aa (i:=14) (v:=?_) rfl (by kernel_rfl) (by kernel_rfl) (by kernel_rfl) (fun _ _ _ h=>h) rfl ?_ hHeld ?_
       rotate_left
       ·intro w hS; (try dsimp only at hS); obtain ⟨hS0,hS1,hS2⟩:=hS; go_simp; first | done | (with_reducible rfl)
       try simp only [Act.put,List.setIfInBounds_toArray,List.set_cons_zero,List.set_cons_succ]
       refine Aa (i:=15) (v:=?_) rfl (by kernel_rfl) (by kernel_rfl) (by kernel_rfl) (fun _ _ _ h=>h) rfl ?_ hHeld ?_
       rotate_left
       ·intro w hS; (try dsimp only at hS); obtain ⟨hS0,hS1,hS2⟩:=hS; go_simp; first | done | (with_reducible rfl)
       try simp only [Act.put,List.setIfInBounds_toArray,List.set_cons_zero,List.set_cons_succ]
       refine Aa (i:=16) (v:=?_) rfl (by kernel_rfl) (by kernel_rfl) (by kernel_rfl) (fun _ _ _ h=>h) rfl ?_ hHeld ?_
       rotate_left
       ·intro w hS; (try dsimp only at hS); obtain ⟨hS0,hS1,hS2⟩:=hS; go_simp; first | done | (with_reducible rfl)
       try simp only [Act.put,List.setIfInBounds_toArray,List.set_cons_zero,List.set_cons_succ]
       refine wpAnyH_done (by kernel_rfl) ?_ _
       clear hHeld
       go_wp2
       go_roundw
       case rel=>exact ⟨(j+1)+1,by omega,by go_num,HN.out,HB1.out.drew⟩
       case measure=>simp [intOf]; omega
      | false=>
       rw [hlb] at hleq
       have HN : Hid (C3 none ps=false):=Ab (by rw [hstk,hlb]; rfl)
       clear hstk hlb
       go_wp2_with fail
       refine wp_region_held_drew (S:=fun W=>W.cell? ⟨wr.heap.size,2,none⟩=some (.bool false)∧W.cell? ⟨wr.heap.size,0,none⟩=some (.string (Ae x.1))∧W.cell? ⟨b,off+j * 3,none⟩=some (.string (Ae q.1))) (by kernel_rfl) (⟨x2,x0,hq3⟩) (fun hHeld=>?_)
       refine Aa (i:=0) (v:=?_) rfl (by kernel_rfl) (by kernel_rfl) (by kernel_rfl) (fun _ _ _ h=>h) rfl ?_ hHeld ?_
       rotate_left
       ·intro w hS; (try dsimp only at hS); obtain ⟨hS0,hS1,hS2⟩:=hS; go_simp; first | done | (with_reducible rfl)
       try simp only [Act.put,List.setIfInBounds_toArray,List.set_cons_zero,List.set_cons_succ]
       refine Aa (i:=1) (v:=?_) rfl (by kernel_rfl) (by kernel_rfl) (by kernel_rfl) (fun _ _ _ h=>h) rfl ?_ hHeld ?_
       rotate_left
       ·intro w hS; (try dsimp only at hS); obtain ⟨hS0,hS1,hS2⟩:=hS; go_simp; first | done | (with_reducible rfl)
       try simp only [Act.put,List.setIfInBounds_toArray,List.set_cons_zero,List.set_cons_succ]
       refine Aa (i:=2) (v:=?_) rfl (by kernel_rfl) (by kernel_rfl) (by kernel_rfl) (fun _ _ _ h=>h) rfl ?_ hHeld ?_
       rotate_left
       ·intro w hS; (try dsimp only at hS); obtain ⟨hS0,hS1,hS2⟩:=hS; go_simp; first | done | (with_reducible rfl)
       try simp only [Act.put,List.setIfInBounds_toArray,List.set_cons_zero,List.set_cons_succ]
       refine Aa (i:=3) (v:=?_) rfl (by kernel_rfl) (by kernel_rfl) (by kernel_rfl) (fun _ _ _ h=>h) rfl ?_ hHeld ?_
       rotate_left
       ·intro w hS; (try dsimp only at hS); obtain ⟨hS0,hS1,hS2⟩:=hS; go_simp; first | done | (with_reducible rfl)
       try simp only [Act.put,List.setIfInBounds_toArray,List.set_cons_zero,List.set_cons_succ]
       refine Aa (i:=4) (v:=?_) rfl (by kernel_rfl) (by kernel_rfl) (by kernel_rfl) (fun _ _ _ h=>h) rfl ?_ hHeld ?_
       rotate_left
       ·intro w hS; (try dsimp only at hS); obtain ⟨hS0,hS1,hS2⟩:=hS; go_simp; first | done | (with_reducible rfl)
       try simp only [Act.put,List.setIfInBounds_toArray,List.set_cons_zero,List.set_cons_succ]
       refine Aa (i:=5) (v:=?_) rfl (by kernel_rfl) (by kernel_rfl) (by kernel_rfl) (fun _ _ _ h=>h) rfl ?_ hHeld ?_
       rotate_left
       ·intro w hS; (try dsimp only at hS); obtain ⟨hS0,hS1,hS2⟩:=hS; go_simp; first | done | (with_reducible rfl)
       try simp only [Act.put,List.setIfInBounds_toArray,List.set_cons_zero,List.set_cons_succ]
       refine Aa (i:=6) (v:=?_) rfl (by kernel_rfl) (by kernel_rfl) (by kernel_rfl) (fun _ _ _ h=>h) rfl ?_ hHeld ?_
       rotate_left
       ·intro w hS; (try dsimp only at hS); obtain ⟨hS0,hS1,hS2⟩:=hS; go_simp; first | done | (with_reducible rfl)
       try simp only [Act.put,List.setIfInBounds_toArray,List.set_cons_zero,List.set_cons_succ]
       refine Aa (i:=7) (v:=?_) rfl (by kernel_rfl) (by kernel_rfl) (by kernel_rfl) (fun _ _ _ h=>h) rfl ?_ hHeld ?_
       rotate_left
       ·intro w hS; (try dsimp only at hS); obtain ⟨hS0,hS1,hS2⟩:=hS; go_simp; first | done | (with_reducible rfl)
       try simp only [Act.put,List.setIfInBounds_toArray,List.set_cons_zero,List.set_cons_succ]
       refine Aa (i:=8) (v:=?_) rfl (by kernel_rfl) (by kernel_rfl) (by kernel_rfl) (fun _ _ _ h=>h) rfl ?_ hHeld ?_
       rotate_left
       ·intro w hS; (try dsimp only at hS); obtain ⟨hS0,hS1,hS2⟩:=hS; go_simp; first | done | (with_reducible rfl)
       try simp only [Act.put,List.setIfInBounds_toArray,List.set_cons_zero,List.set_cons_succ]
       refine Aa (i:=9) (v:=?_) rfl (by kernel_rfl) (by kernel_rfl) (by kernel_rfl) (fun _ _ _ h=>h) rfl ?_ hHeld ?_
       rotate_left
       ·intro w hS; (try dsimp only at hS); obtain ⟨hS0,hS1,hS2⟩:=hS; go_simp; first | done | (with_reducible rfl)
       try simp only [Act.put,List.setIfInBounds_toArray,List.set_cons_zero,List.set_cons_succ]
       refine Aa (i:=10) (v:=?_) rfl (by kernel_rfl) (by kernel_rfl) (by kernel_rfl) (fun _ _ _ h=>h) rfl ?_ hHeld ?_
       rotate_left
       ·intro w hS; (try dsimp only at hS); obtain ⟨hS0,hS1,hS2⟩:=hS; go_simp; first | done | (with_reducible rfl)
       try simp only [Act.put,List.setIfInBounds_toArray,List.set_cons_zero,List.set_cons_succ]
       refine Aa (i:=11) (v:=?_) rfl (by kernel_rfl) (by kernel_rfl) (by kernel_rfl) (fun _ _ _ h=>h) rfl ?_ hHeld ?_
       rotate_left
       ·intro w hS; (try dsimp only at hS); obtain ⟨hS0,hS1,hS2⟩:=hS; go_simp; first | done | (with_reducible rfl)
       try simp only [Act.put,List.setIfInBounds_toArray,List.set_cons_zero,List.set_cons_succ]
       refine Aa (i:=12) (v:=?_) rfl (by kernel_rfl) (by kernel_rfl) (by kernel_rfl) (fun _ _ _ h=>h) rfl ?_ hHeld ?_
       rotate_left
       ·intro w hS; (try dsimp only at hS); obtain ⟨hS0,hS1,hS2⟩:=hS; go_simp; first | done | (with_reducible rfl)
       try simp only [Act.put,List.setIfInBounds_toArray,List.set_cons_zero,List.set_cons_succ]
       refine Aa (i:=13) (v:=?_) rfl (by kernel_rfl) (by kernel_rfl) (by kernel_rfl) (fun _ _ _ h=>h) rfl ?_ hHeld ?_
       rotate_left
       ·intro w hS; (try dsimp only at hS); obtain ⟨hS0,hS1,hS2⟩:=hS; go_simp; first | done | (with_reducible rfl)
       try simp only [Act.put,List.setIfInBounds_toArray,List.set_cons_zero,List.set_cons_succ]
       refine Aa (i:=14) (v:=?_) rfl (by kernel_rfl) (by kernel_rfl) (by kernel_rfl) (fun _ _ _ h=>h) rfl ?_ hHeld ?_
       rotate_left
       ·intro w hS; (try dsimp only at hS); obtain ⟨hS0,hS1,hS2⟩:=hS; go_simp; first | done | (with_reducible rfl)
       try simp only [Act.put,List.setIfInBounds_toArray,List.set_cons_zero,List.set_cons_succ]
       refine Aa (i:=15) (v:=?_) rfl (by kernel_rfl) (by kernel_rfl) (by kernel_rfl) (fun _ _ _ h=>h) rfl ?_ hHeld ?_
       rotate_left
       ·intro w hS; (try dsimp only at hS); obtain ⟨hS0,hS1,hS2⟩:=hS; go_simp; first | done | (with_reducible rfl)
       try simp only [Act.put,List.setIfInBounds_toArray,List.set_cons_zero,List.set_cons_succ]
       refine Aa (i:=16) (v:=?_) rfl (by kernel_rfl) (by kernel_rfl) (by kernel_rfl) (fun _ _ _ h=>h) rfl ?_ hHeld ?_
       rotate_left
       ·intro w hS; (try dsimp only at hS); obtain ⟨hS0,hS1,hS2⟩:=hS; go_simp; first | done | (with_reducible rfl)
       try simp only [Act.put,List.setIfInBounds_toArray,List.set_cons_zero,List.set_cons_succ]
       refine wpAnyH_done (by kernel_rfl) ?_ _
       clear hHeld
       go_wp2
       go_ret
       rw [HN.out]
       exact ⟨rfl,HB1.out.drew⟩
   ·have hkl : k=ps.length:=by omega
    subst hkl
    rw [List.drop_length] at hlf
    have HR:=Ab (And.intro hlf hbr)
    clear hlf hbr
    go_wp2
    go_ret
    rw [HR.out.1]
    exact ⟨by simp [C3],HR.out.2⟩
end Go.Proofs.YtblniomnhpedjaaGreatDoor
namespace Go.Proofs.YtblniomnhpedjaaGreatDoor
open Go.RowKit
def A9 (l : List Af) : Bool:=decide (l.length≤2000) && decide (Ag l≤1048576)
def Db : List Af→List (List Bs)→Bool→Option (List Af)
 | l,[],_=>some l
 | l,g :: r,first=>match Cl g with
  | none=>none
  | some ps=>if A6 ps && D5 ps first && A9 (Ai l ps) then Db (Ai l ps) r false else none
def Cp (gs : List (List Bs)) : Option (List Af):=Db [] gs true
theorem tab_at {gs : List (List Bs)} {k : Nat} (h : k<gs.length) (l : List Af) : Db l (gs.drop k) (decide (k=0))=match Cl gs[k] with
  | none=>none
  | some ps=>if A6 ps && D5 ps (decide (k=0)) && A9 (Ai l ps) then Db (Ai l ps) (gs.drop (k+1)) (decide (k+1=0)) else none:=by
 rw [List.drop_eq_getElem_cons h,Db]
 rfl
def tabV (B : Nat) (w : World) (r : Option (List Af)) (e : Ending) : Prop:=match r with
 | some l=>∃ v,e = .returned (.tuple #[v, .bool true])∧RowsV w B v l
 | none=>e = .returned (.tuple #[.agg #[.map none, .int .i64 0], .bool false])
theorem K7 (ps : List Al) (h : A6 ps=true) : C5 ps≤2000000:=by
 unfold A6 at h
 simp only [Bool.and_eq_true,decide_eq_true_eq] at h
 have e : C5 ps=16 * ps.length+Bh ps:=by
  clear h
  induction ps with
  | nil=>rfl
  | cons p r ih=>
   rw [O3,ih,List.length_cons]
   unfold Bh
   simp
   omega
 omega
end Go.Proofs.YtblniomnhpedjaaGreatDoor
