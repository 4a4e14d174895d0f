/-
  Texts joined: ARefName, ARefParse, YRFind, YREnts, YRList.
-/
import Derived.Test.YtckejblkppllaaaGreatDoorT39ASeq
import Derived.Laws.AppendOwn
import Derived.Maps.AppendAt
import Derived.Test.YtckejblkppllaaaGreatDoorT42YFind
import Derived.Test.YtckejblkppllaaaGreatDoorT43PRFind
import Derived.Test.YtckejblkppllaaaGreatDoorT33QOEntry3
import Derived.Test.YtckejblkppllaaaGreatDoorT21PRList
namespace Go.Proofs.YtckejblkppllaaaGreatDoor.Pa
open Go.RowKit
theorem Kh {l : List UInt8} {k : Nat} (hk : k<l.length) (h : l[k]=47∨l[k]=0) : Pt.name l=false:=by
 have hm:=List.getElem_mem hk
 unfold Pt.name
 refine decide_eq_false ?_
 rintro ⟨_,_,_,_,h1,h2⟩
 rcases h with h | h
 ·exact h1 (h ▸ hm)
 ·exact h2 (h ▸ hm)
theorem Kv {l : List UInt8} (h1 : 1≤l.length) (h2 : l.length≤64) (h3 : l ≠ [46]) (h4 : l ≠ [46,46]) (h : ∀ j (hj : j<l.length),l[j]≠47∧l[j]≠0) : Pt.name l=true:=by
 unfold Pt.name
 refine decide_eq_true ⟨h1,h2,h3,h4,fun hm=>?_,fun hm=>?_⟩
 ·obtain ⟨j,hj,e⟩:=List.getElem_of_mem hm
  exact (h j hj).1 e
 ·obtain ⟨j,hj,e⟩:=List.getElem_of_mem hm
  exact (h j hj).2 e
set_option maxRecDepth 20000 in
theorem F3 (w : World) (l : List UInt8) :
  Calls Tryz.prog 55 #[.string (Ab l)] w fun e w'=>e = .returned (.bool (Pt.name l))∧w'=w:=by
 have hsz:=A1 l
 have hl:=toL l
 by_cases h1 : l.length<1
 ·go_enter Tryz.func55,Tryz.ntmps55
  go_wp2
  go_ret
  exact ⟨Al (by simp [Pt.name]; omega),rfl⟩
 by_cases h2 : 64<l.length
 ·go_enter Tryz.func55,Tryz.ntmps55
  go_wp2
  go_ret
  exact ⟨Al (by simp [Pt.name]; omega),rfl⟩
 by_cases h3 : l = [46]
 ·subst h3
  go_enter Tryz.func55,Tryz.ntmps55
  go_wp2
  go_ret
  exact ⟨Al (by simp [Pt.name]),rfl⟩
 by_cases h4 : l = [46,46]
 ·subst h4
  go_enter Tryz.func55,Tryz.ntmps55
  go_wp2
  go_ret
  exact ⟨Al (by simp [Pt.name]),rfl⟩
 have b3 : (l == [46])=false:=by simp [h3]
 have b4 : (l == [46,46])=false:=by simp [h4]
 have q1 : 1≤l.length:=by omega
 have q2 : l.length≤64:=by omega
 go_enter Tryz.func55,Tryz.ntmps55
 go_wp2
 go_loopw [3,2] (fun v r wr=>∃ k : Nat,v = .int .i64 (k : Int)∧r = .bool false∧k≤l.length∧(∀ j (hj : j<l.length),j<k→l[j]≠47∧l[j]≠0)∧wr=w)
  (fun v _ _=>l.length - (intOf v).toNat)
 case atStart=>exact ⟨0,rfl,rfl,by omega,(fun j _ hj=>by omega),rfl⟩
 case round=>
  obtain ⟨k,rfl,rfl,hk,hn,rfl⟩:=hrel
  by_cases hlt : k<l.length
  ·have hix:=fun W=>Gr 9 (.inl rfl) W l .i64 k hlt
   have hf:=Kh hlt
   by_cases c1 : l[k]=47
   ·have hf:=hf (.inl c1)
    rw [c1] at hix
    go_wp2
    go_ret
    exact ⟨Al hf.symm,rfl⟩
   by_cases c2 : l[k]=0
   ·have hf:=hf (.inr c2)
    rw [c2] at hix
    go_wp2
    go_ret
    exact ⟨Al hf.symm,rfl⟩
   ·have c1' : ¬ (l[k].toNat : Int)=47:=fun e=>c1 (UInt8.toNat_inj.1 (by simpa using Int.ofNat.inj e))
    have c2' : ¬ (l[k].toNat : Int)=0:=fun e=>c2 (UInt8.toNat_inj.1 (by simpa using Int.ofNat.inj e))
    have c1'' : ((l[k].toNat : Int) == 47)=false:=by simpa using c1'
    have c2'' : ((l[k].toNat : Int) == 0)=false:=beq_eq_false_iff_ne.2 c2'
    clear hf c1' c2'
    have hstep : ∀ j (hj : j<l.length),j<k+1→l[j]≠47∧l[j]≠0:=fun j hj hjk=>by
     by_cases e : j=k
     ·subst e; exact ⟨c1,c2⟩
     ·exact hn j hj (by omega)
    generalize l[k]=c at *
    go_wp2_with fail
    exact ⟨⟨k+1,by go_num,rfl,by omega,hstep,trivial⟩,by simp [intOf]; omega⟩
  ·have ht:=Kv q1 q2 h3 h4 (fun j hj=>hn j hj (by omega))
   have : k=l.length:=by omega
   subst this
   go_wp2
   go_ret
   exact ⟨Al ht.symm,rfl⟩
end Go.Proofs.YtckejblkppllaaaGreatDoor.Pa
namespace Go.Proofs.YtckejblkppllaaaGreatDoor.Pa
open Go.RowKit
theorem cut_step {l : List UInt8} {f i : Nat} (hf : f≤i) (hi : i<l.length) (hno : 47 ∉ (l.drop f).take (i - f)) (h47 : l[i]=47) : Pt.cut (l.drop f)=(l.drop f).take (i - f) :: Pt.cut (l.drop (i+1)):=by
 have e : l.drop f=(l.drop f).take (i - f)++47 :: l.drop (i+1):=by
  conv=>lhs; rw [← List.take_append_drop (i - f) (l.drop f)]
  congr 1
  rw [List.drop_drop,show f+(i - f)=i by omega,List.drop_eq_getElem_cons hi,h47]
 exact (congrArg Pt.cut e).trans (Pt.cut_app _ hno)
theorem cut_last {l : List UInt8} {f : Nat} (_hf : f≤l.length) (hno : 47 ∉ (l.drop f).take (l.length - f)) : Pt.cut (l.drop f) = [(l.drop f).take (l.length - f)]:=by
 have e : (l.drop f).take (l.length - f)=l.drop f:=List.take_of_length_le (by simp)
 rw [e] at hno ⊢
 exact Pt.cut_no hno
theorem Im {ps q : List (List UInt8)} {p : List UInt8} (h : Pt.name p=false∨ps.length=16) : Pt.few (ps++p :: q)=false:=by
 rcases h with h | h
 ·exact few_bad (j:=ps.length) (by simp) (by simpa using h)
 ·exact few_long (by simp; omega)
theorem ext_mid (l : List UInt8) (f i : Nat) : (Ab l).extract f i=Ab ((l.drop f).take (i - f)):=by rw [Gz,List.drop_take]
def Scan (l : List UInt8) (ps : List (List UInt8)) (f i : Nat) : Prop:=
 ps.length≤16∧(∀ p∈ps,Pt.name p=true) ∧
  ((f≤i∧i≤l.length∧ps++Pt.cut (l.drop f)=Pt.cut l∧47 ∉ (l.drop f).take (i - f))∨(i=l.length+1∧f=i∧ps=Pt.cut l))
theorem Scan.start (l : List UInt8) : Scan l [] 0 0:=⟨by simp,by simp, .inl ⟨Nat.le_refl _,Nat.zero_le _,by simp,by simp⟩⟩
theorem Scan.on {l : List UInt8} {ps : List (List UInt8)} {f i : Nat} (h : Scan l ps f i) (hi : i<l.length) (hc : l[i]≠47) : Scan l ps f (i+1):=by
 obtain ⟨h1,h2,⟨h3,h4,h5,h6⟩ | ⟨h3,_⟩⟩:=h
 ·refine ⟨h1,h2, .inl ⟨by omega,by omega,h5,?_⟩⟩
  rw [show i+1 - f=(i - f)+1 by omega,List.take_add_one]
  rw [List.getElem?_drop,show f+(i - f)=i by omega,List.getElem?_eq_getElem hi]
  simp only [Option.toList_some,List.mem_append,List.mem_singleton,not_or]
  exact ⟨h6,fun e=>hc e.symm⟩
 ·omega
theorem Scan.cut {l : List UInt8} {ps : List (List UInt8)} {f i : Nat} (h : Scan l ps f i) (hi : i≤l.length) (hc : ∀ h : i<l.length,l[i]=47) :
  f≤i∧(∃ q,ps++(l.drop f).take (i - f) :: q=Pt.cut l)∧(Pt.name ((l.drop f).take (i - f))=true→ps.length<16→Scan l (ps ++ [(l.drop f).take (i - f)]) (i+1) (i+1)):=by
 obtain ⟨h1,h2,⟨h3,h4,h5,h6⟩ | ⟨h3,_⟩⟩:=h
 ·refine ⟨h3,?_⟩
  by_cases hlt : i<l.length
  ·have e:=cut_step h3 hlt h6 (hc hlt)
   rw [e] at h5
   refine ⟨⟨_,h5⟩,fun hn hl=>⟨by simp; omega,fun p hp=>?_, .inl ⟨Nat.le_refl _,by omega,by rw [← h5]; simp,by simp⟩⟩⟩
   rcases List.mem_append.1 hp with hp | hp
   ·exact h2 p hp
   ·simp at hp; subst hp; exact hn
  ·have hi' : i=l.length:=by omega
   subst hi'
   have e:=cut_last h3 h6
   rw [e] at h5
   refine ⟨⟨_,h5⟩,fun hn hl=>⟨by simp; omega,fun p hp=>?_, .inr ⟨rfl,rfl,h5⟩⟩⟩
   rcases List.mem_append.1 hp with hp | hp
   ·exact h2 p hp
   ·simp at hp; subst hp; exact hn
 ·omega
set_option maxRecDepth 20000 in
theorem rparse_any (w : World) (l : List UInt8) (hl : l.length≤4611686018427387000) :
  Calls Tryz.prog 31 #[.string (Ab l)] w fun e w'=>(if Pt.path l=true then ∃ v,e = .returned (.tuple #[v, .int .i64 0])∧w'.ownsRow w.heap.size 9 1 v (Pt.parts l).length (tc (Pt.parts l)) else e = .returned (.tuple #[.slice none 0 0, .int .i64 40]))∧Below w.heap.size w w':=by
 obtain ⟨i0,hi0,hz0,hz1,hz2⟩:=info_parts Tryz.info9
 have tl:=toL l
 have hs:=A1 l
 by_cases h0 : l = []
 ·subst h0
  go_enter Tryz.func31,Tryz.ntmps31
  go_wp2
  go_ret2
  refine ⟨?_,Below.refl _ _⟩
  exact ⟨_,rfl,World.ownsRow_nil _ _ _ _⟩
 have b0 : (l == [])=false:=by simp [h0]
 have hparts : Pt.parts l=Pt.cut l:=by unfold Pt.parts; rw [if_neg h0]
 go_enter Tryz.func31,Tryz.ntmps31
 go_wp2
 go_loopw [2,3,4,5,6] (fun r2 r3 out from_ i wr=>∃ (ps : List (List UInt8)) (f k : Nat),r2 = .slice none 0 0∧r3 = .int .i64 0∧from_ = .int .i64 (f : Int)∧i = .int .i64 (k : Int)∧Scan l ps f k∧wr.ownsRow w.heap.size 9 1 out ps.length (tc ps)∧Below w.heap.size w wr)
  (fun _ _ _ _ i _=>l.length+1 - (intOf i).toNat)
 case atStart=>exact ⟨[],0,0,rfl,rfl,rfl,rfl,Scan.start l,World.ownsRow_nil _ _ _ _,Below.refl _ _⟩
 case round=>
  obtain ⟨ps,f,k,rfl,rfl,rfl,rfl,hsc,hrow,hB⟩:=hrel
  by_cases hk : k≤l.length
  ·by_cases hlt : k<l.length
   ·have hix:=fun W=>Gr 9 (.inl rfl) W l .i64 k hlt
    by_cases hc : l[k]=47
    ·have hcut:=hsc.cut hk (fun _=>hc)
     rw [hc] at hix
     obtain ⟨hfk,⟨q,hq⟩,hstep⟩:=hcut
     have x1:=ext_mid l f k
     generalize (l.drop f).take (k - f)=part at *
     have hrow':=hrow
     obtain ⟨ao,cap,rfl,c1,c2,-⟩:=K9 hrow
     cases hnm : Pt.name part with
     | false=>
      have hpath : Pt.path l=false:=by unfold Pt.path; rw [hparts,← hq]; exact Im (.inl hnm)
      go_wp2_with fail
      refine (F3 _ _).mono ?_
      rintro e w1 ⟨rfl,rfl⟩
      rw [hnm]
      go_wp2
      all_goals (go_ret2; exact ⟨rfl,hB⟩)
     | true=>
      by_cases h16 : ps.length=16
      ·have hpath : Pt.path l=false:=by unfold Pt.path; rw [hparts,← hq]; exact Im (.inr h16)
       go_wp2_with fail
       refine (F3 _ _).mono ?_
       rintro e w1 ⟨rfl,rfl⟩
       rw [hnm]
       go_wp2
       all_goals (go_ret2; exact ⟨rfl,hB⟩)
      ·have hstep:=hstep hnm (by have:=hsc.1; omega)
       have h16' : ps.length<16:=by have:=hsc.1; omega
       go_wp2_with fail
       refine (F3 _ _).mono ?_
       rintro e w1 ⟨rfl,rfl⟩
       rw [hnm]
       go_wp2_with (at_builtin; refine wpList_append_own _ rfl (.tmp 40) (.tmp 42) 76 rfl w.heap.size 9 i0 (.string ⟨#[]⟩) 1 16 Tryz.underlying76 hi0 hz0 hz1 hz2 rfl (by decide) _ _ _ rfl (hrow.alloc _) ⟨w1.heap.size,0,none⟩ 1 1 [.string (Ab part)] rfl rfl (cell_one_new _ _ _) (by simp [Value.oneCell']) (by unfold maxLen; omega) (by omega) (by have:=hB.size; simp; omega) ?_)
       intro v2 w2 hown2 hgrow2 _
       have hb2 : Below w.heap.size w w2:=(hB.alloc hB.size _).grown hgrow2 (by have:=hB.size; simp; omega) (fun k hk=>(hrow.lt k hk).1)
       obtain ⟨g',cap',rfl⟩:=ownsRow_succ hown2
       clear hgrow2 hrow
       go_wp2
       go_roundw
       case rel=>exact ⟨ps ++ [part],_,_,rfl,rfl,by go_num,by go_num,hstep,by simpa [tc] using hown2,hb2⟩
       case measure=>simp [intOf] <;> omega
    ·have hc' : ((l[k].toNat : Int) == 47)=false:=beq_eq_false_iff_ne.2 (fun e=>hc (UInt8.toNat_inj.1 (by simpa using Int.ofNat.inj e)))
     have hon:=hsc.on hlt hc
     generalize l[k]=c at *
     go_wp2_with fail
     exact ⟨⟨ps,f,k+1,rfl,rfl,rfl,by go_num,hon,hrow,hB⟩,by simp [intOf]; omega⟩
   ·obtain rfl : k=l.length:=by omega
    have hcut:=hsc.cut hk (fun h=>absurd h hlt)
    clear hlt
    obtain ⟨hfk,⟨q,hq⟩,hstep⟩:=hcut
    have x1:=ext_mid l f l.length
    generalize (l.drop f).take (l.length - f)=part at *
    have hrow':=hrow
    obtain ⟨ao,cap,rfl,c1,c2,-⟩:=K9 hrow
    cases hnm : Pt.name part with
    | false=>
     have hpath : Pt.path l=false:=by unfold Pt.path; rw [hparts,← hq]; exact Im (.inl hnm)
     go_wp2_with fail
     refine (F3 _ _).mono ?_
     rintro e w1 ⟨rfl,rfl⟩
     rw [hnm]
     go_wp2
     all_goals (go_ret2; exact ⟨rfl,hB⟩)
    | true=>
     by_cases h16 : ps.length=16
     ·have hpath : Pt.path l=false:=by unfold Pt.path; rw [hparts,← hq]; exact Im (.inr h16)
      go_wp2_with fail
      refine (F3 _ _).mono ?_
      rintro e w1 ⟨rfl,rfl⟩
      rw [hnm]
      go_wp2
      all_goals (go_ret2; exact ⟨rfl,hB⟩)
     ·have hstep:=hstep hnm (by have:=hsc.1; omega)
      have h16' : ps.length<16:=by have:=hsc.1; omega
      go_wp2_with fail
      refine (F3 _ _).mono ?_
      rintro e w1 ⟨rfl,rfl⟩
      rw [hnm]
      go_wp2_with (at_builtin; refine wpList_append_own _ rfl (.tmp 40) (.tmp 42) 76 rfl w.heap.size 9 i0 (.string ⟨#[]⟩) 1 16 Tryz.underlying76 hi0 hz0 hz1 hz2 rfl (by decide) _ _ _ rfl (hrow.alloc _) ⟨w1.heap.size,0,none⟩ 1 1 [.string (Ab part)] rfl rfl (cell_one_new _ _ _) (by simp [Value.oneCell']) (by unfold maxLen; omega) (by omega) (by have:=hB.size; simp; omega) ?_)
      intro v2 w2 hown2 hgrow2 _
      have hb2 : Below w.heap.size w w2:=(hB.alloc hB.size _).grown hgrow2 (by have:=hB.size; simp; omega) (fun k hk=>(hrow.lt k hk).1)
      obtain ⟨g',cap',rfl⟩:=ownsRow_succ hown2
      clear hgrow2 hrow
      go_wp2
      go_roundw
      case rel=>exact ⟨ps ++ [part],_,_,rfl,rfl,by go_num,by go_num,hstep,by simpa [tc] using hown2,hb2⟩
      case measure=>simp [intOf] <;> omega
  ·obtain ⟨h1,h2,⟨_,h4,_⟩ | ⟨h3,h4,h5⟩⟩:=hsc
   ·omega
   ·have hpath : Pt.path l=true:=by
     unfold Pt.path
     rw [hparts,← h5]
     exact few_true h1 (fun j hj=>h2 _ (List.getElem_mem hj))
    subst h5
    obtain ⟨ao,cap,rfl,c1,c2,-⟩:=K9 hrow
    go_wp2
    all_goals (go_ret2; exact ⟨⟨_,rfl,hrow⟩,hB⟩)
end Go.Proofs.YtckejblkppllaaaGreatDoor.Pa
namespace Go.Proofs.YtckejblkppllaaaGreatDoor
open Go.RowKit
theorem rparseT (w : World) (l : Bs) (hl : l.length≤4611686018427387000) :
  Calls Tryz.prog 31 #[.string (Ab l)] w fun e w'=>(if Pa.Pt.path l=true then ∃ v,e = .returned (.tuple #[v, .int .i64 0])∧C6 w' 9 v ((Pa.Pt.parts l).map fun n=>.string (Ab n)) else e = .returned (.tuple #[.slice none 0 0, .int .i64 40]))∧Below w.heap.size w w':=
 (Pa.rparse_any w l hl).mono fun e w' ⟨h,hb⟩=>⟨by
  split
  ·rename_i hp
   rw [if_pos hp] at h
   obtain ⟨v,h1,h2⟩:=h
   exact ⟨v,h1,C6.of_own (by
    have e : Pa.tc (Pa.Pt.parts l)=(Pa.Pt.parts l).map fun n=>.string (Ab n):=rfl
    rw [e] at h2
    rw [List.length_map]
    exact h2)⟩
  ·rename_i hp
   rw [if_neg hp] at h
   exact h,hb⟩
abbrev zeC : Array Value:=#[.string ⟨#[]⟩, .int .i64 0, .string ⟨#[]⟩, .int .i64 0]
abbrev enC (x : Ent) : Array Value:=#[.string (Ab x.1), .int .i64 x.2.1, .string (Ab x.2.2.1), .int .i64 x.2.2.2]
def FiW (fd : Bs→Option Bs) (w : World) (cx : Nat) (ns : List Bs) (R : Int × Ent) (i : Nat) (wr : World) : Prop:=
 ∃ x,R=goE fd (ns.drop i) x∧wr.heap[cx]? = some (.cells (enC x) 27)∧wr.heap[w.heap.size]? = some (.cells zeC 27)∧Below w.heap.size w wr
set_option maxRecDepth 40000 in
set_option maxHeartbeats 3200000 in
theorem N2 (w : World) (vo : Value) (objs : List Ag) (hv : Ls w.heap.size w 2 Ak vo objs) (hob : ∀ o∈objs,o.2.length≤140737488351232) (root at_ : Bs) (ha : at_.length≤4611686018427387000) :
  Calls Tryz.prog 10 #[vo, .string (Ab root), .string (Ab at_)] w fun e w'=>e = .returned (.tuple #[E0 (Cp (Aj objs) root at_).2, .int .i64 (Cp (Aj objs) root at_).1])∧Below w.heap.size w w':=by
 have hb0 : Below w.heap.size w (w.alloc (.cells zeC 27)):=(Below.refl _ _).alloc (Nat.le_refl _) _
 have hx0:=heap_last w (.cells zeC 27) _ rfl
 have hpa:=rparseT (w.alloc (.cells zeC 27)) at_ ha
 generalize hw0 : w.alloc (.cells zeC 27)=w0 at *
 obtain ⟨ao,ac,hvo,-⟩:=Dp hv
 unfold Cp
 by_cases hp : Pa.Pt.path at_=false
 ·rw [if_pos hp]
  simp only [hp,Bool.false_eq_true,if_false] at hpa
  have HX:=Ac (And.intro hb0 hx0)
  clear hb0 hx0 hv hob
  subst hvo
  go_enter Tryz.func10,Tryz.ntmps10
  go_wp2_with fail
  try rw [hw0]
  go_wp2_with fail
  refine hpa.mono ?_
  rintro e w1 ⟨rfl,hb1⟩
  have x1:=(hb1.block _ (Ad HX.out.2)).trans HX.out.2
  have n0:=rc (i:=0) x1 rfl
  have n1:=rc (i:=1) x1 rfl
  have n2:=rc (i:=2) x1 rfl
  have n3:=rc (i:=3) x1 rfl
  have f0:=Af (j:=0) x1
  have f1:=Af (j:=1) x1
  have f2:=Af (j:=2) x1
  have f3:=Af (j:=3) x1
  have HH:=Ac (Cv (.string ⟨#[]⟩) (.int .i64 0) (.string ⟨#[]⟩) (.int .i64 0) x1 (HX.out.1.trans (hb1.mono HX.out.1.size)) (Nat.le_refl _))
  clear hpa hb1 x1
  go_wp2
  exact bodyPost_ret (Aq rfl _ _ _ _ _ _ _ rfl HH.out.1 Tryz.underlying27 rfl Tryz.infoEntry) rfl ⟨rfl,HH.out.2⟩
 ·rw [if_neg hp]
  have hpt : Pa.Pt.path at_=true:=by simpa using hp
  simp only [if_pos hpt] at hpa
  have hfl:=Pa.Pt.few_len hpt
  have hnk:=fun n hn=>name_key (I4 hpt n hn)
  generalize Pa.Pt.parts at_=ns at *
  obtain ⟨n,hn⟩ : ∃ n,n=ns.length:=⟨_,rfl⟩
  rw [← hn] at hfl
  obtain ⟨R,hR⟩ : ∃ R,R=goE (Aj objs) ns (rootE root):=⟨_,rfl⟩
  have HN:=Ac (And.intro hn (And.intro hR (And.intro hb0 (And.intro hx0 (And.intro hv (And.intro hnk hob))))))
  rw [← hR]
  clear hn hR hb0 hx0 hnk hp hv hob
  subst hvo
  go_enter Tryz.func10,Tryz.ntmps10
  go_wp2_with fail
  try rw [hw0]
  go_wp2_with fail
  refine hpa.mono ?_
  rintro e w1 ⟨⟨vn,rfl,hvn⟩,hb1⟩
  have hvn':=hvn
  obtain ⟨na,nc,rfl,hnc,-,hcells⟩:=hvn'
  rw [List.length_map,← HN.out.1]
  have hz1:=(hb1.block _ (Ad HN.out.2.2.2.1)).trans HN.out.2.2.2.1
  have hB1:=HN.out.2.2.1.trans (hb1.mono HN.out.2.2.1.size)
  have hw01 : w.heap.size≤w1.heap.size:=hB1.size
  have hw02 : w.heap.size<w1.heap.size:=Ad hz1
  have HZ1:=Ac hz1
  have hba : Below w1.heap.size w1 (w1.alloc (.cells zeC 27)):=(Below.refl _ _).alloc (Nat.le_refl _) _
  have hxa:=heap_last w1 (.cells zeC 27) _ rfl
  have hza:=(hba.block _ (Ad hz1)).trans hz1
  generalize hwa : w1.alloc (.cells zeC 27)=wa at *
  have n0:=rc (i:=0) hxa rfl
  have n1:=rc (i:=1) hxa rfl
  have n2:=rc (i:=2) hxa rfl
  have n3:=rc (i:=3) hxa rfl
  have f0:=Af (j:=0) hxa
  have f1:=Af (j:=1) hxa
  have f2:=Af (j:=2) hxa
  have f3:=Af (j:=3) hxa
  have hst:=(Cv (w:=w1) (.string ⟨#[]⟩) (.int .i64 2) (.string (Ab root)) (.int .i64 0) hxa hba (Nat.le_refl _))
  have hzb:=(hst.2.block _ (Ad hz1)).trans hz1
  have HS:=Ac (And.intro hst.2 (And.intro hst.1 (And.intro hzb (hB1.trans (hst.2.mono hB1.size)))))
  have HV:=Ac hcells
  clear hpa hvn hcells hb1 hxa hnc hba hst hza hzb hz1 hB1
  go_wp2_with fail
  try rw [hwa]
  go_wp2_with fail
  go_loopw [11] (fun t wr=>∃ i : Nat,i≤n∧t = .int .i64 i∧FiW (Aj objs) w w1.heap.size ns R i wr∧Below w1.heap.size w1 wr)
   (fun t _=>n - (intOf t).toNat)
  case atStart=>exact ⟨0,by omega,rfl,⟨rootE root,HN.out.2.1,HS.out.2.1,HS.out.2.2.1,HS.out.2.2.2⟩,HS.out.1⟩
  case round=>
   obtain ⟨i,hi,rfl,⟨x,hRi,hx,hz,hbw⟩,hb1r⟩:=hrel
   have z0:=rc (i:=0) hz rfl
   have z1:=rc (i:=1) hz rfl
   have z2:=rc (i:=2) hz rfl
   have z3:=rc (i:=3) hz rfl
   have g0:=Af (j:=0) hz
   have g1:=Af (j:=1) hz
   have g2:=Af (j:=2) hz
   have g3:=Af (j:=3) hz
   have y1:=rc (i:=1) hx rfl
   have y2:=rc (i:=2) hx rfl
   by_cases hlt : i<n
   ·have hlt2 : i<ns.length:=by have:=HN.out.1; omega
    obtain ⟨pb,off,cs,fr,rfl,hblk,hcs⟩:=HV.out (by intro e; rw [List.map_eq_nil_iff] at e; rw [e] at hlt2; simp at hlt2)
    have hnm:=rc ((hb1r.block _ (Ad hblk)).trans hblk) (hcs i (by simpa using hlt2))
    have hblkr:=(hb1r.block _ (Ad hblk)).trans hblk
    have hci:=hcs i (by simpa using hlt2)
    simp only [List.getElem_map] at hnm hci
    have hdr : ns.drop i=ns[i] :: ns.drop (i+1):=List.drop_eq_getElem_cons hlt2
    have hky:=HN.out.2.2.2.2.2.1 ns[i] (List.getElem_mem hlt2)
    generalize ns[i]=m at *
    rw [hdr,goE] at hRi
    have HZ:=Ac (Cv (.string ⟨#[]⟩) (.int .i64 0) (.string ⟨#[]⟩) (.int .i64 0) hz hbw (Nat.le_refl _))
    by_cases hk : x.2.1≠2
    ·have q0 : (x.2.1 != 2)=true:=by simpa using hk
     have hR : R=(161,zEnt):=by
      have e1 : Ed (Aj objs) x.2 m=(161,zEnt):=by unfold Ed; rw [if_pos hk]
      rw [hRi,e1]
      simp
     clear hRi hk hdr hcs hblk hblkr hci hx hz hbw hb1r
     subst hR
     go_wp2
     exact bodyPost_ret (Aq rfl _ _ _ _ _ _ _ rfl HZ.out.1 Tryz.underlying27 rfl Tryz.infoEntry) rfl ⟨rfl,HZ.out.2⟩
    ·have q0 : (x.2.1 != 2)=false:=by simpa using hk
     have hfi:=rfind_any wr.drew _ objs ((HN.out.2.2.2.2.1.keep hbw.drew).up hbw.size) HN.out.2.2.2.2.2.2 x.2.2.1 m hky
     have hval:=findF_val (fd:=Aj objs) (Fy HN.out.2.2.2.2.2.2) x.2.2.1 m
     unfold Ed at hRi
     rw [if_neg hk] at hRi
     generalize Cq (Aj objs) x.2.2.1 m []=F at *
     obtain ⟨fv,fb,fa,fe⟩:=F
     simp only at hfi hval hRi
     have HX:=Ac (And.intro hx (And.intro hz (And.intro hbw (And.intro hb1r (And.intro hblkr hci)))))
     have HR:=Ac hRi
     clear hx hz hbw hb1r hblkr hci hRi z0 z1 z2 z3 g0 g1 g2 g3 hdr hcs hblk HZ hk
     go_upto_region 10 with fail
     refine wp_region_held_drew (S:=fun W=>W.cell? ⟨w1.heap.size,2,none⟩=some (.string (Ab x.2.2.1))∧W.cell? ⟨pb,off+i,none⟩=some (.string (Ab m))) (by kernel_rfl) (⟨y2,hnm⟩) (fun hHeld=>?_)
     refine Aa 0 hHeld ?_
     refine Aa 1 hHeld ?_
     refine Aa 2 hHeld ?_
     refine Aa 3 hHeld ?_
     refine Aa 4 hHeld ?_
     refine Aa 5 hHeld ?_
     refine Aa 6 hHeld ?_
     refine Ai (i:=7) rfl (by kernel_rfl) rfl (fun K hK=>?_)
     go_simp
     refine hfi.mono ?_
     rintro e w2 ⟨va,rfl,hra,hb2⟩
     obtain ⟨ra,rm,rk,rfl⟩:=Av hra
     have hb2' : Below wr.heap.size wr w2:=(Below.refl _ _).drew.trans hb2
     have hx2:=(hb2'.block _ (Ad HX.out.1)).trans HX.out.1
     have hz2:=(hb2'.block _ (Ad HX.out.2.1)).trans HX.out.2.1
     have hk2:=(hb2'.block _ (Ad HX.out.2.2.2.2.1)).trans HX.out.2.2.2.2.1
     have hn2:=rc hk2 HX.out.2.2.2.2.2
     have y2':=rc (i:=2) hx2 rfl
     have hbw2:=HX.out.2.2.1.trans (hb2'.mono HX.out.2.2.1.size)
     have hb12:=HX.out.2.2.2.1.trans (hb2'.mono HX.out.2.2.2.1.size)
     refine hK.out _ _ (⟨y2',hn2⟩) (fun hHeld=>?_)
     clear hK K
     try simp only [Act.put,List.setIfInBounds_toArray,List.set_cons_zero,List.set_cons_succ]
     refine Aa 8 hHeld ?_
     refine Aa 9 hHeld ?_
     refine Aa 10 hHeld ?_
     refine Aa 11 hHeld ?_
     refine Aa 12 hHeld ?_
     refine Aa 13 hHeld ?_
     refine Aa 14 hHeld ?_
     refine Aa 15 hHeld ?_
     refine Aa 16 hHeld ?_
     refine wpAnyH_done (by kernel_rfl) ?_ _
     clear hHeld hfi hra hb2 y1 y2 hnm y2'
     have z0:=rc (i:=0) hz2 rfl
     have z1:=rc (i:=1) hz2 rfl
     have z2:=rc (i:=2) hz2 rfl
     have z3:=rc (i:=3) hz2 rfl
     have g0:=Af (j:=0) hz2
     have g1:=Af (j:=1) hz2
     have g2:=Af (j:=2) hz2
     have g3:=Af (j:=3) hz2
     have HZ:=Ac (Cv (.string ⟨#[]⟩) (.int .i64 0) (.string ⟨#[]⟩) (.int .i64 0) hz2 hbw2 (Nat.le_refl _))
     by_cases hfe : fe≠0
     ·have q1 : (fe != 0)=true:=by simpa using hfe
      have hR : R=(fe,zEnt):=by
       have:=HR.out
       rw [if_pos hfe] at this
       rw [this]
       simp [hfe]
      clear HR hfe hx2 hz2 hk2 hbw2 hb12 HX
      subst hR
      go_wp2
      exact bodyPost_ret (Aq rfl _ _ _ _ _ _ _ rfl HZ.out.1 Tryz.underlying27 rfl Tryz.infoEntry) rfl ⟨rfl,HZ.out.2⟩
     ·have q1 : (fe != 0)=false:=by simpa using hfe
      by_cases hfb : fb=false
      ·have hR : R=(160,zEnt):=by
        have:=HR.out
        rw [if_neg hfe,if_pos hfb] at this
        rw [this]
        simp
       clear HR hfe hx2 hz2 hk2 hbw2 hb12 HX
       subst hR hfb
       go_wp2
       exact bodyPost_ret (Aq rfl _ _ _ _ _ _ _ rfl HZ.out.1 Tryz.underlying27 rfl Tryz.infoEntry) rfl ⟨rfl,HZ.out.2⟩
      ·have hfb' : fb=true:=by simpa using hfb
       have hta:=Mk w2 m fv (by omega)
       have hRt : R=if (E5 m fv).1≠0 then ((E5 m fv).1,zEnt) else goE (Aj objs) (ns.drop (i+1)) (E5 m fv).2:=by
        have:=HR.out
        rw [if_neg hfe,if_neg hfb] at this
        exact this
       unfold E5 at hRt
       unfold F9 at hta
       clear HR hfe hfb
       subst hfb'
       cases ht : Dc m fv with
       | none=>
        rw [ht] at hRt
        simp only [ht] at hta
        have hR : R=(163,zEnt):=by rw [hRt]; simp
        clear HZ hRt
        subst hR
        go_wp2_with fail
        refine hta.mono ?_
        rintro e w3 ⟨rfl,hb3⟩
        have hx3:=(hb3.block _ (Ad hx2)).trans hx2
        have hz3:=(hb3.block _ (Ad hz2)).trans hz2
        have c0:=rc (i:=0) hx3 rfl
        have c1:=rc (i:=1) hx3 rfl
        have c2:=rc (i:=2) hx3 rfl
        have c3:=rc (i:=3) hx3 rfl
        have d0:=Af (j:=0) hx3
        have d1:=Af (j:=1) hx3
        have d2:=Af (j:=2) hx3
        have d3:=Af (j:=3) hx3
        have hs4:=Cv (w:=w1) (.string ⟨#[]⟩) (.int .i64 0) (.string ⟨#[]⟩) (.int .i64 0) hx3 (hb12.trans (hb3.mono hb12.size)) (Nat.le_refl _)
        have hlz:=Ad HN.out.2.2.2.1
        have hs4b:=Cv (w:=w) (.string ⟨#[]⟩) (.int .i64 0) (.string ⟨#[]⟩) (.int .i64 0) hx3 (hbw2.trans (hb3.mono hbw2.size)) hw01
        go_upto_region 16 with fail
        generalize ((((w3.setCell ⟨w1.heap.size,0,none⟩ (.string ⟨#[]⟩)).setCell ⟨w1.heap.size,1,none⟩ (.int .i64 0)).setCell ⟨w1.heap.size,2,none⟩ (.string ⟨#[]⟩)).setCell ⟨w1.heap.size,3,none⟩ (.int .i64 0))=w4 at *
        have hz4:=(hs4.2.block _ hw02).trans HZ1.out
        have z0:=rc (i:=0) hz4 rfl
        have z1:=rc (i:=1) hz4 rfl
        have z2:=rc (i:=2) hz4 rfl
        have z3:=rc (i:=3) hz4 rfl
        have g0:=Af (j:=0) hz4
        have g1:=Af (j:=1) hz4
        have g2:=Af (j:=2) hz4
        have g3:=Af (j:=3) hz4
        have HZ:=Ac (Cv (.string ⟨#[]⟩) (.int .i64 0) (.string ⟨#[]⟩) (.int .i64 0) hz4 hs4b.2 (Nat.le_refl _))
        clear hs4 hs4b hz4 hx3 hz3 hta hb3
        go_wp2
        exact bodyPost_ret (Aq rfl _ _ _ _ _ _ _ rfl HZ.out.1 Tryz.underlying27 rfl Tryz.infoEntry) rfl ⟨rfl,HZ.out.2⟩
       | some v=>
        rw [ht] at hRt
        simp only [ht] at hta
        go_wp2_with fail
        refine hta.mono ?_
        rintro e w3 ⟨rfl,hb3⟩
        have hx3:=(hb3.block _ (Ad hx2)).trans hx2
        have hz3:=(hb3.block _ (Ad hz2)).trans hz2
        have c0:=rc (i:=0) hx3 rfl
        have c1:=rc (i:=1) hx3 rfl
        have c2:=rc (i:=2) hx3 rfl
        have c3:=rc (i:=3) hx3 rfl
        have d0:=Af (j:=0) hx3
        have d1:=Af (j:=1) hx3
        have d2:=Af (j:=2) hx3
        have d3:=Af (j:=3) hx3
        have hs4:=Cv (w:=w1) (.string (Ab m)) (.int .i64 v.1) (.string (Ab v.2.1)) (.int .i64 v.2.2) hx3 (hb12.trans (hb3.mono hb12.size)) (Nat.le_refl _)
        have hlz:=Ad HN.out.2.2.2.1
        have hs4b:=Cv (w:=w) (.string (Ab m)) (.int .i64 v.1) (.string (Ab v.2.1)) (.int .i64 v.2.2) hx3 (hbw2.trans (hb3.mono hbw2.size)) hw01
        go_upto_region 16 with fail
        generalize ((((w3.setCell ⟨w1.heap.size,0,none⟩ (.string (Ab m))).setCell ⟨w1.heap.size,1,none⟩ (.int .i64 v.1)).setCell ⟨w1.heap.size,2,none⟩ (.string (Ab v.2.1))).setCell ⟨w1.heap.size,3,none⟩ (.int .i64 v.2.2))=w4 at *
        have hz4:=(hs4.2.block _ hw02).trans HZ1.out
        have HF:=Ac (And.intro (show FiW (Aj objs) w w1.heap.size ns R (i+1) w4 from ⟨(m,v),by simpa using hRt,hs4.1,hz4,hs4b.2⟩) hs4.2)
        clear hs4 hs4b hz4 hx3 hz3 hta hb3 hRt HZ
        go_wp2_with fail
        go_roundw
        case rel=>exact ⟨i+1,by omega,by go_num,HF.out.1,HF.out.2⟩
        case measure=>simp [intOf]; omega
   ·have hin : i=n:=by omega
    have hall : ns.drop i = []:=by rw [List.drop_eq_nil_iff]; have:=HN.out.1; omega
    rw [hall,goE] at hRi
    have q5 : decide ((i : Int)<(n : Int))=false:=decide_eq_false (by omega)
    have y0:=rc (i:=0) hx rfl
    have y3:=rc (i:=3) hx rfl
    have HZ:=Ac (Cv (.string (Ab x.1)) (.int .i64 x.2.1) (.string (Ab x.2.2.1)) (.int .i64 x.2.2.2) hz hbw (Nat.le_refl _))
    clear hall hx hz hbw hb1r
    subst hRi
    go_wp2
    exact bodyPost_ret (Aq rfl _ _ _ _ _ _ _ rfl HZ.out.1 Tryz.underlying27 rfl Tryz.infoEntry) rfl ⟨rfl,HZ.out.2⟩
end Go.Proofs.YtckejblkppllaaaGreatDoor
namespace Go.Proofs.YtckejblkppllaaaGreatDoor
open Go.RowKit
def tkV (x : Ag) : Ent:=match Dc x.1 x.2 with
 | some v=>(x.1,v)
 | none=>zEnt
def tkE (x : Ag) : Int:=match Dc x.1 x.2 with
 | some _=>0
 | none=>81
theorem rtake16 (w : World) (x : Ag) (h : x.2.length≤140737488351232) :
  Calls Tryz.prog 33 #[.string (Ab x.1), .string (Ab x.2)] w fun e w'=>e = .returned (.tuple #[E0 (tkV x), .int .i64 (tkE x)])∧Below w.heap.size w w':=
 (Mk w x.1 x.2 h).mono fun e w' ⟨he,hb⟩=>⟨by
  unfold F9 at he
  unfold tkV tkE
  cases ht : Dc x.1 x.2 with
  | some v=>simp only [ht] at he; exact he
  | none=>simp only [ht] at he; exact he,hb⟩
def entsT (fd : Bs→Option Bs) (top : Bool) (d : Ent) : Int × List Ent:=
 if (Co fd d.2.2.1 [] []).bad≠0 then ((Co fd d.2.2.1 [] []).bad,[])
 else if top=false∧((Co fd d.2.2.1 [] []).out.length : Int)≠d.2.2.2 then (163,[])
 else Fh (Co fd d.2.2.1 [] []).out
set_option maxRecDepth 40000 in
set_option maxHeartbeats 2400000 in
theorem rentries_any (w : World) (vo : Value) (objs : List Ag) (hv : Ls w.heap.size w 2 Ak vo objs) (hob : ∀ o∈objs,o.2.length≤140737488351232) (d : Ent) (top : Bool) :
  Calls Tryz.prog 35 #[vo,E0 d, .bool top] w fun e w'=>∃ ve,e = .returned (.tuple #[ve, .int .i64 (entsT (Aj objs) top d).1])∧Rw w.heap.size w' 27 4 Dk ve (entsT (Aj objs) top d).2∧Below w.heap.size w w':=by
 have hb0 : Below w.heap.size w (w.alloc (.cells (enC d) 27)):=(Below.refl _ _).alloc (Nat.le_refl _) _
 have hd0:=heap_last w (.cells (enC d) 27) _ rfl
 have hli:=list12_any (w.alloc (.cells (enC d) 27)) vo objs ((hv.keep hb0).up hb0.size) hob d.2.2.1 [] []
 obtain ⟨ao,ac,hvo,-⟩:=Dp hv
 generalize hw0 : w.alloc (.cells (enC d) 27)=w0 at *
 have a2:=rc (i:=2) hd0 rfl
 have hpk:=N5 (fd:=Aj objs) (Fy hob) d.2.2.1
 have hfew:=(Lk (Aj objs) (Fy hob) d.2.2.1 [] []).2
 unfold entsT
 generalize Co (Aj objs) d.2.2.1 [] []=L at *
 have e0 : Ab ([] : Bs)=⟨#[]⟩:=rfl
 rw [e0] at hli
 have HX:=Ac (And.intro hd0 hb0)
 clear hb0 hd0 hv hob
 subst hvo
 by_cases hbad : L.bad≠0
 ·rw [if_pos hbad]
  simp only
  have q1 : (L.bad != 0)=true:=by simpa using hbad
  clear hbad
  go_enter Tryz.func35,Tryz.ntmps35
  go_wp2_with fail
  try rw [hw0]
  go_wp2_with fail
  refine hli.mono ?_
  rintro e w1 ⟨vp,va',rfl,hrow,hra,hb1⟩
  obtain ⟨va,vm,vc,rfl⟩:=Av hrow
  obtain ⟨xa,xm,xc,rfl⟩:=Av hra
  have HB:=Ac (HX.out.2.trans (hb1.mono HX.out.2.size))
  clear hli hrow hra hb1 a2
  go_wp2
  go_ret2
  exact ⟨_,rfl,World.ownsRow_nil _ _ _ _,HB.out⟩
 ·rw [if_neg hbad]
  have q1 : (L.bad != 0)=false:=by simpa using hbad
  have hout : Es L=L.out:=by unfold Es; rw [if_pos (by simpa using hbad)]
  rw [hout] at hli
  generalize L.out=ps at *
  generalize L.asked=asl at *
  obtain ⟨n,hn⟩ : ∃ n,n=ps.length:=⟨_,rfl⟩
  rw [← hn] at hfew ⊢
  have HN:=Ac hn
  clear hbad hout
  by_cases hsz : top=false∧(n : Int)≠d.2.2.2
  ·rw [if_pos hsz]
   simp only
   have q4 : ((n : Int) != d.2.2.2)=true:=by simpa using hsz.2
   obtain ⟨rfl,-⟩:=hsz
   go_enter Tryz.func35,Tryz.ntmps35
   go_wp2_with fail
   try rw [hw0]
   go_wp2_with fail
   refine hli.mono ?_
   rintro e w1 ⟨vp,va',rfl,hrow,hra,hb1⟩
   obtain ⟨pa,pc,rfl,-⟩:=Bj hrow
   obtain ⟨xa,xm,xc,rfl⟩:=Av hra
   rw [← hn]
   have d1:=(hb1.block _ (Ad HX.out.1)).trans HX.out.1
   have e3:=rc (i:=3) d1 rfl
   have HB:=Ac (HX.out.2.trans (hb1.mono HX.out.2.size))
   clear hli hrow hra hb1 a2 d1 hn
   go_wp2
   go_ret2
   exact ⟨_,rfl,World.ownsRow_nil _ _ _ _,HB.out⟩
  ·rw [if_neg hsz]
   have hbs : top=false→((n : Int) != d.2.2.2)=false:=by
    rintro rfl
    by_cases h2 : (n : Int)=d.2.2.2
    ·simp [h2]
    ·exact absurd ⟨rfl,h2⟩ hsz
   obtain ⟨R,hR⟩ : ∃ R,R=Fh ps:=⟨_,rfl⟩
   rw [← hR]
   have HR:=Ac hR
   clear hsz hR hn
   cases top
   all_goals
    simp only [true_implies,reduceCtorEq,false_implies] at hbs
    go_enter Tryz.func35,Tryz.ntmps35
    go_wp2_with fail
    try rw [hw0]
    go_wp2_with fail
    refine hli.mono ?_
    rintro e w1 ⟨vp,va',rfl,hrow,hra,hb1⟩
    obtain ⟨pa,pc,rfl,-⟩:=Bj hrow
    obtain ⟨xa,xm,xc,rfl⟩:=Av hra
    rw [← HN.out]
    have d1:=(hb1.block _ (Ad HX.out.1)).trans HX.out.1
    have e3:=rc (i:=3) d1 rfl
    have hls : Ls w1.heap.size w1 2 Ak (.slice pa n pc) ps:=by rw [HN.out]; exact Bi Dr hrow
    obtain ⟨ao',cap',hv',-,-,hcells⟩:=hls
    have hpa : pa=ao':=by injection hv'
    have HB:=Ac (HX.out.2.trans (hb1.mono HX.out.2.size))
    clear hli hrow hra hb1 a2 d1 hv'
    subst hpa
    go_wp2_with fail
    obtain ⟨S,hS⟩ : ∃ S,S=w1.heap.size:=⟨_,rfl⟩
    have HS:=Ac hS
    rw [← hS] at hcells
    clear hS
    go_loopw [11,12] (fun t u wr=>∃ (k : Nat) (out : List Ent),k≤n∧u = .int .i64 k∧Db (ps.take k)=some out∧out.length≤k∧Rw S wr 27 4 Dk t out∧Below S w1 wr)
     (fun _ u _=>n - (intOf u).toNat)
    case atStart=>exact ⟨0,[],by omega,rfl,rfl,by simp,World.ownsRow_nil _ _ _ _,Below.refl _ _⟩
    case round=>
     obtain ⟨k,out,hk,rfl,htk,hol,hro,hbr⟩:=hrel
     obtain ⟨oa,oc,hov,-⟩:=Bj hro
     obtain ⟨ol,hol2⟩ : ∃ ol,ol=out.length:=⟨_,rfl⟩
     rw [← hol2] at hov
     subst hov
     by_cases hlt : k<n
     ·have hlt2 : k<ps.length:=by have:=HN.out; omega
      obtain ⟨pb,off,rfl,hpb,hc⟩:=hcells (by rintro rfl; simp at hlt2)
      have c0:=(hbr.cell (p:=⟨pb,off+k * 2+0,none⟩) hpb).trans (hc k hlt2 0 _ rfl)
      have c1:=(hbr.cell (p:=⟨pb,off+k * 2+1,none⟩) hpb).trans (hc k hlt2 1 _ rfl)
      simp only [Nat.add_zero] at c0
      have hpx:=hpk ps[k] (List.getElem_mem hlt2)
      have hmem:=List.getElem_mem hlt2
      have htk2 : ps.take (k+1)=ps.take k ++ [ps[k]]:=by rw [List.take_add_one]; simp [hlt2]
      generalize ps[k]=x at *
      have hxl : x.1.length≤64∧x.2.length≤128:=by
       unfold A3 As at hpx
       simp only [Bool.and_eq_true,decide_eq_true_eq] at hpx
       exact ⟨hpx.1.2,hpx.2⟩
      have hta:=fun W=>rtake16 W x (by omega)
      have hs1 : S≤wr.heap.size:=by have:=hbr.size; have:=HS.out; omega
      have hpw : pb<wr.heap.size:=Nat.lt_of_lt_of_le hpb hs1
      have zE : ∀ W : World,(W.alloc (.cells zeC 27)).heap[W.heap.size]? = some (.cells zeC 27):=fun W=>heap_last W _ _ rfl
      have HH:=Ac (And.intro hro (And.intro hbr (And.intro htk (And.intro htk2 hol2))))
      clear hro hbr htk htk2 hol2 hc hcells
      go_upto_region 10 with fail
      go_cut [13,14] from 41 to 54 (fun v13 v14 wx=>∃ q,v13 = .pointer (some ⟨q,0,none⟩)∧v14 = .int .i64 (tkE x)∧wx.heap[q]? = some (.cells (enC (tkV x)) 27)∧Below wr.heap.size wr wx)
      case first=>
       refine wp_region_held_drew (S:=fun W=>W.cell? ⟨pb,off+k * 2,none⟩=some (.string (Ab x.1))∧W.cell? ⟨pb,off+k * 2+1,none⟩=some (.string (Ab x.2))) (by kernel_rfl) (⟨c0,c1⟩) (fun hHeld=>?_)
       refine Aa 0 hHeld ?_
       refine Aa 1 hHeld ?_
       refine Aa 2 hHeld ?_
       refine Aa 3 hHeld ?_
       refine Aa 4 hHeld ?_
       refine Aa 5 hHeld ?_
       refine Aa 6 hHeld ?_
       refine Aa 7 hHeld ?_
       refine Aa 8 hHeld ?_
       refine Aa 9 hHeld ?_
       have hsb : ∀ W,Below wr.heap.size wr W→W.cell? ⟨pb,off+k * 2,none⟩=some (.string (Ab x.1))∧W.cell? ⟨pb,off+k * 2+1,none⟩=some (.string (Ab x.2)):=fun W hW=>⟨(hW.cell hpw).trans c0,(hW.cell hpw).trans c1⟩
       have HSB:=Ac hsb
       clear c0 c1 hsb
       refine twoH (i:=10) (j:=14) rfl rfl (by kernel_rfl) rfl rfl (fun K hK=>?_) (fun K hK=>?_)
       ·go_simp
        refine (hta wr.drew).mono ?_
        rintro e w4 ⟨rfl,hb4⟩
        have B4 : Below wr.heap.size wr w4:=(Below.refl _ _).drew.trans hb4
        refine hK.out _ _ (HSB.out w4 B4) (fun hHeld=>?_)
        clear hK K
        try simp only [Act.put,List.setIfInBounds_toArray,List.set_cons_zero,List.set_cons_succ]
        refine Aa 11 hHeld ?_
        refine Aa 12 hHeld ?_
        refine Aa 13 hHeld ?_
        refine Ai (i:=14) rfl (by kernel_rfl) rfl (fun K hK=>?_)
        go_simp
        have hz:=zE w4
        have d0:=rc (i:=0) hz rfl
        have d1:=rc (i:=1) hz rfl
        have d2:=rc (i:=2) hz rfl
        have d3:=rc (i:=3) hz rfl
        have e0:=Af (j:=0) hz
        have e1:=Af (j:=1) hz
        have e2:=Af (j:=2) hz
        have e3:=Af (j:=3) hz
        refine hK.out _ _ (HSB.out _ (B4.alloc B4.size _)) (fun hHeld=>?_)
        clear hK K
        try simp only [Act.put,List.setIfInBounds_toArray,List.set_cons_zero,List.set_cons_succ]
        refine Ai (i:=15) rfl (by kernel_rfl) rfl (fun K hK=>?_)
        go_simp
        refine hK.out _ _ (HSB.out _ (B4.alloc B4.size _)) (fun hHeld=>?_)
        clear hK K
        try simp only [Act.put,List.setIfInBounds_toArray,List.set_cons_zero,List.set_cons_succ]
        refine Aa 16 hHeld ?_
        refine wpAnyH_done (by kernel_rfl) ?_ _
        clear hHeld
        go_wp2_with fail
        go_meet
        exact ⟨_,rfl,rfl,heap_last w4 _ _ rfl,B4.alloc B4.size _⟩
       ·go_simp
        have hz:=zE wr
        have bz : Below wr.heap.size wr (wr.alloc (.cells zeC 27)).drew:=((Below.refl _ _).alloc (Nat.le_refl _) _).drew
        refine hK.out _ _ (HSB.out _ bz) (fun hHeld=>?_)
        clear hK K
        try simp only [Act.put,List.setIfInBounds_toArray,List.set_cons_zero,List.set_cons_succ]
        refine Ai (i:=10) rfl (by kernel_rfl) rfl (fun K hK=>?_)
        go_simp
        refine (hta _).mono ?_
        rintro e w4 ⟨rfl,hb4⟩
        have B4 : Below wr.heap.size wr w4:=bz.trans (hb4.mono bz.size)
        have z4:=(hb4.block wr.heap.size (by simp)).trans (show (wr.alloc (.cells zeC 27)).drew.heap[wr.heap.size]? = _ from hz)
        have H4:=Ac (Cv (.string (Ab (tkV x).1)) (.int .i64 (tkV x).2.1) (.string (Ab (tkV x).2.2.1)) (.int .i64 (tkV x).2.2.2) z4 B4 (Nat.le_refl _))
        refine hK.out _ _ (HSB.out w4 B4) (fun hHeld=>?_)
        clear hK K
        try simp only [Act.put,List.setIfInBounds_toArray,List.set_cons_zero,List.set_cons_succ]
        refine Aa 11 hHeld ?_
        refine Aa 12 hHeld ?_
        refine Aa 13 hHeld ?_
        have d0:=rc (i:=0) z4 rfl
        have d1:=rc (i:=1) z4 rfl
        have d2:=rc (i:=2) z4 rfl
        have d3:=rc (i:=3) z4 rfl
        have e0:=Af (j:=0) z4
        have e1:=Af (j:=1) z4
        have e2:=Af (j:=2) z4
        have e3:=Af (j:=3) z4
        refine Ai (i:=15) rfl (by kernel_rfl) rfl (fun K hK=>?_)
        go_simp
        refine hK.out _ _ (HSB.out _ H4.out.2) (fun hHeld=>?_)
        clear hK K
        try simp only [Act.put,List.setIfInBounds_toArray,List.set_cons_zero,List.set_cons_succ]
        refine Aa 16 hHeld ?_
        refine wpAnyH_done (by kernel_rfl) ?_ _
        clear hHeld
        go_wp2_with fail
        go_meet
        exact ⟨_,rfl,rfl,H4.out.1,H4.out.2⟩
      case rest=>
       obtain ⟨q,rfl,rfl,hq,hbc⟩:=hcut
       clear c0 c1 zE hta
       have hbA : Below S w1 wc:=HH.out.2.1.trans (hbc.mono hs1)
       have hrA : Rw S wc 27 4 Dk (.slice oa ol oc) out:=A0 HH.out.1 hbc
       have hs3 : S≤wc.heap.size:=Nat.le_trans hs1 hbc.size
       cases hte : Dc x.1 x.2 with
       | none=>
        have t1 : tkE x=81:=by unfold tkE; rw [hte]
        have hRn:=Ac (show R=(163,[]) by rw [HR.out]; unfold Fh; rw [J4 hmem hte])
        have HF:=Ac (HB.out.trans (hbA.mono (by have:=HS.out; have:=HB.out.size; omega)))
        clear hmem hte hq hbc hbA hrA hs3
        go_wp2
        go_ret2
        rw [hRn.out]
        exact ⟨_,rfl,World.ownsRow_nil _ _ _ _,HF.out⟩
       | some v=>
        have t1 : tkE x=0:=by unfold tkE; rw [hte]
        have t2 : tkV x=(x.1,v):=by unfold tkV; rw [hte]
        rw [t2] at hq
        have y0:=rc (i:=0) hq rfl
        have y1:=rc (i:=1) hq rfl
        have y2:=rc (i:=2) hq rfl
        have y3:=rc (i:=3) hq rfl
        obtain ⟨v5,w5,hrun5,hown5,hgr5,-⟩:=app_ent wc S _ _ (x.1,v) hrA (by omega) (by omega)
        have hbC:=hbA.alloc hs3 (.cells #[.string (Ab x.1), .int .i64 v.1, .string (Ab v.2.1), .int .i64 v.2.2] 27)
        have hbD : Below S w1 w5:=hbC.grown hgr5 (by simp; omega) (fun q hq=>(hrA.lt q hq).1)
        obtain ⟨fa,fm,fc,rfl⟩:=Av hown5
        have H5:=Ac (And.intro hown5 (And.intro hbD (Kg HH.out.2.2.1 hte)))
        clear hq hbc hbA hrA hs3 hown5 hgr5 hbC hbD hmem hte
        go_wp2_with (at_builtin; refine wpList_plain rfl (fun K hK=>Cz (.tmp 57) (.tmp 59) 32 rfl rfl rfl hrun5 (hK _ _ ?_)))
        go_roundw
        case rel=>
         refine ⟨k+1,out ++ [(x.1,v)],by omega,by go_num,?_,by simp; omega,H5.out.1,H5.out.2.1⟩
         rw [HH.out.2.2.2.1]
         exact H5.out.2.2
        case measure=>simp [intOf]; omega
     ·have hkn : k=n:=by omega
      have hlt2 : decide ((k : Int)<(n : Int))=false:=decide_eq_false (by omega)
      have hR2 : R=(0,out):=by
       rw [HR.out]
       unfold Fh
       rw [show ps=ps.take k by rw [hkn,HN.out,List.take_length],htk]
      have HF:=Ac (And.intro (HB.out.trans (hbr.mono (by have:=HS.out; have:=HB.out.size; omega))) (Dh hro (show w.heap.size≤S by have:=HS.out; have:=HB.out.size; omega)))
      clear hro hbr htk hcells
      go_wp2
      go_ret2
      rw [hR2]
      exact ⟨_,rfl,HF.out.2,HF.out.1⟩
end Go.Proofs.YtckejblkppllaaaGreatDoor
namespace Go.Proofs.YtckejblkppllaaaGreatDoor
open Go.RowKit
theorem goE_name {fd : Bs→Option Bs} : ∀ (ns : List Bs) (x : Ent),(∀ n∈ns,n ≠ [])→ns ≠ []→(goE fd ns x).1=0→(goE fd ns x).2.1 ≠ []
 | [],_,_,h,_=>absurd rfl h
 | n :: ns,x,hn,_,h=>by
  rw [goE] at h ⊢
  split
  ·rename_i h1
   rw [if_pos h1] at h
   exact absurd h h1
  ·rename_i h1
   rw [if_neg h1] at h
   by_cases hns : ns = []
   ·subst hns
    rw [goE,Mt (by simpa using h1)]
    exact hn n (List.mem_cons_self ..)
   ·exact goE_name ns _ (fun m hm=>hn m (List.mem_cons_of_mem _ hm)) hns h
theorem entsT_list {fd : Bs→Option Bs} {root at_ : Bs} (h : (Cp fd root at_).1=0) : Dt fd (Cp fd root at_).2=entsT fd (decide (at_ = [])) (Cp fd root at_).2:=by
 have hiff : ((Cp fd root at_).2.1 = [])↔at_ = []:=by
  unfold Cp at h ⊢
  split
  ·rename_i h1
   rw [if_pos h1] at h
   cases h
  ·rename_i h1
   rw [if_neg h1] at h
   by_cases ha : at_ = []
   ·subst ha
    exact ⟨fun _=>rfl,fun _=>rfl⟩
   ·have hp : Pa.Pt.path at_=true:=by simpa using h1
    have hne : Pa.Pt.parts at_ ≠ []:=by
     unfold Pa.Pt.parts
     rw [if_neg ha]
     intro e
     cases at_ with
     | nil=>exact ha rfl
     | cons c t=>
      rw [Pa.Pt.cut] at e
      split at e
      ·cases e
      ·split at e <;> cases e
    refine ⟨fun e=>absurd e (goE_name _ _ (fun n hn e=>?_) hne h),fun e=>absurd e ha⟩
    have:=of_decide_eq_true (I4 hp n hn)
    rw [e] at this
    simp at this
 unfold Dt entsT
 generalize (Cp fd root at_).2=d at *
 by_cases ha : at_ = []
 ·have h1:=hiff.2 ha
  simp [ha,h1]
 ·have h1 : d.1 ≠ []:=fun e=>ha (hiff.1 e)
  simp only [h1,ha,decide_false,true_and,ne_eq,not_false_eq_true]
  have e : (¬ d.2.2.2=((Co fd d.2.2.1 [] []).out.length : Int))=(¬ ((Co fd d.2.2.1 [] []).out.length : Int)=d.2.2.2):=propext ⟨fun h e=>h e.symm,fun h e=>h e.symm⟩
  simp only [e]
set_option maxRecDepth 40000 in
set_option maxHeartbeats 1200000 in
theorem rlist16_any (w : World) (vo : Value) (objs : List Ag) (hv : Ls w.heap.size w 2 Ak vo objs) (hob : ∀ o∈objs,o.2.length≤140737488351232) (root at_ : Bs) (ha : at_.length≤4611686018427387000) :
  Calls Tryz.prog 12 #[vo, .string (Ab root), .string (Ab at_)] w fun e w'=>∃ ve,e = .returned (.tuple #[ve, .int .i64 (listE (Aj objs) root at_).1])∧Rw w.heap.size w' 27 4 Dk ve (listE (Aj objs) root at_).2∧Below w.heap.size w w':=by
 have hfi:=N2 w vo objs hv hob root at_ ha
 obtain ⟨ao,ac,hvo,-⟩:=Dp hv
 have hls:=entsT_list (fd:=Aj objs) (root:=root) (at_:=at_)
 unfold listE
 generalize Cp (Aj objs) root at_=R at *
 obtain ⟨re,x⟩:=R
 simp only at hfi hls ⊢
 have hen:=fun (W : World) (hW : Below w.heap.size w W)=>rentries_any W vo objs ((hv.keep hW).up hW.size) hob x (decide (at_ = []))
 have e0 : (Ab at_).toList=at_:=toL at_
 have eq0 : (at_ == [])=decide (at_ = []):=by cases at_ <;> rfl
 have hemp : (⟨#[]⟩ : ByteArray).toList = []:=toL []
 subst hvo
 clear hv
 by_cases hre : re≠0
 ·rw [if_pos hre]
  have q1 : (re != 0)=true:=by simpa using hre
  clear hls hre hen
  go_enter Tryz.func12,Tryz.ntmps12
  go_wp2_with fail
  refine hfi.mono ?_
  rintro e w1 ⟨rfl,hb1⟩
  have hba:=hb1.alloc hb1.size (.cells zeC 27)
  have hxa:=heap_last w1 (.cells zeC 27) _ rfl
  generalize hwa : w1.alloc (.cells zeC 27)=wa at *
  have n0:=rc (i:=0) hxa rfl
  have n1:=rc (i:=1) hxa rfl
  have n2:=rc (i:=2) hxa rfl
  have n3:=rc (i:=3) hxa rfl
  have f0:=Af (j:=0) hxa
  have f1:=Af (j:=1) hxa
  have f2:=Af (j:=2) hxa
  have f3:=Af (j:=3) hxa
  have HH:=Ac (Cv (w:=w) (.string (Ab x.1)) (.int .i64 x.2.1) (.string (Ab x.2.2.1)) (.int .i64 x.2.2.2) hxa hba hb1.size)
  clear hfi hb1 hba hxa
  go_wp2_with fail
  try rw [hwa]
  go_wp2
  go_ret2
  exact ⟨_,rfl,World.ownsRow_nil _ _ _ _,HH.out.2⟩
 ·rw [if_neg hre]
  obtain rfl : re=0:=by simpa using hre
  have hls2:=hls rfl
  rw [hls2]
  obtain ⟨R2,hR2⟩ : ∃ R2,R2=if x.2.1≠2 then ((161 : Int),([] : List Ent)) else entsT (Aj objs) (decide (at_ = [])) x:=⟨_,rfl⟩
  rw [← hR2]
  have HR2:=Ac hR2
  clear hls hre hls2 hR2
  go_enter Tryz.func12,Tryz.ntmps12
  go_wp2_with fail
  refine hfi.mono ?_
  rintro e w1 ⟨rfl,hb1⟩
  have hba:=hb1.alloc hb1.size (.cells zeC 27)
  have hxa:=heap_last w1 (.cells zeC 27) _ rfl
  generalize hwa : w1.alloc (.cells zeC 27)=wa at *
  have n0:=rc (i:=0) hxa rfl
  have n1:=rc (i:=1) hxa rfl
  have n2:=rc (i:=2) hxa rfl
  have n3:=rc (i:=3) hxa rfl
  have f0:=Af (j:=0) hxa
  have f1:=Af (j:=1) hxa
  have f2:=Af (j:=2) hxa
  have f3:=Af (j:=3) hxa
  obtain ⟨hx4,hb4⟩:=Cv (w:=w) (.string (Ab x.1)) (.int .i64 x.2.1) (.string (Ab x.2.2.1)) (.int .i64 x.2.2.2) hxa hba hb1.size
  go_upto_region 2 with fail
  try rw [hwa]
  generalize ((((wa.setCell ⟨w1.heap.size,0,none⟩ (.string (Ab x.1))).setCell ⟨w1.heap.size,1,none⟩ (.int .i64 x.2.1)).setCell ⟨w1.heap.size,2,none⟩ (.string (Ab x.2.2.1))).setCell ⟨w1.heap.size,3,none⟩ (.int .i64 x.2.2.2))=w4 at *
  clear n0 n1 n2 n3 f0 f1 f2 f3 hxa hba hwa
  have y0:=rc (i:=0) hx4 rfl
  have y1:=rc (i:=1) hx4 rfl
  have y2:=rc (i:=2) hx4 rfl
  have y3:=rc (i:=3) hx4 rfl
  have hen4:=hen w4 hb4
  have HB:=Ac hb4
  clear hfi hen hx4 hb1 hb4
  by_cases hk : x.2.1≠2
  ·have q1 : (x.2.1 != 2)=true:=by simpa using hk
   have hR : R2=(161,[]):=by rw [HR2.out,if_pos hk]
   clear hk hen4
   go_wp2
   go_ret2
   rw [hR]
   exact ⟨_,rfl,World.ownsRow_nil _ _ _ _,HB.out⟩
  ·have q1 : (x.2.1 != 2)=false:=by simpa using hk
   have hR : R2=entsT (Aj objs) (decide (at_ = [])) x:=by rw [HR2.out,if_neg hk]
   rw [← hR] at hen4
   clear hk hR HR2
   generalize decide (at_ = [])=b at *
   go_wp2_with fail
   try rw [eq0]
   refine hen4.mono ?_
   rintro e w5 ⟨ve,rfl,hrow,hb5⟩
   obtain ⟨va,vm,vc,rfl⟩:=Av hrow
   have HF:=Ac (And.intro (Dh hrow HB.out.size) (HB.out.trans (hb5.mono HB.out.size)))
   clear hen4 hrow hb5 y0 y1 y2 y3
   go_wp2
   go_ret2
   exact ⟨_,rfl,HF.out.1,HF.out.2⟩
end Go.Proofs.YtckejblkppllaaaGreatDoor
