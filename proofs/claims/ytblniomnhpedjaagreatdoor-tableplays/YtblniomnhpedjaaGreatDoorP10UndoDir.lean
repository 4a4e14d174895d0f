/-
  Texts joined: UndoDir, TRows, TRows2, TDo.
-/
import Derived.Test.YtblniomnhpedjaaGreatDoorP9Rename
import Derived.Test.YtblniomnhpedjaaGreatDoorP1Chg
namespace Go.Proofs.YtblniomnhpedjaaGreatDoor
open Go.RowKit
def Hg (w : World) (b r : Nat) : Nat:=match w.heap[r]?,w.heap[b]? with
 | some (.mapIter _ _ seen _),some (.map es _)=>(leftOf es seen).size
 | _,_=>0
theorem Ca.len {w : World} {b r : Nat} {rest : List (Value × Value)} (h : Ca w b r rest) : Hg w b r=rest.length:=by
 obtain ⟨es,ck,seen,c0,a1,a2,a3,a4,a5⟩:=h
 unfold Hg
 rw [a3,a1]
 simp only
 rw [← a5.length_eq,List.length_map,Array.length_toList]
theorem Ca.perm {w : World} {b r : Nat} {l l' : List (Value × Value)} (h : Ca w b r l) (hp : l.Perm l') : Ca w b r l':=by
 obtain ⟨es,ck,seen,c0,a1,a2,a3,a4,a5⟩:=h
 exact ⟨es,ck,seen,c0,a1,a2,a3,a4,a5.trans hp⟩
theorem Jo {fb : Nat→Nat} {rl : Dir} {k v : Value} {rest : List (Value × Value)} (h : (dv fb rl).Perm ((k,v) :: rest)) :
  ∃ n f rl',rl.Perm ((n,f) :: rl')∧k = .string (Ae n)∧v = .pointer (some ⟨fb f,0,none⟩)∧rest.Perm (dv fb rl'):=by
 have hm : (k,v)∈dv fb rl:=h.mem_iff.2 List.mem_cons_self
 obtain ⟨⟨n,f⟩,hp,e⟩:=List.mem_map.1 hm
 injection e with e1 e2
 have h1 : rl.Perm ((n,f) :: rl.erase (n,f)):=List.perm_cons_erase hp
 refine ⟨n,f,rl.erase (n,f),h1,e1.symm,e2.symm,?_⟩
 have h2 : (dv fb rl).Perm ((.string (Ae n), .pointer (some ⟨fb f,0,none⟩)) :: dv fb (rl.erase (n,f))):=h1.map _
 have h3:=h.symm.trans h2
 rw [← e1,← e2] at h3
 exact List.perm_cons (a:=(Value.string (Ae n),Value.pointer (some ⟨fb f,0,none⟩))) |>.1 h3
theorem used_pick {files : List Fl} {rl rl' : Dir} {n : Nm} {f : Nat} (h : rl.Perm ((n,f) :: rl')) : A1 files rl=Az files f+A1 files rl':=by
 unfold A1
 rw [Il (h.map fun p : Nm × Nat=>Az files p.2)]
 rfl
theorem ids_pick {rl rl' : Dir} {n : Nm} {f : Nat} (h : rl.Perm ((n,f) :: rl')) (hn : (ids rl).Nodup) : (ids rl').Nodup∧f ∉ ids rl'∧∀ i,i∈ids rl↔i=f∨i∈ids rl':=by
 have hp : (ids rl).Perm (f :: ids rl'):=h.map fun p : Nm × Nat=>p.2
 have h2:=(hp.nodup_iff).1 hn
 rw [List.nodup_cons] at h2
 exact ⟨h2.2,h2.1,fun i=>by rw [hp.mem_iff,List.mem_cons]⟩
section
variable {w w' : World} {F : Nat→Prop} {d : Nat} {S : Dk} {G : Gh}
structure Mid (w : World) (d : Nat) (S : Dk) (G : Gh) (now : Option Nat) (u : Nat) (N : Nat→Bool) (wr : World) : Prop where
 disk : wr.heap[d]? = some (.cells #[.int .i64 (S.room : Int), .int .i64 (u : Int), .map now, .map G.sure,G.lv, .int .i64 (S.n : Int), .bool S.cut.isSome, .int .i64 G.cv, .map G.fls] 89)
 files : ∀ i,S.known i→wr.heap[G.fb i]? = some (.cells #[G.rv i,G.sv i, .bool (N i)] 118)
 chg : Chg (fun k=>k=d ∨ ∃ i,S.known i∧k=G.fb i) w wr
theorem Mid.file {now : Option Nat} {u : Nat} {N : Nat→Bool} {wr : World} (h : Rep w F d S G) (m : Mid w d S G now u N wr) {i : Nat} (hi : S.live i) :
  ∃ ra rc,G.rv i = .slice ra (Az S.files i) rc∧wr.heap[G.fb i]? = some (.cells #[.slice ra (Az S.files i) rc,G.sv i, .bool (N i)] 118):=by
 obtain ⟨x,hx⟩ : ∃ x,S.files[i]? = some x:=⟨_,List.getElem?_eq_getElem (h.ok.liveLt hi)⟩
 obtain ⟨b1,b2,b3⟩:=h.bytes i x hi hx
 obtain ⟨ra,rc,hrv⟩:=Do b2
 have e : Az S.files i=x.b.length:=by simp [Az,hx]
 refine ⟨ra,rc,by rw [e]; exact hrv,?_⟩
 rw [e,← hrv]
 exact m.files i (Or.inl hi)
theorem Mid.name {now : Option Nat} {u u' : Nat} {N : Nat→Bool} {b : Bool} {wr w2 : World} (h : Rep w F d S G) (m : Mid w d S G now u N wr) {f : Nat} (hf : S.live f)
  (hd2 : w2.heap[d]? = some (.cells #[.int .i64 (S.room : Int), .int .i64 (u' : Int), .map now, .map G.sure,G.lv, .int .i64 (S.n : Int), .bool S.cut.isSome, .int .i64 G.cv, .map G.fls] 89))
  (hf2 : w2.heap[G.fb f]? = some (.cells #[G.rv f,G.sv f, .bool b] 118)) (hc : Chg (fun k=>k=d∨k=G.fb f) wr w2) : Mid w d S G now u' (fun i=>if i=f then b else N i) w2 where
 disk:=hd2
 files i hi:=by
  by_cases e : i=f
  ·subst e
   rw [if_pos rfl]
   exact hf2
  ·rw [if_neg e]
   refine hc.keep (m.files i hi) (fun e2=>?_)
   rcases e2 with e2 | e2
   ·exact h.ne_file hi e2.symm
   ·exact e (h.inj i f hi (Or.inl hf) e2)
 chg:=m.chg.then (hc.mono fun k _ e=>e.elim Or.inl fun e=>Or.inr ⟨f,Or.inl hf,e⟩)
theorem Mid.keep {X : Nat→Prop} {now : Option Nat} {u : Nat} {N : Nat→Bool} {wr w2 : World} (h : Rep w F d S G) (m : Mid w d S G now u N wr) (hc : Chg X wr w2) (hX : ∀ k,X k→w.heap.size≤k) : Mid w d S G now u N w2 where
 disk:=hc.keep m.disk (fun e=>Nat.not_lt_of_le (hX _ e) h.lt)
 files i hi:=hc.keep (m.files i hi) (fun e=>Nat.not_lt_of_le (hX _ e) (At (h.files i hi).2))
 chg:=m.chg.trans hc (fun i hi e=>absurd hi (Nat.not_lt_of_le (hX i e)))
theorem Mid.congr {now : Option Nat} {u u' : Nat} {N N' : Nat→Bool} {wr : World} (m : Mid w d S G now u N wr) (hu : u=u') (hN : ∀ i,S.known i→N i=N' i) : Mid w d S G now u' N' wr where
 disk:=hu ▸ m.disk
 files i hi:=hN i hi ▸ m.files i hi
 chg:=m.chg
theorem Mid.size {now : Option Nat} {u : Nat} {N : Nat→Bool} {wr : World} (m : Mid w d S G now u N wr) : w.heap.size≤wr.heap.size:=m.chg.size
theorem Kz {S : Dk} {rl : Dir} (hn : (ids rl).Nodup) : A1 S.files rl≤S.bulk:=by
 have h1:=lens_le S.files (ids rl) hn
 have e : A1 S.files rl=((ids rl).map (Az S.files)).sum:=by
  unfold A1 ids
  rw [List.map_map]
  rfl
 rw [e]
 unfold Dk.bulk
 omega
set_option maxRecDepth 20000 in
set_option maxHeartbeats 1600000 in
theorem undoDir_rep (h : Rep w F d S G) {bn : Nat} (hnow : G.now=some bn) (hb : S.bulk<1099511627776) :
  Calls Tryz.prog 162 #[.pointer (some ⟨d,0,none⟩)] w fun e w'=>e = .returned (.tuple #[])∧(∃ G',Rep w' (Fx F w w') d S.undoD G')∧Chg F w w':=by
 obtain ⟨bs,hbs⟩ : ∃ bs,G.sure=some bs:=Option.ne_none_iff_exists'.1 fun e=>by
  have:=h.both.2 e
  rw [hnow] at this
  cases this
 have hmn:=h.now
 rw [hnow] at hmn
 have hms:=h.sure
 rw [hbs] at hms
 have hd:=h.disk
 unfold B9 at hd
 have x2:=Ad hd 2
 rw [hnow] at x2
 obtain ⟨w1,hrun1,hgo1,hch1,hsz1⟩:=Ca.start hmn.2 Tryz.underlying85
 have hm0 : Mid w d S G (some bn) (A1 S.files S.dir) (fun i=>decide (i∈ids S.dir)) w1:=
  ⟨hnow ▸ hch1.keep hd (fun h=>h),fun i hi=>hch1.keep (h.files i hi).2 (fun h=>h),hch1.mono fun _ _ h=>h.elim⟩
 have hnd : ∀ i,S.known i→G.fb i≠bn:=fun i hi e=>hmn.2.ne (h.files i hi).2 e
 have hnd2 : d≠bn:=hmn.2.ne h.disk
 have HGO1:=Ab hgo1
 have HM0:=Ab hm0
 have H:=Ab h
 have HMN:=Ab hmn
 have HMS:=Ab hms
 have HND:=Ab hnd
 clear hgo1 hm0 h hmn hms hnd hd hch1
 go_enter Tryz.func162,Tryz.ntmps162
 go_wp2_with fail
 go_loopw [11] (fun _ wr=>∃ rl : Dir,(ids rl).Nodup∧(∀ i∈ids rl,S.live i)∧Ca wr bn w.heap.size (dv G.fb rl)∧Mid w d S G (some bn) (A1 S.files rl) (fun i=>decide (i∈ids rl)) wr) (fun _ wr=>Hg wr bn w.heap.size)
 case atStart=>exact ⟨S.dir,H.out.ok.oneD,fun i hi=>Dx H.out.ok hi,HGO1.out,HM0.out⟩
 case round=>
  obtain ⟨rl,hrn,hrl,hgo,hmid⟩:=hrel
  rcases hgo.step (P:=Tryz.prog) 0 with ⟨hr0,hnext⟩ | ⟨k,v,rest,w2,hperm,hnext,hentry,hgo2,hc2,hs2⟩
  ·have hrl0 : rl = []:=List.map_eq_nil_iff.1 hr0
   subst hrl0
   have hu0 : A1 S.files []=0:=rfl
   rw [hu0] at hmid
   have hsb : Ak wr bs (dv G.fb S.sure):=HMS.out.2.keep hmid.chg (fun e=>by
    rcases e with e | ⟨i,hi,e⟩
    ·exact HMS.out.2.ne H.out.disk e.symm
    ·exact HMS.out.2.ne (H.out.files i hi).2 e.symm)
   have hcl:=Ow wr bs _ hsb
   have hdm:=hmid.disk
   rw [hbs] at hdm
   have y3:=Ad hdm 3
   have HMID:=Ab hmid
   have HDM:=Ab hdm
   have HSB:=Ab hsb
   have hws:=hgo.lt
   clear hgo hmid hr0 hrn hrl hsb hdm HGO1 HM0 x2 hrun1 hsz1
   go_wp2_with fail
   refine hcl.mono ?_
   rintro e w4 ⟨rfl,hm4,hc4⟩
   obtain ⟨cl,hcle⟩ : ∃ cl,cl=wr.heap.size:=⟨_,rfl⟩
   rw [← hcle] at hm4 hws ⊢
   have hd4:=hc4.keep HDM.out (fun h=>h)
   have z2:=Av hd4 2
   have a2:=Ad hd4 2
   have hcd : cl≠d:=fun e=>hm4.ne hd4 e.symm
   have hm5 : Ak (w4.setCell ⟨d,2,none⟩ (.map (some cl))) cl (dv G.fb S.sure):=hm4.keep (Cb w4 d 2 _) hcd
   have hd5:=A0 hd4 2 (.map (some cl))
   obtain ⟨w6,hrun6,hgo6,hch6,hsz6⟩:=Ca.start hm5 Tryz.underlying85
   have hmid6 : Mid w d S G (some cl) 0 (fun _=>false) w6:=
    ⟨hch6.keep (hbs ▸ hd5) (fun h=>h),fun i hi=>hch6.keep (Cy (hc4.keep (HMID.out.files i hi) (fun h=>h)) (fun e=>H.out.ne_file hi e.symm)) (fun h=>h),
     ((HMID.out.chg.then (hc4.mono fun _ _ h=>h.elim)).setCell (p:=⟨d,2,none⟩) (Or.inl (Or.inl rfl)) _).then (hch6.mono fun _ _ h=>h.elim)⟩
   have hm6:=hm5.keep hch6 (fun h=>h)
   have a5:=Ad hd5 2
   obtain ⟨r2,hr2⟩ : ∃ r2,r2=(w4.setCell ⟨d,2,none⟩ (.map (some cl))).heap.size:=⟨_,rfl⟩
   rw [← hr2] at hrun6 hgo6
   have hr2w : w.heap.size≤r2:=by
    rw [hr2]
    have h1:=HMID.out.size
    have h2:=hc4.size
    simp [World.setCell]
    omega
   have hcr : cl≠r2:=hgo6.ne_map
   have hclw : w.heap.size≤cl:=by omega
   have HG6:=Ab hgo6
   have HM6:=Ab hm6
   have HMID6:=Ab hmid6
   have HCLE:=Ab hcle
   clear hgo6 hm6 hmid6 hm5 hd5 hd4 hm4 hc4 hch6 HMID HDM HSB hcl y3 hr2 hcle hsz6
   go_wp2_with fail
   go_loopw [31] (fun _ wr=>∃ (rl : Dir) (u : Nat),(ids rl).Nodup∧(∀ i∈ids rl,i∈ids S.sure)∧Ca wr cl r2 (dv G.fb rl)∧Ak wr cl (dv G.fb S.sure)∧u+A1 S.files rl=A1 S.files S.sure∧Mid w d S G (some cl) u (fun i=>decide (i∈ids S.sure∧i ∉ ids rl)) wr) (fun _ wr=>Hg wr cl r2)
   case atStart=>exact ⟨S.sure,0,(List.nodup_append.1 H.out.ok.one).1,fun _ h=>h,HG6.out,HM6.out,Nat.zero_add _,HMID6.out.congr rfl (fun i _=>by simp)⟩
   case round=>
    obtain ⟨rl,u,hrn,hrl,hgo,hmw,huu,hmid⟩:=hrel
    rcases hgo.step (P:=Tryz.prog) 0 with ⟨hr0,hnext2⟩ | ⟨k,v,rest,w7,hperm,hnext2,hentry,hgo7,hc7,hs7⟩
    ·have hrl0 : rl = []:=List.map_eq_nil_iff.1 hr0
     subst hrl0
     have hu1 : u=A1 S.files S.sure:=by
      have e : A1 S.files []=0:=rfl
      omega
     have hmid2 : Mid w d S G (some cl) (A1 S.files S.sure) (fun i=>decide (i∈ids S.sure)) wr:=hmid.congr hu1 (fun i _=>decide_eq_decide.2 ⟨fun h=>h.1,fun h=>⟨h,fun e=>by cases e⟩⟩)
     have hlow : ∀ {o : Option Nat} {l : List (Value × Value)},Be w F o l→o≠some cl:=fun {o l} hm e=>by
      rw [e] at hm
      exact Nat.not_lt_of_le hclw hm.2.lt
     have hfin:=H.out.finish hb (D:=S.sure) (now:=some cl) (sure:=G.sure) (fun i hi=>Or.inl hi) H.out.ok.undoD (hmid2.chg.mono fun k _ e=>e.elim Or.inl fun e=>Or.inr (Or.inr (Or.inr e))) hmid2.disk
      ⟨Or.inr ⟨hclw,hmw.lt⟩,hmw⟩
      (H.out.sure.keep hmid2.chg (fun b e e2=>by
       have hm:=H.out.sure
       rw [e] at hm
       rcases e2 with e2 | ⟨i,hi,e2⟩
       ·exact hm.2.ne H.out.disk e2.symm
       ·exact hm.2.ne (H.out.files i hi).2 e2.symm) (fun _ h=>Or.inl h))
      (by rw [hbs]; simp)
      (fun b e=>by
       injection e with e
       subst e
       obtain ⟨l,g1,_⟩:=H.out.fails
       exact ⟨hlow H.out.sure,hlow g1⟩)
      H.out.three (fun e=>by cases e) hmid2.files
     clear hmid hmid2 hgo hmw hr0 hrn hrl huu hu1 hlow
     go_wp2_with (first
      | (go_at_call 160; refine hfin.mono ?_; rintro e w8 ⟨rfl,hforget⟩)
      | (go_at_call 167; refine hforget.mono ?_; rintro e w9 ⟨rfl,q5,q6⟩))
     go_end0
     exact ⟨rfl,q5,q6⟩
    ·obtain ⟨n,f,rl',hp1,rfl,rfl,hp2⟩:=Jo hperm
     obtain ⟨i1,i2,i3⟩:=ids_pick hp1 hrn
     have hfs : f∈ids S.sure:=hrl f ((i3 f).2 (Or.inl rfl))
     have hlf : S.live f:=Or.inl hfs
     have hm7 : Mid w d S G (some cl) u (fun i=>decide (i∈ids S.sure∧i ∉ ids rl)) w7:=hmid.keep H.out hc7 (fun k e=>by rw [e]; exact hr2w)
     obtain ⟨ra,rc,hrv,hfile⟩:=hm7.file H.out hlf
     have hup:=used_pick (files:=S.files) hp1
     have hul:=Kz (S:=S) (rl:=S.sure) (List.nodup_append.1 H.out.ok.one).1
     have hlen:=hgo.len
     have hdf : d≠G.fb f:=H.out.ne_file (Or.inl hlf)
     have hflt:=At (H.out.files f (Or.inl hlf)).2
     have hdlt:=H.out.lt
     have hne1 : ¬ (cl=d∨cl=G.fb f):=fun e=>by rcases e with e | e <;> omega
     have hne2 : ¬ (r2=d∨r2=G.fb f):=fun e=>by rcases e with e | e <;> omega
     have hd7:=hm7.disk
     have b0:=Ad hfile 0
     have b2:=Ad hfile 2
     have t2:=Av hfile 2
     have HF7:=Ab hfile
     have HD7:=Ab hd7
     have HLEN:=Ab hlen
     have HM7:=Ab hm7
     have HMW:=Ab (hmw.keep hc7 hcr)
     have HGO:=Ab (hgo7.perm hp2)
     have HUP:=Ab hup
     have HPL:=Ab hp1.length_eq
     have HUU:=Ab huu
     have hle : u+Az S.files f<1099511627776:=by omega
     clear hlen hm7 hgo7 hgo hmid hfile hperm hp2 hup hmw hd7 huu
     go_wp2_with fail
     have hcA : Chg (fun k=>k=d∨k=G.fb f) w7 (w7.setCell ⟨G.fb f,2,none⟩ (.bool true)):=(Chg.refl _ _).setCell (p:=⟨G.fb f,2,none⟩) (Or.inl (Or.inr rfl)) _
     have hdA:=Cy (p:=⟨G.fb f,2,none⟩) (u:=.bool true) HD7.out hdf
     have hfA:=A0 HF7.out 2 (.bool true)
     generalize w7.setCell ⟨G.fb f,2,none⟩ (.bool true)=wA at *
     have c0:=Ad hfA 0
     have c1:=Ad hdA 1
     have s1:=Av hdA 1
     have HFA:=Ab hfA
     have HDA:=Ab hdA
     have HCA:=Ab hcA
     clear hfA hdA hcA
     go_region
     have hB : Chg (fun k=>k=d∨k=G.fb f) w7 (wA.setCell ⟨d,1,none⟩ (.int .i64 ((u : Int)+(Az S.files f : Int)))).drew:=(HCA.out.setCell (p:=⟨d,1,none⟩) (Or.inl (Or.inl rfl)) _).drew
     have hdB : (wA.setCell ⟨d,1,none⟩ (.int .i64 ((u : Int)+(Az S.files f : Int)))).drew.heap[d]? = _:=A0 HDA.out 1 (.int .i64 ((u : Int)+(Az S.files f : Int)))
     have hfB : (wA.setCell ⟨d,1,none⟩ (.int .i64 ((u : Int)+(Az S.files f : Int)))).drew.heap[G.fb f]? = _:=Cy (p:=⟨d,1,none⟩) (u:=.int .i64 ((u : Int)+(Az S.files f : Int))) HFA.out (fun e=>hdf e.symm)
     generalize (wA.setCell ⟨d,1,none⟩ (.int .i64 ((u : Int)+(Az S.files f : Int)))).drew=wB at *
     have HB:=Ab hB
     have HDB:=Ab hdB
     have HFB:=Ab hfB
     have hgo8:=HGO.out.keep HB.out hne1 hne2
     have HG8:=Ab hgo8
     clear hB hdB hfB hgo8
     go_wp2_with fail
     go_roundw
     case rel=>
      refine ⟨rl',u+Az S.files f,i1,fun i hi=>hrl i ((i3 i).2 (Or.inr hi)),HG8.out,HMW.out.keep HB.out hne1,?_,(HM7.out.name H.out hlf (u':=u+Az S.files f) (b:=true) ?_ ?_ HB.out).congr rfl (fun i _=>?_)⟩
      ·have:=HUU.out
       have:=HUP.out
       omega
      ·exact HDB.out
      ·rw [hrv]
       exact HFB.out
      ·by_cases e : i=f
       ·subst e
        simp [i2,hfs]
       ·simp [e,i3]
     case measure=>
      rw [HG8.out.len,HLEN.out]
      have:=HPL.out
      simp [dv,this]
  ·obtain ⟨n,f,rl',hp1,rfl,rfl,hp2⟩:=Jo hperm
   obtain ⟨i1,i2,i3⟩:=ids_pick hp1 hrn
   have hlf : S.live f:=hrl f ((i3 f).2 (Or.inl rfl))
   have hm2 : Mid w d S G (some bn) (A1 S.files rl) (fun i=>decide (i∈ids rl)) w2:=hmid.keep H.out hc2 (fun k e=>Nat.le_of_eq e.symm)
   obtain ⟨ra,rc,hrv,hfile⟩:=hm2.file H.out hlf
   have hup:=used_pick (files:=S.files) hp1
   have hul:=Kz (S:=S) hrn
   have hun:=Ot w2 d (G.fb f) (Az S.files f) rc ra _ _ _ _ _ _ _ _ _ _ ((A1 S.files rl : Nat) : Int) hm2.disk hfile (by omega) (by omega)
   have hlen:=hgo.len
   have hne1 : ¬ (bn=d∨bn=G.fb f):=fun e=>e.elim (fun e=>hnd2 e.symm) (fun e=>HND.out f (Or.inl hlf) e.symm)
   have hne2 : ¬ (w.heap.size=d∨w.heap.size=G.fb f):=fun e=>e.elim (fun e=>Nat.ne_of_gt H.out.lt e) (fun e=>Nat.ne_of_gt (At (H.out.files f (Or.inl hlf)).2) e)
   have hgo3:=hgo2.perm hp2
   have hpl:=hp1.length_eq
   have HLEN:=Ab hlen
   have HM2:=Ab hm2
   have HGO:=Ab hgo3
   have HUP:=Ab hup
   clear hlen hm2 hgo2 hgo3 hgo hmid hfile hperm hp2 hup
   go_wp2_with (go_at_call 146; refine hun.mono ?_; rintro e w3 ⟨rfl,u1,u2,u3,_⟩; have HU1:=Ab u1; have HU2:=Ab u2; have HU3:=Ab u3; clear u1 u2 u3)
   have hgo4:=HGO.out.keep HU3.out hne1 hne2
   go_roundw
   case rel=>
    refine ⟨rl',i1,fun i hi=>hrl i ((i3 i).2 (Or.inr hi)),hgo4,(HM2.out.name H.out hlf (u':=A1 S.files rl') (b:=false) ?_ ?_ HU3.out).congr rfl (fun i _=>?_)⟩
    ·have e : (A1 S.files rl : Int) - (Az S.files f : Int)=((A1 S.files rl' : Nat) : Int):=by rw [HUP.out]; omega
     rw [← e]
     exact HU1.out
    ·rw [hrv]
     exact HU2.out
    ·by_cases e : i=f
     ·subst e
      simp [i2]
     ·simp [e,i3]
   case measure=>
    rw [hgo4.len,HLEN.out]
    simp [dv,hpl]
end
end Go.Proofs.YtblniomnhpedjaaGreatDoor
namespace Go.Proofs.YtblniomnhpedjaaGreatDoor
open Go.RowKit
def rv (l : List Af) : List (Value × Value):=l.map fun x=>(.string (Ae x.1), .agg #[.string (Ae x.1), .string (Ae x.2)])
theorem Ie (l : List Af) : ∀ p∈rv l,KStr p.1:=by
 intro p hp
 obtain ⟨x,-,rfl⟩:=List.mem_map.1 hp
 exact ⟨_,rfl⟩
theorem rv_ne {l : List Af} {k : Bs} (h : ∀ x∈l,x.1≠k) : ∀ p∈rv l,p.1 ≠ .string (Ae k):=by
 intro p hp e
 obtain ⟨x,hx,rfl⟩:=List.mem_map.1 hp
 injection e with e
 exact h x hx (strB_inj e)
theorem rv_mid (a b : List Af) (x : Af) : (rv (a++x :: b)).Perm ((.string (Ae x.1), .agg #[.string (Ae x.1), .string (Ae x.2)]) :: rv (a++b)):=List.perm_middle.map _
theorem zeroPair (w : World) : (zeroValue 75).run Tryz.prog w = .ok (.agg #[.string ⟨#[]⟩, .string ⟨#[]⟩]) w:=Tryz.zeroValue75 w
structure RowsAt (w : World) (g b : Nat) (l : List Af) : Prop where
 cells : w.heap[g]? = some (.cells #[.map (some b), .int .i64 (Ag l)] 97)
 map : Ak w b (rv l)
 rises : Bn l
theorem RowsAt.ne {w : World} {g b : Nat} {l : List Af} (h : RowsAt w g b l) : g≠b:=h.map.ne h.cells
theorem RowsAt.keep {F : Nat→Prop} {w w' : World} {g b : Nat} {l : List Af} (h : RowsAt w g b l) (hc : Chg F w w') (hg : ¬ F g) (hb : ¬ F b) : RowsAt w' g b l:=⟨hc.keep h.cells hg,h.map.keep hc hb,h.rises⟩
theorem weigh_any (w : World) (x : Af) (h1 : x.1.length≤140737488355328) (h2 : x.2.length≤140737488355328) :
  Calls Tryz.prog 99 #[.agg #[.string (Ae x.1), .string (Ae x.2)]] w fun e w'=>e = .returned (.int .i64 ((16+x.1.length+x.2.length : Nat) : Int))∧w'=w.alloc (.cells #[.string (Ae x.1), .string (Ae x.2)] 75):=by
 have s1:=B1 x.1
 have s2:=B1 x.2
 have q1 : IntKind.i64.wrap (16+(x.1.length : Int))=16+(x.1.length : Int):=by simp [IntKind.wrap,IntKind.bits,IntKind.signed]; omega
 have q2 : IntKind.i64.wrap (16+(x.1.length : Int)+(x.2.length : Int))=16+(x.1.length : Int)+(x.2.length : Int):=by simp [IntKind.wrap,IntKind.bits,IntKind.signed]; omega
 go_enter Tryz.func99,Tryz.ntmps99
 go_wp2
 go_ret
 refine ⟨?_,rfl⟩
 simp
theorem Cl (w : World) (o : Obj) : Chg (fun _=>False) w (w.alloc o):=(Chg.refl _ w).alloc o
abbrev prO (x : Af) : Obj:=.cells #[.string (Ae x.1), .string (Ae x.2)] 75
theorem look_key {w : World} {b : Nat} {l : List Af} (h : Ak w b (rv l)) {key : Bs} (hn : ∀ x∈l,x.1≠key) : (Instr.lookup 95 (.map (some b)) (.string (Ae key)) true).run Tryz.prog w = .ok (.tuple #[.agg #[.string ⟨#[]⟩, .string ⟨#[]⟩], .bool false]) w:=
 h.look_none (kstr w) (Ie l) Tryz.underlying95 ⟨_,rfl⟩ (rv_ne hn) (zeroPair w) true
theorem look_pair {w : World} {b : Nat} {l a c : List Af} (h : Ak w b (rv l)) (x : Af) (e : l=a++x :: c) : (Instr.lookup 95 (.map (some b)) (.string (Ae x.1)) true).run Tryz.prog w = .ok (.tuple #[.agg #[.string (Ae x.1), .string (Ae x.2)], .bool true]) w:=by
 subst e
 exact (h.perm (rv_mid a c x)).look (kstr w) (Ie _) Tryz.underlying95 ⟨_,rfl⟩ true
set_option maxRecDepth 20000 in
set_option maxHeartbeats 800000 in
theorem take_any (w : World) (g b : Nat) (l : List Af) (h : RowsAt w g b l) (key : Bs) (hw : Ag l≤140737488355328) :
  Calls Tryz.prog 80 #[.pointer (some ⟨g,0,none⟩), .string (Ae key)] w fun e w'=>e = .returned (.tuple #[])∧RowsAt w' g b (Dv l key)∧Chg (fun k=>k=g∨k=b) w w':=by
 obtain ⟨a,c,hne,he,hl⟩:=Nj h.rises key
 have hrl:=less_rises h.rises key
 have c0:=Ad h.cells 0
 have c1:=Ad h.cells 1
 simp only [List.getElem?_toArray,List.getElem?_cons_zero,List.getElem?_cons_succ] at c0 c1
 have H:=Ab h
 rcases hl with hl | ⟨v,hl⟩
 ·have hlk:=look_key h.map (key:=key) (by rw [hl]; exact hne)
  have hle : Dv l key=l:=he.trans hl.symm
  rw [hle]
  have HC:=Ab (Cl w (.cells #[.string ⟨#[]⟩, .string ⟨#[]⟩] 75))
  clear h hl he hne hrl hle
  go_enter Tryz.func80,Tryz.ntmps80
  go_wp2
  go_end0
  exact ⟨rfl,H.out.keep HC.out (fun h=>h) (fun h=>h),HC.out.mono fun _ _ h=>h.elim⟩
 ·have hlk:=look_pair h.map (key,v) hl
  have hwt : Ag l=16+key.length+v.length+Ag (Dv l key):=by
   rw [he,hl,Md (List.perm_middle : (a++(key,v) :: c).Perm ((key,v) :: (a++c))),Ik]
  have hkl : key.length≤140737488355328∧v.length≤140737488355328:=by omega
  have hwg:=fun W=>weigh_any W (key,v) hkl.1 hkl.2
  obtain ⟨wl,hwl⟩ : ∃ wl,wl=Ag l:=⟨_,rfl⟩
  obtain ⟨wn,hwn⟩ : ∃ wn,wn=Ag (Dv l key):=⟨_,rfl⟩
  obtain ⟨wx,hwx⟩ : ∃ wx,wx=16+(key,v).1.length+(key,v).2.length:=⟨_,rfl⟩
  rw [← hwx] at hwg
  have hcl:=h.cells
  rw [← hwl] at hcl c1 hw
  have hsub : IntKind.i64.wrap ((wl : Int) - (wx : Int))=(wn : Int):=by
   have h3 : wl=wx+wn:=by rw [hwl,hwn,hwx]; exact hwt
   rw [show (wl : Int) - (wx : Int)=(wn : Int) by omega]
   simp [IntKind.wrap,IntKind.bits,IntKind.signed]
   omega
  have HN:=Ab (And.intro hwn hwl)
  have hV1:=Cl w (prO (key,v))
  have hVg:=Au w (prO (key,v))
  have hVr:=hV1.keep hcl (fun h=>h)
  obtain ⟨V,hV⟩ : ∃ V,w.alloc (prO (key,v))=V:=⟨_,rfl⟩
  rw [hV] at hV1 hVg hVr
  have x0:=Ad hVg 0
  have x1:=Ad hVg 1
  have r1:=Ad hVr 1
  simp only [List.getElem?_toArray,List.getElem?_cons_zero,List.getElem?_cons_succ] at x0 x1 r1
  have hV2:=hV1.trans (Cl V.drew (prO (key,v))).undrew (fun _ _ h=>h)
  have hUr:=(Cl V.drew (prO (key,v))).keep (show V.drew.heap[g]? = _ from hVr) (fun h=>h)
  have hUg:=(Cl V.drew (prO (key,v))).keep (show V.drew.heap[w.heap.size]? = _ from hVg) (fun h=>h)
  have hgl:=At hcl
  have hbl:=h.map.lt
  have hgb:=h.ne
  obtain ⟨U,hU⟩ : ∃ U,V.drew.alloc (prO (key,v))=U:=⟨_,rfl⟩
  rw [hU] at hV2 hUr hUg
  have u1:=Ad hUr 1
  have y0:=Ad hUg 0
  have y1:=Ad hUg 1
  simp only [List.getElem?_toArray,List.getElem?_cons_zero,List.getElem?_cons_succ] at u1 y0 y1
  have u2:=Av hUr 1
  have hX:=A0 hUr 1 (.int .i64 (wn : Int))
  have hXc : Chg (fun k=>k=g∨k=b) w (U.setCell ⟨g,1,none⟩ (.int .i64 (wn : Int))):=(hV2.mono fun _ _ h=>h.elim).setCell (.inl (.inl rfl)) _
  have hXg:=Cy (p:=⟨g,1,none⟩) (u:=.int .i64 (wn : Int)) hUg (by simp; omega)
  have hXm : Ak (U.setCell ⟨g,1,none⟩ (.int .i64 (wn : Int))) b (rv l):=h.map.same ((Below.heap_setCell _ _ _ _ (by simp; omega)).trans (hV2.block b hbl (fun h=>h)))
  obtain ⟨X,hXe⟩ : ∃ X,U.setCell ⟨g,1,none⟩ (.int .i64 (wn : Int))=X:=⟨_,rfl⟩
  rw [hXe] at hX hXc hXg hXm
  simp only [List.setIfInBounds_toArray,List.set_cons_zero,List.set_cons_succ] at hX
  have z0:=Ad hXg 0
  have z1:=Ad hXg 1
  have m0:=Ad hX 0
  simp only [List.getElem?_toArray,List.getElem?_cons_zero,List.getElem?_cons_succ] at z0 z1 m0
  rw [hl] at hXm
  obtain ⟨W4,hdel,hm4,hc4,hs4⟩:=Ak.drop_old (x:=.string (Ae key)) (l:=rv (a++c)) (hXm.perm (rv_mid a c (key,v))) (kstr X) (Ie _) Tryz.underlying95 ⟨_,rfl⟩ 0 9
  have HF : Hid (RowsAt W4 g b (Dv l key)∧Chg (fun k=>k=g∨k=b) w W4):=Ab ⟨⟨by rw [← HN.out.1]; exact hc4.keep hX hgb,by rw [he]; exact hm4,hrl⟩,hXc.then (hc4.mono fun _ _ h=>.inr h)⟩
  clear hwt hl he hne hrl h hwn hwl hwx hV1 hVg hVr hV2 hUr hUg hX hXc hXg hXm hm4 hc4 hs4 hcl hkl
  go_enter Tryz.func80,Tryz.ntmps80
  go_wp2_with fail
  refine wp_region_held_drew (S:=fun W=>W.cell? ⟨w.heap.size,0,none⟩=some (.string (Ae key))∧W.cell? ⟨w.heap.size,1,none⟩=some (.string (Ae v))) (by kernel_rfl) (⟨x0,x1⟩) (fun hHeld=>?_)
  refine Aa 0 hHeld ?_
  refine Aa 1 hHeld ?_
  refine Aa 2 hHeld ?_
  refine Aa 4 hHeld ?_
  refine twoH (i:=3) (j:=5) rfl rfl (by kernel_rfl) rfl rfl (fun K hK=>?_) (fun K hK=>?_)
  ·go_simp
   refine hK.out _ _ (⟨x0,x1⟩) (fun hHeld=>?_)
   clear hK K
   try simp only [Act.put,List.setIfInBounds_toArray,List.set_cons_zero,List.set_cons_succ]
   refine Al (i:=5) rfl (by kernel_rfl) rfl (fun K hK=>?_)
   go_simp
   refine (hwg _).mono ?_
   rintro e w1 ⟨rfl,rfl⟩
   rw [hU]
   refine hK.out _ _ (⟨y0,y1⟩) (fun hHeld=>?_)
   clear hK K
   try simp only [Act.put,List.setIfInBounds_toArray,List.set_cons_zero,List.set_cons_succ]
   refine Aa 6 hHeld ?_
   refine Aa 7 hHeld ?_
   refine Aa 8 hHeld ?_
   refine Al (i:=9) rfl (by kernel_rfl) rfl (fun K hK=>?_)
   go_simp
   refine hK.out _ _ (⟨z0,z1⟩) (fun hHeld=>?_)
   clear hK K
   try simp only [Act.put,List.setIfInBounds_toArray,List.set_cons_zero,List.set_cons_succ]
   refine wpAnyH_done (by kernel_rfl) ?_ _
   clear hHeld
   go_wp2
   go_end0
   exact ⟨rfl,HF.out.1,HF.out.2⟩
  ·go_simp
   refine (hwg _).mono ?_
   rintro e w1 ⟨rfl,rfl⟩
   rw [hU]
   refine hK.out _ _ (⟨y0,y1⟩) (fun hHeld=>?_)
   clear hK K
   try simp only [Act.put,List.setIfInBounds_toArray,List.set_cons_zero,List.set_cons_succ]
   refine Al (i:=3) rfl (by kernel_rfl) rfl (fun K hK=>?_)
   go_simp
   refine hK.out _ _ (⟨y0,y1⟩) (fun hHeld=>?_)
   clear hK K
   try simp only [Act.put,List.setIfInBounds_toArray,List.set_cons_zero,List.set_cons_succ]
   refine Aa 6 hHeld ?_
   refine Aa 7 hHeld ?_
   refine Aa 8 hHeld ?_
   refine Al (i:=9) rfl (by kernel_rfl) rfl (fun K hK=>?_)
   go_simp
   refine hK.out _ _ (⟨z0,z1⟩) (fun hHeld=>?_)
   clear hK K
   try simp only [Act.put,List.setIfInBounds_toArray,List.set_cons_zero,List.set_cons_succ]
   refine wpAnyH_done (by kernel_rfl) ?_ _
   clear hHeld
   go_wp2
   go_end0
   exact ⟨rfl,HF.out.1,HF.out.2⟩
end Go.Proofs.YtblniomnhpedjaaGreatDoor
namespace Go.Proofs.YtblniomnhpedjaaGreatDoor
open Go.RowKit
set_option maxRecDepth 20000 in
set_option maxHeartbeats 800000 in
theorem lay_any (w : World) (g b : Nat) (l m : List Af) (h : RowsAt w g b l) (x : Af) (hm : Bn m) (hp : m.Perm (x :: l)) (hw : Ag m≤70368744177664) :
  Calls Tryz.prog 81 #[.pointer (some ⟨g,0,none⟩), .string (Ae x.1), .string (Ae x.2)] w fun e w'=>e = .returned (.tuple #[])∧RowsAt w' g b m∧Chg (fun k=>k=g∨k=b) w w':=by
 have hwt : Ag m=16+x.1.length+x.2.length+Ag l:=by rw [Md hp,Ik]
 have hne : ∀ y∈l,y.1≠x.1:=by
  have hk:=(hp.map (·.1)).nodup_iff.1 (rises_keys hm)
  rw [List.map_cons,List.nodup_cons] at hk
  exact fun y hy e=>hk.1 (e ▸ List.mem_map.2 ⟨y,hy,rfl⟩)
 have hk1:=fun W=>E9 W x.1 (by omega)
 have hk2:=fun W=>E9 W x.2 (by omega)
 have hwg:=fun W=>weigh_any W x (by omega) (by omega)
 obtain ⟨wl,hwl⟩ : ∃ wl,wl=Ag l:=⟨_,rfl⟩
 obtain ⟨wn,hwn⟩ : ∃ wn,wn=Ag m:=⟨_,rfl⟩
 obtain ⟨wx,hwx⟩ : ∃ wx,wx=16+x.1.length+x.2.length:=⟨_,rfl⟩
 rw [← hwx] at hwg
 have hadd : IntKind.i64.wrap ((wl : Int)+(wx : Int))=(wn : Int):=by
  have h3 : wn=wx+wl:=by rw [hwl,hwn,hwx]; exact hwt
  rw [show (wl : Int)+(wx : Int)=(wn : Int) by omega]
  simp [IntKind.wrap,IntKind.bits,IntKind.signed]
  omega
 have H:=Ab (And.intro h (And.intro hwl (And.intro hwn (And.intro hm (And.intro hp hne)))))
 have hgl:=At h.cells
 have hbl:=h.map.lt
 have hgb:=h.ne
 clear hwt hne h hwl hwn hwx hm hp hw
 go_enter Tryz.func81,Tryz.ntmps81
 go_wp2_with fail
 refine (hk1 _).mono ?_
 rintro e w1 ⟨rfl,hb1⟩
 go_wp2_with fail
 refine (hk2 _).mono ?_
 rintro e w2 ⟨rfl,hb2⟩
 have hB:=hb1.trans (hb2.mono hb1.size)
 have hq : Chg (fun _=>False) w w2:=(Chg.of_below hB).mono fun k h1 h2=>by omega
 have hs2:=hB.size
 clear hk1 hk2 hb1 hb2 hB
 have hcl:=H.out.1.cells
 rw [← H.out.2.1] at hcl
 have hV1:=hq.trans (Cl w2 (prO x)) (fun _ _ h=>h)
 have hVg:=Au w2 (prO x)
 have hVr:=hV1.keep hcl (fun h=>h)
 have hVm:=H.out.1.map.keep hV1 (fun h=>h)
 obtain ⟨V,hV⟩ : ∃ V,w2.alloc (prO x)=V:=⟨_,rfl⟩
 rw [hV] at hV1 hVg hVr hVm
 have x0:=Ad hVg 0
 have x1:=Ad hVg 1
 have r0:=Ad hVr 0
 simp only [List.getElem?_toArray,List.getElem?_cons_zero,List.getElem?_cons_succ] at x0 x1 r0
 have hVm' : Ak V.drew b (rv l):=hVm.same rfl
 obtain ⟨X,hput,hXm,hXc,hXs⟩:=hVm'.put_new (kstr V.drew) (Ie l) Tryz.underlying95 (x:=.string (Ae x.1)) ⟨_,rfl⟩ (rv_ne H.out.2.2.2.2.2) (.agg #[.string (Ae x.1), .string (Ae x.2)])
 have hXm2 : Ak X b (rv m):=hXm.perm (H.out.2.2.2.2.1.symm.map fun x : Af=>((Value.string (Ae x.1) : Value),Value.agg #[.string (Ae x.1), .string (Ae x.2)]))
 have hX1 : Chg (fun k=>k=g∨k=b) w X:=(hV1.mono fun _ _ h=>h.elim).then (hXc.undrew.mono fun _ _ h=>.inr h)
 have hXr:=hXc.keep (show V.drew.heap[g]? = _ from hVr) hgb
 have hXg:=hXc.keep (show V.drew.heap[w2.heap.size]? = _ from hVg) (by omega)
 have a0:=Ad hXg 0
 have a1:=Ad hXg 1
 have b0:=Ad hXr 0
 have b1:=Ad hXr 1
 simp only [List.getElem?_toArray,List.getElem?_cons_zero,List.getElem?_cons_succ] at a0 a1 b0 b1
 have hU1:=hX1.trans (Cl X.drew (prO x)).undrew (fun _ _ h=>h.elim)
 have hUr:=(Cl X.drew (prO x)).keep (show X.drew.heap[g]? = _ from hXr) (fun h=>h)
 have hUg:=(Cl X.drew (prO x)).keep (show X.drew.heap[w2.heap.size]? = _ from hXg) (fun h=>h)
 have hUm:=hXm2.keep (Cl X.drew (prO x)).undrew (fun h=>h)
 obtain ⟨U,hU⟩ : ∃ U,X.drew.alloc (prO x)=U:=⟨_,rfl⟩
 rw [hU] at hU1 hUr hUg hUm
 have u1:=Ad hUr 1
 have y0:=Ad hUg 0
 have y1:=Ad hUg 1
 simp only [List.getElem?_toArray,List.getElem?_cons_zero,List.getElem?_cons_succ] at u1 y0 y1
 have u2:=Av hUr 1
 have hY:=A0 hUr 1 (.int .i64 (wn : Int))
 have hYc : Chg (fun k=>k=g∨k=b) w (U.setCell ⟨g,1,none⟩ (.int .i64 (wn : Int))):=hU1.setCell (.inl (.inl rfl)) _
 have hYg:=Cy (p:=⟨g,1,none⟩) (u:=.int .i64 (wn : Int)) hUg (by simp; omega)
 have hYm : Ak (U.setCell ⟨g,1,none⟩ (.int .i64 (wn : Int))) b (rv m):=hUm.same (Below.heap_setCell _ _ _ _ (by simp; omega))
 obtain ⟨Y,hYe⟩ : ∃ Y,U.setCell ⟨g,1,none⟩ (.int .i64 (wn : Int))=Y:=⟨_,rfl⟩
 rw [hYe] at hY hYc hYg hYm
 simp only [List.setIfInBounds_toArray,List.set_cons_zero,List.set_cons_succ] at hY
 have z0:=Ad hYg 0
 have z1:=Ad hYg 1
 simp only [List.getElem?_toArray,List.getElem?_cons_zero,List.getElem?_cons_succ] at z0 z1
 have HF : Hid (RowsAt Y g b m∧Chg (fun k=>k=g∨k=b) w Y):=Ab ⟨⟨by rw [← H.out.2.2.1]; exact hY,hYm,H.out.2.2.2.1⟩,hYc⟩
 clear hcl hV1 hVg hVr hVm hVm' hXm hXm2 hXc hXs hX1 hXr hXg hU1 hUr hUg hUm hY hYc hYg hYm hq
 go_wp2_with fail
 refine wp_region_held_drew (S:=fun W=>W.cell? ⟨w2.heap.size,0,none⟩=some (.string (Ae x.1))∧W.cell? ⟨w2.heap.size,1,none⟩=some (.string (Ae x.2))∧W.cell? ⟨g,0,none⟩=some (.map (some b))) (by kernel_rfl) (⟨x0,x1,r0⟩) (fun hHeld=>?_)
 refine Aa 0 hHeld ?_
 refine Aa 1 hHeld ?_
 refine Aa 2 hHeld ?_
 refine Aa 3 hHeld ?_
 refine Aa 4 hHeld ?_
 refine Aa 5 hHeld ?_
 refine Aa 6 hHeld ?_
 refine Al (i:=7) rfl (by kernel_rfl) rfl (fun K hK=>?_)
 go_simp
 refine hK.out _ _ (⟨a0,a1,b0⟩) (fun hHeld=>?_)
 clear hK K
 try simp only [Act.put,List.setIfInBounds_toArray,List.set_cons_zero,List.set_cons_succ]
 refine wpAnyH_done (by kernel_rfl) ?_ _
 clear hHeld
 go_wp2_with fail
 refine wp_region_held_drew (S:=fun W=>W.cell? ⟨w2.heap.size,0,none⟩=some (.string (Ae x.1))∧W.cell? ⟨w2.heap.size,1,none⟩=some (.string (Ae x.2))) (by kernel_rfl) (⟨a0,a1⟩) (fun hHeld=>?_)
 refine Aa 0 hHeld ?_
 refine Aa 1 hHeld ?_
 refine Aa 2 hHeld ?_
 refine Aa 4 hHeld ?_
 refine twoH (i:=3) (j:=5) rfl rfl (by kernel_rfl) rfl rfl (fun K hK=>?_) (fun K hK=>?_)
 ·go_simp
  refine hK.out _ _ (⟨a0,a1⟩) (fun hHeld=>?_)
  clear hK K
  try simp only [Act.put,List.setIfInBounds_toArray,List.set_cons_zero,List.set_cons_succ]
  refine Al (i:=5) rfl (by kernel_rfl) rfl (fun K hK=>?_)
  go_simp
  refine (hwg _).mono ?_
  rintro e w3 ⟨rfl,rfl⟩
  rw [hU]
  refine hK.out _ _ (⟨y0,y1⟩) (fun hHeld=>?_)
  clear hK K
  try simp only [Act.put,List.setIfInBounds_toArray,List.set_cons_zero,List.set_cons_succ]
  refine Aa 6 hHeld ?_
  refine Aa 7 hHeld ?_
  refine Aa 8 hHeld ?_
  refine Al (i:=9) rfl (by kernel_rfl) rfl (fun K hK=>?_)
  go_simp
  refine hK.out _ _ (⟨z0,z1⟩) (fun hHeld=>?_)
  clear hK K
  try simp only [Act.put,List.setIfInBounds_toArray,List.set_cons_zero,List.set_cons_succ]
  refine wpAnyH_done (by kernel_rfl) ?_ _
  clear hHeld
  go_wp2
  go_end0
  exact ⟨rfl,HF.out.1,HF.out.2⟩
 ·go_simp
  refine (hwg _).mono ?_
  rintro e w3 ⟨rfl,rfl⟩
  rw [hU]
  refine hK.out _ _ (⟨y0,y1⟩) (fun hHeld=>?_)
  clear hK K
  try simp only [Act.put,List.setIfInBounds_toArray,List.set_cons_zero,List.set_cons_succ]
  refine Al (i:=3) rfl (by kernel_rfl) rfl (fun K hK=>?_)
  go_simp
  refine hK.out _ _ (⟨y0,y1⟩) (fun hHeld=>?_)
  clear hK K
  try simp only [Act.put,List.setIfInBounds_toArray,List.set_cons_zero,List.set_cons_succ]
  refine Aa 6 hHeld ?_
  refine Aa 7 hHeld ?_
  refine Aa 8 hHeld ?_
  refine Al (i:=9) rfl (by kernel_rfl) rfl (fun K hK=>?_)
  go_simp
  refine hK.out _ _ (⟨z0,z1⟩) (fun hHeld=>?_)
  clear hK K
  try simp only [Act.put,List.setIfInBounds_toArray,List.set_cons_zero,List.set_cons_succ]
  refine wpAnyH_done (by kernel_rfl) ?_ _
  clear hHeld
  go_wp2
  go_end0
  exact ⟨rfl,HF.out.1,HF.out.2⟩
end Go.Proofs.YtblniomnhpedjaaGreatDoor
namespace Go.Proofs.YtblniomnhpedjaaGreatDoor
open Go.RowKit
def PsT (w : World) (v : Value) (l : List An) : Prop:=
 ∃ ao cap,v = .slice ao l.length cap∧l.length≤cap∧cap≤maxLen∧(l ≠ []→∃ b off,ao=some ⟨b,off,none⟩∧b<w.heap.size∧∀ j (h : j<l.length) i u,(C1 (l[j]'h))[i]? = some u→w.cell? ⟨b,off+j * 3+i,none⟩=some u)
theorem PsT.nil (w : World) : PsT w (.slice none 0 0) []:=⟨none,0,rfl,by simp,by simp,fun h=>absurd rfl h⟩
theorem PsT.keep {F : Nat→Prop} {w w' : World} {v : Value} {l : List An} (h : PsT w v l) (hc : Chg F w w') (hn : l ≠ []→∀ b off n cap,v = .slice (some ⟨b,off,none⟩) n cap→¬ F b) : PsT w' v l:=by
 obtain ⟨ao,cap,hv,h1,h2,h4⟩:=h
 refine ⟨ao,cap,hv,h1,h2,fun hl=>?_⟩
 obtain ⟨b,off,ha,hlt,hcc⟩:=h4 hl
 have hb:=hn hl b off _ _ (by rw [hv,ha])
 exact ⟨b,off,ha,Nat.lt_of_lt_of_le hlt hc.size,fun j hj i u hu=>(World.cell?_of_block (w:=w) (hc.block b hlt hb)).trans (hcc j hj i u hu)⟩
theorem PsT.quiet {w w' : World} {v : Value} {l : List An} (h : PsT w v l) (hc : Chg (fun _=>False) w w') : PsT w' v l:=h.keep hc fun _ _ _ _ _ _ h=>h
theorem PsT.apart {w : World} {v : Value} {l : List An} {g b : Nat} {m : List Af} (h : PsT w v l) (hr : RowsAt w g b m) : l ≠ []→∀ p off n cap,v = .slice (some ⟨p,off,none⟩) n cap→¬ (p=g∨p=b):=by
 intro hl p off n cap hv
 obtain ⟨ao,cap',hv',-,-,h4⟩:=h
 obtain ⟨p',off',ha,hlt,hc⟩:=h4 hl
 rw [hv',ha] at hv
 injection hv with e1 e2 e3
 injection e1 with e1
 injection e1 with e1 e4
 subst e1 e4
 have hpos : 0<l.length:=List.length_pos_iff.2 hl
 have c0:=hc 0 hpos 0 _ rfl
 rintro (rfl | rfl)
 ·rw [Ad hr.cells] at c0
  simp only [Nat.zero_mul,Nat.add_zero] at c0
  match off',c0 with
  | 0,c0=>simp at c0
  | 1,c0=>simp at c0
  | n+2,c0=>simp at c0
 ·obtain ⟨es,ck,hm,-⟩:=hr.map
  simp [World.cell?,hm] at c0
def Da (l : List An) : Nat:=(l.map fun p=>16+p.1.length+p.2.1.length).sum
theorem P2 (p : An) (l : List An) : Da (p :: l)=16+p.1.length+p.2.1.length+Da l:=by simp [Da]
theorem O5 (a b : List An) : Da (a++b)=Da a+Da b:=by simp [Da]
theorem burden_take (l : List An) {k : Nat} (h : k<l.length) : Da (l.take (k+1))=Da (l.take k)+(16+l[k].1.length+l[k].2.1.length):=by
 rw [show l.take (k+1)=l.take k ++ [l[k]] by rw [List.take_add_one]; simp [h],O5]
 generalize l[k]=x
 simp [Da]
theorem burden_le (l : List An) (k : Nat) : Da (l.take k)≤Da l:=by
 have:=O5 (l.take k) (l.drop k)
 rw [List.take_append_drop] at this
 omega
theorem Mv (l : List Af) (ps : List An) {k : Nat} (h : k<ps.length) : Ai l (ps.take (k+1))=Bu (Ai l (ps.take k)) ps[k]:=by
 rw [show ps.take (k+1)=ps.take k ++ [ps[k]] by rw [List.take_add_one]; simp [h]]
 unfold Ai
 rw [List.foldl_append]
 rfl
theorem P7 {l : List Af} (h : Bn l) (ps : List An) : Ag (Ai l ps)≤Ag l+Da ps:=by
 induction ps generalizing l with
 | nil=>simp [Ai,Da]
 | cons p r ih=>
  have h1:=ih (I8 h p)
  have h2:=Nb l h p
  rw [P2]
  exact Nat.le_trans h1 (by omega)
abbrev Bd (p : An) : Obj:=.cells #[.string (Ae p.1), .string (Ae p.2.1), .bool p.2.2] 73
set_option maxRecDepth 20000 in
set_option maxHeartbeats 800000 in
theorem do_any (w : World) (g b : Nat) (l : List Af) (h : RowsAt w g b l) (v : Value) (ps : List An) (hv : PsT w v ps) (hw : Ag l+Da ps≤70368744177664) :
  Calls Tryz.prog 61 #[.pointer (some ⟨g,0,none⟩),v] w fun e w'=>e = .returned (.tuple #[])∧RowsAt w' g b (Ai l ps)∧Chg (fun k=>k=g∨k=b) w w':=by
 have hap:=hv.apart h
 have hri:=h.rises
 obtain ⟨ao,cap,rfl,h1,h2,h4⟩:=id hv
 unfold maxLen at h2
 have HV:=Ab hv
 have H:=Ab h
 have HA:=Ab hap
 clear hv h hap
 go_enter Tryz.func61,Tryz.ntmps61
 go_wp2_with fail
 go_loopw [8] (fun t wr=>∃ k : Nat,k≤ps.length∧t = .int .i64 k∧RowsAt wr g b (Ai l (ps.take k))∧Chg (fun k=>k=g∨k=b) w wr)
  (fun t _=>ps.length - (intOf t).toNat)
 case atStart=>exact ⟨0,by omega,rfl,H.out,Chg.refl _ _⟩
 case round=>
  obtain ⟨k,hk,rfl,hro,hch⟩:=hrel
  by_cases hlt : k<ps.length
  ·have hps:=HV.out.keep hch HA.out
   obtain ⟨_,_,e,-,-,h4'⟩:=hps
   injection e with e1 e2 e3
   subst e1 e3
   clear e2
   obtain ⟨pb,off,rfl,hbl,hc⟩:=h4' (by intro e; rw [e] at hlt; simp at hlt)
   have c0:=hc k hlt 0 _ rfl
   have c1:=hc k hlt 1 _ rfl
   have c2:=hc k hlt 2 _ rfl
   have htk:=Mv l ps hlt
   have hwk:=P7 hri (ps.take k)
   have hbk:=burden_take ps hlt
   have hb2:=burden_le ps (k+1)
   have hwn:=Nb _ hro.rises ps[k]
   have hrn:=I8 hro.rises ps[k]
   generalize ps[k]=x at *
   try simp only [Nat.add_zero] at c0 c1 c2
   have hA:=Cl wr (Bd x)
   have hroA:=hro.keep hA (fun h=>h) (fun h=>h)
   have hxA:=Au wr (Bd x)
   have hgne : wr.heap.size≠g∧wr.heap.size≠b:=⟨by have:=At hro.cells; omega,by have:=hro.map.lt; omega⟩
   have htake:=take_any _ g b _ hroA x.1 (by omega)
   have HX:=Ab (And.intro hxA (And.intro hch (And.intro hA (And.intro htk (And.intro hwn (And.intro hrn hgne))))))
   have hwt : Ag (Bu (Ai l (ps.take k)) x)≤70368744177664:=by omega
   generalize hll : Ai l (ps.take k)=ll at *
   clear hll hc hro hroA hxA hch hA htk hwk hbk hb2 hwn hrn
   cases hgo : x.2.2 with
   | true=>
    rw [hgo] at c2
    simp only [Bd,hgo] at htake
    have hx:=HX.out.1
    have hA2:=HX.out.2.2.1
    simp only [Bd,hgo] at hx hA2
    have HQ:=Ab (And.intro hx hA2)
    clear hx hA2
    go_wp2_with fail
    refine htake.mono ?_
    rintro e w1 ⟨rfl,hr1,hc1⟩
    have y2:=Ad (hc1.keep HQ.out.1 (by simpa using HX.out.2.2.2.2.2.2)) 2
    simp only [List.getElem?_toArray,List.getElem?_cons_zero,List.getElem?_cons_succ] at y2
    rw [← done_gone ll x hgo,← HX.out.2.2.2.1] at hr1
    have HR:=Ab (And.intro hr1 ((HX.out.2.1.trans HQ.out.2 (fun _ _ h=>h.elim)).then hc1))
    clear hr1 hc1 htake
    go_wp2_with fail
    go_roundw
    case rel=>exact ⟨k+1,by omega,by go_num,HR.out.1,HR.out.2⟩
    case measure=>simp [intOf]; omega
   | false=>
    rw [hgo] at c2
    simp only [Bd,hgo] at htake
    have hx:=HX.out.1
    have hA2:=HX.out.2.2.1
    simp only [Bd,hgo] at hx hA2
    have HQ:=Ab (And.intro hx hA2)
    clear hx hA2
    go_wp2_with fail
    refine htake.mono ?_
    rintro e w1 ⟨rfl,hr1,hc1⟩
    have hx1:=hc1.keep HQ.out.1 (by simpa using HX.out.2.2.2.2.2.2)
    have y0:=Ad hx1 0
    have y1:=Ad hx1 1
    have y2:=Ad hx1 2
    simp only [List.getElem?_toArray,List.getElem?_cons_zero,List.getElem?_cons_succ] at y0 y1 y2
    have hpm : (Bu ll x).Perm ((x.1,x.2.1) :: Dv ll x.1):=by have:=done_less ll x; rw [hgo] at this; exact this
    have hlay:=lay_any w1 g b _ (Bu ll x) hr1 (x.1,x.2.1) HX.out.2.2.2.2.2.1 hpm hwt
    have HR1:=Ab ((HX.out.2.1.trans HQ.out.2 (fun _ _ h=>h.elim)).then hc1)
    clear hr1 hc1 htake hx1 hpm
    go_wp2_with fail
    refine hlay.mono ?_
    rintro e w2 ⟨rfl,hr2,hc2⟩
    rw [← HX.out.2.2.2.1] at hr2
    have HR:=Ab (And.intro hr2 (HR1.out.then hc2))
    clear hr2 hc2 hlay
    go_wp2_with fail
    go_roundw
    case rel=>exact ⟨k+1,by omega,by go_num,HR.out.1,HR.out.2⟩
    case measure=>simp [intOf]; omega
  ·have hkl : k=ps.length:=by omega
   subst hkl
   rw [List.take_length] at hro
   have HR:=Ab (And.intro hro hch)
   clear hro hch
   go_wp2
   go_end0
   exact ⟨rfl,HR.out.1,HR.out.2⟩
end Go.Proofs.YtblniomnhpedjaaGreatDoor
