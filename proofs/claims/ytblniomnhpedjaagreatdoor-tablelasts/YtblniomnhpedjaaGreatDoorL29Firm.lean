/-
  Texts joined: Firm, Firm2, OnPure, HasPure, CalmPure, BulkPure, Few, CalmApi.
-/
import Derived.Test.YtblniomnhpedjaaGreatDoorL28TKeys
import Derived.Test.YtblniomnhpedjaaGreatDoorL22File2
import Derived.Test.YtblniomnhpedjaaGreatDoorL24Api
namespace Go.Proofs.YtblniomnhpedjaaGreatDoor
variable {z : Nm} {S : Dk} {all b : List UInt8}
def Bd (z : Nm) (S : Dk) (all : List UInt8) : Prop:=(Gone z S∧all = []) ∨ ∃ f,Kx z S f all.length all
theorem Fi (z : Nm) : z≠z++Ao:=fun e=>by
 have:=congrArg List.length e
 simp [Ao] at this
theorem Bd.begun (h : Bd z S all) : Bd z S.begun all:=by
 rcases h with ⟨h,e⟩ | ⟨f,h⟩
 ·exact .inl ⟨h.begun,e⟩
 ·exact .inr ⟨f,h.begun⟩
theorem Bd.append (h : Bd z S all) (hk : Ok S) {n : Nm} (hn : z≠n) (b : List UInt8) : Bd z (S.append n b).1 all:=by
 rcases h with ⟨h,e⟩ | ⟨f,h⟩
 ·exact .inl ⟨h.append hn b,e⟩
 ·exact .inr ⟨f,h.append hk hn b⟩
theorem Bd.sync (h : Bd z S all) (hk : Ok S) {n : Nm} (hn : z≠n) : Bd z (S.sync n).1 all:=by
 rcases h with ⟨h,e⟩ | ⟨f,h⟩
 ·exact .inl ⟨h.sync n,e⟩
 ·exact .inr ⟨f,h.sync hk hn⟩
theorem Bd.syncDir (h : Bd z S all) : Bd z S.syncDir.1 all:=by
 rcases h with ⟨h,e⟩ | ⟨f,h⟩
 ·exact .inl ⟨h.syncDir,e⟩
 ·exact .inr ⟨f,h.syncDir⟩
theorem Bd.remove (h : Bd z S all) {n : Nm} (hn : z≠n) : Bd z (S.remove n).1 all:=by
 rcases h with ⟨h,e⟩ | ⟨f,h⟩
 ·exact .inl ⟨h.remove hn,e⟩
 ·exact .inr ⟨f,h.remove hn⟩
theorem Bd.tidy (h : Bd z S all) : Bd z (Av S z).1 all:=by
 unfold Av
 split
 ·exact h
 ·exact h.remove (Fi z)
theorem Bd.settle (h : Bd z S all) (s : Bool) : Bd z (Be S s).1 all:=by
 unfold Be
 split
 ·exact h
 ·exact h.syncDir
theorem Bd.crash (h : Bd z S all) (hk : Ok S) (keep t : Int) : Bd z (S.crash keep t) all:=by
 rcases h with ⟨h,e⟩ | ⟨f,h⟩
 ·exact .inl ⟨h.crash keep t,e⟩
 ·obtain ⟨k,h1,h2⟩:=h.crash hk keep t
  have e : all.take k=all:=List.take_of_length_le (by rw [List.length_take] at h1; omega)
  rw [e] at h2
  exact .inr ⟨f,h2⟩
theorem Bd.read (h : Bd z S all) (hz : Am z=true) (hon : S.on=true) (hf : S.fails S.n=false) : C9 S z=(all,0):=by
 have hof : S.onFile z=match look S.dir z with
   | none=>.error 32
   | some f=>.ok (f,S.fails S.n):=by
  unfold Dk.onFile
  rw [if_neg (by simp [hon]),if_neg (by simp [hz])]
  cases look S.dir z <;> rfl
 unfold C9 Dk.read
 rw [hof]
 rcases h with ⟨h,e⟩ | ⟨f,h⟩
 ·rw [h.lookD,e]
  rfl
 ·rw [h.lookD]
  obtain ⟨x,h1,h2,h3⟩:=h.file
  have hb : S.bytes f=all:=by simp [Dk.bytes,h1,h2]
  simp only [hf,hb]
  rfl
theorem Bd.size (h : Bd z S all) : max (S.size z) 0=(all.length : Int):=by
 unfold Dk.size
 rcases h with ⟨h,e⟩ | ⟨f,h⟩
 ·rw [h.lookD,e]
  rfl
 ·rw [h.lookD]
  obtain ⟨x,h1,h2,h3⟩:=h.file
  have hb : S.bytes f=all:=by simp [Dk.bytes,h1,h2]
  simp only [hb]
  omega
theorem Mh (hk : Ok S) (n : Nm) (b : List UInt8) : Ok (S.append n b).1:=by
 unfold Dk.append
 split
 ·exact hk
 split
 ·exact hk.next
 split
 ·exact hk.next
 split
 ·exact hk.next
 show Ok (S.next.app n b)
 unfold Dk.app
 cases hl : look S.next.dir n with
 | some f=>
  dsimp only
  split
  ·exact hk.next
  ·exact hk.next.ext (hk.next.idD (Dm hl)) b
 | none=>
  dsimp only
  split
  ·exact hk.next.mk1 hl
  ·exact (hk.next.mk1 hl).ext (by show S.next.files.length<(S.next.files ++ [_]).length; simp) b
theorem ok_sync (hk : Ok S) (n : Nm) : Ok (S.sync n).1:=by
 unfold Dk.sync
 split
 ·exact hk.begun
 ·split
  ·exact hk.begun.undoF _
  ·exact hk.begun.keepF _
theorem ok_syncDir (hk : Ok S) : Ok S.syncDir.1:=by
 unfold Dk.syncDir
 split
 ·exact hk
 split
 ·exact hk.next.undoD
 ·exact hk.next.keepD
theorem ok_rename (hk : Ok S) (a b : Nm) : Ok (S.rename a b).1:=by
 unfold Dk.rename
 split
 ·exact hk
 split
 ·exact hk.next
 split
 ·exact hk.next
 ·next hl=>
  split
  ·exact hk.next
  split
  ·exact hk.next
  ·next he=>exact hk.next.ren hl he
theorem ok_remove (hk : Ok S) (n : Nm) : Ok (S.remove n).1:=by
 unfold Dk.remove
 split
 ·exact hk.begun
 ·next g fl hon=>
  split
  ·exact hk.begun
  ·refine hk.begun.rem ?_
   rw [(D4 S).1,(Je hon).1]
   simp
theorem Ew (hk : Ok S) (n : Nm) : Ok (Av S n).1:=by
 unfold Av
 split
 ·exact hk
 ·exact ok_remove hk _
theorem Ie (hk : Ok S) (s : Bool) : Ok (Be S s).1:=by
 unfold Be
 split
 ·exact hk
 ·exact ok_syncDir hk
theorem Kx.sync_code {f was : Nat} (h : Kx z S f was all) (hz : Am z=true) : (S.sync z).2=0∨(S.sync z).2=34∨(S.sync z).2=35:=by
 unfold Dk.sync
 split
 ·rename_i e he
  unfold Dk.onFile at he
  split at he
  ·cases he; exact .inr (.inr rfl)
  split at he
  ·next hb=>rw [hz] at hb; cases hb
  split at he
  ·next hl=>rw [h.lookD] at hl; cases hl
  ·cases he
 ·split
  ·exact .inr (.inl rfl)
  ·exact .inl rfl
theorem firm_extend {f : Nat} (h : Kx z S f all.length all) (_hk : Ok S) (hz : Am z=true) (s : Bool) (b : List UInt8) :
  ((Cb S z s b).2.2=0→Kx z (Cb S z s b).1 f (all++b).length (all++b))∧((Cb S z s b).2.2≠0→Kx z (Cb S z s b).1 f all.length all∨(Cb S z s b).2.2=35∧Kx z (Cb S z s b).1 f all.length (all++b)):=by
 have h1 : Kx z (Av S z).1 f all.length all:=by
  unfold Av
  split
  ·exact h
  ·exact h.remove (Fi z)
 unfold Cb
 generalize Av S z=T at *
 split
 ·next hne=>exact ⟨fun e=>absurd e hne,fun _=>.inl h1⟩
 ·have h2 : Kx z (Be T.1 s).1 f all.length all:=by
   unfold Be
   split
   ·exact h1
   ·exact h1.syncDir
  unfold Eu
  generalize Be T.1 s=U at *
  split
  ·next hne=>exact ⟨fun e=>absurd e hne,fun _=>.inl h2⟩
  ·have h3:=h2.append_own b
   unfold E0
   generalize U.1.append z b=V at *
   split
   ·next hne=>exact ⟨fun e=>absurd e hne,fun _=>.inl (h3.2 hne)⟩
   ·next he0=>
    have he : V.2=0:=by simpa using he0
    have h4:=h3.1 he
    have h5:=h4.sync_own
    have h6:=h4.sync_code hz
    refine ⟨fun e=>h5.1 e,fun e=>?_⟩
    rcases h6 with h6 | h6 | h6
    ·exact absurd h6 e
    ·have:=h5.2.1 h6
     rw [List.take_left] at this
     exact .inl this
    ·exact .inr ⟨h6,h5.2.2 e (by rw [h6]; decide)⟩
end Go.Proofs.YtblniomnhpedjaaGreatDoor
namespace Go.Proofs.YtblniomnhpedjaaGreatDoor
variable {z a : Nm} {S : Dk} {all b : List UInt8} {g : Nat}
def Fresh (a : Nm) (S : Dk) (g : Nat) (b : List UInt8) : Prop:=look S.dir a=some g∧∃ x,S.files[g]? = some x∧x.b=b∧x.sure=b.length
theorem Jl (h : (Av S z).2=0) : look (Av S z).1.dir (z++Ao)=none:=by
 unfold Av at h ⊢
 split
 ·next hs=>
  unfold Dk.size at hs
  split at hs
  ·next hl=>exact hl
  ·omega
 ·next hs=>
  rw [if_neg hs] at h
  unfold Dk.remove at h ⊢
  split
  ·next e he=>
   rw [he] at h
   unfold Dk.onFile at he
   dsimp only at h
   split at he
   ·cases he; cases h
   split at he
   ·cases he; cases h
   split at he
   ·cases he; cases h
   ·cases he
  ·next g fl he=>
   rw [he] at h
   dsimp only at h
   split
   ·next hf=>rw [if_pos hf] at h; cases h
   ·show look (del (z++Ao) S.begun.dir) (z++Ao)=none
    rw [Ej,if_pos rfl]
theorem Lj (hl : look S.dir a=none) (hb : b ≠ []) (h : (S.append a b).2=0) : look (S.append a b).1.dir a=some S.files.length∧(S.append a b).1.files[S.files.length]? = some ⟨b,0⟩:=by
 unfold Dk.append at h ⊢
 split
 ·next e=>rw [if_pos e] at h; cases h
 next e1=>
 rw [if_neg e1] at h
 split
 ·next e=>rw [if_pos e] at h; cases h
 next e2=>
 rw [if_neg e2] at h
 split
 ·next e=>rw [if_pos e] at h; cases h
 next e3=>
 rw [if_neg e3] at h
 split
 ·next e=>rw [if_pos e] at h; cases h
 have e : S.next.app a b=(S.next.mk1 a).ext S.next.files.length b:=by
  unfold Dk.app
  rw [show look S.next.dir a=none from hl]
  exact if_neg hb
 show look (S.next.app a b).dir a=_∧(S.next.app a b).files[_]? = _
 rw [e]
 constructor
 ·show look (ins a S.files.length S.dir) a=_
  rw [look_ins hl,if_pos rfl]
 ·show ((S.files ++ [(⟨[],0⟩ : Fl)]).modify S.files.length _)[S.files.length]? = _
  simp
theorem J6 (hl : look S.dir a=some g) (hf : S.files[g]? = some ⟨b,0⟩) (h : (S.sync a).2=0) : Fresh a (S.sync a).1 g b:=by
 unfold Dk.sync at h ⊢
 split
 ·next e he=>
  rw [he] at h
  unfold Dk.onFile at he
  dsimp only at h
  split at he
  ·cases he; cases h
  split at he
  ·cases he; cases h
  split at he
  ·cases he; cases h
  ·cases he
 ·next g' fl he=>
  rw [he] at h
  dsimp only at h
  have hg:=(Je he).1
  rw [hl] at hg
  injection hg with hg
  subst hg
  split
  ·next hf=>rw [if_pos hf] at h; cases h
  ·refine ⟨(by show look S.begun.dir a=_; rw [(D4 S).1]; exact hl),⟨b,b.length⟩,?_,rfl,rfl⟩
   show (S.begun.files.modify g _)[g]? = _
   rw [(D4 S).2.1]
   simp [hf]
theorem rename_done {n m : Nm} (hne : n≠m) (h : (S.rename n m).2=0) : S.rename n m=(S.next.act (.ren n m),0):=by
 unfold Dk.rename at h ⊢
 split
 ·next e=>rw [if_pos e] at h; cases h
 next e1=>
 rw [if_neg e1] at h
 split
 ·next e=>rw [if_pos e] at h; cases h
 next e2=>
 rw [if_neg e2] at h
 split
 ·next e=>rw [if_pos e] at h; cases h
 next e3=>
 rw [if_neg e3] at h
 split
 ·next e=>rw [if_pos e] at h; cases h
 rfl
theorem rename_not {n m : Nm} (h : (S.rename n m).2≠0) : (S.rename n m).1=S∨(S.rename n m).1=S.next:=by
 unfold Dk.rename at h ⊢
 split
 ·exact .inl rfl
 next e1=>
 rw [if_neg e1] at h
 split
 ·exact .inr rfl
 next e2=>
 rw [if_neg e2] at h
 split
 ·exact .inr rfl
 next e3=>
 rw [if_neg e3] at h
 split
 ·exact .inr rfl
 next e4=>
 rw [if_neg e4] at h
 split
 ·exact .inr rfl
 next e5=>
 rw [if_neg e5] at h
 exact absurd rfl h
theorem Bd.next (h : Bd z S all) : Bd z S.next all:=by
 rcases h with ⟨h,e⟩ | ⟨f,h⟩
 ·exact .inl ⟨h.next,e⟩
 ·exact .inr ⟨f,h.next⟩
theorem J5 (l : Dir) (h : look l a=some g) : look (Bl l (.ren a z)) z=some g:=by
 show look (match look l a with | some f=>ins z f (del z (del a l)) | none=>l) z=_
 rw [h]
 show look (ins z g (del z (del a l))) z=_
 rw [look_ins (by rw [Ej,if_pos rfl]),if_pos rfl]
theorem renamed_keep (hf : Fresh a S g b) : Kx z (S.act (.ren a z)).next.keepD g b.length b:=by
 obtain ⟨h1,x,h2,h3,h4⟩:=hf
 refine ⟨J5 _ h1,J5 _ h1,fun c hc=>?_,x,h2,h3,h4⟩
 have:=(List.mem_filter.1 hc).2
 cases c <;> first | trivial | cases this
theorem renamed_undo (h : Bd z S all) : Bd z (S.act (.ren a z)).next.undoD all:=by
 have hm : ∀ c∈(S.act (.ren a z)).next.undoD.acts,Ea z c:=fun c hc=>by
  have:=(List.mem_filter.1 hc).2
  cases c <;> first | trivial | cases this
 rcases h with ⟨h,e⟩ | ⟨f,h⟩
 ·exact .inl ⟨⟨h.lookS,h.lookS,hm⟩,e⟩
 ·exact .inr ⟨f,h.lookS,h.lookS,hm,h.file⟩
theorem stay_pre (pre : List Ac) (n m : Nm) (keep t : Int) (h : keep.toNat≤pre.length) : A1 (pre ++ [.ren n m]) keep t=A1 pre keep t:=by
 unfold A1
 rw [List.take_append_of_le_length h,List.drop_append_of_le_length h]
 cases pre.drop keep.toNat with
 | nil=>rfl
 | cons c r=>cases c <;> rfl
theorem stay_full (cs : List Ac) (keep t : Int) (h : cs.length≤keep.toNat) : A1 cs keep t=cs:=by
 unfold A1
 rw [List.take_of_length_le h,List.drop_of_length_le h]
 simp [Ch]
theorem Pr (h : Bd z S all) (hk : Ok S) (hr : Ok (S.act (.ren a z))) (hf : Fresh a S g b) (keep t : Int) : Bd z ((S.act (.ren a z)).crash keep t) all∨Bd z ((S.act (.ren a z)).crash keep t) b:=by
 by_cases hc : keep.toNat≤S.acts.length
 ·have e : (S.act (.ren a z)).crash keep t=S.crash keep t:=by
   unfold Dk.crash
   rw [show (S.act (.ren a z)).acts=S.acts ++ [.ren a z] from rfl,stay_pre _ _ _ _ _ hc]
   rfl
  rw [e]
  exact .inl (h.crash hk keep t)
 ·right
  obtain ⟨h1,x,h2,h3,h4⟩:=hf
  have hs : A1 (S.act (.ren a z)).acts keep t=(S.act (.ren a z)).acts:=stay_full _ _ _ (by
   show (S.acts ++ [_]).length≤_
   rw [List.length_append,List.length_singleton]
   omega)
  have hl:=hr.lens g x h2
  have hd : look ((S.act (.ren a z)).crash keep t).dir z=some g:=by
   show look (A2 _ (A1 (S.act (.ren a z)).acts keep t)) z=_
   rw [hs,← hr.dir]
   exact J5 _ h1
  have hfl : ((S.act (.ren a z)).crash keep t).files[g]? = some ⟨x.b.take (x.sure+Ap (S.act (.ren a z)).acts g),x.sure+Ap (S.act (.ren a z)).acts g⟩:=by
   show (S.files.mapIdx _)[g]? = _
   rw [List.getElem?_mapIdx,h2]
   simp only [Option.map_some,hs]
  refine .inr ⟨g,hd,hd,(fun c hc=>by cases hc),_,hfl,?_,?_⟩
  ·dsimp only
   rw [← hl,List.take_length,h3]
  ·dsimp only
   rw [← hl,h3]
theorem tidy_off (h : S.on=false) (z : Nm) : (Av S z).1=S:=by
 unfold Av
 split
 ·rfl
 ·rw [off_remove h]
def Kv (z : Nm) (R : Dk × Bool × Int) (all b : List UInt8) : Prop:=
 (R.2.2=0→∃ g,Kx z R.1 g b.length b)∧(R.2.2≠0→Bd z R.1 all∨R.2.2=35∧R.1.on=false∧∀ keep t,Bd z (R.1.crash keep t) all∨Bd z (R.1.crash keep t) b)
theorem Js {e : Int} {s : Bool} (h : Bd z S all) (he : e≠0) : Kv z (D9 S z s e) all b:=⟨fun e0=>absurd e0 he,fun _=>.inl h.tidy⟩
theorem Lr (h : Bd z S all) (hk : Ok S) (hb : b ≠ []) (s : Bool) : Kv z (Cs S z s b) all b:=by
 have ha : z++Ao≠z:=fun e=>Fi z e.symm
 have h1:=h.tidy
 have k1:=Ew hk z
 have n1:=Jl (S:=S) (z:=z)
 unfold Cs
 generalize Av S z=T at *
 split
 ·next hne=>exact ⟨fun e=>absurd e hne,fun _=>.inl h1⟩
 next he1=>
 have n1:=n1 (by simpa using he1)
 have h2:=h1.append k1 (Fi z) b
 have k2:=Mh k1 (z++Ao) b
 have n2:=Lj n1 hb
 unfold rep2
 generalize T.1.append (z++Ao) b=V at *
 split
 ·next hne=>exact Js h2 hne
 next he2=>
 have n2:=n2 (by simpa using he2)
 have h3:=h2.sync k2 (Fi z)
 have k3:=ok_sync k2 (z++Ao)
 have n3:=J6 n2.1 n2.2
 unfold rep3
 generalize V.1.sync (z++Ao)=Y at *
 split
 ·next hne=>exact Js h3 hne
 next he3=>
 have n3:=n3 (by simpa using he3)
 have r4:=rename_done (S:=Y.1) ha
 have q4:=rename_not (S:=Y.1) (n:=z++Ao) (m:=z)
 have k4:=ok_rename k3 (z++Ao) z
 unfold rep4
 generalize Y.1.rename (z++Ao) z=N at *
 split
 ·next hne=>
  refine Js ?_ hne
  rcases q4 hne with q | q
  ·rw [q]; exact h3
  ·rw [q]; exact h3.next
 next he4=>
 have r4:=r4 (by simpa using he4)
 subst r4
 dsimp only at k4
 have hset : ∀ M : Dk,Be M false=(M.syncDir.1,M.syncDir.2 == 0,M.syncDir.2):=fun _=>rfl
 by_cases hon : (Y.1.next.act (.ren (z++Ao) z)).on=false
 ·have hU : Be (Y.1.next.act (.ren (z++Ao) z)) false=(Y.1.next.act (.ren (z++Ao) z),false,35):=by
   rw [hset,off_syncDir hon]
   rfl
  rw [hU]
  unfold rep5
  rw [if_pos (show (35 : Int)≠0 by decide)]
  refine ⟨fun e=>absurd (show (35 : Int)=0 from e) (by decide),fun _=>.inr ⟨rfl,?_,?_⟩⟩
  ·show (Av (Y.1.next.act (.ren (z++Ao) z)) z).1.on=false
   rw [tidy_off hon]
   exact hon
  ·intro keep t
   show Bd z ((Av (Y.1.next.act (.ren (z++Ao) z)) z).1.crash keep t) all∨Bd z ((Av (Y.1.next.act (.ren (z++Ao) z)) z).1.crash keep t) b
   rw [tidy_off hon]
   exact Pr h3.next k3.next k4 n3 keep t
 ·by_cases hf : (Y.1.next.act (.ren (z++Ao) z)).fails (Y.1.next.act (.ren (z++Ao) z)).n=true
  ·have hU : Be (Y.1.next.act (.ren (z++Ao) z)) false=((Y.1.next.act (.ren (z++Ao) z)).next.undoD,false,34):=by
    rw [hset]
    unfold Dk.syncDir
    rw [if_neg hon,if_pos hf]
    rfl
   rw [hU]
   unfold rep5
   rw [if_pos (show (34 : Int)≠0 by decide)]
   exact Js (renamed_undo h3.next) (show (34 : Int)≠0 by decide)
  ·have hU : Be (Y.1.next.act (.ren (z++Ao) z)) false=((Y.1.next.act (.ren (z++Ao) z)).next.keepD,true,0):=by
    rw [hset]
    unfold Dk.syncDir
    rw [if_neg hon,if_neg hf]
    rfl
   rw [hU]
   unfold rep5
   rw [if_neg (show ¬ (0 : Int)≠0 by decide)]
   exact ⟨fun _=>⟨_,renamed_keep n3⟩,fun e=>absurd rfl e⟩
end Go.Proofs.YtblniomnhpedjaaGreatDoor
namespace Go.Proofs.YtblniomnhpedjaaGreatDoor
variable {z : Nm} {S : Dk} {gs : List (List (List UInt8))} {tail : List UInt8}
def Kb (gs : List (List (List UInt8))) (tail : List UInt8) : Prop:=tail = []∨laid Ah gs ≠ []∧∃ g j,right g=true∧j<(grp Ah g).length∧tail=(grp Ah g).take j
def On (z : Nm) (S : Dk) (gs : List (List (List UInt8))) (tail : List UInt8) : Prop:=(∀ g∈gs,right g=true)∧Kb gs tail∧Bd z S (laid Ah gs++tail)
theorem grp_pos (g : List (List UInt8)) : 16≤(grp Ah g).length:=by
 have:=Fb Dg g
 omega
theorem Gx (g : List (List UInt8)) : grp Ah g ≠ []:=fun e=>by
 have:=grp_pos g
 rw [e] at this
 simp at this
theorem Lt (gs : List (List (List UInt8))) : gs.length≤(laid Ah gs).length:=by
 induction gs with
 | nil=>simp
 | cons g r ih=>
  have:=grp_pos g
  rw [Mm,List.length_append,List.length_cons]
  omega
theorem laid_nil (h : laid Ah gs = []) : gs = []:=by
 have:=Lt gs
 rw [h] at this
 exact List.eq_nil_of_length_eq_zero (by simpa using this)
theorem groups_on (hr : ∀ g∈gs,right g=true) (ht : Kb gs tail) : Co Ah ((laid Ah gs++tail).length+1) (laid Ah gs++tail) 0=some (gs,(laid Ah gs).length):=by
 have hm:=Lt gs
 rcases ht with rfl | ⟨hne,g,j,hg,hj,rfl⟩
 ·have:=Ly Dg gs [] ((laid Ah gs ++ []).length+1) hr (by rw [List.append_nil]; omega)
  rw [List.nil_append,List.length_nil] at this
  rw [List.append_nil] at this ⊢
  exact this
 ·by_cases hj0 : j=0
  ·subst hj0
   have:=Ly Dg gs [] ((laid Ah gs ++ []).length+1) hr (by rw [List.append_nil]; omega)
   rw [List.nil_append,List.length_nil] at this
   rw [List.take_zero]
   rw [List.append_nil] at this ⊢
   exact this
  ·have:=M1 Dg g j hg hj gs [] ((laid Ah gs++(grp Ah g).take j).length+1) hr (by rw [List.length_append,List.length_take]; omega) (by rw [List.nil_append]; exact hne)
   rw [List.nil_append,List.length_nil] at this
   exact this
theorem On.look (h : On z S gs tail) (hz : Am z=true) (hon : S.on=true) (hf : S.fails S.n=false) : C4 S z=(0,some (gs,(laid Ah gs).length,(laid Ah gs++tail).length)):=by
 unfold C4
 rw [h.2.2.read hz hon hf]
 dsimp only
 rw [if_neg (by decide),groups_on h.1 h.2.1]
 rfl
theorem On.begun (h : On z S gs tail) : On z S.begun gs tail:=⟨h.1,h.2.1,h.2.2.begun⟩
theorem On.crash (h : On z S gs tail) (hk : Ok S) (keep t : Int) : On z (S.crash keep t) gs tail:=⟨h.1,h.2.1,h.2.2.crash hk keep t⟩
def Has (z : Nm) (S : Dk) (L : Lw) (gs : List (List (List UInt8))) : Prop:=L.n=z∧∃ tail,On z S gs tail∧L.wh=((laid Ah gs).length : Int)∧L.sz=((laid Ah gs++tail).length : Int)
def Laid (z : Nm) (R : Dk × Lw × Int) (old new : List (List (List UInt8))) : Prop:=
 (R.2.2=0→Has z R.1 R.2.1 new)∧(R.2.2≠0→Has z R.1 R.2.1 old∨R.2.2=35∧∀ keep t,∃ tail,On z (R.1.crash keep t) old tail∨On z (R.1.crash keep t) new tail)
theorem right_snoc {rs : List (List UInt8)} (h : ∀ g∈gs,right g=true) (hr : right rs=true) : ∀ g∈gs ++ [rs],right g=true:=by
 intro g hg
 rcases List.mem_append.1 hg with hg | hg
 ·exact h g hg
 ·rw [List.mem_singleton.1 hg]
  exact hr
theorem Fr (gs : List (List (List UInt8))) (rs : List (List UInt8)) : laid Ah (gs ++ [rs])=laid Ah gs++grp Ah rs:=by rw [Nq,Ga]
theorem Ik (hr : ∀ g∈gs,right g=true) (h : Bd z S (laid Ah gs)) : On z S gs []:=⟨hr, .inl rfl,by rw [List.append_nil]; exact h⟩
end Go.Proofs.YtblniomnhpedjaaGreatDoor
namespace Go.Proofs.YtblniomnhpedjaaGreatDoor
variable {z : Nm} {S : Dk} {L : Lw} {gs new : List (List (List UInt8))} {tail : List UInt8} {rs : List (List UInt8)}
theorem ok_extend (hk : Ok S) (n : Nm) (s : Bool) (b : List UInt8) : Ok (Cb S n s b).1:=by
 unfold Cb
 split
 ·exact Ew hk n
 unfold Eu
 split
 ·exact Ie (Ew hk n) s
 unfold E0
 split
 ·exact Mh (Ie (Ew hk n) s) n b
 ·exact ok_sync (Mh (Ie (Ew hk n) s) n b) n
theorem L7 {p : Dk × Bool × Int} {wh k : Int} (hR : Kv z p (laid Ah gs++tail) (laid Ah new)) (hn : ∀ g∈new,right g=true) (ho : ∀ g∈gs,right g=true) (ht : Kb gs tail)
  (hL : L.n=z∧L.wh=((laid Ah gs).length : Int)∧L.sz=((laid Ah gs++tail).length : Int)) (hk : wh+k=((laid Ah new).length : Int)) : Laid z (Di p L wh k) gs new:=by
 unfold Di
 split
 ·next h0=>
  refine ⟨fun _=>⟨hL.1,[],?_,hk,?_⟩,fun e=>absurd rfl e⟩
  ·obtain ⟨g,hg⟩:=hR.1 h0
   exact Ik hn (.inr ⟨g,hg⟩)
  ·rw [List.append_nil]; exact hk
 ·next h0=>
  refine ⟨fun e=>absurd e h0,fun _=>?_⟩
  rcases hR.2 h0 with h1 | ⟨h1,-,h2⟩
  ·exact .inl ⟨hL.1,tail,⟨ho,ht,h1⟩,hL.2.1,hL.2.2⟩
  ·refine .inr ⟨h1,fun keep t=>?_⟩
   rcases h2 keep t with h3 | h3
   ·exact ⟨tail, .inl ⟨ho,ht,h3⟩⟩
   ·exact ⟨[], .inr (Ik hn h3)⟩
theorem laid_ne (gs : List (List (List UInt8))) (rs : List (List UInt8)) : laid Ah (gs ++ [rs]) ≠ []:=fun e=>by
 have:=Lt (gs ++ [rs])
 rw [e] at this
 simp at this
theorem reset_has (h : Has z S L gs) (hk : Ok S) (hr : right rs=true) : Laid z (Cy S L rs) gs [rs]:=by
 obtain ⟨hn,tail,⟨ho,ht,hF⟩,h1,h2⟩:=h
 unfold Cy
 rw [if_neg (by rw [hr]; decide),hn]
 have hR:=Lr hF hk (Gx rs) L.sure
 rw [← Ga Ah rs] at hR ⊢
 refine L7 hR (fun g hg=>by rw [List.mem_singleton.1 hg]; exact hr) ho ht ⟨hn,h1,h2⟩ ?_
 rw [Int.zero_add]
theorem Jh {all : List UInt8} (h : Bd z S all) (k : Nat) (h0 : (S.readAt z 0 (k : Int)).2=0) : (S.readAt z 0 (k : Int)).1=all.take k:=by
 unfold Dk.readAt at h0 ⊢
 split
 ·next e he=>
  rw [he] at h0
  dsimp only at h0
  unfold Dk.onFile at he
  split at he
  ·cases he; cases h0
  split at he
  ·cases he; cases h0
  split at he
  ·cases he; cases h0
  ·cases he
 ·next g fl he=>
  rw [he] at h0
  dsimp only at h0
  have hl:=(Je he).1
  rcases h with ⟨h,-⟩ | ⟨f,h⟩
  ·rw [h.lookD] at hl; cases hl
  rw [h.lookD] at hl
  injection hl with hl
  subst hl
  obtain ⟨x,h1,h2,h3⟩:=h.file
  have hb : S.bytes f=all:=by simp [Dk.bytes,h1,h2]
  split
  ·next hh=>rw [if_pos hh] at h0; cases h0
  next hh=>
  rw [if_neg hh] at h0
  split
  ·next h5=>rw [if_pos h5] at h0; cases h0
  ·rw [hb]
   simp
theorem put_has (h : Has z S L gs) (hk : Ok S) (hz : Am z=true) (hr : right rs=true) : Laid z (Ed S L rs) gs (gs ++ [rs]):=by
 obtain ⟨hn,tail,⟨ho,ht,hF⟩,h1,h2⟩:=h
 have hnew:=right_snoc ho hr
 have hlen : L.wh+((grp Ah rs).length : Int)=((laid Ah (gs ++ [rs])).length : Int):=by
  rw [Fr,List.length_append,h1]
  omega
 unfold Ed putW
 rw [hn]
 split
 ·next h0=>
  have e0 : gs = []:=laid_nil (List.eq_nil_of_length_eq_zero (by omega))
  subst e0
  have hR:=Lr hF hk (Gx rs) L.sure
  rw [← Ga Ah rs] at hR
  rw [List.nil_append,Ga] at hlen
  rw [← Ga Ah rs] at hlen ⊢
  exact L7 hR hnew ho ht ⟨hn,h1,h2⟩ hlen
 next h0=>
 split
 ·next he=>
  have et : tail = []:=by
   rw [h1,h2,List.length_append] at he
   exact List.eq_nil_of_length_eq_zero (by omega)
  subst et
  rw [List.append_nil] at hF
  have hne : laid Ah gs ≠ []:=fun e=>h0 (by rw [h1,e]; rfl)
  rcases hF with ⟨-,e⟩ | ⟨f,hK⟩
  ·exact absurd e hne
  have hE:=firm_extend hK hk hz L.sure (grp Ah rs)
  have hO:=ok_extend hk z L.sure (grp Ah rs)
  generalize Cb S z L.sure (grp Ah rs)=p at *
  unfold Di
  split
  ·next h5=>
   have h6:=hE.1 h5
   rw [← Fr] at h6
   exact ⟨fun _=>⟨hn,[],Ik hnew (.inr ⟨f,h6⟩),hlen,by rw [List.append_nil]; exact hlen⟩,fun e=>absurd rfl e⟩
  ·next h5=>
   refine ⟨fun e=>absurd e h5,fun _=>?_⟩
   rcases hE.2 h5 with h6 | ⟨h6,h7⟩
   ·exact .inl ⟨hn,[],Ik ho (.inr ⟨f,h6⟩),h1,h2⟩
   ·refine .inr ⟨h6,fun keep t=>?_⟩
    obtain ⟨k,hk1,hk2⟩:=h7.crash hO keep t
    have hkl : (laid Ah gs).length≤k:=by rw [List.length_take] at hk1; omega
    have e1 : (laid Ah gs++grp Ah rs).take k=laid Ah gs++(grp Ah rs).take (k - (laid Ah gs).length):=by
     rw [List.take_append,List.take_of_length_le hkl]
    rw [e1] at hk2
    by_cases hw : k - (laid Ah gs).length<(grp Ah rs).length
    ·exact ⟨_, .inl ⟨ho, .inr ⟨hne,rs,_,hr,hw,rfl⟩, .inr ⟨f,hk2⟩⟩⟩
    ·rw [List.take_of_length_le (by omega),← Fr] at hk2
     exact ⟨[], .inr (Ik hnew (.inr ⟨f,hk2⟩))⟩
 ·unfold Fu
  have hrd:=Jh hF (laid Ah gs).length
  rw [← h1] at hrd
  generalize S.readAt z 0 L.wh=r at *
  split
  ·next h5=>
   unfold Di
   rw [if_neg h5]
   exact ⟨fun e=>absurd e h5,fun _=>.inl ⟨hn,tail,⟨ho,ht,hF.begun⟩,h1,h2⟩⟩
  ·next h5=>
   have e1:=hrd (by simpa using h5)
   rw [List.take_left] at e1
   rw [e1]
   have hR:=Lr (b:=laid Ah gs++grp Ah rs) hF.begun hk.begun (by rw [← Fr]; exact laid_ne gs rs) L.sure
   rw [← Fr] at hR ⊢
   exact L7 hR hnew ho ht ⟨hn,h1,h2⟩ hlen
theorem Ph (h : Has z S L gs) (hk : Ok S) (hz : Am z=true) (hr : right rs=true) : Laid z (C1 S L rs) gs (gs ++ [rs]):=by
 have h0:=h
 obtain ⟨hn,tail,⟨ho,ht,hF⟩,h1,h2⟩:=h
 unfold C1
 rw [if_neg (by rw [hr]; decide),if_pos (by rw [hn,hF.size,h2])]
 exact put_has h0 hk hz hr
end Go.Proofs.YtblniomnhpedjaaGreatDoor
namespace Go.Proofs.YtblniomnhpedjaaGreatDoor
variable {z : Nm} {S S' : Dk} {L : Lw} {gs : List (List (List UInt8))} {rs : List (List UInt8)}
def Alt (S S' : Dk) : Prop:=S'.cut=S.cut∧S'.fails=S.fails∧S'.room=S.room
theorem Alt.refl (S : Dk) : Alt S S:=⟨rfl,rfl,rfl⟩
theorem Alt.trans {S'' : Dk} (h : Alt S S') (k : Alt S' S'') : Alt S S'':=⟨k.1.trans h.1,k.2.1.trans h.2.1,k.2.2.trans h.2.2⟩
theorem Alt.calm (h : Alt S S') (hc : Bz S) : Bz S':=⟨h.1.trans hc.1,fun k=>by rw [h.2.1]; exact hc.2 k⟩
theorem Gb (h : Bz S) : S.on=true:=by
 unfold Dk.on
 rw [h.1]
theorem Dp (S : Dk) : Alt S S.begun:=by
 unfold Dk.begun
 split <;> exact ⟨rfl,rfl,rfl⟩
theorem alt_app (S : Dk) (n : Nm) (b : List UInt8) : Alt S (S.app n b):=by
 unfold Dk.app
 split <;> split <;> exact ⟨rfl,rfl,rfl⟩
theorem L3 (S : Dk) (n : Nm) (b : List UInt8) : Alt S (S.append n b).1:=by
 unfold Dk.append
 split
 ·exact ⟨rfl,rfl,rfl⟩
 split
 ·exact ⟨rfl,rfl,rfl⟩
 split
 ·exact ⟨rfl,rfl,rfl⟩
 split
 ·exact ⟨rfl,rfl,rfl⟩
 ·exact alt_app S.next n b
theorem J9 (S : Dk) (n : Nm) : Alt S (S.sync n).1:=by
 unfold Dk.sync
 split
 ·exact Dp S
 ·split <;> exact Dp S
theorem O4 (S : Dk) : Alt S S.syncDir.1:=by
 unfold Dk.syncDir
 split
 ·exact ⟨rfl,rfl,rfl⟩
 split <;> exact ⟨rfl,rfl,rfl⟩
theorem Pb (S : Dk) (a b : Nm) : Alt S (S.rename a b).1:=by
 unfold Dk.rename
 split
 ·exact ⟨rfl,rfl,rfl⟩
 split
 ·exact ⟨rfl,rfl,rfl⟩
 split
 ·exact ⟨rfl,rfl,rfl⟩
 split
 ·exact ⟨rfl,rfl,rfl⟩
 split <;> exact ⟨rfl,rfl,rfl⟩
theorem Og (S : Dk) (n : Nm) : Alt S (S.remove n).1:=by
 unfold Dk.remove
 split
 ·exact Dp S
 ·split <;> exact Dp S
theorem alt_tidy (S : Dk) (n : Nm) : Alt S (Av S n).1:=by
 unfold Av
 split
 ·exact Alt.refl S
 ·exact Og S _
theorem N0 (S : Dk) (s : Bool) : Alt S (Be S s).1:=by
 unfold Be
 split
 ·exact Alt.refl S
 ·exact O4 S
theorem Ki (h : Bz S) {n : Nm} (hn : Am n=true) {f : Nat} (hl : look S.dir n=some f) : S.onFile n = .ok (f,false):=by
 unfold Dk.onFile
 rw [if_neg (by rw [Gb h]; decide),if_neg (by rw [hn]; decide),hl,h.2]
theorem calm_tidy (h : Bz S) (hn : Am (z++Ao)=true) : (Av S z).2=0:=by
 unfold Av
 split
 ·rfl
 ·next hs=>
  unfold Dk.size at hs
  split at hs
  ·omega
  ·next f hl=>
   unfold Dk.remove
   rw [Ki h hn hl]
   rfl
theorem M4 (h : Bz S) {n : Nm} (hn : Am n=true) {b : List UInt8} (hr : S.used+b.length≤S.room) : (S.append n b).2=0:=by
 unfold Dk.append
 rw [if_neg (by rw [Gb h]; decide),if_neg (by rw [hn]; decide),if_neg (fun e=>by have:=e.2; omega),if_neg (by rw [h.2]; decide)]
theorem calm_sync (h : Bz S) {n : Nm} (hn : Am n=true) {f : Nat} (hl : look S.dir n=some f) : (S.sync n).2=0:=by
 unfold Dk.sync
 rw [Ki h hn hl]
 rfl
theorem calm_syncDir (h : Bz S) : S.syncDir.2=0:=by
 unfold Dk.syncDir
 rw [if_neg (by rw [Gb h]; decide),if_neg (by rw [h.2]; decide)]
theorem Ni (h : Bz S) (s : Bool) : (Be S s).2.2=0:=by
 unfold Be
 split
 ·rfl
 ·exact calm_syncDir h
theorem calm_rename (h : Bz S) {a b : Nm} (ha : Am a=true) (hb : Am b=true) (hl : look S.dir a≠none) : (S.rename a b).2=0:=by
 unfold Dk.rename
 rw [if_neg (by rw [Gb h]; decide),if_neg (fun e=>e.elim (fun e=>by rw [ha] at e; cases e) (fun e=>by rw [hb] at e; cases e)),if_neg hl,if_neg (by rw [h.2]; decide)]
 split <;> rfl
theorem Md (h : Bz S) (hk : Ok S) (hz : Am z=true) (hn : Am (z++Ao)=true) (s : Bool) {b : List UInt8} (hb : b ≠ []) (hr : S.bulk+b.length+2≤S.room) : (Cs S z s b).2.2=0∧Alt S (Cs S z s b).1:=by
 have t0:=calm_tidy h hn
 have t1:=alt_tidy S z
 have t2:=Fy S z
 have t3:=Ew hk z
 have t4:=Jl t0
 unfold Cs
 rw [if_neg (by rw [t0]; decide)]
 generalize Av S z=T at *
 have c1:=t1.calm h
 have u1:=Ez t3
 have a0:=M4 c1 hn (b:=b) (by rw [t1.2.2]; omega)
 have a1:=t1.trans (L3 T.1 (z++Ao) b)
 have a2:=Lj t4 hb a0
 unfold rep2
 rw [if_neg (by rw [a0]; decide)]
 generalize T.1.append (z++Ao) b=V at *
 have c2:=a1.calm h
 have y0:=calm_sync c2 hn a2.1
 have y1:=a1.trans (J9 V.1 (z++Ao))
 have y2:=J6 a2.1 a2.2 y0
 unfold rep3
 rw [if_neg (by rw [y0]; decide)]
 generalize V.1.sync (z++Ao)=Y at *
 have c3:=y1.calm h
 have r0:=calm_rename c3 hn hz (by rw [y2.1]; simp)
 have r1:=y1.trans (Pb Y.1 (z++Ao) z)
 unfold rep4
 rw [if_neg (by rw [r0]; decide)]
 generalize Y.1.rename (z++Ao) z=N at *
 have c4:=r1.calm h
 have s0:=Ni c4 false
 have s1:=r1.trans (N0 N.1 false)
 unfold rep5
 rw [if_neg (by rw [s0]; decide)]
 exact ⟨s0,s1⟩
theorem Oq {n : Nm} {f : Nat} (hl : look S.dir n=some f) (b : List UInt8) : look (S.append n b).1.dir n=some f:=by
 unfold Dk.append
 split
 ·exact hl
 split
 ·exact hl
 split
 ·exact hl
 split
 ·exact hl
 show look (S.next.app n b).dir n=_
 unfold Dk.app
 rw [show look S.next.dir n=some f from hl]
 dsimp only
 split <;> exact hl
theorem calm_extend {f : Nat} {all : List UInt8} (hK : Kx z S f all.length all) (h : Bz S) (hk : Ok S) (hz : Am z=true) (hn : Am (z++Ao)=true) (s : Bool) {b : List UInt8} (hr : S.bulk+b.length+3≤S.room) : (Cb S z s b).2.2=0∧Alt S (Cb S z s b).1:=by
 have t0:=calm_tidy h hn
 have t1:=alt_tidy S z
 have t2:=Fy S z
 have t3:=Ew hk z
 have t5 : look (Av S z).1.dir z=some f∧look (Av S z).1.sure z=some f:=by
  have : Kx z (Av S z).1 f all.length all:=by
   unfold Av
   split
   ·exact hK
   ·exact hK.remove (Fi z)
  exact ⟨this.lookD,this.lookS⟩
 unfold Cb
 rw [if_neg (by rw [t0]; decide)]
 generalize Av S z=T at *
 have c1:=t1.calm h
 have s0:=Ni c1 s
 have s1:=t1.trans (N0 T.1 s)
 have s2:=If T.1 s
 have s3:=Ie t3 s
 have s5 : look (Be T.1 s).1.dir z=some f:=by
  unfold Be
  split
  ·exact t5.1
  ·unfold Dk.syncDir
   split
   ·exact t5.1
   split
   ·exact t5.2
   ·exact t5.1
 unfold Eu
 rw [if_neg (by rw [s0]; decide)]
 generalize Be T.1 s=U at *
 have c2:=s1.calm h
 have u1:=Ez s3
 have a0:=M4 c2 hz (b:=b) (by rw [s1.2.2]; omega)
 have a1:=s1.trans (L3 U.1 z b)
 have a5:=Oq s5 b
 unfold E0
 rw [if_neg (by rw [a0]; decide)]
 generalize U.1.append z b=V at *
 exact ⟨calm_sync (a1.calm h) hz a5,a1.trans (J9 V.1 z)⟩
theorem calm_readAt {all : List UInt8} {f : Nat} (hK : Kx z S f all.length all) (h : Bz S) (hz : Am z=true) (k : Nat) (hl : k≤all.length) : (S.readAt z 0 (k : Int)).2=0:=by
 obtain ⟨x,h1,h2,h3⟩:=hK.file
 have hb : S.bytes f=all:=by simp [Dk.bytes,h1,h2]
 unfold Dk.readAt
 rw [Ki h hz hK.lookD]
 dsimp only
 rw [hb,if_neg (by omega)]
 rfl
theorem I5 {p : Dk × Bool × Int} {wh k : Int} (h : p.2.2=0∧Alt S p.1) : (Di p L wh k).2.2=0∧Alt S (Di p L wh k).1:=by
 unfold Di
 rw [if_pos h.1]
 exact ⟨rfl,h.2⟩
theorem calm_resetW (h : Has z S L gs) (hc : Bz S) (hk : Ok S) (hz : Am z=true) (hn : Am (z++Ao)=true) (hr : right rs=true) (hb : S.bulk+(grp Ah rs).length+2≤S.room) : (Cy S L rs).2.2=0∧Alt S (Cy S L rs).1:=by
 unfold Cy
 rw [if_neg (by rw [hr]; decide),h.1]
 exact I5 (Md hc hk hz hn L.sure (Gx rs) hb)
theorem calm_appendW (h : Has z S L gs) (hc : Bz S) (hk : Ok S) (hz : Am z=true) (hn : Am (z++Ao)=true) (hr : right rs=true) (hb : S.bulk+(laid Ah gs).length+(grp Ah rs).length+4≤S.room) : (C1 S L rs).2.2=0∧Alt S (C1 S L rs).1:=by
 obtain ⟨hln,tail,⟨ho,ht,hF⟩,h1,h2⟩:=h
 unfold C1
 rw [if_neg (by rw [hr]; decide),if_pos (by rw [hln,hF.size,h2])]
 unfold Ed putW
 rw [hln]
 split
 ·exact I5 (Md hc hk hz hn L.sure (Gx rs) (by omega))
 next h0=>
 have hK : ∃ f,Kx z S f (laid Ah gs++tail).length (laid Ah gs++tail):=by
  rcases hF with ⟨-,e⟩ | hK
  ·have:=congrArg List.length e
   rw [List.length_append,List.length_nil] at this
   omega
  ·exact hK
 obtain ⟨f,hK⟩:=hK
 split
 ·exact I5 (calm_extend hK hc hk hz hn L.sure (by omega))
 ·have r0:=calm_readAt hK hc hz (laid Ah gs).length (by rw [List.length_append]; omega)
  have r1:=Jh hF (laid Ah gs).length r0
  rw [← h1] at r0 r1
  unfold Fu
  rw [if_neg (by rw [r0]; decide),r1,List.take_left]
  have hbb:=Fh S
  have hrm:=(Dp S).2.2
  have:=Md ((Dp S).calm hc) hk.begun hz hn L.sure (b:=laid Ah gs++grp Ah rs) (by rw [← Fr]; exact laid_ne gs rs) (by rw [List.length_append,hrm]; omega)
  exact I5 ⟨this.1,(Dp S).trans this.2⟩
end Go.Proofs.YtblniomnhpedjaaGreatDoor
namespace Go.Proofs.YtblniomnhpedjaaGreatDoor
variable {z : Nm} {S : Dk} {L : Lw} {gs : List (List (List UInt8))} {rs : List (List UInt8)}
theorem Iq (S : Dk) (n : Nm) (s : Bool) (e : Int) : (D9 S n s e).1.bulk≤S.bulk+2:=Fy S n
theorem L6 (S : Dk) (n : Nm) (s : Bool) (b : List UInt8) : (Cs S n s b).1.bulk≤S.bulk+b.length+12:=by
 have t:=Fy S n
 unfold Cs
 split
 ·show (Av S n).1.bulk≤_; omega
 have a:=I0 (S:=(Av S n).1) (n++Ao) b
 generalize (Av S n).1.append (n++Ao) b=V at *
 unfold rep2
 split
 ·have:=Iq V.1 n false V.2; omega
 have y:=Kd (S:=V.1) (n++Ao)
 generalize V.1.sync (n++Ao)=Y at *
 unfold rep3
 split
 ·have:=Iq Y.1 n false Y.2; omega
 have r:=Ns (S:=Y.1) (n++Ao) n
 generalize Y.1.rename (n++Ao) n=N at *
 unfold rep4
 split
 ·have:=Iq N.1 n false N.2; omega
 have u:=If N.1 false
 generalize Be N.1 false=U at *
 unfold rep5
 split
 ·have:=Iq U.1 n U.2.1 U.2.2; omega
 ·omega
theorem bulk_extendW (S : Dk) (n : Nm) (s : Bool) (b : List UInt8) : (Cb S n s b).1.bulk≤S.bulk+b.length+8:=by
 have t:=Fy S n
 unfold Cb
 split
 ·show (Av S n).1.bulk≤_; omega
 have u:=If (Av S n).1 s
 generalize Be (Av S n).1 s=U at *
 unfold Eu
 split
 ·omega
 have a:=I0 (S:=U.1) n b
 generalize U.1.append n b=V at *
 unfold E0
 split
 ·show V.1.bulk≤_; omega
 ·have y:=Kd (S:=V.1) n
  show (V.1.sync n).1.bulk≤_
  omega
theorem Fs (p : Dk × Bool × Int) (L : Lw) (wh k : Int) : (Di p L wh k).1=p.1:=by
 unfold Di
 split <;> rfl
theorem Oh (S : Dk) (L : Lw) (rs : List (List UInt8)) : (Cy S L rs).1.bulk≤S.bulk+(grp Ah rs).length+12:=by
 unfold Cy
 split
 ·show S.bulk≤_; omega
 ·rw [Fs]
  exact L6 _ _ _ _
theorem M0 (h : Has z S L gs) : (C1 S L rs).1.bulk≤S.bulk+(laid Ah gs).length+(grp Ah rs).length+13:=by
 obtain ⟨hln,tail,⟨ho,ht,hF⟩,h1,h2⟩:=h
 unfold C1
 split
 ·show S.bulk≤_; omega
 rw [if_pos (by rw [hln,hF.size,h2])]
 unfold Ed
 rw [Fs]
 unfold putW
 rw [hln]
 split
 ·have:=L6 S z L.sure (grp Ah rs); omega
 split
 ·have:=bulk_extendW S z L.sure (grp Ah rs); omega
 ·have hrd:=Jh hF (laid Ah gs).length
  rw [← h1] at hrd
  generalize S.readAt z 0 L.wh=r at *
  have hb:=Fh S
  unfold Fu
  split
  ·show S.begun.bulk≤_; omega
  ·next h5=>
   have e1:=hrd (by simpa using h5)
   rw [List.take_left] at e1
   rw [e1]
   have:=L6 S.begun z L.sure (laid Ah gs++grp Ah rs)
   rw [List.length_append] at this
   omega
theorem on_new (room : Nat) : On z (Dk.new room) [] []:=⟨by simp, .inl rfl, .inl ⟨⟨rfl,rfl,fun a ha=>by cases ha⟩,rfl⟩⟩
theorem On.has {tail : List UInt8} (h : On z S gs tail) (s : Bool) : Has z S ⟨z,s,((laid Ah gs).length : Int),((laid Ah gs++tail).length : Int)⟩ gs:=⟨rfl,tail,h,rfl,rfl⟩
end Go.Proofs.YtblniomnhpedjaaGreatDoor
namespace Go.Proofs.YtblniomnhpedjaaGreatDoor
open Go.RowKit
variable {w w' : World}
theorem ext_take (l : List UInt8) (n : Nat) : (Ae l).extract 0 n=Ae (l.take n):=by
 apply ByteArray.ext
 simp [Ae,List.extract_eq_take_drop]
end Go.Proofs.YtblniomnhpedjaaGreatDoor
namespace Go.Proofs.YtblniomnhpedjaaGreatDoor
open Go.RowKit
variable {B : Nat} {w w' : World} {F : Nat→Prop} {d l : Nat} {S : Dk} {L : Lw} {z : Nm} {gs : List (List (List UInt8))} {rs : List (List UInt8)} {v : Value}
def E1 (B : Nat) (w : World) (F : Nat→Prop) (d l : Nat) (z : Nm) (gs : List (List (List UInt8))) (m M : Nat) : Prop:=∃ S L,Lg B w F d l S L∧Has z S L gs∧Bz S∧S.bulk≤m∧S.room=M
theorem Ha {n : Nm} (h : Cc n=true) : Am n=true∧Am (n++Ao)=true:=by
 simp only [Cc,Am,Bool.and_eq_true,decide_eq_true_eq,List.all_eq_true,List.length_append] at h ⊢
 have ha : Ao.length=5:=rfl
 refine ⟨⟨⟨h.1.1,by omega⟩,h.2⟩,⟨by omega,by omega⟩,fun c hc=>?_⟩
 rcases List.mem_append.1 hc with hc | hc
 ·exact h.2 c hc
 ·exact (show ∀ c∈Ao,33≤c.toNat∧c.toNat≤126 by decide) c hc
end Go.Proofs.YtblniomnhpedjaaGreatDoor
