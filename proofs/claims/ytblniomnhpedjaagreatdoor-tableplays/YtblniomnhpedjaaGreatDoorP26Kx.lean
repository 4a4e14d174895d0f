/-
  Texts joined: Kx, Firm, Firm2, OnPure, HasPure, CalmPure, BulkPure, Few, CalmApi.
-/
import Derived.Test.YtblniomnhpedjaaGreatDoorP25TKeys
import Derived.Test.YtblniomnhpedjaaGreatDoorP20File2
import Derived.Test.YtblniomnhpedjaaGreatDoorP21Log
namespace Go.Proofs.YtblniomnhpedjaaGreatDoor
structure Kx (z : Nm) (S : Dk) (f : Nat) (was : Nat) (all : List UInt8) : Prop where
 lookS : look S.sure z=some f
 lookD : look S.dir z=some f
 acts : ∀ a∈S.acts,Eh z a
 file : ∃ x,S.files[f]? = some x∧x.b=all∧x.sure=was
section
variable {z : Nm} {S : Dk} {f was : Nat} {all : List UInt8}
theorem Kx.next (h : Kx z S f was all) : Kx z S.next f was all:=⟨h.lookS,h.lookD,h.acts,h.file⟩
theorem Kx.failAt (h : Kx z S f was all) (ks : List Int) : Kx z (S.failAt ks) f was all:=⟨h.lookS,h.lookD,h.acts,h.file⟩
theorem Kx.begun (h : Kx z S f was all) : Kx z S.begun f was all:=by
 unfold Dk.begun
 split
 ·exact h
 ·exact h.next
theorem Kx.ne (h : Kx z S f was all) (hk : Ok S) {n : Nm} (hn : z≠n) {g : Nat} (hg : look S.dir n=some g) : g≠f:=by
 rintro rfl
 exact hn (same_id hk.oneD (Hb h.lookD) (Hb hg))
theorem Kx.modify (h : Kx z S f was all) {g : Nat} (hg : g≠f) (fn : Fl→Fl) : ∃ x,(S.files.modify g fn)[f]? = some x∧x.b=all∧x.sure=was:=by
 have e : (S.files.modify g fn)[f]? = S.files[f]?:=by simp [hg]
 rw [e]
 exact h.file
theorem Kx.ext (h : Kx z S f was all) {g : Nat} (hg : g≠f) (b : List UInt8) : Kx z (S.ext g b) f was all:=
 ⟨h.lookS,h.lookD,fun a ha=>by
  rcases List.mem_append.1 ha with ha | ha
  ·exact h.acts a ha
  ·simp at ha; subst ha; trivial,h.modify hg _⟩
theorem Kx.ext_own (h : Kx z S f was all) (b : List UInt8) : Kx z (S.ext f b) f was (all++b):=
 ⟨h.lookS,h.lookD,fun a ha=>by
  rcases List.mem_append.1 ha with ha | ha
  ·exact h.acts a ha
  ·simp at ha; subst ha; trivial,by
  obtain ⟨x,h1,h2,h3⟩:=h.file
  refine ⟨{ x with b:=x.b++b },?_,by simp [h2],h3⟩
  show (S.files.modify f _)[f]? = _
  simp [h1]⟩
theorem Kx.mk1 (h : Kx z S f was all) {n : Nm} (hn : z≠n) : Kx z (S.mk1 n) f was all:=
 ⟨h.lookS,(Fe _ hn _).trans h.lookD,fun a ha=>by
  rcases List.mem_append.1 ha with ha | ha
  ·exact h.acts a ha
  ·simp at ha; subst ha; exact hn,by
  obtain ⟨x,h1,h2⟩:=h.file
  refine ⟨x,?_,h2⟩
  show (S.files ++ [_])[f]? = _
  rw [List.getElem?_append_left (List.getElem?_eq_some_iff.1 h1).1]
  exact h1⟩
theorem Kx.append (h : Kx z S f was all) (hk : Ok S) {n : Nm} (hn : z≠n) (b : List UInt8) : Kx z (S.append n b).1 f was all:=by
 unfold Dk.append
 split
 ·exact h
 split
 ·exact h.next
 split
 ·exact h.next
 split
 ·exact h.next
 show Kx z (S.next.app n b) f was all
 unfold Dk.app
 split
 ·rename_i g hg
  split
  ·exact h.next
  ·exact h.next.ext (h.ne hk hn hg) b
 ·have hlt : S.next.files.length≠f:=by
   obtain ⟨x,h1,_⟩:=h.file
   have:=(List.getElem?_eq_some_iff.1 h1).1
   exact fun e=>by rw [← e] at this; exact Nat.lt_irrefl _ this
  split
  ·exact h.next.mk1 hn
  ·exact (h.next.mk1 hn).ext hlt b
theorem Kx.append_own (h : Kx z S f was all) (b : List UInt8) : ((S.append z b).2=0→Kx z (S.append z b).1 f was (all++b))∧((S.append z b).2≠0→Kx z (S.append z b).1 f was all):=by
 unfold Dk.append
 split
 ·exact ⟨fun e=>absurd e (by simp),fun _=>h⟩
 split
 ·exact ⟨fun e=>absurd e (by simp),fun _=>h.next⟩
 split
 ·exact ⟨fun e=>absurd e (by simp),fun _=>h.next⟩
 split
 ·exact ⟨fun e=>absurd e (by simp),fun _=>h.next⟩
 refine ⟨fun _=>?_,fun e=>absurd rfl e⟩
 show Kx z (S.next.app z b) f was (all++b)
 unfold Dk.app
 rw [show look S.next.dir z=some f from h.lookD]
 show Kx z (if b = [] then S.next else S.next.ext f b) f was (all++b)
 split
 ·rename_i hb
  subst hb
  rw [List.append_nil]
  exact h.next
 ·exact h.next.ext_own b
theorem Kx.sync (h : Kx z S f was all) (hk : Ok S) {n : Nm} (hn : z≠n) : Kx z (S.sync n).1 f was all:=by
 unfold Dk.sync
 split
 ·exact h.begun
 ·rename_i g fl hon
  have hg : look S.dir n=some g:=by
   unfold Dk.onFile at hon
   split at hon
   ·cases hon
   split at hon
   ·cases hon
   split at hon
   ·cases hon
   ·rename_i g' hl
    cases hon
    exact hl
  have hne:=h.ne hk hn hg
  have hb:=h.begun
  split
  ·exact ⟨hb.lookS,hb.lookD,fun a ha=>hb.acts a (List.mem_filter.1 ha).1,hb.modify hne _⟩
  ·exact ⟨hb.lookS,hb.lookD,fun a ha=>hb.acts a (List.mem_filter.1 ha).1,hb.modify hne _⟩
theorem Kx.syncDir (h : Kx z S f was all) : Kx z S.syncDir.1 f was all:=by
 unfold Dk.syncDir
 split
 ·exact h
 split
 ·exact ⟨h.lookS,h.lookS,fun a ha=>h.acts a (List.mem_filter.1 ha).1,h.file⟩
 ·exact ⟨h.lookD,h.lookD,fun a ha=>h.acts a (List.mem_filter.1 ha).1,h.file⟩
theorem Kx.act (h : Kx z S f was all) {a : Ac} (ha : Eh z a) : Kx z (S.act a) f was all:=
 ⟨h.lookS,(Jt _ ha).trans h.lookD,fun x hx=>by
  rcases List.mem_append.1 hx with hx | hx
  ·exact h.acts x hx
  ·simp at hx; subst hx; exact ha,h.file⟩
theorem Kx.rename (h : Kx z S f was all) {a b : Nm} (ha : z≠a) (hb : z≠b) : Kx z (S.rename a b).1 f was all:=by
 unfold Dk.rename
 split
 ·exact h
 split
 ·exact h.next
 split
 ·exact h.next
 split
 ·exact h.next
 split
 ·exact h.next
 ·exact h.next.act ⟨ha,hb⟩
theorem Kx.remove (h : Kx z S f was all) {n : Nm} (hn : z≠n) : Kx z (S.remove n).1 f was all:=by
 unfold Dk.remove
 split
 ·exact h.begun
 split
 ·exact h.begun
 ·exact h.begun.act hn
theorem Kx.kept (h : Kx z S f was all) : Kept z S f was all:=by
 obtain ⟨x,h1,h2,h3⟩:=h.file
 exact ⟨h.lookS,h.lookD,h.acts,x,h1,h2,Nat.le_of_eq h3.symm⟩
theorem Jk {n : Nm} {g : Nat} {fl : Bool} (hon : S.onFile n = .ok (g,fl)) : look S.dir n=some g∧fl=S.fails S.n∧S.on=true∧Ap n=true:=by
 unfold Dk.onFile at hon
 split at hon
 ·cases hon
 split at hon
 ·cases hon
 split at hon
 ·cases hon
 ·rename_i h1 h2 _ g' hl
  cases hon
  exact ⟨hl,rfl,by simpa using h1,by simpa using h2⟩
theorem Kx.sync_own (h : Kx z S f was all) : ((S.sync z).2=0→Kx z (S.sync z).1 f all.length all)∧((S.sync z).2=34→Kx z (S.sync z).1 f was (all.take was))∧((S.sync z).2≠0→(S.sync z).2≠34→Kx z (S.sync z).1 f was all):=by
 have hb:=h.begun
 obtain ⟨x,h1,h2,h3⟩:=hb.file
 unfold Dk.sync
 split
 ·rename_i e he
  have hne : e=35∨e=30∨e=32:=by
   unfold Dk.onFile at he
   split at he
   ·cases he; exact .inl rfl
   split at he
   ·cases he; exact .inr (.inl rfl)
   split at he
   ·cases he; exact .inr (.inr rfl)
   ·cases he
  refine ⟨fun e0=>?_,fun e0=>?_,fun _ _=>hb⟩
  ·simp only at e0; omega
  ·simp only at e0; omega
 ·rename_i g fl hon
  have hg : g=f:=by
   have h5:=(Jk hon).1
   rw [h.lookD] at h5
   injection h5 with h5
   exact h5.symm
  subst hg
  split
  ·refine ⟨fun e0=>absurd e0 (by simp),fun _=>⟨hb.lookS,hb.lookD,fun a ha=>hb.acts a (List.mem_filter.1 ha).1,{ x with b:=x.b.take x.sure },?_,?_,h3⟩,fun _ e0=>absurd rfl e0⟩
   ·show (S.begun.files.modify g _)[g]? = _
    simp [h1]
   ·simp [h2,h3]
  ·refine ⟨fun _=>⟨hb.lookS,hb.lookD,fun a ha=>hb.acts a (List.mem_filter.1 ha).1,{ x with sure:=x.b.length },?_,h2,by simp [h2]⟩,fun e0=>absurd e0 (by simp),fun e0=>absurd rfl e0⟩
   show (S.begun.files.modify g _)[g]? = _
   simp [h1]
structure Gone (z : Nm) (S : Dk) : Prop where
 lookS : look S.sure z=none
 lookD : look S.dir z=none
 acts : ∀ a∈S.acts,Eh z a
theorem Gone.next (h : Gone z S) : Gone z S.next:=⟨h.lookS,h.lookD,h.acts⟩
theorem Gone.begun (h : Gone z S) : Gone z S.begun:=by
 unfold Dk.begun
 split
 ·exact h
 ·exact h.next
theorem Gone.ext (h : Gone z S) (g : Nat) (b : List UInt8) : Gone z (S.ext g b):=
 ⟨h.lookS,h.lookD,fun a ha=>by
  rcases List.mem_append.1 ha with ha | ha
  ·exact h.acts a ha
  ·simp at ha; subst ha; trivial⟩
theorem Gone.mk1 (h : Gone z S) {n : Nm} (hn : z≠n) : Gone z (S.mk1 n):=
 ⟨h.lookS,(Fe _ hn _).trans h.lookD,fun a ha=>by
  rcases List.mem_append.1 ha with ha | ha
  ·exact h.acts a ha
  ·simp at ha; subst ha; exact hn⟩
theorem Gone.append (h : Gone z S) {n : Nm} (hn : z≠n) (b : List UInt8) : Gone z (S.append n b).1:=by
 unfold Dk.append
 split
 ·exact h
 split
 ·exact h.next
 split
 ·exact h.next
 split
 ·exact h.next
 show Gone z (S.next.app n b)
 unfold Dk.app
 split
 ·split
  ·exact h.next
  ·exact h.next.ext _ b
 ·split
  ·exact h.next.mk1 hn
  ·exact (h.next.mk1 hn).ext _ b
theorem Gone.sync (h : Gone z S) (n : Nm) : Gone z (S.sync n).1:=by
 have hb:=h.begun
 unfold Dk.sync
 split
 ·exact hb
 ·split
  ·exact ⟨hb.lookS,hb.lookD,fun a ha=>hb.acts a (List.mem_filter.1 ha).1⟩
  ·exact ⟨hb.lookS,hb.lookD,fun a ha=>hb.acts a (List.mem_filter.1 ha).1⟩
theorem Gone.syncDir (h : Gone z S) : Gone z S.syncDir.1:=by
 unfold Dk.syncDir
 split
 ·exact h
 split
 ·exact ⟨h.lookS,h.lookS,fun a ha=>h.acts a (List.mem_filter.1 ha).1⟩
 ·exact ⟨h.lookD,h.lookD,fun a ha=>h.acts a (List.mem_filter.1 ha).1⟩
theorem Gone.act (h : Gone z S) {a : Ac} (ha : Eh z a) : Gone z (S.act a):=
 ⟨h.lookS,(Jt _ ha).trans h.lookD,fun x hx=>by
  rcases List.mem_append.1 hx with hx | hx
  ·exact h.acts x hx
  ·simp at hx; subst hx; exact ha⟩
theorem Gone.remove (h : Gone z S) {n : Nm} (hn : z≠n) : Gone z (S.remove n).1:=by
 unfold Dk.remove
 split
 ·exact h.begun
 split
 ·exact h.begun
 ·exact h.begun.act hn
theorem Nh {cs : List Ac} (h : ∀ a∈cs,Eh z a) (keep t : Int) : ∀ a∈A6 cs keep t,Eh z a:=by
 intro a ha
 unfold A6 at ha
 rcases List.mem_append.1 ha with ha | ha
 ·exact h a (List.mem_of_mem_take ha)
 ·unfold torn at ha
  split at ha
  ·simp at ha; subst ha; trivial
  ·simp at ha
theorem Gone.crash (h : Gone z S) (keep t : Int) : Gone z (S.crash keep t):=by
 have e : look (A5 S.sure (A6 S.acts keep t)) z=none:=by
  rw [Mt _ _ (Nh h.acts keep t)]
  exact h.lookS
 exact ⟨e,e,fun a ha=>by cases ha⟩
theorem Kx.crash (h : Kx z S f was all) (hk : Ok S) (keep t : Int) : ∃ k,was≤(all.take k).length∧Kx z (S.crash keep t) f (all.take k).length (all.take k):=by
 have e : look (A5 S.sure (A6 S.acts keep t)) z=some f:=by
  rw [Mt _ _ (Nh h.acts keep t)]
  exact h.lookS
 obtain ⟨x,h1,h2,h3⟩:=h.file
 have hl:=hk.lens f x h1
 have hf : (S.crash keep t).files[f]? = some ⟨x.b.take (x.sure+Ar (A6 S.acts keep t) f),x.sure+Ar (A6 S.acts keep t) f⟩:=by
  show (S.files.mapIdx _)[f]? = _
  rw [List.getElem?_mapIdx,h1]
  rfl
 have hl2:=(hk.crash keep t).lens f _ hf
 have hm : Ar (S.crash keep t).acts f=0:=rfl
 rw [hm] at hl2
 dsimp only at hl2
 rw [h2] at hl hl2
 refine ⟨x.sure+Ar (A6 S.acts keep t) f,?_,e,e,(fun a ha=>by cases ha),_,hf,by rw [h2],by dsimp only; omega⟩
 rw [List.length_take] at hl2 ⊢
 omega
end
end Go.Proofs.YtblniomnhpedjaaGreatDoor
namespace Go.Proofs.YtblniomnhpedjaaGreatDoor
variable {z : Nm} {S : Dk} {all b : List UInt8}
def Bj (z : Nm) (S : Dk) (all : List UInt8) : Prop:=(Gone z S∧all = []) ∨ ∃ f,Kx z S f all.length all
theorem E0 (z : Nm) : z≠z++Ao:=fun e=>by
 have:=congrArg List.length e
 simp [Ao] at this
theorem Bj.begun (h : Bj z S all) : Bj z S.begun all:=by
 rcases h with ⟨h,e⟩ | ⟨f,h⟩
 ·exact .inl ⟨h.begun,e⟩
 ·exact .inr ⟨f,h.begun⟩
theorem Bj.append (h : Bj z S all) (hk : Ok S) {n : Nm} (hn : z≠n) (b : List UInt8) : Bj z (S.append n b).1 all:=by
 rcases h with ⟨h,e⟩ | ⟨f,h⟩
 ·exact .inl ⟨h.append hn b,e⟩
 ·exact .inr ⟨f,h.append hk hn b⟩
theorem Bj.sync (h : Bj z S all) (hk : Ok S) {n : Nm} (hn : z≠n) : Bj z (S.sync n).1 all:=by
 rcases h with ⟨h,e⟩ | ⟨f,h⟩
 ·exact .inl ⟨h.sync n,e⟩
 ·exact .inr ⟨f,h.sync hk hn⟩
theorem Bj.syncDir (h : Bj z S all) : Bj z S.syncDir.1 all:=by
 rcases h with ⟨h,e⟩ | ⟨f,h⟩
 ·exact .inl ⟨h.syncDir,e⟩
 ·exact .inr ⟨f,h.syncDir⟩
theorem Bj.remove (h : Bj z S all) {n : Nm} (hn : z≠n) : Bj z (S.remove n).1 all:=by
 rcases h with ⟨h,e⟩ | ⟨f,h⟩
 ·exact .inl ⟨h.remove hn,e⟩
 ·exact .inr ⟨f,h.remove hn⟩
theorem Bj.tidy (h : Bj z S all) : Bj z (As S z).1 all:=by
 unfold As
 split
 ·exact h
 ·exact h.remove (E0 z)
theorem Bj.settle (h : Bj z S all) (s : Bool) : Bj z (Ba S s).1 all:=by
 unfold Ba
 split
 ·exact h
 ·exact h.syncDir
theorem Bj.crash (h : Bj z S all) (hk : Ok S) (keep t : Int) : Bj z (S.crash keep t) all:=by
 rcases h with ⟨h,e⟩ | ⟨f,h⟩
 ·exact .inl ⟨h.crash keep t,e⟩
 ·obtain ⟨k,h1,h2⟩:=h.crash hk keep t
  have e : all.take k=all:=List.take_of_length_le (by rw [List.length_take] at h1; omega)
  rw [e] at h2
  exact .inr ⟨f,h2⟩
theorem Bj.read (h : Bj z S all) (hz : Ap z=true) (hon : S.on=true) (hf : S.fails S.n=false) : Cw S z=(all,0):=by
 have hof : S.onFile z=match look S.dir z with
   | none=>.error 32
   | some f=>.ok (f,S.fails S.n):=by
  unfold Dk.onFile
  rw [if_neg (by simp [hon]),if_neg (by simp [hz])]
  cases look S.dir z <;> rfl
 unfold Cw Dk.read
 rw [hof]
 rcases h with ⟨h,e⟩ | ⟨f,h⟩
 ·rw [h.lookD,e]
  rfl
 ·rw [h.lookD]
  obtain ⟨x,h1,h2,h3⟩:=h.file
  have hb : S.bytes f=all:=by simp [Dk.bytes,h1,h2]
  simp only [hf,hb]
  rfl
theorem Bj.size (h : Bj z S all) : max (S.size z) 0=(all.length : Int):=by
 unfold Dk.size
 rcases h with ⟨h,e⟩ | ⟨f,h⟩
 ·rw [h.lookD,e]
  rfl
 ·rw [h.lookD]
  obtain ⟨x,h1,h2,h3⟩:=h.file
  have hb : S.bytes f=all:=by simp [Dk.bytes,h1,h2]
  simp only [hb]
  omega
theorem K6 (hk : Ok S) (n : Nm) (b : List UInt8) : Ok (S.append n b).1:=by
 unfold Dk.append
 split
 ·exact hk
 split
 ·exact hk.next
 split
 ·exact hk.next
 split
 ·exact hk.next
 show Ok (S.next.app n b)
 unfold Dk.app
 cases hl : look S.next.dir n with
 | some f=>
  dsimp only
  split
  ·exact hk.next
  ·exact hk.next.ext (hk.next.idD (Dq hl)) b
 | none=>
  dsimp only
  split
  ·exact hk.next.mk1 hl
  ·exact (hk.next.mk1 hl).ext (by show S.next.files.length<(S.next.files ++ [_]).length; simp) b
theorem ok_sync (hk : Ok S) (n : Nm) : Ok (S.sync n).1:=by
 unfold Dk.sync
 split
 ·exact hk.begun
 ·split
  ·exact hk.begun.undoF _
  ·exact hk.begun.keepF _
theorem ok_syncDir (hk : Ok S) : Ok S.syncDir.1:=by
 unfold Dk.syncDir
 split
 ·exact hk
 split
 ·exact hk.next.undoD
 ·exact hk.next.keepD
theorem ok_rename (hk : Ok S) (a b : Nm) : Ok (S.rename a b).1:=by
 unfold Dk.rename
 split
 ·exact hk
 split
 ·exact hk.next
 split
 ·exact hk.next
 ·next hl=>
  split
  ·exact hk.next
  split
  ·exact hk.next
  ·next he=>exact hk.next.ren hl he
theorem ok_remove (hk : Ok S) (n : Nm) : Ok (S.remove n).1:=by
 unfold Dk.remove
 split
 ·exact hk.begun
 ·next g fl hon=>
  split
  ·exact hk.begun
  ·refine hk.begun.rem ?_
   rw [(D3 S).1,(Jk hon).1]
   simp
theorem Ex (hk : Ok S) (n : Nm) : Ok (As S n).1:=by
 unfold As
 split
 ·exact hk
 ·exact ok_remove hk _
theorem Hq (hk : Ok S) (s : Bool) : Ok (Ba S s).1:=by
 unfold Ba
 split
 ·exact hk
 ·exact ok_syncDir hk
theorem Kx.sync_code {f was : Nat} (h : Kx z S f was all) (hz : Ap z=true) : (S.sync z).2=0∨(S.sync z).2=34∨(S.sync z).2=35:=by
 unfold Dk.sync
 split
 ·rename_i e he
  unfold Dk.onFile at he
  split at he
  ·cases he; exact .inr (.inr rfl)
  split at he
  ·next hb=>rw [hz] at hb; cases hb
  split at he
  ·next hl=>rw [h.lookD] at hl; cases hl
  ·cases he
 ·split
  ·exact .inr (.inl rfl)
  ·exact .inl rfl
theorem firm_extend {f : Nat} (h : Kx z S f all.length all) (_hk : Ok S) (hz : Ap z=true) (s : Bool) (b : List UInt8) :
  ((Bw S z s b).2.2=0→Kx z (Bw S z s b).1 f (all++b).length (all++b))∧((Bw S z s b).2.2≠0→Kx z (Bw S z s b).1 f all.length all∨(Bw S z s b).2.2=35∧Kx z (Bw S z s b).1 f all.length (all++b)):=by
 have h1 : Kx z (As S z).1 f all.length all:=by
  unfold As
  split
  ·exact h
  ·exact h.remove (E0 z)
 unfold Bw
 generalize As S z=T at *
 split
 ·next hne=>exact ⟨fun e=>absurd e hne,fun _=>.inl h1⟩
 ·have h2 : Kx z (Ba T.1 s).1 f all.length all:=by
   unfold Ba
   split
   ·exact h1
   ·exact h1.syncDir
  unfold D8
  generalize Ba T.1 s=U at *
  split
  ·next hne=>exact ⟨fun e=>absurd e hne,fun _=>.inl h2⟩
  ·have h3:=h2.append_own b
   unfold Ec
   generalize U.1.append z b=V at *
   split
   ·next hne=>exact ⟨fun e=>absurd e hne,fun _=>.inl (h3.2 hne)⟩
   ·next he0=>
    have he : V.2=0:=by simpa using he0
    have h4:=h3.1 he
    have h5:=h4.sync_own
    have h6:=h4.sync_code hz
    refine ⟨fun e=>h5.1 e,fun e=>?_⟩
    rcases h6 with h6 | h6 | h6
    ·exact absurd h6 e
    ·have:=h5.2.1 h6
     rw [List.take_left] at this
     exact .inl this
    ·exact .inr ⟨h6,h5.2.2 e (by rw [h6]; decide)⟩
end Go.Proofs.YtblniomnhpedjaaGreatDoor
namespace Go.Proofs.YtblniomnhpedjaaGreatDoor
variable {z a : Nm} {S : Dk} {all b : List UInt8} {g : Nat}
def Fresh (a : Nm) (S : Dk) (g : Nat) (b : List UInt8) : Prop:=look S.dir a=some g∧∃ x,S.files[g]? = some x∧x.b=b∧x.sure=b.length
theorem Ir (h : (As S z).2=0) : look (As S z).1.dir (z++Ao)=none:=by
 unfold As at h ⊢
 split
 ·next hs=>
  unfold Dk.size at hs
  split at hs
  ·next hl=>exact hl
  ·omega
 ·next hs=>
  rw [if_neg hs] at h
  unfold Dk.remove at h ⊢
  split
  ·next e he=>
   rw [he] at h
   unfold Dk.onFile at he
   dsimp only at h
   split at he
   ·cases he; cases h
   split at he
   ·cases he; cases h
   split at he
   ·cases he; cases h
   ·cases he
  ·next g fl he=>
   rw [he] at h
   dsimp only at h
   split
   ·next hf=>rw [if_pos hf] at h; cases h
   ·show look (del (z++Ao) S.begun.dir) (z++Ao)=none
    rw [D5,if_pos rfl]
theorem Ky (hl : look S.dir a=none) (hb : b ≠ []) (h : (S.append a b).2=0) : look (S.append a b).1.dir a=some S.files.length∧(S.append a b).1.files[S.files.length]? = some ⟨b,0⟩:=by
 unfold Dk.append at h ⊢
 split
 ·next e=>rw [if_pos e] at h; cases h
 next e1=>
 rw [if_neg e1] at h
 split
 ·next e=>rw [if_pos e] at h; cases h
 next e2=>
 rw [if_neg e2] at h
 split
 ·next e=>rw [if_pos e] at h; cases h
 next e3=>
 rw [if_neg e3] at h
 split
 ·next e=>rw [if_pos e] at h; cases h
 have e : S.next.app a b=(S.next.mk1 a).ext S.next.files.length b:=by
  unfold Dk.app
  rw [show look S.next.dir a=none from hl]
  exact if_neg hb
 show look (S.next.app a b).dir a=_∧(S.next.app a b).files[_]? = _
 rw [e]
 constructor
 ·show look (ins a S.files.length S.dir) a=_
  rw [look_ins hl,if_pos rfl]
 ·show ((S.files ++ [(⟨[],0⟩ : Fl)]).modify S.files.length _)[S.files.length]? = _
  simp
theorem La (hl : look S.dir a=some g) (hf : S.files[g]? = some ⟨b,0⟩) (h : (S.sync a).2=0) : Fresh a (S.sync a).1 g b:=by
 unfold Dk.sync at h ⊢
 split
 ·next e he=>
  rw [he] at h
  unfold Dk.onFile at he
  dsimp only at h
  split at he
  ·cases he; cases h
  split at he
  ·cases he; cases h
  split at he
  ·cases he; cases h
  ·cases he
 ·next g' fl he=>
  rw [he] at h
  dsimp only at h
  have hg:=(Jk he).1
  rw [hl] at hg
  injection hg with hg
  subst hg
  split
  ·next hf=>rw [if_pos hf] at h; cases h
  ·refine ⟨(by show look S.begun.dir a=_; rw [(D3 S).1]; exact hl),⟨b,b.length⟩,?_,rfl,rfl⟩
   show (S.begun.files.modify g _)[g]? = _
   rw [(D3 S).2.1]
   simp [hf]
theorem rename_done {n m : Nm} (hne : n≠m) (h : (S.rename n m).2=0) : S.rename n m=(S.next.act (.ren n m),0):=by
 unfold Dk.rename at h ⊢
 split
 ·next e=>rw [if_pos e] at h; cases h
 next e1=>
 rw [if_neg e1] at h
 split
 ·next e=>rw [if_pos e] at h; cases h
 next e2=>
 rw [if_neg e2] at h
 split
 ·next e=>rw [if_pos e] at h; cases h
 next e3=>
 rw [if_neg e3] at h
 split
 ·next e=>rw [if_pos e] at h; cases h
 rfl
theorem rename_not {n m : Nm} (h : (S.rename n m).2≠0) : (S.rename n m).1=S∨(S.rename n m).1=S.next:=by
 unfold Dk.rename at h ⊢
 split
 ·exact .inl rfl
 next e1=>
 rw [if_neg e1] at h
 split
 ·exact .inr rfl
 next e2=>
 rw [if_neg e2] at h
 split
 ·exact .inr rfl
 next e3=>
 rw [if_neg e3] at h
 split
 ·exact .inr rfl
 next e4=>
 rw [if_neg e4] at h
 split
 ·exact .inr rfl
 next e5=>
 rw [if_neg e5] at h
 exact absurd rfl h
theorem Bj.next (h : Bj z S all) : Bj z S.next all:=by
 rcases h with ⟨h,e⟩ | ⟨f,h⟩
 ·exact .inl ⟨h.next,e⟩
 ·exact .inr ⟨f,h.next⟩
theorem Mp (l : Dir) (h : look l a=some g) : look (Bl l (.ren a z)) z=some g:=by
 show look (match look l a with | some f=>ins z f (del z (del a l)) | none=>l) z=_
 rw [h]
 show look (ins z g (del z (del a l))) z=_
 rw [look_ins (by rw [D5,if_pos rfl]),if_pos rfl]
theorem renamed_keep (hf : Fresh a S g b) : Kx z (S.act (.ren a z)).next.keepD g b.length b:=by
 obtain ⟨h1,x,h2,h3,h4⟩:=hf
 refine ⟨Mp _ h1,Mp _ h1,fun c hc=>?_,x,h2,h3,h4⟩
 have:=(List.mem_filter.1 hc).2
 cases c <;> first | trivial | cases this
theorem renamed_undo (h : Bj z S all) : Bj z (S.act (.ren a z)).next.undoD all:=by
 have hm : ∀ c∈(S.act (.ren a z)).next.undoD.acts,Eh z c:=fun c hc=>by
  have:=(List.mem_filter.1 hc).2
  cases c <;> first | trivial | cases this
 rcases h with ⟨h,e⟩ | ⟨f,h⟩
 ·exact .inl ⟨⟨h.lookS,h.lookS,hm⟩,e⟩
 ·exact .inr ⟨f,h.lookS,h.lookS,hm,h.file⟩
theorem stay_pre (pre : List Ac) (n m : Nm) (keep t : Int) (h : keep.toNat≤pre.length) : A6 (pre ++ [.ren n m]) keep t=A6 pre keep t:=by
 unfold A6
 rw [List.take_append_of_le_length h,List.drop_append_of_le_length h]
 cases pre.drop keep.toNat with
 | nil=>rfl
 | cons c r=>cases c <;> rfl
theorem stay_full (cs : List Ac) (keep t : Int) (h : cs.length≤keep.toNat) : A6 cs keep t=cs:=by
 unfold A6
 rw [List.take_of_length_le h,List.drop_of_length_le h]
 simp [torn]
theorem P9 (h : Bj z S all) (hk : Ok S) (hr : Ok (S.act (.ren a z))) (hf : Fresh a S g b) (keep t : Int) : Bj z ((S.act (.ren a z)).crash keep t) all∨Bj z ((S.act (.ren a z)).crash keep t) b:=by
 by_cases hc : keep.toNat≤S.acts.length
 ·have e : (S.act (.ren a z)).crash keep t=S.crash keep t:=by
   unfold Dk.crash
   rw [show (S.act (.ren a z)).acts=S.acts ++ [.ren a z] from rfl,stay_pre _ _ _ _ _ hc]
   rfl
  rw [e]
  exact .inl (h.crash hk keep t)
 ·right
  obtain ⟨h1,x,h2,h3,h4⟩:=hf
  have hs : A6 (S.act (.ren a z)).acts keep t=(S.act (.ren a z)).acts:=stay_full _ _ _ (by
   show (S.acts ++ [_]).length≤_
   rw [List.length_append,List.length_singleton]
   omega)
  have hl:=hr.lens g x h2
  have hd : look ((S.act (.ren a z)).crash keep t).dir z=some g:=by
   show look (A5 _ (A6 (S.act (.ren a z)).acts keep t)) z=_
   rw [hs,← hr.dir]
   exact Mp _ h1
  have hfl : ((S.act (.ren a z)).crash keep t).files[g]? = some ⟨x.b.take (x.sure+Ar (S.act (.ren a z)).acts g),x.sure+Ar (S.act (.ren a z)).acts g⟩:=by
   show (S.files.mapIdx _)[g]? = _
   rw [List.getElem?_mapIdx,h2]
   simp only [Option.map_some,hs]
  refine .inr ⟨g,hd,hd,(fun c hc=>by cases hc),_,hfl,?_,?_⟩
  ·dsimp only
   rw [← hl,List.take_length,h3]
  ·dsimp only
   rw [← hl,h3]
theorem tidy_off (h : S.on=false) (z : Nm) : (As S z).1=S:=by
 unfold As
 split
 ·rfl
 ·rw [off_remove h]
def Lf (z : Nm) (R : Dk × Bool × Int) (all b : List UInt8) : Prop:=
 (R.2.2=0→∃ g,Kx z R.1 g b.length b)∧(R.2.2≠0→Bj z R.1 all∨R.2.2=35∧R.1.on=false∧∀ keep t,Bj z (R.1.crash keep t) all∨Bj z (R.1.crash keep t) b)
theorem Jm {e : Int} {s : Bool} (h : Bj z S all) (he : e≠0) : Lf z (D4 S z s e) all b:=⟨fun e0=>absurd e0 he,fun _=>.inl h.tidy⟩
theorem K0 (h : Bj z S all) (hk : Ok S) (hb : b ≠ []) (s : Bool) : Lf z (Cc S z s b) all b:=by
 have ha : z++Ao≠z:=fun e=>E0 z e.symm
 have h1:=h.tidy
 have k1:=Ex hk z
 have n1:=Ir (S:=S) (z:=z)
 unfold Cc
 generalize As S z=T at *
 split
 ·next hne=>exact ⟨fun e=>absurd e hne,fun _=>.inl h1⟩
 next he1=>
 have n1:=n1 (by simpa using he1)
 have h2:=h1.append k1 (E0 z) b
 have k2:=K6 k1 (z++Ao) b
 have n2:=Ky n1 hb
 unfold rep2
 generalize T.1.append (z++Ao) b=V at *
 split
 ·next hne=>exact Jm h2 hne
 next he2=>
 have n2:=n2 (by simpa using he2)
 have h3:=h2.sync k2 (E0 z)
 have k3:=ok_sync k2 (z++Ao)
 have n3:=La n2.1 n2.2
 unfold rep3
 generalize V.1.sync (z++Ao)=Y at *
 split
 ·next hne=>exact Jm h3 hne
 next he3=>
 have n3:=n3 (by simpa using he3)
 have r4:=rename_done (S:=Y.1) ha
 have q4:=rename_not (S:=Y.1) (n:=z++Ao) (m:=z)
 have k4:=ok_rename k3 (z++Ao) z
 unfold rep4
 generalize Y.1.rename (z++Ao) z=N at *
 split
 ·next hne=>
  refine Jm ?_ hne
  rcases q4 hne with q | q
  ·rw [q]; exact h3
  ·rw [q]; exact h3.next
 next he4=>
 have r4:=r4 (by simpa using he4)
 subst r4
 dsimp only at k4
 have hset : ∀ M : Dk,Ba M false=(M.syncDir.1,M.syncDir.2 == 0,M.syncDir.2):=fun _=>rfl
 by_cases hon : (Y.1.next.act (.ren (z++Ao) z)).on=false
 ·have hU : Ba (Y.1.next.act (.ren (z++Ao) z)) false=(Y.1.next.act (.ren (z++Ao) z),false,35):=by
   rw [hset,off_syncDir hon]
   rfl
  rw [hU]
  unfold rep5
  rw [if_pos (show (35 : Int)≠0 by decide)]
  refine ⟨fun e=>absurd (show (35 : Int)=0 from e) (by decide),fun _=>.inr ⟨rfl,?_,?_⟩⟩
  ·show (As (Y.1.next.act (.ren (z++Ao) z)) z).1.on=false
   rw [tidy_off hon]
   exact hon
  ·intro keep t
   show Bj z ((As (Y.1.next.act (.ren (z++Ao) z)) z).1.crash keep t) all∨Bj z ((As (Y.1.next.act (.ren (z++Ao) z)) z).1.crash keep t) b
   rw [tidy_off hon]
   exact P9 h3.next k3.next k4 n3 keep t
 ·by_cases hf : (Y.1.next.act (.ren (z++Ao) z)).fails (Y.1.next.act (.ren (z++Ao) z)).n=true
  ·have hU : Ba (Y.1.next.act (.ren (z++Ao) z)) false=((Y.1.next.act (.ren (z++Ao) z)).next.undoD,false,34):=by
    rw [hset]
    unfold Dk.syncDir
    rw [if_neg hon,if_pos hf]
    rfl
   rw [hU]
   unfold rep5
   rw [if_pos (show (34 : Int)≠0 by decide)]
   exact Jm (renamed_undo h3.next) (show (34 : Int)≠0 by decide)
  ·have hU : Ba (Y.1.next.act (.ren (z++Ao) z)) false=((Y.1.next.act (.ren (z++Ao) z)).next.keepD,true,0):=by
    rw [hset]
    unfold Dk.syncDir
    rw [if_neg hon,if_neg hf]
    rfl
   rw [hU]
   unfold rep5
   rw [if_neg (show ¬ (0 : Int)≠0 by decide)]
   exact ⟨fun _=>⟨_,renamed_keep n3⟩,fun e=>absurd rfl e⟩
end Go.Proofs.YtblniomnhpedjaaGreatDoor
namespace Go.Proofs.YtblniomnhpedjaaGreatDoor
variable {z : Nm} {S : Dk} {gs : List (List (List UInt8))} {tail : List UInt8}
def Mr (gs : List (List (List UInt8))) (tail : List UInt8) : Prop:=tail = []∨laid Ah gs ≠ []∧∃ g j,right g=true∧j<(grp Ah g).length∧tail=(grp Ah g).take j
def On (z : Nm) (S : Dk) (gs : List (List (List UInt8))) (tail : List UInt8) : Prop:=(∀ g∈gs,right g=true)∧Mr gs tail∧Bj z S (laid Ah gs++tail)
theorem grp_pos (g : List (List UInt8)) : 16≤(grp Ah g).length:=by
 have:=Fc Dj g
 omega
theorem Gr (g : List (List UInt8)) : grp Ah g ≠ []:=fun e=>by
 have:=grp_pos g
 rw [e] at this
 simp at this
theorem K1 (gs : List (List (List UInt8))) : gs.length≤(laid Ah gs).length:=by
 induction gs with
 | nil=>simp
 | cons g r ih=>
  have:=grp_pos g
  rw [Ly,List.length_append,List.length_cons]
  omega
theorem laid_nil (h : laid Ah gs = []) : gs = []:=by
 have:=K1 gs
 rw [h] at this
 exact List.eq_nil_of_length_eq_zero (by simpa using this)
theorem groups_on (hr : ∀ g∈gs,right g=true) (ht : Mr gs tail) : Cz Ah ((laid Ah gs++tail).length+1) (laid Ah gs++tail) 0=some (gs,(laid Ah gs).length):=by
 have hm:=K1 gs
 rcases ht with rfl | ⟨hne,g,j,hg,hj,rfl⟩
 ·have:=Lp Dj gs [] ((laid Ah gs ++ []).length+1) hr (by rw [List.append_nil]; omega)
  rw [List.nil_append,List.length_nil] at this
  rw [List.append_nil] at this ⊢
  exact this
 ·by_cases hj0 : j=0
  ·subst hj0
   have:=Lp Dj gs [] ((laid Ah gs ++ []).length+1) hr (by rw [List.append_nil]; omega)
   rw [List.nil_append,List.length_nil] at this
   rw [List.take_zero]
   rw [List.append_nil] at this ⊢
   exact this
  ·have:=Nd Dj g j hg hj gs [] ((laid Ah gs++(grp Ah g).take j).length+1) hr (by rw [List.length_append,List.length_take]; omega) (by rw [List.nil_append]; exact hne)
   rw [List.nil_append,List.length_nil] at this
   exact this
theorem On.look (h : On z S gs tail) (hz : Ap z=true) (hon : S.on=true) (hf : S.fails S.n=false) : Cu S z=(0,some (gs,(laid Ah gs).length,(laid Ah gs++tail).length)):=by
 unfold Cu
 rw [h.2.2.read hz hon hf]
 dsimp only
 rw [if_neg (by decide),groups_on h.1 h.2.1]
 rfl
theorem On.begun (h : On z S gs tail) : On z S.begun gs tail:=⟨h.1,h.2.1,h.2.2.begun⟩
theorem On.crash (h : On z S gs tail) (hk : Ok S) (keep t : Int) : On z (S.crash keep t) gs tail:=⟨h.1,h.2.1,h.2.2.crash hk keep t⟩
def Has (z : Nm) (S : Dk) (L : Lw) (gs : List (List (List UInt8))) : Prop:=L.n=z∧∃ tail,On z S gs tail∧L.wh=((laid Ah gs).length : Int)∧L.sz=((laid Ah gs++tail).length : Int)
def Laid (z : Nm) (R : Dk × Lw × Int) (old new : List (List (List UInt8))) : Prop:=
 (R.2.2=0→Has z R.1 R.2.1 new)∧(R.2.2≠0→Has z R.1 R.2.1 old∨R.2.2=35∧∀ keep t,∃ tail,On z (R.1.crash keep t) old tail∨On z (R.1.crash keep t) new tail)
theorem right_snoc {rs : List (List UInt8)} (h : ∀ g∈gs,right g=true) (hr : right rs=true) : ∀ g∈gs ++ [rs],right g=true:=by
 intro g hg
 rcases List.mem_append.1 hg with hg | hg
 ·exact h g hg
 ·rw [List.mem_singleton.1 hg]
  exact hr
theorem Fy (gs : List (List (List UInt8))) (rs : List (List UInt8)) : laid Ah (gs ++ [rs])=laid Ah gs++grp Ah rs:=by rw [O0,Fu]
theorem Ia (hr : ∀ g∈gs,right g=true) (h : Bj z S (laid Ah gs)) : On z S gs []:=⟨hr, .inl rfl,by rw [List.append_nil]; exact h⟩
end Go.Proofs.YtblniomnhpedjaaGreatDoor
namespace Go.Proofs.YtblniomnhpedjaaGreatDoor
variable {z : Nm} {S : Dk} {L : Lw} {gs new : List (List (List UInt8))} {tail : List UInt8} {rs : List (List UInt8)}
theorem ok_extend (hk : Ok S) (n : Nm) (s : Bool) (b : List UInt8) : Ok (Bw S n s b).1:=by
 unfold Bw
 split
 ·exact Ex hk n
 unfold D8
 split
 ·exact Hq (Ex hk n) s
 unfold Ec
 split
 ·exact K6 (Hq (Ex hk n) s) n b
 ·exact ok_sync (K6 (Hq (Ex hk n) s) n b) n
theorem K5 {p : Dk × Bool × Int} {wh k : Int} (hR : Lf z p (laid Ah gs++tail) (laid Ah new)) (hn : ∀ g∈new,right g=true) (ho : ∀ g∈gs,right g=true) (ht : Mr gs tail)
  (hL : L.n=z∧L.wh=((laid Ah gs).length : Int)∧L.sz=((laid Ah gs++tail).length : Int)) (hk : wh+k=((laid Ah new).length : Int)) : Laid z (Cs p L wh k) gs new:=by
 unfold Cs
 split
 ·next h0=>
  refine ⟨fun _=>⟨hL.1,[],?_,hk,?_⟩,fun e=>absurd rfl e⟩
  ·obtain ⟨g,hg⟩:=hR.1 h0
   exact Ia hn (.inr ⟨g,hg⟩)
  ·rw [List.append_nil]; exact hk
 ·next h0=>
  refine ⟨fun e=>absurd e h0,fun _=>?_⟩
  rcases hR.2 h0 with h1 | ⟨h1,-,h2⟩
  ·exact .inl ⟨hL.1,tail,⟨ho,ht,h1⟩,hL.2.1,hL.2.2⟩
  ·refine .inr ⟨h1,fun keep t=>?_⟩
   rcases h2 keep t with h3 | h3
   ·exact ⟨tail, .inl ⟨ho,ht,h3⟩⟩
   ·exact ⟨[], .inr (Ia hn h3)⟩
theorem laid_ne (gs : List (List (List UInt8))) (rs : List (List UInt8)) : laid Ah (gs ++ [rs]) ≠ []:=fun e=>by
 have:=K1 (gs ++ [rs])
 rw [e] at this
 simp at this
theorem reset_has (h : Has z S L gs) (hk : Ok S) (hr : right rs=true) : Laid z (B4 S L rs) gs [rs]:=by
 obtain ⟨hn,tail,⟨ho,ht,hF⟩,h1,h2⟩:=h
 unfold B4
 rw [if_neg (by rw [hr]; decide),hn]
 have hR:=K0 hF hk (Gr rs) L.sure
 rw [← Fu Ah rs] at hR ⊢
 refine K5 hR (fun g hg=>by rw [List.mem_singleton.1 hg]; exact hr) ho ht ⟨hn,h1,h2⟩ ?_
 rw [Int.zero_add]
theorem Id {all : List UInt8} (h : Bj z S all) (k : Nat) (h0 : (S.readAt z 0 (k : Int)).2=0) : (S.readAt z 0 (k : Int)).1=all.take k:=by
 unfold Dk.readAt at h0 ⊢
 split
 ·next e he=>
  rw [he] at h0
  dsimp only at h0
  unfold Dk.onFile at he
  split at he
  ·cases he; cases h0
  split at he
  ·cases he; cases h0
  split at he
  ·cases he; cases h0
  ·cases he
 ·next g fl he=>
  rw [he] at h0
  dsimp only at h0
  have hl:=(Jk he).1
  rcases h with ⟨h,-⟩ | ⟨f,h⟩
  ·rw [h.lookD] at hl; cases hl
  rw [h.lookD] at hl
  injection hl with hl
  subst hl
  obtain ⟨x,h1,h2,h3⟩:=h.file
  have hb : S.bytes f=all:=by simp [Dk.bytes,h1,h2]
  split
  ·next hh=>rw [if_pos hh] at h0; cases h0
  next hh=>
  rw [if_neg hh] at h0
  split
  ·next h5=>rw [if_pos h5] at h0; cases h0
  ·rw [hb]
   simp
theorem put_has (h : Has z S L gs) (hk : Ok S) (hz : Ap z=true) (hr : right rs=true) : Laid z (Ef S L rs) gs (gs ++ [rs]):=by
 obtain ⟨hn,tail,⟨ho,ht,hF⟩,h1,h2⟩:=h
 have hnew:=right_snoc ho hr
 have hlen : L.wh+((grp Ah rs).length : Int)=((laid Ah (gs ++ [rs])).length : Int):=by
  rw [Fy,List.length_append,h1]
  omega
 unfold Ef putW
 rw [hn]
 split
 ·next h0=>
  have e0 : gs = []:=laid_nil (List.eq_nil_of_length_eq_zero (by omega))
  subst e0
  have hR:=K0 hF hk (Gr rs) L.sure
  rw [← Fu Ah rs] at hR
  rw [List.nil_append,Fu] at hlen
  rw [← Fu Ah rs] at hlen ⊢
  exact K5 hR hnew ho ht ⟨hn,h1,h2⟩ hlen
 next h0=>
 split
 ·next he=>
  have et : tail = []:=by
   rw [h1,h2,List.length_append] at he
   exact List.eq_nil_of_length_eq_zero (by omega)
  subst et
  rw [List.append_nil] at hF
  have hne : laid Ah gs ≠ []:=fun e=>h0 (by rw [h1,e]; rfl)
  rcases hF with ⟨-,e⟩ | ⟨f,hK⟩
  ·exact absurd e hne
  have hE:=firm_extend hK hk hz L.sure (grp Ah rs)
  have hO:=ok_extend hk z L.sure (grp Ah rs)
  generalize Bw S z L.sure (grp Ah rs)=p at *
  unfold Cs
  split
  ·next h5=>
   have h6:=hE.1 h5
   rw [← Fy] at h6
   exact ⟨fun _=>⟨hn,[],Ia hnew (.inr ⟨f,h6⟩),hlen,by rw [List.append_nil]; exact hlen⟩,fun e=>absurd rfl e⟩
  ·next h5=>
   refine ⟨fun e=>absurd e h5,fun _=>?_⟩
   rcases hE.2 h5 with h6 | ⟨h6,h7⟩
   ·exact .inl ⟨hn,[],Ia ho (.inr ⟨f,h6⟩),h1,h2⟩
   ·refine .inr ⟨h6,fun keep t=>?_⟩
    obtain ⟨k,hk1,hk2⟩:=h7.crash hO keep t
    have hkl : (laid Ah gs).length≤k:=by rw [List.length_take] at hk1; omega
    have e1 : (laid Ah gs++grp Ah rs).take k=laid Ah gs++(grp Ah rs).take (k - (laid Ah gs).length):=by
     rw [List.take_append,List.take_of_length_le hkl]
    rw [e1] at hk2
    by_cases hw : k - (laid Ah gs).length<(grp Ah rs).length
    ·exact ⟨_, .inl ⟨ho, .inr ⟨hne,rs,_,hr,hw,rfl⟩, .inr ⟨f,hk2⟩⟩⟩
    ·rw [List.take_of_length_le (by omega),← Fy] at hk2
     exact ⟨[], .inr (Ia hnew (.inr ⟨f,hk2⟩))⟩
 ·unfold E8
  have hrd:=Id hF (laid Ah gs).length
  rw [← h1] at hrd
  generalize S.readAt z 0 L.wh=r at *
  split
  ·next h5=>
   unfold Cs
   rw [if_neg h5]
   exact ⟨fun e=>absurd e h5,fun _=>.inl ⟨hn,tail,⟨ho,ht,hF.begun⟩,h1,h2⟩⟩
  ·next h5=>
   have e1:=hrd (by simpa using h5)
   rw [List.take_left] at e1
   rw [e1]
   have hR:=K0 (b:=laid Ah gs++grp Ah rs) hF.begun hk.begun (by rw [← Fy]; exact laid_ne gs rs) L.sure
   rw [← Fy] at hR ⊢
   exact K5 hR hnew ho ht ⟨hn,h1,h2⟩ hlen
theorem Om (h : Has z S L gs) (hk : Ok S) (hz : Ap z=true) (hr : right rs=true) : Laid z (B7 S L rs) gs (gs ++ [rs]):=by
 have h0:=h
 obtain ⟨hn,tail,⟨ho,ht,hF⟩,h1,h2⟩:=h
 unfold B7
 rw [if_neg (by rw [hr]; decide),if_pos (by rw [hn,hF.size,h2])]
 exact put_has h0 hk hz hr
end Go.Proofs.YtblniomnhpedjaaGreatDoor
namespace Go.Proofs.YtblniomnhpedjaaGreatDoor
variable {z : Nm} {S S' : Dk} {L : Lw} {gs : List (List (List UInt8))} {rs : List (List UInt8)}
def Alt (S S' : Dk) : Prop:=S'.cut=S.cut∧S'.fails=S.fails∧S'.room=S.room
theorem Alt.refl (S : Dk) : Alt S S:=⟨rfl,rfl,rfl⟩
theorem Alt.trans {S'' : Dk} (h : Alt S S') (k : Alt S' S'') : Alt S S'':=⟨k.1.trans h.1,k.2.1.trans h.2.1,k.2.2.trans h.2.2⟩
theorem Alt.calm (h : Alt S S') (hc : B3 S) : B3 S':=⟨h.1.trans hc.1,fun k=>by rw [h.2.1]; exact hc.2 k⟩
theorem Hi (h : B3 S) : S.on=true:=by
 unfold Dk.on
 rw [h.1]
theorem D9 (S : Dk) : Alt S S.begun:=by
 unfold Dk.begun
 split <;> exact ⟨rfl,rfl,rfl⟩
theorem alt_app (S : Dk) (n : Nm) (b : List UInt8) : Alt S (S.app n b):=by
 unfold Dk.app
 split <;> split <;> exact ⟨rfl,rfl,rfl⟩
theorem M1 (S : Dk) (n : Nm) (b : List UInt8) : Alt S (S.append n b).1:=by
 unfold Dk.append
 split
 ·exact ⟨rfl,rfl,rfl⟩
 split
 ·exact ⟨rfl,rfl,rfl⟩
 split
 ·exact ⟨rfl,rfl,rfl⟩
 split
 ·exact ⟨rfl,rfl,rfl⟩
 ·exact alt_app S.next n b
theorem L5 (S : Dk) (n : Nm) : Alt S (S.sync n).1:=by
 unfold Dk.sync
 split
 ·exact D9 S
 ·split <;> exact D9 S
theorem P3 (S : Dk) : Alt S S.syncDir.1:=by
 unfold Dk.syncDir
 split
 ·exact ⟨rfl,rfl,rfl⟩
 split <;> exact ⟨rfl,rfl,rfl⟩
theorem Ol (S : Dk) (a b : Nm) : Alt S (S.rename a b).1:=by
 unfold Dk.rename
 split
 ·exact ⟨rfl,rfl,rfl⟩
 split
 ·exact ⟨rfl,rfl,rfl⟩
 split
 ·exact ⟨rfl,rfl,rfl⟩
 split
 ·exact ⟨rfl,rfl,rfl⟩
 split <;> exact ⟨rfl,rfl,rfl⟩
theorem Pa (S : Dk) (n : Nm) : Alt S (S.remove n).1:=by
 unfold Dk.remove
 split
 ·exact D9 S
 ·split <;> exact D9 S
theorem alt_tidy (S : Dk) (n : Nm) : Alt S (As S n).1:=by
 unfold As
 split
 ·exact Alt.refl S
 ·exact Pa S _
theorem O2 (S : Dk) (s : Bool) : Alt S (Ba S s).1:=by
 unfold Ba
 split
 ·exact Alt.refl S
 ·exact P3 S
theorem Ki (h : B3 S) {n : Nm} (hn : Ap n=true) {f : Nat} (hl : look S.dir n=some f) : S.onFile n = .ok (f,false):=by
 unfold Dk.onFile
 rw [if_neg (by rw [Hi h]; decide),if_neg (by rw [hn]; decide),hl,h.2]
theorem calm_tidy (h : B3 S) (hn : Ap (z++Ao)=true) : (As S z).2=0:=by
 unfold As
 split
 ·rfl
 ·next hs=>
  unfold Dk.size at hs
  split at hs
  ·omega
  ·next f hl=>
   unfold Dk.remove
   rw [Ki h hn hl]
   rfl
theorem Ov (h : B3 S) {n : Nm} (hn : Ap n=true) {b : List UInt8} (hr : S.used+b.length≤S.room) : (S.append n b).2=0:=by
 unfold Dk.append
 rw [if_neg (by rw [Hi h]; decide),if_neg (by rw [hn]; decide),if_neg (fun e=>by have:=e.2; omega),if_neg (by rw [h.2]; decide)]
theorem calm_sync (h : B3 S) {n : Nm} (hn : Ap n=true) {f : Nat} (hl : look S.dir n=some f) : (S.sync n).2=0:=by
 unfold Dk.sync
 rw [Ki h hn hl]
 rfl
theorem calm_syncDir (h : B3 S) : S.syncDir.2=0:=by
 unfold Dk.syncDir
 rw [if_neg (by rw [Hi h]; decide),if_neg (by rw [h.2]; decide)]
theorem Ox (h : B3 S) (s : Bool) : (Ba S s).2.2=0:=by
 unfold Ba
 split
 ·rfl
 ·exact calm_syncDir h
theorem calm_rename (h : B3 S) {a b : Nm} (ha : Ap a=true) (hb : Ap b=true) (hl : look S.dir a≠none) : (S.rename a b).2=0:=by
 unfold Dk.rename
 rw [if_neg (by rw [Hi h]; decide),if_neg (fun e=>e.elim (fun e=>by rw [ha] at e; cases e) (fun e=>by rw [hb] at e; cases e)),if_neg hl,if_neg (by rw [h.2]; decide)]
 split <;> rfl
theorem Ml (h : B3 S) (hk : Ok S) (hz : Ap z=true) (hn : Ap (z++Ao)=true) (s : Bool) {b : List UInt8} (hb : b ≠ []) (hr : S.bulk+b.length+2≤S.room) : (Cc S z s b).2.2=0∧Alt S (Cc S z s b).1:=by
 have t0:=calm_tidy h hn
 have t1:=alt_tidy S z
 have t2:=Fs S z
 have t3:=Ex hk z
 have t4:=Ir t0
 unfold Cc
 rw [if_neg (by rw [t0]; decide)]
 generalize As S z=T at *
 have c1:=t1.calm h
 have u1:=Em t3
 have a0:=Ov c1 hn (b:=b) (by rw [t1.2.2]; omega)
 have a1:=t1.trans (M1 T.1 (z++Ao) b)
 have a2:=Ky t4 hb a0
 unfold rep2
 rw [if_neg (by rw [a0]; decide)]
 generalize T.1.append (z++Ao) b=V at *
 have c2:=a1.calm h
 have y0:=calm_sync c2 hn a2.1
 have y1:=a1.trans (L5 V.1 (z++Ao))
 have y2:=La a2.1 a2.2 y0
 unfold rep3
 rw [if_neg (by rw [y0]; decide)]
 generalize V.1.sync (z++Ao)=Y at *
 have c3:=y1.calm h
 have r0:=calm_rename c3 hn hz (by rw [y2.1]; simp)
 have r1:=y1.trans (Ol Y.1 (z++Ao) z)
 unfold rep4
 rw [if_neg (by rw [r0]; decide)]
 generalize Y.1.rename (z++Ao) z=N at *
 have c4:=r1.calm h
 have s0:=Ox c4 false
 have s1:=r1.trans (O2 N.1 false)
 unfold rep5
 rw [if_neg (by rw [s0]; decide)]
 exact ⟨s0,s1⟩
theorem Pb {n : Nm} {f : Nat} (hl : look S.dir n=some f) (b : List UInt8) : look (S.append n b).1.dir n=some f:=by
 unfold Dk.append
 split
 ·exact hl
 split
 ·exact hl
 split
 ·exact hl
 split
 ·exact hl
 show look (S.next.app n b).dir n=_
 unfold Dk.app
 rw [show look S.next.dir n=some f from hl]
 dsimp only
 split <;> exact hl
theorem calm_extend {f : Nat} {all : List UInt8} (hK : Kx z S f all.length all) (h : B3 S) (hk : Ok S) (hz : Ap z=true) (hn : Ap (z++Ao)=true) (s : Bool) {b : List UInt8} (hr : S.bulk+b.length+3≤S.room) : (Bw S z s b).2.2=0∧Alt S (Bw S z s b).1:=by
 have t0:=calm_tidy h hn
 have t1:=alt_tidy S z
 have t2:=Fs S z
 have t3:=Ex hk z
 have t5 : look (As S z).1.dir z=some f∧look (As S z).1.sure z=some f:=by
  have : Kx z (As S z).1 f all.length all:=by
   unfold As
   split
   ·exact hK
   ·exact hK.remove (E0 z)
  exact ⟨this.lookD,this.lookS⟩
 unfold Bw
 rw [if_neg (by rw [t0]; decide)]
 generalize As S z=T at *
 have c1:=t1.calm h
 have s0:=Ox c1 s
 have s1:=t1.trans (O2 T.1 s)
 have s2:=It T.1 s
 have s3:=Hq t3 s
 have s5 : look (Ba T.1 s).1.dir z=some f:=by
  unfold Ba
  split
  ·exact t5.1
  ·unfold Dk.syncDir
   split
   ·exact t5.1
   split
   ·exact t5.2
   ·exact t5.1
 unfold D8
 rw [if_neg (by rw [s0]; decide)]
 generalize Ba T.1 s=U at *
 have c2:=s1.calm h
 have u1:=Em s3
 have a0:=Ov c2 hz (b:=b) (by rw [s1.2.2]; omega)
 have a1:=s1.trans (M1 U.1 z b)
 have a5:=Pb s5 b
 unfold Ec
 rw [if_neg (by rw [a0]; decide)]
 generalize U.1.append z b=V at *
 exact ⟨calm_sync (a1.calm h) hz a5,a1.trans (L5 V.1 z)⟩
theorem calm_readAt {all : List UInt8} {f : Nat} (hK : Kx z S f all.length all) (h : B3 S) (hz : Ap z=true) (k : Nat) (hl : k≤all.length) : (S.readAt z 0 (k : Int)).2=0:=by
 obtain ⟨x,h1,h2,h3⟩:=hK.file
 have hb : S.bytes f=all:=by simp [Dk.bytes,h1,h2]
 unfold Dk.readAt
 rw [Ki h hz hK.lookD]
 dsimp only
 rw [hb,if_neg (by omega)]
 rfl
theorem Jr {p : Dk × Bool × Int} {wh k : Int} (h : p.2.2=0∧Alt S p.1) : (Cs p L wh k).2.2=0∧Alt S (Cs p L wh k).1:=by
 unfold Cs
 rw [if_pos h.1]
 exact ⟨rfl,h.2⟩
theorem calm_resetW (h : Has z S L gs) (hc : B3 S) (hk : Ok S) (hz : Ap z=true) (hn : Ap (z++Ao)=true) (hr : right rs=true) (hb : S.bulk+(grp Ah rs).length+2≤S.room) : (B4 S L rs).2.2=0∧Alt S (B4 S L rs).1:=by
 unfold B4
 rw [if_neg (by rw [hr]; decide),h.1]
 exact Jr (Ml hc hk hz hn L.sure (Gr rs) hb)
theorem calm_appendW (h : Has z S L gs) (hc : B3 S) (hk : Ok S) (hz : Ap z=true) (hn : Ap (z++Ao)=true) (hr : right rs=true) (hb : S.bulk+(laid Ah gs).length+(grp Ah rs).length+4≤S.room) : (B7 S L rs).2.2=0∧Alt S (B7 S L rs).1:=by
 obtain ⟨hln,tail,⟨ho,ht,hF⟩,h1,h2⟩:=h
 unfold B7
 rw [if_neg (by rw [hr]; decide),if_pos (by rw [hln,hF.size,h2])]
 unfold Ef putW
 rw [hln]
 split
 ·exact Jr (Ml hc hk hz hn L.sure (Gr rs) (by omega))
 next h0=>
 have hK : ∃ f,Kx z S f (laid Ah gs++tail).length (laid Ah gs++tail):=by
  rcases hF with ⟨-,e⟩ | hK
  ·have:=congrArg List.length e
   rw [List.length_append,List.length_nil] at this
   omega
  ·exact hK
 obtain ⟨f,hK⟩:=hK
 split
 ·exact Jr (calm_extend hK hc hk hz hn L.sure (by omega))
 ·have r0:=calm_readAt hK hc hz (laid Ah gs).length (by rw [List.length_append]; omega)
  have r1:=Id hF (laid Ah gs).length r0
  rw [← h1] at r0 r1
  unfold E8
  rw [if_neg (by rw [r0]; decide),r1,List.take_left]
  have hbb:=Gk S
  have hrm:=(D9 S).2.2
  have:=Ml ((D9 S).calm hc) hk.begun hz hn L.sure (b:=laid Ah gs++grp Ah rs) (by rw [← Fy]; exact laid_ne gs rs) (by rw [List.length_append,hrm]; omega)
  exact Jr ⟨this.1,(D9 S).trans this.2⟩
end Go.Proofs.YtblniomnhpedjaaGreatDoor
namespace Go.Proofs.YtblniomnhpedjaaGreatDoor
variable {z : Nm} {S : Dk} {L : Lw} {gs : List (List (List UInt8))} {rs : List (List UInt8)}
theorem Jw (S : Dk) (n : Nm) (s : Bool) (e : Int) : (D4 S n s e).1.bulk≤S.bulk+2:=Fs S n
theorem K4 (S : Dk) (n : Nm) (s : Bool) (b : List UInt8) : (Cc S n s b).1.bulk≤S.bulk+b.length+12:=by
 have t:=Fs S n
 unfold Cc
 split
 ·show (As S n).1.bulk≤_; omega
 have a:=J0 (S:=(As S n).1) (n++Ao) b
 generalize (As S n).1.append (n++Ao) b=V at *
 unfold rep2
 split
 ·have:=Jw V.1 n false V.2; omega
 have y:=L7 (S:=V.1) (n++Ao)
 generalize V.1.sync (n++Ao)=Y at *
 unfold rep3
 split
 ·have:=Jw Y.1 n false Y.2; omega
 have r:=N5 (S:=Y.1) (n++Ao) n
 generalize Y.1.rename (n++Ao) n=N at *
 unfold rep4
 split
 ·have:=Jw N.1 n false N.2; omega
 have u:=It N.1 false
 generalize Ba N.1 false=U at *
 unfold rep5
 split
 ·have:=Jw U.1 n U.2.1 U.2.2; omega
 ·omega
theorem bulk_extendW (S : Dk) (n : Nm) (s : Bool) (b : List UInt8) : (Bw S n s b).1.bulk≤S.bulk+b.length+8:=by
 have t:=Fs S n
 unfold Bw
 split
 ·show (As S n).1.bulk≤_; omega
 have u:=It (As S n).1 s
 generalize Ba (As S n).1 s=U at *
 unfold D8
 split
 ·omega
 have a:=J0 (S:=U.1) n b
 generalize U.1.append n b=V at *
 unfold Ec
 split
 ·show V.1.bulk≤_; omega
 ·have y:=L7 (S:=V.1) n
  show (V.1.sync n).1.bulk≤_
  omega
theorem E4 (p : Dk × Bool × Int) (L : Lw) (wh k : Int) : (Cs p L wh k).1=p.1:=by
 unfold Cs
 split <;> rfl
theorem Px (S : Dk) (L : Lw) (rs : List (List UInt8)) : (B4 S L rs).1.bulk≤S.bulk+(grp Ah rs).length+12:=by
 unfold B4
 split
 ·show S.bulk≤_; omega
 ·rw [E4]
  exact K4 _ _ _ _
theorem Nc (h : Has z S L gs) : (B7 S L rs).1.bulk≤S.bulk+(laid Ah gs).length+(grp Ah rs).length+13:=by
 obtain ⟨hln,tail,⟨ho,ht,hF⟩,h1,h2⟩:=h
 unfold B7
 split
 ·show S.bulk≤_; omega
 rw [if_pos (by rw [hln,hF.size,h2])]
 unfold Ef
 rw [E4]
 unfold putW
 rw [hln]
 split
 ·have:=K4 S z L.sure (grp Ah rs); omega
 split
 ·have:=bulk_extendW S z L.sure (grp Ah rs); omega
 ·have hrd:=Id hF (laid Ah gs).length
  rw [← h1] at hrd
  generalize S.readAt z 0 L.wh=r at *
  have hb:=Gk S
  unfold E8
  split
  ·show S.begun.bulk≤_; omega
  ·next h5=>
   have e1:=hrd (by simpa using h5)
   rw [List.take_left] at e1
   rw [e1]
   have:=K4 S.begun z L.sure (laid Ah gs++grp Ah rs)
   rw [List.length_append] at this
   omega
theorem on_new (room : Nat) : On z (Dk.new room) [] []:=⟨by simp, .inl rfl, .inl ⟨⟨rfl,rfl,fun a ha=>by cases ha⟩,rfl⟩⟩
theorem On.has {tail : List UInt8} (h : On z S gs tail) (s : Bool) : Has z S ⟨z,s,((laid Ah gs).length : Int),((laid Ah gs++tail).length : Int)⟩ gs:=⟨rfl,tail,h,rfl,rfl⟩
end Go.Proofs.YtblniomnhpedjaaGreatDoor
namespace Go.Proofs.YtblniomnhpedjaaGreatDoor
open Go.RowKit
variable {w w' : World}
theorem ext_take (l : List UInt8) (n : Nat) : (Ae l).extract 0 n=Ae (l.take n):=by
 apply ByteArray.ext
 simp [Ae,List.extract_eq_take_drop]
end Go.Proofs.YtblniomnhpedjaaGreatDoor
namespace Go.Proofs.YtblniomnhpedjaaGreatDoor
open Go.RowKit
variable {B : Nat} {w w' : World} {F : Nat→Prop} {d l : Nat} {S : Dk} {L : Lw} {z : Nm} {gs : List (List (List UInt8))} {rs : List (List UInt8)} {v : Value}
def E1 (B : Nat) (w : World) (F : Nat→Prop) (d l : Nat) (z : Nm) (gs : List (List (List UInt8))) (m M : Nat) : Prop:=∃ S L,Lg B w F d l S L∧Has z S L gs∧B3 S∧S.bulk≤m∧S.room=M
theorem Hd {n : Nm} (h : Cj n=true) : Ap n=true∧Ap (n++Ao)=true:=by
 simp only [Cj,Ap,Bool.and_eq_true,decide_eq_true_eq,List.all_eq_true,List.length_append] at h ⊢
 have ha : Ao.length=5:=rfl
 refine ⟨⟨⟨h.1.1,by omega⟩,h.2⟩,⟨by omega,by omega⟩,fun c hc=>?_⟩
 rcases List.mem_append.1 hc with hc | hc
 ·exact h.2 c hc
 ·exact (show ∀ c∈Ao,33≤c.toNat∧c.toNat≤126 by decide) c hc
end Go.Proofs.YtblniomnhpedjaaGreatDoor
