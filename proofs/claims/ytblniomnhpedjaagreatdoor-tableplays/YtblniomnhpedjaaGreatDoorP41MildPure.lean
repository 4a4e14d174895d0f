/-
  Texts joined: MildPure, TSlim, TAns, TAns2, TDigits, Pick.
-/
import Derived.Test.YtblniomnhpedjaaGreatDoorP26Kx
import Derived.Test.YtblniomnhpedjaaGreatDoorP38TTold
import Derived.Test.YtblniomnhpedjaaGreatDoorP31TLog
import Derived.Test.YtblniomnhpedjaaGreatDoorP1Chg
namespace Go.Proofs.YtblniomnhpedjaaGreatDoor
variable {z : Nm} {S S' : Dk} {L : Lw} {gs : List (List (List UInt8))} {rs : List (List UInt8)}
def Mild (S : Dk) : Prop:=∀ k,S.fails k=false
def B0 (S S' : Dk) (k : Nat) : Prop:=Alt S S'∧S.n≤S'.n∧S'.n≤S.n+k
theorem B0.refl (S : Dk) (k : Nat) : B0 S S k:=⟨Alt.refl S,Nat.le_refl _,Nat.le_add_right _ _⟩
theorem B0.trans {S'' : Dk} {a b c : Nat} (h : B0 S S' a) (k : B0 S' S'' b) (hc : a+b≤c) : B0 S S'' c:=⟨h.1.trans k.1,Nat.le_trans h.2.1 k.2.1,by have:=h.2.2; have:=k.2.2; omega⟩
theorem B0.more {a b : Nat} (h : B0 S S' a) (hc : a≤b) : B0 S S' b:=⟨h.1,h.2.1,by have:=h.2.2; omega⟩
theorem In (S : Dk) : S.n≤S.begun.n∧S.begun.n≤S.n+1:=by
 unfold Dk.begun
 split
 ·exact ⟨Nat.le_refl _,Nat.le_succ _⟩
 ·exact ⟨Nat.le_succ _,Nat.le_refl _⟩
theorem Gc (S : Dk) : B0 S S.begun 1:=⟨D9 S,In S⟩
theorem n_app (S : Dk) (n : Nm) (b : List UInt8) : (S.app n b).n=S.n:=by
 unfold Dk.app
 split <;> split <;> rfl
theorem Jd (S : Dk) (n : Nm) (b : List UInt8) : B0 S (S.append n b).1 1:=by
 refine ⟨M1 S n b,?_⟩
 unfold Dk.append
 split
 ·exact ⟨Nat.le_refl _,Nat.le_succ _⟩
 split
 ·exact ⟨Nat.le_succ _,Nat.le_refl _⟩
 split
 ·exact ⟨Nat.le_succ _,Nat.le_refl _⟩
 split
 ·exact ⟨Nat.le_succ _,Nat.le_refl _⟩
 ·show S.n≤(S.next.app n b).n∧(S.next.app n b).n≤S.n+1
  rw [n_app]
  exact ⟨Nat.le_succ _,Nat.le_refl _⟩
theorem Kg (S : Dk) (n : Nm) : B0 S (S.sync n).1 1:=by
 refine ⟨L5 S n,?_⟩
 unfold Dk.sync
 split
 ·exact In S
 ·split <;> exact In S
theorem near_syncDir (S : Dk) : B0 S S.syncDir.1 1:=by
 refine ⟨P3 S,?_⟩
 unfold Dk.syncDir
 split
 ·exact ⟨Nat.le_refl _,Nat.le_succ _⟩
 split <;> exact ⟨Nat.le_succ _,Nat.le_refl _⟩
theorem O1 (S : Dk) (a b : Nm) : B0 S (S.rename a b).1 1:=by
 refine ⟨Ol S a b,?_⟩
 unfold Dk.rename
 split
 ·exact ⟨Nat.le_refl _,Nat.le_succ _⟩
 split
 ·exact ⟨Nat.le_succ _,Nat.le_refl _⟩
 split
 ·exact ⟨Nat.le_succ _,Nat.le_refl _⟩
 split
 ·exact ⟨Nat.le_succ _,Nat.le_refl _⟩
 split <;> exact ⟨Nat.le_succ _,Nat.le_refl _⟩
theorem near_remove (S : Dk) (n : Nm) : B0 S (S.remove n).1 1:=by
 refine ⟨Pa S n,?_⟩
 unfold Dk.remove
 split
 ·exact In S
 ·split <;> exact In S
theorem Ib (S : Dk) (n : Nm) : B0 S (As S n).1 1:=by
 unfold As
 split
 ·exact B0.refl S 1
 ·exact near_remove S _
theorem Kp (S : Dk) (s : Bool) : B0 S (Ba S s).1 1:=by
 unfold Ba
 split
 ·exact B0.refl S 1
 ·exact near_syncDir S
theorem Hn (S : Dk) (n : Nm) (s : Bool) (e : Int) : B0 S (D4 S n s e).1 1:=Ib S n
theorem Lt (S : Dk) (n : Nm) (s : Bool) (b : List UInt8) : B0 S (Cc S n s b).1 6:=by
 have t:=Ib S n
 unfold Cc
 split
 ·exact t.more (by omega)
 have a:=t.trans (Jd (As S n).1 (n++Ao) b) (Nat.le_refl _)
 generalize (As S n).1.append (n++Ao) b=V at *
 unfold rep2
 split
 ·exact a.trans (Hn V.1 n false V.2) (by omega)
 have y:=a.trans (Kg V.1 (n++Ao)) (Nat.le_refl _)
 generalize V.1.sync (n++Ao)=Y at *
 unfold rep3
 split
 ·exact y.trans (Hn Y.1 n false Y.2) (by omega)
 have r:=y.trans (O1 Y.1 (n++Ao) n) (Nat.le_refl _)
 generalize Y.1.rename (n++Ao) n=N at *
 unfold rep4
 split
 ·exact r.trans (Hn N.1 n false N.2) (by omega)
 have u:=r.trans (Kp N.1 false) (Nat.le_refl _)
 generalize Ba N.1 false=U at *
 unfold rep5
 split
 ·exact u.trans (Hn U.1 n U.2.1 U.2.2) (by omega)
 ·exact u.more (by omega)
theorem near_extend (S : Dk) (n : Nm) (s : Bool) (b : List UInt8) : B0 S (Bw S n s b).1 4:=by
 have t:=Ib S n
 unfold Bw
 split
 ·exact t.more (by omega)
 have u:=t.trans (Kp (As S n).1 s) (Nat.le_refl _)
 generalize Ba (As S n).1 s=U at *
 unfold D8
 split
 ·exact u.more (by omega)
 have a:=u.trans (Jd U.1 n b) (Nat.le_refl _)
 generalize U.1.append n b=V at *
 unfold Ec
 split
 ·exact a.more (by omega)
 ·exact a.trans (Kg V.1 n) (by omega)
theorem near_resetW (S : Dk) (L : Lw) (rs : List (List UInt8)) : B0 S (B4 S L rs).1 7:=by
 unfold B4
 split
 ·exact B0.refl S 7
 ·rw [E4]
  exact (Lt _ _ _ _).more (by omega)
theorem near_put (S : Dk) (L : Lw) (b : List UInt8) : B0 S (putW S L b).1 7:=by
 unfold putW
 split
 ·exact (Lt _ _ _ _).more (by omega)
 split
 ·exact (near_extend _ _ _ _).more (by omega)
 ·unfold E8
  split
  ·exact (Gc S).more (by omega)
  ·exact (Gc S).trans (Lt _ _ _ _) (by omega)
theorem near_appendW (S : Dk) (L : Lw) (rs : List (List UInt8)) : B0 S (B7 S L rs).1 8:=by
 unfold B7
 split
 ·exact B0.refl S 8
 split
 ·unfold Ef
  rw [E4]
  exact (near_put _ _ _).more (by omega)
 ·unfold appendL
  split
  ·exact (Gc S).more (by omega)
  ·unfold Ef
   rw [E4]
   exact (Gc S).trans (near_put _ _ _) (by omega)
theorem Ni {p : Dk × Bool × Int} {wh k : Int} (h : (Cs p L wh k).2.2=0) : (Cs p L wh k).2.1.wh=(Cs p L wh k).2.1.sz:=by
 unfold Cs at h ⊢
 split
 ·rfl
 ·next h0=>
  rw [if_neg h0] at h
  exact absurd h h0
theorem reset_whole (hr : right rs=true) (h : (B4 S L rs).2.2=0) : (B4 S L rs).2.1.wh=(B4 S L rs).2.1.sz:=by
 unfold B4 at h ⊢
 rw [if_neg (by rw [hr]; decide)] at h ⊢
 exact Ni h
theorem append_whole (hh : Has z S L gs) (hr : right rs=true) (h : (B7 S L rs).2.2=0) : (B7 S L rs).2.1.wh=(B7 S L rs).2.1.sz:=by
 obtain ⟨hln,tail,⟨ho,ht,hF⟩,h1,h2⟩:=hh
 unfold B7 at h ⊢
 rw [if_neg (by rw [hr]; decide),if_pos (by rw [hln,hF.size,h2])] at h ⊢
 exact Ni h
end Go.Proofs.YtblniomnhpedjaaGreatDoor
namespace Go.Proofs.YtblniomnhpedjaaGreatDoor
open Go.RowKit
def Two (z n : Nm) : Prop:=n=z∨n=z++Ao
def actTwo (z : Nm) : Ac→Prop
 | .made n _=>Two z n
 | .ren _ b=>Two z b
 | _=>True
theorem done_two {z : Nm} {l : Dir} {a : Ac} (hl : ∀ p∈l,Two z p.1) (ha : actTwo z a) : ∀ p∈Bl l a,Two z p.1:=by
 intro p hp
 cases a with
 | made n f=>
  rcases Fb.1 hp with rfl | hp
  ·exact ha
  ·exact hl p hp
 | ren x y=>
  simp only [Bl] at hp
  cases hk : look l x with
  | none=>rw [hk] at hp; exact hl p hp
  | some f=>
   rw [hk] at hp
   rcases Fb.1 hp with rfl | hp
   ·exact ha
   ·exact hl p (List.mem_filter.1 (List.mem_filter.1 hp).1).1
 | rem n=>exact hl p (List.mem_filter.1 hp).1
 | more f k=>exact hl p hp
theorem app_two {z : Nm} (cs : List Ac) : ∀ {l : Dir},(∀ p∈l,Two z p.1)→(∀ a∈cs,actTwo z a)→∀ p∈A5 l cs,Two z p.1:=by
 induction cs with
 | nil=>exact fun hl _=>hl
 | cons a r ih=>exact fun hl ha=>ih (done_two hl (ha a (by simp))) (fun x hx=>ha x (by simp [hx]))
theorem Ld {l : List Fl} {f : Nat} {g : Fl→Fl} {x : Fl} (h : x∈l.modify f g) : x∈l ∨ ∃ y,l[f]? = some y∧x=g y:=by
 obtain ⟨i,hi⟩:=List.getElem?_of_mem h
 rw [List.getElem?_modify] at hi
 by_cases e : f=i
 ·subst e
  cases hq : l[f]? with
  | none=>simp [hq] at hi
  | some y=>exact .inr ⟨y,rfl,by simpa [hq] using hi.symm⟩
 ·left
  simp [e] at hi
  exact List.mem_of_getElem? hi
theorem two_len {z : Nm} : ∀ {l : Dir},(l.map (·.1)).Nodup→(∀ p∈l,Two z p.1)→l.length≤2
 | [],_,_=>by simp
 | [_],_,_=>by simp
 | [_,_],_,_=>by simp
 | p :: q :: r :: t,hn,h=>by
  exfalso
  have h1:=h p (by simp)
  have h2:=h q (by simp)
  have h3:=h r (by simp)
  simp only [List.map_cons,List.nodup_cons,List.mem_cons,not_or] at hn
  obtain ⟨⟨a1,a2,-⟩,⟨a3,-⟩,-⟩:=hn
  unfold Two at h1 h2 h3
  rcases h1 with h1 | h1 <;> rcases h2 with h2 | h2 <;> rcases h3 with h3 | h3 <;> first
   | exact a1 (h1.trans h2.symm)
   | exact a2 (h1.trans h3.symm)
   | exact a3 (h2.trans h3.symm)
structure Slim (z : Nm) (C : Nat) (S : Dk) : Prop where
 dir : ∀ p∈S.dir,Two z p.1
 sure : ∀ p∈S.sure,Two z p.1
 acts : ∀ a∈S.acts,actTwo z a
 files : ∀ x∈S.files,x.b.length≤C
section
variable {z : Nm} {C : Nat} {S : Dk} {b all : List UInt8}
theorem slim_new (z : Nm) (C r : Nat) : Slim z C (Dk.new r):=⟨fun p hp=>(by cases hp),fun p hp=>(by cases hp),fun p hp=>(by cases hp),fun p hp=>(by cases hp)⟩
theorem Slim.used (h : Slim z C S) (hk : Ok S) : S.used≤2 * C:=by
 have h1:=two_len (Je hk.sortD) h.dir
 have key : ∀ l : Dir,(l.map fun p=>Az S.files p.2).sum≤l.length * C:=by
  intro l
  induction l with
  | nil=>simp
  | cons p r ih=>
   have : Az S.files p.2≤C:=by
    unfold Az
    cases hq : S.files[p.2]? with
    | none=>simp
    | some x=>simpa using h.files x (List.mem_of_getElem? hq)
   simp only [List.map_cons,List.sum_cons,List.length_cons,Nat.succ_mul]
   omega
 have:=key S.dir
 unfold Dk.used A1
 have h2 : S.dir.length * C≤2 * C:=Nat.mul_le_mul_right _ h1
 omega
theorem Slim.next (h : Slim z C S) : Slim z C S.next:=⟨h.dir,h.sure,h.acts,h.files⟩
theorem Slim.cutAt (h : Slim z C S) (op : Int) : Slim z C (S.cutAt op):=⟨h.dir,h.sure,h.acts,h.files⟩
theorem Slim.begun (h : Slim z C S) : Slim z C S.begun:=by
 unfold Dk.begun
 split
 ·exact h
 ·exact h.next
theorem Slim.keepF (h : Slim z C S) (f : Nat) : Slim z C (S.keepF f):=⟨h.dir,h.sure,fun a ha=>h.acts a (List.mem_filter.1 ha).1,fun x hx=>by
 rcases Ld hx with hx | ⟨y,hy,rfl⟩
 ·exact h.files x hx
 ·exact h.files y (List.mem_of_getElem? hy)⟩
theorem Slim.undoF (h : Slim z C S) (f : Nat) : Slim z C (S.undoF f):=⟨h.dir,h.sure,fun a ha=>h.acts a (List.mem_filter.1 ha).1,fun x hx=>by
 rcases Ld hx with hx | ⟨y,hy,rfl⟩
 ·exact h.files x hx
 ·have:=h.files y (List.mem_of_getElem? hy)
  simp only [List.length_take]
  omega⟩
theorem Slim.keepD (h : Slim z C S) : Slim z C S.keepD:=⟨h.dir,h.dir,fun a ha=>h.acts a (List.mem_filter.1 ha).1,h.files⟩
theorem Slim.undoD (h : Slim z C S) : Slim z C S.undoD:=⟨h.sure,h.sure,fun a ha=>h.acts a (List.mem_filter.1 ha).1,h.files⟩
theorem Slim.act (h : Slim z C S) {a : Ac} (ha : actTwo z a) : Slim z C (S.act a):=⟨done_two h.dir ha,h.sure,fun x hx=>by
 rcases List.mem_append.1 hx with hx | hx
 ·exact h.acts x hx
 ·simp at hx; subst hx; exact ha,h.files⟩
theorem Slim.mk1 (h : Slim z C S) {n : Nm} (hn : Two z n) : Slim z C (S.mk1 n):=⟨fun p hp=>by
 rcases Fb.1 hp with rfl | hp
 ·exact hn
 ·exact h.dir p hp,h.sure,fun x hx=>by
 rcases List.mem_append.1 hx with hx | hx
 ·exact h.acts x hx
 ·simp at hx; subst hx; exact hn,fun x hx=>by
 rcases List.mem_append.1 hx with hx | hx
 ·exact h.files x hx
 ·simp at hx; subst hx; exact Nat.zero_le _⟩
theorem Slim.ext (h : Slim z C S) (f : Nat) (hb : ∀ x,S.files[f]? = some x→x.b.length+b.length≤C) : Slim z C (S.ext f b):=⟨h.dir,h.sure,fun x hx=>by
 rcases List.mem_append.1 hx with hx | hx
 ·exact h.acts x hx
 ·simp at hx; subst hx; trivial,fun x hx=>by
 rcases Ld hx with hx | ⟨y,hy,rfl⟩
 ·exact h.files x hx
 ·have:=hb y hy
  simp only [List.length_append]
  exact this⟩
theorem Slim.append (h : Slim z C S) {n : Nm} (hn : Two z n) (hb : ∀ f,look S.dir n=some f→∀ x,S.files[f]? = some x→x.b.length+b.length≤C) (hc : b.length≤C) : Slim z C (S.append n b).1:=by
 unfold Dk.append
 split
 ·exact h
 split
 ·exact h.next
 split
 ·exact h.next
 split
 ·exact h.next
 show Slim z C (S.next.app n b)
 unfold Dk.app
 split
 ·rename_i f hf
  split
  ·exact h.next
  ·exact h.next.ext f (hb f hf)
 ·split
  ·exact h.next.mk1 hn
  ·refine (h.next.mk1 hn).ext _ (fun x hx=>?_)
   have e : (S.next.mk1 n).files[S.next.files.length]? = some ⟨[],0⟩:=by
    show (S.next.files ++ [(⟨[],0⟩ : Fl)])[S.next.files.length]? = _
    simp
   rw [e] at hx
   injection hx with hx
   subst hx
   simpa using hc
theorem Slim.sync (h : Slim z C S) (n : Nm) : Slim z C (S.sync n).1:=by
 unfold Dk.sync
 split
 ·exact h.begun
 ·split
  ·exact h.begun.undoF _
  ·exact h.begun.keepF _
theorem Slim.syncDir (h : Slim z C S) : Slim z C S.syncDir.1:=by
 unfold Dk.syncDir
 split
 ·exact h
 ·split
  ·exact h.next.undoD
  ·exact h.next.keepD
theorem Slim.rename (h : Slim z C S) (a : Nm) {n : Nm} (hn : Two z n) : Slim z C (S.rename a n).1:=by
 unfold Dk.rename
 split
 ·exact h
 split
 ·exact h.next
 split
 ·exact h.next
 split
 ·exact h.next
 split
 ·exact h.next
 ·exact h.next.act hn
theorem Slim.remove (h : Slim z C S) (n : Nm) : Slim z C (S.remove n).1:=by
 unfold Dk.remove
 split
 ·exact h.begun
 ·split
  ·exact h.begun
  ·exact h.begun.act trivial
theorem Slim.crash (h : Slim z C S) (keep t : Int) : Slim z C (S.crash keep t):=by
 have hst : ∀ a∈A6 S.acts keep t,actTwo z a:=by
  intro a ha
  unfold A6 at ha
  rcases List.mem_append.1 ha with ha | ha
  ·exact h.acts a (List.mem_of_mem_take ha)
  ·unfold torn at ha
   split at ha
   ·simp at ha; subst ha; trivial
   ·simp at ha
 refine ⟨app_two _ h.sure hst,app_two _ h.sure hst,fun a ha=>(by cases ha),fun x hx=>?_⟩
 obtain ⟨i,hi,rfl⟩:=List.mem_mapIdx.1 hx
 have:=h.files _ (List.getElem_mem hi)
 simp only [List.length_take]
 omega
theorem Slim.tidy (h : Slim z C S) (n : Nm) : Slim z C (As S n).1:=by
 unfold As
 split
 ·exact h
 ·exact h.remove _
theorem Slim.settle (h : Slim z C S) (s : Bool) : Slim z C (Ba S s).1:=by
 unfold Ba
 split
 ·exact h
 ·exact h.syncDir
theorem Ln (h : Slim z C S) (s : Bool) (hb : b.length≤C) : Slim z C (Cc S z s b).1:=by
 have t:=h.tidy z
 unfold Cc
 split
 ·exact t
 next e0=>
 have t4:=Ir (S:=S) (z:=z) (by simpa using e0)
 have a:=t.append (n:=z++Ao) (b:=b) (.inr rfl) (fun f hf=>by rw [t4] at hf; cases hf) hb
 clear t4
 generalize (As S z).1.append (z++Ao) b=V at *
 unfold rep2
 split
 ·exact a.tidy z
 have y:=a.sync (z++Ao)
 generalize V.1.sync (z++Ao)=Y at *
 unfold rep3
 split
 ·exact y.tidy z
 have r:=y.rename (z++Ao) (n:=z) (.inl rfl)
 generalize Y.1.rename (z++Ao) z=N at *
 unfold rep4
 split
 ·exact r.tidy z
 have u:=r.settle false
 generalize Ba N.1 false=U at *
 unfold rep5
 split
 ·exact u.tidy z
 ·exact u
theorem Nu (S : Dk) : S.begun.files=S.files:=by
 unfold Dk.begun
 split <;> rfl
theorem files_tidy (S : Dk) (n : Nm) : (As S n).1.files=S.files:=by
 unfold As
 split
 ·rfl
 ·unfold Dk.remove
  split
  ·exact Nu S
  ·split <;> exact Nu S
theorem Pw (S : Dk) (s : Bool) : (Ba S s).1.files=S.files:=by
 unfold Ba
 split
 ·rfl
 ·unfold Dk.syncDir
  split
  ·rfl
  ·split <;> rfl
theorem Oh {f : Nat} (hK : Kx z S f all.length all) (s : Bool) : look (Ba (As S z).1 s).1.dir z=some f:=by
 have t5 : look (As S z).1.dir z=some f∧look (As S z).1.sure z=some f:=by
  have : Kx z (As S z).1 f all.length all:=by
   unfold As
   split
   ·exact hK
   ·exact hK.remove (E0 z)
  exact ⟨this.lookD,this.lookS⟩
 generalize (As S z).1=T at *
 unfold Ba
 split
 ·exact t5.1
 ·unfold Dk.syncDir
  split
  ·exact t5.1
  split
  ·exact t5.2
  ·exact t5.1
theorem slim_extend {f : Nat} (hK : Kx z S f all.length all) (h : Slim z C S) (s : Bool) (hb : all.length+b.length≤C) : Slim z C (Bw S z s b).1:=by
 have t:=h.tidy z
 have s5:=Oh hK s
 have s6 : (Ba (As S z).1 s).1.files=S.files:=(Pw _ s).trans (files_tidy S z)
 obtain ⟨x0,hx0,hxb,-⟩:=hK.file
 unfold Bw
 split
 ·exact t
 have u:=t.settle s
 generalize Ba (As S z).1 s=U at *
 unfold D8
 split
 ·exact u
 have a:=u.append (n:=z) (b:=b) (.inl rfl) (fun g hg x hx=>by
  rw [s5] at hg
  injection hg with hg
  subst hg
  rw [s6,hx0] at hx
  injection hx with hx
  subst hx
  rw [hxb]
  exact hb) (by omega)
 generalize U.1.append z b=V at *
 unfold Ec
 split
 ·exact a
 ·exact a.sync z
end
section
variable {z : Nm} {C : Nat} {S : Dk} {L : Lw} {gs : List (List Bs)} {rs : List Bs}
end
section
variable {z : Nm} {S : Dk} {L : Lw} {sure : Bool} {lp : List Af} {gs : List (List Bs)} {ps : List An}
theorem slim_wh {C : Nat} (h : Has z S L gs) (hl : Slim z C S) : 0≤L.wh∧L.wh≤C∧(laid Ah gs).length≤C:=by
 obtain ⟨-,tail,⟨-,-,hF⟩,q,-⟩:=h
 rcases hF with ⟨-,e⟩ | ⟨f,hK⟩
 ·have:=congrArg List.length e
  rw [List.length_append,List.length_nil] at this
  omega
 ·obtain ⟨x,hx,hb,-⟩:=hK.file
  have h1:=hl.files x (List.mem_of_getElem? hx)
  rw [hb,List.length_append] at h1
  omega
def EitherT (z : Nm) (S : Dk) (old new : List Af) : Prop:=∀ keep t,∃ gq tail lq,On z (S.crash keep t) gq tail∧Ct gq=some lq∧(lq=old∨lq=new)
theorem either_says (h : Cx z S L sure lp gs) (hk : Ok S) (l : List Af) : EitherT z S lp l:=fun keep t=>by
 obtain ⟨⟨-,tail,ho,-⟩,hto,-⟩:=h
 exact ⟨gs,tail,lp,ho.crash hk keep t,hto, .inl rfl⟩
end
end Go.Proofs.YtblniomnhpedjaaGreatDoor
namespace Go.Proofs.YtblniomnhpedjaaGreatDoor
section
variable {z : Nm} {C : Nat} {S S' S1 S2 : Dk} {L : Lw} {gs : List (List (List UInt8))} {rs : List (List UInt8)} {e : Int}
def Lit (S : Dk) : Prop:=S.cut=none
theorem Lit.on (h : Lit S) : S.on=true:=by unfold Dk.on; rw [show S.cut=none from h]
theorem B0.lit {k : Nat} (h : B0 S S' k) (hl : Lit S) : Lit S':=h.1.1.trans hl
def Ans (S S' : Dk) (e : Int) : Prop:=e=0∨(e=34∧∃ k,S.n≤k∧k<S'.n∧S.fails k=true)∨(e=33∧S.room≠67108864)
theorem Ans.grow (h : Ans S S1 e) (k : S1.n≤S2.n) : Ans S S2 e:=by
 rcases h with h | ⟨h,j,h1,h2,h3⟩ | h
 ·exact .inl h
 ·exact .inr (.inl ⟨h,j,h1,by omega,h3⟩)
 ·exact .inr (.inr h)
theorem Ans.since {a : Nat} (h : B0 S S1 a) (k : Ans S1 S2 e) : Ans S S2 e:=by
 rcases k with k | ⟨k,j,h1,h2,h3⟩ | ⟨k,h1⟩
 ·exact .inl k
 ·exact .inr (.inl ⟨k,j,Nat.le_trans h.2.1 h1,h2,by rw [← h.1.2.1]; exact h3⟩)
 ·exact .inr (.inr ⟨k,by rw [← h.1.2.2]; exact h1⟩)
theorem Eo (S S' : Dk) : Ans S S' 0:=.inl rfl
theorem Fr (h : S.fails S.n=true) (hn : S.n<S'.n) : Ans S S' 34:=.inr (.inl ⟨rfl,S.n,Nat.le_refl _,hn,h⟩)
theorem Iu (h : Lit S) : S.begun=S.next:=by unfold Dk.begun; rw [if_neg (by rw [h.on]; decide)]
theorem Kn (h : Lit S) {n : Nm} (hn : Ap n=true) {f : Nat} (hl : look S.dir n=some f) : S.onFile n = .ok (f,S.fails S.n):=by
 unfold Dk.onFile
 rw [if_neg (by rw [h.on]; decide),if_neg (by rw [hn]; decide),hl]
theorem ans_remove (h : Lit S) {n : Nm} (hn : Ap n=true) {f : Nat} (hl : look S.dir n=some f) : Ans S (S.remove n).1 (S.remove n).2:=by
 unfold Dk.remove
 rw [Kn h hn hl]
 dsimp only
 split
 ·next hf=>
  rw [Iu h]
  exact Fr hf (Nat.lt_succ_self _)
 ·exact Eo _ _
theorem ans_tidy (h : Lit S) (hn : Ap (z++Ao)=true) : Ans S (As S z).1 (As S z).2:=by
 unfold As
 split
 ·exact Eo _ _
 ·next hs=>
  unfold Dk.size at hs
  split at hs
  ·omega
  ·next f hl=>exact ans_remove h hn hl
theorem N8 (h : Lit S) {n : Nm} (hn : Ap n=true) {b : List UInt8} (hr : S.room=67108864→S.used+b.length≤67108864) : Ans S (S.append n b).1 (S.append n b).2:=by
 unfold Dk.append
 rw [if_neg (by rw [h.on]; decide),if_neg (by rw [hn]; decide)]
 split
 ·next hb=>exact .inr (.inr ⟨rfl,fun e=>by have:=hr e; have:=hb.2; omega⟩)
 ·split
  ·next hf=>exact Fr hf (Nat.lt_succ_self _)
  ·exact Eo _ _
theorem ans_sync (h : Lit S) {n : Nm} (hn : Ap n=true) {f : Nat} (hl : look S.dir n=some f) : Ans S (S.sync n).1 (S.sync n).2:=by
 unfold Dk.sync
 rw [Kn h hn hl]
 dsimp only
 split
 ·next hf=>
  rw [Iu h]
  exact Fr hf (Nat.lt_succ_self _)
 ·exact Eo _ _
theorem ans_syncDir (h : Lit S) : Ans S S.syncDir.1 S.syncDir.2:=by
 unfold Dk.syncDir
 rw [if_neg (by rw [h.on]; decide)]
 split
 ·next hf=>exact Fr hf (Nat.lt_succ_self _)
 ·exact Eo _ _
theorem Oa (h : Lit S) (s : Bool) : Ans S (Ba S s).1 (Ba S s).2.2:=by
 unfold Ba
 split
 ·exact Eo _ _
 ·exact ans_syncDir h
theorem ans_rename (h : Lit S) {a b : Nm} (ha : Ap a=true) (hb : Ap b=true) (hl : look S.dir a≠none) : Ans S (S.rename a b).1 (S.rename a b).2:=by
 have h1 : ¬ (Ap a=false∨Ap b=false):=fun e=>e.elim (fun e=>by rw [ha] at e; cases e) (fun e=>by rw [hb] at e; cases e)
 unfold Dk.rename
 rw [if_neg (by rw [h.on]; decide),if_neg h1,if_neg hl]
 split
 ·next hf=>exact Fr hf (Nat.lt_succ_self _)
 ·split <;> exact Eo _ _
theorem J2 (S : Dk) (n : Nm) (s : Bool) (e : Int) : S.n≤(D4 S n s e).1.n:=(Hn S n s e).2.1
theorem Kh (h : Lit S) (hk : Ok S) (hz : Ap z=true) (hn : Ap (z++Ao)=true) (s : Bool) {b : List UInt8} (hb : b ≠ []) (hl : Slim z C S) (hr : S.room=67108864→2 * C+b.length≤67108864) : Ans S (Cc S z s b).1 (Cc S z s b).2.2:=by
 have t0:=ans_tidy (z:=z) h hn
 have t1:=Ib S z
 have tl:=hl.tidy z
 have t3:=Ex hk z
 unfold Cc
 split
 ·exact t0
 next e0=>
 have t4:=Ir (S:=S) (z:=z) (by simpa using e0)
 generalize As S z=T at *
 have u1:=tl.used t3
 have a0:=N8 (t1.lit h) hn (b:=b) (fun e=>by have:=hr (t1.1.2.2.symm.trans e); omega)
 have a0:=a0.since t1
 have a1:=t1.trans (Jd T.1 (z++Ao) b) (Nat.le_refl _)
 have a2:=Ky (b:=b) t4 hb
 unfold rep2
 split
 ·exact a0.grow (J2 _ _ _ _)
 next e1=>
 have a2:=a2 (by simpa using e1)
 generalize T.1.append (z++Ao) b=V at *
 have y0:=(ans_sync (a1.lit h) hn a2.1).since a1
 have y1:=a1.trans (Kg V.1 (z++Ao)) (Nat.le_refl _)
 unfold rep3
 split
 ·exact y0.grow (J2 _ _ _ _)
 next e2=>
 have y2:=La a2.1 a2.2 (by simpa using e2)
 generalize V.1.sync (z++Ao)=Y at *
 have r0:=(ans_rename (y1.lit h) hn hz (by rw [y2.1]; simp)).since y1
 have r1:=y1.trans (O1 Y.1 (z++Ao) z) (Nat.le_refl _)
 unfold rep4
 split
 ·exact r0.grow (J2 _ _ _ _)
 generalize Y.1.rename (z++Ao) z=N at *
 have s0:=(Oa (r1.lit h) false).since r1
 unfold rep5
 split
 ·exact s0.grow (J2 _ _ _ _)
 ·exact s0
theorem ans_extend {f : Nat} {all : List UInt8} (hK : Kx z S f all.length all) (h : Lit S) (hk : Ok S) (hz : Ap z=true) (hn : Ap (z++Ao)=true) (s : Bool) {b : List UInt8} (hl : Slim z C S) (hr : S.room=67108864→2 * C+b.length≤67108864) : Ans S (Bw S z s b).1 (Bw S z s b).2.2:=by
 have t0:=ans_tidy (z:=z) h hn
 have t1:=Ib S z
 have tl:=hl.tidy z
 have t3:=Ex hk z
 have s5:=Oh hK s
 unfold Bw
 split
 ·exact t0
 generalize As S z=T at *
 have s0:=(Oa (t1.lit h) s).since t1
 have s1:=t1.trans (Kp T.1 s) (Nat.le_refl _)
 have sl:=tl.settle s
 have s3:=Hq t3 s
 unfold D8
 split
 ·exact s0
 generalize Ba T.1 s=U at *
 have u1:=sl.used s3
 have a0:=(N8 (s1.lit h) hz (b:=b) (fun e=>by have:=hr (s1.1.2.2.symm.trans e); omega)).since s1
 have a1:=s1.trans (Jd U.1 z b) (Nat.le_refl _)
 have a5:=Pb s5 b
 unfold Ec
 split
 ·exact a0
 generalize U.1.append z b=V at *
 exact (ans_sync (a1.lit h) hz a5).since a1
theorem ans_readAt {all : List UInt8} {f : Nat} (hK : Kx z S f all.length all) (h : Lit S) (hz : Ap z=true) (k : Nat) (hl : k≤all.length) : Ans S S.begun (S.readAt z 0 (k : Int)).2:=by
 obtain ⟨x,h1,h2,h3⟩:=hK.file
 have hb : S.bytes f=all:=by simp [Dk.bytes,h1,h2]
 unfold Dk.readAt
 rw [Kn h hz hK.lookD]
 dsimp only
 rw [hb,if_neg (by omega)]
 split
 ·next hf=>
  rw [Iu h]
  exact Fr hf (Nat.lt_succ_self _)
 ·exact Eo _ _
theorem Hs {p : Dk × Bool × Int} {wh k : Int} (h : Ans S p.1 p.2.2) : Ans S (Cs p L wh k).1 (Cs p L wh k).2.2:=by
 unfold Cs
 split
 ·exact Eo _ _
 ·exact h
theorem ans_resetW (h : Has z S L gs) (hc : Lit S) (hk : Ok S) (hz : Ap z=true) (hn : Ap (z++Ao)=true) (hr : right rs=true) (hl : Slim z C S) (hb : S.room=67108864→2 * C+(grp Ah rs).length≤67108864) : Ans S (B4 S L rs).1 (B4 S L rs).2.2:=by
 unfold B4
 rw [if_neg (by rw [hr]; decide),h.1]
 exact Hs (Kh hc hk hz hn L.sure (Gr rs) hl hb)
theorem ans_appendW (h : Has z S L gs) (hc : Lit S) (hk : Ok S) (hz : Ap z=true) (hn : Ap (z++Ao)=true) (hr : right rs=true) (hl : Slim z C S) (hb : S.room=67108864→2 * C+(laid Ah gs).length+(grp Ah rs).length≤67108864) : Ans S (B7 S L rs).1 (B7 S L rs).2.2:=by
 obtain ⟨hln,tail,⟨ho,ht,hF⟩,h1,h2⟩:=h
 unfold B7
 rw [if_neg (by rw [hr]; decide),if_pos (by rw [hln,hF.size,h2])]
 unfold Ef putW
 rw [hln]
 split
 ·exact Hs (Kh hc hk hz hn L.sure (Gr rs) hl (fun e=>by have:=hb e; omega))
 next h0=>
 have hK : ∃ f,Kx z S f (laid Ah gs++tail).length (laid Ah gs++tail):=by
  rcases hF with ⟨-,e⟩ | hK
  ·have:=congrArg List.length e
   rw [List.length_append,List.length_nil] at this
   omega
  ·exact hK
 obtain ⟨f,hK⟩:=hK
 split
 ·exact Hs (ans_extend hK hc hk hz hn L.sure hl (fun e=>by have:=hb e; omega))
 ·have r0:=ans_readAt hK hc hz (laid Ah gs).length (by rw [List.length_append]; omega)
  have r1:=Id hF (laid Ah gs).length
  rw [← h1] at r0 r1
  unfold E8
  split
  ·exact Hs r0
  next e0=>
  rw [r1 (by simpa using e0),List.take_left]
  have hrm:=(D9 S).2.2
  exact Hs ((Kh ((Gc S).lit hc) hk.begun hz hn L.sure (b:=laid Ah gs++grp Ah rs) (by rw [← Fy]; exact laid_ne gs rs) hl.begun (fun e=>by have:=hb (hrm.symm.trans e); rw [List.length_append]; omega)).since (Gc S))
end
section
variable {z : Nm} {C : Nat} {S : Dk} {L : Lw} {b all : List UInt8} {gs : List (List Bs)} {rs : List Bs}
theorem used_delN (files : List Fl) (n : Nm) : ∀ l : Dir,A1 files (del n l)≤A1 files l
 | []=>by simp [del]
 | p :: r=>by
  have ih:=used_delN files n r
  unfold del A1 at ih ⊢
  rw [List.filter_cons]
  split
  ·simp only [List.map_cons,List.sum_cons]; omega
  ·simp only [List.map_cons,List.sum_cons]; omega
theorem Ge (S : Dk) : S.begun.used=S.used:=by
 unfold Dk.begun
 split <;> rfl
theorem Ma (S : Dk) (n : Nm) : (As S n).1.used≤S.used:=by
 unfold As
 split
 ·exact Nat.le_refl _
 ·unfold Dk.remove
  split
  ·exact Nat.le_of_eq (Ge S)
  ·split
   ·exact Nat.le_of_eq (Ge S)
   ·show A1 S.begun.files (del (n++Ao) S.begun.dir)≤_
    rw [← Ge S]
    exact used_delN _ _ _
theorem Ms {s : Bool} (h : (Ba S s).2.2=0) : (Ba S s).1.dir=S.dir:=by
 unfold Ba at h ⊢
 split
 ·rfl
 ·next hs=>
  rw [if_neg hs] at h
  unfold Dk.syncDir at h ⊢
  split
  ·rfl
  ·next h1=>
   rw [if_neg h1] at h
   split
   ·next h2=>rw [if_pos h2] at h; simp at h
   ·rfl
theorem used_settle {s : Bool} (h : (Ba S s).2.2=0) : (Ba S s).1.used=S.used:=by
 unfold Dk.used
 rw [Ms h,Pw]
theorem O9 {n : Nm} (h : (S.append n b).2=33) : (S.append n b).1.used=S.used:=by
 unfold Dk.append at h ⊢
 split
 ·next h1=>simp [h1] at h
 next h1=>
 rw [if_neg h1] at h
 split
 ·next h2=>rw [if_pos h2] at h; simp at h
 next h2=>
 rw [if_neg h2] at h
 split
 ·rfl
 next h3=>
 rw [if_neg h3] at h
 split
 ·next h4=>rw [if_pos h4] at h; simp at h
 next h4=>
 rw [if_neg h4] at h
 simp at h
theorem Nn {n : Nm} {e : Int} (h : S.onFile n = .error e) : e≠33:=by
 unfold Dk.onFile at h
 split at h
 ·injection h with h; subst h; decide
 split at h
 ·injection h with h; subst h; decide
 split at h
 ·injection h with h; subst h; decide
 ·cases h
theorem sync_n33 (S : Dk) (n : Nm) : (S.sync n).2≠33:=by
 unfold Dk.sync
 split
 ·next he=>exact Nn he
 ·split
  ·show (34 : Int)≠33; decide
  ·show (0 : Int)≠33; decide
theorem P5 (S : Dk) (s : Bool) : (Ba S s).2.2≠33:=by
 unfold Ba
 split
 ·show (0 : Int)≠33; decide
 ·unfold Dk.syncDir
  split
  ·show (35 : Int)≠33; decide
  ·split
   ·show (34 : Int)≠33; decide
   ·show (0 : Int)≠33; decide
theorem rename_n33 (S : Dk) (a n : Nm) : (S.rename a n).2≠33:=by
 unfold Dk.rename
 split
 ·show (35 : Int)≠33; decide
 split
 ·show (30 : Int)≠33; decide
 split
 ·show (32 : Int)≠33; decide
 split
 ·show (34 : Int)≠33; decide
 split
 ·show (0 : Int)≠33; decide
 ·show (0 : Int)≠33; decide
theorem readAt_n33 (S : Dk) (n : Nm) (a k : Int) : (S.readAt n a k).2≠33:=by
 unfold Dk.readAt
 split
 ·next he=>exact Nn he
 ·split
  ·show (2 : Int)≠33; decide
  ·split
   ·show (34 : Int)≠33; decide
   ·show (0 : Int)≠33; decide
theorem My (s : Bool) (h : (Cc S z s b).2.2=33) : (Cc S z s b).1.used≤S.used:=by
 have t:=Ma S z
 unfold Cc at h ⊢
 split
 ·exact t
 next e0=>
 rw [if_neg e0] at h
 have a1:=O9 (S:=(As S z).1) (n:=z++Ao) (b:=b)
 generalize (As S z).1.append (z++Ao) b=V at *
 unfold rep2 at h ⊢
 split
 ·next e1=>
  rw [if_pos e1] at h
  have:=a1 h
  have:=Ma V.1 z
  show (As V.1 z).1.used≤_
  omega
 next e1=>
 rw [if_neg e1] at h
 exfalso
 have y:=sync_n33 V.1 (z++Ao)
 generalize V.1.sync (z++Ao)=Y at *
 unfold rep3 at h
 split at h
 ·exact y h
 have r:=rename_n33 Y.1 (z++Ao) z
 generalize Y.1.rename (z++Ao) z=N at *
 unfold rep4 at h
 split at h
 ·exact r h
 have u:=P5 N.1 false
 generalize Ba N.1 false=U at *
 unfold rep5 at h
 split at h
 ·exact u h
 ·exact u h
theorem extend_full (s : Bool) (h : (Bw S z s b).2.2=33) : (Bw S z s b).1.used≤S.used:=by
 have t:=Ma S z
 unfold Bw at h ⊢
 split
 ·exact t
 next e0=>
 rw [if_neg e0] at h
 have u:=used_settle (S:=(As S z).1) (s:=s)
 have u33:=P5 (As S z).1 s
 generalize Ba (As S z).1 s=U at *
 unfold D8 at h ⊢
 split
 ·next e1=>
  rw [if_pos e1] at h
  exact absurd h u33
 next e1=>
 rw [if_neg e1] at h
 have u:=u (by simpa using e1)
 have a1:=O9 (S:=U.1) (n:=z) (b:=b)
 generalize U.1.append z b=V at *
 unfold Ec at h ⊢
 split
 ·next e2=>
  rw [if_pos e2] at h
  have:=a1 h
  show V.1.used≤_
  omega
 next e2=>
 rw [if_neg e2] at h
 exact absurd h (sync_n33 V.1 z)
end
end Go.Proofs.YtblniomnhpedjaaGreatDoor
namespace Go.Proofs.YtblniomnhpedjaaGreatDoor
open Go.RowKit
section
variable {z : Nm} {C : Nat} {S : Dk} {L : Lw} {b all : List UInt8} {gs : List (List Bs)} {rs : List Bs}
theorem rename_gone {a n : Nm} (h : (S.rename a n).2=0) (hne : a≠n) : look (S.rename a n).1.dir a=none:=by
 unfold Dk.rename at h ⊢
 split
 ·next h1=>simp [h1] at h
 next h1=>
 rw [if_neg h1] at h
 split
 ·next h2=>rw [if_pos h2] at h; simp at h
 next h2=>
 rw [if_neg h2] at h
 split
 ·next h3=>rw [if_pos h3] at h; simp at h
 next h3=>
 rw [if_neg h3] at h
 split
 ·next h4=>rw [if_pos h4] at h; simp at h
 show look (Bl S.next.dir (.ren a n)) a=none
 simp only [Bl]
 cases hl : look S.next.dir a with
 | none=>exact hl
 | some f=>
  show look (ins n f (del n (del a S.next.dir))) a=none
  rw [Fe _ hne,D5,if_neg hne,D5,if_pos rfl]
theorem append_dirO {n m : Nm} (hne : m≠n) : look (S.append n b).1.dir m=look S.dir m:=by
 unfold Dk.append
 split
 ·rfl
 split
 ·rfl
 split
 ·rfl
 split
 ·rfl
 show look (S.next.app n b).dir m=_
 unfold Dk.app
 split
 ·split <;> rfl
 ·split
  ·exact Fe _ hne _
  ·exact Fe _ hne _
theorem sync_dirS (n : Nm) : (S.sync n).1.dir=S.dir:=by
 have hb : S.begun.dir=S.dir:=by
  unfold Dk.begun
  split <;> rfl
 unfold Dk.sync
 split
 ·exact hb
 ·split
  ·exact hb
  ·exact hb
theorem Mi (s : Bool) (h : (Cc S z s b).2.2=0) : look (Cc S z s b).1.dir (z++Ao)=none:=by
 unfold Cc at h ⊢
 split
 ·next e0=>rw [if_pos e0] at h; exact absurd h e0
 next e0=>
 rw [if_neg e0] at h
 generalize (As S z).1.append (z++Ao) b=V at *
 unfold rep2 at h ⊢
 split
 ·next e1=>rw [if_pos e1] at h; exact absurd h e1
 next e1=>
 rw [if_neg e1] at h
 generalize V.1.sync (z++Ao)=Y at *
 unfold rep3 at h ⊢
 split
 ·next e2=>rw [if_pos e2] at h; exact absurd h e2
 next e2=>
 rw [if_neg e2] at h
 have r:=rename_gone (S:=Y.1) (a:=z++Ao) (n:=z) 
 generalize Y.1.rename (z++Ao) z=N at *
 unfold rep4 at h ⊢
 split
 ·next e3=>rw [if_pos e3] at h; exact absurd h e3
 next e3=>
 rw [if_neg e3] at h
 have r:=r (by simpa using e3) (fun e=>E0 z e.symm)
 have u:=Ms (S:=N.1) (s:=false)
 generalize Ba N.1 false=U at *
 unfold rep5 at h ⊢
 split
 ·next e4=>rw [if_pos e4] at h; exact absurd h e4
 next e4=>
 rw [u (by simpa using e4)]
 exact r
theorem extend_alone (s : Bool) (h : (Bw S z s b).2.2=0) : look (Bw S z s b).1.dir (z++Ao)=none:=by
 unfold Bw at h ⊢
 split
 ·next e0=>rw [if_pos e0] at h; exact absurd h e0
 next e0=>
 rw [if_neg e0] at h
 have t4:=Ir (S:=S) (z:=z) (by simpa using e0)
 have u:=Ms (S:=(As S z).1) (s:=s)
 generalize Ba (As S z).1 s=U at *
 unfold D8 at h ⊢
 split
 ·next e1=>rw [if_pos e1] at h; exact absurd h e1
 next e1=>
 rw [if_neg e1] at h
 have u:=u (by simpa using e1)
 have a:=append_dirO (S:=U.1) (n:=z) (m:=z++Ao) (b:=b) (fun e=>E0 z e.symm)
 rw [u,t4] at a
 generalize U.1.append z b=V at *
 unfold Ec at h ⊢
 split
 ·exact a
 ·show look (V.1.sync z).1.dir _=none
  rw [sync_dirS]
  exact a
theorem used_one (hs : Slim z C S) (hk : Ok S) (ha : look S.dir (z++Ao)=none) (h : Has z S L gs) : (S.used : Int)≤L.sz:=by
 obtain ⟨-,tail,⟨-,-,hF⟩,-,q⟩:=h
 have hz : ∀ p∈S.dir,p.1=z:=fun p hp=>by
  rcases hs.dir p hp with e | e
  ·exact e
  ·exact absurd e (look_none ha p hp)
 have hnd:=Je hk.sortD
 have key : ∀ D : Dir,D=S.dir→(A1 S.files D : Int)≤L.sz:=by
  intro D hD
  match D,hD with
  | [],_=>simp only [A1,List.map_nil,List.sum_nil]; omega
  | [p],hD=>
   have hpz:=hz p (by rw [← hD]; simp)
   have hl : look S.dir z=some p.2:=by rw [← hD,Ds,if_pos hpz]
   rcases hF with ⟨hg,-⟩ | ⟨f,hK⟩
   ·rw [hg.lookD] at hl
    cases hl
   ·rw [hK.lookD] at hl
    injection hl with hl
    obtain ⟨x,hx,hb,-⟩:=hK.file
    have : A1 S.files [p]=(laid Ah gs++tail).length:=by
     simp only [A1,List.map_cons,List.map_nil,List.sum_cons,List.sum_nil,Az,← hl,hx,Option.map_some,Option.getD_some,hb,Nat.add_zero]
    omega
  | p :: r :: t,hD=>
   exfalso
   rw [← hD] at hnd
   simp only [List.map_cons,List.nodup_cons,List.mem_cons,not_or] at hnd
   exact hnd.1.1 ((hz p (by rw [← hD]; simp)).trans (hz r (by rw [← hD]; simp)).symm)
 exact key S.dir rfl
theorem slim_resetW (h : Has z S L gs) (hl : Slim z C S) (hr : right rs=true) (hC : (grp Ah rs).length≤C) : Slim z C (B4 S L rs).1:=by
 unfold B4
 rw [if_neg (by rw [hr]; decide),h.1,E4]
 exact Ln hl L.sure hC
theorem noted_err {p : Dk × Bool × Int} {wh k : Int} : (Cs p L wh k).2.2=p.2.2:=by
 unfold Cs
 split
 ·next h=>exact h.symm
 ·rfl
theorem reset_use (h : Has z S L gs) (hr : right rs=true) : ((B4 S L rs).2.2=33→(B4 S L rs).1.used≤S.used)∧((B4 S L rs).2.2=0→look (B4 S L rs).1.dir (z++Ao)=none):=by
 unfold B4
 rw [if_neg (by rw [hr]; decide),h.1,E4,noted_err]
 exact ⟨My L.sure,Mi L.sure⟩
theorem append_use (h : Has z S L gs) (hl : Slim z C S) (hr : right rs=true) (hC : (laid Ah gs).length+(grp Ah rs).length≤C) :
  Slim z C (B7 S L rs).1∧((B7 S L rs).2.2=33→(B7 S L rs).1.used≤S.used)∧((B7 S L rs).2.2=0→look (B7 S L rs).1.dir (z++Ao)=none):=by
 obtain ⟨hln,tail,⟨ho,ht,hF⟩,h1,h2⟩:=h
 unfold B7
 rw [if_neg (by rw [hr]; decide),if_pos (by rw [hln,hF.size,h2])]
 unfold Ef putW
 rw [E4,noted_err,hln]
 split
 ·exact ⟨Ln hl L.sure (by omega),My L.sure,Mi L.sure⟩
 next h0=>
 have hK : ∃ f,Kx z S f (laid Ah gs++tail).length (laid Ah gs++tail):=by
  rcases hF with ⟨-,e⟩ | hK
  ·have:=congrArg List.length e
   rw [List.length_append,List.length_nil] at this
   omega
  ·exact hK
 obtain ⟨f,hK⟩:=hK
 split
 ·next h3=>
  refine ⟨slim_extend hK hl L.sure ?_,extend_full L.sure,extend_alone L.sure⟩
  rw [h1,h2] at h3
  omega
 ·have r1:=Id hF (laid Ah gs).length
  rw [← h1] at r1
  have r33:=readAt_n33 S z 0 L.wh
  unfold E8
  split
  ·next e0=>exact ⟨hl.begun,fun e=>absurd e r33,fun e=>absurd e e0⟩
  next e0=>
  rw [r1 (by simpa using e0),List.take_left]
  refine ⟨Ln hl.begun L.sure (by rw [List.length_append]; omega),fun e=>?_,Mi L.sure⟩
  have:=My L.sure e
  rw [Ge] at this
  exact this
end
section
variable {z : Nm} {S : Dk} {L : Lw} {sure : Bool} {lp : List Af} {gs : List (List Bs)} {ps : List An}
theorem lay_play (h : Cx z S L sure lp gs) (hk : Ok S) (hk' : Ok (Bf S L sure ps (Ai lp ps)).1) (hz : Cj z=true) (hr : Bn lp) (hl : ∀ p∈lp,okP p) (hc : Lit S) (hs : Slim z 2200000 S) (hp : Bc ps=true) (hn : ps ≠ []) (hf : Bb (Ai lp ps)=true) :
  Ans S (Bf S L sure ps (Ai lp ps)).1 (Bf S L sure ps (Ai lp ps)).2.2∧Slim z 2200000 (Bf S L sure ps (Ai lp ps)).1∧B0 S (Bf S L sure ps (Ai lp ps)).1 8∧(Bf S L sure ps (Ai lp ps)).1.bulk≤S.bulk+2200000
 ∧((Bf S L sure ps (Ai lp ps)).2.2=33→(Bf S L sure ps (Ai lp ps)).1.used≤S.used)∧((Bf S L sure ps (Ai lp ps)).2.2=0→(Bf S L sure ps (Ai lp ps)).1.used≤10000+2 * Ag (Ai lp ps)):=by
 have hnm:=Hd hz
 have hfl:=Ea hf
 have hsm:=lay_small h hk hnm.1 hl hp hf
 obtain ⟨gs',k1,-,-⟩:=Ks h hk hnm.1 hr hl hp hn hf
 obtain ⟨h1,h2,h3⟩:=h
 have hw:=slim_wh h1 hs
 by_cases hcnd : sure=true∧L.wh+By (ps.map Aw)≤10000+2 * Ag (Ai lp ps)
 ·rw [Ij hcnd.1 hcnd.2] at *
  have hgm:=Lm (ps.map Aw)
  have hlw : L.wh=((laid Ah gs).length : Int):=by
   obtain ⟨-,tail,-,q,-⟩:=h1
   exact q
  have hm:=append_use (C:=2200000) (rs:=ps.map Aw) h1 hs (Ei hp) (by omega)
  have hbu:=Nc (rs:=ps.map Aw) h1
  refine ⟨ans_appendW h1 hc hk hnm.1 hnm.2 (Ei hp) hs (fun _=>by omega),hm.1,near_appendW S L _,by omega,hm.2.1,fun e=>?_⟩
  have u:=used_one hm.1 hk' (hm.2.2 e) (k1.1 e)
  have:=append_whole h1 (Ei hp) e
  have:=hsm e
  omega
 ·rw [Ha hcnd] at *
  have he:=Gi ps hl (Er hp).2.1
  have hga:=K3 he
  have hrr:=Ei (Hw he hf)
  have hm:=reset_use h1 hrr
  have hsl:=slim_resetW (C:=2200000) h1 hs hrr (by omega)
  have hbu:=Px S L ((Bo (Ai lp ps)).map Aw)
  refine ⟨ans_resetW h1 hc hk hnm.1 hnm.2 hrr hs (fun _=>by omega),hsl,(near_resetW S L _).more (by omega),by omega,hm.1,fun e=>?_⟩
  have u:=used_one hsl hk' (hm.2 e) (k1.1 e)
  have:=reset_whole hrr e
  have:=hsm e
  omega
theorem Nl (h : Cx z S L sure lp gs) (hk : Ok S) (hk' : Ok (Aq S L sure lp ps).1) (hz : Cj z=true) (hr : Bn lp) (hl : ∀ p∈lp,okP p) (_hf0 : Bb lp=true) (hc : Lit S) (hs : Slim z 2200000 S) (hE : ¬ (Bg lp ps≠0∨ps = [])) :
  (Bg lp ps=0∧Bz lp ps=Ai lp ps)∧Ans S (Aq S L sure lp ps).1 (Aq S L sure lp ps).2.2.2.2∧Slim z 2200000 (Aq S L sure lp ps).1∧B0 S (Aq S L sure lp ps).1 8∧(Aq S L sure lp ps).1.bulk≤S.bulk+2200000
 ∧((Aq S L sure lp ps).2.2.2.2=33→(Aq S L sure lp ps).1.used≤S.used)
 ∧((Aq S L sure lp ps).2.2.2.2=0→(Aq S L sure lp ps).1.used≤10000+2 * Ag (Bz lp ps)∧(Aq S L sure lp ps).2.2.2.1=Bz lp ps∧∃ gs',Cx z (Aq S L sure lp ps).1 (Aq S L sure lp ps).2.1 (Aq S L sure lp ps).2.2.1 (Bz lp ps) gs')
 ∧((Aq S L sure lp ps).2.2.2.2≠0→(Aq S L sure lp ps).2.2.2.1=lp∧Cx z (Aq S L sure lp ps).1 (Aq S L sure lp ps).2.1 (Aq S L sure lp ps).2.2.1 lp gs):=by
 obtain ⟨ha,hne⟩:=not_or.1 hE
 have ha : Bg lp ps=0:=Classical.not_not.1 ha
 have hp : Bc ps=true:=by
  cases hp : Bc ps with
  | true=>rfl
  | false=>rw [Hy hp] at ha; cases ha
 have hf : Bb (Ai lp ps)=true:=by
  cases hf : Bb (Ai lp ps) with
  | true=>rfl
  | false=>rw [Hv hp hf] at ha; cases ha
 have hnm:=Hd hz
 obtain ⟨gs',k1,k2,k3⟩:=Ks h hk hnm.1 hr hl hp hne hf
 refine ⟨⟨ha,Gf ha⟩,?_⟩
 rw [Gf ha]
 by_cases q1 : (Bf S L sure ps (Ai lp ps)).2.2=0
 ·rw [M0 hp hne hf q1] at hk' ⊢
  obtain ⟨p1,p2,p3,p4,p5,p6⟩:=lay_play h hk hk' hz hr hl hc hs hp hne hf
  exact ⟨Eo _ _,p2,p3,p4,fun e=>by simp at e,fun _=>⟨p6 q1,rfl,gs',k1.1 q1,k3,fun _=>k2⟩,fun e=>absurd rfl e⟩
 ·rw [Nf hp hne hf q1] at hk' ⊢
  obtain ⟨p1,p2,p3,p4,p5,p6⟩:=lay_play h hk hk' hz hr hl hc hs hp hne hf
  have ho : oursT (Bf S L sure ps (Ai lp ps)).2.2=(Bf S L sure ps (Ai lp ps)).2.2:=by
   rcases p1 with e | ⟨e,-⟩ | ⟨e,-⟩ <;> rw [e] <;> rfl
  have h35 : (Bf S L sure ps (Ai lp ps)).2.2≠35:=fun e0=>by
   rcases p1 with e | ⟨e,-⟩ | ⟨e,-⟩ <;> omega
  dsimp only
  rw [ho]
  refine ⟨p1,p2,p3,p4,p5,fun e=>absurd e q1,fun _=>⟨rfl,?_,h.2.1,h.2.2⟩⟩
  rcases k1.2 q1 with g | ⟨g,-⟩
  ·exact g
  ·exact absurd g h35
end
end Go.Proofs.YtblniomnhpedjaaGreatDoor
namespace Go.Proofs.YtblniomnhpedjaaGreatDoor
open Go.RowKit
def chT (d : Nat) : UInt8:=UInt8.ofNat (48+d)
theorem chT_nat {d : Nat} (h : d<10) : (chT d).toNat=48+d:=by
 unfold chT
 rw [UInt8.toNat_ofNat']
 omega
def dgs (n : Nat) : Bs:=if n=0 then [] else dgs (n / 10) ++ [chT (n % 10)]
termination_by n
decreasing_by omega
def dgT (n : Nat) : Bs:=dgs (n / 10) ++ [chT (n % 10)]
theorem dgs_pos {n : Nat} (h : n≠0) : dgs n=dgs (n / 10) ++ [chT (n % 10)]:=by
 conv=>lhs; unfold dgs
 rw [if_neg h]
theorem Mf : dgs 0 = []:=by unfold dgs; rfl
theorem dgs_len : ∀ (k n : Nat),n<10 ^ k→(dgs n).length≤k
 | 0,n,h=>by
  obtain rfl : n=0:=by simpa using h
  rw [Mf]
  simp
 | k+1,n,h=>by
  by_cases hn : n=0
  ·rw [hn,Mf]
   simp
  ·rw [dgs_pos hn,List.length_append]
   have:=dgs_len k (n / 10) (by rw [Nat.pow_succ] at h; omega)
   simp
   omega
theorem strB_add (a b : Bs) : Ae a++Ae b=Ae (a++b):=by
 unfold Ae
 apply ByteArray.ext
 simp
theorem add_str (W : World) (a b : Bs) (h : a.length+b.length≤9223372036854775807) : (Op.stringOp .add (Ae a) (Ae b)).run Tryz.prog W = .ok (.string (Ae (a++b))) W:=by
 rw [run_string_add_sum _ _ _ (by rw [B1,B1]; omega),strB_add]
theorem one_text (W : World) (c : UInt8) : (convert 68 9 (.slice (some ⟨W.heap.size,0,none⟩) 1 1)).run Tryz.prog (W.alloc (.cells #[.int .u8 (c.toNat : Int)] 5)) = .ok (.string (Ae [c])) (W.alloc (.cells #[.int .u8 (c.toNat : Int)] 5)):=by
 refine G9 _ _ [c] ⟨some ⟨W.heap.size,0,none⟩,1,rfl,Nat.le_refl _,by unfold maxLen; omega,(fun h=>by cases h),fun _=>⟨W.heap.size,0,rfl,by simp,fun j hj=>?_⟩⟩
 have hj' : j=0:=by simpa using hj
 subst hj'
 rw [Ad (Au W _)]
 rfl
theorem N9 (W : World) (n : Nat) : (convert 68 9 (.slice (some ⟨W.heap.size,0,none⟩) 1 1)).run Tryz.prog (W.alloc (.cells #[.int .u8 (48+(n : Int) % 10)] 5)) = .ok (.string (Ae [chT (n % 10)])) (W.alloc (.cells #[.int .u8 (48+(n : Int) % 10)] 5)):=by
 have h:=one_text W (chT (n % 10))
 rw [chT_nat (show n % 10<10 by omega),show ((48+n % 10 : Nat) : Int)=48+(n : Int) % 10 by omega] at h
 exact h
set_option maxRecDepth 20000 in
theorem Np (w : World) (n : Nat) (hn : n≤99999) : Calls Tryz.prog 33 #[.int .i64 (n : Int)] w fun e w'=>e = .returned (.string (Ae (dgT n)))∧Below w.heap.size w w':=by
 have hcv:=N9 w n
 have hb1 : Below w.heap.size w (w.alloc (.cells #[.int .u8 (48+(n : Int) % 10)] 5)):=(Below.refl _ w).alloc (Nat.le_refl _) _
 go_enter Tryz.func33,Tryz.ntmps33
 go_wp2_with fail
 clear hcv
 generalize w.alloc (.cells #[.int .u8 (48+(n : Int) % 10)] 5)=w1 at *
 go_loopw [0,3] (fun t u wr=>∃ (m : Nat) (s : Bs),t = .int .i64 m∧m≤n∧u = .string (Ae s)∧dgs m++s=dgT n∧Below w.heap.size w wr) (fun t _ _=>(intOf t).toNat)
 case atStart=>exact ⟨n / 10,[chT (n % 10)],by first | rfl | go_num,by omega,rfl,rfl,hb1⟩
 case round=>
  obtain ⟨m,s,rfl,hm,rfl,hd,hbr⟩:=hrel
  by_cases h0 : m=0
  ·subst h0
   rw [Mf,List.nil_append] at hd
   subst hd
   go_wp2_with fail
   skip
   try go_wp2
   go_ret
   exact ⟨rfl,hbr⟩
  ·have hpos : decide ((0 : Int)<(m : Int))=true:=decide_eq_true (by omega)
   have hcv:=N9 wr m
   have hb2 : Below w.heap.size w (wr.alloc (.cells #[.int .u8 (48+(m : Int) % 10)] 5)):=hbr.alloc hbr.size _
   have hd2 : dgs (m / 10)++([chT (m % 10)]++s)=dgT n:=by rw [← hd,dgs_pos h0,List.append_assoc]
   have hsl : s.length≤10:=by
    have h9 : (dgT n).length≤6:=by
     unfold dgT
     rw [List.length_append]
     have:=dgs_len 5 (n / 10) (by omega)
     simp
     omega
    rw [← hd,List.length_append] at h9
    omega
   have hadd:=fun W=>add_str W [chT (m % 10)] s (by simp; omega)
   have HD:=Ab (And.intro hd2 hb2)
   clear hd hd2 hb2 hsl
   go_wp2_with fail
   generalize wr.alloc (.cells #[.int .u8 (48+(m : Int) % 10)] 5)=w2 at *
   go_roundw
   case rel=>exact ⟨m / 10,_,by first | rfl | go_num,by omega,rfl,HD.out.1,HD.out.2⟩
   case measure=>simp [intOf]; omega
end Go.Proofs.YtblniomnhpedjaaGreatDoor
namespace Go.Proofs.YtblniomnhpedjaaGreatDoor
open Go.RowKit
def pk (c n : Int) : Int:=(if c<0 then -(c+1) else c) % n
theorem Lr {c n : Int} (hn : 0<n) : 0≤pk c n∧pk c n<n:=⟨Int.emod_nonneg _ (by omega),Int.emod_lt_of_pos _ hn⟩
theorem ret_i {a b : Int} (h : a=b) : Ending.returned (.int .i64 a) = .returned (.int .i64 b):=by rw [h]
set_option maxRecDepth 20000 in
theorem pick_any (w : World) (c n : Int) (hc : -9223372036854775808≤c∧c≤9223372036854775807) (hn : 0<n∧n≤1000) :
  Calls Tryz.prog 12 #[.int .i64 c, .int .i64 n] w fun e w'=>e = .returned (.int .i64 (pk c n))∧w'=w:=by
 have hn0 : ¬ n=0:=by omega
 unfold pk
 by_cases h : c<0
 ·rw [if_pos h]
  have hm : (-(c+1)).tmod n=(-(c+1)) % n:=Int.tmod_eq_emod_of_nonneg (by omega)
  have h1:=Int.emod_nonneg (-(c+1)) (show n≠0 by omega)
  have h2:=Int.emod_lt_of_pos (-(c+1)) (show 0<n by omega)
  go_enter Tryz.func12,Tryz.ntmps12
  go_wp2
  go_ret
  exact ⟨ret_i (by first | rfl | omega),rfl⟩
 ·rw [if_neg h]
  have hm : c.tmod n=c % n:=Int.tmod_eq_emod_of_nonneg (by omega)
  have h1:=Int.emod_nonneg c (show n≠0 by omega)
  have h2:=Int.emod_lt_of_pos c (show 0<n by omega)
  go_enter Tryz.func12,Tryz.ntmps12
  go_wp2
  go_ret
  exact ⟨ret_i (by first | rfl | omega),rfl⟩
end Go.Proofs.YtblniomnhpedjaaGreatDoor
