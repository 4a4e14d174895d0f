/-
  Texts joined: MildPure, TSlim, TDigits, Pick.
-/
import Derived.Test.YtblniomnhpedjaaGreatDoorL29Firm
import Derived.Test.YtblniomnhpedjaaGreatDoorL42TLaw
import Derived.Test.YtblniomnhpedjaaGreatDoorL34TLog
import Derived.Test.YtblniomnhpedjaaGreatDoorL1Chg
namespace Go.Proofs.YtblniomnhpedjaaGreatDoor
variable {z : Nm} {S S' : Dk} {L : Lw} {gs : List (List (List UInt8))} {rs : List (List UInt8)}
def Cw (S : Dk) : Prop:=∀ k,S.fails k=false
def Fine (e : Int) : Prop:=e=0∨e=35
def B2 (S S' : Dk) (k : Nat) : Prop:=Alt S S'∧S.n≤S'.n∧S'.n≤S.n+k
theorem B2.refl (S : Dk) (k : Nat) : B2 S S k:=⟨Alt.refl S,Nat.le_refl _,Nat.le_add_right _ _⟩
theorem B2.trans {S'' : Dk} {a b c : Nat} (h : B2 S S' a) (k : B2 S' S'' b) (hc : a+b≤c) : B2 S S'' c:=⟨h.1.trans k.1,Nat.le_trans h.2.1 k.2.1,by have:=h.2.2; have:=k.2.2; omega⟩
theorem B2.more {a b : Nat} (h : B2 S S' a) (hc : a≤b) : B2 S S' b:=⟨h.1,h.2.1,by have:=h.2.2; omega⟩
theorem B2.mild {k : Nat} (h : B2 S S' k) (hm : Cw S) : Cw S':=fun j=>by rw [h.1.2.1]; exact hm j
theorem Bz.mild (h : Bz S) : Cw S:=h.2
theorem Ho (S : Dk) : S.n≤S.begun.n∧S.begun.n≤S.n+1:=by
 unfold Dk.begun
 split
 ·exact ⟨Nat.le_refl _,Nat.le_succ _⟩
 ·exact ⟨Nat.le_succ _,Nat.le_refl _⟩
theorem Hk (S : Dk) : B2 S S.begun 1:=⟨Dp S,Ho S⟩
theorem n_app (S : Dk) (n : Nm) (b : List UInt8) : (S.app n b).n=S.n:=by
 unfold Dk.app
 split <;> split <;> rfl
theorem Iw (S : Dk) (n : Nm) (b : List UInt8) : B2 S (S.append n b).1 1:=by
 refine ⟨L3 S n b,?_⟩
 unfold Dk.append
 split
 ·exact ⟨Nat.le_refl _,Nat.le_succ _⟩
 split
 ·exact ⟨Nat.le_succ _,Nat.le_refl _⟩
 split
 ·exact ⟨Nat.le_succ _,Nat.le_refl _⟩
 split
 ·exact ⟨Nat.le_succ _,Nat.le_refl _⟩
 ·show S.n≤(S.next.app n b).n∧(S.next.app n b).n≤S.n+1
  rw [n_app]
  exact ⟨Nat.le_succ _,Nat.le_refl _⟩
theorem Kg (S : Dk) (n : Nm) : B2 S (S.sync n).1 1:=by
 refine ⟨J9 S n,?_⟩
 unfold Dk.sync
 split
 ·exact Ho S
 ·split <;> exact Ho S
theorem near_syncDir (S : Dk) : B2 S S.syncDir.1 1:=by
 refine ⟨O4 S,?_⟩
 unfold Dk.syncDir
 split
 ·exact ⟨Nat.le_refl _,Nat.le_succ _⟩
 split <;> exact ⟨Nat.le_succ _,Nat.le_refl _⟩
theorem Ny (S : Dk) (a b : Nm) : B2 S (S.rename a b).1 1:=by
 refine ⟨Pb S a b,?_⟩
 unfold Dk.rename
 split
 ·exact ⟨Nat.le_refl _,Nat.le_succ _⟩
 split
 ·exact ⟨Nat.le_succ _,Nat.le_refl _⟩
 split
 ·exact ⟨Nat.le_succ _,Nat.le_refl _⟩
 split
 ·exact ⟨Nat.le_succ _,Nat.le_refl _⟩
 split <;> exact ⟨Nat.le_succ _,Nat.le_refl _⟩
theorem near_remove (S : Dk) (n : Nm) : B2 S (S.remove n).1 1:=by
 refine ⟨Og S n,?_⟩
 unfold Dk.remove
 split
 ·exact Ho S
 ·split <;> exact Ho S
theorem Hf (S : Dk) (n : Nm) : B2 S (Av S n).1 1:=by
 unfold Av
 split
 ·exact B2.refl S 1
 ·exact near_remove S _
theorem K0 (S : Dk) (s : Bool) : B2 S (Be S s).1 1:=by
 unfold Be
 split
 ·exact B2.refl S 1
 ·exact near_syncDir S
theorem Jo (S : Dk) (n : Nm) (s : Bool) (e : Int) : B2 S (D9 S n s e).1 1:=Hf S n
theorem Mg (S : Dk) (n : Nm) (s : Bool) (b : List UInt8) : B2 S (Cs S n s b).1 6:=by
 have t:=Hf S n
 unfold Cs
 split
 ·exact t.more (by omega)
 have a:=t.trans (Iw (Av S n).1 (n++Ao) b) (Nat.le_refl _)
 generalize (Av S n).1.append (n++Ao) b=V at *
 unfold rep2
 split
 ·exact a.trans (Jo V.1 n false V.2) (by omega)
 have y:=a.trans (Kg V.1 (n++Ao)) (Nat.le_refl _)
 generalize V.1.sync (n++Ao)=Y at *
 unfold rep3
 split
 ·exact y.trans (Jo Y.1 n false Y.2) (by omega)
 have r:=y.trans (Ny Y.1 (n++Ao) n) (Nat.le_refl _)
 generalize Y.1.rename (n++Ao) n=N at *
 unfold rep4
 split
 ·exact r.trans (Jo N.1 n false N.2) (by omega)
 have u:=r.trans (K0 N.1 false) (Nat.le_refl _)
 generalize Be N.1 false=U at *
 unfold rep5
 split
 ·exact u.trans (Jo U.1 n U.2.1 U.2.2) (by omega)
 ·exact u.more (by omega)
theorem near_extend (S : Dk) (n : Nm) (s : Bool) (b : List UInt8) : B2 S (Cb S n s b).1 4:=by
 have t:=Hf S n
 unfold Cb
 split
 ·exact t.more (by omega)
 have u:=t.trans (K0 (Av S n).1 s) (Nat.le_refl _)
 generalize Be (Av S n).1 s=U at *
 unfold Eu
 split
 ·exact u.more (by omega)
 have a:=u.trans (Iw U.1 n b) (Nat.le_refl _)
 generalize U.1.append n b=V at *
 unfold E0
 split
 ·exact a.more (by omega)
 ·exact a.trans (Kg V.1 n) (by omega)
theorem near_resetW (S : Dk) (L : Lw) (rs : List (List UInt8)) : B2 S (Cy S L rs).1 7:=by
 unfold Cy
 split
 ·exact B2.refl S 7
 ·rw [Fs]
  exact (Mg _ _ _ _).more (by omega)
theorem near_put (S : Dk) (L : Lw) (b : List UInt8) : B2 S (putW S L b).1 7:=by
 unfold putW
 split
 ·exact (Mg _ _ _ _).more (by omega)
 split
 ·exact (near_extend _ _ _ _).more (by omega)
 ·unfold Fu
  split
  ·exact (Hk S).more (by omega)
  ·exact (Hk S).trans (Mg _ _ _ _) (by omega)
theorem near_appendW (S : Dk) (L : Lw) (rs : List (List UInt8)) : B2 S (C1 S L rs).1 8:=by
 unfold C1
 split
 ·exact B2.refl S 8
 split
 ·unfold Ed
  rw [Fs]
  exact (near_put _ _ _).more (by omega)
 ·unfold appendL
  split
  ·exact (Hk S).more (by omega)
  ·unfold Ed
   rw [Fs]
   exact (Hk S).trans (near_put _ _ _) (by omega)
theorem Li (h : Cw S) {n : Nm} (hn : Am n=true) {f : Nat} (hl : look S.dir n=some f) : S.onFile n = .error 35∨S.onFile n = .ok (f,false):=by
 unfold Dk.onFile
 split
 ·exact .inl rfl
 ·rw [if_neg (by rw [hn]; decide),hl,h]
  exact .inr rfl
theorem mild_remove (h : Cw S) {n : Nm} (hn : Am n=true) {f : Nat} (hl : look S.dir n=some f) : Fine (S.remove n).2:=by
 unfold Dk.remove
 rcases Li h hn hl with e | e
 ·rw [e]; exact .inr rfl
 ·rw [e]; exact .inl rfl
theorem mild_tidy (h : Cw S) (hn : Am (z++Ao)=true) : Fine (Av S z).2:=by
 unfold Av
 split
 ·exact .inl rfl
 ·next hs=>
  unfold Dk.size at hs
  split at hs
  ·omega
  ·next f hl=>exact mild_remove h hn hl
theorem Of (h : Cw S) {n : Nm} (hn : Am n=true) {b : List UInt8} (hr : S.used+b.length≤S.room) : Fine (S.append n b).2:=by
 unfold Dk.append
 split
 ·exact .inr rfl
 ·rw [if_neg (by rw [hn]; decide),if_neg (fun e=>by have:=e.2; omega),if_neg (by rw [h]; decide)]
  exact .inl rfl
theorem mild_sync (h : Cw S) {n : Nm} (hn : Am n=true) {f : Nat} (hl : look S.dir n=some f) : Fine (S.sync n).2:=by
 unfold Dk.sync
 rcases Li h hn hl with e | e
 ·rw [e]; exact .inr rfl
 ·rw [e]; exact .inl rfl
theorem mild_syncDir (h : Cw S) : Fine S.syncDir.2:=by
 unfold Dk.syncDir
 split
 ·exact .inr rfl
 ·rw [if_neg (by rw [h]; decide)]
  exact .inl rfl
theorem M7 (h : Cw S) (s : Bool) : Fine (Be S s).2.2:=by
 unfold Be
 split
 ·exact .inl rfl
 ·exact mild_syncDir h
theorem mild_rename (h : Cw S) {a b : Nm} (ha : Am a=true) (hb : Am b=true) (hl : look S.dir a≠none) : Fine (S.rename a b).2:=by
 have h1 : ¬ (Am a=false∨Am b=false):=fun e=>e.elim (fun e=>by rw [ha] at e; cases e) (fun e=>by rw [hb] at e; cases e)
 have h2 : ¬ S.fails S.n=true:=by rw [h]; decide
 unfold Dk.rename
 split
 ·exact .inr rfl
 ·split <;> exact .inl rfl
theorem mild_readAt {all : List UInt8} {f : Nat} (hK : Kx z S f all.length all) (h : Cw S) (hz : Am z=true) (k : Nat) (hl : k≤all.length) : Fine (S.readAt z 0 (k : Int)).2:=by
 obtain ⟨x,h1,h2,h3⟩:=hK.file
 have hb : S.bytes f=all:=by simp [Dk.bytes,h1,h2]
 unfold Dk.readAt
 rcases Li h hz hK.lookD with e | e
 ·rw [e]; exact .inr rfl
 ·rw [e]
  dsimp only
  rw [hb,if_neg (by omega)]
  exact .inl rfl
theorem Hj {p : Dk × Bool × Int} {wh k : Int} (h : Fine p.2.2) : Fine (Di p L wh k).2.2:=by
 unfold Di
 split
 ·exact .inl rfl
 ·exact h
end Go.Proofs.YtblniomnhpedjaaGreatDoor
namespace Go.Proofs.YtblniomnhpedjaaGreatDoor
open Go.RowKit
def Two (z n : Nm) : Prop:=n=z∨n=z++Ao
def actTwo (z : Nm) : Ac→Prop
 | .made n _=>Two z n
 | .ren _ b=>Two z b
 | _=>True
theorem done_two {z : Nm} {l : Dir} {a : Ac} (hl : ∀ p∈l,Two z p.1) (ha : actTwo z a) : ∀ p∈Bl l a,Two z p.1:=by
 intro p hp
 cases a with
 | made n f=>
  rcases E9.1 hp with rfl | hp
  ·exact ha
  ·exact hl p hp
 | ren x y=>
  simp only [Bl] at hp
  cases hk : look l x with
  | none=>rw [hk] at hp; exact hl p hp
  | some f=>
   rw [hk] at hp
   rcases E9.1 hp with rfl | hp
   ·exact ha
   ·exact hl p (List.mem_filter.1 (List.mem_filter.1 hp).1).1
 | rem n=>exact hl p (List.mem_filter.1 hp).1
 | more f k=>exact hl p hp
theorem app_two {z : Nm} (cs : List Ac) : ∀ {l : Dir},(∀ p∈l,Two z p.1)→(∀ a∈cs,actTwo z a)→∀ p∈A2 l cs,Two z p.1:=by
 induction cs with
 | nil=>exact fun hl _=>hl
 | cons a r ih=>exact fun hl ha=>ih (done_two hl (ha a (by simp))) (fun x hx=>ha x (by simp [hx]))
theorem Kr {l : List Fl} {f : Nat} {g : Fl→Fl} {x : Fl} (h : x∈l.modify f g) : x∈l ∨ ∃ y,l[f]? = some y∧x=g y:=by
 obtain ⟨i,hi⟩:=List.getElem?_of_mem h
 rw [List.getElem?_modify] at hi
 by_cases e : f=i
 ·subst e
  cases hq : l[f]? with
  | none=>simp [hq] at hi
  | some y=>exact .inr ⟨y,rfl,by simpa [hq] using hi.symm⟩
 ·left
  simp [e] at hi
  exact List.mem_of_getElem? hi
theorem two_len {z : Nm} : ∀ {l : Dir},(l.map (·.1)).Nodup→(∀ p∈l,Two z p.1)→l.length≤2
 | [],_,_=>by simp
 | [_],_,_=>by simp
 | [_,_],_,_=>by simp
 | p :: q :: r :: t,hn,h=>by
  exfalso
  have h1:=h p (by simp)
  have h2:=h q (by simp)
  have h3:=h r (by simp)
  simp only [List.map_cons,List.nodup_cons,List.mem_cons,not_or] at hn
  obtain ⟨⟨a1,a2,-⟩,⟨a3,-⟩,-⟩:=hn
  unfold Two at h1 h2 h3
  rcases h1 with h1 | h1 <;> rcases h2 with h2 | h2 <;> rcases h3 with h3 | h3 <;> first
   | exact a1 (h1.trans h2.symm)
   | exact a2 (h1.trans h3.symm)
   | exact a3 (h2.trans h3.symm)
structure Slim (z : Nm) (C : Nat) (S : Dk) : Prop where
 dir : ∀ p∈S.dir,Two z p.1
 sure : ∀ p∈S.sure,Two z p.1
 acts : ∀ a∈S.acts,actTwo z a
 files : ∀ x∈S.files,x.b.length≤C
section
variable {z : Nm} {C : Nat} {S : Dk} {b all : List UInt8}
theorem slim_new (z : Nm) (C r : Nat) : Slim z C (Dk.new r):=⟨fun p hp=>(by cases hp),fun p hp=>(by cases hp),fun p hp=>(by cases hp),fun p hp=>(by cases hp)⟩
theorem Slim.used (h : Slim z C S) (hk : Ok S) : S.used≤2 * C:=by
 have h1:=two_len (Kh hk.sortD) h.dir
 have key : ∀ l : Dir,(l.map fun p=>Az S.files p.2).sum≤l.length * C:=by
  intro l
  induction l with
  | nil=>simp
  | cons p r ih=>
   have : Az S.files p.2≤C:=by
    unfold Az
    cases hq : S.files[p.2]? with
    | none=>simp
    | some x=>simpa using h.files x (List.mem_of_getElem? hq)
   simp only [List.map_cons,List.sum_cons,List.length_cons,Nat.succ_mul]
   omega
 have:=key S.dir
 unfold Dk.used Ba
 have h2 : S.dir.length * C≤2 * C:=Nat.mul_le_mul_right _ h1
 omega
theorem Slim.next (h : Slim z C S) : Slim z C S.next:=⟨h.dir,h.sure,h.acts,h.files⟩
theorem Slim.cutAt (h : Slim z C S) (op : Int) : Slim z C (S.cutAt op):=⟨h.dir,h.sure,h.acts,h.files⟩
theorem Slim.begun (h : Slim z C S) : Slim z C S.begun:=by
 unfold Dk.begun
 split
 ·exact h
 ·exact h.next
theorem Slim.keepF (h : Slim z C S) (f : Nat) : Slim z C (S.keepF f):=⟨h.dir,h.sure,fun a ha=>h.acts a (List.mem_filter.1 ha).1,fun x hx=>by
 rcases Kr hx with hx | ⟨y,hy,rfl⟩
 ·exact h.files x hx
 ·exact h.files y (List.mem_of_getElem? hy)⟩
theorem Slim.undoF (h : Slim z C S) (f : Nat) : Slim z C (S.undoF f):=⟨h.dir,h.sure,fun a ha=>h.acts a (List.mem_filter.1 ha).1,fun x hx=>by
 rcases Kr hx with hx | ⟨y,hy,rfl⟩
 ·exact h.files x hx
 ·have:=h.files y (List.mem_of_getElem? hy)
  simp only [List.length_take]
  omega⟩
theorem Slim.keepD (h : Slim z C S) : Slim z C S.keepD:=⟨h.dir,h.dir,fun a ha=>h.acts a (List.mem_filter.1 ha).1,h.files⟩
theorem Slim.undoD (h : Slim z C S) : Slim z C S.undoD:=⟨h.sure,h.sure,fun a ha=>h.acts a (List.mem_filter.1 ha).1,h.files⟩
theorem Slim.act (h : Slim z C S) {a : Ac} (ha : actTwo z a) : Slim z C (S.act a):=⟨done_two h.dir ha,h.sure,fun x hx=>by
 rcases List.mem_append.1 hx with hx | hx
 ·exact h.acts x hx
 ·simp at hx; subst hx; exact ha,h.files⟩
theorem Slim.mk1 (h : Slim z C S) {n : Nm} (hn : Two z n) : Slim z C (S.mk1 n):=⟨fun p hp=>by
 rcases E9.1 hp with rfl | hp
 ·exact hn
 ·exact h.dir p hp,h.sure,fun x hx=>by
 rcases List.mem_append.1 hx with hx | hx
 ·exact h.acts x hx
 ·simp at hx; subst hx; exact hn,fun x hx=>by
 rcases List.mem_append.1 hx with hx | hx
 ·exact h.files x hx
 ·simp at hx; subst hx; exact Nat.zero_le _⟩
theorem Slim.ext (h : Slim z C S) (f : Nat) (hb : ∀ x,S.files[f]? = some x→x.b.length+b.length≤C) : Slim z C (S.ext f b):=⟨h.dir,h.sure,fun x hx=>by
 rcases List.mem_append.1 hx with hx | hx
 ·exact h.acts x hx
 ·simp at hx; subst hx; trivial,fun x hx=>by
 rcases Kr hx with hx | ⟨y,hy,rfl⟩
 ·exact h.files x hx
 ·have:=hb y hy
  simp only [List.length_append]
  exact this⟩
theorem Slim.append (h : Slim z C S) {n : Nm} (hn : Two z n) (hb : ∀ f,look S.dir n=some f→∀ x,S.files[f]? = some x→x.b.length+b.length≤C) (hc : b.length≤C) : Slim z C (S.append n b).1:=by
 unfold Dk.append
 split
 ·exact h
 split
 ·exact h.next
 split
 ·exact h.next
 split
 ·exact h.next
 show Slim z C (S.next.app n b)
 unfold Dk.app
 split
 ·rename_i f hf
  split
  ·exact h.next
  ·exact h.next.ext f (hb f hf)
 ·split
  ·exact h.next.mk1 hn
  ·refine (h.next.mk1 hn).ext _ (fun x hx=>?_)
   have e : (S.next.mk1 n).files[S.next.files.length]? = some ⟨[],0⟩:=by
    show (S.next.files ++ [(⟨[],0⟩ : Fl)])[S.next.files.length]? = _
    simp
   rw [e] at hx
   injection hx with hx
   subst hx
   simpa using hc
theorem Slim.sync (h : Slim z C S) (n : Nm) : Slim z C (S.sync n).1:=by
 unfold Dk.sync
 split
 ·exact h.begun
 ·split
  ·exact h.begun.undoF _
  ·exact h.begun.keepF _
theorem Slim.syncDir (h : Slim z C S) : Slim z C S.syncDir.1:=by
 unfold Dk.syncDir
 split
 ·exact h
 ·split
  ·exact h.next.undoD
  ·exact h.next.keepD
theorem Slim.rename (h : Slim z C S) (a : Nm) {n : Nm} (hn : Two z n) : Slim z C (S.rename a n).1:=by
 unfold Dk.rename
 split
 ·exact h
 split
 ·exact h.next
 split
 ·exact h.next
 split
 ·exact h.next
 split
 ·exact h.next
 ·exact h.next.act hn
theorem Slim.remove (h : Slim z C S) (n : Nm) : Slim z C (S.remove n).1:=by
 unfold Dk.remove
 split
 ·exact h.begun
 ·split
  ·exact h.begun
  ·exact h.begun.act trivial
theorem Slim.crash (h : Slim z C S) (keep t : Int) : Slim z C (S.crash keep t):=by
 have hst : ∀ a∈A1 S.acts keep t,actTwo z a:=by
  intro a ha
  unfold A1 at ha
  rcases List.mem_append.1 ha with ha | ha
  ·exact h.acts a (List.mem_of_mem_take ha)
  ·unfold Ch at ha
   split at ha
   ·simp at ha; subst ha; trivial
   ·simp at ha
 refine ⟨app_two _ h.sure hst,app_two _ h.sure hst,fun a ha=>(by cases ha),fun x hx=>?_⟩
 obtain ⟨i,hi,rfl⟩:=List.mem_mapIdx.1 hx
 have:=h.files _ (List.getElem_mem hi)
 simp only [List.length_take]
 omega
theorem Slim.tidy (h : Slim z C S) (n : Nm) : Slim z C (Av S n).1:=by
 unfold Av
 split
 ·exact h
 ·exact h.remove _
theorem Slim.settle (h : Slim z C S) (s : Bool) : Slim z C (Be S s).1:=by
 unfold Be
 split
 ·exact h
 ·exact h.syncDir
theorem Lm (h : Slim z C S) (s : Bool) (hb : b.length≤C) : Slim z C (Cs S z s b).1:=by
 have t:=h.tidy z
 unfold Cs
 split
 ·exact t
 next e0=>
 have t4:=Jl (S:=S) (z:=z) (by simpa using e0)
 have a:=t.append (n:=z++Ao) (b:=b) (.inr rfl) (fun f hf=>by rw [t4] at hf; cases hf) hb
 clear t4
 generalize (Av S z).1.append (z++Ao) b=V at *
 unfold rep2
 split
 ·exact a.tidy z
 have y:=a.sync (z++Ao)
 generalize V.1.sync (z++Ao)=Y at *
 unfold rep3
 split
 ·exact y.tidy z
 have r:=y.rename (z++Ao) (n:=z) (.inl rfl)
 generalize Y.1.rename (z++Ao) z=N at *
 unfold rep4
 split
 ·exact r.tidy z
 have u:=r.settle false
 generalize Be N.1 false=U at *
 unfold rep5
 split
 ·exact u.tidy z
 ·exact u
theorem Oy (S : Dk) : S.begun.files=S.files:=by
 unfold Dk.begun
 split <;> rfl
theorem files_tidy (S : Dk) (n : Nm) : (Av S n).1.files=S.files:=by
 unfold Av
 split
 ·rfl
 ·unfold Dk.remove
  split
  ·exact Oy S
  ·split <;> exact Oy S
theorem files_settle (S : Dk) (s : Bool) : (Be S s).1.files=S.files:=by
 unfold Be
 split
 ·rfl
 ·unfold Dk.syncDir
  split
  ·rfl
  ·split <;> rfl
theorem O0 {f : Nat} (hK : Kx z S f all.length all) (s : Bool) : look (Be (Av S z).1 s).1.dir z=some f:=by
 have t5 : look (Av S z).1.dir z=some f∧look (Av S z).1.sure z=some f:=by
  have : Kx z (Av S z).1 f all.length all:=by
   unfold Av
   split
   ·exact hK
   ·exact hK.remove (Fi z)
  exact ⟨this.lookD,this.lookS⟩
 generalize (Av S z).1=T at *
 unfold Be
 split
 ·exact t5.1
 ·unfold Dk.syncDir
  split
  ·exact t5.1
  split
  ·exact t5.2
  ·exact t5.1
theorem slim_extend {f : Nat} (hK : Kx z S f all.length all) (h : Slim z C S) (s : Bool) (hb : all.length+b.length≤C) : Slim z C (Cb S z s b).1:=by
 have t:=h.tidy z
 have s5:=O0 hK s
 have s6 : (Be (Av S z).1 s).1.files=S.files:=(files_settle _ s).trans (files_tidy S z)
 obtain ⟨x0,hx0,hxb,-⟩:=hK.file
 unfold Cb
 split
 ·exact t
 have u:=t.settle s
 generalize Be (Av S z).1 s=U at *
 unfold Eu
 split
 ·exact u
 have a:=u.append (n:=z) (b:=b) (.inl rfl) (fun g hg x hx=>by
  rw [s5] at hg
  injection hg with hg
  subst hg
  rw [s6,hx0] at hx
  injection hx with hx
  subst hx
  rw [hxb]
  exact hb) (by omega)
 generalize U.1.append z b=V at *
 unfold E0
 split
 ·exact a
 ·exact a.sync z
theorem Lc (h : Cw S) (hk : Ok S) (hl : Slim z C S) (hz : Am z=true) (hn : Am (z++Ao)=true) (s : Bool) (hb : b ≠ []) (hr : 2 * C+b.length≤S.room) : Fine (Cs S z s b).2.2:=by
 have t0:=mild_tidy h hn
 have t1:=Hf S z
 have t3:=Ew hk z
 have tl:=hl.tidy z
 unfold Cs
 split
 ·exact t0
 next e0=>
 have t4:=Jl (S:=S) (z:=z) (by simpa using e0)
 generalize Av S z=T at *
 have u1:=tl.used t3
 have a0:=Of (t1.mild h) hn (b:=b) (by rw [t1.1.2.2]; omega)
 have a1:=t1.trans (Iw T.1 (z++Ao) b) (Nat.le_refl _)
 have a2:=Lj (b:=b) t4 hb
 unfold rep2
 split
 ·exact a0
 next e1=>
 have a2:=a2 (by simpa using e1)
 generalize T.1.append (z++Ao) b=V at *
 have y0:=mild_sync (a1.mild h) hn a2.1
 have y1:=a1.trans (Kg V.1 (z++Ao)) (Nat.le_refl _)
 unfold rep3
 split
 ·exact y0
 next e2=>
 have y2:=J6 a2.1 a2.2 (by simpa using e2)
 generalize V.1.sync (z++Ao)=Y at *
 have r0:=mild_rename (y1.mild h) hn hz (by rw [y2.1]; simp)
 have r1:=y1.trans (Ny Y.1 (z++Ao) z) (Nat.le_refl _)
 unfold rep4
 split
 ·exact r0
 generalize Y.1.rename (z++Ao) z=N at *
 have s0:=M7 (r1.mild h) false
 unfold rep5
 split
 ·exact s0
 ·exact s0
theorem mild_extendS {f : Nat} (hK : Kx z S f all.length all) (h : Cw S) (hk : Ok S) (hl : Slim z C S) (hz : Am z=true) (hn : Am (z++Ao)=true) (s : Bool) (hr : 2 * C+b.length≤S.room) : Fine (Cb S z s b).2.2:=by
 have t0:=mild_tidy h hn
 have t1:=Hf S z
 have t3:=Ew hk z
 have tl:=hl.tidy z
 have s5:=O0 hK s
 unfold Cb
 split
 ·exact t0
 generalize Av S z=T at *
 have s0:=M7 (t1.mild h) s
 have s1:=t1.trans (K0 T.1 s) (Nat.le_refl _)
 have s3:=Ie t3 s
 have sl:=tl.settle s
 unfold Eu
 split
 ·exact s0
 generalize Be T.1 s=U at *
 have u1:=sl.used s3
 have a0:=Of (s1.mild h) hz (b:=b) (by rw [s1.1.2.2]; omega)
 have a1:=s1.trans (Iw U.1 z b) (Nat.le_refl _)
 have a5:=Oq s5 b
 unfold E0
 split
 ·exact a0
 generalize U.1.append z b=V at *
 exact mild_sync (a1.mild h) hz a5
end
section
variable {z : Nm} {C : Nat} {S : Dk} {L : Lw} {gs : List (List Bs)} {rs : List Bs}
theorem reset_mildS (h : Has z S L gs) (hc : Cw S) (hk : Ok S) (hl : Slim z C S) (hz : Am z=true) (hn : Am (z++Ao)=true) (hr : right rs=true) (hC : (grp Ah rs).length≤C) (hb : 3 * C≤S.room) :
  Fine (Cy S L rs).2.2∧Slim z C (Cy S L rs).1:=by
 unfold Cy
 rw [if_neg (by rw [hr]; decide),h.1]
 refine ⟨Hj (Lc hc hk hl hz hn L.sure (Gx rs) (by omega)),?_⟩
 rw [Fs]
 exact Lm hl L.sure hC
theorem append_mildS (h : Has z S L gs) (hc : Cw S) (hk : Ok S) (hl : Slim z C S) (hz : Am z=true) (hn : Am (z++Ao)=true) (hr : right rs=true) (hC : (laid Ah gs).length+(grp Ah rs).length≤C) (hb : 3 * C≤S.room) :
  Fine (C1 S L rs).2.2∧Slim z C (C1 S L rs).1:=by
 obtain ⟨hln,tail,⟨ho,ht,hF⟩,h1,h2⟩:=h
 unfold C1
 rw [if_neg (by rw [hr]; decide),if_pos (by rw [hln,hF.size,h2])]
 unfold Ed putW
 rw [Fs,hln]
 split
 ·exact ⟨Hj (Lc hc hk hl hz hn L.sure (Gx rs) (by omega)),Lm hl L.sure (by omega)⟩
 next h0=>
 have hK : ∃ f,Kx z S f (laid Ah gs++tail).length (laid Ah gs++tail):=by
  rcases hF with ⟨-,e⟩ | hK
  ·have:=congrArg List.length e
   rw [List.length_append,List.length_nil] at this
   omega
  ·exact hK
 obtain ⟨f,hK⟩:=hK
 split
 ·next h3=>
  refine ⟨Hj (mild_extendS hK hc hk hl hz hn L.sure (by omega)),slim_extend hK hl L.sure ?_⟩
  rw [h1,h2] at h3
  omega
 ·have r0:=mild_readAt hK hc hz (laid Ah gs).length (by rw [List.length_append]; omega)
  have r1:=Jh hF (laid Ah gs).length
  rw [← h1] at r0 r1
  unfold Fu
  split
  ·exact ⟨Hj r0,hl.begun⟩
  next e0=>
  rw [r1 (by simpa using e0),List.take_left]
  have hrm:=(Dp S).2.2
  exact ⟨Hj (Lc ((Hk S).mild hc) hk.begun hl.begun hz hn L.sure (b:=laid Ah gs++grp Ah rs) (by rw [← Fr]; exact laid_ne gs rs) (by rw [List.length_append,hrm]; omega)),Lm hl.begun L.sure (by rw [List.length_append]; omega)⟩
end
section
variable {z : Nm} {S : Dk} {L : Lw} {sure : Bool} {lp : List Af} {gs : List (List Bs)} {ps : List Al}
theorem slim_wh {C : Nat} (h : Has z S L gs) (hl : Slim z C S) : 0≤L.wh∧L.wh≤C∧(laid Ah gs).length≤C:=by
 obtain ⟨-,tail,⟨-,-,hF⟩,q,-⟩:=h
 rcases hF with ⟨-,e⟩ | ⟨f,hK⟩
 ·have:=congrArg List.length e
  rw [List.length_append,List.length_nil] at this
  omega
 ·obtain ⟨x,hx,hb,-⟩:=hK.file
  have h1:=hl.files x (List.mem_of_getElem? hx)
  rw [hb,List.length_append] at h1
  omega
theorem lay_mildS (h : En z S L sure lp gs) (hk : Ok S) (hz : Cc z=true) (hl : ∀ p∈lp,okP p) (hc : Cw S) (hs : Slim z 2200000 S) (hroom : 6600000≤S.room) (hp : A6 ps=true) (hf : A9 (Ai lp ps)=true) :
  Fine (Bi S L sure ps (Ai lp ps)).2.2∧Slim z 2200000 (Bi S L sure ps (Ai lp ps)).1∧B2 S (Bi S L sure ps (Ai lp ps)).1 8∧(Bi S L sure ps (Ai lp ps)).1.bulk≤S.bulk+2200000:=by
 have hnm:=Ha hz
 have hfl:=Ex hf
 obtain ⟨h1,h2,h3⟩:=h
 have hw:=slim_wh h1 hs
 by_cases hcnd : sure=true∧L.wh+Bx (ps.map Ar)≤10000+2 * Ag (Ai lp ps)
 ·rw [Ii hcnd.1 hcnd.2]
  have hgm:=Lh (ps.map Ar)
  have hlw : L.wh=((laid Ah gs).length : Int):=by
   obtain ⟨-,tail,-,q,-⟩:=h1
   exact q
  have hm:=append_mildS (C:=2200000) (rs:=ps.map Ar) h1 hc hk hs hnm.1 hnm.2 (E7 hp) (by omega) (by omega)
  have hbu:=M0 (rs:=ps.map Ar) h1
  exact ⟨hm.1,hm.2,near_appendW S L _,by omega⟩
 ·rw [Gj hcnd]
  have he:=Ge ps hl (Ep hp).2.1
  have hga:=Lv he
  have hm:=reset_mildS (C:=2200000) h1 hc hk hs hnm.1 hnm.2 (E7 (Hl he hf)) (by omega) (by omega)
  have hbu:=Oh S L ((Bm (Ai lp ps)).map Ar)
  exact ⟨hm.1,hm.2,(near_resetW S L _).more (by omega),by omega⟩
def EitherT (z : Nm) (S : Dk) (old new : List Af) : Prop:=∀ keep t,∃ gq tail lq,On z (S.crash keep t) gq tail∧Cp gq=some lq∧(lq=old∨lq=new)
theorem either_says (h : En z S L sure lp gs) (hk : Ok S) (l : List Af) : EitherT z S lp l:=fun keep t=>by
 obtain ⟨⟨-,tail,ho,-⟩,hto,-⟩:=h
 exact ⟨gs,tail,lp,ho.crash hk keep t,hto, .inl rfl⟩
theorem commit_mild (h : En z S L sure lp gs) (hk : Ok S) (hz : Cc z=true) (hr : Bq lp) (hl : ∀ p∈lp,okP p) (hf0 : A9 lp=true) (hc : Cw S) (hs : Slim z 2200000 S) (hroom : 6600000≤S.room) :
  (((A5 S L sure lp ps).2.2.2.2=Bg lp ps∧(A5 S L sure lp ps).2.2.2.1=Bw lp ps∧∃ gs',En z (A5 S L sure lp ps).1 (A5 S L sure lp ps).2.1 (A5 S L sure lp ps).2.2.1 (Bw lp ps) gs')
   ∨ (A5 S L sure lp ps).2.2.2.2=35∧(A5 S L sure lp ps).2.2.2.1=lp∧(Ok (A5 S L sure lp ps).1→EitherT z (A5 S L sure lp ps).1 lp (Bw lp ps)))
 ∧Slim z 2200000 (A5 S L sure lp ps).1∧Cw (A5 S L sure lp ps).1∧(A5 S L sure lp ps).1.room=S.room∧(A5 S L sure lp ps).1.bulk≤S.bulk+2200000
 ∧layOk S (A5 S L sure lp ps).1 lp ps (A5 S L sure lp ps).2.2.2.2=true:=by
 by_cases hE : Bg lp ps≠0∨ps = []
 ·rw [M9 hf0 hE]
  have hnx : Bw lp ps=lp:=by
   rcases hE with e | e
   ·exact Fd e
   ·by_cases e0 : Bg lp ps=0
    ·rw [G4 e0,e]; rfl
    ·exact Fd e0
  rw [hnx]
  exact ⟨.inl ⟨rfl,rfl,gs,h⟩,hs,hc,rfl,Nat.le_add_right _ _,Na hE rfl⟩
 ·obtain ⟨ha,hne⟩:=not_or.1 hE
  have ha : Bg lp ps=0:=Classical.not_not.1 ha
  have hp : A6 ps=true:=by
   cases hp : A6 ps with
   | true=>rfl
   | false=>rw [Hr hp] at ha; cases ha
  have hf : A9 (Ai lp ps)=true:=by
   cases hf : A9 (Ai lp ps) with
   | true=>rfl
   | false=>rw [Hi hp hf] at ha; cases ha
  have hnm:=Ha hz
  obtain ⟨q1,q2,q3,q4⟩:=lay_mildS h hk hz hl hc hs hroom hp hf
  obtain ⟨gs',k1,k2,k3⟩:=lay_keep h hk hnm.1 hr hl hp hne hf
  have hlo : ∀ A,mayT A=true→layOk S (Bi S L sure ps (Ai lp ps)).1 lp ps A=true:=fun A hA=>by
   unfold layOk
   rw [if_neg hE,hA,decide_eq_true (by have:=q3.2.2; omega)]
   rfl
  rw [G4 ha,ha]
  rcases q1 with q1 | q1
  ·rw [Lq hp hne hf q1]
   exact ⟨.inl ⟨rfl,rfl,gs',k1.1 q1,k3,fun _=>k2⟩,q2,q3.mild hc,q3.1.2.2,q4,hlo 0 rfl⟩
  ·have hq : (Bi S L sure ps (Ai lp ps)).2.2≠0:=by rw [q1]; decide
   rw [Nc hp hne hf hq,q1]
   refine ⟨.inr ⟨rfl,rfl,?_⟩,q2,q3.mild hc,q3.1.2.2,q4,hlo 35 rfl⟩
   intro hok keep t
   rcases k1.2 hq with ⟨-,tail,ho,-⟩ | ⟨-,hcr⟩
   ·exact ⟨gs,tail,lp,ho.crash hok keep t,h.2.1, .inl rfl⟩
   ·obtain ⟨tail,ho | ho⟩:=hcr keep t
    ·exact ⟨gs,tail,lp,ho,h.2.1, .inl rfl⟩
    ·exact ⟨gs',tail,Ai lp ps,ho,k3, .inr rfl⟩
end
end Go.Proofs.YtblniomnhpedjaaGreatDoor
namespace Go.Proofs.YtblniomnhpedjaaGreatDoor
open Go.RowKit
def chT (d : Nat) : UInt8:=UInt8.ofNat (48+d)
theorem chT_nat {d : Nat} (h : d<10) : (chT d).toNat=48+d:=by
 unfold chT
 rw [UInt8.toNat_ofNat']
 omega
def dgs (n : Nat) : Bs:=if n=0 then [] else dgs (n / 10) ++ [chT (n % 10)]
termination_by n
decreasing_by omega
def dgT (n : Nat) : Bs:=dgs (n / 10) ++ [chT (n % 10)]
theorem dgs_pos {n : Nat} (h : n≠0) : dgs n=dgs (n / 10) ++ [chT (n % 10)]:=by
 conv=>lhs; unfold dgs
 rw [if_neg h]
theorem Lb : dgs 0 = []:=by unfold dgs; rfl
theorem dgs_len : ∀ (k n : Nat),n<10 ^ k→(dgs n).length≤k
 | 0,n,h=>by
  obtain rfl : n=0:=by simpa using h
  rw [Lb]
  simp
 | k+1,n,h=>by
  by_cases hn : n=0
  ·rw [hn,Lb]
   simp
  ·rw [dgs_pos hn,List.length_append]
   have:=dgs_len k (n / 10) (by rw [Nat.pow_succ] at h; omega)
   simp
   omega
theorem strB_add (a b : Bs) : Ae a++Ae b=Ae (a++b):=by
 unfold Ae
 apply ByteArray.ext
 simp
theorem add_str (W : World) (a b : Bs) (h : a.length+b.length≤9223372036854775807) : (Op.stringOp .add (Ae a) (Ae b)).run Tryz.prog W = .ok (.string (Ae (a++b))) W:=by
 rw [run_string_add_sum _ _ _ (by rw [B8,B8]; omega),strB_add]
theorem one_text (W : World) (c : UInt8) : (convert 68 9 (.slice (some ⟨W.heap.size,0,none⟩) 1 1)).run Tryz.prog (W.alloc (.cells #[.int .u8 (c.toNat : Int)] 5)) = .ok (.string (Ae [c])) (W.alloc (.cells #[.int .u8 (c.toNat : Int)] 5)):=by
 refine Gf _ _ [c] ⟨some ⟨W.heap.size,0,none⟩,1,rfl,Nat.le_refl _,by unfold maxLen; omega,(fun h=>by cases h),fun _=>⟨W.heap.size,0,rfl,by simp,fun j hj=>?_⟩⟩
 have hj' : j=0:=by simpa using hj
 subst hj'
 rw [Ad (Aq W _)]
 rfl
theorem N3 (W : World) (n : Nat) : (convert 68 9 (.slice (some ⟨W.heap.size,0,none⟩) 1 1)).run Tryz.prog (W.alloc (.cells #[.int .u8 (48+(n : Int) % 10)] 5)) = .ok (.string (Ae [chT (n % 10)])) (W.alloc (.cells #[.int .u8 (48+(n : Int) % 10)] 5)):=by
 have h:=one_text W (chT (n % 10))
 rw [chT_nat (show n % 10<10 by omega),show ((48+n % 10 : Nat) : Int)=48+(n : Int) % 10 by omega] at h
 exact h
set_option maxRecDepth 20000 in
theorem Ob (w : World) (n : Nat) (hn : n≤99999) : Calls Tryz.prog 33 #[.int .i64 (n : Int)] w fun e w'=>e = .returned (.string (Ae (dgT n)))∧Below w.heap.size w w':=by
 have hcv:=N3 w n
 have hb1 : Below w.heap.size w (w.alloc (.cells #[.int .u8 (48+(n : Int) % 10)] 5)):=(Below.refl _ w).alloc (Nat.le_refl _) _
 go_enter Tryz.func33,Tryz.ntmps33
 go_wp2_with fail
 clear hcv
 generalize w.alloc (.cells #[.int .u8 (48+(n : Int) % 10)] 5)=w1 at *
 go_loopw [0,3] (fun t u wr=>∃ (m : Nat) (s : Bs),t = .int .i64 m∧m≤n∧u = .string (Ae s)∧dgs m++s=dgT n∧Below w.heap.size w wr) (fun t _ _=>(intOf t).toNat)
 case atStart=>exact ⟨n / 10,[chT (n % 10)],by first | rfl | go_num,by omega,rfl,rfl,hb1⟩
 case round=>
  obtain ⟨m,s,rfl,hm,rfl,hd,hbr⟩:=hrel
  by_cases h0 : m=0
  ·subst h0
   rw [Lb,List.nil_append] at hd
   subst hd
   go_wp2_with fail
   skip
   try go_wp2
   go_ret
   exact ⟨rfl,hbr⟩
  ·have hpos : decide ((0 : Int)<(m : Int))=true:=decide_eq_true (by omega)
   have hcv:=N3 wr m
   have hb2 : Below w.heap.size w (wr.alloc (.cells #[.int .u8 (48+(m : Int) % 10)] 5)):=hbr.alloc hbr.size _
   have hd2 : dgs (m / 10)++([chT (m % 10)]++s)=dgT n:=by rw [← hd,dgs_pos h0,List.append_assoc]
   have hsl : s.length≤10:=by
    have h9 : (dgT n).length≤6:=by
     unfold dgT
     rw [List.length_append]
     have:=dgs_len 5 (n / 10) (by omega)
     simp
     omega
    rw [← hd,List.length_append] at h9
    omega
   have hadd:=fun W=>add_str W [chT (m % 10)] s (by simp; omega)
   have HD:=Ab (And.intro hd2 hb2)
   clear hd hd2 hb2 hsl
   go_wp2_with fail
   generalize wr.alloc (.cells #[.int .u8 (48+(m : Int) % 10)] 5)=w2 at *
   go_roundw
   case rel=>exact ⟨m / 10,_,by first | rfl | go_num,by omega,rfl,HD.out.1,HD.out.2⟩
   case measure=>simp [intOf]; omega
end Go.Proofs.YtblniomnhpedjaaGreatDoor
namespace Go.Proofs.YtblniomnhpedjaaGreatDoor
open Go.RowKit
def pk (c n : Int) : Int:=(if c<0 then -(c+1) else c) % n
theorem pk_range {c n : Int} (hn : 0<n) : 0≤pk c n∧pk c n<n:=⟨Int.emod_nonneg _ (by omega),Int.emod_lt_of_pos _ hn⟩
theorem ret_i {a b : Int} (h : a=b) : Ending.returned (.int .i64 a) = .returned (.int .i64 b):=by rw [h]
set_option maxRecDepth 20000 in
theorem pick_any (w : World) (c n : Int) (hc : -9223372036854775808≤c∧c≤9223372036854775807) (hn : 0<n∧n≤1000) :
  Calls Tryz.prog 12 #[.int .i64 c, .int .i64 n] w fun e w'=>e = .returned (.int .i64 (pk c n))∧w'=w:=by
 have hn0 : ¬ n=0:=by omega
 unfold pk
 by_cases h : c<0
 ·rw [if_pos h]
  have hm : (-(c+1)).tmod n=(-(c+1)) % n:=Int.tmod_eq_emod_of_nonneg (by omega)
  have h1:=Int.emod_nonneg (-(c+1)) (show n≠0 by omega)
  have h2:=Int.emod_lt_of_pos (-(c+1)) (show 0<n by omega)
  go_enter Tryz.func12,Tryz.ntmps12
  go_wp2
  go_ret
  exact ⟨ret_i (by first | rfl | omega),rfl⟩
 ·rw [if_neg h]
  have hm : c.tmod n=c % n:=Int.tmod_eq_emod_of_nonneg (by omega)
  have h1:=Int.emod_nonneg c (show n≠0 by omega)
  have h2:=Int.emod_lt_of_pos c (show 0<n by omega)
  go_enter Tryz.func12,Tryz.ntmps12
  go_wp2
  go_ret
  exact ⟨ret_i (by first | rfl | omega),rfl⟩
end Go.Proofs.YtblniomnhpedjaaGreatDoor
