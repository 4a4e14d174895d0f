/-
  A disk, plainly: files by numbers, a directory as a sorted list of names, acts that are loose; what each operation does. No program; no condition.
-/
namespace Go.Proofs.YtblniomnhpedjaaGreatDoor
abbrev Nm:=List UInt8
structure Fl where
 b : List UInt8
 sure : Nat
inductive Ac where
 | made (n : Nm) (f : Nat)
 | ren (a b : Nm)
 | rem (n : Nm)
 | more (f k : Nat)
abbrev Dir:=List (Nm × Nat)
def look (l : Dir) (n : Nm) : Option Nat:=(l.find? (fun p=>p.1 == n)).map (·.2)
def del (n : Nm) (l : Dir) : Dir:=l.filter (fun p=>p.1 != n)
def ins (n : Nm) (f : Nat) : Dir→Dir
 | []=>[(n,f)]
 | p :: r=>if n<p.1 then (n,f) :: p :: r else p :: ins n f r
def Bl (l : Dir) : Ac→Dir
 | .made n f=>ins n f l
 | .ren a b=>match look l a with
  | some f=>ins b f (del b (del a l))
  | none=>l
 | .rem n=>del n l
 | .more _ _=>l
def A5 (l : Dir) (as : List Ac) : Dir:=as.foldl Bl l
def A9 : Ac→Bool
 | .more _ _=>true
 | _=>false
def isOf (f : Nat) : Ac→Bool
 | .more g _=>g == f
 | _=>false
def A4 (as : List Ac) : List Nat:=as.filterMap fun
 | .made _ f=>some f
 | _=>none
def Br (as : List Ac) : List Nat:=as.filterMap fun
 | .more f _=>some f
 | _=>none
def Ar (as : List Ac) (i : Nat) : Nat:=(as.map fun
 | .more f k=>if f=i then k else 0
 | _=>0).sum
def canD (l : Dir) : Ac→Prop
 | .made n _=>look l n=none
 | .ren a b=>look l a≠none∧a≠b
 | .rem n=>look l n≠none
 | .more _ _=>True
def C8 : Dir→List Ac→Prop
 | _,[]=>True
 | l,a :: r=>canD l a∧C8 (Bl l a) r
structure Dk where
 files : List Fl
 dir : Dir
 sure : Dir
 acts : List Ac
 room : Nat
 n : Nat
 cut : Option Nat
 fails : Nat→Bool
def Bx (l : Dir) : Prop:=l.Pairwise fun p q=>p.1<q.1
def ids (l : Dir) : List Nat:=l.map (·.2)
def Az (files : List Fl) (i : Nat) : Nat:=((files[i]?).map (·.b.length)).getD 0
def A1 (files : List Fl) (l : Dir) : Nat:=(l.map fun p=>Az files p.2).sum
def Dk.used (S : Dk) : Nat:=A1 S.files S.dir
theorem Kb (n : Nm) : ¬ n<n:=List.lt_irrefl n
theorem nm_trans {a b c : Nm} (h : a<b) (k : b<c) : a<c:=List.lt_trans h k
theorem nm_total {a b : Nm} (h : ¬ a<b) (hn : a≠b) : b<a:=by
 refine Classical.byContradiction fun h1=>hn ?_
 exact List.le_antisymm (List.not_lt.1 h1) (List.not_lt.1 h)
theorem Ds (p : Nm × Nat) (r : Dir) (n : Nm) : look (p :: r) n=if p.1=n then some p.2 else look r n:=by
 unfold look
 by_cases h : p.1=n
 ·simp [h]
 ·rw [List.find?_cons_of_neg (by simpa using h),if_neg h]
theorem look_none {l : Dir} {n : Nm} (h : look l n=none) : ∀ p∈l,p.1≠n:=by
 intro p hp e
 unfold look at h
 simp at h
 exact h p.1 p.2 hp e
theorem Ig {l : Dir} {n : Nm} (h : ∀ p∈l,p.1≠n) : look l n=none:=by
 unfold look
 simp
 intro a b hm e
 exact h _ hm e
theorem Hb {l : Dir} {n : Nm} {f : Nat} (h : look l n=some f) : (n,f)∈l:=by
 induction l with
 | nil=>simp [look] at h
 | cons p r ih=>
  rw [Ds] at h
  by_cases e : p.1=n
  ·rw [if_pos e] at h
   injection h with h
   subst e h
   exact List.mem_cons_self
  ·rw [if_neg e] at h
   exact List.mem_cons_of_mem _ (ih h)
theorem Lj {p : Nm × Nat} {r : Dir} (h : Bx (p :: r)) : Bx r:=(List.pairwise_cons.1 h).2
theorem Gz {l : Dir} (h : Bx l) (n : Nm) : Bx (del n l):=h.filter _
theorem Mw {l : Dir} {n : Nm} (h : look l n=none) : del n l=l:=
 List.filter_eq_self.2 fun p hp=>by simpa using look_none h p hp
theorem Je {l : Dir} (h : Bx l) : (l.map (·.1)).Nodup:=by
 rw [List.Nodup,List.pairwise_map]
 have h' : l.Pairwise fun p q=>p.1<q.1:=h
 refine h'.imp ?_
 intro a b h e
 rw [e] at h
 exact Kb _ h
theorem mem_look {l : Dir} (h : Bx l) {n : Nm} {f : Nat} (hm : (n,f)∈l) : look l n=some f:=by
 induction l with
 | nil=>simp at hm
 | cons p r ih=>
  rw [Ds]
  rcases List.mem_cons.1 hm with rfl | hm
  ·simp
  ·have : p.1≠n:=fun e=>Kb n (by have:=(List.pairwise_cons.1 h).1 _ hm; rw [e] at this; exact this)
   rw [if_neg this]
   exact ih (Lj h) hm
theorem Fb {n : Nm} {f : Nat} {l : Dir} {p : Nm × Nat} : p∈ins n f l↔p=(n,f)∨p∈l:=by
 induction l with
 | nil=>simp [ins]
 | cons q r ih=>
  unfold ins
  by_cases h : n<q.1
  ·rw [if_pos h]; simp
  ·rw [if_neg h,List.mem_cons,ih,List.mem_cons]
   constructor
   ·rintro (h | h | h)
    ·exact Or.inr (Or.inl h)
    ·exact Or.inl h
    ·exact Or.inr (Or.inr h)
   ·rintro (h | h | h)
    ·exact Or.inr (Or.inl h)
    ·exact Or.inl h
    ·exact Or.inr (Or.inr h)
theorem Fo (n : Nm) (f : Nat) (l : Dir) : (ins n f l).Perm ((n,f) :: l):=by
 induction l with
 | nil=>exact List.Perm.refl _
 | cons q r ih=>
  unfold ins
  by_cases h : n<q.1
  ·rw [if_pos h]
  ·rw [if_neg h]
   exact (ih.cons q).trans (List.Perm.swap _ _ _)
theorem Ns {l : Dir} (h : Bx l) {n : Nm} (hn : look l n=none) (f : Nat) : Bx (ins n f l):=by
 induction l with
 | nil=>simp [ins,Bx]
 | cons q r ih=>
  have hq:=(List.pairwise_cons.1 h).1
  unfold ins
  by_cases hlt : n<q.1
  ·rw [if_pos hlt]
   refine List.pairwise_cons.2 ⟨fun p hp=>?_,h⟩
   rcases List.mem_cons.1 hp with rfl | hp
   ·exact hlt
   ·exact nm_trans hlt (hq p hp)
  ·rw [if_neg hlt]
   have hne : q.1≠n:=look_none hn q (by simp)
   refine List.pairwise_cons.2 ⟨fun p hp=>?_,ih (Lj h) (Ig fun p hp=>look_none hn p (by simp [hp]))⟩
   rcases Fb.1 hp with rfl | hp
   ·exact nm_total hlt (fun e=>hne e.symm)
   ·exact hq p hp
theorem D5 (l : Dir) (n m : Nm) : look (del n l) m=if m=n then none else look l m:=by
 by_cases h : m=n
 ·subst h
  rw [if_pos rfl]
  exact Ig fun p hp=>by simpa using (List.mem_filter.1 hp).2
 ·rw [if_neg h]
  induction l with
  | nil=>rfl
  | cons p r ih=>
   unfold del at ih ⊢
   by_cases e : p.1=n
   ·rw [List.filter_cons_of_neg (by simpa using e),ih,Ds,if_neg (fun e2=>h (e2.symm.trans e))]
   ·rw [List.filter_cons_of_pos (by simpa using e),Ds,Ds,ih]
theorem look_ins {l : Dir} {n : Nm} (hn : look l n=none) (f : Nat) (m : Nm) : look (ins n f l) m=if m=n then some f else look l m:=by
 induction l with
 | nil=>
  show look [(n,f)] m=_
  rw [Ds]
  by_cases h : m=n
  ·simp [h]
  ·rw [if_neg (fun e=>h e.symm),if_neg h]
 | cons q r ih=>
  have hne : q.1≠n:=look_none hn q (by simp)
  have hn' : look r n=none:=Ig fun p hp=>look_none hn p (by simp [hp])
  unfold ins
  by_cases hlt : n<q.1
  ·rw [if_pos hlt,Ds]
   by_cases h : m=n
   ·simp [h]
   ·rw [if_neg (fun e=>h e.symm),if_neg h]
  ·rw [if_neg hlt,Ds,Ds,ih hn']
   by_cases h : m=n
   ·subst h
    rw [if_neg hne,if_pos rfl,if_pos rfl]
   ·rw [if_neg h,if_neg h]
theorem Jb {l : Dir} (h : Bx l) {n : Nm} {f : Nat} (hl : look l n=some f) : l.Perm ((n,f) :: del n l):=by
 induction l with
 | nil=>simp [look] at hl
 | cons p r ih=>
  rw [Ds] at hl
  by_cases e : p.1=n
  ·rw [if_pos e] at hl
   injection hl with hl
   subst e hl
   have : del p.1 (p :: r)=r:=by
    unfold del
    rw [List.filter_cons_of_neg (by simp)]
    exact List.filter_eq_self.2 fun q hq=>by
     have:=(List.pairwise_cons.1 h).1 q hq
     simp
     intro e
     rw [e] at this
     exact Kb _ this
   rw [this]
  ·rw [if_neg e] at hl
   have : del n (p :: r)=p :: del n r:=by
    unfold del
    rw [List.filter_cons_of_pos (by simpa using e)]
   rw [this]
   exact ((ih (Lj h) hl).cons p).trans (List.Perm.swap _ _ _)
theorem Pv {l : Dir} (h : Bx l) {a : Ac} (hc : canD l a) : Bx (Bl l a):=by
 cases a with
 | made n f=>exact Ns h hc f
 | ren a b=>
  simp only [Bl]
  cases hl : look l a with
  | none=>exact absurd hl hc.1
  | some f=>exact Ns (Gz (Gz h _) _) (by rw [D5,if_pos rfl]) f
 | rem n=>exact Gz h n
 | more f k=>exact h
theorem J6 {as : List Ac} : ∀ {l : Dir},Bx l→C8 l as→Bx (A5 l as):=by
 induction as with
 | nil=>exact fun h _=>h
 | cons a r ih=>exact fun h hv=>ih (Pv h hv.1) hv.2
theorem Hm (l : Dir) (as bs : List Ac) : A5 l (as++bs)=A5 (A5 l as) bs:=by simp [A5,List.foldl_append]
theorem Gm {as bs : List Ac} : ∀ {l : Dir},C8 l (as++bs)↔C8 l as∧C8 (A5 l as) bs:=by
 induction as with
 | nil=>intro l; simp [C8,A5]
 | cons a r ih=>
  intro l
  show canD l a∧C8 (Bl l a) (r++bs)↔(canD l a∧C8 (Bl l a) r)∧C8 (A5 (Bl l a) r) bs
  rw [ih,and_assoc]
theorem ids_done {l : Dir} (h : Bx l) {a : Ac} (hc : canD l a) {X : List Nat} (hn : (ids l++(A4 [a]++X)).Nodup) : (ids (Bl l a)++X).Nodup:=by
 cases a with
 | made n f=>
  have hp : (ids (Bl l (.made n f))++X).Perm (ids l++(A4 [.made n f]++X)):=by
   have h1 : (ids (Bl l (.made n f))).Perm (f :: ids l):=(Fo n f l).map (fun p : Nm × Nat=>p.2)
   refine (h1.append_right X).trans ?_
   show (f :: ids l++X).Perm (ids l++(f :: X))
   exact List.perm_middle.symm
  exact hp.nodup_iff.2 hn
 | ren a b=>
  have hn' : (ids l++X).Nodup:=hn
  simp only [Bl]
  cases hl : look l a with
  | none=>exact absurd hl hc.1
  | some f=>
   have h1 : (ids (ins b f (del b (del a l)))).Perm (f :: ids (del b (del a l))):=(Fo b f _).map (fun p : Nm × Nat=>p.2)
   have h2 : (ids l).Perm (f :: ids (del a l)):=(Jb h hl).map (fun p : Nm × Nat=>p.2)
   refine ((h1.append_right X).nodup_iff).2 ?_
   have h3:=((h2.append_right X).nodup_iff).1 hn'
   refine List.Sublist.nodup ?_ h3
   exact (((List.filter_sublist (l:=del a l)).map (fun p : Nm × Nat=>p.2)).cons_cons f).append (List.Sublist.refl X)
 | rem n=>
  have hn' : (ids l++X).Nodup:=hn
  exact (((List.filter_sublist (l:=l)).map (fun p : Nm × Nat=>p.2)).append (List.Sublist.refl X)).nodup hn'
 | more f k=>exact hn
theorem Gx (a : Ac) (r : List Ac) : A4 (a :: r)=A4 [a]++A4 r:=by
 cases a <;> simp [A4]
theorem Ek (as bs : List Ac) : A4 (as++bs)=A4 as++A4 bs:=by simp [A4]
theorem Gu (as bs : List Ac) : Br (as++bs)=Br as++Br bs:=by simp [Br]
theorem Ew (as bs : List Ac) (i : Nat) : Ar (as++bs) i=Ar as i+Ar bs i:=by simp [Ar]
theorem ids_app {as : List Ac} : ∀ {l : Dir},Bx l→C8 l as→∀ {X : List Nat},(ids l++(A4 as++X)).Nodup→(ids (A5 l as)++X).Nodup:=by
 induction as with
 | nil=>intro l _ _ X hn; exact hn
 | cons a r ih=>
  intro l h hv X hn
  refine ih (Pv h hv.1) hv.2 ?_
  rw [Gx,List.append_assoc] at hn
  exact ids_done h hv.1 hn
theorem mem_done {l : Dir} {a : Ac} {i : Nat} (h : i∈ids (Bl l a)) : i∈ids l∨i∈A4 [a]:=by
 obtain ⟨p,hp,rfl⟩:=List.mem_map.1 h
 cases a with
 | made n f=>
  rcases Fb.1 hp with rfl | hp
  ·exact Or.inr (by simp [A4])
  ·exact Or.inl (List.mem_map.2 ⟨p,hp,rfl⟩)
 | ren a b=>
  simp only [Bl] at hp
  cases hl : look l a with
  | none=>rw [hl] at hp; exact Or.inl (List.mem_map.2 ⟨p,hp,rfl⟩)
  | some f=>
   rw [hl] at hp
   rcases Fb.1 hp with rfl | hp
   ·exact Or.inl (List.mem_map.2 ⟨_,Hb hl,rfl⟩)
   ·exact Or.inl (List.mem_map.2 ⟨p,(List.mem_filter.1 (List.mem_filter.1 hp).1).1,rfl⟩)
 | rem n=>exact Or.inl (List.mem_map.2 ⟨p,(List.mem_filter.1 hp).1,rfl⟩)
 | more f k=>exact Or.inl h
theorem mem_app {as : List Ac} : ∀ {l : Dir} {i : Nat},i∈ids (A5 l as)→i∈ids l∨i∈A4 as:=by
 induction as with
 | nil=>exact fun h=>Or.inl h
 | cons a r ih=>
  intro l i h
  rw [Gx]
  rcases ih h with h | h
  ·rcases mem_done h with h | h
   ·exact Or.inl h
   ·exact Or.inr (List.mem_append.2 (Or.inl h))
  ·exact Or.inr (List.mem_append.2 (Or.inr h))
def Ap (n : Nm) : Bool:=decide (1≤n.length) && decide (n.length≤80) && n.all fun c=>decide (33≤c.toNat) && decide (c.toNat≤126)
def Dk.on (S : Dk) : Bool:=match S.cut with
 | none=>true
 | some c=>decide (S.n<c)
def Dk.next (S : Dk) : Dk:={ S with n:=S.n+1 }
def Dk.mk1 (S : Dk) (n : Nm) : Dk:={ S with files:=S.files ++ [⟨[],0⟩],dir:=ins n S.files.length S.dir,acts:=S.acts ++ [.made n S.files.length] }
def Dk.ext (S : Dk) (f : Nat) (b : List UInt8) : Dk:={ S with files:=S.files.modify f fun x=>{ x with b:=x.b++b },acts:=S.acts ++ [.more f b.length] }
def Dk.app (S : Dk) (n : Nm) (b : List UInt8) : Dk:=
 match look S.dir n with
 | some f=>if b = [] then S else S.ext f b
 | none=>if b = [] then S.mk1 n else (S.mk1 n).ext S.files.length b
def Dk.keepF (S : Dk) (f : Nat) : Dk:={ S with files:=S.files.modify f fun x=>{ x with sure:=x.b.length },acts:=S.acts.filter fun a=>!isOf f a }
def Dk.undoF (S : Dk) (f : Nat) : Dk:={ S with files:=S.files.modify f fun x=>{ x with b:=x.b.take x.sure },acts:=S.acts.filter fun a=>!isOf f a }
def Dk.keepD (S : Dk) : Dk:={ S with sure:=S.dir,acts:=S.acts.filter A9 }
def Dk.undoD (S : Dk) : Dk:={ S with dir:=S.sure,acts:=S.acts.filter A9 }
def Dk.act (S : Dk) (a : Ac) : Dk:={ S with dir:=Bl S.dir a,acts:=S.acts ++ [a] }
def Dk.append (S : Dk) (n : Nm) (b : List UInt8) : Dk × Int:=
 if S.on=false then (S,35)
 else if Ap n=false then (S.next,30)
 else if b ≠ []∧S.room<S.used+b.length then (S.next,33)
 else if S.fails S.n=true then (S.next,34)
 else (S.next.app n b,0)
def Dk.onFile (S : Dk) (n : Nm) : Except Int (Nat × Bool):=
 if S.on=false then .error 35
 else if Ap n=false then .error 30
 else match look S.dir n with
  | none=>.error 32
  | some f=>.ok (f,S.fails S.n)
def Dk.begun (S : Dk) : Dk:=if S.on=false then S else S.next
def Dk.bytes (S : Dk) (f : Nat) : List UInt8:=((S.files[f]?).map (·.b)).getD []
def Dk.read (S : Dk) (n : Nm) : List UInt8 × Int:=
 match S.onFile n with
 | .error e=>([],e)
 | .ok (f,fails)=>if fails then ([],34) else (S.bytes f,0)
def Dk.readAt (S : Dk) (n : Nm) (at_ k : Int) : List UInt8 × Int:=
 match S.onFile n with
 | .error e=>([],e)
 | .ok (f,fails)=>
  if at_<0∨k<0∨(S.bytes f).length<at_∨(S.bytes f).length - at_<k then ([],2)
  else if fails then ([],34) else (((S.bytes f).drop at_.toNat).take k.toNat,0)
def Dk.sync (S : Dk) (n : Nm) : Dk × Int:=
 match S.onFile n with
 | .error e=>(S.begun,e)
 | .ok (f,fails)=>if fails then (S.begun.undoF f,34) else (S.begun.keepF f,0)
def Dk.syncDir (S : Dk) : Dk × Int:=
 if S.on=false then (S,35)
 else if S.fails S.n=true then (S.next.undoD,34)
 else (S.next.keepD,0)
def Dk.rename (S : Dk) (a b : Nm) : Dk × Int:=
 if S.on=false then (S,35)
 else if Ap a=false∨Ap b=false then (S.next,30)
 else if look S.dir a=none then (S.next,32)
 else if S.fails S.n=true then (S.next,34)
 else if a=b then (S.next,0)
 else (S.next.act (.ren a b),0)
def Dk.remove (S : Dk) (n : Nm) : Dk × Int:=
 match S.onFile n with
 | .error e=>(S.begun,e)
 | .ok (_,fails)=>if fails then (S.begun,34) else (S.begun.act (.rem n),0)
def Dk.size (S : Dk) (n : Nm) : Int:=match look S.dir n with
 | none=>-1
 | some f=>((S.bytes f).length : Int)
def Dk.setRoom (S : Dk) (r : Int) : Dk:={ S with room:=r.toNat }
def Dk.cutAt (S : Dk) (op : Int) : Dk:={ S with cut:=if op<0 then none else some op.toNat }
def Dk.failAt (S : Dk) (ops : List Int) : Dk:={ S with fails:=fun k=>S.fails k || ops.contains (k : Int) }
def torn (t : Nat) : List Ac→List Ac
 | .more f k :: _=>[.more f (min k t)]
 | _=>[]
def A6 (as : List Ac) (keep torn_ : Int) : List Ac:=as.take keep.toNat++torn torn_.toNat (as.drop keep.toNat)
def Dk.crash (S : Dk) (keep torn_ : Int) : Dk:=
 { files:=S.files.mapIdx fun i x=>⟨x.b.take (x.sure+Ar (A6 S.acts keep torn_) i),x.sure+Ar (A6 S.acts keep torn_) i⟩,dir:=A5 S.sure (A6 S.acts keep torn_),sure:=A5 S.sure (A6 S.acts keep torn_),acts:=[],room:=S.room,n:=0,cut:=none,fails:=fun _=>false }
def Dk.new (room : Nat) : Dk:={ files:=[],dir:=[],sure:=[],acts:=[],room:=room,n:=0,cut:=none,fails:=fun _=>false }
structure Ok (S : Dk) : Prop where
 sortS : Bx S.sure
 valid : C8 S.sure S.acts
 dir : S.dir=A5 S.sure S.acts
 one : (ids S.sure++A4 S.acts).Nodup
 idS : ∀ i∈ids S.sure,i<S.files.length
 idA : ∀ i∈A4 S.acts,i<S.files.length
 idM : ∀ i∈Br S.acts,i<S.files.length
 lens : ∀ i f,S.files[i]? = some f→f.b.length=f.sure+Ar S.acts i
section
variable {S : Dk}
theorem Ok.sortD (h : Ok S) : Bx S.dir:=h.dir ▸ J6 h.sortS h.valid
theorem Ok.oneD (h : Ok S) : (ids S.dir).Nodup:=by
 have:=ids_app (X:=[]) h.sortS h.valid (by simpa using h.one)
 rw [← h.dir] at this
 simpa using this
theorem Ok.liveD (h : Ok S) {i : Nat} (hi : i∈ids S.dir) : i∈ids S.sure∨i∈A4 S.acts:=by
 rw [h.dir] at hi
 exact mem_app hi
theorem Ok.idD (h : Ok S) {i : Nat} (hi : i∈ids S.dir) : i<S.files.length:=by
 rcases h.liveD hi with h1 | h1
 ·exact h.idS i h1
 ·exact h.idA i h1
theorem Ok.next (h : Ok S) : Ok S.next:=⟨h.sortS,h.valid,h.dir,h.one,h.idS,h.idA,h.idM,h.lens⟩
theorem Ok.begun (h : Ok S) : Ok S.begun:=by
 unfold Dk.begun
 split
 ·exact h
 ·exact h.next
theorem ok_new (room : Nat) : Ok (Dk.new room) where
 sortS:=List.Pairwise.nil
 valid:=trivial
 dir:=rfl
 one:=by simp [Dk.new,ids,A4]
 idS:=by simp [Dk.new,ids]
 idA:=by simp [Dk.new,A4]
 idM:=by simp [Dk.new,Br]
 lens:=by simp [Dk.new]
theorem Dq {l : Dir} {n : Nm} {f : Nat} (h : look l n=some f) : f∈ids l:=List.mem_map.2 ⟨_,Hb h,rfl⟩
theorem Ok.act (h : Ok S) {a : Ac} (hc : canD S.dir a) (hm : A9 a=false) (hmade : A4 [a] = []) : Ok (S.act a) where
 sortS:=h.sortS
 valid:=Gm.2 ⟨h.valid,show C8 (A5 S.sure S.acts) _ by rw [← h.dir]; exact ⟨hc,trivial⟩⟩
 dir:=by
  show Bl S.dir a=A5 S.sure (S.acts ++ [a])
  rw [Hm,← h.dir]
  rfl
 one:=by
  show (ids S.sure++A4 (S.acts ++ [a])).Nodup
  rw [Ek,hmade,List.append_nil]
  exact h.one
 idS:=h.idS
 idA:=by
  show ∀ i∈A4 (S.acts ++ [a]),i<S.files.length
  rw [Ek,hmade,List.append_nil]
  exact h.idA
 idM:=by
  show ∀ i∈Br (S.acts ++ [a]),i<S.files.length
  have e : Br [a] = []:=by cases a <;> first | rfl | simp [A9] at hm
  rw [Gu,e,List.append_nil]
  exact h.idM
 lens:=by
  show ∀ i f,S.files[i]? = some f→f.b.length=f.sure+Ar (S.acts ++ [a]) i
  intro i f hf
  rw [Ew,h.lens i f hf]
  cases a <;> simp_all [Ar,A9]
theorem Ok.ren (h : Ok S) {a b : Nm} (ha : look S.dir a≠none) (hne : a≠b) : Ok (S.act (.ren a b)):=
 h.act ⟨ha,hne⟩ rfl rfl
theorem Ok.rem (h : Ok S) {n : Nm} (hn : look S.dir n≠none) : Ok (S.act (.rem n)):=
 h.act hn rfl rfl
theorem moreSum_none {as : List Ac} {i : Nat} (h : i ∉ Br as) : Ar as i=0:=by
 induction as with
 | nil=>rfl
 | cons a r ih=>
  have h2 : i ∉ Br r:=fun hh=>h (by cases a <;> simp_all [Br])
  have h1 : Ar (a :: r) i=Ar [a] i+Ar r i:=by
   have:=Ew [a] r i
   simpa using this
  rw [h1,ih h2]
  cases a with
  | more f k=>
   have : f≠i:=fun e=>h (by simp [Br,e])
   simp [Ar,this]
  | _=>rfl
theorem Ok.mk1 (h : Ok S) {n : Nm} (hl : look S.dir n=none) : Ok (S.mk1 n) where
 sortS:=h.sortS
 valid:=Gm.2 ⟨h.valid,show C8 (A5 S.sure S.acts) _ by rw [← h.dir]; exact ⟨hl,trivial⟩⟩
 dir:=by
  show ins n S.files.length S.dir=A5 S.sure (S.acts ++ [.made n S.files.length])
  rw [Hm,← h.dir]
  rfl
 one:=by
  show (ids S.sure++A4 (S.acts ++ [.made n S.files.length])).Nodup
  rw [Ek,← List.append_assoc]
  have e : A4 [Ac.made n S.files.length] = [S.files.length]:=rfl
  rw [e]
  refine List.nodup_append.2 ⟨h.one,by simp,fun a ha b hb=>?_⟩
  simp at hb
  subst hb
  rcases List.mem_append.1 ha with h1 | h1
  ·exact Nat.ne_of_lt (h.idS _ h1)
  ·exact Nat.ne_of_lt (h.idA _ h1)
 idS:=fun i hi=>by
  have:=h.idS i hi
  show i<(S.files ++ [_]).length
  simp; omega
 idA:=fun i hi=>by
  show i<(S.files ++ [_]).length
  have hi' : i∈A4 (S.acts ++ [.made n S.files.length]):=hi
  rw [Ek,List.mem_append] at hi'
  rcases hi' with h1 | h1
  ·have:=h.idA i h1
   simp; omega
  ·simp [A4] at h1
   simp; omega
 idM:=fun i hi=>by
  show i<(S.files ++ [_]).length
  have hi' : i∈Br (S.acts ++ [.made n S.files.length]):=hi
  rw [Gu,List.mem_append] at hi'
  rcases hi' with h1 | h1
  ·have:=h.idM i h1
   simp; omega
  ·simp [Br] at h1
 lens:=fun i f hf=>by
  have hf' : (S.files ++ [⟨[],0⟩])[i]? = some f:=hf
  show f.b.length=f.sure+Ar (S.acts ++ [.made n S.files.length]) i
  rw [Ew]
  have e : Ar [Ac.made n S.files.length] i=0:=rfl
  rw [e]
  rcases Nat.lt_or_ge i S.files.length with h1 | h1
  ·rw [List.getElem?_append_left h1] at hf'
   rw [h.lens i f hf']
   omega
  ·rw [List.getElem?_append_right h1] at hf'
   have hi : i=S.files.length:=by
    have:=(List.getElem?_eq_some_iff.1 hf').1
    simp at this
    omega
   subst hi
   simp at hf'
   subst hf'
   rw [moreSum_none fun hh=>Nat.lt_irrefl _ (h.idM _ hh)]
   rfl
theorem G4 {files : List Fl} {f i : Nat} {g : Fl→Fl} {x : Fl} (h : (files.modify f g)[i]? = some x) : (i≠f∧files[i]? = some x)∨(i=f∧∃ y,files[f]? = some y∧x=g y):=by
 rw [List.getElem?_modify] at h
 by_cases e : f=i
 ·subst e
  cases hy : files[f]? with
  | none=>simp [hy] at h
  | some y=>
   simp [hy] at h
   exact Or.inr ⟨rfl,y,rfl,h.symm⟩
 ·simp [e] at h
  exact Or.inl ⟨fun e2=>e e2.symm,h⟩
theorem Ok.ext (h : Ok S) {f : Nat} (hf : f<S.files.length) (b : List UInt8) : Ok (S.ext f b) where
 sortS:=h.sortS
 valid:=Gm.2 ⟨h.valid,by exact ⟨trivial,trivial⟩⟩
 dir:=by
  show S.dir=A5 S.sure (S.acts ++ [.more f b.length])
  rw [Hm,← h.dir]
  rfl
 one:=by
  show (ids S.sure++A4 (S.acts ++ [.more f b.length])).Nodup
  rw [Ek]
  have e : A4 [Ac.more f b.length] = []:=rfl
  rw [e,List.append_nil]
  exact h.one
 idS:=fun i hi=>by
  show i<(S.files.modify f _).length
  rw [List.length_modify]
  exact h.idS i hi
 idA:=fun i hi=>by
  show i<(S.files.modify f _).length
  rw [List.length_modify]
  have hi' : i∈A4 (S.acts ++ [.more f b.length]):=hi
  rw [Ek] at hi'
  have e : A4 [Ac.more f b.length] = []:=rfl
  rw [e,List.append_nil] at hi'
  exact h.idA i hi'
 idM:=fun i hi=>by
  show i<(S.files.modify f _).length
  rw [List.length_modify]
  have hi' : i∈Br (S.acts ++ [.more f b.length]):=hi
  rw [Gu,List.mem_append] at hi'
  rcases hi' with h1 | h1
  ·exact h.idM i h1
  ·simp [Br] at h1
   omega
 lens:=fun i x hx=>by
  show x.b.length=x.sure+Ar (S.acts ++ [.more f b.length]) i
  rw [Ew]
  rcases G4 hx with ⟨hne,hx⟩ | ⟨rfl,y,hy,rfl⟩
  ·have e : Ar [Ac.more f b.length] i=0:=by simp [Ar]; exact fun e=>absurd e.symm hne
   rw [e,h.lens i x hx]
   omega
  ·have e : Ar [Ac.more i b.length] i=b.length:=by simp [Ar]
   rw [e]
   show (y.b++b).length=y.sure+_
   rw [List.length_append,h.lens i y hy]
   omega
theorem Ny (as : List Ac) (q : Ac→Bool) (hq : ∀ a,A9 a=false→q a=true) : ∀ l,A5 l (as.filter q)=A5 l as:=by
 induction as with
 | nil=>exact fun l=>rfl
 | cons a r ih=>
  intro l
  by_cases h : q a=true
  ·rw [List.filter_cons_of_pos h]
   exact ih _
  ·rw [List.filter_cons_of_neg h,ih l]
   have hm : A9 a=true:=by
    cases hm : A9 a
    ·exact absurd (hq a hm) h
    ·rfl
   cases a <;> simp [A9] at hm
   rfl
theorem Pq (as : List Ac) (q : Ac→Bool) (hq : ∀ a,A9 a=false→q a=true) : ∀ l,C8 l as→C8 l (as.filter q):=by
 induction as with
 | nil=>exact fun l h=>h
 | cons a r ih=>
  intro l h
  by_cases hqa : q a=true
  ·rw [List.filter_cons_of_pos hqa]
   exact ⟨h.1,ih _ h.2⟩
  ·rw [List.filter_cons_of_neg hqa]
   have hm : A9 a=true:=by
    cases hm : A9 a
    ·exact absurd (hq a hm) hqa
    ·rfl
   cases a <;> simp [A9] at hm
   exact ih l h.2
theorem Iq (as : List Ac) (q : Ac→Bool) (hq : ∀ a,A9 a=false→q a=true) : A4 (as.filter q)=A4 as:=by
 induction as with
 | nil=>rfl
 | cons a r ih=>
  by_cases hqa : q a=true
  ·rw [List.filter_cons_of_pos hqa,Gx,Gx a r,ih]
  ·rw [List.filter_cons_of_neg hqa,ih]
   have hm : A9 a=true:=by
    cases hm : A9 a
    ·exact absurd (hq a hm) hqa
    ·rfl
   cases a <;> simp [A9] at hm
   rw [Gx (.more _ _) r]
   rfl
theorem Ey (f : Nat) : ∀ a,A9 a=false→(!isOf f a)=true:=by
 intro a h
 cases a <;> simp_all [A9,isOf]
theorem H9 {as : List Ac} {q : Ac→Bool} {i : Nat} (h : i∈Br (as.filter q)) : i∈Br as:=by
 unfold Br at h ⊢
 obtain ⟨a,ha,e⟩:=List.mem_filterMap.1 h
 exact List.mem_filterMap.2 ⟨a,(List.mem_filter.1 ha).1,e⟩
theorem Fm (a : Ac) (r : List Ac) (i : Nat) : Ar (a :: r) i=Ar [a] i+Ar r i:=by
 have:=Ew [a] r i
 simpa using this
theorem Py (as : List Ac) (f i : Nat) : Ar (as.filter fun a=>!isOf f a) i=if i=f then 0 else Ar as i:=by
 induction as with
 | nil=>split <;> rfl
 | cons a r ih=>
  by_cases h : (!isOf f a)=true
  ·rw [List.filter_cons_of_pos (p:=fun a=>!isOf f a) h,Fm,ih,Fm a r]
   by_cases e : i=f
   ·rw [if_pos e,if_pos e]
    cases a with
    | more g k=>
     simp [isOf] at h
     have : g≠i:=fun e2=>h (e2.trans e)
     simp [Ar,this]
    | _=>rfl
   ·rw [if_neg e,if_neg e]
  ·rw [List.filter_cons_of_neg (p:=fun a=>!isOf f a) h,ih,Fm a r]
   by_cases e : i=f
   ·rw [if_pos e,if_pos e]
   ·rw [if_neg e,if_neg e]
    cases a with
    | more g k=>
     simp [isOf] at h
     have : g≠i:=fun e2=>e (e2.symm.trans h)
     simp [Ar,this]
    | _=>simp [isOf] at h
theorem Ok.keepF (h : Ok S) (f : Nat) : Ok (S.keepF f) where
 sortS:=h.sortS
 valid:=Pq _ _ (Ey f) _ h.valid
 dir:=by
  show S.dir=A5 S.sure (S.acts.filter _)
  rw [Ny _ _ (Ey f)]
  exact h.dir
 one:=by
  show (ids S.sure++A4 (S.acts.filter _)).Nodup
  rw [Iq _ _ (Ey f)]
  exact h.one
 idS:=fun i hi=>by
  show i<(S.files.modify f _).length
  rw [List.length_modify]
  exact h.idS i hi
 idA:=fun i hi=>by
  show i<(S.files.modify f _).length
  rw [List.length_modify]
  have hi' : i∈A4 (S.acts.filter fun a=>!isOf f a):=hi
  rw [Iq _ _ (Ey f)] at hi'
  exact h.idA i hi'
 idM:=fun i hi=>by
  show i<(S.files.modify f _).length
  rw [List.length_modify]
  exact h.idM i (H9 hi)
 lens:=fun i x hx=>by
  show x.b.length=x.sure+Ar (S.acts.filter fun a=>!isOf f a) i
  rw [Py]
  rcases G4 hx with ⟨hne,hx⟩ | ⟨rfl,y,hy,rfl⟩
  ·rw [if_neg hne,h.lens i x hx]
  ·rw [if_pos rfl]
   rfl
theorem Ok.undoF (h : Ok S) (f : Nat) : Ok (S.undoF f) where
 sortS:=h.sortS
 valid:=Pq _ _ (Ey f) _ h.valid
 dir:=by
  show S.dir=A5 S.sure (S.acts.filter _)
  rw [Ny _ _ (Ey f)]
  exact h.dir
 one:=by
  show (ids S.sure++A4 (S.acts.filter _)).Nodup
  rw [Iq _ _ (Ey f)]
  exact h.one
 idS:=fun i hi=>by
  show i<(S.files.modify f _).length
  rw [List.length_modify]
  exact h.idS i hi
 idA:=fun i hi=>by
  show i<(S.files.modify f _).length
  rw [List.length_modify]
  have hi' : i∈A4 (S.acts.filter fun a=>!isOf f a):=hi
  rw [Iq _ _ (Ey f)] at hi'
  exact h.idA i hi'
 idM:=fun i hi=>by
  show i<(S.files.modify f _).length
  rw [List.length_modify]
  exact h.idM i (H9 hi)
 lens:=fun i x hx=>by
  show x.b.length=x.sure+Ar (S.acts.filter fun a=>!isOf f a) i
  rw [Py]
  rcases G4 hx with ⟨hne,hx⟩ | ⟨rfl,y,hy,rfl⟩
  ·rw [if_neg hne,h.lens i x hx]
  ·rw [if_pos rfl]
   have:=h.lens i y hy
   show (y.b.take y.sure).length=y.sure+0
   rw [List.length_take]
   omega
theorem G8 {as : List Ac} (h : ∀ a∈as,A9 a=true) : (∀ l,A5 l as=l)∧(∀ l,C8 l as)∧A4 as = []:=by
 induction as with
 | nil=>exact ⟨fun _=>rfl,fun _=>trivial,rfl⟩
 | cons a r ih=>
  obtain ⟨h1,h2,h3⟩:=ih fun a ha=>h a (by simp [ha])
  have ha:=h a (by simp)
  cases a <;> simp [A9] at ha
  exact ⟨fun l=>h1 l,fun l=>⟨trivial,h2 l⟩,by rw [Gx,h3]; rfl⟩
theorem Qp (as : List Ac) (i : Nat) : Ar (as.filter A9) i=Ar as i:=by
 induction as with
 | nil=>rfl
 | cons a r ih=>
  by_cases h : A9 a=true
  ·rw [List.filter_cons_of_pos h,Fm,Fm a r,ih]
  ·rw [List.filter_cons_of_neg h,ih,Fm a r]
   cases a <;> simp_all [A9,Ar]
theorem Ih (as : List Ac) : ∀ a∈as.filter A9,A9 a=true:=fun _ ha=>(List.mem_filter.1 ha).2
theorem Ok.settle (h : Ok S) {l : Dir} (hs : Bx l) (h1 : (ids l).Nodup) (hi : ∀ i∈ids l,i<S.files.length) :
  Ok { S with dir:=l,sure:=l,acts:=S.acts.filter A9 } where
 sortS:=hs
 valid:=(G8 (Ih _)).2.1 _
 dir:=((G8 (Ih _)).1 _).symm
 one:=by
  show (ids l++A4 (S.acts.filter A9)).Nodup
  rw [(G8 (Ih _)).2.2,List.append_nil]
  exact h1
 idS:=hi
 idA:=fun i hi'=>by
  have : i∈A4 (S.acts.filter A9):=hi'
  rw [(G8 (Ih _)).2.2] at this
  cases this
 idM:=fun i hi'=>h.idM i (H9 hi')
 lens:=fun i x hx=>by
  show x.b.length=x.sure+Ar (S.acts.filter A9) i
  rw [Qp]
  exact h.lens i x hx
theorem Ok.keepD (h : Ok S) : Ok S.keepD:=h.settle h.sortD h.oneD (fun _ hi=>h.idD hi)
theorem Ok.undoD (h : Ok S) : Ok S.undoD:=h.settle h.sortS (List.nodup_append.1 h.one).1 h.idS
theorem Ok.setRoom (h : Ok S) (r : Int) : Ok (S.setRoom r):=⟨h.sortS,h.valid,h.dir,h.one,h.idS,h.idA,h.idM,h.lens⟩
theorem Ok.cutAt (h : Ok S) (r : Int) : Ok (S.cutAt r):=⟨h.sortS,h.valid,h.dir,h.one,h.idS,h.idA,h.idM,h.lens⟩
theorem Ok.failAt (h : Ok S) (r : List Int) : Ok (S.failAt r):=⟨h.sortS,h.valid,h.dir,h.one,h.idS,h.idA,h.idM,h.lens⟩
end
end Go.Proofs.YtblniomnhpedjaaGreatDoor
