/-
  A disk, plainly: files by numbers, a directory as a sorted list of names, acts that are loose; what each operation does. No program; no condition.
-/
namespace Go.Proofs.YtblniomnhpedjaaGreatDoor
abbrev Nm:=List UInt8
structure Fl where
 b : List UInt8
 sure : Nat
inductive Ac where
 | made (n : Nm) (f : Nat)
 | ren (a b : Nm)
 | rem (n : Nm)
 | more (f k : Nat)
abbrev Dir:=List (Nm × Nat)
def look (l : Dir) (n : Nm) : Option Nat:=(l.find? (fun p=>p.1 == n)).map (·.2)
def del (n : Nm) (l : Dir) : Dir:=l.filter (fun p=>p.1 != n)
def ins (n : Nm) (f : Nat) : Dir→Dir
 | []=>[(n,f)]
 | p :: r=>if n<p.1 then (n,f) :: p :: r else p :: ins n f r
def Bg (l : Dir) : Ac→Dir
 | .made n f=>ins n f l
 | .ren a b=>match look l a with
  | some f=>ins b f (del b (del a l))
  | none=>l
 | .rem n=>del n l
 | .more _ _=>l
def Ay (l : Dir) (as : List Ac) : Dir:=as.foldl Bg l
def A2 : Ac→Bool
 | .more _ _=>true
 | _=>false
def isOf (f : Nat) : Ac→Bool
 | .more g _=>g == f
 | _=>false
def Aw (as : List Ac) : List Nat:=as.filterMap fun
 | .made _ f=>some f
 | _=>none
def Bn (as : List Ac) : List Nat:=as.filterMap fun
 | .more f _=>some f
 | _=>none
def Ao (as : List Ac) (i : Nat) : Nat:=(as.map fun
 | .more f k=>if f=i then k else 0
 | _=>0).sum
def canD (l : Dir) : Ac→Prop
 | .made n _=>look l n=none
 | .ren a b=>look l a≠none∧a≠b
 | .rem n=>look l n≠none
 | .more _ _=>True
def Cq : Dir→List Ac→Prop
 | _,[]=>True
 | l,a :: r=>canD l a∧Cq (Bg l a) r
structure Dk where
 files : List Fl
 dir : Dir
 sure : Dir
 acts : List Ac
 room : Nat
 n : Nat
 cut : Option Nat
 fails : Nat→Bool
def Bu (l : Dir) : Prop:=l.Pairwise fun p q=>p.1<q.1
def ids (l : Dir) : List Nat:=l.map (·.2)
def Ax (files : List Fl) (i : Nat) : Nat:=((files[i]?).map (·.b.length)).getD 0
def A5 (files : List Fl) (l : Dir) : Nat:=(l.map fun p=>Ax files p.2).sum
def Dk.used (S : Dk) : Nat:=A5 S.files S.dir
theorem nm_irrefl (n : Nm) : ¬ n<n:=List.lt_irrefl n
theorem nm_trans {a b c : Nm} (h : a<b) (k : b<c) : a<c:=List.lt_trans h k
theorem nm_total {a b : Nm} (h : ¬ a<b) (hn : a≠b) : b<a:=by
 refine Classical.byContradiction fun h1=>hn ?_
 exact List.le_antisymm (List.not_lt.1 h1) (List.not_lt.1 h)
theorem Dp (p : Nm × Nat) (r : Dir) (n : Nm) : look (p :: r) n=if p.1=n then some p.2 else look r n:=by
 unfold look
 by_cases h : p.1=n
 ·simp [h]
 ·rw [List.find?_cons_of_neg (by simpa using h),if_neg h]
theorem look_none {l : Dir} {n : Nm} (h : look l n=none) : ∀ p∈l,p.1≠n:=by
 intro p hp e
 unfold look at h
 simp at h
 exact h p.1 p.2 hp e
theorem G4 {l : Dir} {n : Nm} (h : ∀ p∈l,p.1≠n) : look l n=none:=by
 unfold look
 simp
 intro a b hm e
 exact h _ hm e
theorem Fh {l : Dir} {n : Nm} {f : Nat} (h : look l n=some f) : (n,f)∈l:=by
 induction l with
 | nil=>simp [look] at h
 | cons p r ih=>
  rw [Dp] at h
  by_cases e : p.1=n
  ·rw [if_pos e] at h
   injection h with h
   subst e h
   exact List.mem_cons_self
  ·rw [if_neg e] at h
   exact List.mem_cons_of_mem _ (ih h)
theorem Mi {p : Nm × Nat} {r : Dir} (h : Bu (p :: r)) : Bu r:=(List.pairwise_cons.1 h).2
theorem Fk {l : Dir} (h : Bu l) (n : Nm) : Bu (del n l):=h.filter _
theorem J4 {l : Dir} {n : Nm} (h : look l n=none) : del n l=l:=
 List.filter_eq_self.2 fun p hp=>by simpa using look_none h p hp
theorem Lo {l : Dir} (h : Bu l) : (l.map (·.1)).Nodup:=by
 rw [List.Nodup,List.pairwise_map]
 have h' : l.Pairwise fun p q=>p.1<q.1:=h
 refine h'.imp ?_
 intro a b h e
 rw [e] at h
 exact nm_irrefl _ h
theorem G6 {n : Nm} {f : Nat} {l : Dir} {p : Nm × Nat} : p∈ins n f l↔p=(n,f)∨p∈l:=by
 induction l with
 | nil=>simp [ins]
 | cons q r ih=>
  unfold ins
  by_cases h : n<q.1
  ·rw [if_pos h]; simp
  ·rw [if_neg h,List.mem_cons,ih,List.mem_cons]
   constructor
   ·rintro (h | h | h)
    ·exact Or.inr (Or.inl h)
    ·exact Or.inl h
    ·exact Or.inr (Or.inr h)
   ·rintro (h | h | h)
    ·exact Or.inr (Or.inl h)
    ·exact Or.inl h
    ·exact Or.inr (Or.inr h)
theorem E1 (n : Nm) (f : Nat) (l : Dir) : (ins n f l).Perm ((n,f) :: l):=by
 induction l with
 | nil=>exact List.Perm.refl _
 | cons q r ih=>
  unfold ins
  by_cases h : n<q.1
  ·rw [if_pos h]
  ·rw [if_neg h]
   exact (ih.cons q).trans (List.Perm.swap _ _ _)
theorem Mt {l : Dir} (h : Bu l) {n : Nm} (hn : look l n=none) (f : Nat) : Bu (ins n f l):=by
 induction l with
 | nil=>simp [ins,Bu]
 | cons q r ih=>
  have hq:=(List.pairwise_cons.1 h).1
  unfold ins
  by_cases hlt : n<q.1
  ·rw [if_pos hlt]
   refine List.pairwise_cons.2 ⟨fun p hp=>?_,h⟩
   rcases List.mem_cons.1 hp with rfl | hp
   ·exact hlt
   ·exact nm_trans hlt (hq p hp)
  ·rw [if_neg hlt]
   have hne : q.1≠n:=look_none hn q (by simp)
   refine List.pairwise_cons.2 ⟨fun p hp=>?_,ih (Mi h) (G4 fun p hp=>look_none hn p (by simp [hp]))⟩
   rcases G6.1 hp with rfl | hp
   ·exact nm_total hlt (fun e=>hne e.symm)
   ·exact hq p hp
theorem D7 (l : Dir) (n m : Nm) : look (del n l) m=if m=n then none else look l m:=by
 by_cases h : m=n
 ·subst h
  rw [if_pos rfl]
  exact G4 fun p hp=>by simpa using (List.mem_filter.1 hp).2
 ·rw [if_neg h]
  induction l with
  | nil=>rfl
  | cons p r ih=>
   unfold del at ih ⊢
   by_cases e : p.1=n
   ·rw [List.filter_cons_of_neg (by simpa using e),ih,Dp,if_neg (fun e2=>h (e2.symm.trans e))]
   ·rw [List.filter_cons_of_pos (by simpa using e),Dp,Dp,ih]
theorem look_ins {l : Dir} {n : Nm} (hn : look l n=none) (f : Nat) (m : Nm) : look (ins n f l) m=if m=n then some f else look l m:=by
 induction l with
 | nil=>
  show look [(n,f)] m=_
  rw [Dp]
  by_cases h : m=n
  ·simp [h]
  ·rw [if_neg (fun e=>h e.symm),if_neg h]
 | cons q r ih=>
  have hne : q.1≠n:=look_none hn q (by simp)
  have hn' : look r n=none:=G4 fun p hp=>look_none hn p (by simp [hp])
  unfold ins
  by_cases hlt : n<q.1
  ·rw [if_pos hlt,Dp]
   by_cases h : m=n
   ·simp [h]
   ·rw [if_neg (fun e=>h e.symm),if_neg h]
  ·rw [if_neg hlt,Dp,Dp,ih hn']
   by_cases h : m=n
   ·subst h
    rw [if_neg hne,if_pos rfl,if_pos rfl]
   ·rw [if_neg h,if_neg h]
theorem Hm {l : Dir} (h : Bu l) {n : Nm} {f : Nat} (hl : look l n=some f) : l.Perm ((n,f) :: del n l):=by
 induction l with
 | nil=>simp [look] at hl
 | cons p r ih=>
  rw [Dp] at hl
  by_cases e : p.1=n
  ·rw [if_pos e] at hl
   injection hl with hl
   subst e hl
   have : del p.1 (p :: r)=r:=by
    unfold del
    rw [List.filter_cons_of_neg (by simp)]
    exact List.filter_eq_self.2 fun q hq=>by
     have:=(List.pairwise_cons.1 h).1 q hq
     simp
     intro e
     rw [e] at this
     exact nm_irrefl _ this
   rw [this]
  ·rw [if_neg e] at hl
   have : del n (p :: r)=p :: del n r:=by
    unfold del
    rw [List.filter_cons_of_pos (by simpa using e)]
   rw [this]
   exact ((ih (Mi h) hl).cons p).trans (List.Perm.swap _ _ _)
theorem Mj {l : Dir} (h : Bu l) {a : Ac} (hc : canD l a) : Bu (Bg l a):=by
 cases a with
 | made n f=>exact Mt h hc f
 | ren a b=>
  simp only [Bg]
  cases hl : look l a with
  | none=>exact absurd hl hc.1
  | some f=>exact Mt (Fk (Fk h _) _) (by rw [D7,if_pos rfl]) f
 | rem n=>exact Fk h n
 | more f k=>exact h
theorem Ir {as : List Ac} : ∀ {l : Dir},Bu l→Cq l as→Bu (Ay l as):=by
 induction as with
 | nil=>exact fun h _=>h
 | cons a r ih=>exact fun h hv=>ih (Mj h hv.1) hv.2
theorem Gq (l : Dir) (as bs : List Ac) : Ay l (as++bs)=Ay (Ay l as) bs:=by simp [Ay,List.foldl_append]
theorem Fj {as bs : List Ac} : ∀ {l : Dir},Cq l (as++bs)↔Cq l as∧Cq (Ay l as) bs:=by
 induction as with
 | nil=>intro l; simp [Cq,Ay]
 | cons a r ih=>
  intro l
  show canD l a∧Cq (Bg l a) (r++bs)↔(canD l a∧Cq (Bg l a) r)∧Cq (Ay (Bg l a) r) bs
  rw [ih,and_assoc]
theorem ids_done {l : Dir} (h : Bu l) {a : Ac} (hc : canD l a) {X : List Nat} (hn : (ids l++(Aw [a]++X)).Nodup) : (ids (Bg l a)++X).Nodup:=by
 cases a with
 | made n f=>
  have hp : (ids (Bg l (.made n f))++X).Perm (ids l++(Aw [.made n f]++X)):=by
   have h1 : (ids (Bg l (.made n f))).Perm (f :: ids l):=(E1 n f l).map (fun p : Nm × Nat=>p.2)
   refine (h1.append_right X).trans ?_
   show (f :: ids l++X).Perm (ids l++(f :: X))
   exact List.perm_middle.symm
  exact hp.nodup_iff.2 hn
 | ren a b=>
  have hn' : (ids l++X).Nodup:=hn
  simp only [Bg]
  cases hl : look l a with
  | none=>exact absurd hl hc.1
  | some f=>
   have h1 : (ids (ins b f (del b (del a l)))).Perm (f :: ids (del b (del a l))):=(E1 b f _).map (fun p : Nm × Nat=>p.2)
   have h2 : (ids l).Perm (f :: ids (del a l)):=(Hm h hl).map (fun p : Nm × Nat=>p.2)
   refine ((h1.append_right X).nodup_iff).2 ?_
   have h3:=((h2.append_right X).nodup_iff).1 hn'
   refine List.Sublist.nodup ?_ h3
   exact (((List.filter_sublist (l:=del a l)).map (fun p : Nm × Nat=>p.2)).cons_cons f).append (List.Sublist.refl X)
 | rem n=>
  have hn' : (ids l++X).Nodup:=hn
  exact (((List.filter_sublist (l:=l)).map (fun p : Nm × Nat=>p.2)).append (List.Sublist.refl X)).nodup hn'
 | more f k=>exact hn
theorem Fd (a : Ac) (r : List Ac) : Aw (a :: r)=Aw [a]++Aw r:=by
 cases a <;> simp [Aw]
theorem Ea (as bs : List Ac) : Aw (as++bs)=Aw as++Aw bs:=by simp [Aw]
theorem Fa (as bs : List Ac) : Bn (as++bs)=Bn as++Bn bs:=by simp [Bn]
theorem D9 (as bs : List Ac) (i : Nat) : Ao (as++bs) i=Ao as i+Ao bs i:=by simp [Ao]
theorem ids_app {as : List Ac} : ∀ {l : Dir},Bu l→Cq l as→∀ {X : List Nat},(ids l++(Aw as++X)).Nodup→(ids (Ay l as)++X).Nodup:=by
 induction as with
 | nil=>intro l _ _ X hn; exact hn
 | cons a r ih=>
  intro l h hv X hn
  refine ih (Mj h hv.1) hv.2 ?_
  rw [Fd,List.append_assoc] at hn
  exact ids_done h hv.1 hn
theorem mem_done {l : Dir} {a : Ac} {i : Nat} (h : i∈ids (Bg l a)) : i∈ids l∨i∈Aw [a]:=by
 obtain ⟨p,hp,rfl⟩:=List.mem_map.1 h
 cases a with
 | made n f=>
  rcases G6.1 hp with rfl | hp
  ·exact Or.inr (by simp [Aw])
  ·exact Or.inl (List.mem_map.2 ⟨p,hp,rfl⟩)
 | ren a b=>
  simp only [Bg] at hp
  cases hl : look l a with
  | none=>rw [hl] at hp; exact Or.inl (List.mem_map.2 ⟨p,hp,rfl⟩)
  | some f=>
   rw [hl] at hp
   rcases G6.1 hp with rfl | hp
   ·exact Or.inl (List.mem_map.2 ⟨_,Fh hl,rfl⟩)
   ·exact Or.inl (List.mem_map.2 ⟨p,(List.mem_filter.1 (List.mem_filter.1 hp).1).1,rfl⟩)
 | rem n=>exact Or.inl (List.mem_map.2 ⟨p,(List.mem_filter.1 hp).1,rfl⟩)
 | more f k=>exact Or.inl h
theorem mem_app {as : List Ac} : ∀ {l : Dir} {i : Nat},i∈ids (Ay l as)→i∈ids l∨i∈Aw as:=by
 induction as with
 | nil=>exact fun h=>Or.inl h
 | cons a r ih=>
  intro l i h
  rw [Fd]
  rcases ih h with h | h
  ·rcases mem_done h with h | h
   ·exact Or.inl h
   ·exact Or.inr (List.mem_append.2 (Or.inl h))
  ·exact Or.inr (List.mem_append.2 (Or.inr h))
def An (n : Nm) : Bool:=decide (1≤n.length) && decide (n.length≤80) && n.all fun c=>decide (33≤c.toNat) && decide (c.toNat≤126)
def Dk.on (S : Dk) : Bool:=match S.cut with
 | none=>true
 | some c=>decide (S.n<c)
def Dk.next (S : Dk) : Dk:={ S with n:=S.n+1 }
def Dk.mk1 (S : Dk) (n : Nm) : Dk:={ S with files:=S.files ++ [⟨[],0⟩],dir:=ins n S.files.length S.dir,acts:=S.acts ++ [.made n S.files.length] }
def Dk.ext (S : Dk) (f : Nat) (b : List UInt8) : Dk:={ S with files:=S.files.modify f fun x=>{ x with b:=x.b++b },acts:=S.acts ++ [.more f b.length] }
def Dk.app (S : Dk) (n : Nm) (b : List UInt8) : Dk:=
 match look S.dir n with
 | some f=>if b = [] then S else S.ext f b
 | none=>if b = [] then S.mk1 n else (S.mk1 n).ext S.files.length b
def Dk.keepF (S : Dk) (f : Nat) : Dk:={ S with files:=S.files.modify f fun x=>{ x with sure:=x.b.length },acts:=S.acts.filter fun a=>!isOf f a }
def Dk.undoF (S : Dk) (f : Nat) : Dk:={ S with files:=S.files.modify f fun x=>{ x with b:=x.b.take x.sure },acts:=S.acts.filter fun a=>!isOf f a }
def Dk.keepD (S : Dk) : Dk:={ S with sure:=S.dir,acts:=S.acts.filter A2 }
def Dk.undoD (S : Dk) : Dk:={ S with dir:=S.sure,acts:=S.acts.filter A2 }
def Dk.act (S : Dk) (a : Ac) : Dk:={ S with dir:=Bg S.dir a,acts:=S.acts ++ [a] }
def Dk.append (S : Dk) (n : Nm) (b : List UInt8) : Dk × Int:=
 if S.on=false then (S,35)
 else if An n=false then (S.next,30)
 else if b ≠ []∧S.room<S.used+b.length then (S.next,33)
 else if S.fails S.n=true then (S.next,34)
 else (S.next.app n b,0)
def Dk.onFile (S : Dk) (n : Nm) : Except Int (Nat × Bool):=
 if S.on=false then .error 35
 else if An n=false then .error 30
 else match look S.dir n with
  | none=>.error 32
  | some f=>.ok (f,S.fails S.n)
def Dk.begun (S : Dk) : Dk:=if S.on=false then S else S.next
def Dk.bytes (S : Dk) (f : Nat) : List UInt8:=((S.files[f]?).map (·.b)).getD []
def Dk.read (S : Dk) (n : Nm) : List UInt8 × Int:=
 match S.onFile n with
 | .error e=>([],e)
 | .ok (f,fails)=>if fails then ([],34) else (S.bytes f,0)
def Dk.readAt (S : Dk) (n : Nm) (at_ k : Int) : List UInt8 × Int:=
 match S.onFile n with
 | .error e=>([],e)
 | .ok (f,fails)=>
  if at_<0∨k<0∨(S.bytes f).length<at_∨(S.bytes f).length - at_<k then ([],2)
  else if fails then ([],34) else (((S.bytes f).drop at_.toNat).take k.toNat,0)
def Dk.sync (S : Dk) (n : Nm) : Dk × Int:=
 match S.onFile n with
 | .error e=>(S.begun,e)
 | .ok (f,fails)=>if fails then (S.begun.undoF f,34) else (S.begun.keepF f,0)
def Dk.syncDir (S : Dk) : Dk × Int:=
 if S.on=false then (S,35)
 else if S.fails S.n=true then (S.next.undoD,34)
 else (S.next.keepD,0)
def Dk.rename (S : Dk) (a b : Nm) : Dk × Int:=
 if S.on=false then (S,35)
 else if An a=false∨An b=false then (S.next,30)
 else if look S.dir a=none then (S.next,32)
 else if S.fails S.n=true then (S.next,34)
 else if a=b then (S.next,0)
 else (S.next.act (.ren a b),0)
def Dk.remove (S : Dk) (n : Nm) : Dk × Int:=
 match S.onFile n with
 | .error e=>(S.begun,e)
 | .ok (_,fails)=>if fails then (S.begun,34) else (S.begun.act (.rem n),0)
def Dk.size (S : Dk) (n : Nm) : Int:=match look S.dir n with
 | none=>-1
 | some f=>((S.bytes f).length : Int)
def Dk.cutAt (S : Dk) (op : Int) : Dk:={ S with cut:=if op<0 then none else some op.toNat }
def torn (t : Nat) : List Ac→List Ac
 | .more f k :: _=>[.more f (min k t)]
 | _=>[]
def Az (as : List Ac) (keep torn_ : Int) : List Ac:=as.take keep.toNat++torn torn_.toNat (as.drop keep.toNat)
def Dk.crash (S : Dk) (keep torn_ : Int) : Dk:=
 { files:=S.files.mapIdx fun i x=>⟨x.b.take (x.sure+Ao (Az S.acts keep torn_) i),x.sure+Ao (Az S.acts keep torn_) i⟩,dir:=Ay S.sure (Az S.acts keep torn_),sure:=Ay S.sure (Az S.acts keep torn_),acts:=[],room:=S.room,n:=0,cut:=none,fails:=fun _=>false }
def Dk.new (room : Nat) : Dk:={ files:=[],dir:=[],sure:=[],acts:=[],room:=room,n:=0,cut:=none,fails:=fun _=>false }
structure Ok (S : Dk) : Prop where
 sortS : Bu S.sure
 valid : Cq S.sure S.acts
 dir : S.dir=Ay S.sure S.acts
 one : (ids S.sure++Aw S.acts).Nodup
 idS : ∀ i∈ids S.sure,i<S.files.length
 idA : ∀ i∈Aw S.acts,i<S.files.length
 idM : ∀ i∈Bn S.acts,i<S.files.length
 lens : ∀ i f,S.files[i]? = some f→f.b.length=f.sure+Ao S.acts i
section
variable {S : Dk}
theorem Ok.sortD (h : Ok S) : Bu S.dir:=h.dir ▸ Ir h.sortS h.valid
theorem Ok.oneD (h : Ok S) : (ids S.dir).Nodup:=by
 have:=ids_app (X:=[]) h.sortS h.valid (by simpa using h.one)
 rw [← h.dir] at this
 simpa using this
theorem Ok.liveD (h : Ok S) {i : Nat} (hi : i∈ids S.dir) : i∈ids S.sure∨i∈Aw S.acts:=by
 rw [h.dir] at hi
 exact mem_app hi
theorem Ok.idD (h : Ok S) {i : Nat} (hi : i∈ids S.dir) : i<S.files.length:=by
 rcases h.liveD hi with h1 | h1
 ·exact h.idS i h1
 ·exact h.idA i h1
theorem Ok.next (h : Ok S) : Ok S.next:=⟨h.sortS,h.valid,h.dir,h.one,h.idS,h.idA,h.idM,h.lens⟩
theorem Ok.begun (h : Ok S) : Ok S.begun:=by
 unfold Dk.begun
 split
 ·exact h
 ·exact h.next
theorem ok_new (room : Nat) : Ok (Dk.new room) where
 sortS:=List.Pairwise.nil
 valid:=trivial
 dir:=rfl
 one:=by simp [Dk.new,ids,Aw]
 idS:=by simp [Dk.new,ids]
 idA:=by simp [Dk.new,Aw]
 idM:=by simp [Dk.new,Bn]
 lens:=by simp [Dk.new]
theorem C7 {l : Dir} {n : Nm} {f : Nat} (h : look l n=some f) : f∈ids l:=List.mem_map.2 ⟨_,Fh h,rfl⟩
theorem Ok.act (h : Ok S) {a : Ac} (hc : canD S.dir a) (hm : A2 a=false) (hmade : Aw [a] = []) : Ok (S.act a) where
 sortS:=h.sortS
 valid:=Fj.2 ⟨h.valid,show Cq (Ay S.sure S.acts) _ by rw [← h.dir]; exact ⟨hc,trivial⟩⟩
 dir:=by
  show Bg S.dir a=Ay S.sure (S.acts ++ [a])
  rw [Gq,← h.dir]
  rfl
 one:=by
  show (ids S.sure++Aw (S.acts ++ [a])).Nodup
  rw [Ea,hmade,List.append_nil]
  exact h.one
 idS:=h.idS
 idA:=by
  show ∀ i∈Aw (S.acts ++ [a]),i<S.files.length
  rw [Ea,hmade,List.append_nil]
  exact h.idA
 idM:=by
  show ∀ i∈Bn (S.acts ++ [a]),i<S.files.length
  have e : Bn [a] = []:=by cases a <;> first | rfl | simp [A2] at hm
  rw [Fa,e,List.append_nil]
  exact h.idM
 lens:=by
  show ∀ i f,S.files[i]? = some f→f.b.length=f.sure+Ao (S.acts ++ [a]) i
  intro i f hf
  rw [D9,h.lens i f hf]
  cases a <;> simp_all [Ao,A2]
theorem Ok.ren (h : Ok S) {a b : Nm} (ha : look S.dir a≠none) (hne : a≠b) : Ok (S.act (.ren a b)):=
 h.act ⟨ha,hne⟩ rfl rfl
theorem Ok.rem (h : Ok S) {n : Nm} (hn : look S.dir n≠none) : Ok (S.act (.rem n)):=
 h.act hn rfl rfl
theorem moreSum_none {as : List Ac} {i : Nat} (h : i ∉ Bn as) : Ao as i=0:=by
 induction as with
 | nil=>rfl
 | cons a r ih=>
  have h2 : i ∉ Bn r:=fun hh=>h (by cases a <;> simp_all [Bn])
  have h1 : Ao (a :: r) i=Ao [a] i+Ao r i:=by
   have:=D9 [a] r i
   simpa using this
  rw [h1,ih h2]
  cases a with
  | more f k=>
   have : f≠i:=fun e=>h (by simp [Bn,e])
   simp [Ao,this]
  | _=>rfl
theorem Ok.mk1 (h : Ok S) {n : Nm} (hl : look S.dir n=none) : Ok (S.mk1 n) where
 sortS:=h.sortS
 valid:=Fj.2 ⟨h.valid,show Cq (Ay S.sure S.acts) _ by rw [← h.dir]; exact ⟨hl,trivial⟩⟩
 dir:=by
  show ins n S.files.length S.dir=Ay S.sure (S.acts ++ [.made n S.files.length])
  rw [Gq,← h.dir]
  rfl
 one:=by
  show (ids S.sure++Aw (S.acts ++ [.made n S.files.length])).Nodup
  rw [Ea,← List.append_assoc]
  have e : Aw [Ac.made n S.files.length] = [S.files.length]:=rfl
  rw [e]
  refine List.nodup_append.2 ⟨h.one,by simp,fun a ha b hb=>?_⟩
  simp at hb
  subst hb
  rcases List.mem_append.1 ha with h1 | h1
  ·exact Nat.ne_of_lt (h.idS _ h1)
  ·exact Nat.ne_of_lt (h.idA _ h1)
 idS:=fun i hi=>by
  have:=h.idS i hi
  show i<(S.files ++ [_]).length
  simp; omega
 idA:=fun i hi=>by
  show i<(S.files ++ [_]).length
  have hi' : i∈Aw (S.acts ++ [.made n S.files.length]):=hi
  rw [Ea,List.mem_append] at hi'
  rcases hi' with h1 | h1
  ·have:=h.idA i h1
   simp; omega
  ·simp [Aw] at h1
   simp; omega
 idM:=fun i hi=>by
  show i<(S.files ++ [_]).length
  have hi' : i∈Bn (S.acts ++ [.made n S.files.length]):=hi
  rw [Fa,List.mem_append] at hi'
  rcases hi' with h1 | h1
  ·have:=h.idM i h1
   simp; omega
  ·simp [Bn] at h1
 lens:=fun i f hf=>by
  have hf' : (S.files ++ [⟨[],0⟩])[i]? = some f:=hf
  show f.b.length=f.sure+Ao (S.acts ++ [.made n S.files.length]) i
  rw [D9]
  have e : Ao [Ac.made n S.files.length] i=0:=rfl
  rw [e]
  rcases Nat.lt_or_ge i S.files.length with h1 | h1
  ·rw [List.getElem?_append_left h1] at hf'
   rw [h.lens i f hf']
   omega
  ·rw [List.getElem?_append_right h1] at hf'
   have hi : i=S.files.length:=by
    have:=(List.getElem?_eq_some_iff.1 hf').1
    simp at this
    omega
   subst hi
   simp at hf'
   subst hf'
   rw [moreSum_none fun hh=>Nat.lt_irrefl _ (h.idM _ hh)]
   rfl
theorem Fu {files : List Fl} {f i : Nat} {g : Fl→Fl} {x : Fl} (h : (files.modify f g)[i]? = some x) : (i≠f∧files[i]? = some x)∨(i=f∧∃ y,files[f]? = some y∧x=g y):=by
 rw [List.getElem?_modify] at h
 by_cases e : f=i
 ·subst e
  cases hy : files[f]? with
  | none=>simp [hy] at h
  | some y=>
   simp [hy] at h
   exact Or.inr ⟨rfl,y,rfl,h.symm⟩
 ·simp [e] at h
  exact Or.inl ⟨fun e2=>e e2.symm,h⟩
theorem Ok.ext (h : Ok S) {f : Nat} (hf : f<S.files.length) (b : List UInt8) : Ok (S.ext f b) where
 sortS:=h.sortS
 valid:=Fj.2 ⟨h.valid,by exact ⟨trivial,trivial⟩⟩
 dir:=by
  show S.dir=Ay S.sure (S.acts ++ [.more f b.length])
  rw [Gq,← h.dir]
  rfl
 one:=by
  show (ids S.sure++Aw (S.acts ++ [.more f b.length])).Nodup
  rw [Ea]
  have e : Aw [Ac.more f b.length] = []:=rfl
  rw [e,List.append_nil]
  exact h.one
 idS:=fun i hi=>by
  show i<(S.files.modify f _).length
  rw [List.length_modify]
  exact h.idS i hi
 idA:=fun i hi=>by
  show i<(S.files.modify f _).length
  rw [List.length_modify]
  have hi' : i∈Aw (S.acts ++ [.more f b.length]):=hi
  rw [Ea] at hi'
  have e : Aw [Ac.more f b.length] = []:=rfl
  rw [e,List.append_nil] at hi'
  exact h.idA i hi'
 idM:=fun i hi=>by
  show i<(S.files.modify f _).length
  rw [List.length_modify]
  have hi' : i∈Bn (S.acts ++ [.more f b.length]):=hi
  rw [Fa,List.mem_append] at hi'
  rcases hi' with h1 | h1
  ·exact h.idM i h1
  ·simp [Bn] at h1
   omega
 lens:=fun i x hx=>by
  show x.b.length=x.sure+Ao (S.acts ++ [.more f b.length]) i
  rw [D9]
  rcases Fu hx with ⟨hne,hx⟩ | ⟨rfl,y,hy,rfl⟩
  ·have e : Ao [Ac.more f b.length] i=0:=by simp [Ao]; exact fun e=>absurd e.symm hne
   rw [e,h.lens i x hx]
   omega
  ·have e : Ao [Ac.more i b.length] i=b.length:=by simp [Ao]
   rw [e]
   show (y.b++b).length=y.sure+_
   rw [List.length_append,h.lens i y hy]
   omega
theorem Nh (as : List Ac) (q : Ac→Bool) (hq : ∀ a,A2 a=false→q a=true) : ∀ l,Ay l (as.filter q)=Ay l as:=by
 induction as with
 | nil=>exact fun l=>rfl
 | cons a r ih=>
  intro l
  by_cases h : q a=true
  ·rw [List.filter_cons_of_pos h]
   exact ih _
  ·rw [List.filter_cons_of_neg h,ih l]
   have hm : A2 a=true:=by
    cases hm : A2 a
    ·exact absurd (hq a hm) h
    ·rfl
   cases a <;> simp [A2] at hm
   rfl
theorem Lz (as : List Ac) (q : Ac→Bool) (hq : ∀ a,A2 a=false→q a=true) : ∀ l,Cq l as→Cq l (as.filter q):=by
 induction as with
 | nil=>exact fun l h=>h
 | cons a r ih=>
  intro l h
  by_cases hqa : q a=true
  ·rw [List.filter_cons_of_pos hqa]
   exact ⟨h.1,ih _ h.2⟩
  ·rw [List.filter_cons_of_neg hqa]
   have hm : A2 a=true:=by
    cases hm : A2 a
    ·exact absurd (hq a hm) hqa
    ·rfl
   cases a <;> simp [A2] at hm
   exact ih l h.2
theorem G1 (as : List Ac) (q : Ac→Bool) (hq : ∀ a,A2 a=false→q a=true) : Aw (as.filter q)=Aw as:=by
 induction as with
 | nil=>rfl
 | cons a r ih=>
  by_cases hqa : q a=true
  ·rw [List.filter_cons_of_pos hqa,Fd,Fd a r,ih]
  ·rw [List.filter_cons_of_neg hqa,ih]
   have hm : A2 a=true:=by
    cases hm : A2 a
    ·exact absurd (hq a hm) hqa
    ·rfl
   cases a <;> simp [A2] at hm
   rw [Fd (.more _ _) r]
   rfl
theorem Ef (f : Nat) : ∀ a,A2 a=false→(!isOf f a)=true:=by
 intro a h
 cases a <;> simp_all [A2,isOf]
theorem Hd {as : List Ac} {q : Ac→Bool} {i : Nat} (h : i∈Bn (as.filter q)) : i∈Bn as:=by
 unfold Bn at h ⊢
 obtain ⟨a,ha,e⟩:=List.mem_filterMap.1 h
 exact List.mem_filterMap.2 ⟨a,(List.mem_filter.1 ha).1,e⟩
theorem Ez (a : Ac) (r : List Ac) (i : Nat) : Ao (a :: r) i=Ao [a] i+Ao r i:=by
 have:=D9 [a] r i
 simpa using this
theorem Ms (as : List Ac) (f i : Nat) : Ao (as.filter fun a=>!isOf f a) i=if i=f then 0 else Ao as i:=by
 induction as with
 | nil=>split <;> rfl
 | cons a r ih=>
  by_cases h : (!isOf f a)=true
  ·rw [List.filter_cons_of_pos (p:=fun a=>!isOf f a) h,Ez,ih,Ez a r]
   by_cases e : i=f
   ·rw [if_pos e,if_pos e]
    cases a with
    | more g k=>
     simp [isOf] at h
     have : g≠i:=fun e2=>h (e2.trans e)
     simp [Ao,this]
    | _=>rfl
   ·rw [if_neg e,if_neg e]
  ·rw [List.filter_cons_of_neg (p:=fun a=>!isOf f a) h,ih,Ez a r]
   by_cases e : i=f
   ·rw [if_pos e,if_pos e]
   ·rw [if_neg e,if_neg e]
    cases a with
    | more g k=>
     simp [isOf] at h
     have : g≠i:=fun e2=>e (e2.symm.trans h)
     simp [Ao,this]
    | _=>simp [isOf] at h
theorem Ok.keepF (h : Ok S) (f : Nat) : Ok (S.keepF f) where
 sortS:=h.sortS
 valid:=Lz _ _ (Ef f) _ h.valid
 dir:=by
  show S.dir=Ay S.sure (S.acts.filter _)
  rw [Nh _ _ (Ef f)]
  exact h.dir
 one:=by
  show (ids S.sure++Aw (S.acts.filter _)).Nodup
  rw [G1 _ _ (Ef f)]
  exact h.one
 idS:=fun i hi=>by
  show i<(S.files.modify f _).length
  rw [List.length_modify]
  exact h.idS i hi
 idA:=fun i hi=>by
  show i<(S.files.modify f _).length
  rw [List.length_modify]
  have hi' : i∈Aw (S.acts.filter fun a=>!isOf f a):=hi
  rw [G1 _ _ (Ef f)] at hi'
  exact h.idA i hi'
 idM:=fun i hi=>by
  show i<(S.files.modify f _).length
  rw [List.length_modify]
  exact h.idM i (Hd hi)
 lens:=fun i x hx=>by
  show x.b.length=x.sure+Ao (S.acts.filter fun a=>!isOf f a) i
  rw [Ms]
  rcases Fu hx with ⟨hne,hx⟩ | ⟨rfl,y,hy,rfl⟩
  ·rw [if_neg hne,h.lens i x hx]
  ·rw [if_pos rfl]
   rfl
theorem Ok.undoF (h : Ok S) (f : Nat) : Ok (S.undoF f) where
 sortS:=h.sortS
 valid:=Lz _ _ (Ef f) _ h.valid
 dir:=by
  show S.dir=Ay S.sure (S.acts.filter _)
  rw [Nh _ _ (Ef f)]
  exact h.dir
 one:=by
  show (ids S.sure++Aw (S.acts.filter _)).Nodup
  rw [G1 _ _ (Ef f)]
  exact h.one
 idS:=fun i hi=>by
  show i<(S.files.modify f _).length
  rw [List.length_modify]
  exact h.idS i hi
 idA:=fun i hi=>by
  show i<(S.files.modify f _).length
  rw [List.length_modify]
  have hi' : i∈Aw (S.acts.filter fun a=>!isOf f a):=hi
  rw [G1 _ _ (Ef f)] at hi'
  exact h.idA i hi'
 idM:=fun i hi=>by
  show i<(S.files.modify f _).length
  rw [List.length_modify]
  exact h.idM i (Hd hi)
 lens:=fun i x hx=>by
  show x.b.length=x.sure+Ao (S.acts.filter fun a=>!isOf f a) i
  rw [Ms]
  rcases Fu hx with ⟨hne,hx⟩ | ⟨rfl,y,hy,rfl⟩
  ·rw [if_neg hne,h.lens i x hx]
  ·rw [if_pos rfl]
   have:=h.lens i y hy
   show (y.b.take y.sure).length=y.sure+0
   rw [List.length_take]
   omega
theorem Fz {as : List Ac} (h : ∀ a∈as,A2 a=true) : (∀ l,Ay l as=l)∧(∀ l,Cq l as)∧Aw as = []:=by
 induction as with
 | nil=>exact ⟨fun _=>rfl,fun _=>trivial,rfl⟩
 | cons a r ih=>
  obtain ⟨h1,h2,h3⟩:=ih fun a ha=>h a (by simp [ha])
  have ha:=h a (by simp)
  cases a <;> simp [A2] at ha
  exact ⟨fun l=>h1 l,fun l=>⟨trivial,h2 l⟩,by rw [Fd,h3]; rfl⟩
theorem Nr (as : List Ac) (i : Nat) : Ao (as.filter A2) i=Ao as i:=by
 induction as with
 | nil=>rfl
 | cons a r ih=>
  by_cases h : A2 a=true
  ·rw [List.filter_cons_of_pos h,Ez,Ez a r,ih]
  ·rw [List.filter_cons_of_neg h,ih,Ez a r]
   cases a <;> simp_all [A2,Ao]
theorem Ha (as : List Ac) : ∀ a∈as.filter A2,A2 a=true:=fun _ ha=>(List.mem_filter.1 ha).2
theorem Ok.settle (h : Ok S) {l : Dir} (hs : Bu l) (h1 : (ids l).Nodup) (hi : ∀ i∈ids l,i<S.files.length) :
  Ok { S with dir:=l,sure:=l,acts:=S.acts.filter A2 } where
 sortS:=hs
 valid:=(Fz (Ha _)).2.1 _
 dir:=((Fz (Ha _)).1 _).symm
 one:=by
  show (ids l++Aw (S.acts.filter A2)).Nodup
  rw [(Fz (Ha _)).2.2,List.append_nil]
  exact h1
 idS:=hi
 idA:=fun i hi'=>by
  have : i∈Aw (S.acts.filter A2):=hi'
  rw [(Fz (Ha _)).2.2] at this
  cases this
 idM:=fun i hi'=>h.idM i (Hd hi')
 lens:=fun i x hx=>by
  show x.b.length=x.sure+Ao (S.acts.filter A2) i
  rw [Nr]
  exact h.lens i x hx
theorem Ok.keepD (h : Ok S) : Ok S.keepD:=h.settle h.sortD h.oneD (fun _ hi=>h.idD hi)
theorem Ok.undoD (h : Ok S) : Ok S.undoD:=h.settle h.sortS (List.nodup_append.1 h.one).1 h.idS
theorem Ok.cutAt (h : Ok S) (r : Int) : Ok (S.cutAt r):=⟨h.sortS,h.valid,h.dir,h.one,h.idS,h.idA,h.idM,h.lens⟩
end
end Go.Proofs.YtblniomnhpedjaaGreatDoor
