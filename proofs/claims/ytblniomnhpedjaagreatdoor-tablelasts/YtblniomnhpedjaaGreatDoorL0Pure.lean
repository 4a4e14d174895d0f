/-
  A disk, plainly: files by numbers, a directory as a sorted list of names, acts that are loose; what each operation does. No program; no condition.
-/
namespace Go.Proofs.YtblniomnhpedjaaGreatDoor
abbrev Nm:=List UInt8
structure Fl where
 b : List UInt8
 sure : Nat
inductive Ac where
 | made (n : Nm) (f : Nat)
 | ren (a b : Nm)
 | rem (n : Nm)
 | more (f k : Nat)
abbrev Dir:=List (Nm × Nat)
def look (l : Dir) (n : Nm) : Option Nat:=(l.find? (fun p=>p.1 == n)).map (·.2)
def del (n : Nm) (l : Dir) : Dir:=l.filter (fun p=>p.1 != n)
def ins (n : Nm) (f : Nat) : Dir→Dir
 | []=>[(n,f)]
 | p :: r=>if n<p.1 then (n,f) :: p :: r else p :: ins n f r
def Bl (l : Dir) : Ac→Dir
 | .made n f=>ins n f l
 | .ren a b=>match look l a with
  | some f=>ins b f (del b (del a l))
  | none=>l
 | .rem n=>del n l
 | .more _ _=>l
def A2 (l : Dir) (as : List Ac) : Dir:=as.foldl Bl l
def A4 : Ac→Bool
 | .more _ _=>true
 | _=>false
def isOf (f : Nat) : Ac→Bool
 | .more g _=>g == f
 | _=>false
def A0 (as : List Ac) : List Nat:=as.filterMap fun
 | .made _ f=>some f
 | _=>none
def Bt (as : List Ac) : List Nat:=as.filterMap fun
 | .more f _=>some f
 | _=>none
def Ap (as : List Ac) (i : Nat) : Nat:=(as.map fun
 | .more f k=>if f=i then k else 0
 | _=>0).sum
def canD (l : Dir) : Ac→Prop
 | .made n _=>look l n=none
 | .ren a b=>look l a≠none∧a≠b
 | .rem n=>look l n≠none
 | .more _ _=>True
def Cz : Dir→List Ac→Prop
 | _,[]=>True
 | l,a :: r=>canD l a∧Cz (Bl l a) r
structure Dk where
 files : List Fl
 dir : Dir
 sure : Dir
 acts : List Ac
 room : Nat
 n : Nat
 cut : Option Nat
 fails : Nat→Bool
def By (l : Dir) : Prop:=l.Pairwise fun p q=>p.1<q.1
def ids (l : Dir) : List Nat:=l.map (·.2)
def Az (files : List Fl) (i : Nat) : Nat:=((files[i]?).map (·.b.length)).getD 0
def Ba (files : List Fl) (l : Dir) : Nat:=(l.map fun p=>Az files p.2).sum
def Dk.used (S : Dk) : Nat:=Ba S.files S.dir
theorem nm_irrefl (n : Nm) : ¬ n<n:=List.lt_irrefl n
theorem nm_trans {a b c : Nm} (h : a<b) (k : b<c) : a<c:=List.lt_trans h k
theorem nm_total {a b : Nm} (h : ¬ a<b) (hn : a≠b) : b<a:=by
 refine Classical.byContradiction fun h1=>hn ?_
 exact List.le_antisymm (List.not_lt.1 h1) (List.not_lt.1 h)
theorem Dz (p : Nm × Nat) (r : Dir) (n : Nm) : look (p :: r) n=if p.1=n then some p.2 else look r n:=by
 unfold look
 by_cases h : p.1=n
 ·simp [h]
 ·rw [List.find?_cons_of_neg (by simpa using h),if_neg h]
theorem look_none {l : Dir} {n : Nm} (h : look l n=none) : ∀ p∈l,p.1≠n:=by
 intro p hp e
 unfold look at h
 simp at h
 exact h p.1 p.2 hp e
theorem Ic {l : Dir} {n : Nm} (h : ∀ p∈l,p.1≠n) : look l n=none:=by
 unfold look
 simp
 intro a b hm e
 exact h _ hm e
theorem Gm {l : Dir} {n : Nm} {f : Nat} (h : look l n=some f) : (n,f)∈l:=by
 induction l with
 | nil=>simp [look] at h
 | cons p r ih=>
  rw [Dz] at h
  by_cases e : p.1=n
  ·rw [if_pos e] at h
   injection h with h
   subst e h
   exact List.mem_cons_self
  ·rw [if_neg e] at h
   exact List.mem_cons_of_mem _ (ih h)
theorem N4 {p : Nm × Nat} {r : Dir} (h : By (p :: r)) : By r:=(List.pairwise_cons.1 h).2
theorem Gq {l : Dir} (h : By l) (n : Nm) : By (del n l):=h.filter _
theorem La {l : Dir} {n : Nm} (h : look l n=none) : del n l=l:=
 List.filter_eq_self.2 fun p hp=>by simpa using look_none h p hp
theorem Kh {l : Dir} (h : By l) : (l.map (·.1)).Nodup:=by
 rw [List.Nodup,List.pairwise_map]
 have h' : l.Pairwise fun p q=>p.1<q.1:=h
 refine h'.imp ?_
 intro a b h e
 rw [e] at h
 exact nm_irrefl _ h
theorem E9 {n : Nm} {f : Nat} {l : Dir} {p : Nm × Nat} : p∈ins n f l↔p=(n,f)∨p∈l:=by
 induction l with
 | nil=>simp [ins]
 | cons q r ih=>
  unfold ins
  by_cases h : n<q.1
  ·rw [if_pos h]; simp
  ·rw [if_neg h,List.mem_cons,ih,List.mem_cons]
   constructor
   ·rintro (h | h | h)
    ·exact Or.inr (Or.inl h)
    ·exact Or.inl h
    ·exact Or.inr (Or.inr h)
   ·rintro (h | h | h)
    ·exact Or.inr (Or.inl h)
    ·exact Or.inl h
    ·exact Or.inr (Or.inr h)
theorem Fo (n : Nm) (f : Nat) (l : Dir) : (ins n f l).Perm ((n,f) :: l):=by
 induction l with
 | nil=>exact List.Perm.refl _
 | cons q r ih=>
  unfold ins
  by_cases h : n<q.1
  ·rw [if_pos h]
  ·rw [if_neg h]
   exact (ih.cons q).trans (List.Perm.swap _ _ _)
theorem Ol {l : Dir} (h : By l) {n : Nm} (hn : look l n=none) (f : Nat) : By (ins n f l):=by
 induction l with
 | nil=>simp [ins,By]
 | cons q r ih=>
  have hq:=(List.pairwise_cons.1 h).1
  unfold ins
  by_cases hlt : n<q.1
  ·rw [if_pos hlt]
   refine List.pairwise_cons.2 ⟨fun p hp=>?_,h⟩
   rcases List.mem_cons.1 hp with rfl | hp
   ·exact hlt
   ·exact nm_trans hlt (hq p hp)
  ·rw [if_neg hlt]
   have hne : q.1≠n:=look_none hn q (by simp)
   refine List.pairwise_cons.2 ⟨fun p hp=>?_,ih (N4 h) (Ic fun p hp=>look_none hn p (by simp [hp]))⟩
   rcases E9.1 hp with rfl | hp
   ·exact nm_total hlt (fun e=>hne e.symm)
   ·exact hq p hp
theorem Ej (l : Dir) (n m : Nm) : look (del n l) m=if m=n then none else look l m:=by
 by_cases h : m=n
 ·subst h
  rw [if_pos rfl]
  exact Ic fun p hp=>by simpa using (List.mem_filter.1 hp).2
 ·rw [if_neg h]
  induction l with
  | nil=>rfl
  | cons p r ih=>
   unfold del at ih ⊢
   by_cases e : p.1=n
   ·rw [List.filter_cons_of_neg (by simpa using e),ih,Dz,if_neg (fun e2=>h (e2.symm.trans e))]
   ·rw [List.filter_cons_of_pos (by simpa using e),Dz,Dz,ih]
theorem look_ins {l : Dir} {n : Nm} (hn : look l n=none) (f : Nat) (m : Nm) : look (ins n f l) m=if m=n then some f else look l m:=by
 induction l with
 | nil=>
  show look [(n,f)] m=_
  rw [Dz]
  by_cases h : m=n
  ·simp [h]
  ·rw [if_neg (fun e=>h e.symm),if_neg h]
 | cons q r ih=>
  have hne : q.1≠n:=look_none hn q (by simp)
  have hn' : look r n=none:=Ic fun p hp=>look_none hn p (by simp [hp])
  unfold ins
  by_cases hlt : n<q.1
  ·rw [if_pos hlt,Dz]
   by_cases h : m=n
   ·simp [h]
   ·rw [if_neg (fun e=>h e.symm),if_neg h]
  ·rw [if_neg hlt,Dz,Dz,ih hn']
   by_cases h : m=n
   ·subst h
    rw [if_neg hne,if_pos rfl,if_pos rfl]
   ·rw [if_neg h,if_neg h]
theorem Ir {l : Dir} (h : By l) {n : Nm} {f : Nat} (hl : look l n=some f) : l.Perm ((n,f) :: del n l):=by
 induction l with
 | nil=>simp [look] at hl
 | cons p r ih=>
  rw [Dz] at hl
  by_cases e : p.1=n
  ·rw [if_pos e] at hl
   injection hl with hl
   subst e hl
   have : del p.1 (p :: r)=r:=by
    unfold del
    rw [List.filter_cons_of_neg (by simp)]
    exact List.filter_eq_self.2 fun q hq=>by
     have:=(List.pairwise_cons.1 h).1 q hq
     simp
     intro e
     rw [e] at this
     exact nm_irrefl _ this
   rw [this]
  ·rw [if_neg e] at hl
   have : del n (p :: r)=p :: del n r:=by
    unfold del
    rw [List.filter_cons_of_pos (by simpa using e)]
   rw [this]
   exact ((ih (N4 h) hl).cons p).trans (List.Perm.swap _ _ _)
theorem N5 {l : Dir} (h : By l) {a : Ac} (hc : canD l a) : By (Bl l a):=by
 cases a with
 | made n f=>exact Ol h hc f
 | ren a b=>
  simp only [Bl]
  cases hl : look l a with
  | none=>exact absurd hl hc.1
  | some f=>exact Ol (Gq (Gq h _) _) (by rw [Ej,if_pos rfl]) f
 | rem n=>exact Gq h n
 | more f k=>exact h
theorem Jn {as : List Ac} : ∀ {l : Dir},By l→Cz l as→By (A2 l as):=by
 induction as with
 | nil=>exact fun h _=>h
 | cons a r ih=>exact fun h hv=>ih (N5 h hv.1) hv.2
theorem Hp (l : Dir) (as bs : List Ac) : A2 l (as++bs)=A2 (A2 l as) bs:=by simp [A2,List.foldl_append]
theorem Gp {as bs : List Ac} : ∀ {l : Dir},Cz l (as++bs)↔Cz l as∧Cz (A2 l as) bs:=by
 induction as with
 | nil=>intro l; simp [Cz,A2]
 | cons a r ih=>
  intro l
  show canD l a∧Cz (Bl l a) (r++bs)↔(canD l a∧Cz (Bl l a) r)∧Cz (A2 (Bl l a) r) bs
  rw [ih,and_assoc]
theorem ids_done {l : Dir} (h : By l) {a : Ac} (hc : canD l a) {X : List Nat} (hn : (ids l++(A0 [a]++X)).Nodup) : (ids (Bl l a)++X).Nodup:=by
 cases a with
 | made n f=>
  have hp : (ids (Bl l (.made n f))++X).Perm (ids l++(A0 [.made n f]++X)):=by
   have h1 : (ids (Bl l (.made n f))).Perm (f :: ids l):=(Fo n f l).map (fun p : Nm × Nat=>p.2)
   refine (h1.append_right X).trans ?_
   show (f :: ids l++X).Perm (ids l++(f :: X))
   exact List.perm_middle.symm
  exact hp.nodup_iff.2 hn
 | ren a b=>
  have hn' : (ids l++X).Nodup:=hn
  simp only [Bl]
  cases hl : look l a with
  | none=>exact absurd hl hc.1
  | some f=>
   have h1 : (ids (ins b f (del b (del a l)))).Perm (f :: ids (del b (del a l))):=(Fo b f _).map (fun p : Nm × Nat=>p.2)
   have h2 : (ids l).Perm (f :: ids (del a l)):=(Ir h hl).map (fun p : Nm × Nat=>p.2)
   refine ((h1.append_right X).nodup_iff).2 ?_
   have h3:=((h2.append_right X).nodup_iff).1 hn'
   refine List.Sublist.nodup ?_ h3
   exact (((List.filter_sublist (l:=del a l)).map (fun p : Nm × Nat=>p.2)).cons_cons f).append (List.Sublist.refl X)
 | rem n=>
  have hn' : (ids l++X).Nodup:=hn
  exact (((List.filter_sublist (l:=l)).map (fun p : Nm × Nat=>p.2)).append (List.Sublist.refl X)).nodup hn'
 | more f k=>exact hn
theorem Gl (a : Ac) (r : List Ac) : A0 (a :: r)=A0 [a]++A0 r:=by
 cases a <;> simp [A0]
theorem Em (as bs : List Ac) : A0 (as++bs)=A0 as++A0 bs:=by simp [A0]
theorem Gg (as bs : List Ac) : Bt (as++bs)=Bt as++Bt bs:=by simp [Bt]
theorem El (as bs : List Ac) (i : Nat) : Ap (as++bs) i=Ap as i+Ap bs i:=by simp [Ap]
theorem ids_app {as : List Ac} : ∀ {l : Dir},By l→Cz l as→∀ {X : List Nat},(ids l++(A0 as++X)).Nodup→(ids (A2 l as)++X).Nodup:=by
 induction as with
 | nil=>intro l _ _ X hn; exact hn
 | cons a r ih=>
  intro l h hv X hn
  refine ih (N5 h hv.1) hv.2 ?_
  rw [Gl,List.append_assoc] at hn
  exact ids_done h hv.1 hn
theorem mem_done {l : Dir} {a : Ac} {i : Nat} (h : i∈ids (Bl l a)) : i∈ids l∨i∈A0 [a]:=by
 obtain ⟨p,hp,rfl⟩:=List.mem_map.1 h
 cases a with
 | made n f=>
  rcases E9.1 hp with rfl | hp
  ·exact Or.inr (by simp [A0])
  ·exact Or.inl (List.mem_map.2 ⟨p,hp,rfl⟩)
 | ren a b=>
  simp only [Bl] at hp
  cases hl : look l a with
  | none=>rw [hl] at hp; exact Or.inl (List.mem_map.2 ⟨p,hp,rfl⟩)
  | some f=>
   rw [hl] at hp
   rcases E9.1 hp with rfl | hp
   ·exact Or.inl (List.mem_map.2 ⟨_,Gm hl,rfl⟩)
   ·exact Or.inl (List.mem_map.2 ⟨p,(List.mem_filter.1 (List.mem_filter.1 hp).1).1,rfl⟩)
 | rem n=>exact Or.inl (List.mem_map.2 ⟨p,(List.mem_filter.1 hp).1,rfl⟩)
 | more f k=>exact Or.inl h
theorem mem_app {as : List Ac} : ∀ {l : Dir} {i : Nat},i∈ids (A2 l as)→i∈ids l∨i∈A0 as:=by
 induction as with
 | nil=>exact fun h=>Or.inl h
 | cons a r ih=>
  intro l i h
  rw [Gl]
  rcases ih h with h | h
  ·rcases mem_done h with h | h
   ·exact Or.inl h
   ·exact Or.inr (List.mem_append.2 (Or.inl h))
  ·exact Or.inr (List.mem_append.2 (Or.inr h))
def Am (n : Nm) : Bool:=decide (1≤n.length) && decide (n.length≤80) && n.all fun c=>decide (33≤c.toNat) && decide (c.toNat≤126)
def Dk.on (S : Dk) : Bool:=match S.cut with
 | none=>true
 | some c=>decide (S.n<c)
def Dk.next (S : Dk) : Dk:={ S with n:=S.n+1 }
def Dk.mk1 (S : Dk) (n : Nm) : Dk:={ S with files:=S.files ++ [⟨[],0⟩],dir:=ins n S.files.length S.dir,acts:=S.acts ++ [.made n S.files.length] }
def Dk.ext (S : Dk) (f : Nat) (b : List UInt8) : Dk:={ S with files:=S.files.modify f fun x=>{ x with b:=x.b++b },acts:=S.acts ++ [.more f b.length] }
def Dk.app (S : Dk) (n : Nm) (b : List UInt8) : Dk:=
 match look S.dir n with
 | some f=>if b = [] then S else S.ext f b
 | none=>if b = [] then S.mk1 n else (S.mk1 n).ext S.files.length b
def Dk.keepF (S : Dk) (f : Nat) : Dk:={ S with files:=S.files.modify f fun x=>{ x with sure:=x.b.length },acts:=S.acts.filter fun a=>!isOf f a }
def Dk.undoF (S : Dk) (f : Nat) : Dk:={ S with files:=S.files.modify f fun x=>{ x with b:=x.b.take x.sure },acts:=S.acts.filter fun a=>!isOf f a }
def Dk.keepD (S : Dk) : Dk:={ S with sure:=S.dir,acts:=S.acts.filter A4 }
def Dk.undoD (S : Dk) : Dk:={ S with dir:=S.sure,acts:=S.acts.filter A4 }
def Dk.act (S : Dk) (a : Ac) : Dk:={ S with dir:=Bl S.dir a,acts:=S.acts ++ [a] }
def Dk.append (S : Dk) (n : Nm) (b : List UInt8) : Dk × Int:=
 if S.on=false then (S,35)
 else if Am n=false then (S.next,30)
 else if b ≠ []∧S.room<S.used+b.length then (S.next,33)
 else if S.fails S.n=true then (S.next,34)
 else (S.next.app n b,0)
def Dk.onFile (S : Dk) (n : Nm) : Except Int (Nat × Bool):=
 if S.on=false then .error 35
 else if Am n=false then .error 30
 else match look S.dir n with
  | none=>.error 32
  | some f=>.ok (f,S.fails S.n)
def Dk.begun (S : Dk) : Dk:=if S.on=false then S else S.next
def Dk.bytes (S : Dk) (f : Nat) : List UInt8:=((S.files[f]?).map (·.b)).getD []
def Dk.read (S : Dk) (n : Nm) : List UInt8 × Int:=
 match S.onFile n with
 | .error e=>([],e)
 | .ok (f,fails)=>if fails then ([],34) else (S.bytes f,0)
def Dk.readAt (S : Dk) (n : Nm) (at_ k : Int) : List UInt8 × Int:=
 match S.onFile n with
 | .error e=>([],e)
 | .ok (f,fails)=>
  if at_<0∨k<0∨(S.bytes f).length<at_∨(S.bytes f).length - at_<k then ([],2)
  else if fails then ([],34) else (((S.bytes f).drop at_.toNat).take k.toNat,0)
def Dk.sync (S : Dk) (n : Nm) : Dk × Int:=
 match S.onFile n with
 | .error e=>(S.begun,e)
 | .ok (f,fails)=>if fails then (S.begun.undoF f,34) else (S.begun.keepF f,0)
def Dk.syncDir (S : Dk) : Dk × Int:=
 if S.on=false then (S,35)
 else if S.fails S.n=true then (S.next.undoD,34)
 else (S.next.keepD,0)
def Dk.rename (S : Dk) (a b : Nm) : Dk × Int:=
 if S.on=false then (S,35)
 else if Am a=false∨Am b=false then (S.next,30)
 else if look S.dir a=none then (S.next,32)
 else if S.fails S.n=true then (S.next,34)
 else if a=b then (S.next,0)
 else (S.next.act (.ren a b),0)
def Dk.remove (S : Dk) (n : Nm) : Dk × Int:=
 match S.onFile n with
 | .error e=>(S.begun,e)
 | .ok (_,fails)=>if fails then (S.begun,34) else (S.begun.act (.rem n),0)
def Dk.size (S : Dk) (n : Nm) : Int:=match look S.dir n with
 | none=>-1
 | some f=>((S.bytes f).length : Int)
def Dk.cutAt (S : Dk) (op : Int) : Dk:={ S with cut:=if op<0 then none else some op.toNat }
def Ch (t : Nat) : List Ac→List Ac
 | .more f k :: _=>[.more f (min k t)]
 | _=>[]
def A1 (as : List Ac) (keep torn_ : Int) : List Ac:=as.take keep.toNat++Ch torn_.toNat (as.drop keep.toNat)
def Dk.crash (S : Dk) (keep torn_ : Int) : Dk:=
 { files:=S.files.mapIdx fun i x=>⟨x.b.take (x.sure+Ap (A1 S.acts keep torn_) i),x.sure+Ap (A1 S.acts keep torn_) i⟩,dir:=A2 S.sure (A1 S.acts keep torn_),sure:=A2 S.sure (A1 S.acts keep torn_),acts:=[],room:=S.room,n:=0,cut:=none,fails:=fun _=>false }
def Dk.new (room : Nat) : Dk:={ files:=[],dir:=[],sure:=[],acts:=[],room:=room,n:=0,cut:=none,fails:=fun _=>false }
structure Ok (S : Dk) : Prop where
 sortS : By S.sure
 valid : Cz S.sure S.acts
 dir : S.dir=A2 S.sure S.acts
 one : (ids S.sure++A0 S.acts).Nodup
 idS : ∀ i∈ids S.sure,i<S.files.length
 idA : ∀ i∈A0 S.acts,i<S.files.length
 idM : ∀ i∈Bt S.acts,i<S.files.length
 lens : ∀ i f,S.files[i]? = some f→f.b.length=f.sure+Ap S.acts i
section
variable {S : Dk}
theorem Ok.sortD (h : Ok S) : By S.dir:=h.dir ▸ Jn h.sortS h.valid
theorem Ok.oneD (h : Ok S) : (ids S.dir).Nodup:=by
 have:=ids_app (X:=[]) h.sortS h.valid (by simpa using h.one)
 rw [← h.dir] at this
 simpa using this
theorem Ok.liveD (h : Ok S) {i : Nat} (hi : i∈ids S.dir) : i∈ids S.sure∨i∈A0 S.acts:=by
 rw [h.dir] at hi
 exact mem_app hi
theorem Ok.idD (h : Ok S) {i : Nat} (hi : i∈ids S.dir) : i<S.files.length:=by
 rcases h.liveD hi with h1 | h1
 ·exact h.idS i h1
 ·exact h.idA i h1
theorem Ok.next (h : Ok S) : Ok S.next:=⟨h.sortS,h.valid,h.dir,h.one,h.idS,h.idA,h.idM,h.lens⟩
theorem Ok.begun (h : Ok S) : Ok S.begun:=by
 unfold Dk.begun
 split
 ·exact h
 ·exact h.next
theorem ok_new (room : Nat) : Ok (Dk.new room) where
 sortS:=List.Pairwise.nil
 valid:=trivial
 dir:=rfl
 one:=by simp [Dk.new,ids,A0]
 idS:=by simp [Dk.new,ids]
 idA:=by simp [Dk.new,A0]
 idM:=by simp [Dk.new,Bt]
 lens:=by simp [Dk.new]
theorem Dm {l : Dir} {n : Nm} {f : Nat} (h : look l n=some f) : f∈ids l:=List.mem_map.2 ⟨_,Gm h,rfl⟩
theorem Ok.act (h : Ok S) {a : Ac} (hc : canD S.dir a) (hm : A4 a=false) (hmade : A0 [a] = []) : Ok (S.act a) where
 sortS:=h.sortS
 valid:=Gp.2 ⟨h.valid,show Cz (A2 S.sure S.acts) _ by rw [← h.dir]; exact ⟨hc,trivial⟩⟩
 dir:=by
  show Bl S.dir a=A2 S.sure (S.acts ++ [a])
  rw [Hp,← h.dir]
  rfl
 one:=by
  show (ids S.sure++A0 (S.acts ++ [a])).Nodup
  rw [Em,hmade,List.append_nil]
  exact h.one
 idS:=h.idS
 idA:=by
  show ∀ i∈A0 (S.acts ++ [a]),i<S.files.length
  rw [Em,hmade,List.append_nil]
  exact h.idA
 idM:=by
  show ∀ i∈Bt (S.acts ++ [a]),i<S.files.length
  have e : Bt [a] = []:=by cases a <;> first | rfl | simp [A4] at hm
  rw [Gg,e,List.append_nil]
  exact h.idM
 lens:=by
  show ∀ i f,S.files[i]? = some f→f.b.length=f.sure+Ap (S.acts ++ [a]) i
  intro i f hf
  rw [El,h.lens i f hf]
  cases a <;> simp_all [Ap,A4]
theorem Ok.ren (h : Ok S) {a b : Nm} (ha : look S.dir a≠none) (hne : a≠b) : Ok (S.act (.ren a b)):=
 h.act ⟨ha,hne⟩ rfl rfl
theorem Ok.rem (h : Ok S) {n : Nm} (hn : look S.dir n≠none) : Ok (S.act (.rem n)):=
 h.act hn rfl rfl
theorem moreSum_none {as : List Ac} {i : Nat} (h : i ∉ Bt as) : Ap as i=0:=by
 induction as with
 | nil=>rfl
 | cons a r ih=>
  have h2 : i ∉ Bt r:=fun hh=>h (by cases a <;> simp_all [Bt])
  have h1 : Ap (a :: r) i=Ap [a] i+Ap r i:=by
   have:=El [a] r i
   simpa using this
  rw [h1,ih h2]
  cases a with
  | more f k=>
   have : f≠i:=fun e=>h (by simp [Bt,e])
   simp [Ap,this]
  | _=>rfl
theorem Ok.mk1 (h : Ok S) {n : Nm} (hl : look S.dir n=none) : Ok (S.mk1 n) where
 sortS:=h.sortS
 valid:=Gp.2 ⟨h.valid,show Cz (A2 S.sure S.acts) _ by rw [← h.dir]; exact ⟨hl,trivial⟩⟩
 dir:=by
  show ins n S.files.length S.dir=A2 S.sure (S.acts ++ [.made n S.files.length])
  rw [Hp,← h.dir]
  rfl
 one:=by
  show (ids S.sure++A0 (S.acts ++ [.made n S.files.length])).Nodup
  rw [Em,← List.append_assoc]
  have e : A0 [Ac.made n S.files.length] = [S.files.length]:=rfl
  rw [e]
  refine List.nodup_append.2 ⟨h.one,by simp,fun a ha b hb=>?_⟩
  simp at hb
  subst hb
  rcases List.mem_append.1 ha with h1 | h1
  ·exact Nat.ne_of_lt (h.idS _ h1)
  ·exact Nat.ne_of_lt (h.idA _ h1)
 idS:=fun i hi=>by
  have:=h.idS i hi
  show i<(S.files ++ [_]).length
  simp; omega
 idA:=fun i hi=>by
  show i<(S.files ++ [_]).length
  have hi' : i∈A0 (S.acts ++ [.made n S.files.length]):=hi
  rw [Em,List.mem_append] at hi'
  rcases hi' with h1 | h1
  ·have:=h.idA i h1
   simp; omega
  ·simp [A0] at h1
   simp; omega
 idM:=fun i hi=>by
  show i<(S.files ++ [_]).length
  have hi' : i∈Bt (S.acts ++ [.made n S.files.length]):=hi
  rw [Gg,List.mem_append] at hi'
  rcases hi' with h1 | h1
  ·have:=h.idM i h1
   simp; omega
  ·simp [Bt] at h1
 lens:=fun i f hf=>by
  have hf' : (S.files ++ [⟨[],0⟩])[i]? = some f:=hf
  show f.b.length=f.sure+Ap (S.acts ++ [.made n S.files.length]) i
  rw [El]
  have e : Ap [Ac.made n S.files.length] i=0:=rfl
  rw [e]
  rcases Nat.lt_or_ge i S.files.length with h1 | h1
  ·rw [List.getElem?_append_left h1] at hf'
   rw [h.lens i f hf']
   omega
  ·rw [List.getElem?_append_right h1] at hf'
   have hi : i=S.files.length:=by
    have:=(List.getElem?_eq_some_iff.1 hf').1
    simp at this
    omega
   subst hi
   simp at hf'
   subst hf'
   rw [moreSum_none fun hh=>Nat.lt_irrefl _ (h.idM _ hh)]
   rfl
theorem Gz {files : List Fl} {f i : Nat} {g : Fl→Fl} {x : Fl} (h : (files.modify f g)[i]? = some x) : (i≠f∧files[i]? = some x)∨(i=f∧∃ y,files[f]? = some y∧x=g y):=by
 rw [List.getElem?_modify] at h
 by_cases e : f=i
 ·subst e
  cases hy : files[f]? with
  | none=>simp [hy] at h
  | some y=>
   simp [hy] at h
   exact Or.inr ⟨rfl,y,rfl,h.symm⟩
 ·simp [e] at h
  exact Or.inl ⟨fun e2=>e e2.symm,h⟩
theorem Ok.ext (h : Ok S) {f : Nat} (hf : f<S.files.length) (b : List UInt8) : Ok (S.ext f b) where
 sortS:=h.sortS
 valid:=Gp.2 ⟨h.valid,by exact ⟨trivial,trivial⟩⟩
 dir:=by
  show S.dir=A2 S.sure (S.acts ++ [.more f b.length])
  rw [Hp,← h.dir]
  rfl
 one:=by
  show (ids S.sure++A0 (S.acts ++ [.more f b.length])).Nodup
  rw [Em]
  have e : A0 [Ac.more f b.length] = []:=rfl
  rw [e,List.append_nil]
  exact h.one
 idS:=fun i hi=>by
  show i<(S.files.modify f _).length
  rw [List.length_modify]
  exact h.idS i hi
 idA:=fun i hi=>by
  show i<(S.files.modify f _).length
  rw [List.length_modify]
  have hi' : i∈A0 (S.acts ++ [.more f b.length]):=hi
  rw [Em] at hi'
  have e : A0 [Ac.more f b.length] = []:=rfl
  rw [e,List.append_nil] at hi'
  exact h.idA i hi'
 idM:=fun i hi=>by
  show i<(S.files.modify f _).length
  rw [List.length_modify]
  have hi' : i∈Bt (S.acts ++ [.more f b.length]):=hi
  rw [Gg,List.mem_append] at hi'
  rcases hi' with h1 | h1
  ·exact h.idM i h1
  ·simp [Bt] at h1
   omega
 lens:=fun i x hx=>by
  show x.b.length=x.sure+Ap (S.acts ++ [.more f b.length]) i
  rw [El]
  rcases Gz hx with ⟨hne,hx⟩ | ⟨rfl,y,hy,rfl⟩
  ·have e : Ap [Ac.more f b.length] i=0:=by simp [Ap]; exact fun e=>absurd e.symm hne
   rw [e,h.lens i x hx]
   omega
  ·have e : Ap [Ac.more i b.length] i=b.length:=by simp [Ap]
   rw [e]
   show (y.b++b).length=y.sure+_
   rw [List.length_append,h.lens i y hy]
   omega
theorem Pd (as : List Ac) (q : Ac→Bool) (hq : ∀ a,A4 a=false→q a=true) : ∀ l,A2 l (as.filter q)=A2 l as:=by
 induction as with
 | nil=>exact fun l=>rfl
 | cons a r ih=>
  intro l
  by_cases h : q a=true
  ·rw [List.filter_cons_of_pos h]
   exact ih _
  ·rw [List.filter_cons_of_neg h,ih l]
   have hm : A4 a=true:=by
    cases hm : A4 a
    ·exact absurd (hq a hm) h
    ·rfl
   cases a <;> simp [A4] at hm
   rfl
theorem No (as : List Ac) (q : Ac→Bool) (hq : ∀ a,A4 a=false→q a=true) : ∀ l,Cz l as→Cz l (as.filter q):=by
 induction as with
 | nil=>exact fun l h=>h
 | cons a r ih=>
  intro l h
  by_cases hqa : q a=true
  ·rw [List.filter_cons_of_pos hqa]
   exact ⟨h.1,ih _ h.2⟩
  ·rw [List.filter_cons_of_neg hqa]
   have hm : A4 a=true:=by
    cases hm : A4 a
    ·exact absurd (hq a hm) hqa
    ·rfl
   cases a <;> simp [A4] at hm
   exact ih l h.2
theorem Ia (as : List Ac) (q : Ac→Bool) (hq : ∀ a,A4 a=false→q a=true) : A0 (as.filter q)=A0 as:=by
 induction as with
 | nil=>rfl
 | cons a r ih=>
  by_cases hqa : q a=true
  ·rw [List.filter_cons_of_pos hqa,Gl,Gl a r,ih]
  ·rw [List.filter_cons_of_neg hqa,ih]
   have hm : A4 a=true:=by
    cases hm : A4 a
    ·exact absurd (hq a hm) hqa
    ·rfl
   cases a <;> simp [A4] at hm
   rw [Gl (.more _ _) r]
   rfl
theorem Ev (f : Nat) : ∀ a,A4 a=false→(!isOf f a)=true:=by
 intro a h
 cases a <;> simp_all [A4,isOf]
theorem Ij {as : List Ac} {q : Ac→Bool} {i : Nat} (h : i∈Bt (as.filter q)) : i∈Bt as:=by
 unfold Bt at h ⊢
 obtain ⟨a,ha,e⟩:=List.mem_filterMap.1 h
 exact List.mem_filterMap.2 ⟨a,(List.mem_filter.1 ha).1,e⟩
theorem Fk (a : Ac) (r : List Ac) (i : Nat) : Ap (a :: r) i=Ap [a] i+Ap r i:=by
 have:=El [a] r i
 simpa using this
theorem Oj (as : List Ac) (f i : Nat) : Ap (as.filter fun a=>!isOf f a) i=if i=f then 0 else Ap as i:=by
 induction as with
 | nil=>split <;> rfl
 | cons a r ih=>
  by_cases h : (!isOf f a)=true
  ·rw [List.filter_cons_of_pos (p:=fun a=>!isOf f a) h,Fk,ih,Fk a r]
   by_cases e : i=f
   ·rw [if_pos e,if_pos e]
    cases a with
    | more g k=>
     simp [isOf] at h
     have : g≠i:=fun e2=>h (e2.trans e)
     simp [Ap,this]
    | _=>rfl
   ·rw [if_neg e,if_neg e]
  ·rw [List.filter_cons_of_neg (p:=fun a=>!isOf f a) h,ih,Fk a r]
   by_cases e : i=f
   ·rw [if_pos e,if_pos e]
   ·rw [if_neg e,if_neg e]
    cases a with
    | more g k=>
     simp [isOf] at h
     have : g≠i:=fun e2=>e (e2.symm.trans h)
     simp [Ap,this]
    | _=>simp [isOf] at h
theorem Ok.keepF (h : Ok S) (f : Nat) : Ok (S.keepF f) where
 sortS:=h.sortS
 valid:=No _ _ (Ev f) _ h.valid
 dir:=by
  show S.dir=A2 S.sure (S.acts.filter _)
  rw [Pd _ _ (Ev f)]
  exact h.dir
 one:=by
  show (ids S.sure++A0 (S.acts.filter _)).Nodup
  rw [Ia _ _ (Ev f)]
  exact h.one
 idS:=fun i hi=>by
  show i<(S.files.modify f _).length
  rw [List.length_modify]
  exact h.idS i hi
 idA:=fun i hi=>by
  show i<(S.files.modify f _).length
  rw [List.length_modify]
  have hi' : i∈A0 (S.acts.filter fun a=>!isOf f a):=hi
  rw [Ia _ _ (Ev f)] at hi'
  exact h.idA i hi'
 idM:=fun i hi=>by
  show i<(S.files.modify f _).length
  rw [List.length_modify]
  exact h.idM i (Ij hi)
 lens:=fun i x hx=>by
  show x.b.length=x.sure+Ap (S.acts.filter fun a=>!isOf f a) i
  rw [Oj]
  rcases Gz hx with ⟨hne,hx⟩ | ⟨rfl,y,hy,rfl⟩
  ·rw [if_neg hne,h.lens i x hx]
  ·rw [if_pos rfl]
   rfl
theorem Ok.undoF (h : Ok S) (f : Nat) : Ok (S.undoF f) where
 sortS:=h.sortS
 valid:=No _ _ (Ev f) _ h.valid
 dir:=by
  show S.dir=A2 S.sure (S.acts.filter _)
  rw [Pd _ _ (Ev f)]
  exact h.dir
 one:=by
  show (ids S.sure++A0 (S.acts.filter _)).Nodup
  rw [Ia _ _ (Ev f)]
  exact h.one
 idS:=fun i hi=>by
  show i<(S.files.modify f _).length
  rw [List.length_modify]
  exact h.idS i hi
 idA:=fun i hi=>by
  show i<(S.files.modify f _).length
  rw [List.length_modify]
  have hi' : i∈A0 (S.acts.filter fun a=>!isOf f a):=hi
  rw [Ia _ _ (Ev f)] at hi'
  exact h.idA i hi'
 idM:=fun i hi=>by
  show i<(S.files.modify f _).length
  rw [List.length_modify]
  exact h.idM i (Ij hi)
 lens:=fun i x hx=>by
  show x.b.length=x.sure+Ap (S.acts.filter fun a=>!isOf f a) i
  rw [Oj]
  rcases Gz hx with ⟨hne,hx⟩ | ⟨rfl,y,hy,rfl⟩
  ·rw [if_neg hne,h.lens i x hx]
  ·rw [if_pos rfl]
   have:=h.lens i y hy
   show (y.b.take y.sure).length=y.sure+0
   rw [List.length_take]
   omega
theorem G9 {as : List Ac} (h : ∀ a∈as,A4 a=true) : (∀ l,A2 l as=l)∧(∀ l,Cz l as)∧A0 as = []:=by
 induction as with
 | nil=>exact ⟨fun _=>rfl,fun _=>trivial,rfl⟩
 | cons a r ih=>
  obtain ⟨h1,h2,h3⟩:=ih fun a ha=>h a (by simp [ha])
  have ha:=h a (by simp)
  cases a <;> simp [A4] at ha
  exact ⟨fun l=>h1 l,fun l=>⟨trivial,h2 l⟩,by rw [Gl,h3]; rfl⟩
theorem Po (as : List Ac) (i : Nat) : Ap (as.filter A4) i=Ap as i:=by
 induction as with
 | nil=>rfl
 | cons a r ih=>
  by_cases h : A4 a=true
  ·rw [List.filter_cons_of_pos h,Fk,Fk a r,ih]
  ·rw [List.filter_cons_of_neg h,ih,Fk a r]
   cases a <;> simp_all [A4,Ap]
theorem Ig (as : List Ac) : ∀ a∈as.filter A4,A4 a=true:=fun _ ha=>(List.mem_filter.1 ha).2
theorem Ok.settle (h : Ok S) {l : Dir} (hs : By l) (h1 : (ids l).Nodup) (hi : ∀ i∈ids l,i<S.files.length) :
  Ok { S with dir:=l,sure:=l,acts:=S.acts.filter A4 } where
 sortS:=hs
 valid:=(G9 (Ig _)).2.1 _
 dir:=((G9 (Ig _)).1 _).symm
 one:=by
  show (ids l++A0 (S.acts.filter A4)).Nodup
  rw [(G9 (Ig _)).2.2,List.append_nil]
  exact h1
 idS:=hi
 idA:=fun i hi'=>by
  have : i∈A0 (S.acts.filter A4):=hi'
  rw [(G9 (Ig _)).2.2] at this
  cases this
 idM:=fun i hi'=>h.idM i (Ij hi')
 lens:=fun i x hx=>by
  show x.b.length=x.sure+Ap (S.acts.filter A4) i
  rw [Po]
  exact h.lens i x hx
theorem Ok.keepD (h : Ok S) : Ok S.keepD:=h.settle h.sortD h.oneD (fun _ hi=>h.idD hi)
theorem Ok.undoD (h : Ok S) : Ok S.undoD:=h.settle h.sortS (List.nodup_append.1 h.one).1 h.idS
theorem Ok.cutAt (h : Ok S) (r : Int) : Ok (S.cutAt r):=⟨h.sortS,h.valid,h.dir,h.one,h.idS,h.idA,h.idM,h.lens⟩
end
end Go.Proofs.YtblniomnhpedjaaGreatDoor
