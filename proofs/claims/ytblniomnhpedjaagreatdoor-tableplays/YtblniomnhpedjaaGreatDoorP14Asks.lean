/-
  Texts joined: Asks, FailAt, Law, NewRep, Stands.
-/
import Derived.Test.YtblniomnhpedjaaGreatDoorP13CrashRun
import Derived.Test.YtblniomnhpedjaaGreatDoorP7BeginRep
import Derived.Test.YtblniomnhpedjaaGreatDoorP12SyncDir
import Derived.Test.YtblniomnhpedjaaGreatDoorP9Rename
namespace Go.Proofs.YtblniomnhpedjaaGreatDoor
open Go.RowKit
section
variable {w w' : World} {F : Nat→Prop} {d : Nat} {S : Dk} {G : Gh}
set_option maxRecDepth 20000 in
theorem ops_rep (h : Rep w F d S G) : Calls Tryz.prog 13 #[.pointer (some ⟨d,0,none⟩)] w fun e w'=>e = .returned (.int .i64 (S.n : Int))∧w'=w:=by
 have hd:=h.disk
 unfold B9 at hd
 have x5:=Ad hd 5
 go_enter Tryz.func13,Tryz.ntmps13
 go_wp2
 go_ret
 exact ⟨rfl,rfl⟩
set_option maxRecDepth 20000 in
theorem size_rep (h : Rep w F d S G) (n : Nm) : Calls Tryz.prog 27 #[.pointer (some ⟨d,0,none⟩), .string (Ae n)] w fun e w'=>e = .returned (.int .i64 (S.size n))∧w'=w:=by
 have hd:=h.disk
 unfold B9 at hd
 have x2:=Ad hd 2
 have hlk : (Instr.lookup 85 (.map G.now) (.string (Ae n)) false).run Tryz.prog w = .ok (pv G.fb (look S.dir n)) w:=by
  cases e : G.now with
  | some b=>exact Eb h e n
  | none=>
   have hm:=h.now
   rw [e] at hm
   have h2 : dv G.fb S.dir = []:=hm
   have h3 : S.dir = []:=List.map_eq_nil_iff.1 h2
   rw [h3]
   exact dir_look_nil w n
 unfold Dk.size
 cases hl : look S.dir n with
 | none=>
  rw [hl] at hlk
  have hlk' : (Instr.lookup 85 (.map G.now) (.string (Ae n)) false).run Tryz.prog w = .ok (.pointer none) w:=hlk
  clear hlk
  go_enter Tryz.func27,Tryz.ntmps27
  go_wp2
  go_ret
  exact ⟨rfl,rfl⟩
 | some f=>
  rw [hl] at hlk
  have hlk' : (Instr.lookup 85 (.map G.now) (.string (Ae n)) false).run Tryz.prog w = .ok (.pointer (some ⟨G.fb f,0,none⟩)) w:=hlk
  obtain ⟨x,hx,hbx,hlv,f2,b2⟩:=h.file hl
  obtain ⟨ra,rc,hrv⟩:=Do b2
  rw [hrv] at f2
  have y0:=Ad f2 0
  dsimp only
  rw [hbx]
  clear hlk f2 b2 hrv hbx
  obtain ⟨len,hlen⟩ : ∃ len,len=x.b.length:=⟨_,rfl⟩
  rw [← hlen] at y0 ⊢
  clear hlen
  go_enter Tryz.func27,Tryz.ntmps27
  go_wp2
  go_ret
  exact ⟨rfl,rfl⟩
theorem Rep.told {F' : Nat→Prop} (h : Rep w F d S G) (hc : Chg (fun k=>k=d∨some k=G.fls) w w') {room : Nat} {cut : Option Nat} {fails : Nat→Bool} {cv : Int} {fls : Option Nat} (l' : List Int) (hroom : room<9223372036854775808) (hcut : ∀ c,cut=some c→cv=(c : Int)) (hF : ∀ k,F k→F' k)
  (hd : w'.heap[d]? = some (.cells (B9 { S with room:=room,cut:=cut,fails:=fails } { G with cv:=cv,fls:=fls }) 89))
  (hfl : Be w' F' fls (fv l')) (hl : ∀ k : Nat,S.n≤k→(fails k=true↔(k : Int)∈l')) (h2 : ∀ b,G.now=some b→fls≠some b) (h3 : ∀ b,G.sure=some b→fls≠some b) :
  Rep w' F' d { S with room:=room,cut:=cut,fails:=fails } { G with cv:=cv,fls:=fls } where
 ok:=⟨h.ok.sortS,h.ok.valid,h.ok.dir,h.ok.one,h.ok.idS,h.ok.idA,h.ok.idM,h.ok.lens⟩
 disk:=hd
 inD:=hF d h.inD
 roomy:=hroom
 cutv:=hcut
 now:=h.now.keep hc (fun b e e2=>by
  have hm:=h.now
  rw [e] at hm
  rcases e2 with e2 | e2
  ·exact hm.2.ne h.disk e2.symm
  ·exact (h.two b e).2 e2.symm) hF
 sure:=h.sure.keep hc (fun b e e2=>by
  rcases e2 with e2 | e2
  ·exact h.ne_sure e e2.symm
  ·exact h.three b e e2.symm) hF
 both:=h.both
 bare:=h.bare
 fails:=⟨l',hfl,hl⟩
 two:=fun b e=>⟨(h.two b e).1,h2 b e⟩
 three:=h3
 row:=A3 h.row hc (fun k hk e=>by
  rcases e with e | e
  ·exact h.ne_row hk e
  ·obtain ⟨cur,hcur⟩:=A2 h.row hk
   obtain ⟨l,h1,_⟩:=h.fails
   rw [← e] at h1
   exact h1.2.ne hcur rfl)
 rowF:=fun k hk=>hF k (h.rowF k hk)
 many:=h.many
 acts:=h.actsKeep hc (by
  obtain ⟨l,h1,_⟩:=h.fails
  exact (D6 h.disk (by decide)).or (Oz h1)) hF
 files:=fun i hi=>by
  obtain ⟨f1,f2⟩:=h.files i hi
  refine ⟨hF _ f1,hc.keep f2 (fun e=>?_)⟩
  rcases e with e | e
  ·exact h.ne_file hi e.symm
  ·obtain ⟨l,h1,_⟩:=h.fails
   rw [← e] at h1
   exact h1.2.ne f2 rfl
 inj:=h.inj
 bytes:=fun i f hi hf=>by
  obtain ⟨b1,b2,b3⟩:=h.bytes i f hi hf
  refine ⟨b1,A3 b2 hc (fun k hk e=>?_),fun k hk=>hF k (b3 k hk)⟩
  obtain ⟨cur,hcur⟩:=A2 b2 hk
  rcases e with e | e
  ·exact Ax hcur h.disk (show 5≠89 by decide) e
  ·obtain ⟨l,h1,_⟩:=h.fails
   rw [← e] at h1
   exact h1.2.ne hcur rfl
 apart:=h.apart
theorem Rep.told1 (h : Rep w F d S G) (hc : Chg (· = d) w w') {room : Nat} {cut : Option Nat} {cv : Int} (hroom : room<9223372036854775808) (hcut : ∀ c,cut=some c→cv=(c : Int))
  (hd : w'.heap[d]? = some (.cells (B9 { S with room:=room,cut:=cut } { G with cv:=cv }) 89)) : Rep w' F d { S with room:=room,cut:=cut } { G with cv:=cv }:=by
 obtain ⟨l,h1,h2⟩:=h.fails
 exact h.told (hc.mono fun _ _ e=>Or.inl e) l hroom hcut (fun _ h=>h) hd (h1.keep hc (fun b e e2=>h.ne_fls e e2.symm) (fun _ h=>h)) h2 (fun b e=>(h.two b e).2) h.three
end
end Go.Proofs.YtblniomnhpedjaaGreatDoor
namespace Go.Proofs.YtblniomnhpedjaaGreatDoor
open Go.RowKit
variable {w : World} {F : Nat→Prop} {d : Nat} {S : Dk} {G : Gh}
def Is (w : World) (v : Value) (ks : List Int) : Prop:=
 ∃ b off cap,v = .slice (some ⟨b,off,none⟩) ks.length cap∧b<w.heap.size∧ks.length≤cap∧∀ j (h : j<ks.length),w.cell? ⟨b,off+j,none⟩=some (.int .i64 ks[j])
theorem fails_put {w : World} {F : Nat→Prop} {b : Nat} {l : List Int} (h : Be w F (some b) (fv l)) (n : Int) :
  ∃ w' l',(Instr.mapUpdate 87 (.map (some b)) (.int .i64 n) (.agg #[])).run Tryz.prog w = .ok () w'∧Be w' F (some b) (fv l')∧(∀ k,k∈l'↔k=n∨k∈l)∧Chg (· = b) w w':=by
 by_cases hn : n∈l
 ·have hp : (fv l).Perm ((.int .i64 n, .agg #[]) :: fv (l.erase n)):=(List.perm_cons_erase hn).map _
  obtain ⟨w',h1,h2,h3,_⟩:=(h.2.perm hp).put_old (kint w) (G6 _) Tryz.underlying87 ⟨n,rfl⟩ (.agg #[])
  refine ⟨w',l,h1,⟨h.1,h2.perm hp.symm⟩,fun k=>⟨Or.inr,?_⟩,h3⟩
  rintro (rfl | h)
  ·exact hn
  ·exact h
 ·obtain ⟨w',h1,h2,h3,_⟩:=h.2.put_new (kint w) (G6 _) Tryz.underlying87 ⟨n,rfl⟩ (fv_ne hn) (.agg #[])
  exact ⟨w',n :: l,h1,⟨h.1,h2⟩,fun k=>by simp,h3⟩
end Go.Proofs.YtblniomnhpedjaaGreatDoor
namespace Go.Proofs.YtblniomnhpedjaaGreatDoor
variable {S : Dk}
def actNm : Ac→Prop
 | .made n _=>Ap n=true
 | .ren _ b=>Ap b=true
 | _=>True
def A7 (S : Dk) : Prop:=(∀ p∈S.sure,Ap p.1=true)∧∀ a∈S.acts,actNm a
theorem done_named {l : Dir} {a : Ac} (hl : ∀ p∈l,Ap p.1=true) (ha : actNm a) : ∀ p∈Bl l a,Ap p.1=true:=by
 intro p hp
 cases a with
 | made n f=>
  rcases Fb.1 hp with rfl | hp
  ·exact ha
  ·exact hl p hp
 | ren x y=>
  simp only [Bl] at hp
  cases hk : look l x with
  | none=>rw [hk] at hp; exact hl p hp
  | some f=>
   rw [hk] at hp
   rcases Fb.1 hp with rfl | hp
   ·exact ha
   ·exact hl p (List.mem_filter.1 (List.mem_filter.1 hp).1).1
 | rem n=>exact hl p (List.mem_filter.1 hp).1
 | more f k=>exact hl p hp
theorem app_named (cs : List Ac) : ∀ {l : Dir},(∀ p∈l,Ap p.1=true)→(∀ a∈cs,actNm a)→∀ p∈A5 l cs,Ap p.1=true:=by
 induction cs with
 | nil=>exact fun hl _=>hl
 | cons a r ih=>exact fun hl ha=>ih (done_named hl (ha a (by simp))) (fun x hx=>ha x (by simp [hx]))
theorem A7.dir (h : A7 S) (hk : Ok S) : ∀ p∈S.dir,Ap p.1=true:=by
 rw [hk.dir]
 exact app_named _ h.1 h.2
theorem named_new (r : Nat) : A7 (Dk.new r):=⟨by simp [Dk.new],by simp [Dk.new]⟩
theorem A7.same {T : Dk} (h : A7 S) (h1 : T.sure=S.sure) (h2 : T.acts=S.acts) : A7 T:=by unfold A7; rw [h1,h2]; exact h
theorem A7.next (h : A7 S) : A7 S.next:=h
theorem A7.begun (h : A7 S) : A7 S.begun:=by
 unfold Dk.begun
 split
 ·exact h
 ·exact h
theorem A7.keepF (h : A7 S) (f : Nat) : A7 (S.keepF f):=⟨h.1,fun a ha=>h.2 a (List.mem_filter.1 ha).1⟩
theorem A7.undoF (h : A7 S) (f : Nat) : A7 (S.undoF f):=⟨h.1,fun a ha=>h.2 a (List.mem_filter.1 ha).1⟩
theorem A7.keepD (h : A7 S) (hk : Ok S) : A7 S.keepD:=⟨h.dir hk,fun a ha=>h.2 a (List.mem_filter.1 ha).1⟩
theorem A7.undoD (h : A7 S) : A7 S.undoD:=⟨h.1,fun a ha=>h.2 a (List.mem_filter.1 ha).1⟩
theorem A7.act (h : A7 S) {a : Ac} (ha : actNm a) : A7 (S.act a):=⟨h.1,fun x hx=>by
 rcases List.mem_append.1 hx with hx | hx
 ·exact h.2 x hx
 ·simp at hx; subst hx; exact ha⟩
theorem A7.mk1 (h : A7 S) {n : Nm} (hn : Ap n=true) : A7 (S.mk1 n):=⟨h.1,fun x hx=>by
 rcases List.mem_append.1 hx with hx | hx
 ·exact h.2 x hx
 ·simp at hx; subst hx; exact hn⟩
theorem A7.ext (h : A7 S) (f : Nat) (b : List UInt8) : A7 (S.ext f b):=⟨h.1,fun x hx=>by
 rcases List.mem_append.1 hx with hx | hx
 ·exact h.2 x hx
 ·simp at hx; subst hx; trivial⟩
theorem A7.append (h : A7 S) (n : Nm) (b : List UInt8) : A7 (S.append n b).1:=by
 unfold Dk.append
 by_cases h1 : S.on=false
 ·rw [if_pos h1]; exact h
 rw [if_neg h1]
 by_cases h2 : Ap n=false
 ·rw [if_pos h2]; exact h
 rw [if_neg h2]
 by_cases h3 : b ≠ []∧S.room<S.used+b.length
 ·rw [if_pos h3]; exact h
 rw [if_neg h3]
 by_cases h4 : S.fails S.n=true
 ·rw [if_pos h4]; exact h
 rw [if_neg h4]
 have hn : Ap n=true:=by simpa using h2
 show A7 (S.next.app n b)
 unfold Dk.app
 split
 ·split
  ·exact h
  ·exact A7.ext (S:=S.next) h _ _
 ·split
  ·exact A7.mk1 (S:=S.next) h hn
  ·exact (A7.mk1 (S:=S.next) h hn).ext _ _
theorem A7.sync (h : A7 S) (n : Nm) : A7 (S.sync n).1:=by
 unfold Dk.sync
 split
 ·exact h.begun
 ·split
  ·exact h.begun.undoF _
  ·exact h.begun.keepF _
theorem A7.syncDir (h : A7 S) (hk : Ok S) : A7 S.syncDir.1:=by
 unfold Dk.syncDir
 split
 ·exact h
 ·split
  ·exact A7.undoD (S:=S.next) h
  ·exact A7.keepD (S:=S.next) h hk.next
theorem A7.rename (h : A7 S) (a b : Nm) : A7 (S.rename a b).1:=by
 unfold Dk.rename
 by_cases h1 : S.on=false
 ·rw [if_pos h1]; exact h
 rw [if_neg h1]
 by_cases h2 : Ap a=false∨Ap b=false
 ·rw [if_pos h2]; exact h
 rw [if_neg h2]
 split
 ·exact h
 split
 ·exact h
 split
 ·exact h
 ·exact A7.act (S:=S.next) h (show Ap b=true by simpa using fun e=>h2 (Or.inr e))
theorem A7.remove (h : A7 S) (n : Nm) : A7 (S.remove n).1:=by
 unfold Dk.remove
 split
 ·exact h.begun
 ·split
  ·exact h.begun
  ·exact h.begun.act trivial
theorem A7.crash (h : A7 S) (keep t : Int) : A7 (S.crash keep t):=by
 refine ⟨app_named _ h.1 fun a ha=>?_,by simp [Dk.crash]⟩
 unfold A6 at ha
 rcases List.mem_append.1 ha with ha | ha
 ·exact h.2 a (List.mem_of_mem_take ha)
 ·unfold torn at ha
  split at ha
  ·simp at ha; subst ha; trivial
  ·simp at ha
theorem Kj (files : List Fl) (f : Nat) (g : Fl→Fl) (k : Nat) (hg : ∀ x,(g x).b.length≤x.b.length+k) : ((files.modify f g).map fun x=>x.b.length).sum≤(files.map fun x=>x.b.length).sum+k:=by
 induction files generalizing f with
 | nil=>simp
 | cons x r ih=>
  cases f with
  | zero=>have:=hg x; simp [List.modify_zero_cons]; omega
  | succ f=>have:=ih f; simp [List.modify_succ_cons] at this ⊢; omega
theorem bulk_ext (f : Nat) (b : List UInt8) : (S.ext f b).bulk≤S.bulk+b.length+1:=by
 have:=Kj S.files f (fun x=>{ x with b:=x.b++b }) b.length (fun x=>by simp)
 unfold Dk.bulk Dk.ext
 simp only [List.length_append,List.length_modify,List.length_singleton]
 omega
theorem Jx : S.next.bulk=S.bulk+1:=by unfold Dk.bulk Dk.next; simp; omega
theorem bulk_bg : S.begun.bulk≤S.bulk+1:=by
 unfold Dk.begun
 split
 ·omega
 ·rw [Jx]
  exact Nat.le_refl _
theorem J0 (n : Nm) (b : List UInt8) : (S.append n b).1.bulk≤S.bulk+b.length+4:=by
 have h1:=Jx (S:=S)
 unfold Dk.append
 split
 ·show S.bulk≤_; omega
 split
 ·show S.next.bulk≤_; omega
 split
 ·show S.next.bulk≤_; omega
 split
 ·show S.next.bulk≤_; omega
 show (S.next.app n b).bulk≤_
 unfold Dk.app
 split
 ·split
  ·omega
  ·have:=bulk_ext (S:=S.next) (by assumption) b; omega
 ·have h2:=bulk_mk1 S.next n
  split
  ·omega
  ·have:=bulk_ext (S:=S.next.mk1 n) S.next.files.length b
   omega
theorem bulk_keepF (f : Nat) : (S.keepF f).bulk≤S.bulk:=by
 have:=Kj S.files f (fun x=>{ x with sure:=x.b.length }) 0 (fun x=>by simp)
 have h2 : (S.acts.filter fun a=>!isOf f a).length≤S.acts.length:=List.length_filter_le _ _
 unfold Dk.bulk Dk.keepF
 simp only [List.length_modify]
 omega
theorem bulk_undoF (f : Nat) : (S.undoF f).bulk≤S.bulk:=by
 have:=Kj S.files f (fun x=>{ x with b:=x.b.take x.sure }) 0 (fun x=>by simp; omega)
 have h2 : (S.acts.filter fun a=>!isOf f a).length≤S.acts.length:=List.length_filter_le _ _
 unfold Dk.bulk Dk.undoF
 simp only [List.length_modify]
 omega
theorem L7 (n : Nm) : (S.sync n).1.bulk≤S.bulk+1:=by
 have h:=bulk_bg (S:=S)
 unfold Dk.sync
 split
 ·exact h
 ·split
  ·exact Nat.le_trans (bulk_undoF (S:=S.begun) _) h
  ·exact Nat.le_trans (bulk_keepF (S:=S.begun) _) h
theorem bulk_syncDir : S.syncDir.1.bulk≤S.bulk+1:=by
 have h:=Jx (S:=S)
 have h2 : (S.next.acts.filter A9).length≤S.next.acts.length:=List.length_filter_le _ _
 unfold Dk.syncDir
 split
 ·show S.bulk≤_; omega
 ·split
  ·show S.next.undoD.bulk≤_
   unfold Dk.undoD
   unfold Dk.bulk at h ⊢
   simp only at h h2 ⊢
   omega
  ·show S.next.keepD.bulk≤_
   unfold Dk.keepD
   unfold Dk.bulk at h ⊢
   simp only at h h2 ⊢
   omega
theorem bulk_act (a : Ac) : (S.act a).bulk=S.bulk+1:=by unfold Dk.bulk Dk.act; simp; omega
theorem N5 (a b : Nm) : (S.rename a b).1.bulk≤S.bulk+2:=by
 have h:=Jx (S:=S)
 unfold Dk.rename
 split
 ·show S.bulk≤_; omega
 split
 ·show S.next.bulk≤_; omega
 split
 ·show S.next.bulk≤_; omega
 split
 ·show S.next.bulk≤_; omega
 split
 ·show S.next.bulk≤_; omega
 ·show (S.next.act _).bulk≤_; rw [bulk_act]; omega
theorem bulk_remove (n : Nm) : (S.remove n).1.bulk≤S.bulk+2:=by
 have h:=bulk_bg (S:=S)
 unfold Dk.remove
 split
 ·show S.begun.bulk≤_; omega
 ·split
  ·show S.begun.bulk≤_; omega
  ·show (S.begun.act _).bulk≤_; rw [bulk_act]; omega
theorem Pc (keep t : Int) : (S.crash keep t).bulk≤S.bulk:=by
 have key : ∀ (l : List Fl) (g : Nat→Nat→Nat) (k : Nat),((l.mapIdx fun i x=>(⟨x.b.take (g (i+k) x.sure),g (i+k) x.sure⟩ : Fl)).map fun x=>x.b.length).sum≤(l.map fun x=>x.b.length).sum:=by
  intro l
  induction l with
  | nil=>intro g k; simp
  | cons x r ih=>
   intro g k
   have:=ih g (k+1)
   rw [List.mapIdx_cons]
   simp only [List.map_cons,List.sum_cons,List.length_take]
   have e : (fun (i : Nat) (x : Fl)=>(⟨x.b.take (g (i+1+k) x.sure),g (i+1+k) x.sure⟩ : Fl))=fun i x=>⟨x.b.take (g (i+(k+1)) x.sure),g (i+(k+1)) x.sure⟩:=by
    funext i x
    rw [show i+1+k=i+(k+1) by omega]
   rw [e]
   omega
 have:=key S.files (fun i s=>s+Ar (A6 S.acts keep t) i) 0
 unfold Dk.bulk Dk.crash
 simp only [List.length_mapIdx,List.length_nil]
 simp only [Nat.add_zero] at this
 omega
end Go.Proofs.YtblniomnhpedjaaGreatDoor
namespace Go.Proofs.YtblniomnhpedjaaGreatDoor
open Go.RowKit
def newCells (room : Int) : Array Value:=#[.int .i64 room, .int .i64 0, .map none, .map none, .slice none 0 0, .int .i64 0, .bool false, .int .i64 0, .map none]
theorem new_lies (w : World) (room : Nat) (hr : room<9223372036854775808) : ∃ G,Rep (w.alloc (.cells (newCells room) 89)) (· = w.heap.size) w.heap.size (Dk.new room) G:=
 ⟨{ fb:=fun _=>0,rv:=fun _=>.nilFunc,sv:=fun _=>.nilFunc,now:=none,sure:=none,fls:=none,lv:=.slice none 0 0,cv:=0,vs:=[] },
  {
   ok:=ok_new room
   disk:=Au w _
   inD:=rfl
   roomy:=hr
   cutv:=fun c e=>by cases e
   now:=rfl
   sure:=rfl
   both:=Iff.rfl
   bare:=fun _=>rfl
   fails:=⟨[],rfl,fun k _=>by show false=true↔_; simp⟩
   two:=fun b e=>by cases e
   three:=fun b e=>by cases e
   row:=⟨rfl,Or.inl ⟨rfl,rfl⟩⟩
   rowF:=fun k hk=>by cases hk
   many:=rfl
   acts:=fun j a p ha=>by cases ha
   files:=fun i hi=>by rcases hi with (hi | hi) | hi <;> cases hi
   inj:=fun i j hi=>by rcases hi with (hi | hi) | hi <;> cases hi
   bytes:=fun i f hi=>by rcases hi with hi | hi <;> cases hi
   apart:=fun i j k hi=>by rcases hi with hi | hi <;> cases hi }⟩
set_option maxRecDepth 20000 in
theorem new_rep (w : World) (room : Nat) (hr : room<9223372036854775808) : Calls Tryz.prog 35 #[.int .i64 (room : Int)] w fun e w'=>∃ G,e = .returned (.tuple #[.pointer (some ⟨w.heap.size,0,none⟩), .int .i64 0])∧Rep w' (· = w.heap.size) w.heap.size (Dk.new room) G∧Chg (fun _=>False) w w':=by
 obtain ⟨G,hG⟩:=new_lies w room hr
 unfold newCells at hG
 have HG:=Ab hG
 have h0 : ¬ ((room : Int)<0):=by omega
 clear hG
 go_enter Tryz.func35,Tryz.ntmps35
 go_wp2
 go_ret2
 exact ⟨rfl,⟨G,HG.out⟩,(Chg.refl _ w).alloc _⟩
end Go.Proofs.YtblniomnhpedjaaGreatDoor
namespace Go.Proofs.YtblniomnhpedjaaGreatDoor
open Go.RowKit
variable {B : Nat} {w w' : World} {F : Nat→Prop} {d : Nat} {S : Dk}
variable {G : Gh}
theorem append_rep2 (h : Rep w F d S G) (n : Nm) {v : Value} {b : List UInt8} (hb : S.bulk+b.length+3<1099511627776) (hv : Sl w v b) (hvF : b ≠ []→∀ g,v.ownBlock=some g→¬ F g) :
  Calls Tryz.prog 120 #[.pointer (some ⟨d,0,none⟩), .string (Ae n),v] w fun e w'=>e = .returned (.int .i64 (S.append n b).2)∧∃ G',Rep w' (Fx F w w') d (S.append n b).1 G'∧Chg F w w':=by
 have hnl:=n_le S
 unfold Dk.append
 by_cases hon : S.on=false
 ·rw [if_pos hon]
  refine (append_off h hon n v).mono ?_
  rintro e w' ⟨he,hr,hc⟩
  exact ⟨he,G,hr.mono fun k hk=>Or.inl hk,hc.mono fun _ _ f=>f.elim⟩
 rw [if_neg hon]
 have hon' : S.on=true:=by simpa using hon
 by_cases hn : Ap n=false
 ·rw [if_pos hn]
  exact append_name h hon' (by omega) n hn v
 rw [if_neg hn]
 have hn' : Ap n=true:=by simpa using hn
 by_cases hf : b ≠ []∧S.room<S.used+b.length
 ·rw [if_pos hf]
  exact append_full h hon' n hn' (by omega) hv hf.1 hf.2
 rw [if_neg hf]
 by_cases hne : b = []
 ·subst hne
  obtain ⟨ao,cap,rfl,_⟩:=hv
  by_cases hfl : S.fails S.n=true
  ·rw [if_pos hfl]
   exact P8 h hon' n hn' (by omega) ao cap hfl
  rw [if_neg hfl]
  have hfl' : S.fails S.n=false:=by simpa using hfl
  unfold Dk.app
  cases hl : look S.next.dir n with
  | none=>
   simp only [if_true]
   exact Qf h hon' n hn' (by simp at hb; omega) ao cap hfl' hl
  | some f=>
   simp only [if_true]
   exact Qo h hon' n hn' (by omega) ao cap hfl' hl
 ·have hroom : S.used+b.length≤S.room:=by
   refine Nat.le_of_not_lt fun hh=>hf ⟨hne,hh⟩
  by_cases hfl : S.fails S.n=true
  ·rw [if_pos hfl]
   exact Qe h hon' n hn' (by omega) hv hne hroom hfl
  rw [if_neg hfl]
  have hfl' : S.fails S.n=false:=by simpa using hfl
  unfold Dk.app
  cases hl : look S.next.dir n with
  | none=>
   simp only [if_neg hne]
   exact Qm h hon' n hn' hb hv (hvF hne) hne hroom hfl' hl
  | some f=>
   simp only [if_neg hne]
   exact Qk h hon' n hn' hb hv (hvF hne) hne hroom hfl' hl
def Bi (B : Nat) (w : World) (F : Nat→Prop) (d : Nat) (S : Dk) : Prop:=(∃ G,Rep w F d S G)∧(∀ k,F k→B≤k∧k<w.heap.size)∧A7 S
def C2 (B : Nat) (w : World) (F : Nat→Prop) (d : Nat) (S : Dk) (w' : World) : Prop:=∃ F',Bi B w' F' d S∧(∀ k,F' k→F k∨w.heap.size≤k)∧Chg F w w'
theorem Bi.ok (h : Bi B w F d S) : Ok S:=by
 obtain ⟨⟨G,h⟩,_⟩:=h
 exact h.ok
theorem Bi.keep {X : Nat→Prop} (h : Bi B w F d S) (hc : Chg X w w') (hX : ∀ k,F k→¬ X k) : Bi B w' F d S:=by
 obtain ⟨⟨G,h1⟩,h2,h3⟩:=h
 exact ⟨⟨G,h1.keep hc hX (fun _ h=>h)⟩,fun k hk=>⟨(h2 k hk).1,Nat.lt_of_lt_of_le (h2 k hk).2 hc.size⟩,h3⟩
theorem Bi.below (h : Bi B w F d S) (hB : B≤w.heap.size) (hc : Chg F w w') : Below B w w':=hc.below (fun k hk=>(h.2.1 k hk).1) hB
theorem Fh {G' : Gh} {S' : Dk} (h : Bi B w F d S) (hB : B≤w.heap.size) (hr : Rep w' (Fx F w w') d S' G') (hc : Chg F w w') (hn : A7 S') : C2 B w F d S' w':=by
 refine ⟨Fx F w w',⟨⟨G',hr⟩,fun k hk=>?_,hn⟩,fun k hk=>?_,hc⟩
 ·rcases hk with hk | hk
  ·exact ⟨(h.2.1 k hk).1,Nat.lt_of_lt_of_le (h.2.1 k hk).2 hc.size⟩
  ·exact ⟨Nat.le_trans hB hk.1,hk.2⟩
 ·rcases hk with hk | hk
  ·exact Or.inl hk
  ·exact Or.inr hk.1
theorem Fv (h : Bi B w F d S) (hB : B≤w.heap.size) (n : Nm) {v : Value} {b : List UInt8} (hb : S.bulk+b.length+3<1099511627776) (hv : Sl w v b) (hvF : b ≠ []→∀ g,v.ownBlock=some g→¬ F g) :
  Calls Tryz.prog 120 #[.pointer (some ⟨d,0,none⟩), .string (Ae n),v] w fun e w'=>e = .returned (.int .i64 (S.append n b).2)∧C2 B w F d (S.append n b).1 w':=by
 have h0:=h
 obtain ⟨⟨G,hr⟩,h2,h3⟩:=h
 refine (append_rep2 hr n hb hv hvF).mono ?_
 rintro e w' ⟨rfl,G',hr',hc⟩
 exact ⟨rfl,Fh h0 hB hr' hc (h3.append n b)⟩
theorem Ht (h : Bi B w F d S) (hB : B≤w.heap.size) (n : Nm) (hb : S.bulk+1<1099511627776) :
  Calls Tryz.prog 121 #[.pointer (some ⟨d,0,none⟩), .string (Ae n)] w fun e w'=>e = .returned (.int .i64 (S.sync n).2)∧C2 B w F d (S.sync n).1 w':=by
 have h0:=h
 obtain ⟨⟨G,hr⟩,h2,h3⟩:=h
 refine (sync_rep hr hb n).mono ?_
 rintro e w' ⟨rfl,G',hr',hc⟩
 exact ⟨rfl,Fh h0 hB hr' hc (h3.sync n)⟩
theorem syncDir_lies (h : Bi B w F d S) (hB : B≤w.heap.size) (hb : S.bulk+1<1099511627776) :
  Calls Tryz.prog 149 #[.pointer (some ⟨d,0,none⟩)] w fun e w'=>e = .returned (.int .i64 S.syncDir.2)∧C2 B w F d S.syncDir.1 w':=by
 have h0:=h
 obtain ⟨⟨G,hr⟩,h2,h3⟩:=h
 refine (syncDir_rep hr hb).mono ?_
 rintro e w' ⟨rfl,G',hr',hc⟩
 exact ⟨rfl,Fh h0 hB hr' hc (h3.syncDir hr.ok)⟩
theorem Mk (h : Bi B w F d S) (hB : B≤w.heap.size) (a b : Nm) (hb : S.bulk+1<1099511627776) :
  Calls Tryz.prog 122 #[.pointer (some ⟨d,0,none⟩), .string (Ae a), .string (Ae b)] w fun e w'=>e = .returned (.int .i64 (S.rename a b).2)∧C2 B w F d (S.rename a b).1 w':=by
 have h0:=h
 obtain ⟨⟨G,hr⟩,h2,h3⟩:=h
 refine (rename_rep hr (fun k hk=>(h2 k hk).2) hb a b).mono ?_
 rintro e w' ⟨rfl,G',hr',hc⟩
 exact ⟨rfl,Fh h0 hB hr' hc (h3.rename a b)⟩
theorem remove_lies (h : Bi B w F d S) (hB : B≤w.heap.size) (n : Nm) (hb : S.bulk+1<1099511627776) :
  Calls Tryz.prog 139 #[.pointer (some ⟨d,0,none⟩), .string (Ae n)] w fun e w'=>e = .returned (.int .i64 (S.remove n).2)∧C2 B w F d (S.remove n).1 w':=by
 have h0:=h
 obtain ⟨⟨G,hr⟩,h2,h3⟩:=h
 refine (remove_rep hr (fun k hk=>(h2 k hk).2) hb n).mono ?_
 rintro e w' ⟨rfl,G',hr',hc⟩
 exact ⟨rfl,Fh h0 hB hr' hc (h3.remove n)⟩
theorem G0 (h : Bi B w F d S) : Calls Tryz.prog 13 #[.pointer (some ⟨d,0,none⟩)] w fun e w'=>e = .returned (.int .i64 (S.n : Int))∧w'=w:=by
 obtain ⟨⟨G,hr⟩,_⟩:=h
 exact ops_rep hr
theorem Kd (h : Bi B w F d S) (n : Nm) : Calls Tryz.prog 27 #[.pointer (some ⟨d,0,none⟩), .string (Ae n)] w fun e w'=>e = .returned (.int .i64 (S.size n))∧w'=w:=by
 obtain ⟨⟨G,hr⟩,_⟩:=h
 exact size_rep hr n
theorem Nx (h : Bi B w F d S) (hB : B≤w.heap.size) (keep t : Int) (hb : S.bulk<1099511627776) :
  Calls Tryz.prog 23 #[.pointer (some ⟨d,0,none⟩), .int .i64 keep, .int .i64 t] w fun e w'=>∃ d2 F2,e = .returned (.pointer (some ⟨d2,0,none⟩))∧Bi B w' F2 d2 (S.crash keep t)∧(∀ k,F2 k→w.heap.size≤k)∧Chg (fun _=>False) w w':=by
 obtain ⟨⟨G,hr⟩,h2,h3⟩:=h
 refine (crash_rep hr hb keep t).mono ?_
 rintro e w' ⟨d2,G2,rfl,hr2,hc⟩
 exact ⟨d2,_,rfl,⟨⟨G2,hr2⟩,fun k hk=>⟨Nat.le_trans hB hk.1,hk.2⟩,h3.crash keep t⟩,fun k hk=>hk.1,hc⟩
theorem new_lies2 (w : World) (hB : B≤w.heap.size) (room : Nat) (hr : room<9223372036854775808) : Calls Tryz.prog 35 #[.int .i64 (room : Int)] w fun e w'=>e = .returned (.tuple #[.pointer (some ⟨w.heap.size,0,none⟩), .int .i64 0])∧Bi B w' (· = w.heap.size) w.heap.size (Dk.new room)∧Chg (fun _=>False) w w':=by
 refine (new_rep w room hr).mono ?_
 rintro e w' ⟨G,rfl,hr,hc⟩
 exact ⟨rfl,⟨⟨G,hr⟩,fun k hk=>by rw [hk]; exact ⟨hB,hr.lt⟩,named_new room⟩,hc⟩
theorem read_lies (h : Bi B w F d S) (hB : B≤w.heap.size) (n : Nm) (hb : S.bulk<1099511627776) :
  Calls Tryz.prog 96 #[.pointer (some ⟨d,0,none⟩), .string (Ae n)] w fun e w'=>∃ v,e = .returned (.tuple #[v, .int .i64 (S.read n).2])∧w'.ownsRow w.heap.size 5 1 v (S.read n).1.length (bc (S.read n).1) ∧
   ∃ F',Bi B w' F' d S.begun∧(∀ k,F' k→F k∨w.heap.size≤k)∧Chg F w w'∧∀ k,v.ownBlock=some k→¬ F' k:=by
 obtain ⟨⟨G,hr⟩,h2,h3⟩:=h
 refine (read_rep hr (fun k hk=>(h2 k hk).2) hb n).mono ?_
 rintro e w' ⟨v,G',rfl,F',hr',hc,hF',hown,hnot⟩
 refine ⟨v,rfl,hown,F',⟨⟨G',hr'⟩,fun k hk=>?_,h3.begun⟩,fun k hk=>?_,hc,hnot⟩
 ·rcases hF' k hk with h | h
  ·exact ⟨(h2 k h).1,Nat.lt_of_lt_of_le (h2 k h).2 hc.size⟩
  ·exact ⟨Nat.le_trans hB h.1,h.2⟩
 ·rcases hF' k hk with h | h
  ·exact Or.inl h
  ·exact Or.inr h.1
end Go.Proofs.YtblniomnhpedjaaGreatDoor
