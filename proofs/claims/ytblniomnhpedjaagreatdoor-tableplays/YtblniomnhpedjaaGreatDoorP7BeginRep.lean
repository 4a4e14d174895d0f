/-
  Texts joined: BeginRep, AppendRep, Append, OnFile.
-/
import Derived.Test.YtblniomnhpedjaaGreatDoorP6Begin
namespace Go.Proofs.YtblniomnhpedjaaGreatDoor
open Go.RowKit
section
variable {w w' : World} {F F' X : Nat→Prop} {d : Nat} {S : Dk} {G : Gh}
def Dl (w : World) (X : Nat→Prop) : Prop:=∀ c x t,w.heap[c]? = some (.cells x t (0,0))→(t=108∨t=9)∨t=3∨t=219→¬ X c
theorem Dl.or {Y : Nat→Prop} (h : Dl w X) (k : Dl w Y) : Dl w (fun c=>X c∨Y c):=fun c x t h1 h2 h3=>h3.elim (h c x t h1 h2) (k c x t h1 h2)
theorem D6 {a : Nat} {x : Array Value} {t : TypeId} (h : w.heap[a]? = some (.cells x t (0,0))) (ht : ¬ ((t=108∨t=9)∨t=3∨t=219)) : Dl w (· = a):=by
 rintro c y t' h1 h2 rfl
 rw [h] at h1
 injection h1 with h1
 injection h1 with _ h1
 exact ht (h1 ▸ h2)
theorem Ka {a : Nat} {l : List (Value × Value)} (h : Ak w a l) : Dl w (· = a):=by
 rintro c y t' h1 h2 rfl
 exact h.ne h1 rfl
theorem Oz {o : Option Nat} {l : List (Value × Value)} (h : Be w F o l) : Dl w (fun k=>some k=o):=by
 intro c y t' h1 h2 e
 rw [← e] at h
 exact h.2.ne h1 rfl
theorem Hc {n size : Nat} {e : TypeId} {v : Value} {xs : List Value} (h : w.ownsRow 0 e size v n xs) (ht : ¬ ((e=108∨e=9)∨e=3∨e=219)) : Dl w (fun k=>some k=v.ownBlock):=by
 intro c y t' h1 h2 hk
 obtain ⟨cur,hcur⟩:=A2 h hk.symm
 exact D6 hcur ht c y t' h1 h2 rfl
theorem Rep.actsKeep (h : Rep w F d S G) (hc : Chg X w w') (hX : Dl w X) (hF : ∀ k,F k→F' k) : ∀ (j : Nat) a p,S.acts[j]? = some a→G.vs[j]? = some p→ActW w' F' G.fb a p:=
 fun j a p ha hp=>(h.acts j a p ha hp).keep hc (fun c x t h1 h2 _=>hX c x t h1 h2) hF (fun _ _=>rfl)
theorem Rep.ne_file (h : Rep w F d S G) {i : Nat} (hi : S.known i) : d≠G.fb i:=Ax h.disk (h.files i hi).2 (by simp [tag])
theorem Rep.ne_now (h : Rep w F d S G) {b : Nat} (hb : G.now=some b) : d≠b:=by
 have:=h.now
 rw [hb] at this
 exact this.2.ne h.disk
theorem Rep.ne_sure (h : Rep w F d S G) {b : Nat} (hb : G.sure=some b) : d≠b:=by
 have:=h.sure
 rw [hb] at this
 exact this.2.ne h.disk
theorem Rep.ne_fls (h : Rep w F d S G) {b : Nat} (hb : G.fls=some b) : d≠b:=by
 obtain ⟨l,h1,_⟩:=h.fails
 rw [hb] at h1
 exact h1.2.ne h.disk
theorem Rep.ne_row (h : Rep w F d S G) {b : Nat} (hb : G.lv.ownBlock=some b) : b≠d:=by
 obtain ⟨cur,hcur⟩:=A2 h.row hb
 exact Ax hcur h.disk (show 111≠89 by decide)
theorem Rep.stepped (h : Rep w F d S G) (hc : Chg (fun k=>k=d∨some k=G.fls) w w') {now sure : Option Nat} (l' : List Int) (hF : ∀ k,F k→F' k)
  (hd : w'.heap[d]? = some (.cells (B9 S.next { G with now:=now,sure:=sure }) 89)) (hnow : Be w' F' now (dv G.fb S.dir)) (hsure : Be w' F' sure (dv G.fb S.sure)) (hboth : now=none↔sure=none) (hbare : now=none→S.acts = [])
  (hfl : Be w' F' G.fls (fv l')) (hl : ∀ k : Nat,S.n+1≤k→(S.fails k=true↔(k : Int)∈l')) (h2 : ∀ b,now=some b→sure≠some b∧G.fls≠some b) (h3 : ∀ b,sure=some b→G.fls≠some b) :
  Rep w' F' d S.next { G with now:=now,sure:=sure } where
 ok:=h.ok.next
 disk:=hd
 inD:=hF d h.inD
 roomy:=h.roomy
 cutv:=h.cutv
 now:=hnow
 sure:=hsure
 both:=hboth
 bare:=hbare
 fails:=⟨l',hfl,hl⟩
 two:=h2
 three:=h3
 row:=A3 h.row hc (fun k hk e=>by
  rcases e with e | e
  ·exact h.ne_row hk e
  ·obtain ⟨cur,hcur⟩:=A2 h.row hk
   obtain ⟨l,h1,_⟩:=h.fails
   rw [← e] at h1
   exact h1.2.ne hcur rfl)
 rowF:=fun k hk=>hF k (h.rowF k hk)
 many:=h.many
 acts:=h.actsKeep hc (by
  obtain ⟨l,h1,_⟩:=h.fails
  exact (D6 h.disk (by decide)).or (Oz h1)) hF
 files:=fun i hi=>by
  obtain ⟨f1,f2⟩:=h.files i hi
  refine ⟨hF _ f1,hc.keep f2 (fun e=>?_)⟩
  rcases e with e | e
  ·exact h.ne_file hi e.symm
  ·obtain ⟨l,h1,_⟩:=h.fails
   rw [← e] at h1
   exact h1.2.ne f2 rfl
 inj:=h.inj
 bytes:=fun i f hi hf=>by
  obtain ⟨b1,b2,b3⟩:=h.bytes i f hi hf
  refine ⟨b1,A3 b2 hc (fun k hk e=>?_),fun k hk=>hF k (b3 k hk)⟩
  obtain ⟨cur,hcur⟩:=A2 b2 hk
  rcases e with e | e
  ·exact Ax hcur h.disk (show 5≠89 by decide) e
  ·obtain ⟨l,h1,_⟩:=h.fails
   rw [← e] at h1
   exact h1.2.ne hcur rfl
 apart:=h.apart
theorem Db (S : Dk) (G : Gh) (now sure : Option Nat) : B9 S.next { G with now:=now,sure:=sure } = #[.int .i64 (S.room : Int), .int .i64 (S.used : Int), .map now, .map sure,G.lv, .int .i64 ((S.n : Int)+1), .bool S.cut.isSome, .int .i64 G.cv, .map G.fls]:=by
 unfold B9
 show #[_,_,_,_,_,Value.int .i64 ((S.n+1 : Nat) : Int),_,_,_]=_
 rw [show ((S.n+1 : Nat) : Int)=(S.n : Int)+1 by omega]
 rfl
theorem Jz (h : Rep w F d S G) (hon : S.on=false) : Calls Tryz.prog 140 #[.pointer (some ⟨d,0,none⟩)] w fun e w'=>e = .returned (.tuple #[.bool false, .int .i64 35])∧Rep w' F d S G∧Chg (fun _=>False) w w':=by
 obtain ⟨c,hc,hle⟩ : ∃ c,S.cut=some c∧c≤S.n:=by
  unfold Dk.on at hon
  cases hcut : S.cut with
  | none=>rw [hcut] at hon; simp at hon
  | some c=>rw [hcut] at hon; simp at hon; exact ⟨c,rfl,hon⟩
 have hd:=h.disk
 unfold B9 at hd
 rw [hc,h.cutv c hc] at hd
 refine (begin_off w d _ _ _ _ _ _ _ _ hd (by omega)).mono ?_
 rintro e w' ⟨he,hcg⟩
 exact ⟨he,h.keep hcg (fun _ _ h=>h) (fun _ h=>h),hcg⟩
theorem Dn (h : Rep w F d S G) (hon : S.on=true) (hb : S.n<4611686018427387904) : Calls Tryz.prog 140 #[.pointer (some ⟨d,0,none⟩)] w fun e w'=>e = .returned (.tuple #[.bool (S.fails S.n), .int .i64 0])∧∃ now sure,now≠none ∧
   Rep w' (Fx F w w') d S.next { G with now:=now,sure:=sure }∧Chg F w w':=by
 obtain ⟨l,hf,hl⟩:=h.fails
 have hfn : S.fails S.n=decide ((S.n : Int)∈l):=by
  rw [Bool.eq_iff_iff,hl S.n (Nat.le_refl _)]
  simp
 have hl' : ∀ k : Nat,S.n+1≤k→(S.fails k=true↔(k : Int)∈l.erase (S.n : Int)):=fun k hk=>by
  rw [hl k (by omega),List.mem_erase_of_ne (by omega)]
 have hg : S.cut.isSome=false∨(S.cut.isSome=true∧(S.n : Int)<G.cv):=by
  unfold Dk.on at hon
  cases hcut : S.cut with
  | none=>exact Or.inl rfl
  | some c=>
   rw [hcut] at hon
   simp at hon
   refine Or.inr ⟨rfl,?_⟩
   rw [h.cutv c hcut]
   omega
 have hd:=h.disk
 unfold B9 at hd
 rw [hfn]
 have hXF : ∀ w' : World,Chg (fun k=>k=d∨some k=G.fls) w w'→Chg F w w':=fun w' hc=>hc.mono fun k _ e=>by
  rcases e with rfl | e
  ·exact h.inD
  ·rw [← e] at hf
   exact hf.1
 cases hn : G.now with
 | none=>
  have hs:=h.both.1 hn
  rw [hn,hs] at hd
  refine (begin_nil w F d _ _ _ _ _ _ _ l hd hg hf (by omega) (by omega)).mono ?_
  rintro e w' ⟨he,bn,bs,hne,b1,b2,m1,m2,hd',hf',hc⟩
  have hnow:=h.now
  have hsure:=h.sure
  rw [hn] at hnow
  rw [hs] at hsure
  have hfb : ∀ b,G.fls=some b→b<w.heap.size:=fun b e=>by
   rw [e] at hf
   exact hf.2.lt
  have r1 : Be w' (Fx F w w') (some bn) (dv G.fb S.dir):=by
   rw [show dv G.fb S.dir = [] from hnow]
   exact ⟨Or.inr ⟨b1,m1.lt⟩,m1⟩
  have r2 : Be w' (Fx F w w') (some bs) (dv G.fb S.sure):=by
   rw [show dv G.fb S.sure = [] from hsure]
   exact ⟨Or.inr ⟨b2,m2.lt⟩,m2⟩
  refine ⟨he,some bn,some bs,by simp,h.stepped hc (l.erase (S.n : Int)) (fun _ h=>Or.inl h) (by rw [Db]; exact hd') r1 r2 (by simp) (fun h=>by cases h)
   (hf'.keep (Chg.refl (fun _=>False) w') (fun _ _ h=>h) (fun _ h=>Or.inl h)) hl' ?_ ?_,hXF w' hc⟩
  ·intro b e
   injection e with e
   subst e
   refine ⟨fun e=>hne (by injection e with e; exact e.symm),fun e=>?_⟩
   have:=hfb _ e
   omega
  ·intro b e e2
   injection e with e
   subst e
   have:=hfb _ e2
   omega
 | some bn=>
  have hs : G.sure≠none:=fun e=>by rw [h.both.2 e] at hn; cases hn
  rw [hn] at hd
  refine (begin_some w F d bn _ _ _ _ _ _ _ _ l hd hg hf (by omega) (by omega)).mono ?_
  rintro e w' ⟨he,hd',hf',hc⟩
  have hnow:=h.now
  rw [hn] at hnow
  have two:=h.two bn hn
  have r1 : Be w' (Fx F w w') (some bn) (dv G.fb S.dir):=hnow.keep hc (fun b e hX=>by
   injection e with e
   subst e
   rcases hX with e | e
   ·exact h.ne_now hn e.symm
   ·exact two.2 e.symm) (fun _ h=>Or.inl h)
  have r2 : Be w' (Fx F w w') G.sure (dv G.fb S.sure):=h.sure.keep hc (fun b e hX=>by
   rcases hX with e2 | e2
   ·exact h.ne_sure e e2.symm
   ·exact h.three b e e2.symm) (fun _ h=>Or.inl h)
  exact ⟨he,some bn,G.sure,by simp,h.stepped hc (l.erase (S.n : Int)) (fun _ h=>Or.inl h) (by rw [Db]; exact hd') r1 r2 (by simp [hs]) (fun h=>by cases h)
   (hf'.keep (Chg.refl (fun _=>False) w') (fun _ _ h=>h) (fun _ h=>Or.inl h)) hl' (fun b e=>by rw [← hn] at e; exact h.two b e) (fun b e=>h.three b e),hXF w' hc⟩
end
end Go.Proofs.YtblniomnhpedjaaGreatDoor
namespace Go.Proofs.YtblniomnhpedjaaGreatDoor
open Go.RowKit
def upd {α : Type} (f : Nat→α) (i : Nat) (v : α) : Nat→α:=fun j=>if j=i then v else f j
theorem Ce {α : Type} (f : Nat→α) (i : Nat) (v : α) : upd f i v i=v:=by simp [upd]
theorem Bq {α : Type} (f : Nat→α) {i j : Nat} (v : α) (h : j≠i) : upd f i v j=f j:=by simp [upd,h]
theorem dv_upd {fb : Nat→Nat} {l : Dir} {i q : Nat} (h : i ∉ ids l) : dv (upd fb i q) l=dv fb l:=by
 unfold dv
 refine List.map_congr_left fun p hp=>?_
 rw [Bq _ _ (fun e=>h (List.mem_map.2 ⟨p,hp,e⟩))]
theorem Ok.knownLt {S : Dk} (h : Ok S) {i : Nat} (hi : S.known i) : i<S.files.length:=by
 rcases hi with hi | hi
 ·exact h.liveLt hi
 ·exact h.idM i hi
theorem Kf {S : Dk} {n : Nm} {i : Nat} : (S.mk1 n).known i↔S.known i∨i=S.files.length:=by
 unfold Dk.known Dk.live Dk.mk1
 simp only [Ek,Gu,List.mem_append]
 have e1 : A4 [Ac.made n S.files.length] = [S.files.length]:=rfl
 have e2 : Br [Ac.made n S.files.length] = []:=rfl
 rw [e1,e2]
 simp
 constructor
 ·rintro ((h | h | h) | h)
  ·exact Or.inl (Or.inl (Or.inl h))
  ·exact Or.inl (Or.inl (Or.inr h))
  ·exact Or.inr h
  ·exact Or.inl (Or.inr h)
 ·rintro (((h | h) | h) | h)
  ·exact Or.inl (Or.inl h)
  ·exact Or.inl (Or.inr (Or.inl h))
  ·exact Or.inr h
  ·exact Or.inl (Or.inr (Or.inr h))
theorem Ll {S : Dk} {n : Nm} {i : Nat} : (S.mk1 n).live i↔S.live i∨i=S.files.length:=by
 unfold Dk.live Dk.mk1
 simp only [Ek,List.mem_append]
 have e1 : A4 [Ac.made n S.files.length] = [S.files.length]:=rfl
 rw [e1]
 simp
 constructor
 ·rintro (h | h | h)
  ·exact Or.inl (Or.inl h)
  ·exact Or.inl (Or.inr h)
  ·exact Or.inr h
 ·rintro ((h | h) | h)
  ·exact Or.inl h
  ·exact Or.inr (Or.inl h)
  ·exact Or.inr (Or.inr h)
theorem lenOf_append {files : List Fl} {x : Fl} {i : Nat} (h : i<files.length) : Az (files ++ [x]) i=Az files i:=by
 unfold Az
 rw [List.getElem?_append_left h]
theorem Il {l l' : List Nat} (h : l.Perm l') : l.sum=l'.sum:=h.sum_nat
theorem used_mk1 {S : Dk} (h : Ok S) (n : Nm) : (S.mk1 n).used=S.used:=by
 unfold Dk.used A1 Dk.mk1
 simp only
 rw [Il ((Fo n S.files.length S.dir).map _)]
 simp only [List.map_cons,List.sum_cons]
 have e1 : Az (S.files ++ [⟨[],0⟩]) S.files.length=0:=by simp [Az]
 rw [e1,Nat.zero_add]
 congr 1
 refine List.map_congr_left fun p hp=>?_
 exact lenOf_append (h.idD (List.mem_map.2 ⟨p,hp,rfl⟩))
theorem ids_mk1 {S : Dk} {n : Nm} {i : Nat} : i∈ids (S.mk1 n).dir↔i=S.files.length∨i∈ids S.dir:=by
 unfold Dk.mk1 ids
 simp only
 rw [((Fo n S.files.length S.dir).map _).mem_iff]
 simp
section
variable {w w' : World} {F : Nat→Prop} {d : Nat} {S : Dk} {G : Gh}
theorem made_rep (h : Rep w F d S G) {bn : Nat} (hnow : G.now=some bn) {n : Nm} (hl : look S.dir n=none) (hn : Ap n=true) (hb : S.bulk<1099511627776) :
  Calls Tryz.prog 142 #[.pointer (some ⟨d,0,none⟩), .string (Ae n)] w fun e w'=>∃ G',e = .returned (.pointer (some ⟨G'.fb S.files.length,0,none⟩))∧Rep w' (Fx F w w') d (S.mk1 n) G'∧G'.now=some bn∧Chg F w w':=by
 have hd:=h.disk
 unfold B9 at hd
 rw [hnow] at hd
 have hm:=h.now
 rw [hnow] at hm
 have hbs : G.sure≠none:=fun e=>by rw [h.both.2 e] at hnow; cases hnow
 have hal:=E3 S
 refine (made_any w d bn G.vs.length n (dv G.fb S.dir) _ _ _ _ _ _ _ _ _ hd hm.2 (Ep _ _) (dv_ne hl) h.row (by rw [h.many]; omega) (Hr hn).2).mono ?_
 rintro e w' ⟨q,c,cf,cn,lv',rfl,r1,r2,r3,r4,r5,r6,r7,s1,s2,s3,s4,r8,r9⟩
 have hX : Chg F w w':=r9.mono fun k _ hk=>by
  rcases hk with rfl | rfl | hk
  ·exact h.inD
  ·exact hm.1
  ·exact h.rowF k hk.symm
 have hkl : ∀ i,S.known i→i≠S.files.length:=fun i hi e=>Nat.lt_irrefl _ (e ▸ h.ok.knownLt hi)
 have hll : ∀ i,S.live i→i≠S.files.length:=fun i hi=>hkl i (Or.inl hi)
 have hnd : S.files.length ∉ ids S.dir:=fun hi=>hll _ (Dx h.ok hi) rfl
 have hns : S.files.length ∉ ids S.sure:=fun hi=>Nat.lt_irrefl _ (h.ok.idS _ hi)
 have hrk : ∀ k,G.lv.ownBlock=some k→k≠bn:=fun k hk=>by
  obtain ⟨cur,hcur⟩:=A2 h.row hk
  exact hm.2.ne hcur
 have hXn : ∀ k o,w.heap[k]? = some o→tag o≠89→tag o≠100000→tag o≠111→¬ (k=d∨k=bn∨some k=G.lv.ownBlock):=by
  intro k o ho t1 t2 t3 e
  rcases e with rfl | rfl | e
  ·exact Ax ho h.disk t1 rfl
  ·obtain ⟨es,ck,hh,_⟩:=hm.2
   exact Ax ho hh t2 rfl
  ·obtain ⟨cur,hcur⟩:=A2 h.row e.symm
   exact Ax ho hcur t3 rfl
 have hsp : Dl w (fun k=>k=d∨k=bn∨some k=G.lv.ownBlock):=(D6 h.disk (by decide)).or ((Ka hm.2).or (Hc h.row (by decide)))
 have nd : ∀ k,w.heap.size≤k→w'.heap[k]? ≠ none→Fx F w w' k:=fun k hk hne=>Or.inr ⟨hk,by
  rcases Nat.lt_or_ge k w'.heap.size with h1 | h1
  ·exact h1
  ·exact absurd (Array.getElem?_eq_none h1) hne⟩
 have fq : Fx F w w' q:=nd q s1 (by rw [r3]; simp)
 refine ⟨{ G with fb:=upd G.fb S.files.length q,rv:=upd G.rv S.files.length (.slice none 0 0),sv:=upd G.sv S.files.length (.int .i64 0),lv:=lv',vs:=G.vs ++ [(.pointer none, .func (.func 161) #[] #[.pointer (some ⟨c,0,none⟩)])] },by show _=Ending.returned (.pointer (some ⟨upd G.fb S.files.length q S.files.length,0,none⟩)); rw [Ce],?_,hnow,hX⟩
 refine
  {
   ok:=h.ok.mk1 hl
   disk:=?_
   inD:=Or.inl h.inD
   roomy:=h.roomy
   cutv:=h.cutv
   now:=?_
   sure:=?_
   both:=h.both
   bare:=fun e=>by rw [show G.now=some bn from hnow] at e; cases e
   fails:=?_
   two:=h.two
   three:=h.three
   row:=?_
   rowF:=?_
   many:=?_
   acts:=?_
   files:=?_
   inj:=?_
   bytes:=?_
   apart:=?_ }
 ·rw [r1]
  unfold B9
  rw [used_mk1 h.ok n]
  show _=some (Obj.cells #[_,_, .map G.now,_,_,_,_,_,_] _)
  rw [hnow]
  rfl
 ·show Be w' _ G.now (dv (upd G.fb S.files.length q) (ins n S.files.length S.dir))
  rw [hnow]
  refine ⟨Or.inl hm.1,?_⟩
  have:=r2.perm ((by rw [dv_upd hnd] : ((Value.string (Ae n),Value.pointer (some ⟨q,0,none⟩)) :: dv G.fb S.dir).Perm ((.string (Ae n), .pointer (some ⟨q,0,none⟩)) :: dv (upd G.fb S.files.length q) S.dir)))
  have e:=dv_ins (upd G.fb S.files.length q) S.dir n S.files.length
  rw [Ce] at e
  exact this.perm e
 ·show Be w' _ G.sure (dv (upd G.fb S.files.length q) S.sure)
  rw [dv_upd hns]
  refine h.sure.keep r9 (fun b e hXb=>?_) (fun _ h=>Or.inl h)
  rcases hXb with e2 | e2 | e2
  ·exact h.ne_sure e e2.symm
  ·exact (h.two bn hnow).1 (e2 ▸ e)
  ·obtain ⟨cur,hcur⟩:=A2 h.row e2.symm
   have hs:=h.sure
   rw [e] at hs
   exact hs.2.ne hcur rfl
 ·obtain ⟨l,f1,f2⟩:=h.fails
  refine ⟨l,f1.keep r9 (fun b e hXb=>?_) (fun _ h=>Or.inl h),f2⟩
  rcases hXb with e2 | e2 | e2
  ·exact h.ne_fls e e2.symm
  ·exact (h.two bn hnow).2 (e2 ▸ e)
  ·obtain ⟨cur,hcur⟩:=A2 h.row e2.symm
   rw [e] at f1
   exact f1.2.ne hcur rfl
 ·show w'.ownsRow 0 _ 2 lv' (G.vs ++ [_]).length (vc (G.vs ++ [_]))
  rw [Kr,List.length_append]
  exact r4
 ·intro k hk
  have hk' : lv'.ownBlock=some k:=hk
  rcases r8 with e | ⟨x,e,hx⟩
  ·rw [e] at hk'
   exact Or.inl (h.rowF k hk')
  ·rw [e] at hk'
   injection hk' with hk'
   subst hk'
   exact nd x hx (by obtain ⟨cur,hcur⟩:=A2 r4 e; rw [hcur]; simp)
 ·show (G.vs ++ [_]).length=(S.acts ++ [_]).length
  rw [List.length_append,List.length_append,h.many]
  rfl
 ·intro j a p ha hp
  have ha' : (S.acts ++ [Ac.made n S.files.length])[j]? = some a:=ha
  have hp' : (G.vs ++ [_])[j]? = some p:=hp
  rcases Nat.lt_or_ge j S.acts.length with hj | hj
  ·rw [List.getElem?_append_left hj] at ha'
   rw [List.getElem?_append_left (by rw [h.many]; exact hj)] at hp'
   refine (h.acts j a p ha' hp').keep r9 (fun c x t h1 h2 _=>hsp c x t h1 h2) (fun _ h=>Or.inl h) (fun i hi=>Bq _ _ ?_)
   have hm1:=List.mem_of_getElem? ha'
   refine hkl i ?_
   rcases List.mem_append.1 hi with h1 | h1
   ·refine Or.inl (Or.inr ?_)
    unfold A4 at h1 ⊢
    obtain ⟨x,hx,e⟩:=List.mem_filterMap.1 h1
    exact List.mem_filterMap.2 ⟨x,by simp at hx; subst hx; exact hm1,e⟩
   ·refine Or.inr ?_
    unfold Br at h1 ⊢
    obtain ⟨x,hx,e⟩:=List.mem_filterMap.1 h1
    exact List.mem_filterMap.2 ⟨x,by simp at hx; subst hx; exact hm1,e⟩
  ·have hj' : j=S.acts.length:=by
    have:=(List.getElem?_eq_some_iff.1 ha').1
    simp at this
    omega
   subst hj'
   rw [List.getElem?_append_right (Nat.le_refl _)] at ha'
   rw [← h.many,List.getElem?_append_right (Nat.le_refl _)] at hp'
   simp at ha' hp'
   subst ha' hp'
   refine ⟨rfl,c,_,rfl,nd c s2 (by rw [r5]; simp),r5,cf,cn,rfl,nd cf s3 (by rw [r6]; simp),nd cn s4 (by rw [r7]; simp),?_,r7⟩
   show w'.heap[cf]? = some (.cells #[.pointer (some ⟨upd G.fb S.files.length q S.files.length,0,none⟩)] _)
   rw [Ce]
   exact r6
 ·intro i hi
  rcases Kf.1 hi with hi | rfl
  ·have hne:=hkl i hi
   show Fx F w w' (upd G.fb _ q i)∧w'.heap[upd G.fb _ q i]? = some (.cells #[upd G.rv _ _ i,upd G.sv _ _ i,_] _)
   rw [Bq _ _ hne,Bq _ _ hne,Bq _ _ hne]
   obtain ⟨f1,f2⟩:=h.files i hi
   refine ⟨Or.inl f1,?_⟩
   rw [show decide (i∈ids (S.mk1 n).dir)=decide (i∈ids S.dir) by rw [decide_eq_decide,ids_mk1]; simp [hne]]
   exact r9.keep f2 (hXn _ _ f2 (by simp [tag]) (by simp [tag]) (by simp [tag]))
  ·show Fx F w w' (upd G.fb _ q _)∧w'.heap[upd G.fb _ q _]? = some (.cells #[upd G.rv _ _ _,upd G.sv _ _ _,_] _)
   rw [Ce,Ce,Ce]
   refine ⟨fq,?_⟩
   rw [show decide (S.files.length∈ids (S.mk1 n).dir)=true by rw [decide_eq_true_eq,ids_mk1]; exact Or.inl rfl]
   exact r3
 ·intro i j hi hj e
  have e' : upd G.fb S.files.length q i=upd G.fb S.files.length q j:=e
  have old : ∀ i,S.known i→G.fb i<w.heap.size:=fun i hi=>At (h.files i hi).2
  rcases Kf.1 hi with hi | rfl <;> rcases Kf.1 hj with hj | rfl
  ·rw [Bq _ _ (hkl i hi),Bq _ _ (hkl j hj)] at e'
   exact h.inj i j hi hj e'
  ·rw [Bq _ _ (hkl i hi),Ce] at e'
   have:=old i hi
   omega
  ·rw [Bq _ _ (hkl j hj),Ce] at e'
   have:=old j hj
   omega
  ·rfl
 ·intro i f hi hf
  have hf' : (S.files ++ [⟨[],0⟩])[i]? = some f:=hf
  show upd G.sv _ _ i=_∧w'.ownsRow 0 _ 1 (upd G.rv _ _ i) _ _∧∀ k,(upd G.rv _ _ i).ownBlock=some k→_
  rcases Ll.1 hi with hi | rfl
  ·rw [Bq _ _ (hll i hi),Bq _ _ (hll i hi)]
   rw [List.getElem?_append_left (h.ok.liveLt hi)] at hf'
   obtain ⟨b1,b2,b3⟩:=h.bytes i f hi hf'
   refine ⟨b1,A3 b2 r9 (fun k hk=>?_),fun k hk=>Or.inl (b3 k hk)⟩
   obtain ⟨cur,hcur⟩:=A2 b2 hk
   exact hXn k _ hcur (show 5≠89 by decide) (show 5≠100000 by decide) (show 5≠111 by decide)
  ·rw [Ce,Ce]
   simp at hf'
   subst hf'
   exact ⟨rfl,World.ownsRow_nil _ _ _ _,fun k hk=>by cases hk⟩
 ·intro i j k hi hj e1 e2
  have e1' : (upd G.rv S.files.length (.slice none 0 0) i).ownBlock=some k:=e1
  have e2' : (upd G.rv S.files.length (.slice none 0 0) j).ownBlock=some k:=e2
  rcases Ll.1 hi with hi | rfl
  ·rcases Ll.1 hj with hj | rfl
   ·rw [Bq _ _ (hll i hi)] at e1'
    rw [Bq _ _ (hll j hj)] at e2'
    exact h.apart i j k hi hj e1' e2'
   ·rw [Ce] at e2'
    cases e2'
  ·rw [Ce] at e1'
   cases e1'
theorem Od {files : List Fl} {f i : Nat} {g : Fl→Fl} : Az (files.modify f g) i=if i=f then ((files[f]?).map (fun x=>(g x).b.length)).getD 0 else Az files i:=by
 unfold Az
 rw [List.getElem?_modify]
 by_cases h : f=i
 ·subst h
  rw [if_pos rfl]
  cases files[f]? <;> simp
 ·rw [if_neg (fun e=>h e.symm)]
  simp [h]
theorem Lx {files : List Fl} {l : Dir} {f : Nat} {g : Fl→Fl} {x : Fl} (hn : (ids l).Nodup) (hf : f∈ids l) (hx : files[f]? = some x) : A1 (files.modify f g) l+x.b.length=A1 files l+(g x).b.length:=by
 induction l with
 | nil=>simp [ids] at hf
 | cons p r ih=>
  have hn' : p.2 ∉ ids r∧(ids r).Nodup:=List.nodup_cons.1 hn
  have e1 : A1 (files.modify f g) (p :: r)=Az (files.modify f g) p.2+A1 (files.modify f g) r:=by simp [A1]
  have e2 : A1 files (p :: r)=Az files p.2+A1 files r:=by simp [A1]
  rw [e1,e2,Od]
  by_cases h : p.2=f
  ·have e3 : A1 (files.modify f g) r=A1 files r:=by
    unfold A1
    congr 1
    refine List.map_congr_left fun q hq=>?_
    rw [Od,if_neg]
    intro e
    exact hn'.1 (List.mem_map.2 ⟨q,hq,e.trans h.symm⟩)
   rw [if_pos h,e3,hx]
   have e4 : Az files p.2=x.b.length:=by rw [h]; simp [Az,hx]
   rw [e4]
   simp
   omega
  ·have hf' : f∈ids r:=by
    rcases List.mem_cons.1 hf with e | e
    ·exact absurd e.symm h
    ·exact e
   have:=ih hn'.2 hf'
   rw [if_neg h]
   omega
theorem used_ext {S : Dk} (h : Ok S) {f : Nat} (hf : f∈ids S.dir) (b : List UInt8) : (S.ext f b).used=S.used+b.length:=by
 obtain ⟨x,hx⟩ : ∃ x,S.files[f]? = some x:=⟨_,List.getElem?_eq_getElem (h.idD hf)⟩
 have:=Lx (g:=fun x=>{ x with b:=x.b++b }) h.oneD hf hx
 unfold Dk.used
 show A1 (S.files.modify f _) S.dir=_
 simp only [List.length_append] at this
 omega
theorem I1 {S : Dk} {f : Nat} {b : List UInt8} {i : Nat} : (S.ext f b).live i↔S.live i:=by
 unfold Dk.live Dk.ext
 simp only [Ek,List.mem_append]
 have e1 : A4 [Ac.more f b.length] = []:=rfl
 rw [e1]
 simp
theorem known_ext {S : Dk} {f : Nat} {b : List UInt8} {i : Nat} : (S.ext f b).known i↔S.known i∨i=f:=by
 unfold Dk.known
 rw [I1]
 unfold Dk.ext
 simp only [Gu,List.mem_append]
 have e1 : Br [Ac.more f b.length] = [f]:=rfl
 rw [e1]
 simp
 constructor
 ·rintro (h | h | h)
  ·exact Or.inl (Or.inl h)
  ·exact Or.inl (Or.inr h)
  ·exact Or.inr h
 ·rintro ((h | h) | h)
  ·exact Or.inl h
  ·exact Or.inr (Or.inl h)
  ·exact Or.inr (Or.inr h)
theorem Ou (h : Rep w F d S G) {f : Nat} (hf : f∈ids S.dir) {v : Value} {b : List UInt8} (hv : Sl w v b) (hne : b ≠ []) (hb : S.bulk+b.length<1099511627776) :
  Calls Tryz.prog 143 #[.pointer (some ⟨d,0,none⟩), .pointer (some ⟨G.fb f,0,none⟩),v] w fun e w'=>∃ G',e = .returned (.tuple #[])∧Rep w' (Fx F w w') d (S.ext f b) G'∧G'.now=G.now∧Chg F w w':=by
 have hlf:=Dx h.ok hf
 obtain ⟨x,hx⟩ : ∃ x,S.files[f]? = some x:=⟨_,List.getElem?_eq_getElem (h.ok.idD hf)⟩
 obtain ⟨b1,b2,b3⟩:=h.bytes f x hlf hx
 obtain ⟨f1,f2⟩:=h.files f (Or.inl hlf)
 have hd:=h.disk
 unfold B9 at hd
 have hal:=E3 S
 have hul:=Em h.ok
 have hfl:=G7 hx
 refine (extend_any w d (G.fb f) G.vs.length x.b b _ _ _ _ _ _ _ _ _ _ _ v (S.used : Int) _ hd f2 b2 h.row hv hne (by rw [h.many]; omega) (by omega) (by omega) (by omega)).mono ?_
 rintro e w' ⟨rfl,bv',lv',cf,ck,r1,r2,r3,r4,r5,r6,s1,s2,r7,r8,r9⟩
 have hX : Chg F w w':=r9.mono fun k _ hk=>by
  rcases hk with rfl | rfl | hk | hk
  ·exact h.inD
  ·exact f1
  ·exact b3 k hk.symm
  ·exact h.rowF k hk.symm
 have hXn : ∀ k o,w.heap[k]? = some o→tag o≠89→tag o≠118→tag o≠5→tag o≠111→¬ (k=d∨k=G.fb f∨some k=(G.rv f).ownBlock∨some k=G.lv.ownBlock):=by
  intro k o ho t1 t2 t3 t4 e
  rcases e with rfl | rfl | e | e
  ·exact Ax ho h.disk t1 rfl
  ·exact Ax ho f2 t2 rfl
  ·obtain ⟨cur,hcur⟩:=A2 b2 e.symm
   exact Ax ho hcur t3 rfl
  ·obtain ⟨cur,hcur⟩:=A2 h.row e.symm
   exact Ax ho hcur t4 rfl
 have hsp : Dl w (fun k=>k=d∨k=G.fb f∨some k=(G.rv f).ownBlock∨some k=G.lv.ownBlock):=
  (D6 h.disk (by decide)).or ((D6 f2 (by decide)).or ((Hc b2 (by decide)).or (Hc h.row (by decide))))
 have nd : ∀ k,w.heap.size≤k→w'.heap[k]? ≠ none→Fx F w w' k:=fun k hk hne=>Or.inr ⟨hk,by
  rcases Nat.lt_or_ge k w'.heap.size with h1 | h1
  ·exact h1
  ·exact absurd (Array.getElem?_eq_none h1) hne⟩
 have hkn : ∀ i,(S.ext f b).known i↔S.known i:=fun i=>by
  rw [known_ext]
  constructor
  ·rintro (h | rfl)
   ·exact h
   ·exact Or.inl hlf
  ·exact Or.inl
 have hmapn : ∀ {o : Option Nat} {l : List (Value × Value)},Be w F o l→Be w' (Fx F w w') o l:=fun {o l} hm=>hm.keep r9 (fun c e=>by
  rw [e] at hm
  obtain ⟨es,ck,hh,_⟩:=hm.2
  exact hXn c _ hh (show (100000 : Nat)≠89 by decide) (show (100000 : Nat)≠118 by decide) (show (100000 : Nat)≠5 by decide) (show (100000 : Nat)≠111 by decide)) (fun _ h=>Or.inl h)
 have hrow8 : ∀ k,lv'.ownBlock=some k→Fx F w w' k:=fun k hk=>by
  rcases r8 with e | ⟨x,e,hx⟩
  ·rw [e] at hk
   exact Or.inl (h.rowF k hk)
  ·rw [e] at hk
   injection hk with hk
   subst hk
   exact nd x hx (by obtain ⟨cur,hcur⟩:=A2 r4 e; rw [hcur]; simp)
 have hrow7 : ∀ k,bv'.ownBlock=some k→Fx F w w' k:=fun k hk=>by
  rcases r7 with e | ⟨x,e,hx⟩
  ·rw [e] at hk
   exact Or.inl (b3 k hk)
  ·rw [e] at hk
   injection hk with hk
   subst hk
   exact nd x hx (by obtain ⟨cur,hcur⟩:=A2 r3 e; rw [hcur]; simp)
 refine ⟨{ G with rv:=upd G.rv f bv',lv:=lv',vs:=G.vs ++ [(.pointer (some ⟨G.fb f,0,none⟩), .func (.func 159) #[] #[.pointer (some ⟨cf,0,none⟩), .pointer (some ⟨ck,0,none⟩)])] },rfl,?_,rfl,hX⟩
 refine
  {
   ok:=h.ok.ext (h.ok.idD hf) b
   disk:=?_
   inD:=Or.inl h.inD
   roomy:=h.roomy
   cutv:=h.cutv
   now:=hmapn h.now
   sure:=hmapn h.sure
   both:=h.both
   bare:=fun e=>?_
   fails:=?_
   two:=h.two
   three:=h.three
   row:=?_
   rowF:=hrow8
   many:=?_
   acts:=?_
   files:=?_
   inj:=fun i j hi hj e=>h.inj i j ((hkn i).1 hi) ((hkn j).1 hj) e
   bytes:=?_
   apart:=?_ }
 ·rw [r1]
  unfold B9
  rw [used_ext h.ok hf b]
  show _=some (Obj.cells #[_,Value.int .i64 ((S.used+b.length : Nat) : Int),_,_,_,_,_,_,_] _)
  rw [show ((S.used+b.length : Nat) : Int)=(S.used : Int)+b.length by omega]
  rfl
 ·exfalso
  have e' : G.now=none:=e
  have hnow:=h.now
  rw [e'] at hnow
  have : S.dir = []:=by simpa [Be,dv] using hnow
  rw [this] at hf
  simp [ids] at hf
 ·obtain ⟨l,g1,g2⟩:=h.fails
  exact ⟨l,hmapn g1,g2⟩
 ·show w'.ownsRow 0 _ 2 lv' (G.vs ++ [_]).length (vc (G.vs ++ [_]))
  rw [Kr,List.length_append]
  exact r4
 ·show (G.vs ++ [_]).length=(S.acts ++ [_]).length
  rw [List.length_append,List.length_append,h.many]
  rfl
 ·intro j a p ha hp
  have ha' : (S.acts ++ [Ac.more f b.length])[j]? = some a:=ha
  have hp' : (G.vs ++ [_])[j]? = some p:=hp
  rcases Nat.lt_or_ge j S.acts.length with hj | hj
  ·rw [List.getElem?_append_left hj] at ha'
   rw [List.getElem?_append_left (by rw [h.many]; exact hj)] at hp'
   exact (h.acts j a p ha' hp').keep r9 (fun c x t h1 h2 _=>hsp c x t h1 h2) (fun _ h=>Or.inl h) (fun i hi=>rfl)
  ·have hj' : j=S.acts.length:=by
    have:=(List.getElem?_eq_some_iff.1 ha').1
    simp at this
    omega
   subst hj'
   rw [List.getElem?_append_right (Nat.le_refl _)] at ha'
   rw [← h.many,List.getElem?_append_right (Nat.le_refl _)] at hp'
   simp at ha' hp'
   subst ha' hp'
   exact ⟨rfl,cf,ck,rfl,nd cf s1 (by rw [r5]; simp),nd ck s2 (by rw [r6]; simp),r5,r6⟩
 ·intro i hi
  have hi':=(hkn i).1 hi
  obtain ⟨g1,g2⟩:=h.files i hi'
  refine ⟨Or.inl g1,?_⟩
  show w'.heap[G.fb i]? = some (.cells #[upd G.rv f bv' i,G.sv i, .bool (decide (i∈ids S.dir))] _)
  by_cases e : i=f
  ·subst e
   rw [Ce]
   exact r2
  ·rw [Bq _ _ e]
   refine r9.keep g2 (fun hXb=>?_)
   rcases hXb with e2 | e2 | e2 | e2
   ·exact h.ne_file hi' e2.symm
   ·exact e (h.inj i f hi' (Or.inl hlf) e2)
   ·obtain ⟨cur,hcur⟩:=A2 b2 e2.symm
    exact Ax g2 hcur (show 118≠5 by decide) rfl
   ·obtain ⟨cur,hcur⟩:=A2 h.row e2.symm
    exact Ax g2 hcur (show 118≠111 by decide) rfl
 ·intro i y hi hy
  have hi':=I1.1 hi
  show G.sv i=_∧w'.ownsRow 0 _ 1 (upd G.rv f bv' i) _ _∧∀ k,(upd G.rv f bv' i).ownBlock=some k→_
  rcases G4 hy with ⟨hne2,hy'⟩ | ⟨rfl,y',hy',rfl⟩
  ·rw [Bq _ _ hne2]
   obtain ⟨c1,c2,c3⟩:=h.bytes i y hi' hy'
   refine ⟨c1,A3 c2 r9 (fun k hk hXb=>?_),fun k hk=>Or.inl (c3 k hk)⟩
   obtain ⟨cur,hcur⟩:=A2 c2 hk
   rcases hXb with e2 | e2 | e2 | e2
   ·exact Ax hcur h.disk (show 5≠89 by decide) e2
   ·exact Ax hcur f2 (show 5≠118 by decide) e2
   ·exact hne2 (h.apart i f k hi' hlf hk e2.symm)
   ·obtain ⟨cur2,hcur2⟩:=A2 h.row e2.symm
    exact Ax hcur hcur2 (show 5≠111 by decide) rfl
  ·rw [hx] at hy'
   injection hy' with hy'
   subst hy'
   rw [Ce]
   exact ⟨b1,r3,hrow7⟩
 ·intro i j k hi hj e1 e2
  have hi':=I1.1 hi
  have hj':=I1.1 hj
  have e1' : (upd G.rv f bv' i).ownBlock=some k:=e1
  have e2' : (upd G.rv f bv' j).ownBlock=some k:=e2
  have other : ∀ i,S.live i→i≠f→(G.rv i).ownBlock=some k→bv'.ownBlock≠some k:=by
   intro i hi hne2 hk hk2
   rcases r7 with e | ⟨q,e,hq⟩
   ·rw [e] at hk2
    exact hne2 (h.apart i f k hi hlf hk hk2)
   ·rw [e] at hk2
    injection hk2 with hk2
    subst hk2
    obtain ⟨y,hy⟩ : ∃ y,S.files[i]? = some y:=⟨_,List.getElem?_eq_getElem (h.ok.liveLt hi)⟩
    have:=((h.bytes i y hi hy).2.1.lt q hk).2
    omega
  by_cases ei : i=f <;> by_cases ej : j=f
  ·rw [ei,ej]
  ·subst ei
   rw [Ce] at e1'
   rw [Bq _ _ ej] at e2'
   exact absurd e1' (other j hj' ej e2')
  ·subst ej
   rw [Ce] at e2'
   rw [Bq _ _ ei] at e1'
   exact absurd e2' (other i hi' ei e1')
  ·rw [Bq _ _ ei] at e1'
   rw [Bq _ _ ej] at e2'
   exact h.apart i j k hi' hj' e1' e2'
end
end Go.Proofs.YtblniomnhpedjaaGreatDoor
namespace Go.Proofs.YtblniomnhpedjaaGreatDoor
open Go.RowKit
section
variable {w w' : World} {F : Nat→Prop} {d : Nat} {S : Dk} {G : Gh}
theorem Ic (S : Dk) : S.next.bulk=S.bulk+1:=by unfold Dk.bulk Dk.next; simp only; omega
theorem bulk_mk1 (S : Dk) (n : Nm) : (S.mk1 n).bulk=S.bulk+2:=by unfold Dk.bulk Dk.mk1; simp; omega
theorem Fx.trans {F : Nat→Prop} {w w1 w2 : World} (h1 : w.heap.size≤w1.heap.size) (h2 : w1.heap.size≤w2.heap.size) : ∀ k,Fx (Fx F w w1) w1 w2 k→Fx F w w2 k:=by
 intro k h
 rcases h with (h | ⟨a,b⟩) | ⟨a,b⟩
 ·exact Or.inl h
 ·exact Or.inr ⟨a,by omega⟩
 ·exact Or.inr ⟨by omega,b⟩
theorem Chg.fx {F : Nat→Prop} {w w1 w2 : World} (h1 : Chg F w w1) (h2 : Chg (Fx F w w1) w1 w2) : Chg F w w2:=
 h1.trans h2 (fun i hi h=>by
  rcases h with h | ⟨a,_⟩
  ·exact h
  ·omega)
set_option maxRecDepth 20000 in
theorem append_off (h : Rep w F d S G) (hon : S.on=false) (n : Nm) (v : Value) : Calls Tryz.prog 120 #[.pointer (some ⟨d,0,none⟩), .string (Ae n),v] w fun e w'=>e = .returned (.int .i64 35)∧Rep w' F d S G∧Chg (fun _=>False) w w':=by
 have hbeg:=Jz h hon
 go_enter Tryz.func120,Tryz.ntmps120
 go_wp2_with (go_at_call 140; refine hbeg.mono ?_; rintro e w1 ⟨rfl,hr1,hc1⟩)
 go_ret
 exact ⟨rfl,hr1,hc1⟩
set_option maxRecDepth 20000 in
theorem append_name (h : Rep w F d S G) (hon : S.on=true) (hb : S.n<4611686018427387904) (n : Nm) (hn : Ap n=false) (v : Value) : Calls Tryz.prog 120 #[.pointer (some ⟨d,0,none⟩), .string (Ae n),v] w fun e w'=>e = .returned (.int .i64 30) ∧
  ∃ G',Rep w' (Fx F w w') d S.next G'∧Chg F w w':=by
 have hbeg:=Dn h hon hb
 have hnm:=fun W=>Dr W n
 rw [hn] at hnm
 go_enter Tryz.func120,Tryz.ntmps120
 go_wp2_with (first
  | (go_at_call 140; refine hbeg.mono ?_; rintro e w1 ⟨rfl,now,sure,hne,hr1,hc1⟩)
  | (go_at_call 141; refine (hnm _).mono ?_; rintro e w2 ⟨rfl,rfl⟩))
 go_ret
 exact ⟨rfl,_,hr1,hc1⟩
set_option maxRecDepth 20000 in
theorem append_full (h : Rep w F d S G) (hon : S.on=true) (n : Nm) (hn : Ap n=true) {v : Value} {b : List UInt8} (hb : S.bulk+b.length<1099511627776) (hv : Sl w v b) (hne : b ≠ []) (hfull : S.room<S.used+b.length) : Calls Tryz.prog 120 #[.pointer (some ⟨d,0,none⟩), .string (Ae n),v] w fun e w'=>e = .returned (.int .i64 33) ∧
  ∃ G',Rep w' (Fx F w w') d S.next G'∧Chg F w w':=by
 have hnl:=n_le S
 have hul:=Em h.ok
 have hbeg:=Dn h hon (by omega)
 have hnm:=fun W=>Dr W n
 rw [hn] at hnm
 obtain ⟨vb,vo,cap,rfl,hlt,hcell⟩:=hv.some hne
 have hpos : 0<b.length:=List.length_pos_iff.2 hne
 have hg : decide ((0 : Int)<(b.length : Int))=true:=by simpa using hpos
 clear hcell hv
 go_enter Tryz.func120,Tryz.ntmps120
 go_wp2_with (first
  | (go_at_call 140; refine hbeg.mono ?_; rintro e w1 ⟨rfl,now,sure,hne,hr1,hc1⟩)
  | (go_at_call 141; refine (hnm _).mono ?_; rintro e w2 ⟨rfl,rfl⟩))
 have hrm:=h.roomy
 have hd1:=hr1.disk
 rw [Db] at hd1
 have x0:=Ad hd1 0
 have x1:=Ad hd1 1
 go_quiet (fail)
 go_wp2
 go_ret
 exact ⟨rfl,_,(hr1.keep ((Chg.refl (fun _=>False) _).drewN _) (fun _ _ h=>h) (fun _ h=>h)),hc1.drewN _⟩
set_option maxRecDepth 20000 in
set_option maxHeartbeats 400000 in
theorem Qe (h : Rep w F d S G) (hon : S.on=true) (n : Nm) (hn : Ap n=true) {v : Value} {b : List UInt8} (hb : S.bulk+b.length<1099511627776) (hv : Sl w v b) (hne : b ≠ []) (hroom : S.used+b.length≤S.room) (hfl : S.fails S.n=true) : Calls Tryz.prog 120 #[.pointer (some ⟨d,0,none⟩), .string (Ae n),v] w fun e w'=>e = .returned (.int .i64 34) ∧
  ∃ G',Rep w' (Fx F w w') d S.next G'∧Chg F w w':=by
 have hnl:=n_le S
 have hul:=Em h.ok
 have hbeg:=Dn h hon (by omega)
 rw [hfl] at hbeg
 have hnm:=fun W=>Dr W n
 rw [hn] at hnm
 have hv0:=hv
 obtain ⟨vb,vo,cap,rfl,hlt,hcell⟩:=hv.some hne
 have hpos : 0<b.length:=List.length_pos_iff.2 hne
 have hg : decide ((0 : Int)<(b.length : Int))=true:=by simpa using hpos
 have hrm:=h.roomy
 have HV:=Ab hv0
 clear hcell hv hv0
 go_enter Tryz.func120,Tryz.ntmps120
 go_wp2_with (first
  | (go_at_call 140; refine hbeg.mono ?_; rintro e w1 ⟨rfl,now,sure,hnn,hr1,hc1⟩)
  | (go_at_call 141; refine (hnm _).mono ?_; rintro e w2 ⟨rfl,rfl⟩))
 have hd1:=hr1.disk
 rw [Db] at hd1
 have x0:=Ad hd1 0
 have x1:=Ad hd1 1
 go_quiet (fail)
 go_wp2
 go_ret
 exact ⟨rfl,_,(hr1.keep ((Chg.refl (fun _=>False) _).drewN _) (fun _ _ h=>h) (fun _ h=>h)),hc1.drewN _⟩
set_option maxRecDepth 20000 in
set_option maxHeartbeats 400000 in
theorem P8 (h : Rep w F d S G) (hon : S.on=true) (n : Nm) (hn : Ap n=true) (hb : S.bulk<1099511627776) (ao : Option Addr) (cap : Nat) (hfl : S.fails S.n=true) : Calls Tryz.prog 120 #[.pointer (some ⟨d,0,none⟩), .string (Ae n), .slice ao 0 cap] w fun e w'=>e = .returned (.int .i64 34) ∧
  ∃ G',Rep w' (Fx F w w') d S.next G'∧Chg F w w':=by
 have hnl:=n_le S
 have hbeg:=Dn h hon (by omega)
 rw [hfl] at hbeg
 have hnm:=fun W=>Dr W n
 rw [hn] at hnm
 go_enter Tryz.func120,Tryz.ntmps120
 go_wp2_with (first
  | (go_at_call 140; refine hbeg.mono ?_; rintro e w1 ⟨rfl,now,sure,hnn,hr1,hc1⟩)
  | (go_at_call 141; refine (hnm _).mono ?_; rintro e w2 ⟨rfl,rfl⟩))
 have hd1:=hr1.disk
 rw [Db] at hd1
 have x0:=Ad hd1 0
 have x1:=Ad hd1 1
 go_quiet (fail)
 go_wp2
 go_ret
 exact ⟨rfl,_,(hr1.keep ((Chg.refl (fun _=>False) _).drewN _) (fun _ _ h=>h) (fun _ h=>h)),hc1.drewN _⟩
theorem Eb {w : World} {F : Nat→Prop} {d : Nat} {S : Dk} {G : Gh} (h : Rep w F d S G) {bn : Nat} (hn : G.now=some bn) (n : Nm) :
  (Instr.lookup 85 (.map (some bn)) (.string (Ae n)) false).run Tryz.prog w = .ok (pv G.fb (look S.dir n)) w:=by
 have:=h.now
 rw [hn] at this
 exact dir_look this.2 h.ok.sortD n
set_option maxRecDepth 20000 in
set_option maxHeartbeats 400000 in
theorem Qo (h : Rep w F d S G) (hon : S.on=true) (n : Nm) (hn : Ap n=true) (hb : S.bulk<1099511627776) (ao : Option Addr) (cap : Nat) (hfl : S.fails S.n=false) {f : Nat} (hl : look S.dir n=some f) : Calls Tryz.prog 120 #[.pointer (some ⟨d,0,none⟩), .string (Ae n), .slice ao 0 cap] w fun e w'=>e = .returned (.int .i64 0) ∧
  ∃ G',Rep w' (Fx F w w') d S.next G'∧Chg F w w':=by
 have hnl:=n_le S
 have hbeg:=Dn h hon (by omega)
 rw [hfl] at hbeg
 have hnm:=fun W=>Dr W n
 rw [hn] at hnm
 go_enter Tryz.func120,Tryz.ntmps120
 go_wp2_with (first
  | (go_at_call 140; refine hbeg.mono ?_; rintro e w1 ⟨rfl,now,sure,hnn,hr1,hc1⟩)
  | (go_at_call 141; refine (hnm _).mono ?_; rintro e w2 ⟨rfl,rfl⟩))
 have hd1:=hr1.disk
 rw [Db] at hd1
 have x0:=Ad hd1 0
 have x1:=Ad hd1 1
 obtain ⟨bn,rfl⟩:=Option.ne_none_iff_exists'.1 hnn
 go_quiet (fail)
 have hr2:=hr1.keep (F':=Fx F w w2) ((Chg.refl (fun _=>False) w2).drewN nq) (fun _ _ h=>h) (fun _ h=>h)
 have hc2 : Chg F w (w2.drewN nq):=hc1.drewN _
 have hsz : (w2.drewN nq).heap.size=w2.heap.size:=rfl
 generalize w2.drewN nq=W at hr2 hc2 hsz ⊢
 have hd2:=hr2.disk
 rw [Db] at hd2
 have y2:=Ad hd2 2
 have hlk:=Eb hr2 rfl n
 rw [show look S.next.dir n=some f from hl] at hlk
 have hlk' : (Instr.lookup 85 (.map (some bn)) (.string (Ae n)) false).run Tryz.prog W = .ok (.pointer (some ⟨G.fb f,0,none⟩)) W:=hlk
 clear hlk
 go_wp2
 go_ret
 exact ⟨rfl,_,hr2.mono (fun k hk=>by
  rcases hk with h | h
  ·exact Or.inl h
  ·exact Or.inr (by rw [hsz]; exact h)),hc2⟩
set_option maxRecDepth 20000 in
set_option maxHeartbeats 400000 in
theorem Qf (h : Rep w F d S G) (hon : S.on=true) (n : Nm) (hn : Ap n=true) (hb : S.bulk+3<1099511627776) (ao : Option Addr) (cap : Nat) (hfl : S.fails S.n=false) (hl : look S.dir n=none) : Calls Tryz.prog 120 #[.pointer (some ⟨d,0,none⟩), .string (Ae n), .slice ao 0 cap] w fun e w'=>e = .returned (.int .i64 0) ∧
  ∃ G',Rep w' (Fx F w w') d (S.next.mk1 n) G'∧Chg F w w':=by
 have hnl:=n_le S
 have hbeg:=Dn h hon (by omega)
 rw [hfl] at hbeg
 have hnm:=fun W=>Dr W n
 rw [hn] at hnm
 go_enter Tryz.func120,Tryz.ntmps120
 go_wp2_with (first
  | (go_at_call 140; refine hbeg.mono ?_; rintro e w1 ⟨rfl,now,sure,hnn,hr1,hc1⟩)
  | (go_at_call 141; refine (hnm _).mono ?_; rintro e w2 ⟨rfl,rfl⟩))
 have hd1:=hr1.disk
 rw [Db] at hd1
 have x0:=Ad hd1 0
 have x1:=Ad hd1 1
 obtain ⟨bn,rfl⟩:=Option.ne_none_iff_exists'.1 hnn
 go_quiet (fail)
 have hr2:=hr1.keep (F':=Fx F w w2) ((Chg.refl (fun _=>False) w2).drewN nq) (fun _ _ h=>h) (fun _ h=>h)
 have hc2 : Chg F w (w2.drewN nq):=hc1.drewN _
 have hsz : (w2.drewN nq).heap.size=w2.heap.size:=rfl
 generalize w2.drewN nq=W at hr2 hc2 hsz ⊢
 have hr2 : Rep W (Fx F w W) d S.next { G with now:=some bn,sure:=sure }:=hr2.mono (fun k hk=>by
  rcases hk with h | h
  ·exact Or.inl h
  ·exact Or.inr (by rw [hsz]; exact h))
 clear hsz hd1 x0 x1 hr1 hc1
 have hd2:=hr2.disk
 rw [Db] at hd2
 have y2:=Ad hd2 2
 have hlk:=Eb hr2 rfl n
 have hbk:=Ic S
 rw [show look S.next.dir n=none from hl] at hlk
 have hlk' : (Instr.lookup 85 (.map (some bn)) (.string (Ae n)) false).run Tryz.prog W = .ok (.pointer none) W:=hlk
 clear hlk
 have hmk:=made_rep hr2 rfl (show look S.next.dir n=none from hl) hn (by omega)
 go_wp2_with (go_at_call 142; refine hmk.mono ?_; rintro e w3 ⟨G',rfl,hr3,hn3,hc3⟩)
 go_ret
 exact ⟨rfl,G',hr3.mono (Fx.trans hc2.size hc3.size),hc2.fx hc3⟩
set_option maxRecDepth 20000 in
set_option maxHeartbeats 400000 in
theorem Qk (h : Rep w F d S G) (hon : S.on=true) (n : Nm) (hn : Ap n=true) {v : Value} {b : List UInt8} (hb : S.bulk+b.length+3<1099511627776) (hv : Sl w v b) (hvF : ∀ g,v.ownBlock=some g→¬ F g) (hne : b ≠ []) (hroom : S.used+b.length≤S.room) (hfl : S.fails S.n=false) {f : Nat} (hl : look S.dir n=some f) : Calls Tryz.prog 120 #[.pointer (some ⟨d,0,none⟩), .string (Ae n),v] w fun e w'=>e = .returned (.int .i64 0) ∧
  ∃ G',Rep w' (Fx F w w') d (S.next.ext f b) G'∧Chg F w w':=by
 have hnl:=n_le S
 have hul:=Em h.ok
 have hbeg:=Dn h hon (by omega)
 rw [hfl] at hbeg
 have hnm:=fun W=>Dr W n
 rw [hn] at hnm
 have hv0:=hv
 obtain ⟨vb,vo,cap,rfl,hlt,hcell⟩:=hv.some hne
 have hpos : 0<b.length:=List.length_pos_iff.2 hne
 have hg : decide ((0 : Int)<(b.length : Int))=true:=by simpa using hpos
 have hrm:=h.roomy
 have HV:=Ab hv0
 have HVF:=Ab hvF
 clear hcell hv hv0 hvF
 go_enter Tryz.func120,Tryz.ntmps120
 go_wp2_with (first
  | (go_at_call 140; refine hbeg.mono ?_; rintro e w1 ⟨rfl,now,sure,hnn,hr1,hc1⟩)
  | (go_at_call 141; refine (hnm _).mono ?_; rintro e w2 ⟨rfl,rfl⟩))
 have hd1:=hr1.disk
 rw [Db] at hd1
 have x0:=Ad hd1 0
 have x1:=Ad hd1 1
 obtain ⟨bn,rfl⟩:=Option.ne_none_iff_exists'.1 hnn
 go_quiet (fail)
 have hr2:=hr1.keep (F':=Fx F w w2) ((Chg.refl (fun _=>False) w2).drewN nq) (fun _ _ h=>h) (fun _ h=>h)
 have hc2 : Chg F w (w2.drewN nq):=hc1.drewN _
 have hsz : (w2.drewN nq).heap.size=w2.heap.size:=rfl
 generalize w2.drewN nq=W at hr2 hc2 hsz ⊢
 have hr2 : Rep W (Fx F w W) d S.next { G with now:=some bn,sure:=sure }:=hr2.mono (fun k hk=>by
  rcases hk with h | h
  ·exact Or.inl h
  ·exact Or.inr (by rw [hsz]; exact h))
 clear hsz hd1 x0 x1 hr1 hc1
 have hd2:=hr2.disk
 rw [Db] at hd2
 have y2:=Ad hd2 2
 have hlk:=Eb hr2 rfl n
 have hbk:=Ic S
 rw [show look S.next.dir n=some f from hl] at hlk
 have hlk' : (Instr.lookup 85 (.map (some bn)) (.string (Ae n)) false).run Tryz.prog W = .ok (.pointer (some ⟨G.fb f,0,none⟩)) W:=hlk
 clear hlk
 have hex:=Ou hr2 (f:=f) (Dq (show look S.next.dir n=some f from hl)) (HV.out.keep hc2 HVF.out) hne (by omega)
 go_wp2_with (go_at_call 143; refine hex.mono ?_; rintro e w3 ⟨G',rfl,hr3,hn3,hc3⟩)
 go_ret
 exact ⟨rfl,G',hr3.mono (Fx.trans hc2.size hc3.size),hc2.fx hc3⟩
set_option maxRecDepth 20000 in
set_option maxHeartbeats 400000 in
theorem Qm (h : Rep w F d S G) (hon : S.on=true) (n : Nm) (hn : Ap n=true) {v : Value} {b : List UInt8} (hb : S.bulk+b.length+3<1099511627776) (hv : Sl w v b) (hvF : ∀ g,v.ownBlock=some g→¬ F g) (hne : b ≠ []) (hroom : S.used+b.length≤S.room) (hfl : S.fails S.n=false) (hl : look S.dir n=none) : Calls Tryz.prog 120 #[.pointer (some ⟨d,0,none⟩), .string (Ae n),v] w fun e w'=>e = .returned (.int .i64 0) ∧
  ∃ G',Rep w' (Fx F w w') d ((S.next.mk1 n).ext S.files.length b) G'∧Chg F w w':=by
 have hnl:=n_le S
 have hul:=Em h.ok
 have hbeg:=Dn h hon (by omega)
 rw [hfl] at hbeg
 have hnm:=fun W=>Dr W n
 rw [hn] at hnm
 have hv0:=hv
 obtain ⟨vb,vo,cap,rfl,hlt,hcell⟩:=hv.some hne
 have hpos : 0<b.length:=List.length_pos_iff.2 hne
 have hg : decide ((0 : Int)<(b.length : Int))=true:=by simpa using hpos
 have hrm:=h.roomy
 have HV:=Ab hv0
 have HVF:=Ab hvF
 clear hcell hv hv0 hvF
 go_enter Tryz.func120,Tryz.ntmps120
 go_wp2_with (first
  | (go_at_call 140; refine hbeg.mono ?_; rintro e w1 ⟨rfl,now,sure,hnn,hr1,hc1⟩)
  | (go_at_call 141; refine (hnm _).mono ?_; rintro e w2 ⟨rfl,rfl⟩))
 have hd1:=hr1.disk
 rw [Db] at hd1
 have x0:=Ad hd1 0
 have x1:=Ad hd1 1
 obtain ⟨bn,rfl⟩:=Option.ne_none_iff_exists'.1 hnn
 go_quiet (fail)
 have hr2:=hr1.keep (F':=Fx F w w2) ((Chg.refl (fun _=>False) w2).drewN nq) (fun _ _ h=>h) (fun _ h=>h)
 have hc2 : Chg F w (w2.drewN nq):=hc1.drewN _
 have hsz : (w2.drewN nq).heap.size=w2.heap.size:=rfl
 generalize w2.drewN nq=W at hr2 hc2 hsz ⊢
 have hr2 : Rep W (Fx F w W) d S.next { G with now:=some bn,sure:=sure }:=hr2.mono (fun k hk=>by
  rcases hk with h | h
  ·exact Or.inl h
  ·exact Or.inr (by rw [hsz]; exact h))
 clear hsz hd1 x0 x1 hr1 hc1
 have hd2:=hr2.disk
 rw [Db] at hd2
 have y2:=Ad hd2 2
 have hlk:=Eb hr2 rfl n
 have hbk:=Ic S
 rw [show look S.next.dir n=none from hl] at hlk
 have hlk' : (Instr.lookup 85 (.map (some bn)) (.string (Ae n)) false).run Tryz.prog W = .ok (.pointer none) W:=hlk
 clear hlk
 have hmk:=made_rep hr2 rfl (show look S.next.dir n=none from hl) hn (by omega)
 go_wp2_with (first
  | (go_at_call 142; refine hmk.mono ?_; rintro e w3 ⟨G',rfl,hr3,hn3,hc3⟩; have hex:=Ou hr3 (f:=S.files.length) (ids_mk1.2 (Or.inl rfl)) ((HV.out.keep hc2 HVF.out).keep hc3 (fun g hg hF=>by
    rcases hF with h1 | h1
    ·exact HVF.out g hg h1
    ·have hb0 : g=vb:=by injection hg with hg; exact hg.symm
     omega)) hne (by rw [bulk_mk1]; omega))
  | (go_at_call 143; refine hex.mono ?_; rintro e w4 ⟨G'',rfl,hr4,hn4,hc4⟩))
 go_ret
 have hc34:=hc2.fx hc3
 have hr4':=hr4.mono (fun k hk=>by
  rcases hk with h | h
  ·exact Or.inl (Fx.trans hc2.size hc3.size k h)
  ·exact Or.inr h : ∀ k,_→Fx (Fx F w w3) w3 w4 k)
 exact ⟨rfl,G'',hr4'.mono (Fx.trans hc34.size hc4.size),hc34.fx (hc4.mono fun k _ hk=>Fx.trans hc2.size hc3.size k hk)⟩
end
end Go.Proofs.YtblniomnhpedjaaGreatDoor
namespace Go.Proofs.YtblniomnhpedjaaGreatDoor
open Go.RowKit
section
variable {w w' : World} {F : Nat→Prop} {d : Nat} {S : Dk} {G : Gh}
set_option maxRecDepth 20000 in
theorem on_off (h : Rep w F d S G) (hon : S.on=false) (n : Nm) : Calls Tryz.prog 124 #[.pointer (some ⟨d,0,none⟩), .string (Ae n)] w fun e w'=>e = .returned (.tuple #[.pointer none, .bool false, .int .i64 35])∧Rep w' F d S G∧Chg (fun _=>False) w w':=by
 have hbeg:=Jz h hon
 go_enter Tryz.func124,Tryz.ntmps124
 go_wp2_with (go_at_call 140; refine hbeg.mono ?_; rintro e w1 ⟨rfl,hr1,hc1⟩)
 go_ret3
 exact ⟨rfl,hr1,hc1⟩
set_option maxRecDepth 20000 in
theorem on_name (h : Rep w F d S G) (hon : S.on=true) (hb : S.n<4611686018427387904) (n : Nm) (hn : Ap n=false) : Calls Tryz.prog 124 #[.pointer (some ⟨d,0,none⟩), .string (Ae n)] w fun e w'=>e = .returned (.tuple #[.pointer none, .bool false, .int .i64 30]) ∧
  ∃ G',Rep w' (Fx F w w') d S.next G'∧Chg F w w':=by
 have hbeg:=Dn h hon hb
 have hnm:=fun W=>Dr W n
 rw [hn] at hnm
 go_enter Tryz.func124,Tryz.ntmps124
 go_wp2_with (first
  | (go_at_call 140; refine hbeg.mono ?_; rintro e w1 ⟨rfl,now,sure,hne,hr1,hc1⟩)
  | (go_at_call 141; refine (hnm _).mono ?_; rintro e w2 ⟨rfl,rfl⟩))
 go_ret3
 exact ⟨rfl,_,hr1,hc1⟩
set_option maxRecDepth 20000 in
theorem on_none (h : Rep w F d S G) (hon : S.on=true) (hb : S.n<4611686018427387904) (n : Nm) (hn : Ap n=true) (hl : look S.dir n=none) : Calls Tryz.prog 124 #[.pointer (some ⟨d,0,none⟩), .string (Ae n)] w fun e w'=>e = .returned (.tuple #[.pointer none, .bool false, .int .i64 32]) ∧
  ∃ G',Rep w' (Fx F w w') d S.next G'∧Chg F w w':=by
 have hbeg:=Dn h hon hb
 have hnm:=fun W=>Dr W n
 rw [hn] at hnm
 go_enter Tryz.func124,Tryz.ntmps124
 go_wp2_with (first
  | (go_at_call 140; refine hbeg.mono ?_; rintro e w1 ⟨rfl,now,sure,hne,hr1,hc1⟩; obtain ⟨bn,rfl⟩:=Option.ne_none_iff_exists'.1 hne; have hd1:=hr1.disk; rw [Db] at hd1; have x2:=Ad hd1 2; have hlk:=Eb hr1 rfl n; rw [show look S.next.dir n=none from hl] at hlk; have hlk' : (Instr.lookup 85 (.map (some bn)) (.string (Ae n)) false).run Tryz.prog w1 = .ok (.pointer none) w1:=hlk; clear hlk)
  | (go_at_call 141; refine (hnm _).mono ?_; rintro e w2 ⟨rfl,hw2⟩; subst hw2))
 go_ret3
 exact ⟨rfl,_,hr1,hc1⟩
set_option maxRecDepth 20000 in
theorem on_ok (h : Rep w F d S G) (hon : S.on=true) (hb : S.n<4611686018427387904) (n : Nm) (hn : Ap n=true) {f : Nat} (hl : look S.dir n=some f) : Calls Tryz.prog 124 #[.pointer (some ⟨d,0,none⟩), .string (Ae n)] w fun e w'=>
  ∃ G',e = .returned (.tuple #[.pointer (some ⟨G'.fb f,0,none⟩), .bool (S.fails S.n), .int .i64 0])∧Rep w' (Fx F w w') d S.next G'∧Chg F w w':=by
 have hbeg:=Dn h hon hb
 have hnm:=fun W=>Dr W n
 rw [hn] at hnm
 go_enter Tryz.func124,Tryz.ntmps124
 go_wp2_with (first
  | (go_at_call 140; refine hbeg.mono ?_; rintro e w1 ⟨rfl,now,sure,hne,hr1,hc1⟩; obtain ⟨bn,rfl⟩:=Option.ne_none_iff_exists'.1 hne; have hd1:=hr1.disk; rw [Db] at hd1; have x2:=Ad hd1 2; have hlk:=Eb hr1 rfl n; rw [show look S.next.dir n=some f from hl] at hlk; have hlk' : (Instr.lookup 85 (.map (some bn)) (.string (Ae n)) false).run Tryz.prog w1 = .ok (.pointer (some ⟨G.fb f,0,none⟩)) w1:=hlk; clear hlk)
  | (go_at_call 141; refine (hnm _).mono ?_; rintro e w2 ⟨rfl,hw2⟩; subst hw2))
 go_ret3
 exact ⟨{ G with now:=some bn,sure:=sure },rfl,hr1,hc1⟩
theorem on_rep (h : Rep w F d S G) (hb : S.bulk<1099511627776) (n : Nm) : Calls Tryz.prog 124 #[.pointer (some ⟨d,0,none⟩), .string (Ae n)] w fun e w'=>∃ G',Rep w' (Fx F w w') d S.begun G'∧Chg F w w' ∧
  ((∃ er,S.onFile n = .error er∧er≠0∧e = .returned (.tuple #[.pointer none, .bool false, .int .i64 er])) ∨
   (∃ f fl,S.onFile n = .ok (f,fl)∧look S.dir n=some f∧e = .returned (.tuple #[.pointer (some ⟨G'.fb f,0,none⟩), .bool fl, .int .i64 0]))):=by
 have hnl:=n_le S
 unfold Dk.onFile Dk.begun
 by_cases hon : S.on=false
 ·simp only [if_pos hon]
  refine (on_off h hon n).mono ?_
  rintro e w' ⟨he,hr,hc⟩
  exact ⟨G,hr.mono fun k hk=>Or.inl hk,hc.mono fun _ _ f=>f.elim,Or.inl ⟨35,rfl,by omega,he⟩⟩
 simp only [if_neg hon]
 have hon' : S.on=true:=by simpa using hon
 by_cases hn : Ap n=false
 ·simp only [if_pos hn]
  refine (on_name h hon' (by omega) n hn).mono ?_
  rintro e w' ⟨he,G',hr,hc⟩
  exact ⟨G',hr,hc,Or.inl ⟨30,rfl,by omega,he⟩⟩
 simp only [if_neg hn]
 have hn' : Ap n=true:=by simpa using hn
 cases hl : look S.dir n with
 | none=>
  refine (on_none h hon' (by omega) n hn' hl).mono ?_
  rintro e w' ⟨he,G',hr,hc⟩
  exact ⟨G',hr,hc,Or.inl ⟨32,rfl,by omega,he⟩⟩
 | some f=>
  refine (on_ok h hon' (by omega) n hn' hl).mono ?_
  rintro e w' ⟨G',he,hr,hc⟩
  exact ⟨G',hr,hc,Or.inr ⟨f,_,rfl,rfl,he⟩⟩
theorem D3 (S : Dk) : S.begun.dir=S.dir∧S.begun.files=S.files∧S.begun.acts=S.acts∧S.begun.sure=S.sure∧S.begun.room=S.room:=by
 unfold Dk.begun
 split <;> exact ⟨rfl,rfl,rfl,rfl,rfl⟩
theorem Mu {S : Dk} {f : Nat} {x : Fl} (h : S.files[f]? = some x) : S.bytes f=x.b:=by simp [Dk.bytes,h]
theorem G3 {w : World} {base base' n size : Nat} {e : TypeId} {v : Value} {xs : List Value} (h : w.ownsRow base' e size v n xs) (hb : base≤base') : w.ownsRow base e size v n xs:=by
 refine ⟨h.1,?_⟩
 rcases h.2 with h | ⟨g,cap,cur,r1,r2,r⟩
 ·exact Or.inl h
 ·exact Or.inr ⟨g,cap,cur,r1,Nat.le_trans hb r2,r⟩
theorem Rep.file (h : Rep w F d S G) {n : Nm} {f : Nat} (hl : look S.dir n=some f) : ∃ x,S.files[f]? = some x∧S.bytes f=x.b∧S.live f∧w.heap[G.fb f]? = some (.cells #[G.rv f, .int .i64 (x.sure : Int), .bool true] 118)∧w.ownsRow 0 5 1 (G.rv f) x.b.length (bc x.b):=by
 have hi:=Dq hl
 have hlv:=Dx h.ok hi
 obtain ⟨x,hx⟩ : ∃ x,S.files[f]? = some x:=⟨_,List.getElem?_eq_getElem (h.ok.idD hi)⟩
 obtain ⟨b1,b2,_⟩:=h.bytes f x hlv hx
 have f2:=(h.files f (Or.inl hlv)).2
 rw [b1,decide_eq_true hi] at f2
 exact ⟨x,hx,Mu hx,hlv,f2,b2⟩
set_option maxRecDepth 20000 in
set_option maxHeartbeats 400000 in
theorem read_rep (h : Rep w F d S G) (hlow : ∀ k,F k→k<w.heap.size) (hb : S.bulk<1099511627776) (n : Nm) : Calls Tryz.prog 96 #[.pointer (some ⟨d,0,none⟩), .string (Ae n)] w fun e w'=>∃ v G',e = .returned (.tuple #[v, .int .i64 (S.read n).2])∧∃ F',Rep w' F' d S.begun G'∧Chg F w w'∧(∀ k,F' k→F k∨(w.heap.size≤k∧k<w'.heap.size)) ∧
  w'.ownsRow w.heap.size 5 1 v (S.read n).1.length (bc (S.read n).1)∧∀ k,v.ownBlock=some k→¬ F' k:=by
 have hon:=on_rep h hb n
 obtain ⟨rb,hrb⟩ : ∃ rb,rb=(S.read n).1:=⟨_,rfl⟩
 obtain ⟨re,hre⟩ : ∃ re,re=(S.read n).2:=⟨_,rfl⟩
 rw [← hrb,← hre]
 have HB:=Ab hrb
 have HE:=Ab hre
 clear hrb hre
 have hbb : ∀ {G' : Gh} {w1 : World} {f : Nat} {x : Fl},Rep w1 (Fx F w w1) d S.begun G'→S.begun.files[f]? = some x→x.b.length≤70368744177664:=fun {G' w1 f x} hr hx=>by
  rw [(D3 S).2.1] at hx
  have:=G7 hx
  omega
 go_enter Tryz.func96,Tryz.ntmps96
 go_wp2_with (first
  | (go_at_call 124; refine hon.mono ?_; rintro e w1 ⟨G',hr,hc,⟨er,he,hne,rfl⟩ | ⟨f,fl,he,hl,rfl⟩⟩; rotate_left; (obtain ⟨x,hx,hbx,hlx,hfx,hrx⟩:=hr.file (n:=n) (f:=f) (by rw [(D3 S).1]; exact hl)); (have c0:=Ad hfx 0); rotate_left)
  | (go_at_call 62; refine (Iz _ _ x.b (Dh hrx) (hbb hr hx)).mono ?_; rintro e w2 ⟨v',rfl,hown,hbel⟩))
 ·go_ret2
  have e1 : S.read n=([],er):=by unfold Dk.read; rw [he]
  rw [HB.out,HE.out,e1]
  exact ⟨_,G',rfl,_,hr,hc,fun k hk=>hk,World.ownsRow_nil _ _ _ _,fun k hk=>by cases hk⟩
 ·rename_i hfl
  go_ret2
  have e1 : S.read n=([],34):=by unfold Dk.read; rw [he]; simp [hfl]
  rw [HB.out,HE.out,e1]
  exact ⟨_,G',rfl,_,hr,hc,fun k hk=>hk,World.ownsRow_nil _ _ _ _,fun k hk=>by cases hk⟩
 ·rename_i hfl
  go_ret2
  have e1 : S.read n=(x.b,0):=by
   unfold Dk.read
   rw [he]
   have e2 : S.bytes f=x.b:=by
    rw [(D3 S).2.1] at hx
    exact Mu hx
   simp [hfl,e2]
  rw [HB.out,HE.out,e1]
  have hcb:=Chg.of_below hbel
  refine ⟨_,G',rfl,Fx F w w1,hr.keep hcb (fun k hk hle=>?_) (fun _ h=>h),hc.trans hcb (fun i hi hle=>?_),fun k hk=>hk.imp_right fun h=>⟨h.1,Nat.lt_of_lt_of_le h.2 hbel.size⟩,G3 hown hc.size,fun k hk hF=>?_⟩
  ·have h0:=hc.size
   rcases hk with h1 | h1
   ·have:=hlow k h1
    omega
   ·omega
  ·have:=hc.size
   omega
  ·have h1:=(hown.lt k hk).1
   rcases hF with h2 | h2
   ·have:=hlow k h2
    have:=hc.size
    omega
   ·omega
end
end Go.Proofs.YtblniomnhpedjaaGreatDoor
