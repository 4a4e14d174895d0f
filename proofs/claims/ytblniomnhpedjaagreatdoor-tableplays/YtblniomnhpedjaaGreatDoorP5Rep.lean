/-
  A plain disk as it lies in memory: which blocks are its own, what they hold. No condition.
-/
import Derived.Test.YtblniomnhpedjaaGreatDoorP4Settle
namespace Go.Proofs.YtblniomnhpedjaaGreatDoor
open Go.RowKit
structure Gh where
 fb : Nat→Nat
 rv : Nat→Value
 sv : Nat→Value
 now : Option Nat
 sure : Option Nat
 fls : Option Nat
 lv : Value
 cv : Int
 vs : List (Value × Value)
def Dk.live (S : Dk) (i : Nat) : Prop:=i∈ids S.sure∨i∈A4 S.acts
def Dk.known (S : Dk) (i : Nat) : Prop:=S.live i∨i∈Br S.acts
def fv (l : List Int) : List (Value × Value):=l.map fun k=>(.int .i64 k, .agg #[])
def B9 (S : Dk) (G : Gh) : Array Value:=#[.int .i64 (S.room : Int), .int .i64 (S.used : Int), .map G.now, .map G.sure,G.lv, .int .i64 (S.n : Int), .bool S.cut.isSome, .int .i64 G.cv, .map G.fls]
def Be (w : World) (F : Nat→Prop) (o : Option Nat) (l : List (Value × Value)) : Prop:=match o with
 | none=>l = []
 | some b=>F b∧Ak w b l
structure Rep (w : World) (F : Nat→Prop) (d : Nat) (S : Dk) (G : Gh) : Prop where
 ok : Ok S
 disk : w.heap[d]? = some (.cells (B9 S G) 89)
 inD : F d
 roomy : S.room<9223372036854775808
 cutv : ∀ c,S.cut=some c→G.cv=(c : Int)
 now : Be w F G.now (dv G.fb S.dir)
 sure : Be w F G.sure (dv G.fb S.sure)
 both : G.now=none↔G.sure=none
 bare : G.now = .none→S.acts = []
 fails : ∃ l : List Int,Be w F G.fls (fv l)∧∀ k : Nat,S.n≤k→(S.fails k=true↔(k : Int)∈l)
 two : ∀ b,G.now=some b→G.sure≠some b∧G.fls≠some b
 three : ∀ b,G.sure=some b→G.fls≠some b
 row : w.ownsRow 0 111 2 G.lv G.vs.length (vc G.vs)
 rowF : ∀ k,G.lv.ownBlock=some k→F k
 many : G.vs.length=S.acts.length
 acts : ∀ (j : Nat) a p,S.acts[j]? = some a→G.vs[j]? = some p→ActW w F G.fb a p
 files : ∀ i,S.known i→F (G.fb i)∧w.heap[G.fb i]? = some (.cells #[G.rv i,G.sv i, .bool (decide (i∈ids S.dir))] 118)
 inj : ∀ i j,S.known i→S.known j→G.fb i=G.fb j→i=j
 bytes : ∀ i f,S.live i→S.files[i]? = some f→G.sv i = .int .i64 (f.sure : Int)∧w.ownsRow 0 5 1 (G.rv i) f.b.length (bc f.b)∧∀ k,(G.rv i).ownBlock=some k→F k
 apart : ∀ i j k,S.live i→S.live j→(G.rv i).ownBlock=some k→(G.rv j).ownBlock=some k→i=j
theorem Be.keep {w w' : World} {F F' X : Nat→Prop} {o : Option Nat} {l : List (Value × Value)} (h : Be w F o l) (hc : Chg X w w') (hX : ∀ b,o=some b→¬ X b) (hF : ∀ k,F k→F' k) : Be w' F' o l:=by
 cases o with
 | none=>exact h
 | some b=>exact ⟨hF b h.1,h.2.keep hc (hX b rfl)⟩
theorem Rep.keep {w w' : World} {F F' X : Nat→Prop} {d : Nat} {S : Dk} {G : Gh} (h : Rep w F d S G) (hc : Chg X w w') (hX : ∀ k,F k→¬ X k) (hF : ∀ k,F k→F' k) : Rep w' F' d S G where
 ok:=h.ok
 disk:=hc.keep h.disk (hX d h.inD)
 inD:=hF d h.inD
 roomy:=h.roomy
 cutv:=h.cutv
 now:=h.now.keep hc (fun b e=>hX b (by have:=h.now; rw [e] at this; exact this.1)) hF
 sure:=h.sure.keep hc (fun b e=>hX b (by have:=h.sure; rw [e] at this; exact this.1)) hF
 both:=h.both
 bare:=h.bare
 fails:=by
  obtain ⟨l,h1,h2⟩:=h.fails
  exact ⟨l,h1.keep hc (fun b e=>hX b (by rw [e] at h1; exact h1.1)) hF,h2⟩
 two:=h.two
 three:=h.three
 row:=A3 h.row hc (fun k hk=>hX k (h.rowF k hk))
 rowF:=fun k hk=>hF k (h.rowF k hk)
 many:=h.many
 acts:=fun j a p ha hp=>(h.acts j a p ha hp).keep hc (fun c _ _ _ _ hc'=>hX c hc') hF (fun _ _=>rfl)
 files:=fun i hi=>by
  obtain ⟨h1,h2⟩:=h.files i hi
  exact ⟨hF _ h1,hc.keep h2 (hX _ h1)⟩
 inj:=h.inj
 bytes:=fun i f hi hf=>by
  obtain ⟨h1,h2,h3⟩:=h.bytes i f hi hf
  exact ⟨h1,A3 h2 hc (fun k hk=>hX k (h3 k hk)),fun k hk=>hF k (h3 k hk)⟩
 apart:=h.apart
theorem Rep.mono {w : World} {F F' : Nat→Prop} {d : Nat} {S : Dk} {G : Gh} (h : Rep w F d S G) (hF : ∀ k,F k→F' k) : Rep w F' d S G:=
 h.keep (Chg.refl (fun _=>False) w) (fun _ _ h=>h) hF
def Dk.bulk (S : Dk) : Nat:=(S.files.map fun f=>f.b.length).sum+S.acts.length+S.files.length+S.n
theorem Km {l : List Nat} {x : Nat} (h : x∈l) : x≤l.sum:=by
 induction l with
 | nil=>simp at h
 | cons a r ih=>
  rcases List.mem_cons.1 h with rfl | h
  ·simp
  ·have:=ih h
   simp
   omega
theorem G7 {S : Dk} {i : Nat} {f : Fl} (h : S.files[i]? = some f) : f.b.length≤S.bulk:=by
 have : f.b.length≤(S.files.map fun f=>f.b.length).sum:=Km (List.mem_map.2 ⟨f,List.mem_of_getElem? h,rfl⟩)
 unfold Dk.bulk
 omega
theorem lens_le (files : List Fl) : ∀ (is : List Nat),is.Nodup→(is.map (Az files)).sum≤(files.map fun f=>f.b.length).sum:=by
 induction files with
 | nil=>
  intro is _
  have : ∀ is : List Nat,(is.map (Az [])).sum=0:=by
   intro is
   induction is with
   | nil=>rfl
   | cons a r ih=>simp [Az] at ih ⊢; exact ih
  rw [this]
  exact Nat.zero_le _
 | cons f r ih=>
  intro is hn
  have key : ∀ is : List Nat,is.Nodup→(is.map (Az (f :: r))).sum≤f.b.length+(((is.filter (· != 0)).map (· - 1)).map (Az r)).sum∧(0 ∉ is→(is.map (Az (f :: r))).sum≤(((is.filter (· != 0)).map (· - 1)).map (Az r)).sum):=by
   intro is
   induction is with
   | nil=>intro _; simp
   | cons a t iht=>
    intro hn
    rw [List.nodup_cons] at hn
    obtain ⟨h1,h2⟩:=iht hn.2
    cases a with
    | zero=>
     have h3:=h2 hn.1
     refine ⟨?_,fun h=>absurd (List.mem_cons_self) h⟩
     have e : Az (f :: r) 0=f.b.length:=rfl
     simp [e] at h3 ⊢
     omega
    | succ a=>
     have e : Az (f :: r) (a+1)=Az r a:=by simp [Az]
     simp [e] at h1 h2 ⊢
     refine ⟨by omega,fun h=>?_⟩
     have:=h2 h
     omega
  have h1:=(key is hn).1
  have h2 : ((is.filter (· != 0)).map (· - 1)).Nodup:=by
   rw [List.Nodup,List.pairwise_map]
   have:=(hn.filter (· != 0))
   refine List.Pairwise.imp_of_mem ?_ this
   intro a b ha hb hne e
   have ha':=(List.mem_filter.1 ha).2
   have hb':=(List.mem_filter.1 hb).2
   simp at ha' hb'
   omega
  have h3:=ih _ h2
  simp only [List.map_cons,List.sum_cons]
  omega
theorem Em {S : Dk} (h : Ok S) : S.used≤S.bulk:=by
 have h1:=lens_le S.files (ids S.dir) h.oneD
 have e : S.used=((ids S.dir).map (Az S.files)).sum:=by
  unfold Dk.used A1 ids
  rw [List.map_map]
  rfl
 rw [e]
 unfold Dk.bulk
 omega
theorem E3 (S : Dk) : S.acts.length≤S.bulk:=by unfold Dk.bulk; omega
theorem n_le (S : Dk) : S.n≤S.bulk:=by unfold Dk.bulk; omega
theorem Ok.liveLt {S : Dk} (h : Ok S) {i : Nat} (hi : S.live i) : i<S.files.length:=by
 rcases hi with hi | hi
 ·exact h.idS i hi
 ·exact h.idA i hi
theorem Dx {S : Dk} (h : Ok S) {i : Nat} (hi : i∈ids S.dir) : S.live i:=h.liveD hi
def Fx (F : Nat→Prop) (w w' : World) : Nat→Prop:=fun k=>F k∨(w.heap.size≤k∧k<w'.heap.size)
theorem Fx.of {F : Nat→Prop} {w w' : World} {k : Nat} (h : F k) : Fx F w w' k:=Or.inl h
theorem Rep.lt {w : World} {F : Nat→Prop} {d : Nat} {S : Dk} {G : Gh} (h : Rep w F d S G) : d<w.heap.size:=At h.disk
end Go.Proofs.YtblniomnhpedjaaGreatDoor
