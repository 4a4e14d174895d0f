/-
  Texts joined: APlain, YPlain, YRep, PGoT, PTell.
-/
import Derived.Lib.Join
import Derived.Lib.Bytealg
import Derived.Lib.LastIndexByte
import Derived.Lib.Small
import Derived.Test.YtckejblkppllaaaGreatDoorProg
import Derived.Test.YtckejblkppllaaaGreatDoorT21PRList
import Derived.Test.YtckejblkppllaaaGreatDoorT30PFind
import Derived.Test.YtckejblkppllaaaGreatDoorT31PRDone
import Derived.Test.YtckejblkppllaaaGreatDoorT33QOEntry3
import Derived.Test.YtckejblkppllaaaGreatDoorT32QOEntry
import Derived.Test.YtckejblkppllaaaGreatDoorT34PBuild
import Derived.Test.YtckejblkppllaaaGreatDoorT24MChg
import Derived.Test.YtckejblkppllaaaGreatDoorT19PRMany
import Derived.Test.YtckejblkppllaaaGreatDoorT27PAskKid
import Derived.Test.YtckejblkppllaaaGreatDoorT29PKid
import Derived.RangeFuncNested
import Derived.RangeFuncBound
import Derived.RangeFuncCalls
import Derived.RangeFuncLeaves
import Derived.RangeFuncBox
import Derived.Shelf.Abstract
import Derived.Shelf.RegionOpen
import Derived.OwnWalkIn
import Derived.TacticsInMore
import Derived.LoopNIn
import Derived.LoopIn
namespace Go.Proofs.YtckejblkppllaaaGreatDoor.Pa
def Ab (l : List UInt8) : ByteArray:=⟨l.toArray⟩
theorem B0 (l : List UInt8) : (Ab l).data.toList=l:=by simp [Ab]
theorem A1 (l : List UInt8) : (Ab l).size=l.length:=by simp [Ab,ByteArray.size]
theorem Hs (s : ByteArray) : Ab s.data.toList=s:=by simp [Ab]
theorem Jp {a b : List UInt8} (h : Ab a=Ab b) : a=b:=by rw [← B0 a,h,B0]
namespace Pt
def name (l : List UInt8) : Bool:=decide (1≤l.length∧l.length≤64∧l ≠ [46]∧l ≠ [46,46]∧47 ∉ l∧0 ∉ l)
def cut : List UInt8→List (List UInt8)
 | []=>[[]]
 | c :: t=>if c=47 then [] :: cut t else
  match cut t with
  | []=>[[c]]
  | h :: r=>(c :: h) :: r
def parts (l : List UInt8) : List (List UInt8):=if l = [] then [] else cut l
def few (ps : List (List UInt8)) : Bool:=decide (ps.length≤16) && ps.all name
def path (l : List UInt8) : Bool:=few (parts l)
theorem name_le {l : List UInt8} (h : name l=true) : l.length≤64:=(of_decide_eq_true h).2.1
theorem cut_ne (l : List UInt8) : cut l ≠ []:=by
 cases l with
 | nil=>simp [cut]
 | cons c t=>
  unfold cut
  split
  ·simp
  ·split <;> simp
theorem cut_no {p : List UInt8} (h : 47 ∉ p) : cut p = [p]:=by
 induction p with
 | nil=>rfl
 | cons c t ih=>
  simp only [List.mem_cons,not_or] at h
  unfold cut
  rw [if_neg (fun e=>h.1 e.symm),ih h.2]
theorem cut_slash (t : List UInt8) : cut (47 :: t) = [] :: cut t:=by simp [cut]
theorem cut_cons {c : UInt8} {t a : List UInt8} {b : List (List UInt8)} (hc : c≠47) (he : cut t=a :: b) : cut (c :: t)=(c :: a) :: b:=by
 show (if c=47 then _ else _)=_
 rw [if_neg hc,he]
theorem cut_mid (d r : List UInt8) : cut (d++47 :: r)=cut d++cut r:=by
 induction d with
 | nil=>exact cut_slash r
 | cons c t ih=>
  show cut (c :: (t++47 :: r))=_
  by_cases hc : c=47
  ·subst hc; rw [cut_slash,cut_slash,ih]; rfl
  ·cases he : cut t with
   | nil=>exact absurd he (cut_ne t)
   | cons a b=>rw [cut_cons hc he,cut_cons hc (by rw [ih,he]; rfl)]; rfl
theorem cut_app {p : List UInt8} (l : List UInt8) (h : 47 ∉ p) : cut (p++47 :: l)=p :: cut l:=by rw [cut_mid,cut_no h]; rfl
theorem first_slash (l : List UInt8) : 47 ∉ l ∨ ∃ p r,l=p++47 :: r∧47 ∉ p:=by
 induction l with
 | nil=>exact .inl (by simp)
 | cons c t ih=>
  by_cases hc : c=47
  ·exact .inr ⟨[],t,by simp [hc],by simp⟩
  ·rcases ih with h | ⟨p,r,rfl,hp⟩
   ·exact .inl (by simp [h]; exact fun e=>hc e.symm)
   ·exact .inr ⟨c :: p,r,rfl,by simp [hp]; exact fun e=>hc e.symm⟩
theorem few_all {ps : List (List UInt8)} (h : few ps=true) : ∀ p∈ps,name p=true:=by
 unfold few at h
 simp only [Bool.and_eq_true,List.all_eq_true] at h
 exact h.2
theorem few_len {ps : List (List UInt8)} (h : few ps=true) : ps.length≤16:=by
 unfold few at h
 simp only [Bool.and_eq_true,decide_eq_true_eq] at h
 exact h.1
def last (l : List UInt8) : List UInt8:=(parts l).getLast?.getD []
def below (l d : List UInt8) : Bool:=d.isPrefixOf l && (decide (d = []) || decide (l.drop d.length = []) || decide ((l.drop d.length).head? = some 47))
def D6 (d l : List UInt8) : Bool:=path d && path l && (parts d).isPrefixOf (parts l)
def rank (c : UInt8) : Int:=if c=47 then -1 else (c.toNat : Int)
def rk (l : List UInt8) (k : Nat) : Int:=match l[k]? with
 | none=>-2
 | some c=>rank c
theorem indexByte_none {l : List UInt8} {c : UInt8} (h : c ∉ l) : Lib.indexByte l c = -1:=by
 induction l with
 | nil=>rfl
 | cons b t ih=>
  simp only [List.mem_cons,not_or] at h
  unfold Lib.indexByte
  rw [ih h.2]
  simp [show ¬ b=c from fun e=>h.1 e.symm]
theorem indexByte_app {p r : List UInt8} {c : UInt8} (h : c ∉ p) : Lib.indexByte (p++c :: r) c=p.length:=by
 induction p with
 | nil=>simp [Lib.indexByte]
 | cons b t ih=>
  simp only [List.mem_cons,not_or] at h
  show Lib.indexByte (b :: (t++c :: r)) c=_
  unfold Lib.indexByte
  rw [ih h.2]
  simp only [beq_iff_eq,show ¬ b=c from fun e=>h.1 e.symm,if_false,List.length_cons]
  rw [if_neg (by omega)]
  omega
theorem indexByte_neg (l : List UInt8) (c : UInt8) : decide (Lib.indexByte l c<0)=decide (c ∉ l):=by
 by_cases h : c∈l
 ·obtain ⟨p,r,rfl,hp⟩ : ∃ p r,l=p++c :: r∧c ∉ p:=by
   induction l with
   | nil=>simp at h
   | cons b t ih=>
    by_cases e : b=c
    ·exact ⟨[],t,by simp [e],by simp⟩
    ·obtain ⟨p,r,rfl,hp⟩:=ih (by simpa [show ¬ c=b from fun x=>e x.symm] using h)
     exact ⟨b :: p,r,rfl,by simp [hp]; exact fun x=>e x.symm⟩
  rw [indexByte_app hp]
  simp
 ·rw [indexByte_none h]
  simp [h]
end Pt
end Go.Proofs.YtckejblkppllaaaGreatDoor.Pa
namespace Go.Proofs.YtckejblkppllaaaGreatDoor
open Go.RowKit
abbrev Ent:=Bs × Val
def zEnt : Ent:=([],0,[],0)
def rootE (id : Bs) : Ent:=([],2,id,0)
def E5 (name val : Bs) : Int × Ent:=match Dc name val with
 | none=>(163,zEnt)
 | some v=>(0,(name,v))
section
variable (fd : Bs→Option Bs)
def Ed (d : Val) (name : Bs) : Int × Ent:=
 if d.1≠2 then (161,zEnt)
 else if (Cq fd d.2.1 name []).2.2.2≠0 then ((Cq fd d.2.1 name []).2.2.2,zEnt)
 else if (Cq fd d.2.1 name []).2.1=false then (160,zEnt)
 else E5 name (Cq fd d.2.1 name []).1
def goE : List Bs→Ent→Int × Ent
 | [],x=>(0,x)
 | n :: ns,x=>if (Ed fd x.2 n).1≠0 then ((Ed fd x.2 n).1,zEnt) else goE ns (Ed fd x.2 n).2
def Cp (root at_ : Bs) : Int × Ent:=if Pa.Pt.path at_=false then (40,zEnt) else goE fd (Pa.Pt.parts at_) (rootE root)
def Db : List Ag→Option (List Ent)
 | []=>some []
 | p :: r=>match Dc p.1 p.2 with
  | none=>none
  | some v=>match Db r with
   | none=>none
   | some l=>some ((p.1,v) :: l)
def Fh (ps : List Ag) : Int × List Ent:=match Db ps with
 | none=>(163,[])
 | some l=>(0,l)
def Dt (d : Ent) : Int × List Ent:=
 if (Co fd d.2.2.1 [] []).bad≠0 then ((Co fd d.2.2.1 [] []).bad,[])
 else if d.1 ≠ []∧d.2.2.2≠((Co fd d.2.2.1 [] []).out.length : Int) then (163,[])
 else Fh (Co fd d.2.2.1 [] []).out
def listE (root at_ : Bs) : Int × List Ent:=
 if (Cp fd root at_).1≠0 then ((Cp fd root at_).1,[])
 else if (Cp fd root at_).2.2.1≠2 then (161,[])
 else Dt fd (Cp fd root at_).2
end
theorem N4 : ∀ (ps : List Ag) (l : List Ent),Db ps=some l→l.map (·.1)=ps.map (·.1)
 | [],l,h=>by
  rw [Db] at h
  injection h with h
  rw [← h]; rfl
 | p :: r,l,h=>by
  rw [Db] at h
  split at h
  ·cases h
  ·split at h
   ·cases h
   ·rename_i h2
    injection h with h
    rw [← h,List.map_cons,List.map_cons,N4 r _ h2]
theorem O9 {name val : Bs} {v : Val} (h : Dc name val=some v) : Ck name v=true:=by
 unfold Dc at h
 split at h
 ·rename_i h1
  injection h with h
  rw [← h]; exact h1.2
 ·cases h
theorem N7 : ∀ (ps : List Ag) (l : List Ent),Db ps=some l→∀ x∈l,Ck x.1 x.2=true
 | [],l,h=>by
  rw [Db] at h
  injection h with h
  rw [← h]; intro x hx; cases hx
 | p :: r,l,h=>by
  rw [Db] at h
  split at h
  ·cases h
  ·rename_i h1
   split at h
   ·cases h
   ·rename_i h2
    injection h with h
    rw [← h]
    intro x hx
    rcases List.mem_cons.1 hx with rfl | hx
    ·exact O9 h1
    ·exact N7 r _ h2 x hx
structure Tre where
 D : List Bs→Option (List Bs)
 E : List Bs→Val
def hdN : List Bs→Bs
 | []=>[]
 | n :: _=>n
def upd {α : Type} (f : List Bs→α) (p : List Bs) (x : α) : List Bs→α:=fun q=>if q=p then x else f q
theorem Bw {α : Type} {f : List Bs→α} {p : List Bs} {x : α} : upd f p x p=x:=if_pos rfl
theorem Bf {α : Type} {f : List Bs→α} {p q : List Bs} {x : α} (h : q≠p) : upd f p x q=f q:=if_neg h
def Tre.names (σ : Tre) (p : List Bs) : List Bs:=(σ.D p).getD []
def insB (n : Bs) : List Bs→List Bs
 | []=>[n]
 | m :: r=>if ltB m n=true then m :: insB n r else if m=n then m :: r else n :: m :: r
def Be (σ : Tre) (p : List Bs) (n : Bs) (v : Val) : Tre:=⟨upd (upd σ.D p (some (insB n (σ.names p)))) (n :: p) none,upd σ.E (n :: p) v⟩
def A9 (σ : Tre) (p : List Bs) : Tre:=⟨upd σ.D p (some []),σ.E⟩
def Dg (σ : Tre) (p : List Bs) (l : List Ent) : Tre:=l.foldl (fun s x=>Be s p x.1 x.2) σ
def Cn (fd : Bs→Option Bs) (σ : Tre) (p : List Bs) : Int × Tre:=
 if (σ.E p).1≠2 then (161,σ)
 else if (σ.D p).isSome=true then (0,σ)
 else if (Dt fd (hdN p,σ.E p)).1≠0 then ((Dt fd (hdN p,σ.E p)).1,σ)
 else (0,Dg (A9 σ p) p (Dt fd (hdN p,σ.E p)).2)
def newD : Val:=(2,[],0)
def Cw (fd : Bs→Option Bs) (find : Bool) : List Bs→Int × Tre→List Bs→Int × (Tre × List Bs)
 | [],r,p=>(r.1,(r.2,p))
 | n :: ns,r,p=>
  if r.1≠0 then (r.1,(r.2,p))
  else if n∈r.2.names p then Cw fd find ns (Cn fd r.2 (n :: p)) (n :: p)
  else if find=true then (160,(r.2,p))
  else Cw fd find ns (0,A9 (Be r.2 p n newD) (n :: p)) (n :: p)
def Eb (σ : Tre) : List Bs→Tre
 | []=>σ
 | n :: p=>
  let τ : Tre:=⟨upd σ.D p (some ((σ.names p).erase n)),σ.E⟩
  if (σ.names p).erase n = []∧p ≠ [] then Eb τ p else τ
abbrev EdP:=Bs × Bs × Int × Bool
def F5 (x : EdP) : Bool:=if x.2.2.2 then decide (x.2.1 = []∧x.2.2.1=0) else decide (x.2.1.length=32∧0≤x.2.2.1∧x.2.2.1≤262144)
def lastS (σ : Tre) (p : List Bs) (n : Bs) (x : EdP) : Int × Tre:=
 if x.2.2.2=true then (if n ∈ σ.names p then (0,Eb σ (n :: p)) else (160,σ))
 else if n ∈ σ.names p∧(σ.E (n :: p)).1=2 then (162,σ)
 else (0,Be σ p n (1,x.2.1,x.2.2.1))
def doS (fd : Bs→Option Bs) (σ : Tre) (x : EdP) : Int × Tre:=
 if Pa.Pt.path x.1=false∨Pa.Pt.parts x.1 = [] then (40,σ)
 else if F5 x=false then (2,σ)
 else
  let r:=Cw fd x.2.2.2 (Pa.Pt.parts x.1).dropLast (Cn fd σ []) []
  if r.1≠0 then (r.1,r.2.1) else lastS r.2.1 r.2.2 ((Pa.Pt.parts x.1).getLastD []) x
def Ec (root : Bs) : Tre:=⟨fun _=>none,fun _=>(2,root,0)⟩
def Eh (fd : Bs→Option Bs) : List EdP→Tre→Int × Tre
 | [],σ=>(0,σ)
 | x :: r,σ=>if (doS fd σ x).1≠0 then ((doS fd σ x).1,(doS fd σ x).2) else Eh fd r (doS fd σ x).2
def entB (n : Bs) (v : Val) : Bs:=if Ck n v=true then valB v else []
structure LayR where
 err : Int
 ent : Val
 objs : List Ag
def Dj (f : List Bs→List Ag→LayR) (p : List Bs) : List Bs→List Ag→List Ag→Int × (List Ag × List Ag)
 | [],ps,os=>(0,(ps,os))
 | n :: ns,ps,os=>if (f (n :: p) os).err≠0 then ((f (n :: p) os).err,(ps,os)) else Dj f p ns (ps ++ [(n,entB n (f (n :: p) os).ent)]) (f (n :: p) os).objs
def Cj (σ : Tre) : Nat→List Bs→List Ag→LayR
 | 0,p,os=>⟨0,σ.E p,os⟩
 | d+1,p,os=>match σ.D p with
  | none=>⟨0,σ.E p,os⟩
  | some L=>
   let k:=Dj (Cj σ d) p L [] os
   if k.1≠0 then ⟨k.1,σ.E p,os⟩
   else if (Cl k.2.1).2.2≠0 then ⟨(Cl k.2.1).2.2,σ.E p,os⟩
   else ⟨0,((σ.E p).1,(Cl k.2.1).1,(k.2.1.length : Int)),Bo k.2.2 (Cl k.2.1).2.1⟩
def editT (fd : Bs→Option Bs) (root : Bs) (xs : List EdP) : Bs × List Ag × Int:=
 if (Eh fd xs (Ec root)).1≠0 then ([],[],(Eh fd xs (Ec root)).1)
 else
  let r:=Cj (Eh fd xs (Ec root)).2 17 [] []
  if r.err≠0 then ([],[],r.err) else (r.ent.2.1,r.objs,0)
end Go.Proofs.YtckejblkppllaaaGreatDoor
namespace Go.Proofs.YtckejblkppllaaaGreatDoor
open Go.RowKit
def At (σ : Tre) : List Bs→Prop
 | []=>True
 | n :: p=>At σ p∧n ∈ σ.names p
def upV (K : List Bs→Nat) : List Bs→Value
 | []=>.pointer none
 | _ :: p=>.pointer (some ⟨K p,0,none⟩)
def inV (σ : Tre) (M : List Bs→Nat) (p : List Bs) : Value:=if (σ.D p).isSome=true then .map (some (M p)) else .map none
def plC (σ : Tre) (K M : List Bs→Nat) (p : List Bs) : Array Value:=#[.string (Ab (hdN p)), .int .i64 (σ.E p).1, .string (Ab (σ.E p).2.1), .int .i64 (σ.E p).2.2,upV K p,inV σ M p]
def C9 (K : List Bs→Nat) (p : List Bs) (n : Bs) : Value × Value:=(.string (Ab n), .pointer (some ⟨K (n :: p),0,none⟩))
abbrev plts : List TypeId:=[75]
theorem Mv.chg {B : Nat} {ts : List TypeId} {r : Option Nat} {w w1 w2 : World} {b : Nat} {l : List (Value × Value)} (h : Mv B ts r w w1) (hm : Mp.MapW w1 b l) (hc : Mp.Chg (· = b) w1 w2) (hB : B≤b) : Mv B ts r w w2:=
 ⟨h.b.trans (hc.below (fun k hk=>by rw [hk]; exact hB) (by have:=hm.lt; omega)),fun k cs t fr hk ht hr=>by
  have h1:=h.k k cs t fr hk ht hr
  rw [hc.block k (Ad h1) (fun e=>Mp.MapW.ne hm h1 e)]
  exact h1⟩
structure Rep (B : Nat) (w : World) (σ : Tre) (K M : List Bs→Nat) : Prop where
 place : ∀ p,At σ p→B≤K p∧w.heap[K p]? = some (.cells (plC σ K M p) 75)
 map : ∀ p L,At σ p→σ.D p=some L→B≤M p∧Mp.MapW w (M p) (L.map (C9 K p))
 inj : ∀ p q,At σ p→At σ q→K p=K q→p=q
 injM : ∀ p q,At σ p→At σ q→σ.D p≠none→σ.D q≠none→M p=M q→p=q
section
variable {B : Nat} {w w' : World} {σ : Tre} {K M : List Bs→Nat} {p : List Bs}
theorem Rep.lt (h : Rep B w σ K M) (hp : At σ p) : K p<w.heap.size:=Ad (h.place p hp).2
theorem Rep.ltM (h : Rep B w σ K M) (hp : At σ p) (hD : σ.D p≠none) : M p<w.heap.size:=by
 cases hd : σ.D p with
 | none=>exact absurd hd hD
 | some L=>exact (h.map p L hp hd).2.lt
theorem Rep.keep (h : Rep B w σ K M) (hk : ∀ p,At σ p→w'.heap[K p]? = w.heap[K p]?) (hm : ∀ p,At σ p→σ.D p≠none→w'.heap[M p]? = w.heap[M p]?) : Rep B w' σ K M:=
 ⟨fun p hp=>⟨(h.place p hp).1,(hk p hp).trans (h.place p hp).2⟩,fun p L hp hD=>⟨(h.map p L hp hD).1,(h.map p L hp hD).2.same (hm p hp (by rw [hD]; simp))⟩,h.inj,h.injM⟩
theorem Rep.below {S : Nat} (h : Rep B w σ K M) (hS : w.heap.size≤S) (hb : Below S w w') : Rep B w' σ K M:=
 h.keep (fun _ hp=>hb.block _ (Nat.lt_of_lt_of_le (h.lt hp) hS)) (fun _ hp hD=>hb.block _ (Nat.lt_of_lt_of_le (h.ltM hp hD) hS))
theorem C2 {L : List Bs} (h : σ.D p=some L) : σ.names p=L:=by unfold Tre.names; rw [h]; rfl
theorem Je (h : σ.D p=none) : σ.names p = []:=by unfold Tre.names; rw [h]; rfl
theorem D5 {L : List Bs} (h : σ.D p=some L) : inV σ M p = .map (some (M p)):=by unfold inV; rw [h]; rfl
theorem Ga (h : σ.D p=none) : inV σ M p = .map none:=by unfold inV; rw [h]; rfl
theorem made_names (hD : σ.D p=none) (q : List Bs) : (A9 σ p).names q = σ.names q:=by
 unfold A9 Tre.names
 by_cases hq : q=p
 ·subst hq
  simp only [Bw,hD]
  rfl
 ·simp only [Bf hq]
theorem Fo (hD : σ.D p=none) : ∀ q,At (A9 σ p) q↔At σ q
 | []=>Iff.rfl
 | n :: q=>by
  unfold At
  rw [Fo hD q,made_names hD q]
theorem Rep.made (h : Rep B w σ K M) (hp : At σ p) (hD : σ.D p=none) (hB : B≤w.heap.size) :
  Rep B ((w.alloc (.map #[] 0)).setCell ⟨K p,5,none⟩ (.map (some w.heap.size))) (A9 σ p) K (upd M p w.heap.size)∧Mv B plts none w ((w.alloc (.map #[] 0)).setCell ⟨K p,5,none⟩ (.map (some w.heap.size))):=by
 have hne : ∀ q,At σ q→w.heap.size≠K q:=fun q hq=>by have:=h.lt hq; omega
 have hlt:=h.lt hp
 refine ⟨⟨fun q hq=>?_,fun q L hq hL=>?_,fun q r hq hr he=>?_,fun q r hq hr h1 h2 he=>?_⟩,((Mv.refl _ _ _ _).alloc hB _).set (j:=5) (Mp.heap_past _ (h.place p hp).2) (by simp) (h.place p hp).1 _⟩
 ·have hq':=(Fo hD q).1 hq
  obtain ⟨a,b⟩:=h.place q hq'
  refine ⟨a,?_⟩
  have b' : (w.alloc (.map #[] 0)).heap[K q]? = some (.cells (plC σ K M q) 75):=Mp.heap_past _ b
  by_cases e : q=p
  ·subst e
   rw [Mp.heap_set b' 5]
   unfold plC
   rw [Ga hD]
   have : inV (A9 σ q) (upd M q w.heap.size) q = .map (some w.heap.size):=by
    rw [D5 (L:=[]) (by unfold A9; exact Bw),Bw]
   rw [this]
   rfl
  ·rw [Mp.heap_set_other b' (fun e'=>e (h.inj q p hq' hp e'))]
   have : inV (A9 σ p) (upd M p w.heap.size) q=inV σ M q:=by
    unfold inV A9
    simp only [Bf e]
   unfold plC
   rw [this]
   rfl
 ·have hq':=(Fo hD q).1 hq
  by_cases e : q=p
  ·subst e
   have hL0 : L = []:=by
    unfold A9 at hL
    simp only [Bw] at hL
    injection hL with hL
    exact hL.symm
   subst hL0
   rw [Bw]
   exact ⟨hB,(Mp.MapW.made w).same (Below.heap_setCell _ _ _ _ (fun e'=>hne q hp e'))⟩
  ·have hL' : σ.D q=some L:=by
    unfold A9 at hL
    simp only [Bf e] at hL
    exact hL
   obtain ⟨a,b⟩:=h.map q L hq' hL'
   rw [Bf e]
   refine ⟨a,b.same ?_⟩
   rw [Below.heap_setCell _ _ _ _ (fun e'=>Mp.MapW.ne b (h.place p hp).2 e'.symm)]
   exact Below.heap_alloc _ _ _ b.lt
 ·exact h.inj q r ((Fo hD q).1 hq) ((Fo hD r).1 hr) he
 ·have hq':=(Fo hD q).1 hq
  have hr':=(Fo hD r).1 hr
  by_cases e1 : q=p
  ·by_cases e2 : r=p
   ·rw [e1,e2]
   ·exfalso
    rw [e1,Bw,Bf e2] at he
    have:=h.ltM hr' (by intro e; apply h2; unfold A9; simp only [Bf e2]; exact e)
    omega
  ·by_cases e2 : r=p
   ·exfalso
    rw [e2,Bw,Bf e1] at he
    have:=h.ltM hq' (by intro e; apply h1; unfold A9; simp only [Bf e1]; exact e)
    omega
   ·rw [Bf e1,Bf e2] at he
    refine h.injM q r hq' hr' (fun e=>h1 ?_) (fun e=>h2 ?_) he
    ·unfold A9; simp only [Bf e1]; exact e
    ·unfold A9; simp only [Bf e2]; exact e
theorem Gq (n m : Bs) : ∀ L : List Bs,m∈insB n L↔m=n∨m∈L
 | []=>by simp [insB]
 | a :: r=>by
  rw [insB]
  split
  ·rw [List.mem_cons,List.mem_cons,Gq n m r]
   constructor
   ·rintro (h | h | h)
    ·exact .inr (.inl h)
    ·exact .inl h
    ·exact .inr (.inr h)
   ·rintro (h | h | h)
    ·exact .inr (.inl h)
    ·exact .inl h
    ·exact .inr (.inr h)
  ·split
   ·rename_i h
    subst h
    simp
   ·simp
def Fa (L : List Bs) : Prop:=L.Pairwise (fun a b=>ltB a b=true)
theorem insB_in {n : Bs} : ∀ {L : List Bs},Fa L→n∈L→insB n L=L
 | [],_,h=>by cases h
 | a :: r,hr,h=>by
  have hr:=List.pairwise_cons.1 hr
  rw [insB]
  rcases List.mem_cons.1 h with rfl | h
  ·rw [if_neg (by rw [Jr]; simp),if_pos rfl]
  ·rw [if_pos (hr.1 n h),insB_in hr.2 h]
theorem insB_perm {n : Bs} : ∀ {L : List Bs},n ∉ L→(insB n L).Perm (n :: L)
 | [],_=>by rw [insB]
 | a :: r,h=>by
  rw [List.mem_cons,not_or] at h
  rw [insB]
  split
  ·exact ((insB_perm h.2).cons a).trans (List.Perm.swap _ _ _)
  ·rw [if_neg (fun e=>h.1 e.symm)]
theorem insB_rise {n : Bs} : ∀ {L : List Bs},Fa L→Fa (insB n L)
 | [],_=>by unfold insB Fa; simp
 | a :: r,hr=>by
  have hr':=List.pairwise_cons.1 hr
  rw [insB]
  split
  ·rename_i h
   refine List.pairwise_cons.2 ⟨fun m hm=>?_,insB_rise hr'.2⟩
   rcases (Gq n m r).1 hm with rfl | hm
   ·exact h
   ·exact hr'.1 m hm
  ·split
   ·exact hr
   ·rename_i h1 h2
    have h3 : ltB n a=true:=by
     cases h4 : ltB n a with
     | true=>rfl
     | false=>exact absurd (ltB_total a n (by simpa using h1) h4) h2
    refine List.pairwise_cons.2 ⟨fun m hm=>?_,hr⟩
    rcases List.mem_cons.1 hm with rfl | hm
    ·exact h3
    ·exact Lx _ _ _ h3 (hr'.1 m hm)
theorem J2 {L : List Bs} (h : Fa L) : L.Nodup:=h.imp fun hab e=>by rw [e,Jr] at hab; cases hab
theorem Ez {n : Bs} {v : Val} : (Be σ p n v).D (n :: p)=none:=by unfold Be; exact Bw
theorem cons_ne (n : Bs) (p : List Bs) : p≠n :: p:=fun e=>by have:=congrArg List.length e; simp at this
theorem Ff {n : Bs} {v : Val} : (Be σ p n v).D p=some (insB n (σ.names p)):=by
 unfold Be
 simp only
 rw [Bf (cons_ne n p),Bw]
theorem Fj {n : Bs} {v : Val} {q : List Bs} (h1 : q≠n :: p) (h2 : q≠p) : (Be σ p n v).D q = σ.D q:=by
 unfold Be
 simp only
 rw [Bf h1,Bf h2]
theorem Fz {n : Bs} {v : Val} : ∀ q,At (Be σ p n v) q→q=n :: p∨(At σ q∧q≠n :: p)
 | [],_=>.inr ⟨trivial,by simp⟩
 | m :: q,⟨h1,h2⟩=>by
  by_cases e : q=n :: p
  ·subst e
   rw [Je Ez] at h2
   cases h2
  ·rcases Fz q h1 with e' | ⟨h3,-⟩
   ·exact absurd e' e
   ·by_cases e2 : q=p
    ·subst e2
     rw [C2 Ff] at h2
     rcases (Gq n m _).1 h2 with rfl | h2
     ·exact .inl rfl
     ·by_cases e3 : m=n
      ·subst e3; exact .inl rfl
      ·exact .inr ⟨⟨h3,h2⟩,fun e'=>e3 (by injection e')⟩
    ·refine .inr ⟨⟨h3,?_⟩,fun e'=>e2 (by injection e')⟩
     unfold Tre.names at h2 ⊢
     rw [Fj e e2] at h2
     exact h2
theorem Hr (K : List Bs→Nat) (p : List Bs) (L : List Bs) : ∀ x∈L.map (C9 K p),Mp.KStr x.1:=by
 intro x hx
 obtain ⟨n,-,rfl⟩:=List.mem_map.1 hx
 exact ⟨_,rfl⟩
theorem kid_ne {K : List Bs→Nat} {p : List Bs} {L : List Bs} {n : Bs} (h : n ∉ L) : ∀ x∈L.map (C9 K p),x.1 ≠ .string (Ab n):=by
 intro x hx e
 obtain ⟨m,hm,rfl⟩:=List.mem_map.1 hx
 injection e with e
 exact h (Jp e ▸ hm)
theorem G6 (w : World) : Mp.KeyKind Tryz.prog 9 w Mp.KStr:=Mp.kind_str Tryz.underlying9
theorem kid_upd {K : List Bs→Nat} {p : List Bs} {n : Bs} {k : Nat} {L : List Bs} (h : n ∉ L) : L.map (C9 (upd K (n :: p) k) p)=L.map (C9 K p):=by
 refine List.map_congr_left fun m hm=>?_
 unfold C9
 rw [Bf (fun e=>h (by injection e with e; exact e ▸ hm))]
theorem Rep.lay (h : Rep B w σ K M) (hp : At σ p) {L : List Bs} (hD : σ.D p=some L) (hL : Fa L) (hB : B≤w.heap.size) (n : Bs) (v : Val) :
  ∃ w',(Instr.mapUpdate 73 (.map (some (M p))) (.string (Ab n)) (.pointer (some ⟨w.heap.size,0,none⟩))).run Tryz.prog (w.alloc (.cells #[.string (Ab n), .int .i64 v.1, .string (Ab v.2.1), .int .i64 v.2.2, .pointer (some ⟨K p,0,none⟩), .map none] 75)) = .ok () w' ∧
   Rep B w' (Be σ p n v) (upd K (n :: p) w.heap.size) M∧Mv B plts none w w'∧w'.heap.size=w.heap.size+1:=by
 obtain ⟨hMp,hmap⟩:=h.map p L hp hD
 obtain ⟨w1,hw1⟩ : ∃ w1,w1=w.alloc (.cells #[.string (Ab n), .int .i64 v.1, .string (Ab v.2.1), .int .i64 v.2.2, .pointer (some ⟨K p,0,none⟩), .map none] 75):=⟨_,rfl⟩
 rw [← hw1]
 have hb1 : Below w.heap.size w w1:=by rw [hw1]; exact (Below.refl _ _).alloc (Nat.le_refl _) _
 have hk1 : w1.heap[w.heap.size]? = some (.cells #[.string (Ab n), .int .i64 v.1, .string (Ab v.2.1), .int .i64 v.2.2, .pointer (some ⟨K p,0,none⟩), .map none] 75):=by rw [hw1]; exact Mp.heap_last _ _
 have hs1 : w1.heap.size=w.heap.size+1:=by rw [hw1]; simp
 have hmap1:=hmap.same (hb1.block _ hmap.lt)
 clear hw1
 have hput : ∃ w',(Instr.mapUpdate 73 (.map (some (M p))) (.string (Ab n)) (.pointer (some ⟨w.heap.size,0,none⟩))).run Tryz.prog w1 = .ok () w'∧Mp.MapW w' (M p) ((insB n L).map (C9 (upd K (n :: p) w.heap.size) p))∧Mp.Chg (· = M p) w1 w'∧w'.heap.size=w1.heap.size:=by
  have e0 : C9 (upd K (n :: p) w.heap.size) p n=(.string (Ab n), .pointer (some ⟨w.heap.size,0,none⟩)):=by unfold C9; rw [Bw]
  by_cases hn : n∈L
  ·rw [insB_in hL hn]
   have hper:=List.perm_cons_erase hn
   have hne : n ∉ L.erase n:=fun e=>by
    have:=(J2 hL)
    exact (List.Nodup.mem_erase_iff this).1 e |>.1 rfl
   have h2:=hmap1.perm (hper.map (C9 K p))
   rw [List.map_cons] at h2
   obtain ⟨w',r1,r2,r3,r4⟩:=Mp.MapW.put_old (x:=.string (Ab n)) h2 (G6 w1) (Hr K p _) Tryz.underlying73 ⟨_,rfl⟩ (.pointer (some ⟨w.heap.size,0,none⟩))
   refine ⟨w',r1,r2.perm ?_,r3,r4⟩
   have h3:=hper.map (C9 (upd K (n :: p) w.heap.size) p)
   rw [List.map_cons,e0,kid_upd hne] at h3
   exact h3.symm
  ·obtain ⟨w',r1,r2,r3,r4⟩:=hmap1.put_new (G6 w1) (Hr K p L) Tryz.underlying73 ⟨_,rfl⟩ (kid_ne hn) (.pointer (some ⟨w.heap.size,0,none⟩))
   refine ⟨w',r1,r2.perm ?_,r3,r4⟩
   have h3:=(insB_perm hn).map (C9 (upd K (n :: p) w.heap.size) p)
   rw [List.map_cons,e0,kid_upd hn] at h3
   exact h3.symm
 obtain ⟨w',r1,r2,r3,r4⟩:=hput
 have hold : ∀ k,k<w.heap.size→k≠M p→w'.heap[k]? = w.heap[k]?:=fun k hk hne=>(r3.block k (by omega) hne).trans (hb1.block k hk)
 refine ⟨w',r1,⟨fun q hq=>?_,fun q L' hq hL'=>?_,fun q r hq hr he=>?_,fun q r hq hr g1 g2 he=>?_⟩,(Mv.of hb1 hB).chg hmap1 r3 hMp,by omega⟩
 ·rcases Fz q hq with rfl | ⟨hq',hne⟩
  ·rw [Bw]
   refine ⟨hB,?_⟩
   rw [r3.block _ (by omega) (fun e=>by have:=hmap.lt; omega),hk1]
   unfold plC
   rw [Ga Ez,show upV (upd K (n :: p) w.heap.size) (n :: p) = .pointer (some ⟨upd K (n :: p) w.heap.size p,0,none⟩) from rfl,Bf (cons_ne n p)]
   unfold Be
   simp only [Bw]
   rfl
  ·obtain ⟨a,b⟩:=h.place q hq'
   rw [Bf hne]
   refine ⟨a,?_⟩
   rw [hold _ (Ad b) (fun e=>Mp.MapW.ne hmap b e),b]
   unfold plC
   have e1 : (Be σ p n v).E q = σ.E q:=by unfold Be; exact Bf hne
   have e2 : inV (Be σ p n v) M q=inV σ M q:=by
    by_cases e : q=p
    ·subst e
     rw [D5 Ff,D5 hD]
    ·unfold inV
     rw [Fj hne e]
   have e3 : upV (upd K (n :: p) w.heap.size) q=upV K q:=by
    cases q with
    | nil=>rfl
    | cons m r=>
     show Value.pointer (some ⟨upd K (n :: p) w.heap.size r,0,none⟩) = .pointer (some ⟨K r,0,none⟩)
     rw [Bf]
     rintro rfl
     have:=hq.2
     rw [Je Ez] at this
     cases this
   rw [e1,e2,e3]
 ·have hne : q≠n :: p:=by
   rintro rfl
   rw [Ez] at hL'
   cases hL'
  have hq' : At σ q:=by
   rcases Fz q hq with e | ⟨e,-⟩
   ·exact absurd e hne
   ·exact e
  by_cases e : q=p
  ·subst e
   rw [Ff,C2 hD] at hL'
   injection hL' with hL'
   rw [← hL']
   exact ⟨hMp,r2⟩
  ·rw [Fj hne e] at hL'
   obtain ⟨a,b⟩:=h.map q L' hq' hL'
   refine ⟨a,?_⟩
   have hno : L'.map (C9 (upd K (n :: p) w.heap.size) q)=L'.map (C9 K q):=by
    refine List.map_congr_left fun m _=>?_
    unfold C9
    rw [Bf (fun e'=>e (by injection e'))]
   rw [hno]
   exact b.same (hold _ b.lt (fun e'=>e (h.injM q p hq' hp (by rw [hL']; simp) (by rw [hD]; simp) e')))
 ·rcases Fz q hq with rfl | ⟨hq',hne⟩
  ·rcases Fz r hr with rfl | ⟨hr',hne⟩
   ·rfl
   ·rw [Bw,Bf hne] at he
    have:=h.lt hr'
    omega
  ·rcases Fz r hr with rfl | ⟨hr',hne2⟩
   ·rw [Bw,Bf hne] at he
    have:=h.lt hq'
    omega
   ·rw [Bf hne,Bf hne2] at he
    exact h.inj q r hq' hr' he
 ·have hq1 : q≠n :: p:=fun e=>g1 (by rw [e]; exact Ez)
  have hr1 : r≠n :: p:=fun e=>g2 (by rw [e]; exact Ez)
  have hq' : At σ q:=(Fz q hq).elim (fun e=>absurd e hq1) (·.1)
  have hr' : At σ r:=(Fz r hr).elim (fun e=>absurd e hr1) (·.1)
  have k1 : ∀ s,s≠n :: p→(Be σ p n v).D s≠none→σ.D s≠none:=fun s hs1 hs2=>by
   by_cases e : s=p
   ·rw [e,hD]; simp
   ·rwa [Fj hs1 e] at hs2
  exact h.injM q r hq' hr' (k1 q hq1 g1) (k1 r hr1 g2) he
def Ca (σ : Tre) (p : List Bs) (n : Bs) : Tre:=⟨upd σ.D p (some ((σ.names p).erase n)),σ.E⟩
theorem Fx {n : Bs} : ∀ q,At (Ca σ p n) q→At σ q
 | [],_=>trivial
 | m :: q,⟨h1,h2⟩=>by
  refine ⟨Fx q h1,?_⟩
  by_cases e : q=p
  ·subst e
   rw [C2 (L:=(σ.names q).erase n) (by unfold Ca; exact Bw)] at h2
   exact List.mem_of_mem_erase h2
  ·unfold Tre.names Ca at h2
   simp only [Bf e] at h2
   exact h2
theorem Rep.cut (h : Rep B w σ K M) (hp : At σ p) {L : List Bs} (hD : σ.D p=some L) (_hL : Fa L) {n : Bs} (hn : n∈L) (ty : TypeId) :
  ∃ w',(Builtin.delete_ #[73,9] ty #[.map (some (M p)), .string (Ab n)]).run Tryz.prog w = .ok (.tuple #[]) w'∧Rep B w' (Ca σ p n) K M∧Mv B [] none w w'∧w'.heap.size=w.heap.size:=by
 obtain ⟨hMp,hmap⟩:=h.map p L hp hD
 have h2:=hmap.perm ((List.perm_cons_erase hn).map (C9 K p))
 rw [List.map_cons] at h2
 obtain ⟨w',r1,r2,r3,r4⟩:=Mp.MapW.drop_old (x:=.string (Ab n)) h2 (G6 w) (Hr K p _) Tryz.underlying73 ⟨_,rfl⟩ ty 9
 have hold : ∀ k,k<w.heap.size→k≠M p→w'.heap[k]? = w.heap[k]?:=fun k hk hne=>r3.block k hk hne
 have hDp : (Ca σ p n).D p=some (L.erase n):=by unfold Ca; simp only [Bw]; rw [C2 hD]
 have hDq : ∀ q,q≠p→(Ca σ p n).D q = σ.D q:=fun q hq=>by unfold Ca; exact Bf hq
 have hnn : ∀ q,(Ca σ p n).D q≠none→σ.D q≠none:=fun q hq=>by
  by_cases e : q=p
  ·rw [e,hD]; simp
  ·rwa [hDq q e] at hq
 refine ⟨w',r1,⟨fun q hq=>?_,fun q L' hq hL'=>?_,fun q r hq hr he=>h.inj q r (Fx q hq) (Fx r hr) he,fun q r hq hr g1 g2 he=>h.injM q r (Fx q hq) (Fx r hr) (hnn q g1) (hnn r g2) he⟩,(Mv.refl _ _ _ _).chg hmap r3 hMp,r4⟩
 ·obtain ⟨a,b⟩:=h.place q (Fx q hq)
  refine ⟨a,?_⟩
  rw [hold _ (Ad b) (fun e=>Mp.MapW.ne hmap b e),b]
  unfold plC
  have e2 : inV (Ca σ p n) M q=inV σ M q:=by
   by_cases e : q=p
   ·subst e
    rw [D5 hDp,D5 hD]
   ·unfold inV
    rw [hDq q e]
  rw [e2]
  rfl
 ·by_cases e : q=p
  ·subst e
   rw [hDp] at hL'
   injection hL' with hL'
   rw [← hL']
   exact ⟨hMp,r2⟩
  ·rw [hDq q e] at hL'
   obtain ⟨a,b⟩:=h.map q L' (Fx q hq) hL'
   exact ⟨a,b.same (hold _ b.lt (fun e'=>e (h.injM q p (Fx q hq) hp (by rw [hL']; simp) (by rw [hD]; simp) e')))⟩
theorem Rep.ent (h : Rep B w σ K M) (hp : At σ p) (id : Bs) (size : Int) :
  Rep B ((w.setCell ⟨K p,2,none⟩ (.string (Ab id))).setCell ⟨K p,3,none⟩ (.int .i64 size)) ⟨σ.D,upd σ.E p ((σ.E p).1,id,size)⟩ K M∧Mv B plts none w ((w.setCell ⟨K p,2,none⟩ (.string (Ab id))).setCell ⟨K p,3,none⟩ (.int .i64 size)):=by
 obtain ⟨hK,hh⟩:=h.place p hp
 have hat : ∀ q,At ⟨σ.D,upd σ.E p ((σ.E p).1,id,size)⟩ q↔At σ q:=fun q=>by
  induction q with
  | nil=>exact Iff.rfl
  | cons n q ih=>unfold At; rw [ih]; rfl
 refine ⟨⟨fun q hq=>?_,fun q L hq hL=>?_,fun q r hq hr he=>h.inj q r ((hat q).1 hq) ((hat r).1 hr) he,fun q r hq hr g1 g2 he=>h.injM q r ((hat q).1 hq) ((hat r).1 hr) g1 g2 he⟩,((Mv.refl _ _ _ _).set (j:=2) hh (by simp) hK _).set (j:=3) (Mp.heap_set hh 2 _) (by simp) hK _⟩
 ·obtain ⟨a,b⟩:=h.place q ((hat q).1 hq)
  refine ⟨a,?_⟩
  by_cases e : q=p
  ·subst e
   rw [Mp.heap_set (Mp.heap_set b 2 _) 3]
   unfold plC
   simp only [Bw]
   rfl
  ·have hne : K q≠K p:=fun e'=>e (h.inj q p ((hat q).1 hq) hp e')
   rw [Mp.heap_set_other (Mp.heap_set_other b hne) hne]
   unfold plC
   simp only [Bf e]
   rfl
 ·obtain ⟨a,b⟩:=h.map q L ((hat q).1 hq) hL
  refine ⟨a,b.same ?_⟩
  have hne : M q≠K p:=fun e=>Mp.MapW.ne b hh e.symm
  rw [Below.heap_setCell _ _ _ _ hne,Below.heap_setCell _ _ _ _ hne]
end
end Go.Proofs.YtckejblkppllaaaGreatDoor
namespace Go.Proofs.YtckejblkppllaaaGreatDoor
open Go.RowKit
structure Tst (σ : Type) where
 asked : List Bs
 told : Bs
 s : σ
structure Sink (σ : Type) where
 st : σ→Ag→σ × Bool
 er : σ→Int→σ
 cap : σ→Nat
 grows : ∀ s x,cap (st s x).1≤cap s+1
 stays : ∀ s e,cap (er s e)≤cap s
variable {σ : Type}
def Bu (k : Sink σ) (lo hi : Bs) : List Ag→Tst σ→Tst σ × Bool
 | [],t=>(t,true)
 | x :: r,t=>if inM lo hi x.1 then (if ltB t.told x.1 then (if (k.st t.s x).2 then Bu k lo hi r ⟨t.asked,x.1,(k.st t.s x).1⟩ else (⟨t.asked,x.1,(k.st t.s x).1⟩,false)) else (⟨t.asked,t.told,k.er t.s 122⟩,false)) else Bu k lo hi r t
def Bx (f : Ah→Tst σ→Tst σ × Bool) (lo hi : Bs) : List Ah→Tst σ→Tst σ × Bool
 | [],t=>(t,true)
 | k :: r,t=>
  if ltB k.1 lo then (if Bl hi k.1 then (t,true) else Bx f lo hi r t)
  else if (f k t).2 then (if Bl hi k.1 then ((f k t).1,true) else Bx f lo hi r (f k t).1)
  else ((f k t).1,false)
def D2 (k : Sink σ) (f : Ah→Int→Tst σ→Tst σ × Bool) (lo hi : Bs) (a : Int × A2) (t : Tst σ) : Tst σ × Bool:=
 if a.1≠0 then (⟨t.asked,t.told,k.er t.s a.1⟩,false)
 else if (Bu k lo hi a.2.2.1 t).2 then Bx (fun q u=>f q (a.2.1 - 1) u) lo hi a.2.2.2 (Bu k lo hi a.2.2.1 t).1
 else ((Bu k lo hi a.2.2.1 t).1,false)
def goT (k : Sink σ) (fd : Bs→Option Bs) (lo hi : Bs) : Nat→Ah→Int→Tst σ→Tst σ × Bool
 | 0,_,_,t=>(t,false)
 | d+1,q,level,t=>D2 k (goT k fd lo hi d) lo hi (Ao fd q level) ⟨t.asked ++ [q.2.1],t.told,t.s⟩
def Dl (k : Sink σ) (s t : Tst σ) (n m : Nat) : Prop:=t.asked.length≤s.asked.length+n∧k.cap t.s≤k.cap s.s+m
theorem Dl.refl {k : Sink σ} (s : Tst σ) : Dl k s s 0 0:=⟨by omega,by omega⟩
theorem Dl.trans {k : Sink σ} {s t u : Tst σ} {n m n' m' : Nat} (h : Dl k s t n m) (g : Dl k t u n' m') : Dl k s u (n+n') (m+m'):=⟨by have:=h.1; have:=g.1; omega,by have:=h.2; have:=g.2; omega⟩
theorem Dl.le {k : Sink σ} {s t : Tst σ} {n m n' m' : Nat} (h : Dl k s t n m) (h1 : n≤n') (h2 : m≤m') : Dl k s t n' m':=⟨by have:=h.1; omega,by have:=h.2; omega⟩
theorem It (k : Sink σ) (lo hi : Bs) : ∀ (ps : List Ag) (t : Tst σ),Dl k t (Bu k lo hi ps t).1 0 ps.length
 | [],t=>Dl.refl t
 | x :: r,t=>by
  rw [Bu]
  have h0:=k.grows t.s x
  by_cases h1 : inM lo hi x.1=true
  ·rw [if_pos h1]
   by_cases h2 : ltB t.told x.1=true
   ·rw [if_pos h2]
    by_cases h3 : (k.st t.s x).2=true
    ·rw [if_pos h3]
     obtain ⟨g1,g2⟩:=It k lo hi r ⟨t.asked,x.1,(k.st t.s x).1⟩
     exact ⟨g1,by simp only at g2; rw [List.length_cons]; omega⟩
    ·rw [if_neg h3]
     exact ⟨by simp only; omega,by simp only [List.length_cons]; omega⟩
   ·rw [if_neg h2]
    have:=k.stays t.s 122
    exact ⟨by simp only; omega,by simp only [List.length_cons]; omega⟩
  ·rw [if_neg h1]
   exact (It k lo hi r t).le (Nat.le_refl _) (by simp)
theorem Mw {k : Sink σ} {f : Ah→Tst σ→Tst σ × Bool} {c : Nat} {lo hi : Bs} (hf : ∀ q t,A6 q=true→Dl k t (f q t).1 (c * q.2.2.toNat) q.2.2.toNat) : ∀ (ks : List Ah) (t : Tst σ),(∀ q∈ks,A6 q=true)→Dl k t (Bx f lo hi ks t).1 (c * (Am ks).toNat) (Am ks).toNat
 | [],t,_=>(Dl.refl t).le (by simp) (by simp)
 | q :: r,t,h=>by
  have h0:=h q (by simp)
  have h2:=Ef r (fun p hp=>h p (by simp [hp]))
  have h3:=((Ee q).1 h0).2.2.1
  have e : (Am (q :: r)).toNat=q.2.2.toNat+(Am r).toNat:=by rw [If]; omega
  have h1:=hf q t h0
  have hr:=fun u=>Mw (lo:=lo) (hi:=hi) hf r u (fun p hp=>h p (by simp [hp]))
  rw [Bx,e,Nat.mul_add]
  split
  ·split
   ·exact (Dl.refl t).le (by simp) (by simp)
   ·exact (hr t).le (by omega) (by omega)
  ·split
   ·split
    ·exact h1.le (by omega) (by omega)
    ·exact h1.trans (hr _)
   ·exact h1.le (by omega) (by omega)
theorem intoT_grows {k : Sink σ} {f : Ah→Int→Tst σ→Tst σ × Bool} {c : Nat} {lo hi : Bs} {n : A2} (hR : RightM n) (hf : 1≤n.1→∀ q t,A6 q=true→Dl k t (f q (n.1 - 1) t).1 (c * q.2.2.toNat) q.2.2.toNat) (e : Int) (t : Tst σ) : Dl k t (D2 k f lo hi (e,n) t).1 (c * (Am n.2.2).toNat) (n.2.1.length+(Am n.2.2).toNat):=by
 unfold D2
 have h1:=k.stays t.s e
 split
 ·exact ⟨by simp only; omega,by simp only; omega⟩
 ·have h2:=It k lo hi n.2.1 t
  split
  ·by_cases h0 : 1≤n.1
   ·have h3:=Mw (f:=fun q u=>f q (n.1 - 1) u) (lo:=lo) (hi:=hi) (hf h0) n.2.2 (Bu k lo hi n.2.1 t).1 hR.links.2.1
    have:=h2.trans h3
    exact this.le (by omega) (by omega)
   ·have hz : n.1=0:=by have:=hR.lo; omega
    obtain ⟨q1,-⟩:=hR.leaf hz
    simp only [q1,Bx]
    exact h2.le (by omega) (by omega)
  ·exact h2.le (by omega) (by omega)
theorem goT_grows {k : Sink σ} (fd : Bs→Option Bs) (hs : ∀ id b,fd id=some b→b.length≤140737488355328) (lo hi : Bs) : ∀ (d : Nat) (q : Ah) (level : Int) (t : Tst σ),A6 q=true→0≤level→level≤20→Dl k t (goT k fd lo hi d q level t).1 (d * q.2.2.toNat) q.2.2.toNat
 | 0,q,level,t,_,_,_=>(Dl.refl t).le (by simp) (by simp)
 | d+1,q,level,t,hk,hl,hl2=>by
  have hm:=((Ee q).1 hk).2.2.1
  have hd : (d+1) * q.2.2.toNat=d * q.2.2.toNat+q.2.2.toNat:=by rw [Nat.add_mul]; simp
  rw [goT]
  obtain ⟨e,n,hen⟩ : ∃ e n,Ao fd q level=(e,n):=⟨_,_,rfl⟩
  rw [hen]
  by_cases h1 : e=0
  ·have hok:=Eg (fd:=fd) (k:=q) (level:=level) hs (by rw [hen]; exact h1)
   rw [hen] at hok
   have hok : RightM n∧(level<0∨D8 n q level=true):=hok
   obtain ⟨hR,hF⟩:=hok
   rcases hF with hF | hF
   ·omega
   obtain ⟨g1,g2⟩:=Fw hF
   unfold Bt at g2
   have h5:=Ef n.2.2 hR.links.2.1
   have:=intoT_grows (k:=k) (f:=goT k fd lo hi d) (c:=d) (lo:=lo) (hi:=hi) hR (fun h0 p u hp=>goT_grows fd hs lo hi d p (n.1 - 1) u hp (by omega) (by have:=hR.hi; omega)) e ⟨t.asked ++ [q.2.1],t.told,t.s⟩
   obtain ⟨x1,x2⟩:=this
   simp only [List.length_append,List.length_singleton] at x1 x2
   have h6 : (Am n.2.2).toNat≤q.2.2.toNat:=by omega
   have h7:=Nat.mul_le_mul_left d h6
   exact ⟨by omega,by omega⟩
  ·unfold D2
   rw [if_pos h1]
   have:=k.stays t.s e
   exact ⟨by simp only [List.length_append,List.length_singleton]; omega,by simp only; omega⟩
def Ek : Sink (List Ag × Int) where
 st s x:=((s.1 ++ [x],s.2),true)
 er s e:=(s.1,e)
 cap s:=s.1.length
 grows s x:=by simp
 stays s e:=by simp
def Same (u : LsS) (t : Tst (List Ag × Int) × Bool) : Prop:=u.asked=t.1.asked∧u.out=t.1.s.1∧u.bad=t.1.s.2∧(t.2=true↔u.bad=0)∧(u.bad=0→t.1.told=By u.out)
theorem told_first {out : List Ag} {k : Bs} (hk : 1≤k.length) (asked : List Bs) (bad : Int) : Ey ⟨asked,out,bad⟩ k = !ltB (By out) k:=by
 unfold Ey
 cases out with
 | nil=>
  cases k with
  | nil=>simp at hk
  | cons a r=>simp [By,Gi]
 | cons a r=>simp
theorem Lf (lo hi : Bs) : ∀ (ps : List Ag) (asked : List Bs) (out : List Ag) (told : Bs),(∀ p∈ps,1≤p.1.length)→told=By out→Same (Ct lo hi ps ⟨asked,out,0⟩) (Bu Ek lo hi ps ⟨asked,told,(out,0)⟩)
 | [],asked,out,told,_,ht=>⟨rfl,rfl,rfl,by simp [Bu,Ct],fun _=>ht⟩
 | x :: r,asked,out,told,hp,ht=>by
  rw [Ct,Bu]
  by_cases h1 : inM lo hi x.1=true
  ·rw [if_pos h1,if_pos h1,told_first (hp x (by simp))]
   simp only
   rw [ht]
   cases h2 : ltB (By out) x.1 with
   | true=>
    simp only [Bool.not_true,Bool.false_eq_true,if_false,if_true]
    exact Lf lo hi r asked (out ++ [x]) x.1 (fun p hp'=>hp p (by simp [hp'])) (by simp [By])
   | false=>
    simp only [Bool.not_false,if_true,Bool.false_eq_true,if_false]
    exact ⟨rfl,rfl,rfl,by simp,by simp⟩
  ·rw [if_neg h1,if_neg h1]
   exact Lf lo hi r asked out told (fun p hp'=>hp p (by simp [hp'])) ht
theorem Ka {f : Ah→LsS→LsS} {lo hi : Bs} : ∀ (ks : List Ah) (s : LsS),s.bad≠0→Cd f lo hi ks s=s
 | [],_,_=>rfl
 | k :: r,s,h=>by
  rw [Cd,if_neg (show ¬ (s.bad=0∧ltB k.1 lo=false) from fun q=>h q.1)]
  split
  ·rfl
  ·exact Ka r s h
theorem Nr {f : Ah→LsS→LsS} {g : Ah→Tst (List Ag × Int)→Tst (List Ag × Int) × Bool} {lo hi : Bs} (h : ∀ k asked out told,A6 k=true→told=By out→Same (f k ⟨asked,out,0⟩) (g k ⟨asked,told,(out,0)⟩)) : ∀ (ks : List Ah) (asked : List Bs) (out : List Ag) (told : Bs),(∀ k∈ks,A6 k=true)→told=By out→Same (Cd f lo hi ks ⟨asked,out,0⟩) (Bx g lo hi ks ⟨asked,told,(out,0)⟩)
 | [],asked,out,told,_,ht=>⟨rfl,rfl,rfl,by simp [Bx,Cd],fun _=>ht⟩
 | k :: r,asked,out,told,hk,ht=>by
  have ih:=fun asked out told=>Nr (lo:=lo) (hi:=hi) h r asked out told (fun q hq=>hk q (by simp [hq]))
  rw [Cd,Bx]
  by_cases h1 : ltB k.1 lo=true
  ·rw [if_pos h1,if_neg (show ¬ ((⟨asked,out,0⟩ : LsS).bad=0∧ltB k.1 lo=false) by rw [h1]; simp)]
   by_cases h2 : Bl hi k.1=true
   ·rw [if_pos h2,if_pos h2]
    exact ⟨rfl,rfl,rfl,by simp,fun _=>ht⟩
   ·rw [if_neg h2,if_neg h2]
    exact ih asked out told ht
  ·have h1 : ltB k.1 lo=false:=by simpa using h1
   rw [h1,if_pos (show (⟨asked,out,0⟩ : LsS).bad=0∧false=false from ⟨rfl,rfl⟩)]
   simp only [Bool.false_eq_true,if_false]
   obtain ⟨e1,e2,e3,e4,e5⟩:=h k asked out told (hk k (by simp)) ht
   rcases hg : g k ⟨asked,told,(out,0)⟩ with ⟨⟨a',t',o',b'⟩,fl⟩
   rcases hfk : f k ⟨asked,out,0⟩ with ⟨a'',o'',b''⟩
   simp only [hg,hfk] at e1 e2 e3 e4 e5
   subst e1 e2 e3
   by_cases hb : b''=0
   ·have hfl : fl=true:=e4.2 hb
    subst hb
    simp only [hfl,if_true]
    by_cases h2 : Bl hi k.1=true
    ·rw [if_pos h2,if_pos h2]
     exact ⟨rfl,rfl,rfl,by simp,e5⟩
    ·rw [if_neg h2,if_neg h2]
     exact ih _ _ _ (e5 rfl)
   ·have hfl : fl=false:=by cases fl; rfl; exact absurd (e4.1 rfl) hb
    simp only [hfl,Bool.false_eq_true,if_false]
    have : (if Bl hi k.1=true then (⟨a'',o'',b''⟩ : LsS) else Cd f lo hi r ⟨a'',o'',b''⟩)=⟨a'',o'',b''⟩:=by
     split
     ·rfl
     ·exact Ka r _ hb
    rw [this]
    exact ⟨rfl,rfl,rfl,by simp [hb],fun q=>absurd q hb⟩
theorem leaf_keys {n : A2} (h : RightM n) : ∀ p∈n.2.1,1≤p.1.length:=by
 intro p hp
 by_cases h0 : n.1=0
 ·obtain ⟨-,hl⟩:=h.leaf h0
  have:=(G2 hl).2 p hp
  unfold A3 As at this
  simp at this
  omega
 ·obtain ⟨he,-⟩:=h.branch (by have:=h.lo; omega)
  rw [he] at hp
  cases hp
theorem goT_same (fd : Bs→Option Bs) (hs : ∀ id b,fd id=some b→b.length≤140737488355328) (lo hi : Bs) : ∀ (d : Nat) (k : Ah) (level : Int) (asked : List Bs) (out : List Ag) (told : Bs),(level = -1∧21≤d∨0≤level∧level≤20∧level<d)→told=By out→Same (goM fd lo hi d k level ⟨asked,out,0⟩) (goT Ek fd lo hi d k level ⟨asked,told,(out,0)⟩)
 | 0,_,_,_,_,_,h,_=>by omega
 | d+1,k,level,asked,out,told,hlv,ht=>by
  rw [goM,goT]
  obtain ⟨e,n,hen⟩ : ∃ e n,Ao fd k level=(e,n):=⟨_,_,rfl⟩
  have hok:=fun h=>Eg (fd:=fd) (k:=k) (level:=level) hs h
  rw [hen] at hok ⊢
  simp only at hok ⊢
  unfold D2
  simp only
  by_cases h1 : e=0
  ·rw [if_neg (by rw [h1]; simp),if_neg (by rw [h1]; simp)]
   obtain ⟨hR,hF⟩:=hok h1
   obtain ⟨e1,e2,e3,e4,e5⟩:=Lf lo hi n.2.1 (asked ++ [k.2.1]) out told (leaf_keys hR) ht
   rcases hg : Bu Ek lo hi n.2.1 ⟨asked ++ [k.2.1],told,(out,0)⟩ with ⟨⟨a',t',o',b'⟩,fl⟩
   rcases hfk : Ct lo hi n.2.1 ⟨asked ++ [k.2.1],out,0⟩ with ⟨a'',o'',b''⟩
   simp only [hg,hfk] at e1 e2 e3 e4 e5
   subst e1 e2 e3
   simp only
   by_cases hb : b''=0
   ·have hfl : fl=true:=e4.2 hb
    subst hb
    simp only [hfl,if_true]
    by_cases h0 : n.1=0
    ·obtain ⟨q1,-⟩:=hR.leaf h0
     simp only [q1,Cd,Bx]
     exact ⟨rfl,rfl,rfl,by simp,e5⟩
    ·have hlo:=hR.lo
     have hhi:=hR.hi
     have hn : n.1=level∨level = -1:=by
      rcases hF with h | h
      ·right; omega
      ·left; exact (Fw h).1
     exact Nr (f:=fun q t=>goM fd lo hi d q (n.1 - 1) t) (g:=fun q u=>goT Ek fd lo hi d q (n.1 - 1) u) (fun q asked out told _ ht=>goT_same fd hs lo hi d q (n.1 - 1) asked out told (.inr ⟨by omega,by omega,by omega⟩) ht) n.2.2 _ _ _ hR.links.2.1 (e5 rfl)
   ·have hfl : fl=false:=by cases fl; rfl; exact absurd (e4.1 rfl) hb
    simp only [hfl,Bool.false_eq_true,if_false]
    rw [Ka _ _ (by exact hb)]
    exact ⟨rfl,rfl,rfl,by simp [hb],fun q=>absurd q hb⟩
  ·rw [if_pos h1,if_pos h1]
   exact ⟨rfl,rfl,rfl,by simp [h1],fun q=>absurd q h1⟩
end Go.Proofs.YtckejblkppllaaaGreatDoor
namespace Go.Proofs.YtckejblkppllaaaGreatDoor
open Go.RowKit
attribute [local go_sem] Oper.semAt_some
structure GoW (B : Nat) (W : World) (gb : Nat) (gv yv : Value) (lo hi told : Bs) : Prop where
 le : B≤gb
 cell : W.heap[gb]? = some (.cells #[gv, .string (Ab lo), .string (Ab hi),yv, .string (Ab told)] 255)
abbrev jts : List TypeId:=[255,9,76]
theorem Mv.absorb {B : Nat} {ts ts' : List TypeId} {r : Option Nat} {W W' : World} (h : Mv B ts r W W') (hr : ∀ q,r=some q→∃ cs fr,W.heap[q]? = some (.cells cs 135 fr)) (hp : 135∈ts') (hs : ∀ t∈ts,t∈ts') : Mv B ts' Option.none W W':=
 ⟨h.b,fun k cs t fr hk ht _=>h.k k cs t fr hk (fun hm=>ht (hs t hm)) (fun e=>by
  obtain ⟨cs',fr',hq⟩:=hr k e.symm
  rw [hk] at hq
  injection hq with hq
  injection hq with _ hq
  exact ht (hq ▸ hp))⟩
structure YieldOk {σ : Type} (l : Nat) (k : Sink σ) (B : Nat) (sts : List TypeId) (J Jx : Value→σ→World→Prop) : Prop where
 keep : ∀ {v : Value} {s : σ} {W W' : World},J v s W→Mv B jts Option.none W W'→KO W W'→J v s W'
 row : ∀ {v : Value} {s : σ} {W : World} {q : Nat},J v s W→v.ownBlock=some q→∃ cs fr,W.heap[q]? = some (.cells cs 135 fr)
 tell : ∀ (v : Value) (s : σ) (x : Ag) (W : World),J v s W→k.cap s≤1000000→YieldAt Fence.wide 0 Tryz.prog l #[.agg #[.string (Ab x.1), .string (Ab x.2)], .int .i64 0] W fun e W'=>∃ v',e = .returned (.bool (k.st s x).2)∧Mv B sts v.ownBlock W W'∧Nx W v.ownBlock v'.ownBlock∧((k.st s x).2=true→J v' (k.st s x).1 W')∧((k.st s x).2=false→Jx v' (k.st s x).1 W')
 fail : ∀ (v : Value) (s : σ) (er : Int) (W : World),J v s W→er≠0→YieldAt Fence.wide 0 Tryz.prog l #[.agg #[.string ⟨#[]⟩, .string ⟨#[]⟩], .int .i64 er] W fun e W'=>∃ v' b,e = .returned (.bool b)∧Mv B sts v.ownBlock W W'∧Nx W v.ownBlock v'.ownBlock∧Jx v' (k.er s er) W'
 apart : 255 ∉ sts∧135 ∉ sts∧125 ∉ sts∧240 ∉ sts
abbrev gts (sts : List TypeId) : List TypeId:=255 :: 9 :: 76 :: sts
theorem Iw (sts : List TypeId) : ∀ t∈sts,t∈gts sts:=fun _t h=>List.mem_cons_of_mem _ (List.mem_cons_of_mem _ (List.mem_cons_of_mem _ h))
theorem jts_sub (sts : List TypeId) : ∀ t∈jts,t∈gts sts:=by
 intro t h
 simp only [List.mem_cons,List.not_mem_nil,or_false] at h
 rcases h with rfl | rfl | rfl
 ·exact List.mem_cons_self
 ·exact List.mem_cons_of_mem _ List.mem_cons_self
 ·exact List.mem_cons_of_mem _ (List.mem_cons_of_mem _ List.mem_cons_self)
def Fr {σ : Type} (B : Nat) (sts : List TypeId) (J Jx : Value→σ→World→Prop) (I : World→List Bs→Prop) (gb : Nat) (gv yv : Value) (lo hi : Bs) (v : Value) (W : World) (r : Tst σ × Bool) (e : Ending) (W' : World) : Prop:=
 e = .returned (.bool r.2)∧∃ v',(r.2=true→J v' r.1.s W')∧(r.2=false→Jx v' r.1.s W')∧GoW B W' gb gv yv lo hi r.1.told∧I W' r.1.asked∧Mv B (gts sts) v.ownBlock W W'∧Nx W v.ownBlock v'.ownBlock
set_option maxRecDepth 20000 in
theorem Mj (w : World) (lo hi key : Bs) : Calls Tryz.prog 221 #[.agg #[.string (Ab lo), .string (Ab hi)], .string (Ab key)] w fun e w'=>e = .returned (.bool (!ltB key lo))∧Below w.heap.size w w':=by
 have hge:=Ex 9 key lo
 generalize ltB key lo=b at *
 go_enter Tryz.func221,Tryz.ntmps221
 go_wp2
 go_ret
 exact ⟨rfl,(Below.refl _ _).alloc (Nat.le_refl _) _⟩
set_option maxRecDepth 20000 in
theorem Kx (w : World) (lo hi key : Bs) : Calls Tryz.prog 222 #[.agg #[.string (Ab lo), .string (Ab hi)], .string (Ab key)] w fun e w'=>e = .returned (.bool (Bl hi key))∧Below w.heap.size w w':=by
 have hge:=Ex 9 key hi
 have hem : Bl hi key=(!hi.isEmpty && !ltB key hi):=rfl
 rw [hem]
 have tl:=toL hi
 have te : (⟨#[]⟩ : ByteArray).toList = []:=toL []
 generalize ltB key hi=b at *
 by_cases h : hi = []
 ·subst h
  go_enter Tryz.func222,Tryz.ntmps222
  go_wp2
  go_ret
  exact ⟨rfl,(Below.refl _ _).alloc (Nat.le_refl _) _⟩
 ·have hb : (hi == [])=false:=by simpa using h
  have hi2 : hi.isEmpty=false:=by simpa using h
  rw [hi2]
  go_enter Tryz.func222,Tryz.ntmps222
  go_wp2
  go_ret
  refine ⟨?_,(Below.refl _ _).alloc (Nat.le_refl _) _⟩
  simp
theorem Kf (lo hi k : Bs) : inM lo hi k=(!ltB k lo && !Bl hi k):=by
 unfold inM Bl
 cases hi.isEmpty <;> cases ltB k hi <;> simp
set_option maxRecDepth 20000 in
theorem fail_any {σ : Type} (W : World) (l : Nat) (k : Sink σ) (B : Nat) (sts : List TypeId) (J Jx : Value→σ→World→Prop) (hY : YieldOk l k B sts J Jx) (gb : Nat) (gv : Value) (lo hi told : Bs) (v : Value) (s : σ) (er : Int) (her : er≠0) (hJ : J v s W) (hg : GoW B W gb gv (.func (.yield l) #[] #[]) lo hi told) :
  Calls Tryz.prog 184 #[.pointer (some ⟨gb,0,none⟩), .int .i64 er] W fun e W'=>e = .returned (.bool false)∧∃ v',Jx v' (k.er s er) W'∧Mv B sts v.ownBlock W W'∧Nx W v.ownBlock v'.ownBlock:=by
 obtain ⟨fn,tmps,assign,body,hy,hR⟩:=hY.fail v s er W hJ her
 have c3:=cell_of_row W gb 3 _ _ _ hg.cell
 simp only [List.getElem?_toArray,List.getElem?_cons_zero,List.getElem?_cons_succ] at c3
 refine (callsIn_wide (n:=0)).1 ?_
 refine callsIn_of_wp Tryz.func184 rfl trivial ?_ rfl
 simp only [Tryz.ntmps184,List.size_toArray,List.length_cons,List.length_nil,Nat.reduceAdd,Nat.reduceSub,Array.replicate_succ,Array.replicate_zero,List.push_toArray,List.append_toArray,List.nil_append,List.cons_append]
 clear hJ hg
 gi_wp2
 refine ⟨rfl,hR.mono ?_⟩
 rintro e W3 ⟨v',b,rfl,h1,h2,h3⟩
 have H:=Ac (And.intro h1 (And.intro h2 h3))
 clear h1 h2 h3 hR hy
 gi_wp2
 go_ret
 exact ⟨rfl,v',H.out.2.2,H.out.1,H.out.2.1⟩
end Go.Proofs.YtckejblkppllaaaGreatDoor
