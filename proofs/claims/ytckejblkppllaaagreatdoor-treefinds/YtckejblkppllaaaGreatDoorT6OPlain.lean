/-
  Texts joined: OPlain, OKinds, OWrite, OList.
-/
import Derived.Test.YtckejblkppllaaaGreatDoorT0WPlain
import Derived.Test.YtckejblkppllaaaGreatDoorT4HAdd
import Derived.Lib.OwnKind
import Derived.Deep.AppendSrc
namespace Go.Proofs.YtckejblkppllaaaGreatDoor
def Cs (l : List UInt8) (a q : Nat) (bs : List UInt8) : Prop:=l.drop a=bs++l.drop q∧q=a+bs.length∧q≤l.length
theorem Cs.refl {l : List UInt8} {a : Nat} (h : a≤l.length) : Cs l a a []:=⟨by simp,by simp,h⟩
theorem Cs.trans {l : List UInt8} {a q r : Nat} {x y : List UInt8} (h : Cs l a q x) (k : Cs l q r y) : Cs l a r (x++y):=by
 refine ⟨by rw [h.1,k.1,List.append_assoc],?_,k.2.2⟩
 rw [k.2.1,h.2.1,List.length_append]
 omega
theorem Cs.part {l : List UInt8} {a r : Nat} {x y : List UInt8} (h : Cs l a r (x++y)) : Cs l a (a+x.length) x∧Cs l (a+x.length) r y:=by
 obtain ⟨h1,h2,h3⟩:=h
 rw [List.length_append] at h2
 have e : l.drop (a+x.length)=y++l.drop r:=by
  rw [← List.drop_drop,h1,List.append_assoc,List.drop_left]
 exact ⟨⟨by rw [e,h1,List.append_assoc],rfl,by omega⟩,e,by omega,h3⟩
theorem Cs.all {l bs : List UInt8} (h : Cs l 0 l.length bs) : l=bs:=by
 have:=h.1
 simpa using this
theorem Cs.whole (l : List UInt8) : Cs l 0 l.length l:=⟨by simp,by simp,Nat.le_refl _⟩
theorem Cs.same {l x y : List UInt8} {a q : Nat} (h : Cs l a q x) (k : Cs l a q y) : x=y:=by
 have e : x++l.drop q=y++l.drop q:=h.1.symm.trans k.1
 exact List.append_cancel_right e
theorem Cs.le {l x : List UInt8} {a q : Nat} (h : Cs l a q x) : a≤q∧x.length≤l.length:=by
 obtain ⟨_,h2,h3⟩:=h
 omega
abbrev Pos:=Option Nat
def rI (l : List UInt8) : Pos→Int × Pos
 | none=>(0,none)
 | some a=>match Cc l a with
  | some (n,q)=>(n,some q)
  | none=>(0,none)
def rT (l : List UInt8) (most : Int) : Pos→List UInt8 × Pos
 | none=>([],none)
 | some a=>match Da l a most with
  | some (t,q)=>(t,some q)
  | none=>([],none)
def rD (l : List UInt8) : Pos→List UInt8 × Pos
 | none=>([],none)
 | some a=>if a+32≤l.length then ((l.drop a).take 32,some (a+32)) else ([],none)
def rC (l : List UInt8) (most : Int) (s : Pos) : Int × Pos:=if (rI l s).1<0∨most<(rI l s).1 then (0,none) else rI l s
def rP {α β : Type} (f : Pos→α × Pos) (g : Pos→β × Pos) (s : Pos) : (α × β) × Pos:=(((f s).1,(g (f s).2).1),(g (f s).2).2)
def rN {α : Type} (one : Pos→α × Pos) : Nat→Pos→List α × Pos
 | 0,s=>([],s)
 | n+1,s=>((one s).1 :: (rN one n (one s).2).1,(rN one n (one s).2).2)
structure Fm {α : Type} (l : List UInt8) (one : Pos→α × Pos) (enc : α→List UInt8) (ok : α→Prop) : Prop where
 stop : (one none).2=none
 sound : ∀ a q,a≤l.length→(one (some a)).2=some q→Cs l a q (enc (one (some a)).1)∧ok (one (some a)).1
 put : ∀ a q x,ok x→Cs l a q (enc x)→one (some a)=(x,some q)
theorem Fm.weak {α : Type} {l : List UInt8} {one : Pos→α × Pos} {enc : α→List UInt8} {ok ok' : α→Prop} (h : Fm l one enc ok) (h1 : ∀ x,ok x→ok' x) (h2 : ∀ x,(enc x).length≤l.length→ok' x→ok x) : Fm l one enc ok':=
 ⟨h.stop,fun a q ha hq=>⟨(h.sound a q ha hq).1,h1 _ (h.sound a q ha hq).2⟩,fun a q x hx hs=>h.put a q x (h2 x hs.le.2 hx) hs⟩
theorem Fm.both {α β : Type} {l : List UInt8} {f : Pos→α × Pos} {g : Pos→β × Pos} {ef : α→List UInt8} {eg : β→List UInt8} {of : α→Prop} {og : β→Prop} (hf : Fm l f ef of) (hg : Fm l g eg og) :
  Fm l (rP f g) (fun x=>ef x.1++eg x.2) (fun x=>of x.1∧og x.2):=by
 refine ⟨by simp only [rP]; rw [hf.stop,hg.stop],fun a q ha hq=>?_,fun a q x hx hs=>?_⟩
 ·simp only [rP] at hq ⊢
  cases h1 : (f (some a)).2 with
  | none=>rw [h1,hg.stop] at hq; cases hq
  | some r=>
   obtain ⟨s1,o1⟩:=hf.sound a r ha h1
   rw [h1] at hq
   obtain ⟨s2,o2⟩:=hg.sound r q s1.2.2 hq
   exact ⟨s1.trans s2,o1,o2⟩
 ·obtain ⟨s1,s2⟩:=hs.part
  simp only [rP]
  rw [hf.put _ _ _ hx.1 s1]
  simp only
  rw [hg.put _ _ _ hx.2 s2]
theorem Fm.list {α : Type} {l : List UInt8} {one : Pos→α × Pos} {enc : α→List UInt8} {ok : α→Prop} (h : Fm l one enc ok) : ∀ n,Fm l (rN one n) (fun xs=>xs.flatMap enc) (fun xs=>xs.length=n∧∀ x∈xs,ok x)
 | 0=>by
  refine ⟨rfl,fun a q ha hq=>?_,fun a q x hx hs=>?_⟩
  ·simp only [rN] at hq ⊢
   injection hq with hq
   subst hq
   exact ⟨by simpa using Cs.refl ha,by simp⟩
  ·obtain rfl : x = []:=List.eq_nil_of_length_eq_zero hx.1
   have:=hs.2.1
   simp at this
   simp [rN,this]
 | n+1=>by
  have ih:=Fm.list h n
  refine ⟨by simp only [rN]; rw [h.stop,ih.stop],fun a q ha hq=>?_,fun a q x hx hs=>?_⟩
  ·simp only [rN] at hq ⊢
   cases h1 : (one (some a)).2 with
   | none=>rw [h1,ih.stop] at hq; cases hq
   | some r=>
    obtain ⟨s1,o1⟩:=h.sound a r ha h1
    rw [h1] at hq
    obtain ⟨s2,o2,o3⟩:=ih.sound r q s1.2.2 hq
    refine ⟨by rw [List.flatMap_cons]; exact s1.trans s2,by rw [List.length_cons,o2],fun x hx=>?_⟩
    rcases List.mem_cons.1 hx with rfl | hx
    ·exact o1
    ·exact o3 x hx
  ·obtain ⟨hx1,hx2⟩:=hx
   cases x with
   | nil=>simp at hx1
   | cons y ys=>
    rw [List.flatMap_cons] at hs
    obtain ⟨s1,s2⟩:=hs.part
    simp only [rN]
    rw [h.put _ _ _ (hx2 y (by simp)) s1]
    simp only
    rw [ih.put _ _ ys ⟨by simpa using hx1,fun z hz=>hx2 z (by simp [hz])⟩ s2]
def Cg (n : Int) : Prop:=-9223372036854775808≤n∧n≤9223372036854775807
theorem Km {l bs : List UInt8} {a q : Nat} (h : (l.drop a).take (q - a)=bs) (h1 : a≤q) (h2 : q≤l.length) : Cs l a q bs:=by
 subst h
 refine ⟨?_,by simp; omega,h2⟩
 have e : l.drop q=(l.drop a).drop (q - a):=by rw [List.drop_drop]; congr 1; omega
 rw [e,List.take_append_drop]
theorem fmI (l : List UInt8) : Fm l (rI l) num Cg:=by
 refine ⟨rfl,fun a q ha hq=>?_,fun a q x hx hs=>?_⟩
 ·simp only [rI] at hq ⊢
  cases h1 : Cc l a with
  | none=>rw [h1] at hq; cases hq
  | some r=>
   obtain ⟨n,r⟩:=r
   rw [h1] at hq
   obtain rfl : r=q:=by simpa using hq
   obtain ⟨_,g2,g3,g4,g5,g6,_⟩:=Hd h1
   rw [Int.toNat_natCast] at g2 g4
   exact ⟨Km g4 g2 g3,g5,g6⟩
 ·have hle:=hs.le.1
  have e : l=l.take a++(num x++l.drop q):=by rw [← hs.1,List.take_append_drop]
  have hl : (l.take a).length=a:=by rw [List.length_take]; have:=hs.2.2; omega
  have h1:=takeI_put (l.take a) (l.drop q) x hx.1 hx.2
  rw [← e,hl] at h1
  simp only [rI]
  rw [h1,hs.2.1]
theorem fmT (l : List UInt8) (most : Int) (hm : most≤9223372036854775807) : Fm l (rT l most) txt (fun t=>(t.length : Int)≤most):=by
 refine ⟨rfl,fun a q ha hq=>?_,fun a q x hx hs=>?_⟩
 ·simp only [rT] at hq ⊢
  cases h1 : Da l a most with
  | none=>rw [h1] at hq; cases hq
  | some r=>
   obtain ⟨n,r⟩:=r
   rw [h1] at hq
   obtain rfl : r=q:=by simpa using hq
   obtain ⟨_,g2,g3,g4,g5⟩:=K6 h1
   rw [Int.toNat_natCast] at g2 g4
   exact ⟨Km g4 g2 g3,g5⟩
 ·have hle:=hs.le.1
  have e : l=l.take a++(txt x++l.drop q):=by rw [← hs.1,List.take_append_drop]
  have hl : (l.take a).length=a:=by rw [List.length_take]; have:=hs.2.2; omega
  have h1:=takeT_put (l.take a) (l.drop q) x most hx (by omega)
  rw [← e,hl] at h1
  simp only [rT]
  rw [h1,hs.2.1]
theorem txt_length (t : List UInt8) : t.length≤(txt t).length:=by unfold txt; simp
theorem fmT' (l : List UInt8) (hl : (l.length : Int)≤9223372036854775807) : Fm l (rT l l.length) txt (fun _=>True):=
 (fmT l l.length hl).weak (fun _ _=>trivial) (fun x hx _=>by have:=txt_length x; omega)
theorem fmD (l : List UInt8) : Fm l (rD l) (fun t=>t) (fun t=>t.length=32):=by
 refine ⟨rfl,fun a q ha hq=>?_,fun a q x hx hs=>?_⟩
 ·simp only [rD] at hq ⊢
  split at hq
  ·rename_i h
   rw [if_pos h]
   obtain rfl : a+32=q:=by simpa using hq
   exact ⟨Km (by rw [Nat.add_sub_cancel_left]) (by omega) h,by rw [List.length_take,List.length_drop]; omega⟩
  ·cases hq
 ·obtain ⟨h1,h2,h3⟩:=hs
  simp only [rD]
  rw [if_pos (by omega),h1,List.take_left' hx,h2,hx]
theorem fmC (l : List UInt8) (most : Int) (hm : most≤9223372036854775807) : Fm l (rC l most) num (fun n=>0≤n∧n≤most):=by
 have h:=fmI l
 refine ⟨by unfold rC; split <;> rfl,fun a q ha hq=>?_,fun a q x hx hs=>?_⟩
 ·unfold rC at hq ⊢
  split at hq
  ·cases hq
  ·rename_i hn
   rw [if_neg hn]
   obtain ⟨s1,s2⟩:=h.sound a q ha hq
   exact ⟨s1,by omega⟩
 ·have:=h.put a q x ⟨by omega,by omega⟩ hs
  unfold rC
  rw [this]
  simp only
  rw [if_neg (by omega)]
def rL {α : Type} (l : List UInt8) (most : Int) (one : Pos→α × Pos) (s : Pos) : List α × Pos:=rN one (rC l most s).1.toNat (rC l most s).2
def Dv {α : Type} (enc : α→List UInt8) (xs : List α) : List UInt8:=num xs.length++xs.flatMap enc
theorem Fm.many {α : Type} {l : List UInt8} {one : Pos→α × Pos} {enc : α→List UInt8} {ok : α→Prop} (h : Fm l one enc ok) (most : Int) (hm : most≤9223372036854775807) :
  Fm l (rL l most one) (Dv enc) (fun xs=>(xs.length : Int)≤most∧∀ x∈xs,ok x):=by
 have hc:=fmC l most hm
 refine ⟨?_,fun a q ha hq=>?_,fun a q x hx hs=>?_⟩
 ·unfold rL
  rw [hc.stop,(h.list _).stop]
 ·unfold rL at hq ⊢
  cases h1 : (rC l most (some a)).2 with
  | none=>rw [h1,(h.list _).stop] at hq; cases hq
  | some r=>
   obtain ⟨s1,o1⟩:=hc.sound a r ha h1
   rw [h1] at hq
   obtain ⟨s2,o2,o3⟩:=(h.list _).sound r q s1.2.2 hq
   have e : ((rN one (rC l most (some a)).1.toNat (some r)).1.length : Int)=(rC l most (some a)).1:=by rw [o2]; omega
   refine ⟨?_,by rw [e]; exact o1.2,o3⟩
   unfold Dv
   rw [e]
   exact s1.trans s2
 ·unfold Dv at hs
  obtain ⟨s1,s2⟩:=hs.part
  unfold rL
  rw [hc.put _ _ _ ⟨by omega,hx.1⟩ s1]
  simp only
  rw [(h.list _).put _ _ x ⟨by simp,hx.2⟩ s2]
theorem Fm.read {α : Type} {l : List UInt8} {one : Pos→α × Pos} {enc : α→List UInt8} {ok : α→Prop} (h : Fm l one enc ok) (h1 : (one (some 0)).2=some l.length) : l=enc (one (some 0)).1∧ok (one (some 0)).1:=by
 obtain ⟨s,o⟩:=h.sound 0 _ (Nat.zero_le _) h1
 exact ⟨s.all,o⟩
theorem Fm.back {α : Type} {l : List UInt8} {one : Pos→α × Pos} {enc : α→List UInt8} {ok : α→Prop} (h : Fm l one enc ok) {x : α} (ho : ok x) (hl : l=enc x) : one (some 0)=(x,some l.length):=
 h.put 0 _ x ho (by rw [← hl]; exact Cs.whole l)
end Go.Proofs.YtckejblkppllaaaGreatDoor
namespace Go.Proofs.YtckejblkppllaaaGreatDoor
abbrev Bs:=List UInt8
abbrev Part:=Bs × Int
abbrev Ag:=Bs × Bs
abbrev Ah:=Bs × (Bs × Int)
abbrev Dx:=Int × List Ah
def Fg (p : Part) : Bs:=p.1++num p.2
def Cu (p : Ag) : Bs:=txt p.1++txt p.2
def D9 (p : Ah) : Bs:=txt p.1++Fg p.2
def Bv (l : List Ag) : Bs:=Dv Cu l
def C8 (f : Dx) : Bs:=num f.1++Dv D9 f.2
abbrev Val:=Int × Part
def valB (v : Val) : Bs:=num v.1++Fg v.2
def D6 : List Int→Int→Bool
 | [],_=>true
 | n :: r,most=>!(decide (n<1∨most<n)) && D6 r (most - n)
theorem Mr : ∀ (xs : List Int) (m : Int),0≤m→(D6 xs m=true↔(∀ x∈xs,1≤x)∧xs.sum≤m)
 | [],m,hm=>by simp [D6,hm]
 | n :: r,m,hm=>by
  have nonneg : ∀ (ys : List Int),(∀ x∈ys,1≤x)→0≤ys.sum:=by
   intro ys
   induction ys with
   | nil=>intro _; simp
   | cons y ys ih=>intro h; have h1:=ih (fun x hx=>h x (by simp [hx])); have h2:=h y (by simp); simp; omega
  by_cases h : n<1∨m<n
  ·simp only [D6,h,decide_true,Bool.not_true,Bool.false_and,Bool.false_eq_true,false_iff]
   rintro ⟨h1,h2⟩
   have g1:=h1 n (by simp)
   have g2:=nonneg r (fun x hx=>h1 x (by simp [hx]))
   rw [List.sum_cons] at h2
   omega
  ·simp only [D6,h,decide_false,Bool.not_false,Bool.true_and]
   rw [Mr r (m - n) (by omega),List.sum_cons]
   constructor
   ·rintro ⟨h1,h2⟩
    refine ⟨fun x hx=>?_,by omega⟩
    rcases List.mem_cons.1 hx with rfl | hx
    ·omega
    ·exact h1 x hx
   ·rintro ⟨h1,h2⟩
    exact ⟨fun x hx=>h1 x (by simp [hx]),by omega⟩
def Bd (lt : Bs→Bs→Bool) : List Bs→Bool
 | []=>true
 | [_]=>true
 | a :: b :: r=>lt a b && Bd lt (b :: r)
def As (k : Bs) : Bool:=decide (1≤k.length∧k.length≤64)
def Ci (k : Bs) : Bool:=decide (k.length=32)
def Dw (n : Int) : Bool:=decide (1≤n∧n≤20)
def A5 (lt : Bs→Bs→Bool) (l : List Ag) : Bool:=decide (l.length≤64) && l.all (fun p=>As p.1 && decide (p.2.length≤128)) && Bd lt (l.map (·.1))
def A4 (lt : Bs→Bs→Bool) (f : Dx) : Bool:=Dw f.1 && decide (1≤f.2.length∧f.2.length≤64) && f.2.all (fun p=>As p.1 && Ci p.2.1) && Bd lt (f.2.map (·.1)) && D6 (f.2.map (·.2.2)) 4096
def Ew (kind size : Int) : Bool:=if kind=1 then decide (0≤size∧size≤262144) else if kind=2 then decide (1≤size∧size≤4096) else false
def valOk (v : Val) : Bool:=Ci v.2.1 && Ew v.1 v.2.2
def E8 (l : Bs) : Pos→Part × Pos:=rP (rD l) (rI l)
def Ch (l : Bs) (m n : Int) : Pos→Ag × Pos:=rP (rT l m) (rT l n)
def Bz (l : Bs) (m : Int) : Pos→Ah × Pos:=rP (rT l m) (E8 l)
def gLeaf (l : Bs) : Pos→List Ag × Pos:=rL l 64 (Ch l l.length l.length)
def Jd (l : Bs) : Pos→Dx × Pos:=rP (rC l 20) (rL l 64 (Bz l l.length))
def gVal (l : Bs) : Pos→Val × Pos:=rP (rC l 2) (E8 l)
theorem fmPart (l : Bs) : Fm l (E8 l) Fg (fun p=>p.1.length=32∧Cg p.2):=(fmD l).both (fmI l)
theorem fmLeaf (l : Bs) (hl : (l.length : Int)≤9223372036854775807) : Fm l (gLeaf l) Bv (fun f=>((f.length : Int)≤64∧∀ p∈f,True∧True)):=((fmT' l hl).both (fmT' l hl)).many 64 (by omega)
theorem fmBranch (l : Bs) (hl : (l.length : Int)≤9223372036854775807) : Fm l (Jd l) C8 (fun f=>(0≤f.1∧f.1≤20)∧((f.2.length : Int)≤64∧∀ p∈f.2,True∧p.2.1.length=32∧Cg p.2.2)):=(fmC l 20 (by omega)).both (((fmT' l hl).both (fmPart l)).many 64 (by omega))
theorem fmVal (l : Bs) : Fm l (gVal l) valB (fun v=>(0≤v.1∧v.1≤2)∧(v.2.1.length=32∧Cg v.2.2)):=(fmC l 2 (by omega)).both (fmPart l)
def said {α : Type} (one : Bs→Pos→α × Pos) (right : α→Bool) (l : Bs) : Option α:=if (one l (some 0)).2=some l.length∧right (one l (some 0)).1=true then some (one l (some 0)).1 else none
theorem Hi {α : Type} {one : Bs→Pos→α × Pos} {right : α→Bool} {l : Bs} {enc : α→Bs} {ok : α→Prop} (h : Fm l (one l) enc ok) (hr : ∀ x,right x=true→ok x) (x : α) : said one right l=some x↔right x=true∧l=enc x:=by
 unfold said
 constructor
 ·intro g
  split at g
  ·rename_i g1
   injection g with g
   subst g
   exact ⟨g1.2,(h.read g1.1).1⟩
  ·cases g
 ·rintro ⟨h1,h2⟩
  have e:=h.back (hr x h1) h2
  rw [if_pos (by rw [e]; exact ⟨rfl,h1⟩),e]
theorem Ky {xs : List Int} {m : Int} (h : D6 xs m=true) (h0 : 0≤m) (hm : m≤9223372036854775807) : ∀ x∈xs,Cg x:=by
 induction xs generalizing m with
 | nil=>intro x hx; simp at hx
 | cons n r ih=>
  simp only [D6,Bool.and_eq_true,Bool.not_eq_true',decide_eq_false_iff_not] at h
  intro x hx
  rcases List.mem_cons.1 hx with rfl | hx
  ·exact ⟨by omega,by omega⟩
  ·exact ih h.2 (by omega) (by omega) x hx
theorem leaf_iff (lt : Bs→Bs→Bool) (l : Bs) (hl : (l.length : Int)≤9223372036854775807) (f : List Ag) : said gLeaf (A5 lt) l=some f↔A5 lt f=true∧l=Bv f:=by
 refine Hi (fmLeaf l hl) (fun x hx=>?_) f
 simp only [A5,Bool.and_eq_true,decide_eq_true_eq] at hx
 exact ⟨by omega,fun _ _=>⟨trivial,trivial⟩⟩
theorem branch_iff (lt : Bs→Bs→Bool) (l : Bs) (hl : (l.length : Int)≤9223372036854775807) (f : Dx) : said Jd (A4 lt) l=some f↔A4 lt f=true∧l=C8 f:=by
 refine Hi (fmBranch l hl) (fun x hx=>?_) f
 simp only [A4,Dw,Ci,Bool.and_eq_true,decide_eq_true_eq,List.all_eq_true] at hx
 obtain ⟨⟨⟨⟨h1,h2⟩,h3⟩,_⟩,h4⟩:=hx
 exact ⟨by omega,by omega,fun p hp=>⟨trivial,(h3 p hp).2,Ky h4 (by omega) (by omega) _ (List.mem_map_of_mem (f:=fun p : Ah=>p.2.2) hp)⟩⟩
end Go.Proofs.YtckejblkppllaaaGreatDoor
namespace Go.Proofs.YtckejblkppllaaaGreatDoor
open Go.RowKit
theorem Bj {w : World} {base size n : Nat} {e : TypeId} {v : Value} {xs : List Value} (h : w.ownsRow base e size v n xs) : ∃ ao cap,v = .slice ao n cap∧n≤cap∧cap≤maxLen:=by
 rcases h.2 with ⟨rfl,rfl⟩ | ⟨g,cap,cur,rfl,_,_,h1,h2,_⟩
 ·exact ⟨none,0,rfl,by simp,by simp⟩
 ·exact ⟨_,_,rfl,h1,h2⟩
theorem Cz {P : Program} {o : Oper} {a : Act} {w : World} {K : Act→World→Prop} {Q : Exit→Act→World→Prop} (s x : Operand) (t : TypeId)
  (ho : o.op = .call { callee:=.builtin .append,args:=#[s,x],argTypes:=#[t,t] }) {v1 v2 v' : Value} {w' : World} (hs : a.eval s=v1) (hx : a.eval x=v2)
  (hrun : (Builtin.append_ #[t,t] o.type #[v1,v2]).run P w = .ok v' w') (hK : K (a.put o.dst v') w') : o.wp P a w K Q:=by
 unfold Oper.wp
 simp [execOp,ho,resolve,invoke,builtin,hs,hx,hrun,Result.andThen]
 exact hK
def Wr (B : Nat) (w : World) (g : Nat) (l : Bs) : Prop:=B≤g∧∃ v,w.heap[g]? = some (.cells #[v] 273)∧w.ownsRow B 5 1 v l.length (bc l)
theorem Wr.lt {B : Nat} {w : World} {g : Nat} {l : Bs} (h : Wr B w g l) : g<w.heap.size:=by
 obtain ⟨_,v,h1,_⟩:=h
 exact Ad h1
theorem ne_own {B : Nat} {w : World} {g : Nat} {v : Value} {n : Nat} {xs : List Value} {cs : Array Value} {t e : TypeId} {fr : Nat × Nat} (hown : w.ownsRow B e 1 v n xs) (hh : w.heap[g]? = some (.cells cs t fr)) (hte : t≠e) : some g≠v.ownBlock:=by
 intro hk
 obtain ⟨c,fz,h1⟩:=Lib.ownsRow_kind hown g hk.symm
 rw [hh] at h1
 injection h1 with h1
 injection h1 with _ h1
 exact hte h1
theorem Hu {w : World} {g : Nat} {v u : Value} {t : TypeId} (h : w.heap[g]? = some (.cells #[v] t)) : (w.setCell ⟨g,0,none⟩ u).heap[g]? = some (.cells #[u] t):=by
 rw [heap_setCell _ _ _ _ _ _ _ h]
 simp
theorem Af {w : World} {g j : Nat} {cs : Array Value} {t : TypeId} (h : w.heap[g]? = some (.cells cs t)) : w.frozen? ⟨g,j,none⟩=false:=by simp [World.frozen?,h]
theorem Hg {w : World} {B g j : Nat} {v u : Value} {n : Nat} {xs : List Value} {cs : Array Value} {t : TypeId} (hown : w.ownsRow B 5 1 v n xs) (hh : w.heap[g]? = some (.cells cs t)) (hte : t≠5) : (w.setCell ⟨g,j,none⟩ u).ownsRow B 5 1 v n xs:=
 ownsRow_setCell_other hown (fun e=>ne_own hown hh hte e.symm) u
def Kt (ts : List TypeId) (w w' : World) : Prop:=w.heap.size≤w'.heap.size∧∀ (k : Nat) (cs : Array Value) (t : TypeId) (fr : Nat × Nat),w.heap[k]? = some (Obj.cells cs t fr)→t ∉ ts→w'.heap[k]? = some (Obj.cells cs t fr)
theorem Kt.refl (ts : List TypeId) (w : World) : Kt ts w w:=⟨Nat.le_refl _,fun _ _ _ _ h _=>h⟩
theorem Kt.trans {ts : List TypeId} {a b c : World} (h : Kt ts a b) (k : Kt ts b c) : Kt ts a c:=⟨Nat.le_trans h.1 k.1,fun i cs t fr hi ht=>k.2 i cs t fr (h.2 i cs t fr hi ht) ht⟩
theorem Kt.below {ts : List TypeId} {a b : World} (h : Below a.heap.size a b) : Kt ts a b:=⟨h.size,fun k _ _ _ hk _=>(h.block k (Ad hk)).trans hk⟩
theorem Kt.set {ts : List TypeId} {w : World} {g j : Nat} {cs : Array Value} {t : TypeId} {fr : Nat × Nat} (hh : w.heap[g]? = some (.cells cs t fr)) (ht : t∈ts) (u : Value) : Kt ts w (w.setCell ⟨g,j,none⟩ u):=by
 refine ⟨by simp [World.setCell],fun k cs' t' fr' hk ht'=>?_⟩
 have hne : k≠g:=by
  rintro rfl
  rw [hh] at hk
  injection hk with hk
  injection hk with _ hk
  exact ht' (hk ▸ ht)
 rw [← hk]
 unfold World.setCell
 simp [Array.getElem?_modify,Ne.symm hne]
theorem Kt.grown {w w1 : World} {B : Nat} {v : Value} {n : Nat} {xs : List Value} {e : TypeId} {ts : List TypeId} (hown : w.ownsRow B e 1 v n xs) (hgr : w.grownBy w1 v.ownBlock) (he : e∈ts) : Kt ts w w1:=by
 refine ⟨hgr.size,fun k cs t fr hk ht=>(hgr.block k (Ad hk) fun hq=>?_).trans hk⟩
 obtain ⟨c,fz,h1⟩:=Lib.ownsRow_kind hown k hq.symm
 rw [hk] at h1
 injection h1 with h1
 injection h1 with _ h1
 exact ht (h1 ▸ he)
abbrev wts : List TypeId:=[5,273]
set_option maxRecDepth 20000 in
theorem La (B : Nat) (w : World) (g : Nat) (l s : Bs) (hW : Wr B w g l) (hsz : l.length+s.length≤140737488355328) :
  Calls Tryz.prog 166 #[.pointer (some ⟨g,0,none⟩), .string (Ab s)] w fun e w'=>e = .returned (.tuple #[])∧Wr B w' g (l++s)∧Below B w w'∧Kt wts w w':=by
 have hB : B≤w.heap.size:=Nat.le_of_lt (Nat.lt_of_le_of_lt hW.1 hW.lt)
 obtain ⟨hg,v,hh,hown⟩:=hW
 obtain ⟨i0,hi,hz0,hz1,hz2⟩:=info_parts Tryz.infoB
 have hc:=cell_of_row w g 0 _ _ _ hh
 simp only [List.getElem?_toArray,List.getElem?_cons_zero] at hc
 have hne:=ne_own hown hh (by decide)
 have hss:=A1 s
 have HN:=Ac hne
 have HH:=Ac hh
 have hcf : ∀ w1 : World,w.grownBy w1 v.ownBlock→w1.cell? ⟨g,0,none⟩=some v∧w1.frozen? ⟨g,0,none⟩=false:=fun w1 hgr1=>by
  have hh1 : w1.heap[g]? = some (.cells #[v] 273):=(hgr1.block g (Ad hh) hne).trans hh
  exact ⟨by rw [cell_of_row w1 g 0 _ _ _ hh1]; rfl,Af hh1⟩
 clear hne hh
 go_enter Tryz.func166,Tryz.ntmps166
 go_wp2_with (at_builtin; refine Lib.wpList_append_own_string _ rfl (.tmp 8) (.tmp 9) 137 9 rfl B 5 i0 Tryz.underlying137 Tryz.underlying9 hi hz0 hz1 hz2 v l.length (bc l) rfl hown (Ab s) rfl (by unfold maxLen; omega) (by omega) hB ?_; intro v1 w1 hown1 hgr1 _; obtain ⟨a1,c1,rfl,-⟩:=Bj hown1; obtain ⟨hc1,hf1⟩:=hcf w1 hgr1)
 have hh1 : w1.heap[g]? = some (.cells #[v] 273):=(hgr1.block g (Ad HH.out) HN.out).trans HH.out
 have hb1 : Below B w w1:=(Below.refl _ _).grown hgr1 hB (fun k hk=>(hown.lt k hk).1)
 have e : Lib.strCells (Ab s)=bc s:=by show bc (Ab s).data.toList=_; rw [B0]
 have e2 : l.length+(Ab s).size=(l++s).length:=by rw [hss,List.length_append]
 rw [e,← Dm] at hown1
 go_end0
 refine ⟨rfl,⟨hg,_,Hu hh1,Hg ?_ hh1 (by decide)⟩,hb1.setCell (p:=⟨g,0,none⟩) hg _,(Kt.grown hown hgr1 (by decide)).trans (Kt.set hh1 (by decide) _)⟩
 rw [← e2]
 exact hown1
-- behind this: gen_owrite.py
set_option maxRecDepth 20000 in
theorem Gx (B : Nat) (w : World) (g : Nat) (l : Bs) (n : Int) (hW : Wr B w g l) (hn : Cg n) (hsz : l.length+10≤140737488355328) :
  Calls Tryz.prog 123 #[.pointer (some ⟨g,0,none⟩), .int .i64 n] w fun e w'=>e = .returned (.tuple #[])∧Wr B w' g (l++num n)∧Below B w w'∧Kt wts w w':=by
 have hglt:=hW.lt
 obtain ⟨hg,v,hh,hown⟩:=hW
 obtain ⟨i0,hi,hz0,hz1,hz2⟩:=info_parts Tryz.infoB
 have hc:=cell_of_row w g 0 _ _ _ hh
 simp only [List.getElem?_toArray,List.getElem?_cons_zero] at hc
 have hne:=ne_own hown hh (by decide)
 have hBw : B≤w.heap.size:=by omega
 have HN:=Ac hne
 have HH:=Ac hh
 clear hne hh
 have hnl:=El n
 obtain ⟨hn0,hn1⟩:=hn
 go_enter Tryz.func123,Tryz.ntmps123
 go_wp2_with fail
 refine wp_region_held_drew (S:=fun _=>True) (by kernel_rfl) (trivial) (fun hHeld=>?_)
 refine Aa 0 hHeld ?_
 refine Aa 1 hHeld ?_
 refine Aa 5 hHeld ?_
 refine Aa 2 hHeld ?_
 refine Aa 3 hHeld ?_
 refine twoH (i:=4) (j:=6) rfl rfl (by kernel_rfl) rfl rfl (fun K hK=>?_) (fun K hK=>?_)
 ·go_simp
  refine hK.out _ _ (trivial) (fun hHeld=>?_)
  clear hK K
  try simp only [Act.put,List.setIfInBounds_toArray,List.set_cons_zero,List.set_cons_succ]
  refine Ai (i:=6) rfl (by kernel_rfl) rfl (fun K hK=>?_)
  go_simp
  refine (Ns _ n hn0 hn1).mono ?_
  rintro e w1 ⟨ag,m1,c1,rfl,hm1,hmc,hsl1,hb1⟩
  refine hK.out _ _ (trivial) (fun hHeld=>?_)
  clear hK K
  try simp only [Act.put,List.setIfInBounds_toArray,List.set_cons_zero,List.set_cons_succ]
  have hb1' : Below w.heap.size w w1:=(Below.refl w.heap.size w).drew.trans hb1
  have hh1 : w1.heap[g]? = some (.cells #[v] 273):=(hb1'.block g hglt).trans HH.out
  have hown1 : w1.ownsRow B 5 1 v l.length (bc l):=hown.kept (row:=none) ⟨hb1'.os,hb1'.tape,hb1'.output,hb1'.size,fun k hk _=>hb1'.block k hk⟩ (by cases hq : v.ownBlock with | none=>exact .inl rfl | some k=>exact .inr (by simp))
  have hm1':=hm1.out
  obtain ⟨v2,w2,hrun,hown2,hgr2,-⟩:=run_append_own (P:=Tryz.prog) w1 B 137 137 5 i0 (.int .u8 0) 1 1 Tryz.underlying137 hi hz0 hz1 hz2 rfl (by decide) v l.length (bc l) hown1 ⟨ag,0,none⟩ m1 c1 (bc (num n)) (by rw [Di]; omega) (hsl1.cells (Below.refl _ _) _ rfl) (Dn _) (by unfold maxLen; omega) (by omega) (Nat.le_trans hBw hb1'.size)
  obtain ⟨a2,c2,rfl,-⟩:=Bj hown2
  have hh2 : w2.heap[g]? = some (.cells #[v] 273):=(hgr2.block g (Ad hh1) HN.out).trans hh1
  have hb2 : Below B w w2:=((hb1'.mono hBw).grown hgr2 (Nat.le_trans hBw hb1'.size) (fun k hk=>(hown.lt k hk).1))
  have hc2:=cell_of_row w2 g 0 _ _ _ hh2
  simp only [List.getElem?_toArray,List.getElem?_cons_zero] at hc2
  have hf2:=Af (j:=0) hh2
  have e2 : l.length+m1=(l++num n).length:=by rw [List.length_append,hm1']
  rw [← Dm,e2] at hown2
  have HO:=Ac hown2
  have HB:=Ac hb2
  have HH2:=Ac hh2
  have HE:=Ac e2
  have HKT : Hid (Kt wts w w2):=Ac ((Kt.below hb1').trans (Kt.grown hown1 hgr2 (by decide)))
  clear hown2 hb2 hh2 hgr2 hown1 hh1 hc hm1' e2
  refine Ai (i:=7) rfl (by kernel_rfl) rfl (fun K hK=>?_)
  refine Cz (.tmp 8) (.tmp 10) 137 rfl rfl rfl hrun ?_
  refine hK.out _ _ (trivial) (fun hHeld=>?_)
  clear hK K
  try simp only [Act.put,List.setIfInBounds_toArray,List.set_cons_zero,List.set_cons_succ]
  refine Aa 8 hHeld ?_
  refine Aa 9 hHeld ?_
  refine Ai (i:=10) rfl (by kernel_rfl) rfl (fun K hK=>?_)
  go_simp
  refine hK.out _ _ (trivial) (fun hHeld=>?_)
  clear hK K
  try simp only [Act.put,List.setIfInBounds_toArray,List.set_cons_zero,List.set_cons_succ]
  refine wpAnyH_done (by kernel_rfl) ?_ _
  clear hHeld
  go_wp2
  go_end0
  refine ⟨rfl,⟨hg,_,Hu HH2.out,Hg ?_ HH2.out (by decide)⟩,HB.out.setCell (p:=⟨g,0,none⟩) hg _,HKT.out.trans (Kt.set HH2.out (by decide) _)⟩
  have:=HO.out
  rw [← HE.out] at this ⊢
  exact this
 ·go_simp
  refine (Ns _ n hn0 hn1).mono ?_
  rintro e w1 ⟨ag,m1,c1,rfl,hm1,hmc,hsl1,hb1⟩
  have hc1 : w1.cell? ⟨g,0,none⟩=some v:=(hb1.cell (p:=⟨g,0,none⟩) hglt).trans hc
  refine hK.out _ _ (trivial) (fun hHeld=>?_)
  clear hK K
  try simp only [Act.put,List.setIfInBounds_toArray,List.set_cons_zero,List.set_cons_succ]
  refine Ai (i:=4) rfl (by kernel_rfl) rfl (fun K hK=>?_)
  go_simp
  refine hK.out _ _ (trivial) (fun hHeld=>?_)
  clear hK K
  try simp only [Act.put,List.setIfInBounds_toArray,List.set_cons_zero,List.set_cons_succ]
  clear hc1
  have hb1' : Below w.heap.size w w1:=(Below.refl w.heap.size w).drew.trans hb1
  have hh1 : w1.heap[g]? = some (.cells #[v] 273):=(hb1'.block g hglt).trans HH.out
  have hown1 : w1.ownsRow B 5 1 v l.length (bc l):=hown.kept (row:=none) ⟨hb1'.os,hb1'.tape,hb1'.output,hb1'.size,fun k hk _=>hb1'.block k hk⟩ (by cases hq : v.ownBlock with | none=>exact .inl rfl | some k=>exact .inr (by simp))
  have hm1':=hm1.out
  obtain ⟨v2,w2,hrun,hown2,hgr2,-⟩:=run_append_own (P:=Tryz.prog) w1 B 137 137 5 i0 (.int .u8 0) 1 1 Tryz.underlying137 hi hz0 hz1 hz2 rfl (by decide) v l.length (bc l) hown1 ⟨ag,0,none⟩ m1 c1 (bc (num n)) (by rw [Di]; omega) (hsl1.cells (Below.refl _ _) _ rfl) (Dn _) (by unfold maxLen; omega) (by omega) (Nat.le_trans hBw hb1'.size)
  obtain ⟨a2,c2,rfl,-⟩:=Bj hown2
  have hh2 : w2.heap[g]? = some (.cells #[v] 273):=(hgr2.block g (Ad hh1) HN.out).trans hh1
  have hb2 : Below B w w2:=((hb1'.mono hBw).grown hgr2 (Nat.le_trans hBw hb1'.size) (fun k hk=>(hown.lt k hk).1))
  have hc2:=cell_of_row w2 g 0 _ _ _ hh2
  simp only [List.getElem?_toArray,List.getElem?_cons_zero] at hc2
  have hf2:=Af (j:=0) hh2
  have e2 : l.length+m1=(l++num n).length:=by rw [List.length_append,hm1']
  rw [← Dm,e2] at hown2
  have HO:=Ac hown2
  have HB:=Ac hb2
  have HH2:=Ac hh2
  have HE:=Ac e2
  have HKT : Hid (Kt wts w w2):=Ac ((Kt.below hb1').trans (Kt.grown hown1 hgr2 (by decide)))
  clear hown2 hb2 hh2 hgr2 hown1 hh1 hc hm1' e2
  refine Ai (i:=7) rfl (by kernel_rfl) rfl (fun K hK=>?_)
  refine Cz (.tmp 8) (.tmp 10) 137 rfl rfl rfl hrun ?_
  refine hK.out _ _ (trivial) (fun hHeld=>?_)
  clear hK K
  try simp only [Act.put,List.setIfInBounds_toArray,List.set_cons_zero,List.set_cons_succ]
  refine Aa 8 hHeld ?_
  refine Aa 9 hHeld ?_
  refine Ai (i:=10) rfl (by kernel_rfl) rfl (fun K hK=>?_)
  go_simp
  refine hK.out _ _ (trivial) (fun hHeld=>?_)
  clear hK K
  try simp only [Act.put,List.setIfInBounds_toArray,List.set_cons_zero,List.set_cons_succ]
  refine wpAnyH_done (by kernel_rfl) ?_ _
  clear hHeld
  go_wp2
  go_end0
  refine ⟨rfl,⟨hg,_,Hu HH2.out,Hg ?_ HH2.out (by decide)⟩,HB.out.setCell (p:=⟨g,0,none⟩) hg _,HKT.out.trans (Kt.set HH2.out (by decide) _)⟩
  have:=HO.out
  rw [← HE.out] at this ⊢
  exact this
set_option maxRecDepth 20000 in
theorem Lp (B : Nat) (w : World) (g : Nat) (l : Bs) (s : Bs) (hW : Wr B w g l)  (hsz : l.length+(txt s).length≤140737488355328) :
  Calls Tryz.prog 279 #[.pointer (some ⟨g,0,none⟩), .string (Ab s)] w fun e w'=>e = .returned (.tuple #[])∧Wr B w' g (l++txt s)∧Below B w w'∧Kt wts w w':=by
 have hglt:=hW.lt
 obtain ⟨hg,v,hh,hown⟩:=hW
 obtain ⟨i0,hi,hz0,hz1,hz2⟩:=info_parts Tryz.infoB
 have hc:=cell_of_row w g 0 _ _ _ hh
 simp only [List.getElem?_toArray,List.getElem?_cons_zero] at hc
 have hne:=ne_own hown hh (by decide)
 have hBw : B≤w.heap.size:=by omega
 have HN:=Ac hne
 have HH:=Ac hh
 clear hne hh
 have hpt : ∀ W,Calls Tryz.prog 286 #[.slice none 0 0, .string (Ab s)] W fun e w'=>∃ g m cap,e = .returned (.slice (some ⟨g,0,none⟩) m cap)∧Hid (m=(txt s).length)∧m≤cap ∧
   Sl w' (.slice (some ⟨g,0,none⟩) m cap) (txt s)∧Below W.heap.size W w':=fun W=>by
  have:=putTxt_any W (Ab s) (by rw [A1]; unfold txt at hsz; simp at hsz; omega)
  rw [B0] at this
  exact this
 go_enter Tryz.func279,Tryz.ntmps279
 go_wp2_with fail
 refine wp_region_held_drew (S:=fun _=>True) (by kernel_rfl) (trivial) (fun hHeld=>?_)
 refine Aa 0 hHeld ?_
 refine Aa 1 hHeld ?_
 refine Aa 5 hHeld ?_
 refine Aa 2 hHeld ?_
 refine Aa 3 hHeld ?_
 refine twoH (i:=4) (j:=6) rfl rfl (by kernel_rfl) rfl rfl (fun K hK=>?_) (fun K hK=>?_)
 ·go_simp
  refine hK.out _ _ (trivial) (fun hHeld=>?_)
  clear hK K
  try simp only [Act.put,List.setIfInBounds_toArray,List.set_cons_zero,List.set_cons_succ]
  refine Ai (i:=6) rfl (by kernel_rfl) rfl (fun K hK=>?_)
  go_simp
  refine (hpt _).mono ?_
  rintro e w1 ⟨ag,m1,c1,rfl,hm1,hmc,hsl1,hb1⟩
  refine hK.out _ _ (trivial) (fun hHeld=>?_)
  clear hK K
  try simp only [Act.put,List.setIfInBounds_toArray,List.set_cons_zero,List.set_cons_succ]
  have hb1' : Below w.heap.size w w1:=(Below.refl w.heap.size w).drew.trans hb1
  have hh1 : w1.heap[g]? = some (.cells #[v] 273):=(hb1'.block g hglt).trans HH.out
  have hown1 : w1.ownsRow B 5 1 v l.length (bc l):=hown.kept (row:=none) ⟨hb1'.os,hb1'.tape,hb1'.output,hb1'.size,fun k hk _=>hb1'.block k hk⟩ (by cases hq : v.ownBlock with | none=>exact .inl rfl | some k=>exact .inr (by simp))
  have hm1':=hm1.out
  obtain ⟨v2,w2,hrun,hown2,hgr2,-⟩:=run_append_own (P:=Tryz.prog) w1 B 137 137 5 i0 (.int .u8 0) 1 1 Tryz.underlying137 hi hz0 hz1 hz2 rfl (by decide) v l.length (bc l) hown1 ⟨ag,0,none⟩ m1 c1 (bc (txt s)) (by rw [Di]; omega) (hsl1.cells (Below.refl _ _) _ rfl) (Dn _) (by unfold maxLen; omega) (by omega) (Nat.le_trans hBw hb1'.size)
  obtain ⟨a2,c2,rfl,-⟩:=Bj hown2
  have hh2 : w2.heap[g]? = some (.cells #[v] 273):=(hgr2.block g (Ad hh1) HN.out).trans hh1
  have hb2 : Below B w w2:=((hb1'.mono hBw).grown hgr2 (Nat.le_trans hBw hb1'.size) (fun k hk=>(hown.lt k hk).1))
  have hc2:=cell_of_row w2 g 0 _ _ _ hh2
  simp only [List.getElem?_toArray,List.getElem?_cons_zero] at hc2
  have hf2:=Af (j:=0) hh2
  have e2 : l.length+m1=(l++txt s).length:=by rw [List.length_append,hm1']
  rw [← Dm,e2] at hown2
  have HO:=Ac hown2
  have HB:=Ac hb2
  have HH2:=Ac hh2
  have HE:=Ac e2
  have HKT : Hid (Kt wts w w2):=Ac ((Kt.below hb1').trans (Kt.grown hown1 hgr2 (by decide)))
  clear hown2 hb2 hh2 hgr2 hown1 hh1 hc hm1' e2
  refine Ai (i:=7) rfl (by kernel_rfl) rfl (fun K hK=>?_)
  refine Cz (.tmp 8) (.tmp 10) 137 rfl rfl rfl hrun ?_
  refine hK.out _ _ (trivial) (fun hHeld=>?_)
  clear hK K
  try simp only [Act.put,List.setIfInBounds_toArray,List.set_cons_zero,List.set_cons_succ]
  refine Aa 8 hHeld ?_
  refine Aa 9 hHeld ?_
  refine Ai (i:=10) rfl (by kernel_rfl) rfl (fun K hK=>?_)
  go_simp
  refine hK.out _ _ (trivial) (fun hHeld=>?_)
  clear hK K
  try simp only [Act.put,List.setIfInBounds_toArray,List.set_cons_zero,List.set_cons_succ]
  refine wpAnyH_done (by kernel_rfl) ?_ _
  clear hHeld
  go_wp2
  go_end0
  refine ⟨rfl,⟨hg,_,Hu HH2.out,Hg ?_ HH2.out (by decide)⟩,HB.out.setCell (p:=⟨g,0,none⟩) hg _,HKT.out.trans (Kt.set HH2.out (by decide) _)⟩
  have:=HO.out
  rw [← HE.out] at this ⊢
  exact this
 ·go_simp
  refine (hpt _).mono ?_
  rintro e w1 ⟨ag,m1,c1,rfl,hm1,hmc,hsl1,hb1⟩
  have hc1 : w1.cell? ⟨g,0,none⟩=some v:=(hb1.cell (p:=⟨g,0,none⟩) hglt).trans hc
  refine hK.out _ _ (trivial) (fun hHeld=>?_)
  clear hK K
  try simp only [Act.put,List.setIfInBounds_toArray,List.set_cons_zero,List.set_cons_succ]
  refine Ai (i:=4) rfl (by kernel_rfl) rfl (fun K hK=>?_)
  go_simp
  refine hK.out _ _ (trivial) (fun hHeld=>?_)
  clear hK K
  try simp only [Act.put,List.setIfInBounds_toArray,List.set_cons_zero,List.set_cons_succ]
  clear hc1
  have hb1' : Below w.heap.size w w1:=(Below.refl w.heap.size w).drew.trans hb1
  have hh1 : w1.heap[g]? = some (.cells #[v] 273):=(hb1'.block g hglt).trans HH.out
  have hown1 : w1.ownsRow B 5 1 v l.length (bc l):=hown.kept (row:=none) ⟨hb1'.os,hb1'.tape,hb1'.output,hb1'.size,fun k hk _=>hb1'.block k hk⟩ (by cases hq : v.ownBlock with | none=>exact .inl rfl | some k=>exact .inr (by simp))
  have hm1':=hm1.out
  obtain ⟨v2,w2,hrun,hown2,hgr2,-⟩:=run_append_own (P:=Tryz.prog) w1 B 137 137 5 i0 (.int .u8 0) 1 1 Tryz.underlying137 hi hz0 hz1 hz2 rfl (by decide) v l.length (bc l) hown1 ⟨ag,0,none⟩ m1 c1 (bc (txt s)) (by rw [Di]; omega) (hsl1.cells (Below.refl _ _) _ rfl) (Dn _) (by unfold maxLen; omega) (by omega) (Nat.le_trans hBw hb1'.size)
  obtain ⟨a2,c2,rfl,-⟩:=Bj hown2
  have hh2 : w2.heap[g]? = some (.cells #[v] 273):=(hgr2.block g (Ad hh1) HN.out).trans hh1
  have hb2 : Below B w w2:=((hb1'.mono hBw).grown hgr2 (Nat.le_trans hBw hb1'.size) (fun k hk=>(hown.lt k hk).1))
  have hc2:=cell_of_row w2 g 0 _ _ _ hh2
  simp only [List.getElem?_toArray,List.getElem?_cons_zero] at hc2
  have hf2:=Af (j:=0) hh2
  have e2 : l.length+m1=(l++txt s).length:=by rw [List.length_append,hm1']
  rw [← Dm,e2] at hown2
  have HO:=Ac hown2
  have HB:=Ac hb2
  have HH2:=Ac hh2
  have HE:=Ac e2
  have HKT : Hid (Kt wts w w2):=Ac ((Kt.below hb1').trans (Kt.grown hown1 hgr2 (by decide)))
  clear hown2 hb2 hh2 hgr2 hown1 hh1 hc hm1' e2
  refine Ai (i:=7) rfl (by kernel_rfl) rfl (fun K hK=>?_)
  refine Cz (.tmp 8) (.tmp 10) 137 rfl rfl rfl hrun ?_
  refine hK.out _ _ (trivial) (fun hHeld=>?_)
  clear hK K
  try simp only [Act.put,List.setIfInBounds_toArray,List.set_cons_zero,List.set_cons_succ]
  refine Aa 8 hHeld ?_
  refine Aa 9 hHeld ?_
  refine Ai (i:=10) rfl (by kernel_rfl) rfl (fun K hK=>?_)
  go_simp
  refine hK.out _ _ (trivial) (fun hHeld=>?_)
  clear hK K
  try simp only [Act.put,List.setIfInBounds_toArray,List.set_cons_zero,List.set_cons_succ]
  refine wpAnyH_done (by kernel_rfl) ?_ _
  clear hHeld
  go_wp2
  go_end0
  refine ⟨rfl,⟨hg,_,Hu HH2.out,Hg ?_ HH2.out (by decide)⟩,HB.out.setCell (p:=⟨g,0,none⟩) hg _,HKT.out.trans (Kt.set HH2.out (by decide) _)⟩
  have:=HO.out
  rw [← HE.out] at this ⊢
  exact this
end Go.Proofs.YtckejblkppllaaaGreatDoor
namespace Go.Proofs.YtckejblkppllaaaGreatDoor
open Go.RowKit
def Ak (p : Ag) : List Value:=[.string (Ab p.1), .string (Ab p.2)]
def Au (p : Ah) : List Value:=[.string (Ab p.1), .string (Ab p.2.1), .int .i64 p.2.2]
def idC (s : Bs) : List Value:=[.string (Ab s)]
def Ls {α : Type} (B : Nat) (w : World) (k : Nat) (cs : α→List Value) (v : Value) (xs : List α) : Prop:=
 ∃ ao cap,v = .slice ao xs.length cap∧xs.length≤cap∧cap≤maxLen∧(xs ≠ []→∃ b off,ao=some ⟨b,off,none⟩∧b<B∧∀ j (h : j<xs.length) i u,(cs (xs[j]'h))[i]? = some u→w.cell? ⟨b,off+j * k+i,none⟩=some u)
theorem Ls.keep {α : Type} {B : Nat} {w w' : World} {k : Nat} {cs : α→List Value} {v : Value} {xs : List α} (h : Ls B w k cs v xs) (hb : Below B w w') : Ls B w' k cs v xs:=by
 obtain ⟨ao,cap,hv,h1,h2,h4⟩:=h
 refine ⟨ao,cap,hv,h1,h2,fun hl=>?_⟩
 obtain ⟨b,off,ha,hlt,hc⟩:=h4 hl
 exact ⟨b,off,ha,hlt,fun j hj i u hu=>(hb.cell (p:=⟨b,off+j * k+i,none⟩) hlt).trans (hc j hj i u hu)⟩
theorem Ls.up {α : Type} {B B' : Nat} {w : World} {k : Nat} {cs : α→List Value} {v : Value} {xs : List α} (h : Ls B w k cs v xs) (hb : B≤B') : Ls B' w k cs v xs:=by
 obtain ⟨ao,cap,hv,h1,h2,h4⟩:=h
 refine ⟨ao,cap,hv,h1,h2,fun hl=>?_⟩
 obtain ⟨b,off,ha,hlt,hc⟩:=h4 hl
 exact ⟨b,off,ha,Nat.lt_of_lt_of_le hlt hb,hc⟩
theorem Ls.nil {α : Type} (B : Nat) (w : World) (k : Nat) (cs : α→List Value) : Ls B w k cs (.slice none 0 0) []:=⟨none,0,rfl,by simp,by simp,fun h=>absurd rfl h⟩
theorem Wr.alloc {B : Nat} {w : World} {g : Nat} {l : Bs} (h : Wr B w g l) (o : Obj) : Wr B (w.alloc o) g l:=by
 obtain ⟨hg,v,hh,hown⟩:=h
 exact ⟨hg,v,(heap_past w o g (Ad hh)).trans hh,hown.alloc o⟩
theorem Wr.drew {B : Nat} {w : World} {g : Nat} {l : Bs} (h : Wr B w g l) : Wr B w.drew g l:=h
theorem Wr.base {B : Nat} {w : World} {g : Nat} {l : Bs} (h : Wr B w g l) : B≤w.heap.size:=Nat.le_of_lt (Nat.lt_of_le_of_lt h.1 h.lt)
theorem Kt.cell {ts : List TypeId} {w w' : World} {k i : Nat} {cs : Array Value} {t : TypeId} {fr : Nat × Nat} {u : Value} (h : Kt ts w w') (hk : w.heap[k]? = some (Obj.cells cs t fr)) (ht : t ∉ ts) (hu : cs[i]? = some u) : w'.cell? ⟨k,i,none⟩=some u:=by
 rw [cell_of_row w' k i _ _ _ (h.2 k cs t fr hk ht),hu]
theorem Kt.alloc {ts : List TypeId} (w : World) (o : Obj) : Kt ts w (w.alloc o):=Kt.below ((Below.refl _ _).alloc (Nat.le_refl _) _)
theorem flat_step {α : Type} (enc : α→Bs) (xs : List α) (k : Nat) (hk : k<xs.length) : (xs.take (k+1)).flatMap enc=(xs.take k).flatMap enc++enc xs[k]:=by
 rw [List.take_succ_eq_append_getElem hk,List.flatMap_append]
 simp
theorem flat_le {α : Type} (enc : α→Bs) (xs : List α) (k : Nat) : ((xs.take k).flatMap enc).length≤(xs.flatMap enc).length:=by
 have e : xs.flatMap enc=(xs.take k).flatMap enc++(xs.drop k).flatMap enc:=by rw [← List.flatMap_append,List.take_append_drop]
 rw [e,List.length_append]
 omega
theorem partB_length (p : Part) : (Fg p).length=p.1.length+(num p.2).length:=by simp [Fg]
theorem N3 (p : Ag) : (Cu p).length=(txt p.1).length+(txt p.2).length:=by simp [Cu]
theorem linkB_length (p : Ah) : (D9 p).length=(txt p.1).length+(p.2.1.length+(num p.2.2).length):=by simp [D9,Fg]
set_option maxRecDepth 20000 in
theorem layPart_any (B : Nat) (w : World) (g : Nat) (l : Bs) (p : Part) (hW : Wr B w g l) (hp : Cg p.2) (hsz : l.length+(Fg p).length+10≤140737488355328) :
  Calls Tryz.prog 124 #[.pointer (some ⟨g,0,none⟩), .agg #[.string (Ab p.1), .int .i64 p.2]] w fun e w'=>e = .returned (.tuple #[])∧Wr B w' g (l++Fg p)∧Below B w w'∧Kt wts w w':=by
 have hBw:=hW.base
 have hb0 : Below B w (w.alloc (.cells #[.string (Ab p.1), .int .i64 p.2] 60)):=(Below.refl _ _).alloc hBw _
 have hk0 : Kt wts w (w.alloc (.cells #[.string (Ab p.1), .int .i64 p.2] 60)):=Kt.alloc w _
 have hx0:=heap_last w (.cells #[.string (Ab p.1), .int .i64 p.2] 60) _ rfl
 have hW0:=hW.alloc (.cells #[.string (Ab p.1), .int .i64 p.2] 60)
 have hl:=partB_length p
 have HW:=Ac hW0
 clear hW hW0
 go_enter Tryz.func124,Tryz.ntmps124
 go_wp2_with fail
 refine (La B _ g (l) p.1 HW.out (by (try simp only [List.length_append]); omega)).mono ?_
 rintro e w1 ⟨rfl,hW1,hb1,hk1⟩
 have hkA1:=hk0.trans hk1
 have hbA1:=hb0.trans hb1
 have hx1:=hk1.2 _ _ _ _ hx0 (by decide)
 have c10:=cell_of_row w1 w.heap.size 0 _ _ _ hx1
 simp only [List.getElem?_toArray,List.getElem?_cons_zero] at c10
 have c11:=cell_of_row w1 w.heap.size 1 _ _ _ hx1
 simp only [List.getElem?_toArray,List.getElem?_cons_zero,List.getElem?_cons_succ] at c11
 have HW1:=Ac hW1
 have HX1:=Ac hx1
 clear hW1
 go_wp2_with fail
 refine (Gx B _ g (l++p.1) p.2 HW1.out hp (by (try simp only [List.length_append]); omega)).mono ?_
 rintro e w2 ⟨rfl,hW2,hb2,hk2⟩
 have hkA2:=hkA1.trans hk2
 have hbA2:=hbA1.trans hb2
 have hx2:=hk2.2 _ _ _ _ hx1 (by decide)
 have c20:=cell_of_row w2 w.heap.size 0 _ _ _ hx2
 simp only [List.getElem?_toArray,List.getElem?_cons_zero] at c20
 have c21:=cell_of_row w2 w.heap.size 1 _ _ _ hx2
 simp only [List.getElem?_toArray,List.getElem?_cons_zero,List.getElem?_cons_succ] at c21
 have HW2:=Ac hW2
 have HX2:=Ac hx2
 clear hW2
 go_wp2
 go_end0
 refine ⟨rfl,?_,hbA2,hkA2⟩
 have:=HW2.out
 simp only [List.append_assoc] at this
 exact this
set_option maxRecDepth 20000 in
theorem layPair_any (B : Nat) (w : World) (g : Nat) (l : Bs) (p : Ag) (hW : Wr B w g l)  (hsz : l.length+(Cu p).length+10≤140737488355328) :
  Calls Tryz.prog 252 #[.pointer (some ⟨g,0,none⟩), .agg #[.string (Ab p.1), .string (Ab p.2)]] w fun e w'=>e = .returned (.tuple #[])∧Wr B w' g (l++Cu p)∧Below B w w'∧Kt wts w w':=by
 have hBw:=hW.base
 have hb0 : Below B w (w.alloc (.cells #[.string (Ab p.1), .string (Ab p.2)] 135)):=(Below.refl _ _).alloc hBw _
 have hk0 : Kt wts w (w.alloc (.cells #[.string (Ab p.1), .string (Ab p.2)] 135)):=Kt.alloc w _
 have hx0:=heap_last w (.cells #[.string (Ab p.1), .string (Ab p.2)] 135) _ rfl
 have hW0:=hW.alloc (.cells #[.string (Ab p.1), .string (Ab p.2)] 135)
 have hl:=N3 p
 have HW:=Ac hW0
 clear hW hW0
 go_enter Tryz.func252,Tryz.ntmps252
 go_wp2_with fail
 refine (Lp B _ g (l) p.1 HW.out (by (try simp only [List.length_append]); omega)).mono ?_
 rintro e w1 ⟨rfl,hW1,hb1,hk1⟩
 have hkA1:=hk0.trans hk1
 have hbA1:=hb0.trans hb1
 have hx1:=hk1.2 _ _ _ _ hx0 (by decide)
 have c10:=cell_of_row w1 w.heap.size 0 _ _ _ hx1
 simp only [List.getElem?_toArray,List.getElem?_cons_zero] at c10
 have c11:=cell_of_row w1 w.heap.size 1 _ _ _ hx1
 simp only [List.getElem?_toArray,List.getElem?_cons_zero,List.getElem?_cons_succ] at c11
 have HW1:=Ac hW1
 have HX1:=Ac hx1
 clear hW1
 go_wp2_with fail
 refine (Lp B _ g (l++txt p.1) p.2 HW1.out (by (try simp only [List.length_append]); omega)).mono ?_
 rintro e w2 ⟨rfl,hW2,hb2,hk2⟩
 have hkA2:=hkA1.trans hk2
 have hbA2:=hbA1.trans hb2
 have hx2:=hk2.2 _ _ _ _ hx1 (by decide)
 have c20:=cell_of_row w2 w.heap.size 0 _ _ _ hx2
 simp only [List.getElem?_toArray,List.getElem?_cons_zero] at c20
 have c21:=cell_of_row w2 w.heap.size 1 _ _ _ hx2
 simp only [List.getElem?_toArray,List.getElem?_cons_zero,List.getElem?_cons_succ] at c21
 have HW2:=Ac hW2
 have HX2:=Ac hx2
 clear hW2
 go_wp2
 go_end0
 refine ⟨rfl,?_,hbA2,hkA2⟩
 have:=HW2.out
 simp only [List.append_assoc] at this
 exact this
set_option maxRecDepth 20000 in
theorem layLink_any (B : Nat) (w : World) (g : Nat) (l : Bs) (p : Ah) (hW : Wr B w g l) (hp : Cg p.2.2) (hsz : l.length+(D9 p).length+10≤140737488355328) :
  Calls Tryz.prog 255 #[.pointer (some ⟨g,0,none⟩), .agg #[.string (Ab p.1), .string (Ab p.2.1), .int .i64 p.2.2]] w fun e w'=>e = .returned (.tuple #[])∧Wr B w' g (l++D9 p)∧Below B w w'∧Kt wts w w':=by
 have hBw:=hW.base
 have hb0 : Below B w (w.alloc (.cells #[.string (Ab p.1), .string (Ab p.2.1), .int .i64 p.2.2] 125)):=(Below.refl _ _).alloc hBw _
 have hk0 : Kt wts w (w.alloc (.cells #[.string (Ab p.1), .string (Ab p.2.1), .int .i64 p.2.2] 125)):=Kt.alloc w _
 have hx0:=heap_last w (.cells #[.string (Ab p.1), .string (Ab p.2.1), .int .i64 p.2.2] 125) _ rfl
 have hW0:=hW.alloc (.cells #[.string (Ab p.1), .string (Ab p.2.1), .int .i64 p.2.2] 125)
 have hl:=linkB_length p
 have HW:=Ac hW0
 clear hW hW0
 go_enter Tryz.func255,Tryz.ntmps255
 go_wp2_with fail
 refine (Lp B _ g (l) p.1 HW.out (by (try simp only [List.length_append]); omega)).mono ?_
 rintro e w1 ⟨rfl,hW1,hb1,hk1⟩
 have hkA1:=hk0.trans hk1
 have hbA1:=hb0.trans hb1
 have hx1:=hk1.2 _ _ _ _ hx0 (by decide)
 have c10:=cell_of_row w1 w.heap.size 0 _ _ _ hx1
 simp only [List.getElem?_toArray,List.getElem?_cons_zero] at c10
 have c11:=cell_of_row w1 w.heap.size 1 _ _ _ hx1
 simp only [List.getElem?_toArray,List.getElem?_cons_zero,List.getElem?_cons_succ] at c11
 have c12:=cell_of_row w1 w.heap.size 2 _ _ _ hx1
 simp only [List.getElem?_toArray,List.getElem?_cons_zero,List.getElem?_cons_succ] at c12
 have HW1:=Ac hW1
 have HX1:=Ac hx1
 clear hW1
 go_wp2_with fail
 refine (La B _ g (l++txt p.1) p.2.1 HW1.out (by (try simp only [List.length_append]); omega)).mono ?_
 rintro e w2 ⟨rfl,hW2,hb2,hk2⟩
 have hkA2:=hkA1.trans hk2
 have hbA2:=hbA1.trans hb2
 have hx2:=hk2.2 _ _ _ _ hx1 (by decide)
 have c20:=cell_of_row w2 w.heap.size 0 _ _ _ hx2
 simp only [List.getElem?_toArray,List.getElem?_cons_zero] at c20
 have c21:=cell_of_row w2 w.heap.size 1 _ _ _ hx2
 simp only [List.getElem?_toArray,List.getElem?_cons_zero,List.getElem?_cons_succ] at c21
 have c22:=cell_of_row w2 w.heap.size 2 _ _ _ hx2
 simp only [List.getElem?_toArray,List.getElem?_cons_zero,List.getElem?_cons_succ] at c22
 have HW2:=Ac hW2
 have HX2:=Ac hx2
 clear hW2
 go_wp2_with fail
 refine (Gx B _ g ((l++txt p.1)++p.2.1) p.2.2 HW2.out hp (by (try simp only [List.length_append]); omega)).mono ?_
 rintro e w3 ⟨rfl,hW3,hb3,hk3⟩
 have hkA3:=hkA2.trans hk3
 have hbA3:=hbA2.trans hb3
 have hx3:=hk3.2 _ _ _ _ hx2 (by decide)
 have c30:=cell_of_row w3 w.heap.size 0 _ _ _ hx3
 simp only [List.getElem?_toArray,List.getElem?_cons_zero] at c30
 have c31:=cell_of_row w3 w.heap.size 1 _ _ _ hx3
 simp only [List.getElem?_toArray,List.getElem?_cons_zero,List.getElem?_cons_succ] at c31
 have c32:=cell_of_row w3 w.heap.size 2 _ _ _ hx3
 simp only [List.getElem?_toArray,List.getElem?_cons_zero,List.getElem?_cons_succ] at c32
 have HW3:=Ac hW3
 have HX3:=Ac hx3
 clear hW3
 go_wp2
 go_end0
 refine ⟨rfl,?_,hbA3,hkA3⟩
 have:=HW3.out
 simp only [List.append_assoc] at this
 exact this
set_option maxRecDepth 20000 in
theorem layPairs_any (B : Nat) (w : World) (g : Nat) (l : Bs) (v : Value) (xs : List (Ag)) (hW : Wr B w g l) (hv : Ls B w 2 Ak v xs)  (hlen : xs.length≤9223372036854775807) (hsz : l.length+(Dv Cu xs).length+30≤140737488355328) :
  Calls Tryz.prog 251 #[.pointer (some ⟨g,0,none⟩),v, .func (.func 252) #[.pointer (some ⟨g,0,none⟩)] #[]] w fun e w'=>e = .returned (.tuple #[])∧Wr B w' g (l++Dv Cu xs)∧Below B w w'∧Kt wts w w':=by
 have hBw:=hW.base
 have HV:=Ac hv
 obtain ⟨ao,cap,rfl,h1,h2,h4⟩:=hv
 have hll : (Dv Cu xs).length=(num xs.length).length+(xs.flatMap Cu).length:=by simp [Dv]
 have hnl:=El xs.length
 unfold maxLen at h2
 go_enter Tryz.func251,Tryz.ntmps251
 go_wp2_with fail
 refine (Gx B _ g l xs.length hW ⟨by omega,by omega⟩ (by omega)).mono ?_
 rintro e w1 ⟨rfl,hW1,hb1,hk1⟩
 clear hW
 go_wp2_with fail
 go_loopw [14] (fun t wr=>∃ k : Nat,k≤xs.length∧t = .int .i64 k∧Wr B wr g ((l++num xs.length)++(xs.take k).flatMap Cu)∧Below B w wr∧Kt wts w wr)
  (fun t _=>xs.length - (intOf t).toNat)
 case atStart=>exact ⟨0,by omega,rfl,by simpa using hW1,hb1,hk1⟩
 case round=>
  clear hW1 hb1 hk1
  obtain ⟨k,hk,rfl,hWr,hb,hkt⟩:=hrel
  have hBr:=hWr.base
  have HW:=Ac hWr
  have HB:=Ac hb
  have HK:=Ac hkt
  clear hWr hb hkt
  by_cases hlt : k<xs.length
  ·obtain ⟨b,off,rfl,hbB,hc⟩:=h4 (by rintro rfl; simp at hlt)
   have hcell : ∀ i u,(Ak xs[k])[i]? = some u→wr.cell? ⟨b,off+k * 2+i,none⟩=some u:=fun i u hu=>(HB.out.cell (p:=⟨b,off+k * 2+i,none⟩) hbB).trans (hc k hlt i u hu)
   have hst:=flat_step Cu xs k hlt
   have hle:=flat_le Cu xs (k+1)
   rw [hst,List.length_append] at hle
   have HST:=Ac hst
   generalize hx : xs[k]=x at *
   have c0:=hcell 0 _ rfl
   have c1:=hcell 1 _ rfl
   try simp only [Nat.add_zero] at c0
   go_wp2_with fail
   refine (layPair_any B _ g _ x (HW.out.alloc _)  (by simp only [List.length_append]; omega)).mono ?_
   rintro e w2 ⟨rfl,hW2,hb2,hk2⟩
   have HW2:=Ac hW2
   have HB2 : Hid (Below B w w2):=Ac ((HB.out.alloc hBr _).trans hb2)
   have HK2 : Hid (Kt wts w w2):=Ac ((HK.out.trans (Kt.alloc wr _)).trans hk2)
   clear hW2 hb2 hk2
   go_wp2
   go_roundw
   case rel=>exact ⟨k+1,by omega,by go_num,by rw [HST.out,← List.append_assoc]; exact HW2.out,HB2.out,HK2.out⟩
   case measure=>simp [intOf]; omega
  ·obtain rfl : k=xs.length:=by omega
   go_wp2
   go_end0
   refine ⟨rfl,?_,HB.out,HK.out⟩
   have:=HW.out
   rw [List.take_length,List.append_assoc] at this
   exact this
set_option maxRecDepth 20000 in
theorem layLinks_any (B : Nat) (w : World) (g : Nat) (l : Bs) (v : Value) (xs : List (Ah)) (hW : Wr B w g l) (hv : Ls B w 3 Au v xs) (hp : ∀ x∈xs,Cg x.2.2) (hlen : xs.length≤9223372036854775807) (hsz : l.length+(Dv D9 xs).length+30≤140737488355328) :
  Calls Tryz.prog 254 #[.pointer (some ⟨g,0,none⟩),v, .func (.func 255) #[.pointer (some ⟨g,0,none⟩)] #[]] w fun e w'=>e = .returned (.tuple #[])∧Wr B w' g (l++Dv D9 xs)∧Below B w w'∧Kt wts w w':=by
 have hBw:=hW.base
 have HV:=Ac hv
 obtain ⟨ao,cap,rfl,h1,h2,h4⟩:=hv
 have hll : (Dv D9 xs).length=(num xs.length).length+(xs.flatMap D9).length:=by simp [Dv]
 have hnl:=El xs.length
 unfold maxLen at h2
 go_enter Tryz.func254,Tryz.ntmps254
 go_wp2_with fail
 refine (Gx B _ g l xs.length hW ⟨by omega,by omega⟩ (by omega)).mono ?_
 rintro e w1 ⟨rfl,hW1,hb1,hk1⟩
 clear hW
 go_wp2_with fail
 go_loopw [14] (fun t wr=>∃ k : Nat,k≤xs.length∧t = .int .i64 k∧Wr B wr g ((l++num xs.length)++(xs.take k).flatMap D9)∧Below B w wr∧Kt wts w wr)
  (fun t _=>xs.length - (intOf t).toNat)
 case atStart=>exact ⟨0,by omega,rfl,by simpa using hW1,hb1,hk1⟩
 case round=>
  clear hW1 hb1 hk1
  obtain ⟨k,hk,rfl,hWr,hb,hkt⟩:=hrel
  have hBr:=hWr.base
  have HW:=Ac hWr
  have HB:=Ac hb
  have HK:=Ac hkt
  clear hWr hb hkt
  by_cases hlt : k<xs.length
  ·obtain ⟨b,off,rfl,hbB,hc⟩:=h4 (by rintro rfl; simp at hlt)
   have hcell : ∀ i u,(Au xs[k])[i]? = some u→wr.cell? ⟨b,off+k * 3+i,none⟩=some u:=fun i u hu=>(HB.out.cell (p:=⟨b,off+k * 3+i,none⟩) hbB).trans (hc k hlt i u hu)
   have hst:=flat_step D9 xs k hlt
   have hle:=flat_le D9 xs (k+1)
   rw [hst,List.length_append] at hle
   have HST:=Ac hst
   generalize hx : xs[k]=x at *
   have c0:=hcell 0 _ rfl
   have c1:=hcell 1 _ rfl
   have c2:=hcell 2 _ rfl
   try simp only [Nat.add_zero] at c0
   go_wp2_with fail
   refine (layLink_any B _ g _ x (HW.out.alloc _) (hp x (hx ▸ List.getElem_mem hlt)) (by simp only [List.length_append]; omega)).mono ?_
   rintro e w2 ⟨rfl,hW2,hb2,hk2⟩
   have HW2:=Ac hW2
   have HB2 : Hid (Below B w w2):=Ac ((HB.out.alloc hBr _).trans hb2)
   have HK2 : Hid (Kt wts w w2):=Ac ((HK.out.trans (Kt.alloc wr _)).trans hk2)
   clear hW2 hb2 hk2
   go_wp2
   go_roundw
   case rel=>exact ⟨k+1,by omega,by go_num,by rw [HST.out,← List.append_assoc]; exact HW2.out,HB2.out,HK2.out⟩
   case measure=>simp [intOf]; omega
  ·obtain rfl : k=xs.length:=by omega
   go_wp2
   go_end0
   refine ⟨rfl,?_,HB.out,HK.out⟩
   have:=HW.out
   rw [List.take_length,List.append_assoc] at this
   exact this
end Go.Proofs.YtckejblkppllaaaGreatDoor
