/-
  Texts joined: PPlain, BPlain, BFind, PNode, BRow, BAsked.
-/
import Derived.Test.YtckejblkppllaaaGreatDoorT14ORBranch
import Derived.Test.YtckejblkppllaaaGreatDoorT12OEntry2
import Derived.Maps.AppendAt
namespace Go.Proofs.YtckejblkppllaaaGreatDoor
theorem Gu (a b : UInt8) (l m : Bs) : ltB (a :: l) (b :: m)=(decide (a<b) || (a == b && ltB l m)):=by
 unfold ltB
 rw [Op.bytesLess]
theorem Gi (b : UInt8) (m : Bs) : ltB [] (b :: m)=true:=by unfold ltB; rw [Op.bytesLess]
theorem Gh (l : Bs) : ltB l []=false:=by
 unfold ltB
 cases l <;> rw [Op.bytesLess]
theorem Lx : ∀ (a b c : Bs),ltB a b=true→ltB b c=true→ltB a c=true
 | _,_,[],_,h2=>by rw [Gh] at h2; cases h2
 | [],_,c :: r,_,_=>Gi c r
 | a :: l,[],_ :: _,h1,_=>by rw [Gh] at h1; cases h1
 | a :: l,b :: m,c :: r,h1,h2=>by
  rw [Gu] at h1 h2 ⊢
  simp only [Bool.or_eq_true,decide_eq_true_eq,Bool.and_eq_true,beq_iff_eq] at h1 h2 ⊢
  rcases h1 with h1 | ⟨rfl,h1⟩
  ·rcases h2 with h2 | ⟨rfl,h2⟩
   ·exact .inl (UInt8.lt_trans h1 h2)
   ·exact .inl h1
  ·rcases h2 with h2 | ⟨rfl,h2⟩
   ·exact .inl h2
   ·exact .inr ⟨rfl,Lx l m r h1 h2⟩
theorem Jr : ∀ (a : Bs),ltB a a=false
 | []=>Gh []
 | a :: l=>by rw [Gu,Jr l]; simp
theorem Fb : ∀ (l : List Bs),Bd ltB l=true↔l.Pairwise (fun a b=>ltB a b=true)
 | []=>by simp [Bd]
 | [a]=>by simp [Bd]
 | a :: b :: r=>by
  rw [Bd,Bool.and_eq_true,Fb (b :: r)]
  constructor
  ·rintro ⟨h1,h2⟩
   refine List.pairwise_cons.2 ⟨fun c hc=>?_,h2⟩
   rcases List.mem_cons.1 hc with rfl | hc
   ·exact h1
   ·exact Lx _ _ _ h1 ((List.pairwise_cons.1 h2).1 c hc)
  ·intro h
   have h:=List.pairwise_cons.1 h
   exact ⟨h.1 b (by simp),h.2⟩
def Bp {α : Type} (e : Nat→α→Bool) : List α→List α→List (List α)
 | cur,[]=>if cur.isEmpty then [] else [cur]
 | cur,x :: r=>if e (cur.length+1) x then (cur ++ [x]) :: Bp e [] r else Bp e (cur ++ [x]) r
theorem F2 {α : Type} (e : Nat→α→Bool) : ∀ (r cur : List α),(Bp e cur r).flatten=cur++r
 | [],cur=>by
  rw [Bp]
  cases cur <;> simp
 | x :: r,cur=>by
  rw [Bp]
  by_cases h : e (cur.length+1) x=true
  ·rw [if_pos h,List.flatten_cons,F2 e r []]; simp
  ·rw [if_neg h,F2 e r]; simp
theorem Gl {α : Type} (e : Nat→α→Bool) : ∀ (r cur : List α),∀ g∈Bp e cur r,1≤g.length
 | [],cur,g,hg=>by
  rw [Bp] at hg
  cases cur with
  | nil=>simp at hg
  | cons a l=>simp at hg; rw [hg]; simp
 | x :: r,cur,g,hg=>by
  rw [Bp] at hg
  by_cases h : e (cur.length+1) x=true
  ·rw [if_pos h] at hg
   rcases List.mem_cons.1 hg with rfl | hg
   ·simp
   ·exact Gl e r [] g hg
  ·rw [if_neg h] at hg
   exact Gl e r _ g hg
theorem Iy {α : Type} (e : Nat→α→Bool) (m : Nat) (he : ∀ x,e m x=true) : ∀ (r cur : List α),cur.length<m→∀ g∈Bp e cur r,g.length≤m
 | [],cur,hc,g,hg=>by
  rw [Bp] at hg
  cases cur with
  | nil=>simp at hg
  | cons a l=>simp at hg; rw [hg]; omega
 | x :: r,cur,hc,g,hg=>by
  rw [Bp] at hg
  by_cases h : e (cur.length+1) x=true
  ·rw [if_pos h] at hg
   rcases List.mem_cons.1 hg with rfl | hg
   ·simp; omega
   ·exact Iy e m he r [] (by simp; omega) g hg
  ·rw [if_neg h] at hg
   refine Iy e m he r _ ?_ g hg
   have : cur.length+1≠m:=fun q=>h (by rw [q]; exact he x)
   simp; omega
theorem Lb {α : Type} (e : Nat→α→Bool) (he : ∀ n x,e n x=true→2≤n) : ∀ (r cur : List α),2 * (Bp e cur r).length≤cur.length+r.length+1
 | [],cur=>by
  rw [Bp]
  cases cur with
  | nil=>simp
  | cons a l=>simp
 | x :: r,cur=>by
  rw [Bp]
  by_cases h : e (cur.length+1) x=true
  ·have h1:=Lb e he r []
   have h2:=he _ _ h
   rw [if_pos h]
   simp at h1 ⊢
   omega
  ·have h1:=Lb e he r (cur ++ [x])
   rw [if_neg h]
   simp at h1 ⊢
   omega
theorem gath_ne {α : Type} (e : Nat→α→Bool) (r cur : List α) (h : cur ≠ []∨r ≠ []) : 1≤(Bp e cur r).length:=by
 have hf:=F2 e r cur
 cases hg : Bp e cur r with
 | nil=>
  rw [hg] at hf
  simp at hf
  rcases h with h | h
  ·exact absurd hf.1 h
  ·exact absurd hf.2 h
 | cons a l=>simp
theorem gath_le {α : Type} (e : Nat→α→Bool) (r cur : List α) : (Bp e cur r).length≤cur.length+r.length:=by
 have hf:=congrArg List.length (F2 e r cur)
 have hp:=Gl e r cur
 have : ∀ (gs : List (List α)),(∀ g∈gs,1≤g.length)→gs.length≤gs.flatten.length:=by
  intro gs
  induction gs with
  | nil=>simp
  | cons g gs ih=>
   intro hc
   have h1:=ih (fun d hd=>hc d (by simp [hd]))
   have h2:=hc g (by simp)
   simp at h1 ⊢
   omega
 have h3:=this _ hp
 rw [hf] at h3
 simpa using h3
theorem gath_in {α : Type} {e : Nat→α→Bool} {r cur : List α} {g : List α} (hg : g∈Bp e cur r) : g.Sublist (cur++r):=by
 rw [← F2 e r cur]
 exact List.sublist_flatten_of_mem hg
theorem Ln {α β : Type} (f : α→β) (d : β) : ∀ (gs : List (List α)),(∀ g∈gs,1≤g.length)→(gs.map (fun g=>(g.getLast?.map f).getD d)).Sublist (gs.flatten.map f)
 | [],_=>by simp
 | g :: gs,h=>by
  have h1:=Ln f d gs (fun x hx=>h x (by simp [hx]))
  have h2:=h g (by simp)
  rw [List.map_cons,List.flatten_cons,List.map_append]
  obtain ⟨l,x,rfl⟩ : ∃ l x,g=l ++ [x]:=⟨g.dropLast,g.getLast (by intro q; rw [q] at h2; simp at h2),(List.dropLast_concat_getLast _).symm⟩
  rw [show ((l ++ [x]).getLast?.map f).getD d=f x from by simp]
  rw [List.map_append,List.append_assoc]
  exact (List.Sublist.cons_cons _ h1 : (f x :: _).Sublist ([x].map f++gs.flatten.map f)).trans (List.sublist_append_right _ _)
def Cx (n : Nat) (last : Bs) (level : Nat) : Bool:=((((sha last)[31 - level]?.getD 0).toNat : Int) % 16 == 0 && (decide (level=0) || decide (2≤n))) || decide (n=64)
theorem ends12_64 (last : Bs) (level : Nat) : Cx 64 last level=true:=by unfold Cx; simp
theorem ends12_two {n : Nat} {last : Bs} {level : Nat} (h : Cx n last (level+1)=true) : 2≤n:=by
 unfold Cx at h
 simp only [Bool.or_eq_true,Bool.and_eq_true,decide_eq_true_eq] at h
 rcases h with ⟨-,h | h⟩ | h
 ·omega
 ·exact h
 ·omega
def By (l : List Ag) : Bs:=(l.getLast?.map (·.1)).getD []
def E6 (l : List Ah) : Bs:=(l.getLast?.map (·.1)).getD []
def Am (l : List Ah) : Int:=(l.map (·.2.2)).sum
def Ay (g : List Ag) : Ag:=(sha (76 :: Bv g),76 :: Bv g)
def C4 (g : List Ag) : Ah:=(By g,((Ay g).1,(g.length : Int)))
def brO (level : Int) (g : List Ah) : Ag:=(sha (66 :: C8 (level,g)),66 :: C8 (level,g))
def brK (level : Int) (g : List Ah) : Ah:=(E6 g,((brO level g).1,Am g))
def C3 (l : List Ag) : List (List Ag):=Bp (fun n p=>Cx n p.1 0) [] l
def brG (level : Nat) (l : List Ah) : List (List Ah):=Bp (fun n p=>Cx n p.1 level) [] l
def E1 : Nat→Nat→List Ah→List Ag→Ah × List Ag
 | 0,_,ks,raw=>(ks.headD ([],[],0),raw)
 | n+1,level,ks,raw=>if 1<ks.length then E1 n (level+1) ((brG level ks).map (brK level)) (raw++(brG level ks).map (brO level)) else (ks.headD ([],[],0),raw)
theorem Jf {n level : Nat} {ks : List Ah} {raw : List Ag} (h : ¬ 1<ks.length) : E1 n level ks raw=(ks.headD ([],[],0),raw):=by
 cases n with
 | zero=>rfl
 | succ n=>rw [E1,if_neg h]
def C7 (os : List Ag) (o : Ag) : List Ag:=if os.any (fun x=>x.1 == o.1) then os else os ++ [o]
def Bo (os raw : List Ag) : List Ag:=raw.foldl C7 os
theorem layP_le (os : List Ag) (o : Ag) : (C7 os o).length≤os.length+1:=by
 unfold C7
 split
 ·omega
 ·simp
theorem Gj : ∀ (raw os : List Ag),(Bo os raw).length≤os.length+raw.length
 | [],os=>by simp [Bo]
 | o :: raw,os=>by
  have h1:=Gj raw (C7 os o)
  have h2:=layP_le os o
  show (Bo (C7 os o) raw).length≤_
  simp only [List.length_cons]
  omega
theorem No (os a b : List Ag) : Bo os (a++b)=Bo (Bo os a) b:=List.foldl_append
def Ce (l : List Ag) : Bool:=l.all A3 && Bd ltB (l.map (·.1))
def mapR (l : List Ag) : Ah × List Ag:=E1 13 1 ((C3 l).map C4) ((C3 l).map Ay)
def Cl (l : List Ag) : Bs × List Ag × Int:=
 if 4096<l.length then ([],[],121)
 else if Ce l=false then ([],[],120)
 else if l.length=0 then ((Ay []).1,[Ay []],0)
 else ((mapR l).1.2.1,Bo [] (mapR l).2,0)
structure LevOk (j : Nat) (ks : List Ah) (raw : List Ag) : Prop where
 pos : 1≤ks.length
 few : ks.length≤2 ^ (13 - j)
 each : ∀ k∈ks,A6 k=true
 rises : Bd ltB (ks.map (·.1))=true
 sum : Am ks≤4096
 objs : raw.length+2 * ks.length≤100000
theorem Ht (a b : List Ah) : Am (a++b)=Am a+Am b:=by simp [Am,List.sum_append]
theorem Ee (k : Ah) : A6 k=true↔As k.1=true∧Ci k.2.1=true∧1≤k.2.2∧k.2.2≤4096:=by
 unfold A6
 simp only [Bool.and_eq_true,decide_eq_true_eq]
 constructor
 ·rintro ⟨⟨⟨h1,h2⟩,h3⟩,h4⟩; exact ⟨h1,h2,h3,h4⟩
 ·rintro ⟨h1,h2,h3,h4⟩; exact ⟨⟨⟨h1,h2⟩,h3⟩,h4⟩
theorem Ef : ∀ (ks : List Ah),(∀ k∈ks,A6 k=true)→(ks.length : Int)≤Am ks
 | [],_=>by simp [Am]
 | k :: r,h=>by
  have h1:=Ef r (fun q hq=>h q (by simp [hq]))
  have h2:=((Ee k).1 (h k (by simp))).2.2.1
  have : Am (k :: r)=k.2.2+Am r:=by simp [Am]
  rw [this,List.length_cons]
  omega
theorem manyL_in : ∀ (gs : List (List Ah)) (g : List Ah),(∀ k∈gs.flatten,A6 k=true)→g∈gs→Am g≤Am gs.flatten
 | [],_,_,h=>by cases h
 | a :: gs,g,hk,h=>by
  rw [List.flatten_cons,Ht]
  have h1:=Ef a (fun k hk'=>hk k (by simp [hk']))
  have h2:=Ef gs.flatten (fun k hk'=>hk k (by rw [List.flatten_cons]; exact List.mem_append_right _ hk'))
  rcases List.mem_cons.1 h with rfl | h
  ·omega
  ·have:=manyL_in gs g (fun k hk'=>hk k (by rw [List.flatten_cons]; exact List.mem_append_right _ hk')) h
   omega
theorem manyL_map (level : Int) : ∀ (gs : List (List Ah)),Am (gs.map (brK level))=Am gs.flatten
 | []=>rfl
 | g :: gs=>by
  rw [List.flatten_cons,Ht,← manyL_map level gs]
  simp [Am,brK]
theorem branchOk_of {level : Int} {g : List Ah} (h1 : 1≤level) (h2 : level≤20) (hp : 1≤g.length) (hm : g.length≤64) (he : ∀ k∈g,A6 k=true) (hr : Bd ltB (g.map (·.1))=true) (hs : Am g≤4096) : A4 ltB (level,g)=true:=by
 rw [I9 (level,g) (by simp only [Dw,decide_eq_true_eq]; exact ⟨h1,h2⟩) hp hm]
 simp only [Bool.and_eq_true,decide_eq_true_eq,List.all_eq_true]
 exact ⟨⟨he,hr⟩,hs⟩
theorem lastL_mem {g : List Ah} (h : 1≤g.length) : ∃ k∈g,E6 g=k.1:=by
 obtain ⟨l,x,rfl⟩ : ∃ l x,g=l ++ [x]:=⟨g.dropLast,g.getLast (by intro q; rw [q] at h; simp at h),(List.dropLast_concat_getLast _).symm⟩
 exact ⟨x,by simp,by simp [E6]⟩
theorem LevOk.group {j : Nat} {ks : List Ah} {raw : List Ag} (h : LevOk j ks raw) {level : Nat} {g : List Ah} (hg : g∈brG level ks) : 1≤g.length∧g.length≤64∧(∀ k∈g,A6 k=true)∧Bd ltB (g.map (·.1))=true∧Am g≤4096∧1≤Am g:=by
 have h1:=Gl _ _ _ g hg
 have h2:=Iy _ 64 (fun x=>ends12_64 x.1 level) _ [] (by simp) g hg
 have h3:=gath_in hg
 have hf:=F2 (fun n p=>Cx n p.1 level) ks []
 simp only [List.nil_append] at h3 hf
 change (brG level ks).flatten=ks at hf
 have h4 : ∀ k∈g,A6 k=true:=fun k hk=>h.each k (h3.subset hk)
 have h5:=manyL_in _ g (by rw [hf]; exact h.each) hg
 rw [hf] at h5
 have h6:=Ef g h4
 refine ⟨h1,h2,h4,(Fb _).2 (((Fb _).1 h.rises).sublist (h3.map _)),Int.le_trans h5 h.sum,by omega⟩
theorem LevOk.next {j : Nat} {ks : List Ah} {raw : List Ag} (h : LevOk j ks raw) (hlt : 1<ks.length) : LevOk (j+1) ((brG (j+1) ks).map (brK ((j+1 : Nat) : Int))) (raw++(brG (j+1) ks).map (brO ((j+1 : Nat) : Int))):=by
 have hh:=Lb (fun n (p : Ah)=>Cx n p.1 (j+1)) (fun n x hx=>ends12_two hx) ks []
 have hf:=F2 (fun n (p : Ah)=>Cx n p.1 (j+1)) ks []
 have hp:=Gl (fun n (p : Ah)=>Cx n p.1 (j+1)) ks []
 have h1:=gath_ne (fun n (p : Ah)=>Cx n p.1 (j+1)) ks [] (.inr (by intro e; rw [e] at hlt; simp at hlt))
 have ho:=h.objs
 have hfw:=h.few
 have hj : j<13:=by
  rcases Nat.lt_or_ge j 13 with q | q
  ·exact q
  ·rw [show 13 - j=0 from by omega] at hfw
   simp at hfw
   omega
 have hp2 : 2 ^ (13 - j)=2 * 2 ^ (13 - (j+1)):=by rw [show 13 - j=(13 - (j+1))+1 from by omega,Nat.pow_succ]; omega
 change 2 * (brG (j+1) ks).length≤_ at hh
 change 1≤(brG (j+1) ks).length at h1
 simp only [List.length_nil,Nat.zero_add,List.nil_append] at hh hf
 refine ⟨by rw [List.length_map]; exact h1,by rw [List.length_map]; omega,fun k hk=>?_,?_,?_,by rw [List.length_append,List.length_map,List.length_map]; omega⟩
 ·obtain ⟨g,hg,rfl⟩:=List.mem_map.1 hk
  obtain ⟨g1,g2,g3,g4,g5,g6⟩:=h.group hg
  obtain ⟨x,hx,e⟩:=lastL_mem g1
  refine (Ee _).2 ⟨?_,by simp [Ci,brK,brO,Hz],g6,g5⟩
  show As (E6 g)=true
  rw [e]
  exact ((Ee x).1 (g3 x hx)).1
 ·rw [Fb,List.map_map]
  have hs:=Ln (fun k : Ah=>k.1) ([] : Bs) (brG (j+1) ks) hp
  have hf' : (brG (j+1) ks).flatten=ks:=hf
  rw [hf'] at hs
  exact ((Fb _).1 h.rises).sublist hs
 ·rw [manyL_map]
  have hf' : (brG (j+1) ks).flatten=ks:=hf
  rw [hf']
  exact h.sum
theorem lastP_mem {g : List Ag} (h : 1≤g.length) : ∃ k∈g,By g=k.1:=by
 obtain ⟨l,x,rfl⟩ : ∃ l x,g=l ++ [x]:=⟨g.dropLast,g.getLast (by intro q; rw [q] at h; simp at h),(List.dropLast_concat_getLast _).symm⟩
 exact ⟨x,by simp,by simp [By]⟩
theorem Ol {l : List Ag} (h : Ce l=true) {g : List Ag} (hg : g∈C3 l) : 1≤g.length∧A5 ltB g=true∧∀ p∈g,A3 p=true:=by
 have h1:=Gl _ _ _ g hg
 have h2:=Iy _ 64 (fun x=>ends12_64 x.1 0) _ [] (by simp) g hg
 have h3:=gath_in hg
 simp only [List.nil_append] at h3
 unfold Ce at h
 simp only [Bool.and_eq_true,List.all_eq_true] at h
 have h4 : ∀ p∈g,A3 p=true:=fun p hp=>h.1 p (h3.subset hp)
 refine ⟨h1,?_,h4⟩
 rw [Mx g h2]
 simp only [Bool.and_eq_true,List.all_eq_true]
 exact ⟨h4,(Fb _).2 (((Fb _).1 h.2).sublist (h3.map _))⟩
theorem leafG_le (l : List Ag) : (C3 l).length≤l.length:=by
 have:=gath_le (fun n (p : Ag)=>Cx n p.1 0) l []
 simp only [List.length_nil,Nat.zero_add] at this
 exact this
theorem L9 : ∀ (gs : List (List Ag)),Am (gs.map C4)=(gs.flatten.length : Int)
 | []=>rfl
 | g :: gs=>by
  have:=L9 gs
  rw [List.map_cons,List.flatten_cons,List.length_append,show C4 g :: gs.map C4 = [C4 g]++gs.map C4 from rfl,Ht,this]
  simp [Am,C4]
theorem leaves_ok {l : List Ag} (h : Ce l=true) (hl : l.length≤4096) (hn : l.length≠0) : LevOk 0 ((C3 l).map C4) ((C3 l).map Ay):=by
 have hle:=leafG_le l
 have hf:=F2 (fun n (p : Ag)=>Cx n p.1 0) l []
 have hp:=Gl (fun n (p : Ag)=>Cx n p.1 0) l []
 have h1:=gath_ne (fun n (p : Ag)=>Cx n p.1 0) l [] (.inr (by intro e; rw [e] at hn; simp at hn))
 change (C3 l).flatten=_ at hf
 change 1≤(C3 l).length at h1
 simp only [List.nil_append] at hf
 refine ⟨by rw [List.length_map]; exact h1,by rw [List.length_map]; simp only [Nat.sub_zero]; omega,fun k hk=>?_,?_,?_,by rw [List.length_map,List.length_map]; omega⟩
 ·obtain ⟨g,hg,rfl⟩:=List.mem_map.1 hk
  obtain ⟨g1,g2,g3⟩:=Ol h hg
  obtain ⟨x,hx,e⟩:=lastP_mem g1
  have g4:=(G2 g2).1
  refine (Ee _).2 ⟨?_,by simp [Ci,C4,Ay,Hz],by show 1≤(g.length : Int); omega,by show (g.length : Int)≤4096; omega⟩
  show As (By g)=true
  rw [e]
  have:=g3 x hx
  unfold A3 at this
  simp only [Bool.and_eq_true] at this
  exact this.1
 ·rw [Fb,List.map_map]
  have hs:=Ln (fun k : Ag=>k.1) ([] : Bs) (C3 l) hp
  rw [hf] at hs
  unfold Ce at h
  simp only [Bool.and_eq_true] at h
  exact ((Fb _).1 h.2).sublist hs
 ·rw [L9,hf]
  omega
end Go.Proofs.YtckejblkppllaaaGreatDoor
namespace Go.Proofs.YtckejblkppllaaaGreatDoor
abbrev Node:=Int × (Bs × List Part)
def Aj (objs : List Ag) (id : Bs) : Option Bs:=(objs.find? (fun o=>o.1 == id)).map (·.2)
structure Wk where
 asked : List Bs
 data : Bs
 parts : List Part
 bad : Int
def Fs (s t : Wk) (n m : Nat) : Prop:=t.asked.length≤s.asked.length+n∧t.data.length≤s.data.length+m∧t.parts.length≤s.parts.length+m
theorem Fs.trans {s t u : Wk} {n m n' m' : Nat} (h : Fs s t n m) (k : Fs t u n' m') : Fs s u (n+n') (m+m'):=⟨by have:=h.1; have:=k.1; omega,by have:=h.2.1; have:=k.2.1; omega,by have:=h.2.2; have:=k.2.2; omega⟩
theorem Fs.refl (s : Wk) : Fs s s 0 0:=⟨by omega,by omega,by omega⟩
theorem Fs.le {s t : Wk} {n m n' m' : Nat} (h : Fs s t n m) (h1 : n≤n') (h2 : m≤m') : Fs s t n' m':=⟨by have:=h.1; omega,by have:=h.2.1; omega,by have:=h.2.2; omega⟩
end Go.Proofs.YtckejblkppllaaaGreatDoor
namespace Go.Proofs.YtckejblkppllaaaGreatDoor
open Go.RowKit
def F1 (o : Option Bs) : Value:=match o with | some b=>.tuple #[.string (Ab b), .int .i64 0] | none=>.tuple #[.string (Ab []), .int .i64 3]
theorem findO_none {objs : List Ag} {id : Bs} (h : ∀ o∈objs,o.1≠id) : Aj objs id=none:=by
 unfold Aj
 rw [List.find?_eq_none.2 (fun o ho=>by simpa using h o ho)]
 rfl
theorem findO_at {objs : List Ag} {id : Bs} {k : Nat} (hk : k<objs.length) (he : objs[k].1=id) (h : ∀ o∈objs.take k,o.1≠id) : Aj objs id=some objs[k].2:=by
 unfold Aj
 have : objs.find? (fun o=>o.1 == id)=some objs[k]:=by
  rw [List.find?_eq_some_iff_getElem]
  refine ⟨by simpa using he,k,hk,rfl,fun j hj=>?_⟩
  have hm : objs[j]∈objs.take k:=by rw [List.mem_take_iff_getElem]; exact ⟨j,by omega,rfl⟩
  simpa using h _ hm
 rw [this]
 rfl
theorem foundV_form (o : Option Bs) : ∃ s k,F1 o = .tuple #[.string (Ab s), .int .i64 k]:=by
 cases o with
 | none=>exact ⟨[],3,rfl⟩
 | some b=>exact ⟨b,0,rfl⟩
theorem findO_mem {objs : List Ag} {id b : Bs} (h : Aj objs id=some b) : ∃ o∈objs,o.2=b:=by
 unfold Aj at h
 cases hf : objs.find? (fun o=>o.1 == id) with
 | none=>rw [hf] at h; cases h
 | some o=>
  rw [hf] at h
  exact ⟨o,List.mem_of_find?_eq_some hf,by simpa using h⟩
set_option maxRecDepth 20000 in
theorem find_any (w : World) (v : Value) (objs : List Ag) (id : Bs) (hv : Ls w.heap.size w 2 Ak v objs) :
  Calls Tryz.prog 29 #[v, .string (Ab id)] w fun e w'=>e = .returned (F1 (Aj objs id))∧w'=w:=by
 obtain ⟨ao,cap,rfl,h1,h2,h4⟩:=hv
 unfold maxLen at h2
 have hx:=toL id
 go_enter Tryz.func29,Tryz.ntmps29
 go_wp2_with fail
 go_loopw [6] (fun t wr=>∃ k : Nat,k≤objs.length∧t = .int .i64 k∧(∀ o∈objs.take k,o.1≠id)∧wr=w)
  (fun t _=>objs.length - (intOf t).toNat)
 case atStart=>exact ⟨0,by omega,rfl,by simp,rfl⟩
 case round=>
  obtain ⟨k,hk,rfl,hno,rfl⟩:=hrel
  by_cases hlt : k<objs.length
  ·obtain ⟨b,off,rfl,hbB,hc⟩:=h4 (by rintro rfl; simp at hlt)
   have c0:=hc k hlt 0 _ rfl
   have c1:=hc k hlt 1 _ rfl
   simp only [Nat.add_zero] at c0
   have hy:=toL objs[k].1
   by_cases he : objs[k].1=id
   ·have hbe : (objs[k].1 == id)=true:=by simpa using he
    have hfo:=findO_at hlt he hno
    have HF:=Ac hfo
    clear hfo hno
    generalize objs[k]=y at *
    go_wp2
    go_ret2
    exact ⟨by rw [HF.out]; rfl,rfl⟩
   ·have hbe : (objs[k].1 == id)=false:=by simpa using he
    have hno2 : ∀ o∈objs.take (k+1),o.1≠id:=by
     rw [List.take_succ_eq_append_getElem hlt]
     intro o ho
     rcases List.mem_append.1 ho with ho | ho
     ·exact hno o ho
     ·simp only [List.mem_singleton] at ho; subst ho; exact he
    generalize objs[k]=y at *
    go_wp2
    go_roundw
    case rel=>exact ⟨k+1,by omega,by go_num,hno2,trivial⟩
    case measure=>simp [intOf]; omega
  ·obtain rfl : k=objs.length:=by omega
   rw [List.take_length] at hno
   have HF:=Ac (findO_none hno)
   clear hno
   go_wp2
   go_ret2
   exact ⟨by rw [HF.out]; rfl,rfl⟩
set_option maxRecDepth 20000 in
theorem from1_any (w : World) (c : Nat) (v : Value) (objs : List Ag) (id : Bs) (hc : w.heap[c]? = some (.cells #[v] 22)) (hv : Ls w.heap.size w 2 Ak v objs) :
  Calls Tryz.prog 28 #[.string (Ab id), .pointer (some ⟨c,0,none⟩)] w fun e w'=>e = .returned (F1 (Aj objs id))∧w'=w:=by
 have hf:=find_any w v objs id hv
 have c0:=cell_of_row w c 0 _ _ _ hc
 simp only [List.getElem?_toArray,List.getElem?_cons_zero] at c0
 obtain ⟨ao,cap,rfl,-⟩:=hv
 obtain ⟨s,k,hfv⟩:=foundV_form (Aj objs id)
 rw [hfv] at hf ⊢
 go_enter Tryz.func28,Tryz.ntmps28
 go_wp2_with fail
 refine hf.mono ?_
 rintro e w1 ⟨rfl,rfl⟩
 go_wp2
 go_ret2
 exact ⟨rfl,rfl⟩
end Go.Proofs.YtckejblkppllaaaGreatDoor
namespace Go.Proofs.YtckejblkppllaaaGreatDoor
abbrev A2:=Int × (List Ag × List Ah)
def Dd (b : Bs) : Option A2:=
 match Eu b with
 | some l=>some (0,l,[])
 | none=>match E4 b with
  | some f=>some (f.1,[],f.2)
  | none=>none
def Bt (n : A2) : Int:=(n.2.1.length : Int)+Am n.2.2
def D8 (n : A2) (k : Ah) (level : Int) : Bool:=
 decide (n.1=level) && decide (Bt n=k.2.2) && (if n.1=0 then decide (1≤n.2.1.length) && By n.2.1 == k.1 else E6 n.2.2 == k.1)
def Ao (fd : Bs→Option Bs) (k : Ah) (level : Int) : Int × A2:=
 match fd k.2.1 with
 | none=>(3,0,[],[])
 | some b=>match Dd b with
  | none=>(122,0,[],[])
  | some n=>if level<0∨D8 n k level=true then (0,n) else (122,0,[],[])
structure RightM (n : A2) : Prop where
 lo : 0≤n.1
 hi : n.1≤20
 leaf : n.1=0→n.2.2 = []∧A5 ltB n.2.1=true
 branch : 1≤n.1→n.2.1 = []∧A4 ltB (n.1,n.2.2)=true
theorem Jk {f : Dx} (h : A4 ltB f=true) : 1≤f.1∧f.1≤20∧1≤f.2.length:=by
 simp only [A4,Dw,Bool.and_eq_true,decide_eq_true_eq] at h
 obtain ⟨⟨⟨⟨h1,h2⟩,-⟩,-⟩,-⟩:=h
 exact ⟨h1.1,h1.2,h2.1⟩
theorem nodeM_right {b : Bs} (hb : b.length≤140737488355328) {n : A2} (h : Dd b=some n) : RightM n:=by
 unfold Dd at h
 cases hc : Eu b with
 | some l=>
  rw [hc] at h
  simp only [Option.some.injEq] at h
  subst h
  have:=((Ib b hb l).1 hc).1
  exact ⟨by simp,by simp,fun _=>⟨rfl,this⟩,fun h=>absurd h (by simp)⟩
 | none=>
  rw [hc] at h
  cases hf : E4 b with
  | some f=>
   rw [hf] at h
   simp only [Option.some.injEq] at h
   subst h
   have g:=((K7 b hb f).1 hf).1
   have g2:=Jk g
   exact ⟨by simp only; omega,g2.2.1,fun h=>by simp only at h; omega,fun _=>⟨rfl,g⟩⟩
  | none=>
   rw [hf] at h
   cases h
theorem Ks {b : Bs} {l : List Ag} (h : Eu b=some l) : Dd b=some (0,l,[]):=by unfold Dd; rw [h]
theorem Nj {b : Bs} {f : Dx} (h0 : Eu b=none) (h : E4 b=some f) : Dd b=some (f.1,[],f.2):=by unfold Dd; rw [h0,h]
theorem Nc {b : Bs} (h0 : Eu b=none) (h : E4 b=none) : Dd b=none:=by unfold Dd; rw [h0,h]
theorem askM_miss {fd : Bs→Option Bs} {k : Ah} {level : Int} (h : fd k.2.1=none) : Ao fd k level=(3,0,[],[]):=by unfold Ao; rw [h]
theorem askM_odd {fd : Bs→Option Bs} {k : Ah} {level : Int} {b : Bs} (h : fd k.2.1=some b) (hn : Dd b=none) : Ao fd k level=(122,0,[],[]):=by unfold Ao; rw [h]; simp only [hn]
theorem Hq {fd : Bs→Option Bs} {k : Ah} {level : Int} {b : Bs} {n : A2} (h : fd k.2.1=some b) (hn : Dd b=some n) (hl : level<0∨D8 n k level=true) : Ao fd k level=(0,n):=by unfold Ao; rw [h]; simp only [hn,if_pos hl]
theorem Gp {fd : Bs→Option Bs} {k : Ah} {level : Int} {b : Bs} {n : A2} (h : fd k.2.1=some b) (hn : Dd b=some n) (hl : ¬ level<0) (h2 : D8 n k level=false) : Ao fd k level=(122,0,[],[]):=by unfold Ao; rw [h]; simp only [hn]; rw [if_neg (by rw [h2]; simp [hl])]
theorem Eg {fd : Bs→Option Bs} {k : Ah} {level : Int} (hs : ∀ id b,fd id=some b→b.length≤140737488355328) (h : (Ao fd k level).1=0) : RightM (Ao fd k level).2∧(level<0∨D8 (Ao fd k level).2 k level=true):=by
 unfold Ao at h ⊢
 cases hf : fd k.2.1 with
 | none=>rw [hf] at h; cases h
 | some b=>
  rw [hf] at h
  cases hn : Dd b with
  | none=>simp only [hn] at h; cases h
  | some n=>
   simp only [hn] at h ⊢
   by_cases hc : level<0∨D8 n k level=true
   ·rw [if_pos hc]
    exact ⟨nodeM_right (hs _ _ hf) hn,hc⟩
   ·rw [if_neg hc] at h
    cases h
theorem Nk (l : List Ag) (k : Ah) (level : Int) : D8 (0,l,[]) k level=(decide (0=level) && decide ((l.length : Int)=k.2.2) && (decide (1≤l.length) && By l == k.1)):=by
 unfold D8 Bt
 simp [Am]
theorem fitsM_branch (f : Dx) (k : Ah) (level : Int) (h : 1≤f.1) : D8 (f.1,[],f.2) k level=(decide (f.1=level) && decide (Am f.2=k.2.2) && E6 f.2 == k.1):=by
 unfold D8 Bt
 simp only [List.length_nil,Int.natCast_zero,Int.zero_add]
 rw [if_neg (by omega : ¬ f.1=0)]
end Go.Proofs.YtckejblkppllaaaGreatDoor
namespace Go.Proofs.YtckejblkppllaaaGreatDoor
open Go.RowKit
def Rw {α : Type} (B : Nat) (w : World) (e : TypeId) (k : Nat) (cs : α→List Value) (v : Value) (xs : List α) : Prop:=w.ownsRow B e k v xs.length (xs.flatMap cs)
theorem Er {w w' : World} {B k n : Nat} {e : TypeId} {v : Value} {xs : List Value} (h : w.ownsRow B e k v n xs) (hs : ∀ g,v.ownBlock=some g→w'.heap[g]? = w.heap[g]?) : w'.ownsRow B e k v n xs:=by
 refine ⟨h.1,?_⟩
 rcases h.2 with h | ⟨g,cap,cur,h1,h2,h3,h4⟩
 ·exact .inl h
 ·exact .inr ⟨g,cap,cur,h1,h2,by rw [hs g (by rw [h1]; rfl)]; exact h3,h4⟩
theorem Av {w : World} {B k n : Nat} {e : TypeId} {v : Value} {xs : List Value} (h : w.ownsRow B e k v n xs) : ∃ a m c,v = .slice a m c:=by
 obtain ⟨a,c,h1,-⟩:=Bj h
 exact ⟨a,_,c,h1⟩
def Nx (w : World) (a b : Option Nat) : Prop:=b=a ∨ ∃ q,b=some q∧w.heap.size≤q
theorem Nx.refl (w : World) (a : Option Nat) : Nx w a a:=.inl rfl
theorem Nx.trans {w w1 : World} {a b c : Option Nat} (h : Nx w a b) (k : Nx w1 b c) (hs : w.heap.size≤w1.heap.size) : Nx w a c:=by
 rcases k with rfl | ⟨q,rfl,hq⟩
 ·exact h
 ·exact .inr ⟨q,rfl,Nat.le_trans hs hq⟩
structure Mv (B : Nat) (ts : List TypeId) (r : Option Nat) (w w' : World) : Prop where
 b : Below B w w'
 k : ∀ (k : Nat) (cs : Array Value) (t : TypeId) (fr : Nat × Nat),w.heap[k]? = some (Obj.cells cs t fr)→t ∉ ts→some k≠r→w'.heap[k]? = some (Obj.cells cs t fr)
theorem Mv.refl (B : Nat) (ts : List TypeId) (r : Option Nat) (w : World) : Mv B ts r w w:=⟨Below.refl _ _,fun _ _ _ _ h _ _=>h⟩
theorem Mv.size {B : Nat} {ts : List TypeId} {r : Option Nat} {w w' : World} (h : Mv B ts r w w') : w.heap.size≤w'.heap.size:=h.b.size
theorem Mv.trans {B : Nat} {ts : List TypeId} {r r1 : Option Nat} {a b c : World} (h : Mv B ts r a b) (k : Mv B ts r1 b c) (hn : Nx a r r1) : Mv B ts r a c:=
 ⟨h.b.trans k.b,fun i cs t fr hi ht hr=>k.k i cs t fr (h.k i cs t fr hi ht hr) ht (by
  rcases hn with rfl | ⟨q,rfl,hq⟩
  ·exact hr
  ·intro e
   injection e with e
   have:=Ad hi
   omega)⟩
theorem Mv.of {B : Nat} {ts : List TypeId} {r : Option Nat} {w w' : World} (h : Below w.heap.size w w') (hB : B≤w.heap.size) : Mv B ts r w w':=⟨h.mono hB,fun k _ _ _ hk _ _=>(h.block k (Ad hk)).trans hk⟩
theorem Mv.more {B : Nat} {ts : List TypeId} {r : Option Nat} {a b c : World} (h : Mv B ts r a b) (k : Below b.heap.size b c) (hB : B≤b.heap.size) : Mv B ts r a c:=
 ⟨h.b.trans (k.mono hB),fun i cs t fr hi ht hr=>by have:=h.k i cs t fr hi ht hr; exact (k.block i (Ad this)).trans this⟩
theorem Mv.alloc {B : Nat} {ts : List TypeId} {r : Option Nat} {w w' : World} (h : Mv B ts r w w') (hB : B≤w'.heap.size) (o : Obj) : Mv B ts r w (w'.alloc o):=h.more ((Below.refl _ _).alloc (Nat.le_refl _) _) hB
theorem Mv.drew {B : Nat} {ts : List TypeId} {r : Option Nat} {w w' : World} (h : Mv B ts r w w') : Mv B ts r w w'.drew:=⟨h.b.drew,h.k⟩
theorem Mv.none {B : Nat} {ts : List TypeId} {r : Option Nat} {w w' : World} (h : Mv B ts Option.none w w') : Mv B ts r w w':=⟨h.b,fun k cs t fr hk ht _=>h.k k cs t fr hk ht (by simp)⟩
theorem Mv.types {B : Nat} {ts ts' : List TypeId} {r : Option Nat} {w w' : World} (h : Mv B ts r w w') (hs : ∀ t∈ts,t∈ts') : Mv B ts' r w w':=⟨h.b,fun k cs t fr hk ht hr=>h.k k cs t fr hk (fun hm=>ht (hs t hm)) hr⟩
theorem Mv.set {B : Nat} {ts : List TypeId} {r : Option Nat} {w w' : World} (h : Mv B ts r w w') {g j : Nat} {cs : Array Value} {t : TypeId} {fr : Nat × Nat} (hh : w'.heap[g]? = some (.cells cs t fr)) (ht : t∈ts) (hg : B≤g) (u : Value) : Mv B ts r w (w'.setCell ⟨g,j,Option.none⟩ u):=
 ⟨h.b.setCell (p:=⟨g,j,Option.none⟩) hg _,fun k cs' t' fr' hk ht' hr=>by
  exact (Kt.set (ts:=ts) hh ht u).2 k cs' t' fr' (h.k k cs' t' fr' hk ht' hr) ht'⟩
theorem Mv.grown {B : Nat} {ts : List TypeId} {r : Option Nat} {w w1 w2 : World} (h : Mv B ts r w w1) {v : Value} {n k : Nat} {xs : List Value} {e : TypeId} (hown : w1.ownsRow B e k v n xs) (hgr : w1.grownBy w2 v.ownBlock) (he : e∈ts) (hB : B≤w1.heap.size) : Mv B ts r w w2:=by
 refine ⟨h.b.trans ((Below.refl _ _).grown hgr hB (fun q hq=>(hown.lt q hq).1)),fun i cs t fr hi ht hr=>?_⟩
 have hi1:=h.k i cs t fr hi ht hr
 refine (hgr.block i (Ad hi1) fun hq=>?_).trans hi1
 obtain ⟨c,fz,h1⟩:=Lib.ownsRow_kind hown i hq.symm
 rw [hi1] at h1
 injection h1 with h1
 injection h1 with _ h1
 exact ht (h1 ▸ he)
theorem Mv.grownRow {B : Nat} {ts : List TypeId} {r : Option Nat} {w w1 w2 : World} (h : Mv B ts r w w1) {v : Value} {n k : Nat} {xs : List Value} {e : TypeId} (hown : w1.ownsRow B e k v n xs) (hgr : w1.grownBy w2 v.ownBlock) (hn : Nx w r v.ownBlock) (hB : B≤w1.heap.size) : Mv B ts r w w2:=by
 refine ⟨h.b.trans ((Below.refl _ _).grown hgr hB (fun q hq=>(hown.lt q hq).1)),fun i cs t fr hi ht hr=>?_⟩
 have hi1:=h.k i cs t fr hi ht hr
 refine (hgr.block i (Ad hi1) fun hq=>?_).trans hi1
 rcases hn with hn | ⟨q,hn,hl⟩
 ·exact hr (hq.trans hn)
 ·rw [hn] at hq
  injection hq with hq
  have:=Ad hi
  omega
theorem Mv.own {B B' : Nat} {ts : List TypeId} {r : Option Nat} {w w' : World} (h : Mv B ts r w w') {v : Value} {n k : Nat} {xs : List Value} {e : TypeId} (hown : w.ownsRow B' e k v n xs) (he : e ∉ ts) (hr : v.ownBlock=Option.none∨v.ownBlock≠r) : w'.ownsRow B' e k v n xs:=by
 refine Er hown (fun g hg=>?_)
 rcases hr with hr | hr
 ·rw [hr] at hg; cases hg
 ·obtain ⟨c,fz,h1⟩:=Lib.ownsRow_kind hown g hg
  rw [h.k g c e fz h1 he (by rw [← hg]; exact hr),h1]
theorem G4 {w w1 : World} {B B' k k' n n' : Nat} {e e' : TypeId} {v u : Value} {xs ys : List Value} (h : w.ownsRow B e k v n xs) (_hu : w.ownsRow B' e' k' u n' ys) (hgr : w.grownBy w1 u.ownBlock) (hne : v.ownBlock=none∨v.ownBlock≠u.ownBlock) : w1.ownsRow B e k v n xs:=by
 refine Er h (fun g hg=>hgr.block g (h.lt g hg).2 ?_)
 rcases hne with hne | hne
 ·rw [hne] at hg; cases hg
 ·rw [← hg]; exact hne
theorem F0 {w : World} {B B' k k' n n' : Nat} {e e' : TypeId} {v u : Value} {xs ys : List Value} (h : w.ownsRow B e k v n xs) (hu : w.ownsRow B' e' k' u n' ys) (he : e≠e') : v.ownBlock=none∨v.ownBlock≠u.ownBlock:=by
 cases hv : v.ownBlock with
 | none=>exact .inl rfl
 | some g=>
  refine .inr fun hq=>?_
  obtain ⟨c,fz,h1⟩:=Lib.ownsRow_kind h g hv
  obtain ⟨c',fz',h2⟩:=Lib.ownsRow_kind hu g hq.symm
  rw [h1] at h2
  injection h2 with h2
  injection h2 with _ h2
  exact he h2
theorem Ej {w w1 : World} {B k n : Nat} {e : TypeId} {u : Value} {ys : List Value} (hu : w.ownsRow B e k u n ys) (hgr : w.grownBy w1 u.ownBlock) {g : Nat} {cs : Array Value} {t : TypeId} {fr : Nat × Nat} (hh : w.heap[g]? = some (.cells cs t fr)) (ht : t≠e) : w1.heap[g]? = some (.cells cs t fr):=by
 refine (hgr.block g (Ad hh) fun hq=>?_).trans hh
 obtain ⟨c,fz,h1⟩:=Lib.ownsRow_kind hu g hq.symm
 rw [hh] at h1
 injection h1 with h1
 injection h1 with _ h1
 exact ht h1
theorem Ap {w : World} {B k n g j : Nat} {e t : TypeId} {v : Value} {xs : List Value} {cs : Array Value} {fr : Nat × Nat} (h : w.ownsRow B e k v n xs) (hh : w.heap[g]? = some (.cells cs t fr)) (hte : t≠e) (u : Value) : (w.setCell ⟨g,j,none⟩ u).ownsRow B e k v n xs:=by
 refine Er h (fun q hq=>?_)
 have hne : q≠g:=by
  rintro rfl
  obtain ⟨c,fz,h1⟩:=Lib.ownsRow_kind h q hq
  rw [hh] at h1
  injection h1 with h1
  injection h1 with _ h1
  exact hte h1
 unfold World.setCell
 simp [Array.getElem?_modify,Ne.symm hne]
theorem Bc {w : World} {g j q : Nat} {u : Value} (hne : q≠g) : (w.setCell ⟨g,j,none⟩ u).heap[q]? = w.heap[q]?:=by
 unfold World.setCell
 simp [Array.getElem?_modify,Ne.symm hne]
theorem Fk {w : World} {a b : Nat} {cs cs' : Array Value} {t t' : TypeId} {fr fr' : Nat × Nat} (h : w.heap[a]? = some (.cells cs t fr)) (h' : w.heap[b]? = some (.cells cs' t' fr')) (hne : t≠t') : a≠b:=by
 rintro rfl
 rw [h] at h'
 injection h' with h'
 injection h' with _ h'
 exact hne h'
theorem app_id (w : World) (B : Nat) (v : Value) (xs : List Bs) (id : Bs) (h : Rw B w 9 1 idC v xs) (hB : B≤w.heap.size) (hn : xs.length≤4294967296) :
  ∃ v' w',(Builtin.append_ #[76,76] 76 #[v, .slice (some ⟨w.heap.size,0,none⟩) 1 1]).run Tryz.prog (w.alloc (.cells #[.string (Ab id)] 9)) = .ok v' w' ∧
   Rw B w' 9 1 idC v' (xs ++ [id])∧(w.alloc (.cells #[.string (Ab id)] 9)).grownBy w' v.ownBlock∧(v'.ownBlock=v.ownBlock∨v'.ownBlock=some (w.heap.size+1)):=by
 obtain ⟨i0,hi,hz0,hz1,hz2⟩:=info_parts Tryz.zStr
 have hx:=heap_last w (.cells #[.string (Ab id)] 9) _ rfl
 obtain ⟨v',w',h1,h2,h3,-,h4⟩:=run_append_own_at (P:=Tryz.prog) (w.alloc (.cells #[.string (Ab id)] 9)) B 76 76 9 i0 (.string ⟨#[]⟩) 1 16 Tryz.underlying76 hi hz0 hz1 hz2 rfl (by decide) v xs.length (xs.flatMap idC) (h.alloc _) ⟨w.heap.size,0,none⟩ 1 1 (idC id) rfl (fun j u hu=>by
   rw [Addr.add_lit,Nat.zero_add,cell_of_row _ _ _ _ _ _ hx,List.getElem?_toArray]; exact hu) (by simp [idC,Value.oneCell']) (by unfold maxLen; omega) (by omega) (by simp; omega)
 refine ⟨v',w',h1,?_,h3,by simpa using h4⟩
 unfold Rw
 rw [List.length_append,List.flatMap_append]
 simpa using h2
end Go.Proofs.YtckejblkppllaaaGreatDoor
namespace Go.Proofs.YtckejblkppllaaaGreatDoor
open Go.RowKit
abbrev ats : List TypeId:=[9,76]
theorem Hb (w : World) (o : Obj) : w.drew.alloc o=(w.alloc o).drew:=rfl
end Go.Proofs.YtckejblkppllaaaGreatDoor
