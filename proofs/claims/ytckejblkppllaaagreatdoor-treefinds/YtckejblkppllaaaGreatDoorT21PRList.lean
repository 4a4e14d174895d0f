/-
  Texts joined: PRList, PSize, PEnd.
-/
import Derived.Test.YtckejblkppllaaaGreatDoorT20PRGoes
import Derived.Test.YtckejblkppllaaaGreatDoorT15PPlain
import Derived.Test.YtckejblkppllaaaGreatDoorT17PRow
import Derived.Test.YtckejblkppllaaaGreatDoorT12OEntry2
namespace Go.Proofs.YtckejblkppllaaaGreatDoor
open Go.RowKit
def Co (fd : Bs→Option Bs) (root lo hi : Bs) : LsS:=goM fd lo hi 21 ([],(root,0)) (-1) ⟨[],[],0⟩
def Es (s : LsS) : List Ag:=if s.bad=0 then s.out else []
theorem Lk (fd : Bs→Option Bs) (hs : ∀ id b,fd id=some b→b.length≤140737488355328) (root lo hi : Bs) : (Co fd root lo hi).asked.length≤81921∧(Co fd root lo hi).out.length≤4160:=by
 obtain ⟨h1,h2⟩:=goM_root fd hs lo hi 20 ([],(root,0)) ⟨[],[],0⟩
 unfold Co
 simp only [List.length_nil] at h1 h2
 exact ⟨by omega,by omega⟩
set_option maxRecDepth 40000 in
set_option maxHeartbeats 1600000 in
theorem list12_any (w : World) (vo : Value) (objs : List Ag) (hv : Ls w.heap.size w 2 Ak vo objs) (hob : ∀ o∈objs,o.2.length≤140737488351232) (root lo hi : Bs) :
  Calls Tryz.prog 63 #[vo, .string (Ab root), .string (Ab lo), .string (Ab hi)] w fun e w'=>∃ vp va,e = .returned (.tuple #[vp,va, .int .i64 (Co (Aj objs) root lo hi).bad])∧Rw w.heap.size w' 135 2 Ak vp (Es (Co (Aj objs) root lo hi))∧Rw w.heap.size w' 9 1 idC va (Co (Aj objs) root lo hi).asked∧Below w.heap.size w w':=by
 have hb0 : Below w.heap.size w (w.alloc (.cells #[vo, .slice none 0 0, .slice none 0 0, .int .i64 0] 202)):=(Below.refl _ _).alloc (Nat.le_refl _) _
 have hx0:=heap_last w (.cells #[vo, .slice none 0 0, .slice none 0 0, .int .i64 0] 202) _ rfl
 have hR0 : RlW w.heap.size (w.alloc (.cells #[vo, .slice none 0 0, .slice none 0 0, .int .i64 0] 202)) w.heap.size vo objs (.slice none 0 0) ⟨[],[],0⟩:=⟨Nat.le_refl _,hv.keep hb0,_,hx0,World.ownsRow_nil _ _ _ _,World.ownsRow_nil _ _ _ _⟩
 have hgo:=goes12_any w.heap.size vo objs w.heap.size hob lo hi 21 _ ([],(root,0)) (-1) ⟨[],[],0⟩ (.slice none 0 0) (.inl ⟨rfl,by omega⟩) (by omega) (show Cg 0 from ⟨by decide,by decide⟩) rfl hR0 (by unfold cntM; simp) (by unfold cntM; simp)
 rw [show goM (Aj objs) lo hi 21 ([],(root,0)) (-1) ⟨[],[],0⟩=Co (Aj objs) root lo hi from rfl] at hgo
 rw [show Ab ([] : Bs)=⟨#[]⟩ from rfl] at hgo
 generalize Co (Aj objs) root lo hi=s at *
 have H0:=Ac hb0
 obtain ⟨vao,vcap,hvv,-⟩:=hv
 obtain ⟨vm,hvm⟩ : ∃ vm,vm=objs.length:=⟨_,rfl⟩
 rw [← hvm] at hvv
 subst hvv
 clear hb0 hx0 hR0 hvm
 go_enter Tryz.func63,Tryz.ntmps63
 go_wp2_with fail
 refine hgo.mono ?_
 rintro e w1 ⟨rfl,vp1,hR1,hM1,-⟩
 have hB1 : Below w.heap.size w w1:=H0.out.trans hM1.b
 obtain ⟨-,-,va1,hh1,hra,hrp⟩:=hR1
 have c1:=cell_of_row w1 w.heap.size 1 _ _ _ hh1
 have c2:=cell_of_row w1 w.heap.size 2 _ _ _ hh1
 have c3:=cell_of_row w1 w.heap.size 3 _ _ _ hh1
 simp only [List.getElem?_toArray,List.getElem?_cons_zero,List.getElem?_cons_succ] at c1 c2 c3
 have HR:=Ac (And.intro hra (And.intro hrp hB1))
 obtain ⟨aa,am,ac,rfl⟩:=Av hra
 obtain ⟨pa,pm,pc,rfl⟩:=Av hrp
 clear hgo hM1 hh1 hra hrp hB1
 by_cases hb : s.bad=0
 ·have hbb : (s.bad != 0)=false:=by rw [hb]; rfl
  have ho : Es s=s.out:=if_pos hb
  have HB:=Ac (And.intro hb ho)
  clear hb ho
  go_wp2_with fail
  refine wp_region_held_drew (S:=fun W=>W.cell? ⟨w.heap.size,1,none⟩=some (.slice aa am ac)∧W.cell? ⟨w.heap.size,2,none⟩=some (.slice pa pm pc)) (by kernel_rfl) (⟨c1,c2⟩) (fun hHeld=>?_)
  refine Aa 0 hHeld ?_
  refine Aa 1 hHeld ?_
  refine Aa 2 hHeld ?_
  refine Aa 3 hHeld ?_
  refine Aa 4 hHeld ?_
  refine Aa 5 hHeld ?_
  refine Aa 6 hHeld ?_
  refine Aa 7 hHeld ?_
  refine Aa 8 hHeld ?_
  refine Aa 9 hHeld ?_
  refine Aa 10 hHeld ?_
  refine wpAnyH_done (by kernel_rfl) ?_ _
  clear hHeld
  go_wp2
  go_ret3
  refine ⟨.slice pa pm pc, .slice aa am ac,?_,?_,HR.out.1,HR.out.2.2.drew⟩
  ·rw [HB.out.1]; rfl
  ·rw [HB.out.2]; exact HR.out.2.1
 ·have hbb : (s.bad != 0)=true:=by simpa using hb
  have ho : Es s = []:=if_neg hb
  have HB:=Ac ho
  clear hb ho
  go_wp2_with fail
  refine wp_region_held_drew (S:=fun W=>W.cell? ⟨w.heap.size,1,none⟩=some (.slice aa am ac)∧W.cell? ⟨w.heap.size,3,none⟩=some (.int .i64 s.bad)) (by kernel_rfl) (⟨c1,c3⟩) (fun hHeld=>?_)
  refine Aa 0 hHeld ?_
  refine Aa 1 hHeld ?_
  refine Aa 2 hHeld ?_
  refine Aa 3 hHeld ?_
  refine Aa 4 hHeld ?_
  refine Aa 5 hHeld ?_
  refine Aa 6 hHeld ?_
  refine Aa 7 hHeld ?_
  refine Aa 8 hHeld ?_
  refine Aa 9 hHeld ?_
  refine Aa 10 hHeld ?_
  refine wpAnyH_done (by kernel_rfl) ?_ _
  clear hHeld
  go_wp2
  go_ret3
  refine ⟨.slice none 0 0, .slice aa am ac,rfl,?_,HR.out.1,HR.out.2.2.drew⟩
  rw [HB.out]; exact World.ownsRow_nil _ _ _ _
end Go.Proofs.YtckejblkppllaaaGreatDoor
namespace Go.Proofs.YtckejblkppllaaaGreatDoor
def Cr {α : Type} (e : Nat→α→Bool) : Nat→List α→Nat
 | _,[]=>0
 | j,x :: r=>if e (j+1) x then 1 else 1+Cr e (j+1) r
theorem Lg {α : Type} (e : Nat→α→Bool) : ∀ (l : List α) (j : Nat),Cr e j l≤l.length
 | [],_=>by simp [Cr]
 | x :: r,j=>by
  rw [Cr]
  have:=Lg e r (j+1)
  split
  ·simp
  ·simp; omega
theorem L2 {α : Type} (e : Nat→α→Bool) {l : List α} (j : Nat) (h : l ≠ []) : 1≤Cr e j l:=by
 cases l with
 | nil=>exact absurd rfl h
 | cons x r=>
  rw [Cr]
  split
  ·omega
  ·omega
theorem Ju {α : Type} (e : Nat→α→Bool) : ∀ (r cur : List α),cur ≠ []∨r ≠ []→Bp e cur r=(cur++r.take (Cr e cur.length r)) :: Bp e [] (r.drop (Cr e cur.length r))
 | [],cur,h=>by
  have h : cur ≠ []:=by simpa using h
  rw [Bp,Cr]
  cases cur with
  | nil=>exact absurd rfl h
  | cons a l=>simp [Bp]
 | x :: r,cur,_=>by
  rw [Bp,Cr]
  by_cases h : e (cur.length+1) x=true
  ·rw [if_pos h,if_pos h]
   simp
  ·rw [if_neg h,if_neg h,Ju e r (cur ++ [x]) (.inl (by simp))]
   rw [Nat.add_comm 1,List.take_succ_cons,List.drop_succ_cons]
   simp
def endK (level : Nat) (key : Bs) : Bool:=(((sha key)[31 - level]?.getD 0).toNat : Int) % 16 == 0
theorem I5 (n : Nat) (key : Bs) (level : Nat) : Cx n key level=(endK level key && (decide (level=0) || decide (2≤n)) || decide (n=64)):=rfl
abbrev endE {α : Type} (key : α→Bs) (level : Nat) : Nat→α→Bool:=fun n p=>Cx n (key p) level
def Dq {α : Type} (key : α→Bs) (level : Nat) (l : List α) (j : Nat) : Prop:=Cr (endE key level) 0 l=j+Cr (endE key level) j (l.drop j)
theorem Mo {α : Type} (key : α→Bs) (level : Nat) (l : List α) : Dq key level l 0:=by unfold Dq; simp
theorem firstE_no {α : Type} {e : Nat→α→Bool} {j : Nat} {l : List α} (h : j<l.length) (he : e (j+1) l[j]=false) : Cr e j (l.drop j)=1+Cr e (j+1) (l.drop (j+1)):=by
 rw [List.drop_eq_getElem_cons h,Cr,he]
 rfl
theorem Nl {α : Type} {e : Nat→α→Bool} {j : Nat} {l : List α} (h : j<l.length) (he : e (j+1) l[j]=true) : Cr e j (l.drop j)=1:=by
 rw [List.drop_eq_getElem_cons h,Cr,he]
 rfl
theorem N6 {α : Type} (key : α→Bs) (level : Nat) (hl : 1≤level) {l : List α} (h : 1≤l.length) : Dq key level l 1:=by
 have h0 : 0<l.length:=h
 have:=firstE_no (e:=endE key level) (j:=0) h0 (by
  show Cx 1 _ level=false
  rw [I5]
  simp
  omega)
 unfold Dq
 simpa using this
theorem Iq {α : Type} {key : α→Bs} {level : Nat} {l : List α} {j : Nat} (h : Dq key level l j) (hj : j<l.length) (h63 : j+1<64) (he : endK level (key l[j])=false) : Dq key level l (j+1):=by
 unfold Dq at h ⊢
 rw [h,firstE_no hj (by show Cx _ _ _=false; rw [I5,he]; simp; omega)]
 omega
theorem Jl {α : Type} {key : α→Bs} {level : Nat} {l : List α} {j : Nat} (h : Dq key level l j) (hj : j<l.length) (h2 : level=0∨1≤j) (he : endK level (key l[j])=true) : Cr (endE key level) 0 l=j+1:=by
 unfold Dq at h
 rw [h,Nl hj (by
  show Cx _ _ _=true
  rw [I5,he]
  simp
  omega)]
theorem size_most {α : Type} {key : α→Bs} {level : Nat} {l : List α} (h : Dq key level l 63) (hj : 63<l.length) : Cr (endE key level) 0 l=64:=by
 unfold Dq at h
 rw [h,Nl hj (by show Cx _ _ _=true; rw [I5]; simp)]
theorem size_all {α : Type} {key : α→Bs} {level : Nat} {l : List α} {j : Nat} (h : Dq key level l j) (hj : j=l.length∨j+1=l.length) : Cr (endE key level) 0 l=l.length:=by
 unfold Dq at h
 rcases hj with rfl | hj
 ·rw [h,List.drop_length]
  rfl
 ·have hlt : j<l.length:=by omega
  rw [h,List.drop_eq_getElem_cons hlt,Cr,List.drop_eq_nil_of_le (by omega)]
  split
  ·omega
  ·rw [Cr]; omega
def leafN (l : List Ag) : Nat:=Cr (endE (fun p : Ag=>p.1) 0) 0 l
def brN (level : Nat) (l : List Ah) : Nat:=Cr (endE (fun p : Ah=>p.1) level) 0 l
theorem leafG_step {l : List Ag} (h : l ≠ []) : C3 l=l.take (leafN l) :: C3 (l.drop (leafN l)):=by
 have:=Ju (fun n (p : Ag)=>Cx n p.1 0) l [] (.inr h)
 simp only [List.nil_append,List.length_nil] at this
 exact this
theorem brG_step {level : Nat} {l : List Ah} (h : l ≠ []) : brG level l=l.take (brN level l) :: brG level (l.drop (brN level l)):=by
 have:=Ju (fun n (p : Ah)=>Cx n p.1 level) l [] (.inr h)
 simp only [List.nil_append,List.length_nil] at this
 exact this
theorem leafG_nil : C3 [] = []:=rfl
theorem brG_nil (level : Nat) : brG level [] = []:=rfl
theorem leafN_le (l : List Ag) : leafN l≤l.length:=Lg _ _ _
theorem brN_le (level : Nat) (l : List Ah) : brN level l≤l.length:=Lg _ _ _
theorem leafN_pos {l : List Ag} (h : l ≠ []) : 1≤leafN l:=L2 _ _ h
theorem brN_pos {level : Nat} {l : List Ah} (h : l ≠ []) : 1≤brN level l:=L2 _ _ h
end Go.Proofs.YtckejblkppllaaaGreatDoor
namespace Go.Proofs.YtckejblkppllaaaGreatDoor
open Go.RowKit
theorem endK_form (level : Nat) (key : Bs) (hl : level≤31) : ∃ c : UInt8,endK level key=((c.toNat : Int) % 16 == 0)∧∀ W : World,(Instr.index 9 (.string (Ab (sha key))) (.int .i64 ((31 - level : Nat) : Int))).run Tryz.prog W = .ok (.int .u8 (c.toNat : Int)) W:=by
 have hs:=Hz key
 refine ⟨(sha key)[31 - level]'(by omega),?_,fun W=>Gr W (sha key) .i64 (31 - level) (by omega)⟩
 unfold endK
 rw [List.getElem?_eq_getElem (by omega)]
 rfl
set_option maxRecDepth 20000 in
theorem Jo (w : World) (level : Nat) (key : Bs) (hlv : level≤31) (hk : key.length≤140737488355328) (hT : Bh w) :
  Calls Tryz.prog 193 #[.int .i64 (level : Int), .string (Ab key)] w fun e w'=>e = .returned (.bool (endK level key))∧Below w.heap.size w w':=by
 obtain ⟨c,hc,hix⟩:=endK_form level key hlv
 rw [hc]
 have hc256 : (c.toNat : Int)<256:=by have:=c.toNat_lt; omega
 have hsum:=sum_any (w.alloc (.cells #[.string (Ab key)] 9)) _ [key] (ps_one w key w.heap.size rfl) (hT.keep ((Below.refl _ _).alloc (Nat.le_refl _) _) hT.1) (by simpa using hk)
 rw [show ([key] : List Bs).flatten=key from by simp] at hsum
 have hss:=A1 (sha key)
 have hsl:=Hz key
 generalize sha key=S at *
 have hsub : (31 : Int) - (level : Int)=((31 - level : Nat) : Int):=by omega
 have hb0 : Below w.heap.size w (w.alloc (.cells #[.string (Ab key)] 9)):=(Below.refl _ _).alloc (Nat.le_refl _) _
 have HB:=Ac hb0
 clear hb0 hc hT
 go_enter Tryz.func193,Tryz.ntmps193
 go_wp2_with fail
 refine hsum.mono ?_
 rintro e w1 ⟨rfl,hb1⟩
 have HB1:=Ac (HB.out.trans (hb1.mono HB.out.size))
 clear hsum hb1
 go_wp2
 go_ret
 exact ⟨rfl,HB1.out⟩
theorem Iu (w : World) (level : Nat) : Calls Tryz.prog 192 #[.int .i64 (level : Int)] w fun e w'=>e = .returned (.int .i64 (if level=0 then 1 else 2))∧w'=w:=by
 by_cases h : level=0
 ·subst h
  go_enter Tryz.func192,Tryz.ntmps192
  go_wp2
  go_ret
  exact ⟨rfl,rfl⟩
 ·have h2 : ((level : Int) == 0)=false:=by simp; omega
  rw [if_neg h]
  go_enter Tryz.func192,Tryz.ntmps192
  go_wp2
  go_ret
  exact ⟨rfl,rfl⟩
theorem keyP_any (w : World) (x : Ag) : Calls Tryz.prog 158 #[.agg #[.string (Ab x.1), .string (Ab x.2)]] w fun e w'=>e = .returned (.string (Ab x.1))∧Below w.heap.size w w':=by
 go_enter Tryz.func158,Tryz.ntmps158
 go_wp2
 go_ret
 exact ⟨rfl,(Below.refl _ _).alloc (Nat.le_refl _) _⟩
theorem keyL_any (w : World) (x : Ah) : Calls Tryz.prog 160 #[.agg #[.string (Ab x.1), .string (Ab x.2.1), .int .i64 x.2.2]] w fun e w'=>e = .returned (.string (Ab x.1))∧Below w.heap.size w w':=by
 go_enter Tryz.func160,Tryz.ntmps160
 go_wp2
 go_ret
 exact ⟨rfl,(Below.refl _ _).alloc (Nat.le_refl _) _⟩
theorem G3 (w : World) (s : Bs) : Calls Tryz.prog 108 #[.string (Ab s)] w fun e w'=>e = .returned (.bool (As s))∧w'=w:=by
 have hs:=A1 s
 by_cases h : 1≤s.length
 ·go_enter Tryz.func108,Tryz.ntmps108
  go_wp2
  go_ret
  refine ⟨Al ?_,rfl⟩
  unfold As
  rw [Bool.eq_iff_iff]; simp; omega
 ·go_enter Tryz.func108,Tryz.ntmps108
  go_wp2
  go_ret
  refine ⟨Al ?_,rfl⟩
  unfold As
  rw [Bool.eq_iff_iff]; simp; omega
end Go.Proofs.YtckejblkppllaaaGreatDoor
