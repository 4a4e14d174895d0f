/-
  Texts joined: Acts, Steps, Change.
-/
import Derived.Test.YtblniomnhpedjaaGreatDoorP1Chg
import Derived.Deep.RegionHeld
import Derived.WalkKit
namespace Go.Proofs.YtblniomnhpedjaaGreatDoor
open Go.RowKit
def dv (fb : Nat→Nat) (l : Dir) : List (Value × Value):=l.map fun p=>(.string (Ae p.1), .pointer (some ⟨fb p.2,0,none⟩))
def pv (fb : Nat→Nat) : Option Nat→Value
 | none=>.pointer none
 | some f=>.pointer (some ⟨fb f,0,none⟩)
theorem Ep (fb : Nat→Nat) (l : Dir) : ∀ p∈dv fb l,KStr p.1:=by
 intro p hp
 obtain ⟨q,_,rfl⟩:=List.mem_map.1 hp
 exact ⟨_,rfl⟩
theorem dv_ne {fb : Nat→Nat} {l : Dir} {n : Nm} (h : look l n=none) : ∀ p∈dv fb l,p.1 ≠ .string (Ae n):=by
 intro p hp e
 obtain ⟨q,hq,rfl⟩:=List.mem_map.1 hp
 injection e with e
 exact look_none h q hq (strB_inj e)
theorem dv_del {fb : Nat→Nat} {l : Dir} (hs : Bx l) {n : Nm} {f : Nat} (h : look l n=some f) : (dv fb l).Perm ((.string (Ae n), .pointer (some ⟨fb f,0,none⟩)) :: dv fb (del n l)):=
 (Jb hs h).map fun p : Nm × Nat=>((.string (Ae p.1), .pointer (some ⟨fb p.2,0,none⟩)) : Value × Value)
theorem dv_ins (fb : Nat→Nat) (l : Dir) (n : Nm) (f : Nat) : ((.string (Ae n), .pointer (some ⟨fb f,0,none⟩)) :: dv fb l).Perm (dv fb (ins n f l)):=
 ((Fo n f l).map fun p : Nm × Nat=>((.string (Ae p.1), .pointer (some ⟨fb p.2,0,none⟩)) : Value × Value)).symm
theorem zero81 (w : World) : (zeroValue 108).run Tryz.prog w = .ok (.pointer none) w:=by kernel_rfl
theorem kstr (w : World) : KeyKind Tryz.prog 9 w KStr:=kind_str Tryz.underlying9
theorem dir_look {w : World} {b : Nat} {fb : Nat→Nat} {l : Dir} (h : Ak w b (dv fb l)) (hs : Bx l) (n : Nm) :
  (Instr.lookup 85 (.map (some b)) (.string (Ae n)) false).run Tryz.prog w = .ok (pv fb (look l n)) w:=by
 cases hl : look l n with
 | none=>exact h.look_none (kstr w) (Ep fb l) Tryz.underlying85 ⟨_,rfl⟩ (dv_ne hl) (zero81 w) false
 | some f=>exact (h.perm (dv_del hs hl)).look (kstr w) (Ep fb _) Tryz.underlying85 ⟨_,rfl⟩ false
theorem dir_look_nil (w : World) (n : Nm) : (Instr.lookup 85 (.map none) (.string (Ae n)) false).run Tryz.prog w = .ok (.pointer none) w:=
 nil_look Tryz.underlying85 ((kstr w).check true _ ⟨_,rfl⟩) (MapKept.run_findKey Tryz.underlying9 rfl) (zero81 w) false
set_option maxRecDepth 20000 in
theorem made1_raw (w : World) (b cf cn : Nat) (l : List (Value × Value)) (n : Nm) (v : Nat) (h : Ak w b l) (hk : ∀ p∈l,KStr p.1) (hl : ∀ p∈l,p.1 ≠ .string (Ae n))
  (h1 : w.heap[cf]? = some (.cells #[.pointer (some ⟨v,0,none⟩)] 108)) (h2 : w.heap[cn]? = some (.cells #[.string (Ae n)] 9)) :
  Calls Tryz.prog 158 #[.map (some b), .pointer (some ⟨cf,0,none⟩), .pointer (some ⟨cn,0,none⟩)] w fun e w'=>e = .returned (.tuple #[])∧Ak w' b ((.string (Ae n), .pointer (some ⟨v,0,none⟩)) :: l)∧Chg (· = b) w w':=by
 obtain ⟨w',hr,hm,hc,_⟩:=h.put_new (kstr w) hk Tryz.underlying85 ⟨_,rfl⟩ hl (.pointer (some ⟨v,0,none⟩))
 have c1:=Ad h1 0
 have c2:=Ad h2 0
 have HM:=Ab hm
 clear h h1 h2 hm
 go_enter Tryz.func158,Tryz.ntmps158
 go_wp2
 go_end0
 exact ⟨rfl,HM.out,hc⟩
theorem made1_any (w : World) (b cf cn : Nat) (fb : Nat→Nat) (l : Dir) (n : Nm) (f : Nat) (h : Ak w b (dv fb l)) (hl : look l n=none)
  (h1 : w.heap[cf]? = some (.cells #[.pointer (some ⟨fb f,0,none⟩)] 108)) (h2 : w.heap[cn]? = some (.cells #[.string (Ae n)] 9)) :
  Calls Tryz.prog 158 #[.map (some b), .pointer (some ⟨cf,0,none⟩), .pointer (some ⟨cn,0,none⟩)] w fun e w'=>e = .returned (.tuple #[])∧Ak w' b (dv fb (ins n f l))∧Chg (· = b) w w':=by
 refine (made1_raw w b cf cn (dv fb l) n (fb f) h (Ep fb l) (dv_ne hl) h1 h2).mono ?_
 rintro e w' ⟨he,hm,hc⟩
 exact ⟨he,hm.perm (dv_ins fb l n f),hc⟩
set_option maxRecDepth 20000 in
theorem rem1_any (w : World) (b cn : Nat) (fb : Nat→Nat) (l : Dir) (n : Nm) (hs : Bx l) (h : Ak w b (dv fb l)) (hl : look l n≠none)
  (h2 : w.heap[cn]? = some (.cells #[.string (Ae n)] 9)) :
  Calls Tryz.prog 157 #[.map (some b), .pointer (some ⟨cn,0,none⟩)] w fun e w'=>e = .returned (.tuple #[])∧Ak w' b (dv fb (del n l))∧Chg (· = b) w w':=by
 obtain ⟨f,hf⟩:=Option.ne_none_iff_exists'.1 hl
 obtain ⟨w',hr,hm,hc,_⟩:=(h.perm (dv_del hs hf)).drop_old (kstr w) (Ep fb _) Tryz.underlying85 ⟨_,rfl⟩ 0 9
 have c2:=Ad h2 0
 clear h h2
 go_enter Tryz.func157,Tryz.ntmps157
 go_wp2
 go_end0
 exact ⟨rfl,hm,hc⟩
theorem del_comm (a b : Nm) (l : Dir) : del a (del b l)=del b (del a l):=by
 unfold del
 rw [List.filter_filter,List.filter_filter]
 exact List.filter_congr fun p _=>Bool.and_comm _ _
set_option maxRecDepth 20000 in
theorem ren1_any (w : World) (b ca cb : Nat) (fb : Nat→Nat) (l : Dir) (x y : Nm) (hs : Bx l) (h : Ak w b (dv fb l)) (hl : look l x≠none) (hne : x≠y)
  (h1 : w.heap[ca]? = some (.cells #[.string (Ae x)] 9)) (h2 : w.heap[cb]? = some (.cells #[.string (Ae y)] 9)) :
  Calls Tryz.prog 148 #[.map (some b), .pointer (some ⟨ca,0,none⟩), .pointer (some ⟨cb,0,none⟩)] w fun e w'=>e = .returned (.tuple #[])∧Ak w' b (dv fb (Bl l (.ren x y)))∧Chg (· = b) w w':=by
 obtain ⟨f,hf⟩:=Option.ne_none_iff_exists'.1 hl
 have hd : Bl l (.ren x y)=ins y f (del y (del x l)):=by simp only [Bl,hf]
 rw [hd]
 have hk:=dir_look h hs x
 rw [hf] at hk
 have hk' : (Instr.lookup 85 (.map (some b)) (.string (Ae x)) false).run Tryz.prog w = .ok (.pointer (some ⟨fb f,0,none⟩)) w:=hk
 have hput : ∃ w1,(Instr.mapUpdate 85 (.map (some b)) (.string (Ae y)) (.pointer (some ⟨fb f,0,none⟩))).run Tryz.prog w = .ok () w1 ∧
   Ak w1 b ((.string (Ae x), .pointer (some ⟨fb f,0,none⟩)) :: (.string (Ae y), .pointer (some ⟨fb f,0,none⟩)) :: dv fb (del y (del x l)))∧Chg (· = b) w w1:=by
  cases hy : look l y with
  | none=>
   obtain ⟨w1,r1,r2,r3,_⟩:=h.put_new (kstr w) (Ep fb l) Tryz.underlying85 ⟨_,rfl⟩ (dv_ne hy) (.pointer (some ⟨fb f,0,none⟩))
   refine ⟨w1,r1,r2.perm ?_,r3⟩
   have hn : look (del x l) y=none:=by rw [D5,if_neg (fun e=>hne e.symm),hy]
   rw [Mw hn]
   exact ((dv_del hs hf).cons _).trans (List.Perm.swap _ _ _)
  | some g=>
   obtain ⟨w1,r1,r2,r3,_⟩:=(h.perm (dv_del hs hy)).put_old (kstr w) (Ep fb _) Tryz.underlying85 ⟨_,rfl⟩ (.pointer (some ⟨fb f,0,none⟩))
   refine ⟨w1,r1,r2.perm ?_,r3⟩
   have hx : look (del y l) x=some f:=by rw [D5,if_neg hne,hf]
   rw [del_comm y x]
   exact ((dv_del (Gz hs y) hx).cons _).trans (List.Perm.swap _ _ _)
 obtain ⟨w1,hr1,hm1,hc1⟩:=hput
 have hne1:=h.ne h1
 have g1:=hc1.keep h1 hne1
 obtain ⟨w2,hr2,hm2,hc2,_⟩:=hm1.drop_old (kstr w1) (consK ⟨_,rfl⟩ (Ep fb _)) Tryz.underlying85 ⟨_,rfl⟩ 0 9
 have c1:=Ad h1 0
 have c2:=Ad h2 0
 have c3:=Ad g1 0
 have HM:=Ab (hm2.perm (dv_ins fb _ y f))
 have HC:=Ab (hc1.then hc2)
 clear h h1 h2 hm1 hm2 hc1 hc2 g1 hk hd
 go_enter Tryz.func148,Tryz.ntmps148
 go_wp2
 go_end0
 exact ⟨rfl,HM.out,HC.out⟩
def mv (fb : Nat→Nat) (ml : List (Nat × Nat)) : List (Value × Value):=ml.map fun p=>(.pointer (some ⟨fb p.1,0,none⟩), .int .i64 (p.2 : Int))
def B2 (ml : List (Nat × Nat)) (i : Nat) : Nat:=((ml.find? (fun p=>p.1 == i)).map (·.2)).getD 0
def mput (ml : List (Nat × Nat)) (i v : Nat) : List (Nat × Nat):=(i,v) :: ml.filter fun p=>p.1 != i
theorem mlook_put (ml : List (Nat × Nat)) (i v j : Nat) : B2 (mput ml i v) j=if j=i then v else B2 ml j:=by
 unfold B2 mput
 by_cases h : j=i
 ·subst h
  simp
 ·rw [List.find?_cons_of_neg (by simpa using fun e=>h e.symm),if_neg h]
  congr 2
  induction ml with
  | nil=>rfl
  | cons p r ih=>
   by_cases e : p.1=i
   ·rw [List.filter_cons_of_neg (by simpa using e),ih,List.find?_cons_of_neg (by simp; intro e2; exact h (e2.symm.trans e))]
   ·rw [List.filter_cons_of_pos (by simpa using e),List.find?_cons,List.find?_cons,ih]
theorem mlook_mem {ml : List (Nat × Nat)} {i : Nat} (hn : (ml.map (·.1)).Nodup) (h : i∈ml.map (·.1)) : ml.Perm ((i,B2 ml i) :: ml.filter fun p=>p.1 != i):=by
 induction ml with
 | nil=>simp at h
 | cons p r ih=>
  rw [List.map_cons,List.nodup_cons] at hn
  by_cases e : p.1=i
  ·subst e
   have h1 : B2 (p :: r) p.1=p.2:=by simp [B2]
   have h2 : (r.filter fun q=>q.1 != p.1)=r:=List.filter_eq_self.2 fun q hq=>by
    simp
    intro e
    exact hn.1 (List.mem_map.2 ⟨q,hq,e⟩)
   rw [h1,List.filter_cons_of_neg (by simp),h2]
  ·have hm : i∈r.map (·.1):=by
    rcases List.mem_cons.1 h with h | h
    ·exact absurd h.symm e
    ·exact h
   have h1 : B2 (p :: r) i=B2 r i:=by
    unfold B2
    rw [List.find?_cons_of_neg (by simpa using e)]
   rw [h1,List.filter_cons_of_pos (by simpa using e)]
   exact ((ih hn.2 hm).cons p).trans (List.Perm.swap _ _ _)
theorem Ne {ml : List (Nat × Nat)} {i : Nat} (h : i ∉ ml.map (·.1)) : B2 ml i=0∧(ml.filter fun p=>p.1 != i)=ml:=by
 constructor
 ·unfold B2
  rw [List.find?_eq_none.2 fun p hp=>by simp; intro e; exact h (List.mem_map.2 ⟨p,hp,e⟩)]
  rfl
 ·exact List.filter_eq_self.2 fun p hp=>by simp; intro e; exact h (List.mem_map.2 ⟨p,hp,e⟩)
theorem zero3 (w : World) : (zeroValue 3).run Tryz.prog w = .ok (.int .i64 0) w:=by kernel_rfl
theorem size95 (w : World) : (sizeOf 118).run Tryz.prog w = .ok 3 w:=by kernel_rfl
theorem kptr (w : World) : KeyKind Tryz.prog 108 w (KPtr w):=kind_ptr (n:=2) Tryz.underlying108 (size95 w)
def Lies (w : World) (fb : Nat→Nat) (is : List Nat) : Prop:=(∀ i∈is,∃ c,w.heap[fb i]? = some (.cells c 118 (0,0)))∧∀ i∈is,∀ j∈is,fb i=fb j→i=j
theorem Lies.keep {F : Nat→Prop} {w w' : World} {fb : Nat→Nat} {is : List Nat} (h : Lies w fb is) (hc : Chg F w w') (hF : ∀ i∈is,¬ F (fb i)) : Lies w' fb is:=
 ⟨fun i hi=>by obtain ⟨c,h1⟩:=h.1 i hi; exact ⟨c,hc.keep h1 (hF i hi)⟩,h.2⟩
theorem I6 {w : World} {fb : Nat→Nat} {is : List Nat} {ml : List (Nat × Nat)} (h : Lies w fb is) (hm : ∀ p∈ml,p.1∈is) : ∀ p∈mv fb ml,KPtr w p.1:=by
 intro p hp
 obtain ⟨q,hq,rfl⟩:=List.mem_map.1 hp
 obtain ⟨c,h1⟩:=h.1 _ (hm q hq)
 exact ⟨_,c,_,rfl,h1⟩
theorem mv_nodup {w : World} {b : Nat} {fb : Nat→Nat} {ml : List (Nat × Nat)} (h : Ak w b (mv fb ml)) : (ml.map (·.1)).Nodup:=by
 have h1:=h.keys
 unfold mv at h1
 rw [List.map_map,List.Nodup,List.pairwise_map] at h1
 rw [List.Nodup,List.pairwise_map]
 exact h1.imp fun {a b} hne e=>hne (by simp [e])
theorem more_look {w : World} {b : Nat} {fb : Nat→Nat} {is : List Nat} {ml : List (Nat × Nat)} (h : Ak w b (mv fb ml)) (hl : Lies w fb is) (hm : ∀ p∈ml,p.1∈is) {f : Nat} (hf : f∈is) :
  (Instr.lookup 104 (.map (some b)) (.pointer (some ⟨fb f,0,none⟩)) false).run Tryz.prog w = .ok (.int .i64 (B2 ml f : Int)) w:=by
 obtain ⟨c,hc⟩:=hl.1 f hf
 by_cases h1 : f∈ml.map (·.1)
 ·have hp:=(mlook_mem (mv_nodup h) h1).map fun p : Nat × Nat=>((.pointer (some ⟨fb p.1,0,none⟩), .int .i64 (p.2 : Int)) : Value × Value)
  exact (h.perm hp).look (kptr w) (I6 hl fun p hp=>hm p (List.mem_filter.1 hp).1) Tryz.underlying104 ⟨_,c,_,rfl,hc⟩ false
 ·rw [(Ne h1).1]
  refine h.look_none (kptr w) (I6 hl hm) Tryz.underlying104 ⟨_,c,_,rfl,hc⟩ (fun p hp e=>?_) (zero3 w) false
  obtain ⟨q,hq,rfl⟩:=List.mem_map.1 hp
  injection e with e
  injection e with e
  injection e with e
  exact h1 (List.mem_map.2 ⟨q,hq,hl.2 _ (hm q hq) _ hf e⟩)
theorem more_put {w : World} {b : Nat} {fb : Nat→Nat} {is : List Nat} {ml : List (Nat × Nat)} (h : Ak w b (mv fb ml)) (hl : Lies w fb is) (hm : ∀ p∈ml,p.1∈is) {f : Nat} (hf : f∈is) (v : Nat) :
  ∃ w',(Instr.mapUpdate 104 (.map (some b)) (.pointer (some ⟨fb f,0,none⟩)) (.int .i64 (v : Int))).run Tryz.prog w = .ok () w'∧Ak w' b (mv fb (mput ml f v))∧Chg (· = b) w w':=by
 obtain ⟨c,hc⟩:=hl.1 f hf
 by_cases h1 : f∈ml.map (·.1)
 ·have hp:=(mlook_mem (mv_nodup h) h1).map fun p : Nat × Nat=>((.pointer (some ⟨fb p.1,0,none⟩), .int .i64 (p.2 : Int)) : Value × Value)
  obtain ⟨w',r1,r2,r3,_⟩:=(h.perm hp).put_old (kptr w) (I6 hl fun p hp=>hm p (List.mem_filter.1 hp).1) Tryz.underlying104 ⟨_,c,_,rfl,hc⟩ (.int .i64 (v : Int))
  exact ⟨w',r1,r2,r3⟩
 ·obtain ⟨w',r1,r2,r3,_⟩:=h.put_new (kptr w) (I6 hl hm) Tryz.underlying104 (x:=.pointer (some ⟨fb f,0,none⟩)) ⟨_,c,_,rfl,hc⟩ (fun p hp e=>by
   obtain ⟨q,hq,rfl⟩:=List.mem_map.1 hp
   injection e with e
   injection e with e
   injection e with e
   exact h1 (List.mem_map.2 ⟨q,hq,hl.2 _ (hm q hq) _ hf e⟩)) (.int .i64 (v : Int))
  refine ⟨w',r1,?_,r3⟩
  unfold mput
  rw [(Ne h1).2]
  exact r2
set_option maxRecDepth 20000 in
theorem more1_any (w : World) (b cf cn : Nat) (nv : Value) (fb : Nat→Nat) (is : List Nat) (ml : List (Nat × Nat)) (f k : Nat) (most : Int) (h : Ak w b (mv fb ml)) (hl : Lies w fb is) (hm : ∀ p∈ml,p.1∈is) (hf : f∈is)
  (h0 : 0≤most) (hsum : B2 ml f+k<4611686018427387904) (hk : k<4611686018427387904)
  (h1 : w.heap[cf]? = some (.cells #[.pointer (some ⟨fb f,0,none⟩)] 108)) (h2 : w.heap[cn]? = some (.cells #[.int .i64 (k : Int)] 3)) :
  Calls Tryz.prog 159 #[.agg #[nv, .map (some b)], .int .i64 most, .pointer (some ⟨cf,0,none⟩), .pointer (some ⟨cn,0,none⟩)] w fun e w'=>
   e = .returned (.tuple #[])∧Ak w' b (mv fb (mput ml f (B2 ml f+min k most.toNat)))∧Chg (· = b) w w':=by
 have ha:=h.keep ((Chg.refl (fun _=>False) w).alloc (.cells #[nv, .map (some b)] 106)) (fun h=>h)
 have hla:=hl.keep ((Chg.refl (fun _=>False) w).alloc (.cells #[nv, .map (some b)] 106)) (fun _ _ h=>h)
 have g1:=Bh (.cells #[nv, .map (some b)] 106) h1
 have g2:=Bh (.cells #[nv, .map (some b)] 106) h2
 have hlk:=more_look ha hla hm hf
 obtain ⟨w',r1,r2,r3⟩:=more_put ha hla hm hf (B2 ml f+min k most.toNat)
 have c1:=Ad g1 0
 have c2:=Ad g2 0
 have HM:=Ab r2
 have HC:=Ab (((Chg.refl (· = b) w).alloc (.cells #[nv, .map (some b)] 106)).then r3)
 clear h h1 h2 ha hla g1 g2 r2 r3
 obtain ⟨v,hgv⟩ : ∃ v,v=B2 ml f+min k most.toNat:=⟨_,rfl⟩
 have HG:=Ab hgv
 rw [← hgv] at r1
 by_cases hmk : most<(k : Int)
 ·have hv : (v : Int)=(B2 ml f : Int)+most:=by omega
  rw [hv] at r1
  clear hv hgv
  go_enter Tryz.func159,Tryz.ntmps159
  go_wp2
  go_end0
  exact ⟨rfl,HM.out,HC.out⟩
 ·have hv : (v : Int)=(B2 ml f : Int)+(k : Int):=by omega
  rw [hv] at r1
  clear hv
  have hm2:=HM.out
  rw [← hgv] at hm2
  have HM2:=Ab hm2
  clear hm2
  rw [← hgv]
  clear hgv HM
  go_enter Tryz.func159,Tryz.ntmps159
  go_wp2
  go_end0
  exact ⟨rfl,HM2.out,HC.out⟩
def DoW (w : World) (F : Nat→Prop) (fb : Nat→Nat) : Ac→Value→Prop
 | .made n f,v=>∃ cf cn,v = .func (.func 158) #[] #[.pointer (some ⟨cf,0,none⟩), .pointer (some ⟨cn,0,none⟩)]∧F cf∧F cn ∧
   w.heap[cf]? = some (.cells #[.pointer (some ⟨fb f,0,none⟩)] 108)∧w.heap[cn]? = some (.cells #[.string (Ae n)] 9)
 | .ren a b,v=>∃ ca cb,v = .func (.func 148) #[] #[.pointer (some ⟨ca,0,none⟩), .pointer (some ⟨cb,0,none⟩)]∧F ca∧F cb ∧
   w.heap[ca]? = some (.cells #[.string (Ae a)] 9)∧w.heap[cb]? = some (.cells #[.string (Ae b)] 9)
 | .rem n,v=>∃ cn,v = .func (.func 157) #[] #[.pointer (some ⟨cn,0,none⟩)]∧F cn∧w.heap[cn]? = some (.cells #[.string (Ae n)] 9)
 | .more _ _,_=>False
def ActW (w : World) (F : Nat→Prop) (fb : Nat→Nat) : Ac→Value × Value→Prop
 | .more f k,p=>p.1 = .pointer (some ⟨fb f,0,none⟩)∧∃ cf cn,p.2 = .func (.func 159) #[] #[.pointer (some ⟨cf,0,none⟩), .pointer (some ⟨cn,0,none⟩)]∧F cf∧F cn ∧
   w.heap[cf]? = some (.cells #[.pointer (some ⟨fb f,0,none⟩)] 108)∧w.heap[cn]? = some (.cells #[.int .i64 (k : Int)] 3)
 | a,p=>p.1 = .pointer none∧∃ c v,p.2 = .func (.func 161) #[] #[.pointer (some ⟨c,0,none⟩)]∧F c∧w.heap[c]? = some (.cells #[v] 219)∧DoW w F fb a v
theorem DoW.keep {F G F' : Nat→Prop} {w w' : World} {fb fb' : Nat→Nat} {a : Ac} {v : Value} (h : DoW w F fb a v) (hc : Chg G w w')
  (hG : ∀ c x t,w.heap[c]? = some (.cells x t (0,0))→t=108∨t=9→F c→¬ G c) (hF : ∀ c,F c→F' c) (hfb : ∀ i∈A4 [a],fb' i=fb i) : DoW w' F' fb' a v:=by
 cases a with
 | made n f=>
  obtain ⟨cf,cn,h1,h2,h3,h4,h5⟩:=h
  refine ⟨cf,cn,h1,hF _ h2,hF _ h3,?_,hc.keep h5 (hG _ _ _ h5 (Or.inr rfl) h3)⟩
  rw [hfb f (by simp [A4])]
  exact hc.keep h4 (hG _ _ _ h4 (Or.inl rfl) h2)
 | ren a b=>
  obtain ⟨ca,cb,h1,h2,h3,h4,h5⟩:=h
  exact ⟨ca,cb,h1,hF _ h2,hF _ h3,hc.keep h4 (hG _ _ _ h4 (Or.inr rfl) h2),hc.keep h5 (hG _ _ _ h5 (Or.inr rfl) h3)⟩
 | rem n=>
  obtain ⟨cn,h1,h2,h3⟩:=h
  exact ⟨cn,h1,hF _ h2,hc.keep h3 (hG _ _ _ h3 (Or.inr rfl) h2)⟩
 | more f k=>exact h.elim
theorem ActW.keep {F G F' : Nat→Prop} {w w' : World} {fb fb' : Nat→Nat} {a : Ac} {p : Value × Value} (h : ActW w F fb a p) (hc : Chg G w w')
  (hG : ∀ c x t,w.heap[c]? = some (.cells x t (0,0))→(t=108∨t=9)∨t=3∨t=219→F c→¬ G c) (hF : ∀ c,F c→F' c) (hfb : ∀ i∈A4 [a]++Br [a],fb' i=fb i) : ActW w' F' fb' a p:=by
 have hG1 : ∀ c x t,w.heap[c]? = some (.cells x t (0,0))→t=108∨t=9→F c→¬ G c:=fun c x t h1 h2 h3=>hG c x t h1 (Or.inl h2) h3
 have dir : ∀ a,A9 a=false→A4 [a]++Br [a]=A4 [a]:=by
  intro a ha
  cases a <;> first | rfl | simp [A9] at ha
 have hd : A9 a=false→(p.1 = .pointer none∧∃ c v,p.2 = .func (.func 161) #[] #[.pointer (some ⟨c,0,none⟩)]∧F c∧w.heap[c]? = some (.cells #[v] 219)∧DoW w F fb a v) →
   (p.1 = .pointer none∧∃ c v,p.2 = .func (.func 161) #[] #[.pointer (some ⟨c,0,none⟩)]∧F' c∧w'.heap[c]? = some (.cells #[v] 219)∧DoW w' F' fb' a v):=by
  intro hm ⟨h1,c,v,h2,h3,h4,h5⟩
  exact ⟨h1,c,v,h2,hF _ h3,hc.keep h4 (hG _ _ _ h4 (Or.inr (Or.inr rfl)) h3),h5.keep hc hG1 hF (fun i hi=>hfb i (by rw [dir a hm]; exact hi))⟩
 cases a with
 | more f k=>
  obtain ⟨h0,cf,cn,h1,h2,h3,h4,h5⟩:=h
  have e:=hfb f (by simp [Br])
  refine ⟨by rw [e]; exact h0,cf,cn,h1,hF _ h2,hF _ h3,?_,hc.keep h5 (hG _ _ _ h5 (Or.inr (Or.inl rfl)) h3)⟩
  rw [e]
  exact hc.keep h4 (hG _ _ _ h4 (Or.inl (Or.inl rfl)) h2)
 | made n f=>exact hd rfl h
 | ren a b=>exact hd rfl h
 | rem n=>exact hd rfl h
set_option maxRecDepth 20000 in
theorem dirDo_any (w : World) (b c : Nat) (mo : Value) (most : Int) (v : Value) (F : Nat→Prop) (fb : Nat→Nat) (l : Dir) (a : Ac) (hs : Bx l) (h : Ak w b (dv fb l)) (hc : canD l a) (hd : DoW w F fb a v)
  (h1 : w.heap[c]? = some (.cells #[v] 219)) :
  Calls Tryz.prog 161 #[.agg #[.map (some b),mo], .int .i64 most, .pointer (some ⟨c,0,none⟩)] w fun e w'=>e = .returned (.tuple #[])∧Ak w' b (dv fb (Bl l a))∧Chg (· = b) w w':=by
 have ha:=h.keep ((Chg.refl (fun _=>False) w).alloc (.cells #[.map (some b),mo] 106)) (fun h=>h)
 have g1:=Bh (.cells #[.map (some b),mo] 106) h1
 have c1:=Ad g1 0
 have hC0 : Chg (· = b) w (w.alloc (.cells #[.map (some b),mo] 106)):=(Chg.refl _ _).alloc _
 cases a with
 | made n f=>
  obtain ⟨cf,cn,rfl,_,_,h4,h5⟩:=hd
  have k4:=Bh (.cells #[.map (some b),mo] 106) h4
  have k5:=Bh (.cells #[.map (some b),mo] 106) h5
  have hcall:=made1_any _ b cf cn fb l n f ha hc k4 k5
  clear ha h h1 g1 h4 h5 k4 k5
  go_enter Tryz.func161,Tryz.ntmps161
  go_wp2_with (go_at_call 158; refine hcall.mono ?_; rintro e w' ⟨rfl,hm,hcg⟩)
  go_end0
  exact ⟨rfl,hm,hC0.then hcg⟩
 | ren x y=>
  obtain ⟨cf,cn,rfl,_,_,h4,h5⟩:=hd
  have k4:=Bh (.cells #[.map (some b),mo] 106) h4
  have k5:=Bh (.cells #[.map (some b),mo] 106) h5
  have hcall:=ren1_any _ b cf cn fb l x y hs ha hc.1 hc.2 k4 k5
  clear ha h h1 g1 h4 h5 k4 k5
  go_enter Tryz.func161,Tryz.ntmps161
  go_wp2_with (go_at_call 148; refine hcall.mono ?_; rintro e w' ⟨rfl,hm,hcg⟩)
  go_end0
  exact ⟨rfl,hm,hC0.then hcg⟩
 | rem n=>
  obtain ⟨cn,rfl,_,h5⟩:=hd
  have k5:=Bh (.cells #[.map (some b),mo] 106) h5
  have hcall:=rem1_any _ b cn fb l n hs ha hc k5
  clear ha h h1 g1 h5 k5
  go_enter Tryz.func161,Tryz.ntmps161
  go_wp2_with (go_at_call 157; refine hcall.mono ?_; rintro e w' ⟨rfl,hm,hcg⟩)
  go_end0
  exact ⟨rfl,hm,hC0.then hcg⟩
 | more f k=>exact hd.elim
end Go.Proofs.YtblniomnhpedjaaGreatDoor
namespace Go.Proofs.YtblniomnhpedjaaGreatDoor
open Go.RowKit
variable {P : Program} {l : List Oper} {Q : Exit→Act→World→Prop} {md : Region.Mode} {S : World→Prop}
theorem ly1 {α : Type} (l : List α) (i : Nat) (a : α) : l.toArray.setIfInBounds i a=(l.set i a).toArray:=List.setIfInBounds_toArray ..
theorem ly2 {α : Type} (x : α) (l : List α) (a : α) : (x :: l).set 0 a=a :: l:=rfl
theorem ly3 {α : Type} (x : α) (l : List α) (n : Nat) (a : α) : (x :: l).set (n+1) a=x :: l.set n a:=rfl
theorem takeH {i : Nat} {oi : Oper} {v : Value} {fuel : Nat} {listed : Array Bool} {a : Act} {w : World} (hi : l[i]? = some oi)
  (hs : Region.noSelect l.toArray=true) (hf : Region.free md l.toArray listed i=true) (hr : (Region.ready md l.toArray listed).contains i=true)
  (hQ : ∀ c a w,Q (.panic c) (a.put oi.dst v) w→Q (.panic c) a w) (hg : Region.wanted oi (yielded l.toArray a.tmps)=true) (hy : ∀ w,S w→(execOp a.eval oi).run P w = .ok (.value v) w) (hS : S w)
  (h : wpAnyH P md l.toArray Q S fuel (listed.setIfInBounds i true) (a.put oi.dst v) w) : wpAnyH P md l.toArray Q S (fuel+1) listed a w:=
 wpAnyH_take (by simpa using hi) hs hf hr hQ (Or.inl ⟨hg,hy⟩) hS h
theorem takeJ (i : Nat) {oi : Oper} {v : Value} {fuel : Nat} {listed listed' : Array Bool} {a a' : Act} {w : World} (hy : ∀ w,S w→(execOp a.eval oi).run P w = .ok (.value v) w) (hS : S w)
  (h : wpAnyH P md l.toArray Q S fuel listed' a' w) (hi : l[i]? = some oi:=by exact rfl)
  (hs : Region.noSelect l.toArray=true:=by kernel_rfl) (hf : Region.free md l.toArray listed i=true:=by kernel_rfl) (hr : (Region.ready md l.toArray listed).contains i=true:=by kernel_rfl)
  (hQ : ∀ c a w,Q (.panic c) (a.put oi.dst v) w→Q (.panic c) a w:=by exact fun _ _ _ h=>h) (hg : Region.wanted oi (yielded l.toArray a.tmps)=true:=by exact rfl)
  (hl : listed.setIfInBounds i true=listed':=by (try simp only [List.setIfInBounds_toArray,List.set_cons_zero,List.set_cons_succ]); exact rfl)
  (ha : a.put oi.dst v=a':=by (try simp only [Act.put,List.setIfInBounds_toArray,List.set_cons_zero,List.set_cons_succ]); exact rfl) : wpAnyH P md l.toArray Q S (fuel+1) listed a w:=by
 subst hl ha
 exact takeH hi hs hf hr hQ hg hy hS h
theorem Aa (i : Nat) {oi : Oper} {v : Value} {fuel : Nat} {listed listed' : Array Bool} {a a' : Act} {w : World} (hS : S w) (h : wpAnyH P md l.toArray Q S fuel listed' a' w) (hi : l[i]? = some oi:=by exact rfl)
  (hs : Region.noSelect l.toArray=true:=by kernel_rfl) (hf : Region.free md l.toArray listed i=true:=by kernel_rfl) (hr : (Region.ready md l.toArray listed).contains i=true:=by kernel_rfl)
  (hy : ∀ w,S w→(execOp a.eval oi).run P w = .ok (.value v) w:=by (intro w hS; (try dsimp only at hS); (try simp only [and_assoc] at hS); go_simp; try with_reducible rfl))
  (hQ : ∀ c a w,Q (.panic c) (a.put oi.dst v) w→Q (.panic c) a w:=by exact fun _ _ _ h=>h) (hg : Region.wanted oi (yielded l.toArray a.tmps)=true:=by exact rfl)
  (hl : listed.setIfInBounds i true=listed':=by (try simp only [List.setIfInBounds_toArray,List.set_cons_zero,List.set_cons_succ]); exact rfl)
  (ha : a.put oi.dst v=a':=by (try simp only [Act.put,List.setIfInBounds_toArray,List.set_cons_zero,List.set_cons_succ]); exact rfl) : wpAnyH P md l.toArray Q S (fuel+1) listed a w:=by
 subst hl ha
 exact takeH hi hs hf hr hQ hg hy hS h
theorem skipH {i : Nat} {oi : Oper} {fuel : Nat} {listed : Array Bool} {a : Act} {w : World} (hi : l[i]? = some oi)
  (hs : Region.noSelect l.toArray=true) (hf : Region.free md l.toArray listed i=true) (hr : (Region.ready md l.toArray listed).contains i=true)
  (hQ : ∀ c a w,Q (.panic c) (a.put oi.dst undef) w→Q (.panic c) a w) (hg : Region.wanted oi (yielded l.toArray a.tmps)=false) (hS : S w)
  (h : wpAnyH P md l.toArray Q S fuel (listed.setIfInBounds i true) (a.put oi.dst undef) w) : wpAnyH P md l.toArray Q S (fuel+1) listed a w:=
 wpAnyH_take (by simpa using hi) hs hf hr hQ (Or.inr ⟨hg,rfl⟩) hS h
theorem Aj (i : Nat) {oi : Oper} {fuel : Nat} {listed listed' : Array Bool} {a a' : Act} {w : World} (hS : S w) (h : wpAnyH P md l.toArray Q S fuel listed' a' w) (hi : l[i]? = some oi:=by exact rfl)
  (hs : Region.noSelect l.toArray=true:=by kernel_rfl) (hf : Region.free md l.toArray listed i=true:=by kernel_rfl) (hr : (Region.ready md l.toArray listed).contains i=true:=by kernel_rfl)
  (hQ : ∀ c a w,Q (.panic c) (a.put oi.dst undef) w→Q (.panic c) a w:=by exact fun _ _ _ h=>h) (hg : Region.wanted oi (yielded l.toArray a.tmps)=false:=by exact rfl)
  (hl : listed.setIfInBounds i true=listed':=by (try simp only [List.setIfInBounds_toArray,List.set_cons_zero,List.set_cons_succ]); exact rfl)
  (ha : a.put oi.dst undef=a':=by (try simp only [Act.put,List.setIfInBounds_toArray,List.set_cons_zero,List.set_cons_succ]); exact rfl) : wpAnyH P md l.toArray Q S (fuel+1) listed a w:=by
 subst hl ha
 exact skipH hi hs hf hr hQ hg hS h
theorem Al {i : Nat} {oi : Oper} {fuel : Nat} {listed : Array Bool} {a : Act} {w : World} (hi : l[i]? = some oi) (hr : Region.ready md l.toArray listed = [i]) (hg : Region.wanted oi (yielded l.toArray a.tmps)=true)
  (h : ∀ K' : Act→World→Prop,Shut (∀ a w,S w→(S w→wpAnyH P md l.toArray Q S fuel (listed.setIfInBounds i true) a w)→K' a w)→Oper.wp P oi a w K' Q) : wpAnyH P md l.toArray Q S (fuel+1) listed a w:=
 wpAnyH_ready hr (by simp) (AllReadyH.cons (o:=oi) (by simpa using hi) (fun K hK=>by rw [if_pos hg]; exact h K hK) AllReadyH.nil)
theorem twoH {i j : Nat} {oi oj : Oper} {fuel : Nat} {listed : Array Bool} {a : Act} {w : World} (hi : l[i]? = some oi) (hj : l[j]? = some oj) (hr : Region.ready md l.toArray listed = [i,j])
  (hgi : Region.wanted oi (yielded l.toArray a.tmps)=true) (hgj : Region.wanted oj (yielded l.toArray a.tmps)=true)
  (h1 : ∀ K' : Act→World→Prop,Shut (∀ a w,S w→(S w→wpAnyH P md l.toArray Q S fuel (listed.setIfInBounds i true) a w)→K' a w)→Oper.wp P oi a w K' Q)
  (h2 : ∀ K' : Act→World→Prop,Shut (∀ a w,S w→(S w→wpAnyH P md l.toArray Q S fuel (listed.setIfInBounds j true) a w)→K' a w)→Oper.wp P oj a w K' Q) : wpAnyH P md l.toArray Q S (fuel+1) listed a w:=
 wpAnyH_ready hr (by simp) (AllReadyH.cons (o:=oi) (by simpa using hi) (fun K hK=>by rw [if_pos hgi]; exact h1 K hK) (AllReadyH.cons (o:=oj) (by simpa using hj) (fun K hK=>by rw [if_pos hgj]; exact h2 K hK) AllReadyH.nil))
end Go.Proofs.YtblniomnhpedjaaGreatDoor
namespace Go.Proofs.YtblniomnhpedjaaGreatDoor
open Go.RowKit
theorem Tryz.info104 : (Tryz.prog.info? 111).map (fun i=>(i.zero,i.size,i.bytes))=some (some (.agg #[.pointer none, .nilFunc]),2,16):=by kernel_rfl
theorem Cb (w : World) (d i : Nat) (v : Value) : Chg (· = d) w (w.setCell ⟨d,i,none⟩ v):=(Chg.refl (· = d) w).setCell (p:=⟨d,i,none⟩) (Or.inl rfl) v
theorem Do {w : World} {base size n : Nat} {e : TypeId} {v : Value} {xs : List Value} (h : w.ownsRow base e size v n xs) : ∃ a c,v = .slice a n c:=by
 rcases h.2 with ⟨rfl,rfl⟩ | ⟨q,cap,cur,rfl,_⟩
 ·exact ⟨_,_,rfl⟩
 ·exact ⟨_,_,rfl⟩
theorem A2 {w : World} {base size n k : Nat} {e : TypeId} {v : Value} {xs : List Value} (h : w.ownsRow base e size v n xs) (hk : v.ownBlock=some k) : ∃ cur,w.heap[k]? = some (.cells cur e (0,0)):=by
 rcases h.2 with ⟨rfl,rfl⟩ | ⟨q,cap,cur,rfl,_,hb,_⟩
 ·cases hk
 ·injection hk with hk
  subst hk
  exact ⟨cur,hb⟩
theorem A3 {F : Nat→Prop} {w w' : World} {base size n : Nat} {e : TypeId} {v : Value} {xs : List Value} (h : w.ownsRow base e size v n xs) (hc : Chg F w w') (hF : ∀ k,v.ownBlock=some k→¬ F k) : w'.ownsRow base e size v n xs:=by
 refine ⟨h.1,?_⟩
 rcases h.2 with h | ⟨q,cap,cur,rfl,h1,hb,h2⟩
 ·exact Or.inl h
 ·exact Or.inr ⟨q,cap,cur,rfl,h1,hc.keep hb (hF q rfl),h2⟩
set_option maxRecDepth 20000 in
theorem Ot (w : World) (d f n cap : Nat) (a : Option Addr) (r o1 o2 o3 o4 o5 o6 o7 s nm : Value) (used : Int)
  (hd : w.heap[d]? = some (.cells #[r, .int .i64 used,o1,o2,o3,o4,o5,o6,o7] 89)) (hf : w.heap[f]? = some (.cells #[.slice a n cap,s,nm] 118)) (h0 : (n : Int)≤used) (h1 : used<4611686018427387904) :
  Calls Tryz.prog 146 #[.pointer (some ⟨d,0,none⟩), .pointer (some ⟨f,0,none⟩)] w fun e w'=>e = .returned (.tuple #[]) ∧
   w'.heap[d]? = some (.cells #[r, .int .i64 (used - n),o1,o2,o3,o4,o5,o6,o7] 89)∧w'.heap[f]? = some (.cells #[.slice a n cap,s, .bool false] 118) ∧
   Chg (fun k=>k=d∨k=f) w w'∧w'.heap.size=w.heap.size:=by
 have hne : d≠f:=Gg hd hf (by intro e; injection e with e1 e2; exact absurd e2 (by decide))
 have c1:=Ad hd 1
 have f2:=Av hf 2
 have g1:=A0 hf 2 (.bool false)
 have gd:=Cy (p:=⟨f,2,none⟩) (u:=.bool false) hd hne
 have d1:=Ad gd 1
 have d0:=Ad g1 0
 have e1:=Av gd 1
 have k1:=A0 gd 1 (.int .i64 (used - n))
 have k2:=Cy (p:=⟨d,1,none⟩) (u:=.int .i64 (used - n)) g1 (fun e=>hne e.symm)
 have hc : Chg (fun k=>k=d∨k=f) w ((w.setCell ⟨f,2,none⟩ (.bool false)).setCell ⟨d,1,none⟩ (.int .i64 (used - n))):=
  ((Chg.refl _ w).setCell (p:=⟨f,2,none⟩) (Or.inl (Or.inr rfl)) _).setCell (p:=⟨d,1,none⟩) (Or.inl (Or.inl rfl)) _
 have HK1:=Ab k1
 have HK2:=Ab k2
 have HC:=Ab hc.drew
 have hsz : ((w.setCell ⟨f,2,none⟩ (.bool false)).setCell ⟨d,1,none⟩ (.int .i64 (used - n))).heap.size=w.heap.size:=by simp [World.setCell]
 have HS:=Ab hsz
 have fr:=Av hf 0
 have cf:=Ad hf 2
 clear k1 k2 hc hsz
 go_enter Tryz.func146,Tryz.ntmps146
 go_wp2_with fail
 go_region
 go_wp2
 go_end0
 exact ⟨rfl,HK1.out,HK2.out,HC.out,HS.out⟩
set_option maxRecDepth 20000 in
theorem O8 (w : World) (d bn n g : Nat) (caps : Array Value) (l l' : List (Value × Value)) (r u s lv o c1 c2 fl : Value) (xs : List Value)
  (hd : w.heap[d]? = some (.cells #[r,u, .map (some bn),s,lv,o,c1,c2,fl] 89)) (hm : Ak w bn l) (hrow : w.ownsRow 0 111 2 lv n xs) (hn : n<1099511627776)
  (eg : ∀ args w,(callFunc g args).run Tryz.prog w = .ok (.enter g args) w)
  (hcall : ∀ W,Chg (fun _=>False) w W→Calls Tryz.prog g (#[.map (some bn)]++caps) W fun e w'=>e = .returned (.tuple #[])∧Ak w' bn l'∧Chg (· = bn) W w') :
  Calls Tryz.prog 147 #[.pointer (some ⟨d,0,none⟩), .func (.func g) #[] caps] w fun e w'=>e = .returned (.tuple #[])∧∃ c lv',
   w'.heap[d]? = some (.cells #[r,u, .map (some bn),s,lv',o,c1,c2,fl] 89)∧Ak w' bn l' ∧
   w'.ownsRow 0 111 2 lv' (n+1) (xs ++ [.pointer none, .func (.func 161) #[] #[.pointer (some ⟨c,0,none⟩)]]) ∧
   w.heap.size≤c∧w'.heap[c]? = some (.cells #[.func (.func g) #[] caps] 219) ∧
   (lv'.ownBlock=lv.ownBlock ∨ ∃ q,lv'.ownBlock=some q∧w.heap.size≤q)∧Chg (fun k=>k=d∨k=bn∨some k=lv.ownBlock) w w':=by
 have hmf : ∀ (fn : Fn) (first cap : Array Value) (w : World),(Instr.makeFunc fn first cap).run Tryz.prog w = .ok (.func fn first cap) w:=fun _ _ _ _=>rfl
 obtain ⟨i0,hi,hz0,hz1,hz2⟩:=info_parts Tryz.info104
 have hca : Chg (fun _=>False) w (w.alloc (.cells #[.func (.func g) #[] caps] 219)).drew:=((Chg.refl _ w).alloc _).drew
 have hd0:=hca.keep hd (fun h=>h)
 have hq0 : (w.alloc (.cells #[.func (.func g) #[] caps] 219)).drew.heap[w.heap.size]? = some (.cells #[.func (.func g) #[] caps] 219):=Au w _
 have x2:=Ad hd0 2
 have x0:=Ad hq0 0
 have hcl:=hcall _ hca
 have hdb : d≠bn:=hm.ne hd
 have hcb : w.heap.size≠bn:=Nat.ne_of_gt hm.lt
 have hlvb : ∀ k,lv.ownBlock=some k→k≠bn∧k≠d:=by
  intro k hk
  rcases hrow.2 with ⟨rfl,_⟩ | ⟨q,cap,cur,rfl,_,hb,_⟩
  ·cases hk
  ·injection hk with hk
   subst hk
   exact ⟨hm.ne hb,Gg hb hd (by intro e; injection e with e1 e2; exact absurd e2 (by decide))⟩
 have hrow0 : (w.alloc (.cells #[.func (.func g) #[] caps] 219)).drew.ownsRow 0 111 2 lv n xs:=hrow.alloc _
 have HHM:=Ab hm
 have HLV:=Ab hlvb
 have HROW:=Ab hrow0
 have HROWW:=Ab hrow
 have HCA:=Ab hca
 have HD:=Ab hd
 clear hcall hm hrow hlvb hrow0 hca hd
 go_enter Tryz.func147,Tryz.ntmps147
 go_wp2_with fail
 refine wp_region_held_drew (S:=fun W=>W.cell? ⟨w.heap.size,0,none⟩=some (.func (.func g) #[] caps)∧W.cell? ⟨d,2,none⟩=some (.map (some bn))) (by kernel_rfl) (⟨x0,x2⟩) (fun hHeld=>?_)
 refine Aa 0 hHeld ?_
 refine Aa 1 hHeld ?_
 refine Aa 2 hHeld ?_
 refine Aa 3 hHeld ?_
 refine Aa 4 hHeld ?_
 refine Al (i:=5) rfl (by kernel_rfl) rfl (fun K hK=>?_)
 go_simp
 refine hcl.mono ?_
 rintro e w1 ⟨rfl,hm1,hc1⟩
 have hd1:=hc1.keep hd0 hdb
 have hq1:=hc1.keep hq0 hcb
 have y0:=Ad hq1 0
 have y2:=Ad hd1 2
 refine hK.out _ _ (⟨y0,y2⟩) (fun hHeld=>?_)
 clear hK K
 try simp only [Act.put,List.setIfInBounds_toArray,List.set_cons_zero,List.set_cons_succ]
 refine wpAnyH_done (by kernel_rfl) ?_ _
 clear hHeld
 have hrow1 : w1.ownsRow 0 111 2 lv n xs:=A3 HROW.out hc1 fun k hk=>(HLV.out k hk).1
 have y4:=Ad hd1 4
 have hnews : ∀ j u,[Value.pointer none, .func (.func 161) #[] #[.pointer (some ⟨w.heap.size,0,none⟩)]][j]? = some u →
   (w1.alloc (.cells #[.pointer none, .func (.func 161) #[] #[.pointer (some ⟨w.heap.size,0,none⟩)]] 111)).cell? ((⟨w1.heap.size,0,none⟩ : Addr).add j)=some u:=by
  intro j u hu
  rw [Addr.add_lit,Nat.zero_add,Ad (Au w1 _),List.getElem?_toArray]
  exact hu
 have HNE:=Ab hnews
 have hrow2:=hrow1.alloc (.cells #[.pointer none, .func (.func 161) #[] #[.pointer (some ⟨w.heap.size,0,none⟩)]] 111)
 clear hnews hcl x0 x2 y0 y2 hrow1
 have hone : ∀ x ∈ [Value.pointer none, .func (.func 161) #[] #[.pointer (some ⟨w.heap.size,0,none⟩)]],x.oneCell'=true:=by
  intro x hx
  simp only [List.mem_cons,List.not_mem_nil,or_false] at hx
  rcases hx with rfl | rfl <;> rfl
 have HON:=Ab hone
 clear hone
 have hd2:=Bh (.cells #[.pointer none, .func (.func 161) #[] #[.pointer (some ⟨w.heap.size,0,none⟩)]] 111) hd1
 have hlt2 : d<(w1.alloc (.cells #[.pointer none, .func (.func 161) #[] #[.pointer (some ⟨w.heap.size,0,none⟩)]] 111)).heap.size:=At hd2
 have hq2:=Bh (.cells #[.pointer none, .func (.func 161) #[] #[.pointer (some ⟨w.heap.size,0,none⟩)]] 111) hq1
 go_wp2_with (at_builtin; refine wpList_append_own_at _ rfl (.tmp 14) (.tmp 17) 86 rfl 0 111 i0 (.agg #[.pointer none, .nilFunc]) 2 16 Tryz.underlying86 hi hz0 hz1 hz2 rfl (by decide) lv n xs rfl hrow2 ⟨w1.heap.size,0,none⟩ 1 1 [Value.pointer none, .func (.func 161) #[] #[.pointer (some ⟨w.heap.size,0,none⟩)]] rfl rfl HNE.out HON.out (by unfold maxLen; omega) (by omega) (Nat.zero_le _) ?_; intro lv' w3 hrow3 hgrow hnil hloc; obtain ⟨la,lc,rfl⟩:=Do hrow3; have hd3:=(hgrow.block d hlt2 (fun e=>(HLV.out d e.symm).2 rfl)).trans hd2; have z4:=Av hd3 4; have z5:=Ad hd3 4)
 go_end0
 have hg3:=Chg.of_grown hgrow
 have hc1' : Chg (fun k=>k=d∨k=bn∨some k=lv.ownBlock) w w1:=(HCA.out.mono fun _ _ f=>f.elim).then (hc1.mono fun k _ e=>Or.inr (Or.inl e))
 have hc3 : Chg (fun k=>k=d∨k=bn∨some k=lv.ownBlock) w w3:=(hc1'.alloc _).then (hg3.mono fun k _ e=>Or.inr (Or.inr e))
 have hlq : ∀ k,some k=lv.ownBlock→k<w.heap.size:=fun k hk=>by
  have:=(HROWW.out.lt k hk.symm).2
  exact this
 have hm3 : Ak w3 bn l':=(hm1.keep ((Chg.refl (fun _=>False) w1).alloc _) (fun h=>h)).keep hg3 (fun e=>(HLV.out bn e.symm).1 rfl)
 refine ⟨rfl,w.heap.size, .slice la (n+1) lc,A0 hd3 4 _,hm3.keep (F:=(· = d)) (Cb w3 d 4 _) (fun e=>hdb e.symm),?_,Nat.le_refl _,?_,?_,hc3.setCell (p:=⟨d,4,none⟩) (Or.inl (Or.inl rfl)) _⟩
 ·refine A3 hrow3 (Cb w3 d 4 _) (fun k hk e=>?_)
  obtain ⟨cur,hcur⟩:=A2 hrow3 hk
  exact Gg hcur hd3 (by intro e; injection e with e1 e2; exact absurd e2 (by decide)) e
 ·refine Cy ?_ (fun e=>absurd (At HD.out) (by simp at e; omega))
  exact hg3.keep hq2 (fun e=>Nat.lt_irrefl _ (hlq _ e))
 ·rcases hloc with h | h
  ·exact Or.inl h
  ·refine Or.inr ⟨_,h,?_⟩
   have:=hc1'.size
   simp
   omega
end Go.Proofs.YtblniomnhpedjaaGreatDoor
