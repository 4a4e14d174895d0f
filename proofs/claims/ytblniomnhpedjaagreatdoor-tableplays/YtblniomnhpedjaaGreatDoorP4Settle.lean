/-
  What taking acts from the loose ones does: settle, slices.DeleteFunc, slices.IndexFunc. Conditions: what lies there is told by hypotheses.
-/
import Derived.Test.YtblniomnhpedjaaGreatDoorP3Made
import Derived.Laws.EntriesVeiled
namespace Go.Proofs.YtblniomnhpedjaaGreatDoor
open Go.RowKit
def PV (w : World) (v : Value) : Prop:=v = .pointer none ∨ ∃ b c t,v = .pointer (some ⟨b,0,none⟩)∧w.heap[b]? = some (.cells c t (0,0))
theorem PV.shape {w : World} {v : Value} (h : PV w v) : ∃ p,v = .pointer p:=by
 rcases h with h | ⟨b,c,t,h1,h2⟩
 ·exact ⟨_,h⟩
 ·exact ⟨_,h1⟩
theorem PV.keep {F : Nat→Prop} {w w' : World} {v : Value} (h : PV w v) (hc : Chg F w w') (hF : ∀ b,v = .pointer (some ⟨b,0,none⟩)→¬ F b) : PV w' v:=by
 rcases h with h | ⟨b,c,t,h1,h2⟩
 ·exact Or.inl h
 ·exact Or.inr ⟨b,c,t,h1,hc.keep h2 (hF b h1)⟩
def D7 : Value→Value→Bool
 | .pointer none, .pointer none=>true
 | .pointer (some a), .pointer (some b)=>a.block == b.block
 | _,_=>false
theorem Qc (w : World) (a b : Value) (ha : PV w a) (hb : PV w b) : (Op.equal 108 a b).run Tryz.prog w = .ok (D7 a b) w:=by
 rcases ha with rfl | ⟨x,c,t,rfl,hx⟩ <;> rcases hb with rfl | ⟨y,c',t',rfl,hy⟩
 ·show (Op.equalIn (9999+1) 108 _ _).run Tryz.prog w=_
  unfold Op.equalIn
  simp [run_underlying Tryz.underlying108,D7,Result.andThen]
 ·show (Op.equalIn (9999+1) 108 _ _).run Tryz.prog w=_
  unfold Op.equalIn
  simp [run_underlying Tryz.underlying108,D7,Result.andThen]
 ·show (Op.equalIn (9999+1) 108 _ _).run Tryz.prog w=_
  unfold Op.equalIn
  simp [run_underlying Tryz.underlying108,D7,Result.andThen]
 ·rw [Oc (n:=2) Tryz.underlying108 (size95 w) hx hy]
  congr 1
theorem eqP (w : World) {a b : Value} (ha : PV w a) (hb : PV w b) : (binOp .eql 108 a b).run Tryz.prog w = .ok (.bool (D7 a b)) w:=by
 have h:=Qc w a b ha hb
 rcases ha with rfl | ⟨x,c,t,rfl,hx⟩ <;> rcases hb with rfl | ⟨y,c',t',rfl,hy⟩ <;>
  simp only [binOp,Sem.run_bind,h,Result.andThen,Sem.run_pure]
def vc (vs : List (Value × Value)) : List Value:=vs.flatMap fun p=>[p.1,p.2]
theorem Jh (vs : List (Value × Value)) : (vc vs).length=vs.length * 2:=by
 induction vs with
 | nil=>rfl
 | cons p r ih=>simp [vc] at ih ⊢; omega
theorem Kr (a b : List (Value × Value)) : vc (a++b)=vc a++vc b:=by simp [vc]
theorem Dp {vs : List (Value × Value)} {k : Nat} {p : Value × Value} (h : vs[k]? = some p) : (vc vs)[k * 2]? = some p.1∧(vc vs)[k * 2+1]? = some p.2:=by
 induction vs generalizing k with
 | nil=>simp at h
 | cons q r ih=>
  have e : vc (q :: r)=q.1 :: q.2 :: vc r:=rfl
  rw [e]
  cases k with
  | zero=>
   simp at h
   subst h
   exact ⟨rfl,rfl⟩
  | succ k=>
   have:=ih (k:=k) (by simpa using h)
   rw [show (k+1) * 2=k * 2+1+1 by omega,show k * 2+1+1+1=(k * 2+1)+1+1 by omega]
   simpa using this
set_option maxRecDepth 20000 in
theorem Oo (w : World) (c : Nat) (o v of : Value) (ho : PV w o) (hof : PV w of) (h : w.heap[c]? = some (.cells #[of] 108)) :
  Calls Tryz.prog 166 #[.agg #[o,v], .pointer (some ⟨c,0,none⟩)] w fun e w'=>e = .returned (.bool (D7 o of))∧Chg (fun _=>False) w w':=by
 have hc : Chg (fun _=>False) w (w.alloc (.cells #[o,v] 111)):=(Chg.refl _ w).alloc _
 have h':=hc.keep h (fun h=>h)
 have z:=Ad h' 0
 have he:=eqP _ (ho.keep hc (fun _ _ h=>h)) (hof.keep hc (fun _ _ h=>h))
 generalize D7 o of=r at he ⊢
 clear h h'
 rcases ho with rfl | ⟨x,c,t,rfl,hx⟩ <;> rcases hof with rfl | ⟨y,c',t',rfl,hy⟩
 all_goals
  go_enter Tryz.func166,Tryz.ntmps166
  go_wp2
  go_ret
  exact ⟨rfl,hc⟩
set_option maxRecDepth 20000 in
set_option maxHeartbeats 400000 in
theorem Qg (w : World) (c n : Nat) (lv of : Value) (vs : List (Value × Value)) (hn : vs.length=n) (hrow : w.ownsRow 0 111 2 lv n (vc vs)) (hp : ∀ p∈vs,PV w p.1) (hof : PV w of) (h : w.heap[c]? = some (.cells #[of] 108)) (hb : n<1099511627776) :
  Calls Tryz.prog 168 #[lv, .func (.func 166) #[] #[.pointer (some ⟨c,0,none⟩)]] w fun e w'=>Chg (fun _=>False) w w'∧∃ r : Int,e = .returned (.int .i64 r) ∧
   ((∃ (i : Nat) (p : Value × Value),r=(i : Int)∧vs[i]? = some p∧D7 p.1 of=true∧∀ (j : Nat) q,j<i→vs[j]? = some q→D7 q.1 of=false) ∨
    (r = -1∧∀ p∈vs,D7 p.1 of=false)):=by
 obtain ⟨a,cap,rfl⟩:=Do hrow
 go_enter Tryz.func168,Tryz.ntmps168
 go_wp2_with fail
 go_loopw [8] (fun x wr=>∃ k : Nat,k≤n∧x = .int .i64 (k : Int)∧Chg (fun _=>False) w wr∧∀ j q,j<k→vs[j]? = some q→D7 q.1 of=false) (fun x _=>n - (intOf x).toNat)
 case atStart=>exact ⟨0,Nat.zero_le _,rfl,Chg.refl _ _,fun j q hj=>absurd hj (Nat.not_lt_zero j)⟩
 case round=>
  obtain ⟨k,hk,rfl,hc,hall⟩:=hrel
  by_cases hlt : k<n
  ·obtain ⟨p,hpk⟩ : ∃ p,vs[k]? = some p:=⟨_,List.getElem?_eq_getElem (by omega)⟩
   obtain ⟨o,v⟩:=p
   have hpm:=List.mem_of_getElem? hpk
   have hrr:=A3 hrow hc (fun _ _ h=>h)
   obtain ⟨g,hg⟩ : ∃ g,a=some ⟨g,0,none⟩:=by
    rcases hrr.2 with ⟨e1,e2⟩ | ⟨g,cap,cur,e1,_⟩
    ·omega
    ·injection e1 with e1
     exact ⟨g,e1⟩
   subst hg
   have x0:=hrr.cellAt (k * 2) (by omega)
   have x1:=hrr.cellAt (k * 2+1) (by omega)
   rw [(Dp hpk).1] at x0
   rw [(Dp hpk).2] at x1
   have hcall:=Oo wr c o v of ((hp _ hpm).keep hc (fun _ _ h=>h)) (hof.keep hc (fun _ _ h=>h)) (hc.keep h (fun h=>h))
   have HA:=Ab hall
   have HC:=Ab hc
   have HP:=Ab hpk
   have HPM:=Ab hp
   clear hall hrr hp hc
   go_wp2_with (go_at_call 166; refine hcall.mono ?_; rintro e w1 ⟨rfl,hc1⟩)
   ·go_ret
    exact ⟨HC.out.then hc1,_,rfl,Or.inl ⟨k,(o,v),rfl,HP.out,by assumption,HA.out⟩⟩
   ·go_roundw
    case rel=>
     refine ⟨k+1,by omega,by go_num,HC.out.then hc1,fun j q hj hq=>?_⟩
     by_cases e : j=k
     ·subst e
      rw [HP.out] at hq
      injection hq with hq
      subst hq
      simp_all
     ·exact HA.out j q (by omega) hq
    case measure=>simp [intOf]; omega
  ·have hkn : k=n:=by omega
   have HA:=Ab hall
   clear hall hp
   go_wp2
   go_ret
   refine ⟨hc,_,rfl,Or.inr ⟨rfl,fun p hp=>?_⟩⟩
   obtain ⟨j,hj,rfl⟩:=List.getElem_of_mem hp
   exact HA.out j _ (by omega) (List.getElem?_eq_getElem hj)
theorem vc_set (cs : List (Value × Value)) (sp : List Value) (i : Nat) (p : Value × Value) (h : i<cs.length) :
  ((vc cs++sp).set (i * 2) p.1).set (i * 2+1) p.2=vc (cs.set i p)++sp:=by
 induction cs generalizing i with
 | nil=>simp at h
 | cons q r ih=>
  have e : vc (q :: r)=q.1 :: q.2 :: vc r:=rfl
  cases i with
  | zero=>simp [vc]
  | succ i=>
   have:=ih i (by simpa using h)
   rw [show (i+1) * 2=i * 2+1+1 by omega,show i * 2+1+1+1=(i * 2+1)+1+1 by omega,e,List.set_cons_succ]
   simp only [List.cons_append,List.set_cons_succ]
   rw [this]
   rfl
theorem vc_take (cs : List (Value × Value)) (i : Nat) : (vc cs).take (i * 2)=vc (cs.take i):=by
 induction cs generalizing i with
 | nil=>simp [vc]
 | cons q r ih=>
  have e : vc (q :: r)=q.1 :: q.2 :: vc r:=rfl
  cases i with
  | zero=>simp [vc]
  | succ i=>
   rw [show (i+1) * 2=i * 2+1+1 by omega,e,List.take_succ_cons,List.take_succ_cons,ih]
   rfl
theorem size_zeros (n : Nat) : (Builtin.zeroCells (Value.agg #[.pointer none, .nilFunc]).cells n).size=n * 2:=by rw [size_zeroCells]; rfl
theorem zeros_one (n : Nat) : ∀ u∈(Builtin.zeroCells (Value.agg #[.pointer none, .nilFunc]).cells n).toList,u.oneCell'=true:=by
 intro u hu
 simp only [Builtin.zeroCells,Array.toList_map,List.mem_map] at hu
 obtain ⟨k,_,rfl⟩:=hu
 show (#[Value.pointer none, .nilFunc][k % 2]!).oneCell'=true
 rcases (show k % 2=0∨k % 2=1 by omega) with h | h <;> rw [h] <;> rfl
theorem clear_acts (w : World) (g i n cap : Nat) (cs : List Value) (hg : w.heap[g]? = some (.cells cs.toArray 111 (0,0))) (hn : 0<n) (hfit : i * 2+n * 2≤cs.length) (ty : TypeId) :
  ∃ cs' : List Value,cs'.length=cs.length∧cs'.take (i * 2)=cs.take (i * 2) ∧
   (Builtin.clear_ #[86] ty #[.slice (some ⟨g,i * 2,none⟩) n cap]).run Tryz.prog w = .ok (.tuple #[]) (w.setRow g cs'.toArray):=by
 have hz : (zeroValue 111).run Tryz.prog w = .ok (.agg #[.pointer none, .nilFunc]) w:=by kernel_rfl
 obtain ⟨Z,hZ⟩ : ∃ Z,Z=Builtin.zeroCells (Value.agg #[.pointer none, .nilFunc]).cells n:=⟨_,rfl⟩
 have hZs : Z.toList.length=n * 2:=by rw [hZ,Array.length_toList,size_zeros]
 have hst:=run_storeCells_at Tryz.prog g (i * 2) 111 Z.toList 0 cs.toArray w hg (by rw [hZs]; simp; omega) (hZ ▸ zeros_one n)
 rw [Nat.add_zero] at hst
 have hcl : (Builtin.clear_ #[86] ty #[.slice (some ⟨g,i * 2,none⟩) n cap]).run Tryz.prog w = .ok (.tuple #[]) (w.setRow g (cs.take (i * 2)++Z.toList++cs.drop (i * 2+Z.toList.length)).toArray):=by
  obtain ⟨m,rfl⟩ : ∃ m,n=m+1:=⟨n - 1,by omega⟩
  simp [Builtin.clear_,run_underlying Tryz.underlying86,hz,← hZ,hst,Result.andThen]
 refine ⟨_,?_,?_,hcl⟩
 ·simp only [List.length_append,List.length_take,List.length_drop]
  omega
 ·rw [List.append_assoc,List.take_append_of_le_length (by rw [List.length_take]; omega),List.take_take,Nat.min_self]
theorem K8 {α : Type} {l : List α} {j : Nat} {x : α} (q : α→Bool) (h : l[j]? = some x) : (l.take (j+1)).filter q=(l.take j).filter q++(if q x then [x] else []):=by
 rw [List.take_add_one,h,List.filter_append]
 simp [List.filter_cons]
set_option maxRecDepth 20000 in
set_option maxHeartbeats 800000 in
theorem Qt (w : World) (c n : Nat) (lv of : Value) (vs : List (Value × Value)) (hn : vs.length=n) (hrow : w.ownsRow 0 111 2 lv n (vc vs)) (hp : ∀ p∈vs,PV w p.1) (hof : PV w of) (h : w.heap[c]? = some (.cells #[of] 108)) (hb : n<1099511627776)
  (hpn : ∀ p∈vs,∀ b,p.1 = .pointer (some ⟨b,0,none⟩)→lv.ownBlock≠some b) (hofn : ∀ b,of = .pointer (some ⟨b,0,none⟩)→lv.ownBlock≠some b)
  (hfn : ∀ p∈vs,∃ fn fs cs,p.2 = .func fn fs cs) :
  Calls Tryz.prog 165 #[lv, .func (.func 166) #[] #[.pointer (some ⟨c,0,none⟩)]] w fun e w'=>∃ lv',e = .returned lv'∧lv'.ownBlock=lv.ownBlock ∧
   w'.ownsRow 0 111 2 lv' (vs.filter fun p=>!D7 p.1 of).length (vc (vs.filter fun p=>!D7 p.1 of))∧Chg (fun k=>some k=lv.ownBlock) w w':=by
 obtain ⟨a,cap,rfl⟩:=Do hrow
 have hidx:=Qg w c n _ of vs hn hrow hp hof h hb
 go_enter Tryz.func165,Tryz.ntmps165
 have hil : ∀ i p,vs[i]? = some p→i<n:=fun i p h=>hn ▸ (List.getElem?_eq_some_iff.1 h).1
 go_wp2_with (go_at_call 168; refine hidx.mono ?_; rintro e w1 ⟨hc1,r,rfl,⟨i,p,rfl,hi,hpi,hall⟩ | ⟨rfl,hall⟩⟩; (try have hin:=hil i p hi))
 ·obtain ⟨g,cur,hg,hcur,hcn,hcm,hcs,htk⟩ : ∃ g cur,a=some ⟨g,0,none⟩∧w.heap[g]? = some (.cells cur 111 (0,0))∧n≤cap∧cap≤maxLen∧cur.size=cap * 2∧cur.toList.take (n * 2)=vc vs:=by
   rcases hrow.2 with ⟨e1,e2⟩ | ⟨g,cap',cur,e1,_,e2,e3,e4,e5,e6⟩
   ·omega
   ·injection e1 with e1 e7 e8
    subst e8
    exact ⟨g,cur,e1,e2,e3,e4,e5,e6⟩
  subst hg
  have hft : (vs.take (i+1)).filter (fun p=>!D7 p.1 of)=vs.take i:=by
   rw [K8 _ hi,hpi]
   simp only [Bool.not_true,Bool.false_eq_true,if_false,List.append_nil]
   refine List.filter_eq_self.2 fun q hq=>?_
   obtain ⟨j,hj,e⟩:=List.getElem_of_mem hq
   rw [List.getElem_take] at e
   have hj' : j<i:=by simp at hj; omega
   rw [hall j q hj' (by rw [← e,List.getElem?_eq_getElem])]
   rfl
  have hcur1:=hc1.keep hcur (fun h=>h)
  have hcg : c≠g:=Ax h hcur (by simp [tag])
  have HALL:=Ab hall
  have HFT:=Ab hft
  have HROW:=Ab hrow
  have HIDX:=Ab hidx
  clear hall hft hidx
  go_loopw [5,6] (fun x y wr=>∃ (i j : Nat) (cs : List (Value × Value)) (sp : List Value),x = .int .i64 (i : Int)∧y = .int .i64 (j : Int)∧i<j∧j≤n∧wr.heap[g]? = some (.cells (vc cs++sp).toArray 111 (0,0))∧(vc cs++sp).length=cap * 2∧cs.length=n ∧
    cs.take i=(vs.take j).filter (fun p=>!D7 p.1 of)∧cs.drop j=vs.drop j∧Chg (· = g) w wr) (fun _ y _=>n - (intOf y).toNat)
  case atStart=>
   refine ⟨i,i+1,vs,cur.toList.drop (n * 2),rfl,by go_num,by omega,by omega,?_,?_,hn,HFT.out.symm,rfl,hc1.mono fun _ _ f=>f.elim⟩
   ·rw [← htk,List.take_append_drop]
    exact hcur1
   ·rw [← htk,List.take_append_drop,Array.length_toList,hcs]
  case round=>
   obtain ⟨i,j,cs,sp,rfl,rfl,hij,hjn,hrg,hln,hcl,hct,hcd,hcw⟩:=hrel
   by_cases hlt : j<n
   ·obtain ⟨p,hvj⟩ : ∃ p,vs[j]? = some p:=⟨_,List.getElem?_eq_getElem (by omega)⟩
    have hcj : cs[j]? = some p:=by
     have e:=congrArg (fun l=>l[0]?) hcd
     simpa [hvj] using e
    obtain ⟨q,hci⟩ : ∃ q,cs[i]? = some q:=⟨_,List.getElem?_eq_getElem (by omega)⟩
    obtain ⟨o,v⟩:=p
    have hvm:=List.mem_of_getElem? hvj
    have hvl:=Jh cs
    obtain ⟨po,hpo⟩:=(hp _ hvm).shape
    obtain ⟨fn,fs,fc,hfv⟩:=hfn _ hvm
    simp only at hpo hfv
    subst hpo hfv
    have get : ∀ k x,(vc cs)[k]? = some x→wr.cell? ⟨g,k,none⟩=some x:=fun k x hx=>by
     rw [Ad hrg,List.getElem?_toArray,List.getElem?_append_left ((List.getElem?_eq_some_iff.1 hx).1),hx]
    have x0:=get _ _ (Dp hcj).1
    have x1:=get _ _ (Dp hcj).2
    have hA : Chg (fun _=>False) wr (wr.alloc (.cells #[.pointer po, .func fn fs fc] 111)):=(Chg.refl _ _).alloc _
    have hcall:=Oo (wr.alloc (.cells #[.pointer po, .func fn fs fc] 111)) c (.pointer po) (.func fn fs fc) of (((hp _ hvm).keep hcw (fun b hb e=>hpn _ hvm b hb (by rw [e]; rfl))).keep hA (fun _ _ h=>h)) ((hof.keep hcw (fun b hb e=>hofn b hb (by rw [e]; rfl))).keep hA (fun _ _ h=>h)) (hA.keep (hcw.keep h hcg) (fun h=>h))
    have hnv:=Au wr (.cells #[.pointer po, .func fn fs fc] 111)
    have hgn : g≠wr.heap.size:=Nat.ne_of_lt (At hrg)
    have HCT:=Ab hct
    have HCD:=Ab hcd
    have HCW:=Ab hcw
    have HRG:=Ab hrg
    have HVJ:=Ab hvj
    have HLN:=Ab hln
    have HHP:=Ab hp
    have HPN:=Ab hpn
    have HCI:=Ab hci
    clear hct hcd hcw hvj hcj hp hpn get hln hci
    go_wp2_with (go_at_call 166; refine hcall.mono ?_; rintro e w2 ⟨rfl,hc2⟩; have hn2:=hc2.keep hnv (fun h=>h); have hg2:=hc2.keep (hA.keep HRG.out (fun h=>h)) (fun h=>h); have y0:=Ad hn2 0; have y1:=Ad hn2 1; have z0:=Av hg2 (i * 2); have z1:=Av hg2 (i * 2+1); have u0 : w2.cell? ⟨g,i * 2,none⟩=some q.1:=(by rw [Ad hg2,List.getElem?_toArray,List.getElem?_append_left (by omega)]; exact (Dp HCI.out).1); have u1 : w2.cell? ⟨g,i * 2+1,none⟩=some q.2:=(by rw [Ad hg2,List.getElem?_toArray,List.getElem?_append_left (by omega)]; exact (Dp HCI.out).2))
    ·rename_i hkeep
     refine ⟨⟨_,_,_,_,_,_,_,_,_,_,_,_,_,_,_,_,_,_,_,_,_,_,_,?rel,rfl⟩,?measure⟩
     case rel=>
      have hci2 : Chg (· = g) w w2:=(HCW.out.then (hA.mono fun _ _ f=>f.elim)).then (hc2.mono fun _ _ f=>f.elim)
      refine ⟨i+1,j+1,cs.set i (.pointer po, .func fn fs fc),sp,by go_num,by go_num,by omega,by omega,?_,?_,by rw [List.length_set]; exact hcl,?_,?_,(hci2.setCell (p:=⟨g,i * 2,none⟩) (Or.inl rfl) _).setCell (p:=⟨g,i * 2+1,none⟩) (Or.inl rfl) _⟩
      ·have e1:=A0 (A0 hg2 (i * 2) (.pointer po)) (i * 2+1) (.func fn fs fc)
       rw [List.setIfInBounds_toArray,List.setIfInBounds_toArray,vc_set cs sp i (.pointer po, .func fn fs fc) (by omega)] at e1
       exact e1
      ·rw [← HLN.out]
       simp [Jh]
      ·rw [K8 _ HVJ.out,← HCT.out]
       simp only [hkeep,if_true]
       rw [List.take_add_one,List.take_set_of_le (Nat.le_refl i),List.getElem?_set_self (by omega)]
       rfl
      ·rw [List.drop_set_of_lt (by omega)]
       have:=congrArg (List.drop 1) HCD.out
       rwa [List.drop_drop,List.drop_drop] at this
     case measure=>simp [intOf]; omega
    ·rename_i hkeep
     refine ⟨⟨_,_,_,_,_,_,_,_,_,_,_,_,_,_,_,_,_,_,_,_,_,_,_,?rel,rfl⟩,?measure⟩
     case rel=>
      have hci2 : Chg (· = g) w w2:=(HCW.out.then (hA.mono fun _ _ f=>f.elim)).then (hc2.mono fun _ _ f=>f.elim)
      refine ⟨i,j+1,cs,sp,rfl,by go_num,by omega,by omega,hg2,HLN.out,hcl,?_,?_,hci2⟩
      ·rw [K8 _ HVJ.out,← HCT.out]
       simp only [hkeep,Bool.false_eq_true,if_false,List.append_nil]
      ·have:=congrArg (List.drop 1) HCD.out
       rwa [List.drop_drop,List.drop_drop] at this
     case measure=>simp [intOf]; omega
   ·have hjn' : j=n:=by omega
    subst hjn'
    rw [show vs.take j=vs from List.take_of_length_le (Nat.le_of_eq hn)] at hct
    have hlen : (vs.filter fun p=>!D7 p.1 of).length=i:=by
     rw [← hct,List.length_take]
     omega
    obtain ⟨cs',hl',ht',hrun⟩:=clear_acts wr g i (j - i) (cap - i) (vc cs++sp) hrg (by omega) (by rw [hln]; omega) 0
    have hrow':=setRow_heap wr g _ cs'.toArray 111 (0,0) hrg
    have HRW:=Ab hrow'
    have HCG : Hid (Chg (· = g) w (wr.setRow g cs'.toArray)):=hcw.then ⟨rfl,rfl,rfl,by simp [World.setRow],fun k _ hk=>setRow_other wr g k _ hk⟩
    have HT:=Ab ht'
    have HL':=Ab hl'
    have HCT:=Ab hct
    have HLE:=Ab hlen
    have HLN:=Ab hln
    have HPN:=Ab hpn
    clear hrow' ht' hl' hct hlen hcd hcw hp hpn hln
    go_wp2
    go_ret
    refine ⟨_,rfl,rfl,?_,HCG.out.mono fun k _ e=>by rw [e]; rfl⟩
    rw [HLE.out]
    refine ⟨by rw [Jh,HLE.out],Or.inr ⟨g,cap,cs'.toArray,rfl,Nat.zero_le _,HRW.out,by omega,hcm,?_,?_⟩⟩
    ·rw [List.size_toArray,HL'.out,HLN.out]
    ·rw [List.toList_toArray,HT.out,List.take_append_of_le_length (by rw [Jh]; omega),vc_take,HCT.out]
 ·go_ret
  have hf : (vs.filter fun p=>!D7 p.1 of)=vs:=List.filter_eq_self.2 fun q hq=>by rw [hall q hq]; rfl
  rw [hf,hn]
  exact ⟨_,rfl,rfl,A3 hrow hc1 (fun _ _ h=>h),hc1.mono fun _ _ f=>f.elim⟩
end Go.Proofs.YtblniomnhpedjaaGreatDoor
