/-
  Texts joined: ASeq, AFew, ACollect, APath, YRead, YLay, YAway, YPure.
-/
import Derived.Test.YtckejblkppllaaaGreatDoorT38PRange
import Derived.Deep.Onto
import Derived.Test.YtckejblkppllaaaGreatDoorT35APlain
namespace Go.Proofs.YtckejblkppllaaaGreatDoor.Pa
open Go.RowKit
attribute [local go_sem] Oper.semAt_some
def seqLeft : Value→Value→Nat
 | .string s, .bool true=>s.size+1
 | _,_=>0
set_option maxRecDepth 100000 in
set_option maxHeartbeats 1000000 in
theorem Ml (l : List UInt8) (hl : l.length≤4611686018427387904) (w : World) : Gives Tryz.prog 97 #[.string (Ab l)] #[] ((Pt.parts l).map Ab) w:=by
 intro L J Jx W hW hdr h0 hY
 have hll:=toL l
 refine callsIn_of_wp Tryz.func97 rfl trivial ?_ rfl
 simp only [Tryz.ntmps97,List.size_toArray,List.length_cons,List.length_nil,Nat.reduceAdd,Nat.reduceSub,Array.replicate_succ,Array.replicate_zero,List.push_toArray,List.append_toArray,List.nil_append,List.cons_append]
 gi_wp2
 gi_loopw [4,5,6] (fun rest more part wr=>∃ (k : Nat) (r : List UInt8),rest = .string (Ab r)∧r.length≤l.length∧k≤(Pt.parts l).length∧J k wr ∧
   ((more = .bool true∧(Pt.parts l).drop k=Pt.cut r)∨(more = .bool false∧k=(Pt.parts l).length)))
  (fun rest more _ _=>seqLeft rest more)
 case atStart=>
  by_cases he : l = []
  ·subst he
   exact ⟨0,[],rfl,by simp,by simp,h0, .inr ⟨by simp,rfl⟩⟩
  ·refine ⟨0,l,rfl,Nat.le_refl _,by simp,h0, .inl ⟨by simp [he],?_⟩⟩
   simp [Pt.parts,he]
 case round=>
  obtain ⟨k,r,rfl,hr,hk,hJ,⟨rfl,hd⟩ | ⟨rfl,rfl⟩⟩:=hrel
  ·rcases Pt.first_slash r with hn | ⟨p,r',rfl,hp⟩
   ·rw [Pt.cut_no hn] at hd
    have hlt : k<(Pt.parts l).length:=by
     have:=congrArg List.length hd
     simp at this
     omega
    have hx : ((Pt.parts l).map Ab)[k]'(by simpa using hlt)=Ab r:=by
     have:=congrArg (·[0]?) hd
     simp [hlt] at this
     simp [this]
    obtain ⟨fn,tmps,assign,body,hy,hR⟩:=hY k wr (by simpa using hlt) hJ
    rw [hx] at hy
    gi_wp2_with fail
    refine ⟨trivial,rfl,?_⟩
    refine (callsIn_wide.2 (scut_none _ r hn)).mono ?_
    rintro e w' ⟨rfl,rfl⟩
    gi_wp2
    refine ⟨rfl,hR.mono ?_⟩
    rintro e W3 (⟨rfl,hJ3,hk3⟩ | ⟨rfl,hJx3⟩)
    ·gi_wp2
     go_roundw
     case rel=>exact ⟨k+1,[],rfl,by simp,by omega,hJ3, .inr ⟨rfl,by have:=congrArg List.length hd; simp at this; omega⟩⟩
     case measure=>simp [seqLeft]
    ·gi_wp2
     refine bodyPost_ret (results_none rfl _ _ _) rfl ?_
     exact ⟨⟨_,rfl⟩, .inr ⟨k,by simpa using hlt,hJx3⟩⟩
   ·rw [Pt.cut_app _ hp] at hd
    have hlt : k<(Pt.parts l).length:=by
     have:=congrArg List.length hd
     simp at this
     omega
    have hx : ((Pt.parts l).map Ab)[k]'(by simpa using hlt)=Ab p:=by
     have:=congrArg (·[0]?) hd
     simp [hlt] at this
     simp [this]
    have hd2 : (Pt.parts l).drop (k+1)=Pt.cut r':=by
     rw [← List.drop_drop,hd]
     rfl
    obtain ⟨fn,tmps,assign,body,hy,hR⟩:=hY k wr.drew (by simpa using hlt) (hdr k wr hJ)
    rw [hx] at hy
    gi_wp2_with fail
    refine ⟨trivial,rfl,?_⟩
    refine (callsIn_wide.2 (scut_some _ p r' hp (by omega))).mono ?_
    rintro e w' ⟨rfl,rfl⟩
    gi_wp2
    refine ⟨rfl,hR.mono ?_⟩
    rintro e W3 (⟨rfl,hJ3,hk3⟩ | ⟨rfl,hJx3⟩)
    ·gi_wp2
     go_roundw
     case rel=>exact ⟨k+1,r',rfl,by simp at hr; omega,by omega,hJ3, .inl ⟨rfl,hd2⟩⟩
     case measure=>simp [seqLeft,A1]; omega
    ·gi_wp2
     refine bodyPost_ret (results_none rfl _ _ _) rfl ?_
     exact ⟨⟨_,rfl⟩, .inr ⟨k,by simpa using hlt,hJx3⟩⟩
  ·gi_wp2
   go_end0
   exact ⟨⟨_,rfl⟩, .inl (by simpa using hJ)⟩
def Ts (w : World) (v : Value) (xs : List (List UInt8)) : Prop:=
 ∃ ao cap,v = .slice ao xs.length cap∧xs.length≤cap∧cap≤maxLen ∧
  (xs ≠ []→∃ b off,ao=some ⟨b,off,none⟩∧b<w.heap.size∧∀ j (h : j<xs.length),w.cell? ⟨b,off+j,none⟩=some (.string (Ab xs[j])))
theorem Ts.nil (w : World) : Ts w (.slice none 0 0) []:=⟨none,0,rfl,Nat.le_refl _,by simp,fun h=>absurd rfl h⟩
theorem Ts.keep {w w' : World} {v : Value} {xs : List (List UInt8)} (h : Ts w v xs) (hb : Below w.heap.size w w') : Ts w' v xs:=by
 obtain ⟨ao,cap,hv,h1,h2,h4⟩:=h
 refine ⟨ao,cap,hv,h1,h2,fun hl=>?_⟩
 obtain ⟨b,off,ha,hlt,hc⟩:=h4 hl
 exact ⟨b,off,ha,Nat.lt_of_lt_of_le hlt hb.size,fun j hj=>(hb.cell (p:=⟨b,off+j,none⟩) hlt).trans (hc j hj)⟩
end Go.Proofs.YtckejblkppllaaaGreatDoor.Pa
namespace Go.Proofs.YtckejblkppllaaaGreatDoor.Pa
open Go.RowKit Go.Shelf
attribute [local go_sem] Oper.semAt_some
theorem few_true {xs : List (List UInt8)} (h : xs.length≤16) (hn : ∀ j (hj : j<xs.length),Pt.name xs[j]=true) : Pt.few xs=true:=by
 unfold Pt.few
 simp only [Bool.and_eq_true,decide_eq_true_eq,List.all_eq_true]
 refine ⟨h,fun p hp=>?_⟩
 obtain ⟨j,hj,rfl⟩:=List.getElem_of_mem hp
 exact hn j hj
theorem few_long {xs : List (List UInt8)} (h : 16<xs.length) : Pt.few xs=false:=by
 unfold Pt.few
 rw [decide_eq_false (by omega)]
 rfl
theorem few_bad {xs : List (List UInt8)} {j : Nat} (hj : j<xs.length) (h : Pt.name xs[j]=false) : Pt.few xs=false:=by
 cases hf : Pt.few xs with
 | false=>rfl
 | true=>rw [Pt.few_all hf _ (List.getElem_mem hj)] at h; cases h
set_option maxRecDepth 100000 in
set_option maxHeartbeats 1000000 in
theorem few_any (w : World) (gf : Nat) (first lb : Array Value) (henter : ∀ args w,(callFunc gf args).run Tryz.prog w = .ok (.enter gf args) w) (xs : List (List UInt8)) (hx : xs.length≤4611686018427387904)
  (hg : Gives Tryz.prog gf first lb (xs.map Ab) w) :
  Calls Tryz.prog 98 #[.func (.func gf) first lb] w fun e w'=>e = .returned (.bool (Pt.few xs))∧Below w.heap.size w w':=by
 refine (callsIn_wide (n:=0)).1 ?_
 refine callsIn_of_wp_marks Tryz.func98 rfl trivial ?_ rfl
 simp only [Tryz.ntmps98,List.size_toArray,List.length_cons,List.length_nil,Nat.reduceAdd,Nat.reduceSub,Array.replicate_succ,Array.replicate_zero,List.push_toArray,List.append_toArray,List.nil_append,List.cons_append]
 gi_wp2
 have b0:=Boxed.new w 4 (.bool false)
 have b1:=Boxed.new (w.alloc (.cells #[.bool false] 4)) 3 (.int .i64 0)
 rw [World.size_alloc] at b1
 have b0':=b0.alloc (.cells #[.int .i64 0] 3)
 have hB0 : Below w.heap.size w ((w.alloc (.cells #[.bool false] 4)).alloc (.cells #[.int .i64 0] 3)):=((Below.refl _ w).alloc (Nat.le_refl _) _).alloc (by simp) _
 refine wp_each (w0:=w) rfl henter hg hB0
  (fun k W=>(k≤16∧(∀ j (hj : j<xs.length),j<k→Pt.name xs[j]=true))∧(Boxed W w.heap.size 4 (.bool false)∧Boxed W (w.heap.size+1) 3 (.int .i64 (k : Int)))∧Below w.heap.size w W)
  (fun _ W=>Pt.few xs=false∧Boxed W w.heap.size 4 (.bool false)∧Below w.heap.size w W)
  (OwnFrom.and (ownFrom_pure _ _) (OwnFrom.and (Own.from (fun s A B row hs hg hr=>⟨boxed_own _ _ (fun _=>.bool false) s A B row hs.1 hg hr,boxed_own _ _ (fun k : Nat=>.int .i64 (k : Int)) s A B row hs.2 hg hr⟩) _) (ownFrom_below (Nat.le_refl _) (by simp; omega))))
  (OwnFrom.and (ownFrom_pure _ _) (OwnFrom.and (Own.from (fun s A B row hs hg hr=>boxed_own _ _ (fun _=>.bool false) s A B row hs hg hr) _) (ownFrom_below (Nat.le_refl _) (by simp; omega))))
  ⟨⟨by omega,fun _ _ h=>by omega⟩,⟨b0',b1⟩,hB0⟩
  (fun x=>{ tmps:=#[.func (.func gf) first lb,undef, .pointer (some ⟨w.heap.size,0,none⟩), .pointer (some ⟨w.heap.size+1,0,none⟩), .string x, .func (.func gf) first lb, .string x,undef,undef,undef,undef,undef,undef,undef,undef,undef],defers:=[] }) ?assign ?body ?all ?left
 case assign=>
  intro l x W K hK
  gi_wp2
  exact hK
 case body=>
  rintro l k W hk ⟨⟨h16,hn⟩,⟨b0,b1⟩,hB⟩
  have hk' : k<xs.length:=by simpa using hk
  rw [show (xs.map Ab)[k]=Ab xs[k] by simp]
  have hc1:=b1.cell
  have hf1:=b1.frozen
  obtain ⟨W1,hW1⟩ : ∃ W1,W.setCell ⟨w.heap.size+1,0,none⟩ (.int .i64 ((k : Int)+1))=W1:=⟨_,rfl⟩
  have b1' : Boxed W1 (w.heap.size+1) 3 (.int .i64 ((k : Int)+1)):=by rw [← hW1]; exact b1.set _
  have b0' : Boxed W1 w.heap.size 4 (.bool false):=by rw [← hW1]; exact b0.other (by omega) _
  have hB1 : Below w.heap.size W W1:=by rw [← hW1]; exact (Below.refl _ W).setCell (p:=⟨w.heap.size+1,0,none⟩) (Nat.le_succ _) _
  have hK1 : KeepsOthers W W1:=by rw [← hW1]; exact KeepsOthers.setCell _ _ _
  have hc0:=b0'.cell
  have hf0:=b0'.frozen
  have hc2:=b1'.cell
  by_cases hq : k=16
  ·have hfew : Pt.few xs=false:=few_long (by omega)
   have hq2 : (16 : Int)<(k : Int)+1:=by omega
   clear hq
   gi_wp2
   refine ⟨trivial,?_⟩
   gi_wp2
   exact ⟨hK1.trans (KeepsOthers.setCell _ _ _),hfew,b0'.set _,(hB.trans hB1).setCell (p:=⟨w.heap.size,0,none⟩) (Nat.le_refl _) _⟩
  ·have hq2 : (k : Int)+1≤(16 : Int):=by omega
   have hc:=Ld W1 xs[k]
   cases hnm : Pt.name xs[k] with
   | false=>
    have hfew : Pt.few xs=false:=few_bad hk' hnm
    rw [hnm] at hc
    clear hq
    gi_wp2
    refine ⟨trivial,rfl,(CallsIn.inRound l (callsIn_wide.2 hc)).mono ?_⟩
    rintro e W2 ⟨rfl,rfl⟩
    gi_wp2
    exact ⟨hK1.trans (KeepsOthers.setCell _ _ _),hfew,b0'.set _,(hB.trans hB1).setCell (p:=⟨w.heap.size,0,none⟩) (Nat.le_refl _) _⟩
   | true=>
    rw [hnm] at hc
    clear hq
    gi_wp2
    refine ⟨trivial,rfl,(CallsIn.inRound l (callsIn_wide.2 hc)).mono ?_⟩
    rintro e W2 ⟨rfl,rfl⟩
    gi_wp2
    refine ⟨hK1,hB1,⟨by omega,fun j hj hjk=>?_⟩,⟨b0',by simpa using b1'⟩,hB.trans hB1⟩
    by_cases hjk' : j=k
    ·subst hjk'; exact hnm
    ·exact hn j hj (by omega)
 case all=>
  rintro D W hD ⟨⟨h16,hn⟩,⟨b0,b1⟩,hB⟩ hK
  have hc0:=b0.cell
  have hf0:=b0.frozen
  have hl : (xs.map Ab).length=xs.length:=by simp
  have hfew : Pt.few xs=true:=few_true (by omega) (fun j hj=>hn j hj (by omega))
  gi_wp2
  have hK':=(KeepsOthers.setCell W ⟨w.heap.size,0,none⟩ (.bool true)).same D _ hK rfl
  refine ⟨by simp, .inl ⟨_,_,rfl,run_takeDeferred hK',?_⟩⟩
  have hc5:=((b0.set (.bool true)).kept (grownBy_putObj' _ D (.deferred none)) (by simp at hD ⊢; omega)).cell
  refine ⟨.bool true,?_,Al hfew.symm,(hB.setCell (p:=⟨w.heap.size,0,none⟩) (Nat.le_refl _) _).trans (belowK_b (w:=w) (Nat.le_refl _) _ D _ _ (by simp at hD; omega) hK' rfl rfl)⟩
  simp [results,Tryz.f98,go_sem,hc5]
 case left=>
  rintro D k W hD hk ⟨hf,b0,hB⟩ hK
  gi_wp2
  refine ⟨by simp, .inl ⟨_,_,rfl,run_takeDeferred hK,?_⟩⟩
  have hc5:=(b0.kept (grownBy_putObj' _ D (.deferred none)) (by simp at hD ⊢; omega)).cell
  refine ⟨.bool false,?_,Al hf.symm,hB.trans (belowK_b (w:=w) (Nat.le_refl _) _ D _ _ (by simp at hD; omega) hK rfl rfl)⟩
  simp [results,Tryz.f98,go_sem,hc5]
end Go.Proofs.YtckejblkppllaaaGreatDoor.Pa
namespace Go.Proofs.YtckejblkppllaaaGreatDoor.Pa
open Go.RowKit
attribute [local go_sem] Oper.semAt_some
def tc (xs : List (List UInt8)) : List Value:=xs.map fun x=>.string (Ab x)
theorem tc_get (xs : List (List UInt8)) (j : Nat) (h : j<xs.length) : (tc xs)[j]? = some (.string (Ab xs[j])):=by simp [tc,h]
theorem Tryz.info9 : (Tryz.prog.info? 9).map (fun i=>(i.zero,i.size,i.bytes))=some (some (.string ⟨#[]⟩),1,16):=by kernel_rfl
theorem K9 {w : World} {base : Nat} {v : Value} {xs : List (List UInt8)} (h : w.ownsRow base 9 1 v xs.length (tc xs)) : Ts w v xs:=by
 obtain ⟨h1,h2⟩:=h
 rcases h2 with ⟨rfl,hn⟩ | ⟨g,cap,cur,rfl,hg,hh,hc,hm,hs,ht⟩
 ·obtain rfl : xs = []:=List.eq_nil_of_length_eq_zero hn
  exact Ts.nil w
 ·refine ⟨_,_,rfl,hc,hm,fun _=>⟨g,0,rfl,?_,fun j hj=>?_⟩⟩
  ·exact (Array.getElem?_eq_some_iff.1 hh).1
  ·have:=World.ownsRow.cells (w:=w) (base:=base) (e:=9) (size:=1) (v:=.slice (some ⟨g,0,none⟩) xs.length cap) (n:=xs.length) (xs:=tc xs) ⟨h1,Or.inr ⟨g,cap,cur,rfl,hg,hh,hc,hm,hs,ht⟩⟩ (g:=g) rfl j _ (tc_get xs j hj)
   rw [Addr.add_lit] at this
   exact this
set_option maxRecDepth 100000 in
set_option maxHeartbeats 1000000 in
theorem Pm (w : World) (gf : Nat) (first lb : Array Value) (henter : ∀ args w,(callFunc gf args).run Tryz.prog w = .ok (.enter gf args) w) (xs : List (List UInt8)) (hx : xs.length≤16)
  (hg : Gives Tryz.prog gf first lb (xs.map Ab) w) :
  Calls Tryz.prog 141 #[.slice none 0 0, .func (.func gf) first lb] w fun e w'=>∃ v,e = .returned v∧w'.ownsRow w.heap.size 9 1 v xs.length (tc xs)∧Below w.heap.size w w':=by
 obtain ⟨i0,hi,hz0,hz1,hz2⟩:=info_parts Tryz.info9
 refine (callsIn_wide (n:=0)).1 ?_
 refine callsIn_of_wp_marks Tryz.func141 rfl trivial ?_ rfl
 simp only [Tryz.ntmps141,List.size_toArray,List.length_cons,List.length_nil,Nat.reduceAdd,Nat.reduceSub,Array.replicate_succ,Array.replicate_zero,List.push_toArray,List.append_toArray,List.nil_append,List.cons_append]
 gi_wp2
 have bO:=Boxed.new w 76 (.slice none 0 0)
 have hB0 : Below w.heap.size w (w.alloc (.cells #[.slice none 0 0] 76)):=(Below.refl _ w).alloc (Nat.le_refl _) _
 refine wp_each (w0:=w) rfl henter hg hB0
  (fun k W=>(∃ v,Boxed W w.heap.size 76 v∧W.ownsRow w.heap.size 9 1 v k (tc (xs.take k))∧True)∧Below w.heap.size w W)
  (fun _ _=>False)
  (OwnFrom.and (Own.from (holdsRow_own w.heap.size w.heap.size 76 9 1 (fun k : Nat=>k) (fun k=>tc (xs.take k)) (fun _ _=>True)) _) (ownFrom_below (Nat.le_refl _) (by simp)))
  (fun _ _ _ _ hs _ _=>hs)
  ⟨⟨_,bO,World.ownsRow_nil _ _ _ _,trivial⟩,hB0⟩
  (fun x=>{ tmps:=#[.slice none 0 0, .func (.func gf) first lb, .pointer (some ⟨w.heap.size,0,none⟩),undef, .slice none 0 0, .string x, .func (.func gf) first lb, .string x,undef,undef,undef,undef,undef],defers:=[] }) ?assign ?body ?all ?left
 case assign=>
  intro l x W K hK
  gi_wp2
  exact hK
 case body=>
  rintro l k W hk ⟨⟨v,hv,hrow,_⟩,hB⟩
  have hk' : k<xs.length:=by simpa using hk
  rw [show (xs.map Ab)[k]=Ab xs[k] by simp]
  have htk : tc (xs.take k) ++ [.string (Ab xs[k])]=tc (xs.take (k+1)):=by
   have e : xs.take (k+1)=xs.take k ++ [xs[k]]:=by rw [List.take_add_one]; simp [hk']
   rw [e]
   unfold tc
   rw [List.map_append]
   rfl
  have hc:=hv.cell
  gi_wp2_with (gi_at_builtin; refine wpListIn_append_own _ rfl _ _ 76 rfl w.heap.size 9 i0 (.string ⟨#[]⟩) 1 16 Tryz.underlying76 hi hz0 hz1 hz2 rfl (by decide) _ _ _ rfl (hrow.alloc _) ⟨W.heap.size,0,none⟩ 1 1 [.string (Ab xs[k])] rfl rfl (cell_one_new _ _ _) (by simp [Value.oneCell']) (by unfold maxLen; omega) (by omega) (by have:=hB.size; simp; omega) ?_; intro v' w1 hown' hgrow _; obtain ⟨g',cap',rfl⟩:=ownsRow_succ hown'; obtain ⟨hv1,hv2,hr2,hk2,hb2⟩:=hv.appended (by decide) hrow hB.size (Nat.le_refl _) hown' hgrow; have hc1:=hv1.cell; have hf1:=hv1.frozen)
  exact ⟨hk2,hb2,⟨_,hv2,by rw [← htk]; exact hr2,trivial⟩,hB.trans hb2⟩
 case all=>
  rintro D W hD ⟨⟨v,hv,hrow,_⟩,hB⟩ hK
  have hc:=hv.cell
  gi_wp2
  refine ⟨by simp, .inl ⟨_,_,rfl,run_takeDeferred hK,?_⟩⟩
  rw [show (xs.map Ab).length=xs.length by simp,List.take_length] at hrow
  exact ⟨_,results_tmp rfl _ _ _,v,rfl,ownsRow_putObj hrow _ hK rfl,hB.trans (belowK_b (w:=w) (Nat.le_refl _) W D _ _ (by simp at hD; omega) hK rfl rfl)⟩
 case left=>
  rintro D k W _ _ h _
  exact h.elim
set_option maxRecDepth 20000 in
theorem collect_any (w : World) (gf : Nat) (first lb : Array Value) (henter : ∀ args w,(callFunc gf args).run Tryz.prog w = .ok (.enter gf args) w) (xs : List (List UInt8)) (hx : xs.length≤16)
  (hg : Gives Tryz.prog gf first lb (xs.map Ab) w) :
  Calls Tryz.prog 99 #[.func (.func gf) first lb] w fun e w'=>∃ v,e = .returned v∧w'.ownsRow w.heap.size 9 1 v xs.length (tc xs)∧Below w.heap.size w w':=by
 go_enter Tryz.func99,Tryz.ntmps99
 go_wp2_with fail
 refine (Pm w gf first lb henter xs hx hg).mono ?_
 rintro e w' ⟨v,rfl,hv,hb⟩
 go_wp2
 go_ret
 exact ⟨v,rfl,hv,hb⟩
end Go.Proofs.YtckejblkppllaaaGreatDoor.Pa
namespace Go.Proofs.YtckejblkppllaaaGreatDoor.Pa
open Go.RowKit
theorem enter23 : ∀ args w,(callFunc 97 args).run Tryz.prog w = .ok (.enter 97 args) w:=enters_of Tryz.func97 (by kernel_rfl) rfl
theorem cut_length (l : List UInt8) : (Pt.cut l).length≤l.length+1:=by
 induction l with
 | nil=>simp [Pt.cut]
 | cons c t ih=>
  by_cases hc : c=47
  ·subst hc; rw [Pt.cut_slash]; simp; exact ih
  ·cases he : Pt.cut t with
   | nil=>exact absurd he (Pt.cut_ne t)
   | cons a b=>rw [Pt.cut_cons hc he]; rw [he] at ih; simp at ih ⊢; omega
theorem parts_length (l : List UInt8) : (Pt.parts l).length≤l.length+1:=by
 unfold Pt.parts
 split
 ·simp
 ·exact cut_length l
theorem N8 (w : World) (l : List UInt8) (hl : l.length≤4611686018427387000) :
  Calls Tryz.prog 98 #[.func (.func 97) #[.string (Ab l)] #[]] w fun e w'=>e = .returned (.bool (Pt.path l))∧Below w.heap.size w w':=
 few_any w _ _ _ enter23 (Pt.parts l) (by have:=parts_length l; omega) (Ml l (by omega) w)
set_option maxRecDepth 20000 in
theorem parse_bad (w : World) (l : List UInt8) (hl : l.length≤4611686018427387000) (h : Pt.path l=false) :
  Calls Tryz.prog 53 #[.string (Ab l)] w fun e w'=>e = .returned (.tuple #[.slice none 0 0, .int .i64 40])∧Below w.heap.size w w':=by
 have hf:=N8 w l hl
 rw [h] at hf
 go_enter Tryz.func53,Tryz.ntmps53
 go_wp2_with fail
 refine hf.mono ?_
 rintro e w1 ⟨rfl,hb⟩
 go_wp2
 go_ret2
 exact ⟨rfl,hb⟩
set_option maxRecDepth 20000 in
theorem parse_ok (w : World) (l : List UInt8) (hl : l.length≤4611686018427387000) (h : Pt.path l=true) :
  Calls Tryz.prog 53 #[.string (Ab l)] w fun e w'=>∃ v,e = .returned (.tuple #[v, .int .i64 0])∧w'.ownsRow w.heap.size 9 1 v (Pt.parts l).length (tc (Pt.parts l))∧Below w.heap.size w w':=by
 have hf:=N8 w l hl
 rw [h] at hf
 have hlen:=Pt.few_len h
 have hc:=fun W=>collect_any W _ _ _ enter23 (Pt.parts l) hlen (Ml l (by omega) W)
 go_enter Tryz.func53,Tryz.ntmps53
 go_wp2_with fail
 refine hf.mono ?_
 rintro e w1 ⟨rfl,hb⟩
 go_wp2_with fail
 refine (hc w1).mono ?_
 rintro e w2 ⟨v,rfl,hv,hb2⟩
 go_wp2
 go_ret2
 refine ⟨v,rfl,?_,hb.trans (hb2.mono hb.size)⟩
 exact World.ownsRow.mono hv hb.size
end Go.Proofs.YtckejblkppllaaaGreatDoor.Pa
namespace Go.Proofs.YtckejblkppllaaaGreatDoor
open Go.RowKit
def Dk (x : Ent) : List Value:=[.string (Ab x.1), .int .i64 x.2.1, .string (Ab x.2.2.1), .int .i64 x.2.2.2]
abbrev E0 (x : Ent) : Value:=.agg #[.string (Ab x.1), .int .i64 x.2.1, .string (Ab x.2.2.1), .int .i64 x.2.2.2]
theorem Cv {w W : World} {g : Nat} {v0 v1 v2 v3 : Value} {t : TypeId} (u0 u1 u2 u3 : Value) (hx : W.heap[g]? = some (.cells #[v0,v1,v2,v3] t)) (hb : Below w.heap.size w W) (hg : w.heap.size≤g) :
  ((((W.setCell ⟨g,0,none⟩ u0).setCell ⟨g,1,none⟩ u1).setCell ⟨g,2,none⟩ u2).setCell ⟨g,3,none⟩ u3).heap[g]? = some (.cells #[u0,u1,u2,u3] t)∧Below w.heap.size w ((((W.setCell ⟨g,0,none⟩ u0).setCell ⟨g,1,none⟩ u1).setCell ⟨g,2,none⟩ u2).setCell ⟨g,3,none⟩ u3):=
 ⟨Et hx,(((hb.setCell (p:=⟨g,0,none⟩) hg _).setCell (p:=⟨g,1,none⟩) hg _).setCell (p:=⟨g,2,none⟩) hg _).setCell (p:=⟨g,3,none⟩) hg _⟩
set_option maxRecDepth 20000 in
set_option maxHeartbeats 1600000 in
theorem ttake_any (w : World) (name val : Bs) (hn : name.length≤140737488355328) (hv : val.length≤140737488355328) :
  Calls Tryz.prog 62 #[.string (Ab name), .string (Ab val)] w fun e w'=>e = .returned (.tuple #[E0 (E5 name val).2, .int .i64 (E5 name val).1])∧Below w.heap.size w w':=by
 have hb0 : Below w.heap.size w (w.alloc (.cells #[.string ⟨#[]⟩, .int .i64 0, .string ⟨#[]⟩, .int .i64 0] 27)):=(Below.refl _ _).alloc (Nat.le_refl _) _
 have hx0:=heap_last w (.cells #[.string ⟨#[]⟩, .int .i64 0, .string ⟨#[]⟩, .int .i64 0] 27) _ rfl
 have hT:=Ox (w.alloc (.cells #[.string ⟨#[]⟩, .int .i64 0, .string ⟨#[]⟩, .int .i64 0] 27)) name val hn hv
 have hs0 : (w.alloc (.cells #[.string ⟨#[]⟩, .int .i64 0, .string ⟨#[]⟩, .int .i64 0] 27)).heap.size=w.heap.size+1:=by simp
 generalize hw0 : w.alloc (.cells #[.string ⟨#[]⟩, .int .i64 0, .string ⟨#[]⟩, .int .i64 0] 27)=w0 at *
 unfold F9 at hT
 unfold E5
 cases h : Dc name val with
 | none=>
  rw [h] at hT
  simp only at hT ⊢
  clear h
  go_enter Tryz.func62,Tryz.ntmps62
  go_wp2_with fail
  try rw [hw0]
  refine hT.mono ?_
  rintro e w1 ⟨rfl,hb1⟩
  have x1:=(hb1.block _ (Ad hx0)).trans hx0
  have B1:=hb0.trans (hb1.mono hb0.size)
  have x2:=(heap_past w1 (.cells #[.string ⟨#[]⟩, .int .i64 0, .string ⟨#[]⟩, .int .i64 0] 27) _ (Ad x1)).trans x1
  have B2:=B1.alloc B1.size (.cells #[.string ⟨#[]⟩, .int .i64 0, .string ⟨#[]⟩, .int .i64 0] 27)
  have H0:=Cv (.string ⟨#[]⟩) (.int .i64 0) (.string ⟨#[]⟩) (.int .i64 0) x2 B2 (Nat.le_refl _)
  have n0:=rc (i:=0) x2 rfl
  have f0:=Af (j:=0) x2
  have n1:=rc (i:=1) x2 rfl
  have f1:=Af (j:=1) x2
  have n2:=rc (i:=2) x2 rfl
  have f2:=Af (j:=2) x2
  have n3:=rc (i:=3) x2 rfl
  have f3:=Af (j:=3) x2
  have HH:=Ac H0
  clear hT hb1 x1 x2 H0 B1 B2 hb0 hx0
  go_wp2
  exact bodyPost_ret (Aq rfl _ _ _ _ _ _ _ rfl HH.out.1 Tryz.underlying27 rfl Tryz.infoEntry) rfl ⟨rfl,HH.out.2⟩
 | some v=>
  rw [h] at hT
  simp only at hT ⊢
  clear h
  go_enter Tryz.func62,Tryz.ntmps62
  go_wp2_with fail
  try rw [hw0]
  refine hT.mono ?_
  rintro e w1 ⟨rfl,hb1⟩
  have x1:=(hb1.block _ (Ad hx0)).trans hx0
  have B1:=hb0.trans (hb1.mono hb0.size)
  have x2:=(heap_past w1 (.cells #[.string (Ab name), .int .i64 v.1, .string (Ab v.2.1), .int .i64 v.2.2] 27) _ (Ad x1)).trans x1
  have B2:=B1.alloc B1.size (.cells #[.string (Ab name), .int .i64 v.1, .string (Ab v.2.1), .int .i64 v.2.2] 27)
  have y2:=heap_last w1 (.cells #[.string (Ab name), .int .i64 v.1, .string (Ab v.2.1), .int .i64 v.2.2] 27) _ rfl
  have m0:=rc (i:=0) y2 rfl
  have m1:=rc (i:=1) y2 rfl
  have m2:=rc (i:=2) y2 rfl
  have m3:=rc (i:=3) y2 rfl
  have H0:=Cv (.string (Ab name)) (.int .i64 v.1) (.string (Ab v.2.1)) (.int .i64 v.2.2) x2 B2 (Nat.le_refl _)
  have n0:=rc (i:=0) x2 rfl
  have f0:=Af (j:=0) x2
  have n1:=rc (i:=1) x2 rfl
  have f1:=Af (j:=1) x2
  have n2:=rc (i:=2) x2 rfl
  have f2:=Af (j:=2) x2
  have n3:=rc (i:=3) x2 rfl
  have f3:=Af (j:=3) x2
  have HH:=Ac H0
  clear hT hb1 x1 x2 H0 B1 B2 hb0 hx0 y2
  go_wp2
  exact bodyPost_ret (Aq rfl _ _ _ _ _ _ _ rfl HH.out.1 Tryz.underlying27 rfl Tryz.infoEntry) rfl ⟨rfl,HH.out.2⟩
def Em (x : Ent) (up inn : Value) : Array Value:=#[.string (Ab x.1), .int .i64 x.2.1, .string (Ab x.2.2.1), .int .i64 x.2.2.2,up,inn]
set_option maxRecDepth 20000 in
set_option maxHeartbeats 1600000 in
theorem Mf (w : World) (id : Bs) (hid : id.length≤140737488355328) :
  Calls Tryz.prog 38 #[.string (Ab id)] w fun e w'=>∃ k,e = .returned (.pointer (some ⟨k,0,none⟩))∧w.heap.size≤k∧w'.heap[k]? = some (.cells (Em (rootE id) (.pointer none) (.map none)) 75)∧Below w.heap.size w w':=by
 have hcl:=M9 w id hid
 go_enter Tryz.func38,Tryz.ntmps38
 go_wp2_with fail
 refine hcl.mono ?_
 rintro e w1 ⟨rfl,hb1⟩
 go_wp2
 go_ret
 exact ⟨_,rfl,hb1.size,heap_last w1 _ _ rfl,hb1.alloc hb1.size _⟩
set_option maxRecDepth 20000 in
set_option maxHeartbeats 3200000 in
theorem tfind_any (w : World) (B c : Nat) (v : Value) (objs : List Ag) (hG : Gf B w c v objs) (hB : B≤w.heap.size) (d : Ent) (name : Bs) (hk : As name=true) :
  Calls Tryz.prog 54 #[.agg #[Cf c],E0 d, .string (Ab name)] w fun e w'=>e = .returned (.tuple #[E0 (Ed (Aj objs) d.2 name).2, .int .i64 (Ed (Aj objs) d.2 name).1])∧Below w.heap.size w w':=by
 have hkl : name.length≤140737488355328:=by unfold As at hk; have:=of_decide_eq_true hk; omega
 have hval:=findF_val (fd:=Aj objs) (Fy hG.short) d.2.2.1 name
 obtain ⟨w0,hw0⟩ : ∃ w0,((w.alloc (.cells #[Cf c] 71)).alloc (.cells #[.string (Ab d.1), .int .i64 d.2.1, .string (Ab d.2.2.1), .int .i64 d.2.2.2] 27)).alloc (.cells #[.string ⟨#[]⟩, .int .i64 0, .string ⟨#[]⟩, .int .i64 0] 27)=w0:=⟨_,rfl⟩
 have hb0 : Below w.heap.size w w0:=by rw [← hw0]; exact (((Below.refl _ _).alloc (Nat.le_refl _) _).alloc (by simp) _).alloc (by simp; omega) _
 have hr0 : w0.heap[w.heap.size]? = some (.cells #[Cf c] 71):=by rw [← hw0]; exact (heap_past _ _ _ (by simp; omega)).trans ((heap_past _ _ _ (by simp)).trans (heap_last w _ _ rfl))
 have hd0 : w0.heap[w.heap.size+1]? = some (.cells #[.string (Ab d.1), .int .i64 d.2.1, .string (Ab d.2.2.1), .int .i64 d.2.2.2] 27):=by rw [← hw0]; exact (heap_past _ _ _ (by simp)).trans (heap_last _ _ _ (by simp))
 have hx0 : w0.heap[w.heap.size+2]? = some (.cells #[.string ⟨#[]⟩, .int .i64 0, .string ⟨#[]⟩, .int .i64 0] 27):=by rw [← hw0]; exact heap_last _ _ _ (by simp)
 have a0:=rc (i:=0) hr0 rfl
 have a1:=rc (i:=1) hd0 rfl
 have a2:=rc (i:=2) hd0 rfl
 have f0:=Af (j:=0) hx0
 have f1:=Af (j:=1) hx0
 have f2:=Af (j:=2) hx0
 have f3:=Af (j:=3) hx0
 have n0:=rc (i:=0) hx0 rfl
 have n1:=rc (i:=1) hx0 rfl
 have n2:=rc (i:=2) hx0 rfl
 have n3:=rc (i:=3) hx0 rfl
 have hs0 : w0.heap.size=w.heap.size+3:=by rw [← hw0]; simp
 have H0:=Cv (.string ⟨#[]⟩) (.int .i64 0) (.string ⟨#[]⟩) (.int .i64 0) hx0 hb0 (by omega)
 unfold Ed
 by_cases hkd : d.2.1≠2
 ·have q0 : (d.2.1 != 2)=true:=by simpa using hkd
  rw [if_pos hkd]
  simp only
  have HH:=Ac H0
  clear H0 hr0 hd0 hx0 hb0 hkd
  go_enter Tryz.func54,Tryz.ntmps54
  go_wp2_with fail
  try rw [hw0]
  go_wp2
  exact bodyPost_ret (Aq rfl _ _ _ _ _ _ _ rfl HH.out.1 Tryz.underlying27 rfl Tryz.infoEntry) rfl ⟨rfl,HH.out.2⟩
 ·have q0 : (d.2.1 != 2)=false:=by simpa using hkd
  rw [if_neg hkd]
  have hfi:=gfind_any w0 B c v objs (hG.below (hb0.mono hB)) (by omega) d.2.2.1 name hk
  generalize Cq (Aj objs) d.2.2.1 name []=R at *
  obtain ⟨rv,rb,ra,re⟩:=R
  simp only at hfi hval ⊢
  have HX:=Ac (And.intro hx0 (And.intro hb0 hs0))
  clear H0 hr0 hd0 hx0 hb0 f0 f1 f2 f3 n0 n1 n2 n3 hkd
  by_cases hre : re≠0
  ·rw [if_pos hre]
   simp only
   have q1 : (re != 0)=true:=by simpa using hre
   clear hre
   go_enter Tryz.func54,Tryz.ntmps54
   go_wp2_with fail
   try rw [hw0]
   go_wp2_with fail
   refine hfi.mono ?_
   rintro e w1 ⟨rfl,hb1⟩
   have x1:=(hb1.block _ (Ad HX.out.1)).trans HX.out.1
   have H0:=Cv (.string ⟨#[]⟩) (.int .i64 0) (.string ⟨#[]⟩) (.int .i64 0) x1 (HX.out.2.1.trans (hb1.mono HX.out.2.1.size)) (by omega)
   have n0:=rc (i:=0) x1 rfl
   have f0:=Af (j:=0) x1
   have n1:=rc (i:=1) x1 rfl
   have f1:=Af (j:=1) x1
   have n2:=rc (i:=2) x1 rfl
   have f2:=Af (j:=2) x1
   have n3:=rc (i:=3) x1 rfl
   have f3:=Af (j:=3) x1
   have HH:=Ac H0
   clear hfi hb1 x1 H0 a0 a1 a2
   go_wp2
   exact bodyPost_ret (Aq rfl _ _ _ _ _ _ _ rfl HH.out.1 Tryz.underlying27 rfl Tryz.infoEntry) rfl ⟨rfl,HH.out.2⟩
  ·rw [if_neg hre]
   have q1 : (re != 0)=false:=by simpa using hre
   have hre0 : re=0:=by simpa using hre
   cases rb with
   | false=>
    rw [if_pos rfl]
    simp only
    clear hre hre0
    go_enter Tryz.func54,Tryz.ntmps54
    go_wp2_with fail
    try rw [hw0]
    go_wp2_with fail
    refine hfi.mono ?_
    rintro e w1 ⟨rfl,hb1⟩
    have x1:=(hb1.block _ (Ad HX.out.1)).trans HX.out.1
    have H0:=Cv (.string ⟨#[]⟩) (.int .i64 0) (.string ⟨#[]⟩) (.int .i64 0) x1 (HX.out.2.1.trans (hb1.mono HX.out.2.1.size)) (by omega)
    have n0:=rc (i:=0) x1 rfl
    have f0:=Af (j:=0) x1
    have n1:=rc (i:=1) x1 rfl
    have f1:=Af (j:=1) x1
    have n2:=rc (i:=2) x1 rfl
    have f2:=Af (j:=2) x1
    have n3:=rc (i:=3) x1 rfl
    have f3:=Af (j:=3) x1
    have HH:=Ac H0
    clear hfi hb1 x1 H0 a0 a1 a2
    go_wp2
    exact bodyPost_ret (Aq rfl _ _ _ _ _ _ _ rfl HH.out.1 Tryz.underlying27 rfl Tryz.infoEntry) rfl ⟨rfl,HH.out.2⟩
   | true=>
    rw [if_neg (by simp)]
    clear hre hre0
    have hta:=fun W=>ttake_any W name rv hkl (by omega)
    generalize E5 name rv=T at *
    obtain ⟨te,tx⟩:=T
    simp only at hta ⊢
    go_enter Tryz.func54,Tryz.ntmps54
    go_wp2_with fail
    try rw [hw0]
    go_wp2_with fail
    refine hfi.mono ?_
    rintro e w1 ⟨rfl,hb1⟩
    have x1:=(hb1.block _ (Ad HX.out.1)).trans HX.out.1
    have B1:=HX.out.2.1.trans (hb1.mono HX.out.2.1.size)
    clear hfi hb1 a0 a1 a2
    go_wp2_with fail
    refine (hta w1).mono ?_
    rintro e w2 ⟨rfl,hb2⟩
    have x2:=(hb2.block _ (Ad x1)).trans x1
    have H0:=Cv (.string (Ab tx.1)) (.int .i64 tx.2.1) (.string (Ab tx.2.2.1)) (.int .i64 tx.2.2.2) x2 (B1.trans (hb2.mono B1.size)) (by omega)
    have n0:=rc (i:=0) x2 rfl
    have f0:=Af (j:=0) x2
    have n1:=rc (i:=1) x2 rfl
    have f1:=Af (j:=1) x2
    have n2:=rc (i:=2) x2 rfl
    have f2:=Af (j:=2) x2
    have n3:=rc (i:=3) x2 rfl
    have f3:=Af (j:=3) x2
    have HH:=Ac H0
    clear hta hb2 x1 x2 H0 B1
    go_wp2
    exact bodyPost_ret (Aq rfl _ _ _ _ _ _ _ rfl HH.out.1 Tryz.underlying27 rfl Tryz.infoEntry) rfl ⟨rfl,HH.out.2⟩
end Go.Proofs.YtckejblkppllaaaGreatDoor
namespace Go.Proofs.YtckejblkppllaaaGreatDoor
open Go.RowKit
def Bn (σ : Tre) : Prop:=∀ p L,σ.D p=some L→Fa L
theorem Bn.names {σ : Tre} (h : Bn σ) (p : List Bs) : Fa (σ.names p):=by
 cases hD : σ.D p with
 | none=>rw [Je hD]; exact List.Pairwise.nil
 | some L=>rw [C2 hD]; exact h p L hD
theorem Bn.made {σ : Tre} (h : Bn σ) (p : List Bs) : Bn (A9 σ p):=fun q L hL=>by
 unfold A9 at hL
 by_cases e : q=p
 ·subst e
  simp only [Bw] at hL
  injection hL with hL
  rw [← hL]; exact List.Pairwise.nil
 ·simp only [Bf e] at hL
  exact h q L hL
theorem Bn.lay {σ : Tre} (h : Bn σ) (p : List Bs) (n : Bs) (v : Val) : Bn (Be σ p n v):=fun q L hL=>by
 by_cases e1 : q=n :: p
 ·subst e1
  rw [Ez] at hL
  cases hL
 ·by_cases e : q=p
  ·subst e
   rw [Ff] at hL
   injection hL with hL
   rw [← hL]; exact insB_rise (h.names q)
  ·rw [Fj e1 e] at hL
   exact h q L hL
theorem Bn.cut {σ : Tre} (h : Bn σ) (p : List Bs) (n : Bs) : Bn (Ca σ p n):=fun q L hL=>by
 unfold Ca at hL
 by_cases e : q=p
 ·subst e
  simp only [Bw] at hL
  injection hL with hL
  rw [← hL]; exact (h.names q).sublist List.erase_sublist
 ·simp only [Bf e] at hL
  exact h q L hL
abbrev ptr (k : Nat) : Value:=.pointer (some ⟨k,0,none⟩)
section
variable {B : Nat} {w : World} {σ : Tre} {K M : List Bs→Nat} {p : List Bs}
set_option maxRecDepth 20000 in
theorem Nt (h : Rep B w σ K M) (hp : At σ p) :
  Calls Tryz.prog 87 #[ptr (K p)] w fun e w'=>e = .returned (.bool (decide (p = [])))∧w'=w:=by
 have hh:=(h.place p hp).2
 unfold plC at hh
 have c4:=rc (i:=4) hh rfl
 clear hh
 cases p with
 | nil=>
  unfold upV at c4
  go_enter Tryz.func87,Tryz.ntmps87
  go_wp2
  go_ret
  exact ⟨rfl,rfl⟩
 | cons n r=>
  unfold upV at c4
  go_enter Tryz.func87,Tryz.ntmps87
  go_wp2
  go_ret
  exact ⟨rfl,rfl⟩
set_option maxRecDepth 20000 in
set_option maxHeartbeats 1600000 in
theorem Jz (h : Rep B w σ K M) (hp : At σ p) {L : List Bs} (hD : σ.D p=some L) (hL : Fa L) (hB : B≤w.heap.size) (n : Bs) (v : Val) :
  Calls Tryz.prog 117 #[ptr (K p),E0 (n,v)] w fun e w'=>∃ k,e = .returned (ptr k)∧Rep B w' (Be σ p n v) (upd K (n :: p) k) M∧Mv B plts none w w'∧w.heap.size≤k:=by
 have hb0 : Below w.heap.size w (w.alloc (.cells #[.string (Ab n), .int .i64 v.1, .string (Ab v.2.1), .int .i64 v.2.2] 27)):=(Below.refl _ _).alloc (Nat.le_refl _) _
 have hx0:=heap_last w (.cells #[.string (Ab n), .int .i64 v.1, .string (Ab v.2.1), .int .i64 v.2.2] 27) _ rfl
 have hs0 : (w.alloc (.cells #[.string (Ab n), .int .i64 v.1, .string (Ab v.2.1), .int .i64 v.2.2] 27)).heap.size=w.heap.size+1:=by simp
 generalize hw0 : w.alloc (.cells #[.string (Ab n), .int .i64 v.1, .string (Ab v.2.1), .int .i64 v.2.2] 27)=w0 at *
 have h0:=h.below (Nat.le_refl _) hb0
 have h0d : Rep B w0.drew σ K M:=h0.below (Nat.le_refl _) (Below.refl _ _).drew
 obtain ⟨w2,hrun,hrep,hb2,hsz⟩:=h0d.lay hp hD hL (show B≤w0.heap.size by omega) n v
 rw [show w0.drew.heap.size=w0.heap.size from rfl] at hrun hrep hsz
 rw [Hb] at hrun
 have m0:=rc (i:=0) hx0 rfl
 have m1:=rc (i:=1) hx0 rfl
 have m2:=rc (i:=2) hx0 rfl
 have m3:=rc (i:=3) hx0 rfl
 have hk:=heap_last w0 (.cells #[.string (Ab n), .int .i64 v.1, .string (Ab v.2.1), .int .i64 v.2.2, .pointer (some ⟨K p,0,none⟩), .map none] 75) _ rfl
 have hb1 : Below w0.heap.size w0 (w0.alloc (.cells #[.string (Ab n), .int .i64 v.1, .string (Ab v.2.1), .int .i64 v.2.2, .pointer (some ⟨K p,0,none⟩), .map none] 75)):=(Below.refl _ _).alloc (Nat.le_refl _) _
 have hh:=(hb1.block _ (h0.lt hp)).trans (h0.place p hp).2
 have hx1:=(hb1.block _ (Ad hx0)).trans hx0
 unfold plC at hh
 rw [D5 hD] at hh
 have c5:=rc (i:=5) hh rfl
 have n0:=rc (i:=0) hx1 rfl
 have HR:=Ac (And.intro hrep (And.intro (((Mv.of hb0 hB).drew).trans hb2 (Nx.refl _ _)) hs0))
 clear h0 h0d h hrep hb2 hb0 hx0 hk hb1 hh hx1 hs0 hsz hD hL hp
 go_enter Tryz.func117,Tryz.ntmps117
 go_wp2_with fail
 try rw [hw0]
 go_wp2_with fail
 go_region
 go_wp2
 go_ret
 exact ⟨_,rfl,HR.out.1,HR.out.2.1,by have:=HR.out.2.2; omega⟩
end
end Go.Proofs.YtckejblkppllaaaGreatDoor
namespace Go.Proofs.YtckejblkppllaaaGreatDoor
open Go.RowKit
theorem at_len {σ τ : Tre} : ∀ (p : List Bs),(∀ q : List Bs,q.length<p.length→τ.names q = σ.names q)→At σ p→At τ p
 | [],_,_=>trivial
 | n :: p,h,hp=>⟨at_len p (fun q hq=>h q (by simp; omega)) hp.1,by rw [h p (by simp)]; exact hp.2⟩
theorem Pj {σ : Tre} {p q : List Bs} {n : Bs} (h : q≠p) : (Ca σ p n).names q = σ.names q:=by
 unfold Tre.names Ca
 simp only [Bf h]
theorem Ha {σ : Tre} {p : List Bs} {n : Bs} (hp : At σ p) : At (Ca σ p n) p:=
 at_len p (fun q hq=>Pj (fun e=>by rw [e] at hq; omega)) hp
theorem G1 (σ : Tre) (n : Bs) (p : List Bs) : Eb σ (n :: p)=if (σ.names p).erase n = []∧p ≠ [] then Eb (Ca σ p n) p else Ca σ p n:=rfl
theorem Io {σ : Tre} {p : List Bs} {n : Bs} (h : n ∈ σ.names p) : ∃ L,σ.D p=some L∧n∈L:=by
 cases hD : σ.D p with
 | none=>rw [Je hD] at h; cases h
 | some L=>rw [C2 hD] at h; exact ⟨L,rfl,h⟩
theorem len_kids {w : World} {b : Nat} {l : List (Value × Value)} (h : Mp.MapW w b l) (ty : TypeId) : (Builtin.len_ #[73] ty #[.map (some b)]).run Tryz.prog w = .ok (.int .i64 l.length) w:=by
 obtain ⟨es,ck,h1,h2,h3⟩:=h
 have hl : es.size=l.length:=by have:=h3.length_eq; simpa using this
 simp [Builtin.len_,run_underlying Tryz.underlying73,MapKept.run_getObj_map h1,Result.andThen,hl]
 rfl
set_option maxRecDepth 20000 in
set_option maxHeartbeats 1600000 in
theorem takeAway_any : ∀ (p : List Bs) (B : Nat) (w : World) (σ : Tre) (K M : List Bs→Nat) (n : Bs),Rep B w σ K M→Bn σ→At σ p→n ∈ σ.names p→B≤w.heap.size →
  Calls Tryz.prog 118 #[ptr (K p), .string (Ab n)] w fun e w'=>e = .returned (.tuple #[])∧Rep B w' (Eb σ (n :: p)) K M∧Mv B [] none w w':=by
 intro p
 induction p with
 | nil=>
  intro B w σ K M n h hr hp hn hB
  obtain ⟨L,hD,hL⟩:=Io hn
  have hh:=(h.place _ hp).2
  unfold plC at hh
  rw [D5 hD] at hh
  have c5:=rc (i:=5) hh rfl
  obtain ⟨w2,hrun,hrep,hb2,hsz⟩:=h.cut hp hD (hr _ L hD) hL 0
  have hDc : (Ca σ [] n).D []=some (L.erase n):=by unfold Ca; simp only [Bw]; rw [C2 hD]
  have hh2:=(hrep.place [] (Ha hp)).2
  unfold plC at hh2
  rw [D5 hDc] at hh2
  have d5:=rc (i:=5) hh2 rfl
  have hlen:=len_kids (hrep.map [] _ (Ha hp) hDc).2 3
  rw [List.length_map] at hlen
  have hir:=Nt hrep (Ha hp)
  have haw : Eb σ [n]=Ca σ [] n:=by rw [G1,if_neg (by simp)]
  have HR:=Ac (And.intro hrep hb2)
  rw [haw]
  clear hh hrep hb2 hh2 hDc hD hL hn h haw
  cases he : (L.erase n).length with
  | zero=>
   rw [he] at hlen
   clear he
   go_enter Tryz.func118,Tryz.ntmps118
   go_wp2_with fail
   refine hir.mono ?_
   rintro e w3 ⟨rfl,rfl⟩
   go_wp2
   go_end0
   exact ⟨rfl,HR.out⟩
  | succ k=>
   rw [he] at hlen
   clear he
   have hk0 : ((((k+1 : Nat) : Int)) == 0)=false:=by simp; omega
   go_enter Tryz.func118,Tryz.ntmps118
   go_wp2
   go_end0
   exact ⟨rfl,HR.out⟩
 | cons m r ih=>
  intro B w σ K M n h hr hp hn hB
  obtain ⟨L,hD,hL⟩:=Io hn
  have hh:=(h.place _ hp).2
  unfold plC at hh
  rw [D5 hD] at hh
  have c5:=rc (i:=5) hh rfl
  obtain ⟨w2,hrun,hrep,hb2,hsz⟩:=h.cut hp hD (hr _ L hD) hL 0
  have hDc : (Ca σ (m :: r) n).D (m :: r)=some (L.erase n):=by unfold Ca; simp only [Bw]; rw [C2 hD]
  have hself:=Ha (n:=n) hp
  have hh2:=(hrep.place _ hself).2
  unfold plC at hh2
  rw [D5 hDc] at hh2
  unfold upV at hh2
  have d5:=rc (i:=5) hh2 rfl
  have d4:=rc (i:=4) hh2 rfl
  have d0:=rc (i:=0) hh2 rfl
  have hlen:=len_kids (hrep.map _ _ hself hDc).2 3
  rw [List.length_map] at hlen
  have hir:=Nt hrep hself
  cases he : (L.erase n).length with
  | zero=>
   rw [he] at hlen
   have hnil : L.erase n = []:=List.length_eq_zero_iff.1 he
   have haw : Eb σ (n :: m :: r)=Eb (Ca σ (m :: r) n) (m :: r):=by rw [G1,if_pos ⟨by rw [C2 hD]; exact hnil,by simp⟩]
   have hup:=ih B w2.drew _ K M m (hrep.below (Nat.le_refl _) (Below.refl _ _).drew) (hr.cut _ _) hself.1 hself.2 (show B≤w2.heap.size by omega)
   rw [← haw] at hup
   have HR:=Ac (And.intro hb2 hh2)
   clear hh hrep hb2 hh2 hDc hD hL hn h haw he hnil hself
   have hdec : decide (m :: r = [])=false:=by simp
   rw [hdec] at hir
   clear hdec
   go_enter Tryz.func118,Tryz.ntmps118
   go_wp2_with fail
   refine hir.mono ?_
   rintro e w3 ⟨rfl,rfl⟩
   go_wp2_with fail
   simp only [hdN] at d0
   refine wp_region_held_drew (S:=fun W=>W.cell? ⟨K (m :: r),4,none⟩=some (ptr (K r))∧W.cell? ⟨K (m :: r),0,none⟩=some (.string (Ab m))) (by kernel_rfl) (⟨d4,d0⟩) (fun hHeld=>?_)
   refine Aa 0 hHeld ?_
   refine Aa 1 hHeld ?_
   refine Aa 2 hHeld ?_
   refine Aa 3 hHeld ?_
   refine Aa 4 hHeld ?_
   refine Aa 5 hHeld ?_
   refine Aa 6 hHeld ?_
   refine Aa 7 hHeld ?_
   refine Aa 8 hHeld ?_
   refine Ai (i:=9) rfl (by kernel_rfl) rfl (fun K hK=>?_)
   go_simp
   refine hup.mono ?_
   rintro e w4 ⟨rfl,hrep4,hm4⟩
   have h4:=hm4.k _ _ _ _ HR.out.2 (by simp) (by simp)
   refine hK.out _ _ (⟨rc (i:=4) h4 rfl,rc (i:=0) h4 rfl⟩) (fun hHeld=>?_)
   clear hK K
   try simp only [Act.put,List.setIfInBounds_toArray,List.set_cons_zero,List.set_cons_succ]
   refine wpAnyH_done (by kernel_rfl) ?_ _
   go_wp2
   go_end0
   exact ⟨rfl,hrep4,(HR.out.1.drew).trans hm4 (Nx.refl _ _)⟩
  | succ k=>
   rw [he] at hlen
   have haw : Eb σ (n :: m :: r)=Ca σ (m :: r) n:=by rw [G1,if_neg (by rw [C2 hD]; rintro ⟨e,-⟩; rw [e] at he; cases he)]
   have HR:=Ac (And.intro hrep hb2)
   rw [haw]
   clear hh hrep hb2 hh2 hDc hD hL hn h haw he
   have hk0 : ((((k+1 : Nat) : Int)) == 0)=false:=by simp; omega
   go_enter Tryz.func118,Tryz.ntmps118
   go_wp2
   go_end0
   exact ⟨rfl,HR.out⟩
end Go.Proofs.YtckejblkppllaaaGreatDoor
namespace Go.Proofs.YtckejblkppllaaaGreatDoor
open Go.RowKit
section
variable {fd : Bs→Option Bs} {σ : Tre} {p q : List Bs}
theorem suf_ne {n : Bs} (h : ¬ p <:+ q) : q≠p∧q≠n :: p:=
 ⟨fun e=>h (e ▸ List.suffix_refl _),fun e=>h (e ▸ List.suffix_cons _ _)⟩
theorem suf_up {n : Bs} (h : ¬ p <:+ q) : ¬ (n :: p) <:+ q:=fun e=>h ((List.suffix_cons n p).trans e)
theorem Po {n : Bs} {v : Val} (h1 : q≠n :: p) (h2 : q≠p) : (Be σ p n v).names q = σ.names q:=by
 unfold Tre.names; rw [Fj h1 h2]
theorem Hf (h : q≠p) : (A9 σ p).D q = σ.D q:=by unfold A9; exact Bf h
theorem Mq : ∀ (l : List Ent) (σ : Tre),¬ p <:+ q→(Dg σ p l).D q = σ.D q
 | [],_,_=>rfl
 | x :: r,σ,h=>by
  show (Dg (Be σ p x.1 x.2) p r).D q=_
  rw [Mq r _ h,Fj (suf_ne h).2 (suf_ne (n:=x.1) h).1]
theorem into_D_other (h : ¬ p <:+ q) : (Cn fd σ p).2.D q = σ.D q:=by
 unfold Cn
 split
 ·rfl
 ·split
  ·rfl
  ·split
   ·rfl
   ·show (Dg _ _ _).D q=_
    rw [Mq _ _ h,Hf (suf_ne (n:=[]) h).1]
theorem not_suf (n : Bs) (p : List Bs) : ¬ (n :: p) <:+ p:=fun h=>by
 have:=h.length_le
 simp only [List.length_cons] at this
 omega
end
end Go.Proofs.YtckejblkppllaaaGreatDoor
