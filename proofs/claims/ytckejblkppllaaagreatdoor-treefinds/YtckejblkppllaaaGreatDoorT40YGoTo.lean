/-
  Going to a path; a directory's entries. Conditions: the get's objects lie there; lengths within reach.
-/
import Derived.Test.YtckejblkppllaaaGreatDoorT39ASeq
namespace Go.Proofs.YtckejblkppllaaaGreatDoor
open Go.RowKit
def Stand (B : Nat) (w : World) : Nat→List Bs→Prop
 | k,[]=>B≤k∧∃ x inn,w.heap[k]? = some (.cells (Em x (.pointer none) inn) 75)
 | k,n :: p=>B≤k∧∃ v inn k',w.heap[k]? = some (.cells (Em (n,v) (.pointer (some ⟨k',0,none⟩)) inn) 75)∧Stand B w k' p
theorem Stand.below {B S : Nat} {w w' : World} (hb : Below S w w') (hS : w.heap.size≤S) : ∀ {p : List Bs} {k : Nat},Stand B w k p→Stand B w' k p
 | [],_,⟨h1,x,i,h2⟩=>⟨h1,x,i,(hb.block _ (Nat.lt_of_lt_of_le (Ad h2) hS)).trans h2⟩
 | _ :: _,_,⟨h1,v,i,k',h2,h3⟩=>⟨h1,v,i,k',(hb.block _ (Nat.lt_of_lt_of_le (Ad h2) hS)).trans h2,Stand.below hb hS h3⟩
def goToP (B : Nat) (w : World) (r : Int × Ent) (p : List Bs) (e : Ending) : Prop:=
 if r.1≠0 then e = .returned (.tuple #[.pointer none, .int .i64 r.1])
 else ∃ k up,e = .returned (.tuple #[.pointer (some ⟨k,0,none⟩), .int .i64 0])∧w.heap[k]? = some (.cells (Em r.2 up (.map none)) 75)∧Stand B w k p
theorem name_key {n : Bs} (h : Pa.Pt.name n=true) : As n=true:=by
 have:=of_decide_eq_true h
 unfold As
 exact decide_eq_true ⟨this.1,this.2.1⟩
theorem I4 {l : Bs} (h : Pa.Pt.path l=true) : ∀ n∈Pa.Pt.parts l,Pa.Pt.name n=true:=fun n hn=>Pa.Pt.few_all h n hn
theorem eql_nilG (W : World) (c : Nat) : (binOp .eql 24 (Cf c) .nilFunc).run Tryz.prog W = .ok (.bool false) W:=eql_nilF W _ _
theorem Kg : ∀ {a : List Ag} {l : List Ent} {x : Ag} {v : Val},Db a=some l→Dc x.1 x.2=some v→Db (a ++ [x])=some (l ++ [(x.1,v)])
 | [],l,x,v,h,hv=>by
  rw [Db] at h
  injection h with h
  subst h
  simp only [List.nil_append,Db,hv]
 | y :: r,l,x,v,h,hv=>by
  rw [Db] at h
  rw [List.cons_append,Db]
  cases hy : Dc y.1 y.2 with
  | none=>simp only [hy] at h; cases h
  | some u=>
   cases hr : Db r with
   | none=>simp only [hy,hr] at h; cases h
   | some m=>
    simp only [hy,hr] at h
    injection h with h
    simp only [Kg hr hv]
    rw [← h]
    rfl
theorem J4 : ∀ {a : List Ag} {x : Ag},x∈a→Dc x.1 x.2=none→Db a=none
 | y :: r,x,hx,hv=>by
  rw [Db]
  rcases List.mem_cons.1 hx with rfl | hx
  ·rw [hv]
  ·cases hy : Dc y.1 y.2 with
   | none=>rfl
   | some u=>simp only [J4 hx hv]
theorem entsE_few (fd : Bs→Option Bs) (hs : ∀ id b,fd id=some b→b.length≤140737488355328) (d : Ent) : (Dt fd d).2.length≤4160:=by
 unfold Dt
 split
 ·simp
 ·split
  ·simp
  ·unfold Fh
   cases h : Db (Co fd d.2.2.1 [] []).out with
   | none=>simp
   | some l=>
    have h1:=congrArg List.length (N4 _ _ h)
    rw [List.length_map,List.length_map] at h1
    rw [h1]
    exact (Lk fd hs d.2.2.1 [] []).2
theorem Lu : ∀ x : Ent,(Dk x).length=4:=fun _=>rfl
theorem Tryz.zEntY : (Tryz.prog.info? 27).map (fun i=>(i.zero,i.size,i.bytes))=some (some (.agg #[.string ⟨#[]⟩, .int .i64 0, .string ⟨#[]⟩, .int .i64 0]),4,48):=by kernel_rfl
theorem app_ent (w : World) (B : Nat) (v : Value) (xs : List Ent) (x : Ent) (h : Rw B w 27 4 Dk v xs) (hB : B≤w.heap.size) (hn : xs.length≤4294967296) :
  ∃ v' w',(Builtin.append_ #[32,32] 32 #[v, .slice (some ⟨w.heap.size,0,none⟩) 1 1]).run Tryz.prog (w.alloc (.cells #[.string (Ab x.1), .int .i64 x.2.1, .string (Ab x.2.2.1), .int .i64 x.2.2.2] 27)) = .ok v' w' ∧
   Rw B w' 27 4 Dk v' (xs ++ [x])∧(w.alloc (.cells #[.string (Ab x.1), .int .i64 x.2.1, .string (Ab x.2.2.1), .int .i64 x.2.2.2] 27)).grownBy w' v.ownBlock∧(v'.ownBlock=v.ownBlock∨v'.ownBlock=some (w.heap.size+1)):=by
 obtain ⟨i0,hi,hz0,hz1,hz2⟩:=info_parts Tryz.zEntY
 have hx:=heap_last w (.cells #[.string (Ab x.1), .int .i64 x.2.1, .string (Ab x.2.2.1), .int .i64 x.2.2.2] 27) _ rfl
 obtain ⟨v',w',h1,h2,h3,-,h4⟩:=run_append_own_at (P:=Tryz.prog) (w.alloc (.cells #[.string (Ab x.1), .int .i64 x.2.1, .string (Ab x.2.2.1), .int .i64 x.2.2.2] 27)) B 32 32 27 i0 (.agg #[.string ⟨#[]⟩, .int .i64 0, .string ⟨#[]⟩, .int .i64 0]) 4 48 Tryz.underlying32 hi hz0 hz1 hz2 rfl (by decide) v xs.length (xs.flatMap Dk) (h.alloc _) ⟨w.heap.size,0,none⟩ 1 1 (Dk x) rfl (fun j u hu=>by
   rw [Addr.add_lit,Nat.zero_add,cell_of_row _ _ _ _ _ _ hx,List.getElem?_toArray]; exact hu) (by simp [Dk,Value.oneCell']) (by unfold maxLen; omega) (by omega) (by simp; omega)
 refine ⟨v',w',h1,?_,h3,by simpa using h4⟩
 unfold Rw
 rw [List.length_append,List.flatMap_append]
 simpa using h2
set_option maxRecDepth 40000 in
set_option maxHeartbeats 1200000 in
theorem tents_any (w : World) (B c : Nat) (v : Value) (objs : List Ag) (hG : Gf B w c v objs) (hB : B≤w.heap.size) (d : Ent) :
  Calls Tryz.prog 34 #[.agg #[Cf c],E0 d] w fun e w'=>∃ ve,e = .returned (.tuple #[ve, .int .i64 (Dt (Aj objs) d).1])∧Rw w.heap.size w' 27 4 Dk ve (Dt (Aj objs) d).2∧Below w.heap.size w w':=by
 obtain ⟨w0,hw0⟩ : ∃ w0,(w.alloc (.cells #[Cf c] 71)).alloc (.cells #[.string (Ab d.1), .int .i64 d.2.1, .string (Ab d.2.2.1), .int .i64 d.2.2.2] 27)=w0:=⟨_,rfl⟩
 have hb0 : Below w.heap.size w w0:=by rw [← hw0]; exact ((Below.refl _ _).alloc (Nat.le_refl _) _).alloc (by simp) _
 have hr0 : w0.heap[w.heap.size]? = some (.cells #[Cf c] 71):=by rw [← hw0]; exact (heap_past _ _ _ (by simp)).trans (heap_last w _ _ rfl)
 have hd0 : w0.heap[w.heap.size+1]? = some (.cells #[.string (Ab d.1), .int .i64 d.2.1, .string (Ab d.2.2.1), .int .i64 d.2.2.2] 27):=by rw [← hw0]; exact heap_last _ _ _ (by simp)
 have hs0 : w0.heap.size=w.heap.size+2:=by rw [← hw0]; simp
 have a0:=rc (i:=0) hr0 rfl
 have a2:=rc (i:=2) hd0 rfl
 have hli:=glist_any w0 B c v objs (hG.below (hb0.mono hB)) (by omega) d.2.2.1
 have hpk:=N5 (fd:=Aj objs) (Fy hG.short) d.2.2.1
 have hfew:=(Lk (Aj objs) (Fy hG.short) d.2.2.1 [] []).2
 unfold Dt
 generalize Co (Aj objs) d.2.2.1 [] []=L at *
 have HX:=Ac (And.intro hd0 (And.intro hb0 hs0))
 clear hb0 hr0 hd0 hs0
 by_cases hbad : L.bad≠0
 ·rw [if_pos hbad]
  simp only
  have q1 : (L.bad != 0)=true:=by simpa using hbad
  clear hbad
  go_enter Tryz.func34,Tryz.ntmps34
  go_wp2_with fail
  try rw [hw0]
  go_wp2_with fail
  refine hli.mono ?_
  rintro e w1 ⟨vp,rfl,hrow,hb1⟩
  obtain ⟨va,vm,vc,rfl⟩:=Av hrow
  have HB:=Ac (HX.out.2.1.trans (hb1.mono HX.out.2.1.size))
  clear hli hrow hb1 a0 a2
  go_wp2
  go_ret2
  exact ⟨_,rfl,World.ownsRow_nil _ _ _ _,HB.out⟩
 ·rw [if_neg hbad]
  have q1 : (L.bad != 0)=false:=by simpa using hbad
  have hout : Es L=L.out:=by unfold Es; rw [if_pos (by simpa using hbad)]
  rw [hout] at hli
  generalize L.out=ps at *
  obtain ⟨n,hn⟩ : ∃ n,n=ps.length:=⟨_,rfl⟩
  rw [← hn] at hfew ⊢
  have HN:=Ac hn
  clear hbad hout
  obtain ⟨nm,hnm⟩ : ∃ nm,nm=(Ab d.1).toList:=⟨_,rfl⟩
  have hnm2 : (Ab d.1).toList=d.1:=toL d.1
  by_cases hsz : d.1 ≠ []∧d.2.2.2≠(n : Int)
  ·rw [if_pos hsz]
   simp only
   have q2 : (d.1 == [])=false:=by simpa using hsz.1
   have q3 : (d.1 != [])=true:=by simpa using hsz.1
   have q4 : (d.2.2.2 != (n : Int))=true:=by simpa using hsz.2
   clear hsz
   go_enter Tryz.func34,Tryz.ntmps34
   go_wp2_with fail
   try rw [hw0]
   go_wp2_with fail
   refine hli.mono ?_
   rintro e w1 ⟨vp,rfl,hrow,hb1⟩
   obtain ⟨pa,pc,rfl,-⟩:=Bj hrow
   rw [← hn]
   have d1:=(hb1.block _ (Ad HX.out.1)).trans HX.out.1
   have e0:=rc (i:=0) d1 rfl
   have e3:=rc (i:=3) d1 rfl
   have HB:=Ac (HX.out.2.1.trans (hb1.mono HX.out.2.1.size))
   clear hli hrow hb1 a0 a2 d1 hn hnm
   go_wp2
   go_ret2
   exact ⟨_,rfl,World.ownsRow_nil _ _ _ _,HB.out⟩
  ·rw [if_neg hsz]
   obtain ⟨b,hb⟩ : ∃ b,(d.1 != [])=b:=⟨_,rfl⟩
   have hbs : b=true→(d.2.2.2 != (n : Int))=false:=by
    rintro rfl
    by_cases h2 : d.2.2.2=(n : Int)
    ·simp [h2]
    ·exact absurd ⟨by simpa using hb,h2⟩ hsz
   have hb2 : (d.1 == []) = !b:=by rw [← hb]; simp [bne]
   obtain ⟨R,hR⟩ : ∃ R,R=Fh ps:=⟨_,rfl⟩
   rw [← hR]
   have HR:=Ac hR
   clear hsz hR hnm hn
   cases b
   all_goals
    simp only [Bool.not_false,Bool.not_true,true_implies,reduceCtorEq,false_implies] at hb2 hbs
    go_enter Tryz.func34,Tryz.ntmps34
    go_wp2_with fail
    try rw [hw0]
    go_wp2_with fail
    refine hli.mono ?_
    rintro e w1 ⟨vp,rfl,hrow,hb1⟩
    obtain ⟨pa,pc,rfl,-⟩:=Bj hrow
    rw [← HN.out]
    have d1:=(hb1.block _ (Ad HX.out.1)).trans HX.out.1
    have e0:=rc (i:=0) d1 rfl
    have e3:=rc (i:=3) d1 rfl
    have hls : Ls w1.heap.size w1 2 Ak (.slice pa n pc) ps:=by rw [HN.out]; exact Bi Dr hrow
    obtain ⟨ao',cap',hv',-,-,hcells⟩:=hls
    have hpa : pa=ao':=by injection hv'
    have HB:=Ac (HX.out.2.1.trans (hb1.mono HX.out.2.1.size))
    clear hli hrow hb1 a0 a2 d1 hv'
    subst hpa
    go_wp2_with fail
    obtain ⟨S,hS⟩ : ∃ S,S=w1.heap.size:=⟨_,rfl⟩
    have HS:=Ac hS
    rw [← hS] at hcells
    clear hS
    go_loopw [8,36] (fun t u wr=>∃ (k : Nat) (out : List Ent),k≤n∧u = .int .i64 k∧Db (ps.take k)=some out∧out.length≤k∧Rw S wr 27 4 Dk t out∧Below S w1 wr)
     (fun _ u _=>n - (intOf u).toNat)
    case atStart=>exact ⟨0,[],by omega,rfl,rfl,by simp,World.ownsRow_nil _ _ _ _,Below.refl _ _⟩
    case round=>
     obtain ⟨k,out,hk,rfl,htk,hol,hro,hbr⟩:=hrel
     obtain ⟨oa,oc,hov,-⟩:=Bj hro
     obtain ⟨ol,hol2⟩ : ∃ ol,ol=out.length:=⟨_,rfl⟩
     rw [← hol2] at hov
     subst hov
     by_cases hlt : k<n
     ·have hlt2 : k<ps.length:=by have:=HN.out; omega
      obtain ⟨pb,off,rfl,hpb,hc⟩:=hcells (by rintro rfl; simp at hlt2)
      have c0:=(hbr.cell (p:=⟨pb,off+k * 2+0,none⟩) hpb).trans (hc k hlt2 0 _ rfl)
      have c1:=(hbr.cell (p:=⟨pb,off+k * 2+1,none⟩) hpb).trans (hc k hlt2 1 _ rfl)
      simp only [Nat.add_zero] at c0
      have hpx:=hpk ps[k] (List.getElem_mem hlt2)
      have hmem:=List.getElem_mem hlt2
      have htk2 : ps.take (k+1)=ps.take k ++ [ps[k]]:=by rw [List.take_add_one]; simp [hlt2]
      generalize ps[k]=x at *
      have hxl : x.1.length≤64∧x.2.length≤128:=by
       unfold A3 As at hpx
       simp only [Bool.and_eq_true,decide_eq_true_eq] at hpx
       exact ⟨hpx.1.2,hpx.2⟩
      have hta:=fun W=>ttake_any W x.1 x.2 (by omega) (by omega)
      unfold E5 at hta
      have HH:=Ac (And.intro hro (And.intro hbr (And.intro htk (And.intro htk2 hol2))))
      clear hro hbr htk htk2 hol2 hc hcells
      cases hte : Dc x.1 x.2 with
      | none=>
       rw [hte] at hta
       simp only at hta
       have hRn:=Ac (show R=(163,[]) by rw [HR.out]; unfold Fh; rw [J4 hmem hte])
       clear hmem hte
       go_wp2_with fail
       refine (hta _).mono ?_
       rintro e w3 ⟨rfl,hb3⟩
       have hbw : Below w.heap.size w1 wr:=HH.out.2.1.mono (by have:=HS.out; have:=HB.out.size; omega)
       have hsw : w.heap.size≤wr.heap.size:=Nat.le_trans HB.out.size hbw.size
       have HB3:=Ac ((hbw.alloc hsw (.cells #[.string (Ab x.1), .string (Ab x.2)] 135)).trans (hb3.mono (by simp; omega)))
       clear hta hb3
       go_wp2
       go_ret2
       rw [hRn.out]
       exact ⟨_,rfl,World.ownsRow_nil _ _ _ _,(HB.out.trans HB3.out).alloc (HB.out.trans HB3.out).size _⟩
      | some v=>
       rw [hte] at hta
       simp only at hta
       go_wp2_with fail
       refine (hta _).mono ?_
       rintro e w3 ⟨rfl,hb3⟩
       have hs1 : S≤wr.heap.size:=by have:=HH.out.2.1.size; have:=HS.out; omega
       have hbA : Below S w1 w3:=(HH.out.2.1.alloc hs1 (.cells #[.string (Ab x.1), .string (Ab x.2)] 135)).trans (hb3.mono (by simp; omega))
       have hrA : Rw S w3 27 4 Dk (.slice oa ol oc) out:=A0 (HH.out.1.alloc _) hb3
       have hs3 : S≤w3.heap.size:=by have:=hbA.size; have:=HS.out; omega
       have hrB:=hrA.alloc (.cells #[.string (Ab x.1), .int .i64 v.1, .string (Ab v.2.1), .int .i64 v.2.2] 27)
       have hbB:=hbA.alloc hs3 (.cells #[.string (Ab x.1), .int .i64 v.1, .string (Ab v.2.1), .int .i64 v.2.2] 27)
       have hy:=heap_last w3 (.cells #[.string (Ab x.1), .int .i64 v.1, .string (Ab v.2.1), .int .i64 v.2.2] 27) _ rfl
       have hsz4 : (w3.alloc (.cells #[.string (Ab x.1), .int .i64 v.1, .string (Ab v.2.1), .int .i64 v.2.2] 27)).heap.size=w3.heap.size+1:=by simp
       generalize hw4 : w3.alloc (.cells #[.string (Ab x.1), .int .i64 v.1, .string (Ab v.2.1), .int .i64 v.2.2] 27)=w4 at *
       have y0:=rc (i:=0) hy rfl
       have y1:=rc (i:=1) hy rfl
       have y2:=rc (i:=2) hy rfl
       have y3:=rc (i:=3) hy rfl
       obtain ⟨v5,w5,hrun5,hown5,hgr5,-⟩:=app_ent w4 S _ _ (x.1,v) hrB (by omega) (by omega)
       have hbC:=hbB.alloc (show S≤w4.heap.size by omega) (.cells #[.string (Ab x.1), .int .i64 v.1, .string (Ab v.2.1), .int .i64 v.2.2] 27)
       have hbD : Below S w1 w5:=hbC.grown hgr5 (by simp; omega) (fun q hq=>(hrB.lt q hq).1)
       obtain ⟨fa,fm,fc,rfl⟩:=Av hown5
       have H5:=Ac (And.intro hown5 hbD)
       clear hta hb3 hbA hrA hrB hbB hy hown5 hgr5 hbC hbD hmem hsz4
       go_wp2_with (at_builtin; refine wpList_plain rfl (fun K hK=>Cz (.tmp 51) (.tmp 53) 32 rfl rfl rfl hrun5 (hK _ _ ?_)))
       go_roundw
       case rel=>exact ⟨k+1,out ++ [(x.1,v)],by omega,by go_num,by rw [HH.out.2.2.2.1]; exact Kg HH.out.2.2.1 hte,by simp; omega,H5.out.1,H5.out.2⟩
       case measure=>simp [intOf]; omega
     ·have hkn : k=n:=by omega
      have hall : Db ps=some out:=by rw [← htk,hkn,HN.out,List.take_length]
      have hRn:=Ac (show R=(0,out) by rw [HR.out]; unfold Fh; rw [hall])
      have hsS : w.heap.size≤S:=by have:=HB.out.size; have:=HS.out; omega
      have HO:=Ac (And.intro (Dh hro hsS) (HB.out.trans (hbr.mono hsS)))
      have q5 : decide ((k : Int)<(n : Int))=false:=decide_eq_false (by omega)
      clear hro hbr htk hall hcells
      go_wp2
      go_ret2
      rw [hRn.out]
      exact ⟨_,rfl,HO.out.1,HO.out.2⟩
end Go.Proofs.YtckejblkppllaaaGreatDoor
