/-
  Texts joined: OTake, OTakes, ORise, OSay, OTop1.
-/
import Derived.Test.YtckejblkppllaaaGreatDoorT7OMake
import Derived.Deep.Onto
namespace Go.Proofs.YtckejblkppllaaaGreatDoor
open Go.RowKit
variable {N : Nat}
theorem Gb {w a : World} {r : Option Nat} {n i : Nat} {u : Value} (h : w.grownBy a r) (hn : w.heap.size≤n) : w.grownBy (a.setCell ⟨n,i,none⟩ u) r:=by
 have k:=Ar a n i u
 exact ⟨k.os.trans h.os,k.tape.trans h.tape,k.output.trans h.output,Nat.le_trans h.size k.size,fun j hj hr=>(k.block j (Nat.lt_of_lt_of_le hj h.size) (fun e=>by injection e with e; omega)).trans (h.block j hj hr)⟩
theorem gb_new {w a b : World} {r row : Option Nat} (h : w.grownBy a r) (k : a.grownBy b row) (hrow : ∀ q,row=some q→w.heap.size≤q) : w.grownBy b r:=
 ⟨k.os.trans h.os,k.tape.trans h.tape,k.output.trans h.output,Nat.le_trans h.size k.size,fun j hj hr=>(k.block j (Nat.lt_of_lt_of_le hj h.size) (fun e=>by have:=hrow j e.symm; omega)).trans (h.block j hj hr)⟩
theorem Rd.set {w : World} {g : Nat} {l : Bs} {s : Pos} {n i : Nat} {u : Value} (h : Rd N w g l s) (hn : g<n∨n<N∧n≠g) : Rd N (w.setCell ⟨n,i,none⟩ u) g l s:=by
 have hl:=h.lt
 obtain ⟨v,h1,h2,h3⟩:=h
 exact ⟨v,((Ar w n i u).block g hl (fun e=>by injection e with e; omega)).trans h1,fun w' hu=>h2 w' (D1 (und_set w u hl (by omega)) hu),h3⟩
theorem Rd.grown {a b : World} {g : Nat} {l : Bs} {s : Pos} {row : Option Nat} (h : Rd N a g l s) (k : a.grownBy b row) (hrow : ∀ q,row=some q→g<q) : Rd N b g l s:=by
 have hl:=h.lt
 obtain ⟨v,h1,h2,h3⟩:=h
 refine ⟨v,(k.block g hl (fun e=>by have:=hrow g e.symm; omega)).trans h1,fun w' hu=>h2 w' (D1 ⟨k.size,fun j _ hj=>k.block j (by omega) (fun e=>by have:=hrow j e.symm; omega)⟩ hu),h3⟩
theorem Ds {B : Nat} {w : World} {g size : Nat} {v : Value} {n : Nat} {xs : List Value} {cs : Array Value} {t e : TypeId} {fr : Nat × Nat} (hown : w.ownsRow B e size v n xs) (hh : w.heap[g]? = some (.cells cs t fr)) (hte : t≠e) : v.ownBlock≠some g:=by
 intro hk
 obtain ⟨c,fz,h1⟩:=Lib.ownsRow_kind hown g hk
 rw [hh] at h1
 injection h1 with h1
 injection h1 with _ h1
 exact hte h1
theorem Rd.heap {w : World} {g : Nat} {l : Bs} {s : Pos} (h : Rd N w g l s) : ∃ cs,w.heap[g]? = some (.cells cs 298):=by
 obtain ⟨v,h1,_⟩:=h
 exact ⟨_,h1⟩
theorem rC_le (l : Bs) (most : Int) (s : Pos) (h : 0≤most) : 0≤(rC l most s).1∧(rC l most s).1≤most:=by
 unfold rC
 split
 ·exact ⟨Int.le_refl _,h⟩
 ·omega
theorem rN_step {α : Type} (one : Pos→α × Pos) : ∀ (n : Nat) (s : Pos) (k : Nat),k≤n→rN one n s=((rN one k s).1++(rN one (n - k) (rN one k s).2).1,(rN one (n - k) (rN one k s).2).2)
 | n,s,0,_=>by simp [rN]
 | 0,s,k+1,h=>by omega
 | n+1,s,k+1,h=>by
  have ih:=rN_step one n (one s).2 k (by omega)
  simp only [rN]
  rw [show n+1 - (k+1)=n - k from by omega,ih]
  simp
theorem Hm {α : Type} (one : Pos→α × Pos) (k : Nat) (s : Pos) : rN one (k+1) s=((rN one k s).1 ++ [(one (rN one k s).2).1],(one (rN one k s).2).2):=by
 rw [rN_step one (k+1) s k (by omega),show k+1 - k=1 from by omega]
 rfl
theorem Hp {α : Type} (one : Pos→α × Pos) : ∀ (n : Nat) (s : Pos),(rN one n s).1.length=n
 | 0,_=>rfl
 | n+1,s=>by simp [rN,Hp one n]
theorem Tryz.infoPart : (Tryz.prog.info? 60).map (·.size)=some 2:=by kernel_rfl
theorem Tryz.infoPair : (Tryz.prog.info? 135).map (·.size)=some 2:=by kernel_rfl
theorem Tryz.infoLink : (Tryz.prog.info? 125).map (·.size)=some 3:=by kernel_rfl
theorem Bm {w : World} {g : Nat} {v0 v1 v2 u0 u1 u2 : Value} {t : TypeId} (h : w.heap[g]? = some (.cells #[v0,v1,v2] t)) : (((w.setCell ⟨g,0,none⟩ u0).setCell ⟨g,1,none⟩ u1).setCell ⟨g,2,none⟩ u2).heap[g]? = some (.cells #[u0,u1,u2] t):=by
 rw [heap_setCell _ _ _ _ _ _ _ (heap_setCell _ _ _ _ _ _ _ (heap_setCell _ _ _ _ _ _ _ h))]
 simp
set_option maxRecDepth 20000 in
theorem J5 (w : World) (g : Nat) (l : Bs) (s : Pos) (h : Rd N w g l s) (hl : l.length≤140737488355328) :
  Bq N 154 #[.pointer (some ⟨g,0,none⟩)] w g l (.agg #[.string (Ab (E8 l s).1.1), .int .i64 (E8 l s).1.2]) (E8 l s).2:=by
 have hgn:=h.lt
 have hx0:=heap_last w (.cells #[.string ⟨#[]⟩, .int .i64 0] 60) _ rfl
 have h0:=h.alloc (.cells #[.string ⟨#[]⟩, .int .i64 0] 60)
 have hg0:=Hk w (.cells #[.string ⟨#[]⟩, .int .i64 0] 60) (some g)
 have hn0 : w.heap.size<(w.alloc (.cells #[.string ⟨#[]⟩, .int .i64 0] 60)).heap.size:=by simp
 unfold Bq E8  rP
 dsimp only
 have H0:=Ac h0
 clear h h0
 generalize hw0 : w.alloc (.cells #[.string ⟨#[]⟩, .int .i64 0] 60)=w0 at *
 go_enter Tryz.func154,Tryz.ntmps154
 go_wp2_with fail
 try rw [hw0]
 have hT1:=Mm w0 g l (s) H0.out hl
 unfold Bq at hT1
 skip
 refine hT1.mono ?_
 rintro e w1 ⟨rfl,hR1,hg1⟩
 have hx1:=(hg1.block _ (Ad hx0) (fun e=>by injection e with e; omega)).trans hx0
 have hG1:=A7 hg0 hg1
 have HR1:=Ac hR1
 clear hR1 hT1
 have hT2:=Lw w1 g l ((rD l (s)).2) HR1.out hl
 unfold Bq at hT2
 go_wp2_with fail
 refine hT2.mono ?_
 rintro e w2 ⟨rfl,hR2,hg2⟩
 have hx2:=(hg2.block _ (Ad hx1) (fun e=>by injection e with e; omega)).trans hx1
 have hG2:=A7 hG1 hg2
 have HR2:=Ac hR2
 clear hR2 hT2
 have c0:=cell_of_row w2 w.heap.size 0 _ _ _ hx2
 simp only [List.getElem?_toArray,List.getElem?_cons_zero] at c0
 have f0:=Af (j:=0) hx2
 have c1:=cell_of_row w2 w.heap.size 1 _ _ _ hx2
 simp only [List.getElem?_toArray,List.getElem?_cons_zero,List.getElem?_cons_succ] at c1
 have f1:=Af (j:=1) hx2
 go_wp2
 refine bodyPost_ret (results_cell_row rfl _ _ _ _ _ _ _ rfl (Cm hx2) Tryz.underlying60 rfl Tryz.infoPart) rfl ⟨rfl,((HR2.out.set (.inl hgn)).set (.inl hgn)),(Gb (Gb hG2 (Nat.le_refl _)) (Nat.le_refl _))⟩
set_option maxRecDepth 20000 in
theorem takePair_any (w : World) (g : Nat) (l : Bs) (s : Pos) (h : Rd N w g l s) (hl : l.length≤140737488355328) :
  Bq N 243 #[.pointer (some ⟨g,0,none⟩)] w g l (.agg #[.string (Ab (Ch l l.length l.length s).1.1), .string (Ab (Ch l l.length l.length s).1.2)]) (Ch l l.length l.length s).2:=by
 have hgn:=h.lt
 have hx0:=heap_last w (.cells #[.string ⟨#[]⟩, .string ⟨#[]⟩] 135) _ rfl
 have h0:=h.alloc (.cells #[.string ⟨#[]⟩, .string ⟨#[]⟩] 135)
 have hg0:=Hk w (.cells #[.string ⟨#[]⟩, .string ⟨#[]⟩] 135) (some g)
 have hn0 : w.heap.size<(w.alloc (.cells #[.string ⟨#[]⟩, .string ⟨#[]⟩] 135)).heap.size:=by simp
 unfold Bq Ch  rP
 dsimp only
 have H0:=Ac h0
 clear h h0
 generalize hw0 : w.alloc (.cells #[.string ⟨#[]⟩, .string ⟨#[]⟩] 135)=w0 at *
 go_enter Tryz.func243,Tryz.ntmps243
 go_wp2_with fail
 try rw [hw0]
 have hT1:=Js w0 g l (s) H0.out hl
 unfold Bq at hT1
 skip
 refine hT1.mono ?_
 rintro e w1 ⟨rfl,hR1,hg1⟩
 have hx1:=(hg1.block _ (Ad hx0) (fun e=>by injection e with e; omega)).trans hx0
 have hG1:=A7 hg0 hg1
 have HR1:=Ac hR1
 clear hR1 hT1
 have hT2:=Js w1 g l ((rT l l.length (s)).2) HR1.out hl
 unfold Bq at hT2
 go_wp2_with fail
 refine hT2.mono ?_
 rintro e w2 ⟨rfl,hR2,hg2⟩
 have hx2:=(hg2.block _ (Ad hx1) (fun e=>by injection e with e; omega)).trans hx1
 have hG2:=A7 hG1 hg2
 have HR2:=Ac hR2
 clear hR2 hT2
 have c0:=cell_of_row w2 w.heap.size 0 _ _ _ hx2
 simp only [List.getElem?_toArray,List.getElem?_cons_zero] at c0
 have f0:=Af (j:=0) hx2
 have c1:=cell_of_row w2 w.heap.size 1 _ _ _ hx2
 simp only [List.getElem?_toArray,List.getElem?_cons_zero,List.getElem?_cons_succ] at c1
 have f1:=Af (j:=1) hx2
 go_wp2
 refine bodyPost_ret (results_cell_row rfl _ _ _ _ _ _ _ rfl (Cm hx2) Tryz.underlying135 rfl Tryz.infoPair) rfl ⟨rfl,((HR2.out.set (.inl hgn)).set (.inl hgn)),(Gb (Gb hG2 (Nat.le_refl _)) (Nat.le_refl _))⟩
set_option maxRecDepth 20000 in
theorem takeLink_any (w : World) (g : Nat) (l : Bs) (s : Pos) (h : Rd N w g l s) (hl : l.length≤140737488355328) :
  Bq N 246 #[.pointer (some ⟨g,0,none⟩)] w g l (.agg #[.string (Ab (Bz l l.length s).1.1), .string (Ab (Bz l l.length s).1.2.1), .int .i64 (Bz l l.length s).1.2.2]) (Bz l l.length s).2:=by
 have hgn:=h.lt
 have hx0:=heap_last w (.cells #[.string ⟨#[]⟩, .string ⟨#[]⟩, .int .i64 0] 125) _ rfl
 have h0:=h.alloc (.cells #[.string ⟨#[]⟩, .string ⟨#[]⟩, .int .i64 0] 125)
 have hg0:=Hk w (.cells #[.string ⟨#[]⟩, .string ⟨#[]⟩, .int .i64 0] 125) (some g)
 have hn0 : w.heap.size<(w.alloc (.cells #[.string ⟨#[]⟩, .string ⟨#[]⟩, .int .i64 0] 125)).heap.size:=by simp
 unfold Bq Bz E8 rP
 dsimp only
 have H0:=Ac h0
 clear h h0
 generalize hw0 : w.alloc (.cells #[.string ⟨#[]⟩, .string ⟨#[]⟩, .int .i64 0] 125)=w0 at *
 go_enter Tryz.func246,Tryz.ntmps246
 go_wp2_with fail
 try rw [hw0]
 have hT1:=Js w0 g l (s) H0.out hl
 unfold Bq at hT1
 skip
 refine hT1.mono ?_
 rintro e w1 ⟨rfl,hR1,hg1⟩
 have hx1:=(hg1.block _ (Ad hx0) (fun e=>by injection e with e; omega)).trans hx0
 have hG1:=A7 hg0 hg1
 have HR1:=Ac hR1
 clear hR1 hT1
 have hT2:=Mm w1 g l ((rT l l.length (s)).2) HR1.out hl
 unfold Bq at hT2
 go_wp2_with fail
 refine hT2.mono ?_
 rintro e w2 ⟨rfl,hR2,hg2⟩
 have hx2:=(hg2.block _ (Ad hx1) (fun e=>by injection e with e; omega)).trans hx1
 have hG2:=A7 hG1 hg2
 have HR2:=Ac hR2
 clear hR2 hT2
 have hT3:=Lw w2 g l ((rD l ((rT l l.length (s)).2)).2) HR2.out hl
 unfold Bq at hT3
 go_wp2_with fail
 refine hT3.mono ?_
 rintro e w3 ⟨rfl,hR3,hg3⟩
 have hx3:=(hg3.block _ (Ad hx2) (fun e=>by injection e with e; omega)).trans hx2
 have hG3:=A7 hG2 hg3
 have HR3:=Ac hR3
 clear hR3 hT3
 have c0:=cell_of_row w3 w.heap.size 0 _ _ _ hx3
 simp only [List.getElem?_toArray,List.getElem?_cons_zero] at c0
 have f0:=Af (j:=0) hx3
 have c1:=cell_of_row w3 w.heap.size 1 _ _ _ hx3
 simp only [List.getElem?_toArray,List.getElem?_cons_zero,List.getElem?_cons_succ] at c1
 have f1:=Af (j:=1) hx3
 have c2:=cell_of_row w3 w.heap.size 2 _ _ _ hx3
 simp only [List.getElem?_toArray,List.getElem?_cons_zero,List.getElem?_cons_succ] at c2
 have f2:=Af (j:=2) hx3
 go_wp2
 refine bodyPost_ret (results_cell_row rfl _ _ _ _ _ _ _ rfl (Bm hx3) Tryz.underlying125 rfl Tryz.infoLink) rfl ⟨rfl,(((HR3.out.set (.inl hgn)).set (.inl hgn)).set (.inl hgn)),(Gb (Gb (Gb hG3 (Nat.le_refl _)) (Nat.le_refl _)) (Nat.le_refl _))⟩
end Go.Proofs.YtckejblkppllaaaGreatDoor
namespace Go.Proofs.YtckejblkppllaaaGreatDoor
open Go.RowKit
variable {N : Nat}
theorem Iv {α : Type} (cs : α→List Value) (xs : List α) (x : α) : (xs ++ [x]).flatMap cs=xs.flatMap cs++cs x:=by simp
theorem Tryz.zPair : (Tryz.prog.info? 135).map (fun i=>(i.zero,i.size,i.bytes))=some (some (.agg #[.string ⟨#[]⟩, .string ⟨#[]⟩]),2,32):=by kernel_rfl
theorem Tryz.zLink : (Tryz.prog.info? 125).map (fun i=>(i.zero,i.size,i.bytes))=some (some (.agg #[.string ⟨#[]⟩, .string ⟨#[]⟩, .int .i64 0]),3,40):=by kernel_rfl
theorem Tryz.zStr : (Tryz.prog.info? 9).map (fun i=>(i.zero,i.size,i.bytes))=some (some (.string ⟨#[]⟩),1,16):=by kernel_rfl
theorem Hx (w : World) (cs : List Value) (t : TypeId) : ∀ j u,cs[j]? = some u→(w.alloc (.cells cs.toArray t)).cell? ((⟨w.heap.size,0,none⟩ : Addr).add j)=some u:=by
 intro j u hu
 rw [Addr.add_lit,Nat.zero_add,cell_of_row _ _ _ _ _ _ (heap_last w _ _ rfl),List.getElem?_toArray]
 exact hu
set_option maxRecDepth 20000 in
theorem Lt (w : World) (g : Nat) (l : Bs) (s : Pos) (most : Nat) (hm : most≤64) (h : Rd N w g l s) (hl : l.length≤140737488355328) :
  Calls Tryz.prog 242 #[.pointer (some ⟨g,0,none⟩), .int .i64 (most : Int), .func (.func 243) #[.pointer (some ⟨g,0,none⟩)] #[]] w fun e w'=>∃ v,e = .returned v ∧
   w'.ownsRow w.heap.size 135 2 v (rL l most (Ch l l.length l.length) s).1.length ((rL l most (Ch l l.length l.length) s).1.flatMap Ak)∧Rd N w' g l (rL l most (Ch l l.length l.length) s).2∧w.grownBy w' (some g):=by
 obtain ⟨i0,hi,hz0,hz1,hz2⟩:=info_parts Tryz.zPair
 have hgn:=h.lt
 have hS:=F4 w g l s most h hl
 have hrc:=rC_le l most s (by omega)
 unfold Bq at hS
 unfold rL
 generalize hx : rC l most s=x at *
 obtain ⟨c,s1⟩:=x
 obtain ⟨n,rfl⟩:=Int.eq_ofNat_of_zero_le hrc.1
 simp only [Int.toNat_natCast] at *
 have hn : n≤64:=by omega
 have hlen:=Hp (Ch l l.length l.length) n s1
 clear h hx
 go_enter Tryz.func242,Tryz.ntmps242
 go_wp2_with fail
 refine hS.mono ?_
 rintro e w1 ⟨rfl,hR1,hg1⟩
 have HR1:=Ac hR1
 have HG1:=Ac hg1
 clear hS hR1 hg1
 go_wp2_with fail
 go_loopw [11,7] (fun t v wr=>∃ k : Nat,k≤n∧t = .int .i64 k∧wr.ownsRow w.heap.size 135 2 v k ((rN (Ch l l.length l.length) k s1).1.flatMap Ak)∧Rd N wr g l (rN (Ch l l.length l.length) k s1).2∧w.grownBy wr (some g))
  (fun t _ _=>n - (intOf t).toNat)
 case atStart=>exact ⟨0,by omega,rfl,World.ownsRow_nil _ _ _ _,HR1.out,HG1.out⟩
 case round=>
  clear HR1 HG1
  obtain ⟨k,hk,rfl,hown,hR,hg⟩:=hrel
  by_cases hlt : k<n
  ·have hT:=takePair_any wr g l (rN (Ch l l.length l.length) k s1).2 hR hl
   have hsn:=Hm (Ch l l.length l.length) k s1
   have hne : ∃ cs,wr.heap[g]? = some (.cells cs 298):=hR.heap
   unfold Bq at hT
   generalize hx : (Ch l l.length l.length) (rN (Ch l l.length l.length) k s1).2=x at *
   obtain ⟨p,s2⟩:=x
   simp only at hT hsn
   have HSN:=Ac hsn
   have HX:=Ac hx
   have HOWN:=Ac hown
   have HG:=Ac hg
   have HNE:=Ac hne
   clear hsn hx hown hg hR hne
   go_wp2_with fail
   refine hT.mono ?_
   rintro e w2 ⟨rfl,hR2,hg2⟩
   obtain ⟨csg,hcsg⟩:=HNE.out
   have hown2:=HOWN.out.kept hg2 (.inr (Ds HOWN.out hcsg (by decide)))
   have hg2':=A7 HG.out hg2
   have hsz2:=hg2'.size
   have hownA:=hown2.alloc (.cells #[.string (Ab p.1), .string (Ab p.2)] 135)
   have hgA:=A7 hg2' (Hk w2 (.cells #[.string (Ab p.1), .string (Ab p.2)] 135) (some g))
   have hRA:=hR2.alloc (.cells #[.string (Ab p.1), .string (Ab p.2)] 135)
   have HRA:=Ac hRA
   have HGA:=Ac hgA
   have HOA:=Ac hownA
   have hnw:=Hx w2 [.string (Ab p.1), .string (Ab p.2)] 135
   clear hT hR2 hg2 hcsg csg hown2 hRA hgA hownA hg2'
   go_wp2_with (at_builtin; refine wpList_append_own _ rfl (.tmp 13) (.tmp 16) 126 rfl w.heap.size 135 i0 (.agg #[.string ⟨#[]⟩, .string ⟨#[]⟩]) 2 32 Tryz.underlying126 hi hz0 hz1 hz2 rfl (by decide) _ _ _ rfl HOA.out ⟨w2.heap.size,0,none⟩ 1 1 [.string (Ab p.1), .string (Ab p.2)] rfl rfl hnw (by simp [Value.oneCell']) (by unfold maxLen; omega) (by omega) (by simp; omega) ?_; intro v3 w3 hown3 hgr3 _; have HO3:=Ac hown3; obtain ⟨a3,c3,rfl,-⟩:=Bj hown3; clear hown3)
   have hR3:=HRA.out.grown hgr3 (fun q hq=>by have:=(HOA.out.lt q hq).1; omega)
   have hg3:=gb_new HGA.out hgr3 (fun q hq=>(HOA.out.lt q hq).1)
   have HR3:=Ac hR3
   have HG3:=Ac hg3
   clear hgr3 hR3 hg3 hnw
   go_wp2
   go_roundw
   case rel=>
    refine ⟨k+1,by omega,by go_num,?_,by rw [HSN.out]; exact HR3.out,HG3.out⟩
    rw [HSN.out,Iv]
    exact HO3.out
   case measure=>simp [intOf]; omega
  ·obtain rfl : k=n:=by omega
   have HO:=Ac hown
   obtain ⟨a3,c3,rfl,-⟩:=Bj hown
   clear hown
   go_wp2
   go_ret
   refine ⟨_,rfl,?_,hR,hg⟩
   rw [hlen]
   exact HO.out
set_option maxRecDepth 20000 in
theorem J3 (w : World) (g : Nat) (l : Bs) (s : Pos) (most : Nat) (hm : most≤64) (h : Rd N w g l s) (hl : l.length≤140737488355328) :
  Calls Tryz.prog 245 #[.pointer (some ⟨g,0,none⟩), .int .i64 (most : Int), .func (.func 246) #[.pointer (some ⟨g,0,none⟩)] #[]] w fun e w'=>∃ v,e = .returned v ∧
   w'.ownsRow w.heap.size 125 3 v (rL l most (Bz l l.length) s).1.length ((rL l most (Bz l l.length) s).1.flatMap Au)∧Rd N w' g l (rL l most (Bz l l.length) s).2∧w.grownBy w' (some g):=by
 obtain ⟨i0,hi,hz0,hz1,hz2⟩:=info_parts Tryz.zLink
 have hgn:=h.lt
 have hS:=F4 w g l s most h hl
 have hrc:=rC_le l most s (by omega)
 unfold Bq at hS
 unfold rL
 generalize hx : rC l most s=x at *
 obtain ⟨c,s1⟩:=x
 obtain ⟨n,rfl⟩:=Int.eq_ofNat_of_zero_le hrc.1
 simp only [Int.toNat_natCast] at *
 have hn : n≤64:=by omega
 have hlen:=Hp (Bz l l.length) n s1
 clear h hx
 go_enter Tryz.func245,Tryz.ntmps245
 go_wp2_with fail
 refine hS.mono ?_
 rintro e w1 ⟨rfl,hR1,hg1⟩
 have HR1:=Ac hR1
 have HG1:=Ac hg1
 clear hS hR1 hg1
 go_wp2_with fail
 go_loopw [11,7] (fun t v wr=>∃ k : Nat,k≤n∧t = .int .i64 k∧wr.ownsRow w.heap.size 125 3 v k ((rN (Bz l l.length) k s1).1.flatMap Au)∧Rd N wr g l (rN (Bz l l.length) k s1).2∧w.grownBy wr (some g))
  (fun t _ _=>n - (intOf t).toNat)
 case atStart=>exact ⟨0,by omega,rfl,World.ownsRow_nil _ _ _ _,HR1.out,HG1.out⟩
 case round=>
  clear HR1 HG1
  obtain ⟨k,hk,rfl,hown,hR,hg⟩:=hrel
  by_cases hlt : k<n
  ·have hT:=takeLink_any wr g l (rN (Bz l l.length) k s1).2 hR hl
   have hsn:=Hm (Bz l l.length) k s1
   have hne : ∃ cs,wr.heap[g]? = some (.cells cs 298):=hR.heap
   unfold Bq at hT
   generalize hx : (Bz l l.length) (rN (Bz l l.length) k s1).2=x at *
   obtain ⟨p,s2⟩:=x
   simp only at hT hsn
   have HSN:=Ac hsn
   have HX:=Ac hx
   have HOWN:=Ac hown
   have HG:=Ac hg
   have HNE:=Ac hne
   clear hsn hx hown hg hR hne
   go_wp2_with fail
   refine hT.mono ?_
   rintro e w2 ⟨rfl,hR2,hg2⟩
   obtain ⟨csg,hcsg⟩:=HNE.out
   have hown2:=HOWN.out.kept hg2 (.inr (Ds HOWN.out hcsg (by decide)))
   have hg2':=A7 HG.out hg2
   have hsz2:=hg2'.size
   have hownA:=hown2.alloc (.cells #[.string (Ab p.1), .string (Ab p.2.1), .int .i64 p.2.2] 125)
   have hgA:=A7 hg2' (Hk w2 (.cells #[.string (Ab p.1), .string (Ab p.2.1), .int .i64 p.2.2] 125) (some g))
   have hRA:=hR2.alloc (.cells #[.string (Ab p.1), .string (Ab p.2.1), .int .i64 p.2.2] 125)
   have HRA:=Ac hRA
   have HGA:=Ac hgA
   have HOA:=Ac hownA
   have hnw:=Hx w2 [.string (Ab p.1), .string (Ab p.2.1), .int .i64 p.2.2] 125
   clear hT hR2 hg2 hcsg csg hown2 hRA hgA hownA hg2'
   go_wp2_with (at_builtin; refine wpList_append_own _ rfl (.tmp 13) (.tmp 16) 127 rfl w.heap.size 125 i0 (.agg #[.string ⟨#[]⟩, .string ⟨#[]⟩, .int .i64 0]) 3 40 Tryz.underlying127 hi hz0 hz1 hz2 rfl (by decide) _ _ _ rfl HOA.out ⟨w2.heap.size,0,none⟩ 1 1 [.string (Ab p.1), .string (Ab p.2.1), .int .i64 p.2.2] rfl rfl hnw (by simp [Value.oneCell']) (by unfold maxLen; omega) (by omega) (by simp; omega) ?_; intro v3 w3 hown3 hgr3 _; have HO3:=Ac hown3; obtain ⟨a3,c3,rfl,-⟩:=Bj hown3; clear hown3)
   have hR3:=HRA.out.grown hgr3 (fun q hq=>by have:=(HOA.out.lt q hq).1; omega)
   have hg3:=gb_new HGA.out hgr3 (fun q hq=>(HOA.out.lt q hq).1)
   have HR3:=Ac hR3
   have HG3:=Ac hg3
   clear hgr3 hR3 hg3 hnw
   go_wp2
   go_roundw
   case rel=>
    refine ⟨k+1,by omega,by go_num,?_,by rw [HSN.out]; exact HR3.out,HG3.out⟩
    rw [HSN.out,Iv]
    exact HO3.out
   case measure=>simp [intOf]; omega
  ·obtain rfl : k=n:=by omega
   have HO:=Ac hown
   obtain ⟨a3,c3,rfl,-⟩:=Bj hown
   clear hown
   go_wp2
   go_ret
   refine ⟨_,rfl,?_,hR,hg⟩
   rw [hlen]
   exact HO.out
end Go.Proofs.YtckejblkppllaaaGreatDoor
namespace Go.Proofs.YtckejblkppllaaaGreatDoor
open Go.RowKit
def ltB (a b : Bs) : Bool:=Op.bytesLess a b
theorem toLr (l : List UInt8) : (Ab l).toList=l:=by rw [ByteArray.toList_eq]; exact B0 l
theorem Ex (t : TypeId) (a b : Bs) : binOp .geq t (.string (Ab a)) (.string (Ab b))=pure (.bool (!ltB a b)):=by simp [binOp,Op.stringOp,toLr,ltB]
set_option maxRecDepth 20000 in
theorem Nd (w : World) (v : Value) (xs : List (Ag)) (hv : Ls w.heap.size w 2 Ak v xs) :
  Calls Tryz.prog 270 #[v, .func (.func 271) #[] #[]] w fun e w'=>e = .returned (.bool (Bd ltB (xs.map (·.1))))∧Below w.heap.size w w':=by
 obtain ⟨ao,cap,rfl,h1,h2,h4⟩:=hv
 unfold maxLen at h2
 go_enter Tryz.func270,Tryz.ntmps270
 go_wp2_with fail
 go_loopw [5] (fun t wr=>∃ k : Nat,1≤k∧(k≤xs.length∨k=1)∧t = .int .i64 k∧Bd ltB (xs.map (·.1))=Bd ltB ((xs.drop (k - 1)).map (·.1))∧Below w.heap.size w wr)
  (fun t _=>xs.length - (intOf t).toNat)
 case atStart=>exact ⟨1,by omega, .inr rfl,rfl,by simp,Below.refl _ _⟩
 case round=>
  obtain ⟨k,hk1,hk,rfl,hall,hb⟩:=hrel
  have HB:=Ac hb
  have HA:=Ac hall
  clear hb hall
  by_cases hlt : k<xs.length
  ·obtain ⟨m,rfl⟩ : ∃ m,k=m+1:=⟨k - 1,by omega⟩
   rw [Nat.add_sub_cancel] at HA
   have hml : m<xs.length:=by omega
   have hm0 : (0 : Int)≤(m : Int)+1:=by omega
   have hw : IntKind.i64.wrap (m : Int)=(m : Int):=by rw [IntKind.wrap_i64]; omega
   have hk1' : ((m+1 : Nat) : Int) - 1=(m : Int):=by omega
   obtain ⟨b,off,rfl,hbB,hc⟩:=h4 (by rintro rfl; simp at hlt)
   have hst : Bd ltB ((xs.drop m).map (·.1))=(ltB (xs[m]'(by omega)).1 (xs[m+1]'hlt).1 && Bd ltB ((xs.drop (m+1)).map (·.1))):=by
    rw [List.drop_eq_getElem_cons (show m<xs.length by omega),List.drop_eq_getElem_cons hlt]
    rfl
   obtain ⟨x,hx⟩ : ∃ x,x=xs[m]:=⟨_,rfl⟩
   obtain ⟨y,hy⟩ : ∃ y,y=xs[m+1]:=⟨_,rfl⟩
   rw [← hx,← hy] at hst
   have hcx:=hc m (by omega)
   have hcy:=hc (m+1) hlt
   rw [← hx] at hcx
   rw [← hy] at hcy
   have c0 : wr.cell? ⟨b,off+m * 2,none⟩=some (.string (Ab x.1)):=by
    have:=(HB.out.cell (p:=⟨b,off+m * 2+0,none⟩) hbB).trans (hcx 0 _ rfl)
    simpa using this
   have c1 : wr.cell? ⟨b,off+m * 2+1,none⟩=some (.string (Ab x.2)):=by
    have:=(HB.out.cell (p:=⟨b,off+m * 2+1,none⟩) hbB).trans (hcx 1 _ rfl)
    simpa using this
   have d0 : wr.cell? ⟨b,off+(m+1) * 2,none⟩=some (.string (Ab y.1)):=by
    have:=(HB.out.cell (p:=⟨b,off+(m+1) * 2+0,none⟩) hbB).trans (hcy 0 _ rfl)
    simpa using this
   have d1 : wr.cell? ⟨b,off+(m+1) * 2+1,none⟩=some (.string (Ab y.2)):=by
    have:=(HB.out.cell (p:=⟨b,off+(m+1) * 2+1,none⟩) hbB).trans (hcy 1 _ rfl)
    simpa using this
   have HST:=Ac hst
   clear hst hc hcx hcy hx hy h4
   have hge:=Ex 9 x.1 y.1
   have hkp : ∀ (W : World) (i : Nat) (u : Value),Below wr.heap.size wr W→wr.cell? ⟨b,i,none⟩=some u→W.cell? ⟨b,i,none⟩=some u:=fun W i u hW hu=>(hW.cell (p:=⟨b,i,none⟩) (Nat.lt_of_lt_of_le hbB HB.out.size)).trans hu
   go_wp2_with fail
   refine wp_region_held_drew (S:=fun W=>W.cell? ⟨b,off+m * 2,none⟩=some (.string (Ab x.1))∧W.cell? ⟨b,off+m * 2+1,none⟩=some (.string (Ab x.2))∧W.cell? ⟨b,off+(m+1) * 2,none⟩=some (.string (Ab y.1))∧W.cell? ⟨b,off+(m+1) * 2+1,none⟩=some (.string (Ab y.2))) (by kernel_rfl) (⟨c0,c1,d0,d1⟩) (fun hHeld=>?_)
   refine Aa 0 hHeld ?_
   refine Aa 1 hHeld ?_
   refine Aa 2 hHeld ?_
   refine Aa 3 hHeld ?_
   refine Aa 4 hHeld ?_
   refine Aa 5 hHeld ?_
   refine Aa 7 hHeld ?_
   refine Aa 8 hHeld ?_
   refine Aa 9 hHeld ?_
   refine Aa 10 hHeld ?_
   refine Aa 11 hHeld ?_
   refine Ai (i:=6) rfl (by kernel_rfl) rfl (fun K hK=>?_)
   go_simp
   refine (leaf2_any _ x).mono ?_
   rintro e w2 ⟨rfl,hb2⟩
   have hb2' : Below wr.heap.size wr w2:=(Below.refl wr.heap.size wr).drew.trans hb2
   refine hK.out _ _ (⟨hkp w2 _ _ hb2' c0,hkp w2 _ _ hb2' c1,hkp w2 _ _ hb2' d0,hkp w2 _ _ hb2' d1⟩) (fun hHeld=>?_)
   clear hK K
   try simp only [Act.put,List.setIfInBounds_toArray,List.set_cons_zero,List.set_cons_succ]
   refine Ai (i:=12) rfl (by kernel_rfl) rfl (fun K hK=>?_)
   go_simp
   refine (leaf2_any _ y).mono ?_
   rintro e w3 ⟨rfl,hb3⟩
   have hb3' : Below wr.heap.size wr w3:=hb2'.trans (hb3.mono hb2'.size)
   refine hK.out _ _ (⟨hkp w3 _ _ hb3' c0,hkp w3 _ _ hb3' c1,hkp w3 _ _ hb3' d0,hkp w3 _ _ hb3' d1⟩) (fun hHeld=>?_)
   clear hK K
   try simp only [Act.put,List.setIfInBounds_toArray,List.set_cons_zero,List.set_cons_succ]
   refine Aa 13 hHeld ?_
   refine wpAnyH_done (by kernel_rfl) ?_ _
   clear hHeld
   have HB3 : Hid (Below w.heap.size w w3):=Ac (HB.out.trans (hb3'.mono HB.out.size))
   clear hb2 hb2' hb3 hb3' hkp
   by_cases hf : ltB x.1 y.1=true
   ·rw [hf]
    go_wp2
    go_roundw
    case rel=>
     refine ⟨m+1+1,by omega, .inl (by omega),by go_num,?_,HB3.out⟩
     rw [HA.out,HST.out,hf,Nat.add_sub_cancel]
     rfl
    case measure=>simp [intOf]; omega
   ·have hf:=Bool.eq_false_iff.2 hf
    rw [hf]
    go_wp2
    go_ret
    exact ⟨Al (by rw [HA.out,HST.out,hf]; rfl),HB3.out⟩
  ·have ht : Bd ltB ((xs.drop (k - 1)).map (·.1))=true:=by
    have hl : (xs.drop (k - 1)).length≤1:=by rw [List.length_drop]; omega
    match xs.drop (k - 1),hl with
    | [],_=>rfl
    | [_],_=>rfl
   go_wp2
   go_ret
   exact ⟨Al (by rw [HA.out,ht]),HB.out⟩
set_option maxRecDepth 20000 in
theorem J9 (w : World) (v : Value) (xs : List (Ah)) (hv : Ls w.heap.size w 3 Au v xs) :
  Calls Tryz.prog 275 #[v, .func (.func 276) #[] #[]] w fun e w'=>e = .returned (.bool (Bd ltB (xs.map (·.1))))∧Below w.heap.size w w':=by
 obtain ⟨ao,cap,rfl,h1,h2,h4⟩:=hv
 unfold maxLen at h2
 go_enter Tryz.func275,Tryz.ntmps275
 go_wp2_with fail
 go_loopw [5] (fun t wr=>∃ k : Nat,1≤k∧(k≤xs.length∨k=1)∧t = .int .i64 k∧Bd ltB (xs.map (·.1))=Bd ltB ((xs.drop (k - 1)).map (·.1))∧Below w.heap.size w wr)
  (fun t _=>xs.length - (intOf t).toNat)
 case atStart=>exact ⟨1,by omega, .inr rfl,rfl,by simp,Below.refl _ _⟩
 case round=>
  obtain ⟨k,hk1,hk,rfl,hall,hb⟩:=hrel
  have HB:=Ac hb
  have HA:=Ac hall
  clear hb hall
  by_cases hlt : k<xs.length
  ·obtain ⟨m,rfl⟩ : ∃ m,k=m+1:=⟨k - 1,by omega⟩
   rw [Nat.add_sub_cancel] at HA
   have hml : m<xs.length:=by omega
   have hm0 : (0 : Int)≤(m : Int)+1:=by omega
   have hw : IntKind.i64.wrap (m : Int)=(m : Int):=by rw [IntKind.wrap_i64]; omega
   have hk1' : ((m+1 : Nat) : Int) - 1=(m : Int):=by omega
   obtain ⟨b,off,rfl,hbB,hc⟩:=h4 (by rintro rfl; simp at hlt)
   have hst : Bd ltB ((xs.drop m).map (·.1))=(ltB (xs[m]'(by omega)).1 (xs[m+1]'hlt).1 && Bd ltB ((xs.drop (m+1)).map (·.1))):=by
    rw [List.drop_eq_getElem_cons (show m<xs.length by omega),List.drop_eq_getElem_cons hlt]
    rfl
   obtain ⟨x,hx⟩ : ∃ x,x=xs[m]:=⟨_,rfl⟩
   obtain ⟨y,hy⟩ : ∃ y,y=xs[m+1]:=⟨_,rfl⟩
   rw [← hx,← hy] at hst
   have hcx:=hc m (by omega)
   have hcy:=hc (m+1) hlt
   rw [← hx] at hcx
   rw [← hy] at hcy
   have c0 : wr.cell? ⟨b,off+m * 3,none⟩=some (.string (Ab x.1)):=by
    have:=(HB.out.cell (p:=⟨b,off+m * 3+0,none⟩) hbB).trans (hcx 0 _ rfl)
    simpa using this
   have c1 : wr.cell? ⟨b,off+m * 3+1,none⟩=some (.string (Ab x.2.1)):=by
    have:=(HB.out.cell (p:=⟨b,off+m * 3+1,none⟩) hbB).trans (hcx 1 _ rfl)
    simpa using this
   have c2 : wr.cell? ⟨b,off+m * 3+2,none⟩=some (.int .i64 x.2.2):=by
    have:=(HB.out.cell (p:=⟨b,off+m * 3+2,none⟩) hbB).trans (hcx 2 _ rfl)
    simpa using this
   have d0 : wr.cell? ⟨b,off+(m+1) * 3,none⟩=some (.string (Ab y.1)):=by
    have:=(HB.out.cell (p:=⟨b,off+(m+1) * 3+0,none⟩) hbB).trans (hcy 0 _ rfl)
    simpa using this
   have d1 : wr.cell? ⟨b,off+(m+1) * 3+1,none⟩=some (.string (Ab y.2.1)):=by
    have:=(HB.out.cell (p:=⟨b,off+(m+1) * 3+1,none⟩) hbB).trans (hcy 1 _ rfl)
    simpa using this
   have d2 : wr.cell? ⟨b,off+(m+1) * 3+2,none⟩=some (.int .i64 y.2.2):=by
    have:=(HB.out.cell (p:=⟨b,off+(m+1) * 3+2,none⟩) hbB).trans (hcy 2 _ rfl)
    simpa using this
   have HST:=Ac hst
   clear hst hc hcx hcy hx hy h4
   have hge:=Ex 9 x.1 y.1
   have hkp : ∀ (W : World) (i : Nat) (u : Value),Below wr.heap.size wr W→wr.cell? ⟨b,i,none⟩=some u→W.cell? ⟨b,i,none⟩=some u:=fun W i u hW hu=>(hW.cell (p:=⟨b,i,none⟩) (Nat.lt_of_lt_of_le hbB HB.out.size)).trans hu
   go_wp2_with fail
   refine wp_region_held_drew (S:=fun W=>W.cell? ⟨b,off+m * 3,none⟩=some (.string (Ab x.1))∧W.cell? ⟨b,off+m * 3+1,none⟩=some (.string (Ab x.2.1))∧W.cell? ⟨b,off+m * 3+2,none⟩=some (.int .i64 x.2.2)∧W.cell? ⟨b,off+(m+1) * 3,none⟩=some (.string (Ab y.1))∧W.cell? ⟨b,off+(m+1) * 3+1,none⟩=some (.string (Ab y.2.1))∧W.cell? ⟨b,off+(m+1) * 3+2,none⟩=some (.int .i64 y.2.2)) (by kernel_rfl) (⟨c0,c1,c2,d0,d1,d2⟩) (fun hHeld=>?_)
   refine Aa 0 hHeld ?_
   refine Aa 1 hHeld ?_
   refine Aa 2 hHeld ?_
   refine Aa 3 hHeld ?_
   refine Aa 4 hHeld ?_
   refine Aa 5 hHeld ?_
   refine Aa 7 hHeld ?_
   refine Aa 8 hHeld ?_
   refine Aa 9 hHeld ?_
   refine Aa 10 hHeld ?_
   refine Aa 11 hHeld ?_
   refine Ai (i:=6) rfl (by kernel_rfl) rfl (fun K hK=>?_)
   go_simp
   refine (Of _ x).mono ?_
   rintro e w2 ⟨rfl,hb2⟩
   have hb2' : Below wr.heap.size wr w2:=(Below.refl wr.heap.size wr).drew.trans hb2
   refine hK.out _ _ (⟨hkp w2 _ _ hb2' c0,hkp w2 _ _ hb2' c1,hkp w2 _ _ hb2' c2,hkp w2 _ _ hb2' d0,hkp w2 _ _ hb2' d1,hkp w2 _ _ hb2' d2⟩) (fun hHeld=>?_)
   clear hK K
   try simp only [Act.put,List.setIfInBounds_toArray,List.set_cons_zero,List.set_cons_succ]
   refine Ai (i:=12) rfl (by kernel_rfl) rfl (fun K hK=>?_)
   go_simp
   refine (Of _ y).mono ?_
   rintro e w3 ⟨rfl,hb3⟩
   have hb3' : Below wr.heap.size wr w3:=hb2'.trans (hb3.mono hb2'.size)
   refine hK.out _ _ (⟨hkp w3 _ _ hb3' c0,hkp w3 _ _ hb3' c1,hkp w3 _ _ hb3' c2,hkp w3 _ _ hb3' d0,hkp w3 _ _ hb3' d1,hkp w3 _ _ hb3' d2⟩) (fun hHeld=>?_)
   clear hK K
   try simp only [Act.put,List.setIfInBounds_toArray,List.set_cons_zero,List.set_cons_succ]
   refine Aa 13 hHeld ?_
   refine wpAnyH_done (by kernel_rfl) ?_ _
   clear hHeld
   have HB3 : Hid (Below w.heap.size w w3):=Ac (HB.out.trans (hb3'.mono HB.out.size))
   clear hb2 hb2' hb3 hb3' hkp
   by_cases hf : ltB x.1 y.1=true
   ·rw [hf]
    go_wp2
    go_roundw
    case rel=>
     refine ⟨m+1+1,by omega, .inl (by omega),by go_num,?_,HB3.out⟩
     rw [HA.out,HST.out,hf,Nat.add_sub_cancel]
     rfl
    case measure=>simp [intOf]; omega
   ·have hf:=Bool.eq_false_iff.2 hf
    rw [hf]
    go_wp2
    go_ret
    exact ⟨Al (by rw [HA.out,HST.out,hf]; rfl),HB3.out⟩
  ·have ht : Bd ltB ((xs.drop (k - 1)).map (·.1))=true:=by
    have hl : (xs.drop (k - 1)).length≤1:=by rw [List.length_drop]; omega
    match xs.drop (k - 1),hl with
    | [],_=>rfl
    | [_],_=>rfl
   go_wp2
   go_ret
   exact ⟨Al (by rw [HA.out,ht]),HB.out⟩
end Go.Proofs.YtckejblkppllaaaGreatDoor
namespace Go.Proofs.YtckejblkppllaaaGreatDoor
open Go.RowKit
theorem Ls.alloc {α : Type} {w : World} {k : Nat} {cs : α→List Value} {v : Value} {xs : List α} (h : Ls w.heap.size w k cs v xs) (o : Obj) : Ls (w.alloc o).heap.size (w.alloc o) k cs v xs:=
 (h.keep ((Below.refl _ _).alloc (Nat.le_refl _) o)).up (by simp)
theorem Ls.past {α : Type} {w w' : World} {k : Nat} {cs : α→List Value} {v : Value} {xs : List α} (h : Ls w.heap.size w k cs v xs) (hb : Below w.heap.size w w') : Ls w'.heap.size w' k cs v xs:=(h.keep hb).up hb.size
theorem O3 (w : World) (k n : Int) : Calls Tryz.prog 165 #[.int .i64 k, .int .i64 n] w fun e w'=>e = .returned (.bool (Ew k n))∧w'=w:=by
 by_cases h1 : k=1
 ·subst h1
  by_cases h : 0≤n
  all_goals
   go_enter Tryz.func165,Tryz.ntmps165
   go_wp2
   go_ret
   refine ⟨Al ?_,rfl⟩
   rw [Bool.eq_iff_iff]; simp [Ew]; omega
 ·by_cases h2 : k=2
  ·subst h2
   by_cases h : 1≤n
   all_goals
    go_enter Tryz.func165,Tryz.ntmps165
    go_wp2
    go_ret
    refine ⟨Al ?_,rfl⟩
    rw [Bool.eq_iff_iff]; simp [Ew]; omega
  ·have b1 : (k == 1)=false:=by simpa using h1
   have b2 : (k == 2)=false:=by simpa using h2
   go_enter Tryz.func165,Tryz.ntmps165
   go_wp2
   go_ret
   refine ⟨Al ?_,rfl⟩
   simp [Ew,h1,h2]
set_option maxRecDepth 20000 in
theorem K2 (w : World) (f : List Ag) (v : Value) (hv : Ls w.heap.size w 2 Ak v f) :
  Calls Tryz.prog 244 #[v] w fun e w'=>e = .returned (.bool (A5 ltB f))∧Below w.heap.size w w':=by
 have hL0:=hv
 have hbA0 : Below w.heap.size w w:=Below.refl _ _
 obtain ⟨ao,cap,rfl,g1,g2,-⟩:=hv
 unfold maxLen at g2
 by_cases h0p : f.length≤64
 rotate_left
 ·have h0 : decide (f.length≤64)=false:=by simpa using h0p
  go_enter Tryz.func244,Tryz.ntmps244
  go_wp2
  go_ret
  exact ⟨Al (by simp [A5,h0]),hbA0⟩
 have h0 : decide (f.length≤64)=true:=by simpa using h0p
 by_cases h1 : f.all (fun p=>As p.1 && decide (p.2.length≤128))=true
 rotate_left
 ·have h1:=Bool.eq_false_iff.2 h1
  go_enter Tryz.func244,Tryz.ntmps244
  go_wp2_with fail
  refine (Kr _ _ f hL0).mono ?_
  rintro e w1 ⟨rfl,hb1⟩
  rw [h1]
  have hbA1:=hbA0.trans (hb1.mono hbA0.size)
  have hL1:=hL0.past hb1
  clear hb1 hL0
  go_wp2
  go_ret
  exact ⟨Al (by simp [A5,h0,h1]),hbA1⟩
 by_cases h2 : Bd ltB (f.map (fun p=>p.1))=true
 rotate_left
 ·have h2:=Bool.eq_false_iff.2 h2
  go_enter Tryz.func244,Tryz.ntmps244
  go_wp2_with fail
  refine (Kr _ _ f hL0).mono ?_
  rintro e w1 ⟨rfl,hb1⟩
  rw [h1]
  have hbA1:=hbA0.trans (hb1.mono hbA0.size)
  have hL1:=hL0.past hb1
  clear hb1 hL0
  go_wp2_with fail
  refine (Nd _ _ f hL1).mono ?_
  rintro e w2 ⟨rfl,hb2⟩
  rw [h2]
  have hbA2:=hbA1.trans (hb2.mono hbA1.size)
  have hL2:=hL1.past hb2
  clear hb2 hL1
  go_wp2
  go_ret
  exact ⟨Al (by simp [A5,h0,h1,h2]),hbA2⟩
 go_enter Tryz.func244,Tryz.ntmps244
 go_wp2_with fail
 refine (Kr _ _ f hL0).mono ?_
 rintro e w1 ⟨rfl,hb1⟩
 rw [h1]
 have hbA1:=hbA0.trans (hb1.mono hbA0.size)
 have hL1:=hL0.past hb1
 clear hb1 hL0
 go_wp2_with fail
 refine (Nd _ _ f hL1).mono ?_
 rintro e w2 ⟨rfl,hb2⟩
 rw [h2]
 have hbA2:=hbA1.trans (hb2.mono hbA1.size)
 have hL2:=hL1.past hb2
 clear hb2 hL1
 go_wp2
 go_ret
 exact ⟨Al (by simp [A5,h0,h1,h2]),hbA2⟩
set_option maxRecDepth 20000 in
theorem Kj (w : World) (f : Dx) (v : Value) (hv : Ls w.heap.size w 3 Au v f.2) :
  Calls Tryz.prog 247 #[.agg #[.int .i64 f.1,v]] w fun e w'=>e = .returned (.bool (A4 ltB f))∧Below w.heap.size w w':=by
 have hL0:=hv.alloc (.cells #[.int .i64 f.1,v] 129)
 have hbA0 : Below w.heap.size w (w.alloc (.cells #[.int .i64 f.1,v] 129)):=(Below.refl _ _).alloc (Nat.le_refl _) _
 have x0:=heap_last w (.cells #[.int .i64 f.1,v] 129) _ rfl
 obtain ⟨ao,cap,rfl,g1,g2,-⟩:=hv
 unfold maxLen at g2
 by_cases h0 : Dw f.1=true
 rotate_left
 ·have h0:=Bool.eq_false_iff.2 h0
  go_enter Tryz.func247,Tryz.ntmps247
  go_wp2_with fail
  refine (Gn _ f.1).mono ?_
  rintro e w1 ⟨rfl,rfl⟩
  rw [h0]
  go_wp2
  go_ret
  exact ⟨Al (by simp [A4,h0]),hbA0⟩
 by_cases h1p : 1≤f.2.length
 rotate_left
 ·have h1 : decide (1≤f.2.length)=false:=by simpa using h1p
  go_enter Tryz.func247,Tryz.ntmps247
  go_wp2_with fail
  refine (Gn _ f.1).mono ?_
  rintro e w1 ⟨rfl,rfl⟩
  rw [h0]
  go_wp2
  go_ret
  exact ⟨Al (by simp [A4,h0,h1]),hbA0⟩
 have h1 : decide (1≤f.2.length)=true:=by simpa using h1p
 by_cases h2p : f.2.length≤64
 rotate_left
 ·have h2 : decide (f.2.length≤64)=false:=by simpa using h2p
  go_enter Tryz.func247,Tryz.ntmps247
  go_wp2_with fail
  refine (Gn _ f.1).mono ?_
  rintro e w1 ⟨rfl,rfl⟩
  rw [h0]
  go_wp2
  go_ret
  exact ⟨Al (by simp [A4,h0,h1,h2]),hbA0⟩
 have h2 : decide (f.2.length≤64)=true:=by simpa using h2p
 by_cases h3 : f.2.all (fun p=>As p.1 && Ci p.2.1)=true
 rotate_left
 ·have h3:=Bool.eq_false_iff.2 h3
  go_enter Tryz.func247,Tryz.ntmps247
  go_wp2_with fail
  refine (Gn _ f.1).mono ?_
  rintro e w1 ⟨rfl,rfl⟩
  rw [h0]
  go_wp2_with fail
  refine (Ij _ _ f.2 hL0).mono ?_
  rintro e w1 ⟨rfl,hb1⟩
  rw [h3]
  have hbA1:=hbA0.trans (hb1.mono hbA0.size)
  have x1:=(hb1.block _ (Ad x0)).trans x0
  have c10:=cell_of_row w1 w.heap.size 0 _ _ _ x1
  simp only [List.getElem?_toArray,List.getElem?_cons_zero] at c10
  have c11:=cell_of_row w1 w.heap.size 1 _ _ _ x1
  simp only [List.getElem?_toArray,List.getElem?_cons_zero,List.getElem?_cons_succ] at c11
  have hL1:=hL0.past hb1
  clear hb1 hL0
  go_wp2
  go_ret
  exact ⟨Al (by simp [A4,h0,h1,h2,h3]),hbA1⟩
 by_cases h4 : Bd ltB (f.2.map (fun p=>p.1))=true
 rotate_left
 ·have h4:=Bool.eq_false_iff.2 h4
  go_enter Tryz.func247,Tryz.ntmps247
  go_wp2_with fail
  refine (Gn _ f.1).mono ?_
  rintro e w1 ⟨rfl,rfl⟩
  rw [h0]
  go_wp2_with fail
  refine (Ij _ _ f.2 hL0).mono ?_
  rintro e w1 ⟨rfl,hb1⟩
  rw [h3]
  have hbA1:=hbA0.trans (hb1.mono hbA0.size)
  have x1:=(hb1.block _ (Ad x0)).trans x0
  have c10:=cell_of_row w1 w.heap.size 0 _ _ _ x1
  simp only [List.getElem?_toArray,List.getElem?_cons_zero] at c10
  have c11:=cell_of_row w1 w.heap.size 1 _ _ _ x1
  simp only [List.getElem?_toArray,List.getElem?_cons_zero,List.getElem?_cons_succ] at c11
  have hL1:=hL0.past hb1
  clear hb1 hL0
  go_wp2_with fail
  refine (J9 _ _ f.2 hL1).mono ?_
  rintro e w2 ⟨rfl,hb2⟩
  rw [h4]
  have hbA2:=hbA1.trans (hb2.mono hbA1.size)
  have x2:=(hb2.block _ (Ad x1)).trans x1
  have c20:=cell_of_row w2 w.heap.size 0 _ _ _ x2
  simp only [List.getElem?_toArray,List.getElem?_cons_zero] at c20
  have c21:=cell_of_row w2 w.heap.size 1 _ _ _ x2
  simp only [List.getElem?_toArray,List.getElem?_cons_zero,List.getElem?_cons_succ] at c21
  have hL2:=hL1.past hb2
  clear hb2 hL1
  go_wp2
  go_ret
  exact ⟨Al (by simp [A4,h0,h1,h2,h3,h4]),hbA2⟩
 by_cases h5 : D6 (f.2.map (fun p=>p.2.2)) 4096=true
 rotate_left
 ·have h5:=Bool.eq_false_iff.2 h5
  go_enter Tryz.func247,Tryz.ntmps247
  go_wp2_with fail
  refine (Gn _ f.1).mono ?_
  rintro e w1 ⟨rfl,rfl⟩
  rw [h0]
  go_wp2_with fail
  refine (Ij _ _ f.2 hL0).mono ?_
  rintro e w1 ⟨rfl,hb1⟩
  rw [h3]
  have hbA1:=hbA0.trans (hb1.mono hbA0.size)
  have x1:=(hb1.block _ (Ad x0)).trans x0
  have c10:=cell_of_row w1 w.heap.size 0 _ _ _ x1
  simp only [List.getElem?_toArray,List.getElem?_cons_zero] at c10
  have c11:=cell_of_row w1 w.heap.size 1 _ _ _ x1
  simp only [List.getElem?_toArray,List.getElem?_cons_zero,List.getElem?_cons_succ] at c11
  have hL1:=hL0.past hb1
  clear hb1 hL0
  go_wp2_with fail
  refine (J9 _ _ f.2 hL1).mono ?_
  rintro e w2 ⟨rfl,hb2⟩
  rw [h4]
  have hbA2:=hbA1.trans (hb2.mono hbA1.size)
  have x2:=(hb2.block _ (Ad x1)).trans x1
  have c20:=cell_of_row w2 w.heap.size 0 _ _ _ x2
  simp only [List.getElem?_toArray,List.getElem?_cons_zero] at c20
  have c21:=cell_of_row w2 w.heap.size 1 _ _ _ x2
  simp only [List.getElem?_toArray,List.getElem?_cons_zero,List.getElem?_cons_succ] at c21
  have hL2:=hL1.past hb2
  clear hb2 hL1
  go_wp2_with fail
  refine (Nv _ _ f.2 hL2).mono ?_
  rintro e w3 ⟨rfl,hb3⟩
  rw [h5]
  have hbA3:=hbA2.trans (hb3.mono hbA2.size)
  have x3:=(hb3.block _ (Ad x2)).trans x2
  have c30:=cell_of_row w3 w.heap.size 0 _ _ _ x3
  simp only [List.getElem?_toArray,List.getElem?_cons_zero] at c30
  have c31:=cell_of_row w3 w.heap.size 1 _ _ _ x3
  simp only [List.getElem?_toArray,List.getElem?_cons_zero,List.getElem?_cons_succ] at c31
  have hL3:=hL2.past hb3
  clear hb3 hL2
  go_wp2
  go_ret
  exact ⟨Al (by simp [A4,h0,h1,h2,h3,h4,h5]),hbA3⟩
 go_enter Tryz.func247,Tryz.ntmps247
 go_wp2_with fail
 refine (Gn _ f.1).mono ?_
 rintro e w1 ⟨rfl,rfl⟩
 rw [h0]
 go_wp2_with fail
 refine (Ij _ _ f.2 hL0).mono ?_
 rintro e w1 ⟨rfl,hb1⟩
 rw [h3]
 have hbA1:=hbA0.trans (hb1.mono hbA0.size)
 have x1:=(hb1.block _ (Ad x0)).trans x0
 have c10:=cell_of_row w1 w.heap.size 0 _ _ _ x1
 simp only [List.getElem?_toArray,List.getElem?_cons_zero] at c10
 have c11:=cell_of_row w1 w.heap.size 1 _ _ _ x1
 simp only [List.getElem?_toArray,List.getElem?_cons_zero,List.getElem?_cons_succ] at c11
 have hL1:=hL0.past hb1
 clear hb1 hL0
 go_wp2_with fail
 refine (J9 _ _ f.2 hL1).mono ?_
 rintro e w2 ⟨rfl,hb2⟩
 rw [h4]
 have hbA2:=hbA1.trans (hb2.mono hbA1.size)
 have x2:=(hb2.block _ (Ad x1)).trans x1
 have c20:=cell_of_row w2 w.heap.size 0 _ _ _ x2
 simp only [List.getElem?_toArray,List.getElem?_cons_zero] at c20
 have c21:=cell_of_row w2 w.heap.size 1 _ _ _ x2
 simp only [List.getElem?_toArray,List.getElem?_cons_zero,List.getElem?_cons_succ] at c21
 have hL2:=hL1.past hb2
 clear hb2 hL1
 go_wp2_with fail
 refine (Nv _ _ f.2 hL2).mono ?_
 rintro e w3 ⟨rfl,hb3⟩
 rw [h5]
 have hbA3:=hbA2.trans (hb3.mono hbA2.size)
 have x3:=(hb3.block _ (Ad x2)).trans x2
 have c30:=cell_of_row w3 w.heap.size 0 _ _ _ x3
 simp only [List.getElem?_toArray,List.getElem?_cons_zero] at c30
 have c31:=cell_of_row w3 w.heap.size 1 _ _ _ x3
 simp only [List.getElem?_toArray,List.getElem?_cons_zero,List.getElem?_cons_succ] at c31
 have hL3:=hL2.past hb3
 clear hb3 hL2
 go_wp2
 go_ret
 exact ⟨Al (by simp [A4,h0,h1,h2,h3,h4,h5]),hbA3⟩
end Go.Proofs.YtckejblkppllaaaGreatDoor
namespace Go.Proofs.YtckejblkppllaaaGreatDoor
open Go.RowKit
theorem flat_get {α : Type} (cs : α→List Value) (k : Nat) (hk : ∀ x,(cs x).length=k) : ∀ (xs : List α) (j i : Nat) (hj : j<xs.length),i<k→(xs.flatMap cs)[j * k+i]? = (cs xs[j])[i]?
 | [],j,i,hj,_=>by simp at hj
 | x :: xs,0,i,_,hi=>by
  rw [List.flatMap_cons,Nat.zero_mul,Nat.zero_add,List.getElem?_append_left (by rw [hk]; exact hi)]
  rfl
 | x :: xs,j+1,i,hj,hi=>by
  rw [List.flatMap_cons,List.getElem?_append_right (by rw [hk,Nat.add_mul]; omega),hk,show (j+1) * k+i - k=j * k+i from by rw [Nat.add_mul]; omega,flat_get cs k hk xs j i (by simpa using hj) hi]
  rfl
theorem Bi {α : Type} {w : World} {base k : Nat} {t : TypeId} {v : Value} {cs : α→List Value} {xs : List α} (hk : ∀ x,(cs x).length=k) (h : w.ownsRow base t k v xs.length (xs.flatMap cs)) : Ls w.heap.size w k cs v xs:=by
 have h':=h
 obtain ⟨h1,h2⟩:=h
 rcases h2 with ⟨rfl,hn⟩ | ⟨g,cap,cur,rfl,hg,hh,hc,hm,hs,ht⟩
 ·obtain rfl : xs = []:=List.eq_nil_of_length_eq_zero hn
  exact Ls.nil _ _ _ _
 ·refine ⟨_,_,rfl,hc,hm,fun _=>⟨g,0,rfl,Ad hh,fun j hj i u hu=>?_⟩⟩
  have hi : i<k:=by
   have:=(List.getElem?_eq_some_iff.1 hu).1
   rwa [hk] at this
  have:=h'.cells (g:=g) rfl (j * k+i) u (by rw [flat_get cs k hk xs j i hj hi]; exact hu)
  rw [Addr.add_lit] at this
  rw [Nat.add_assoc]
  exact this
theorem A0 {w w' : World} {base k n : Nat} {t : TypeId} {v : Value} {xs : List Value} (h : w.ownsRow base t k v n xs) (hb : Below w.heap.size w w') : w'.ownsRow base t k v n xs:=
 h.kept (row:=none) (Fu hb) (by cases hq : v.ownBlock with | none=>exact .inl rfl | some k=>exact .inr (by simp))
def taken {α : Type} (m : Bs) (one : Bs→Pos→α × Pos) (right : α→Bool) (b : Bs) : Option α:=
 if (one (Dy m b).1 (Dy m b).2).2=some (Dy m b).1.length∧right (one (Dy m b).1 (Dy m b).2).1=true then some (one (Dy m b).1 (Dy m b).2).1 else none
theorem taken_iff {α : Type} {m : UInt8} {one : Bs→Pos→α × Pos} {right : α→Bool} {b : Bs} {enc : α→Bs} (hstop : (one [] none).2=none) (h : ∀ l,l.length≤b.length→∀ x,said one right l=some x↔right x=true∧l=enc x) (x : α) :
  taken [m] one right b=some x↔right x=true∧b=m :: enc x:=by
 unfold taken Dy
 cases b with
 | nil=>
  simp only [List.isPrefixOf]
  constructor
  ·intro h1
   simp [hstop] at h1
  ·rintro ⟨_,h1⟩
   cases h1
 | cons c l=>
  by_cases hc : m=c
  ·subst hc
   have hp : List.isPrefixOf [m] (m :: l)=true:=by simp [List.isPrefixOf]
   rw [if_pos hp]
   have:=h l (by simp) x
   unfold said at this
   simp only [List.length_cons,List.length_nil,Nat.zero_add,List.drop_succ_cons,List.drop_zero]
   rw [this]
   simp
  ·have hp : List.isPrefixOf [m] (c :: l)=false:=by simp [List.isPrefixOf,hc]
   rw [hp]
   simp only [Bool.false_eq_true,if_false]
   constructor
   ·intro h1
    simp [hstop] at h1
   ·rintro ⟨_,h1⟩
    injection h1 with h1 _
    exact absurd h1.symm hc
theorem Dr (x : Ag) : (Ak x).length=2:=rfl
theorem Ev (x : Ah) : (Au x).length=3:=rfl
theorem begin_le (p b : Bs) : (Dy p b).1.length≤b.length:=by
 unfold Dy
 split
 ·simp
 ·simp
def Eu (b : Bs) : Option (List Ag):=taken [76] gLeaf (A5 ltB) b
def F7 (B : Nat) (b : Bs) (e : Ending) (w' : World) : Prop:=
 match Eu b with
 | some f=>∃ v,e = .returned (.tuple #[v, .int .i64 0])∧w'.ownsRow B 135 2 v f.length (f.flatMap Ak)
 | none=>e = .returned (.tuple #[.slice none 0 0, .int .i64 81])
set_option maxRecDepth 20000 in
theorem takeLeaf_any (w : World) (b : Bs) (hb : b.length≤140737488355328) :
  Calls Tryz.prog 219 #[.string (Ab b)] w fun e w'=>F7 w.heap.size b e w'∧Below w.heap.size w w':=by
 have hrd:=Lq w b [76] hb (by simp)
 have hle:=begin_le [76] b
 unfold F7 Eu taken
 generalize hx : Dy [76] b=x at *
 obtain ⟨l,s⟩:=x
 simp only at *
 have hl : l.length≤140737488355328:=by omega
 generalize hy : gLeaf l s=y at *
 obtain ⟨f,s2⟩:=y
 simp only at *
 have hrl : rL l 64 (Ch l l.length l.length) s=(f,s2):=hy
 clear hx hy
 by_cases h1 : s2=some l.length
 ·have hdec:=decide_eq_true h1
  by_cases h2 : A5 ltB f=true
  ·rw [if_pos ⟨h1,h2⟩]
   simp only
   go_enter Tryz.func219,Tryz.ntmps219
   go_wp2_with fail
   refine hrd.mono ?_
   rintro e w1 ⟨g,rfl,hR1,hg1,hb1⟩
   have hT:=Lt w1 g l s 64 (by omega) hR1 hl
   rw [show ((64 : Nat) : Int)=64 from rfl,hrl] at hT
   simp only at hT
   clear hrd hR1
   go_wp2_with fail
   refine hT.mono ?_
   rintro e w2 ⟨v,rfl,hown2,hR2,hgb2⟩
   clear hT
   have hb2 : Below w.heap.size w w2:=hb1.grown hgb2 hb1.size (fun k hk=>by injection hk with hk; omega)
   have hW:=E7 w2 g l s2 hR2
   rw [hdec] at hW
   obtain ⟨ao,cap,rfl,-⟩:=Bj hown2
   have HO:=Ac (World.ownsRow.mono hown2 hb1.size)
   have HB:=Ac hb2
   clear hown2 hb2 hR2 hgb2 hb1 hg1
   go_wp2_with fail
   refine hW.mono ?_
   rintro e w3 ⟨rfl,hb3⟩
   have hown3:=A0 HO.out hb3
   have HB3:=Ac (HB.out.trans (hb3.mono HB.out.size))
   clear hb3 hW
   have hlr:=K2 w3 f _ (Bi Dr hown3)
   rw [h2] at hlr
   have HO3:=Ac hown3
   clear hown3
   go_wp2_with fail
   refine hlr.mono ?_
   rintro e w4 ⟨rfl,hb4⟩
   have hown4:=A0 HO3.out hb4
   have HB4:=Ac (HB3.out.trans (hb4.mono HB3.out.size))
   have HO4:=Ac hown4
   clear hb4 hown4 hlr
   go_wp2
   go_ret2
   exact ⟨⟨_,rfl,HO4.out⟩,HB4.out⟩
  ·have h2:=Bool.eq_false_iff.2 h2
   rw [if_neg (by rw [h2]; simp)]
   simp only
   go_enter Tryz.func219,Tryz.ntmps219
   go_wp2_with fail
   refine hrd.mono ?_
   rintro e w1 ⟨g,rfl,hR1,hg1,hb1⟩
   have hT:=Lt w1 g l s 64 (by omega) hR1 hl
   rw [show ((64 : Nat) : Int)=64 from rfl,hrl] at hT
   simp only at hT
   clear hrd hR1
   go_wp2_with fail
   refine hT.mono ?_
   rintro e w2 ⟨v,rfl,hown2,hR2,hgb2⟩
   clear hT
   have hb2 : Below w.heap.size w w2:=hb1.grown hgb2 hb1.size (fun k hk=>by injection hk with hk; omega)
   have hW:=E7 w2 g l s2 hR2
   rw [hdec] at hW
   obtain ⟨ao,cap,rfl,-⟩:=Bj hown2
   have HO:=Ac (World.ownsRow.mono hown2 hb1.size)
   have HB:=Ac hb2
   clear hown2 hb2 hR2 hgb2 hb1 hg1
   go_wp2_with fail
   refine hW.mono ?_
   rintro e w3 ⟨rfl,hb3⟩
   have hown3:=A0 HO.out hb3
   have HB3:=Ac (HB.out.trans (hb3.mono HB.out.size))
   clear hb3 hW
   have hlr:=K2 w3 f _ (Bi Dr hown3)
   rw [h2] at hlr
   have HO3:=Ac hown3
   clear hown3
   go_wp2_with fail
   refine hlr.mono ?_
   rintro e w4 ⟨rfl,hb4⟩
   have hown4:=A0 HO3.out hb4
   have HB4:=Ac (HB3.out.trans (hb4.mono HB3.out.size))
   have HO4:=Ac hown4
   clear hb4 hown4 hlr
   go_wp2
   go_ret2
   exact ⟨rfl,HB4.out⟩
 ·have hdec:=decide_eq_false h1
  rw [if_neg (fun h=>h1 h.1)]
  simp only
  go_enter Tryz.func219,Tryz.ntmps219
  go_wp2_with fail
  refine hrd.mono ?_
  rintro e w1 ⟨g,rfl,hR1,hg1,hb1⟩
  have hT:=Lt w1 g l s 64 (by omega) hR1 hl
  rw [show ((64 : Nat) : Int)=64 from rfl,hrl] at hT
  simp only at hT
  clear hrd hR1
  go_wp2_with fail
  refine hT.mono ?_
  rintro e w2 ⟨v,rfl,hown2,hR2,hgb2⟩
  clear hT
  have hb2 : Below w.heap.size w w2:=hb1.grown hgb2 hb1.size (fun k hk=>by injection hk with hk; omega)
  have hW:=E7 w2 g l s2 hR2
  rw [hdec] at hW
  obtain ⟨ao,cap,rfl,-⟩:=Bj hown2
  have HO:=Ac (World.ownsRow.mono hown2 hb1.size)
  have HB:=Ac hb2
  clear hown2 hb2 hR2 hgb2 hb1 hg1
  go_wp2_with fail
  refine hW.mono ?_
  rintro e w3 ⟨rfl,hb3⟩
  have hown3:=A0 HO.out hb3
  have HB3:=Ac (HB.out.trans (hb3.mono HB.out.size))
  clear hb3 hW
  clear hown3
  go_wp2
  go_ret2
  exact ⟨rfl,HB3.out⟩
theorem G0 (l : Bs) : objV l = .agg #[.string (Ab (sha l)), .string (Ab l)]:=rfl
theorem Aq {P : Program} {fn : Func} {p u : Tmp} {ty : TypeId} (h : fn.results = #[.cell p ty, .tmp u]) (tmps : Array Value) (w : World) (g : Nat) (t : TypeId) (cs : Array Value) (fr : Nat × Nat) (d : TypeDesc)
  (hp : tmps.getD p undef = .pointer (some ⟨g,0,none⟩)) (hg : w.heap[g]? = some (.cells cs t fr))
  (hu : P.underlying ty=some d) (hd : (match d with | .struct _ | .array _ _=>true | _=>false)=true) (hi : (P.info? ty).map (·.size)=some cs.size) :
  (results fn tmps).run P w = .ok (.tuple #[.agg cs,tmps.getD u undef]) w:=by
 have hp' : tmps[p]?.getD undef = .pointer (some ⟨g,0,none⟩):=by simpa using hp
 rw [results_cell_tmp h]
 simp [hp',asAddr,run_loadVar_row w g t ty cs fr d hg hu hd hi]
def made (ok : Bool) (b : Bs) : Value:=if ok then .tuple #[objV b, .int .i64 0] else .tuple #[.agg #[.string ⟨#[]⟩, .string ⟨#[]⟩], .int .i64 80]
theorem listB_le {α : Type} (enc : α→Bs) (k : Nat) (xs : List α) (h : ∀ x∈xs,(enc x).length≤k) : (Dv enc xs).length≤10+xs.length * k:=by
 have hn:=El xs.length
 have : (xs.flatMap enc).length≤xs.length * k:=by
  clear hn
  induction xs with
  | nil=>simp
  | cons x r ih=>
   have h1:=h x (by simp)
   have h2:=ih (fun y hy=>h y (by simp [hy]))
   rw [List.flatMap_cons,List.length_append,List.length_cons,Nat.add_mul]
   omega
 unfold Dv
 rw [List.length_append]
 omega
theorem leafB_le {f : List Ag} (h : A5 ltB f=true) : (Bv f).length≤20000:=by
 simp only [A5,As,Bool.and_eq_true,decide_eq_true_eq,List.all_eq_true] at h
 have:=listB_le Cu 212 f (fun x hx=>by
  have h1:=h.1.2 x hx
  have n1:=El (x.1.length : Int)
  have n2:=El (x.2.length : Int)
  simp only [Cu,txt,List.length_append]
  omega)
 unfold Bv
 have h2:=h.1.1
 have h3 : f.length * 212≤64 * 212:=Nat.mul_le_mul_right _ h2
 omega
end Go.Proofs.YtckejblkppllaaaGreatDoor
