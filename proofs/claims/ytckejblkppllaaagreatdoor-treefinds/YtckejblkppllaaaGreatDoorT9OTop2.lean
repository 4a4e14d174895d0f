/-
  Texts joined: OTop2, OTop3, OShown, OOnce, OCommit, OTop4, OEntry, WRef, WVal.
-/
import Derived.Test.YtckejblkppllaaaGreatDoorT8OTake
import Derived.Lib.Bytealg
import Derived.Test.YtckejblkppllaaaGreatDoorT0WPlain
namespace Go.Proofs.YtckejblkppllaaaGreatDoor
open Go.RowKit
theorem ls_one (w : World) (l : Bs) (n : Nat) (hn : n=w.heap.size) : Ls (w.alloc (.cells #[.string (Ab l)] 9)).heap.size (w.alloc (.cells #[.string (Ab l)] 9)) 1 idC (.slice (some ⟨n,0,none⟩) 1 1) [l]:=by
 subst hn
 refine ⟨_,1,rfl,Nat.le_refl _,by unfold maxLen; omega,fun _=>⟨w.heap.size,0,rfl,by simp,fun j hj i u hu=>?_⟩⟩
 obtain rfl : j=0:=by simpa using hj
 have hi : i=0:=by
  have:=(List.getElem?_eq_some_iff.1 hu).1
  simpa [idC] using this
 subst hi
 rw [cell_of_row _ _ _ _ _ _ (heap_last w _ _ rfl)]
 exact hu
theorem branchB_le {f : Dx} (h : A4 ltB f=true) : (C8 f).length≤20000∧f.2.length≤64∧Cg f.1∧∀ x∈f.2,Cg x.2.2:=by
 simp only [A4,Dw,Ci,As,Bool.and_eq_true,decide_eq_true_eq,List.all_eq_true] at h
 obtain ⟨⟨⟨⟨h1,h2⟩,h3⟩,_⟩,h4⟩:=h
 have:=listB_le D9 116 f.2 (fun x hx=>by
  have h1:=h3 x hx
  have n1:=El x.2.2
  have n2:=El (x.1.length : Int)
  simp only [D9,Fg,txt,List.length_append]
  omega)
 have n1:=El f.1
 have h5 : f.2.length * 116≤64 * 116:=Nat.mul_le_mul_right _ h2.2
 refine ⟨by unfold C8; rw [List.length_append]; omega,h2.2,⟨by omega,by omega⟩,fun x hx=>Ky h4 (by omega) (by omega) _ (List.mem_map_of_mem (f:=fun p : Ah=>p.2.2) hx)⟩
set_option maxRecDepth 20000 in
set_option maxHeartbeats 800000 in
theorem leaf_any (w : World) (f : List Ag) (v : Value) (hv : Ls w.heap.size w 2 Ak v f) (hT : Bh w) :
  Calls Tryz.prog 225 #[v] w fun e w'=>e = .returned (made (A5 ltB f) (76 :: Bv f))∧Below w.heap.size w w':=by
 have h0:=hT.1
 have hv':=hv
 obtain ⟨ao,cap,rfl,g1,g2,-⟩:=hv'
 have hb0 : Below w.heap.size w (w.alloc (.cells #[.string ⟨#[]⟩, .string ⟨#[]⟩] 38)):=(Below.refl _ _).alloc (Nat.le_refl _) _
 have hx0 : (w.alloc (.cells #[.string ⟨#[]⟩, .string ⟨#[]⟩] 38)).heap[w.heap.size]? = some (.cells #[.string ⟨#[]⟩, .string ⟨#[]⟩] 38):=heap_last w _ _ rfl
 have hL0:=hv.alloc (.cells #[.string ⟨#[]⟩, .string ⟨#[]⟩] 38)
 have hn0 : w.heap.size+1=(w.alloc (.cells #[.string ⟨#[]⟩, .string ⟨#[]⟩] 38)).heap.size:=by simp
 generalize hw0 : (w.alloc (.cells #[.string ⟨#[]⟩, .string ⟨#[]⟩] 38))=w0 at *
 have hlr:=K2 w0 f _ hL0
 by_cases hok : A5 ltB f=true
 ·have hlen:=leafB_le hok
  have hfl : f.length≤64:=by simp only [A5,Bool.and_eq_true,decide_eq_true_eq] at hok; exact hok.1.1
  rw [hok] at hlr ⊢
  have hm : made true (76 :: Bv f) = .tuple #[objV (76 :: Bv f), .int .i64 0]:=rfl
  rw [hm]
  have hob : ∀ (W : World) (g : Nat) (u : Value),W.cell? ⟨g,0,none⟩=some u→Sl W u (76 :: Bv f)→g<W.heap.size→Bh W→Calls Tryz.prog 253 #[.pointer (some ⟨g,0,none⟩)] W fun e w'=>e = .returned (objV (76 :: Bv f))∧Below W.heap.size W w':=fun W g u h1 h2 h3 h4=>Me W g u _ h1 h2 h3 h4 (by simp; omega)
  rw [G0] at hob ⊢
  generalize sha (76 :: Bv f)=S at *
  have HL0:=Ac hL0
  clear hv hL0 hm
  skip
  skip
  skip
  go_enter Tryz.func225,Tryz.ntmps225
  go_wp2_with fail
  try rw [hw0]
  refine hlr.mono ?_
  rintro e w1 ⟨rfl,hb1⟩
  have hs1:=hb1.size
  have hL1:=HL0.out.past hb1
  have hx1:=(hb1.block _ (by omega)).trans hx0
  have hbA1:=hb0.trans (hb1.mono hb0.size)
  have hls:=ls_one w1 [76] _ rfl
  have hbM : Below w1.heap.size w1 (w1.alloc (.cells #[.string (Ab [76])] 9)):=(Below.refl _ _).alloc (Nat.le_refl _) _
  have hsM : (w1.alloc (.cells #[.string (Ab [76])] 9)).heap.size=w1.heap.size+1:=by simp
  have hLM:=hL1.past hbM
  have hwr:=Kw _ _ [[76]] hls (by simp)
  rw [show ([[76]] : List Bs).flatten = [76] from rfl] at hwr
  have HLM:=Ac hLM
  have HBM:=Ac (hbA1.trans (hbM.mono hbA1.size))
  have HXM:=Ac ((hbM.block _ (Ad hx1)).trans hx1)
  skip
  clear hlr hb1 hL1 hls hbM hLM
  go_wp2_with fail
  generalize hwM : w1.alloc (.cells #[.string (Ab [76])] 9)=wM at *
  try rw [show (w1.alloc (.cells #[.string ⟨#[76]⟩] 9))=wM from hwM]
  refine hwr.mono ?_
  rintro e w2 ⟨g,rfl,hW2,hb2⟩
  have hL2:=HLM.out.keep hb2
  have hx2:=(hb2.block _ (Ad HXM.out)).trans HXM.out
  skip
  skip
  skip
  skip
  have hbA2:=HBM.out.trans (hb2.mono HBM.out.size)
  have hsA:=HBM.out.size
  have HW2:=Ac hW2
  have HL2:=Ac hL2
  have HBA2:=Ac hbA2
  have HX2:=Ac hx2
  clear hwr hb2 hW2 hL2 hbA2 hx2
  go_wp2_with fail
  refine (layPairs_any wM.heap.size w2 g [76] _ f HW2.out HL2.out (by omega) (by unfold Bv at hlen; simp only [List.length_cons,List.length_nil]; omega)).mono ?_
  rintro e w4 ⟨rfl,hW4,hb4,-⟩
  have e4 : [76]++Dv Cu f=(76 :: Bv f):=rfl
  rw [e4] at hW4
  have hx4:=(hb4.block _ (by omega)).trans HX2.out
  have hbA4:=HBA2.out.trans (hb4.mono hsA)
  have hT4:=hT.keep hbA4 h0
  obtain ⟨u4,hc4,hsl4⟩:=hW4.sl
  have hg4:=hW4.lt
  have hb4s:=hb4.size
  have hlt4 : w.heap.size<w4.heap.size:=by have:=Ad hx4; omega
  have HX4:=Ac hx4
  have HBA4:=Ac hbA4
  have hOB:=hob w4 g u4 hc4 hsl4 hg4 hT4
  clear hW4 hb4 hx4 hbA4 hT4 e4 hob hc4 hsl4
  go_wp2_with fail
  refine hOB.mono ?_
  rintro e w5 ⟨rfl,hb5⟩
  have hx5:=(hb5.block _ (Ad HX4.out)).trans HX4.out
  have hbA5:=HBA4.out.trans (hb5.mono (Nat.le_of_lt hlt4))
  have c0:=cell_of_row w5 (w.heap.size) 0 _ _ _ hx5
  have c1:=cell_of_row w5 (w.heap.size) 1 _ _ _ hx5
  simp only [List.getElem?_toArray,List.getElem?_cons_zero,List.getElem?_cons_succ] at c0 c1
  have f0:=Af (j:=0) hx5
  have f1:=Af (j:=1) hx5
  clear hOB hb5
  go_wp2
  refine bodyPost_ret (Aq rfl _ _ _ _ _ _ _ rfl (Cm hx5) Tryz.underlying38 rfl Tryz.infoObj) rfl ⟨rfl,?_⟩
  exact (hbA5.setCell (p:=⟨w.heap.size,0,none⟩) (by simp) _).setCell (p:=⟨w.heap.size,1,none⟩) (by simp) _
 ·have hok:=Bool.eq_false_iff.2 hok
  rw [hok] at hlr ⊢
  have hm : made false (76 :: Bv f) = .tuple #[.agg #[.string ⟨#[]⟩, .string ⟨#[]⟩], .int .i64 80]:=rfl
  rw [hm]
  skip
  skip
  skip
  clear hv hL0 hm
  go_enter Tryz.func225,Tryz.ntmps225
  go_wp2_with fail
  try rw [hw0]
  refine hlr.mono ?_
  rintro e w1 ⟨rfl,hb1⟩
  have hx1:=(hb1.block _ (by omega)).trans hx0
  have hbA1:=hb0.trans (hb1.mono hb0.size)
  have c0:=cell_of_row w1 (w.heap.size) 0 _ _ _ hx1
  have c1:=cell_of_row w1 (w.heap.size) 1 _ _ _ hx1
  simp only [List.getElem?_toArray,List.getElem?_cons_zero,List.getElem?_cons_succ] at c0 c1
  have f0:=Af (j:=0) hx1
  have f1:=Af (j:=1) hx1
  clear hlr hb1
  go_wp2
  refine bodyPost_ret (Aq rfl _ _ _ _ _ _ _ rfl (Cm hx1) Tryz.underlying38 rfl Tryz.infoObj) rfl ⟨rfl,?_⟩
  exact (hbA1.setCell (p:=⟨w.heap.size,0,none⟩) (by simp) _).setCell (p:=⟨w.heap.size,1,none⟩) (by simp) _
set_option maxRecDepth 20000 in
set_option maxHeartbeats 800000 in
theorem branch_any (w : World) (f : Dx) (v : Value) (hv : Ls w.heap.size w 3 Au v f.2) (hT : Bh w) :
  Calls Tryz.prog 226 #[.agg #[.int .i64 f.1,v]] w fun e w'=>e = .returned (made (A4 ltB f) (66 :: C8 f))∧Below w.heap.size w w':=by
 have h0:=hT.1
 have hv':=hv
 obtain ⟨ao,cap,rfl,g1,g2,-⟩:=hv'
 have hb0 : Below w.heap.size w ((w.alloc (.cells #[.int .i64 f.1, .slice ao f.2.length cap] 129)).alloc (.cells #[.string ⟨#[]⟩, .string ⟨#[]⟩] 38)):=((Below.refl _ _).alloc (Nat.le_refl _) _).alloc (by simp) _
 have hx0 : ((w.alloc (.cells #[.int .i64 f.1, .slice ao f.2.length cap] 129)).alloc (.cells #[.string ⟨#[]⟩, .string ⟨#[]⟩] 38)).heap[w.heap.size+1]? = some (.cells #[.string ⟨#[]⟩, .string ⟨#[]⟩] 38):=heap_last (w.alloc (.cells #[.int .i64 f.1, .slice ao f.2.length cap] 129)) _ _ (by simp)
 have hy0 : ((w.alloc (.cells #[.int .i64 f.1, .slice ao f.2.length cap] 129)).alloc (.cells #[.string ⟨#[]⟩, .string ⟨#[]⟩] 38)).heap[w.heap.size]? = some (.cells #[.int .i64 f.1, .slice ao f.2.length cap] 129):=(heap_past (w.alloc (.cells #[.int .i64 f.1, .slice ao f.2.length cap] 129)) _ _ (by simp)).trans (heap_last w _ _ rfl)
 have hL0:=(hv.alloc (.cells #[.int .i64 f.1, .slice ao f.2.length cap] 129)).alloc (.cells #[.string ⟨#[]⟩, .string ⟨#[]⟩] 38)
 have hn0 : w.heap.size+2=((w.alloc (.cells #[.int .i64 f.1, .slice ao f.2.length cap] 129)).alloc (.cells #[.string ⟨#[]⟩, .string ⟨#[]⟩] 38)).heap.size:=by simp
 generalize hw0 : ((w.alloc (.cells #[.int .i64 f.1, .slice ao f.2.length cap] 129)).alloc (.cells #[.string ⟨#[]⟩, .string ⟨#[]⟩] 38))=w0 at *
 have hlr:=Kj w0 f _ hL0
 by_cases hok : A4 ltB f=true
 ·obtain ⟨hlen,hfl,hi64,hp64⟩:=branchB_le hok
  rw [hok] at hlr ⊢
  have hm : made true (66 :: C8 f) = .tuple #[objV (66 :: C8 f), .int .i64 0]:=rfl
  rw [hm]
  have hob : ∀ (W : World) (g : Nat) (u : Value),W.cell? ⟨g,0,none⟩=some u→Sl W u (66 :: C8 f)→g<W.heap.size→Bh W→Calls Tryz.prog 253 #[.pointer (some ⟨g,0,none⟩)] W fun e w'=>e = .returned (objV (66 :: C8 f))∧Below W.heap.size W w':=fun W g u h1 h2 h3 h4=>Me W g u _ h1 h2 h3 h4 (by simp; omega)
  rw [G0] at hob ⊢
  generalize sha (66 :: C8 f)=S at *
  have HL0:=Ac hL0
  clear hv hL0 hm
  have cy00:=cell_of_row w0 w.heap.size 0 _ _ _ hy0
  have cy01:=cell_of_row w0 w.heap.size 1 _ _ _ hy0
  simp only [List.getElem?_toArray,List.getElem?_cons_zero,List.getElem?_cons_succ] at cy00 cy01
  go_enter Tryz.func226,Tryz.ntmps226
  go_wp2_with fail
  try rw [hw0]
  refine hlr.mono ?_
  rintro e w1 ⟨rfl,hb1⟩
  have hs1:=hb1.size
  have hy1:=(hb1.block _ (by omega)).trans hy0
  have cy10:=cell_of_row w1 w.heap.size 0 _ _ _ hy1
  have cy11:=cell_of_row w1 w.heap.size 1 _ _ _ hy1
  simp only [List.getElem?_toArray,List.getElem?_cons_zero,List.getElem?_cons_succ] at cy10 cy11
  have hL1:=HL0.out.past hb1
  have hx1:=(hb1.block _ (by omega)).trans hx0
  have hbA1:=hb0.trans (hb1.mono hb0.size)
  have hls:=ls_one w1 [66] _ rfl
  have hbM : Below w1.heap.size w1 (w1.alloc (.cells #[.string (Ab [66])] 9)):=(Below.refl _ _).alloc (Nat.le_refl _) _
  have hsM : (w1.alloc (.cells #[.string (Ab [66])] 9)).heap.size=w1.heap.size+1:=by simp
  have hLM:=hL1.past hbM
  have hwr:=Kw _ _ [[66]] hls (by simp)
  rw [show ([[66]] : List Bs).flatten = [66] from rfl] at hwr
  have HLM:=Ac hLM
  have HBM:=Ac (hbA1.trans (hbM.mono hbA1.size))
  have HXM:=Ac ((hbM.block _ (Ad hx1)).trans hx1)
  have HYM:=Ac ((hbM.block _ (Ad hy1)).trans hy1)
  clear hlr hb1 hL1 hls hbM hLM
  go_wp2_with fail
  generalize hwM : w1.alloc (.cells #[.string (Ab [66])] 9)=wM at *
  try rw [show (w1.alloc (.cells #[.string ⟨#[66]⟩] 9))=wM from hwM]
  refine hwr.mono ?_
  rintro e w2 ⟨g,rfl,hW2,hb2⟩
  have hL2:=HLM.out.keep hb2
  have hx2:=(hb2.block _ (Ad HXM.out)).trans HXM.out
  have hy2:=(hb2.block _ (Ad HYM.out)).trans HYM.out
  have cy20:=cell_of_row w2 w.heap.size 0 _ _ _ hy2
  have cy21:=cell_of_row w2 w.heap.size 1 _ _ _ hy2
  simp only [List.getElem?_toArray,List.getElem?_cons_zero,List.getElem?_cons_succ] at cy20 cy21
  have hbA2:=HBM.out.trans (hb2.mono HBM.out.size)
  have hsA:=HBM.out.size
  have HW2:=Ac hW2
  have HL2:=Ac hL2
  have HBA2:=Ac hbA2
  have HX2:=Ac hx2
  clear hwr hb2 hW2 hL2 hbA2 hx2
  go_wp2_with fail
  refine (Gx wM.heap.size w2 g [66] f.1 HW2.out hi64 (by simp)).mono ?_
  rintro e w3 ⟨rfl,hW3,hb3,-⟩
  have hL3:=HL2.out.keep hb3
  have hx3:=(hb3.block _ (by omega)).trans HX2.out
  have hy3:=(hb3.block _ (by omega)).trans hy2
  have cy30:=cell_of_row w3 w.heap.size 0 _ _ _ hy3
  have cy31:=cell_of_row w3 w.heap.size 1 _ _ _ hy3
  simp only [List.getElem?_toArray,List.getElem?_cons_zero,List.getElem?_cons_succ] at cy30 cy31
  have hbA3:=HBA2.out.trans (hb3.mono hsA)
  have HW3:=Ac hW3
  have HL3:=Ac hL3
  have HBA3:=Ac hbA3
  have HX3:=Ac hx3
  clear hb3 hW3 hL3 hbA3 hx3
  go_wp2_with fail
  refine (layLinks_any wM.heap.size w3 g ([66]++num f.1) _ f.2 HW3.out HL3.out hp64 (by omega) (by unfold C8 at hlen; simp only [List.length_append,List.length_cons,List.length_nil] at hlen ⊢; omega)).mono ?_
  rintro e w4 ⟨rfl,hW4,hb4,-⟩
  have e4 : ([66]++num f.1)++Dv D9 f.2=(66 :: C8 f):=by unfold C8; simp
  rw [e4] at hW4
  have hx4:=(hb4.block _ (by omega)).trans HX3.out
  have hbA4:=HBA3.out.trans (hb4.mono hsA)
  have hT4:=hT.keep hbA4 h0
  obtain ⟨u4,hc4,hsl4⟩:=hW4.sl
  have hg4:=hW4.lt
  have hb4s:=hb4.size
  have hlt4 : w.heap.size<w4.heap.size:=by have:=Ad hx4; omega
  have HX4:=Ac hx4
  have HBA4:=Ac hbA4
  have hOB:=hob w4 g u4 hc4 hsl4 hg4 hT4
  clear hW4 hb4 hx4 hbA4 hT4 e4 hob hc4 hsl4
  go_wp2_with fail
  refine hOB.mono ?_
  rintro e w5 ⟨rfl,hb5⟩
  have hx5:=(hb5.block _ (Ad HX4.out)).trans HX4.out
  have hbA5:=HBA4.out.trans (hb5.mono (Nat.le_of_lt hlt4))
  have c0:=cell_of_row w5 (w.heap.size+1) 0 _ _ _ hx5
  have c1:=cell_of_row w5 (w.heap.size+1) 1 _ _ _ hx5
  simp only [List.getElem?_toArray,List.getElem?_cons_zero,List.getElem?_cons_succ] at c0 c1
  have f0:=Af (j:=0) hx5
  have f1:=Af (j:=1) hx5
  clear hOB hb5
  go_wp2
  refine bodyPost_ret (Aq rfl _ _ _ _ _ _ _ rfl (Cm hx5) Tryz.underlying38 rfl Tryz.infoObj) rfl ⟨rfl,?_⟩
  exact (hbA5.setCell (p:=⟨w.heap.size+1,0,none⟩) (by simp) _).setCell (p:=⟨w.heap.size+1,1,none⟩) (by simp) _
 ·have hok:=Bool.eq_false_iff.2 hok
  rw [hok] at hlr ⊢
  have hm : made false (66 :: C8 f) = .tuple #[.agg #[.string ⟨#[]⟩, .string ⟨#[]⟩], .int .i64 80]:=rfl
  rw [hm]
  have cy00:=cell_of_row w0 w.heap.size 0 _ _ _ hy0
  have cy01:=cell_of_row w0 w.heap.size 1 _ _ _ hy0
  simp only [List.getElem?_toArray,List.getElem?_cons_zero,List.getElem?_cons_succ] at cy00 cy01
  clear hv hL0 hm
  go_enter Tryz.func226,Tryz.ntmps226
  go_wp2_with fail
  try rw [hw0]
  refine hlr.mono ?_
  rintro e w1 ⟨rfl,hb1⟩
  have hx1:=(hb1.block _ (by omega)).trans hx0
  have hbA1:=hb0.trans (hb1.mono hb0.size)
  have c0:=cell_of_row w1 (w.heap.size+1) 0 _ _ _ hx1
  have c1:=cell_of_row w1 (w.heap.size+1) 1 _ _ _ hx1
  simp only [List.getElem?_toArray,List.getElem?_cons_zero,List.getElem?_cons_succ] at c0 c1
  have f0:=Af (j:=0) hx1
  have f1:=Af (j:=1) hx1
  clear hlr hb1
  go_wp2
  refine bodyPost_ret (Aq rfl _ _ _ _ _ _ _ rfl (Cm hx1) Tryz.underlying38 rfl Tryz.infoObj) rfl ⟨rfl,?_⟩
  exact (hbA1.setCell (p:=⟨w.heap.size+1,0,none⟩) (by simp) _).setCell (p:=⟨w.heap.size+1,1,none⟩) (by simp) _
end Go.Proofs.YtckejblkppllaaaGreatDoor
namespace Go.Proofs.YtckejblkppllaaaGreatDoor
open Go.RowKit
theorem Tryz.infoBranch : (Tryz.prog.info? 129).map (·.size)=some 2:=by kernel_rfl
def E4 (b : Bs) : Option Dx:=taken [66] Jd (A4 ltB) b
def E9 (B : Nat) (b : Bs) (e : Ending) (w' : World) : Prop:=
 match E4 b with
 | some f=>∃ v,e = .returned (.tuple #[.agg #[.int .i64 f.1,v], .int .i64 0])∧w'.ownsRow B 125 3 v f.2.length (f.2.flatMap Au)
 | none=>e = .returned (.tuple #[.agg #[.int .i64 0, .slice none 0 0], .int .i64 81])
set_option maxRecDepth 20000 in
set_option maxHeartbeats 800000 in
theorem Ob (w : World) (b : Bs) (hb : b.length≤140737488355328) :
  Calls Tryz.prog 220 #[.string (Ab b)] w fun e w'=>E9 w.heap.size b e w'∧Below w.heap.size w w':=by
 have hbE : Below w.heap.size w ((w.alloc (.cells #[.int .i64 0, .slice none 0 0] 129)).alloc (.cells #[.int .i64 0, .slice none 0 0] 129)):=((Below.refl _ _).alloc (Nat.le_refl _) _).alloc (by simp) _
 have hx0 : ((w.alloc (.cells #[.int .i64 0, .slice none 0 0] 129)).alloc (.cells #[.int .i64 0, .slice none 0 0] 129)).heap[w.heap.size]? = some (.cells #[.int .i64 0, .slice none 0 0] 129):=(heap_past _ _ _ (by simp)).trans (heap_last w _ _ rfl)
 have hy0 : ((w.alloc (.cells #[.int .i64 0, .slice none 0 0] 129)).alloc (.cells #[.int .i64 0, .slice none 0 0] 129)).heap[w.heap.size+1]? = some (.cells #[.int .i64 0, .slice none 0 0] 129):=heap_last (w.alloc (.cells #[.int .i64 0, .slice none 0 0] 129)) _ _ (by simp)
 have hn0 : ((w.alloc (.cells #[.int .i64 0, .slice none 0 0] 129)).alloc (.cells #[.int .i64 0, .slice none 0 0] 129)).heap.size=w.heap.size+2:=by simp
 generalize hw0 : (w.alloc (.cells #[.int .i64 0, .slice none 0 0] 129)).alloc (.cells #[.int .i64 0, .slice none 0 0] 129)=w0 at *
 have hrd:=Lq w0 b [66] hb (by simp)
 have hle:=begin_le [66] b
 unfold E9 E4 taken
 generalize hx : Dy [66] b=x at *
 obtain ⟨l,s⟩:=x
 simp only at *
 have hl : l.length≤140737488355328:=by omega
 have hg : Jd l s=(((rC l 20 s).1,(rL l 64 (Bz l l.length) (rC l 20 s).2).1),(rL l 64 (Bz l l.length) (rC l 20 s).2).2):=rfl
 rw [hg]
 have h64:=rC_le l 20 s (by omega)
 generalize hc : rC l 20 s=c at *
 obtain ⟨lev,s1⟩:=c
 simp only at *
 generalize hy : rL l 64 (Bz l l.length) s1=y at *
 obtain ⟨f,s2⟩:=y
 simp only at *
 have HC:=Ac hc
 have HY:=Ac hy
 clear hx hg hc hy
 by_cases h1 : s2=some l.length
 ·have hdec:=decide_eq_true h1
  by_cases h2 : A4 ltB (lev,f)=true
  ·rw [if_pos ⟨h1,h2⟩]
   simp only
   go_enter Tryz.func220,Tryz.ntmps220
   go_wp2_with fail
   try rw [hw0]
   refine hrd.mono ?_
   rintro e w1 ⟨g,rfl,hR1,hg1,hb1⟩
   have hx1:=(hb1.block _ (by omega)).trans hx0
   have hy1:=(hb1.block _ (by omega)).trans hy0
   have hS:=F4 w1 g l s 20 hR1 hl
   unfold Bq at hS
   rw [HC.out] at hS
   simp only at hS
   clear hrd hR1
   go_wp2_with fail
   refine hS.mono ?_
   rintro e w2 ⟨rfl,hR2,hgb2⟩
   have hx2:=(hgb2.block _ (Ad hx1) (fun e=>by injection e with e; omega)).trans hx1
   have hy2:=(hgb2.block _ (Ad hy1) (fun e=>by injection e with e; omega)).trans hy1
   have cy0:=cell_of_row w2 (w.heap.size+1) 0 _ _ _ hy2
   simp only [List.getElem?_toArray,List.getElem?_cons_zero] at cy0
   have fy0:=Af (j:=0) hy2
   have hR3:=hR2.set (n:=w.heap.size+1) (i:=0) (u:=.int .i64 lev) (.inr ⟨by omega,by omega⟩)
   have hy3 : (w2.setCell ⟨w.heap.size+1,0,none⟩ (.int .i64 lev)).heap[w.heap.size+1]? = some (.cells #[.int .i64 lev, .slice none 0 0] 129):=by rw [heap_setCell _ _ _ _ _ _ _ hy2]; simp
   have hx3:=((Ar w2 (w.heap.size+1) 0 (.int .i64 lev)).block _ (Ad hx2) (fun e=>by injection e with e; omega)).trans hx2
   have hb3 : Below w.heap.size w (w2.setCell ⟨w.heap.size+1,0,none⟩ (.int .i64 lev)):=((hbE.trans (hb1.mono hbE.size)).grown hgb2 (Nat.le_trans hbE.size hb1.size) (fun k hk=>by injection hk with hk; omega)).setCell (p:=⟨w.heap.size+1,0,none⟩) (by simp) _
   have hT:=J3 (w2.setCell ⟨w.heap.size+1,0,none⟩ (.int .i64 lev)) g l s1 64 (by omega) hR3 hl
   rw [show ((64 : Nat) : Int)=64 from rfl,HY.out] at hT
   simp only at hT
   have hsz3:=hb3.size
   have HB3:=Ac hb3
   have HX3:=Ac hx3
   have HY3:=Ac hy3
   clear hS hR2 hgb2 hb3 hx3 hy3 hR3 hx2 hy2 hx1 hy1
   go_wp2_with fail
   generalize hw3 : w2.setCell ⟨w.heap.size+1,0,none⟩ (.int .i64 lev)=w3 at *
   refine hT.mono ?_
   rintro e w4 ⟨v,rfl,hown4,hR4,hgb4⟩
   have hx4:=(hgb4.block _ (Ad HX3.out) (fun e=>by injection e with e; omega)).trans HX3.out
   have hy4:=(hgb4.block _ (Ad HY3.out) (fun e=>by injection e with e; omega)).trans HY3.out
   have cy1:=cell_of_row w4 (w.heap.size+1) 1 _ _ _ hy4
   simp only [List.getElem?_toArray,List.getElem?_cons_zero,List.getElem?_cons_succ] at cy1
   have fy1:=Af (j:=1) hy4
   obtain ⟨ao,cap,rfl,-⟩:=Bj hown4
   have hb4:=HB3.out.grown hgb4 hsz3 (fun k hk=>by injection hk with hk; omega)
   have hy5 : (w4.setCell ⟨w.heap.size+1,1,none⟩ (.slice ao f.length cap)).heap[w.heap.size+1]? = some (.cells #[.int .i64 lev, .slice ao f.length cap] 129):=by rw [heap_setCell _ _ _ _ _ _ _ hy4]; simp
   have hx5:=((Ar w4 (w.heap.size+1) 1 (.slice ao f.length cap)).block _ (Ad hx4) (fun e=>by injection e with e; omega)).trans hx4
   have hR5:=hR4.set (n:=w.heap.size+1) (i:=1) (u:=.slice ao f.length cap) (.inr ⟨by omega,by omega⟩)
   have hown5 : (w4.setCell ⟨w.heap.size+1,1,none⟩ (.slice ao f.length cap)).ownsRow w.heap.size 125 3 (.slice ao f.length cap) f.length (f.flatMap Au):=World.ownsRow.mono (ownsRow_setCell_other hown4 (Ds hown4 hy4 (by decide)) _) hsz3
   have hb5:=hb4.setCell (p:=⟨w.heap.size+1,1,none⟩) (by simp) (.slice ao f.length cap)
   have HB5:=Ac hb5
   have HX5:=Ac hx5
   have HY5:=Ac hy5
   have HO5:=Ac hown5
   have HR5:=Ac hR5
   clear hT hown4 hR4 hgb4 hb4 hb5 hx5 hy5 hown5 hR5 hx4 hy4 HX3 HY3 HB3
   go_wp2_with fail
   generalize hw5 : w4.setCell ⟨w.heap.size+1,1,none⟩ (.slice ao f.length cap)=w5 at *
   have hW:=E7 w5 g l s2 HR5.out
   rw [hdec] at hW
   refine hW.mono ?_
   rintro e w6 ⟨rfl,hb6⟩
   have hs5:=HB5.out.size
   have hx6:=(hb6.block _ (Ad HX5.out)).trans HX5.out
   have hy6:=(hb6.block _ (Ad HY5.out)).trans HY5.out
   have hb6':=HB5.out.trans (hb6.mono hs5)
   have hown6:=A0 HO5.out hb6
   have cz0:=cell_of_row w6 (w.heap.size+1) 0 _ _ _ hy6
   have cz1:=cell_of_row w6 (w.heap.size+1) 1 _ _ _ hy6
   simp only [List.getElem?_toArray,List.getElem?_cons_zero,List.getElem?_cons_succ] at cz0 cz1
   clear hW hb6 HR5
   have hlr:=Kj w6 (lev,f) _ (Bi Ev hown6)
   rw [h2] at hlr
   simp only at hlr
   have hs6:=hb6'.size
   go_wp2_with fail
   refine hlr.mono ?_
   rintro e w7 ⟨rfl,hb7⟩
   have hx7:=(hb7.block _ (Ad hx6)).trans hx6
   have hy7:=(hb7.block _ (Ad hy6)).trans hy6
   have hb7':=hb6'.trans (hb7.mono hs6)
   have hown7:=A0 hown6 hb7
   have cd0:=cell_of_row w7 (w.heap.size+1) 0 _ _ _ hy7
   have cd1:=cell_of_row w7 (w.heap.size+1) 1 _ _ _ hy7
   have ce0:=cell_of_row w7 w.heap.size 0 _ _ _ hx7
   have ce1:=cell_of_row w7 w.heap.size 1 _ _ _ hx7
   simp only [List.getElem?_toArray,List.getElem?_cons_zero,List.getElem?_cons_succ] at cd0 cd1 ce0 ce1
   have fe0:=Af (j:=0) hx7
   have fe1:=Af (j:=1) hx7
   have HO7:=Ac hown7
   clear hlr hb7 hown7 hown6
   go_wp2
   refine bodyPost_ret (Aq rfl _ _ _ _ _ _ _ rfl (Cm hx7) Tryz.underlying129 rfl Tryz.infoBranch) rfl ⟨⟨_,rfl,?_⟩,(hb7'.setCell (p:=⟨w.heap.size,0,none⟩) (by simp) _).setCell (p:=⟨w.heap.size,1,none⟩) (by simp) _⟩
   have hh0:=heap_setCell w7 w.heap.size 0 _ _ _ (.int .i64 lev) hx7
   exact ownsRow_setCell_other (ownsRow_setCell_other HO7.out (Ds HO7.out hx7 (by decide)) _) (Ds (ownsRow_setCell_other HO7.out (Ds HO7.out hx7 (by decide)) _) hh0 (by decide)) _
  ·have h2:=Bool.eq_false_iff.2 h2
   rw [if_neg (by rw [h2]; simp)]
   simp only
   go_enter Tryz.func220,Tryz.ntmps220
   go_wp2_with fail
   try rw [hw0]
   refine hrd.mono ?_
   rintro e w1 ⟨g,rfl,hR1,hg1,hb1⟩
   have hx1:=(hb1.block _ (by omega)).trans hx0
   have hy1:=(hb1.block _ (by omega)).trans hy0
   have hS:=F4 w1 g l s 20 hR1 hl
   unfold Bq at hS
   rw [HC.out] at hS
   simp only at hS
   clear hrd hR1
   go_wp2_with fail
   refine hS.mono ?_
   rintro e w2 ⟨rfl,hR2,hgb2⟩
   have hx2:=(hgb2.block _ (Ad hx1) (fun e=>by injection e with e; omega)).trans hx1
   have hy2:=(hgb2.block _ (Ad hy1) (fun e=>by injection e with e; omega)).trans hy1
   have cy0:=cell_of_row w2 (w.heap.size+1) 0 _ _ _ hy2
   simp only [List.getElem?_toArray,List.getElem?_cons_zero] at cy0
   have fy0:=Af (j:=0) hy2
   have hR3:=hR2.set (n:=w.heap.size+1) (i:=0) (u:=.int .i64 lev) (.inr ⟨by omega,by omega⟩)
   have hy3 : (w2.setCell ⟨w.heap.size+1,0,none⟩ (.int .i64 lev)).heap[w.heap.size+1]? = some (.cells #[.int .i64 lev, .slice none 0 0] 129):=by rw [heap_setCell _ _ _ _ _ _ _ hy2]; simp
   have hx3:=((Ar w2 (w.heap.size+1) 0 (.int .i64 lev)).block _ (Ad hx2) (fun e=>by injection e with e; omega)).trans hx2
   have hb3 : Below w.heap.size w (w2.setCell ⟨w.heap.size+1,0,none⟩ (.int .i64 lev)):=((hbE.trans (hb1.mono hbE.size)).grown hgb2 (Nat.le_trans hbE.size hb1.size) (fun k hk=>by injection hk with hk; omega)).setCell (p:=⟨w.heap.size+1,0,none⟩) (by simp) _
   have hT:=J3 (w2.setCell ⟨w.heap.size+1,0,none⟩ (.int .i64 lev)) g l s1 64 (by omega) hR3 hl
   rw [show ((64 : Nat) : Int)=64 from rfl,HY.out] at hT
   simp only at hT
   have hsz3:=hb3.size
   have HB3:=Ac hb3
   have HX3:=Ac hx3
   have HY3:=Ac hy3
   clear hS hR2 hgb2 hb3 hx3 hy3 hR3 hx2 hy2 hx1 hy1
   go_wp2_with fail
   generalize hw3 : w2.setCell ⟨w.heap.size+1,0,none⟩ (.int .i64 lev)=w3 at *
   refine hT.mono ?_
   rintro e w4 ⟨v,rfl,hown4,hR4,hgb4⟩
   have hx4:=(hgb4.block _ (Ad HX3.out) (fun e=>by injection e with e; omega)).trans HX3.out
   have hy4:=(hgb4.block _ (Ad HY3.out) (fun e=>by injection e with e; omega)).trans HY3.out
   have cy1:=cell_of_row w4 (w.heap.size+1) 1 _ _ _ hy4
   simp only [List.getElem?_toArray,List.getElem?_cons_zero,List.getElem?_cons_succ] at cy1
   have fy1:=Af (j:=1) hy4
   obtain ⟨ao,cap,rfl,-⟩:=Bj hown4
   have hb4:=HB3.out.grown hgb4 hsz3 (fun k hk=>by injection hk with hk; omega)
   have hy5 : (w4.setCell ⟨w.heap.size+1,1,none⟩ (.slice ao f.length cap)).heap[w.heap.size+1]? = some (.cells #[.int .i64 lev, .slice ao f.length cap] 129):=by rw [heap_setCell _ _ _ _ _ _ _ hy4]; simp
   have hx5:=((Ar w4 (w.heap.size+1) 1 (.slice ao f.length cap)).block _ (Ad hx4) (fun e=>by injection e with e; omega)).trans hx4
   have hR5:=hR4.set (n:=w.heap.size+1) (i:=1) (u:=.slice ao f.length cap) (.inr ⟨by omega,by omega⟩)
   have hown5 : (w4.setCell ⟨w.heap.size+1,1,none⟩ (.slice ao f.length cap)).ownsRow w.heap.size 125 3 (.slice ao f.length cap) f.length (f.flatMap Au):=World.ownsRow.mono (ownsRow_setCell_other hown4 (Ds hown4 hy4 (by decide)) _) hsz3
   have hb5:=hb4.setCell (p:=⟨w.heap.size+1,1,none⟩) (by simp) (.slice ao f.length cap)
   have HB5:=Ac hb5
   have HX5:=Ac hx5
   have HY5:=Ac hy5
   have HO5:=Ac hown5
   have HR5:=Ac hR5
   clear hT hown4 hR4 hgb4 hb4 hb5 hx5 hy5 hown5 hR5 hx4 hy4 HX3 HY3 HB3
   go_wp2_with fail
   generalize hw5 : w4.setCell ⟨w.heap.size+1,1,none⟩ (.slice ao f.length cap)=w5 at *
   have hW:=E7 w5 g l s2 HR5.out
   rw [hdec] at hW
   refine hW.mono ?_
   rintro e w6 ⟨rfl,hb6⟩
   have hs5:=HB5.out.size
   have hx6:=(hb6.block _ (Ad HX5.out)).trans HX5.out
   have hy6:=(hb6.block _ (Ad HY5.out)).trans HY5.out
   have hb6':=HB5.out.trans (hb6.mono hs5)
   have hown6:=A0 HO5.out hb6
   have cz0:=cell_of_row w6 (w.heap.size+1) 0 _ _ _ hy6
   have cz1:=cell_of_row w6 (w.heap.size+1) 1 _ _ _ hy6
   simp only [List.getElem?_toArray,List.getElem?_cons_zero,List.getElem?_cons_succ] at cz0 cz1
   clear hW hb6 HR5
   have hlr:=Kj w6 (lev,f) _ (Bi Ev hown6)
   rw [h2] at hlr
   simp only at hlr
   have hs6:=hb6'.size
   go_wp2_with fail
   refine hlr.mono ?_
   rintro e w7 ⟨rfl,hb7⟩
   have hx7:=(hb7.block _ (Ad hx6)).trans hx6
   have hy7:=(hb7.block _ (Ad hy6)).trans hy6
   have hb7':=hb6'.trans (hb7.mono hs6)
   have hown7:=A0 hown6 hb7
   have cd0:=cell_of_row w7 (w.heap.size+1) 0 _ _ _ hy7
   have cd1:=cell_of_row w7 (w.heap.size+1) 1 _ _ _ hy7
   have ce0:=cell_of_row w7 w.heap.size 0 _ _ _ hx7
   have ce1:=cell_of_row w7 w.heap.size 1 _ _ _ hx7
   simp only [List.getElem?_toArray,List.getElem?_cons_zero,List.getElem?_cons_succ] at cd0 cd1 ce0 ce1
   have fe0:=Af (j:=0) hx7
   have fe1:=Af (j:=1) hx7
   have HO7:=Ac hown7
   clear hlr hb7 hown7 hown6
   go_wp2
   refine bodyPost_ret (Aq rfl _ _ _ _ _ _ _ rfl (Cm hx7) Tryz.underlying129 rfl Tryz.infoBranch) rfl ⟨rfl,(hb7'.setCell (p:=⟨w.heap.size,0,none⟩) (by simp) _).setCell (p:=⟨w.heap.size,1,none⟩) (by simp) _⟩
 ·have hdec:=decide_eq_false h1
  rw [if_neg (fun h=>h1 h.1)]
  simp only
  go_enter Tryz.func220,Tryz.ntmps220
  go_wp2_with fail
  try rw [hw0]
  refine hrd.mono ?_
  rintro e w1 ⟨g,rfl,hR1,hg1,hb1⟩
  have hx1:=(hb1.block _ (by omega)).trans hx0
  have hy1:=(hb1.block _ (by omega)).trans hy0
  have hS:=F4 w1 g l s 20 hR1 hl
  unfold Bq at hS
  rw [HC.out] at hS
  simp only at hS
  clear hrd hR1
  go_wp2_with fail
  refine hS.mono ?_
  rintro e w2 ⟨rfl,hR2,hgb2⟩
  have hx2:=(hgb2.block _ (Ad hx1) (fun e=>by injection e with e; omega)).trans hx1
  have hy2:=(hgb2.block _ (Ad hy1) (fun e=>by injection e with e; omega)).trans hy1
  have cy0:=cell_of_row w2 (w.heap.size+1) 0 _ _ _ hy2
  simp only [List.getElem?_toArray,List.getElem?_cons_zero] at cy0
  have fy0:=Af (j:=0) hy2
  have hR3:=hR2.set (n:=w.heap.size+1) (i:=0) (u:=.int .i64 lev) (.inr ⟨by omega,by omega⟩)
  have hy3 : (w2.setCell ⟨w.heap.size+1,0,none⟩ (.int .i64 lev)).heap[w.heap.size+1]? = some (.cells #[.int .i64 lev, .slice none 0 0] 129):=by rw [heap_setCell _ _ _ _ _ _ _ hy2]; simp
  have hx3:=((Ar w2 (w.heap.size+1) 0 (.int .i64 lev)).block _ (Ad hx2) (fun e=>by injection e with e; omega)).trans hx2
  have hb3 : Below w.heap.size w (w2.setCell ⟨w.heap.size+1,0,none⟩ (.int .i64 lev)):=((hbE.trans (hb1.mono hbE.size)).grown hgb2 (Nat.le_trans hbE.size hb1.size) (fun k hk=>by injection hk with hk; omega)).setCell (p:=⟨w.heap.size+1,0,none⟩) (by simp) _
  have hT:=J3 (w2.setCell ⟨w.heap.size+1,0,none⟩ (.int .i64 lev)) g l s1 64 (by omega) hR3 hl
  rw [show ((64 : Nat) : Int)=64 from rfl,HY.out] at hT
  simp only at hT
  have hsz3:=hb3.size
  have HB3:=Ac hb3
  have HX3:=Ac hx3
  have HY3:=Ac hy3
  clear hS hR2 hgb2 hb3 hx3 hy3 hR3 hx2 hy2 hx1 hy1
  go_wp2_with fail
  generalize hw3 : w2.setCell ⟨w.heap.size+1,0,none⟩ (.int .i64 lev)=w3 at *
  refine hT.mono ?_
  rintro e w4 ⟨v,rfl,hown4,hR4,hgb4⟩
  have hx4:=(hgb4.block _ (Ad HX3.out) (fun e=>by injection e with e; omega)).trans HX3.out
  have hy4:=(hgb4.block _ (Ad HY3.out) (fun e=>by injection e with e; omega)).trans HY3.out
  have cy1:=cell_of_row w4 (w.heap.size+1) 1 _ _ _ hy4
  simp only [List.getElem?_toArray,List.getElem?_cons_zero,List.getElem?_cons_succ] at cy1
  have fy1:=Af (j:=1) hy4
  obtain ⟨ao,cap,rfl,-⟩:=Bj hown4
  have hb4:=HB3.out.grown hgb4 hsz3 (fun k hk=>by injection hk with hk; omega)
  have hy5 : (w4.setCell ⟨w.heap.size+1,1,none⟩ (.slice ao f.length cap)).heap[w.heap.size+1]? = some (.cells #[.int .i64 lev, .slice ao f.length cap] 129):=by rw [heap_setCell _ _ _ _ _ _ _ hy4]; simp
  have hx5:=((Ar w4 (w.heap.size+1) 1 (.slice ao f.length cap)).block _ (Ad hx4) (fun e=>by injection e with e; omega)).trans hx4
  have hR5:=hR4.set (n:=w.heap.size+1) (i:=1) (u:=.slice ao f.length cap) (.inr ⟨by omega,by omega⟩)
  have hown5 : (w4.setCell ⟨w.heap.size+1,1,none⟩ (.slice ao f.length cap)).ownsRow w.heap.size 125 3 (.slice ao f.length cap) f.length (f.flatMap Au):=World.ownsRow.mono (ownsRow_setCell_other hown4 (Ds hown4 hy4 (by decide)) _) hsz3
  have hb5:=hb4.setCell (p:=⟨w.heap.size+1,1,none⟩) (by simp) (.slice ao f.length cap)
  have HB5:=Ac hb5
  have HX5:=Ac hx5
  have HY5:=Ac hy5
  have HO5:=Ac hown5
  have HR5:=Ac hR5
  clear hT hown4 hR4 hgb4 hb4 hb5 hx5 hy5 hown5 hR5 hx4 hy4 HX3 HY3 HB3
  go_wp2_with fail
  generalize hw5 : w4.setCell ⟨w.heap.size+1,1,none⟩ (.slice ao f.length cap)=w5 at *
  have hW:=E7 w5 g l s2 HR5.out
  rw [hdec] at hW
  refine hW.mono ?_
  rintro e w6 ⟨rfl,hb6⟩
  have hs5:=HB5.out.size
  have hx6:=(hb6.block _ (Ad HX5.out)).trans HX5.out
  have hy6:=(hb6.block _ (Ad HY5.out)).trans HY5.out
  have hb6':=HB5.out.trans (hb6.mono hs5)
  have hown6:=A0 HO5.out hb6
  have cz0:=cell_of_row w6 (w.heap.size+1) 0 _ _ _ hy6
  have cz1:=cell_of_row w6 (w.heap.size+1) 1 _ _ _ hy6
  simp only [List.getElem?_toArray,List.getElem?_cons_zero,List.getElem?_cons_succ] at cz0 cz1
  clear hW hb6 HR5
  have ce0:=cell_of_row w6 w.heap.size 0 _ _ _ hx6
  have ce1:=cell_of_row w6 w.heap.size 1 _ _ _ hx6
  simp only [List.getElem?_toArray,List.getElem?_cons_zero,List.getElem?_cons_succ] at ce0 ce1
  have fe0:=Af (j:=0) hx6
  have fe1:=Af (j:=1) hx6
  clear hown6
  go_wp2
  refine bodyPost_ret (Aq rfl _ _ _ _ _ _ _ rfl (Cm hx6) Tryz.underlying129 rfl Tryz.infoBranch) rfl ⟨rfl,(hb6'.setCell (p:=⟨w.heap.size,0,none⟩) (by simp) _).setCell (p:=⟨w.heap.size,1,none⟩) (by simp) _⟩
end Go.Proofs.YtckejblkppllaaaGreatDoor
namespace Go.Proofs.YtckejblkppllaaaGreatDoor
open Go.RowKit
theorem Ib (b : Bs) (hb : b.length≤140737488355328) (f : List Ag) : Eu b=some f↔A5 ltB f=true∧b=76 :: Bv f:=
 taken_iff (enc:=Bv) rfl (fun l hl x=>leaf_iff ltB l (by omega) x) f
theorem K7 (b : Bs) (hb : b.length≤140737488355328) (f : Dx) : E4 b=some f↔A4 ltB f=true∧b=66 :: C8 f:=
 taken_iff (enc:=C8) rfl (fun l hl x=>branch_iff ltB l (by omega) x) f
theorem out_length (s : St) : (out s).length=32:=rfl
theorem Hz (l : List UInt8) : (sha l).length=32:=out_length _
end Go.Proofs.YtckejblkppllaaaGreatDoor
namespace Go.Proofs.YtckejblkppllaaaGreatDoor
open Go.RowKit
end Go.Proofs.YtckejblkppllaaaGreatDoor
namespace Go.Proofs.YtckejblkppllaaaGreatDoor
open Go.RowKit
end Go.Proofs.YtckejblkppllaaaGreatDoor
namespace Go.Proofs.YtckejblkppllaaaGreatDoor
open Go.RowKit
end Go.Proofs.YtckejblkppllaaaGreatDoor
namespace Go.Proofs.YtckejblkppllaaaGreatDoor
open Go.RowKit
namespace Pt
def name (l : List UInt8) : Bool:=decide (1≤l.length∧l.length≤64∧l ≠ [46]∧l ≠ [46,46]∧47 ∉ l∧0 ∉ l)
theorem indexByte_none {l : List UInt8} {c : UInt8} (h : c ∉ l) : Lib.indexByte l c = -1:=by
 induction l with
 | nil=>rfl
 | cons b t ih=>
  simp only [List.mem_cons,not_or] at h
  unfold Lib.indexByte
  rw [ih h.2]
  simp [show ¬ b=c from fun e=>h.1 e.symm]
theorem indexByte_app {p r : List UInt8} {c : UInt8} (h : c ∉ p) : Lib.indexByte (p++c :: r) c=p.length:=by
 induction p with
 | nil=>simp [Lib.indexByte]
 | cons b t ih=>
  simp only [List.mem_cons,not_or] at h
  show Lib.indexByte (b :: (t++c :: r)) c=_
  unfold Lib.indexByte
  rw [ih h.2]
  simp only [beq_iff_eq,show ¬ b=c from fun e=>h.1 e.symm,if_false,List.length_cons]
  rw [if_neg (by omega)]
  omega
theorem indexByte_neg (l : List UInt8) (c : UInt8) : decide (Lib.indexByte l c<0)=decide (c ∉ l):=by
 by_cases h : c∈l
 ·obtain ⟨p,r,rfl,hp⟩ : ∃ p r,l=p++c :: r∧c ∉ p:=by
   induction l with
   | nil=>simp at h
   | cons b t ih=>
    by_cases e : b=c
    ·exact ⟨[],t,by simp [e],by simp⟩
    ·obtain ⟨p,r,rfl,hp⟩:=ih (by simpa [show ¬ c=b from fun x=>e x.symm] using h)
     exact ⟨b :: p,r,rfl,by simp [hp]; exact fun x=>e x.symm⟩
  rw [indexByte_app hp]
  simp
 ·rw [indexByte_none h]
  simp [h]
end Pt
def Ck (name : Bs) (v : Val) : Bool:=Pt.name name && valOk v
theorem Tryz.infoEntry : (Tryz.prog.info? 27).map (·.size)=some 4:=by kernel_rfl
theorem Et {w : World} {g : Nat} {v0 v1 v2 v3 u0 u1 u2 u3 : Value} {t : TypeId} (h : w.heap[g]? = some (.cells #[v0,v1,v2,v3] t)) : ((((w.setCell ⟨g,0,none⟩ u0).setCell ⟨g,1,none⟩ u1).setCell ⟨g,2,none⟩ u2).setCell ⟨g,3,none⟩ u3).heap[g]? = some (.cells #[u0,u1,u2,u3] t):=by
 rw [heap_setCell _ _ _ _ _ _ _ (heap_setCell _ _ _ _ _ _ _ (heap_setCell _ _ _ _ _ _ _ (heap_setCell _ _ _ _ _ _ _ h)))]
 simp
def Dc (name val : Bs) : Option Val:=if (gVal val (some 0)).2=some val.length∧Ck name (gVal val (some 0)).1=true then some (gVal val (some 0)).1 else none
def F9 (name val : Bs) (e : Ending) : Prop:=
 match Dc name val with
 | some v=>e = .returned (.tuple #[.agg #[.string (Ab name), .int .i64 v.1, .string (Ab v.2.1), .int .i64 v.2.2], .int .i64 0])
 | none=>e = .returned (.tuple #[.agg #[.string ⟨#[]⟩, .int .i64 0, .string ⟨#[]⟩, .int .i64 0], .int .i64 81])
theorem rc {w : World} {k i : Nat} {cs : Array Value} {t : TypeId} {fr : Nat × Nat} {u : Value} (h : w.heap[k]? = some (Obj.cells cs t fr)) (hu : cs[i]? = some u) : w.cell? ⟨k,i,none⟩=some u:=by rw [cell_of_row w k i _ _ _ h,hu]
theorem begin_nil (b : Bs) : Dy [] b=(b,some 0):=by
 unfold Dy
 rw [if_pos (by simp [List.isPrefixOf])]
 simp
end Go.Proofs.YtckejblkppllaaaGreatDoor
namespace Go.Proofs.YtckejblkppllaaaGreatDoor
open Go.RowKit
theorem ref_neg (n : Int) (h0 : -9223372036854775808≤n) (h1 : n<0) : bits .xor .u64 IntKind.u64.max (IntKind.u64.wrap (IntKind.u64.wrap n * 2))=((Pl.zz n : Nat) : Int):=by
 have e1 : IntKind.u64.wrap (IntKind.u64.wrap n * 2)=((2 * n+18446744073709551616).toNat : Int):=by
  rw [IntKind.wrap_u64,IntKind.wrap_u64]; omega
 rw [e1,show IntKind.u64.max=((18446744073709551615 : Nat) : Int) from by decide,bits_xor_u64_nat _ _ (by omega) (by omega),Kq _ (by omega)]
 unfold Pl.zz; rw [if_neg (by omega)]
 omega
set_option maxRecDepth 20000 in
set_option maxHeartbeats 800000 in
theorem Id (w : World) (n : Int) (h0 : -9223372036854775808≤n) (h1 : n≤9223372036854775807) :
  Calls Tryz.prog 112 #[.int .i64 n] w fun e w'=>∃ v,e = .returned v∧w'.ownsRow w.heap.size 5 1 v (num n).length (bc (num n))∧Below w.heap.size w w':=by
 obtain ⟨i0,hi,hz0,hz1,hz2⟩:=info_parts Tryz.infoB
 have HZ : Hid (Pl.zz n<18446744073709551616):=Pl.zz_lt n h0 h1
 have HP : Hid (0≤n→n * 2=((Pl.zz n : Nat) : Int)):=fun h=>by unfold Pl.zz; rw [if_pos h]; omega
 rcases (show n<0∨0≤n by omega) with hn | hn
 ·have e1:=ref_neg n h0 hn
  go_enter Tryz.func112,Tryz.ntmps112
  go_wp2
  go_loopw [3,4] (fun x v wr=>∃ (pre : List UInt8) (y f : Nat),x = .int .u64 y∧y<2 ^ (7 * f+1)∧f≤9∧Pl.enc (Pl.zz n)=pre++Pl.encF f y ∧
    wr.ownsRow w.heap.size 5 1 v pre.length (bc pre)∧Below w.heap.size w wr∧pre.length≤9 - f)
   (fun x _ _=>(intOf x).toNat)
  case atStart=>exact ⟨[],Pl.zz n,9,rfl,by simpa using HZ.out,by omega,rfl,World.ownsRow_nil _ _ _ _,Below.refl _ _,by simp⟩
  case round=>
   obtain ⟨pre,y,f,rfl,hy,hf,he,hown',hbel,hpl⟩:=hrel
   have hsz:=hbel.size
   by_cases hlt : 128≤y
   ·obtain ⟨f,rfl⟩ : ∃ f',f=f'+1:=⟨f - 1,by cases f with | zero=>simp at hy; omega | succ f=>omega⟩
    have he' : Pl.enc (Pl.zz n)=(pre ++ [UInt8.ofNat (y % 128+128)])++Pl.encF f (y / 128):=by
     rw [he]; conv=>lhs; unfold Pl.encF
     rw [if_neg (by omega)]; simp
    have hy' : y / 128<2 ^ (7 * f+1):=by
     rw [show 7 * (f+1)+1=(7 * f+1)+7 from by omega,Nat.pow_add] at hy; omega
    have HE:=Ac he'
    have HY:=Ac hy'
    clear he he' hy hy'
    go_wp2_with (at_builtin; refine wpList_append_own _ rfl (.tmp 14) (.tmp 18) 137 rfl w.heap.size 5 i0 (.int .u8 0) 1 1 Tryz.underlying137 hi hz0 hz1 hz2 rfl (by decide) _ _ _ rfl (hown'.alloc _) ⟨wr.heap.size,0,none⟩ 1 1 (bc [UInt8.ofNat (y % 128+128)]) rfl rfl ?c1 (Dn _) ?c3 ?c4 ?c5 ?_)
    case c1=>
     intro j x hj
     match j,hj with
     | 0,hj=>simp [bc] at hj; subst hj; simp [Addr.add_lit,or128]
    case c3=>unfold maxLen; omega
    case c4=>omega
    case c5=>simp; omega
    intro v2 w2 hown2 hgrow2 _
    have hb2 : Below w.heap.size w w2:=(hbel.alloc hsz _).grown hgrow2 (by simp; omega) (fun k hk=>(hown'.lt k hk).1)
    rw [← Dm] at hown2
    clear hgrow2 hown' hbel
    go_wp2
    go_roundw
    case rel=>exact ⟨pre ++ [UInt8.ofNat (y % 128+128)],y / 128,f,by go_num,HY.out,by omega,HE.out,by simpa using hown2,hb2,by simp; omega⟩
    case measure=>simp [intOf]; omega
   ·have HE : Hid (Pl.enc (Pl.zz n)=pre ++ [UInt8.ofNat y]):=by rw [he,Pl.encF_small f y (by omega)]; rfl
    clear hy he
    go_wp2_with (at_builtin; refine wpList_append_own _ rfl (.tmp 22) (.tmp 25) 137 rfl w.heap.size 5 i0 (.int .u8 0) 1 1 Tryz.underlying137 hi hz0 hz1 hz2 rfl (by decide) _ _ _ rfl (hown'.alloc _) ⟨wr.heap.size,0,none⟩ 1 1 (bc [UInt8.ofNat y]) rfl rfl ?c1 (Dn _) ?c3 ?c4 ?c5 ?_)
    case c1=>
     intro j x hj
     match j,hj with
     | 0,hj=>simp [bc] at hj; subst hj; simp [Addr.add_lit]; omega
    case c3=>unfold maxLen; omega
    case c4=>omega
    case c5=>simp; omega
    intro v2 w2 hown2 hgrow2 _
    have hb2 : Below w.heap.size w w2:=(hbel.alloc hsz _).grown hgrow2 (by simp; omega) (fun k hk=>(hown'.lt k hk).1)
    rw [← Dm] at hown2
    clear hgrow2 hown' hbel
    go_wp2
    go_ret
    have e : pre.length+1=(pre ++ [UInt8.ofNat y]).length:=by simp
    rw [e,← HE.out] at hown2
    exact ⟨v2,rfl,hown2,hb2⟩
 ·go_enter Tryz.func112,Tryz.ntmps112
  go_wp2
  go_loopw [3,4] (fun x v wr=>∃ (pre : List UInt8) (y f : Nat),x = .int .u64 y∧y<2 ^ (7 * f+1)∧f≤9∧Pl.enc (Pl.zz n)=pre++Pl.encF f y ∧
    wr.ownsRow w.heap.size 5 1 v pre.length (bc pre)∧Below w.heap.size w wr∧pre.length≤9 - f)
   (fun x _ _=>(intOf x).toNat)
  case atStart=>exact ⟨[],Pl.zz n,9,congrArg (Value.int .u64) (HP.out hn),by simpa using HZ.out,by omega,rfl,World.ownsRow_nil _ _ _ _,Below.refl _ _,by simp⟩
  case round=>
   obtain ⟨pre,y,f,rfl,hy,hf,he,hown',hbel,hpl⟩:=hrel
   have hsz:=hbel.size
   by_cases hlt : 128≤y
   ·obtain ⟨f,rfl⟩ : ∃ f',f=f'+1:=⟨f - 1,by cases f with | zero=>simp at hy; omega | succ f=>omega⟩
    have he' : Pl.enc (Pl.zz n)=(pre ++ [UInt8.ofNat (y % 128+128)])++Pl.encF f (y / 128):=by
     rw [he]; conv=>lhs; unfold Pl.encF
     rw [if_neg (by omega)]; simp
    have hy' : y / 128<2 ^ (7 * f+1):=by
     rw [show 7 * (f+1)+1=(7 * f+1)+7 from by omega,Nat.pow_add] at hy; omega
    have HE:=Ac he'
    have HY:=Ac hy'
    clear he he' hy hy'
    go_wp2_with (at_builtin; refine wpList_append_own _ rfl (.tmp 14) (.tmp 18) 137 rfl w.heap.size 5 i0 (.int .u8 0) 1 1 Tryz.underlying137 hi hz0 hz1 hz2 rfl (by decide) _ _ _ rfl (hown'.alloc _) ⟨wr.heap.size,0,none⟩ 1 1 (bc [UInt8.ofNat (y % 128+128)]) rfl rfl ?c1 (Dn _) ?c3 ?c4 ?c5 ?_)
    case c1=>
     intro j x hj
     match j,hj with
     | 0,hj=>simp [bc] at hj; subst hj; simp [Addr.add_lit,or128]
    case c3=>unfold maxLen; omega
    case c4=>omega
    case c5=>simp; omega
    intro v2 w2 hown2 hgrow2 _
    have hb2 : Below w.heap.size w w2:=(hbel.alloc hsz _).grown hgrow2 (by simp; omega) (fun k hk=>(hown'.lt k hk).1)
    rw [← Dm] at hown2
    clear hgrow2 hown' hbel
    go_wp2
    go_roundw
    case rel=>exact ⟨pre ++ [UInt8.ofNat (y % 128+128)],y / 128,f,by go_num,HY.out,by omega,HE.out,by simpa using hown2,hb2,by simp; omega⟩
    case measure=>simp [intOf]; omega
   ·have HE : Hid (Pl.enc (Pl.zz n)=pre ++ [UInt8.ofNat y]):=by rw [he,Pl.encF_small f y (by omega)]; rfl
    clear hy he
    go_wp2_with (at_builtin; refine wpList_append_own _ rfl (.tmp 22) (.tmp 25) 137 rfl w.heap.size 5 i0 (.int .u8 0) 1 1 Tryz.underlying137 hi hz0 hz1 hz2 rfl (by decide) _ _ _ rfl (hown'.alloc _) ⟨wr.heap.size,0,none⟩ 1 1 (bc [UInt8.ofNat y]) rfl rfl ?c1 (Dn _) ?c3 ?c4 ?c5 ?_)
    case c1=>
     intro j x hj
     match j,hj with
     | 0,hj=>simp [bc] at hj; subst hj; simp [Addr.add_lit]; omega
    case c3=>unfold maxLen; omega
    case c4=>omega
    case c5=>simp; omega
    intro v2 w2 hown2 hgrow2 _
    have hb2 : Below w.heap.size w w2:=(hbel.alloc hsz _).grown hgrow2 (by simp; omega) (fun k hk=>(hown'.lt k hk).1)
    rw [← Dm] at hown2
    clear hgrow2 hown' hbel
    go_wp2
    go_ret
    have e : pre.length+1=(pre ++ [UInt8.ofNat y]).length:=by simp
    rw [e,← HE.out] at hown2
    exact ⟨v2,rfl,hown2,hb2⟩
set_option maxRecDepth 20000 in
set_option maxHeartbeats 400000 in
theorem refText_any (w : World) (s : ByteArray) (hs : s.size≤140737488355318) :
  Calls Tryz.prog 113 #[.string s] w fun e w'=>∃ v,e = .returned v∧w'.ownsRow w.heap.size 5 1 v (txt s.data.toList).length (bc (txt s.data.toList))∧Below w.heap.size w w':=by
 obtain ⟨i0,hi,hz0,hz1,hz2⟩:=info_parts Tryz.infoB
 have hnl:=El s.size
 go_enter Tryz.func113,Tryz.ntmps113
 go_wp2_with fail
 refine (Id _ _ (by omega) (by omega)).mono ?_
 rintro e w1 ⟨v,rfl,hown,hb⟩
 generalize hq : (num s.size).length=q at hown hnl
 have HQ:=Ac hq
 clear hq
 have hz:=hb.size
 go_wp2_with (at_builtin; refine Lib.wpList_append_own_string _ rfl _ _ 137 9 rfl w.heap.size 5 i0 Tryz.underlying137 Tryz.underlying9 hi hz0 hz1 hz2 v q (bc (num s.size)) rfl hown s rfl (by unfold maxLen; omega) (by omega) hz ?_; intro v2 w2 hown2 hgrow2 _)
 go_ret
 have e : Lib.strCells s=bc s.data.toList:=rfl
 rw [e,← Dm] at hown2
 have e2 : q+s.size=(txt s.data.toList).length:=by rw [← HQ.out]; unfold txt; simp
 have e3 : num (s.size : Int)++s.data.toList=txt s.data.toList:=by unfold txt; simp
 rw [e2,e3] at hown2
 exact ⟨v2,rfl,hown2,hb.grown hgrow2 hz (fun k hk=>(hown.lt k hk).1)⟩
end Go.Proofs.YtckejblkppllaaaGreatDoor
namespace Go.Proofs.YtckejblkppllaaaGreatDoor.Pl
def val (l : List UInt8) : Nat→Nat
 | 0=>0
 | i+1=>val l i ||| ((l.getD i 0).toNat % 128 * 2 ^ (7 * i)) % 18446744073709551616
theorem val_lt (l : List UInt8) : ∀ i,val l i<18446744073709551616
 | 0=>by simp [val]
 | i+1=>by
  have h1:=val_lt l i
  unfold val
  exact Nat.or_lt_two_pow (n:=64) h1 (Nat.mod_lt _ (by decide))
theorem val_small (l : List UInt8) : ∀ i,i≤9→val l i<2 ^ (7 * i)
 | 0,_=>by simp [val]
 | i+1,h=>by
  have h1:=val_small l i (by omega)
  have hc : (l.getD i 0).toNat % 128<128:=Nat.mod_lt _ (by decide)
  have h2 : (l.getD i 0).toNat % 128 * 2 ^ (7 * i)<2 ^ (7 * (i+1)):=by
   rw [p7]; exact Nat.mul_lt_mul_of_pos_right hc (Nat.two_pow_pos _)
  have h3 : (2 : Nat) ^ (7 * i)≤2 ^ (7 * (i+1)):=Nat.pow_le_pow_right (by omega) (by omega)
  unfold val
  exact Nat.or_lt_two_pow (by omega) (Nat.lt_of_le_of_lt (Nat.mod_le _ _) h2)
theorem val_add (l : List UInt8) (i c : Nat) (hi : i≤9) (hc : (l.getD i 0).toNat % 128=c) (hlt : c * 2 ^ (7 * i)<18446744073709551616) : val l (i+1)=val l i+c * 2 ^ (7 * i):=by
 have h1:=val_small l i hi
 conv=>lhs; unfold val
 rw [hc,Nat.mod_eq_of_lt hlt,Nat.or_comm,Nat.mul_comm c,← Nat.two_pow_add_eq_or_of_lt h1 c,Nat.add_comm]
theorem dec_val (l : List UInt8) : ∀ (m k u c : Nat),l.length - k=m→k≤9→dec (l.drop k) k (val l k)=some (u,c)→val l c=u:=by
 intro m
 induction m with
 | zero=>
  intro k u c hm hk h
  rw [List.drop_eq_nil_of_le (by omega)] at h
  simp [dec] at h
 | succ m ih=>
  intro k u c hm hk h
  have hkl : k<l.length:=by omega
  rw [List.drop_eq_getElem_cons hkl] at h
  have hg : l.getD k 0=l[k]:=by simp [List.getD,List.getElem?_eq_getElem hkl]
  have hb : l[k].toNat<256:=l[k].toNat_lt
  simp only [dec] at h
  split at h
  ·cases h
  split at h
  ·cases h
  split at h
  ·rename_i h1 h2 h3
   simp only [Option.some.injEq,Prod.mk.injEq] at h
   rw [← h.1,← h.2]
   refine val_add l k _ hk (by rw [hg]; exact Nat.mod_eq_of_lt h3) ?_
   by_cases e : k=9
   ·have e2 : (2 : Nat) ^ (7 * k)=9223372036854775808:=by rw [e]
    have h1' : l[k].toNat≤1:=by omega
    rw [e2]
    omega
   ·have : (2 : Nat) ^ (7 * k)≤2 ^ 56:=Nat.pow_le_pow_right (by omega) (by omega)
    have e3 : (2 : Nat) ^ 56=72057594037927936:=by decide
    rw [e3] at this
    have:=Nat.mul_le_mul (show l[k].toNat≤127 by omega) this
    omega
  ·rename_i h1 h2 h3
   have hk8 : k≤8:=by omega
   have : (2 : Nat) ^ (7 * k)≤2 ^ 56:=Nat.pow_le_pow_right (by omega) (by omega)
   have e3 : (2 : Nat) ^ 56=72057594037927936:=by decide
   rw [e3] at this
   have:=Nat.mul_le_mul (show l[k].toNat - 128≤127 by omega) this
   rw [← val_add l k (l[k].toNat - 128) hk (by rw [hg]; omega) (by omega)] at h
   exact ih (k+1) u c (by omega) (by omega) h
theorem dec_hit {l : List UInt8} {u c : Nat} (h : dec l 0 0=some (u,c)) : val l c=u∧enc (val l c)=l.take c:=by
 have h1:=dec_val l l.length 0 u c (by omega) (by omega) (by simpa [val] using h)
 refine ⟨h1,?_⟩
 rw [h1,(dec_take h).2.2.1]
theorem hit_dec {l : List UInt8} {k : Nat} (hk : k≤l.length) (h : enc (val l k)=l.take k) : dec l 0 0=some (val l k,k):=by
 have h1:=dec_enc (val l k) (l.drop k) (val_lt l k)
 rw [h,List.take_append_drop] at h1
 rw [h1]
 simp; omega
end Go.Proofs.YtckejblkppllaaaGreatDoor.Pl
