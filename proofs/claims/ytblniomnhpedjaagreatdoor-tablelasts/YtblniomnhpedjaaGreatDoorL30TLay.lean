/-
  lay: what is laid into the log by a Commit. Conditions: the table, its log and the puts lie there; lengths within reach; the table of sums holds its numbers.
-/
import Derived.Test.YtblniomnhpedjaaGreatDoorL28TKeys
import Derived.Test.YtblniomnhpedjaaGreatDoorL29Firm
namespace Go.Proofs.YtblniomnhpedjaaGreatDoor
open Go.RowKit
def Bi (S : Dk) (L : Lw) (sure : Bool) (ps : List Al) (nx : List Af) : Dk × Lw × Int:=
 if sure=true∧L.wh+Bx (ps.map Ar)≤10000+2 * Ag nx then C1 S L (ps.map Ar) else Cy S L ((Bm nx).map Ar)
theorem Ii {S : Dk} {L : Lw} {sure : Bool} {ps : List Al} {nx : List Af} (h : sure=true) (h2 : L.wh+Bx (ps.map Ar)≤10000+2 * Ag nx) : Bi S L sure ps nx=C1 S L (ps.map Ar):=by unfold Bi; rw [if_pos ⟨h,h2⟩]
theorem Gj {S : Dk} {L : Lw} {sure : Bool} {ps : List Al} {nx : List Af} (h : ¬ (sure=true∧L.wh+Bx (ps.map Ar)≤10000+2 * Ag nx)) : Bi S L sure ps nx=Cy S L ((Bm nx).map Ar):=by unfold Bi; rw [if_neg h]
theorem Da {w w' : World} (h : Below w.heap.size w w') : Chg (fun _=>False) w w':=⟨h.os,h.tape,h.output,h.size,fun k hk _=>h.block k hk⟩
section
variable {B : Nat} {w : World} {F : Nat→Prop} {d g t b : Nat} {S : Dk} {L : Lw} {sure : Bool} {lp nx : List Af} {ps : List Al} {v : Value} {bn : Nat}
set_option maxRecDepth 40000 in
set_option maxHeartbeats 4000000 in
theorem tlay_any (hL : Lg B w F d g S L) (hA : TabAt w t b g sure lp) (ht : ¬ F t∧t≠g) (hv : PsT w v ps) (hm : Ak w bn (rv nx)) (hri : Bq nx) (hB0 : 0<B) (hT : Bk w)
  (hps : ps.length≤1000000∧∀ p∈ps,p.1.length≤1000000∧p.2.1.length≤1000000) (hnx : nx.length≤1000000∧∀ p∈nx,p.1.length≤1000000∧p.2.length≤1000000) (hb : 2 * S.bulk<999999990) (hwh : 0≤L.wh∧L.wh≤1099511627776) (hwt : Ag nx≤1048576) (hmo : Bx (ps.map Ar)≤4611686018427387904)
  (hea : ∀ r∈ps.map Ar,r.length≤140737488355328) (heb : ∀ r∈(Bm nx).map Ar,r.length≤140737488355328) :
  Calls Tryz.prog 52 #[.pointer (some ⟨t,0,none⟩),v, .agg #[.map (some bn), .int .i64 (Ag nx)]] w fun e w'=>e = .returned (.int .i64 (Bi S L sure ps nx).2.2)∧Bu B w F d g (Bi S L sure ps nx).1 (Bi S L sure ps nx).2.1 w':=by
 have hA0:=Cm w (.cells #[.map (some bn), .int .i64 (Ag nx)] 97)
 have hx0:=Aq w (.cells #[.map (some bn), .int .i64 (Ag nx)] 97)
 generalize hw0 : w.alloc (.cells #[.map (some bn), .int .i64 (Ag nx)] 97)=w0 at *
 have hlt:=At hA.cells
 have hglt:=hL.lt
 have hg0:=Mt w0 v ps (hv.quiet hA0) hps.1 hps.2
 have hap : ∀ p∈Bm nx,p.1.length≤1000000∧p.2.1.length≤1000000:=fun p hp=>by
  obtain ⟨q,hq,rfl⟩:=List.mem_map.1 hp
  exact hnx.2 q hq
 have HFL:=Ab (show ∀ k,F k→k<w.heap.size from fun k hk=>(hL.1.2.1 k hk).2)
 go_enter Tryz.func52,Tryz.ntmps52
 go_wp2_with fail
 try rw [hw0]
 refine hg0.mono ?_
 rintro e w1 ⟨u,rfl,hou,hb1⟩
 have q1:=Da hb1
 have q01 : Chg (fun _=>False) w w1:=hA0.then q1
 have X1:=hL.keep q01 (fun _ _ h=>h) (fun h=>h)
 have ht1:=q01.keep hA.cells (fun h=>h)
 have hx1:=q1.keep hx0 (fun h=>h)
 have hm1:=hm.keep q01 (fun h=>h)
 have x2:=Ad ht1 2
 have x3:=Ad ht1 3
 have n0:=Ad hx1 0
 have n1:=Ad hx1 1
 simp only [List.getElem?_toArray,List.getElem?_cons_zero,List.getElem?_cons_succ] at x2 x3 n0 n1
 have hs0 : w0.heap.size=w.heap.size+1:=by rw [← hw0]; simp
 have hs1 : w0.heap.size≤w1.heap.size:=hb1.size
 have hT1 : Bk w1:=hT.keep (q01.below (fun _ h=>h.elim) (Nat.le_refl _))
 have hput:=puts_any w1.drew.drew bn nx (Ag nx) (hm1.keep ((Chg.refl (fun _=>False) w1).drew.drew) (fun h=>h)) hri (fun p hp=>by have:=(hnx.2 p hp).1; omega) (by omega)
 have HT1:=Ab hT1
 have HQ:=Ab q01
 have HX:=Ab (And.intro X1 hou)
 clear hg0 hb1 q1 q01 X1 ht1 hx1 hm1 hT hm hv hL hA hA0 hx0
 obtain ⟨ua,uc,hus⟩:=(Fq hou).form
 subst hus
 have HOU:=Ab hou
 clear hou
 cases hsu : sure with
 | false=>
  have HR:=Ab (show Bi S L sure ps nx=Cy S L ((Bm nx).map Ar) from Gj (by rw [hsu]; simp))
  rw [hsu] at x3
  clear hsu
  go_wp2_with fail
  refine wp_region_held_drew (S:=fun W=>W.cell? ⟨t,3,none⟩=some (.bool false)) (by kernel_rfl) (x3) (fun hHeld=>?_)
  refine Aa (i:=0) (v:=?_) rfl (by kernel_rfl) (by kernel_rfl) (by kernel_rfl) (fun _ _ _ h=>h) rfl ?_ hHeld ?_
  rotate_left
  ·intro w hS; (try dsimp only at hS); obtain hS0:=hS; go_simp; first | done | (with_reducible rfl)
  try simp only [Act.put,List.setIfInBounds_toArray,List.set_cons_zero,List.set_cons_succ]
  refine Aa (i:=1) (v:=?_) rfl (by kernel_rfl) (by kernel_rfl) (by kernel_rfl) (fun _ _ _ h=>h) rfl ?_ hHeld ?_
  rotate_left
  ·intro w hS; (try dsimp only at hS); obtain hS0:=hS; go_simp; first | done | (with_reducible rfl)
  try simp only [Act.put,List.setIfInBounds_toArray,List.set_cons_zero,List.set_cons_succ]
  refine Aa (i:=2) (v:=?_) rfl (by kernel_rfl) (by kernel_rfl) (by kernel_rfl) (fun _ _ _ h=>h) rfl ?_ hHeld ?_
  rotate_left
  ·intro w hS; (try dsimp only at hS); obtain hS0:=hS; go_simp; first | done | (with_reducible rfl)
  try simp only [Act.put,List.setIfInBounds_toArray,List.set_cons_zero,List.set_cons_succ]
  refine Aa (i:=3) (v:=?_) rfl (by kernel_rfl) (by kernel_rfl) (by kernel_rfl) (fun _ _ _ h=>h) rfl ?_ hHeld ?_
  rotate_left
  ·intro w hS; (try dsimp only at hS); obtain hS0:=hS; go_simp; first | done | (with_reducible rfl)
  try simp only [Act.put,List.setIfInBounds_toArray,List.set_cons_zero,List.set_cons_succ]
  refine Aa (i:=4) (v:=?_) rfl (by kernel_rfl) (by kernel_rfl) (by kernel_rfl) (fun _ _ _ h=>h) rfl ?_ hHeld ?_
  rotate_left
  ·intro w hS; (try dsimp only at hS); obtain hS0:=hS; go_simp; first | done | (with_reducible rfl)
  try simp only [Act.put,List.setIfInBounds_toArray,List.set_cons_zero,List.set_cons_succ]
  refine Bj (i:=5) rfl (by kernel_rfl) (by kernel_rfl) (by kernel_rfl) (fun _ _ _ h=>h) rfl hHeld ?_
  try simp only [Act.put,List.setIfInBounds_toArray,List.set_cons_zero,List.set_cons_succ]
  refine Bj (i:=6) rfl (by kernel_rfl) (by kernel_rfl) (by kernel_rfl) (fun _ _ _ h=>h) rfl hHeld ?_
  try simp only [Act.put,List.setIfInBounds_toArray,List.set_cons_zero,List.set_cons_succ]
  refine Bj (i:=7) rfl (by kernel_rfl) (by kernel_rfl) (by kernel_rfl) (fun _ _ _ h=>h) rfl hHeld ?_
  try simp only [Act.put,List.setIfInBounds_toArray,List.set_cons_zero,List.set_cons_succ]
  refine Bj (i:=8) rfl (by kernel_rfl) (by kernel_rfl) (by kernel_rfl) (fun _ _ _ h=>h) rfl hHeld ?_
  try simp only [Act.put,List.setIfInBounds_toArray,List.set_cons_zero,List.set_cons_succ]
  refine Bj (i:=9) rfl (by kernel_rfl) (by kernel_rfl) (by kernel_rfl) (fun _ _ _ h=>h) rfl hHeld ?_
  try simp only [Act.put,List.setIfInBounds_toArray,List.set_cons_zero,List.set_cons_succ]
  refine Bj (i:=10) rfl (by kernel_rfl) (by kernel_rfl) (by kernel_rfl) (fun _ _ _ h=>h) rfl hHeld ?_
  try simp only [Act.put,List.setIfInBounds_toArray,List.set_cons_zero,List.set_cons_succ]
  refine Bj (i:=11) rfl (by kernel_rfl) (by kernel_rfl) (by kernel_rfl) (fun _ _ _ h=>h) rfl hHeld ?_
  try simp only [Act.put,List.setIfInBounds_toArray,List.set_cons_zero,List.set_cons_succ]
  refine Bj (i:=12) rfl (by kernel_rfl) (by kernel_rfl) (by kernel_rfl) (fun _ _ _ h=>h) rfl hHeld ?_
  try simp only [Act.put,List.setIfInBounds_toArray,List.set_cons_zero,List.set_cons_succ]
  refine Bj (i:=13) rfl (by kernel_rfl) (by kernel_rfl) (by kernel_rfl) (fun _ _ _ h=>h) rfl hHeld ?_
  try simp only [Act.put,List.setIfInBounds_toArray,List.set_cons_zero,List.set_cons_succ]
  refine Bj (i:=14) rfl (by kernel_rfl) (by kernel_rfl) (by kernel_rfl) (fun _ _ _ h=>h) rfl hHeld ?_
  try simp only [Act.put,List.setIfInBounds_toArray,List.set_cons_zero,List.set_cons_succ]
  refine Bj (i:=15) rfl (by kernel_rfl) (by kernel_rfl) (by kernel_rfl) (fun _ _ _ h=>h) rfl hHeld ?_
  try simp only [Act.put,List.setIfInBounds_toArray,List.set_cons_zero,List.set_cons_succ]
  refine Bj (i:=16) rfl (by kernel_rfl) (by kernel_rfl) (by kernel_rfl) (fun _ _ _ h=>h) rfl hHeld ?_
  try simp only [Act.put,List.setIfInBounds_toArray,List.set_cons_zero,List.set_cons_succ]
  refine Bj (i:=17) rfl (by kernel_rfl) (by kernel_rfl) (by kernel_rfl) (fun _ _ _ h=>h) rfl hHeld ?_
  try simp only [Act.put,List.setIfInBounds_toArray,List.set_cons_zero,List.set_cons_succ]
  refine Aa (i:=18) (v:=?_) rfl (by kernel_rfl) (by kernel_rfl) (by kernel_rfl) (fun _ _ _ h=>h) rfl ?_ hHeld ?_
  rotate_left
  ·intro w hS; (try dsimp only at hS); obtain hS0:=hS; go_simp; first | done | (with_reducible rfl)
  try simp only [Act.put,List.setIfInBounds_toArray,List.set_cons_zero,List.set_cons_succ]
  refine wpAnyH_done (by kernel_rfl) ?_ _
  clear hHeld
  go_wp2_with fail
  refine wp_region_held_drew (S:=fun W=>W.cell? ⟨t,2,none⟩=some (.pointer (some ⟨g,0,none⟩))∧W.cell? ⟨w.heap.size,0,none⟩=some (.map (some bn))∧W.cell? ⟨w.heap.size,1,none⟩=some (.int .i64 (Ag nx))) (by kernel_rfl) (⟨x2,n0,n1⟩) (fun hHeld=>?_)
  refine Aa (i:=0) (v:=?_) rfl (by kernel_rfl) (by kernel_rfl) (by kernel_rfl) (fun _ _ _ h=>h) rfl ?_ hHeld ?_
  rotate_left
  ·intro w hS; (try dsimp only at hS); obtain ⟨hS0,hS1,hS2⟩:=hS; go_simp; first | done | (with_reducible rfl)
  try simp only [Act.put,List.setIfInBounds_toArray,List.set_cons_zero,List.set_cons_succ]
  refine Aa (i:=1) (v:=?_) rfl (by kernel_rfl) (by kernel_rfl) (by kernel_rfl) (fun _ _ _ h=>h) rfl ?_ hHeld ?_
  rotate_left
  ·intro w hS; (try dsimp only at hS); obtain ⟨hS0,hS1,hS2⟩:=hS; go_simp; first | done | (with_reducible rfl)
  try simp only [Act.put,List.setIfInBounds_toArray,List.set_cons_zero,List.set_cons_succ]
  refine Aa (i:=2) (v:=?_) rfl (by kernel_rfl) (by kernel_rfl) (by kernel_rfl) (fun _ _ _ h=>h) rfl ?_ hHeld ?_
  rotate_left
  ·intro w hS; (try dsimp only at hS); obtain ⟨hS0,hS1,hS2⟩:=hS; go_simp; first | done | (with_reducible rfl)
  try simp only [Act.put,List.setIfInBounds_toArray,List.set_cons_zero,List.set_cons_succ]
  refine Aa (i:=3) (v:=?_) rfl (by kernel_rfl) (by kernel_rfl) (by kernel_rfl) (fun _ _ _ h=>h) rfl ?_ hHeld ?_
  rotate_left
  ·intro w hS; (try dsimp only at hS); obtain ⟨hS0,hS1,hS2⟩:=hS; go_simp; first | done | (with_reducible rfl)
  try simp only [Act.put,List.setIfInBounds_toArray,List.set_cons_zero,List.set_cons_succ]
  refine Aa (i:=4) (v:=?_) rfl (by kernel_rfl) (by kernel_rfl) (by kernel_rfl) (fun _ _ _ h=>h) rfl ?_ hHeld ?_
  rotate_left
  ·intro w hS; (try dsimp only at hS); obtain ⟨hS0,hS1,hS2⟩:=hS; go_simp; first | done | (with_reducible rfl)
  try simp only [Act.put,List.setIfInBounds_toArray,List.set_cons_zero,List.set_cons_succ]
  refine An (i:=5) rfl (by kernel_rfl) rfl (fun K hK=>?_)
  go_simp
  refine hput.mono ?_
  rintro e w2 ⟨vp,rfl,hop,hb2⟩
  have q2:=Da hb2
  have X2:=HX.out.1.drew.drew.keep q2 (fun _ _ h=>h) (fun h=>h)
  have x22 : w2.cell? ⟨t,2,none⟩=some (.pointer (some ⟨g,0,none⟩)):=(World.cell?_of_block (q2.block t (by show t<w1.heap.size; omega) (fun h=>h))).trans x2
  have n02 : w2.cell? ⟨w.heap.size,0,none⟩=some (.map (some bn)):=(World.cell?_of_block (q2.block w.heap.size (by show w.heap.size<w1.heap.size; omega) (fun h=>h))).trans n0
  have n12 : w2.cell? ⟨w.heap.size,1,none⟩=some (.int .i64 (Ag nx)):=(World.cell?_of_block (q2.block w.heap.size (by show w.heap.size<w1.heap.size; omega) (fun h=>h))).trans n1
  have hT2 : Bk w2:=HT1.out.keep (by show Below w1.heap.size w1 w2; exact ⟨hb2.os,hb2.tape,hb2.output,hb2.size,hb2.block⟩)
  have hs2 : w1.heap.size≤w2.heap.size:=hb2.size
  refine hK.out _ _ (⟨x22,n02,n12⟩) (fun hHeld=>?_)
  clear hK K
  try simp only [Act.put,List.setIfInBounds_toArray,List.set_cons_zero,List.set_cons_succ]
  refine An (i:=6) rfl (by kernel_rfl) rfl (fun K hK=>?_)
  go_simp
  refine (Mt w2 vp (Bm nx) hop.ps (by rw [show (Bm nx).length=nx.length from List.length_map _]; exact hnx.1) hap).mono ?_
  rintro e w3 ⟨u3,rfl,ho3,hb3⟩
  have q3:=Da hb3
  have X3:=X2.keep q3 (fun _ _ h=>h) (fun h=>h)
  have x23 : w3.cell? ⟨t,2,none⟩=some (.pointer (some ⟨g,0,none⟩)):=(World.cell?_of_block (q3.block t (by omega) (fun h=>h))).trans x22
  have n03 : w3.cell? ⟨w.heap.size,0,none⟩=some (.map (some bn)):=(World.cell?_of_block (q3.block w.heap.size (by omega) (fun h=>h))).trans n02
  have n13 : w3.cell? ⟨w.heap.size,1,none⟩=some (.int .i64 (Ag nx)):=(World.cell?_of_block (q3.block w.heap.size (by omega) (fun h=>h))).trans n12
  have hT3 : Bk w3:=hT2.keep hb3
  have hs3 : w2.heap.size≤w3.heap.size:=hb3.size
  refine hK.out _ _ (⟨x23,n03,n13⟩) (fun hHeld=>?_)
  clear hK K
  try simp only [Act.put,List.setIfInBounds_toArray,List.set_cons_zero,List.set_cons_succ]
  refine An (i:=7) rfl (by kernel_rfl) rfl (fun K hK=>?_)
  go_simp
  refine (reset_lg X3 (show TxB w3 F g u3 ((Bm nx).map Ar) from ⟨Fq ho3,fun k hk=>⟨fun h=>by have:=(HFL.out k h); have:=(ho3.lt k hk).1; omega,fun h=>by have:=(ho3.lt k hk).1; omega,(ho3.lt k hk).2⟩⟩) hB0 hT3 heb (by omega)).mono ?_
  rintro e w4 ⟨rfl,hTh⟩
  have k4 : Chg (fun k=>F k∨k=g) w3 w4:=by obtain ⟨F',-,-,h⟩:=hTh; exact h
  have x24 : w4.cell? ⟨t,2,none⟩=some (.pointer (some ⟨g,0,none⟩)):=(World.cell?_of_block (k4.block t (by omega) (fun h=>h.elim ht.1 ht.2))).trans x23
  have n04 : w4.cell? ⟨w.heap.size,0,none⟩=some (.map (some bn)):=(World.cell?_of_block (k4.block w.heap.size (by omega) (fun h=>h.elim (fun h=>by have:=HFL.out _ h; omega) (fun h=>by omega)))).trans n03
  have n14 : w4.cell? ⟨w.heap.size,1,none⟩=some (.int .i64 (Ag nx)):=(World.cell?_of_block (k4.block w.heap.size (by omega) (fun h=>h.elim (fun h=>by have:=HFL.out _ h; omega) (fun h=>by omega)))).trans n13
  have HFIN:=Ab (Bu.next ((HQ.out.then ((show Chg (fun _=>False) w1 w2 from ⟨q2.os,q2.tape,q2.output,q2.size,q2.block⟩).then q3)).mono (fun _ _ h=>h.elim)) (fun k hk=>.inl hk) hTh)
  refine hK.out _ _ (⟨x24,n04,n14⟩) (fun hHeld=>?_)
  clear hK K
  try simp only [Act.put,List.setIfInBounds_toArray,List.set_cons_zero,List.set_cons_succ]
  refine Aa (i:=8) (v:=?_) rfl (by kernel_rfl) (by kernel_rfl) (by kernel_rfl) (fun _ _ _ h=>h) rfl ?_ hHeld ?_
  rotate_left
  ·intro w hS; (try dsimp only at hS); obtain ⟨hS0,hS1,hS2⟩:=hS; go_simp; first | done | (with_reducible rfl)
  try simp only [Act.put,List.setIfInBounds_toArray,List.set_cons_zero,List.set_cons_succ]
  refine wpAnyH_done (by kernel_rfl) ?_ _
  clear hHeld
  go_wp2
  go_ret
  exact ⟨by rw [HR.out]; rfl,by rw [HR.out]; exact HFIN.out⟩
 | true=>
  rw [hsu] at x3
  have hby:=bytes_lg HX.out.1.drew
  have hmb:=P3 w1.drew (.slice ua (ps.map Ar).length uc) (ps.map Ar) ((Fq HOU.out).chg ((Chg.refl (fun _=>False) w1).drew) (fun _ _ h=>h)) hmo
  rw [List.length_map] at hmb
  have hwr1 : IntKind.i64.wrap (L.wh+(Bx (ps.map Ar) : Int))=L.wh+(Bx (ps.map Ar) : Int):=by rw [IntKind.wrap_i64]; omega
  have hwr2 : IntKind.i64.wrap (2 * (Ag nx : Int))=2 * (Ag nx : Int):=by rw [IntKind.wrap_i64]; omega
  have hwr3 : IntKind.i64.wrap (10000+2 * (Ag nx : Int))=10000+2 * (Ag nx : Int):=by rw [IntKind.wrap_i64]; omega
  by_cases hc : L.wh+(Bx (ps.map Ar) : Int)≤10000+2 * (Ag nx : Int)
  ·have HR:=Ab (show Bi S L sure ps nx=C1 S L (ps.map Ar) from Ii hsu hc)
   have hcd : decide (L.wh+(Bx (ps.map Ar) : Int)≤10000+2 * (Ag nx : Int))=true:=decide_eq_true hc
   clear hsu
   have hap2:=append_lg HX.out.1.drew (show TxB w1.drew F g (.slice ua (ps.map Ar).length uc) (ps.map Ar) from ⟨(Fq HOU.out).chg ((Chg.refl (fun _=>False) w1).drew) (fun _ _ h=>h),fun k hk=>⟨fun h=>by have:=(HFL.out k h); have:=(HOU.out.lt k hk).1; omega,fun h=>by have:=(HOU.out.lt k hk).1; omega,(HOU.out.lt k hk).2⟩⟩) hB0 (show Bk w1.drew from HT1.out) hea hb hwh
   rw [List.length_map] at hap2
   generalize (Bx (ps.map Ar) : Int)=mo at *
   generalize (Ag nx : Int)=wn at *
   go_wp2_with fail
   refine wp_region_held_drew (S:=fun W=>W.cell? ⟨t,3,none⟩=some (.bool true)∧W.cell? ⟨t,2,none⟩=some (.pointer (some ⟨g,0,none⟩))∧W.cell? ⟨w.heap.size,1,none⟩=some (.int .i64 wn)) (by kernel_rfl) (⟨x3,x2,n1⟩) (fun hHeld=>?_)
   refine Aa (i:=0) (v:=?_) rfl (by kernel_rfl) (by kernel_rfl) (by kernel_rfl) (fun _ _ _ h=>h) rfl ?_ hHeld ?_
   rotate_left
   ·intro w hS; (try dsimp only at hS); obtain ⟨hS0,hS1,hS2⟩:=hS; go_simp; first | done | (with_reducible rfl)
   try simp only [Act.put,List.setIfInBounds_toArray,List.set_cons_zero,List.set_cons_succ]
   refine Aa (i:=1) (v:=?_) rfl (by kernel_rfl) (by kernel_rfl) (by kernel_rfl) (fun _ _ _ h=>h) rfl ?_ hHeld ?_
   rotate_left
   ·intro w hS; (try dsimp only at hS); obtain ⟨hS0,hS1,hS2⟩:=hS; go_simp; first | done | (with_reducible rfl)
   try simp only [Act.put,List.setIfInBounds_toArray,List.set_cons_zero,List.set_cons_succ]
   refine Aa (i:=2) (v:=?_) rfl (by kernel_rfl) (by kernel_rfl) (by kernel_rfl) (fun _ _ _ h=>h) rfl ?_ hHeld ?_
   rotate_left
   ·intro w hS; (try dsimp only at hS); obtain ⟨hS0,hS1,hS2⟩:=hS; go_simp; first | done | (with_reducible rfl)
   try simp only [Act.put,List.setIfInBounds_toArray,List.set_cons_zero,List.set_cons_succ]
   refine Aa (i:=3) (v:=?_) rfl (by kernel_rfl) (by kernel_rfl) (by kernel_rfl) (fun _ _ _ h=>h) rfl ?_ hHeld ?_
   rotate_left
   ·intro w hS; (try dsimp only at hS); obtain ⟨hS0,hS1,hS2⟩:=hS; go_simp; first | done | (with_reducible rfl)
   try simp only [Act.put,List.setIfInBounds_toArray,List.set_cons_zero,List.set_cons_succ]
   refine Aa (i:=4) (v:=?_) rfl (by kernel_rfl) (by kernel_rfl) (by kernel_rfl) (fun _ _ _ h=>h) rfl ?_ hHeld ?_
   rotate_left
   ·intro w hS; (try dsimp only at hS); obtain ⟨hS0,hS1,hS2⟩:=hS; go_simp; first | done | (with_reducible rfl)
   try simp only [Act.put,List.setIfInBounds_toArray,List.set_cons_zero,List.set_cons_succ]
   refine Aa (i:=5) (v:=?_) rfl (by kernel_rfl) (by kernel_rfl) (by kernel_rfl) (fun _ _ _ h=>h) rfl ?_ hHeld ?_
   rotate_left
   ·intro w hS; (try dsimp only at hS); obtain ⟨hS0,hS1,hS2⟩:=hS; go_simp; first | done | (with_reducible rfl)
   try simp only [Act.put,List.setIfInBounds_toArray,List.set_cons_zero,List.set_cons_succ]
   refine Aa (i:=6) (v:=?_) rfl (by kernel_rfl) (by kernel_rfl) (by kernel_rfl) (fun _ _ _ h=>h) rfl ?_ hHeld ?_
   rotate_left
   ·intro w hS; (try dsimp only at hS); obtain ⟨hS0,hS1,hS2⟩:=hS; go_simp; first | done | (with_reducible rfl)
   try simp only [Act.put,List.setIfInBounds_toArray,List.set_cons_zero,List.set_cons_succ]
   refine Aa (i:=7) (v:=?_) rfl (by kernel_rfl) (by kernel_rfl) (by kernel_rfl) (fun _ _ _ h=>h) rfl ?_ hHeld ?_
   rotate_left
   ·intro w hS; (try dsimp only at hS); obtain ⟨hS0,hS1,hS2⟩:=hS; go_simp; first | done | (with_reducible rfl)
   try simp only [Act.put,List.setIfInBounds_toArray,List.set_cons_zero,List.set_cons_succ]
   refine Aa (i:=8) (v:=?_) rfl (by kernel_rfl) (by kernel_rfl) (by kernel_rfl) (fun _ _ _ h=>h) rfl ?_ hHeld ?_
   rotate_left
   ·intro w hS; (try dsimp only at hS); obtain ⟨hS0,hS1,hS2⟩:=hS; go_simp; first | done | (with_reducible rfl)
   try simp only [Act.put,List.setIfInBounds_toArray,List.set_cons_zero,List.set_cons_succ]
   refine Aa (i:=10) (v:=?_) rfl (by kernel_rfl) (by kernel_rfl) (by kernel_rfl) (fun _ _ _ h=>h) rfl ?_ hHeld ?_
   rotate_left
   ·intro w hS; (try dsimp only at hS); obtain ⟨hS0,hS1,hS2⟩:=hS; go_simp; first | done | (with_reducible rfl)
   try simp only [Act.put,List.setIfInBounds_toArray,List.set_cons_zero,List.set_cons_succ]
   refine Aa (i:=13) (v:=?_) rfl (by kernel_rfl) (by kernel_rfl) (by kernel_rfl) (fun _ _ _ h=>h) rfl ?_ hHeld ?_
   rotate_left
   ·intro w hS; (try dsimp only at hS); obtain ⟨hS0,hS1,hS2⟩:=hS; go_simp; first | done | (with_reducible rfl)
   try simp only [Act.put,List.setIfInBounds_toArray,List.set_cons_zero,List.set_cons_succ]
   refine Aa (i:=14) (v:=?_) rfl (by kernel_rfl) (by kernel_rfl) (by kernel_rfl) (fun _ _ _ h=>h) rfl ?_ hHeld ?_
   rotate_left
   ·intro w hS; (try dsimp only at hS); obtain ⟨hS0,hS1,hS2⟩:=hS; go_simp; first | done | (with_reducible rfl)
   try simp only [Act.put,List.setIfInBounds_toArray,List.set_cons_zero,List.set_cons_succ]
   refine Aa (i:=15) (v:=?_) rfl (by kernel_rfl) (by kernel_rfl) (by kernel_rfl) (fun _ _ _ h=>h) rfl ?_ hHeld ?_
   rotate_left
   ·intro w hS; (try dsimp only at hS); obtain ⟨hS0,hS1,hS2⟩:=hS; go_simp; first | done | (with_reducible rfl)
   try simp only [Act.put,List.setIfInBounds_toArray,List.set_cons_zero,List.set_cons_succ]
   refine Aa (i:=16) (v:=?_) rfl (by kernel_rfl) (by kernel_rfl) (by kernel_rfl) (fun _ _ _ h=>h) rfl ?_ hHeld ?_
   rotate_left
   ·intro w hS; (try dsimp only at hS); obtain ⟨hS0,hS1,hS2⟩:=hS; go_simp; first | done | (with_reducible rfl)
   try simp only [Act.put,List.setIfInBounds_toArray,List.set_cons_zero,List.set_cons_succ]
   refine An (i:=9) rfl (by kernel_rfl) rfl (fun K hK=>?_)
   go_simp
   refine hby.mono ?_
   rintro e wz ⟨rfl,hwz⟩
   rw [hwz]
   clear hwz
   refine hK.out _ _ (⟨x3,x2,n1⟩) (fun hHeld=>?_)
   clear hK K
   try simp only [Act.put,List.setIfInBounds_toArray,List.set_cons_zero,List.set_cons_succ]
   refine An (i:=11) rfl (by kernel_rfl) rfl (fun K hK=>?_)
   go_simp
   refine hmb.mono ?_
   rintro e wz ⟨rfl,hwz⟩
   rw [hwz]
   clear hwz
   refine hK.out _ _ (⟨x3,x2,n1⟩) (fun hHeld=>?_)
   clear hK K
   try simp only [Act.put,List.setIfInBounds_toArray,List.set_cons_zero,List.set_cons_succ]
   refine Aa (i:=12) (v:=?_) rfl (by kernel_rfl) (by kernel_rfl) (by kernel_rfl) (fun _ _ _ h=>h) rfl ?_ hHeld ?_
   rotate_left
   ·intro w hS; (try dsimp only at hS); obtain ⟨hS0,hS1,hS2⟩:=hS; go_simp; first | done | (with_reducible rfl)
   try simp only [Act.put,List.setIfInBounds_toArray,List.set_cons_zero,List.set_cons_succ]
   refine Aa (i:=17) (v:=?_) rfl (by kernel_rfl) (by kernel_rfl) (by kernel_rfl) (fun _ _ _ h=>h) rfl ?_ hHeld ?_
   rotate_left
   ·intro w hS; (try dsimp only at hS); obtain ⟨hS0,hS1,hS2⟩:=hS; go_simp; first | done | (with_reducible rfl)
   try simp only [Act.put,List.setIfInBounds_toArray,List.set_cons_zero,List.set_cons_succ]
   refine Aa (i:=18) (v:=?_) rfl (by kernel_rfl) (by kernel_rfl) (by kernel_rfl) (fun _ _ _ h=>h) rfl ?_ hHeld ?_
   rotate_left
   ·intro w hS; (try dsimp only at hS); obtain ⟨hS0,hS1,hS2⟩:=hS; go_simp; first | done | (with_reducible rfl)
   try simp only [Act.put,List.setIfInBounds_toArray,List.set_cons_zero,List.set_cons_succ]
   refine wpAnyH_done (by kernel_rfl) ?_ _
   clear hHeld
   go_wp2_with fail
   refine hap2.mono ?_
   rintro e w4 ⟨rfl,hTh⟩
   have HFIN:=Ab (Bu.next (HQ.out.mono (fun _ _ h=>h.elim)) (fun k hk=>.inl hk) hTh.drewn)
   clear hTh hap2
   go_wp2
   go_ret
   exact ⟨by rw [HR.out]; rfl,by rw [HR.out]; exact HFIN.out⟩
  ·have HR:=Ab (show Bi S L sure ps nx=Cy S L ((Bm nx).map Ar) from Gj (fun h=>hc h.2))
   have hcd : decide (L.wh+(Bx (ps.map Ar) : Int)≤10000+2 * (Ag nx : Int))=false:=decide_eq_false hc
   clear hsu
   generalize (Bx (ps.map Ar) : Int)=mo at *
   go_wp2_with fail
   refine wp_region_held_drew (S:=fun W=>W.cell? ⟨t,3,none⟩=some (.bool true)∧W.cell? ⟨t,2,none⟩=some (.pointer (some ⟨g,0,none⟩))∧W.cell? ⟨w.heap.size,1,none⟩=some (.int .i64 (Ag nx))) (by kernel_rfl) (⟨x3,x2,n1⟩) (fun hHeld=>?_)
   refine Aa (i:=0) (v:=?_) rfl (by kernel_rfl) (by kernel_rfl) (by kernel_rfl) (fun _ _ _ h=>h) rfl ?_ hHeld ?_
   rotate_left
   ·intro w hS; (try dsimp only at hS); obtain ⟨hS0,hS1,hS2⟩:=hS; go_simp; first | done | (with_reducible rfl)
   try simp only [Act.put,List.setIfInBounds_toArray,List.set_cons_zero,List.set_cons_succ]
   refine Aa (i:=1) (v:=?_) rfl (by kernel_rfl) (by kernel_rfl) (by kernel_rfl) (fun _ _ _ h=>h) rfl ?_ hHeld ?_
   rotate_left
   ·intro w hS; (try dsimp only at hS); obtain ⟨hS0,hS1,hS2⟩:=hS; go_simp; first | done | (with_reducible rfl)
   try simp only [Act.put,List.setIfInBounds_toArray,List.set_cons_zero,List.set_cons_succ]
   refine Aa (i:=2) (v:=?_) rfl (by kernel_rfl) (by kernel_rfl) (by kernel_rfl) (fun _ _ _ h=>h) rfl ?_ hHeld ?_
   rotate_left
   ·intro w hS; (try dsimp only at hS); obtain ⟨hS0,hS1,hS2⟩:=hS; go_simp; first | done | (with_reducible rfl)
   try simp only [Act.put,List.setIfInBounds_toArray,List.set_cons_zero,List.set_cons_succ]
   refine Aa (i:=3) (v:=?_) rfl (by kernel_rfl) (by kernel_rfl) (by kernel_rfl) (fun _ _ _ h=>h) rfl ?_ hHeld ?_
   rotate_left
   ·intro w hS; (try dsimp only at hS); obtain ⟨hS0,hS1,hS2⟩:=hS; go_simp; first | done | (with_reducible rfl)
   try simp only [Act.put,List.setIfInBounds_toArray,List.set_cons_zero,List.set_cons_succ]
   refine Aa (i:=4) (v:=?_) rfl (by kernel_rfl) (by kernel_rfl) (by kernel_rfl) (fun _ _ _ h=>h) rfl ?_ hHeld ?_
   rotate_left
   ·intro w hS; (try dsimp only at hS); obtain ⟨hS0,hS1,hS2⟩:=hS; go_simp; first | done | (with_reducible rfl)
   try simp only [Act.put,List.setIfInBounds_toArray,List.set_cons_zero,List.set_cons_succ]
   refine Aa (i:=5) (v:=?_) rfl (by kernel_rfl) (by kernel_rfl) (by kernel_rfl) (fun _ _ _ h=>h) rfl ?_ hHeld ?_
   rotate_left
   ·intro w hS; (try dsimp only at hS); obtain ⟨hS0,hS1,hS2⟩:=hS; go_simp; first | done | (with_reducible rfl)
   try simp only [Act.put,List.setIfInBounds_toArray,List.set_cons_zero,List.set_cons_succ]
   refine Aa (i:=6) (v:=?_) rfl (by kernel_rfl) (by kernel_rfl) (by kernel_rfl) (fun _ _ _ h=>h) rfl ?_ hHeld ?_
   rotate_left
   ·intro w hS; (try dsimp only at hS); obtain ⟨hS0,hS1,hS2⟩:=hS; go_simp; first | done | (with_reducible rfl)
   try simp only [Act.put,List.setIfInBounds_toArray,List.set_cons_zero,List.set_cons_succ]
   refine Aa (i:=7) (v:=?_) rfl (by kernel_rfl) (by kernel_rfl) (by kernel_rfl) (fun _ _ _ h=>h) rfl ?_ hHeld ?_
   rotate_left
   ·intro w hS; (try dsimp only at hS); obtain ⟨hS0,hS1,hS2⟩:=hS; go_simp; first | done | (with_reducible rfl)
   try simp only [Act.put,List.setIfInBounds_toArray,List.set_cons_zero,List.set_cons_succ]
   refine Aa (i:=8) (v:=?_) rfl (by kernel_rfl) (by kernel_rfl) (by kernel_rfl) (fun _ _ _ h=>h) rfl ?_ hHeld ?_
   rotate_left
   ·intro w hS; (try dsimp only at hS); obtain ⟨hS0,hS1,hS2⟩:=hS; go_simp; first | done | (with_reducible rfl)
   try simp only [Act.put,List.setIfInBounds_toArray,List.set_cons_zero,List.set_cons_succ]
   refine Aa (i:=10) (v:=?_) rfl (by kernel_rfl) (by kernel_rfl) (by kernel_rfl) (fun _ _ _ h=>h) rfl ?_ hHeld ?_
   rotate_left
   ·intro w hS; (try dsimp only at hS); obtain ⟨hS0,hS1,hS2⟩:=hS; go_simp; first | done | (with_reducible rfl)
   try simp only [Act.put,List.setIfInBounds_toArray,List.set_cons_zero,List.set_cons_succ]
   refine Aa (i:=13) (v:=?_) rfl (by kernel_rfl) (by kernel_rfl) (by kernel_rfl) (fun _ _ _ h=>h) rfl ?_ hHeld ?_
   rotate_left
   ·intro w hS; (try dsimp only at hS); obtain ⟨hS0,hS1,hS2⟩:=hS; go_simp; first | done | (with_reducible rfl)
   try simp only [Act.put,List.setIfInBounds_toArray,List.set_cons_zero,List.set_cons_succ]
   refine Aa (i:=14) (v:=?_) rfl (by kernel_rfl) (by kernel_rfl) (by kernel_rfl) (fun _ _ _ h=>h) rfl ?_ hHeld ?_
   rotate_left
   ·intro w hS; (try dsimp only at hS); obtain ⟨hS0,hS1,hS2⟩:=hS; go_simp; first | done | (with_reducible rfl)
   try simp only [Act.put,List.setIfInBounds_toArray,List.set_cons_zero,List.set_cons_succ]
   refine Aa (i:=15) (v:=?_) rfl (by kernel_rfl) (by kernel_rfl) (by kernel_rfl) (fun _ _ _ h=>h) rfl ?_ hHeld ?_
   rotate_left
   ·intro w hS; (try dsimp only at hS); obtain ⟨hS0,hS1,hS2⟩:=hS; go_simp; first | done | (with_reducible rfl)
   try simp only [Act.put,List.setIfInBounds_toArray,List.set_cons_zero,List.set_cons_succ]
   refine Aa (i:=16) (v:=?_) rfl (by kernel_rfl) (by kernel_rfl) (by kernel_rfl) (fun _ _ _ h=>h) rfl ?_ hHeld ?_
   rotate_left
   ·intro w hS; (try dsimp only at hS); obtain ⟨hS0,hS1,hS2⟩:=hS; go_simp; first | done | (with_reducible rfl)
   try simp only [Act.put,List.setIfInBounds_toArray,List.set_cons_zero,List.set_cons_succ]
   refine An (i:=9) rfl (by kernel_rfl) rfl (fun K hK=>?_)
   go_simp
   refine hby.mono ?_
   rintro e wz ⟨rfl,hwz⟩
   rw [hwz]
   clear hwz
   refine hK.out _ _ (⟨x3,x2,n1⟩) (fun hHeld=>?_)
   clear hK K
   try simp only [Act.put,List.setIfInBounds_toArray,List.set_cons_zero,List.set_cons_succ]
   refine An (i:=11) rfl (by kernel_rfl) rfl (fun K hK=>?_)
   go_simp
   refine hmb.mono ?_
   rintro e wz ⟨rfl,hwz⟩
   rw [hwz]
   clear hwz
   refine hK.out _ _ (⟨x3,x2,n1⟩) (fun hHeld=>?_)
   clear hK K
   try simp only [Act.put,List.setIfInBounds_toArray,List.set_cons_zero,List.set_cons_succ]
   refine Aa (i:=12) (v:=?_) rfl (by kernel_rfl) (by kernel_rfl) (by kernel_rfl) (fun _ _ _ h=>h) rfl ?_ hHeld ?_
   rotate_left
   ·intro w hS; (try dsimp only at hS); obtain ⟨hS0,hS1,hS2⟩:=hS; go_simp; first | done | (with_reducible rfl)
   try simp only [Act.put,List.setIfInBounds_toArray,List.set_cons_zero,List.set_cons_succ]
   refine Aa (i:=17) (v:=?_) rfl (by kernel_rfl) (by kernel_rfl) (by kernel_rfl) (fun _ _ _ h=>h) rfl ?_ hHeld ?_
   rotate_left
   ·intro w hS; (try dsimp only at hS); obtain ⟨hS0,hS1,hS2⟩:=hS; go_simp; first | done | (with_reducible rfl)
   try simp only [Act.put,List.setIfInBounds_toArray,List.set_cons_zero,List.set_cons_succ]
   refine Aa (i:=18) (v:=?_) rfl (by kernel_rfl) (by kernel_rfl) (by kernel_rfl) (fun _ _ _ h=>h) rfl ?_ hHeld ?_
   rotate_left
   ·intro w hS; (try dsimp only at hS); obtain ⟨hS0,hS1,hS2⟩:=hS; go_simp; first | done | (with_reducible rfl)
   try simp only [Act.put,List.setIfInBounds_toArray,List.set_cons_zero,List.set_cons_succ]
   refine wpAnyH_done (by kernel_rfl) ?_ _
   clear hHeld
   go_wp2_with fail
   refine wp_region_held_drew (S:=fun W=>W.cell? ⟨t,2,none⟩=some (.pointer (some ⟨g,0,none⟩))∧W.cell? ⟨w.heap.size,0,none⟩=some (.map (some bn))∧W.cell? ⟨w.heap.size,1,none⟩=some (.int .i64 (Ag nx))) (by kernel_rfl) (⟨x2,n0,n1⟩) (fun hHeld=>?_)
   refine Aa (i:=0) (v:=?_) rfl (by kernel_rfl) (by kernel_rfl) (by kernel_rfl) (fun _ _ _ h=>h) rfl ?_ hHeld ?_
   rotate_left
   ·intro w hS; (try dsimp only at hS); obtain ⟨hS0,hS1,hS2⟩:=hS; go_simp; first | done | (with_reducible rfl)
   try simp only [Act.put,List.setIfInBounds_toArray,List.set_cons_zero,List.set_cons_succ]
   refine Aa (i:=1) (v:=?_) rfl (by kernel_rfl) (by kernel_rfl) (by kernel_rfl) (fun _ _ _ h=>h) rfl ?_ hHeld ?_
   rotate_left
   ·intro w hS; (try dsimp only at hS); obtain ⟨hS0,hS1,hS2⟩:=hS; go_simp; first | done | (with_reducible rfl)
   try simp only [Act.put,List.setIfInBounds_toArray,List.set_cons_zero,List.set_cons_succ]
   refine Aa (i:=2) (v:=?_) rfl (by kernel_rfl) (by kernel_rfl) (by kernel_rfl) (fun _ _ _ h=>h) rfl ?_ hHeld ?_
   rotate_left
   ·intro w hS; (try dsimp only at hS); obtain ⟨hS0,hS1,hS2⟩:=hS; go_simp; first | done | (with_reducible rfl)
   try simp only [Act.put,List.setIfInBounds_toArray,List.set_cons_zero,List.set_cons_succ]
   refine Aa (i:=3) (v:=?_) rfl (by kernel_rfl) (by kernel_rfl) (by kernel_rfl) (fun _ _ _ h=>h) rfl ?_ hHeld ?_
   rotate_left
   ·intro w hS; (try dsimp only at hS); obtain ⟨hS0,hS1,hS2⟩:=hS; go_simp; first | done | (with_reducible rfl)
   try simp only [Act.put,List.setIfInBounds_toArray,List.set_cons_zero,List.set_cons_succ]
   refine Aa (i:=4) (v:=?_) rfl (by kernel_rfl) (by kernel_rfl) (by kernel_rfl) (fun _ _ _ h=>h) rfl ?_ hHeld ?_
   rotate_left
   ·intro w hS; (try dsimp only at hS); obtain ⟨hS0,hS1,hS2⟩:=hS; go_simp; first | done | (with_reducible rfl)
   try simp only [Act.put,List.setIfInBounds_toArray,List.set_cons_zero,List.set_cons_succ]
   refine An (i:=5) rfl (by kernel_rfl) rfl (fun K hK=>?_)
   go_simp
   refine hput.mono ?_
   rintro e w2 ⟨vp,rfl,hop,hb2⟩
   have q2:=Da hb2
   have X2:=HX.out.1.drew.drew.keep q2 (fun _ _ h=>h) (fun h=>h)
   have x22 : w2.cell? ⟨t,2,none⟩=some (.pointer (some ⟨g,0,none⟩)):=(World.cell?_of_block (q2.block t (by show t<w1.heap.size; omega) (fun h=>h))).trans x2
   have n02 : w2.cell? ⟨w.heap.size,0,none⟩=some (.map (some bn)):=(World.cell?_of_block (q2.block w.heap.size (by show w.heap.size<w1.heap.size; omega) (fun h=>h))).trans n0
   have n12 : w2.cell? ⟨w.heap.size,1,none⟩=some (.int .i64 (Ag nx)):=(World.cell?_of_block (q2.block w.heap.size (by show w.heap.size<w1.heap.size; omega) (fun h=>h))).trans n1
   have hT2 : Bk w2:=HT1.out.keep (by show Below w1.heap.size w1 w2; exact ⟨hb2.os,hb2.tape,hb2.output,hb2.size,hb2.block⟩)
   have hs2 : w1.heap.size≤w2.heap.size:=hb2.size
   refine hK.out _ _ (⟨x22,n02,n12⟩) (fun hHeld=>?_)
   clear hK K
   try simp only [Act.put,List.setIfInBounds_toArray,List.set_cons_zero,List.set_cons_succ]
   refine An (i:=6) rfl (by kernel_rfl) rfl (fun K hK=>?_)
   go_simp
   refine (Mt w2 vp (Bm nx) hop.ps (by rw [show (Bm nx).length=nx.length from List.length_map _]; exact hnx.1) hap).mono ?_
   rintro e w3 ⟨u3,rfl,ho3,hb3⟩
   have q3:=Da hb3
   have X3:=X2.keep q3 (fun _ _ h=>h) (fun h=>h)
   have x23 : w3.cell? ⟨t,2,none⟩=some (.pointer (some ⟨g,0,none⟩)):=(World.cell?_of_block (q3.block t (by omega) (fun h=>h))).trans x22
   have n03 : w3.cell? ⟨w.heap.size,0,none⟩=some (.map (some bn)):=(World.cell?_of_block (q3.block w.heap.size (by omega) (fun h=>h))).trans n02
   have n13 : w3.cell? ⟨w.heap.size,1,none⟩=some (.int .i64 (Ag nx)):=(World.cell?_of_block (q3.block w.heap.size (by omega) (fun h=>h))).trans n12
   have hT3 : Bk w3:=hT2.keep hb3
   have hs3 : w2.heap.size≤w3.heap.size:=hb3.size
   refine hK.out _ _ (⟨x23,n03,n13⟩) (fun hHeld=>?_)
   clear hK K
   try simp only [Act.put,List.setIfInBounds_toArray,List.set_cons_zero,List.set_cons_succ]
   refine An (i:=7) rfl (by kernel_rfl) rfl (fun K hK=>?_)
   go_simp
   refine (reset_lg X3 (show TxB w3 F g u3 ((Bm nx).map Ar) from ⟨Fq ho3,fun k hk=>⟨fun h=>by have:=(HFL.out k h); have:=(ho3.lt k hk).1; omega,fun h=>by have:=(ho3.lt k hk).1; omega,(ho3.lt k hk).2⟩⟩) hB0 hT3 heb (by omega)).mono ?_
   rintro e w4 ⟨rfl,hTh⟩
   have k4 : Chg (fun k=>F k∨k=g) w3 w4:=by obtain ⟨F',-,-,h⟩:=hTh; exact h
   have x24 : w4.cell? ⟨t,2,none⟩=some (.pointer (some ⟨g,0,none⟩)):=(World.cell?_of_block (k4.block t (by omega) (fun h=>h.elim ht.1 ht.2))).trans x23
   have n04 : w4.cell? ⟨w.heap.size,0,none⟩=some (.map (some bn)):=(World.cell?_of_block (k4.block w.heap.size (by omega) (fun h=>h.elim (fun h=>by have:=HFL.out _ h; omega) (fun h=>by omega)))).trans n03
   have n14 : w4.cell? ⟨w.heap.size,1,none⟩=some (.int .i64 (Ag nx)):=(World.cell?_of_block (k4.block w.heap.size (by omega) (fun h=>h.elim (fun h=>by have:=HFL.out _ h; omega) (fun h=>by omega)))).trans n13
   have HFIN:=Ab (Bu.next ((HQ.out.then ((show Chg (fun _=>False) w1 w2 from ⟨q2.os,q2.tape,q2.output,q2.size,q2.block⟩).then q3)).mono (fun _ _ h=>h.elim)) (fun k hk=>.inl hk) hTh)
   refine hK.out _ _ (⟨x24,n04,n14⟩) (fun hHeld=>?_)
   clear hK K
   try simp only [Act.put,List.setIfInBounds_toArray,List.set_cons_zero,List.set_cons_succ]
   refine Aa (i:=8) (v:=?_) rfl (by kernel_rfl) (by kernel_rfl) (by kernel_rfl) (fun _ _ _ h=>h) rfl ?_ hHeld ?_
   rotate_left
   ·intro w hS; (try dsimp only at hS); obtain ⟨hS0,hS1,hS2⟩:=hS; go_simp; first | done | (with_reducible rfl)
   try simp only [Act.put,List.setIfInBounds_toArray,List.set_cons_zero,List.set_cons_succ]
   refine wpAnyH_done (by kernel_rfl) ?_ _
   clear hHeld
   go_wp2
   go_ret
   exact ⟨by rw [HR.out]; rfl,by rw [HR.out]; exact HFIN.out⟩
end
end Go.Proofs.YtblniomnhpedjaaGreatDoor
