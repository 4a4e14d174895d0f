/-
  lay: what is laid into the log by a Commit. Conditions: the table, its log and the puts lie there; lengths within reach; the table of sums holds its numbers.
-/
import Derived.Test.YtblniomnhpedjaaGreatDoorP25TKeys
import Derived.Test.YtblniomnhpedjaaGreatDoorP26Kx
namespace Go.Proofs.YtblniomnhpedjaaGreatDoor
open Go.RowKit
def Bf (S : Dk) (L : Lw) (sure : Bool) (ps : List An) (nx : List Af) : Dk × Lw × Int:=
 if sure=true∧L.wh+By (ps.map Aw)≤10000+2 * Ag nx then B7 S L (ps.map Aw) else B4 S L ((Bo nx).map Aw)
theorem Ij {S : Dk} {L : Lw} {sure : Bool} {ps : List An} {nx : List Af} (h : sure=true) (h2 : L.wh+By (ps.map Aw)≤10000+2 * Ag nx) : Bf S L sure ps nx=B7 S L (ps.map Aw):=by unfold Bf; rw [if_pos ⟨h,h2⟩]
theorem Ha {S : Dk} {L : Lw} {sure : Bool} {ps : List An} {nx : List Af} (h : ¬ (sure=true∧L.wh+By (ps.map Aw)≤10000+2 * Ag nx)) : Bf S L sure ps nx=B4 S L ((Bo nx).map Aw):=by unfold Bf; rw [if_neg h]
theorem C5 {w w' : World} (h : Below w.heap.size w w') : Chg (fun _=>False) w w':=⟨h.os,h.tape,h.output,h.size,fun k hk _=>h.block k hk⟩
section
variable {B : Nat} {w : World} {F : Nat→Prop} {d g t b : Nat} {S : Dk} {L : Lw} {sure : Bool} {lp nx : List Af} {ps : List An} {v : Value} {bn : Nat}
set_option maxRecDepth 40000 in
set_option maxHeartbeats 4000000 in
theorem tlay_any (hL : Lg B w F d g S L) (hA : TabAt w t b g sure lp) (ht : ¬ F t∧t≠g) (hv : PsT w v ps) (hm : Ak w bn (rv nx)) (hri : Bn nx) (hB0 : 0<B) (hT : Bm w)
  (hps : ps.length≤1000000∧∀ p∈ps,p.1.length≤1000000∧p.2.1.length≤1000000) (hnx : nx.length≤1000000∧∀ p∈nx,p.1.length≤1000000∧p.2.length≤1000000) (hb : 2 * S.bulk<999999990) (hwh : 0≤L.wh∧L.wh≤1099511627776) (hwt : Ag nx≤1048576) (hmo : By (ps.map Aw)≤4611686018427387904)
  (hea : ∀ r∈ps.map Aw,r.length≤140737488355328) (heb : ∀ r∈(Bo nx).map Aw,r.length≤140737488355328) :
  Calls Tryz.prog 52 #[.pointer (some ⟨t,0,none⟩),v, .agg #[.map (some bn), .int .i64 (Ag nx)]] w fun e w'=>e = .returned (.int .i64 (Bf S L sure ps nx).2.2)∧Bv B w F d g (Bf S L sure ps nx).1 (Bf S L sure ps nx).2.1 w':=by
 have hA0:=Cl w (.cells #[.map (some bn), .int .i64 (Ag nx)] 97)
 have hx0:=Au w (.cells #[.map (some bn), .int .i64 (Ag nx)] 97)
 generalize hw0 : w.alloc (.cells #[.map (some bn), .int .i64 (Ag nx)] 97)=w0 at *
 have hlt:=At hA.cells
 have hglt:=hL.lt
 have hg0:=Mo w0 v ps (hv.quiet hA0) hps.1 hps.2
 have hap : ∀ p∈Bo nx,p.1.length≤1000000∧p.2.1.length≤1000000:=fun p hp=>by
  obtain ⟨q,hq,rfl⟩:=List.mem_map.1 hp
  exact hnx.2 q hq
 have HFL:=Ab (show ∀ k,F k→k<w.heap.size from fun k hk=>(hL.1.2.1 k hk).2)
 go_enter Tryz.func52,Tryz.ntmps52
 go_wp2_with fail
 try rw [hw0]
 refine hg0.mono ?_
 rintro e w1 ⟨u,rfl,hou,hb1⟩
 have q1:=C5 hb1
 have q01 : Chg (fun _=>False) w w1:=hA0.then q1
 have X1:=hL.keep q01 (fun _ _ h=>h) (fun h=>h)
 have ht1:=q01.keep hA.cells (fun h=>h)
 have hx1:=q1.keep hx0 (fun h=>h)
 have hm1:=hm.keep q01 (fun h=>h)
 have x2:=Ad ht1 2
 have x3:=Ad ht1 3
 have n0:=Ad hx1 0
 have n1:=Ad hx1 1
 simp only [List.getElem?_toArray,List.getElem?_cons_zero,List.getElem?_cons_succ] at x2 x3 n0 n1
 have hs0 : w0.heap.size=w.heap.size+1:=by rw [← hw0]; simp
 have hs1 : w0.heap.size≤w1.heap.size:=hb1.size
 have hT1 : Bm w1:=hT.keep (q01.below (fun _ h=>h.elim) (Nat.le_refl _))
 have hput:=puts_any w1.drew.drew bn nx (Ag nx) (hm1.keep ((Chg.refl (fun _=>False) w1).drew.drew) (fun h=>h)) hri (fun p hp=>by have:=(hnx.2 p hp).1; omega) (by omega)
 have HT1:=Ab hT1
 have HQ:=Ab q01
 have HX:=Ab (And.intro X1 hou)
 clear hg0 hb1 q1 q01 X1 ht1 hx1 hm1 hT hm hv hL hA hA0 hx0
 obtain ⟨ua,uc,hus⟩:=(Fw hou).form
 subst hus
 have HOU:=Ab hou
 clear hou
 cases hsu : sure with
 | false=>
  have HR:=Ab (show Bf S L sure ps nx=B4 S L ((Bo nx).map Aw) from Ha (by rw [hsu]; simp))
  rw [hsu] at x3
  clear hsu
  go_wp2_with fail
  refine wp_region_held_drew (S:=fun W=>W.cell? ⟨t,3,none⟩=some (.bool false)) (by kernel_rfl) (x3) (fun hHeld=>?_)
  refine Aa 0 hHeld ?_
  refine Aa 1 hHeld ?_
  refine Aa 2 hHeld ?_
  refine Aa 3 hHeld ?_
  refine Aa 4 hHeld ?_
  refine Aj 5 hHeld ?_
  refine Aj 6 hHeld ?_
  refine Aj 7 hHeld ?_
  refine Aj 8 hHeld ?_
  refine Aj 9 hHeld ?_
  refine Aj 10 hHeld ?_
  refine Aj 11 hHeld ?_
  refine Aj 12 hHeld ?_
  refine Aj 13 hHeld ?_
  refine Aj 14 hHeld ?_
  refine Aj 15 hHeld ?_
  refine Aj 16 hHeld ?_
  refine Aj 17 hHeld ?_
  refine Aa 18 hHeld ?_
  refine wpAnyH_done (by kernel_rfl) ?_ _
  clear hHeld
  go_wp2_with fail
  refine wp_region_held_drew (S:=fun W=>W.cell? ⟨t,2,none⟩=some (.pointer (some ⟨g,0,none⟩))∧W.cell? ⟨w.heap.size,0,none⟩=some (.map (some bn))∧W.cell? ⟨w.heap.size,1,none⟩=some (.int .i64 (Ag nx))) (by kernel_rfl) (⟨x2,n0,n1⟩) (fun hHeld=>?_)
  refine Aa 0 hHeld ?_
  refine Aa 1 hHeld ?_
  refine Aa 2 hHeld ?_
  refine Aa 3 hHeld ?_
  refine Aa 4 hHeld ?_
  refine Al (i:=5) rfl (by kernel_rfl) rfl (fun K hK=>?_)
  go_simp
  refine hput.mono ?_
  rintro e w2 ⟨vp,rfl,hop,hb2⟩
  have q2:=C5 hb2
  have X2:=HX.out.1.drew.drew.keep q2 (fun _ _ h=>h) (fun h=>h)
  have x22 : w2.cell? ⟨t,2,none⟩=some (.pointer (some ⟨g,0,none⟩)):=(World.cell?_of_block (q2.block t (by show t<w1.heap.size; omega) (fun h=>h))).trans x2
  have n02 : w2.cell? ⟨w.heap.size,0,none⟩=some (.map (some bn)):=(World.cell?_of_block (q2.block w.heap.size (by show w.heap.size<w1.heap.size; omega) (fun h=>h))).trans n0
  have n12 : w2.cell? ⟨w.heap.size,1,none⟩=some (.int .i64 (Ag nx)):=(World.cell?_of_block (q2.block w.heap.size (by show w.heap.size<w1.heap.size; omega) (fun h=>h))).trans n1
  have hT2 : Bm w2:=HT1.out.keep (by show Below w1.heap.size w1 w2; exact ⟨hb2.os,hb2.tape,hb2.output,hb2.size,hb2.block⟩)
  have hs2 : w1.heap.size≤w2.heap.size:=hb2.size
  refine hK.out _ _ (⟨x22,n02,n12⟩) (fun hHeld=>?_)
  clear hK K
  try simp only [Act.put,List.setIfInBounds_toArray,List.set_cons_zero,List.set_cons_succ]
  refine Al (i:=6) rfl (by kernel_rfl) rfl (fun K hK=>?_)
  go_simp
  refine (Mo w2 vp (Bo nx) hop.ps (by rw [show (Bo nx).length=nx.length from List.length_map _]; exact hnx.1) hap).mono ?_
  rintro e w3 ⟨u3,rfl,ho3,hb3⟩
  have q3:=C5 hb3
  have X3:=X2.keep q3 (fun _ _ h=>h) (fun h=>h)
  have x23 : w3.cell? ⟨t,2,none⟩=some (.pointer (some ⟨g,0,none⟩)):=(World.cell?_of_block (q3.block t (by omega) (fun h=>h))).trans x22
  have n03 : w3.cell? ⟨w.heap.size,0,none⟩=some (.map (some bn)):=(World.cell?_of_block (q3.block w.heap.size (by omega) (fun h=>h))).trans n02
  have n13 : w3.cell? ⟨w.heap.size,1,none⟩=some (.int .i64 (Ag nx)):=(World.cell?_of_block (q3.block w.heap.size (by omega) (fun h=>h))).trans n12
  have hT3 : Bm w3:=hT2.keep hb3
  have hs3 : w2.heap.size≤w3.heap.size:=hb3.size
  refine hK.out _ _ (⟨x23,n03,n13⟩) (fun hHeld=>?_)
  clear hK K
  try simp only [Act.put,List.setIfInBounds_toArray,List.set_cons_zero,List.set_cons_succ]
  refine Al (i:=7) rfl (by kernel_rfl) rfl (fun K hK=>?_)
  go_simp
  refine (reset_lg X3 (show TxB w3 F g u3 ((Bo nx).map Aw) from ⟨Fw ho3,fun k hk=>⟨fun h=>by have:=(HFL.out k h); have:=(ho3.lt k hk).1; omega,fun h=>by have:=(ho3.lt k hk).1; omega,(ho3.lt k hk).2⟩⟩) hB0 hT3 heb (by omega)).mono ?_
  rintro e w4 ⟨rfl,hTh⟩
  have k4 : Chg (fun k=>F k∨k=g) w3 w4:=by obtain ⟨F',-,-,h⟩:=hTh; exact h
  have x24 : w4.cell? ⟨t,2,none⟩=some (.pointer (some ⟨g,0,none⟩)):=(World.cell?_of_block (k4.block t (by omega) (fun h=>h.elim ht.1 ht.2))).trans x23
  have n04 : w4.cell? ⟨w.heap.size,0,none⟩=some (.map (some bn)):=(World.cell?_of_block (k4.block w.heap.size (by omega) (fun h=>h.elim (fun h=>by have:=HFL.out _ h; omega) (fun h=>by omega)))).trans n03
  have n14 : w4.cell? ⟨w.heap.size,1,none⟩=some (.int .i64 (Ag nx)):=(World.cell?_of_block (k4.block w.heap.size (by omega) (fun h=>h.elim (fun h=>by have:=HFL.out _ h; omega) (fun h=>by omega)))).trans n13
  have HFIN:=Ab (Bv.next ((HQ.out.then ((show Chg (fun _=>False) w1 w2 from ⟨q2.os,q2.tape,q2.output,q2.size,q2.block⟩).then q3)).mono (fun _ _ h=>h.elim)) (fun k hk=>.inl hk) hTh)
  refine hK.out _ _ (⟨x24,n04,n14⟩) (fun hHeld=>?_)
  clear hK K
  try simp only [Act.put,List.setIfInBounds_toArray,List.set_cons_zero,List.set_cons_succ]
  refine Aa 8 hHeld ?_
  refine wpAnyH_done (by kernel_rfl) ?_ _
  clear hHeld
  go_wp2
  go_ret
  exact ⟨by rw [HR.out]; rfl,by rw [HR.out]; exact HFIN.out⟩
 | true=>
  rw [hsu] at x3
  have hby:=bytes_lg HX.out.1.drew
  have hmb:=Qy w1.drew (.slice ua (ps.map Aw).length uc) (ps.map Aw) ((Fw HOU.out).chg ((Chg.refl (fun _=>False) w1).drew) (fun _ _ h=>h)) hmo
  rw [List.length_map] at hmb
  have hwr1 : IntKind.i64.wrap (L.wh+(By (ps.map Aw) : Int))=L.wh+(By (ps.map Aw) : Int):=by rw [IntKind.wrap_i64]; omega
  have hwr2 : IntKind.i64.wrap (2 * (Ag nx : Int))=2 * (Ag nx : Int):=by rw [IntKind.wrap_i64]; omega
  have hwr3 : IntKind.i64.wrap (10000+2 * (Ag nx : Int))=10000+2 * (Ag nx : Int):=by rw [IntKind.wrap_i64]; omega
  by_cases hc : L.wh+(By (ps.map Aw) : Int)≤10000+2 * (Ag nx : Int)
  ·have HR:=Ab (show Bf S L sure ps nx=B7 S L (ps.map Aw) from Ij hsu hc)
   have hcd : decide (L.wh+(By (ps.map Aw) : Int)≤10000+2 * (Ag nx : Int))=true:=decide_eq_true hc
   clear hsu
   have hap2:=append_lg HX.out.1.drew (show TxB w1.drew F g (.slice ua (ps.map Aw).length uc) (ps.map Aw) from ⟨(Fw HOU.out).chg ((Chg.refl (fun _=>False) w1).drew) (fun _ _ h=>h),fun k hk=>⟨fun h=>by have:=(HFL.out k h); have:=(HOU.out.lt k hk).1; omega,fun h=>by have:=(HOU.out.lt k hk).1; omega,(HOU.out.lt k hk).2⟩⟩) hB0 (show Bm w1.drew from HT1.out) hea hb hwh
   rw [List.length_map] at hap2
   generalize (By (ps.map Aw) : Int)=mo at *
   generalize (Ag nx : Int)=wn at *
   go_wp2_with fail
   refine wp_region_held_drew (S:=fun W=>W.cell? ⟨t,3,none⟩=some (.bool true)∧W.cell? ⟨t,2,none⟩=some (.pointer (some ⟨g,0,none⟩))∧W.cell? ⟨w.heap.size,1,none⟩=some (.int .i64 wn)) (by kernel_rfl) (⟨x3,x2,n1⟩) (fun hHeld=>?_)
   refine Aa 0 hHeld ?_
   refine Aa 1 hHeld ?_
   refine Aa 2 hHeld ?_
   refine Aa 3 hHeld ?_
   refine Aa 4 hHeld ?_
   refine Aa 5 hHeld ?_
   refine Aa 6 hHeld ?_
   refine Aa 7 hHeld ?_
   refine Aa 8 hHeld ?_
   refine Aa 10 hHeld ?_
   refine Aa 13 hHeld ?_
   refine Aa 14 hHeld ?_
   refine Aa 15 hHeld ?_
   refine Aa 16 hHeld ?_
   refine Al (i:=9) rfl (by kernel_rfl) rfl (fun K hK=>?_)
   go_simp
   refine hby.mono ?_
   rintro e wz ⟨rfl,hwz⟩
   rw [hwz]
   clear hwz
   refine hK.out _ _ (⟨x3,x2,n1⟩) (fun hHeld=>?_)
   clear hK K
   try simp only [Act.put,List.setIfInBounds_toArray,List.set_cons_zero,List.set_cons_succ]
   refine Al (i:=11) rfl (by kernel_rfl) rfl (fun K hK=>?_)
   go_simp
   refine hmb.mono ?_
   rintro e wz ⟨rfl,hwz⟩
   rw [hwz]
   clear hwz
   refine hK.out _ _ (⟨x3,x2,n1⟩) (fun hHeld=>?_)
   clear hK K
   try simp only [Act.put,List.setIfInBounds_toArray,List.set_cons_zero,List.set_cons_succ]
   refine Aa 12 hHeld ?_
   refine Aa 17 hHeld ?_
   refine Aa 18 hHeld ?_
   refine wpAnyH_done (by kernel_rfl) ?_ _
   clear hHeld
   go_wp2_with fail
   refine hap2.mono ?_
   rintro e w4 ⟨rfl,hTh⟩
   have HFIN:=Ab (Bv.next (HQ.out.mono (fun _ _ h=>h.elim)) (fun k hk=>.inl hk) hTh.drewn)
   clear hTh hap2
   go_wp2
   go_ret
   exact ⟨by rw [HR.out]; rfl,by rw [HR.out]; exact HFIN.out⟩
  ·have HR:=Ab (show Bf S L sure ps nx=B4 S L ((Bo nx).map Aw) from Ha (fun h=>hc h.2))
   have hcd : decide (L.wh+(By (ps.map Aw) : Int)≤10000+2 * (Ag nx : Int))=false:=decide_eq_false hc
   clear hsu
   generalize (By (ps.map Aw) : Int)=mo at *
   go_wp2_with fail
   refine wp_region_held_drew (S:=fun W=>W.cell? ⟨t,3,none⟩=some (.bool true)∧W.cell? ⟨t,2,none⟩=some (.pointer (some ⟨g,0,none⟩))∧W.cell? ⟨w.heap.size,1,none⟩=some (.int .i64 (Ag nx))) (by kernel_rfl) (⟨x3,x2,n1⟩) (fun hHeld=>?_)
   refine Aa 0 hHeld ?_
   refine Aa 1 hHeld ?_
   refine Aa 2 hHeld ?_
   refine Aa 3 hHeld ?_
   refine Aa 4 hHeld ?_
   refine Aa 5 hHeld ?_
   refine Aa 6 hHeld ?_
   refine Aa 7 hHeld ?_
   refine Aa 8 hHeld ?_
   refine Aa 10 hHeld ?_
   refine Aa 13 hHeld ?_
   refine Aa 14 hHeld ?_
   refine Aa 15 hHeld ?_
   refine Aa 16 hHeld ?_
   refine Al (i:=9) rfl (by kernel_rfl) rfl (fun K hK=>?_)
   go_simp
   refine hby.mono ?_
   rintro e wz ⟨rfl,hwz⟩
   rw [hwz]
   clear hwz
   refine hK.out _ _ (⟨x3,x2,n1⟩) (fun hHeld=>?_)
   clear hK K
   try simp only [Act.put,List.setIfInBounds_toArray,List.set_cons_zero,List.set_cons_succ]
   refine Al (i:=11) rfl (by kernel_rfl) rfl (fun K hK=>?_)
   go_simp
   refine hmb.mono ?_
   rintro e wz ⟨rfl,hwz⟩
   rw [hwz]
   clear hwz
   refine hK.out _ _ (⟨x3,x2,n1⟩) (fun hHeld=>?_)
   clear hK K
   try simp only [Act.put,List.setIfInBounds_toArray,List.set_cons_zero,List.set_cons_succ]
   refine Aa 12 hHeld ?_
   refine Aa 17 hHeld ?_
   refine Aa 18 hHeld ?_
   refine wpAnyH_done (by kernel_rfl) ?_ _
   clear hHeld
   go_wp2_with fail
   refine wp_region_held_drew (S:=fun W=>W.cell? ⟨t,2,none⟩=some (.pointer (some ⟨g,0,none⟩))∧W.cell? ⟨w.heap.size,0,none⟩=some (.map (some bn))∧W.cell? ⟨w.heap.size,1,none⟩=some (.int .i64 (Ag nx))) (by kernel_rfl) (⟨x2,n0,n1⟩) (fun hHeld=>?_)
   refine Aa 0 hHeld ?_
   refine Aa 1 hHeld ?_
   refine Aa 2 hHeld ?_
   refine Aa 3 hHeld ?_
   refine Aa 4 hHeld ?_
   refine Al (i:=5) rfl (by kernel_rfl) rfl (fun K hK=>?_)
   go_simp
   refine hput.mono ?_
   rintro e w2 ⟨vp,rfl,hop,hb2⟩
   have q2:=C5 hb2
   have X2:=HX.out.1.drew.drew.keep q2 (fun _ _ h=>h) (fun h=>h)
   have x22 : w2.cell? ⟨t,2,none⟩=some (.pointer (some ⟨g,0,none⟩)):=(World.cell?_of_block (q2.block t (by show t<w1.heap.size; omega) (fun h=>h))).trans x2
   have n02 : w2.cell? ⟨w.heap.size,0,none⟩=some (.map (some bn)):=(World.cell?_of_block (q2.block w.heap.size (by show w.heap.size<w1.heap.size; omega) (fun h=>h))).trans n0
   have n12 : w2.cell? ⟨w.heap.size,1,none⟩=some (.int .i64 (Ag nx)):=(World.cell?_of_block (q2.block w.heap.size (by show w.heap.size<w1.heap.size; omega) (fun h=>h))).trans n1
   have hT2 : Bm w2:=HT1.out.keep (by show Below w1.heap.size w1 w2; exact ⟨hb2.os,hb2.tape,hb2.output,hb2.size,hb2.block⟩)
   have hs2 : w1.heap.size≤w2.heap.size:=hb2.size
   refine hK.out _ _ (⟨x22,n02,n12⟩) (fun hHeld=>?_)
   clear hK K
   try simp only [Act.put,List.setIfInBounds_toArray,List.set_cons_zero,List.set_cons_succ]
   refine Al (i:=6) rfl (by kernel_rfl) rfl (fun K hK=>?_)
   go_simp
   refine (Mo w2 vp (Bo nx) hop.ps (by rw [show (Bo nx).length=nx.length from List.length_map _]; exact hnx.1) hap).mono ?_
   rintro e w3 ⟨u3,rfl,ho3,hb3⟩
   have q3:=C5 hb3
   have X3:=X2.keep q3 (fun _ _ h=>h) (fun h=>h)
   have x23 : w3.cell? ⟨t,2,none⟩=some (.pointer (some ⟨g,0,none⟩)):=(World.cell?_of_block (q3.block t (by omega) (fun h=>h))).trans x22
   have n03 : w3.cell? ⟨w.heap.size,0,none⟩=some (.map (some bn)):=(World.cell?_of_block (q3.block w.heap.size (by omega) (fun h=>h))).trans n02
   have n13 : w3.cell? ⟨w.heap.size,1,none⟩=some (.int .i64 (Ag nx)):=(World.cell?_of_block (q3.block w.heap.size (by omega) (fun h=>h))).trans n12
   have hT3 : Bm w3:=hT2.keep hb3
   have hs3 : w2.heap.size≤w3.heap.size:=hb3.size
   refine hK.out _ _ (⟨x23,n03,n13⟩) (fun hHeld=>?_)
   clear hK K
   try simp only [Act.put,List.setIfInBounds_toArray,List.set_cons_zero,List.set_cons_succ]
   refine Al (i:=7) rfl (by kernel_rfl) rfl (fun K hK=>?_)
   go_simp
   refine (reset_lg X3 (show TxB w3 F g u3 ((Bo nx).map Aw) from ⟨Fw ho3,fun k hk=>⟨fun h=>by have:=(HFL.out k h); have:=(ho3.lt k hk).1; omega,fun h=>by have:=(ho3.lt k hk).1; omega,(ho3.lt k hk).2⟩⟩) hB0 hT3 heb (by omega)).mono ?_
   rintro e w4 ⟨rfl,hTh⟩
   have k4 : Chg (fun k=>F k∨k=g) w3 w4:=by obtain ⟨F',-,-,h⟩:=hTh; exact h
   have x24 : w4.cell? ⟨t,2,none⟩=some (.pointer (some ⟨g,0,none⟩)):=(World.cell?_of_block (k4.block t (by omega) (fun h=>h.elim ht.1 ht.2))).trans x23
   have n04 : w4.cell? ⟨w.heap.size,0,none⟩=some (.map (some bn)):=(World.cell?_of_block (k4.block w.heap.size (by omega) (fun h=>h.elim (fun h=>by have:=HFL.out _ h; omega) (fun h=>by omega)))).trans n03
   have n14 : w4.cell? ⟨w.heap.size,1,none⟩=some (.int .i64 (Ag nx)):=(World.cell?_of_block (k4.block w.heap.size (by omega) (fun h=>h.elim (fun h=>by have:=HFL.out _ h; omega) (fun h=>by omega)))).trans n13
   have HFIN:=Ab (Bv.next ((HQ.out.then ((show Chg (fun _=>False) w1 w2 from ⟨q2.os,q2.tape,q2.output,q2.size,q2.block⟩).then q3)).mono (fun _ _ h=>h.elim)) (fun k hk=>.inl hk) hTh)
   refine hK.out _ _ (⟨x24,n04,n14⟩) (fun hHeld=>?_)
   clear hK K
   try simp only [Act.put,List.setIfInBounds_toArray,List.set_cons_zero,List.set_cons_succ]
   refine Aa 8 hHeld ?_
   refine wpAnyH_done (by kernel_rfl) ?_ _
   clear hHeld
   go_wp2
   go_ret
   exact ⟨by rw [HR.out]; rfl,by rw [HR.out]; exact HFIN.out⟩
end
end Go.Proofs.YtblniomnhpedjaaGreatDoor
