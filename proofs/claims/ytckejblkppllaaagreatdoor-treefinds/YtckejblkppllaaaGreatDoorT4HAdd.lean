/-
  Texts joined: HAdd, HSum, HPadded, HWords, HConsts.
-/
import Derived.Test.YtckejblkppllaaaGreatDoorT3HSpread
import Derived.Deep.RegionLaw
namespace Go.Proofs.YtckejblkppllaaaGreatDoor
open Go.RowKit
theorem slice36l (w : World) (b off l : Nat) (h3 : l<64) :
  (Instr.sliceAt 360 (.pointer (some ⟨b,off,none⟩)) (some (.int .i64 (l : Int))) none none).run Tryz.prog w = .ok (.slice (some ⟨b,off+l,none⟩) (64 - l) (64 - l)) w:=by
 have e : ¬ 64=l:=by omega
 have a1 : (l : Int)≤64:=by omega
 simp [Instr.sliceAt,Instr.sureAddr,run_underlying Tryz.uBlk,Instr.sliceBounds,run_sliceBound,e,a1,Addr.add_mid,Result.andThen]
set_option maxRecDepth 20000 in
set_option maxHeartbeats 800000 in
theorem add_any (w : World) (g : Nat) (l : List UInt8) (part : List UInt8) (hF : Fed w g l) (hT : Bh w) (hg0 : 1<g) :
  Calls Tryz.prog 256 #[.pointer (some ⟨g,0,none⟩), .string (Ab part)] w fun e w'=>e = .returned (.tuple #[])∧Fed w' g (l++part)∧Below g w w':=by
 go_enter Tryz.func256,Tryz.ntmps256
 go_wp2_with fail
 go_loopw [1] (fun x wr=>∃ done rest,part=done++rest∧x = .string (Ab rest)∧Fed wr g (l++done)∧Below g w wr)
  (fun x _=>match x with | .string s=>s.size | _=>0)
 case atStart=>exact ⟨[],part,rfl,rfl,by simpa using hF,Below.refl _ _⟩
 case round=>
  obtain ⟨done,rest,hp,rfl,hR,hb⟩:=hrel
  have hTr:=hT.keep hb hg0
  have hss:=A1 rest
  by_cases hne : rest = []
  ·subst hne
   have hsz0 : (Ab []).size=0:=rfl
   rw [List.append_nil] at hp
   subst hp
   clear hss
   go_wp2
   go_end0
   exact ⟨rfl,hR,hb⟩
  ·have hpos : 0<rest.length:=List.length_pos_iff.2 hne
   obtain ⟨B,hrow,hB,htk⟩:=hR
   have hla : l++(done++rest)=(l++done)++rest:=by simp
   have HP:=Ac hp
   have HLA:=Ac hla
   have HTR:=Ac hTr
   have HBW:=Ac hb
   have hstr : ∀ r,part=done++rest→l++(done++r)=(l++done)++r:=fun r _=>by simp
   have HSTR:=Ac hstr
   clear hp hla hTr hb hstr
   generalize l++done=la at *
   obtain ⟨h,hh⟩ : ∃ h,h=la.length % 64:=⟨_,rfl⟩
   have hh64 : h<64:=by omega
   obtain ⟨n,hn⟩ : ∃ n,n=min rest.length (64 - h):=⟨_,rfl⟩
   have hn0 : 0<n:=by omega
   have hn1 : n≤rest.length:=by omega
   have hn2 : h+n≤64:=by omega
   rw [← hh] at hrow htk
   have hfs:=fun hlt=>feed_some la B (rest.take n) n hB (by rw [← hh]; exact htk) (by simp; omega) hlt
   have hff:=fun hlt=>feed_full la B (rest.take n) n hB (by rw [← hh]; exact htk) (by simp; omega) hlt
   rw [← hh] at hfs hff
   have hB' : (B.take h++rest.take n++B.drop (h+n)).length=64:=by simp; omega
   generalize hS : mix st0 la (la.length / 64)=S at *
   have hsl:=fun W=>slice36l W g 8 h hh64
   have hcell : wr.cell? ⟨g,72,none⟩=some (.int .i64 (h : Int)):=by
    rw [cell_of_row _ _ _ _ _ _ hrow,List.getElem?_toArray,Iz _ _ _ hB]
   have hcp:=run_copy_min (P:=Tryz.prog) wr.drew 137 9 3 5 g (8+h) (64 - h) (64 - h) n (Ab rest) _ 362 Tryz.underlying137 (by kernel_rfl) hrow (by rw [A1]; exact hn.symm) (by rw [List.size_toArray,Kz _ _ _ hB]; omega)
   have hrow1 : (wr.drew.setRow g ((mcL S B h).take (8+h)++bc ((Ab rest).data.toList.take n)++(mcL S B h).drop (8+h+n)).toArray).heap[g]? = some (.cells (mcL S (B.take h++rest.take n++B.drop (h+n)) h).toArray 362):=by
    rw [setRow_heap wr.drew _ _ _ _ _ hrow,B0,mcL_copy S B h n (rest.take n) hB (by simp; omega) hn2]
   have hb1 : Below g w (wr.drew.setRow g ((mcL S B h).take (8+h)++bc ((Ab rest).data.toList.take n)++(mcL S B h).drop (8+h+n)).toArray):=
    HBW.out.trans ⟨rfl,rfl,rfl,by simp [World.setRow],fun k hk=>setRow_other _ _ _ _ (by omega)⟩
   generalize wr.drew.setRow g ((mcL S B h).take (8+h)++bc ((Ab rest).data.toList.take n)++(mcL S B h).drop (8+h+n)).toArray=W1 at *
   have HFS:=Ac hfs
   have HFF:=Ac hff
   have HH:=Ac hh
   have HN:=Ac hn
   have HTK:=Ac htk
   have HS:=Ac hS
   have HB:=Ac hB'
   have hsz' : (Ab rest).size=rest.length:=A1 rest
   clear hfs hff hh hn htk hS hrow hB hss
   have hc1 : W1.cell? ⟨g,72,none⟩=some (.int .i64 (h : Int)):=by
    rw [cell_of_row _ _ _ _ _ _ hrow1,List.getElem?_toArray,Iz _ _ _ hB']
   have hf1 : W1.frozen? ⟨g,72,none⟩=false:=by simp [World.frozen?,hrow1]
   have hex:=strB_drop rest n
   have hrow2 : (W1.setCell ⟨g,72,none⟩ (.int .i64 ((h : Int)+(n : Int)))).heap[g]? = some (.cells (mcL S (B.take h++rest.take n++B.drop (h+n)) (h+n)).toArray 362):=by
    rw [heap_setCell _ _ _ _ _ _ _ hrow1,List.setIfInBounds_toArray,show (h : Int)+(n : Int)=((h+n : Nat) : Int) from by omega,mcL_set _ _ _ _ hB']
   have hb2 : Below g w (W1.setCell ⟨g,72,none⟩ (.int .i64 ((h : Int)+(n : Int)))):=hb1.setCell (p:=⟨g,72,none⟩) (Nat.le_refl _) _
   have HR2:=Ac hrow2
   have HB2:=Ac hb2
   clear hrow1 hb1 hrow2 hb2 hB'
   by_cases hfull : h+n=64
   ·have hfi : (h : Int)+(n : Int)=64:=by omega
    obtain ⟨e1,e2,e3,e4⟩:=HFF.out hfull
    have HE:=Ac (And.intro e1 (And.intro e2 e4))
    clear e1 e2 e4 HFF HFS
    generalize B.take h++rest.take n++B.drop (h+n)=B' at *
    rw [hfull] at HR2
    rw [hfi] at HR2 HB2
    go_wp2_with fail
    go_region
    go_wp2_with fail
    -- region
    generalize W1.setCell ⟨g,72,none⟩ (.int .i64 64)=W2 at *
    have hB64:=e3
    have hS1 : W2.drew.heap[g]? = some (.cells (mcL S B' 64).toArray 362):=HR2.out
    have hTW : Bh W2.drew:=(hT.keep HB2.out hg0).keep ((Below.refl g W2).drew) hg0
    have hcS : (Tryz.prog.info? 359).map (·.size)=some (uc S.list).toList.length:=Tryz.infoEight
    have hcB : (Tryz.prog.info? 360).map (·.size)=some (bc B').length:=by rw [Di,hB64]; exact Tryz.infoBlk
    obtain ⟨T,hTe⟩ : ∃ T,T=comp S B':=⟨_,rfl⟩
    have hmx : ∀ W,Bh W→Calls Tryz.prog 280 #[.agg (uc S.list), .agg (bc B').toArray] W fun e w'=>e = .returned (.agg (uc T.list))∧Below W.heap.size W w':=fun W hW=>by rw [hTe]; exact mixed_any W S B' hB64 hW
    have hcC : (Tryz.prog.info? 359).map (·.size)=some (uc T.list).size:=Tryz.infoEight
    have HTE:=Ac hTe
    clear hTe
    refine wp_region_held_drew (S:=fun _=>True) (by kernel_rfl) trivial (fun hHeld=>?_)
    refine Ax (i:=0) (v:=?_) rfl (by kernel_rfl) (by kernel_rfl) (by kernel_rfl) (fun _ _ _ h=>h) rfl ?_ hHeld ?_
    rotate_left
    ·intro w _; go_simp; first | done | (with_reducible rfl)
    try simp only [Act.put,List.setIfInBounds_toArray,List.set_cons_zero,List.set_cons_succ]
    refine Ax (i:=1) (v:=?_) rfl (by kernel_rfl) (by kernel_rfl) (by kernel_rfl) (fun _ _ _ h=>h) rfl ?_ hHeld ?_
    rotate_left
    ·intro w _; go_simp; first | done | (with_reducible rfl)
    try simp only [Act.put,List.setIfInBounds_toArray,List.set_cons_zero,List.set_cons_succ]
    refine Ax (i:=2) (v:=?_) rfl (by kernel_rfl) (by kernel_rfl) (by kernel_rfl) (fun _ _ _ h=>h) rfl ?_ hHeld ?_
    rotate_left
    ·intro w _; go_simp; first | done | (with_reducible rfl)
    try simp only [Act.put,List.setIfInBounds_toArray,List.set_cons_zero,List.set_cons_succ]
    refine Ax (i:=3) (v:=?_) rfl (by kernel_rfl) (by kernel_rfl) (by kernel_rfl) (fun _ _ _ h=>h) rfl ?_ hHeld ?_
    rotate_left
    ·intro w _; go_simp; first | done | (with_reducible rfl)
    try simp only [Act.put,List.setIfInBounds_toArray,List.set_cons_zero,List.set_cons_succ]
    refine Ax (i:=5) (v:=?_) rfl (by kernel_rfl) (by kernel_rfl) (by kernel_rfl) (fun _ _ _ h=>h) rfl ?_ hHeld ?_
    rotate_left
    ·intro w _; go_simp; first | done | (with_reducible rfl)
    try simp only [Act.put,List.setIfInBounds_toArray,List.set_cons_zero,List.set_cons_succ]
    refine Ax (i:=6) (v:=?_) rfl (by kernel_rfl) (by kernel_rfl) (by kernel_rfl) (fun _ _ _ h=>h) rfl ?_ hHeld ?_
    rotate_left
    ·intro w _; go_simp; first | done | (with_reducible rfl)
    try simp only [Act.put,List.setIfInBounds_toArray,List.set_cons_zero,List.set_cons_succ]
    refine Ax (i:=7) (v:=?_) rfl (by kernel_rfl) (by kernel_rfl) (by kernel_rfl) (fun _ _ _ h=>h) rfl ?_ hHeld ?_
    rotate_left
    ·intro w _; go_simp; first | done | (with_reducible rfl)
    try simp only [Act.put,List.setIfInBounds_toArray,List.set_cons_zero,List.set_cons_succ]
    refine twoH (i:=4) (j:=8) rfl rfl (by kernel_rfl) rfl rfl (fun K hK=>?_) (fun K hK=>?_)
    ·refine He _ 359 (.tmp 37) rfl g 0 rfl 362 (mcL S B' 64) (uc S.list).toList 8 (0,0) _ hS1 (by rw [List.drop_zero]; exact Li S B' 64) Tryz.underlying359 rfl hcS ?_
     refine hK.out _ _ trivial (fun hHeld=>?_)
     clear hK K
     try simp only [Act.put,List.setIfInBounds_toArray,List.set_cons_zero,List.set_cons_succ]
     refine Ai (i:=8) rfl (by kernel_rfl) rfl (fun K hK=>?_)
     refine He _ 360 (.tmp 41) rfl g 8 rfl 362 (mcL S B' 64) (bc B') 64 (0,0) _ hS1 (mcL_block S B' 64 hB64) Tryz.underlying360 rfl hcB ?_
     refine hK.out _ _ trivial (fun hHeld=>?_)
     clear hK K
     try simp only [Act.put,List.setIfInBounds_toArray,List.set_cons_zero,List.set_cons_succ]
     refine Ai (i:=9) rfl (by kernel_rfl) rfl (fun K hK=>?_)
     simp only [Array.toArray_toList]
     go_simp
     refine (hmx _ hTW).mono ?_
     rintro e1 w4 ⟨rfl,hb4⟩
     go_simp
     have hS4:=(hb4.block _ (Ad hS1)).trans hS1
     have hb4' : Below g w w4:=HB2.out.drew.trans (hb4.mono (Nat.le_of_lt (Ad hS1)))
     refine hK.out _ _ trivial (fun hHeld=>?_)
     clear hK K
     refine Ax (i:=10) (v:=?_) rfl (by kernel_rfl) (by kernel_rfl) (by kernel_rfl) (fun _ _ _ h=>h) rfl ?_ hHeld ?_
     rotate_left
     ·intro w _; go_simp; first | done | (with_reducible rfl)
     try simp only [Act.put,List.setIfInBounds_toArray,List.set_cons_zero,List.set_cons_succ]
     refine Ax (i:=11) (v:=?_) rfl (by kernel_rfl) (by kernel_rfl) (by kernel_rfl) (fun _ _ _ h=>h) rfl ?_ hHeld ?_
     rotate_left
     ·intro w _; go_simp; first | done | (with_reducible rfl)
     try simp only [Act.put,List.setIfInBounds_toArray,List.set_cons_zero,List.set_cons_succ]
     refine Ai (i:=12) rfl (by kernel_rfl) rfl (fun K hK=>?_)
     refine Mc _ 359 (.tmp 45) (.tmp 43) rfl g 0 (uc T.list) rfl rfl 362 (mcL S B' 64) hS4 hcC (by rw [Kz _ _ _ hB64,uc_st]; omega) (Ea _) ?_
     intro w5 hrow5 hg5
     rw [uc_st,mcL_put] at hrow5
     have hb5 : Below g w w5:=hb4'.grown hg5 (Nat.le_of_lt (Ad hS4)) (by intro k hk; injection hk with hk; omega)
     refine hK.out _ _ trivial (fun hHeld=>?_)
     clear hK K
     try simp only [Act.put]
     refine wpAnyH_done (by kernel_rfl) ?_ _
     have hc5 : w5.cell? ⟨g,72,none⟩=some (.int .i64 ((64 : Nat) : Int)):=by rw [cell_of_row _ _ _ _ _ _ hrow5,List.getElem?_toArray,Iz _ _ _ hB64]
     have hf5 : w5.frozen? ⟨g,72,none⟩=false:=by simp [World.frozen?,hrow5]
     have hrow6 : (w5.setCell ⟨g,72,none⟩ (.int .i64 0)).heap[g]? = some (.cells (mcL T B' 0).toArray 362):=by
      rw [heap_setCell _ _ _ _ _ _ _ hrow5,List.setIfInBounds_toArray]
      exact congrArg (fun x : List Value=>some (Obj.cells x.toArray 362)) (mcL_set T B' 64 0 hB64)
     have HR6:=Ac hrow6
     have HB6:=Ac (hb5.setCell (p:=⟨g,72,none⟩) (Nat.le_refl _) (.int .i64 0))
     clear hrow5 hrow6 hb5 hg5 hS4 hb4' hb4 hmx hcC hS1 hTW hcS hcB
     go_wp2
     go_roundw
     case rel=>
      obtain ⟨e1,e2,e4⟩:=HE.out
      refine ⟨done++rest.take n,rest.drop n,by rw [HP.out]; simp,rfl,?_,HB6.out⟩
      rw [HSTR.out _ HP.out]
      exact ⟨B',by rw [e2,e1,← HTE.out]; exact HR6.out,hB64,by rw [e1,e4,List.take_zero]⟩
     case measure=>simp [A1]; omega
    ·refine He _ 360 (.tmp 41) rfl g 8 rfl 362 (mcL S B' 64) (bc B') 64 (0,0) _ hS1 (mcL_block S B' 64 hB64) Tryz.underlying360 rfl hcB ?_
     refine hK.out _ _ trivial (fun hHeld=>?_)
     clear hK K
     try simp only [Act.put,List.setIfInBounds_toArray,List.set_cons_zero,List.set_cons_succ]
     refine Ai (i:=4) rfl (by kernel_rfl) rfl (fun K hK=>?_)
     refine He _ 359 (.tmp 37) rfl g 0 rfl 362 (mcL S B' 64) (uc S.list).toList 8 (0,0) _ hS1 (by rw [List.drop_zero]; exact Li S B' 64) Tryz.underlying359 rfl hcS ?_
     refine hK.out _ _ trivial (fun hHeld=>?_)
     clear hK K
     try simp only [Act.put,List.setIfInBounds_toArray,List.set_cons_zero,List.set_cons_succ]
     refine Ai (i:=9) rfl (by kernel_rfl) rfl (fun K hK=>?_)
     simp only [Array.toArray_toList]
     go_simp
     refine (hmx _ hTW).mono ?_
     rintro e1 w4 ⟨rfl,hb4⟩
     go_simp
     have hS4:=(hb4.block _ (Ad hS1)).trans hS1
     have hb4' : Below g w w4:=HB2.out.drew.trans (hb4.mono (Nat.le_of_lt (Ad hS1)))
     refine hK.out _ _ trivial (fun hHeld=>?_)
     clear hK K
     refine Ax (i:=10) (v:=?_) rfl (by kernel_rfl) (by kernel_rfl) (by kernel_rfl) (fun _ _ _ h=>h) rfl ?_ hHeld ?_
     rotate_left
     ·intro w _; go_simp; first | done | (with_reducible rfl)
     try simp only [Act.put,List.setIfInBounds_toArray,List.set_cons_zero,List.set_cons_succ]
     refine Ax (i:=11) (v:=?_) rfl (by kernel_rfl) (by kernel_rfl) (by kernel_rfl) (fun _ _ _ h=>h) rfl ?_ hHeld ?_
     rotate_left
     ·intro w _; go_simp; first | done | (with_reducible rfl)
     try simp only [Act.put,List.setIfInBounds_toArray,List.set_cons_zero,List.set_cons_succ]
     refine Ai (i:=12) rfl (by kernel_rfl) rfl (fun K hK=>?_)
     refine Mc _ 359 (.tmp 45) (.tmp 43) rfl g 0 (uc T.list) rfl rfl 362 (mcL S B' 64) hS4 hcC (by rw [Kz _ _ _ hB64,uc_st]; omega) (Ea _) ?_
     intro w5 hrow5 hg5
     rw [uc_st,mcL_put] at hrow5
     have hb5 : Below g w w5:=hb4'.grown hg5 (Nat.le_of_lt (Ad hS4)) (by intro k hk; injection hk with hk; omega)
     refine hK.out _ _ trivial (fun hHeld=>?_)
     clear hK K
     try simp only [Act.put]
     refine wpAnyH_done (by kernel_rfl) ?_ _
     have hc5 : w5.cell? ⟨g,72,none⟩=some (.int .i64 ((64 : Nat) : Int)):=by rw [cell_of_row _ _ _ _ _ _ hrow5,List.getElem?_toArray,Iz _ _ _ hB64]
     have hf5 : w5.frozen? ⟨g,72,none⟩=false:=by simp [World.frozen?,hrow5]
     have hrow6 : (w5.setCell ⟨g,72,none⟩ (.int .i64 0)).heap[g]? = some (.cells (mcL T B' 0).toArray 362):=by
      rw [heap_setCell _ _ _ _ _ _ _ hrow5,List.setIfInBounds_toArray]
      exact congrArg (fun x : List Value=>some (Obj.cells x.toArray 362)) (mcL_set T B' 64 0 hB64)
     have HR6:=Ac hrow6
     have HB6:=Ac (hb5.setCell (p:=⟨g,72,none⟩) (Nat.le_refl _) (.int .i64 0))
     clear hrow5 hrow6 hb5 hg5 hS4 hb4' hb4 hmx hcC hS1 hTW hcS hcB
     go_wp2
     go_roundw
     case rel=>
      obtain ⟨e1,e2,e4⟩:=HE.out
      refine ⟨done++rest.take n,rest.drop n,by rw [HP.out]; simp,rfl,?_,HB6.out⟩
      rw [HSTR.out _ HP.out]
      exact ⟨B',by rw [e2,e1,← HTE.out]; exact HR6.out,hB64,by rw [e1,e4,List.take_zero]⟩
     case measure=>simp [A1]; omega
    -- end of region
   ·have hnf : (h : Int)+(n : Int)≠64:=by omega
    go_wp2_with fail
    go_region
    go_wp2
    go_roundw
    case rel=>
     obtain ⟨e1,e2,e3,e4⟩:=HFS.out (by omega)
     refine ⟨done++rest.take n,rest.drop n,by rw [HP.out]; simp,rfl,?_,HB2.out⟩
     rw [HSTR.out _ HP.out]
     exact ⟨_,by rw [e2,e1]; exact HR2.out,e3,e4⟩
    case measure=>simp [A1]; omega
end Go.Proofs.YtckejblkppllaaaGreatDoor
namespace Go.Proofs.YtckejblkppllaaaGreatDoor
open Go.RowKit
def Ps (w : World) (v : Value) (ls : List (List UInt8)) : Prop:=
 ∃ ao cap,v = .slice ao ls.length cap∧ls.length≤cap∧cap≤maxLen ∧
  (ls ≠ []→∃ b off,ao=some ⟨b,off,none⟩∧b<w.heap.size∧∀ j (h : j<ls.length),w.cell? ⟨b,off+j,none⟩=some (.string (Ab (ls[j]'h))))
theorem Ps.keep {w w' : World} {v : Value} {ls : List (List UInt8)} (h : Ps w v ls) (hb : Below w.heap.size w w') : Ps w' v ls:=by
 obtain ⟨ao,cap,hv,h1,h2,h4⟩:=h
 refine ⟨ao,cap,hv,h1,h2,fun hl=>?_⟩
 obtain ⟨b,off,ha,hlt,hc⟩:=h4 hl
 exact ⟨b,off,ha,Nat.lt_of_lt_of_le hlt hb.size,fun j hj=>(hb.cell (p:=⟨b,off+j,none⟩) hlt).trans (hc j hj)⟩
def z38 : Array Value:=(mcL ⟨0,0,0,0,0,0,0,0⟩ (List.replicate 64 0) 0).toArray
def m38 : Array Value:=(mcL st0 (List.replicate 64 0) 0).toArray
theorem Tryz.zeroMixer : (Tryz.prog.info? 362).map (fun i=>(i.zero,i.size))=some (some (.agg z38),73):=by kernel_rfl
theorem chain38 : ((((((((z38.setIfInBounds 0 (.int .u32 1779033703)).setIfInBounds 1 (.int .u32 3144134277)).setIfInBounds 2 (.int .u32 1013904242)).setIfInBounds 3 (.int .u32 2773480762)).setIfInBounds 4 (.int .u32 1359893119)).setIfInBounds 5 (.int .u32 2600822924)).setIfInBounds 6 (.int .u32 528734635)).setIfInBounds 7 (.int .u32 1541459225))=m38:=by kernel_rfl
theorem z38_size : z38.size=73:=by kernel_rfl
theorem m38_size : m38.size=73:=by kernel_rfl
theorem m38_one : m38.all (·.oneCell')=true:=by kernel_rfl
theorem fed_start (w : World) (g : Nat) (h : w.heap[g]? = some (.cells m38 362)) : Fed w g []:=⟨List.replicate 64 0,h,by simp,rfl⟩
theorem sha_out (l : List UInt8) : sha l=out (mix st0 (l++Df l.length) ((l++Df l.length).length / 64)):=rfl
set_option maxRecDepth 20000 in
set_option maxHeartbeats 800000 in
theorem sum_any (w : World) (v : Value) (ls : List (List UInt8)) (h : Ps w v ls) (hT : Bh w) (hsz : ls.flatten.length≤140737488355328) :
  Calls Tryz.prog 227 #[v] w fun e w'=>e = .returned (.string (Ab (sha ls.flatten)))∧Below w.heap.size w w':=by
 obtain ⟨ao,cap,rfl,h1,h2,h4⟩:=h
 unfold maxLen at h2
 obtain ⟨hz,hi38⟩:=zero_of_info Tryz.zeroMixer
 have hch:=chain38
 have hzs:=z38_size
 have hms : z38.size=m38.size:=by rw [z38_size,m38_size]
 have hone:=m38_one
 have hfs:=fed_start
 have hmi : (Tryz.prog.info? 362).map (·.size)=some m38.size:=by rw [m38_size]; exact hi38
 have HFS:=Ac hfs
 have HONE:=Ac hone
 have HMI:=Ac hmi
 have HMS:=Ac hms
 clear hfs hone hmi hi38 hms
 generalize z38=Z at *
 generalize m38=M at *
 go_enter Tryz.func227,Tryz.ntmps227
 go_wp2_with (refine Fe _ rfl 362 (.tmp 3) (.tmp 8) rfl _ M rfl rfl 362 Z (heap_last _ _ _ rfl) HMI.out HMS.out HONE.out ?_; intro w1 hrow1 hg1)
 have hb1 : Below w.heap.size w w1:=((Below.refl _ _).alloc (Nat.le_refl _) _).grown hg1 (by simp) (by intro k hk; injection hk with hk; omega)
 have hF1:=HFS.out w1 w.heap.size hrow1
 have h0:=hT.1
 clear hrow1 hg1 hz hzs HFS HONE HMI HMS
 go_loopw [4,11] (fun x t wr=>∃ k : Nat,k≤ls.length∧t = .int .i64 k∧x = .int .u64 (((ls.take k).flatten.length : Nat) : Int)∧Fed wr w.heap.size (ls.take k).flatten∧Below w.heap.size w wr)
  (fun _ t _=>ls.length - (intOf t).toNat)
 case atStart=>exact ⟨0,by omega,rfl,rfl,hF1,hb1⟩
 case round=>
  clear hF1 hb1
  obtain ⟨k,hk,rfl,rfl,hF,hb⟩:=hrel
  have hTr:=Ac (hT.keep hb h0)
  by_cases hlt : k<ls.length
  ·obtain ⟨b,off,rfl,hbl,hc⟩:=h4 (by rintro rfl; simp at hlt)
   have hcell:=(hb.cell (p:=⟨b,off+k,none⟩) hbl).trans (hc k hlt)
   have hn : (ls.take (k+1)).flatten=(ls.take k).flatten++ls[k]:=by
    rw [List.take_succ_eq_append_getElem hlt,List.flatten_append]; simp
   have hle : (ls.take (k+1)).flatten.length≤ls.flatten.length:=by
    have : ls.flatten=(ls.take (k+1)).flatten++(ls.drop (k+1)).flatten:=by rw [← List.flatten_append,List.take_append_drop]
    rw [this,List.length_append]; omega
   have hsum : (ls.take k).flatten.length+(ls[k]).length≤140737488355328:=by
    rw [hn,List.length_append] at hle; omega
   have HN:=Ac hn
   have HF:=Ac hF
   have HB:=Ac hb
   clear hn hF hb hle hsz hc h4
   generalize (ls.take k).flatten=A at *
   generalize ls[k]=p at *
   have hps:=A1 p
   generalize hAl : A.length=al at *
   generalize hpl : p.length=pl at *
   have HAL:=Ac hAl
   have HPL:=Ac hpl
   clear hAl hpl
   go_wp2_with fail
   refine (add_any _ w.heap.size A p HF.out hTr.out h0).mono ?_
   rintro e1 w2 ⟨rfl,hF2,hb2⟩
   have HF2:=Ac hF2
   have HB2:=Ac (HB.out.trans hb2)
   clear hF2 hb2
   go_wp2
   go_roundw
   case rel=>exact ⟨k+1,by omega,by go_num,by rw [HN.out,List.length_append,HAL.out,HPL.out]; go_num,by rw [HN.out]; exact HF2.out,HB2.out⟩
   case measure=>simp [intOf]; omega
  ·have e : ls.take k=ls:=List.take_of_length_le (by omega)
   rw [e] at hF ⊢
   have hSH:=Ac (sha_out ls.flatten)
   clear h4 e
   generalize hA : ls.flatten=A at *
   have HA:=Ac hA
   clear hA
   have HF:=Ac hF
   have HB:=Ac hb
   clear hF hb
   generalize hAl : A.length=al at *
   have HAL:=Ac hAl
   clear hAl
   go_wp2_with fail
   refine (ending_any _ al (by omega)).mono ?_
   rintro e1 w2 ⟨rfl,hb2⟩
   have hg2 : w.heap.size<wr.heap.size:=by
    obtain ⟨B,hrow,_⟩:=HF.out
    exact Ad hrow
   have hF2 : Fed w2 w.heap.size A:=by
    obtain ⟨B,hrow,hx⟩:=HF.out
    exact ⟨B,(hb2.block _ hg2).trans hrow,hx⟩
   have hB2:=HB.out.trans (hb2.mono (Nat.le_of_lt hg2))
   have HF2:=Ac hF2
   have HB2:=Ac hB2
   clear hF2 hB2 hb2
   go_wp2_with fail
   refine (add_any _ w.heap.size A (Df al) HF2.out (hT.keep HB2.out h0) h0).mono ?_
   rintro e1 w3 ⟨rfl,hF3,hb3⟩
   obtain ⟨B,hrow,_,_⟩:=hF3
   have HB3:=Ac (HB2.out.trans hb3)
   generalize mix st0 (A++Df al) ((A++Df al).length / 64)=S at *
   generalize (A++Df al).length % 64=hh at *
   have hin : (Tryz.prog.info? 359).map (·.size)=some (uc S.list).toList.length:=Tryz.infoEight
   have hnb:=Li S B hh
   clear hb3
   go_wp2_with (refine On _ rfl 359 (.tmp 26) rfl w.heap.size 0 rfl 362 (mcL S B hh) (uc S.list).toList 8 (0,0) _ hrow (by rw [List.drop_zero]; exact hnb) Tryz.underlying359 rfl hin ?_; rw [Array.toArray_toList])
   refine (bytesOf_any _ S).mono ?_
   rintro e1 w4 ⟨rfl,hb4⟩
   have hb:=HB3.out.trans (hb4.mono HB3.out.size)
   clear hb4
   go_wp2
   go_ret
   exact ⟨Ig (by rw [HA.out,hSH.out]),hb⟩
end Go.Proofs.YtckejblkppllaaaGreatDoor
namespace Go.Proofs.YtckejblkppllaaaGreatDoor
open Go.RowKit
def lenV : Value→Nat
 | .slice _ n _=>n
 | _=>0
def be8 (size : Nat) : List UInt8:=be4 (UInt32.ofNat (size * 8 % 18446744073709551616 / 4294967296))++be4 (UInt32.ofNat (size * 8 % 18446744073709551616))
theorem tail_eq (size : Nat) : Df size=128 :: (List.replicate ((119 - size % 64) % 64) 0++be8 size):=by
 unfold Df be8
 rw [List.cons_append]
theorem Ic (size : Nat) : (be8 size).length=8:=rfl
theorem be8_get (size : Nat) (hs : size≤1048576) : ∀ k,k<8→((size : Int) * 8) / 2 ^ (56 - 8 * k) % 256=(((be8 size).getD k 0).toNat : Int)
 | 0,_=>by simp [be8,be4,Nat.shiftRight_eq_div_pow]; omega
 | 1,_=>by simp [be8,be4,Nat.shiftRight_eq_div_pow]; omega
 | 2,_=>by simp [be8,be4,Nat.shiftRight_eq_div_pow]; omega
 | 3,_=>by simp [be8,be4]; omega
 | 4,_=>by simp [be8,be4,Nat.shiftRight_eq_div_pow]; omega
 | 5,_=>by simp [be8,be4,Nat.shiftRight_eq_div_pow]; omega
 | 6,_=>by simp [be8,be4,Nat.shiftRight_eq_div_pow]; omega
 | 7,_=>by simp [be8,be4]
 | k+8,h=>by omega
set_option maxRecDepth 20000 in
set_option maxHeartbeats 800000 in
theorem padded_any (w : World) (v : Value) (l : List UInt8) (h : Sl w v l) (hl : l.length≤1048576) :
  Calls Tryz.prog 195 #[v] w fun e w'=>∃ m,m=(l++Df l.length).length∧e = .returned (.slice (some ⟨w.heap.size,0,none⟩) m (l.length+72)) ∧
   w'.ownsRow w.heap.size 5 1 (.slice (some ⟨w.heap.size,0,none⟩) m (l.length+72)) m (bc (l++Df l.length))∧Below w.heap.size w w'∧w.heap.size<w'.heap.size:=by
 have h':=h
 obtain ⟨ao,cap,rfl,h1,h2,h3,h4⟩:=h'
 clear h4
 obtain ⟨i0,hi,hz0,hz1,hz2⟩:=info_parts Tryz.infoB
 go_enter Tryz.func195,Tryz.ntmps195
 go_wp2_with (first
  | (at_make; refine wpList_make_own _ rfl _ _ 137 rfl w.heap.size 5 i0 (.int .u8 0) 1 Tryz.underlying137 hi hz0 hz1 .i64 .i64 _ (l.length+72) rfl rfl (by omega) (by rw [hz2]; omega) (by unfold maxLen; omega) (Nat.le_refl _) ?_; intro w1 hown1 hgrow1)
  | (at_builtin; refine wpList_append_fits_any _ rfl (.tmp 10) (.tmp 11) 137 rfl w.heap.size 5 i0 1 Tryz.underlying137 hi hz1 w.heap.size 0 (l.length+72) [] rfl hown1 ao l.length cap (bc l) rfl (by rw [Di,Nat.mul_one]) (by intro hn; have:=h3 hn; omega) (h.cells ((Below.refl _ _).grown hgrow1 (Nat.le_refl _) (by intro k hk; cases hk))) (Dn l) (by omega) ?_; intro w2 hown2 hgrow2; simp only [Nat.zero_add,List.nil_append] at hown2)
  | (at_builtin; refine wpList_append_fits _ rfl (.tmp 13) (.tmp 14) 137 rfl w.heap.size 5 i0 1 Tryz.underlying137 hi hz1 w.heap.size l.length (l.length+72) (bc l) rfl (hown2.alloc _) ⟨w2.heap.size,0,none⟩ 1 1 (bc [128]) rfl rfl ?c1 (Dn _) (by omega) ?_))
 case c1=>
  intro j x hj
  match j,hj with
  | 0,hj=>simp [bc] at hj; subst hj; simp [Addr.add_lit]
 intro w3 hown3 hgrow3
 have hb3 : Below w.heap.size w w3:=((((Below.refl _ _).grown hgrow1 (Nat.le_refl _) (by intro k hk; cases hk)).grown hgrow2 hgrow1.size (by intro k hk; injection hk with hk; omega)).alloc (Nat.le_trans hgrow1.size hgrow2.size) _).grown hgrow3 (by have:=hgrow1.size; have:=hgrow2.size; simp; omega) (by intro k hk; injection hk with hk; omega)
 rw [← Dm] at hown3
 clear hgrow1 hgrow2 hgrow3 hown1 hown2
 go_wp2_with fail
 obtain ⟨N,hN⟩ : ∃ N,N=(119 - l.length % 64) % 64:=⟨_,rfl⟩
 have hT:=tail_eq l.length
 rw [← hN] at hT
 have HT:=Ac hT
 have HN:=Ac hN
 have hN64 : N<64:=by omega
 clear hT hN h
 go_loopw [3] (fun v wr=>∃ z m : Nat,z≤N∧m=l.length+1+z∧v = .slice (some ⟨w.heap.size,0,none⟩) m (l.length+72) ∧
   wr.ownsRow w.heap.size 5 1 (.slice (some ⟨w.heap.size,0,none⟩) m (l.length+72)) m (bc (l++128 :: List.replicate z 0))∧Below w.heap.size w wr)
  (fun v _=>l.length+65 - lenV v)
 case atStart=>exact ⟨0,l.length+1,by omega,rfl,rfl,hown3,hb3⟩
 case round=>
  clear hown3 hb3
  obtain ⟨z,m,hz,hm,rfl,hown,hb⟩:=hrel
  have hmod : ((m : Nat) : Int).tmod 64=((m % 64 : Nat) : Int):=by rw [Int.tmod_eq_emod_of_nonneg (by omega)]; omega
  by_cases hlt : z<N
  ·have hne : m % 64≠56:=by have:=HN.out; omega
   have hm64 : m % 64<64:=Nat.mod_lt _ (by omega)
   generalize m % 64=r at *
   have HM:=Ac hm
   have hmc : m+1≤l.length+72:=by omega
   have hml : m<2000000:=by omega
   clear hm
   go_wp2_with (at_builtin; refine wpList_append_fits _ rfl (.tmp 20) (.tmp 21) 137 rfl w.heap.size 5 i0 1 Tryz.underlying137 hi hz1 w.heap.size m (l.length+72) _ rfl (hown.alloc _) ⟨wr.heap.size,0,none⟩ 1 1 (bc [0]) rfl rfl ?c1 (Dn _) hmc ?_)
   case c1=>
    intro j x hj
    match j,hj with
    | 0,hj=>simp [bc] at hj; subst hj; simp [Addr.add_lit]
   intro w4 hown4 hgrow4
   have hb4:=(hb.alloc hb.size (.cells #[.int .u8 0] 5)).grown hgrow4 (by have:=hb.size; simp; omega) (by intro k hk; injection hk with hk; omega)
   have hown4' : w4.ownsRow w.heap.size 5 1 (.slice (some ⟨w.heap.size,0,none⟩) (m+1) (l.length+72)) (m+1) (bc (l++128 :: List.replicate (z+1) 0)):=by
    rw [List.replicate_succ',← List.cons_append,← List.append_assoc,Dm]
    exact hown4
   have HO:=Ac hown4'
   have HB:=Ac hb4
   clear hown hgrow4 hown4 hown4' hb hb4
   go_wp2
   go_roundw
   case rel=>exact ⟨z+1,m+1,by omega,by have:=HM.out; omega,rfl,HO.out,HB.out⟩
   case measure=>simp [lenV]; have:=HM.out; omega
  ·obtain rfl : z=N:=by omega
   have h56 : m % 64=56:=by have:=HN.out; omega
   rw [h56] at hmod
   have HM:=Ac hm
   have hml : m+8≤l.length+72:=by omega
   have hml2 : m<2000000:=by omega
   have HO:=Ac hown
   have HB:=Ac hb
   clear hm h56 hown hb
   have hX : l++Df l.length=(l++128 :: List.replicate z 0)++be8 l.length:=by rw [HT.out]; simp
   have hXl : (l++128 :: List.replicate z 0).length=m:=by have:=HM.out; simp; omega
   have HX:=Ac hX
   have HXL:=Ac hXl
   clear hX hXl
   generalize l++128 :: List.replicate z 0=X at *
   go_wp2_with fail
   go_loopw [3,5] (fun v t wr=>∃ k mk : Nat,k≤8∧mk=m+k∧t = .int .i64 k∧v = .slice (some ⟨w.heap.size,0,none⟩) mk (l.length+72) ∧
     wr.ownsRow w.heap.size 5 1 (.slice (some ⟨w.heap.size,0,none⟩) mk (l.length+72)) mk (bc (X++(be8 l.length).take k))∧Below w.heap.size w wr)
    (fun _ t _=>8 - (intOf t).toNat)
   case atStart=>exact ⟨0,m,by omega,rfl,rfl,rfl,by simpa using HO.out,HB.out⟩
   case round=>
    clear HO HB
    obtain ⟨k,mk,hk,hmk,rfl,rfl,hown,hb⟩:=hrel
    by_cases hlt : k<8
    ·have hv:=be8_get l.length hl k hlt
     have htk : (be8 l.length).take (k+1)=(be8 l.length).take k ++ [(be8 l.length).getD k 0]:=by
      have hlt' : k<(be8 l.length).length:=by rw [Ic]; exact hlt
      rw [List.take_succ_eq_append_getElem hlt',List.getD_eq_getElem?_getD,List.getElem?_eq_getElem hlt']
      rfl
     have HTK:=Ac htk
     clear htk
     generalize (be8 l.length).getD k 0=c at *
     have hmc : mk+1≤l.length+72:=by omega
     have HMK:=Ac hmk
     clear hmk
     go_wp2_with (at_builtin; refine wpList_append_fits _ rfl (.tmp 31) (.tmp 38) 137 rfl w.heap.size 5 i0 1 Tryz.underlying137 hi hz1 w.heap.size mk (l.length+72) _ rfl (hown.alloc _) ⟨wr.heap.size,0,none⟩ 1 1 (bc [c]) rfl rfl ?c1 (Dn _) hmc ?_)
     case c1=>
      intro j x hj
      match j,hj with
      | 0,hj=>simp [bc] at hj; subst hj; simp [Addr.add_lit]
     intro w4 hown4 hgrow4
     have hb4:=(hb.alloc hb.size (.cells #[.int .u8 (c.toNat : Int)] 5)).grown hgrow4 (by have:=hb.size; simp; omega) (by intro k hk; injection hk with hk; omega)
     rw [← Dm,List.append_assoc,← HTK.out] at hown4
     have HO:=Ac hown4
     have HB:=Ac hb4
     clear hown hgrow4 hown4 hb hb4 hv
     go_wp2
     go_roundw
     case rel=>exact ⟨k+1,mk+1,by omega,by have:=HMK.out; omega,by go_num,rfl,HO.out,HB.out⟩
     case measure=>simp [intOf]; omega
    ·obtain rfl : k=8:=by omega
     rw [List.take_of_length_le (by rw [Ic]; omega),← HX.out] at hown
     have HMK:=Ac hmk
     have HO:=Ac hown
     have hls : w.heap.size<wr.heap.size:=by
      obtain ⟨_,hv⟩:=hown.lt w.heap.size rfl
      exact hv
     clear hmk hown
     go_wp2
     go_ret
     exact ⟨mk,by rw [HX.out,List.length_append,HXL.out,Ic]; exact HMK.out,rfl,HO.out,hb,hls⟩
end Go.Proofs.YtckejblkppllaaaGreatDoor
namespace Go.Proofs.YtckejblkppllaaaGreatDoor
open Go.RowKit
def SW (w : World) (L : List UInt32) (wr : World) : Prop:=Below w.heap.size w wr∧(∃ z,wr.heap[w.heap.size]? = some (.cells z 303)∧z.size=64)∧wr.heap[w.heap.size+1]? = some (.cells (uc (L++List.replicate (64 - L.length) 0)) 303)
theorem sw_start (w : World) : SW w [] ((w.alloc (.cells (uc (List.replicate 64 0)) 303)).alloc (.cells (uc (List.replicate 64 0)) 303)):=by
 refine ⟨((Below.refl _ _).alloc (Nat.le_refl _) _).alloc (by simp) _,⟨uc (List.replicate 64 0),?_,by simp [uc]⟩,?_⟩
 ·rw [heap_past _ _ _ (by simp),heap_last _ _ _ rfl]
 ·rw [heap_last _ _ _ (by simp)]
  rfl
theorem SW.store {w : World} {L : List UInt32} {wr : World} (h : SW w L wr) (hL : L.length<64) (k : Nat) (hk : L.length=k) (x : UInt32) : SW w (L ++ [x]) (wr.setCell ⟨w.heap.size+1,k,none⟩ (.int .u32 (u x))):=by
 subst hk
 obtain ⟨h1,⟨z,h3,h3'⟩,h4⟩:=h
 have hb : Below (w.heap.size+1) wr (wr.setCell ⟨w.heap.size+1,L.length,none⟩ (.int .u32 (u x))):=(Below.refl _ _).setCell (p:=⟨w.heap.size+1,L.length,none⟩) (Nat.le_refl _) _
 refine ⟨h1.setCell (p:=⟨w.heap.size+1,L.length,none⟩) (by simp) _,⟨z,(hb.block _ (by omega)).trans h3,h3'⟩,?_⟩
 rw [heap_setCell _ _ _ _ _ _ _ h4,uc_set L x 64 hL]
theorem SW.drew {w : World} {L : List UInt32} {wr : World} (h : SW w L wr) : SW w L wr.drew:=by
 obtain ⟨h1,h3,h4⟩:=h
 exact ⟨h1.drew,h3,h4⟩
theorem SW.get {w : World} {L : List UInt32} {wr : World} (h : SW w L wr) (k : Nat) (hk : k<L.length) : wr.cell? ⟨w.heap.size+1,k,none⟩=some (.int .u32 (u (L.getD k 0))):=by
 rw [cell_of_row _ _ _ _ _ _ h.2.2,Eo _ _ (by simp; omega)]
 simp [List.getD,List.getElem?_append_left hk]
theorem SW.room {w : World} {L : List UInt32} {wr : World} (h : SW w L wr) (k : Nat) (hk : L.length=k) (hL : k<64) : wr.cell? ⟨w.heap.size+1,k,none⟩=some (.int .u32 (u 0))∧wr.frozen? ⟨w.heap.size+1,k,none⟩=false:=by
 subst hk
 constructor
 ·rw [cell_of_row _ _ _ _ _ _ h.2.2,Eo _ _ (by simp; omega)]
  obtain ⟨m,hm⟩ : ∃ m,64 - L.length=m+1:=⟨64 - L.length - 1,by omega⟩
  simp [List.getD,hm,List.replicate_succ]
 ·simp [World.frozen?,h.2.2]
set_option maxRecDepth 20000 in
set_option maxHeartbeats 1600000 in
theorem words_any (w : World) (b off cap : Nat) (l : List UInt8) (hl : l.length=64) (h : Sl w (.slice (some ⟨b,off,none⟩) 64 cap) l) :
  Calls Tryz.prog 196 #[.slice (some ⟨b,off,none⟩) 64 cap] w fun e w'=>e = .returned (.agg (uc (ext (Aw l) 48)))∧Below w.heap.size w w':=by
 obtain ⟨hbl,hcell⟩ : b<w.heap.size∧∀ j,j<64→w.cell? ⟨b,off+j,none⟩=some (.int .u8 ((l.getD j 0).toNat : Int)):=by
  obtain ⟨ao,cap',hv,h1,h2,h3,h4⟩:=h
  obtain ⟨b',off',ha,hb,hc⟩:=h4 (by rintro rfl; simp at hl)
  injection hv with e1 e2 e3
  rw [← e1] at ha
  injection ha with ha
  injection ha with e4 e5
  subst e4 e5
  refine ⟨hb,fun j hj=>?_⟩
  rw [hc j (by omega),List.getD_eq_getElem?_getD,List.getElem?_eq_getElem (by omega)]
  rfl
 clear h
 go_enter Tryz.func196,Tryz.ntmps196
 go_wp2_with fail
 go_loopw [4] (fun t wr=>∃ k : Nat,k≤16∧t = .int .i64 k∧SW w ((Aw l).take k) wr)
  (fun t _=>16 - (intOf t).toNat)
 case atStart=>
  refine ⟨0,by omega,rfl,?_⟩
  exact sw_start w
 case round=>
  obtain ⟨k,hk,rfl,hR⟩:=hrel
  by_cases hlt : k<16
  ·have c0:=(hR.1.cell (p:=⟨b,off+4 * k,none⟩) hbl).trans (hcell (4 * k) (by omega))
   have c1:=(hR.1.cell (p:=⟨b,off+(4 * k+1),none⟩) hbl).trans (hcell (4 * k+1) (by omega))
   have c2:=(hR.1.cell (p:=⟨b,off+(4 * k+2),none⟩) hbl).trans (hcell (4 * k+2) (by omega))
   have c3:=(hR.1.cell (p:=⟨b,off+(4 * k+3),none⟩) hbl).trans (hcell (4 * k+3) (by omega))
   have hS : (Aw l).take (k+1)=(Aw l).take k ++ [word (l.getD (4 * k) 0) (l.getD (4 * k+1) 0) (l.getD (4 * k+2) 0) (l.getD (4 * k+3) 0)]:=Nz l k hlt
   have hlen : ((Aw l).take k).length=k:=by simp [Aw]; omega
   obtain ⟨hroom,hfr⟩:=hR.room k hlen (by omega)
   generalize l.getD (4 * k) 0=b0 at *
   generalize l.getD (4 * k+1) 0=b1 at *
   generalize l.getD (4 * k+2) 0=b2 at *
   generalize l.getD (4 * k+3) 0=b3 at *
   rw [u_of8] at c0 c1 c2 c3
   have HS:=Ac hS
   have HR:=Ac hR
   have HL:=Ac hlen
   clear hS hR hlen hcell
   go_wp2_with fail
   go_region
   go_wp2_with fail
   refine ⟨⟨k+1,by omega,by go_num,?_⟩,by simp [intOf]; omega⟩
   rw [word_u,HS.out]
   exact (HR.out.store (by rw [HL.out]; omega) k HL.out _).drew
  ·obtain rfl : k=16:=by omega
   rw [List.take_of_length_le (by rw [Gw]; omega)] at hR
   rw [show ((16 : Nat) : Int)=16 from rfl]
   clear hcell
   go_wp2_with fail
   go_loopw [5] (fun t wr=>∃ k : Nat,16≤k∧k≤64∧t = .int .i64 (k : Int)∧SW w (ext (Aw l) (k - 16)) wr)
    (fun t _=>64 - (intOf t).toNat)
   case atStart=>exact ⟨16,by omega,by omega,rfl,hR⟩
   case round=>
    clear hR
    obtain ⟨k,hk0,hk,rfl,hR⟩:=hrel
    have hlen : (ext (Aw l) (k - 16)).length=k:=by rw [Ir,Gw]; omega
    by_cases hlt : k<64
    ·have hS : ext (Aw l) (k+1 - 16)=ext (Aw l) (k - 16) ++ [s1 ((ext (Aw l) (k - 16)).getD (k - 2) 0)+(ext (Aw l) (k - 16)).getD (k - 7) 0+s0 ((ext (Aw l) (k - 16)).getD (k - 15) 0)+(ext (Aw l) (k - 16)).getD (k - 16) 0]:=by
      rw [show k+1 - 16=(k - 16)+1 from by omega]
      show _ ++ [next _]=_
      unfold next
      rw [hlen]
     have c0:=hR.get (k - 2) (by omega)
     have c1:=hR.get (k - 7) (by omega)
     have c2:=hR.get (k - 15) (by omega)
     have c3:=hR.get (k - 16) (by omega)
     obtain ⟨hroom,hfr⟩:=hR.room k hlen (by omega)
     generalize (ext (Aw l) (k - 16)).getD (k - 2) 0=b0 at *
     generalize (ext (Aw l) (k - 16)).getD (k - 7) 0=b1 at *
     generalize (ext (Aw l) (k - 16)).getD (k - 15) 0=b2 at *
     generalize (ext (Aw l) (k - 16)).getD (k - 16) 0=b3 at *
     have HS:=Ac hS
     have HR:=Ac hR
     have HL:=Ac hlen
     clear hS hR hlen
     have hx:=u_xor
     have hp:=Fc
     have hp':=u_add'
     have h3:=u_shr3
     have h10:=u_shr10
     go_wp2_with fail
     refine (rr7 _ b2).mono ?_
     rintro e1 w1 ⟨rfl,rfl⟩
     go_wp2_with fail
     refine (rr18 _ b2).mono ?_
     rintro e1 w1 ⟨rfl,rfl⟩
     go_wp2_with fail
     refine (rr17 _ b0).mono ?_
     rintro e1 w1 ⟨rfl,rfl⟩
     go_wp2_with fail
     refine (rr19 _ b0).mono ?_
     rintro e1 w1 ⟨rfl,rfl⟩
     go_wp2_with fail
     go_region
     go_wp2_with fail
     refine ⟨⟨k+1,by omega,by omega,by go_num,?_⟩,by simp [intOf]; omega⟩
     rw [HS.out]
     exact (HR.out.store (by rw [HL.out]; exact hlt) k HL.out _).drew
    ·obtain rfl : k=64:=by omega
     have hb:=hR.1
     have hrow:=hR.2.2
     rw [hlen] at hrow
     simp only [Nat.sub_self,List.replicate_zero,List.append_nil] at hrow
     obtain ⟨z,hz,hz'⟩:=hR.2.1
     have hsz : (uc (ext (Aw l) 48)).size=64:=by rw [Fq]; exact hlen
     clear hR hlen
     have hi : (Tryz.prog.info? 303).map (·.size)=some (uc (ext (Aw l) 48)).size:=by rw [hsz]; exact Tryz.infoA64
     have HI:=Ac hi
     have HZ:=Ac hz'
     have HS:=Ac hsz
     have hone:=Ac (Ea (ext (Aw l) 48))
     clear hi hz' hsz
     have hrow' : wr.heap[w.heap.size+1]? = some (.cells (uc (ext (Aw l) 48)) 303):=hrow
     clear hrow
     generalize hC : uc (ext (Aw l) 48)=C at *
     have HC:=Ac hC
     clear hC
     go_wp2_with (first | (refine wpList_load_row rfl 303 (.tmp 3) rfl _ rfl 303 C (0,0) _ hrow' Tryz.underlying303 rfl HI.out ?_) | (refine Fe _ rfl 303 (.tmp 2) (.tmp 92) rfl _ C rfl rfl 303 z hz HI.out (by rw [HZ.out,HS.out]) hone.out ?_; intro w2 hrow2 hg2))
     have hb2:=hb.grown hg2 hb.size (by intro k hk; injection hk with hk; omega)
     refine bodyPost_ret (v:=.agg C) (results_cell_row rfl _ _ _ _ _ _ _ rfl hrow2 Tryz.underlying303 rfl HI.out) rfl ⟨I0 HC.out.symm,hb2⟩
end Go.Proofs.YtckejblkppllaaaGreatDoor
namespace Go.Proofs.YtckejblkppllaaaGreatDoor
open Go.RowKit
def kB : Array (Nat × Operand):=((List.range 64).map fun i=>(i,Operand.const (.int .u32 (u (kL.getD i 0))))).toArray
theorem build43 (a : Act) (w : World) (d : Option Tmp) (ty : TypeId) (p : String) (af : Array Edge) (g : Option (Nat × Bool)) :
  (execOp a.eval { dst:=d,op:=.build 303 kB,type:=ty,pos:=p,after:=af,guard:=g }).run Tryz.prog w = .ok (.value (.agg (uc kL))) w:=by
 kernel_rfl
theorem Pk (w : World) {ops : Array Oper} {rest : List Oper} {d : Option Tmp} {x : Array (Nat × Operand)} {ty : TypeId} {p : String} {af : Array Edge} {a : Act} {Q : Exit→Act→World→Prop} (hx : x=kB)
  (h : wpList Tryz.prog ops Q rest (a.put d (.agg (uc kL))) w) : wpList Tryz.prog ops Q ({ dst:=d,op:=.build 303 x,type:=ty,pos:=p,after:=af,guard:=none } :: rest) a w:=by
 subst hx
 exact wpList_plain rfl fun K hK=>by
  unfold Oper.wp
  rw [build43]
  exact hK _ _ h
set_option maxRecDepth 20000 in
theorem consts_any (w : World) : Calls Tryz.prog 194 #[] w fun e w'=>e = .returned (.agg (uc kL))∧Below w.heap.size w w':=by
 have hi : (Tryz.prog.info? 303).map (·.size)=some (uc kL).size:=Tryz.infoA64
 have hz : (uc (List.replicate 64 0)).size=(uc kL).size:=by rw [Fq,Fq]; rfl
 have ho:=Ac (Ea kL)
 have hz0:=z64
 have HI:=Ac hi
 have HZ:=Ac hz
 clear hi hz
 go_enter Tryz.func194,Tryz.ntmps194
 go_wp2_with (first | (refine Pk _ (by kernel_rfl) ?_) | (refine Fe _ rfl 303 (.tmp 0) (.tmp 1) rfl _ (uc kL) rfl rfl 303 (uc (List.replicate 64 0)) (heap_last _ _ _ rfl) HI.out HZ.out ho.out ?_; intro w2 hrow2 hg2))
 have hb2:=((Below.refl w.heap.size w).alloc (Nat.le_refl _) _).grown hg2 (by simp) (by intro k hk; injection hk with hk; omega)
 exact bodyPost_ret (v:=.agg (uc kL)) (results_cell_row rfl _ _ _ _ _ _ _ rfl hrow2 Tryz.underlying303 rfl HI.out) rfl ⟨rfl,hb2⟩
end Go.Proofs.YtckejblkppllaaaGreatDoor
