/-
  Texts joined: YShown, PSameO, YSame16, YFinds, BDoor.
-/
import Derived.Test.YtckejblkppllaaaGreatDoorT46Iter
import Derived.Test.YtckejblkppllaaaGreatDoorT42YFind
import Derived.Test.YtckejblkppllaaaGreatDoorT17PRow
import Derived.Laws.StructEq
import Derived.Test.YtckejblkppllaaaGreatDoorT44ARefName
import Derived.Test.YtckejblkppllaaaGreatDoorT13ORLeaf
import Derived.Test.YtckejblkppllaaaGreatDoorT33QOEntry3
import Derived.Test.YtckejblkppllaaaGreatDoorT41ODoor
namespace Go.Proofs.YtckejblkppllaaaGreatDoor
open Go.RowKit
theorem Tryz.infoObjY : (Tryz.prog.info? 38).map (·.size)=some 2:=by kernel_rfl
theorem Tryz.infoEditY : (Tryz.prog.info? 64).map (·.size)=some 4:=by kernel_rfl
theorem ls_nilY (B : Nat) (w : World) : Ls B w 2 Ak (.slice none 0 0) []:=⟨none,0,rfl,Nat.le_refl _,by simp,fun h=>absurd rfl h⟩
set_option maxRecDepth 20000 in
set_option maxHeartbeats 800000 in
theorem empty_any (w : World) (hT : Bh w) :
  Calls Tryz.prog 14 #[] w fun e w'=>e = .returned (.agg #[.string (Ab (Ay []).1), .string (Ab (Ay []).2)])∧Below w.heap.size w w':=by
 have hb0 : Below w.heap.size w (w.alloc (.cells #[.string ⟨#[]⟩, .string ⟨#[]⟩] 38)):=(Below.refl _ _).alloc (Nat.le_refl _) _
 have hx0:=heap_last w (.cells #[.string ⟨#[]⟩, .string ⟨#[]⟩] 38) _ rfl
 have hbd:=build_any (w.alloc (.cells #[.string ⟨#[]⟩, .string ⟨#[]⟩] 38)) [] (.slice none 0 0) (ls_nilY _ _) (hT.keep hb0 hT.1)
 rw [build_nil] at hbd
 simp only at hbd
 generalize Ay []=o at *
 generalize hw0 : w.alloc (.cells #[.string ⟨#[]⟩, .string ⟨#[]⟩] 38)=w0 at *
 go_enter Tryz.func14,Tryz.ntmps14
 go_wp2_with fail
 try rw [hw0]
 refine hbd.mono ?_
 rintro e w1 ⟨u,rfl,hrow,hb1⟩
 obtain ⟨oa,oc,hov,-,-,hc⟩:=Bi Dr hrow
 obtain ⟨b,off,rfl,-,hc⟩:=hc (by simp)
 simp only [List.length_singleton] at hov
 subst hov
 have e0:=hc 0 (by simp) 0 _ rfl
 have e1:=hc 0 (by simp) 1 _ rfl
 simp only [List.getElem_cons_zero,Nat.zero_mul,Nat.add_zero] at e0 e1
 have x1:=(hb1.block _ (Ad hx0)).trans hx0
 have n0:=rc (i:=0) x1 rfl
 have n1:=rc (i:=1) x1 rfl
 have f0:=Af (j:=0) x1
 have f1:=Af (j:=1) x1
 have HH:=Ac (And.intro (Cm (u0:=.string (Ab o.1)) (u1:=.string (Ab o.2)) x1) (((hb0.trans (hb1.mono hb0.size)).setCell (p:=⟨w.heap.size,0,none⟩) (Nat.le_refl _) (.string (Ab o.1))).setCell (p:=⟨w.heap.size,1,none⟩) (Nat.le_refl _) (.string (Ab o.2))))
 clear hbd hrow hb1 hc x1 hx0 hb0
 go_wp2
 exact bodyPost_ret (results_cell_row rfl _ _ _ _ _ _ _ rfl HH.out.1 Tryz.underlying38 rfl Tryz.infoObjY) rfl ⟨rfl,HH.out.2⟩
set_option maxRecDepth 20000 in
set_option maxHeartbeats 800000 in
theorem id_any (w : World) (c : UInt8) :
  Calls Tryz.prog 52 #[.int .u8 ((c.toNat : Int))] w fun e w'=>e = .returned (.string (Ab (xB c)))∧Below w.heap.size w w':=by
 obtain ⟨i0,hi,hz0,hz1,hz2⟩:=info_parts Tryz.infoB
 obtain ⟨Z,hZs,hmk⟩ : ∃ Z : Array Value,Z.size=32∧(Instr.makeSlice 137 (.int .i64 32) (.int .i64 32)).run Tryz.prog w = .ok (.slice (some ⟨w.heap.size,0,none⟩) 32 32) (w.alloc (.cells Z 5)):=by
  have:=run_make (P:=Tryz.prog) w 137 5 i0 (.int .u8 0) Tryz.underlying137 hi hz0 .i64 .i64 32 32 (by omega) (by omega) (by rw [hz2]; omega) (by omega)
  exact ⟨_,by rw [size_madeCells,hz1]; rfl,this⟩
 have hb0 : Below w.heap.size w (w.alloc (.cells Z 5)):=(Below.refl _ _).alloc (Nat.le_refl _) _
 have hx0:=heap_last w (.cells Z 5) _ rfl
 have H0:=Ac (And.intro hb0 (And.intro hx0 hZs))
 clear hb0 hx0 hZs
 go_enter Tryz.func52,Tryz.ntmps52
 go_wp2_with fail
 go_loopw [4] (fun t wr=>∃ (k : Nat) (cs : Array Value),k≤32∧t = .int .i64 k∧wr.heap[w.heap.size]? = some (.cells cs 5)∧cs.size=32∧(∀ j,j<k→cs[j]? = some (.int .u8 (c.toNat : Int)))∧Below w.heap.size w wr)
  (fun t _=>32 - (intOf t).toNat)
 case atStart=>exact ⟨0,Z,by omega,rfl,H0.out.2.1,H0.out.2.2,fun j hj=>by omega,H0.out.1⟩
 case round=>
  obtain ⟨k,cs,hk,rfl,hh,hs,hcs,hb⟩:=hrel
  by_cases hlt : k<32
  ·have hlt2 : (k : Int)<32:=by omega
   have hv : ∃ v,cs[k]? = some v:=⟨cs[k]'(by omega),Array.getElem?_eq_getElem (by omega)⟩
   obtain ⟨v,hv⟩:=hv
   have n0:=rc (i:=k) hh hv
   have f0:=Af (j:=k) hh
   have hn:=Mp.heap_set hh k (.int .u8 (c.toNat : Int))
   have HF:=Ac (And.intro hn (And.intro (show (cs.setIfInBounds k (.int .u8 (c.toNat : Int))).size=32 by simp [hs]) (And.intro (show ∀ j,j<k+1→(cs.setIfInBounds k (Value.int .u8 (c.toNat : Int)))[j]? = some (.int .u8 (c.toNat : Int)) from fun j hj=>by
    rw [Array.getElem?_setIfInBounds]
    by_cases e : k=j
    ·rw [if_pos e,if_pos (by omega)]
    ·rw [if_neg e]
     exact hcs j (by omega)) (hb.setCell (p:=⟨w.heap.size,k,none⟩) (Nat.le_refl _) (.int .u8 (c.toNat : Int))))))
   clear hh hs hcs hb hn hv
   go_wp2_with fail
   go_roundw
   case rel=>exact ⟨k+1,_,by omega,by go_num,HF.out.1,HF.out.2.1,HF.out.2.2.1,HF.out.2.2.2⟩
   case measure=>simp [intOf]; omega
  ·have hk32 : k=32:=by omega
   have hsl : Sl wr (.slice (some ⟨w.heap.size,0,none⟩) 32 32) (xB c):=by
    refine ⟨_,32,rfl,Nat.le_refl _,by unfold maxLen; omega,fun h=>(by cases h),fun _=>⟨w.heap.size,0,rfl,Ad hh,fun j hj=>?_⟩⟩
    have hj32 : j<32:=hj
    have e : (xB c)[j]'hj=c:=by unfold xB; exact List.getElem_replicate ..
    have hc : wr.cell? ⟨w.heap.size,0+j,none⟩=some (.int .u8 (c.toNat : Int)):=by
     rw [Nat.zero_add]
     exact rc hh (hcs j (by omega))
    exact hc.trans (congrArg (fun u : UInt8=>some (Value.int .u8 (u.toNat : Int))) e.symm)
   have hlt2 : decide ((k : Int)<32)=false:=decide_eq_false (by omega)
   have HB:=Ac hb
   clear hh hs hcs hb
   go_wp2_with (refine Hl _ rfl (.tmp 16) rfl hsl rfl ?_)
   go_ret
   exact ⟨rfl,HB.out⟩
set_option maxRecDepth 20000 in
set_option maxHeartbeats 800000 in
theorem file_any (w : World) (p : Bs) (c : UInt8) :
  Calls Tryz.prog 27 #[.string (Ab p), .int .u8 ((c.toNat : Int))] w fun e w'=>e = .returned (edAg (p,xB c,5,false))∧Below w.heap.size w w':=by
 have hb0 : Below w.heap.size w (w.alloc (.cells #[.string ⟨#[]⟩, .string ⟨#[]⟩, .int .i64 0, .bool false] 64)):=(Below.refl _ _).alloc (Nat.le_refl _) _
 have hx0:=heap_last w (.cells #[.string ⟨#[]⟩, .string ⟨#[]⟩, .int .i64 0, .bool false] 64) _ rfl
 have hid:=id_any (w.alloc (.cells #[.string ⟨#[]⟩, .string ⟨#[]⟩, .int .i64 0, .bool false] 64)) c
 generalize hw0 : w.alloc (.cells #[.string ⟨#[]⟩, .string ⟨#[]⟩, .int .i64 0, .bool false] 64)=w0 at *
 go_enter Tryz.func27,Tryz.ntmps27
 go_wp2_with fail
 try rw [hw0]
 refine hid.mono ?_
 rintro e w1 ⟨rfl,hb1⟩
 have x1:=(hb1.block _ (Ad hx0)).trans hx0
 have n0:=rc (i:=0) x1 rfl
 have n1:=rc (i:=1) x1 rfl
 have n2:=rc (i:=2) x1 rfl
 have n3:=rc (i:=3) x1 rfl
 have f0:=Af (j:=0) x1
 have f1:=Af (j:=1) x1
 have f2:=Af (j:=2) x1
 have f3:=Af (j:=3) x1
 have HH:=Ac (And.intro (Et (u0:=.string (Ab p)) (u1:=.string (Ab (xB c))) (u2:=.int .i64 5) (u3:=.bool false) x1) (((((hb0.trans (hb1.mono hb0.size)).setCell (p:=⟨w.heap.size,0,none⟩) (Nat.le_refl _) (.string (Ab p))).setCell (p:=⟨w.heap.size,1,none⟩) (Nat.le_refl _) (.string (Ab (xB c)))).setCell (p:=⟨w.heap.size,2,none⟩) (Nat.le_refl _) (.int .i64 5)).setCell (p:=⟨w.heap.size,3,none⟩) (Nat.le_refl _) (.bool false)))
 clear hid hb1 x1 hx0 hb0
 go_wp2
 exact bodyPost_ret (results_cell_row rfl _ _ _ _ _ _ _ rfl HH.out.1 Tryz.underlying64 rfl Tryz.infoEditY) rfl ⟨rfl,HH.out.2⟩
set_option maxRecDepth 40000 in
set_option maxHeartbeats 3200000 in
theorem tshown_any (w : World) (hT : Bh w) : Calls Tryz.prog 7 #[] w fun e w'=>e = .returned (.bool true)∧Below w.heap.size w w':=by
 have hem:=empty_any w hT
 have hed:=shown_edit
 have hse:=shown_seek
 obtain ⟨o,ho⟩ : ∃ o,o=Ay []:=⟨_,rfl⟩
 have hol : o.1.length≤140737488355328:=by rw [ho]; decide
 have hos : ∀ q ∈ [o],q.2.length≤140737488351232:=by rw [ho]; decide
 obtain ⟨L,hL⟩ : ∃ L,L = [oB,oA,oR]:=⟨_,rfl⟩
 obtain ⟨r,hr⟩ : ∃ r,r=oR.1:=⟨_,rfl⟩
 obtain ⟨d,hd⟩ : ∃ d,d=oB.1:=⟨_,rfl⟩
 have hrl : r.length≤140737488355328:=by rw [hr]; decide +kernel
 have hLs : ∀ q∈L,q.2.length≤140737488351232:=by rw [hL]; decide +kernel
 have hLn : L.length=3:=by rw [hL]; rfl
 rw [← ho,← hL,← hr] at hed
 rw [← hL,← hr,← hd] at hse
 rw [← ho] at hem
 have HK:=Ac (And.intro hed (And.intro hse (And.intro hol (And.intro hos (And.intro hrl hLs)))))
 clear hed hse hol hos ho hL hr hd hrl hLs
 go_enter Tryz.func7,Tryz.ntmps7
 go_wp2_with fail
 refine hem.mono ?_
 rintro e w1 ⟨rfl,hb1⟩
 have hba:=hb1.alloc hb1.size (.cells #[.string ⟨#[]⟩, .string ⟨#[]⟩] 38)
 have hxa:=heap_last w1 (.cells #[.string ⟨#[]⟩, .string ⟨#[]⟩] 38) _ rfl
 generalize hwa : w1.alloc (.cells #[.string ⟨#[]⟩, .string ⟨#[]⟩] 38)=wa at *
 have n0:=rc (i:=0) hxa rfl
 have n1:=rc (i:=1) hxa rfl
 have f0:=Af (j:=0) hxa
 have f1:=Af (j:=1) hxa
 go_wp2_with fail
 try rw [hwa]
 have hb2:=(hba.setCell (p:=⟨w1.heap.size,0,none⟩) hb1.size (.string (Ab o.1))).setCell (p:=⟨w1.heap.size,1,none⟩) hb1.size (.string (Ab o.2))
 have hx2:=Cm (u0:=.string (Ab o.1)) (u1:=.string (Ab o.2)) hxa
 generalize (wa.setCell ⟨w1.heap.size,0,none⟩ (.string (Ab o.1))).setCell ⟨w1.heap.size,1,none⟩ (.string (Ab o.2))=w2 at *
 generalize w1.heap.size=g at *
 clear hwa hba hxa n0 n1 f0 f1 hem hb1
 have c0:=rc (i:=0) hx2 rfl
 have c1:=rc (i:=1) hx2 rfl
 have hb3 : Below w2.heap.size w2 (w2.alloc (.cells #[.string (Ab o.1), .string (Ab o.2)] 38)).drew:=((Below.refl w2.heap.size w2).alloc (Nat.le_refl _) _).drew
 have hx3 : (w2.alloc (.cells #[.string (Ab o.1), .string (Ab o.2)] 38)).drew.heap[w2.heap.size]? = some (.cells #[.string (Ab o.1), .string (Ab o.2)] 38):=heap_last w2 _ _ rfl
 have hls3 : Ls (w2.heap.size+1) (w2.alloc (.cells #[.string (Ab o.1), .string (Ab o.2)] 38)).drew 2 Ak (.slice (some ⟨w2.heap.size,0,none⟩) 1 1) [o]:=by
  refine ⟨_,1,rfl,Nat.le_refl _,by unfold maxLen; omega,fun _=>⟨w2.heap.size,0,rfl,by omega,fun j hj i u hu=>?_⟩⟩
  have hj0 : j=0:=by simp at hj; omega
  subst hj0
  rw [cell_of_row _ _ _ _ _ _ hx3]
  match i with
  | 0=>exact hu
  | 1=>exact hu
  | _+2=>simp [Ak] at hu
 refine wp_region_held_drew (S:=fun W=>W.cell? ⟨g,0,none⟩=some (.string (Ab o.1))∧W.cell? ⟨g,1,none⟩=some (.string (Ab o.2))) (by kernel_rfl) (⟨c0,c1⟩) (fun hHeld=>?_)
 refine Aa 3 hHeld ?_
 refine Aa 4 hHeld ?_
 refine Aa 0 hHeld ?_
 refine Ai (i:=1) rfl (by kernel_rfl) rfl (fun K hK=>?_)
 go_simp
 generalize (w2.alloc (.cells #[.string (Ab o.1), .string (Ab o.2)] 38)).drew=w3 at *
 have x23:=(hb3.block _ (Ad hx2)).trans hx2
 have hsz3:=Ad hx3
 refine hK.out _ _ (⟨rc (i:=0) x23 rfl,rc (i:=1) x23 rfl⟩) (fun hHeld=>?_)
 clear hK K
 try simp only [Act.put,List.setIfInBounds_toArray,List.set_cons_zero,List.set_cons_succ]
 refine Ai (i:=2) rfl (by kernel_rfl) rfl (fun K hK=>?_)
 go_simp
 refine (Le w3 _ 1 1).mono ?_
 rintro e w4 ⟨rfl,hw4⟩
 have hb4 : Below w3.heap.size w3 w4:=by
  rw [hw4]
  exact (Below.refl _ _).alloc (Nat.le_refl _) _
 have hx4 : w4.heap[w3.heap.size]? = some (.cells #[.slice (some ⟨w2.heap.size,0,none⟩) 1 1] 22):=by
  rw [hw4]
  exact heap_last w3 _ _ rfl
 clear hw4
 have x24:=(hb4.block _ (Ad x23)).trans x23
 refine hK.out _ _ (⟨rc (i:=0) x24 rfl,rc (i:=1) x24 rfl⟩) (fun hHeld=>?_)
 clear hK K
 try simp only [Act.put,List.setIfInBounds_toArray,List.set_cons_zero,List.set_cons_succ]
 refine Ai (i:=5) rfl (by kernel_rfl) rfl (fun K hK=>?_)
 go_simp
 refine (show Calls Tryz.prog 27 #[.string ⟨#[97,47,98,47,99]⟩, .int .u8 120] w4 fun e w'=>e = .returned (edAg ed1)∧Below w4.heap.size w4 w' from file_any w4 [97,47,98,47,99] 120).mono ?_
 rintro e w5 ⟨rfl,hb5⟩
 have x25:=(hb5.block _ (Ad x24)).trans x24
 refine hK.out _ _ (⟨rc (i:=0) x25 rfl,rc (i:=1) x25 rfl⟩) (fun hHeld=>?_)
 clear hK K
 try simp only [Act.put,List.setIfInBounds_toArray,List.set_cons_zero,List.set_cons_succ]
 refine Ai (i:=6) rfl (by kernel_rfl) rfl (fun K hK=>?_)
 go_simp
 refine (show Calls Tryz.prog 27 #[.string ⟨#[97,47,100]⟩, .int .u8 121] w5 fun e w'=>e = .returned (edAg ed2)∧Below w5.heap.size w5 w' from file_any w5 [97,47,100] 121).mono ?_
 rintro e w6 ⟨rfl,hb6⟩
 have x26:=(hb6.block _ (Ad x25)).trans x25
 refine hK.out _ _ (⟨rc (i:=0) x26 rfl,rc (i:=1) x26 rfl⟩) (fun hHeld=>?_)
 clear hK K
 try simp only [Act.put,List.setIfInBounds_toArray,List.set_cons_zero,List.set_cons_succ]
 refine Ai (i:=7) rfl (by kernel_rfl) rfl (fun K hK=>?_)
 go_simp
 obtain ⟨O7,hO7⟩ : ∃ O,O=Obj.cells #[.string (Ab ed1.1), .string (Ab ed1.2.1), .int .i64 ed1.2.2.1, .bool ed1.2.2.2, .string (Ab ed2.1), .string (Ab ed2.2.1), .int .i64 ed2.2.2.1, .bool ed2.2.2.2] 64:=⟨_,rfl⟩
 rw [← hO7]
 have hb7 : Below w6.heap.size w6 (w6.alloc O7):=(Below.refl _ _).alloc (Nat.le_refl _) _
 have hx7:=heap_last w6 O7 _ rfl
 have hs7 : (w6.alloc O7).heap.size=w6.heap.size+1:=by simp
 generalize w6.alloc O7=w7 at *
 have hls7 : Ls w7.heap.size w7 4 edC (.slice (some ⟨w6.heap.size,0,none⟩) 2 2) [ed1,ed2]:=by
  refine ⟨_,2,rfl,Nat.le_refl _,by unfold maxLen; omega,fun _=>⟨w6.heap.size,0,rfl,by omega,fun j hj i u hu=>?_⟩⟩
  rw [hO7] at hx7
  rw [cell_of_row _ _ _ _ _ _ hx7]
  match j,hj with
  | 0,_=>
   match i with
   | 0=>exact hu
   | 1=>exact hu
   | 2=>exact hu
   | 3=>exact hu
   | _+4=>simp [edC] at hu
  | 1,_=>
   match i with
   | 0=>exact hu
   | 1=>exact hu
   | 2=>exact hu
   | 3=>exact hu
   | _+4=>simp [edC] at hu
 have s3:=hb4.size
 have s4:=hb5.size
 have s5:=hb6.size
 have hl4:=Ad hx4
 have hls34 : Ls (w2.heap.size+1) w4 2 Ak (.slice (some ⟨w2.heap.size,0,none⟩) 1 1) [o]:=hls3.keep (hb4.mono hsz3)
 have hls35:=hls34.keep (hb5.mono (by omega))
 have hls36:=hls35.keep (hb6.mono (by omega))
 have hls37:=hls36.keep (hb7.mono (by omega))
 have x47 : w7.heap[w3.heap.size]? = some (.cells #[.slice (some ⟨w2.heap.size,0,none⟩) 1 1] 22):=
  (hb7.block _ (by omega)).trans ((hb6.block _ (by omega)).trans ((hb5.block _ hl4).trans hx4))
 have hG7 : Gf w7.heap.size w7 w3.heap.size (.slice (some ⟨w2.heap.size,0,none⟩) 1 1) [o]:=⟨by omega,x47,hls37.up (by omega),HK.out.2.2.2.1⟩
 have hB7 : Below w.heap.size w w7:=((((hb2.trans (hb3.mono hb2.size)).trans (hb4.mono (Nat.le_trans hb2.size hb3.size))).trans (hb5.mono (Nat.le_trans hb2.size (Nat.le_trans hb3.size s3)))).trans (hb6.mono (Nat.le_trans hb2.size (Nat.le_trans hb3.size (Nat.le_trans s3 s4))))).trans (hb7.mono (Nat.le_trans hb2.size (Nat.le_trans hb3.size (Nat.le_trans s3 (Nat.le_trans s4 s5)))))
 have hed7:=edit_any w7 w7.heap.size w3.heap.size _ _ hG7 (Nat.le_refl _) o.1 HK.out.2.2.1 [ed1,ed2] _ hls7 (by decide) (by decide) (hT.keep hB7 hT.1)
 rw [HK.out.1] at hed7
 have x27:=(hb7.block _ (Ad x26)).trans x26
 have H7:=Ac hB7
 clear hls3 hls34 hls35 hls36 hls37 hls7 hx7 hO7 hb2 hb3 hb4 hb5 hb6 hb7 hG7 hB7 x47 hx4 hl4 s3 s4 s5 hs7 hsz3 hx2 hx3 x23 x24 x25 x26 c0 c1
 refine hK.out _ _ (⟨rc (i:=0) x27 rfl,rc (i:=1) x27 rfl⟩) (fun hHeld=>?_)
 clear hK K
 try simp only [Act.put,List.setIfInBounds_toArray,List.set_cons_zero,List.set_cons_succ]
 refine Ai (i:=8) rfl (by kernel_rfl) rfl (fun K hK=>?_)
 go_simp
 refine hed7.mono ?_
 rintro e w8 ⟨vo,rfl,hrow,hb8⟩
 have x28:=(hb8.block _ (Ad x27)).trans x27
 refine hK.out _ _ (⟨rc (i:=0) x28 rfl,rc (i:=1) x28 rfl⟩) (fun hHeld=>?_)
 clear hK K
 refine Aa 9 hHeld ?_
 refine Aa 10 hHeld ?_
 refine Aa 11 hHeld ?_
 refine Aa 12 hHeld ?_
 refine Aa 13 hHeld ?_
 refine Aa 14 hHeld ?_
 refine Aa 15 hHeld ?_
 refine wpAnyH_done (by kernel_rfl) ?_ _
 have H8:=Ac (H7.out.trans (hb8.mono H7.out.size))
 obtain ⟨va,vc,hvo,-⟩:=Bj hrow
 rw [hLn] at hvo
 have hrow':=hrow
 subst hvo
 have hfr:=Le w8 va 3 vc
 have hb9 : Below w8.heap.size w8 (w8.alloc (.cells #[.slice va 3 vc] 22)):=(Below.refl _ _).alloc (Nat.le_refl _) _
 have hx9:=heap_last w8 (.cells #[.slice va 3 vc] 22) _ rfl
 have hr9:=A0 hrow hb9
 have hl9:=Bi (cs:=Ak) (xs:=L) Dr hr9
 have hG9 : Gf (w8.alloc (.cells #[.slice va 3 vc] 22)).heap.size (w8.alloc (.cells #[.slice va 3 vc] 22)) w8.heap.size (.slice va 3 vc) L:=⟨by simp,hx9,hl9,HK.out.2.2.2.2.2⟩
 have hfi:=M8 _ _ _ _ _ hG9 (Nat.le_refl _) r [97,47,98] HK.out.2.2.2.2.1 (by decide)
 rw [HK.out.2.1] at hfi
 have e98 : Ab [97,47,98]=⟨#[97,47,98]⟩:=rfl
 rw [e98] at hfi
 have H9:=Ac (H8.out.trans (hb9.mono H8.out.size))
 clear hrow hrow' hb8 hed7 x28 x27 hb9 hx9 hr9 hl9 hG9
 go_wp2_with fail
 refine hfr.mono ?_
 rintro e w9 ⟨rfl,rfl⟩
 go_wp2_with fail
 refine hfi.mono ?_
 rintro e w10 ⟨rfl,hb10⟩
 have H10:=Ac (H9.out.trans (hb10.mono H9.out.size))
 clear hfr hfi hb10
 have eb : Ab [98]=⟨#[98]⟩:=rfl
 have htl : (⟨#[98]⟩ : ByteArray).toList = [98]:=toL [98]
 have hba:=(H10.out.alloc H10.out.size (.cells #[.string ⟨#[]⟩, .int .i64 0, .string ⟨#[]⟩, .int .i64 0] 27))
 have hxa:=heap_last w10 (.cells #[.string ⟨#[]⟩, .int .i64 0, .string ⟨#[]⟩, .int .i64 0] 27) _ rfl
 generalize hwa : w10.alloc (.cells #[.string ⟨#[]⟩, .int .i64 0, .string ⟨#[]⟩, .int .i64 0] 27)=wa at *
 have n0:=rc (i:=0) hxa rfl
 have n1:=rc (i:=1) hxa rfl
 have n2:=rc (i:=2) hxa rfl
 have n3:=rc (i:=3) hxa rfl
 have f0:=Af (j:=0) hxa
 have f1:=Af (j:=1) hxa
 have f2:=Af (j:=2) hxa
 have f3:=Af (j:=3) hxa
 have HB:=Ac (((((hba.setCell (p:=⟨w10.heap.size,0,none⟩) H10.out.size (.string (Ab [98]))).setCell (p:=⟨w10.heap.size,1,none⟩) H10.out.size (.int .i64 2)).setCell (p:=⟨w10.heap.size,2,none⟩) H10.out.size (.string (Ab d))).setCell (p:=⟨w10.heap.size,3,none⟩) H10.out.size (.int .i64 1)))
 go_wp2_with fail
 try rw [hwa]
 go_wp2
 go_ret
 exact ⟨rfl,HB.out⟩
end Go.Proofs.YtckejblkppllaaaGreatDoor
namespace Go.Proofs.YtckejblkppllaaaGreatDoor
open Go.RowKit
end Go.Proofs.YtckejblkppllaaaGreatDoor
namespace Go.Proofs.YtckejblkppllaaaGreatDoor
open Go.RowKit
theorem neq_Ent (W : World) (x : Ent) : (binOp .neq 27 (E0 x) (E0 x)).run Tryz.prog W = .ok (.bool false) W:=by
 obtain ⟨h1,h2,h3⟩:=Tryz.eqEnt
 rw [run_neq_struct,run_equalIn_agg _ _ _ _ _ h1 h2]
 simp only [Program.fieldsOf,Tryz.underlying27]
 simp [Op.eqFields,go_sem,Tryz.underlying9,Tryz.underlying2,Tryz.underlying3,toL]
theorem Tryz.eqObjY : Tryz.prog.underlying 38=some (.struct (Tryz.prog.fieldsOf 38))∧Tryz.prog.stoodInHeld 38=false:=⟨by kernel_rfl,by kernel_rfl⟩
theorem eql_ObjY (W : World) (a b : Bs) : (binOp .eql 38 (.agg #[.string (Ab a), .string (Ab b)]) (.agg #[.string (Ab a), .string (Ab b)])).run Tryz.prog W = .ok (.bool true) W:=by
 obtain ⟨h1,h2⟩:=Tryz.eqObjY
 rw [run_eql_struct,run_equalIn_agg _ _ _ _ _ h1 h2]
 simp only [Program.fieldsOf,Tryz.underlying38]
 simp [Op.eqFields,go_sem,Tryz.underlying9,toL]
set_option maxRecDepth 20000 in
set_option maxHeartbeats 800000 in
theorem same_ents (w : World) (xs : List Ent) (vx vy : Value) (hvx : Ls w.heap.size w 4 Dk vx xs) (hvy : Ls w.heap.size w 4 Dk vy xs) :
  Calls Tryz.prog 13 #[vx,vy] w fun e w'=>e = .returned (.bool true)∧Below w.heap.size w w':=by
 obtain ⟨ax,capx,rfl,gx1,gx2,hx⟩:=hvx
 obtain ⟨ay,capy,rfl,gy1,gy2,hy⟩:=hvy
 unfold maxLen at gx2 gy2
 go_enter Tryz.func13,Tryz.ntmps13
 go_wp2_with fail
 go_loopw [5] (fun t wr=>∃ k : Nat,k≤xs.length∧t = .int .i64 k∧Below w.heap.size w wr)
  (fun t _=>xs.length - (intOf t).toNat)
 case atStart=>exact ⟨0,by omega,rfl,Below.refl _ _⟩
 case round=>
  obtain ⟨k,hk,rfl,hbr⟩:=hrel
  by_cases hlt : k<xs.length
  ·obtain ⟨bx,offx,rfl,hbX,hcx⟩:=hx (by intro e; rw [e] at hlt; simp at hlt)
   obtain ⟨bY,offy,rfl,hbYl,hcy⟩:=hy (by intro e; rw [e] at hlt; simp at hlt)
   have c0:=(hbr.cell (p:=⟨bx,offx+k * 4+0,none⟩) hbX).trans (hcx k hlt 0 _ rfl)
   have d0:=(hbr.cell (p:=⟨bY,offy+k * 4+0,none⟩) hbYl).trans (hcy k hlt 0 _ rfl)
   have c1:=(hbr.cell (p:=⟨bx,offx+k * 4+1,none⟩) hbX).trans (hcx k hlt 1 _ rfl)
   have d1:=(hbr.cell (p:=⟨bY,offy+k * 4+1,none⟩) hbYl).trans (hcy k hlt 1 _ rfl)
   have c2:=(hbr.cell (p:=⟨bx,offx+k * 4+2,none⟩) hbX).trans (hcx k hlt 2 _ rfl)
   have d2:=(hbr.cell (p:=⟨bY,offy+k * 4+2,none⟩) hbYl).trans (hcy k hlt 2 _ rfl)
   have c3:=(hbr.cell (p:=⟨bx,offx+k * 4+3,none⟩) hbX).trans (hcx k hlt 3 _ rfl)
   have d3:=(hbr.cell (p:=⟨bY,offy+k * 4+3,none⟩) hbYl).trans (hcy k hlt 3 _ rfl)
   generalize xs[k]=x at *
   try simp only [Nat.add_zero] at c0 d0
   have hnq : ∀ W,_:=fun W=>neq_Ent W x
   have HB:=Ac hbr
   clear hcx hcy hx hy
   go_wp2_with fail
   refine wp_region_held_drew (S:=fun W=>W.cell? ⟨bx,offx+k * 4,none⟩=some (.string (Ab x.1))∧W.cell? ⟨bx,offx+k * 4+1,none⟩=some (.int .i64 x.2.1)∧W.cell? ⟨bx,offx+k * 4+2,none⟩=some (.string (Ab x.2.2.1))∧W.cell? ⟨bx,offx+k * 4+3,none⟩=some (.int .i64 x.2.2.2)∧W.cell? ⟨bY,offy+k * 4,none⟩=some (.string (Ab x.1))∧W.cell? ⟨bY,offy+k * 4+1,none⟩=some (.int .i64 x.2.1)∧W.cell? ⟨bY,offy+k * 4+2,none⟩=some (.string (Ab x.2.2.1))∧W.cell? ⟨bY,offy+k * 4+3,none⟩=some (.int .i64 x.2.2.2)) (by kernel_rfl) (⟨c0,c1,c2,c3,d0,d1,d2,d3⟩) (fun hHeld=>?_)
   refine Aa 0 hHeld ?_
   refine Aa 1 hHeld ?_
   refine Aa 2 hHeld ?_
   refine Aa 3 hHeld ?_
   refine Aa 4 hHeld ?_
   refine Aa 5 hHeld ?_
   refine Aa 6 hHeld ?_
   refine Aa 7 hHeld ?_
   refine Aa 8 hHeld ?_
   refine wpAnyH_done (by kernel_rfl) ?_ _
   clear hHeld hnq hbr
   have hbD : Below w.heap.size w wr.drew:=HB.out.drew
   go_wp2_with fail
   go_roundw
   case rel=>exact ⟨k+1,by omega,by go_num,hbD⟩
   case measure=>simp [intOf]; omega
  ·have q5 : decide ((k : Int)<(xs.length : Int))=false:=decide_eq_false (by omega)
   go_wp2
   go_ret
   exact ⟨rfl,hbr⟩
theorem made_nil : made (A5 ltB []) (76 :: Bv []) = .tuple #[.agg #[.string (Ab (Ay []).1), .string (Ab (Ay []).2)], .int .i64 0]:=by
 unfold made
 rw [if_pos (by decide)]
 rfl
set_option maxRecDepth 20000 in
set_option maxHeartbeats 800000 in
theorem rempty_any (w : World) :
  Calls Tryz.prog 15 #[] w fun e w'=>e = .returned (.agg #[.string (Ab (Ay []).1), .string (Ab (Ay []).2)])∧Below w.heap.size w w':=by
 have hb0 : Below w.heap.size w (w.alloc (.cells #[.string ⟨#[]⟩, .string ⟨#[]⟩] 38)):=(Below.refl _ _).alloc (Nat.le_refl _) _
 have hx0:=heap_last w (.cells #[.string ⟨#[]⟩, .string ⟨#[]⟩] 38) _ rfl
 have hle:=rleaf_any (w.alloc (.cells #[.string ⟨#[]⟩, .string ⟨#[]⟩] 38)) [] (.slice none 0 0) (ls_nilY _ _)
 rw [made_nil] at hle
 generalize Ay []=o at *
 generalize hw0 : w.alloc (.cells #[.string ⟨#[]⟩, .string ⟨#[]⟩] 38)=w0 at *
 go_enter Tryz.func15,Tryz.ntmps15
 go_wp2_with fail
 try rw [hw0]
 refine hle.mono ?_
 rintro e w1 ⟨rfl,hb1⟩
 have x1:=(hb1.block _ (Ad hx0)).trans hx0
 have hB1:=hb0.trans (hb1.mono hb0.size)
 have hxa:=heap_last w1 (.cells #[.string ⟨#[]⟩, .string ⟨#[]⟩] 38) _ rfl
 have x2:=(heap_past w1 (.cells #[.string ⟨#[]⟩, .string ⟨#[]⟩] 38) _ (Ad x1)).trans x1
 have hBa:=hB1.alloc hB1.size (.cells #[.string ⟨#[]⟩, .string ⟨#[]⟩] 38)
 have hlt:=Ad x1
 have hbA : Below w1.heap.size w1 (w1.alloc (.cells #[.string ⟨#[]⟩, .string ⟨#[]⟩] 38)):=(Below.refl _ _).alloc (Nat.le_refl _) _
 generalize hwa : w1.alloc (.cells #[.string ⟨#[]⟩, .string ⟨#[]⟩] 38)=wa at *
 have n0:=rc (i:=0) hxa rfl
 have n1:=rc (i:=1) hxa rfl
 have f0:=Af (j:=0) hxa
 have f1:=Af (j:=1) hxa
 go_upto_region 2 with fail
 try rw [hwa]
 have hbB:=(hbA.setCell (p:=⟨w1.heap.size,0,none⟩) (Nat.le_refl _) (.string (Ab o.1))).setCell (p:=⟨w1.heap.size,1,none⟩) (Nat.le_refl _) (.string (Ab o.2))
 have hBb:=(hBa.setCell (p:=⟨w1.heap.size,0,none⟩) hB1.size (.string (Ab o.1))).setCell (p:=⟨w1.heap.size,1,none⟩) hB1.size (.string (Ab o.2))
 have y2:=Cm (u0:=.string (Ab o.1)) (u1:=.string (Ab o.2)) hxa
 generalize (wa.setCell ⟨w1.heap.size,0,none⟩ (.string (Ab o.1))).setCell ⟨w1.heap.size,1,none⟩ (.string (Ab o.2))=wb at *
 have x3:=(hbB.block _ hlt).trans x1
 clear n0 n1 f0 f1 hxa x2 hwa
 have y0:=rc (i:=0) y2 rfl
 have y1:=rc (i:=1) y2 rfl
 have n0:=rc (i:=0) x3 rfl
 have n1:=rc (i:=1) x3 rfl
 have f0:=Af (j:=0) x3
 have f1:=Af (j:=1) x3
 have HH:=Ac (And.intro (Cm (u0:=.string (Ab o.1)) (u1:=.string (Ab o.2)) x3) ((hBb.setCell (p:=⟨w.heap.size,0,none⟩) (Nat.le_refl _) (.string (Ab o.1))).setCell (p:=⟨w.heap.size,1,none⟩) (Nat.le_refl _) (.string (Ab o.2))))
 clear hbB hBb y2 x3 hle hb1 x1 hBa hbA hB1 hx0 hb0
 go_wp2
 exact bodyPost_ret (results_cell_row rfl _ _ _ _ _ _ _ rfl HH.out.1 Tryz.underlying38 rfl Tryz.infoObjY) rfl ⟨rfl,HH.out.2⟩
end Go.Proofs.YtckejblkppllaaaGreatDoor
namespace Go.Proofs.YtckejblkppllaaaGreatDoor
open Go.RowKit
set_option maxRecDepth 40000 in
set_option maxHeartbeats 3200000 in
theorem tfinds_any (w : World) (vo : Value) (objs : List Ag) (hv : Ls w.heap.size w 2 Ak vo objs) (hob : ∀ o∈objs,o.2.length≤140737488351232) (root at_ : Bs) (hr : root.length≤140737488355328) (ha : at_.length≤4611686018427387000) (hT : Bh w) :
  Calls Tryz.prog 3 #[vo, .string (Ab root), .string (Ab at_)] w fun e w'=>e = .returned (.bool true)∧Below w.heap.size w w':=by
 have hsh:=tshown_any w hT
 obtain ⟨ao,ac,hvo,-⟩:=Dp hv
 obtain ⟨m,hm⟩ : ∃ m,m=objs.length:=⟨_,rfl⟩
 rw [← hm] at hvo
 subst hvo
 clear hm
 obtain ⟨F,hF⟩ : ∃ F,F=Cp (Aj objs) root at_:=⟨_,rfl⟩
 obtain ⟨L,hL⟩ : ∃ L,L=listE (Aj objs) root at_:=⟨_,rfl⟩
 obtain ⟨o,ho⟩ : ∃ o,o=Ay []:=⟨_,rfl⟩
 have hem:=fun (W : World) (hW : Below w.heap.size w W)=>empty_any W (hT.keep hW hT.1)
 have hre:=fun (W : World)=>rempty_any W
 have hfr:=fun (W : World)=>Le W ao m ac
 have hpf:=fun (W : World) (c : Nat) (hG : Gf W.heap.size W c (.slice ao m ac) objs)=>M8 W W.heap.size c _ objs hG (Nat.le_refl _) root at_ hr ha
 have hpl:=fun (W : World) (c : Nat) (hG : Gf W.heap.size W c (.slice ao m ac) objs)=>list16_any W W.heap.size c _ objs hG (Nat.le_refl _) root at_ hr ha
 have hrf:=fun (W : World) (hW : Below w.heap.size w W)=>N2 W (.slice ao m ac) objs ((hv.keep hW).up hW.size) hob root at_ ha
 have hrl:=fun (W : World) (hW : Below w.heap.size w W)=>rlist16_any W (.slice ao m ac) objs ((hv.keep hW).up hW.size) hob root at_ ha
 have HV:=Ac (And.intro hv hob)
 rw [← hF] at hpf hrf
 rw [← hL] at hpl hrl
 rw [← ho] at hem hre
 clear hF hL ho hT hv hob
 have heq:=fun W=>eql_Ent W F.2.1 F.2.2.1 F.2.2.2.1 F.2.2.2.2
 have heo:=fun W=>eql_ObjY W o.1 o.2
 go_enter Tryz.func3,Tryz.ntmps3
 go_wp2_with fail
 refine hsh.mono ?_
 rintro e w1 ⟨rfl,hb1⟩
 clear hsh
 go_wp2_with fail
 refine (hfr w1).mono ?_
 rintro e w2 ⟨rfl,hw2⟩
 clear hfr
 have hb2 : Below w1.heap.size w1 w2:=by
  rw [hw2]
  exact (Below.refl _ _).alloc (Nat.le_refl _) _
 have hc2 : w2.heap[w1.heap.size]? = some (.cells #[.slice ao m ac] 22):=by
  rw [hw2]
  exact heap_last w1 _ _ rfl
 have hB2:=hb1.trans (hb2.mono hb1.size)
 have hG2 : Gf w2.heap.size w2 w1.heap.size (.slice ao m ac) objs:=⟨Ad hc2,hc2,(HV.out.1.keep hB2).up hB2.size,HV.out.2⟩
 have HG:=Ac hG2
 clear hw2 hb1 hb2 hc2 hG2
 go_wp2_with fail
 refine (hpf w2 _ HG.out).mono ?_
 rintro e w3 ⟨rfl,hb3⟩
 have hB3:=hB2.trans (hb3.mono hB2.size)
 have hba:=hb3.alloc hb3.size (.cells zeC 27)
 have hxa:=heap_last w3 (.cells zeC 27) _ rfl
 generalize hwa : w3.alloc (.cells zeC 27)=wa at *
 have n0:=rc (i:=0) hxa rfl
 have n1:=rc (i:=1) hxa rfl
 have n2:=rc (i:=2) hxa rfl
 have n3:=rc (i:=3) hxa rfl
 have f0:=Af (j:=0) hxa
 have f1:=Af (j:=1) hxa
 have f2:=Af (j:=2) hxa
 have f3:=Af (j:=3) hxa
 obtain ⟨hx4,hb4⟩:=Cv (w:=w2) (.string (Ab F.2.1)) (.int .i64 F.2.2.1) (.string (Ab F.2.2.2.1)) (.int .i64 F.2.2.2.2) hxa hba hb3.size
 go_upto_region 4 with fail
 try rw [hwa]
 generalize ((((wa.setCell ⟨w3.heap.size,0,none⟩ (.string (Ab F.2.1))).setCell ⟨w3.heap.size,1,none⟩ (.int .i64 F.2.2.1)).setCell ⟨w3.heap.size,2,none⟩ (.string (Ab F.2.2.2.1))).setCell ⟨w3.heap.size,3,none⟩ (.int .i64 F.2.2.2.2))=w4 at *
 generalize w3.heap.size=g1 at *
 have hB4:=hB2.trans (hb4.mono hB2.size)
 have H4:=Ac (And.intro hx4 (And.intro hb4 hB4))
 clear n0 n1 n2 n3 f0 f1 f2 f3 hxa hba hwa hb3 hB3 hx4 hb4 hB4 hpf
 go_wp2_with fail
 refine (hrf w4 H4.out.2.2).mono ?_
 rintro e w5 ⟨rfl,hb5⟩
 have hba:=hb5.alloc hb5.size (.cells zeC 27)
 have hxa:=heap_last w5 (.cells zeC 27) _ rfl
 generalize hwa : w5.alloc (.cells zeC 27)=wa at *
 have n0:=rc (i:=0) hxa rfl
 have n1:=rc (i:=1) hxa rfl
 have n2:=rc (i:=2) hxa rfl
 have n3:=rc (i:=3) hxa rfl
 have f0:=Af (j:=0) hxa
 have f1:=Af (j:=1) hxa
 have f2:=Af (j:=2) hxa
 have f3:=Af (j:=3) hxa
 obtain ⟨hx6,hb6⟩:=Cv (w:=w4) (.string (Ab F.2.1)) (.int .i64 F.2.2.1) (.string (Ab F.2.2.2.1)) (.int .i64 F.2.2.2.2) hxa hba hb5.size
 go_upto_region 5 with fail
 try rw [hwa]
 generalize ((((wa.setCell ⟨w5.heap.size,0,none⟩ (.string (Ab F.2.1))).setCell ⟨w5.heap.size,1,none⟩ (.int .i64 F.2.2.1)).setCell ⟨w5.heap.size,2,none⟩ (.string (Ab F.2.2.2.1))).setCell ⟨w5.heap.size,3,none⟩ (.int .i64 F.2.2.2.2))=w6 at *
 generalize w5.heap.size=g2 at *
 have hx46:=(hb6.block _ (Ad H4.out.1)).trans H4.out.1
 have hb26:=H4.out.2.1.trans (hb6.mono H4.out.2.1.size)
 have hB6:=H4.out.2.2.trans (hb6.mono H4.out.2.2.size)
 have hG6:=(HG.out.below hb26).up hb26.size
 have H6:=Ac (And.intro hx46 (And.intro hx6 (And.intro hB6 hG6)))
 clear n0 n1 n2 n3 f0 f1 f2 f3 hxa hba hwa hb5 hb6 hx6 hx46 hb26 hB6 hG6 hrf
 go_wp2_with fail
 refine (hpl w6 _ H6.out.2.2.2).mono ?_
 rintro e w7 ⟨ve,rfl,hrow,hb7⟩
 obtain ⟨ea,em,ec,rfl⟩:=Av hrow
 have hB7:=H6.out.2.2.1.trans (hb7.mono H6.out.2.2.1.size)
 have H7:=Ac (And.intro hrow (And.intro hb7 hB7))
 clear hrow hb7 hB7 hpl
 go_wp2_with fail
 refine (hrl w7 H7.out.2.2).mono ?_
 rintro e w8 ⟨vr,rfl,hrow,hb8⟩
 obtain ⟨ra,rm,rk,rfl⟩:=Av hrow
 have hl1:=Bi Lu (A0 H7.out.1 hb8)
 have hl2:=Bi Lu hrow
 have hB8:=H7.out.2.2.trans (hb8.mono H7.out.2.2.size)
 have x1:=(hb8.block _ (Nat.lt_of_lt_of_le (Ad H6.out.1) H7.out.2.1.size)).trans ((H7.out.2.1.block _ (Ad H6.out.1)).trans H6.out.1)
 have x2:=(hb8.block _ (Nat.lt_of_lt_of_le (Ad H6.out.2.1) H7.out.2.1.size)).trans ((H7.out.2.1.block _ (Ad H6.out.2.1)).trans H6.out.2.1)
 have y0:=rc (i:=0) x1 rfl
 have y1:=rc (i:=1) x1 rfl
 have y2:=rc (i:=2) x1 rfl
 have y3:=rc (i:=3) x1 rfl
 have z0:=rc (i:=0) x2 rfl
 have z1:=rc (i:=1) x2 rfl
 have z2:=rc (i:=2) x2 rfl
 have z3:=rc (i:=3) x2 rfl
 have hse:=same_ents w8 L.2 _ _ hl1 hl2
 have H8:=Ac hB8
 clear hrl hrow hb8 hl1 hl2 hB8 x1 x2
 go_wp2_with fail
 refine hse.mono ?_
 rintro e w9 ⟨rfl,hb9⟩
 have hB9:=H8.out.trans (hb9.mono H8.out.size)
 clear hse hb9
 go_wp2_with fail
 refine (hem w9 hB9).mono ?_
 rintro e w10 ⟨rfl,hb10⟩
 have hB10:=hB9.trans (hb10.mono hB9.size)
 clear hem hb10
 go_wp2_with fail
 refine (hre w10).mono ?_
 rintro e w11 ⟨rfl,hb11⟩
 have H11:=Ac (hB10.trans (hb11.mono hB10.size))
 clear hre hb11 hB10 hB9
 go_wp2
 go_ret
 exact ⟨rfl,H11.out⟩
theorem tfinds_bytes (w : World) (vo : Value) (objs : List Ag) (hv : Ls w.heap.size w 2 Ak vo objs) (hob : ∀ o∈objs,o.2.length≤140737488351232) (root at_ : ByteArray) (hr : root.size≤140737488351232) (ha : at_.size≤140737488351232) (hT : Bh w) :
  Calls Tryz.prog 3 #[vo, .string root, .string at_] w fun e w'=>e = .returned (.bool true)∧Below w.heap.size w w':=by
 have h1 : root.data.toList.length≤140737488355328:=by rw [Array.length_toList]; show root.size≤_; omega
 have h2 : at_.data.toList.length≤4611686018427387000:=by rw [Array.length_toList]; show at_.size≤_; omega
 have:=tfinds_any w vo objs hv hob root.data.toList at_.data.toList h1 h2 hT
 rw [Hs,Hs] at this
 exact this
end Go.Proofs.YtckejblkppllaaaGreatDoor
namespace Go.Proofs.YtckejblkppllaaaGreatDoor
open Go.ChangeShapes Go.WideShapes Go.ChangeAt Go.RowKit
open Go.ChangeMaps (open_string shut_string)
theorem cellsObj : Tryz.prog.cellsOf 38=2:=by kernel_rfl
theorem L7 {H : Type} {P : Program} {e : TypeId} : ∀ {ds : List (DataW H)} {d : DataW H},d∈ds→∀ n∈d.weights P e,n∈DataW.weightsAll P e ds
 | [],d,h,_,_=>by simp at h
 | x :: r,d,h,n,hn=>by
  simp only [DataW.weightsAll,List.mem_append]
  rcases List.mem_cons.1 h with rfl | h
  ·exact .inl hn
  ·exact .inr (L7 h n hn)
set_option maxRecDepth 100000 in
theorem open_Obj1 {H : Type} {enc : TypeId × Value→H} {W : World} {x : Addr} {i n : Nat} {cs : List Value} {y : DataW H × List MemPlace} (h1 : W.cells? 0 (x.add (i * 2)) 2=some cs)
  (h2 : DataW.trod enc Tryz.prog W 0 (fun _=>true) true n 38 cs=some y) : ∃ p : Ag,(∀ j u,(Ak p)[j]? = some u→W.cell? (x.add (i * 2+j))=some u)∧p.2.length∈y.1.weights Tryz.prog 38:=by
 obtain ⟨_,hlen,hc⟩:=World.cells?_some h1
 obtain ⟨xs,k,hk,hxy,_,hxl,hf⟩:=DataW.trod_struct Tryz.underlying38 h2
 match xs,hxl,cs,hlen with
 | [y0,y1],_,[v0,v1],_=>
  have g0:=hf 0 _ rfl
  have g1:=hf 1 _ rfl
  simp [cellsS] at g0 g1
  have c0:=hc 0 (by omega)
  have c1:=hc 1 (by omega)
  rw [Deep.add_add] at c0 c1
  simp at c0 c1
  obtain ⟨s0,e0,d0,-⟩:=DataW.trod_string Tryz.underlying9 g0
  obtain ⟨s1,e1,d1,-⟩:=DataW.trod_string Tryz.underlying9 g1
  simp at e0 e1
  subst e0 e1
  subst d0 d1
  refine ⟨(s0.data.toList,s1.data.toList),fun j u hu=>?_,?_⟩
  ·match j,hu with
   | 0,hu=>simp [Ak,Hs] at hu; subst hu; simpa using c0
   | 1,hu=>simp [Ak,Hs] at hu; subst hu; simpa using c1
  ·rw [hxy]
   simp [DataW.weights,DataW.weightsEach,Tryz.underlying38]
set_option maxRecDepth 100000 in
theorem open_objs {H : Type} {enc : TypeId × Value→H} {W : World} {b0 : Nat} {v : Value} {d : DataW H} {ps : List MemPlace} (hval : Value.okWide Tryz.prog W .any b0 22 v) (h : DataW.Trod enc Tryz.prog W 0 (fun _=>true) true 22 v d ps) :
  ∃ os : List Ag,Ls W.heap.size W 2 Ak v os∧∀ o∈os,o.2.length∈d.weights Tryz.prog 22:=by
 obtain ⟨a,len,cap,rfl⟩:=okWide_slice Tryz.underlying22 hval
 obtain ⟨fuel,hf⟩:=h
 rcases Deep.open_slice Tryz.underlying22 hf with ⟨hcs,hx⟩ | ⟨x,len',cap',m,n,D,Pl,hcs,_,hl,hm,hmm,hx,hcell⟩
 ·simp [Value.cells] at hcs
  obtain ⟨rfl,rfl,rfl⟩:=hcs
  exact ⟨[],Ls.nil _ _ _ _,by simp⟩
 ·simp [Value.cells] at hcs
  obtain ⟨rfl,rfl,rfl⟩:=hcs
  injection hx with hd _
  have hmc : m=cap:=by simpa using hmm
  rw [cellsObj] at hcell
  obtain ⟨os,hll,hp⟩:=Md (p:=fun i (o : Ag)=>(∀ j u,(Ak o)[j]? = some u→W.cell? (x.add (i * 2+j))=some u)∧o.2.length∈(D i).weights Tryz.prog 38) len (fun i hi=>by
   obtain ⟨cs,h1,h2⟩:=hcell i (by omega)
   exact open_Obj1 h1 h2)
  refine ⟨os,⟨some x,cap,by rw [hll],by omega,hm,fun hne=>?_⟩,fun o ho=>?_⟩
  ·have hpos : 0<os.length:=List.length_pos_iff.2 hne
   obtain ⟨b,off,spot⟩:=x
   have hc:=(hp 0 hpos).1 0 _ rfl
   have hspot : spot=none:=by simpa [Addr.add] using World.cell?_spot hc
   subst hspot
   refine ⟨b,off,rfl,?_,fun j hj i u hu=>?_⟩
   ·have:=Jy hc
    rw [Addr.add_lit] at this
    exact this
   ·have:=(hp j hj).1 i u hu
    rw [Addr.add_lit] at this
    rw [Nat.add_assoc]
    exact this
  ·obtain ⟨j,hj,rfl⟩:=List.getElem_of_mem ho
   rw [hd]
   simp only [DataW.weights,Tryz.underlying22,List.mem_cons,List.mem_append]
   refine .inr (.inl (L7 (d:=D j) ?_ _ (hp j hj).2))
   exact List.mem_map.2 ⟨j,by simp; omega,rfl⟩
theorem objs_le {H : Type} {ts : List TypeId} {ds : List (DataW H)} (hsz : (DataW.weightsEach Tryz.prog ts ds).all (· ≤ reachBytes)=true) {j : Nat} {d : DataW H} {os : List Ag}
  (ht : ts[j]? = some 22) (hd : ds[j]? = some d) (h : ∀ o∈os,o.2.length∈d.weights Tryz.prog 22) : ∀ o∈os,o.2.length≤140737488351232:=by
 intro o ho
 have:=List.all_eq_true.1 hsz _ (DataW.weights_mem_each ht hd _ (h o ho))
 simp only [reachBytes] at this
 exact of_decide_eq_true this
end Go.Proofs.YtckejblkppllaaaGreatDoor
