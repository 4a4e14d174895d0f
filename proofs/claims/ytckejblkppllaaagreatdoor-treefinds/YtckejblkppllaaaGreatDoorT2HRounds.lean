/-
  What the sixty-four rounds answer. Condition: the table holds its numbers.
-/
import Derived.Test.YtckejblkppllaaaGreatDoorT1HSha
namespace Go.Proofs.YtckejblkppllaaaGreatDoor
open Go.RowKit
def RW (w : World) (W : List UInt32) (wr : World) : Prop:=Below w.heap.size w wr∧Bh wr∧(∀ k,k<64→wr.cell? ⟨w.heap.size+1,k,none⟩=some (.int .u32 (u (W.getD k 0)))) ∧
 wr.heap[w.heap.size+1+1]? = some (.cells (uc [0,0,0,0,0,0,0,0]) 359)
theorem RW.drewN {w : World} {W : List UInt32} {wr : World} (h : RW w W wr) (n : Nat) : RW w W (wr.drewN n):=by
 obtain ⟨h1,h2,h3,h4⟩:=h
 exact ⟨below_drewN h1 n,⟨h2.1,h2.2⟩,h3,h4⟩
theorem rw_start (w : World) (C D : Array Value) (W : List UInt32) (hD : uc W=D) (hl : W.length=64) (hT : Bh w) (n m : Nat) :
  RW w W (((((w.alloc (.cells C 359)).alloc (.cells D 303)).alloc (.cells (uc [0,0,0,0,0,0,0,0]) 359)).drewN n).drewN m):=by
 have hb : Below w.heap.size w (((((w.alloc (.cells C 359)).alloc (.cells D 303)).alloc (.cells (uc [0,0,0,0,0,0,0,0]) 359)).drewN n).drewN m):=
  below_drewN (below_drewN ((((Below.refl _ _).alloc (Nat.le_refl _) _).alloc (by simp) _).alloc (by simp; omega) _) n) m
 refine ⟨hb,hT.keep hb hT.1,fun k hk=>?_,?_⟩
 ·show ((((w.alloc (.cells C 359)).alloc (.cells D 303)).alloc (.cells (uc [0,0,0,0,0,0,0,0]) 359))).cell? _=_
  rw [World.cell?_alloc_past _ _ _ (by simp),World.cell?_alloc_at _ _ _ _ (by simp),← hD,Eo W k (by omega)]
 ·show (((w.heap.push (.cells C 359)).push (.cells D 303)).push (.cells (uc [0,0,0,0,0,0,0,0]) 359))[w.heap.size+1+1]? = _
  have e : w.heap.size+1+1=((w.heap.push (.cells C 359)).push (.cells D 303)).size:=by simp
  rw [e,Array.getElem?_push_size]
set_option maxRecDepth 20000 in
set_option maxHeartbeats 800000 in
theorem rounds_any (w : World) (s : St) (W : List UInt32) (hl : W.length=64) (hT : Bh w) :
  Calls Tryz.prog 287 #[.agg (uc s.list), .agg (uc W)] w fun e w'=>e = .returned (.agg (uc (rds W s 64).list))∧Below w.heap.size w w':=by
 have hs : uc s.list = #[.int .u32 (u s.a), .int .u32 (u s.b), .int .u32 (u s.c), .int .u32 (u s.d), .int .u32 (u s.e), .int .u32 (u s.f), .int .u32 (u s.g), .int .u32 (u s.h)]:=rfl
 generalize hD : uc W=D
 rw [hs]
 clear hs
 go_enter Tryz.func287,Tryz.ntmps287
 go_wp2_with fail
 go_quiet (fail)
 go_wp2_with fail
 go_quiet (fail)
 go_wp2_with fail
 go_loopw [5,6,7,8,9,10,11,12,32] (fun a b c d e f g h t wr=>∃ k : Nat,k≤64∧t = .int .i64 k∧a = .int .u32 (u (rds W s k).a)∧b = .int .u32 (u (rds W s k).b)∧c = .int .u32 (u (rds W s k).c)∧d = .int .u32 (u (rds W s k).d) ∧
   e = .int .u32 (u (rds W s k).e)∧f = .int .u32 (u (rds W s k).f)∧g = .int .u32 (u (rds W s k).g)∧h = .int .u32 (u (rds W s k).h)∧RW w W wr)
  (fun _ _ _ _ _ _ _ _ t _=>64 - (intOf t).toNat)
 case atStart=>
  refine ⟨0,by omega,rfl,rfl,rfl,rfl,rfl,rfl,rfl,rfl,rfl,?_⟩
  exact rw_start w _ D W hD hl hT _ _
 case round=>
  obtain ⟨k,hk,rfl,rfl,rfl,rfl,rfl,rfl,rfl,rfl,rfl,hR⟩:=hrel
  have hx:=u_xor
  have ha:=u_and
  have hp:=Fc
  have hp':=u_add'
  have hn:=u_not
  by_cases hlt : k<64
  ·have hK:=hR.2.1.2 k hlt
   have hW:=hR.2.2.1 k hlt
   have hS : rds W s (k+1)=rd (rds W s k) (kL.getD k 0) (W.getD k 0):=rfl
   generalize kL.getD k 0=kk at *
   generalize W.getD k 0=ww at *
   generalize rds W s k=S at *
   obtain ⟨a,b,c,d,e,f,g,i⟩:=S
   have HS:=Ac hS
   have HR:=Ac hR
   clear hS hR
   simp only
   go_wp2_with fail
   go_quiet (first | (go_at_call_of 289 (Value.int IntKind.i64 6); exact Calls.quiet_of_same (pr6 _ e)) | (go_at_call_of 289 (Value.int IntKind.i64 11); exact Calls.quiet_of_same (pr11 _ e)) | (go_at_call_of 289 (Value.int IntKind.i64 25); exact Calls.quiet_of_same (pr25 _ e)))
   go_wp2_with fail
   refine (pr2 _ a).mono ?_
   rintro e1 w1 ⟨rfl,rfl⟩
   go_wp2_with fail
   refine (pr13 _ a).mono ?_
   rintro e1 w1 ⟨rfl,rfl⟩
   go_wp2_with fail
   refine (pr22 _ a).mono ?_
   rintro e1 w1 ⟨rfl,rfl⟩
   go_wp2
   go_roundw
   case rel=>
    refine ⟨k+1,by omega,by go_num,?_,?_,?_,?_,?_,?_,?_,?_,HR.out.drewN _⟩
    all_goals rw [HS.out]
    ·rw [u_add4,Fc]; rfl
    ·rfl
    ·rfl
    ·rfl
    ·rw [u_add4,Fc]; rfl
    ·rfl
    ·rfl
    ·rfl
   case measure=>simp [intOf]; omega
  ·obtain rfl : k=64:=by omega
   have hb:=hR.1
   have hrow:=hR.2.2.2
   have HR:=Ac hR
   clear hR
   generalize hS : rds W s 64=S at *
   obtain ⟨a,b,c,d,e,f,g,i⟩:=S
   have HS:=Ac hS
   clear hS
   simp only
   go_wp2_with (refine Fe _ rfl 359 (.tmp 4) (.tmp 103) rfl _ (uc [a,b,c,d,e,f,g,i]) rfl rfl 359 _ hrow Tryz.infoEight rfl (Ea _) ?_)
   intro w2 hrow2 hg2
   have hb2:=hb.grown hg2 hb.size (by intro k hk; injection hk with hk; omega)
   clear hrow hg2 hb
   go_wp2
   refine bodyPost_ret (v:=.agg (uc [a,b,c,d,e,f,g,i])) (results_cell_row rfl _ _ _ _ _ _ _ rfl hrow2 Tryz.underlying359 rfl Tryz.infoEight) rfl ⟨I0 (by rw [HS.out]; rfl),hb2⟩
end Go.Proofs.YtckejblkppllaaaGreatDoor
