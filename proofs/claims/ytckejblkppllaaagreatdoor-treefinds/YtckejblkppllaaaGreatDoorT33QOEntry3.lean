/-
  Texts joined: QOEntry3, OEntry4, OEntry5, PLeaves, PBranches, PKept, PRBuild.
-/
import Derived.Test.YtckejblkppllaaaGreatDoorT32QOEntry
import Derived.Test.YtckejblkppllaaaGreatDoorT12OEntry2
import Derived.Test.YtckejblkppllaaaGreatDoorT31PRDone
import Derived.Test.YtckejblkppllaaaGreatDoorT28PLay
import Derived.Test.YtckejblkppllaaaGreatDoorT17PRow
import Derived.Laws.MakeOwn
import Derived.Test.YtckejblkppllaaaGreatDoorT29PKid
namespace Go.Proofs.YtckejblkppllaaaGreatDoor
open Go.RowKit
set_option maxRecDepth 20000 in
set_option maxHeartbeats 800000 in
theorem entry_any (w : World) (name : Bs) (v : Val) :
  Calls Tryz.prog 77 #[.agg #[.string (Ab name), .int .i64 v.1, .string (Ab v.2.1), .int .i64 v.2.2]] w fun e w'=>e = .returned (entryV (Ck name v) v)∧Below w.heap.size w w':=by
 have hb0 : Below w.heap.size w (w.alloc (.cells #[.string (Ab name), .int .i64 v.1, .string (Ab v.2.1), .int .i64 v.2.2] 27)):=(Below.refl _ _).alloc (Nat.le_refl _) _
 have z0:=heap_last w (.cells #[.string (Ab name), .int .i64 v.1, .string (Ab v.2.1), .int .i64 v.2.2] 27) _ rfl
 have hn0 : (w.alloc (.cells #[.string (Ab name), .int .i64 v.1, .string (Ab v.2.1), .int .i64 v.2.2] 27)).heap.size=w.heap.size+1:=by simp
 generalize hw0 : w.alloc (.cells #[.string (Ab name), .int .i64 v.1, .string (Ab v.2.1), .int .i64 v.2.2] 27)=w0 at *
 have hR:=Hj w0 name v
 have c0:=rc (i:=0) z0 rfl
 have c1:=rc (i:=1) z0 rfl
 have c2:=rc (i:=2) z0 rfl
 have c3:=rc (i:=3) z0 rfl
 by_cases hok : Ck name v=true
 ·obtain ⟨i1,i2,hid⟩:=Ie hok
  rw [hok] at hR ⊢
  rw [entryV_yes]
  have n1:=El v.1
  have n2:=El v.2.2
  go_enter Tryz.func77,Tryz.ntmps77
  go_wp2_with fail
  try rw [hw0]
  refine hR.mono ?_
  rintro e w1 ⟨rfl,hb1⟩
  have z1:=(hb1.block _ (Ad z0)).trans z0
  have B1:=hb0.trans (hb1.mono hb0.size)
  have hW:=Kw w1 (.slice none 0 0) [] (Ls.nil _ _ _ _) (by simp)
  clear hR hb1 c0 c1 c2 c3
  go_wp2_with fail
  refine hW.mono ?_
  rintro e w2 ⟨g,rfl,W2,hb2⟩
  have z2:=(hb2.block _ (Ad z1)).trans z1
  have B2:=B1.trans (hb2.mono B1.size)
  have d1:=rc (i:=1) z2 rfl
  have s1:=Ad z1
  clear hW hb2 B1
  go_wp2_with fail
  refine (Gx w1.heap.size w2 g [] v.1 W2 i1 (by simp)).mono ?_
  rintro e w3 ⟨rfl,W3,hb3,-⟩
  have z3:=(hb3.block _ s1).trans z2
  have B3:=B2.trans (hb3.mono (by omega))
  have e2:=rc (i:=2) z3 rfl
  have e3:=rc (i:=3) z3 rfl
  have W3' : Wr w1.heap.size w3 g (num v.1):=W3
  clear W2 B2 hb3 d1
  go_wp2_with fail
  refine (layPart_any w1.heap.size w3 g (num v.1) v.2 W3' i2 (by simp only [Fg,List.length_append]; omega)).mono ?_
  rintro e w4 ⟨rfl,W4,hb4,-⟩
  have B4:=B3.trans (hb4.mono (by omega))
  obtain ⟨u4,hc4,hs4⟩:=W4.sl
  clear W3 W3' B3 hb4 e2 e3
  go_wp2_with fail
  refine (text_any w4 g u4 _ hc4 hs4).mono ?_
  rintro e w5 ⟨rfl,rfl⟩
  go_wp2
  go_ret2
  exact ⟨rfl,B4⟩
 ·have hok:=Bool.eq_false_iff.2 hok
  rw [hok] at hR ⊢
  rw [entryV_no]
  go_enter Tryz.func77,Tryz.ntmps77
  go_wp2_with fail
  try rw [hw0]
  refine hR.mono ?_
  rintro e w1 ⟨rfl,hb1⟩
  go_wp2
  go_ret2
  exact ⟨rfl,hb0.trans (hb1.mono hb0.size)⟩
end Go.Proofs.YtckejblkppllaaaGreatDoor
namespace Go.Proofs.YtckejblkppllaaaGreatDoor
open Go.RowKit
def hVal (l : Bs) : Pos→Val × Pos:=rP (rI l) (E8 l)
theorem fmValI (l : Bs) : Fm l (hVal l) valB (fun v=>Cg v.1∧(v.2.1.length=32∧Cg v.2.2)):=(fmI l).both (fmPart l)
theorem Nq {name : Bs} {v : Val} (h : Ck name v=true) : 0≤v.1∧v.1≤2:=by
 unfold Ck valOk Ew at h
 simp only [Bool.and_eq_true] at h
 obtain ⟨_,_,h2⟩:=h
 split at h2
 ·omega
 ·split at h2
  ·omega
  ·cases h2
theorem Nb (name val : Bs) : Dc name val=said gVal (Ck name) val:=rfl
theorem taken_alike (name val : Bs) : said hVal (Ck name) val=Dc name val:=by
 rw [Nb]
 refine Option.ext fun v=>?_
 rw [Hi (fmValI val) (fun x hx=>?_) v,Hi (fmVal val) (fun x hx=>?_) v]
 ·obtain ⟨_,h2,h3⟩:=Ie hx
  exact ⟨Nq hx,h3,h2⟩
 ·obtain ⟨h1,h2,h3⟩:=Ie hx
  exact ⟨h1,h3,h2⟩
theorem Tryz.eqEnt : Tryz.prog.underlying 27=some (.struct (Tryz.prog.fieldsOf 27))∧Tryz.prog.stoodInHeld 27=false∧Tryz.prog.eqGuardType Tryz.prog.depth 27=false:=⟨by kernel_rfl,by kernel_rfl,by kernel_rfl⟩
theorem eql_Ent (W : World) (a0 : Bs) (a1 : Int) (a2 : Bs) (a3 : Int) : (binOp .eql 27 (.agg #[.string (Ab a0), .int .i64 a1, .string (Ab a2), .int .i64 a3]) (.agg #[.string (Ab a0), .int .i64 a1, .string (Ab a2), .int .i64 a3])).run Tryz.prog W = .ok (.bool true) W:=by
 obtain ⟨h1,h2,h3⟩:=Tryz.eqEnt
 rw [run_eql_struct,run_equalIn_agg _ _ _ _ _ h1 h2]
 simp only [Program.fieldsOf,Tryz.underlying27]
 simp [Op.eqFields,go_sem,Tryz.underlying9,Tryz.underlying2,Tryz.underlying3,toL]
end Go.Proofs.YtckejblkppllaaaGreatDoor
namespace Go.Proofs.YtckejblkppllaaaGreatDoor
open Go.RowKit
def tookV (ok : Bool) (name : Bs) (v : Val) : Value:=if ok then .tuple #[.agg #[.string (Ab name), .int .i64 v.1, .string (Ab v.2.1), .int .i64 v.2.2], .int .i64 0] else .tuple #[.agg #[.string ⟨#[]⟩, .int .i64 0, .string ⟨#[]⟩, .int .i64 0], .int .i64 81]
theorem said_took {name val : Bs} {v : Val} {s : Pos} (h : hVal val (some 0)=(v,s)) {e : Ending} (he : e = .returned (tookV (decide (s=some val.length) && Ck name v) name v)) : F9 name val e:=by
 unfold F9
 rw [← taken_alike]
 unfold said
 rw [h]
 simp only
 subst he
 by_cases h1 : s=some val.length
 ·by_cases h2 : Ck name v=true
  ·rw [if_pos ⟨h1,h2⟩]
   simp [h1,h2,tookV]
  ·rw [if_neg (fun h=>h2 h.2)]
   simp [h2,tookV]
 ·rw [if_neg (fun h=>h1 h.1)]
  simp [h1,tookV]
theorem heap_at2 {w : World} {g : Nat} {v0 v1 v2 v3 u : Value} {t : TypeId} (h : w.heap[g]? = some (.cells #[v0,v1,v2,v3] t)) : (w.setCell ⟨g,2,none⟩ u).heap[g]? = some (.cells #[v0,v1,u,v3] t):=by
 rw [heap_setCell _ _ _ _ _ _ _ h]
 simp
theorem heap_at3 {w : World} {g : Nat} {v0 v1 v2 v3 u : Value} {t : TypeId} (h : w.heap[g]? = some (.cells #[v0,v1,v2,v3] t)) : (w.setCell ⟨g,3,none⟩ u).heap[g]? = some (.cells #[v0,v1,v2,u] t):=by
 rw [heap_setCell _ _ _ _ _ _ _ h]
 simp
set_option maxRecDepth 20000 in
set_option maxHeartbeats 1600000 in
theorem Mk (w : World) (name val : Bs) (hv : val.length≤140737488351232) :
  Calls Tryz.prog 33 #[.string (Ab name), .string (Ab val)] w fun e w'=>F9 name val e∧Below w.heap.size w w':=by
 obtain ⟨kind,s1,ht1⟩ : ∃ t s1,rI val (some 0)=(t,s1):=⟨_,_,rfl⟩
 obtain ⟨id,s2,ht2⟩ : ∃ t s2,rD val s1=(t,s2):=⟨_,_,rfl⟩
 obtain ⟨size,s3,ht3⟩ : ∃ t s3,rI val s2=(t,s3):=⟨_,_,rfl⟩
 have hg : hVal val (some 0)=((kind,(id,size)),s3):=by
  unfold hVal E8
  simp only [rP,ht1,ht2,ht3]
 have H1:=Ac ht1
 have H2:=Ac ht2
 have H3:=Ac ht3
 suffices key : Calls Tryz.prog 33 #[.string (Ab name), .string (Ab val)] w fun e w'=>e = .returned (tookV (decide (s3=some val.length) && Ck name (kind,(id,size))) name (kind,(id,size)))∧Below w.heap.size w w' from
  key.mono (fun e w' h=>⟨said_took hg h.1,h.2⟩)
 clear hg ht1 ht2 ht3
 obtain ⟨q1,hq1⟩ : ∃ q,decide (s3=some val.length)=q:=⟨_,rfl⟩
 obtain ⟨q2,hq2⟩ : ∃ q,Ck name (kind,(id,size))=q:=⟨_,rfl⟩
 rw [hq1,hq2]
 have Q1:=Ac hq1
 have Q2:=Ac hq2
 clear hq1 hq2
 have hbE : Below w.heap.size w (w.alloc (.cells #[.string ⟨#[]⟩, .int .i64 0, .string ⟨#[]⟩, .int .i64 0] 27)):=(Below.refl _ _).alloc (Nat.le_refl _) _
 have hx0:=heap_last w (.cells #[.string ⟨#[]⟩, .int .i64 0, .string ⟨#[]⟩, .int .i64 0] 27) _ rfl
 have hn0 : (w.alloc (.cells #[.string ⟨#[]⟩, .int .i64 0, .string ⟨#[]⟩, .int .i64 0] 27)).heap.size=w.heap.size+1:=by simp
 have HV:=Ac hv
 clear hv
 go_enter Tryz.func33,Tryz.ntmps33
 go_wp2_with (refine G5 _ rfl (.tmp 10) rfl (Ab val) (by have:=HV.out; rw [A1]; unfold maxLen; omega) rfl ?_; intro v2 w2 hsl2 hb2 hbk2; rw [B0] at hsl2; have HS:=Ac hsl2; have HBK:=Ac hbk2; clear hbk2; have HB:=Ac hb2; obtain ⟨ao,cap,rfl,-⟩:=hsl2; clear hb2)
 have B2:=hbE.trans (HB.out.mono hbE.size)
 have x2:=(HB.out.block _ (Ad hx0)).trans hx0
 have R3 : Rr (w.heap.size+1) (w2.alloc (.cells #[.slice ao val.length cap, .int .i64 0, .bool false] 139)) w2.heap.size val (some 0):=
  ⟨_,0,heap_last w2 _ _ rfl,fun w' hu=>HS.out.und (N:=w.heap.size+1) (fun b off n c e=>by have:=HBK.out b off n c e; omega) ⟨Nat.le_trans (by simp) hu.1,fun k hN hk=>(hu.2 k hN hk).trans (heap_past w2 _ k hk)⟩,fun a ha=>by injection ha with ha; subst ha; exact ⟨rfl,Nat.zero_le _⟩⟩
 have hb3 : Below w2.heap.size w2 (w2.alloc (.cells #[.slice ao val.length cap, .int .i64 0, .bool false] 139)):=(Below.refl _ _).alloc (Nat.le_refl _) _
 have x3:=(hb3.block _ (Ad x2)).trans x2
 have B3:=B2.trans (hb3.mono B2.size)
 have hs2:=HB.out.size
 clear HB HS HBK hb3 x2 B2 hbE hx0
 go_wp2_with fail
 generalize hw3 : w2.alloc (.cells #[.slice ao val.length cap, .int .i64 0, .bool false] 139)=w3 at *
 have hT:=Ho w3 w2.heap.size val (some 0) R3 HV.out
 rw [H1.out] at hT
 simp only at hT
 generalize hgg : w2.heap.size=g at *
 refine hT.mono ?_
 rintro e w4 ⟨rfl,R4,gb4⟩
 have x4:=(gb4.block _ (Ad x3) (fun e=>by injection e with e; omega)).trans x3
 have B4:=B3.grown gb4 B3.size (fun k hk=>by injection hk with hk; omega)
 have hqA : Below w4.heap.size w4 (w4.alloc (.cells #[.string (Ab name), .int .i64 kind, .string ⟨#[]⟩, .int .i64 0] 27)):=(Below.refl _ _).alloc (Nat.le_refl _) _
 have z5:=heap_last w4 (.cells #[.string (Ab name), .int .i64 kind, .string ⟨#[]⟩, .int .i64 0] 27) _ rfl
 have R5:=R4.keep hqA
 have x5:=(hqA.block _ (Ad x4)).trans x4
 have B5:=B4.trans (hqA.mono B4.size)
 have g4:=R4.lt
 have y4:=Ad x4
 clear hT gb4 R4 x3 B3 R3 x4 B4 hqA hw3 hgg
 go_wp2_with fail
 generalize hw5 : w4.alloc (.cells #[.string (Ab name), .int .i64 kind, .string ⟨#[]⟩, .int .i64 0] 27)=w5 at *
 generalize hn5 : w4.heap.size=n5 at *
 have hT:=rid_any w5 g val s1 R5 HV.out
 rw [H2.out] at hT
 simp only at hT
 refine hT.mono ?_
 rintro e w6 ⟨rfl,R6,gb6⟩
 have z6:=(gb6.block _ (Ad z5) (fun e=>by injection e with e; omega)).trans z5
 have x6:=(gb6.block _ (Ad x5) (fun e=>by injection e with e; omega)).trans x5
 have B6:=B5.grown gb6 B5.size (fun k hk=>by injection hk with hk; omega)
 have d6:=rc (i:=2) z6 rfl
 have f6:=Af (j:=2) z6
 have z7:=heap_at2 (u:=.string (Ab id)) z6
 have R7:=R6.set (n:=n5) (i:=2) (u:=.string (Ab id)) (.inl (by omega))
 have x7:=((Ar w6 n5 2 (.string (Ab id))).block _ (Ad x6) (fun e=>by injection e with e; omega)).trans x6
 have B7:=B6.setCell (p:=⟨n5,2,none⟩) (by simp; omega) (.string (Ab id))
 clear hT gb6 R5 R6 x5 x6 B5 B6 z5 z6 hw5 hn5
 go_wp2_with fail
 generalize hw7 : w6.setCell ⟨n5,2,none⟩ (.string (Ab id))=w7 at *
 have hT:=Ho w7 g val s2 R7 HV.out
 rw [H3.out] at hT
 simp only at hT
 clear d6 f6
 refine hT.mono ?_
 rintro e w8 ⟨rfl,R8,gb8⟩
 have z8:=(gb8.block _ (Ad z7) (fun e=>by injection e with e; omega)).trans z7
 have x8:=(gb8.block _ (Ad x7) (fun e=>by injection e with e; omega)).trans x7
 have B8:=B7.grown gb8 B7.size (fun k hk=>by injection hk with hk; omega)
 have d8:=rc (i:=3) z8 rfl
 have f8:=Af (j:=3) z8
 have z9:=heap_at3 (u:=.int .i64 size) z8
 have R9:=R8.set (n:=n5) (i:=3) (u:=.int .i64 size) (.inl (by omega))
 have x9:=((Ar w8 n5 3 (.int .i64 size)).block _ (Ad x8) (fun e=>by injection e with e; omega)).trans x8
 have B9:=B8.setCell (p:=⟨n5,3,none⟩) (by simp; omega) (.int .i64 size)
 clear hT gb8 R7 R8 x7 x8 B7 B8 z7 z8 hw7
 go_wp2_with fail
 generalize hw9 : w8.setCell ⟨n5,3,none⟩ (.int .i64 size)=w9 at *
 have hT:=J1 w9 g val s3 R9
 clear d8 f8
 rw [Q1.out] at hT
 refine hT.mono ?_
 rintro e wa ⟨rfl,hba⟩
 have za:=(hba.block _ (Ad z9)).trans z9
 have xa:=(hba.block _ (Ad x9)).trans x9
 have Ba:=B9.trans (hba.mono B9.size)
 have l0:=rc (i:=0) za rfl
 have l1:=rc (i:=1) za rfl
 have l2:=rc (i:=2) za rfl
 have l3:=rc (i:=3) za rfl
 clear hT hba R9 x9 B9 z9 hw9
 have hr:=O2 wa name (kind,(id,size))
 simp only at hr
 rw [Q2.out] at hr
 go_wp2_with fail
 refine hr.mono ?_
 rintro e wb ⟨rfl,hbb⟩
 have zb:=(hbb.block _ (Ad za)).trans za
 have xb:=(hbb.block _ (Ad xa)).trans xa
 have Bb:=Ba.trans (hbb.mono Ba.size)
 clear hr hbb za xa Ba l0 l1 l2 l3
 have m0:=rc (i:=0) zb rfl
 have m1:=rc (i:=1) zb rfl
 have m2:=rc (i:=2) zb rfl
 have m3:=rc (i:=3) zb rfl
 have n0:=rc (i:=0) xb rfl
 have f0:=Af (j:=0) xb
 have n1:=rc (i:=1) xb rfl
 have f1:=Af (j:=1) xb
 have n2:=rc (i:=2) xb rfl
 have f2:=Af (j:=2) xb
 have n3:=rc (i:=3) xb rfl
 have f3:=Af (j:=3) xb
 cases q1
 ·cases q2
  all_goals
   go_wp2
   exact bodyPost_ret (Aq rfl _ _ _ _ _ _ _ rfl (Et xb) Tryz.underlying27 rfl Tryz.infoEntry) rfl ⟨rfl,((((Bb.setCell (p:=⟨w.heap.size,0,none⟩) (by simp) _).setCell (p:=⟨w.heap.size,1,none⟩) (by simp) _).setCell (p:=⟨w.heap.size,2,none⟩) (by simp) _).setCell (p:=⟨w.heap.size,3,none⟩) (by simp) _)⟩
 ·cases q2
  all_goals
   go_wp2
   exact bodyPost_ret (Aq rfl _ _ _ _ _ _ _ rfl (Et xb) Tryz.underlying27 rfl Tryz.infoEntry) rfl ⟨rfl,((((Bb.setCell (p:=⟨w.heap.size,0,none⟩) (by simp) _).setCell (p:=⟨w.heap.size,1,none⟩) (by simp) _).setCell (p:=⟨w.heap.size,2,none⟩) (by simp) _).setCell (p:=⟨w.heap.size,3,none⟩) (by simp) _)⟩
end Go.Proofs.YtckejblkppllaaaGreatDoor
namespace Go.Proofs.YtckejblkppllaaaGreatDoor
open Go.RowKit
theorem leaf_key {l : List Ag} (h : Ce l=true) : ∀ p∈l,p.1.length≤64:=by
 intro p hp
 unfold Ce at h
 simp only [Bool.and_eq_true,List.all_eq_true] at h
 have:=h.1 p hp
 unfold A3 As at this
 simp at this
 omega
theorem L1 (os raw : List Ag) (o : Ag) : Bo os (raw ++ [o])=C7 (Bo os raw) o:=by
 rw [No]
 rfl
def Jq : Value→Nat
 | .slice _ n _=>n
 | _=>0
set_option maxRecDepth 40000 in
set_option maxHeartbeats 1600000 in
theorem Pg (B : Nat) (w : World) (g : Nat) (os : List Ag) (l : List Ag) (v : Value) (h : BdW B w g os) (hv : ∀ W,Mv B bts none w W→Ls W.heap.size W 2 Ak v l) (hok : Ce l=true) (hll : l.length≤4096) (hT : Bh w) (h0 : 1<B) (hne : l ≠ []) (hn : os.length≤1000000) :
  Calls Tryz.prog 109 #[.pointer (some ⟨g,0,none⟩),v] w fun e w'=>∃ u,e = .returned u∧Rw w.heap.size w' 125 3 Au u ((C3 l).map C4)∧BdW B w' g (Bo os ((C3 l).map Ay))∧Mv B bts none w w':=by
 have hB : B≤w.heap.size:=by
  obtain ⟨hg,vo,mb,hh,-⟩:=h
  have:=Ad hh
  omega
 obtain ⟨ao,cap,hvv,hcap,hcap2,hne2⟩:=hv w (Mv.refl _ _ _ _)
 subst hvv
 obtain ⟨b,off,rfl,-,-⟩:=hne2 hne
 unfold maxLen at hcap2
 have hpos : 1≤l.length:=by cases l with | nil=>exact absurd rfl hne | cons _ _=>simp
 have HI:=Ac (And.intro hv (And.intro hok (And.intro hT h)))
 obtain ⟨m,hm⟩ : ∃ m,m=l.length:=⟨_,rfl⟩
 rw [← hm] at hcap hpos hll
 rw [← hm]
 have HM:=Ac hm
 have hz0 : ((m : Int) == 0)=false:=by simp; omega
 clear hm hok hT h hv hne2
 go_enter Tryz.func109,Tryz.ntmps109
 go_wp2_with fail
 go_loopw [1,5] (fun t u wr=>∃ (q : Nat) (done : List (List Ag)) (ak : Option Addr),q≤m∧t = .slice ak (m - q) (cap - q)∧(q<m→ak=some ⟨b,off+q * 2,none⟩)∧done.length≤q∧C3 l=done++C3 (l.drop q)∧Rw w.heap.size wr 125 3 Au u (done.map C4)∧BdW B wr g (Bo os (done.map Ay))∧Mv B bts none w wr)
  (fun t _ _=>Jq t)
 case atStart=>exact ⟨0,[],some ⟨b,off,none⟩,by omega,by simp,fun _=>by simp,by simp,by simp,World.ownsRow_nil _ _ _ _,HI.out.2.2.2,Mv.refl _ _ _ _⟩
 case round=>
  obtain ⟨q,done,ak,hk,rfl,hak,hdl,hgs,hrow,hBd,hMr⟩:=hrel
  by_cases hlt : q<m
  ·obtain rfl:=hak hlt
   clear hak
   have hlen : (l.drop q).length=m - q:=by rw [List.length_drop,← HM.out]
   have hdr : l.drop q ≠ []:=fun e=>by rw [e] at hlen; simp at hlen; omega
   have hlr : Ls wr.heap.size wr 2 Ak (.slice (some ⟨b,off+q * 2,none⟩) (m - q) (cap - q)) (l.drop q):=by
    have:=(HI.out.1 wr hMr).part (a:=q) (z:=m) hk (by rw [← HM.out]; exact Nat.le_refl _)
    rwa [List.take_of_length_le (by rw [← HM.out]; exact Nat.le_refl _)] at this
   obtain ⟨n,hn0⟩ : ∃ n,n=leafN (l.drop q):=⟨_,rfl⟩
   have hn1 : 1≤n:=by rw [hn0]; exact leafN_pos hdr
   have hn2 : n≤m - q:=by rw [hn0,← hlen]; exact leafN_le _
   obtain ⟨ks,hks⟩ : ∃ ks,ks=(l.drop q).take n:=⟨_,rfl⟩
   have hkl : ks.length=n:=by rw [hks,List.length_take,hlen]; omega
   have hgd : C3 (l.drop q)=ks :: C3 (l.drop (q+n)):=by rw [leafG_step hdr,← hn0,← hks,List.drop_drop]
   have hgr:=Ol HI.out.2.1 (g:=ks) (by rw [hgs,hgd]; simp)
   have hks64 : ks.length≤64:=(G2 hgr.2.1).1
   have hsur : ∀ W,Mv B bts none w W→Ls W.heap.size W 2 Ak (.slice (some ⟨b,off+q * 2,none⟩) n (cap - q)) ks:=fun W hW=>by
    have h3:=(HI.out.1 W hW).part (a:=q) (z:=q+n) (by omega) (by rw [← HM.out]; omega)
    rwa [show q+n - q=n from by omega,show (l.take (q+n)).drop q=ks from by rw [hks,List.drop_take,show q+n - q=n from by omega]] at h3
   have hBr : B≤wr.heap.size:=by have:=hMr.size; omega
   have hTr:=HI.out.2.2.1.keep hMr.b h0
   have hgz:=sizeP_any wr 0 _ (l.drop q) hlr hTr (by omega) (fun p hp=>by have:=(leaf_key HI.out.2.1 p (List.mem_of_mem_drop hp)); omega) hdr
   change Calls _ _ _ _ (fun e w'=>e = .returned (.int .i64 ((leafN (l.drop q) : Nat) : Int))∧Below wr.heap.size wr w') at hgz
   rw [← hn0] at hgz
   have hkk : C4 ks=(Cy (0,ks,[]),(De (0,ks,[])).1,Bt (0,ks,[])):=by
    unfold C4 Cy De Bt
    simp [Am]
   have hoo : Ay ks=De (0,ks,[]):=by unfold De; simp
   obtain ⟨kk,hkk0⟩ : ∃ kk,kk=C4 ks:=⟨_,rfl⟩
   obtain ⟨oo,hoo0⟩ : ∃ oo,oo=Ay ks:=⟨_,rfl⟩
   rw [← hkk0] at hkk
   rw [← hoo0] at hoo
   have HK:=Ac (And.intro hgs (And.intro hrow (And.intro hBd (And.intro hMr hgd))))
   have HKK:=Ac (And.intro hkk0 hoo0)
   have HG:=Ac (And.intro hgr hsur)
   have HKO:=Ac (And.intro hkk hoo)
   have HTR:=Ac hTr
   clear hgs hrow hBd hMr hgd hlr hlen hdr hn0 hks hkk0 hoo0 hgr hsur hkk hoo hTr
   go_wp2_with fail
   refine hgz.mono ?_
   rintro e w1 ⟨rfl,hb1⟩
   clear hgz
   have hM1:=HK.out.2.2.2.1.more hb1 hBr
   have hBd1:=HK.out.2.2.1.keep hb1
   have hgr:=HG.out.1
   have hsur:=HG.out.2
   have hB1 : B≤w1.heap.size:=Nat.le_trans hBr hb1.size
   have hlay:=Lv B w1 g _ (0,ks,[]) (.slice none 0 0) (.slice (some ⟨b,off+q * 2,none⟩) n (cap - q)) hBd1 (by have:=Gj (done.map Ay) os; rw [List.length_map] at this; omega) (fun W _=>Ls.nil _ _ _ _) (fun W hW=>hsur W (hM1.trans hW (Nx.refl _ _))) (HTR.out.keep hb1 HTR.out.1) h0 (fun _=>hgr.2.1) (fun h=>absurd rfl h) (by simp) (by simp [Am]) (by simp only; omega)
   rw [← HKO.out.2] at hlay
   have hl1 : Cy (0,ks,[])=kk.1:=by rw [HKO.out.1]
   have hl2 : oo.1=kk.2.1:=by rw [HKO.out.1,HKO.out.2]
   have hl3 : Bt (0,ks,[])=kk.2.2:=by rw [HKO.out.1]
   rw [hl1,hl2,hl3] at hlay
   have hrow1:=A0 HK.out.2.1 hb1
   have HM1:=Ac (And.intro hM1 hrow1)
   clear hl1 hl2 hl3 hgr hsur hBd1 hM1 hrow1 hb1
   have hnc : (n : Int)≤((cap - q : Nat) : Int):=by omega
   go_wp2_with fail
   refine hlay.mono ?_
   rintro e w2 ⟨rfl,hBd2,hM2⟩
   clear hlay
   have hrow2:=hM2.own0 HM1.out.2 (by decide)
   have hMw:=HM1.out.1.trans hM2 (Nx.refl _ _)
   have hB2 : w.heap.size≤w2.heap.size:=hMw.size
   obtain ⟨vn,w3,hrun,hrow3,hgr3,-⟩:=app_link w2 w.heap.size _ _ kk hrow2 hB2 (by rw [List.length_map]; omega)
   have hrowA:=World.ownsRow.alloc hrow2 (.cells #[.string (Ab kk.1), .string (Ab kk.2.1), .int .i64 kk.2.2] 125)
   have hBd3 : BdW B w3 g (C7 (Bo os (done.map Ay)) oo):=by
    obtain ⟨hg,vo,mb,g1,g2,g3,g4⟩:=hBd2
    have hb : Below w2.heap.size w2 (w2.alloc (.cells #[.string (Ab kk.1), .string (Ab kk.2.1), .int .i64 kk.2.2] 125)):=(Below.refl _ _).alloc (Nat.le_refl _) _
    have g1':=(hb.block _ (Ad g1)).trans g1
    have g2' : Rw B (w2.alloc (.cells #[.string (Ab kk.1), .string (Ab kk.2.1), .int .i64 kk.2.2] 125)) 38 2 Ak vo _:=World.ownsRow.alloc g2 _
    have g3':=g3.same (hb.block _ g3.lt)
    refine ⟨hg,vo,mb,Ej hrowA hgr3 g1' (by decide),G4 g2' hrowA hgr3 (F0 g2' hrowA (by decide)),g3'.same (hgr3.block mb g3'.lt (fun hq=>?_)),g4⟩
    obtain ⟨c',fz,h1⟩:=Lib.ownsRow_kind hrowA mb hq.symm
    exact absurd rfl (g3'.ne h1)
   have hM3 : Mv B bts none w w3:=by
    refine ⟨(hMw.b.alloc (by omega) _).trans ((Below.refl _ _).grown hgr3 (by simp; omega) (fun q hq=>by have:=(hrowA.lt q hq).1; omega)),fun k cs t fr' hk ht hr=>?_⟩
    have hk5:=hMw.k k cs t fr' hk ht hr
    have hkA:=(heap_past w2 (.cells #[.string (Ab kk.1), .string (Ab kk.2.1), .int .i64 kk.2.2] 125) k (Ad hk5)).trans hk5
    refine (hgr3.block k (Ad hkA) (fun hq=>?_)).trans hkA
    have h1:=(hrowA.lt k hq.symm).1
    have h2:=Ad hk
    omega
   have HRUN:=Ac hrun
   have H7:=Ac (And.intro hrow3 (And.intro hBd3 hM3))
   obtain ⟨vnA,vnm,vnc,rfl⟩:=Av hrow3
   clear hBd2 hM2 hrow2 hMw hrun hrow3 hgr3 hrowA hBd3 hM3
   go_wp2_with (at_builtin; refine wpList_plain rfl (fun K hK=>Cz (.tmp 19) (.tmp 26) 127 rfl rfl rfl HRUN.out (hK _ _ ?_)))
   have hnm : (n : Int)≤((m - q : Nat) : Int):=by omega
   go_wp2
   go_roundw
   case rel=>
    refine ⟨q+n,done ++ [ks],if cap - q=n then some ⟨b,off+q * 2,none⟩ else some ⟨b,off+q * 2+n * 2,none⟩,by omega,?_,?_,?_,?_,?_,?_,H7.out.2.2⟩
    ·congr 1
     ·omega
     ·omega
    ·intro hkn
     rw [if_neg (by omega),Nat.add_mul,Nat.add_assoc]
    ·simp; omega
    ·rw [HK.out.1,HK.out.2.2.2.2,List.append_assoc]; rfl
    ·rw [List.map_append]
     have : [ks].map C4 = [kk]:=by rw [HKK.out.1]; rfl
     rw [this]
     exact H7.out.1
    ·rw [List.map_append]
     have : [ks].map Ay = [oo]:=by rw [HKK.out.2]; rfl
     rw [this,L1]
     exact H7.out.2.1
   case measure=>simp [Jq]; omega
  ·obtain rfl : q=m:=by omega
   rw [show l.drop q = [] from List.drop_eq_nil_of_le (by rw [← HM.out]; exact Nat.le_refl _),leafG_nil,List.append_nil] at hgs
   have HK:=Ac (And.intro hgs (And.intro hrow (And.intro hBd hMr)))
   obtain ⟨ua,um,uc,rfl⟩:=Av hrow
   clear hgs hrow hBd hMr hak
   have hkk : ((q - q : Nat) : Int)=0:=by omega
   go_wp2
   go_ret
   rw [HK.out.1]
   exact ⟨_,rfl,HK.out.2.1,HK.out.2.2.1,HK.out.2.2.2⟩
end Go.Proofs.YtckejblkppllaaaGreatDoor
namespace Go.Proofs.YtckejblkppllaaaGreatDoor
open Go.RowKit
theorem link_key {k : Ah} (h : A6 k=true) : k.1.length≤64:=by
 have:=((Ee k).1 h).1
 unfold As at this
 simp at this
 omega
set_option maxRecDepth 40000 in
set_option maxHeartbeats 1600000 in
theorem Pf (B : Nat) (w : World) (g : Nat) (os : List Ag) (l : List Ah) (v : Value) (h : BdW B w g os) (hv : ∀ W,Mv B bts none w W→Ls W.heap.size W 3 Au v l) (j : Nat) (lv : Int) (hlv : lv=((j+1 : Nat) : Int)) (raw : List Ag) (hj : j<13) (hok : LevOk j l raw) (hll : l.length≤8192) (hT : Bh w) (h0 : 1<B) (hne : l ≠ []) (hn : os.length≤1000000) :
  Calls Tryz.prog 110 #[.pointer (some ⟨g,0,none⟩), .int .i64 lv,v] w fun e w'=>∃ u,e = .returned u∧Rw w.heap.size w' 125 3 Au u ((brG (j+1) l).map (brK lv))∧BdW B w' g (Bo os ((brG (j+1) l).map (brO lv)))∧Mv B bts none w w':=by
 have hB : B≤w.heap.size:=by
  obtain ⟨hg,vo,mb,hh,-⟩:=h
  have:=Ad hh
  omega
 have HLV:=Ac hlv
 clear hlv
 obtain ⟨ao,cap,hvv,hcap,hcap2,hne2⟩:=hv w (Mv.refl _ _ _ _)
 subst hvv
 obtain ⟨b,off,rfl,-,-⟩:=hne2 hne
 unfold maxLen at hcap2
 have hpos : 1≤l.length:=by cases l with | nil=>exact absurd rfl hne | cons _ _=>simp
 have HI:=Ac (And.intro hv (And.intro hok (And.intro hT h)))
 obtain ⟨m,hm⟩ : ∃ m,m=l.length:=⟨_,rfl⟩
 rw [← hm] at hcap hpos hll
 rw [← hm]
 have HM:=Ac hm
 clear hm hok hT h hv hne2
 go_enter Tryz.func110,Tryz.ntmps110
 go_wp2_with fail
 go_loopw [2,7] (fun t u wr=>∃ (q : Nat) (done : List (List Ah)) (ak : Option Addr),q≤m∧t = .slice ak (m - q) (cap - q)∧(q<m→ak=some ⟨b,off+q * 3,none⟩)∧done.length≤q∧brG (j+1) l=done++brG (j+1) (l.drop q)∧Rw w.heap.size wr 125 3 Au u (done.map (brK lv))∧BdW B wr g (Bo os (done.map (brO lv)))∧Mv B bts none w wr)
  (fun t _ _=>Jq t)
 case atStart=>exact ⟨0,[],some ⟨b,off,none⟩,by omega,by simp,fun _=>by simp,by simp,by simp,World.ownsRow_nil _ _ _ _,HI.out.2.2.2,Mv.refl _ _ _ _⟩
 case round=>
  obtain ⟨q,done,ak,hk,rfl,hak,hdl,hgs,hrow,hBd,hMr⟩:=hrel
  by_cases hlt : q<m
  ·obtain rfl:=hak hlt
   clear hak
   have hlen : (l.drop q).length=m - q:=by rw [List.length_drop,← HM.out]
   have hdr : l.drop q ≠ []:=fun e=>by rw [e] at hlen; simp at hlen; omega
   have hlr : Ls wr.heap.size wr 3 Au (.slice (some ⟨b,off+q * 3,none⟩) (m - q) (cap - q)) (l.drop q):=by
    have:=(HI.out.1 wr hMr).part (a:=q) (z:=m) hk (by rw [← HM.out]; exact Nat.le_refl _)
    rwa [List.take_of_length_le (by rw [← HM.out]; exact Nat.le_refl _)] at this
   obtain ⟨n,hn0⟩ : ∃ n,n=brN (j+1) (l.drop q):=⟨_,rfl⟩
   have hn1 : 1≤n:=by rw [hn0]; exact brN_pos hdr
   have hn2 : n≤m - q:=by rw [hn0,← hlen]; exact brN_le (j+1) _
   obtain ⟨ks,hks⟩ : ∃ ks,ks=(l.drop q).take n:=⟨_,rfl⟩
   have hkl : ks.length=n:=by rw [hks,List.length_take,hlen]; omega
   have hgd : brG (j+1) (l.drop q)=ks :: brG (j+1) (l.drop (q+n)):=by rw [brG_step hdr,← hn0,← hks,List.drop_drop]
   have hgr:=HI.out.2.1.group (g:=ks) (level:=j+1) (by rw [hgs,hgd]; simp)
   have hks64 : ks.length≤64:=hgr.2.1
   have hsur : ∀ W,Mv B bts none w W→Ls W.heap.size W 3 Au (.slice (some ⟨b,off+q * 3,none⟩) n (cap - q)) ks:=fun W hW=>by
    have h3:=(HI.out.1 W hW).part (a:=q) (z:=q+n) (by omega) (by rw [← HM.out]; omega)
    rwa [show q+n - q=n from by omega,show (l.take (q+n)).drop q=ks from by rw [hks,List.drop_take,show q+n - q=n from by omega]] at h3
   have hBr : B≤wr.heap.size:=by have:=hMr.size; omega
   have hTr:=HI.out.2.2.1.keep hMr.b h0
   have hgz:=sizeL_any wr (j+1) _ (l.drop q) hlr hTr (by omega) (fun p hp=>by have:=link_key (HI.out.2.1.each p (List.mem_of_mem_drop hp)); omega) hdr
   change Calls _ _ _ _ (fun e w'=>e = .returned (.int .i64 ((brN (j+1) (l.drop q) : Nat) : Int))∧Below wr.heap.size wr w') at hgz
   rw [← hn0] at hgz
   rw [← HLV.out] at hgz
   have hkk : brK lv ks=(Cy (lv,[],ks),(De (lv,[],ks)).1,Bt (lv,[],ks)):=by
    unfold brK Cy De Bt
    rw [if_neg (show ¬ (lv,([] : List Ag),ks).2.2.length=0 by simp only; omega),if_neg (show ¬ (lv,([] : List Ag),ks).1=0 by have:=HLV.out; simp only; omega)]
    simp
   have hoo : brO lv ks=De (lv,[],ks):=by
    unfold De
    rw [if_neg (show ¬ (lv,([] : List Ag),ks).1=0 by have:=HLV.out; simp only; omega)]
   obtain ⟨kk,hkk0⟩ : ∃ kk,kk=(brK lv) ks:=⟨_,rfl⟩
   obtain ⟨oo,hoo0⟩ : ∃ oo,oo=(brO lv) ks:=⟨_,rfl⟩
   rw [← hkk0] at hkk
   rw [← hoo0] at hoo
   have HK:=Ac (And.intro hgs (And.intro hrow (And.intro hBd (And.intro hMr hgd))))
   have HKK:=Ac (And.intro hkk0 hoo0)
   have HG:=Ac (And.intro hgr hsur)
   have HKO:=Ac (And.intro hkk hoo)
   have HTR:=Ac hTr
   clear hgs hrow hBd hMr hgd hlr hlen hdr hn0 hks hkk0 hoo0 hgr hsur hkk hoo hTr
   go_wp2_with fail
   refine hgz.mono ?_
   rintro e w1 ⟨rfl,hb1⟩
   clear hgz
   have hM1:=HK.out.2.2.2.1.more hb1 hBr
   have hBd1:=HK.out.2.2.1.keep hb1
   have hgr:=HG.out.1
   have hsur:=HG.out.2
   have hB1 : B≤w1.heap.size:=Nat.le_trans hBr hb1.size
   have hlay:=Lv B w1 g _ (lv,[],ks) (.slice (some ⟨b,off+q * 3,none⟩) n (cap - q)) (.slice none 0 0) hBd1 (by have:=Gj (done.map (brO lv)) os; rw [List.length_map] at this; omega) (fun W hW=>hsur W (hM1.trans hW (Nx.refl _ _))) (fun W _=>Ls.nil _ _ _ _) (HTR.out.keep hb1 HTR.out.1) h0 (fun h=>by have:=HLV.out; simp only at h; omega) (fun _=>branchOk_of (by have:=HLV.out; omega) (by have:=HLV.out; omega) hgr.1 hgr.2.1 hgr.2.2.1 hgr.2.2.2.1 hgr.2.2.2.2.1) hgr.2.2.1 hgr.2.2.2.2.1 (by simp)
   rw [← HKO.out.2] at hlay
   have hl1 : Cy (lv,[],ks)=kk.1:=by rw [HKO.out.1]
   have hl2 : oo.1=kk.2.1:=by rw [HKO.out.1,HKO.out.2]
   have hl3 : Bt (lv,[],ks)=kk.2.2:=by rw [HKO.out.1]
   rw [hl1,hl2,hl3] at hlay
   have hrow1:=A0 HK.out.2.1 hb1
   have HM1:=Ac (And.intro hM1 hrow1)
   clear hl1 hl2 hl3 hgr hsur hBd1 hM1 hrow1 hb1
   have hnc : (n : Int)≤((cap - q : Nat) : Int):=by omega
   go_wp2_with fail
   refine hlay.mono ?_
   rintro e w2 ⟨rfl,hBd2,hM2⟩
   clear hlay
   have hrow2:=hM2.own0 HM1.out.2 (by decide)
   have hMw:=HM1.out.1.trans hM2 (Nx.refl _ _)
   have hB2 : w.heap.size≤w2.heap.size:=hMw.size
   obtain ⟨vn,w3,hrun,hrow3,hgr3,-⟩:=app_link w2 w.heap.size _ _ kk hrow2 hB2 (by rw [List.length_map]; omega)
   have hrowA:=World.ownsRow.alloc hrow2 (.cells #[.string (Ab kk.1), .string (Ab kk.2.1), .int .i64 kk.2.2] 125)
   have hBd3 : BdW B w3 g (C7 (Bo os (done.map (brO lv))) oo):=by
    obtain ⟨hg,vo,mb,g1,g2,g3,g4⟩:=hBd2
    have hb : Below w2.heap.size w2 (w2.alloc (.cells #[.string (Ab kk.1), .string (Ab kk.2.1), .int .i64 kk.2.2] 125)):=(Below.refl _ _).alloc (Nat.le_refl _) _
    have g1':=(hb.block _ (Ad g1)).trans g1
    have g2' : Rw B (w2.alloc (.cells #[.string (Ab kk.1), .string (Ab kk.2.1), .int .i64 kk.2.2] 125)) 38 2 Ak vo _:=World.ownsRow.alloc g2 _
    have g3':=g3.same (hb.block _ g3.lt)
    refine ⟨hg,vo,mb,Ej hrowA hgr3 g1' (by decide),G4 g2' hrowA hgr3 (F0 g2' hrowA (by decide)),g3'.same (hgr3.block mb g3'.lt (fun hq=>?_)),g4⟩
    obtain ⟨c',fz,h1⟩:=Lib.ownsRow_kind hrowA mb hq.symm
    exact absurd rfl (g3'.ne h1)
   have hM3 : Mv B bts none w w3:=by
    refine ⟨(hMw.b.alloc (by omega) _).trans ((Below.refl _ _).grown hgr3 (by simp; omega) (fun q hq=>by have:=(hrowA.lt q hq).1; omega)),fun k cs t fr' hk ht hr=>?_⟩
    have hk5:=hMw.k k cs t fr' hk ht hr
    have hkA:=(heap_past w2 (.cells #[.string (Ab kk.1), .string (Ab kk.2.1), .int .i64 kk.2.2] 125) k (Ad hk5)).trans hk5
    refine (hgr3.block k (Ad hkA) (fun hq=>?_)).trans hkA
    have h1:=(hrowA.lt k hq.symm).1
    have h2:=Ad hk
    omega
   have HRUN:=Ac hrun
   have H7:=Ac (And.intro hrow3 (And.intro hBd3 hM3))
   obtain ⟨vnA,vnm,vnc,rfl⟩:=Av hrow3
   clear hBd2 hM2 hrow2 hMw hrun hrow3 hgr3 hrowA hBd3 hM3
   go_wp2_with (at_builtin; refine wpList_plain rfl (fun K hK=>Cz (.tmp 15) (.tmp 24) 127 rfl rfl rfl HRUN.out (hK _ _ ?_)))
   have hnm : (n : Int)≤((m - q : Nat) : Int):=by omega
   go_wp2
   go_roundw
   case rel=>
    refine ⟨q+n,done ++ [ks],if cap - q=n then some ⟨b,off+q * 3,none⟩ else some ⟨b,off+q * 3+n * 3,none⟩,by omega,?_,?_,?_,?_,?_,?_,H7.out.2.2⟩
    ·congr 1
     ·omega
     ·omega
    ·intro hkn
     rw [if_neg (by omega),Nat.add_mul,Nat.add_assoc]
    ·simp; omega
    ·rw [HK.out.1,HK.out.2.2.2.2,List.append_assoc]; rfl
    ·rw [List.map_append]
     have : [ks].map (brK lv) = [kk]:=by rw [HKK.out.1]; rfl
     rw [this]
     exact H7.out.1
    ·rw [List.map_append]
     have : [ks].map (brO lv) = [oo]:=by rw [HKK.out.2]; rfl
     rw [this,L1]
     exact H7.out.2.1
   case measure=>simp [Jq]; omega
  ·obtain rfl : q=m:=by omega
   rw [show l.drop q = [] from List.drop_eq_nil_of_le (by rw [← HM.out]; exact Nat.le_refl _),brG_nil,List.append_nil] at hgs
   have HK:=Ac (And.intro hgs (And.intro hrow (And.intro hBd hMr)))
   obtain ⟨ua,um,uc,rfl⟩:=Av hrow
   clear hgs hrow hBd hMr hak
   have hkk : ((q - q : Nat) : Int)=0:=by omega
   go_wp2
   go_ret
   rw [HK.out.1]
   exact ⟨_,rfl,HK.out.2.1,HK.out.2.2.1,HK.out.2.2.2⟩
end Go.Proofs.YtckejblkppllaaaGreatDoor
namespace Go.Proofs.YtckejblkppllaaaGreatDoor
open Go.RowKit
end Go.Proofs.YtckejblkppllaaaGreatDoor
namespace Go.Proofs.YtckejblkppllaaaGreatDoor
open Go.RowKit
theorem buildM_many {l : List Ag} (h : 4096<l.length) : Cl l=([],[],121):=if_pos h
theorem buildM_form {l : List Ag} (h : ¬ 4096<l.length) (h2 : Ce l=false) : Cl l=([],[],120):=by unfold Cl; rw [if_neg h,if_pos h2]
theorem Mu : Cl []=((Ay []).1,[Ay []],0):=by unfold Cl; rw [if_neg (by simp),if_neg (by decide),if_pos (show ([] : List Ag).length=0 from rfl)]
theorem buildM_some {l : List Ag} (h : ¬ 4096<l.length) (h2 : Ce l=true) (h3 : l.length≠0) : Cl l=((mapR l).1.2.1,Bo [] (mapR l).2,0):=by unfold Cl; rw [if_neg h,if_neg (by rw [h2]; simp),if_neg h3]
end Go.Proofs.YtckejblkppllaaaGreatDoor
